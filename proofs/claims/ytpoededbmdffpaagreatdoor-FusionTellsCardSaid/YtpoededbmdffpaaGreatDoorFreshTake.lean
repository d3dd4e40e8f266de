/-
  What Take, Last, Counts and New of package fresh do: their contracts by walking the Go text. Conditions: where the track and the bytes lie; that counts are far from an int's end.
-/
import Derived.Test.YtpoededbmdffpaaGreatDoorFreshJudge
import Derived.RegionTactic
namespace Go.Proofs.YtpoededbmdffpaaGreatDoor
set_option maxRecDepth 100000
open Go.ChangeShapes Go.WideShapes Go.ChangeAt Go.RowKit Go.Deep
namespace Fh
open Wd Fm
open Cr (Bytes)
theorem jf_len {c last : Int} {has is : Bool} {l : List Int} (hy : Bytes l) : (jf c last has is l).length = 9 := by
  unfold jf
  split
  · exact dec_len hy
  · rfl
/-- What Take hands back, and what lies in the track's block then. -/
def TakeR (w : World) (g : Nat) (t : TypeId) (c last : Int) (has : Bool) (n : List Int) (is : Bool) (l : List Int) (e : Ending) (w' : World) : Prop :=
  e = .returned (.tuple #[.agg (cellsI .i64 (jf c last has is l)).toArray, .int .i64 (jr c last has is l)]) ∧ VRow w' g t (trk c (jl c last is l) (jh c has is l) (one n (jr c last has is l).toNat)) ∧ Only g w w'
theorem trk_set {c last : Int} {has : Bool} {n : List Int} (k : Nat) (x : Int) : (trk c last has n).set (3 + k) (.int .i64 x) = trk c last has (n.set k x) := by
  unfold trk; rw [cellsI_set, Nat.add_comm 3 k]; rfl
theorem trk_at {c last : Int} {has : Bool} {n : List Int} (k : Nat) (h : k < n.length) : (trk c last has n)[3 + k]? = some (.int .i64 (n.getD k 0)) := by
  unfold trk; rw [Nat.add_comm 3 k]; exact cellsI_get .i64 n k h
/-- What lies about behind judge: as behind Decode, but that the track's block was written. -/
structure Told (w W : World) (g6 g : Nat) (cs : List Value) (t : TypeId) (f : List Int) : Prop where
  only : Only g w W
  out : IRow .i64 W (w.heap.size + 1) 123 (List.replicate 9 0)
  trk : VRow W g t cs
  box : IRow .i64 W g6 123 f
  le : w.heap.size + 2 ≤ g6
  lt : g < w.heap.size
theorem takes {w W w1 : World} {g : Nat} {cs cs' : List Value} {t : TypeId} {is : Bool} {a : Option Addr} {cap : Nat} {l : List Int} (B : Begun w W g cs t is a cap l) (h : Only g W w1) (T : VRow w1 g t cs') (hg : g < w.heap.size) (s v0 v1 v2 v3 v4 v5 v6 v7 : Int) :
    Told w (w1.alloc (.cells #[.int .i64 s, .int .i64 v0, .int .i64 v1, .int .i64 v2, .int .i64 v3, .int .i64 v4, .int .i64 v5, .int .i64 v6, .int .i64 v7] 123)) w1.heap.size g cs' t [s, v0, v1, v2, v3, v4, v5, v6, v7] := by
  have hs := B.size
  have hz := h.size
  exact ⟨((But.of_below B.below).trans h).alloc _, (B.out.only h (by omega)).alloc _, T.alloc _, box_row s v0 v1 v2 v3 v4 v5 v6 v7 w1, by omega, hg⟩
theorem told_counted {w W : World} {g6 g : Nat} {c last : Int} {has : Bool} {n : List Int} {t : TypeId} {f : List Int} (L : Told w W g6 g (trk c last has n) t f) (k : Nat) (x : Int) :
    VRow (W.setCell ⟨g, 3 + k, none⟩ (.int .i64 x)) g t (trk c last has (n.set k x)) ∧ IRow .i64 (W.setCell ⟨g, 3 + k, none⟩ (.int .i64 x)) (w.heap.size + 1) 123 (List.replicate 9 0) ∧ Only g w (W.setCell ⟨g, 3 + k, none⟩ (.int .i64 x)) := by
  have hl := L.lt
  have ne : w.heap.size + 1 ≠ g := by omega
  refine ⟨by rw [← trk_set]; exact L.trk.set (3 + k) _, L.out.vrow.setOther (p := ⟨g, 3 + k, none⟩) ne _, ?_⟩
  exact (show But _ _ _ from L.only).setCell (p := ⟨g, 3 + k, none⟩) (Or.inl rfl) _
section
variable (g : Nat) (c last : Int) (has : Bool) (n : List Int) (is : Bool) (a : Option Addr) (cap : Nat) (l : List Int) (w : World)
set_option maxHeartbeats 1600000 in
theorem take_any (hT : VRow w g 170 (trk c last has n)) (hn : n.length = 7) (hc : ∀ k, 0 ≤ n.getD k 0 ∧ n.getD k 0 < 4611686018427387904) (hm : l.length ≤ cap) (hy : Bytes l) (hb : IntsAt .u8 w a l) :
    Calls Tryz.prog 80 #[.pointer (some ⟨g, 0, none⟩), .agg #[.bool is, .slice a l.length cap]] w (TakeR w g 170 c last has n is l) := by
  have B0 := Lib.hid (begun w g _ _ is a cap l hT hb)
  have hg := hT.lt
  obtain ⟨s, v0, v1, v2, v3, v4, v5, v6, v7, hd⟩ := nine (jf c last has is l) (jf_len hy)
  have hr := jr_range c last has is l
  obtain ⟨k, hk⟩ : ∃ k : Nat, jr c last has is l = k := ⟨(jr c last has is l).toNat, by omega⟩
  have hk7 : k < 7 := by omega
  have CJ := fun W hT hb => (judge_any g c last has n is a cap l W hT hm hy hb).mono fun e w' q => (show e = .returned (.tuple #[.agg #[.int .i64 s, .int .i64 v0, .int .i64 v1, .int .i64 v2, .int .i64 v3, .int .i64 v4, .int .i64 v5, .int .i64 v6, .int .i64 v7], .int .i64 k]) ∧ VRow w' g 170 (trk c (jl c last is l) (jh c has is l) n) ∧ Only g W w' from ⟨by rw [q.1, hd, hk]; rfl, q.2⟩)
  have HF := Lib.hid hd
  have HK := Lib.hid hk
  have hck := hc k
  have ht1 : n.getD k 0 + 1 ≤ 9223372036854775807 := by omega
  clear hT hb hm hy hd hk hr hc
  generalize hcv : n.getD k 0 = cv at *
  have HCV := Lib.hid hcv
  clear hcv
  go_enter Tryz.func80, Tryz.ntmps80
  go_wp2_with fail
  generalize (w.alloc (.cells #[.bool is, .slice a l.length cap] 45)).alloc (.cells #[.int .i64 0, .int .i64 0, .int .i64 0, .int .i64 0, .int .i64 0, .int .i64 0, .int .i64 0, .int .i64 0, .int .i64 0] 123) = W at *
  have s0 := B0.out.s0
  have s1 := B0.out.s1
  go_wp2_with fail
  refine (CJ _ B0.out.trk B0.out.bytes).mono ?_; rintro e w1 ⟨rfl, t1, b1⟩
  have L0 := Lib.hid (takes B0.out b1 t1 hg s v0 v1 v2 v3 v4 v5 v6 v7)
  clear s0 s1 b1 t1 CJ B0
  go_wp2_with fail
  generalize w1.alloc (.cells #[.int .i64 s, .int .i64 v0, .int .i64 v1, .int .i64 v2, .int .i64 v3, .int .i64 v4, .int .i64 v5, .int .i64 v6, .int .i64 v7] 123) = W2 at *
  have cc := (L0.out.trk.cell (3 + k) (trk_at k (by omega)))
  rw [HCV.out] at cc
  have ff := L0.out.trk.frozen (3 + k)
  go_region
  clear cc ff
  generalize w1.heap.size = g6 at *
  obtain ⟨z0, z1, z2, z3, z4, z5, z6, z7, z8⟩ := row9 (show IRow .i64 W2 (w.heap.size + 1) 123 [0, 0, 0, 0, 0, 0, 0, 0, 0] from L0.out.out)
  obtain ⟨q0, q1, q2, q3, q4, q5, q6, q7, q8⟩ := row9_frozen L0.out.out
  obtain ⟨y0, y1, y2, y3, y4, y5, y6, y7, y8⟩ := row9 L0.out.box
  have t2 := L0.out.le
  have n1 : g ≠ g6 := by omega
  have n2 : g6 ≠ g := by omega
  have n3 : g ≠ w.heap.size + 1 := by omega
  have n4 : w.heap.size + 1 ≠ g := by omega
  have n5 : g6 ≠ w.heap.size + 1 := by omega
  have n6 : w.heap.size + 1 ≠ g6 := by omega
  clear t2
  go_wp2
  obtain ⟨e1, e2, e3⟩ := told_counted L0.out k (cv + 1)
  obtain ⟨e4, e5, e6⟩ := lying_end e1 e2 e3 n3 (Nat.le_succ _) s v0 v1 v2 v3 v4 v5 v6 v7
  refine bodyPost_ret (v := .tuple #[.agg #[.int .i64 s, .int .i64 v0, .int .i64 v1, .int .i64 v2, .int .i64 v3, .int .i64 v4, .int .i64 v5, .int .i64 v6, .int .i64 v7], .int .i64 k]) ?_ rfl ⟨by rw [HF.out, HK.out]; rfl, ?_, But.drew e6⟩
  · exact (Agg.ret_row2 (l := [s, v0, v1, v2, v3, v4, v5, v6, v7]) rfl rfl (agg9 _) size9 e4.drew).trans rfl
  · rw [HK.out]; unfold one; rw [Int.toNat_natCast, HCV.out]; exact e5.drew
end
end Fh
end Go.Proofs.YtpoededbmdffpaaGreatDoor
