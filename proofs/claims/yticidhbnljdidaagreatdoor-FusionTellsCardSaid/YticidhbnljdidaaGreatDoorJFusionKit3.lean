/-
 Rows of bools that are filled one by one; the signals' pointers as an array by value. No function of the program is walked here. No conditions.
 What Take, Last, Counts and New of package fresh do: their contracts by walking the Go text. Conditions: where the track and the bytes lie; that counts are far from an int's end.
 What take of package fusion returns, and does: a contract by walking the Go text. Conditions: how a fusion, and the slots' bytes, lie.
-/
import Derived.Test.YticidhbnljdidaaGreatDoorFusionLie
import Derived.Test.YticidhbnljdidaaGreatDoorJFixMaskRef3
import Derived.Great.Walk
import Derived.Test.YticidhbnljdidaaGreatDoorJFrameDec14
import Derived.RegionTactic
import Derived.Test.YticidhbnljdidaaGreatDoorJSignalBound10
import Derived.Deep.LoopGhost
namespace Go.Proofs.YticidhbnljdidaaGreatDoor
set_option maxRecDepth 100000
open Go.ChangeShapes Go.WideShapes Go.ChangeAt Go.RowKit Go.Deep
namespace Fu
open Cf (G)
open Sg (NN Si Face)
theorem onB {w w' : World} {g : Nat} {t : TypeId} {cs : List Value} (h : VRow w g t cs) (b : Below w.heap.size w w') : VRow w' g t cs := h.below b h.lt
theorem bools_row {w : World} {g : Nat} {t : TypeId} {l : List Bool} (h : VRow w g t (l.map Value.bool)) : BoolsAt w (some ⟨g,0,none⟩) l :=
 Or.inr ⟨g,0,rfl,fun i hi => by
  have := h.cell i (v := .bool (l.getD i false)) (by simp [List.getD_eq_getElem?_getD,hi])
  rw [Nat.zero_add]; exact this⟩
def fillB (f : Nat → Bool) (n k : Nat) : List Bool := (List.range n).map fun j => decide (j < k) && f j
theorem fillB_len (f : Nat → Bool) (n k : Nat) : (fillB f n k).length = n := by unfold fillB; simp
theorem fillB_all (f : Nat → Bool) (n : Nat) : fillB f n n = (List.range n).map f := by
 unfold fillB
 refine List.map_congr_left fun j hj => ?_
 rw [decide_eq_true (List.mem_range.1 hj)]; rfl
theorem fillB_next (f : Nat → Bool) (n k : Nat) : (fillB f n k).set k (f k) = fillB f n (k + 1) := by
 unfold fillB
 refine List.ext_getElem (by simp) fun i h1 h2 => ?_
 rw [List.getElem_set]
 simp only [List.getElem_map,List.getElem_range]
 split
 · rename_i e
   subst e
   rw [decide_eq_true (Nat.lt_succ_self k)]; rfl
 · rename_i e
   have : decide (i < k) = decide (i < k + 1) := decide_eq_decide.2 (by omega)
   rw [this]
section
variable {W W' : World} {g : Nat} {t : TypeId} {f : Nat → Bool} {n k : Nat}
theorem row_next (h : VRow W g t ((fillB f n k).map Value.bool)) : VRow (W.setCell ⟨g,k,none⟩ (.bool (f k))) g t ((fillB f n (k + 1)).map Value.bool) := by
 have := h.set k (.bool (f k))
 rw [← List.map_set,fillB_next f n k] at this
 exact this
theorem row_cell (h : VRow W g t ((fillB f n k).map Value.bool)) (hk : k < n) : ∃ b,W.cell? ⟨g,k,none⟩ = some (.bool b) :=
 ⟨(fillB f n k).getD k false,h.cell k (by rw [List.getElem?_map,List.getElem?_eq_getElem (by rw [fillB_len]; exact hk),List.getD_eq_getElem?_getD,List.getElem?_eq_getElem (by rw [fillB_len]; exact hk)]; rfl)⟩
end
theorem wpList_lay {P : Program} {ops : Array Oper} {rest : List Oper} {o : Oper} {a : Act} {w : World} {Q : Exit → Act → World → Prop} (hg : o.guard = none) (t : TypeId) (ho : o.op = .alloc t) (cs : List Value)
 (hr : ∀ W : World,(execOp a.eval { o with op := .alloc t }).run P W = .ok (.value (.pointer (some ⟨W.heap.size,0,none⟩))) (W.alloc (.cells cs.toArray t)))
 (h : wpList P ops Q rest (a.put o.dst (.pointer (some ⟨w.heap.size,0,none⟩))) (w.alloc (.cells cs.toArray t))) : wpList P ops Q (o :: rest) a w := by
 refine Go.Great.wpList_allocTo hg o.dst rfl _ _ ?_ h
 have := hr w
 rw [← ho] at this
 exact this
def gs (P : Pl) : List Value := [ptr (P.g 0),ptr (P.g 1),ptr (P.g 2),ptr (P.g 3),ptr (P.g 4),ptr (P.g 5),ptr (P.g 6),ptr (P.g 7)]
theorem eight {j : Nat} (h : j < 8) : j = 0 ∨ j = 1 ∨ j = 2 ∨ j = 3 ∨ j = 4 ∨ j = 5 ∨ j = 6 ∨ j = 7 := by omega
theorem gs_get (P : Pl) {j : Nat} (h : j < 8) : (gs P)[j]? = some (ptr (P.g j)) := by
 rcases eight h with rfl | rfl | rfl | rfl | rfl | rfl | rfl | rfl <;> rfl
theorem fcs_g (P : Pl) (c : List Int) (k : Nat) {j : Nat} (h : j < 8) : (fcs P c k)[2 + j]? = some (ptr (P.g j)) := by
 rcases eight h with rfl | rfl | rfl | rfl | rfl | rfl | rfl | rfl <;> rfl
theorem range_g {F : Face} {W : World} {P : Pl} {c : List Int} {m : Fs} (L : Lie F W P c m) : W.rangeAt P.f 2 (gs P) := fun j v hv => by
 have hj : j < 8 := (List.getElem?_eq_some_iff.1 hv).1
 rw [gs_get P hj] at hv
 cases hv
 exact L.fus.cell (2 + j) (fcs_g P c m.k hj)
theorem sizeG (P : Pl) : (Tryz.prog.info? 91).map (·.size) = some (gs P).length := by
 rw [show (gs P).length = 8 from rfl]; kernel_rfl
theorem sizeP (w : World) : (sizeOf 90).run Tryz.prog w = .ok 1 w := by kernel_rfl
theorem index_g (P : Pl) {j : Nat} (h : j < 8) (w : World) : (Instr.index 91 (.agg (gs P).toArray) (.int .i64 (j : Int))).run Tryz.prog w = .ok (ptr (P.g j)) w := by
 refine Ot.run_index Tryz.underlying91 _ j h 1 _ (sizeP w) ?_
 have := gs_get P h
 simp [part,isAgg,run_underlying Tryz.underlying90,this]
end Fu
namespace Fh
open Wd Fm
open Cr (Bytes)
theorem jf_len {c last : Int} {has is : Bool} {l : List Int} (hy : Bytes l) : (jf c last has is l).length = 9 := by
 unfold jf
 split
 · exact dec_len hy
 · rfl
def TakeR (w : World) (g : Nat) (t : TypeId) (c last : Int) (has : Bool) (n : List Int) (is : Bool) (l : List Int) (e : Ending) (w' : World) : Prop :=
 e = .returned (.tuple #[.agg (cellsI .i64 (jf c last has is l)).toArray,.int .i64 (jr c last has is l)]) ∧ VRow w' g t (trk c (jl c last is l) (jh c has is l) (one n (jr c last has is l).toNat)) ∧ Only g w w'
theorem trk_set {c last : Int} {has : Bool} {n : List Int} (k : Nat) (x : Int) : (trk c last has n).set (3 + k) (.int .i64 x) = trk c last has (n.set k x) := by
 unfold trk; rw [cellsI_set,Nat.add_comm 3 k]; rfl
theorem trk_at {c last : Int} {has : Bool} {n : List Int} (k : Nat) (h : k < n.length) : (trk c last has n)[3 + k]? = some (.int .i64 (n.getD k 0)) := by
 unfold trk; rw [Nat.add_comm 3 k]; exact cellsI_get .i64 n k h
structure Told (w W : World) (g6 g : Nat) (cs : List Value) (t : TypeId) (f : List Int) : Prop where
 only : Only g w W
 out : IRow .i64 W (w.heap.size + 1) 123 (List.replicate 9 0)
 trk : VRow W g t cs
 box : IRow .i64 W g6 123 f
 le : w.heap.size + 2 ≤ g6
 lt : g < w.heap.size
theorem takes {w W w1 : World} {g : Nat} {cs cs' : List Value} {t : TypeId} {is : Bool} {a : Option Addr} {cap : Nat} {l : List Int} (B : Begun w W g cs t is a cap l) (h : Only g W w1) (T : VRow w1 g t cs') (hg : g < w.heap.size) (s v0 v1 v2 v3 v4 v5 v6 v7 : Int) :
 Told w (w1.alloc (.cells #[.int .i64 s,.int .i64 v0,.int .i64 v1,.int .i64 v2,.int .i64 v3,.int .i64 v4,.int .i64 v5,.int .i64 v6,.int .i64 v7] 123)) w1.heap.size g cs' t [s,v0,v1,v2,v3,v4,v5,v6,v7] := by
 have hs := B.size
 have hz := h.size
 exact ⟨((But.of_below B.below).trans h).alloc _,(B.out.only h (by omega)).alloc _,T.alloc _,box_row s v0 v1 v2 v3 v4 v5 v6 v7 w1,by omega,hg⟩
theorem told_counted {w W : World} {g6 g : Nat} {c last : Int} {has : Bool} {n : List Int} {t : TypeId} {f : List Int} (L : Told w W g6 g (trk c last has n) t f) (k : Nat) (x : Int) :
 VRow (W.setCell ⟨g,3 + k,none⟩ (.int .i64 x)) g t (trk c last has (n.set k x)) ∧ IRow .i64 (W.setCell ⟨g,3 + k,none⟩ (.int .i64 x)) (w.heap.size + 1) 123 (List.replicate 9 0) ∧ Only g w (W.setCell ⟨g,3 + k,none⟩ (.int .i64 x)) := by
 have hl := L.lt
 have ne : w.heap.size + 1 ≠ g := by omega
 refine ⟨by rw [← trk_set]; exact L.trk.set (3 + k) _,L.out.vrow.setOther (p := ⟨g,3 + k,none⟩) ne _,?_⟩
 exact (show But _ _ _ from L.only).setCell (p := ⟨g,3 + k,none⟩) (Or.inl rfl) _
section
variable (g : Nat) (c last : Int) (has : Bool) (n : List Int) (is : Bool) (a : Option Addr) (cap : Nat) (l : List Int) (w : World)
set_option maxHeartbeats 1600000 in
theorem take_any (hT : VRow w g 170 (trk c last has n)) (hn : n.length = 7) (hc : ∀ k,0 ≤ n.getD k 0 ∧ n.getD k 0 < 4611686018427387904) (hm : l.length ≤ cap) (hy : Bytes l) (hb : IntsAt .u8 w a l) :
 Calls Tryz.prog 80 #[.pointer (some ⟨g,0,none⟩),.agg #[.bool is,.slice a l.length cap]] w (TakeR w g 170 c last has n is l) := by
 have B0 := Lib.hid (begun w g _ _ is a cap l hT hb)
 have hg := hT.lt
 obtain ⟨s,v0,v1,v2,v3,v4,v5,v6,v7,hd⟩ := nine (jf c last has is l) (jf_len hy)
 have hr := jr_range c last has is l
 obtain ⟨k,hk⟩ : ∃ k : Nat,jr c last has is l = k := ⟨(jr c last has is l).toNat,by omega⟩
 have hk7 : k < 7 := by omega
 have CJ := fun W hT hb => (judge_any g c last has n is a cap l W hT hm hy hb).mono fun e w' q => (show e = .returned (.tuple #[.agg #[.int .i64 s,.int .i64 v0,.int .i64 v1,.int .i64 v2,.int .i64 v3,.int .i64 v4,.int .i64 v5,.int .i64 v6,.int .i64 v7],.int .i64 k]) ∧ VRow w' g 170 (trk c (jl c last is l) (jh c has is l) n) ∧ Only g W w' from ⟨by rw [q.1,hd,hk]; rfl,q.2⟩)
 have HF := Lib.hid hd
 have HK := Lib.hid hk
 have hck := hc k
 have ht1 : n.getD k 0 + 1 ≤ 9223372036854775807 := by omega
 clear hT hb hm hy hd hk hr hc
 generalize hcv : n.getD k 0 = cv at *
 have HCV := Lib.hid hcv
 clear hcv
 go_enter Tryz.func80,Tryz.ntmps80
 go_wp2_with fail
 generalize (w.alloc (.cells #[.bool is,.slice a l.length cap] 45)).alloc (.cells #[.int .i64 0,.int .i64 0,.int .i64 0,.int .i64 0,.int .i64 0,.int .i64 0,.int .i64 0,.int .i64 0,.int .i64 0] 123) = W at *
 have s0 := B0.out.s0
 have s1 := B0.out.s1
 go_wp2_with fail
 refine (CJ _ B0.out.trk B0.out.bytes).mono ?_; rintro e w1 ⟨rfl,t1,b1⟩
 have L0 := Lib.hid (takes B0.out b1 t1 hg s v0 v1 v2 v3 v4 v5 v6 v7)
 clear s0 s1 b1 t1 CJ B0
 go_wp2_with fail
 generalize w1.alloc (.cells #[.int .i64 s,.int .i64 v0,.int .i64 v1,.int .i64 v2,.int .i64 v3,.int .i64 v4,.int .i64 v5,.int .i64 v6,.int .i64 v7] 123) = W2 at *
 have cc := (L0.out.trk.cell (3 + k) (trk_at k (by omega)))
 rw [HCV.out] at cc
 have ff := L0.out.trk.frozen (3 + k)
 go_region
 clear cc ff
 generalize w1.heap.size = g6 at *
 obtain ⟨z0,z1,z2,z3,z4,z5,z6,z7,z8⟩ := row9 (show IRow .i64 W2 (w.heap.size + 1) 123 [0,0,0,0,0,0,0,0,0] from L0.out.out)
 obtain ⟨q0,q1,q2,q3,q4,q5,q6,q7,q8⟩ := row9_frozen L0.out.out
 obtain ⟨y0,y1,y2,y3,y4,y5,y6,y7,y8⟩ := row9 L0.out.box
 have t2 := L0.out.le
 have n1 : g ≠ g6 := by omega
 have n2 : g6 ≠ g := by omega
 have n3 : g ≠ w.heap.size + 1 := by omega
 have n4 : w.heap.size + 1 ≠ g := by omega
 have n5 : g6 ≠ w.heap.size + 1 := by omega
 have n6 : w.heap.size + 1 ≠ g6 := by omega
 clear t2
 go_wp2
 obtain ⟨e1,e2,e3⟩ := told_counted L0.out k (cv + 1)
 obtain ⟨e4,e5,e6⟩ := lying_end e1 e2 e3 n3 (Nat.le_succ _) s v0 v1 v2 v3 v4 v5 v6 v7
 refine bodyPost_ret (v := .tuple #[.agg #[.int .i64 s,.int .i64 v0,.int .i64 v1,.int .i64 v2,.int .i64 v3,.int .i64 v4,.int .i64 v5,.int .i64 v6,.int .i64 v7],.int .i64 k]) ?_ rfl ⟨by rw [HF.out,HK.out]; rfl,?_,But.drew e6⟩
 · exact (Agg.ret_row2 (l := [s,v0,v1,v2,v3,v4,v5,v6,v7]) rfl rfl (agg9 _) size9 e4.drew).trans rfl
 · rw [HK.out]; unfold one; rw [Int.toNat_natCast,HCV.out]; exact e5.drew
end
end Fh
namespace Fu
open Cf (G)
open Sg (NN Si Face Rw rw0)
open Cr (Bytes)
def rwc (f : Nat → Nat → Rw) : List Value := Sg.raw8 (f 0) ++ (Sg.raw8 (f 1) ++ (Sg.raw8 (f 2) ++ (Sg.raw8 (f 3) ++ (Sg.raw8 (f 4) ++ (Sg.raw8 (f 5) ++ (Sg.raw8 (f 6) ++ (Sg.raw8 (f 7))))))))
def prt (f : Nat → Nat → Rw) (K j : Nat) : Nat → Nat → Rw := fun j' i => if i < K ∨ (i = K ∧ j' < j) then f j' i else rw0
theorem rwc_congr {f g : Nat → Nat → Rw} (h : ∀ j i,j < 8 → i < 4 → f j i = g j i) : rwc f = rwc g := by
 unfold rwc Sg.raw8
 simp only [h 0 0 (by decide) (by decide),h 0 1 (by decide) (by decide),h 0 2 (by decide) (by decide),h 0 3 (by decide) (by decide),h 1 0 (by decide) (by decide),h 1 1 (by decide) (by decide),h 1 2 (by decide) (by decide),h 1 3 (by decide) (by decide),h 2 0 (by decide) (by decide),h 2 1 (by decide) (by decide),h 2 2 (by decide) (by decide),h 2 3 (by decide) (by decide),h 3 0 (by decide) (by decide),h 3 1 (by decide) (by decide),h 3 2 (by decide) (by decide),h 3 3 (by decide) (by decide),h 4 0 (by decide) (by decide),h 4 1 (by decide) (by decide),h 4 2 (by decide) (by decide),h 4 3 (by decide) (by decide),h 5 0 (by decide) (by decide),h 5 1 (by decide) (by decide),h 5 2 (by decide) (by decide),h 5 3 (by decide) (by decide),h 6 0 (by decide) (by decide),h 6 1 (by decide) (by decide),h 6 2 (by decide) (by decide),h 6 3 (by decide) (by decide),h 7 0 (by decide) (by decide),h 7 1 (by decide) (by decide),h 7 2 (by decide) (by decide),h 7 3 (by decide) (by decide)]
theorem prt_zero (f : Nat → Nat → Rw) : rwc (prt f 0 0) = rwc fun _ _ => rw0 := rwc_congr fun j i _ _ => by
 unfold prt; rw [if_neg (by omega)]
theorem prt_skip {f : Nat → Nat → Rw} {K : Nat} (h : ∀ j,j < 8 → f j K = rw0) : rwc (prt f K 0) = rwc (prt f (K + 1) 0) := rwc_congr fun j i hj _ => by
 unfold prt
 by_cases e : i = K
 · subst e
   rw [if_neg (by omega),if_pos (by omega),h j hj]
 · by_cases q : i < K
   · rw [if_pos (by omega),if_pos (by omega)]
   · rw [if_neg (by omega),if_neg (by omega)]
theorem prt_full (f : Nat → Nat → Rw) (K : Nat) : rwc (prt f K 8) = rwc (prt f (K + 1) 0) := rwc_congr fun j i hj _ => by
 unfold prt
 by_cases q : i < K + 1
 · rw [if_pos (by omega),if_pos (by omega)]
 · rw [if_neg (by omega),if_neg (by omega)]
theorem prt_all {f : Nat → Nat → Rw} {n : Nat} (h : ∀ j i,n ≤ i → f j i = rw0) : rwc (prt f n 0) = rwc f := rwc_congr fun j i _ _ => by
 unfold prt
 by_cases q : i < n
 · rw [if_pos (by omega)]
 · rw [if_neg (by omega),h j i (by omega)]
def rw2 (r : Rw) : List Value := [.bool r.is,.int .i64 r.n]
theorem four {i : Nat} (h : i < 4) : i = 0 ∨ i = 1 ∨ i = 2 ∨ i = 3 := by omega
theorem prt_set (f : Nat → Nat → Rw) {K j : Nat} (hK : K < 4) (hj : j < 8) : splice (rwc (prt f K j)) (j * 8 + K * 2) (rw2 (f j K)) = rwc (prt f K (j + 1)) := by
 rcases four hK with rfl | rfl | rfl | rfl <;> rcases eight hj with rfl | rfl | rfl | rfl | rfl | rfl | rfl | rfl <;> rfl
theorem rwc_len (f : Nat → Nat → Rw) : (rwc f).length = 64 := rfl
theorem rwc_one (f : Nat → Nat → Rw) : (rwc f).toArray.all (·.oneCell') = true := by simp [rwc,Sg.raw8,Value.oneCell']
def cyv (y : Nat → Sl) (A : Nat → Option Addr) (C : Nat → Nat) : List Value :=
 [.bool (y 0).is,.slice (A 0) (y 0).l.length (C 0),.bool (y 1).is,.slice (A 1) (y 1).l.length (C 1),.bool (y 2).is,.slice (A 2) (y 2).l.length (C 2),.bool (y 3).is,.slice (A 3) (y 3).l.length (C 3)]
def sl2 (y : Sl) (a : Option Addr) (n : Nat) : List Value := [.bool y.is,.slice a y.l.length n]
theorem cyv_at (y : Nat → Sl) (A : Nat → Option Addr) (C : Nat → Nat) {i : Nat} (h : i < 4) (j : Nat) (v : Value) (hv : (sl2 (y i) (A i) (C i))[j]? = some v) : (cyv y A C)[i * 2 + j]? = some v := by
 have hj : j < 2 := (List.getElem?_eq_some_iff.1 hv).1
 have : j = 0 ∨ j = 1 := by omega
 rcases this with rfl | rfl <;> rcases four h with rfl | rfl | rfl | rfl <;> exact hv
structure YAt (W : World) (c : List Int) (y : Nat → Sl) (A : Nat → Option Addr) (C : Nat → Nat) : Prop where
 ok : Yok c y
 cap : ∀ i,i < NN c → (y i).l.length ≤ C i
 at_ : ∀ i,i < NN c → IntsAt .u8 W (A i) (y i).l
def tkt (m : Fs) (y : Nat → Sl) (K : Nat) : Fs := { m with t := fun i => if i < K then tkn m y i else m.t i }
theorem tkt_zero (m : Fs) (y : Nat → Sl) : tkt m y 0 = m := by unfold tkt; simp
theorem tkt_next (m : Fs) (y : Nat → Sl) (K : Nat) : { tkt m y K with t := upd (tkt m y K).t K (tkn m y K) } = tkt m y (K + 1) := by
 unfold tkt upd
 simp only
 congr 1
 funext i
 by_cases e : i = K
 · subst e; rw [if_pos rfl,if_pos (by omega)]
 · rw [if_neg e]
   by_cases q : i < K
   · rw [if_pos q,if_pos (by omega)]
   · rw [if_neg q,if_neg (by omega)]
theorem u8_track {X : World} {a : Option Addr} {l : List Int} {b : Nat} {t : TypeId} {x last : Int} {has : Bool} {n : List Int} (h : IntsAt .u8 X a l) (hl : 0 < l.length) (v : VRow X b t (Fh.trk x last has n)) : ∀ ad,a = some ad → ad.block ≠ b := by
 rcases h with h | ⟨b',off,rfl,hc⟩
 · rw [h] at hl; simp at hl
 · rintro ad e eb
   cases e
   have h0 := hc 0 hl
   replace eb : b' = b := eb
   subst eb
   rw [cell_of_row X b' (off + 0) _ t (0,0) v] at h0
   have := List.mem_of_getElem? (l := Fh.trk x last has n) (by simpa using h0)
   unfold Fh.trk at this
   simp [cellsI] at this
structure Tks (F : Face) (W : World) (P : Pl) (c : List Int) (m : Fs) (y : Nat → Sl) (A : Nat → Option Addr) (C : Nat → Nat) (f : Nat → Nat → Rw) (X : World) (T K j : Nat) : Prop where
 goes : Goes F W P X P c (tkt m y T)
 cyc : VRow X W.heap.size 47 (cyv y A C)
 res : VRow X (W.heap.size + 1) 116 (rwc fun _ _ => rw0)
 row : VRow X (W.heap.size + 2) 116 (rwc (prt f K j))
 fine : But (fun b => ∃ k,k < NN c ∧ b = P.h k) W X
section
variable {F : Face} {W X X' : World} {P : Pl} {c : List Int} {m : Fs} {y : Nat → Sl} {A : Nat → Option Addr} {C : Nat → Nat} {f : Nat → Nat → Rw} {T K j : Nat}
theorem Goes.fresh {w : World} {P0 : Pl} (L : Goes F w P0 X P c m) {S : Nat → Prop} (b : But S X X') (h : ∀ k,S k → P.col k = 0 ∧ w.heap.size ≤ k) : Goes F w P0 X' P c m :=
 ⟨L.lie.keep b fun k hk => (h k hk).1,L.but.call b fun k hk => Or.inr (h k hk).2,L.more,L.f,L.tb,L.cap,L.r,L.h,L.g⟩
theorem Lie.free {F : Face} {W : World} {P : Pl} {c : List Int} {m : Fs} (L : Lie F W P c m) {k : Nat} (h : W.heap.size ≤ k) : P.col k = 0 := by
 by_cases q : P.col k = 0
 · exact q
 · have := L.lt k q; omega
theorem Tks.on (H : Tks F W P c m y A C f X T K j) (b : Below X.heap.size X X') : Tks F W P c m y A C f X' T K j := ⟨H.goes.on b,onB H.cyc b,onB H.res b,onB H.row b,H.fine.grow b⟩
theorem Tks.taken (L : Lie F W P c m) (H : Tks F W P c m y A C f X K K 0) (hK : K < NN c) (v : VRow X' (P.h K) 170 (Fh.trk K (tkn m y K).last (tkn m y K).has (tkn m y K).n)) (b : Only (P.h K) X X') : Tks F W P c m y A C f X' (K + 1) K 0 := by
 have g := H.goes.track hK v b
 rw [tkt_next] at g
 have n : ∀ k,W.heap.size ≤ k → k ≠ P.h K := fun k hk e => by
  have := L.free hk
  rw [e,L.ch K hK] at this; omega
 exact ⟨g,H.cyc.only b (n _ (Nat.le_refl _)),H.res.only b (n _ (by omega)),H.row.only b (n _ (by omega)),H.fine.call b fun k hk => Or.inl ⟨K,hK,hk⟩⟩
theorem Tks.put (L : Lie F W P c m) (H : Tks F W P c m y A C f X T K j) (hK : K < 4) (hj : j < 8) : Tks F W P c m y A C f (X.setCells (W.heap.size + 2) (j * 8 + K * 2) (rw2 (f j K))) T K (j + 1) := by
 have b : But (· = W.heap.size + 2) X (X.setCells (W.heap.size + 2) (j * 8 + K * 2) (rw2 (f j K))) := ((But.refl (· = W.heap.size + 2) X).setCell (p := ⟨W.heap.size + 2,j * 8 + K * 2,none⟩) (Or.inl rfl) (.bool (f j K).is)).setCell (p := ⟨W.heap.size + 2,j * 8 + K * 2 + 1,none⟩) (Or.inl rfl) (.int .i64 (f j K).n)
 refine ⟨H.goes.fresh b fun k hk => by rw [hk]; exact ⟨L.free (by omega),by omega⟩,H.cyc.only b (by omega),H.res.only b (by omega),?_,H.fine.call b fun k hk => Or.inr (by rw [hk]; omega)⟩
 have := Ot.VRow.setCells (rw2 (f j K)) (j * 8 + K * 2) X _ H.row (by rw [rwc_len]; show j * 8 + K * 2 + 2 ≤ 64; omega)
 rwa [prt_set f hK hj] at this
end
theorem sizeSl (y : Sl) (a : Option Addr) (n : Nat) : (Tryz.prog.info? 45).map (·.size) = some (sl2 y a n).length := by
 rw [show (sl2 y a n).length = 2 from rfl]; kernel_rfl
theorem sizeRs (f : Nat → Nat → Rw) : (Tryz.prog.info? 116).map (·.size) = some (rwc f).length := by
 rw [rwc_len]; kernel_rfl
theorem sizeR2 (r : Rw) : (Tryz.prog.info? 113).map (·.size) = some (rw2 r).length := by
 rw [show (rw2 r).length = 2 from rfl]; kernel_rfl
theorem aggRs (w : World) : (isAgg 116).run Tryz.prog w = .ok true w := by simp [isAgg,run_underlying Tryz.underlying116]
theorem rwc_there {X : World} {g : Nat} {t : TypeId} {f : Nat → Nat → Rw} (h : VRow X g t (rwc f)) (o n : Nat) (hn : o + n ≤ 64) : X.there g o n := fun j hj => ⟨by
 have hl : o + j < (rwc f).length := by rw [rwc_len]; omega
 rw [h.cell _ (List.getElem?_eq_getElem hl)]; rfl,h.frozen _⟩
set_option maxRecDepth 100000 in
set_option maxHeartbeats 3200000 in
theorem take_any {F : Face} {W : World} {P : Pl} {c : List Int} {m : Fs} (hR : Cf.Right c) (hO : Ok c m) (hk62 : m.k < 1099511627776) (L : Lie F W P c m) {y : Nat → Sl} {A : Nat → Option Addr} {C : Nat → Nat} (Y : YAt W c y A C) :
 Calls Tryz.prog 39 #[.pointer (some ⟨P.f,0,none⟩),.agg (cyv y A C).toArray] W fun e w' => e = .returned (.agg (rwc (raw c m y)).toArray) ∧ Goes F W P w' P c (tkt m y (NN c)) := by
 have h4 : NN c ≤ 4 := by have := Sg.NN_34 hR; omega
 have HL := Lib.hid L
 -- what each track tells
 have CT := fun (X : World) (K : Nat) (hK : K < NN c) (H : Tks F W P c m y A C (raw c m y) X K K 0) =>
  (Fh.take_any (P.h K) (K : Int) (m.t K).last (m.t K).has (m.t K).n (y K).is (A K) (C K) (y K).l X
   (by have := H.goes.lie.trk K hK; unfold tks tkt at this; simp only [Nat.lt_irrefl,if_false] at this; exact this)
   (hO.t K hK).len (fun k => ⟨((hO.t K hK).cnt k).1,Int.lt_of_le_of_lt ((hO.t K hK).cnt k).2 (by omega)⟩) (Y.cap K hK) (Y.ok K hK)
   (by
    rcases Nat.eq_zero_or_pos (y K).l.length with q | q
    · rw [List.eq_nil_of_length_eq_zero q]; exact Or.inl rfl
    · exact (Y.at_ K hK).but H.fine fun ad e => by
       rintro ⟨k,hk,eb⟩
       exact u8_track (Y.at_ K hK) q (L.trk k hk) ad e eb)).mono fun e w' q =>
   (show e = .returned (.tuple #[.agg (cellsI .i64 (fr m y K)).toArray,.int .i64 (rj m y K)]) ∧ Tks F W P c m y A C (raw c m y) w' (K + 1) K 0 from ⟨q.1,H.taken L hK q.2.1 q.2.2⟩)
 have HFR := Lib.hid (fun (K : Nat) (hK : K < NN c) => show (fr m y K).length = 9 from Fh.jf_len (Y.ok K hK))
 have HRW := Lib.hid (fun (K j : Nat) (hK : K < NN c) (h : rj m y K = 0) => show raw c m y j K = ⟨true,(fr m y K).getD (1 + j) 0⟩ by unfold raw; rw [if_pos ⟨hK,h⟩])
 have HNO := Lib.hid (fun (K j : Nat) (h : rj m y K ≠ 0) => show raw c m y j K = rw0 by unfold raw; rw [if_neg fun q => h q.2])
 have HAL := Lib.hid (prt_all (f := raw c m y) (n := NN c) fun j i hi => by unfold raw; rw [if_neg (by omega)])
 generalize raw c m y = f at *
 have hv := VRow.new W (cyv y A C) 47
 have hb1 := (Below.refl W.heap.size W).alloc (Nat.le_refl _) (.cells (cyv y A C).toArray 47)
 have hb2 := hb1.alloc hb1.size (.cells (rwc fun _ _ => rw0).toArray 116)
 have hb3 := hb2.alloc hb2.size (.cells (rwc fun _ _ => rw0).toArray 116)
 have T0 : Tks F W P c m y A C f (((W.alloc (.cells (cyv y A C).toArray 47)).alloc (.cells (rwc fun _ _ => rw0).toArray 116)).alloc (.cells (rwc fun _ _ => rw0).toArray 116)) 0 0 0 := by
  refine ⟨?_,(hv.alloc _).alloc _,?_,?_,But.of_below hb3⟩
  · rw [tkt_zero]; exact (Goes.refl L).on hb3
  · have := (VRow.new (W.alloc (.cells (cyv y A C).toArray 47)) (rwc fun _ _ => rw0) 116).alloc (.cells (rwc fun _ _ => rw0).toArray 116)
    rwa [World.size_alloc] at this
  · have := VRow.new ((W.alloc (.cells (cyv y A C).toArray 47)).alloc (.cells (rwc fun _ _ => rw0).toArray 116)) (rwc fun _ _ => rw0) 116
    rw [World.size_alloc,World.size_alloc] at this
    rw [prt_zero]; exact this
 have HT0 := Lib.hid T0
 have HB3 := Lib.hid hb3
 have HY := Lib.hid Y
 have HO := Lib.hid hO
 clear hv hb1 hb2 hb3 T0 hR hO Y
 go_enter Tryz.func39,Tryz.ntmps39
 have c1 := fun (X : World) (b : Below W.heap.size W X) => (L.on b).fus.cell 1 (v := .slice (some ⟨P.tb,0,none⟩) (NN c) P.cap) rfl
 have HC1 := Lib.hid (c1 _ HB3.out)
 clear c1 L HB3
 go_upto_region 2 with ((with_reducible show wpList _ _ _ (⟨_,.alloc 116,_,_,_,_⟩ :: _) _ _); refine wpList_lay rfl _ rfl (rwc fun _ _ => rw0) (fun _ => by kernel_rfl) ?_)
 generalize (((W.alloc (.cells (cyv y A C).toArray 47)).alloc (.cells (rwc fun _ _ => rw0).toArray 116)).alloc (.cells (rwc fun _ _ => rw0).toArray 116)) = W3 at *
 have c1 := HC1.out
 go_wp2_with fail
 go_loopg [17] (NN c) (fun gg s17 wr => ∃ K : Nat,K + gg = NN c ∧ s17 = .int .i64 K ∧ Hid (Tks F W P c m y A C f wr K K 0))
 case atStart => exact ⟨0,by omega,rfl,HT0⟩
 case round =>
  obtain ⟨K,hkg,rfl,H⟩ := hrel
  clear c1 HC1 HT0
  by_cases hK : K < NN c
  · have hki : (K : Int) < NN c := by omega
    have hK4 : K < 4 := by omega
    have tc : wr.cell? ⟨P.tb,K,none⟩ = some (ptr (P.h K)) := by
     obtain ⟨cs,t,h1,h2⟩ := H.out.goes.lie.tab
     exact h1.cell K (h2 K hK)
    have RS := Lib.hid (show wr.rangeAt W.heap.size (K * 2) (sl2 (y K) (A K) (C K)) from fun j v hv => H.out.cyc.cell (K * 2 + j) (cyv_at y A C hK4 j v hv))
    have CK := CT wr K hK H.out
    have h9 := HFR.out K hK
    have HS9 := Lib.hid (show (Tryz.prog.info? 123).map (·.size) = some (cellsI .i64 (fr m y K)).length by rw [cellsI_len,h9]; exact Fm.size9)
    have HL9 := Lib.hid (show (cellsI .i64 (List.replicate 9 0)).length = (cellsI .i64 (fr m y K)).length by rw [cellsI_len,cellsI_len,h9]; rfl)
    obtain ⟨fk,hfk⟩ : ∃ fk,fr m y K = fk := ⟨_,rfl⟩
    obtain ⟨rk,hrk⟩ : ∃ rk,rj m y K = rk := ⟨_,rfl⟩
    rw [hfk] at HS9 HL9 h9
    rw [hfk,hrk] at CK
    have HFK := Lib.hid hfk
    have HRK := Lib.hid hrk
    clear hfk hrk
    go_upto_region 6 with (first
     | ((with_reducible show wpList _ _ _ (⟨some 26,_,_,_,_,_⟩ :: _) _ _); refine wpList_load_mid rfl _ _ rfl W.heap.size (K * 2) rfl (sl2 (y K) (A K) (C K)) _ RS.out Tryz.underlying45 rfl (sizeSl _ _ _) ?_)
     | (go_at_call 80; refine CK.mono ?_; rintro e w1 ⟨rfl,t1⟩; have H1 := Lib.hid t1; have V1 := Lib.hid (VRow.new w1 (cellsI .i64 (List.replicate 9 0)) 123); clear t1)
     | ((with_reducible show wpList _ _ _ (⟨none,.store _ (.tmp 8) _,_,_,_,_⟩ :: _) _ _); refine VB.store rfl _ _ rfl w1.heap.size (cellsI .i64 fk) rfl rfl V1.out HS9.out HL9.out (all_oneCell_toArray (cellsI_one _ _)) ?_))
    have b2 := Below.put ((Below.refl w1.heap.size w1).alloc (Nat.le_refl _) (.cells (cellsI .i64 (List.replicate 9 0)).toArray 123)) (Nat.le_refl _) (cellsI .i64 fk).toArray
    have H2 := Lib.hid (H1.out.on b2)
    have V2 := Lib.hid (V1.out.put (cellsI .i64 fk))
    rw [show (cellsI .i64 (List.replicate 9 0)).toArray = #[.int .i64 0,.int .i64 0,.int .i64 0,.int .i64 0,.int .i64 0,.int .i64 0,.int .i64 0,.int .i64 0,.int .i64 0] from rfl] at H2 V2
    clear b2 H1 V1 H tc
    generalize ((w1.alloc (.cells #[.int .i64 0,.int .i64 0,.int .i64 0,.int .i64 0,.int .i64 0,.int .i64 0,.int .i64 0,.int .i64 0,.int .i64 0] 123)).setRow w1.heap.size (cellsI .i64 fk).toArray) = w2 at *
    generalize w1.heap.size = sb at *
    by_cases hz : rk = 0
    · obtain ⟨sq,vs,rfl⟩ : ∃ sq vs,fk = sq :: vs := by
       cases fk with
       | nil => simp at h9
       | cons a l => exact ⟨a,l,rfl⟩
      have h8 : vs.length = 8 := by simpa using h9
      have HV := Lib.hid (fun j => show f j K = ⟨true,vs.getD j 0⟩ by rw [HRW.out K j hK (HRK.out.trans hz),HFK.out,Nat.add_comm,List.getD_cons_succ])
      have RV := Lib.hid (show w2.rangeAt sb 1 (cellsI .i64 vs) from fun j v hv => V2.out.cell (1 + j) (by rw [Nat.add_comm]; exact hv))
      have SV := Lib.hid (show (Tryz.prog.info? 35).map (·.size) = some (cellsI .i64 vs).length by rw [cellsI_len,h8]; kernel_rfl)
      have IV := Lib.hid (fun (j : Nat) (hj : j < 8) (X : World) => Ot.index_v (o := ⟨0,vs,List.replicate 8 Ss.zer⟩) ⟨h8,rfl⟩ j hj X)
      clear h9 h8 HS9 HL9
      go_wp2_with ((with_reducible show wpList _ _ _ (⟨some 33,_,_,_,_,_⟩ :: _) _ _); refine wpList_load_mid rfl _ _ rfl sb 1 rfl (cellsI .i64 vs) _ RV.out Tryz.underlying35 rfl SV.out ?_)
      go_loopg [34] 8 (fun g2 s34 wx => ∃ j : Nat,j + g2 = 8 ∧ s34 = .int .i64 j ∧ Hid (Tks F W P c m y A C f wx (K + 1) K j))
      case atStart => exact ⟨0,by omega,rfl,H2⟩
      case round =>
       rename_i g2 wx
       obtain ⟨j,hjg,rfl,H⟩ := hrel
       by_cases hj : j < 8
       · have hji : (j : Int) < 8 := by omega
         have HP := Lib.hid (H.out.put HL.out hK4 hj)
         rw [HV.out j] at HP
         have TH := Lib.hid (rwc_there H.out.row (j * 8 + K * 2) 2 (by omega))
         have ij := IV.out j hj
         replace ij := fun X => (ij X).trans (by rfl : _ = .ok (.int .i64 (vs.getD j 0)) X)
         clear H
         generalize vs.getD j 0 = x at *
         go_wp2_with (first
          | ((with_reducible show wpList _ _ _ (⟨some 37,_,_,_,_,_⟩ :: _) _ _); refine Ot.wpList_index rfl _ _ _ rfl (cellsI .i64 vs).toArray j _ rfl rfl (ij _) ?_)
          | ((with_reducible show wpList _ _ _ (⟨none,.store _ (.tmp 43) _,_,_,_,_⟩ :: _) _ _); refine wpList_store_mid rfl _ _ _ rfl (W.heap.size + 2) (j * 8 + K * 2) (rw2 ⟨true,x⟩).toArray rfl rfl TH.out (sizeR2 ⟨true,x⟩) (by simp [rw2,Value.oneCell']) ?_))
         go_roundg (gk - 1)
         case rel => exact ⟨j + 1,by omega,by go_num,HP⟩
         case measure => omega
       · obtain rfl : j = 8 := by omega
         go_wp2_with fail
         go_roundg (NN c - K - 1)
         case rel => exact ⟨K + 1,by omega,by go_num,Lib.hid ⟨H.out.goes,H.out.cyc,H.out.res,by rw [← prt_full]; exact H.out.row,H.out.fine⟩⟩
         case measure => omega
    · have hs := Lib.hid (prt_skip (f := f) (K := K) fun j _ => HNO.out K j (by rw [HRK.out]; exact hz))
      go_wp2_with fail
      go_roundg (gk - 1)
      case rel => exact ⟨K + 1,by omega,by go_num,Lib.hid ⟨H2.out.goes,H2.out.cyc,H2.out.res,by rw [← hs.out]; exact H2.out.row,H2.out.fine⟩⟩
      case measure => omega
  · obtain rfl : K = NN c := by omega
    have b1 := But.refl (· = W.heap.size + 1) wr
    have b2 := b1.put (g := W.heap.size + 1) (Or.inl rfl) (rwc f).toArray
    have RW := Lib.hid (show VRow wr (W.heap.size + 2) 116 (rwc f) by rw [← HAL.out]; exact H.out.row)
    have HG := Lib.hid (H.out.goes.fresh b2 fun k hk => by rw [hk]; exact ⟨HL.out.free (by omega),by omega⟩)
    have RR := Lib.hid (H.out.res.put (rwc f))
    clear b1 b2
    go_wp2_with (first
     | ((with_reducible show wpList _ _ _ (⟨some 46,_,_,_,_,_⟩ :: _) _ _); refine VB.loaded rfl _ rfl (W.heap.size + 2) rfl RW.out Tryz.underlying116 rfl (sizeRs f) ?_)
     | ((with_reducible show wpList _ _ _ (⟨none,.store _ (.tmp 4) _,_,_,_,_⟩ :: _) _ _); refine VB.store rfl _ _ rfl (W.heap.size + 1) (rwc f) rfl rfl H.out.res (sizeRs f) (by rw [rwc_len,rwc_len]) (rwc_one f) ?_))
    exact bodyPost_ret (VB.ret1 rfl rfl (aggRs _) (sizeRs f) RR.out) rfl ⟨rfl,HG.out⟩
end Fu
end Go.Proofs.YticidhbnljdidaaGreatDoor
