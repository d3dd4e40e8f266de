/-
  What judge of package fresh does: its contract by walking the Go text. Conditions: where the track and the bytes lie.
-/
import Derived.Test.YtpoededbmdffpaaGreatDoorFreshMath
import Derived.Test.YtpoededbmdffpaaGreatDoorFrameTellsWalk
import Derived.Test.YtpoededbmdffpaaGreatDoorBlk
import Derived.Deep.RegionWith
import Derived.Deep.DeepCutAuto
import Derived.Deep.RegionHeld
namespace Go.Proofs.YtpoededbmdffpaaGreatDoor
set_option maxRecDepth 100000
open Go.ChangeShapes Go.WideShapes Go.ChangeAt Go.RowKit Go.Deep
namespace Fh
open Wd Fm
open Cr (Bytes)
/-- A track's cells. -/
def trk (c last : Int) (has : Bool) (n : List Int) : List Value := .int .i64 c :: .int .i64 last :: .bool has :: cellsI .i64 n
/-- What judge hands back, and what lies in the track's block then. -/
def JudgeR (w : World) (g : Nat) (t : TypeId) (c last : Int) (has : Bool) (n : List Int) (is : Bool) (l : List Int) (e : Ending) (w' : World) : Prop :=
  e = .returned (.tuple #[.agg (cellsI .i64 (jf c last has is l)).toArray, .int .i64 (jr c last has is l)]) ∧ VRow w' g t (trk c (jl c last is l) (jh c has is l) n) ∧ Only g w w'
/-- What lies about when judge has begun. -/
structure Begun (w W : World) (g : Nat) (cs : List Value) (t : TypeId) (is : Bool) (a : Option Addr) (cap : Nat) (l : List Int) : Prop where
  size : W.heap.size = w.heap.size + 2
  below : Below w.heap.size w W
  s0 : W.cell? ⟨w.heap.size, 0, none⟩ = some (.bool is)
  s1 : W.cell? ⟨w.heap.size, 1, none⟩ = some (.slice a l.length cap)
  out : IRow .i64 W (w.heap.size + 1) 123 (List.replicate 9 0)
  trk : VRow W g t cs
  bytes : IntsAt .u8 W a l
theorem begun (w : World) (g : Nat) (cs : List Value) (t : TypeId) (is : Bool) (a : Option Addr) (cap : Nat) (l : List Int) (hT : VRow w g t cs) (hb : IntsAt .u8 w a l) :
    Begun w ((w.alloc (.cells #[.bool is, .slice a l.length cap] 45)).alloc (.cells #[.int .i64 0, .int .i64 0, .int .i64 0, .int .i64 0, .int .i64 0, .int .i64 0, .int .i64 0, .int .i64 0, .int .i64 0] 123)) g cs t is a cap l := by
  obtain ⟨s1, s2, s3, s4⟩ := dec_start w (.bool is) (.slice a l.length cap)
  refine ⟨s3, s4, ?_, s2, s1, (hT.alloc _).alloc _, hb.below s4⟩
  rw [((Below.refl _ (w.alloc (.cells #[.bool is, .slice a l.length cap] 45))).alloc (Nat.le_refl _) _).cell (p := ⟨w.heap.size, 0, none⟩) (by simp)]
  exact (slot_box w is _ _ rfl).1
/-- What lies about behind Decode. -/
structure Lying (w W : World) (g6 g : Nat) (cs : List Value) (t : TypeId) (f : List Int) : Prop where
  below : Below w.heap.size w W
  out : IRow .i64 W (w.heap.size + 1) 123 (List.replicate 9 0)
  trk : VRow W g t cs
  box : IRow .i64 W g6 123 f
  le : w.heap.size + 2 ≤ g6
  lt : g < w.heap.size
theorem alloc_cell {W : World} {b o : Nat} {v : Value} (x : Obj) (h : W.cell? ⟨b, o, none⟩ = some v) : (W.alloc x).cell? ⟨b, o, none⟩ = some v :=
  (((Below.refl _ W).alloc (Nat.le_refl _) x).cell (p := ⟨b, o, none⟩) (cell_lt h)).trans h
theorem box_after {W w1 : World} (h : Below (W.alloc (.cells #[.int .i64 0, .int .i64 0, .int .i64 0, .int .i64 0, .int .i64 0, .int .i64 0, .int .i64 0, .int .i64 0, .int .i64 0] 123)).drew.heap.size (W.alloc (.cells #[.int .i64 0, .int .i64 0, .int .i64 0, .int .i64 0, .int .i64 0, .int .i64 0, .int .i64 0, .int .i64 0, .int .i64 0] 123)).drew w1) : IRow .i64 w1 W.heap.size 123 [0, 0, 0, 0, 0, 0, 0, 0, 0] :=
  (IRow.drew (show IRow .i64 (W.alloc (.cells #[.int .i64 0, .int .i64 0, .int .i64 0, .int .i64 0, .int .i64 0, .int .i64 0, .int .i64 0, .int .i64 0, .int .i64 0] 123)) W.heap.size 123 [0, 0, 0, 0, 0, 0, 0, 0, 0] from heap_alloc_new W _)).below h (by simp)
theorem lying_a {w W w1 : World} {g : Nat} {cs : List Value} {t : TypeId} {is : Bool} {a : Option Addr} {cap : Nat} {l : List Int} (B : Begun w W g cs t is a cap l) (h : Below W.drew.heap.size W.drew w1) (hg : g < w.heap.size) (s v0 v1 v2 v3 v4 v5 v6 v7 : Int) :
    Lying w (w1.alloc (.cells #[.int .i64 s, .int .i64 v0, .int .i64 v1, .int .i64 v2, .int .i64 v3, .int .i64 v4, .int .i64 v5, .int .i64 v6, .int .i64 v7] 123)) w1.heap.size g cs t [s, v0, v1, v2, v3, v4, v5, v6, v7] := by
  have h' : Below W.heap.size W w1 := ⟨h.os, h.tape, h.output, h.size, h.block⟩
  have hs := B.size
  have k := h'.alloc h'.size (.cells #[.int .i64 s, .int .i64 v0, .int .i64 v1, .int .i64 v2, .int .i64 v3, .int .i64 v4, .int .i64 v5, .int .i64 v6, .int .i64 v7] 123)
  have hz := h'.size
  exact ⟨grow B.below k, B.out.below k B.out.lt, B.trk.below k B.trk.lt, box_row s v0 v1 v2 v3 v4 v5 v6 v7 w1, by omega, hg⟩
theorem lying_b {w W w1 : World} {g : Nat} {cs : List Value} {t : TypeId} {is : Bool} {a : Option Addr} {cap : Nat} {l : List Int} (B : Begun w W g cs t is a cap l) (h : Below (W.alloc (.cells #[.int .i64 0, .int .i64 0, .int .i64 0, .int .i64 0, .int .i64 0, .int .i64 0, .int .i64 0, .int .i64 0, .int .i64 0] 123)).drew.heap.size (W.alloc (.cells #[.int .i64 0, .int .i64 0, .int .i64 0, .int .i64 0, .int .i64 0, .int .i64 0, .int .i64 0, .int .i64 0, .int .i64 0] 123)).drew w1) (hg : g < w.heap.size) (s v0 v1 v2 v3 v4 v5 v6 v7 : Int) :
    Lying w ((((((((((w1.setCell ⟨W.heap.size, 0, none⟩ (.int .i64 s)).setCell ⟨W.heap.size, 1, none⟩ (.int .i64 v0)).setCell ⟨W.heap.size, 2, none⟩ (.int .i64 v1)).setCell ⟨W.heap.size, 3, none⟩ (.int .i64 v2)).setCell ⟨W.heap.size, 4, none⟩ (.int .i64 v3)).setCell ⟨W.heap.size, 5, none⟩ (.int .i64 v4)).setCell ⟨W.heap.size, 6, none⟩ (.int .i64 v5)).setCell ⟨W.heap.size, 7, none⟩ (.int .i64 v6)).setCell ⟨W.heap.size, 8, none⟩ (.int .i64 v7))) W.heap.size g cs t [s, v0, v1, v2, v3, v4, v5, v6, v7] := by
  have h' : Below (W.alloc (.cells #[.int .i64 0, .int .i64 0, .int .i64 0, .int .i64 0, .int .i64 0, .int .i64 0, .int .i64 0, .int .i64 0, .int .i64 0] 123)).heap.size (W.alloc (.cells #[.int .i64 0, .int .i64 0, .int .i64 0, .int .i64 0, .int .i64 0, .int .i64 0, .int .i64 0, .int .i64 0, .int .i64 0] 123)) w1 := ⟨h.os, h.tape, h.output, h.size, h.block⟩
  have hs := B.size
  have k : Below W.heap.size W w1 := ((Below.refl W.heap.size W).alloc (Nat.le_refl _) (.cells #[.int .i64 0, .int .i64 0, .int .i64 0, .int .i64 0, .int .i64 0, .int .i64 0, .int .i64 0, .int .i64 0, .int .i64 0] 123)).trans (h'.mono (by simp))
  have k9 : Below W.heap.size W ((((((((((w1.setCell ⟨W.heap.size, 0, none⟩ (.int .i64 s)).setCell ⟨W.heap.size, 1, none⟩ (.int .i64 v0)).setCell ⟨W.heap.size, 2, none⟩ (.int .i64 v1)).setCell ⟨W.heap.size, 3, none⟩ (.int .i64 v2)).setCell ⟨W.heap.size, 4, none⟩ (.int .i64 v3)).setCell ⟨W.heap.size, 5, none⟩ (.int .i64 v4)).setCell ⟨W.heap.size, 6, none⟩ (.int .i64 v5)).setCell ⟨W.heap.size, 7, none⟩ (.int .i64 v6)).setCell ⟨W.heap.size, 8, none⟩ (.int .i64 v7))) := stored9_below s v0 v1 v2 v3 v4 v5 v6 v7 k (Nat.le_refl _)
  exact ⟨grow B.below k9, B.out.below k9 B.out.lt, B.trk.below k9 B.trk.lt, stored9 s v0 v1 v2 v3 v4 v5 v6 v7 (box_after h), by omega, hg⟩
theorem lying_end {w U : World} {g o : Nat} {cs : List Value} {t t' : TypeId} (T : VRow U g t cs) (R : IRow .i64 U o t' (List.replicate 9 0)) (B : Only g w U) (hg : g ≠ o) (ho : w.heap.size ≤ o) (s v0 v1 v2 v3 v4 v5 v6 v7 : Int) :
    IRow .i64 ((((((((((U.setCell ⟨o, 0, none⟩ (.int .i64 s)).setCell ⟨o, 1, none⟩ (.int .i64 v0)).setCell ⟨o, 2, none⟩ (.int .i64 v1)).setCell ⟨o, 3, none⟩ (.int .i64 v2)).setCell ⟨o, 4, none⟩ (.int .i64 v3)).setCell ⟨o, 5, none⟩ (.int .i64 v4)).setCell ⟨o, 6, none⟩ (.int .i64 v5)).setCell ⟨o, 7, none⟩ (.int .i64 v6)).setCell ⟨o, 8, none⟩ (.int .i64 v7))) o t' [s, v0, v1, v2, v3, v4, v5, v6, v7] ∧ VRow ((((((((((U.setCell ⟨o, 0, none⟩ (.int .i64 s)).setCell ⟨o, 1, none⟩ (.int .i64 v0)).setCell ⟨o, 2, none⟩ (.int .i64 v1)).setCell ⟨o, 3, none⟩ (.int .i64 v2)).setCell ⟨o, 4, none⟩ (.int .i64 v3)).setCell ⟨o, 5, none⟩ (.int .i64 v4)).setCell ⟨o, 6, none⟩ (.int .i64 v5)).setCell ⟨o, 7, none⟩ (.int .i64 v6)).setCell ⟨o, 8, none⟩ (.int .i64 v7))) g t cs ∧ Only g w ((((((((((U.setCell ⟨o, 0, none⟩ (.int .i64 s)).setCell ⟨o, 1, none⟩ (.int .i64 v0)).setCell ⟨o, 2, none⟩ (.int .i64 v1)).setCell ⟨o, 3, none⟩ (.int .i64 v2)).setCell ⟨o, 4, none⟩ (.int .i64 v3)).setCell ⟨o, 5, none⟩ (.int .i64 v4)).setCell ⟨o, 6, none⟩ (.int .i64 v5)).setCell ⟨o, 7, none⟩ (.int .i64 v6)).setCell ⟨o, 8, none⟩ (.int .i64 v7))) := by
  refine ⟨stored9 s v0 v1 v2 v3 v4 v5 v6 v7 R, ?_, ?_⟩
  · exact (((((((((T.setOther (p := ⟨o, 0, none⟩) hg _).setOther (p := ⟨o, 1, none⟩) hg _).setOther (p := ⟨o, 2, none⟩) hg _).setOther (p := ⟨o, 3, none⟩) hg _).setOther (p := ⟨o, 4, none⟩) hg _).setOther (p := ⟨o, 5, none⟩) hg _).setOther (p := ⟨o, 6, none⟩) hg _).setOther (p := ⟨o, 7, none⟩) hg _).setOther (p := ⟨o, 8, none⟩) hg _)
  · have h (W : World) (i : Nat) (v : Value) (q : But (· = g) w W) : But (· = g) w (W.setCell ⟨o, i, none⟩ v) := q.setCell (p := ⟨o, i, none⟩) (Or.inr ho) v
    exact h _ 8 _ (h _ 7 _ (h _ 6 _ (h _ 5 _ (h _ 4 _ (h _ 3 _ (h _ 2 _ (h _ 1 _ (h _ 0 _ B))))))))
/-- Behind the two stores into the track. -/
theorem lying_marked {w W : World} {g6 g : Nat} {c last : Int} {has : Bool} {n : List Int} {t : TypeId} {f : List Int} (L : Lying w W g6 g (trk c last has n) t f) (nq : Nat) (s : Int) :
    VRow (((W.drewN nq).setCell ⟨g, 1, none⟩ (.int .i64 s)).setCell ⟨g, 2, none⟩ (.bool true)) g t (trk c s true n) ∧ IRow .i64 (((W.drewN nq).setCell ⟨g, 1, none⟩ (.int .i64 s)).setCell ⟨g, 2, none⟩ (.bool true)) (w.heap.size + 1) 123 (List.replicate 9 0) ∧
      Only g w (((W.drewN nq).setCell ⟨g, 1, none⟩ (.int .i64 s)).setCell ⟨g, 2, none⟩ (.bool true)) := by
  have hl := L.lt
  have ne : w.heap.size + 1 ≠ g := by omega
  refine ⟨((L.trk.drewN nq).set 1 _).set 2 _, ?_, ?_⟩
  · exact ((L.out.drewN nq).vrow.setOther (p := ⟨g, 1, none⟩) ne _).setOther (p := ⟨g, 2, none⟩) ne _
  · have b0 : But (· = g) w (W.drewN nq) := (But.of_below L.below).drewN nq
    exact (b0.setCell (p := ⟨g, 1, none⟩) (Or.inl rfl) _).setCell (p := ⟨g, 2, none⟩) (Or.inl rfl) _
section
variable (g : Nat) (c last : Int) (has : Bool) (n : List Int) (is : Bool) (a : Option Addr) (cap : Nat) (l : List Int) (w : World)
theorem judge_facts (hy : Bytes l) : ∃ s v0 v1 v2 v3 v4 v5 v6 v7 : Int, dec c is l = [s, v0, v1, v2, v3, v4, v5, v6, v7] ∧
    (rej c is l ≠ 0 → jr c last has is l = rej c is l ∧ jf c last has is l = List.replicate 9 0 ∧ jl c last is l = last ∧ jh c has is l = has) ∧
    (rej c is l = 0 → has = false ∨ s = next last → jr c last has is l = 0 ∧ jf c last has is l = [s, v0, v1, v2, v3, v4, v5, v6, v7] ∧ jl c last is l = s ∧ jh c has is l = true) ∧
    (rej c is l = 0 → has = true → s ≠ next last → jr c last has is l = 6 ∧ jf c last has is l = List.replicate 9 0 ∧ jl c last is l = s ∧ jh c has is l = true) := by
  obtain ⟨s, v0, v1, v2, v3, v4, v5, v6, v7, hd⟩ := nine (dec c is l) (dec_len hy)
  refine ⟨s, v0, v1, v2, v3, v4, v5, v6, v7, hd, fun h => ⟨jr_no h, jf_no h, jl_no h, jh_no h⟩, fun h k => ?_, fun h k k' => ?_⟩
  · have e := dec_yes h
    rw [hd] at e
    have es := (List.cons.inj e).1
    rw [es] at k
    exact ⟨jr_fine h k, (jf_fine h k).trans e.symm, (jl_yes h).trans es.symm, jh_yes h⟩
  · have e := dec_yes h
    rw [hd] at e
    have es := (List.cons.inj e).1
    rw [es] at k'
    exact ⟨jr_stale h k k', jf_stale h k k', (jl_yes h).trans es.symm, jh_yes h⟩
set_option maxHeartbeats 3200000 in
theorem judge_any (hT : VRow w g 170 (trk c last has n)) (hm : l.length ≤ cap) (hy : Bytes l) (hb : IntsAt .u8 w a l) :
    Calls Tryz.prog 123 #[.pointer (some ⟨g, 0, none⟩), .agg #[.bool is, .slice a l.length cap]] w (JudgeR w g 170 c last has n is l) := by
  have B0 := Lib.hid (begun w g _ _ is a cap l hT hb)
  have hg := hT.lt
  obtain ⟨s, v0, v1, v2, v3, v4, v5, v6, v7, hd, j0, j1, j2⟩ := judge_facts c last has is l hy
  have CD := fun W hb => (dec_any c is a cap l W hm hy hb).mono fun e w' q => dec_form (vs := [.int .i64 s, .int .i64 v0, .int .i64 v1, .int .i64 v2, .int .i64 v3, .int .i64 v4, .int .i64 v5, .int .i64 v6, .int .i64 v7]) q (by rw [hd]; rfl)
  have J0 := Lib.hid j0
  have J1 := Lib.hid j1
  have J2 := Lib.hid j2
  clear hT hb hm hy j0 j1 j2 hd
  generalize rej c is l = r at *
  go_enter Tryz.func123, Tryz.ntmps123
  go_wp2
  generalize (w.alloc (.cells #[.bool is, .slice a l.length cap] 45)).alloc (.cells #[.int .i64 0, .int .i64 0, .int .i64 0, .int .i64 0, .int .i64 0, .int .i64 0, .int .i64 0, .int .i64 0, .int .i64 0] 123) = W at *
  have s0 := B0.out.s0
  have s1 := B0.out.s1
  have c0 := B0.out.trk.cell 0 (v := .int .i64 c) rfl
  have s0' := alloc_cell (.cells #[.int .i64 0, .int .i64 0, .int .i64 0, .int .i64 0, .int .i64 0, .int .i64 0, .int .i64 0, .int .i64 0, .int .i64 0] 123) s0
  have s1' := alloc_cell (.cells #[.int .i64 0, .int .i64 0, .int .i64 0, .int .i64 0, .int .i64 0, .int .i64 0, .int .i64 0, .int .i64 0, .int .i64 0] 123) s1
  have c0' := alloc_cell (.cells #[.int .i64 0, .int .i64 0, .int .i64 0, .int .i64 0, .int .i64 0, .int .i64 0, .int .i64 0, .int .i64 0, .int .i64 0] 123) c0
  go_upto_region 1 with fail
  go_cut [6, 7] (fun s6 s7 wx => ∃ g6 : Nat, s6 = .pointer (some ⟨g6, 0, none⟩) ∧ s7 = .int .i64 r ∧ Hid (Lying w wx g6 g (trk c last has n) 170 [s, v0, v1, v2, v3, v4, v5, v6, v7]))
  case first =>
    go_region_with (go_at_call 175; first
      | (refine (CD _ B0.out.bytes.drew).mono ?_; rintro e w1 ⟨rfl, b1⟩)
      | (refine (CD _ (B0.out.bytes.below ((Below.refl _ _).alloc (Nat.le_refl _) _)).drew).mono ?_; rintro e w1 ⟨rfl, b1⟩
         have P1 := Lib.hid (box_after b1); obtain ⟨z0, z1, z2, z3, z4, z5, z6, z7, z8⟩ := row9 P1.out; obtain ⟨q0, q1, q2, q3, q4, q5, q6, q7, q8⟩ := row9_frozen P1.out))
    all_goals (go_wp2_with fail; go_meet)
    all_goals first
      | exact ⟨_, rfl, rfl, Lib.hid (lying_a B0.out b1 hg s v0 v1 v2 v3 v4 v5 v6 v7)⟩
      | exact ⟨_, rfl, rfl, Lib.hid (lying_b B0.out b1 hg s v0 v1 v2 v3 v4 v5 v6 v7)⟩
  case rest =>
    obtain ⟨g6, rfl, rfl, L⟩ := hcut
    clear B0 s0 s1 c0 s0' s1' c0' CD
    obtain ⟨z0, z1, z2, z3, z4, z5, z6, z7, z8⟩ := row9 (show IRow .i64 wc (w.heap.size + 1) 123 [0, 0, 0, 0, 0, 0, 0, 0, 0] from L.out.out)
    obtain ⟨q0, q1, q2, q3, q4, q5, q6, q7, q8⟩ := row9_frozen L.out.out
    obtain ⟨y0, y1, y2, y3, y4, y5, y6, y7, y8⟩ := row9 L.out.box
    have c1 := L.out.trk.cell 1 (v := .int .i64 last) rfl
    have c2 := L.out.trk.cell 2 (v := .bool has) rfl
    have f1 := L.out.trk.frozen 1
    have f2 := L.out.trk.frozen 2
    have t2 := L.out.le
    have n1 : g ≠ g6 := by omega
    have n2 : g6 ≠ g := by omega
    have n3 : g ≠ w.heap.size + 1 := by omega
    have n4 : w.heap.size + 1 ≠ g := by omega
    have n5 : g6 ≠ w.heap.size + 1 := by omega
    have n6 : w.heap.size + 1 ≠ g6 := by omega
    clear t2
    by_cases hr : r = 0
    · subst hr
      cases has
      · go_wp2_with fail
        go_quiet (fail)
        go_wp2
        obtain ⟨e1, e2, e3⟩ := lying_marked L.out nq s
        obtain ⟨e4, e5, e6⟩ := lying_end e1 e2 e3 n3 (Nat.le_succ _) s v0 v1 v2 v3 v4 v5 v6 v7
        obtain ⟨i1, i2, i3, i4⟩ := J1.out (by simp) (Or.inl (by simp))
        refine bodyPost_ret (v := .tuple #[.agg #[.int .i64 s, .int .i64 v0, .int .i64 v1, .int .i64 v2, .int .i64 v3, .int .i64 v4, .int .i64 v5, .int .i64 v6, .int .i64 v7], .int .i64 0]) ?_ rfl ⟨by rw [i1, i2]; rfl, by rw [i3, i4]; exact e5, e6⟩
        exact (Agg.ret_row2 (l := [s, v0, v1, v2, v3, v4, v5, v6, v7]) rfl rfl (agg9 _) size9 e4).trans rfl
      · by_cases hs : s = next last
        · have ds : (s == next last) = true := by simpa using hs
          have HS := Lib.hid hs
          clear hs
          go_wp2_with fail
          go_quiet ((go_at_call 28; exact still_quiet (fun W => next_any _ W)))
          go_wp2
          obtain ⟨e1, e2, e3⟩ := lying_marked L.out nq s
          obtain ⟨e4, e5, e6⟩ := lying_end e1 e2 e3 n3 (Nat.le_succ _) s v0 v1 v2 v3 v4 v5 v6 v7
          obtain ⟨i1, i2, i3, i4⟩ := J1.out (by simp) (Or.inr HS.out)
          refine bodyPost_ret (v := .tuple #[.agg #[.int .i64 s, .int .i64 v0, .int .i64 v1, .int .i64 v2, .int .i64 v3, .int .i64 v4, .int .i64 v5, .int .i64 v6, .int .i64 v7], .int .i64 0]) ?_ rfl ⟨by rw [i1, i2]; rfl, by rw [i3, i4]; exact e5, e6⟩
          exact (Agg.ret_row2 (l := [s, v0, v1, v2, v3, v4, v5, v6, v7]) rfl rfl (agg9 _) size9 e4).trans rfl
        · have ds : (s == next last) = false := by simpa using hs
          have HS := Lib.hid hs
          clear hs
          go_wp2_with fail
          go_quiet ((go_at_call 28; exact still_quiet (fun W => next_any _ W)))
          go_wp2
          obtain ⟨e1, e2, e3⟩ := lying_marked L.out nq s
          obtain ⟨e4, e5, e6⟩ := lying_end e1 e2 e3 n3 (Nat.le_succ _) 0 0 0 0 0 0 0 0 0
          obtain ⟨i1, i2, i3, i4⟩ := J2.out (by simp) (by simp) HS.out
          refine bodyPost_ret (v := .tuple #[.agg #[.int .i64 0, .int .i64 0, .int .i64 0, .int .i64 0, .int .i64 0, .int .i64 0, .int .i64 0, .int .i64 0, .int .i64 0], .int .i64 6]) ?_ rfl ⟨by rw [i1, i2]; rfl, by rw [i3, i4]; exact e5, e6⟩
          exact (Agg.ret_row2 (l := [0, 0, 0, 0, 0, 0, 0, 0, 0]) rfl rfl (agg9 _) size9 e4).trans rfl
    · have dr : (r != 0) = true := by simpa using hr
      go_wp2
      obtain ⟨e4, e5, e6⟩ := lying_end L.out.trk L.out.out (But.of_below L.out.below) n3 (Nat.le_succ _) 0 0 0 0 0 0 0 0 0
      obtain ⟨i1, i2, i3, i4⟩ := J0.out hr
      refine bodyPost_ret (v := .tuple #[.agg #[.int .i64 0, .int .i64 0, .int .i64 0, .int .i64 0, .int .i64 0, .int .i64 0, .int .i64 0, .int .i64 0, .int .i64 0], .int .i64 r]) ?_ rfl ⟨by rw [i1, i2]; rfl, by rw [i3, i4]; exact e5, e6⟩
      exact (Agg.ret_row2 (l := [0, 0, 0, 0, 0, 0, 0, 0, 0]) rfl rfl (agg9 _) size9 e4).trans rfl
end
end Fh
end Go.Proofs.YtpoededbmdffpaaGreatDoor
