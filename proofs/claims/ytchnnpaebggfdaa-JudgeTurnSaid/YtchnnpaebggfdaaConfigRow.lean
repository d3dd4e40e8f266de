/-
  What bound, weights and fields of package config do: their contracts by walking the Go text. No conditions.
-/
import Derived.Test.YtchnnpaebggfdaaJAgg4
import Derived.Deep.RegionWith
import Derived.Deep.DeepCutAuto
import Derived.Deep.RegionHeld
namespace Go.Proofs.Ytchnnpaebggfdaa
set_option maxRecDepth 100000
open Go.ChangeShapes Go.WideShapes Go.ChangeAt Go.RowKit Go.Deep
namespace Cf
theorem bound_any (s : ByteArray) (l h : Int) (a : Option Addr) (n cap : Nat) (w : World) :
    Calls Try.prog 80 #[.string s, .int .i64 l, .int .i64 h, .slice a n cap] w fun e w' => e = .returned (.agg #[.string s, .int .i64 l, .int .i64 h, .slice a n cap]) ∧ Below w.heap.size w w' := by
  go_enter Try.func80, Try.ntmps80
  go_wp2
  refine bodyPost_ret (v := .agg #[.string s, .int .i64 l, .int .i64 h, .slice a n cap]) ?_ rfl ⟨rfl, (Below.refl _ _).alloc (Nat.le_refl _) _⟩
  exact results_cell_row rfl _ _ w.heap.size _ _ (0, 0) _ rfl (heap_alloc_new w _) Try.underlying125 rfl (by kernel_rfl)
/-- A configuration's box. -/
def Box (w : World) (b : Nat) (c : List Int) : Prop := IRow .i64 w b 24 c
theorem Box.new (w : World) (c : List Int) : Box (w.alloc (.cells (CA c) 24)) w.heap.size c := heap_alloc_new w _
theorem Box.lt {w : World} {b : Nat} {c : List Int} (h : Box w b c) : b < w.heap.size := IRow.lt h
theorem Box.at {w : World} {b : Nat} {c : List Int} (h : Box w b c) (hc : c.length = 21) (j : Nat) (hj : j < 21) : w.cell? ⟨b, j, none⟩ = some (.int .i64 (G c j)) := IRow.cell h j (by omega)
theorem Box.below {w w' : World} {b B : Nat} {c : List Int} (h : Box w b c) (hb : Below B w w') (hg : b < B) : Box w' b c := IRow.below h hb hg
theorem Box.on {w w' : World} {b : Nat} {c : List Int} (h : Box w b c) (hb : Below w.heap.size w w') : Box w' b c := h.below hb h.lt
theorem sizeC : (Try.prog.info? 24).map (·.size) = some 21 := by kernel_rfl
/-- A whole configuration loaded. -/
theorem wpList_loadC {ops : Array Oper} {rest : List Oper} {o : Oper} {a : Act} {w : World} {Q : Exit → Act → World → Prop} (hgd : o.guard = none) (x : Operand) (ho : o.op = .load 24 x)
    (b : Nat) (c : List Int) (hx : a.eval x = .pointer (some ⟨b, 0, none⟩)) (hb : Box w b c) (hc : c.length = 21)
    (h : wpList Try.prog ops Q rest (a.put o.dst (.agg (CA c))) w) : wpList Try.prog ops Q (o :: rest) a w :=
  wpList_load_row hgd 24 x ho b hx 24 (CA c) (0, 0) _ hb Try.underlying24 rfl (by rw [CA_size, hc]; exact sizeC) h
theorem ints1 (w : World) (t : TypeId) (x : Int) : IntsAt .i64 (w.alloc (.cells #[.int .i64 x] t)) (some ⟨w.heap.size, 0, none⟩) [x] := by
  refine Or.inr ⟨_, 0, rfl, ?_⟩
  intro i hi
  simp at hi
  subst hi
  simp [World.cell?_alloc_new]
theorem ints_off {w : World} {b : Nat} {c l : List Int} (h : Box w b c) (hc : c.length = 21) (o : Nat) (hl : ∀ i, i < l.length → o + i < 21 ∧ l.getD i 0 = G c (o + i)) : IntsAt .i64 w (some ⟨b, o, none⟩) l :=
  Or.inr ⟨b, o, rfl, fun i hi => by rw [(hl i hi).2]; exact h.at hc _ (hl i hi).1⟩
theorem weights_any (c : List Int) (w : World) (hc : c.length = 21) :
    Calls Try.prog 79 #[.agg (CA c)] w fun e w' => ∃ a0 k0 a1 k1, e = .returned (.tuple #[.slice a0 (own c).length k0, .slice a1 (others c).length k1]) ∧ IntsAt .i64 w' a0 (own c) ∧ IntsAt .i64 w' a1 (others c) ∧ Below w.heap.size w w' := by
  have B0 := Lib.hid (Box.new w c)
  have b0 := Lib.hid ((Below.refl w.heap.size w).alloc (Nat.le_refl _) (.cells (CA c) 24))
  have c0 := B0.out.at hc 0 (by omega)
  by_cases h4 : G c 0 = 4
  · have e1 : own c = [G c 17, G c 18, G c 19, G c 20] := by simp [own, h4]
    have e2 : others c = [] := by simp [others, h4]
    rw [e1, e2]
    have d0 : (G c 0 == 4) = true := by simp [h4]
    clear h4 e1 e2
    go_enter Try.func79, Try.ntmps79
    go_wp2_with fail
    go_quiet (fail)
    go_wp2_with fail
    go_ret2
    refine ⟨_, _, _, _, rfl, ?_, Or.inl rfl, ?_⟩
    · exact ints_off B0.out hc 17 (by intro i hi; simp at hi; rcases i with _ | _ | _ | _ | i <;> first | exact ⟨by omega, rfl⟩ | omega)
    · exact below_drewN b0.out _
  · have e1 : own c = [G c 17, G c 18, G c 19] := by simp [own, h4]
    have e2 : others c = [G c 20] := by simp [others, h4]
    rw [e1, e2]
    have d0 : (G c 0 == 4) = false := by simp [h4]
    clear h4 e1 e2
    go_enter Try.func79, Try.ntmps79
    go_wp2_with fail
    go_quiet (fail)
    go_wp2_with fail
    go_ret2
    refine ⟨_, _, _, _, rfl, ?_, ?_, ?_⟩
    · exact ints_off B0.out hc 17 (by intro i hi; simp at hi; rcases i with _ | _ | _ | i <;> first | exact ⟨by omega, rfl⟩ | omega)
    · exact ints_off B0.out hc 20 (by intro i hi; simp at hi; subst hi; exact ⟨by omega, rfl⟩)
    · exact below_drewN b0.out _
/-- The operations that lay the rows. -/
noncomputable def fOps : Array Oper := match (Try.f75).body with
  | some (.seq _ (.seq _ (.seq (.region _ ops _) _))) => ops
  | _ => #[]
theorem fOps_flow : Flow.flowB fOps [1, 3, 4] 89 = true := by kernel_rfl
/-- What a place of the frame holds. -/
inductive Kind where
  | base | addr (j : Nat) | num (j : Nat) | ints (k : Nat) | row (k : Nat) | all | none
def kinds : List Kind :=
  [.none, .base, .all, .ints 17, .ints 18, .none, .none, .none, .none, .none, .addr 0, .num 0, .ints 0, .row 0, .addr 1, .num 1, .ints 1, .row 1, .addr 1, .num 1, .addr 2, .num 2, .ints 2, .row 2, .addr 1, .num 1, .addr 2, .num 2, .addr 3, .num 3, .ints 3, .row 3,
   .addr 4, .num 4, .ints 4, .row 4, .addr 5, .num 5, .ints 5, .row 5, .addr 6, .num 6, .ints 6, .row 6, .addr 7, .num 7, .ints 7, .row 7, .addr 8, .num 8, .ints 8, .row 8, .addr 9, .num 9, .ints 9, .row 9, .addr 10, .num 10, .ints 10, .row 10, .addr 11, .num 11, .ints 11, .row 11, .addr 12, .num 12, .ints 12, .row 12, .addr 13, .num 13, .ints 13, .row 13, .addr 14, .num 14, .ints 14, .row 14, .addr 15, .num 15, .ints 15, .row 15, .addr 16, .num 16, .ints 16, .row 16, .ints 17, .row 17, .ints 18, .row 18, .all]
def sk (t : Tmp) : Kind := kinds.getD t .none
def rowC (c : List Int) (k : Nat) : Row := (rows c).getD k noRow
/-- The row i, as it lies behind p. -/
structure RowAt (w : World) (p i : Nat) (r : Row) : Prop where
  name : w.cell? ⟨p, i * 4, none⟩ = some (.string r.name)
  lo : w.cell? ⟨p, i * 4 + 1, none⟩ = some (.int .i64 r.lo)
  hi : w.cell? ⟨p, i * 4 + 2, none⟩ = some (.int .i64 r.hi)
  nums : ∃ a cap, w.cell? ⟨p, i * 4 + 3, none⟩ = some (.slice a r.nums.length cap) ∧ IntsAt .i64 w a r.nums
theorem RowAt.on {w w' : World} {p i : Nat} {r : Row} (h : RowAt w p i r) (b : Below w.heap.size w w') : RowAt w' p i r := by
  obtain ⟨h1, h2, h3, a, cap, h4, h5⟩ := h
  exact ⟨(b.cell (p := ⟨p, i * 4, none⟩) (cell_lt h1)).trans h1, (b.cell (p := ⟨p, i * 4 + 1, none⟩) (cell_lt h2)).trans h2, (b.cell (p := ⟨p, i * 4 + 2, none⟩) (cell_lt h3)).trans h3, a, cap, (b.cell (p := ⟨p, i * 4 + 3, none⟩) (cell_lt h4)).trans h4, h5.below b⟩
def V (b : Nat) (c : List Int) : Kind → Value → World → Prop
  | .base, v, w => v = .pointer (some ⟨b, 0, Option.none⟩) ∧ Box w b c
  | .addr j, v, w => v = .pointer (some ⟨b, j, Option.none⟩) ∧ Box w b c
  | .num j, v, _ => v = .int .i64 (G c j)
  | .ints k, v, w => ∃ a cap, v = .slice a (rowC c k).nums.length cap ∧ IntsAt .i64 w a (rowC c k).nums
  | .row k, v, w => ∃ a cap, v = .agg #[.string (rowC c k).name, .int .i64 (rowC c k).lo, .int .i64 (rowC c k).hi, .slice a (rowC c k).nums.length cap] ∧ IntsAt .i64 w a (rowC c k).nums
  | .all, v, w => ∃ p, v = .slice (some ⟨p, 0, Option.none⟩) 19 19 ∧ ∀ i, i < 19 → RowAt w p i (rowC c i)
  | .none, _, _ => True
theorem V.on {b : Nat} {c : List Int} {k : Kind} {v : Value} {w w' : World} (h : V b c k v w) (hb : Below w.heap.size w w') : V b c k v w' := by
  cases k with
  | base => exact ⟨h.1, h.2.on hb⟩
  | addr j => exact ⟨h.1, h.2.on hb⟩
  | num j => exact h
  | ints k => obtain ⟨a, cap, e, i⟩ := h; exact ⟨a, cap, e, i.below hb⟩
  | row k => obtain ⟨a, cap, e, i⟩ := h; exact ⟨a, cap, e, i.below hb⟩
  | all => obtain ⟨p, e, i⟩ := h; exact ⟨p, e, fun j hj => (i j hj).on hb⟩
  | none => trivial
section
variable {b : Nat} {c : List Int} {Q : Exit → Act → World → Prop}
open Flow
set_option maxRecDepth 100000 in
theorem step_addr {d : Tmp} {j : Nat} {ty : TypeId} {pos : String} {after : Array Edge} (hd : sk d = .addr j) (hj : j < 17) :
    Step Try.prog (fun t => V b c (sk t)) Q ⟨some d, .fieldAddr 24 (.tmp 1) j, ty, pos, after, none⟩ := by
  intro a w h
  obtain ⟨e, hb⟩ : V b c .base (a.tmps.getD 1 undef) w := h 1 (List.Mem.head _)
  have e1 : a.eval (.tmp 1) = .pointer (some ⟨b, 0, none⟩) := e
  obtain rfl | rfl | rfl | rfl | rfl | rfl | rfl | rfl | rfl | rfl | rfl | rfl | rfl | rfl | rfl | rfl | rfl : j = 0 ∨ j = 1 ∨ j = 2 ∨ j = 3 ∨ j = 4 ∨ j = 5 ∨ j = 6 ∨ j = 7 ∨ j = 8 ∨ j = 9 ∨ j = 10 ∨ j = 11 ∨ j = 12 ∨ j = 13 ∨ j = 14 ∨ j = 15 ∨ j = 16 := by omega
  all_goals
    unfold Oper.wp execOp
    simp only [e1]
    go_simp
    exact ⟨_, rfl, Below.refl _ _, rfl, hb⟩
theorem step_load {d t : Tmp} {j : Nat} {ty : TypeId} {pos : String} {after : Array Edge} (hc : c.length = 21) (hd : sk d = .num j) (ht : sk t = .addr j) (hj : j < 21) :
    Step Try.prog (fun t => V b c (sk t)) Q ⟨some d, .load 3 (.tmp t), ty, pos, after, none⟩ := by
  intro a w h
  have h1 := h t (List.Mem.head _)
  simp only [ht] at h1
  obtain ⟨e, hb⟩ := h1
  have e1 : a.eval (.tmp t) = .pointer (some ⟨b, j, none⟩) := e
  have hcell := hb.at hc j hj
  unfold Oper.wp execOp
  simp only [e1]
  go_simp
  exact ⟨_, rfl, Below.refl _ _, rfl⟩
theorem step_one {d t : Tmp} {j : Nat} {ty : TypeId} {pos : String} {after : Array Edge} (hd : sk d = .ints j) (ht : sk t = .num j) (hj : (rowC c j).nums = [G c j]) :
    Step Try.prog (fun t => V b c (sk t)) Q ⟨some d, .buildSlice 110 1 #[(0, .tmp t)], ty, pos, after, none⟩ := by
  intro a w h
  have h1 := h t (List.Mem.head _)
  simp only [ht] at h1
  have e1 : a.eval (.tmp t) = .int .i64 (G c j) := h1
  have hj' := Lib.hid hj
  clear hj
  unfold Oper.wp execOp
  simp only [e1, List.map_toArray, List.map_cons, List.map_nil]
  go_simp
  refine ⟨_, rfl, (Below.refl _ _).alloc (Nat.le_refl _) _, _, 1, by rw [hj'.out]; rfl, ?_⟩
  rw [hj'.out]
  exact ints1 w _ _
theorem step_move {d t : Tmp} {k : Kind} {ty : TypeId} {pos : String} {after : Array Edge} (hd : sk d = k) (ht : sk t = k) :
    Step Try.prog (fun t => V b c (sk t)) Q ⟨some d, .move (.tmp t), ty, pos, after, none⟩ := by
  intro a w h
  have h1 := h t (List.Mem.head _)
  refine ⟨_, rfl, Below.refl _ _, fun d' hd' => ?_⟩
  cases hd'
  simp only [hd]; simp only [ht] at h1; exact h1
theorem step_assign {d t : Tmp} {k : Kind} {ty : TypeId} {pos : String} {after : Array Edge} (hd : sk d = k) (ht : sk t = k) :
    Step Try.prog (fun t => V b c (sk t)) Q ⟨some d, .assign (.tmp t), ty, pos, after, none⟩ := by
  intro a w h
  have h1 := h t (List.Mem.head _)
  refine ⟨_, rfl, Below.refl _ _, fun d' hd' => ?_⟩
  cases hd'
  simp only [hd]; simp only [ht] at h1; exact h1
abbrev bOp (s : ByteArray) (x y : Operand) (t : Tmp) : Op := .call { callee := .value (.func 80), args := #[.const (.string s), x, y, .tmp t], argTypes := #[9, 3, 3, 110] }
/-- An operand that is a number. -/
def Num (c : List Int) (x : Operand) (l : Int) : Prop := x = .const (.int .i64 l) ∨ ∃ t j, x = .tmp t ∧ sk t = .num j ∧ G c j = l
theorem step_call {d t : Tmp} {k : Nat} {s : ByteArray} {x y : Operand} {ty : TypeId} {pos : String} {after : Array Edge} (hd : sk d = .row k) (ht : sk t = .ints k) (hs : (rowC c k).name = s)
    (hx : Num c x (rowC c k).lo) (hy : Num c y (rowC c k).hi) : Step Try.prog (fun t => V b c (sk t)) Q ⟨some d, bOp s x y t, ty, pos, after, none⟩ := by
  intro a w h
  have hm : ∀ u, x = .tmp u ∨ y = .tmp u ∨ u = t → u ∈ looks ⟨some d, bOp s x y t, ty, pos, after, none⟩ := by
    intro u hu
    simp only [looks, List.mem_filterMap]
    refine ⟨.tmp u, ?_, rfl⟩
    show Operand.tmp u ∈ [Operand.func 80, .const (.string s), x, y, .tmp t]
    rcases hu with rfl | rfl | rfl <;> simp
  have h1 := h t (hm t (Or.inr (Or.inr rfl)))
  simp only [ht] at h1
  have e1 : a.eval x = .int .i64 (rowC c k).lo := by
    rcases hx with rfl | ⟨u, j, rfl, q1, q2⟩
    · rfl
    · have := h u (hm u (Or.inl rfl)); simp only [q1] at this; rw [← q2]; exact this
  have e2 : a.eval y = .int .i64 (rowC c k).hi := by
    rcases hy with rfl | ⟨u, j, rfl, q1, q2⟩
    · rfl
    · have := h u (hm u (Or.inr (Or.inl rfl))); simp only [q1] at this; rw [← q2]; exact this
  obtain ⟨ad, cap, e3, hi⟩ := h1
  have e3 : a.eval (.tmp t) = _ := e3
  subst hs
  clear hx hy h hm
  unfold Oper.wp execOp
  simp only [resolve, e1, e2, e3, List.map_toArray, List.map_cons, List.map_nil]
  go_simp
  refine (bound_any _ _ _ _ _ _ _).mono ?_
  rintro e w' ⟨rfl, hb⟩
  exact ⟨_, rfl, hb, _, _, rfl, hi.below hb⟩
theorem run_buildRows {P : Program} {t e : TypeId} {len : Nat} {parts : Array (Nat × Value)} {z : Value} {cells : Array Value} (w : World) (hu : P.underlying t = some (.slice e)) (hi : (P.info? e).map (fun i => (i.zero, i.size)) = some (some z, 4)) (hl : 0 < len ∧ len ≤ 4194304)
    (hf : Instr.fill (fun i => some (i * 4, 4)) ((Array.range (len * 4)).map (z.cells[· % z.cells.size]!)) parts.toList = some cells) :
    (Instr.buildSlice t len parts).run P w = .ok (.slice (some ⟨w.heap.size, 0, none⟩) len len) (w.alloc (.cells cells e)) := by
  cases hq : P.info? e with
  | none => simp [hq] at hi
  | some i =>
    simp [hq] at hi
    obtain ⟨h1, h2⟩ := hi
    have n1 : ¬ 16777216 < len * 4 := by omega
    simp [Instr.buildSlice, run_underlying hu, sizeOf, typeInfo, zeroValue, hq, h1, h2, n1, hf, newRow]
    omega
theorem zeroF : (Try.prog.info? 125).map (fun i => (i.zero, i.size)) = some (some (.agg #[.string ⟨#[]⟩, .int .i64 0, .int .i64 0, .slice none 0 0]), 4) := by kernel_rfl
def allParts : Array (Nat × Operand) := #[(0, .tmp 13), (1, .tmp 17), (2, .tmp 23), (3, .tmp 31), (4, .tmp 35), (5, .tmp 39), (6, .tmp 43), (7, .tmp 47), (8, .tmp 51), (9, .tmp 55), (10, .tmp 59), (11, .tmp 63), (12, .tmp 67), (13, .tmp 71), (14, .tmp 75), (15, .tmp 79), (16, .tmp 83), (17, .tmp 85), (18, .tmp 87)]
set_option maxRecDepth 100000 in
theorem step_all {ty : TypeId} {pos : String} {after : Array Edge} : Step Try.prog (fun t => V b c (sk t)) Q ⟨some 88, .buildSlice 122 19 allParts, ty, pos, after, none⟩ := by
  intro a w h
  have hm : ∀ u, u ∈ [13, 17, 23, 31, 35, 39, 43, 47, 51, 55, 59, 63, 67, 71, 75, 79, 83, 85, 87] → u ∈ looks ⟨some 88, .buildSlice 122 19 allParts, ty, pos, after, none⟩ := fun u hu => hu
  obtain ⟨a0, k0, e0, i0⟩ : V b c (.row 0) (a.tmps.getD 13 undef) w := h 13 (hm 13 (by decide))
  obtain ⟨a1, k1, e1, i1⟩ : V b c (.row 1) (a.tmps.getD 17 undef) w := h 17 (hm 17 (by decide))
  obtain ⟨a2, k2, e2, i2⟩ : V b c (.row 2) (a.tmps.getD 23 undef) w := h 23 (hm 23 (by decide))
  obtain ⟨a3, k3, e3, i3⟩ : V b c (.row 3) (a.tmps.getD 31 undef) w := h 31 (hm 31 (by decide))
  obtain ⟨a4, k4, e4, i4⟩ : V b c (.row 4) (a.tmps.getD 35 undef) w := h 35 (hm 35 (by decide))
  obtain ⟨a5, k5, e5, i5⟩ : V b c (.row 5) (a.tmps.getD 39 undef) w := h 39 (hm 39 (by decide))
  obtain ⟨a6, k6, e6, i6⟩ : V b c (.row 6) (a.tmps.getD 43 undef) w := h 43 (hm 43 (by decide))
  obtain ⟨a7, k7, e7, i7⟩ : V b c (.row 7) (a.tmps.getD 47 undef) w := h 47 (hm 47 (by decide))
  obtain ⟨a8, k8, e8, i8⟩ : V b c (.row 8) (a.tmps.getD 51 undef) w := h 51 (hm 51 (by decide))
  obtain ⟨a9, k9, e9, i9⟩ : V b c (.row 9) (a.tmps.getD 55 undef) w := h 55 (hm 55 (by decide))
  obtain ⟨a10, k10, e10, i10⟩ : V b c (.row 10) (a.tmps.getD 59 undef) w := h 59 (hm 59 (by decide))
  obtain ⟨a11, k11, e11, i11⟩ : V b c (.row 11) (a.tmps.getD 63 undef) w := h 63 (hm 63 (by decide))
  obtain ⟨a12, k12, e12, i12⟩ : V b c (.row 12) (a.tmps.getD 67 undef) w := h 67 (hm 67 (by decide))
  obtain ⟨a13, k13, e13, i13⟩ : V b c (.row 13) (a.tmps.getD 71 undef) w := h 71 (hm 71 (by decide))
  obtain ⟨a14, k14, e14, i14⟩ : V b c (.row 14) (a.tmps.getD 75 undef) w := h 75 (hm 75 (by decide))
  obtain ⟨a15, k15, e15, i15⟩ : V b c (.row 15) (a.tmps.getD 79 undef) w := h 79 (hm 79 (by decide))
  obtain ⟨a16, k16, e16, i16⟩ : V b c (.row 16) (a.tmps.getD 83 undef) w := h 83 (hm 83 (by decide))
  obtain ⟨a17, k17, e17, i17⟩ : V b c (.row 17) (a.tmps.getD 85 undef) w := h 85 (hm 85 (by decide))
  obtain ⟨a18, k18, e18, i18⟩ : V b c (.row 18) (a.tmps.getD 87 undef) w := h 87 (hm 87 (by decide))
  have hp : (allParts.map fun (i, x) => (i, a.eval x)) = #[(0, .agg #[.string (rowC c 0).name, .int .i64 (rowC c 0).lo, .int .i64 (rowC c 0).hi, .slice a0 (rowC c 0).nums.length k0]), (1, .agg #[.string (rowC c 1).name, .int .i64 (rowC c 1).lo, .int .i64 (rowC c 1).hi, .slice a1 (rowC c 1).nums.length k1]), (2, .agg #[.string (rowC c 2).name, .int .i64 (rowC c 2).lo, .int .i64 (rowC c 2).hi, .slice a2 (rowC c 2).nums.length k2]), (3, .agg #[.string (rowC c 3).name, .int .i64 (rowC c 3).lo, .int .i64 (rowC c 3).hi, .slice a3 (rowC c 3).nums.length k3]), (4, .agg #[.string (rowC c 4).name, .int .i64 (rowC c 4).lo, .int .i64 (rowC c 4).hi, .slice a4 (rowC c 4).nums.length k4]), (5, .agg #[.string (rowC c 5).name, .int .i64 (rowC c 5).lo, .int .i64 (rowC c 5).hi, .slice a5 (rowC c 5).nums.length k5]), (6, .agg #[.string (rowC c 6).name, .int .i64 (rowC c 6).lo, .int .i64 (rowC c 6).hi, .slice a6 (rowC c 6).nums.length k6]), (7, .agg #[.string (rowC c 7).name, .int .i64 (rowC c 7).lo, .int .i64 (rowC c 7).hi, .slice a7 (rowC c 7).nums.length k7]), (8, .agg #[.string (rowC c 8).name, .int .i64 (rowC c 8).lo, .int .i64 (rowC c 8).hi, .slice a8 (rowC c 8).nums.length k8]), (9, .agg #[.string (rowC c 9).name, .int .i64 (rowC c 9).lo, .int .i64 (rowC c 9).hi, .slice a9 (rowC c 9).nums.length k9]), (10, .agg #[.string (rowC c 10).name, .int .i64 (rowC c 10).lo, .int .i64 (rowC c 10).hi, .slice a10 (rowC c 10).nums.length k10]), (11, .agg #[.string (rowC c 11).name, .int .i64 (rowC c 11).lo, .int .i64 (rowC c 11).hi, .slice a11 (rowC c 11).nums.length k11]), (12, .agg #[.string (rowC c 12).name, .int .i64 (rowC c 12).lo, .int .i64 (rowC c 12).hi, .slice a12 (rowC c 12).nums.length k12]), (13, .agg #[.string (rowC c 13).name, .int .i64 (rowC c 13).lo, .int .i64 (rowC c 13).hi, .slice a13 (rowC c 13).nums.length k13]), (14, .agg #[.string (rowC c 14).name, .int .i64 (rowC c 14).lo, .int .i64 (rowC c 14).hi, .slice a14 (rowC c 14).nums.length k14]), (15, .agg #[.string (rowC c 15).name, .int .i64 (rowC c 15).lo, .int .i64 (rowC c 15).hi, .slice a15 (rowC c 15).nums.length k15]), (16, .agg #[.string (rowC c 16).name, .int .i64 (rowC c 16).lo, .int .i64 (rowC c 16).hi, .slice a16 (rowC c 16).nums.length k16]), (17, .agg #[.string (rowC c 17).name, .int .i64 (rowC c 17).lo, .int .i64 (rowC c 17).hi, .slice a17 (rowC c 17).nums.length k17]), (18, .agg #[.string (rowC c 18).name, .int .i64 (rowC c 18).lo, .int .i64 (rowC c 18).hi, .slice a18 (rowC c 18).nums.length k18])] := by
    have e0 : a.eval (.tmp 13) = _ := e0
    have e1 : a.eval (.tmp 17) = _ := e1
    have e2 : a.eval (.tmp 23) = _ := e2
    have e3 : a.eval (.tmp 31) = _ := e3
    have e4 : a.eval (.tmp 35) = _ := e4
    have e5 : a.eval (.tmp 39) = _ := e5
    have e6 : a.eval (.tmp 43) = _ := e6
    have e7 : a.eval (.tmp 47) = _ := e7
    have e8 : a.eval (.tmp 51) = _ := e8
    have e9 : a.eval (.tmp 55) = _ := e9
    have e10 : a.eval (.tmp 59) = _ := e10
    have e11 : a.eval (.tmp 63) = _ := e11
    have e12 : a.eval (.tmp 67) = _ := e12
    have e13 : a.eval (.tmp 71) = _ := e13
    have e14 : a.eval (.tmp 75) = _ := e14
    have e15 : a.eval (.tmp 79) = _ := e15
    have e16 : a.eval (.tmp 83) = _ := e16
    have e17 : a.eval (.tmp 85) = _ := e17
    have e18 : a.eval (.tmp 87) = _ := e18
    simp only [allParts, List.map_toArray, List.map_cons, List.map_nil, e0, e1, e2, e3, e4, e5, e6, e7, e8, e9, e10, e11, e12, e13, e14, e15, e16, e17, e18]
  unfold Oper.wp execOp
  simp only [hp]
  rw [Sem.run_bind, run_buildRows w Try.underlying122 zeroF (by omega) (cells := #[.string (rowC c 0).name, .int .i64 (rowC c 0).lo, .int .i64 (rowC c 0).hi, .slice a0 (rowC c 0).nums.length k0, .string (rowC c 1).name, .int .i64 (rowC c 1).lo, .int .i64 (rowC c 1).hi, .slice a1 (rowC c 1).nums.length k1, .string (rowC c 2).name, .int .i64 (rowC c 2).lo, .int .i64 (rowC c 2).hi, .slice a2 (rowC c 2).nums.length k2, .string (rowC c 3).name, .int .i64 (rowC c 3).lo, .int .i64 (rowC c 3).hi, .slice a3 (rowC c 3).nums.length k3, .string (rowC c 4).name, .int .i64 (rowC c 4).lo, .int .i64 (rowC c 4).hi, .slice a4 (rowC c 4).nums.length k4, .string (rowC c 5).name, .int .i64 (rowC c 5).lo, .int .i64 (rowC c 5).hi, .slice a5 (rowC c 5).nums.length k5, .string (rowC c 6).name, .int .i64 (rowC c 6).lo, .int .i64 (rowC c 6).hi, .slice a6 (rowC c 6).nums.length k6, .string (rowC c 7).name, .int .i64 (rowC c 7).lo, .int .i64 (rowC c 7).hi, .slice a7 (rowC c 7).nums.length k7, .string (rowC c 8).name, .int .i64 (rowC c 8).lo, .int .i64 (rowC c 8).hi, .slice a8 (rowC c 8).nums.length k8, .string (rowC c 9).name, .int .i64 (rowC c 9).lo, .int .i64 (rowC c 9).hi, .slice a9 (rowC c 9).nums.length k9, .string (rowC c 10).name, .int .i64 (rowC c 10).lo, .int .i64 (rowC c 10).hi, .slice a10 (rowC c 10).nums.length k10, .string (rowC c 11).name, .int .i64 (rowC c 11).lo, .int .i64 (rowC c 11).hi, .slice a11 (rowC c 11).nums.length k11, .string (rowC c 12).name, .int .i64 (rowC c 12).lo, .int .i64 (rowC c 12).hi, .slice a12 (rowC c 12).nums.length k12, .string (rowC c 13).name, .int .i64 (rowC c 13).lo, .int .i64 (rowC c 13).hi, .slice a13 (rowC c 13).nums.length k13, .string (rowC c 14).name, .int .i64 (rowC c 14).lo, .int .i64 (rowC c 14).hi, .slice a14 (rowC c 14).nums.length k14, .string (rowC c 15).name, .int .i64 (rowC c 15).lo, .int .i64 (rowC c 15).hi, .slice a15 (rowC c 15).nums.length k15, .string (rowC c 16).name, .int .i64 (rowC c 16).lo, .int .i64 (rowC c 16).hi, .slice a16 (rowC c 16).nums.length k16, .string (rowC c 17).name, .int .i64 (rowC c 17).lo, .int .i64 (rowC c 17).hi, .slice a17 (rowC c 17).nums.length k17, .string (rowC c 18).name, .int .i64 (rowC c 18).lo, .int .i64 (rowC c 18).hi, .slice a18 (rowC c 18).nums.length k18]) (by kernel_rfl)]
  refine ⟨_, rfl, (Below.refl _ _).alloc (Nat.le_refl _) _, fun d hd => ?_⟩
  cases hd
  have bw := (Below.refl w.heap.size w).alloc (Nat.le_refl _) (.cells #[.string (rowC c 0).name, .int .i64 (rowC c 0).lo, .int .i64 (rowC c 0).hi, .slice a0 (rowC c 0).nums.length k0, .string (rowC c 1).name, .int .i64 (rowC c 1).lo, .int .i64 (rowC c 1).hi, .slice a1 (rowC c 1).nums.length k1, .string (rowC c 2).name, .int .i64 (rowC c 2).lo, .int .i64 (rowC c 2).hi, .slice a2 (rowC c 2).nums.length k2, .string (rowC c 3).name, .int .i64 (rowC c 3).lo, .int .i64 (rowC c 3).hi, .slice a3 (rowC c 3).nums.length k3, .string (rowC c 4).name, .int .i64 (rowC c 4).lo, .int .i64 (rowC c 4).hi, .slice a4 (rowC c 4).nums.length k4, .string (rowC c 5).name, .int .i64 (rowC c 5).lo, .int .i64 (rowC c 5).hi, .slice a5 (rowC c 5).nums.length k5, .string (rowC c 6).name, .int .i64 (rowC c 6).lo, .int .i64 (rowC c 6).hi, .slice a6 (rowC c 6).nums.length k6, .string (rowC c 7).name, .int .i64 (rowC c 7).lo, .int .i64 (rowC c 7).hi, .slice a7 (rowC c 7).nums.length k7, .string (rowC c 8).name, .int .i64 (rowC c 8).lo, .int .i64 (rowC c 8).hi, .slice a8 (rowC c 8).nums.length k8, .string (rowC c 9).name, .int .i64 (rowC c 9).lo, .int .i64 (rowC c 9).hi, .slice a9 (rowC c 9).nums.length k9, .string (rowC c 10).name, .int .i64 (rowC c 10).lo, .int .i64 (rowC c 10).hi, .slice a10 (rowC c 10).nums.length k10, .string (rowC c 11).name, .int .i64 (rowC c 11).lo, .int .i64 (rowC c 11).hi, .slice a11 (rowC c 11).nums.length k11, .string (rowC c 12).name, .int .i64 (rowC c 12).lo, .int .i64 (rowC c 12).hi, .slice a12 (rowC c 12).nums.length k12, .string (rowC c 13).name, .int .i64 (rowC c 13).lo, .int .i64 (rowC c 13).hi, .slice a13 (rowC c 13).nums.length k13, .string (rowC c 14).name, .int .i64 (rowC c 14).lo, .int .i64 (rowC c 14).hi, .slice a14 (rowC c 14).nums.length k14, .string (rowC c 15).name, .int .i64 (rowC c 15).lo, .int .i64 (rowC c 15).hi, .slice a15 (rowC c 15).nums.length k15, .string (rowC c 16).name, .int .i64 (rowC c 16).lo, .int .i64 (rowC c 16).hi, .slice a16 (rowC c 16).nums.length k16, .string (rowC c 17).name, .int .i64 (rowC c 17).lo, .int .i64 (rowC c 17).hi, .slice a17 (rowC c 17).nums.length k17, .string (rowC c 18).name, .int .i64 (rowC c 18).lo, .int .i64 (rowC c 18).hi, .slice a18 (rowC c 18).nums.length k18] 125)
  have hg := heap_alloc_new w (.cells #[.string (rowC c 0).name, .int .i64 (rowC c 0).lo, .int .i64 (rowC c 0).hi, .slice a0 (rowC c 0).nums.length k0, .string (rowC c 1).name, .int .i64 (rowC c 1).lo, .int .i64 (rowC c 1).hi, .slice a1 (rowC c 1).nums.length k1, .string (rowC c 2).name, .int .i64 (rowC c 2).lo, .int .i64 (rowC c 2).hi, .slice a2 (rowC c 2).nums.length k2, .string (rowC c 3).name, .int .i64 (rowC c 3).lo, .int .i64 (rowC c 3).hi, .slice a3 (rowC c 3).nums.length k3, .string (rowC c 4).name, .int .i64 (rowC c 4).lo, .int .i64 (rowC c 4).hi, .slice a4 (rowC c 4).nums.length k4, .string (rowC c 5).name, .int .i64 (rowC c 5).lo, .int .i64 (rowC c 5).hi, .slice a5 (rowC c 5).nums.length k5, .string (rowC c 6).name, .int .i64 (rowC c 6).lo, .int .i64 (rowC c 6).hi, .slice a6 (rowC c 6).nums.length k6, .string (rowC c 7).name, .int .i64 (rowC c 7).lo, .int .i64 (rowC c 7).hi, .slice a7 (rowC c 7).nums.length k7, .string (rowC c 8).name, .int .i64 (rowC c 8).lo, .int .i64 (rowC c 8).hi, .slice a8 (rowC c 8).nums.length k8, .string (rowC c 9).name, .int .i64 (rowC c 9).lo, .int .i64 (rowC c 9).hi, .slice a9 (rowC c 9).nums.length k9, .string (rowC c 10).name, .int .i64 (rowC c 10).lo, .int .i64 (rowC c 10).hi, .slice a10 (rowC c 10).nums.length k10, .string (rowC c 11).name, .int .i64 (rowC c 11).lo, .int .i64 (rowC c 11).hi, .slice a11 (rowC c 11).nums.length k11, .string (rowC c 12).name, .int .i64 (rowC c 12).lo, .int .i64 (rowC c 12).hi, .slice a12 (rowC c 12).nums.length k12, .string (rowC c 13).name, .int .i64 (rowC c 13).lo, .int .i64 (rowC c 13).hi, .slice a13 (rowC c 13).nums.length k13, .string (rowC c 14).name, .int .i64 (rowC c 14).lo, .int .i64 (rowC c 14).hi, .slice a14 (rowC c 14).nums.length k14, .string (rowC c 15).name, .int .i64 (rowC c 15).lo, .int .i64 (rowC c 15).hi, .slice a15 (rowC c 15).nums.length k15, .string (rowC c 16).name, .int .i64 (rowC c 16).lo, .int .i64 (rowC c 16).hi, .slice a16 (rowC c 16).nums.length k16, .string (rowC c 17).name, .int .i64 (rowC c 17).lo, .int .i64 (rowC c 17).hi, .slice a17 (rowC c 17).nums.length k17, .string (rowC c 18).name, .int .i64 (rowC c 18).lo, .int .i64 (rowC c 18).hi, .slice a18 (rowC c 18).nums.length k18] 125)
  refine ⟨_, rfl, fun i hi => ?_⟩
  obtain rfl | rfl | rfl | rfl | rfl | rfl | rfl | rfl | rfl | rfl | rfl | rfl | rfl | rfl | rfl | rfl | rfl | rfl | rfl : i = 0 ∨ i = 1 ∨ i = 2 ∨ i = 3 ∨ i = 4 ∨ i = 5 ∨ i = 6 ∨ i = 7 ∨ i = 8 ∨ i = 9 ∨ i = 10 ∨ i = 11 ∨ i = 12 ∨ i = 13 ∨ i = 14 ∨ i = 15 ∨ i = 16 ∨ i = 17 ∨ i = 18 := by omega
  · exact ⟨(cell_of_row _ _ _ _ _ _ hg).trans rfl, (cell_of_row _ _ _ _ _ _ hg).trans rfl, (cell_of_row _ _ _ _ _ _ hg).trans rfl, _, _, (cell_of_row _ _ _ _ _ _ hg).trans rfl, i0.below bw⟩
  · exact ⟨(cell_of_row _ _ _ _ _ _ hg).trans rfl, (cell_of_row _ _ _ _ _ _ hg).trans rfl, (cell_of_row _ _ _ _ _ _ hg).trans rfl, _, _, (cell_of_row _ _ _ _ _ _ hg).trans rfl, i1.below bw⟩
  · exact ⟨(cell_of_row _ _ _ _ _ _ hg).trans rfl, (cell_of_row _ _ _ _ _ _ hg).trans rfl, (cell_of_row _ _ _ _ _ _ hg).trans rfl, _, _, (cell_of_row _ _ _ _ _ _ hg).trans rfl, i2.below bw⟩
  · exact ⟨(cell_of_row _ _ _ _ _ _ hg).trans rfl, (cell_of_row _ _ _ _ _ _ hg).trans rfl, (cell_of_row _ _ _ _ _ _ hg).trans rfl, _, _, (cell_of_row _ _ _ _ _ _ hg).trans rfl, i3.below bw⟩
  · exact ⟨(cell_of_row _ _ _ _ _ _ hg).trans rfl, (cell_of_row _ _ _ _ _ _ hg).trans rfl, (cell_of_row _ _ _ _ _ _ hg).trans rfl, _, _, (cell_of_row _ _ _ _ _ _ hg).trans rfl, i4.below bw⟩
  · exact ⟨(cell_of_row _ _ _ _ _ _ hg).trans rfl, (cell_of_row _ _ _ _ _ _ hg).trans rfl, (cell_of_row _ _ _ _ _ _ hg).trans rfl, _, _, (cell_of_row _ _ _ _ _ _ hg).trans rfl, i5.below bw⟩
  · exact ⟨(cell_of_row _ _ _ _ _ _ hg).trans rfl, (cell_of_row _ _ _ _ _ _ hg).trans rfl, (cell_of_row _ _ _ _ _ _ hg).trans rfl, _, _, (cell_of_row _ _ _ _ _ _ hg).trans rfl, i6.below bw⟩
  · exact ⟨(cell_of_row _ _ _ _ _ _ hg).trans rfl, (cell_of_row _ _ _ _ _ _ hg).trans rfl, (cell_of_row _ _ _ _ _ _ hg).trans rfl, _, _, (cell_of_row _ _ _ _ _ _ hg).trans rfl, i7.below bw⟩
  · exact ⟨(cell_of_row _ _ _ _ _ _ hg).trans rfl, (cell_of_row _ _ _ _ _ _ hg).trans rfl, (cell_of_row _ _ _ _ _ _ hg).trans rfl, _, _, (cell_of_row _ _ _ _ _ _ hg).trans rfl, i8.below bw⟩
  · exact ⟨(cell_of_row _ _ _ _ _ _ hg).trans rfl, (cell_of_row _ _ _ _ _ _ hg).trans rfl, (cell_of_row _ _ _ _ _ _ hg).trans rfl, _, _, (cell_of_row _ _ _ _ _ _ hg).trans rfl, i9.below bw⟩
  · exact ⟨(cell_of_row _ _ _ _ _ _ hg).trans rfl, (cell_of_row _ _ _ _ _ _ hg).trans rfl, (cell_of_row _ _ _ _ _ _ hg).trans rfl, _, _, (cell_of_row _ _ _ _ _ _ hg).trans rfl, i10.below bw⟩
  · exact ⟨(cell_of_row _ _ _ _ _ _ hg).trans rfl, (cell_of_row _ _ _ _ _ _ hg).trans rfl, (cell_of_row _ _ _ _ _ _ hg).trans rfl, _, _, (cell_of_row _ _ _ _ _ _ hg).trans rfl, i11.below bw⟩
  · exact ⟨(cell_of_row _ _ _ _ _ _ hg).trans rfl, (cell_of_row _ _ _ _ _ _ hg).trans rfl, (cell_of_row _ _ _ _ _ _ hg).trans rfl, _, _, (cell_of_row _ _ _ _ _ _ hg).trans rfl, i12.below bw⟩
  · exact ⟨(cell_of_row _ _ _ _ _ _ hg).trans rfl, (cell_of_row _ _ _ _ _ _ hg).trans rfl, (cell_of_row _ _ _ _ _ _ hg).trans rfl, _, _, (cell_of_row _ _ _ _ _ _ hg).trans rfl, i13.below bw⟩
  · exact ⟨(cell_of_row _ _ _ _ _ _ hg).trans rfl, (cell_of_row _ _ _ _ _ _ hg).trans rfl, (cell_of_row _ _ _ _ _ _ hg).trans rfl, _, _, (cell_of_row _ _ _ _ _ _ hg).trans rfl, i14.below bw⟩
  · exact ⟨(cell_of_row _ _ _ _ _ _ hg).trans rfl, (cell_of_row _ _ _ _ _ _ hg).trans rfl, (cell_of_row _ _ _ _ _ _ hg).trans rfl, _, _, (cell_of_row _ _ _ _ _ _ hg).trans rfl, i15.below bw⟩
  · exact ⟨(cell_of_row _ _ _ _ _ _ hg).trans rfl, (cell_of_row _ _ _ _ _ _ hg).trans rfl, (cell_of_row _ _ _ _ _ _ hg).trans rfl, _, _, (cell_of_row _ _ _ _ _ _ hg).trans rfl, i16.below bw⟩
  · exact ⟨(cell_of_row _ _ _ _ _ _ hg).trans rfl, (cell_of_row _ _ _ _ _ _ hg).trans rfl, (cell_of_row _ _ _ _ _ _ hg).trans rfl, _, _, (cell_of_row _ _ _ _ _ _ hg).trans rfl, i17.below bw⟩
  · exact ⟨(cell_of_row _ _ _ _ _ _ hg).trans rfl, (cell_of_row _ _ _ _ _ _ hg).trans rfl, (cell_of_row _ _ _ _ _ _ hg).trans rfl, _, _, (cell_of_row _ _ _ _ _ _ hg).trans rfl, i18.below bw⟩
theorem forall_cons {α : Type} {p : α → Prop} {x : α} {l : List α} (h : p x) (k : ∀ o ∈ l, p o) : ∀ o ∈ x :: l, p o := by
  intro o ho
  rcases List.mem_cons.1 ho with rfl | ho
  · exact h
  · exact k o ho
set_option maxHeartbeats 3200000 in
set_option maxRecDepth 100000 in
theorem steps (hc : c.length = 21) : ∀ o ∈ fOps.toList, Step Try.prog (fun t => V b c (sk t)) Q o := by
  repeat (refine forall_cons ?_ ?_; focus first
    | exact step_addr rfl (by decide)
    | exact step_load hc rfl rfl (by decide)
    | exact step_one rfl rfl rfl
    | exact step_move rfl rfl
    | exact step_assign rfl rfl
    | exact step_call rfl rfl rfl (Or.inl rfl) (Or.inl rfl)
    | exact step_call rfl rfl rfl (Or.inr ⟨_, _, rfl, rfl, rfl⟩) (Or.inl rfl)
    | exact step_call rfl rfl rfl (Or.inr ⟨_, _, rfl, rfl, rfl⟩) (Or.inr ⟨_, _, rfl, rfl, rfl⟩)
    | exact step_all)
  intro o ho; cases ho
end
end Cf
end Go.Proofs.Ytchnnpaebggfdaa
