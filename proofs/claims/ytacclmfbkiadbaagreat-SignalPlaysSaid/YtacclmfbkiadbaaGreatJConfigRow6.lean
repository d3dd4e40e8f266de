/-
  What bound, weights and fields of package config do: their contracts by walking the Go text. No conditions.
  What fields of package config does: its contract by walking the Go text, its region that draws by the law of Flow. No conditions.
  What Fault and Right of package config do: their contracts by walking the Go text. No conditions.
  What Covers of package config does: its contract by walking the Go text. Conditions: the numbers' kinds.
  What the walks of layer 18's laws have in common: whole structs loaded in a region that draws, sizes, masks of four. No function of the program is walked here. No conditions.
  SignalNear in numbers: the least and the greatest of who is in, the value near them, that who is not in has a trip. Mathematics alone. No conditions.
-/
import Derived.Test.YtacclmfbkiadbaaGreatJLatchMath8
import Derived.Deep.RegionWith
import Derived.Deep.DeepCutAuto
import Derived.Deep.RegionHeld
import Derived.Deep.LoopGhost
import Derived.WalkMore
namespace Go.Proofs.YtacclmfbkiadbaaGreat
set_option maxRecDepth 100000
open Go.ChangeShapes Go.WideShapes Go.ChangeAt Go.RowKit Go.Deep
namespace Cf
theorem bound_any (s : ByteArray) (l h : Int) (a : Option Addr) (n cap : Nat) (w : World) :
    Calls Tryz.prog 119 #[.string s, .int .i64 l, .int .i64 h, .slice a n cap] w fun e w' => e = .returned (.agg #[.string s, .int .i64 l, .int .i64 h, .slice a n cap]) ∧ Below w.heap.size w w' := by
  go_enter Tryz.func119, Tryz.ntmps119
  go_wp2
  refine bodyPost_ret (v := .agg #[.string s, .int .i64 l, .int .i64 h, .slice a n cap]) ?_ rfl ⟨rfl, (Below.refl _ _).alloc (Nat.le_refl _) _⟩
  exact results_cell_row rfl _ _ w.heap.size _ _ (0, 0) _ rfl (heap_alloc_new w _) Tryz.underlying155 rfl (by kernel_rfl)
/-- A configuration's box. -/
def Box (w : World) (b : Nat) (c : List Int) : Prop := IRow .i64 w b 24 c
theorem Box.new (w : World) (c : List Int) : Box (w.alloc (.cells (CA c) 24)) w.heap.size c := heap_alloc_new w _
theorem Box.lt {w : World} {b : Nat} {c : List Int} (h : Box w b c) : b < w.heap.size := IRow.lt h
theorem Box.at {w : World} {b : Nat} {c : List Int} (h : Box w b c) (hc : c.length = 21) (j : Nat) (hj : j < 21) : w.cell? ⟨b, j, none⟩ = some (.int .i64 (G c j)) := IRow.cell h j (by omega)
theorem Box.below {w w' : World} {b B : Nat} {c : List Int} (h : Box w b c) (hb : Below B w w') (hg : b < B) : Box w' b c := IRow.below h hb hg
theorem Box.on {w w' : World} {b : Nat} {c : List Int} (h : Box w b c) (hb : Below w.heap.size w w') : Box w' b c := h.below hb h.lt
theorem sizeC : (Tryz.prog.info? 24).map (·.size) = some 21 := by kernel_rfl
/-- A whole configuration loaded. -/
theorem wpList_loadC {ops : Array Oper} {rest : List Oper} {o : Oper} {a : Act} {w : World} {Q : Exit → Act → World → Prop} (hgd : o.guard = none) (x : Operand) (ho : o.op = .load 24 x)
    (b : Nat) (c : List Int) (hx : a.eval x = .pointer (some ⟨b, 0, none⟩)) (hb : Box w b c) (hc : c.length = 21)
    (h : wpList Tryz.prog ops Q rest (a.put o.dst (.agg (CA c))) w) : wpList Tryz.prog ops Q (o :: rest) a w :=
  wpList_load_row hgd 24 x ho b hx 24 (CA c) (0, 0) _ hb Tryz.underlying24 rfl (by rw [CA_size, hc]; exact sizeC) h
theorem ints1 (w : World) (t : TypeId) (x : Int) : IntsAt .i64 (w.alloc (.cells #[.int .i64 x] t)) (some ⟨w.heap.size, 0, none⟩) [x] := by
  refine Or.inr ⟨_, 0, rfl, ?_⟩
  intro i hi
  simp at hi
  subst hi
  simp [World.cell?_alloc_new]
theorem ints_off {w : World} {b : Nat} {c l : List Int} (h : Box w b c) (hc : c.length = 21) (o : Nat) (hl : ∀ i, i < l.length → o + i < 21 ∧ l.getD i 0 = G c (o + i)) : IntsAt .i64 w (some ⟨b, o, none⟩) l :=
  Or.inr ⟨b, o, rfl, fun i hi => by rw [(hl i hi).2]; exact h.at hc _ (hl i hi).1⟩
theorem weights_any (c : List Int) (w : World) (hc : c.length = 21) :
    Calls Tryz.prog 118 #[.agg (CA c)] w fun e w' => ∃ a0 k0 a1 k1, e = .returned (.tuple #[.slice a0 (own c).length k0, .slice a1 (others c).length k1]) ∧ IntsAt .i64 w' a0 (own c) ∧ IntsAt .i64 w' a1 (others c) ∧ Below w.heap.size w w' := by
  have B0 := Lib.hid (Box.new w c)
  have b0 := Lib.hid ((Below.refl w.heap.size w).alloc (Nat.le_refl _) (.cells (CA c) 24))
  have c0 := B0.out.at hc 0 (by omega)
  by_cases h4 : G c 0 = 4
  · have e1 : own c = [G c 17, G c 18, G c 19, G c 20] := by simp [own, h4]
    have e2 : others c = [] := by simp [others, h4]
    rw [e1, e2]
    have d0 : (G c 0 == 4) = true := by simp [h4]
    clear h4 e1 e2
    go_enter Tryz.func118, Tryz.ntmps118
    go_wp2_with fail
    go_quiet (fail)
    go_wp2_with fail
    go_ret2
    refine ⟨_, _, _, _, rfl, ?_, Or.inl rfl, ?_⟩
    · exact ints_off B0.out hc 17 (by intro i hi; simp at hi; rcases i with _ | _ | _ | _ | i <;> first | exact ⟨by omega, rfl⟩ | omega)
    · exact below_drewN b0.out _
  · have e1 : own c = [G c 17, G c 18, G c 19] := by simp [own, h4]
    have e2 : others c = [G c 20] := by simp [others, h4]
    rw [e1, e2]
    have d0 : (G c 0 == 4) = false := by simp [h4]
    clear h4 e1 e2
    go_enter Tryz.func118, Tryz.ntmps118
    go_wp2_with fail
    go_quiet (fail)
    go_wp2_with fail
    go_ret2
    refine ⟨_, _, _, _, rfl, ?_, ?_, ?_⟩
    · exact ints_off B0.out hc 17 (by intro i hi; simp at hi; rcases i with _ | _ | _ | i <;> first | exact ⟨by omega, rfl⟩ | omega)
    · exact ints_off B0.out hc 20 (by intro i hi; simp at hi; subst hi; exact ⟨by omega, rfl⟩)
    · exact below_drewN b0.out _
/-- The operations that lay the rows. -/
noncomputable def fOps : Array Oper := match (Tryz.f85).body with
  | some (.seq _ (.seq _ (.seq (.region _ ops _) _))) => ops
  | _ => #[]
theorem fOps_flow : Flow.flowB fOps [1, 3, 4] 89 = true := by kernel_rfl
/-- What a place of the frame holds. -/
inductive Kind where
  | base | addr (j : Nat) | num (j : Nat) | ints (k : Nat) | row (k : Nat) | all | none
def kinds : List Kind :=
  [.none, .base, .all, .ints 17, .ints 18, .none, .none, .none, .none, .none, .addr 0, .num 0, .ints 0, .row 0, .addr 1, .num 1, .ints 1, .row 1, .addr 1, .num 1, .addr 2, .num 2, .ints 2, .row 2, .addr 1, .num 1, .addr 2, .num 2, .addr 3, .num 3, .ints 3, .row 3,
   .addr 4, .num 4, .ints 4, .row 4, .addr 5, .num 5, .ints 5, .row 5, .addr 6, .num 6, .ints 6, .row 6, .addr 7, .num 7, .ints 7, .row 7, .addr 8, .num 8, .ints 8, .row 8, .addr 9, .num 9, .ints 9, .row 9, .addr 10, .num 10, .ints 10, .row 10, .addr 11, .num 11, .ints 11, .row 11, .addr 12, .num 12, .ints 12, .row 12, .addr 13, .num 13, .ints 13, .row 13, .addr 14, .num 14, .ints 14, .row 14, .addr 15, .num 15, .ints 15, .row 15, .addr 16, .num 16, .ints 16, .row 16, .ints 17, .row 17, .ints 18, .row 18, .all]
def sk (t : Tmp) : Kind := kinds.getD t .none
def rowC (c : List Int) (k : Nat) : Row := (rows c).getD k noRow
/-- The row i, as it lies behind p. -/
structure RowAt (w : World) (p i : Nat) (r : Row) : Prop where
  name : w.cell? ⟨p, i * 4, none⟩ = some (.string r.name)
  lo : w.cell? ⟨p, i * 4 + 1, none⟩ = some (.int .i64 r.lo)
  hi : w.cell? ⟨p, i * 4 + 2, none⟩ = some (.int .i64 r.hi)
  nums : ∃ a cap, w.cell? ⟨p, i * 4 + 3, none⟩ = some (.slice a r.nums.length cap) ∧ IntsAt .i64 w a r.nums
theorem RowAt.on {w w' : World} {p i : Nat} {r : Row} (h : RowAt w p i r) (b : Below w.heap.size w w') : RowAt w' p i r := by
  obtain ⟨h1, h2, h3, a, cap, h4, h5⟩ := h
  exact ⟨(b.cell (p := ⟨p, i * 4, none⟩) (cell_lt h1)).trans h1, (b.cell (p := ⟨p, i * 4 + 1, none⟩) (cell_lt h2)).trans h2, (b.cell (p := ⟨p, i * 4 + 2, none⟩) (cell_lt h3)).trans h3, a, cap, (b.cell (p := ⟨p, i * 4 + 3, none⟩) (cell_lt h4)).trans h4, h5.below b⟩
def V (b : Nat) (c : List Int) : Kind → Value → World → Prop
  | .base, v, w => v = .pointer (some ⟨b, 0, Option.none⟩) ∧ Box w b c
  | .addr j, v, w => v = .pointer (some ⟨b, j, Option.none⟩) ∧ Box w b c
  | .num j, v, _ => v = .int .i64 (G c j)
  | .ints k, v, w => ∃ a cap, v = .slice a (rowC c k).nums.length cap ∧ IntsAt .i64 w a (rowC c k).nums
  | .row k, v, w => ∃ a cap, v = .agg #[.string (rowC c k).name, .int .i64 (rowC c k).lo, .int .i64 (rowC c k).hi, .slice a (rowC c k).nums.length cap] ∧ IntsAt .i64 w a (rowC c k).nums
  | .all, v, w => ∃ p, v = .slice (some ⟨p, 0, Option.none⟩) 19 19 ∧ ∀ i, i < 19 → RowAt w p i (rowC c i)
  | .none, _, _ => True
theorem V.on {b : Nat} {c : List Int} {k : Kind} {v : Value} {w w' : World} (h : V b c k v w) (hb : Below w.heap.size w w') : V b c k v w' := by
  cases k with
  | base => exact ⟨h.1, h.2.on hb⟩
  | addr j => exact ⟨h.1, h.2.on hb⟩
  | num j => exact h
  | ints k => obtain ⟨a, cap, e, i⟩ := h; exact ⟨a, cap, e, i.below hb⟩
  | row k => obtain ⟨a, cap, e, i⟩ := h; exact ⟨a, cap, e, i.below hb⟩
  | all => obtain ⟨p, e, i⟩ := h; exact ⟨p, e, fun j hj => (i j hj).on hb⟩
  | none => trivial
section
variable {b : Nat} {c : List Int} {Q : Exit → Act → World → Prop}
open Flow
set_option maxRecDepth 100000 in
theorem step_addr {d : Tmp} {j : Nat} {ty : TypeId} {pos : String} {after : Array Edge} (hd : sk d = .addr j) (hj : j < 17) :
    Step Tryz.prog (fun t => V b c (sk t)) Q ⟨some d, .fieldAddr 24 (.tmp 1) j, ty, pos, after, none⟩ := by
  intro a w h
  obtain ⟨e, hb⟩ : V b c .base (a.tmps.getD 1 undef) w := h 1 (List.Mem.head _)
  have e1 : a.eval (.tmp 1) = .pointer (some ⟨b, 0, none⟩) := e
  obtain rfl | rfl | rfl | rfl | rfl | rfl | rfl | rfl | rfl | rfl | rfl | rfl | rfl | rfl | rfl | rfl | rfl : j = 0 ∨ j = 1 ∨ j = 2 ∨ j = 3 ∨ j = 4 ∨ j = 5 ∨ j = 6 ∨ j = 7 ∨ j = 8 ∨ j = 9 ∨ j = 10 ∨ j = 11 ∨ j = 12 ∨ j = 13 ∨ j = 14 ∨ j = 15 ∨ j = 16 := by omega
  all_goals
    unfold Oper.wp execOp
    simp only [e1]
    go_simp
    exact ⟨_, rfl, Below.refl _ _, rfl, hb⟩
theorem step_load {d t : Tmp} {j : Nat} {ty : TypeId} {pos : String} {after : Array Edge} (hc : c.length = 21) (hd : sk d = .num j) (ht : sk t = .addr j) (hj : j < 21) :
    Step Tryz.prog (fun t => V b c (sk t)) Q ⟨some d, .load 3 (.tmp t), ty, pos, after, none⟩ := by
  intro a w h
  have h1 := h t (List.Mem.head _)
  simp only [ht] at h1
  obtain ⟨e, hb⟩ := h1
  have e1 : a.eval (.tmp t) = .pointer (some ⟨b, j, none⟩) := e
  have hcell := hb.at hc j hj
  unfold Oper.wp execOp
  simp only [e1]
  go_simp
  exact ⟨_, rfl, Below.refl _ _, rfl⟩
theorem step_one {d t : Tmp} {j : Nat} {ty : TypeId} {pos : String} {after : Array Edge} (hd : sk d = .ints j) (ht : sk t = .num j) (hj : (rowC c j).nums = [G c j]) :
    Step Tryz.prog (fun t => V b c (sk t)) Q ⟨some d, .buildSlice 55 1 #[(0, .tmp t)], ty, pos, after, none⟩ := by
  intro a w h
  have h1 := h t (List.Mem.head _)
  simp only [ht] at h1
  have e1 : a.eval (.tmp t) = .int .i64 (G c j) := h1
  have hj' := Lib.hid hj
  clear hj
  unfold Oper.wp execOp
  simp only [e1, List.map_toArray, List.map_cons, List.map_nil]
  go_simp
  refine ⟨_, rfl, (Below.refl _ _).alloc (Nat.le_refl _) _, _, 1, by rw [hj'.out]; rfl, ?_⟩
  rw [hj'.out]
  exact ints1 w _ _
theorem step_move {d t : Tmp} {k : Kind} {ty : TypeId} {pos : String} {after : Array Edge} (hd : sk d = k) (ht : sk t = k) :
    Step Tryz.prog (fun t => V b c (sk t)) Q ⟨some d, .move (.tmp t), ty, pos, after, none⟩ := by
  intro a w h
  have h1 := h t (List.Mem.head _)
  refine ⟨_, rfl, Below.refl _ _, fun d' hd' => ?_⟩
  cases hd'
  simp only [hd]; simp only [ht] at h1; exact h1
theorem step_assign {d t : Tmp} {k : Kind} {ty : TypeId} {pos : String} {after : Array Edge} (hd : sk d = k) (ht : sk t = k) :
    Step Tryz.prog (fun t => V b c (sk t)) Q ⟨some d, .assign (.tmp t), ty, pos, after, none⟩ := by
  intro a w h
  have h1 := h t (List.Mem.head _)
  refine ⟨_, rfl, Below.refl _ _, fun d' hd' => ?_⟩
  cases hd'
  simp only [hd]; simp only [ht] at h1; exact h1
abbrev bOp (s : ByteArray) (x y : Operand) (t : Tmp) : Op := .call { callee := .value (.func 119), args := #[.const (.string s), x, y, .tmp t], argTypes := #[9, 3, 3, 55] }
/-- An operand that is a number. -/
def Num (c : List Int) (x : Operand) (l : Int) : Prop := x = .const (.int .i64 l) ∨ ∃ t j, x = .tmp t ∧ sk t = .num j ∧ G c j = l
theorem step_call {d t : Tmp} {k : Nat} {s : ByteArray} {x y : Operand} {ty : TypeId} {pos : String} {after : Array Edge} (hd : sk d = .row k) (ht : sk t = .ints k) (hs : (rowC c k).name = s)
    (hx : Num c x (rowC c k).lo) (hy : Num c y (rowC c k).hi) : Step Tryz.prog (fun t => V b c (sk t)) Q ⟨some d, bOp s x y t, ty, pos, after, none⟩ := by
  intro a w h
  have hm : ∀ u, x = .tmp u ∨ y = .tmp u ∨ u = t → u ∈ looks ⟨some d, bOp s x y t, ty, pos, after, none⟩ := by
    intro u hu
    simp only [looks, List.mem_filterMap]
    refine ⟨.tmp u, ?_, rfl⟩
    show Operand.tmp u ∈ [Operand.func 119, .const (.string s), x, y, .tmp t]
    rcases hu with rfl | rfl | rfl <;> simp
  have h1 := h t (hm t (Or.inr (Or.inr rfl)))
  simp only [ht] at h1
  have e1 : a.eval x = .int .i64 (rowC c k).lo := by
    rcases hx with rfl | ⟨u, j, rfl, q1, q2⟩
    · rfl
    · have := h u (hm u (Or.inl rfl)); simp only [q1] at this; rw [← q2]; exact this
  have e2 : a.eval y = .int .i64 (rowC c k).hi := by
    rcases hy with rfl | ⟨u, j, rfl, q1, q2⟩
    · rfl
    · have := h u (hm u (Or.inr (Or.inl rfl))); simp only [q1] at this; rw [← q2]; exact this
  obtain ⟨ad, cap, e3, hi⟩ := h1
  have e3 : a.eval (.tmp t) = _ := e3
  subst hs
  clear hx hy h hm
  unfold Oper.wp execOp
  simp only [resolve, e1, e2, e3, List.map_toArray, List.map_cons, List.map_nil]
  go_simp
  refine (bound_any _ _ _ _ _ _ _).mono ?_
  rintro e w' ⟨rfl, hb⟩
  exact ⟨_, rfl, hb, _, _, rfl, hi.below hb⟩
theorem run_buildRows {P : Program} {t e : TypeId} {len : Nat} {parts : Array (Nat × Value)} {z : Value} {cells : Array Value} (w : World) (hu : P.underlying t = some (.slice e)) (hi : (P.info? e).map (fun i => (i.zero, i.size)) = some (some z, 4)) (hl : 0 < len ∧ len ≤ 4194304)
    (hf : Instr.fill (fun i => some (i * 4, 4)) ((Array.range (len * 4)).map (z.cells[· % z.cells.size]!)) parts.toList = some cells) :
    (Instr.buildSlice t len parts).run P w = .ok (.slice (some ⟨w.heap.size, 0, none⟩) len len) (w.alloc (.cells cells e)) := by
  cases hq : P.info? e with
  | none => simp [hq] at hi
  | some i =>
    simp [hq] at hi
    obtain ⟨h1, h2⟩ := hi
    have n1 : ¬ 16777216 < len * 4 := by omega
    simp [Instr.buildSlice, run_underlying hu, sizeOf, typeInfo, zeroValue, hq, h1, h2, n1, hf, newRow]
    omega
theorem zeroF : (Tryz.prog.info? 155).map (fun i => (i.zero, i.size)) = some (some (.agg #[.string ⟨#[]⟩, .int .i64 0, .int .i64 0, .slice none 0 0]), 4) := by kernel_rfl
def allParts : Array (Nat × Operand) := #[(0, .tmp 13), (1, .tmp 17), (2, .tmp 23), (3, .tmp 31), (4, .tmp 35), (5, .tmp 39), (6, .tmp 43), (7, .tmp 47), (8, .tmp 51), (9, .tmp 55), (10, .tmp 59), (11, .tmp 63), (12, .tmp 67), (13, .tmp 71), (14, .tmp 75), (15, .tmp 79), (16, .tmp 83), (17, .tmp 85), (18, .tmp 87)]
set_option maxRecDepth 100000 in
theorem step_all {ty : TypeId} {pos : String} {after : Array Edge} : Step Tryz.prog (fun t => V b c (sk t)) Q ⟨some 88, .buildSlice 152 19 allParts, ty, pos, after, none⟩ := by
  intro a w h
  have hm : ∀ u, u ∈ [13, 17, 23, 31, 35, 39, 43, 47, 51, 55, 59, 63, 67, 71, 75, 79, 83, 85, 87] → u ∈ looks ⟨some 88, .buildSlice 152 19 allParts, ty, pos, after, none⟩ := fun u hu => hu
  obtain ⟨a0, k0, e0, i0⟩ : V b c (.row 0) (a.tmps.getD 13 undef) w := h 13 (hm 13 (by decide))
  obtain ⟨a1, k1, e1, i1⟩ : V b c (.row 1) (a.tmps.getD 17 undef) w := h 17 (hm 17 (by decide))
  obtain ⟨a2, k2, e2, i2⟩ : V b c (.row 2) (a.tmps.getD 23 undef) w := h 23 (hm 23 (by decide))
  obtain ⟨a3, k3, e3, i3⟩ : V b c (.row 3) (a.tmps.getD 31 undef) w := h 31 (hm 31 (by decide))
  obtain ⟨a4, k4, e4, i4⟩ : V b c (.row 4) (a.tmps.getD 35 undef) w := h 35 (hm 35 (by decide))
  obtain ⟨a5, k5, e5, i5⟩ : V b c (.row 5) (a.tmps.getD 39 undef) w := h 39 (hm 39 (by decide))
  obtain ⟨a6, k6, e6, i6⟩ : V b c (.row 6) (a.tmps.getD 43 undef) w := h 43 (hm 43 (by decide))
  obtain ⟨a7, k7, e7, i7⟩ : V b c (.row 7) (a.tmps.getD 47 undef) w := h 47 (hm 47 (by decide))
  obtain ⟨a8, k8, e8, i8⟩ : V b c (.row 8) (a.tmps.getD 51 undef) w := h 51 (hm 51 (by decide))
  obtain ⟨a9, k9, e9, i9⟩ : V b c (.row 9) (a.tmps.getD 55 undef) w := h 55 (hm 55 (by decide))
  obtain ⟨a10, k10, e10, i10⟩ : V b c (.row 10) (a.tmps.getD 59 undef) w := h 59 (hm 59 (by decide))
  obtain ⟨a11, k11, e11, i11⟩ : V b c (.row 11) (a.tmps.getD 63 undef) w := h 63 (hm 63 (by decide))
  obtain ⟨a12, k12, e12, i12⟩ : V b c (.row 12) (a.tmps.getD 67 undef) w := h 67 (hm 67 (by decide))
  obtain ⟨a13, k13, e13, i13⟩ : V b c (.row 13) (a.tmps.getD 71 undef) w := h 71 (hm 71 (by decide))
  obtain ⟨a14, k14, e14, i14⟩ : V b c (.row 14) (a.tmps.getD 75 undef) w := h 75 (hm 75 (by decide))
  obtain ⟨a15, k15, e15, i15⟩ : V b c (.row 15) (a.tmps.getD 79 undef) w := h 79 (hm 79 (by decide))
  obtain ⟨a16, k16, e16, i16⟩ : V b c (.row 16) (a.tmps.getD 83 undef) w := h 83 (hm 83 (by decide))
  obtain ⟨a17, k17, e17, i17⟩ : V b c (.row 17) (a.tmps.getD 85 undef) w := h 85 (hm 85 (by decide))
  obtain ⟨a18, k18, e18, i18⟩ : V b c (.row 18) (a.tmps.getD 87 undef) w := h 87 (hm 87 (by decide))
  have hp : (allParts.map fun (i, x) => (i, a.eval x)) = #[(0, .agg #[.string (rowC c 0).name, .int .i64 (rowC c 0).lo, .int .i64 (rowC c 0).hi, .slice a0 (rowC c 0).nums.length k0]), (1, .agg #[.string (rowC c 1).name, .int .i64 (rowC c 1).lo, .int .i64 (rowC c 1).hi, .slice a1 (rowC c 1).nums.length k1]), (2, .agg #[.string (rowC c 2).name, .int .i64 (rowC c 2).lo, .int .i64 (rowC c 2).hi, .slice a2 (rowC c 2).nums.length k2]), (3, .agg #[.string (rowC c 3).name, .int .i64 (rowC c 3).lo, .int .i64 (rowC c 3).hi, .slice a3 (rowC c 3).nums.length k3]), (4, .agg #[.string (rowC c 4).name, .int .i64 (rowC c 4).lo, .int .i64 (rowC c 4).hi, .slice a4 (rowC c 4).nums.length k4]), (5, .agg #[.string (rowC c 5).name, .int .i64 (rowC c 5).lo, .int .i64 (rowC c 5).hi, .slice a5 (rowC c 5).nums.length k5]), (6, .agg #[.string (rowC c 6).name, .int .i64 (rowC c 6).lo, .int .i64 (rowC c 6).hi, .slice a6 (rowC c 6).nums.length k6]), (7, .agg #[.string (rowC c 7).name, .int .i64 (rowC c 7).lo, .int .i64 (rowC c 7).hi, .slice a7 (rowC c 7).nums.length k7]), (8, .agg #[.string (rowC c 8).name, .int .i64 (rowC c 8).lo, .int .i64 (rowC c 8).hi, .slice a8 (rowC c 8).nums.length k8]), (9, .agg #[.string (rowC c 9).name, .int .i64 (rowC c 9).lo, .int .i64 (rowC c 9).hi, .slice a9 (rowC c 9).nums.length k9]), (10, .agg #[.string (rowC c 10).name, .int .i64 (rowC c 10).lo, .int .i64 (rowC c 10).hi, .slice a10 (rowC c 10).nums.length k10]), (11, .agg #[.string (rowC c 11).name, .int .i64 (rowC c 11).lo, .int .i64 (rowC c 11).hi, .slice a11 (rowC c 11).nums.length k11]), (12, .agg #[.string (rowC c 12).name, .int .i64 (rowC c 12).lo, .int .i64 (rowC c 12).hi, .slice a12 (rowC c 12).nums.length k12]), (13, .agg #[.string (rowC c 13).name, .int .i64 (rowC c 13).lo, .int .i64 (rowC c 13).hi, .slice a13 (rowC c 13).nums.length k13]), (14, .agg #[.string (rowC c 14).name, .int .i64 (rowC c 14).lo, .int .i64 (rowC c 14).hi, .slice a14 (rowC c 14).nums.length k14]), (15, .agg #[.string (rowC c 15).name, .int .i64 (rowC c 15).lo, .int .i64 (rowC c 15).hi, .slice a15 (rowC c 15).nums.length k15]), (16, .agg #[.string (rowC c 16).name, .int .i64 (rowC c 16).lo, .int .i64 (rowC c 16).hi, .slice a16 (rowC c 16).nums.length k16]), (17, .agg #[.string (rowC c 17).name, .int .i64 (rowC c 17).lo, .int .i64 (rowC c 17).hi, .slice a17 (rowC c 17).nums.length k17]), (18, .agg #[.string (rowC c 18).name, .int .i64 (rowC c 18).lo, .int .i64 (rowC c 18).hi, .slice a18 (rowC c 18).nums.length k18])] := by
    have e0 : a.eval (.tmp 13) = _ := e0
    have e1 : a.eval (.tmp 17) = _ := e1
    have e2 : a.eval (.tmp 23) = _ := e2
    have e3 : a.eval (.tmp 31) = _ := e3
    have e4 : a.eval (.tmp 35) = _ := e4
    have e5 : a.eval (.tmp 39) = _ := e5
    have e6 : a.eval (.tmp 43) = _ := e6
    have e7 : a.eval (.tmp 47) = _ := e7
    have e8 : a.eval (.tmp 51) = _ := e8
    have e9 : a.eval (.tmp 55) = _ := e9
    have e10 : a.eval (.tmp 59) = _ := e10
    have e11 : a.eval (.tmp 63) = _ := e11
    have e12 : a.eval (.tmp 67) = _ := e12
    have e13 : a.eval (.tmp 71) = _ := e13
    have e14 : a.eval (.tmp 75) = _ := e14
    have e15 : a.eval (.tmp 79) = _ := e15
    have e16 : a.eval (.tmp 83) = _ := e16
    have e17 : a.eval (.tmp 85) = _ := e17
    have e18 : a.eval (.tmp 87) = _ := e18
    simp only [allParts, List.map_toArray, List.map_cons, List.map_nil, e0, e1, e2, e3, e4, e5, e6, e7, e8, e9, e10, e11, e12, e13, e14, e15, e16, e17, e18]
  unfold Oper.wp execOp
  simp only [hp]
  rw [Sem.run_bind, run_buildRows w Tryz.underlying152 zeroF (by omega) (cells := #[.string (rowC c 0).name, .int .i64 (rowC c 0).lo, .int .i64 (rowC c 0).hi, .slice a0 (rowC c 0).nums.length k0, .string (rowC c 1).name, .int .i64 (rowC c 1).lo, .int .i64 (rowC c 1).hi, .slice a1 (rowC c 1).nums.length k1, .string (rowC c 2).name, .int .i64 (rowC c 2).lo, .int .i64 (rowC c 2).hi, .slice a2 (rowC c 2).nums.length k2, .string (rowC c 3).name, .int .i64 (rowC c 3).lo, .int .i64 (rowC c 3).hi, .slice a3 (rowC c 3).nums.length k3, .string (rowC c 4).name, .int .i64 (rowC c 4).lo, .int .i64 (rowC c 4).hi, .slice a4 (rowC c 4).nums.length k4, .string (rowC c 5).name, .int .i64 (rowC c 5).lo, .int .i64 (rowC c 5).hi, .slice a5 (rowC c 5).nums.length k5, .string (rowC c 6).name, .int .i64 (rowC c 6).lo, .int .i64 (rowC c 6).hi, .slice a6 (rowC c 6).nums.length k6, .string (rowC c 7).name, .int .i64 (rowC c 7).lo, .int .i64 (rowC c 7).hi, .slice a7 (rowC c 7).nums.length k7, .string (rowC c 8).name, .int .i64 (rowC c 8).lo, .int .i64 (rowC c 8).hi, .slice a8 (rowC c 8).nums.length k8, .string (rowC c 9).name, .int .i64 (rowC c 9).lo, .int .i64 (rowC c 9).hi, .slice a9 (rowC c 9).nums.length k9, .string (rowC c 10).name, .int .i64 (rowC c 10).lo, .int .i64 (rowC c 10).hi, .slice a10 (rowC c 10).nums.length k10, .string (rowC c 11).name, .int .i64 (rowC c 11).lo, .int .i64 (rowC c 11).hi, .slice a11 (rowC c 11).nums.length k11, .string (rowC c 12).name, .int .i64 (rowC c 12).lo, .int .i64 (rowC c 12).hi, .slice a12 (rowC c 12).nums.length k12, .string (rowC c 13).name, .int .i64 (rowC c 13).lo, .int .i64 (rowC c 13).hi, .slice a13 (rowC c 13).nums.length k13, .string (rowC c 14).name, .int .i64 (rowC c 14).lo, .int .i64 (rowC c 14).hi, .slice a14 (rowC c 14).nums.length k14, .string (rowC c 15).name, .int .i64 (rowC c 15).lo, .int .i64 (rowC c 15).hi, .slice a15 (rowC c 15).nums.length k15, .string (rowC c 16).name, .int .i64 (rowC c 16).lo, .int .i64 (rowC c 16).hi, .slice a16 (rowC c 16).nums.length k16, .string (rowC c 17).name, .int .i64 (rowC c 17).lo, .int .i64 (rowC c 17).hi, .slice a17 (rowC c 17).nums.length k17, .string (rowC c 18).name, .int .i64 (rowC c 18).lo, .int .i64 (rowC c 18).hi, .slice a18 (rowC c 18).nums.length k18]) (by kernel_rfl)]
  refine ⟨_, rfl, (Below.refl _ _).alloc (Nat.le_refl _) _, fun d hd => ?_⟩
  cases hd
  have bw := (Below.refl w.heap.size w).alloc (Nat.le_refl _) (.cells #[.string (rowC c 0).name, .int .i64 (rowC c 0).lo, .int .i64 (rowC c 0).hi, .slice a0 (rowC c 0).nums.length k0, .string (rowC c 1).name, .int .i64 (rowC c 1).lo, .int .i64 (rowC c 1).hi, .slice a1 (rowC c 1).nums.length k1, .string (rowC c 2).name, .int .i64 (rowC c 2).lo, .int .i64 (rowC c 2).hi, .slice a2 (rowC c 2).nums.length k2, .string (rowC c 3).name, .int .i64 (rowC c 3).lo, .int .i64 (rowC c 3).hi, .slice a3 (rowC c 3).nums.length k3, .string (rowC c 4).name, .int .i64 (rowC c 4).lo, .int .i64 (rowC c 4).hi, .slice a4 (rowC c 4).nums.length k4, .string (rowC c 5).name, .int .i64 (rowC c 5).lo, .int .i64 (rowC c 5).hi, .slice a5 (rowC c 5).nums.length k5, .string (rowC c 6).name, .int .i64 (rowC c 6).lo, .int .i64 (rowC c 6).hi, .slice a6 (rowC c 6).nums.length k6, .string (rowC c 7).name, .int .i64 (rowC c 7).lo, .int .i64 (rowC c 7).hi, .slice a7 (rowC c 7).nums.length k7, .string (rowC c 8).name, .int .i64 (rowC c 8).lo, .int .i64 (rowC c 8).hi, .slice a8 (rowC c 8).nums.length k8, .string (rowC c 9).name, .int .i64 (rowC c 9).lo, .int .i64 (rowC c 9).hi, .slice a9 (rowC c 9).nums.length k9, .string (rowC c 10).name, .int .i64 (rowC c 10).lo, .int .i64 (rowC c 10).hi, .slice a10 (rowC c 10).nums.length k10, .string (rowC c 11).name, .int .i64 (rowC c 11).lo, .int .i64 (rowC c 11).hi, .slice a11 (rowC c 11).nums.length k11, .string (rowC c 12).name, .int .i64 (rowC c 12).lo, .int .i64 (rowC c 12).hi, .slice a12 (rowC c 12).nums.length k12, .string (rowC c 13).name, .int .i64 (rowC c 13).lo, .int .i64 (rowC c 13).hi, .slice a13 (rowC c 13).nums.length k13, .string (rowC c 14).name, .int .i64 (rowC c 14).lo, .int .i64 (rowC c 14).hi, .slice a14 (rowC c 14).nums.length k14, .string (rowC c 15).name, .int .i64 (rowC c 15).lo, .int .i64 (rowC c 15).hi, .slice a15 (rowC c 15).nums.length k15, .string (rowC c 16).name, .int .i64 (rowC c 16).lo, .int .i64 (rowC c 16).hi, .slice a16 (rowC c 16).nums.length k16, .string (rowC c 17).name, .int .i64 (rowC c 17).lo, .int .i64 (rowC c 17).hi, .slice a17 (rowC c 17).nums.length k17, .string (rowC c 18).name, .int .i64 (rowC c 18).lo, .int .i64 (rowC c 18).hi, .slice a18 (rowC c 18).nums.length k18] 155)
  have hg := heap_alloc_new w (.cells #[.string (rowC c 0).name, .int .i64 (rowC c 0).lo, .int .i64 (rowC c 0).hi, .slice a0 (rowC c 0).nums.length k0, .string (rowC c 1).name, .int .i64 (rowC c 1).lo, .int .i64 (rowC c 1).hi, .slice a1 (rowC c 1).nums.length k1, .string (rowC c 2).name, .int .i64 (rowC c 2).lo, .int .i64 (rowC c 2).hi, .slice a2 (rowC c 2).nums.length k2, .string (rowC c 3).name, .int .i64 (rowC c 3).lo, .int .i64 (rowC c 3).hi, .slice a3 (rowC c 3).nums.length k3, .string (rowC c 4).name, .int .i64 (rowC c 4).lo, .int .i64 (rowC c 4).hi, .slice a4 (rowC c 4).nums.length k4, .string (rowC c 5).name, .int .i64 (rowC c 5).lo, .int .i64 (rowC c 5).hi, .slice a5 (rowC c 5).nums.length k5, .string (rowC c 6).name, .int .i64 (rowC c 6).lo, .int .i64 (rowC c 6).hi, .slice a6 (rowC c 6).nums.length k6, .string (rowC c 7).name, .int .i64 (rowC c 7).lo, .int .i64 (rowC c 7).hi, .slice a7 (rowC c 7).nums.length k7, .string (rowC c 8).name, .int .i64 (rowC c 8).lo, .int .i64 (rowC c 8).hi, .slice a8 (rowC c 8).nums.length k8, .string (rowC c 9).name, .int .i64 (rowC c 9).lo, .int .i64 (rowC c 9).hi, .slice a9 (rowC c 9).nums.length k9, .string (rowC c 10).name, .int .i64 (rowC c 10).lo, .int .i64 (rowC c 10).hi, .slice a10 (rowC c 10).nums.length k10, .string (rowC c 11).name, .int .i64 (rowC c 11).lo, .int .i64 (rowC c 11).hi, .slice a11 (rowC c 11).nums.length k11, .string (rowC c 12).name, .int .i64 (rowC c 12).lo, .int .i64 (rowC c 12).hi, .slice a12 (rowC c 12).nums.length k12, .string (rowC c 13).name, .int .i64 (rowC c 13).lo, .int .i64 (rowC c 13).hi, .slice a13 (rowC c 13).nums.length k13, .string (rowC c 14).name, .int .i64 (rowC c 14).lo, .int .i64 (rowC c 14).hi, .slice a14 (rowC c 14).nums.length k14, .string (rowC c 15).name, .int .i64 (rowC c 15).lo, .int .i64 (rowC c 15).hi, .slice a15 (rowC c 15).nums.length k15, .string (rowC c 16).name, .int .i64 (rowC c 16).lo, .int .i64 (rowC c 16).hi, .slice a16 (rowC c 16).nums.length k16, .string (rowC c 17).name, .int .i64 (rowC c 17).lo, .int .i64 (rowC c 17).hi, .slice a17 (rowC c 17).nums.length k17, .string (rowC c 18).name, .int .i64 (rowC c 18).lo, .int .i64 (rowC c 18).hi, .slice a18 (rowC c 18).nums.length k18] 155)
  refine ⟨_, rfl, fun i hi => ?_⟩
  obtain rfl | rfl | rfl | rfl | rfl | rfl | rfl | rfl | rfl | rfl | rfl | rfl | rfl | rfl | rfl | rfl | rfl | rfl | rfl : i = 0 ∨ i = 1 ∨ i = 2 ∨ i = 3 ∨ i = 4 ∨ i = 5 ∨ i = 6 ∨ i = 7 ∨ i = 8 ∨ i = 9 ∨ i = 10 ∨ i = 11 ∨ i = 12 ∨ i = 13 ∨ i = 14 ∨ i = 15 ∨ i = 16 ∨ i = 17 ∨ i = 18 := by omega
  · exact ⟨(cell_of_row _ _ _ _ _ _ hg).trans rfl, (cell_of_row _ _ _ _ _ _ hg).trans rfl, (cell_of_row _ _ _ _ _ _ hg).trans rfl, _, _, (cell_of_row _ _ _ _ _ _ hg).trans rfl, i0.below bw⟩
  · exact ⟨(cell_of_row _ _ _ _ _ _ hg).trans rfl, (cell_of_row _ _ _ _ _ _ hg).trans rfl, (cell_of_row _ _ _ _ _ _ hg).trans rfl, _, _, (cell_of_row _ _ _ _ _ _ hg).trans rfl, i1.below bw⟩
  · exact ⟨(cell_of_row _ _ _ _ _ _ hg).trans rfl, (cell_of_row _ _ _ _ _ _ hg).trans rfl, (cell_of_row _ _ _ _ _ _ hg).trans rfl, _, _, (cell_of_row _ _ _ _ _ _ hg).trans rfl, i2.below bw⟩
  · exact ⟨(cell_of_row _ _ _ _ _ _ hg).trans rfl, (cell_of_row _ _ _ _ _ _ hg).trans rfl, (cell_of_row _ _ _ _ _ _ hg).trans rfl, _, _, (cell_of_row _ _ _ _ _ _ hg).trans rfl, i3.below bw⟩
  · exact ⟨(cell_of_row _ _ _ _ _ _ hg).trans rfl, (cell_of_row _ _ _ _ _ _ hg).trans rfl, (cell_of_row _ _ _ _ _ _ hg).trans rfl, _, _, (cell_of_row _ _ _ _ _ _ hg).trans rfl, i4.below bw⟩
  · exact ⟨(cell_of_row _ _ _ _ _ _ hg).trans rfl, (cell_of_row _ _ _ _ _ _ hg).trans rfl, (cell_of_row _ _ _ _ _ _ hg).trans rfl, _, _, (cell_of_row _ _ _ _ _ _ hg).trans rfl, i5.below bw⟩
  · exact ⟨(cell_of_row _ _ _ _ _ _ hg).trans rfl, (cell_of_row _ _ _ _ _ _ hg).trans rfl, (cell_of_row _ _ _ _ _ _ hg).trans rfl, _, _, (cell_of_row _ _ _ _ _ _ hg).trans rfl, i6.below bw⟩
  · exact ⟨(cell_of_row _ _ _ _ _ _ hg).trans rfl, (cell_of_row _ _ _ _ _ _ hg).trans rfl, (cell_of_row _ _ _ _ _ _ hg).trans rfl, _, _, (cell_of_row _ _ _ _ _ _ hg).trans rfl, i7.below bw⟩
  · exact ⟨(cell_of_row _ _ _ _ _ _ hg).trans rfl, (cell_of_row _ _ _ _ _ _ hg).trans rfl, (cell_of_row _ _ _ _ _ _ hg).trans rfl, _, _, (cell_of_row _ _ _ _ _ _ hg).trans rfl, i8.below bw⟩
  · exact ⟨(cell_of_row _ _ _ _ _ _ hg).trans rfl, (cell_of_row _ _ _ _ _ _ hg).trans rfl, (cell_of_row _ _ _ _ _ _ hg).trans rfl, _, _, (cell_of_row _ _ _ _ _ _ hg).trans rfl, i9.below bw⟩
  · exact ⟨(cell_of_row _ _ _ _ _ _ hg).trans rfl, (cell_of_row _ _ _ _ _ _ hg).trans rfl, (cell_of_row _ _ _ _ _ _ hg).trans rfl, _, _, (cell_of_row _ _ _ _ _ _ hg).trans rfl, i10.below bw⟩
  · exact ⟨(cell_of_row _ _ _ _ _ _ hg).trans rfl, (cell_of_row _ _ _ _ _ _ hg).trans rfl, (cell_of_row _ _ _ _ _ _ hg).trans rfl, _, _, (cell_of_row _ _ _ _ _ _ hg).trans rfl, i11.below bw⟩
  · exact ⟨(cell_of_row _ _ _ _ _ _ hg).trans rfl, (cell_of_row _ _ _ _ _ _ hg).trans rfl, (cell_of_row _ _ _ _ _ _ hg).trans rfl, _, _, (cell_of_row _ _ _ _ _ _ hg).trans rfl, i12.below bw⟩
  · exact ⟨(cell_of_row _ _ _ _ _ _ hg).trans rfl, (cell_of_row _ _ _ _ _ _ hg).trans rfl, (cell_of_row _ _ _ _ _ _ hg).trans rfl, _, _, (cell_of_row _ _ _ _ _ _ hg).trans rfl, i13.below bw⟩
  · exact ⟨(cell_of_row _ _ _ _ _ _ hg).trans rfl, (cell_of_row _ _ _ _ _ _ hg).trans rfl, (cell_of_row _ _ _ _ _ _ hg).trans rfl, _, _, (cell_of_row _ _ _ _ _ _ hg).trans rfl, i14.below bw⟩
  · exact ⟨(cell_of_row _ _ _ _ _ _ hg).trans rfl, (cell_of_row _ _ _ _ _ _ hg).trans rfl, (cell_of_row _ _ _ _ _ _ hg).trans rfl, _, _, (cell_of_row _ _ _ _ _ _ hg).trans rfl, i15.below bw⟩
  · exact ⟨(cell_of_row _ _ _ _ _ _ hg).trans rfl, (cell_of_row _ _ _ _ _ _ hg).trans rfl, (cell_of_row _ _ _ _ _ _ hg).trans rfl, _, _, (cell_of_row _ _ _ _ _ _ hg).trans rfl, i16.below bw⟩
  · exact ⟨(cell_of_row _ _ _ _ _ _ hg).trans rfl, (cell_of_row _ _ _ _ _ _ hg).trans rfl, (cell_of_row _ _ _ _ _ _ hg).trans rfl, _, _, (cell_of_row _ _ _ _ _ _ hg).trans rfl, i17.below bw⟩
  · exact ⟨(cell_of_row _ _ _ _ _ _ hg).trans rfl, (cell_of_row _ _ _ _ _ _ hg).trans rfl, (cell_of_row _ _ _ _ _ _ hg).trans rfl, _, _, (cell_of_row _ _ _ _ _ _ hg).trans rfl, i18.below bw⟩
theorem forall_cons {α : Type} {p : α → Prop} {x : α} {l : List α} (h : p x) (k : ∀ o ∈ l, p o) : ∀ o ∈ x :: l, p o := by
  intro o ho
  rcases List.mem_cons.1 ho with rfl | ho
  · exact h
  · exact k o ho
set_option maxHeartbeats 3200000 in
set_option maxRecDepth 100000 in
theorem steps (hc : c.length = 21) : ∀ o ∈ fOps.toList, Step Tryz.prog (fun t => V b c (sk t)) Q o := by
  repeat (refine forall_cons ?_ ?_; focus first
    | exact step_addr rfl (by decide)
    | exact step_load hc rfl rfl (by decide)
    | exact step_one rfl rfl rfl
    | exact step_move rfl rfl
    | exact step_assign rfl rfl
    | exact step_call rfl rfl rfl (Or.inl rfl) (Or.inl rfl)
    | exact step_call rfl rfl rfl (Or.inr ⟨_, _, rfl, rfl, rfl⟩) (Or.inl rfl)
    | exact step_call rfl rfl rfl (Or.inr ⟨_, _, rfl, rfl, rfl⟩) (Or.inr ⟨_, _, rfl, rfl, rfl⟩)
    | exact step_all)
  intro o ho; cases ho
end
end Cf
end Go.Proofs.YtacclmfbkiadbaaGreat

namespace Go.Proofs.YtacclmfbkiadbaaGreat
set_option maxRecDepth 100000
open Go.ChangeShapes Go.WideShapes Go.ChangeAt Go.RowKit Go.Deep
namespace Cf
set_option maxRecDepth 100000 in
set_option maxHeartbeats 1600000 in
theorem fields_any (c : List Int) (w : World) (hc : c.length = 21) :
    Calls Tryz.prog 85 #[.agg (CA c)] w fun e w' => ∃ p, e = .returned (.slice (some ⟨p, 0, none⟩) 19 19) ∧ (∀ i, i < 19 → RowAt w' p i (rowC c i)) ∧ Below w.heap.size w w' := by
  have B0 := Lib.hid (Box.new w c)
  have b0 := Lib.hid ((Below.refl w.heap.size w).alloc (Nat.le_refl _) (.cells (CA c) 24))
  have WE := fun W => weights_any c W hc
  go_enter Tryz.func85, Tryz.ntmps85
  change Code.wp _ (.seq _ (.seq _ (.seq (.region 2 fOps true) .ret))) _ _ _
  go_wp2_with (with_reducible show wpList _ _ _ (⟨some 6, _, _, _, _, _⟩ :: _) _ _; refine wpList_loadC rfl _ rfl w.heap.size c rfl B0.out hc ?_)
  refine (WE _).mono ?_; rintro e w1 ⟨a0, k0, a1, k1, rfl, i0, i1, b1⟩
  have F0 := Lib.hid (show Box w1 w.heap.size c ∧ IntsAt .i64 w1 a0 (own c) ∧ IntsAt .i64 w1 a1 (others c) ∧ Below w.heap.size w w1 from ⟨B0.out.on b1, i0, i1, grow b0.out b1⟩)
  clear i0 i1 b1 WE B0 b0
  go_wp2_with fail
  rename_i Q' K hK
  refine Flow.wp_region_flow (fun t => V w.heap.size c (sk t)) [1, 3, 4] 89 (by kernel_rfl) fOps_flow (fun t v w w' h hb => V.on h hb) rfl ?_ (steps hc) ?_
  · intro t ht
    simp only [List.mem_cons, List.not_mem_nil, or_false] at ht
    rcases ht with rfl | rfl | rfl
    · exact ⟨rfl, F0.out.1⟩
    · exact ⟨a0, k0, rfl, F0.out.2.1⟩
    · exact ⟨a1, k1, rfl, F0.out.2.2.1⟩
  · intro a' w' hb hn hd hold hv
    obtain ⟨o, ho, hd2⟩ := Option.bind_eq_some_iff.1 (show (fOps[79]?).bind (·.dst) = some 2 by kernel_rfl)
    obtain ⟨p, e2, hr⟩ : V w.heap.size c .all (a'.tmps.getD 2 undef) w' := hv 79 o 2 ho hd2
    refine hK _ _ (wp_ret (bodyPost_ret (v := .slice (some ⟨p, 0, none⟩) 19 19) ((results_tmp rfl _ _ _).trans (by rw [e2])) hd ⟨p, rfl, hr, grow F0.out.2.2.2 hb⟩))
end Cf
end Go.Proofs.YtacclmfbkiadbaaGreat

namespace Go.Proofs.YtacclmfbkiadbaaGreat
set_option maxRecDepth 100000
open Go.ChangeShapes Go.WideShapes Go.ChangeAt Go.RowKit Go.Deep
namespace Cf
/-- What lies about while the rows are looked at. -/
structure Lie (w W : World) (p : Nat) (c : List Int) : Prop where
  below : Below w.heap.size w W
  rows : ∀ i, i < 19 → RowAt W p i (rowC c i)
theorem Lie.on {w W W' : World} {p : Nat} {c : List Int} (h : Lie w W p c) (b : Below W.heap.size W W') : Lie w W' p c :=
  ⟨grow h.below b, fun i hi => (h.rows i hi).on b⟩
/-- A row taken out into a box. -/
structure In (W : World) (g : Nat) (r : Row) (a : Option Addr) (cap : Nat) : Prop where
  name : W.cell? ⟨g, 0, none⟩ = some (.string r.name)
  lo : W.cell? ⟨g, 1, none⟩ = some (.int .i64 r.lo)
  hi : W.cell? ⟨g, 2, none⟩ = some (.int .i64 r.hi)
  nums : W.cell? ⟨g, 3, none⟩ = some (.slice a r.nums.length cap)
  ints : IntsAt .i64 W a r.nums
theorem in_new {W : World} {r : Row} {a : Option Addr} {cap : Nat} {t : TypeId} (h : IntsAt .i64 W a r.nums) :
    In (W.alloc (.cells #[.string r.name, .int .i64 r.lo, .int .i64 r.hi, .slice a r.nums.length cap] t)) W.heap.size r a cap := by
  have b := (Below.refl W.heap.size W).alloc (Nat.le_refl _) (.cells #[.string r.name, .int .i64 r.lo, .int .i64 r.hi, .slice a r.nums.length cap] t)
  have hg := heap_alloc_new W (.cells #[.string r.name, .int .i64 r.lo, .int .i64 r.hi, .slice a r.nums.length cap] t)
  exact ⟨(cell_of_row _ _ _ _ _ _ hg).trans rfl, (cell_of_row _ _ _ _ _ _ hg).trans rfl, (cell_of_row _ _ _ _ _ _ hg).trans rfl, (cell_of_row _ _ _ _ _ _ hg).trans rfl, h.below b⟩
theorem nums_few (c : List Int) (k : Nat) : (rowC c k).nums.length ≤ 4 := by
  have h : ∀ r ∈ rows c, r.nums.length ≤ 4 := by
    intro r hr
    simp only [rows, List.mem_cons, List.not_mem_nil, or_false] at hr
    rcases hr with rfl | rfl | rfl | rfl | rfl | rfl | rfl | rfl | rfl | rfl | rfl | rfl | rfl | rfl | rfl | rfl | rfl | rfl | rfl <;> first | exact Nat.le_of_ble_eq_true rfl | (simp only [own, others]; split <;> exact Nat.le_of_ble_eq_true rfl)
  unfold rowC
  by_cases hk : k < (rows c).length
  · rw [List.getD_eq_getElem?_getD, List.getElem?_eq_getElem hk]; exact h _ (List.getElem_mem hk)
  · rw [List.getD_eq_getElem?_getD, List.getElem?_eq_none (by omega)]; exact Nat.zero_le _
theorem fault_step (c : List Int) (k : Nat) (h : k < 19) : first ((rows c).drop k) = if fine (rowC c k) = true then first ((rows c).drop (k + 1)) else (rowC c k).name := first_drop _ _ h
theorem take_ok {r : Row} {j : Nat} (h : j < r.nums.length) (hj : (r.nums.take j).all (ok r) = true) (hx : r.lo ≤ r.nums.getD j 0 ∧ r.nums.getD j 0 ≤ r.hi) : (r.nums.take (j + 1)).all (ok r) = true := by
  rw [List.take_succ_eq_append_getElem h, List.all_append, hj]
  simp [List.getD_eq_getElem?_getD, h] at hx
  simp [ok, hx]
theorem not_fine {r : Row} {j : Nat} (h : j < r.nums.length) (hx : r.nums.getD j 0 < r.lo ∨ r.hi < r.nums.getD j 0) : fine r = false := by
  unfold fine
  rw [List.all_eq_false]
  refine ⟨r.nums[j], List.getElem_mem h, ?_⟩
  simp [List.getD_eq_getElem?_getD, h] at hx
  simp [ok]; omega
set_option maxHeartbeats 3200000 in
theorem fault_any (c : List Int) (w : World) (hc : c.length = 21) :
    Calls Tryz.prog 45 #[.agg (CA c)] w fun e w' => e = .returned (.string (fault c)) ∧ Below w.heap.size w w' := by
  have B0 := Lib.hid (Box.new w c)
  have b0 := Lib.hid ((Below.refl w.heap.size w).alloc (Nat.le_refl _) (.cells (CA c) 24))
  have FI := fun W => fields_any c W hc
  go_enter Tryz.func45, Tryz.ntmps45
  go_wp2
  go_step3
  go_wp2
  go_step3
  go_wp2_with (with_reducible show wpList _ _ _ (⟨some 8, _, _, _, _, _⟩ :: _) _ _; refine wpList_loadC rfl _ rfl w.heap.size c rfl B0.out hc ?_)
  refine (FI _).mono ?_; rintro e w1 ⟨p, rfl, hr, b1⟩
  have L := Lib.hid (show Lie w w1 p c from ⟨grow b0.out b1, hr⟩)
  clear hr b1 FI B0 b0
  go_wp2_with fail
  go_loopg [3, 11] 19 (fun gg s3 s11 wx => ∃ k : Nat, k + gg = 19 ∧ s11 = .int .i64 k ∧ s3 = .string ⟨#[]⟩ ∧ Hid (first ((rows c).drop k) = fault c) ∧ Hid (Lie w wx p c))
  case atStart => exact ⟨0, rfl, rfl, rfl, Lib.hid rfl, L⟩
  case round =>
    obtain ⟨k, hkg, rfl, rfl, HF, HL⟩ := hrel
    cases gk with
    | zero =>
      have hk : k = 19 := by omega
      subst hk
      go_wp2_with fail
      go_ret
      exact ⟨by rw [← HF.out]; rfl, HL.out.below⟩
    | succ g =>
      have hk : k < 19 := by omega
      have HS := Lib.hid (fault_step c k hk)
      obtain ⟨z0, z1, z2, a, cap, z3, hi⟩ := HL.out.rows k hk
      have Z := Lib.hid (in_new (t := 155) (cap := cap) hi)
      have Y := Lib.hid (HL.out.on ((Below.refl wr.heap.size wr).alloc (Nat.le_refl _) (.cells #[.string (rowC c k).name, .int .i64 (rowC c k).lo, .int .i64 (rowC c k).hi, .slice a (rowC c k).nums.length cap] 155)))
      have hf := nums_few c k
      clear hi
      generalize rowC c k = r at *
      go_wp2_with fail
      generalize wr.alloc (.cells #[.string r.name, .int .i64 r.lo, .int .i64 r.hi, .slice a r.nums.length cap] 155) = W1 at *
      generalize wr.heap.size = q at *
      clear z0 z1 z2 z3 HL
      go_loopg [3, 18] r.nums.length (fun gg s3 s18 wx => ∃ j : Nat, j + gg = r.nums.length ∧ s18 = .int .i64 j ∧ s3 = .string ⟨#[]⟩ ∧ Hid ((r.nums.take j).all (ok r) = true) ∧ wx = W1)
      case atStart => exact ⟨0, by omega, rfl, rfl, Lib.hid (by simp), rfl⟩
      case round =>
        obtain ⟨j, hj, rfl, rfl, HA, rfl⟩ := hrel
        have y0 := Z.out.name
        have y1 := Z.out.lo
        have y2 := Z.out.hi
        cases gk with
        | zero =>
          have hjl : j = r.nums.length := by omega
          subst hjl
          have HN := Lib.hid (show fine r = true by have := HA.out; rw [List.take_of_length_le (Nat.le_refl _)] at this; exact this)
          go_wp2_with fail
          go_roundg g
          case rel => exact ⟨k + 1, by omega, by go_num, rfl, Lib.hid (by have h := HS.out; rw [HN.out, if_pos rfl] at h; rw [← h]; exact HF.out), Y⟩
          case measure => omega
        | succ g2 =>
          have hlt : j < r.nums.length := by omega
          rcases Z.out.ints with e | ⟨bb, off, rfl, hcell⟩
          · rw [e] at hlt; exact absurd hlt (Nat.not_lt_zero _)
          have cx := hcell j hlt
          have HG := Lib.hid (fun h1 h2 => take_ok hlt HA.out (And.intro h1 h2))
          have HB := Lib.hid (fun h => not_fine hlt h)
          clear hcell
          generalize r.nums.getD j 0 = x at *
          by_cases hx : r.lo ≤ x
          · by_cases hy : x ≤ r.hi
            · have d1 : decide (x < r.lo) = false := by simpa using hx
              have d2 : decide (r.hi < x) = false := by simpa using hy
              have HX := Lib.hid hx
              have HY := Lib.hid hy
              clear hx hy
              go_wp2_with fail
              go_roundg g2
              case rel => exact ⟨j + 1, by omega, by go_num, rfl, Lib.hid (HG.out HX.out HY.out), rfl⟩
              case measure => omega
            · have d1 : decide (x < r.lo) = false := by simpa using hx
              have d2 : decide (r.hi < x) = true := by simp; omega
              have HX := Lib.hid (HB.out (Or.inr (by omega)))
              clear hx hy
              go_wp2_with fail
              rw [Exit.noGoto_ret]
              go_ret
              exact ⟨by have h := HS.out; rw [HX.out] at h; rw [← HF.out, h]; rfl, Y.out.below⟩
          · have d1 : decide (x < r.lo) = true := by simp; omega
            have HX := Lib.hid (HB.out (Or.inl (by omega)))
            clear hx
            go_wp2_with fail
            rw [Exit.noGoto_ret]
            go_ret
            exact ⟨by have h := HS.out; rw [HX.out] at h; rw [← HF.out, h]; rfl, Y.out.below⟩
theorem rt_empty (c : List Int) : (fault c).toList.isEmpty = rt c := by
  rw [← rt_fault, beq_bytes, Bool.eq_iff_iff, decide_eq_true_eq, List.isEmpty_iff, ByteArray.toList_eq, ByteArray.ext_iff]
  simp
theorem right_any (c : List Int) (w : World) (hc : c.length = 21) :
    Calls Tryz.prog 19 #[.agg (CA c)] w fun e w' => e = .returned (.bool (rt c)) ∧ Below w.heap.size w w' := by
  have B0 := Lib.hid (Box.new w c)
  have b0 := Lib.hid ((Below.refl w.heap.size w).alloc (Nat.le_refl _) (.cells (CA c) 24))
  have FI := fun W => fault_any c W hc
  have HE := Lib.hid (rt_empty c)
  generalize fault c = s at *
  go_enter Tryz.func19, Tryz.ntmps19
  go_wp2_with (with_reducible show wpList _ _ _ (⟨some 3, _, _, _, _, _⟩ :: _) _ _; refine wpList_loadC rfl _ rfl w.heap.size c rfl B0.out hc ?_)
  refine (FI _).mono ?_; rintro e w1 ⟨rfl, b1⟩
  go_wp2_with fail
  go_ret
  exact ⟨by rw [← HE.out]; rfl, grow b0.out b1⟩
end Cf
end Go.Proofs.YtacclmfbkiadbaaGreat

namespace Go.Proofs.YtacclmfbkiadbaaGreat
set_option maxRecDepth 100000
open Go.ChangeShapes Go.WideShapes Go.ChangeAt Go.RowKit Go.Deep
namespace Cf
theorem ret_bool {a b : Bool} (h : a = b) : Ending.returned (.bool a) = .returned (.bool b) := by rw [h]
theorem wp_loadC {o : Oper} {a : Act} {w : World} {K : Act → World → Prop} {Q : Exit → Act → World → Prop} (x : Operand) (ho : o.op = .load 24 x)
    (b : Nat) (c : List Int) (hx : a.eval x = .pointer (some ⟨b, 0, none⟩)) (hb : Box w b c) (hc : c.length = 21)
    (h : K (a.put o.dst (.agg (CA c))) w) : o.wp Tryz.prog a w K Q :=
  wp_load_row 24 x ho b hx 24 (CA c) (0, 0) _ hb Tryz.underlying24 rfl (by rw [CA_size, hc]; exact sizeC) h
/-- A whole configuration loaded, where the operation is wanted. -/
theorem wpList_loadW {ops : Array Oper} {rest : List Oper} {o : Oper} {a : Act} {w : World} {Q : Exit → Act → World → Prop} (hw : Region.wanted o (yielded ops a.tmps) = true) (x : Operand) (ho : o.op = .load 24 x)
    (b : Nat) (c : List Int) (hx : a.eval x = .pointer (some ⟨b, 0, none⟩)) (hb : Box w b c) (hc : c.length = 21)
    (h : wpList Tryz.prog ops Q rest (a.put o.dst (.agg (CA c))) w) : wpList Tryz.prog ops Q (o :: rest) a w := by
  unfold wpList
  rw [if_pos hw]
  exact .inl (wp_loadC x ho b c hx hb hc h)
end Cf
end Go.Proofs.YtacclmfbkiadbaaGreat

namespace Go.Proofs.YtacclmfbkiadbaaGreat
set_option maxRecDepth 100000
open Go.ChangeShapes Go.WideShapes Go.ChangeAt Go.RowKit Go.Deep
namespace Sg
open Cf (G CA Box)
theorem raw_cells {w : World} {g : Nat} {t : TypeId} {r : Nat → Rw} (h : VRow w g t (raw8 r)) : w.cell? ⟨g, 0, none⟩ = some (.bool (r 0).is) ∧ w.cell? ⟨g, 1, none⟩ = some (.int .i64 (r 0).n) ∧ w.cell? ⟨g, 2, none⟩ = some (.bool (r 1).is) ∧ w.cell? ⟨g, 3, none⟩ = some (.int .i64 (r 1).n) ∧ w.cell? ⟨g, 4, none⟩ = some (.bool (r 2).is) ∧ w.cell? ⟨g, 5, none⟩ = some (.int .i64 (r 2).n) ∧ w.cell? ⟨g, 6, none⟩ = some (.bool (r 3).is) ∧ w.cell? ⟨g, 7, none⟩ = some (.int .i64 (r 3).n) :=
  ⟨h.cell 0 rfl, h.cell 1 rfl, h.cell 2 rfl, h.cell 3 rfl, h.cell 4 rfl, h.cell 5 rfl, h.cell 6 rfl, h.cell 7 rfl⟩
theorem sizeR : (Tryz.prog.info? 42).map (·.size) = some 8 := by kernel_rfl
theorem aggR (w : World) : (isAgg 42).run Tryz.prog w = .ok true w := by simp [isAgg, run_underlying Tryz.underlying42]
theorem raw_one (r : Nat → Rw) : (raw8 r).toArray.all (·.oneCell') = true := by simp [raw8, Value.oneCell']
theorem mk4_bd (f : Nat → Bool) : 0 ≤ mk4 f ∧ mk4 f ≤ 15 := by
  unfold mk4
  refine ⟨?_, ?_⟩ <;> split <;> split <;> split <;> split <;> omega
/-- A whole struct loaded, in a region that draws, wherever its cells lie. -/
theorem wpQuiet_loadR {ops : Array Oper} {C : World → Prop} {Q : Act → Prop} {o : Oper} {rest : List Oper} {a : Act} {t : TypeId} (hw : Region.wanted o (yielded ops a.tmps) = true) (x : Operand) (ho : o.op = .load t x)
    (b off : Nat) (cs : List Value) (hx : a.eval x = .pointer (some ⟨b, off, none⟩)) (hb : ∀ w, C w → ∀ (j : Nat) v, cs[j]? = some v → w.cell? ⟨b, off + j, none⟩ = some v) (hA : ∀ w, (isAgg t).run Tryz.prog w = .ok true w) (hi : (Tryz.prog.info? t).map (·.size) = some cs.length)
    (h : wpQuiet Tryz.prog ops C Q rest (a.put o.dst (.agg cs.toArray))) : wpQuiet Tryz.prog ops C Q (o :: rest) a := by
  unfold wpQuiet
  rw [if_pos hw]
  refine ⟨.agg cs.toArray, fun w hC => ?_, h⟩
  have e : (loadVar t ⟨b, off, none⟩).run Tryz.prog w = .ok (.agg cs.toArray) w := by
    have h1 := run_loadCells_list (P := Tryz.prog) w ⟨b, off, none⟩ cs (fun j v hv => by rw [add_plain]; exact hb w hC j v hv)
    cases hq : Tryz.prog.info? t with
    | none => simp [hq] at hi
    | some i =>
      have hs : i.size = cs.length := by simpa [hq] using hi
      simp [loadVar, hA, sizeOf, typeInfo, hq, hs, h1, Result.andThen]
  unfold Oper.quietAt execOp
  simp only [ho, hx, Instr.loadAt, Instr.sureAddr, Sem.run_bind, Sem.run_pure, Result.andThen_ok, e]
  exact ⟨rfl, rfl⟩
theorem sizeS : (Tryz.prog.info? 37).map (·.size) = some 13 := by kernel_rfl
theorem sizeL : (Tryz.prog.info? 62).map (·.size) = some 5 := by kernel_rfl
theorem res_one (c : List Int) (s : Si) (r : Nat → Rw) (sh : Int) : (res c s r sh).toArray.all (·.oneCell') = true := by simp [res, Value.oneCell']
theorem lav_one (s : Lc.St) : (lav s).toArray.all (·.oneCell') = true := by simp [lav, Value.oneCell']
end Sg
end Go.Proofs.YtacclmfbkiadbaaGreat

namespace Go.Proofs.YtacclmfbkiadbaaGreat
set_option maxRecDepth 100000
open Go.ChangeShapes Go.WideShapes Go.ChangeAt Go.RowKit Go.Deep
namespace Sg
open Cf (G CA Box)
section
variable {c : List Int} {s : Si} {r : Nat → Rw} {sh : Int}
end
end Sg
end Go.Proofs.YtacclmfbkiadbaaGreat
