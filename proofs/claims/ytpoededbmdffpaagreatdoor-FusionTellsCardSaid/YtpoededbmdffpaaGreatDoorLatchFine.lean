/-
  What Fine of package latch tells: a contract by walking the Go text. No conditions.
-/
import Derived.Test.YtpoededbmdffpaaGreatDoorLatchBehind
namespace Go.Proofs.YtpoededbmdffpaaGreatDoor
set_option maxRecDepth 100000
open Go.ChangeShapes Go.WideShapes Go.ChangeAt Go.RowKit Go.Deep
namespace Lc
/-- A rule, and a state, as they lie in a box. -/
def rlr (L C B : Int) : List Value := [.int .i64 L, .int .i64 C, .int .i64 B]
def str (s : St) : List Value := [.bool s.la, .bool s.ou, .int .i64 s.st, .int .i64 s.cl, .int .i64 s.bk]
theorem rl_cells {w : World} {g : Nat} {t : TypeId} {L C B : Int} (h : VRow w g t (rlr L C B)) : w.cell? ⟨g, 0, none⟩ = some (.int .i64 L) ∧ w.cell? ⟨g, 1, none⟩ = some (.int .i64 C) ∧ w.cell? ⟨g, 2, none⟩ = some (.int .i64 B) :=
  ⟨h.cell 0 rfl, h.cell 1 rfl, h.cell 2 rfl⟩
theorem st_cells {w : World} {g : Nat} {t : TypeId} {s : St} (h : VRow w g t (str s)) : w.cell? ⟨g, 0, none⟩ = some (.bool s.la) ∧ w.cell? ⟨g, 1, none⟩ = some (.bool s.ou) ∧ w.cell? ⟨g, 2, none⟩ = some (.int .i64 s.st) ∧ w.cell? ⟨g, 3, none⟩ = some (.int .i64 s.cl) ∧ w.cell? ⟨g, 4, none⟩ = some (.int .i64 s.bk) :=
  ⟨h.cell 0 rfl, h.cell 1 rfl, h.cell 2 rfl, h.cell 3 rfl, h.cell 4 rfl⟩
/-- Two boxes: the rule's, the state's. -/
structure Two (w W : World) (t u : TypeId) (L C B : Int) (s : St) : Prop where
  below : Below w.heap.size w W
  rule : VRow W w.heap.size t (rlr L C B)
  state : VRow W (w.heap.size + 1) u (str s)
theorem two_new (w : World) (L C B : Int) (s : St) (t u : TypeId) : Two w ((w.alloc (.cells #[.int .i64 L, .int .i64 C, .int .i64 B] t)).alloc (.cells #[.bool s.la, .bool s.ou, .int .i64 s.st, .int .i64 s.cl, .int .i64 s.bk] u)) t u L C B s := by
  refine ⟨((Below.refl w.heap.size w).alloc (Nat.le_refl _) _).alloc (by simp) _, (VRow.new w (rlr L C B) t).alloc _, ?_⟩
  have := VRow.new (w.alloc (.cells (rlr L C B).toArray t)) (str s) u
  rwa [show (w.alloc (.cells (rlr L C B).toArray t)).heap.size = w.heap.size + 1 by simp] at this
set_option maxHeartbeats 1600000 in
theorem fine_no (L C B : Int) (s : St) (w : World) (h : rgt L C B = false) :
    Calls Tryz.prog 208 #[rlv L C B, stv s] w fun e w' => e = .returned (.bool (fne L C B s)) ∧ Below w.heap.size w w' := by
  have e1 : fne L C B s = false := by unfold fne; rw [h]; rfl
  have C1 := fun W => right_any L C B W
  rw [h] at C1
  rw [e1]
  have T := Lib.hid (two_new w L C B s 285 54)
  clear h e1
  unfold rlv stv
  go_enter Tryz.func208, Tryz.ntmps208
  go_wp2
  generalize ((w.alloc (.cells #[.int .i64 L, .int .i64 C, .int .i64 B] 285)).alloc (.cells #[.bool s.la, .bool s.ou, .int .i64 s.st, .int .i64 s.cl, .int .i64 s.bk] 54)) = W0 at *
  obtain ⟨c0, c1, c2⟩ := rl_cells T.out.rule
  replace c0 := cell_regrown c0
  replace c1 := cell_regrown c1
  replace c2 := cell_regrown c2
  have cR := reg_call (w := W0) (fun W _ => C1 W)
  clear C1
  refine wp_region_quiet_below (by kernel_rfl) (by kernel_rfl) ?_
  repeat (go_big_quiet_step (exact cR _ _))
  refine wpQuiet_nil ?_
  intro _ hw'
  obtain ⟨⟨dq, osq⟩, hw''⟩ := hw'
  subst hw''
  go_wp2
  go_returns
  exact ⟨rfl, grow T.out.below (below_regrown W0 dq osq)⟩
/-! ### Which method is called -/
theorem m_in_fine (d : Nat) (W : World) : (method (d + 1) 317 (.agg #[]) "rudder/latch.fine").run Tryz.prog W = .ok (265, .agg #[]) W := by kernel_rfl
theorem m_latched_fine (d : Nat) (W : World) : (method (d + 1) 316 (.agg #[]) "rudder/latch.fine").run Tryz.prog W = .ok (263, .agg #[]) W := by kernel_rfl
theorem m_out_fine (d : Nat) (W : World) : (method (d + 1) 315 (.agg #[]) "rudder/latch.fine").run Tryz.prog W = .ok (261, .agg #[]) W := by kernel_rfl
theorem m_in_behind (d : Nat) (W : World) : (method (d + 1) 317 (.agg #[]) "rudder/latch.behind").run Tryz.prog W = .ok (264, .agg #[]) W := by kernel_rfl
theorem m_latched_behind (d : Nat) (W : World) : (method (d + 1) 316 (.agg #[]) "rudder/latch.behind").run Tryz.prog W = .ok (262, .agg #[]) W := by kernel_rfl
theorem m_out_behind (d : Nat) (W : World) : (method (d + 1) 315 (.agg #[]) "rudder/latch.behind").run Tryz.prog W = .ok (260, .agg #[]) W := by kernel_rfl
set_option maxHeartbeats 3200000 in
theorem fine_yes (L C B : Int) (s : St) (w : World) (h : rgt L C B = true) :
    Calls Tryz.prog 208 #[rlv L C B, stv s] w fun e w' => e = .returned (.bool (fne L C B s)) ∧ Below w.heap.size w w' := by
  have e1 : fne L C B s = fin L C B s := by unfold fne; rw [h]; rfl
  have hR := rgt_iff.1 h
  have C1 := fun W => right_any L C B W
  rw [h] at C1
  rw [e1]
  have T := Lib.hid (two_new w L C B s 285 54)
  clear h e1
  obtain ⟨la, ou, st, cl, bk⟩ := s
  unfold rlv stv
  dsimp only at *
  cases ou
  · cases la
    · have CM := fun W => modeOf_any false false st cl bk W
      have CF := fun W => in_fine L C B false false st cl bk W hR
      have m1 := m_in_fine
      have HF := Lib.hid (show (inb st 0 (L - 1) && cl == 0 && inb bk 0 B) = fin L C B ⟨false, false, st, cl, bk⟩ from rfl)
      generalize fin L C B ⟨false, false, st, cl, bk⟩ = x at *
      rw [HF.out] at CF
      clear hR HF
      go_enter Tryz.func208, Tryz.ntmps208
      go_wp2
      generalize ((w.alloc (.cells #[.int .i64 L, .int .i64 C, .int .i64 B] 285)).alloc (.cells #[.bool false, .bool false, .int .i64 st, .int .i64 cl, .int .i64 bk] 54)) = W0 at *
      obtain ⟨c0, c1, c2⟩ := rl_cells T.out.rule
      replace c0 := cell_regrown c0
      replace c1 := cell_regrown c1
      replace c2 := cell_regrown c2
      obtain ⟨q0, q1, q2, q3, q4⟩ := st_cells T.out.state
      replace q0 := cell_regrown q0
      replace q1 := cell_regrown q1
      replace q2 := cell_regrown q2
      replace q3 := cell_regrown q3
      replace q4 := cell_regrown q4
      have cR := reg_call (w := W0) (fun W _ => C1 W)
      have cM := reg_call (w := W0) (v := .iface 317 (.agg #[])) (fun W _ => CM W)
      have cF := reg_call (w := W0) (fun W _ => CF W)
      clear C1 CM CF
      refine wp_region_quiet_below (by kernel_rfl) (by kernel_rfl) ?_
      repeat (go_big_quiet_step (first | exact cR _ _ | exact cM _ _ | exact cF _ _))
      refine wpQuiet_nil ?_
      intro _ hw'
      obtain ⟨⟨dq, osq⟩, hw''⟩ := hw'
      subst hw''
      go_wp2
      go_returns
      exact ⟨rfl, grow T.out.below (below_regrown W0 dq osq)⟩
    · have CM := fun W => modeOf_any true false st cl bk W
      have CF := fun W => latched_fine L C B true false st cl bk W hR
      have m1 := m_latched_fine
      have HF := Lib.hid (show (st == L && inb cl 0 (C - 1) && inb bk 0 (B - 1)) = fin L C B ⟨true, false, st, cl, bk⟩ from rfl)
      generalize fin L C B ⟨true, false, st, cl, bk⟩ = x at *
      rw [HF.out] at CF
      clear hR HF
      go_enter Tryz.func208, Tryz.ntmps208
      go_wp2
      generalize ((w.alloc (.cells #[.int .i64 L, .int .i64 C, .int .i64 B] 285)).alloc (.cells #[.bool true, .bool false, .int .i64 st, .int .i64 cl, .int .i64 bk] 54)) = W0 at *
      obtain ⟨c0, c1, c2⟩ := rl_cells T.out.rule
      replace c0 := cell_regrown c0
      replace c1 := cell_regrown c1
      replace c2 := cell_regrown c2
      obtain ⟨q0, q1, q2, q3, q4⟩ := st_cells T.out.state
      replace q0 := cell_regrown q0
      replace q1 := cell_regrown q1
      replace q2 := cell_regrown q2
      replace q3 := cell_regrown q3
      replace q4 := cell_regrown q4
      have cR := reg_call (w := W0) (fun W _ => C1 W)
      have cM := reg_call (w := W0) (v := .iface 316 (.agg #[])) (fun W _ => CM W)
      have cF := reg_call (w := W0) (fun W _ => CF W)
      clear C1 CM CF
      refine wp_region_quiet_below (by kernel_rfl) (by kernel_rfl) ?_
      repeat (go_big_quiet_step (first | exact cR _ _ | exact cM _ _ | exact cF _ _))
      refine wpQuiet_nil ?_
      intro _ hw'
      obtain ⟨⟨dq, osq⟩, hw''⟩ := hw'
      subst hw''
      go_wp2
      go_returns
      exact ⟨rfl, grow T.out.below (below_regrown W0 dq osq)⟩
  · have CM := fun W => modeOf_any la true st cl bk W
    have CF := fun W => out_fine L C B la true st cl bk W
    have m1 := m_out_fine
    have HF := Lib.hid (show (la && st == L && cl == 0 && bk == B) = fin L C B ⟨la, true, st, cl, bk⟩ from rfl)
    generalize fin L C B ⟨la, true, st, cl, bk⟩ = x at *
    rw [HF.out] at CF
    clear hR HF
    go_enter Tryz.func208, Tryz.ntmps208
    go_wp2
    generalize ((w.alloc (.cells #[.int .i64 L, .int .i64 C, .int .i64 B] 285)).alloc (.cells #[.bool la, .bool true, .int .i64 st, .int .i64 cl, .int .i64 bk] 54)) = W0 at *
    obtain ⟨c0, c1, c2⟩ := rl_cells T.out.rule
    replace c0 := cell_regrown c0
    replace c1 := cell_regrown c1
    replace c2 := cell_regrown c2
    obtain ⟨q0, q1, q2, q3, q4⟩ := st_cells T.out.state
    replace q0 := cell_regrown q0
    replace q1 := cell_regrown q1
    replace q2 := cell_regrown q2
    replace q3 := cell_regrown q3
    replace q4 := cell_regrown q4
    have cR := reg_call (w := W0) (fun W _ => C1 W)
    have cM := reg_call (w := W0) (v := .iface 315 (.agg #[])) (fun W _ => CM W)
    have cF := reg_call (w := W0) (fun W _ => CF W)
    clear C1 CM CF
    refine wp_region_quiet_below (by kernel_rfl) (by kernel_rfl) ?_
    repeat (go_big_quiet_step (first | exact cR _ _ | exact cM _ _ | exact cF _ _))
    refine wpQuiet_nil ?_
    intro _ hw'
    obtain ⟨⟨dq, osq⟩, hw''⟩ := hw'
    subst hw''
    go_wp2
    go_returns
    exact ⟨rfl, grow T.out.below (below_regrown W0 dq osq)⟩
theorem fine_any (L C B : Int) (s : St) (w : World) :
    Calls Tryz.prog 208 #[rlv L C B, stv s] w fun e w' => e = .returned (.bool (fne L C B s)) ∧ Below w.heap.size w w' := by
  cases h : rgt L C B
  · exact fine_no L C B s w h
  · exact fine_yes L C B s w h
end Lc
end Go.Proofs.YtpoededbmdffpaaGreatDoor
