/-
  LatchTells, walked: whether a rule, and a state by it, may be, the state behind a cycle, and what happened, are as the document says. Its conditions: what the kinds hold.
-/
import Derived.Test.YtcpfdohodadcaaaLatchAlive
namespace Go.Proofs.Ytcpfdohodadcaaa
open Go.ChangeShapes Go.WideShapes Go.ChangeAt Go.RowKit Go.Deep
namespace Lc.LatchTells
open Lc

set_option maxHeartbeats 3200000 in
theorem tells_any (L C B : Int) (s : St) (t : Bool) (w : World) :
    Calls Try.prog 3 #[rlv L C B, stv s, .bool t] w fun e w' => e = .returned (.bool true) ∧ Below w.heap.size w w' := by
  have CN := fun W => next_any L C B s t W
  have CM := fun W => rnext_any L C B s t W
  have CA := alive_any
  have CL := fun W => rule_any L C B W
  have CS := fun (u : St) W => state_any u W
  have CR := fun W => right_any L C B W
  have CQ := fun W => rright_any L C B W
  have CF := fun W => fine_any L C B s W
  have CG := fun W => rfine_any L C B s W
  have T0 := Lib.hid (two_new w L C B s 23 25)
  unfold RetN at CN CM
  generalize nxs L C B s t = r at *
  generalize nxw L C B s t = x at *
  generalize nxe L C B s = y at *
  generalize rgt L C B = p at *
  generalize fne L C B s = q at *
  unfold rlv stv at *
  go_enter Try.func3, Try.ntmps3
  go_wp2_with fail
  refine (CN _).mono ?_
  rintro e w1 ⟨rfl, b1⟩
  have T1 := Lib.hid (T0.out.on b1)
  clear b1 T0 CN
  go_wp2_with fail
  have bA := (Below.refl w1.heap.size w1).alloc (Nat.le_refl _) (.cells #[.bool r.la, .bool r.ou, .int .i64 r.st, .int .i64 r.cl, .int .i64 r.bk] 25)
  have V2 := Lib.hid (show VRow (w1.alloc (.cells #[.bool r.la, .bool r.ou, .int .i64 r.st, .int .i64 r.cl, .int .i64 r.bk] 25)) w1.heap.size 25 (str r) from VRow.new w1 (str r) _)
  have T2 := Lib.hid (T1.out.on bA)
  clear bA T1
  generalize w1.alloc (.cells #[.bool r.la, .bool r.ou, .int .i64 r.st, .int .i64 r.cl, .int .i64 r.bk] 25) = W1 at *
  refine Lt.wp_region_box (aF := ?_) 13 11 67 10 28 29 (str zer) (str r) [true, true, true, true, true, true, true, true, true, true, false, false, true] [false, false, false, false, false, false, false, false, false, false, true, false, false] (by kernel_rfl) (by kernel_rfl) (by kernel_rfl) rfl (by decide) rfl rfl ?_ sizeSr rfl (str_one r) ?_ ?_ ?_
  case refine_3 =>
    intro W bW
    have T3 := T2.out.on bW
    obtain ⟨c0, c1, c2⟩ := rl_cells T3.rule
    replace c0 := cell_regrown c0
    replace c1 := cell_regrown c1
    replace c2 := cell_regrown c2
    obtain ⟨q0, q1, q2, q3, q4⟩ := st_cells T3.state
    replace q0 := cell_regrown q0
    replace q1 := cell_regrown q1
    replace q2 := cell_regrown q2
    replace q3 := cell_regrown q3
    replace q4 := cell_regrown q4
    have cM := reg_call (w := W) (fun W _ => CM W)
    have cL := reg_call (w := W) (fun W _ => CL W)
    have cS := fun u => reg_call (w := W) (fun W _ => CS u W)
    simp only [List.take_succ_cons, List.take_zero, Lt.sel]
    repeat (go_big_quiet_step (first | exact cM _ _ | exact cL _ _ | exact cS _ _ _))
    exact rfl
  case refine_2 => exact allocSr
  case refine_4 => exact rfl
  intro gx W KW
  have T3 := Lib.hid (T2.out.on KW.below)
  have V3 := Lib.hid (onB V2.out KW.below)
  have K3 := Lib.hid KW
  simp only [List.drop_succ_cons, List.drop_zero, Act.put, List.setIfInBounds_toArray, List.set_cons_succ, List.set_cons_zero]
  clear KW CM V2
  go_wp2_with fail
  obtain ⟨c0, c1, c2⟩ := rl_cells T3.out.rule
  replace c0 := cell_regrown c0
  replace c1 := cell_regrown c1
  replace c2 := cell_regrown c2
  obtain ⟨q0, q1, q2, q3, q4⟩ := st_cells T3.out.state
  replace q0 := cell_regrown q0
  replace q1 := cell_regrown q1
  replace q2 := cell_regrown q2
  replace q3 := cell_regrown q3
  replace q4 := cell_regrown q4
  obtain ⟨v0, v1, v2, v3, v4⟩ := st_cells V3.out
  replace v0 := cell_regrown v0
  replace v1 := cell_regrown v1
  replace v2 := cell_regrown v2
  replace v3 := cell_regrown v3
  replace v4 := cell_regrown v4
  obtain ⟨k0, k1, k2, k3, k4⟩ := st_cells K3.out.row
  replace k0 := cell_regrown k0
  replace k1 := cell_regrown k1
  replace k2 := cell_regrown k2
  replace k3 := cell_regrown k3
  replace k4 := cell_regrown k4
  have cA := reg_call (w := W) (fun W _ => CA W)
  have cL := reg_call (w := W) (fun W _ => CL W)
  have cS := fun u => reg_call (w := W) (fun W _ => CS u W)
  have cR := reg_call (w := W) (fun W _ => CR W)
  have cQ := reg_call (w := W) (fun W _ => CQ W)
  have cF := reg_call (w := W) (fun W _ => CF W)
  have cG := reg_call (w := W) (fun W _ => CG W)
  clear CA CL CS CR CQ CF CG
  refine wp_region_quiet_below (by kernel_rfl) (by kernel_rfl) ?_
  repeat (go_big_quiet_step (first | exact cA _ _ | exact cL _ _ | exact cS _ _ _ | exact cR _ _ | exact cQ _ _ | exact cF _ _ | exact cG _ _))
  refine wpQuiet_nil ?_
  intro _ hw'
  obtain ⟨⟨dq, osq⟩, hw''⟩ := hw'
  subst hw''
  go_wp2
  go_ret
  exact ⟨rfl, grow T3.out.below (below_regrown W dq osq)⟩
end Lc.LatchTells
namespace latchTells
theorem walk (L C B : Int) (la ou : Bool) (st cl bk : Int) (t : Bool) (w : World) (_ : (Lit.int .i64 L).wf = true) (_ : (Lit.int .i64 C).wf = true) (_ : (Lit.int .i64 B).wf = true) (_ : (Lit.int .i64 st).wf = true) (_ : (Lit.int .i64 cl).wf = true) (_ : (Lit.int .i64 bk).wf = true) :
    Calls Try.prog 3 #[.agg #[.int .i64 L, .int .i64 C, .int .i64 B], .agg #[.bool la, .bool ou, .int .i64 st, .int .i64 cl, .int .i64 bk], .bool t] w fun e w' => e = .returned (.bool true) ∧ Below w.heap.size w w' :=
  Lc.LatchTells.tells_any L C B ⟨la, ou, st, cl, bk⟩ t w
end latchTells
end Go.Proofs.Ytcpfdohodadcaaa
