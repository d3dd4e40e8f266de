/-
  What Right and Word of package status, and the like of rudderref16, tell: contracts by walking the Go text. No conditions beyond the numbers' kinds.
-/
import Derived.Test.YtpoededbmdffpaaGreatDoorStatusMath
import Derived.Test.YtpoededbmdffpaaGreatDoorFixMaskRef
import Derived.Test.YtpoededbmdffpaaGreatDoorVBox
import Derived.Handy
import Derived.RegionTactic
import Derived.BigQuiet
namespace Go.Proofs.YtpoededbmdffpaaGreatDoor
set_option maxRecDepth 100000
open Go.ChangeShapes Go.WideShapes Go.ChangeAt Go.RowKit Go.Deep
namespace Ss
open Fx
def stv (s : St) : Value := .agg #[.int .i64 s.i, .int .i64 s.l, .int .i64 s.s, .bool s.f]
def str (s : St) : List Value := [.int .i64 s.i, .int .i64 s.l, .int .i64 s.s, .bool s.f]
theorem st_cells {w : World} {g : Nat} {t : TypeId} {s : St} (h : VRow w g t (str s)) : w.cell? ⟨g, 0, none⟩ = some (.int .i64 s.i) ∧ w.cell? ⟨g, 1, none⟩ = some (.int .i64 s.l) ∧ w.cell? ⟨g, 2, none⟩ = some (.int .i64 s.s) ∧ w.cell? ⟨g, 3, none⟩ = some (.bool s.f) :=
  ⟨h.cell 0 rfl, h.cell 1 rfl, h.cell 2 rfl, h.cell 3 rfl⟩
theorem str_one (s : St) : (str s).toArray.all (·.oneCell') = true := by simp [str, Value.oneCell']
theorem onB {w w' : World} {g : Nat} {t : TypeId} {cs : List Value} (h : VRow w g t cs) (b : Below w.heap.size w w') : VRow w' g t cs := h.below b h.lt
theorem sizeS : (Tryz.prog.info? 37).map (·.size) = some 4 := by kernel_rfl
theorem aggS (w : World) : (isAgg 37).run Tryz.prog w = .ok true w := by simp [isAgg, run_underlying Tryz.underlying37]
theorem box_new (w : World) (s : St) (t : TypeId) : VRow (w.alloc (.cells #[.int .i64 s.i, .int .i64 s.l, .int .i64 s.s, .bool s.f] t)) w.heap.size t (str s) := VRow.new w (str s) t
theorem masked_any (n : Int) (w : World) :
    Calls Tryz.prog 108 #[.int .i64 n] w fun e w' => e = .returned (.bool (mk n)) ∧ w = w' := by
  have HF := Lib.hid (show mk n = (decide (0 ≤ n) && decide (n < 16)) by unfold mk; rw [Bool.decide_and])
  generalize mk n = x at *
  cases d : decide (0 ≤ n)
  · rw [d, Bool.false_and] at HF
    go_enter Tryz.func108, Tryz.ntmps108
    go_wp2
    go_ret
    exact ⟨ret_bool HF.out.symm, rfl⟩
  · rw [d, Bool.true_and] at HF
    go_enter Tryz.func108, Tryz.ntmps108
    go_wp2
    go_ret
    exact ⟨ret_bool HF.out.symm, rfl⟩
theorem masked_eq (n : Int) (x : Bool) (w : World) (h : mk n = x) :
    Calls Tryz.prog 108 #[.int .i64 n] w fun e w' => e = .returned (.bool x) ∧ w = w' := by subst h; exact masked_any n w
set_option maxHeartbeats 1600000 in
theorem right_any (s : St) (w : World) :
    Calls Tryz.prog 69 #[stv s] w fun e w' => e = .returned (.bool (rgt s)) ∧ Below w.heap.size w w' := by
  obtain ⟨i, l, q, f⟩ := s
  have HF := Lib.hid (show rgt ⟨i, l, q, f⟩ = (mk i && mk l && (f == (i == 0)) && (q == -1 || has i q)) from rfl)
  have BB := Lib.hid ((Below.refl w.heap.size w).alloc (Nat.le_refl _) (.cells #[.int .i64 i, .int .i64 l, .int .i64 q, .bool f] 37))
  have CH := fun W => has_any i q W
  unfold stv
  generalize rgt ⟨i, l, q, f⟩ = r at *
  generalize has i q = h at *
  cases d1 : mk i <;> cases d2 : mk l <;> cases d3 : (i == 0) <;> cases d4 : (q == -1) <;> cases f
  all_goals
    rw [d1, d2, d3, d4] at HF
    have D1 := Lib.hid d1
    have D2 := Lib.hid d2
    clear d1 d2
    go_enter Tryz.func69, Tryz.ntmps69
    go_wp2_with (first | (go_at_call 108; refine (masked_eq _ _ _ (by first | exact D1.out | exact D2.out)).mono ?_; rintro e w' ⟨rfl, rfl⟩) | (go_at_call 60; refine (CH _).mono ?_; rintro e w' ⟨rfl, rfl⟩))
    go_ret
    exact ⟨ret_bool (by rw [HF.out]; first | rfl | simp), BB.out⟩
end Ss
end Go.Proofs.YtpoededbmdffpaaGreatDoor
