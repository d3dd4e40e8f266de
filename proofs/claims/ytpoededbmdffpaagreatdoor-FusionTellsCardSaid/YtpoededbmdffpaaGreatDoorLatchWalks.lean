/-
  What the calls of package latch return, but Run: contracts by walking the Go text. No conditions.
-/
import Derived.Test.YtpoededbmdffpaaGreatDoorLatchMath
import Derived.Test.YtpoededbmdffpaaGreatDoorTailC
import Derived.Handy
import Derived.RegionTactic
import Derived.BigQuiet
namespace Go.Proofs.YtpoededbmdffpaaGreatDoor
set_option maxRecDepth 100000
open Go.ChangeShapes Go.WideShapes Go.ChangeAt Go.RowKit Go.Deep
namespace Lc
theorem ret_bool {a b : Bool} (h : a = b) : Ending.returned (.bool a) = .returned (.bool b) := by rw [h]
theorem within_any (n lo hi : Int) (w : World) :
    Calls Tryz.prog 233 #[.int .i64 n, .int .i64 lo, .int .i64 hi] w fun e w' => e = .returned (.bool (inb n lo hi)) ∧ w = w' := by
  have HF := Lib.hid (show inb n lo hi = (decide (lo ≤ n) && decide (n ≤ hi)) from rfl)
  generalize inb n lo hi = X at *
  cases d : decide (lo ≤ n)
  · rw [d, Bool.false_and] at HF
    go_enter Tryz.func233, Tryz.ntmps233
    go_wp2
    go_ret
    exact ⟨ret_bool HF.out.symm, rfl⟩
  · rw [d, Bool.true_and] at HF
    go_enter Tryz.func233, Tryz.ntmps233
    go_wp2
    go_ret
    exact ⟨ret_bool HF.out.symm, rfl⟩
theorem within_eq (n lo hi : Int) (x : Bool) (w : World) (h : inb n lo hi = x) :
    Calls Tryz.prog 233 #[.int .i64 n, .int .i64 lo, .int .i64 hi] w fun e w' => e = .returned (.bool x) ∧ w = w' := by subst h; exact within_any n lo hi w
set_option maxHeartbeats 800000 in
theorem right_any (L C B : Int) (w : World) :
    Calls Tryz.prog 227 #[.agg #[.int .i64 L, .int .i64 C, .int .i64 B]] w fun e w' => e = .returned (.bool (rgt L C B)) ∧ Below w.heap.size w w' := by
  have HF := Lib.hid (show rgt L C B = (inb L 1 100 && inb C 1 1000 && inb B 0 10) from rfl)
  have BB := Lib.hid ((Below.refl w.heap.size w).alloc (Nat.le_refl _) (.cells #[.int .i64 L, .int .i64 C, .int .i64 B] 285))
  generalize rgt L C B = r at *
  cases d1 : inb L 1 100 <;> cases d2 : inb C 1 1000 <;> cases d3 : inb B 0 10
  all_goals
    rw [d1, d2, d3] at HF
    have D1 := Lib.hid d1
    have D2 := Lib.hid d2
    have D3 := Lib.hid d3
    clear d1 d2 d3
    go_enter Tryz.func227, Tryz.ntmps227
    go_wp2_with (go_at_call 233; refine (within_eq _ _ _ _ _ (by first | exact D1.out | exact D2.out | exact D3.out)).mono ?_; rintro e w' ⟨rfl, rfl⟩)
    go_ret
    exact ⟨ret_bool HF.out.symm, BB.out⟩
/-- Which one of the three it is. -/
def mde (la ou : Bool) : Value := if ou then .iface 315 (.agg #[]) else if la then .iface 316 (.agg #[]) else .iface 317 (.agg #[])
theorem modeOf_any (la ou : Bool) (st cl bk : Int) (w : World) :
    Calls Tryz.prog 209 #[.agg #[.bool la, .bool ou, .int .i64 st, .int .i64 cl, .int .i64 bk]] w fun e w' => e = .returned (mde la ou) ∧ Below w.heap.size w w' := by
  have BB := Lib.hid ((Below.refl w.heap.size w).alloc (Nat.le_refl _) (.cells #[.bool la, .bool ou, .int .i64 st, .int .i64 cl, .int .i64 bk] 54))
  cases ou <;> cases la
  all_goals
    go_enter Tryz.func209, Tryz.ntmps209
    go_wp2
    go_ret
    exact ⟨rfl, BB.out⟩
end Lc
end Go.Proofs.YtpoededbmdffpaaGreatDoor
