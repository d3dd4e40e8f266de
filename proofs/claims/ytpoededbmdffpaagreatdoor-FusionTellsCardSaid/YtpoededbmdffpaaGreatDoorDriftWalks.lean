/-
  What the calls of package drift do: their contracts by walking the Go text. Conditions: where the filter lies; that its level may be one.
-/
import Derived.Test.YtpoededbmdffpaaGreatDoorDriftMath
import Derived.Test.YtpoededbmdffpaaGreatDoorFixWalks
import Derived.Test.YtpoededbmdffpaaGreatDoorTail
import Derived.RegionTactic
import Derived.StillTailTactics
import Derived.BigQuiet
import Derived.Lib.QuietBelow
namespace Go.Proofs.YtpoededbmdffpaaGreatDoor
set_option maxRecDepth 100000
open Go.ChangeShapes Go.WideShapes Go.ChangeAt Go.RowKit Go.Deep
namespace Dr
open Fx (ret_bool)
set_option maxHeartbeats 800000 in
theorem new_yes (lag bound : Int) (w : World) (h : may lag bound = true) :
    Calls Tryz.prog 111 #[.int .i64 lag, .int .i64 bound] w fun e w' => e = .returned (.tuple #[.pointer (some ⟨w.heap.size, 0, none⟩), .int .i64 0]) ∧ w' = w.alloc (.cells (fil lag bound 0).toArray 270) := by
  obtain ⟨h1, h2, h3, h4⟩ := (may_iff _ _).1 h
  have d1 : decide (lag < 0) = false := by simpa using h1
  have d2 : decide (8 < lag) = false := by simpa using h2
  have d3 : decide (bound < 0) = false := by simpa using h3
  have d4 : decide (2147483647 < bound) = false := by simpa using h4
  clear h h1 h2 h3 h4
  go_enter Tryz.func111, Tryz.ntmps111
  go_wp2
  go_ret2
  exact ⟨rfl, rfl⟩
set_option maxHeartbeats 1600000 in
theorem new_no (lag bound : Int) (w : World) (h : may lag bound = false) :
    Calls Tryz.prog 111 #[.int .i64 lag, .int .i64 bound] w fun e w' => e = .returned (.tuple #[.pointer none, .int .i64 1]) ∧ w = w' := by
  unfold may at h
  cases d1 : decide (lag < 0)
  · cases d2 : decide (8 < lag)
    · cases d3 : decide (bound < 0)
      · have d4 : decide (2147483647 < bound) = true := by simp at d1 d2 d3 h ⊢; omega
        clear h
        go_enter Tryz.func111, Tryz.ntmps111
        go_wp2
        go_ret2
        exact ⟨rfl, rfl⟩
      · clear h
        go_enter Tryz.func111, Tryz.ntmps111
        go_wp2
        go_ret2
        exact ⟨rfl, rfl⟩
    · clear h
      go_enter Tryz.func111, Tryz.ntmps111
      go_wp2
      go_ret2
      exact ⟨rfl, rfl⟩
  · clear h
    go_enter Tryz.func111, Tryz.ntmps111
    go_wp2
    go_ret2
    exact ⟨rfl, rfl⟩
set_option maxHeartbeats 800000 in
theorem over_any (bound level : Int) (w : World) (hl : -4294967296 ≤ level ∧ level ≤ 4294967296) (h0 : 0 ≤ bound) :
    Calls Tryz.prog 199 #[.agg #[.int .i64 bound], .int .i64 level] w fun e w' => e = .returned (.bool (ov bound level)) ∧ Below w.heap.size w w' := by
  have HO := Lib.hid (ov_apart hl h0)
  have CA := fun W => Fx.apart_any level 0 W
  generalize Fx.apart level 0 = x at *
  have B0 := Lib.hid ((Below.refl w.heap.size w).alloc (Nat.le_refl _) (.cells #[.int .i64 bound] 268))
  have R0 := Lib.hid (show IRow .i64 (w.alloc (.cells #[.int .i64 bound] 268)) w.heap.size 268 [bound] from heap_alloc_new w _)
  have c0 := R0.out.cell 0 (by simp)
  clear hl h0
  go_enter Tryz.func199, Tryz.ntmps199
  go_wp2_with fail
  go_quiet (exact Calls.quiet_of_same ((CA _).mono fun e w' q => ⟨q.1, q.2.symm⟩))
  go_wp2
  go_ret
  exact ⟨ret_bool (by rw [HO.out]), below_drewN B0.out _⟩
end Dr
end Go.Proofs.YtpoededbmdffpaaGreatDoor
