/-
  What strconv.Itoa tells of the numbers from 0 to 3: a contract by walking the Go text. No conditions beyond that.
-/
import Derived.Test.YtdicmpniinjbpaaDoorStatusMath
import Derived.WalkKit
import Derived.ProofKit
import Derived.OpenShut
import Derived.Lib.Hide
import Derived.Handy
import Derived.Test.YtdicmpniinjbpaaDoorChecked
namespace Go.Proofs.YtdicmpniinjbpaaDoor
open Go.ChangeShapes Go.WideShapes Go.ChangeAt Go.RowKit
namespace Ss

/-- A number's letter. -/
def dg (k : Nat) : ByteArray := ⟨#[UInt8.ofNat (48 + k)]⟩
theorem small_any (k : Nat) (h : k < 4) (w : World) :
    Calls Tryd.prog 38 #[.int .i64 k] w fun e w' => e = .returned (.string (dg k)) ∧ w = w' := by
  have : k ∈ [0, 1, 2, 3] := by simp; omega
  simp only [List.mem_cons, List.mem_nil_iff, or_false] at this
  rcases this with rfl | rfl | rfl | rfl
  all_goals
    go_enter Tryd.func38, Tryd.ntmps38
    go_wp2
    go_ret
    exact ⟨rfl, rfl⟩
theorem format_any (k : Nat) (h : k < 4) (w : World) :
    Calls Tryd.prog 37 #[.int .i64 k, .int .i64 10] w fun e w' => e = .returned (.string (dg k)) ∧ w = w' := by
  have C := fun W => small_any k h W
  generalize dg k = x at *
  have h1 : (k : Int) < 100 := by omega
  go_enter Tryd.func37, Tryd.ntmps37
  go_wp2_with (go_at_call 38; refine (C _).mono ?_; rintro e w' ⟨rfl, rfl⟩)
  go_ret
  exact ⟨rfl, rfl⟩
theorem itoa1_any (k : Nat) (h : k < 4) (w : World) :
    Calls Tryd.prog 34 #[.int .i64 k] w fun e w' => e = .returned (.string (dg k)) ∧ w = w' := by
  have C := fun W => format_any k h W
  generalize dg k = x at *
  go_enter Tryd.func34, Tryd.ntmps34
  go_wp2_with (go_at_call 37; refine (C _).mono ?_; rintro e w' ⟨rfl, rfl⟩)
  go_ret
  exact ⟨rfl, rfl⟩
theorem itoa_any (k : Nat) (h : k < 4) (w : World) :
    Calls Tryd.prog 31 #[.int .i64 k] w fun e w' => e = .returned (.string (dg k)) ∧ w = w' := by
  have C := fun W => itoa1_any k h W
  generalize dg k = x at *
  go_enter Tryd.func31, Tryd.ntmps31
  go_wp2_with (go_at_call 34; refine (C _).mono ?_; rintro e w' ⟨rfl, rfl⟩)
  go_ret
  exact ⟨rfl, rfl⟩
end Ss
end Go.Proofs.YtdicmpniinjbpaaDoor
