/-
  What the small functions of package word do (counted, told, read, readFour, Next, After, Get2, Get4): contracts by walking the Go text. Their conditions: where the bytes lie.
-/
import Derived.Test.YtdicmpniinjbpaaDoorWordMath2
import Derived.Test.YtdicmpniinjbpaaDoorAppend
import Derived.Deep.LoopGhost
import Derived.IntWalk
import Derived.WalkSmall
import Derived.Laws.BitsAll
namespace Go.Proofs.YtdicmpniinjbpaaDoor
open Go.ChangeShapes Go.WideShapes Go.ChangeAt Go.RowKit Go.Deep
namespace Wd
open Cr (Bytes)

theorem ret_int {k : IntKind} {n m : Int} (h : n = m) : Ending.returned (.int k n) = .returned (.int k m) := by rw [h]
theorem ret_bool {a b : Bool} (h : a = b) : Ending.returned (.bool a) = .returned (.bool b) := by rw [h]
theorem ret_ib {n m : Int} {a b : Bool} (h : n = m) (k : a = b) : Ending.returned (.tuple #[.int .i64 n, .bool a]) = .returned (.tuple #[.int .i64 m, .bool b]) := by rw [h, k]

theorem counted_any (n : Int) (w : World) :
    Calls Tryd.prog 26 #[.int .i64 n] w fun e w' => e = .returned (.bool (in2 n)) ∧ w = w' := by
  by_cases h1 : 0 ≤ n
  · by_cases h2 : n ≤ 65535
    · have HF := Lib.hid ((in2_iff n).2 ⟨h1, h2⟩)
      have d : decide (n < 65536) = true := by simp; omega
      go_enter Tryd.func26, Tryd.ntmps26
      go_wp2
      go_ret
      exact ⟨ret_bool HF.out.symm, rfl⟩
    · have HF := Lib.hid (in2_no (n := n) (by omega))
      have d : decide (n < 65536) = false := by simp; omega
      go_enter Tryd.func26, Tryd.ntmps26
      go_wp2
      go_ret
      exact ⟨ret_bool HF.out.symm, rfl⟩
  · have HF := Lib.hid (in2_no (n := n) (by omega))
    have d : decide (0 ≤ n) = false := by simpa using h1
    go_enter Tryd.func26, Tryd.ntmps26
    go_wp2
    go_ret
    exact ⟨ret_bool HF.out.symm, rfl⟩
end Wd
end Go.Proofs.YtdicmpniinjbpaaDoor
