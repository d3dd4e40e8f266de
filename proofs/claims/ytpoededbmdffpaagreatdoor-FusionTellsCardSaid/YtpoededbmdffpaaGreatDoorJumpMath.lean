/-
  What package jump tells, as functions of numbers. No Go text is reached here. No conditions.
-/
import Derived.Test.YtpoededbmdffpaaGreatDoorFixMath
import Derived.Test.YtpoededbmdffpaaGreatDoorBlk
namespace Go.Proofs.YtpoededbmdffpaaGreatDoor
set_option maxRecDepth 100000
namespace Jp
/-- May a number be a value? -/
def val (n : Int) : Bool := decide (-2147483648 ≤ n) && decide (n ≤ 2147483647)
/-- May there be such a watch? -/
def may (lo hi step : Int) : Bool := val lo && val hi && decide (lo ≤ hi) && decide (0 ≤ step) && decide (step ≤ 2147483647)
/-- Is a value outside the range? -/
def out (lo hi n : Int) : Bool := decide (n < lo) || decide (hi < n)
/-- Does a value jump? -/
def far (step last : Int) (has : Bool) (n : Int) : Bool := has && (decide (step < n - last) || decide (step < last - n))
def trips (lo hi step last : Int) (has : Bool) (n : Int) : Int := (if out lo hi n = true then 2 else 0) + (if far step last has n = true then 4 else 0)
/-- What Come tells, and what is kept then. -/
def ct (lo hi step last : Int) (has : Bool) (n : Int) : Int := if val n = true then trips lo hi step last has n else 0
def ce (n : Int) : Int := if val n = true then 0 else 1
def cl (last n : Int) : Int := if val n = true then n else last
def ch (has : Bool) (n : Int) : Bool := if val n = true then true else has
/-- The cells of a watch. -/
def wat (lo hi step last : Int) (has : Bool) : List Value := [.int .i64 lo, .int .i64 hi, .int .i64 step, .int .i64 last, .bool has]
theorem val_iff (n : Int) : val n = true ↔ -2147483648 ≤ n ∧ n ≤ 2147483647 := by unfold val; simp
theorem val_no (n : Int) : val n = false ↔ n < -2147483648 ∨ 2147483647 < n := by unfold val; simp; omega
theorem may_iff (lo hi step : Int) : may lo hi step = true ↔ val lo = true ∧ val hi = true ∧ lo ≤ hi ∧ 0 ≤ step ∧ step ≤ 2147483647 := by
  unfold may; simp only [Bool.and_eq_true, decide_eq_true_eq]; constructor <;> (rintro h; simp_all)
theorem apart_vals {a b : Int} (ha : val a = true) (hb : val b = true) : Fx.apart a b = if a < b then b - a else a - b := by
  have h1 := (val_iff a).1 ha
  have h2 := (val_iff b).1 hb
  unfold Fx.apart
  rw [if_pos ⟨(Fx.sm_iff a).2 (by omega), (Fx.sm_iff b).2 (by omega)⟩]
/-- The program's words of a jump are the document's. -/
theorem far_apart {step last n : Int} (hn : val n = true) (hl : val last = true) (hs : 0 ≤ step) : far step last true n = decide (step < Fx.apart n last) := by
  rw [apart_vals hn hl]
  unfold far
  rw [Bool.true_and]
  split
  · rw [show decide (step < n - last) = false by simp; omega, Bool.false_or]
  · by_cases h : step < n - last
    · simp [h]
    · rw [show decide (step < n - last) = false by simpa using h, Bool.false_or, show decide (step < last - n) = false by simp; omega]
theorem far_none (step last n : Int) : far step last false n = false := rfl
theorem ce_yes {n : Int} (h : val n = true) : ce n = 0 := if_pos h
theorem ce_no {n : Int} (h : val n = false) : ce n = 1 := if_neg (by rw [h]; decide)
end Jp
end Go.Proofs.YtpoededbmdffpaaGreatDoor
