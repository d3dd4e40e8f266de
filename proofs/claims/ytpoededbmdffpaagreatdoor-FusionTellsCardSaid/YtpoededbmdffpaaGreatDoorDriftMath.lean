/-
  What package drift tells, as functions of numbers; how a level comes to a difference that stays. No Go text is reached here. No conditions.
-/
import Derived.Test.YtpoededbmdffpaaGreatDoorFixMath
import Derived.Test.YtpoededbmdffpaaGreatDoorBlk
namespace Go.Proofs.YtpoededbmdffpaaGreatDoor
set_option maxRecDepth 100000
namespace Dr
open Fx
/-- May a number be a difference? -/
def dif (d : Int) : Bool := decide (-4294967296 ≤ d) && decide (d ≤ 4294967296)
/-- May there be such a filter? -/
def may (lag bound : Int) : Bool := decide (0 ≤ lag) && decide (lag ≤ 8) && decide (0 ≤ bound) && decide (bound ≤ 2147483647)
/-- The level behind a difference. -/
def nx (lag level d : Int) : Int := if dif d = true then level + shift (d - level) lag else level
def ce (d : Int) : Int := if dif d = true then 0 else 1
/-- Is a level over a bound? -/
def ov (bound level : Int) : Bool := decide (bound < level) || decide (level < -bound)
/-- The cells of a filter. -/
def fil (lag bound level : Int) : List Value := [.int .i64 bound, .int .i64 lag, .int .i64 level]
theorem dif_iff (d : Int) : dif d = true ↔ -4294967296 ≤ d ∧ d ≤ 4294967296 := by unfold dif; simp
theorem may_iff (lag bound : Int) : may lag bound = true ↔ 0 ≤ lag ∧ lag ≤ 8 ∧ 0 ≤ bound ∧ bound ≤ 2147483647 := by
  unfold may; simp only [Bool.and_eq_true, decide_eq_true_eq, and_assoc]
theorem ce_yes {d : Int} (h : dif d = true) : ce d = 0 := if_pos h
theorem ce_no {d : Int} (h : dif d = false) : ce d = 1 := if_neg (by rw [h]; decide)
theorem nx_yes {lag level d : Int} (h : dif d = true) : nx lag level d = level + shift (d - level) lag := if_pos h
theorem nx_no {lag level d : Int} (h : dif d = false) : nx lag level d = level := if_neg (by rw [h]; decide)
/-- A quotient lies between 0 and what is divided. -/
theorem div_between (n b : Int) (hb : 1 ≤ b) : (0 ≤ n → 0 ≤ n / b ∧ n / b ≤ n) ∧ (n < 0 → n ≤ n / b ∧ n / b ≤ -1) := by
  refine ⟨fun h => div_bd n b hb h, fun h => ?_⟩
  rw [div_up n b hb]
  have h1 : (0 : Int) ≤ b - 1 - n := by omega
  have h2 := Int.ediv_nonneg h1 (show 0 ≤ b by omega)
  have h3 : 1 ≤ (b - 1 - n) / b := (Int.le_ediv_iff_mul_le (by omega)).2 (by omega)
  have h4 : (b - 1 - n) / b < -n + 1 := by
    refine (Int.ediv_lt_iff_lt_mul (by omega)).2 ?_
    have : (-n + 1) * b = -n * (b - 1) + -n + b := by rw [Int.add_mul, Int.mul_sub]; omega
    have h5 : 0 ≤ -n * (b - 1) := Int.mul_nonneg (by omega) (by omega)
    omega
  omega
theorem shift_small {n lag : Int} (hn : -8589934592 ≤ n ∧ n ≤ 8589934592) (h0 : 0 ≤ lag) (h8 : lag ≤ 8) : shift n lag = n / 2 ^ lag.toNat := by
  unfold shift; rw [if_pos ⟨(sm_iff n).2 (by omega), h0, by omega⟩]
/-- The level behind a difference lies between what it was, and the difference. -/
theorem nx_between {lag level d : Int} (hl : -4294967296 ≤ level ∧ level ≤ 4294967296) (hd : dif d = true) (h0 : 0 ≤ lag) (h8 : lag ≤ 8) :
    (level ≤ d → level ≤ nx lag level d ∧ nx lag level d ≤ d) ∧ (d < level → d ≤ nx lag level d ∧ nx lag level d ≤ level - 1) := by
  have hd' := (dif_iff d).1 hd
  rw [nx_yes hd, shift_small (by omega) h0 h8]
  have h := div_between (d - level) (2 ^ lag.toNat) (pow_pos2 _)
  exact ⟨fun q => by have := h.1 (by omega); omega, fun q => by have := h.2 (by omega); omega⟩
theorem nx_level {lag level d : Int} (hl : -4294967296 ≤ level ∧ level ≤ 4294967296) (h0 : 0 ≤ lag) (h8 : lag ≤ 8) : -4294967296 ≤ nx lag level d ∧ nx lag level d ≤ 4294967296 := by
  cases hd : dif d
  · rw [nx_no hd]; exact hl
  · have h := nx_between hl hd h0 h8
    have hd' := (dif_iff d).1 hd
    by_cases q : level ≤ d
    · have := h.1 q; omega
    · have := h.2 (by omega); omega
theorem apart_zero {level : Int} (hl : -4294967296 ≤ level ∧ level ≤ 4294967296) : apart level 0 = if level < 0 then 0 - level else level - 0 := by
  unfold apart; rw [if_pos ⟨(sm_iff _).2 (by omega), (sm_iff _).2 (by omega)⟩]
theorem ov_apart {bound level : Int} (hl : -4294967296 ≤ level ∧ level ≤ 4294967296) (h0 : 0 ≤ bound) : ov bound level = decide (bound < apart level 0) := by
  rw [apart_zero hl]
  unfold ov
  split
  · rw [show decide (bound < level) = false by simp; omega, Bool.false_or]
    exact decide_eq_decide.2 (by omega)
  · rw [show decide (level < -bound) = false by simp; omega, Bool.or_false]
    exact decide_eq_decide.2 (by omega)
end Dr
end Go.Proofs.YtpoededbmdffpaaGreatDoor
