/-
  What package equal tells, as functions of numbers. No Go text is reached here. No conditions.
-/
import Derived.Test.YtpoededbmdffpaaGreatDoorJumpMath
import Derived.Test.YtpoededbmdffpaaGreatDoorDriftMath
namespace Go.Proofs.YtpoededbmdffpaaGreatDoor
set_option maxRecDepth 100000
namespace Ql
open Fx
open Jp (val val_iff val_no out)
/-- May there be such a trim? -/
def may (auth gain : Int) : Bool := decide (0 ≤ auth) && decide (auth ≤ 2147483647) && decide (0 ≤ gain) && decide (gain ≤ 8)
/-- Are both values? -/
def both (n vote : Int) : Bool := val n && val vote
/-- A number, at most so far from 0. -/
def lim (a x : Int) : Int := if a < x then a else if x < -a then -a else x
/-- The offset behind a value, and a vote. -/
def nx (auth gain offset n vote : Int) : Int := if both n vote = true then lim auth (offset + shift (n - vote - offset) gain) else offset
def ce (n vote : Int) : Int := if both n vote = true then 0 else 1
/-- What is even of a value. -/
def ev (offset n : Int) : Int := if val n = true then n - offset else 0
def ee (n : Int) : Int := if val n = true then 0 else 1
/-- The cells of a trim. -/
def tri (auth gain offset : Int) : List Value := [.int .i64 auth, .int .i64 gain, .int .i64 offset]
theorem may_iff (auth gain : Int) : may auth gain = true ↔ 0 ≤ auth ∧ auth ≤ 2147483647 ∧ 0 ≤ gain ∧ gain ≤ 8 := by
  unfold may; simp only [Bool.and_eq_true, decide_eq_true_eq, and_assoc]
theorem may_outs (auth gain : Int) : may auth gain = (!out 0 2147483647 auth && !out 0 8 gain) := by
  rw [Bool.eq_iff_iff, may_iff]
  unfold out
  first | (simp; done) | (simp; omega)
theorem val_out (n : Int) : out (-2147483648) 2147483647 n = !val n := by
  unfold out val
  rw [Bool.eq_iff_iff]
  first | (simp; done) | (simp; omega)
theorem both_iff (n vote : Int) : both n vote = true ↔ val n = true ∧ val vote = true := by unfold both; simp
theorem both_outs (n vote : Int) : [n, vote].any (out (-2147483648) 2147483647) = !both n vote := by
  unfold both
  simp [val_out]
theorem one_out (lo hi n : Int) : [n].any (out lo hi) = out lo hi n := by simp
theorem nx_yes {auth gain offset n vote : Int} (h : both n vote = true) : nx auth gain offset n vote = lim auth (offset + shift (n - vote - offset) gain) := if_pos h
theorem nx_no {auth gain offset n vote : Int} (h : both n vote = false) : nx auth gain offset n vote = offset := if_neg (by rw [h]; decide)
theorem ce_yes {n vote : Int} (h : both n vote = true) : ce n vote = 0 := if_pos h
theorem ce_no {n vote : Int} (h : both n vote = false) : ce n vote = 1 := if_neg (by rw [h]; decide)
theorem ev_yes {offset n : Int} (h : val n = true) : ev offset n = n - offset := if_pos h
theorem ev_no {offset n : Int} (h : val n = false) : ev offset n = 0 := if_neg (by rw [h]; decide)
theorem ee_yes {n : Int} (h : val n = true) : ee n = 0 := if_pos h
theorem ee_no {n : Int} (h : val n = false) : ee n = 1 := if_neg (by rw [h]; decide)
theorem lim_bd {a : Int} (h : 0 ≤ a) (x : Int) : -a ≤ lim a x ∧ lim a x ≤ a := by
  unfold lim; split
  · omega
  · split <;> omega
theorem lim_cases (a x : Int) : lim a x = a ∨ lim a x = -a ∨ lim a x = x := by
  unfold lim; split
  · exact Or.inl rfl
  · split
    · exact Or.inr (Or.inl rfl)
    · exact Or.inr (Or.inr rfl)
/-- The program's words of it: a number clamped. -/
theorem lim_clamp {a x : Int} (h0 : 0 ≤ a) (h1 : a ≤ 2147483647) (hx : -8589934592 ≤ x ∧ x ≤ 8589934592) : clamp x (-a) a = lim a x := by
  unfold clamp
  rw [if_pos ⟨(sm_iff _).2 (by omega), (sm_iff _).2 (by omega), (sm_iff _).2 (by omega)⟩]
  unfold within lim
  split
  · rw [if_neg (by omega)]
    split
    · rfl
    · omega
  · split
    · rfl
    · rw [if_neg (by omega)]
theorem nx_bd {auth offset : Int} (gain n vote : Int) (h : 0 ≤ auth) (ho : -auth ≤ offset ∧ offset ≤ auth) : -auth ≤ nx auth gain offset n vote ∧ nx auth gain offset n vote ≤ auth := by
  cases hb : both n vote
  · rw [nx_no hb]; exact ho
  · rw [nx_yes hb]; exact lim_bd h _
/-- How far a value is from the vote, less the offset: shifted, it lies between 0 and it. -/
theorem step_between {gain offset n vote : Int} (hg : 0 ≤ gain ∧ gain ≤ 8) (ho : -2147483647 ≤ offset ∧ offset ≤ 2147483647) (hb : both n vote = true) :
    (offset ≤ n - vote → offset ≤ offset + shift (n - vote - offset) gain ∧ offset + shift (n - vote - offset) gain ≤ n - vote) ∧
    (n - vote < offset → n - vote ≤ offset + shift (n - vote - offset) gain ∧ offset + shift (n - vote - offset) gain ≤ offset) := by
  obtain ⟨h1, h2⟩ := (both_iff _ _).1 hb
  have v1 := (val_iff _).1 h1
  have v2 := (val_iff _).1 h2
  rw [Dr.shift_small (by omega) hg.1 hg.2]
  have h := Dr.div_between (n - vote - offset) (2 ^ gain.toNat) (pow_pos2 _)
  exact ⟨fun q => by have := h.1 (by omega); omega, fun q => by have := h.2 (by omega); omega⟩
theorem step_bd {gain offset n vote : Int} (hg : 0 ≤ gain ∧ gain ≤ 8) (ho : -2147483647 ≤ offset ∧ offset ≤ 2147483647) (hb : both n vote = true) :
    -4294967295 ≤ offset + shift (n - vote - offset) gain ∧ offset + shift (n - vote - offset) gain ≤ 4294967295 := by
  obtain ⟨h1, h2⟩ := (both_iff _ _).1 hb
  have v1 := (val_iff _).1 h1
  have v2 := (val_iff _).1 h2
  have h := step_between hg ho hb
  by_cases q : offset ≤ n - vote
  · have := h.1 q; omega
  · have := h.2 (by omega); omega
/-- The offset moves towards how far value and vote are apart, or to its bound. -/
theorem nx_between {auth gain offset n vote : Int} (hg : 0 ≤ gain ∧ gain ≤ 8) (ho : -2147483647 ≤ offset ∧ offset ≤ 2147483647) (hb : both n vote = true) :
    (nx auth gain offset n vote = auth ∨ nx auth gain offset n vote = -auth ∨ (min offset (n - vote) ≤ nx auth gain offset n vote ∧ nx auth gain offset n vote ≤ max offset (n - vote))) := by
  rw [nx_yes hb]
  have h := step_between hg ho hb
  rcases lim_cases auth (offset + shift (n - vote - offset) gain) with q | q | q
  · exact Or.inl q
  · exact Or.inr (Or.inl q)
  · refine Or.inr (Or.inr ?_)
    rw [q]
    by_cases r : offset ≤ n - vote
    · have := h.1 r; omega
    · have := h.2 (by omega); omega
end Ql
end Go.Proofs.YtpoededbmdffpaaGreatDoor
