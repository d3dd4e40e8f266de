/-
  How a level comes to a difference that stays: plain mathematics. No Go text is reached here. No conditions.
-/
import Derived.Test.YtnkjedgllfddmaaDriftMath
namespace Go.Proofs.Ytnkjedgllfddmaa
namespace Dr
open Fx

/-- What falls by so much in each of P rounds, has fallen to the half. -/
theorem half (P : Nat) (s : Nat → Int) (F : Int) (hP : 1 ≤ P) (mono : ∀ n, s (n + 1) ≤ s n) (hs : ∀ n, F ≤ s n → (P : Int) * s (n + 1) ≤ P * s n - F) (n : Nat) (h : s n ≤ 2 * F - 1) : s (n + P) ≤ F - 1 := by
  have key : ∀ m, s (n + m) ≤ F - 1 ∨ (P : Int) * s (n + m) ≤ P * s n - m * F := by
    intro m
    induction m with
    | zero => right; simp
    | succ m ih =>
      have h1 := mono (n + m)
      rw [show n + (m + 1) = n + m + 1 by omega]
      rcases ih with ih | ih
      · left; omega
      · by_cases q : F ≤ s (n + m)
        · right
          have h2 := hs (n + m) q
          have h3 : ((m + 1 : Nat) : Int) * F = m * F + F := by rw [Int.natCast_add, Int.add_mul]; omega
          omega
        · left; omega
  rcases key P with k | k
  · exact k
  · have h1 : (P : Int) * s (n + P) ≤ P * (s n - F) := by rw [Int.mul_sub]; exact k
    have h2 := Int.le_of_mul_le_mul_left h1 (by omega)
    omega
theorem halves (P : Nat) (s : Nat → Int) (E : Int) (hP : 1 ≤ P) (mono : ∀ n, s (n + 1) ≤ s n) (hs : ∀ n (j : Nat), 2 ^ j * E ≤ s n → (P : Int) * s (n + 1) ≤ P * s n - 2 ^ j * E) (j : Nat) : ∀ n, s n ≤ 2 ^ j * E - 1 → s (n + j * P) ≤ E - 1 := by
  induction j with
  | zero => intro n h; simpa using h
  | succ j ih =>
    intro n h
    have h1 : s n ≤ 2 * (2 ^ j * E) - 1 := by rw [pow_succ2, Int.mul_assoc] at h; exact h
    have h2 := half P s (2 ^ j * E) hP mono (fun n q => hs n j q) n h1
    have h3 := ih (n + P) h2
    rw [show n + (j + 1) * P = n + P + j * P by rw [Nat.add_mul]; omega]
    exact h3
theorem falls (s : Nat → Int) (mono : ∀ n, s (n + 1) ≤ s n) (n m : Nat) : s (n + m) ≤ s n := by
  induction m with
  | zero => exact Int.le_refl _
  | succ m ih => have := mono (n + m); rw [show n + (m + 1) = n + m + 1 by omega]; omega

/-- The level behind so many times the same difference. -/
def lv (P : Nat) (d : Int) : Nat → Int
  | 0 => 0
  | n + 1 => lv P d n + (d - lv P d n) / (P : Int)
theorem lv_low {P : Nat} {d : Int} (hP : 1 ≤ P) (hd : d ≤ 0) : ∀ n, d ≤ lv P d n ∧ lv P d n ≤ 0
  | 0 => ⟨hd, Int.le_refl _⟩
  | n + 1 => by
    have ih := lv_low hP hd n
    have h := div_between (d - lv P d n) (P : Int) (by omega)
    simp only [lv]
    by_cases q : lv P d n = d
    · have := h.1 (by omega); omega
    · have := h.2 (by omega); omega
theorem lv_high {P : Nat} {d : Int} (hP : 1 ≤ P) (hd : 0 ≤ d) : ∀ n, 0 ≤ lv P d n ∧ lv P d n ≤ d
  | 0 => ⟨Int.le_refl _, hd⟩
  | n + 1 => by
    have ih := lv_high hP hd n
    have h := (div_between (d - lv P d n) (P : Int) (by omega)).1 (by omega)
    simp only [lv]
    omega
theorem lv_within {P : Nat} {d : Int} (hP : 1 ≤ P) (h0 : -32768 ≤ d) (h1 : d ≤ 32767) (n : Nat) : -32768 ≤ lv P d n ∧ lv P d n ≤ 32767 := by
  by_cases q : d ≤ 0
  · have := lv_low hP q n; omega
  · have := lv_high hP (show 0 ≤ d by omega) n; omega
/-- From above, or from nothing, it is reached. -/
theorem lv_reached {P : Nat} {d : Int} (hP : 1 ≤ P) (h0 : -32768 ≤ d) (hd : d ≤ 0) : lv P d (40 * P) = d := by
  have mono : ∀ n, lv P d (n + 1) - d ≤ lv P d n - d := fun n => by
    have ih := lv_low hP hd n
    have h := div_between (d - lv P d n) (P : Int) (by omega)
    simp only [lv]
    by_cases q : lv P d n = d
    · have := h.1 (by omega); omega
    · have := h.2 (by omega); omega
  have hs : ∀ n (j : Nat), 2 ^ j * 1 ≤ lv P d n - d → (P : Int) * (lv P d (n + 1) - d) ≤ P * (lv P d n - d) - 2 ^ j * 1 := fun n j q => by
    have h := Int.mul_ediv_self_le (x := d - lv P d n) (k := (P : Int)) (by omega)
    simp only [lv]
    rw [show lv P d n + (d - lv P d n) / (P : Int) - d = (lv P d n - d) + (d - lv P d n) / (P : Int) by omega, Int.mul_add]
    omega
  have h := halves P (fun n => lv P d n - d) 1 hP mono hs 16 0 (show (0 : Int) - d ≤ 2 ^ 16 * 1 - 1 by
    rw [show ((2 : Int) ^ 16) = 65536 from rfl]; omega)
  have h2 := falls (fun n => lv P d n - d) mono (0 + 16 * P) (24 * P)
  rw [show 0 + 16 * P + 24 * P = 40 * P by omega] at h2
  have h3 := (lv_low hP hd (40 * P)).1
  omega
/-- From below it is reached but for less than P. -/
theorem lv_near {P : Nat} {d : Int} (hP : 1 ≤ P) (h1 : d ≤ 32767) (hd : 0 ≤ d) : d - lv P d (40 * P) < P := by
  have mono : ∀ n, d - lv P d (n + 1) ≤ d - lv P d n := fun n => by
    have ih := lv_high hP hd n
    have h := (div_between (d - lv P d n) (P : Int) (by omega)).1 (by omega)
    simp only [lv]
    omega
  have hs : ∀ n (j : Nat), 2 ^ j * (P : Int) ≤ d - lv P d n → (P : Int) * (d - lv P d (n + 1)) ≤ P * (d - lv P d n) - 2 ^ j * P := fun n j q => by
    have h : 2 ^ j ≤ (d - lv P d n) / (P : Int) := (Int.le_ediv_iff_mul_le (by omega)).2 q
    have h' : (2 : Int) ^ j * P ≤ (d - lv P d n) / (P : Int) * P := Int.mul_le_mul_of_nonneg_right h (by omega)
    simp only [lv]
    rw [show d - (lv P d n + (d - lv P d n) / (P : Int)) = (d - lv P d n) - (d - lv P d n) / (P : Int) by omega, Int.mul_sub (P : Int) (d - lv P d n), Int.mul_comm (P : Int) ((d - lv P d n) / (P : Int))]
    omega
  have h := halves P (fun n => d - lv P d n) P hP mono hs 15 0 (show d - (0 : Int) ≤ 2 ^ 15 * P - 1 by
    rw [show ((2 : Int) ^ 15) = 32768 from rfl]; omega)
  have h2 := falls (fun n => d - lv P d n) mono (0 + 15 * P) (25 * P)
  rw [show 0 + 15 * P + 25 * P = 40 * P by omega] at h2
  omega
end Dr
end Go.Proofs.Ytnkjedgllfddmaa
