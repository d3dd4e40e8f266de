/-
  What package vote tells, as functions of numbers and lists. No Go text is reached here. No conditions.
-/
import Derived.Test.YtpoededbmdffpaaGreatDoorOrderMidMath
namespace Go.Proofs.YtpoededbmdffpaaGreatDoor
set_option maxRecDepth 100000
open Go.RowKit
namespace Vo
open Fx Od
/-- Is a number between two? -/
def inr (a b n : Int) : Bool := decide (a ≤ n) && decide (n ≤ b)
/-- May there be such a rule? -/
def rmay (lo hi clip : Int) : Bool := inr (-2147483648) 2147483647 lo && inr lo 2147483647 hi && inr 0 2147483647 clip
/-- May there be such a value, with such a weight? -/
def okp (x u : Int) : Bool := inr (-4294967296) 4294967296 x && inr 1 16 u
/-- The first so many may be. -/
def okk (V U : List Int) : Nat → Bool
  | 0 => true
  | k + 1 => okk V U k && okp (V.getD k 0) (U.getD k 0)
def fits (V U : List Int) : Bool := decide (V.length = U.length) && okk V U V.length
/-- A value, at most so far from the mid. -/
def cl (mid clip x : Int) : Int := within x (mid - clip) (mid + clip)
def sumk (mid clip : Int) (V U : List Int) : Nat → Int
  | 0 => 0
  | k + 1 => sumk mid clip V U k + U.getD k 0 * cl mid clip (V.getD k 0)
def allk (U : List Int) : Nat → Int
  | 0 => 0
  | k + 1 => allk U k + U.getD k 0
def meanv (mid clip : Int) (V U : List Int) : Int := sumk mid clip V U V.length / allk U V.length
/-- Is there a vote? And which? -/
def votb (lo hi clip : Int) (V U : List Int) : Bool := midb V && rmay lo hi clip && fits V U
def votv (lo hi clip : Int) (V U : List Int) : Int := if votb lo hi clip V U = true then within (meanv (midv V) clip V U) lo hi else 0
theorem inr_iff (a b n : Int) : inr a b n = true ↔ a ≤ n ∧ n ≤ b := by unfold inr; simp
theorem rmay_iff (lo hi clip : Int) : rmay lo hi clip = true ↔ (-2147483648 ≤ lo ∧ lo ≤ 2147483647) ∧ (lo ≤ hi ∧ hi ≤ 2147483647) ∧ 0 ≤ clip ∧ clip ≤ 2147483647 := by
  unfold rmay; simp only [Bool.and_eq_true, inr_iff, and_assoc]
theorem okp_iff (x u : Int) : okp x u = true ↔ (-4294967296 ≤ x ∧ x ≤ 4294967296) ∧ 1 ≤ u ∧ u ≤ 16 := by
  unfold okp; simp only [Bool.and_eq_true, inr_iff]
theorem okk_at {V U : List Int} {n : Nat} (h : okk V U n = true) : ∀ k, k < n → okp (V.getD k 0) (U.getD k 0) = true := by
  induction n with
  | zero => intro k hk; omega
  | succ n ih =>
    intro k hk
    unfold okk at h
    rw [Bool.and_eq_true] at h
    rcases Nat.lt_succ_iff_lt_or_eq.1 hk with q | rfl
    · exact ih h.1 k q
    · exact h.2
theorem okk_of {V U : List Int} {n : Nat} (h : ∀ k, k < n → okp (V.getD k 0) (U.getD k 0) = true) : okk V U n = true := by
  induction n with
  | zero => rfl
  | succ n ih =>
    unfold okk
    rw [ih (fun k hk => h k (by omega)), h n (by omega)]; rfl
theorem okk_no {V U : List Int} {k n : Nat} (hk : k < n) (h : okp (V.getD k 0) (U.getD k 0) = false) : okk V U n = false := by
  cases e : okk V U n
  · rfl
  · rw [okk_at e k hk] at h; cases h
theorem fits_iff (V U : List Int) : fits V U = true ↔ V.length = U.length ∧ okk V U V.length = true := by unfold fits; simp
theorem fits_len {V U : List Int} (h : ¬ V.length = U.length) : fits V U = false := by unfold fits; simp [h]
theorem fits_eq {V U : List Int} (h : V.length = U.length) : fits V U = okk V U V.length := by unfold fits; simp [h]
theorem within_bd {n lo hi : Int} (h : lo ≤ hi) : lo ≤ within n lo hi ∧ within n lo hi ≤ hi := by
  unfold within; split
  · omega
  · split <;> omega
theorem clamp_small {n lo hi : Int} (h1 : sm n = true) (h2 : sm lo = true) (h3 : sm hi = true) : clamp n lo hi = within n lo hi := by
  unfold clamp; rw [if_pos ⟨h1, h2, h3⟩]
theorem floor_small {n b : Int} (h1 : sm n = true) (h2 : sm b = true) (h3 : 1 ≤ b) : floor n b = n / b := by
  unfold floor; rw [if_pos ⟨h1, h2, h3⟩]
/-- What is so far known of a vote's parts. -/
structure Mid (mid clip : Int) (V U : List Int) : Prop where
  m1 : -4294967296 ≤ mid
  m2 : mid ≤ 4294967296
  c1 : 0 ≤ clip
  c2 : clip ≤ 2147483647
  len : V.length = U.length
  n1 : 1 ≤ V.length
  n4 : V.length ≤ 4
  ok : ∀ k, k < V.length → okp (V.getD k 0) (U.getD k 0) = true
theorem Mid.x {mid clip : Int} {V U : List Int} (M : Mid mid clip V U) {k : Nat} (h : k < V.length) : -4294967296 ≤ V.getD k 0 ∧ V.getD k 0 ≤ 4294967296 := ((okp_iff _ _).1 (M.ok k h)).1
theorem Mid.u {mid clip : Int} {V U : List Int} (M : Mid mid clip V U) {k : Nat} (h : k < V.length) : 1 ≤ U.getD k 0 ∧ U.getD k 0 ≤ 16 := ((okp_iff _ _).1 (M.ok k h)).2
theorem cl_bd {mid clip : Int} (h : 0 ≤ clip) (x : Int) : mid - clip ≤ cl mid clip x ∧ cl mid clip x ≤ mid + clip := within_bd (by omega)
theorem cl_clamp {mid clip : Int} {V U : List Int} (M : Mid mid clip V U) {k : Nat} (h : k < V.length) : clamp (V.getD k 0) (mid - clip) (mid + clip) = cl mid clip (V.getD k 0) := by
  have := M.x h; have := M.m1; have := M.m2; have := M.c1; have := M.c2
  exact clamp_small ((sm_iff _).2 (by omega)) ((sm_iff _).2 (by omega)) ((sm_iff _).2 (by omega))
theorem allk_bd {mid clip : Int} {V U : List Int} (M : Mid mid clip V U) : ∀ k, k ≤ V.length → (k : Int) ≤ allk U k ∧ allk U k ≤ 16 * k := by
  intro k
  induction k with
  | zero => intro _; simp [allk]
  | succ k ih =>
    intro hk
    have := ih (by omega)
    have := M.u (show k < V.length by omega)
    simp only [allk]; omega
theorem mul_bd {u x a b : Int} (h0 : 0 ≤ u) (h1 : a ≤ x) (h2 : x ≤ b) : u * a ≤ u * x ∧ u * x ≤ u * b := ⟨Int.mul_le_mul_of_nonneg_left h1 h0, Int.mul_le_mul_of_nonneg_left h2 h0⟩
/-- The sum lies between the weights times either bound. -/
theorem sumk_bd {mid clip a b : Int} {V U : List Int} (M : Mid mid clip V U) (h : ∀ k, k < V.length → a ≤ cl mid clip (V.getD k 0) ∧ cl mid clip (V.getD k 0) ≤ b) :
    ∀ k, k ≤ V.length → allk U k * a ≤ sumk mid clip V U k ∧ sumk mid clip V U k ≤ allk U k * b := by
  intro k
  induction k with
  | zero => intro _; simp [allk, sumk]
  | succ k ih =>
    intro hk
    have h1 := ih (by omega)
    have h2 := M.u (show k < V.length by omega)
    have h3 := h k (by omega)
    have h4 := mul_bd (u := U.getD k 0) (by omega) h3.1 h3.2
    simp only [allk, sumk, Int.add_mul]
    generalize U.getD k 0 * cl mid clip (V.getD k 0) = p at *
    omega
theorem sumk_sm {mid clip : Int} {V U : List Int} (M : Mid mid clip V U) {k : Nat} (hk : k ≤ V.length) : -412316860416 ≤ sumk mid clip V U k ∧ sumk mid clip V U k ≤ 412316860416 := by
  have h := sumk_bd (a := -6442450944) (b := 6442450944) M (fun j hj => by
    have := cl_bd (mid := mid) M.c1 (V.getD j 0); have := M.m1; have := M.m2; have := M.c2; omega) k hk
  have h2 := allk_bd M k hk
  have := M.n4
  omega
theorem part_sm {mid clip : Int} {V U : List Int} (M : Mid mid clip V U) {k : Nat} (hk : k < V.length) : -103079215104 ≤ U.getD k 0 * cl mid clip (V.getD k 0) ∧ U.getD k 0 * cl mid clip (V.getD k 0) ≤ 103079215104 := by
  have h1 := cl_bd (mid := mid) M.c1 (V.getD k 0)
  have h2 := M.u hk
  have := M.m1; have := M.m2; have := M.c2
  have h4 := mul_bd (u := U.getD k 0) (a := -6442450944) (b := 6442450944) (x := cl mid clip (V.getD k 0)) (by omega) (by omega) (by omega)
  omega
theorem mean_floor {mid clip : Int} {V U : List Int} (M : Mid mid clip V U) : floor (sumk mid clip V U V.length) (allk U V.length) = meanv mid clip V U := by
  have h1 := sumk_sm M (Nat.le_refl _)
  have h2 := allk_bd M V.length (Nat.le_refl _)
  have := M.n1; have := M.n4
  exact floor_small ((sm_iff _).2 (by omega)) ((sm_iff _).2 (by omega)) (by omega)
/-- The mean lies between whatever all clamped values lie between. -/
theorem mean_bd {mid clip a b : Int} {V U : List Int} (M : Mid mid clip V U) (h : ∀ k, k < V.length → a ≤ cl mid clip (V.getD k 0) ∧ cl mid clip (V.getD k 0) ≤ b) : a ≤ meanv mid clip V U ∧ meanv mid clip V U ≤ b := by
  have h1 := sumk_bd M h V.length (Nat.le_refl _)
  have h2 := allk_bd M V.length (Nat.le_refl _)
  have := M.n1
  unfold meanv
  generalize sumk mid clip V U V.length = s at *
  generalize allk U V.length = t at *
  have ht : 0 < t := by omega
  refine ⟨(Int.le_ediv_iff_mul_le ht).2 (by rw [Int.mul_comm]; exact h1.1), ?_⟩
  have : s / t < b + 1 := (Int.ediv_lt_iff_lt_mul ht).2 (by rw [Int.add_mul, Int.mul_comm b t]; omega)
  omega
theorem mean_near {mid clip : Int} {V U : List Int} (M : Mid mid clip V U) : mid - clip ≤ meanv mid clip V U ∧ meanv mid clip V U ≤ mid + clip := mean_bd M (fun _ _ => cl_bd M.c1 _)
theorem mean_sm {mid clip : Int} {V U : List Int} (M : Mid mid clip V U) : sm (meanv mid clip V U) = true := by
  have h := mean_near M; have := M.m1; have := M.m2; have := M.c2
  exact (sm_iff _).2 (by omega)
theorem mean_clamp {mid clip lo hi : Int} {V U : List Int} (M : Mid mid clip V U) (h : rmay lo hi clip = true) : clamp (meanv mid clip V U) lo hi = within (meanv mid clip V U) lo hi := by
  have := (rmay_iff _ _ _).1 h
  exact clamp_small (mean_sm M) ((sm_iff _).2 (by omega)) ((sm_iff _).2 (by omega))
theorem srt_bd {l : List Int} {a b : Int} (h1 : 1 ≤ l.length) (h : ∀ k, k < l.length → a ≤ l.getD k 0 ∧ l.getD k 0 ≤ b) : a ≤ (srt l).getD 0 0 ∧ (srt l).getD (l.length - 1) 0 ≤ b := by
  have hl := srt_len l
  have q : ∀ j, j < l.length → a ≤ (srt l).getD j 0 ∧ (srt l).getD j 0 ≤ b := by
    intro j hj
    have hm : (srt l).getD j 0 ∈ l := (srt_perm l).mem_iff.1 (by rw [getD_at _ j (by omega)]; exact List.getElem_mem _)
    obtain ⟨i, hi, e⟩ := List.getElem_of_mem hm
    rw [← e, ← getD_at _ _ hi]
    exact h i hi
  exact ⟨(q 0 (by omega)).1, (q _ (by omega)).2⟩
theorem midb_iff {l : List Int} : midb l = true ↔ ok l = true ∧ 1 ≤ l.length ∧ l.length ≤ 4 := by unfold midb; simp [and_assoc]
theorem ok_of {l : List Int} (h1 : l.length ≤ 16) (h : ∀ k, k < l.length → -4294967296 ≤ l.getD k 0 ∧ l.getD k 0 ≤ 4294967296) : ok l = true := by
  rw [ok_iff]
  refine ⟨h1, List.all_eq_true.2 fun x hx => ?_⟩
  obtain ⟨i, hi, rfl⟩ := List.getElem_of_mem hx
  have := h i hi
  rw [getD_at _ _ hi] at this
  exact (sm_iff _).2 (by omega)
/-- Whatever makes a vote makes its parts. -/
theorem mid_of {clip : Int} {V U : List Int} (hm : midb V = true) (hc : 0 ≤ clip ∧ clip ≤ 2147483647) (hf : fits V U = true) : Mid (midv V) clip V U := by
  obtain ⟨hk, h1, h4⟩ := midb_iff.1 hm
  obtain ⟨hl, ho⟩ := (fits_iff _ _).1 hf
  have ho := okk_at ho
  have h := mid_in hk h1 h4
  have q := srt_bd (a := -4294967296) (b := 4294967296) h1 (fun k hk => ((okp_iff _ _).1 (ho k hk)).1)
  exact ⟨by omega, by omega, hc.1, hc.2, hl, h1, h4, ho⟩
theorem votb_iff {lo hi clip : Int} {V U : List Int} : votb lo hi clip V U = true ↔ midb V = true ∧ rmay lo hi clip = true ∧ fits V U = true := by unfold votb; simp [and_assoc]
theorem votb_mid {lo hi clip : Int} {V U : List Int} (h : votb lo hi clip V U = true) : Mid (midv V) clip V U := by
  obtain ⟨h1, h2, h3⟩ := votb_iff.1 h
  have := (rmay_iff _ _ _).1 h2
  exact mid_of h1 this.2.2 h3
theorem votv_yes {lo hi clip : Int} {V U : List Int} (h : votb lo hi clip V U = true) : votv lo hi clip V U = within (meanv (midv V) clip V U) lo hi := if_pos h
theorem votv_no {lo hi clip : Int} {V U : List Int} (h : votb lo hi clip V U = false) : votv lo hi clip V U = 0 := if_neg (by rw [h]; decide)
/-! ### Near the mid -/
theorem vote_in {lo hi clip : Int} {V U : List Int} (h : votb lo hi clip V U = true) : lo ≤ votv lo hi clip V U ∧ votv lo hi clip V U ≤ hi := by
  have := (rmay_iff _ _ _).1 (votb_iff.1 h).2.1
  rw [votv_yes h]; exact within_bd this.2.1.1
/-! ### Bounded faults -/
theorem three {l : List Int} (h : l.length = 3) : ∃ x y z, l = [x, y, z] := by
  match l, h with
  | [x, y, z], _ => exact ⟨x, y, z, rfl⟩
end Vo
end Go.Proofs.YtpoededbmdffpaaGreatDoor
