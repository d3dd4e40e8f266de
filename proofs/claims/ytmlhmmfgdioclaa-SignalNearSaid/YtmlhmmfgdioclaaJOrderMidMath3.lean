/-
  Plain mathematics for the law OrderMidst: where the mid of one to four numbers lies. No Go text is reached here. No conditions.
  What package vote tells, as functions of numbers and lists. No Go text is reached here. No conditions.
  Plain mathematics for layer 13 (parity): residues, and which value is the suspect one. No Go text is reached here. No conditions.
-/
import Derived.Test.YtmlhmmfgdioclaaOrderMath
namespace Go.Proofs.Ytmlhmmfgdioclaa
set_option maxRecDepth 100000
open Go.RowKit
namespace Od
open Fx

theorem midOf_in {s : List Int} (hu : Up s) (h1 : 1 ≤ s.length) (h4 : s.length ≤ 4) : s.getD 0 0 ≤ midOf s ∧ midOf s ≤ s.getD (s.length - 1) 0 := by
  have a1 := up_getD hu (i := 0) (j := (s.length - 1) / 2) (by omega) (by omega)
  have a2 := up_getD hu (i := (s.length - 1) / 2) (j := s.length / 2) (by omega) (by omega)
  have a3 := up_getD hu (i := s.length / 2) (j := s.length - 1) (by omega) (by omega)
  unfold midOf; omega
theorem mid_in {l : List Int} (hk : ok l = true) (h1 : 1 ≤ l.length) (h4 : l.length ≤ 4) : (srt l).getD 0 0 ≤ midv l ∧ midv l ≤ (srt l).getD (l.length - 1) 0 := by
  have := midOf_in (srt_up l) (by rw [srt_len]; exact h1) (by rw [srt_len]; exact h4)
  rw [srt_len] at this
  unfold midv; rw [if_pos (midb_yes hk h1 h4)]; exact this
theorem midb_perm {c l : List Int} (h : c.Perm l) : midb c = midb l := by unfold midb; rw [ok_perm h, h.length_eq]
theorem midv_perm {c l : List Int} (h : c.Perm l) : midv c = midv l := by unfold midv; rw [midb_perm h, srt_congr h]
theorem turned_perm (l : List Int) (k : Nat) : (l.drop k ++ l.take k).Perm l := by
  have := List.perm_append_comm (l₁ := l.drop k) (l₂ := l.take k)
  rwa [List.take_append_drop] at this
theorem ok_left {l : List Int} {x : Int} (h : ok (l ++ [x]) = true) : ok l = true := by
  rw [ok_iff] at h ⊢
  rw [List.all_append, Bool.and_eq_true] at h
  simp at h
  exact ⟨by omega, by simpa using h.2.1⟩
theorem mid_more {l : List Int} {x : Int} (hk : ok (l ++ [x]) = true) (h2 : 2 ≤ l.length) (h3 : l.length ≤ 3) : midb (l ++ [x]) = true ∧ (srt l).getD 0 0 ≤ midv (l ++ [x]) ∧ midv (l ++ [x]) ≤ (srt l).getD (l.length - 1) 0 := by
  have hm := midb_yes hk (by simp) (by simp; omega)
  refine ⟨hm, ?_⟩
  unfold midv; rw [if_pos hm, srt_snoc]
  have hu := srt_up l
  have hl := srt_len l
  generalize srt l = s at *
  rw [← hl] at h2 h3 ⊢
  unfold Up at hu
  match s, h2, h3 with
  | [a, b], _, _ =>
    simp at hu
    by_cases c1 : x < a
    · simp [ins, c1, midOf]; omega
    · by_cases c2 : x < b
      · simp [ins, c1, c2, midOf]; omega
      · simp [ins, c1, c2, midOf]; omega
  | [a, b, c], _, _ =>
    simp at hu
    by_cases c1 : x < a
    · simp [ins, c1, midOf]; omega
    · by_cases c2 : x < b
      · simp [ins, c1, c2, midOf]; omega
      · by_cases c3 : x < c
        · simp [ins, c1, c2, c3, midOf]; omega
        · simp [ins, c1, c2, c3, midOf]; omega
theorem without_last {l : List Int} {x : Int} (hk : ok (l ++ [x]) = true) : without (l ++ [x]) (l.length : Int) = l := by
  unfold without; rw [if_pos hk, wo_snoc, if_pos rfl, List.append_nil, wo_out l _ (Or.inr (Int.le_refl _))]
end Od
end Go.Proofs.Ytmlhmmfgdioclaa

namespace Go.Proofs.Ytmlhmmfgdioclaa
set_option maxRecDepth 100000
open Go.RowKit
namespace Vo
open Fx Od

/-- Is a number between two? -/
def inr (a b n : Int) : Bool := decide (a ≤ n) && decide (n ≤ b)
/-- May there be such a rule? -/
def rmay (lo hi clip : Int) : Bool := inr (-2147483648) 2147483647 lo && inr lo 2147483647 hi && inr 0 2147483647 clip
/-- May there be such a value, with such a weight? -/
def okp (x u : Int) : Bool := inr (-4294967296) 4294967296 x && inr 1 16 u
/-- The first so many may be. -/
def okk (V U : List Int) : Nat → Bool
  | 0 => true
  | k + 1 => okk V U k && okp (V.getD k 0) (U.getD k 0)
def fits (V U : List Int) : Bool := decide (V.length = U.length) && okk V U V.length
/-- A value, at most so far from the mid. -/
def cl (mid clip x : Int) : Int := within x (mid - clip) (mid + clip)
def sumk (mid clip : Int) (V U : List Int) : Nat → Int
  | 0 => 0
  | k + 1 => sumk mid clip V U k + U.getD k 0 * cl mid clip (V.getD k 0)
def allk (U : List Int) : Nat → Int
  | 0 => 0
  | k + 1 => allk U k + U.getD k 0
def meanv (mid clip : Int) (V U : List Int) : Int := sumk mid clip V U V.length / allk U V.length
/-- Is there a vote? And which? -/
def votb (lo hi clip : Int) (V U : List Int) : Bool := midb V && rmay lo hi clip && fits V U
def votv (lo hi clip : Int) (V U : List Int) : Int := if votb lo hi clip V U = true then within (meanv (midv V) clip V U) lo hi else 0

theorem inr_iff (a b n : Int) : inr a b n = true ↔ a ≤ n ∧ n ≤ b := by unfold inr; simp
theorem rmay_iff (lo hi clip : Int) : rmay lo hi clip = true ↔ (-2147483648 ≤ lo ∧ lo ≤ 2147483647) ∧ (lo ≤ hi ∧ hi ≤ 2147483647) ∧ 0 ≤ clip ∧ clip ≤ 2147483647 := by
  unfold rmay; simp only [Bool.and_eq_true, inr_iff, and_assoc]
theorem okp_iff (x u : Int) : okp x u = true ↔ (-4294967296 ≤ x ∧ x ≤ 4294967296) ∧ 1 ≤ u ∧ u ≤ 16 := by
  unfold okp; simp only [Bool.and_eq_true, inr_iff]
theorem okk_at {V U : List Int} {n : Nat} (h : okk V U n = true) : ∀ k, k < n → okp (V.getD k 0) (U.getD k 0) = true := by
  induction n with
  | zero => intro k hk; omega
  | succ n ih =>
    intro k hk
    unfold okk at h
    rw [Bool.and_eq_true] at h
    rcases Nat.lt_succ_iff_lt_or_eq.1 hk with q | rfl
    · exact ih h.1 k q
    · exact h.2
theorem okk_of {V U : List Int} {n : Nat} (h : ∀ k, k < n → okp (V.getD k 0) (U.getD k 0) = true) : okk V U n = true := by
  induction n with
  | zero => rfl
  | succ n ih =>
    unfold okk
    rw [ih (fun k hk => h k (by omega)), h n (by omega)]; rfl
theorem okk_no {V U : List Int} {k n : Nat} (hk : k < n) (h : okp (V.getD k 0) (U.getD k 0) = false) : okk V U n = false := by
  cases e : okk V U n
  · rfl
  · rw [okk_at e k hk] at h; cases h
theorem fits_iff (V U : List Int) : fits V U = true ↔ V.length = U.length ∧ okk V U V.length = true := by unfold fits; simp
theorem fits_len {V U : List Int} (h : ¬ V.length = U.length) : fits V U = false := by unfold fits; simp [h]
theorem fits_eq {V U : List Int} (h : V.length = U.length) : fits V U = okk V U V.length := by unfold fits; simp [h]

theorem within_bd {n lo hi : Int} (h : lo ≤ hi) : lo ≤ within n lo hi ∧ within n lo hi ≤ hi := by
  unfold within; split
  · omega
  · split <;> omega
theorem within_in {n lo hi : Int} (h1 : lo ≤ n) (h2 : n ≤ hi) : within n lo hi = n := by
  unfold within; rw [if_neg (by omega), if_neg (by omega)]
theorem within_mm (n lo hi : Int) (h : lo ≤ hi) : within n lo hi = max lo (min hi n) := by
  unfold within; split
  · omega
  · split <;> omega
theorem within_mm2 (n lo hi : Int) (h : lo ≤ hi) : within n lo hi = min (max n lo) hi := by
  unfold within; split
  · omega
  · split <;> omega
theorem clamp_small {n lo hi : Int} (h1 : sm n = true) (h2 : sm lo = true) (h3 : sm hi = true) : clamp n lo hi = within n lo hi := by
  unfold clamp; rw [if_pos ⟨h1, h2, h3⟩]
theorem floor_small {n b : Int} (h1 : sm n = true) (h2 : sm b = true) (h3 : 1 ≤ b) : floor n b = n / b := by
  unfold floor; rw [if_pos ⟨h1, h2, h3⟩]

/-- What is so far known of a vote's parts. -/
structure Mid (mid clip : Int) (V U : List Int) : Prop where
  m1 : -4294967296 ≤ mid
  m2 : mid ≤ 4294967296
  c1 : 0 ≤ clip
  c2 : clip ≤ 2147483647
  len : V.length = U.length
  n1 : 1 ≤ V.length
  n4 : V.length ≤ 4
  ok : ∀ k, k < V.length → okp (V.getD k 0) (U.getD k 0) = true
theorem Mid.x {mid clip : Int} {V U : List Int} (M : Mid mid clip V U) {k : Nat} (h : k < V.length) : -4294967296 ≤ V.getD k 0 ∧ V.getD k 0 ≤ 4294967296 := ((okp_iff _ _).1 (M.ok k h)).1
theorem Mid.u {mid clip : Int} {V U : List Int} (M : Mid mid clip V U) {k : Nat} (h : k < V.length) : 1 ≤ U.getD k 0 ∧ U.getD k 0 ≤ 16 := ((okp_iff _ _).1 (M.ok k h)).2
theorem cl_bd {mid clip : Int} (h : 0 ≤ clip) (x : Int) : mid - clip ≤ cl mid clip x ∧ cl mid clip x ≤ mid + clip := within_bd (by omega)
theorem cl_clamp {mid clip : Int} {V U : List Int} (M : Mid mid clip V U) {k : Nat} (h : k < V.length) : clamp (V.getD k 0) (mid - clip) (mid + clip) = cl mid clip (V.getD k 0) := by
  have := M.x h; have := M.m1; have := M.m2; have := M.c1; have := M.c2
  exact clamp_small ((sm_iff _).2 (by omega)) ((sm_iff _).2 (by omega)) ((sm_iff _).2 (by omega))
theorem allk_bd {mid clip : Int} {V U : List Int} (M : Mid mid clip V U) : ∀ k, k ≤ V.length → (k : Int) ≤ allk U k ∧ allk U k ≤ 16 * k := by
  intro k
  induction k with
  | zero => intro _; simp [allk]
  | succ k ih =>
    intro hk
    have := ih (by omega)
    have := M.u (show k < V.length by omega)
    simp only [allk]; omega
theorem mul_bd {u x a b : Int} (h0 : 0 ≤ u) (h1 : a ≤ x) (h2 : x ≤ b) : u * a ≤ u * x ∧ u * x ≤ u * b := ⟨Int.mul_le_mul_of_nonneg_left h1 h0, Int.mul_le_mul_of_nonneg_left h2 h0⟩
/-- The sum lies between the weights times either bound. -/
theorem sumk_bd {mid clip a b : Int} {V U : List Int} (M : Mid mid clip V U) (h : ∀ k, k < V.length → a ≤ cl mid clip (V.getD k 0) ∧ cl mid clip (V.getD k 0) ≤ b) :
    ∀ k, k ≤ V.length → allk U k * a ≤ sumk mid clip V U k ∧ sumk mid clip V U k ≤ allk U k * b := by
  intro k
  induction k with
  | zero => intro _; simp [allk, sumk]
  | succ k ih =>
    intro hk
    have h1 := ih (by omega)
    have h2 := M.u (show k < V.length by omega)
    have h3 := h k (by omega)
    have h4 := mul_bd (u := U.getD k 0) (by omega) h3.1 h3.2
    simp only [allk, sumk, Int.add_mul]
    generalize U.getD k 0 * cl mid clip (V.getD k 0) = p at *
    omega
theorem sumk_sm {mid clip : Int} {V U : List Int} (M : Mid mid clip V U) {k : Nat} (hk : k ≤ V.length) : -412316860416 ≤ sumk mid clip V U k ∧ sumk mid clip V U k ≤ 412316860416 := by
  have h := sumk_bd (a := -6442450944) (b := 6442450944) M (fun j hj => by
    have := cl_bd (mid := mid) M.c1 (V.getD j 0); have := M.m1; have := M.m2; have := M.c2; omega) k hk
  have h2 := allk_bd M k hk
  have := M.n4
  omega
theorem part_sm {mid clip : Int} {V U : List Int} (M : Mid mid clip V U) {k : Nat} (hk : k < V.length) : -103079215104 ≤ U.getD k 0 * cl mid clip (V.getD k 0) ∧ U.getD k 0 * cl mid clip (V.getD k 0) ≤ 103079215104 := by
  have h1 := cl_bd (mid := mid) M.c1 (V.getD k 0)
  have h2 := M.u hk
  have := M.m1; have := M.m2; have := M.c2
  have h4 := mul_bd (u := U.getD k 0) (a := -6442450944) (b := 6442450944) (x := cl mid clip (V.getD k 0)) (by omega) (by omega) (by omega)
  omega
theorem mean_floor {mid clip : Int} {V U : List Int} (M : Mid mid clip V U) : floor (sumk mid clip V U V.length) (allk U V.length) = meanv mid clip V U := by
  have h1 := sumk_sm M (Nat.le_refl _)
  have h2 := allk_bd M V.length (Nat.le_refl _)
  have := M.n1; have := M.n4
  exact floor_small ((sm_iff _).2 (by omega)) ((sm_iff _).2 (by omega)) (by omega)
/-- The mean lies between whatever all clamped values lie between. -/
theorem mean_bd {mid clip a b : Int} {V U : List Int} (M : Mid mid clip V U) (h : ∀ k, k < V.length → a ≤ cl mid clip (V.getD k 0) ∧ cl mid clip (V.getD k 0) ≤ b) : a ≤ meanv mid clip V U ∧ meanv mid clip V U ≤ b := by
  have h1 := sumk_bd M h V.length (Nat.le_refl _)
  have h2 := allk_bd M V.length (Nat.le_refl _)
  have := M.n1
  unfold meanv
  generalize sumk mid clip V U V.length = s at *
  generalize allk U V.length = t at *
  have ht : 0 < t := by omega
  refine ⟨(Int.le_ediv_iff_mul_le ht).2 (by rw [Int.mul_comm]; exact h1.1), ?_⟩
  have : s / t < b + 1 := (Int.ediv_lt_iff_lt_mul ht).2 (by rw [Int.add_mul, Int.mul_comm b t]; omega)
  omega
theorem mean_near {mid clip : Int} {V U : List Int} (M : Mid mid clip V U) : mid - clip ≤ meanv mid clip V U ∧ meanv mid clip V U ≤ mid + clip := mean_bd M (fun _ _ => cl_bd M.c1 _)
theorem mean_sm {mid clip : Int} {V U : List Int} (M : Mid mid clip V U) : sm (meanv mid clip V U) = true := by
  have h := mean_near M; have := M.m1; have := M.m2; have := M.c2
  exact (sm_iff _).2 (by omega)
theorem mean_clamp {mid clip lo hi : Int} {V U : List Int} (M : Mid mid clip V U) (h : rmay lo hi clip = true) : clamp (meanv mid clip V U) lo hi = within (meanv mid clip V U) lo hi := by
  have := (rmay_iff _ _ _).1 h
  exact clamp_small (mean_sm M) ((sm_iff _).2 (by omega)) ((sm_iff _).2 (by omega))

/-- All values are between the least and the greatest of them. -/
theorem mem_srt {l : List Int} {k : Nat} (h : k < l.length) : (srt l).getD 0 0 ≤ l.getD k 0 ∧ l.getD k 0 ≤ (srt l).getD (l.length - 1) 0 := by
  have hm : l.getD k 0 ∈ srt l := (srt_perm l).mem_iff.2 (by rw [getD_at l k h]; exact List.getElem_mem _)
  obtain ⟨j, hj, e⟩ := List.getElem_of_mem hm
  have hl := srt_len l
  rw [← e, ← getD_at _ _ hj]
  exact ⟨up_getD (srt_up l) (Nat.zero_le _) hj, up_getD (srt_up l) (by omega) (by omega)⟩
theorem srt_bd {l : List Int} {a b : Int} (h1 : 1 ≤ l.length) (h : ∀ k, k < l.length → a ≤ l.getD k 0 ∧ l.getD k 0 ≤ b) : a ≤ (srt l).getD 0 0 ∧ (srt l).getD (l.length - 1) 0 ≤ b := by
  have hl := srt_len l
  have q : ∀ j, j < l.length → a ≤ (srt l).getD j 0 ∧ (srt l).getD j 0 ≤ b := by
    intro j hj
    have hm : (srt l).getD j 0 ∈ l := (srt_perm l).mem_iff.1 (by rw [getD_at _ j (by omega)]; exact List.getElem_mem _)
    obtain ⟨i, hi, e⟩ := List.getElem_of_mem hm
    rw [← e, ← getD_at _ _ hi]
    exact h i hi
  exact ⟨(q 0 (by omega)).1, (q _ (by omega)).2⟩
theorem midb_iff {l : List Int} : midb l = true ↔ ok l = true ∧ 1 ≤ l.length ∧ l.length ≤ 4 := by unfold midb; simp [and_assoc]
theorem ok_of {l : List Int} (h1 : l.length ≤ 16) (h : ∀ k, k < l.length → -4294967296 ≤ l.getD k 0 ∧ l.getD k 0 ≤ 4294967296) : ok l = true := by
  rw [ok_iff]
  refine ⟨h1, List.all_eq_true.2 fun x hx => ?_⟩
  obtain ⟨i, hi, rfl⟩ := List.getElem_of_mem hx
  have := h i hi
  rw [getD_at _ _ hi] at this
  exact (sm_iff _).2 (by omega)
/-- Whatever makes a vote makes its parts. -/
theorem mid_of {clip : Int} {V U : List Int} (hm : midb V = true) (hc : 0 ≤ clip ∧ clip ≤ 2147483647) (hf : fits V U = true) : Mid (midv V) clip V U := by
  obtain ⟨hk, h1, h4⟩ := midb_iff.1 hm
  obtain ⟨hl, ho⟩ := (fits_iff _ _).1 hf
  have ho := okk_at ho
  have h := mid_in hk h1 h4
  have q := srt_bd (a := -4294967296) (b := 4294967296) h1 (fun k hk => ((okp_iff _ _).1 (ho k hk)).1)
  exact ⟨by omega, by omega, hc.1, hc.2, hl, h1, h4, ho⟩
theorem votb_iff {lo hi clip : Int} {V U : List Int} : votb lo hi clip V U = true ↔ midb V = true ∧ rmay lo hi clip = true ∧ fits V U = true := by unfold votb; simp [and_assoc]
theorem votb_mid {lo hi clip : Int} {V U : List Int} (h : votb lo hi clip V U = true) : Mid (midv V) clip V U := by
  obtain ⟨h1, h2, h3⟩ := votb_iff.1 h
  have := (rmay_iff _ _ _).1 h2
  exact mid_of h1 this.2.2 h3
theorem votv_yes {lo hi clip : Int} {V U : List Int} (h : votb lo hi clip V U = true) : votv lo hi clip V U = within (meanv (midv V) clip V U) lo hi := if_pos h
theorem votv_no {lo hi clip : Int} {V U : List Int} (h : votb lo hi clip V U = false) : votv lo hi clip V U = 0 := if_neg (by rw [h]; decide)
/-- The document's words of when there is a vote. -/
theorem votb_doc (lo hi clip : Int) (V U : List Int) : votb lo hi clip V U = (rmay lo hi clip && (decide (1 ≤ V.length) && (decide (V.length ≤ 4) && (decide (U.length = V.length) && okk V U V.length)))) := by
  rw [Bool.eq_iff_iff, votb_iff]
  simp only [Bool.and_eq_true, decide_eq_true_eq]
  constructor
  · rintro ⟨h1, h2, h3⟩
    obtain ⟨_, a, b⟩ := midb_iff.1 h1
    obtain ⟨c, d⟩ := (fits_iff _ _).1 h3
    exact ⟨h2, a, b, c.symm, d⟩
  · rintro ⟨h2, a, b, c, d⟩
    have ho := okk_at d
    exact ⟨midb_iff.2 ⟨ok_of (by omega) (fun k hk => ((okp_iff _ _).1 (ho k hk)).1), a, b⟩, h2, (fits_iff _ _).2 ⟨c.symm, d⟩⟩

/-! ### Near the mid -/
theorem vote_in {lo hi clip : Int} {V U : List Int} (h : votb lo hi clip V U = true) : lo ≤ votv lo hi clip V U ∧ votv lo hi clip V U ≤ hi := by
  have := (rmay_iff _ _ _).1 (votb_iff.1 h).2.1
  rw [votv_yes h]; exact within_bd this.2.1.1
theorem vote_mid {lo hi clip : Int} {V U : List Int} (h : votb lo hi clip V U = true) (h1 : lo ≤ midv V) (h2 : midv V ≤ hi) : votv lo hi clip V U ≤ midv V + clip ∧ midv V - clip ≤ votv lo hi clip V U := by
  have M := votb_mid h
  have := mean_near M; have := M.c1
  rw [votv_yes h]
  unfold within; split
  · omega
  · split <;> omega
theorem cl_between {mid clip a b x : Int} (h : 0 ≤ clip) (h1 : a ≤ x) (h2 : x ≤ b) (m1 : a ≤ mid) (m2 : mid ≤ b) : a ≤ cl mid clip x ∧ cl mid clip x ≤ b := by
  unfold cl within; split
  · omega
  · split <;> omega
theorem vote_between {lo hi clip : Int} {V U : List Int} (h : votb lo hi clip V U = true) (h1 : lo ≤ (srt V).getD 0 0) (h2 : (srt V).getD (V.length - 1) 0 ≤ hi) :
    (srt V).getD 0 0 ≤ votv lo hi clip V U ∧ votv lo hi clip V U ≤ (srt V).getD (V.length - 1) 0 := by
  have M := votb_mid h
  obtain ⟨hk, a, b⟩ := midb_iff.1 (votb_iff.1 h).1
  have hm := mid_in hk a b
  have q := mean_bd M (fun k hk' => by have := mem_srt hk'; exact cl_between (mid := midv V) M.c1 this.1 this.2 hm.1 hm.2)
  rw [votv_yes h, within_in (by omega) (by omega)]
  exact q
theorem cl_zero (mid x : Int) : cl mid 0 x = mid := by
  unfold cl within; split
  · omega
  · split <;> omega
theorem vote_zero {lo hi : Int} {V U : List Int} (h : votb lo hi 0 V U = true) : votv lo hi 0 V U = max lo (min hi (midv V)) := by
  have M := votb_mid h
  have q := mean_bd (a := midv V) (b := midv V) M (fun _ _ => by rw [cl_zero]; omega)
  have := (rmay_iff _ _ _).1 (votb_iff.1 h).2.1
  rw [votv_yes h, within_mm _ _ _ this.2.1.1, show meanv (midv V) 0 V U = midv V by omega]
theorem votb_zero {lo hi clip : Int} {V U : List Int} (h : votb lo hi clip V U = true) : votb lo hi 0 V U = true := by
  obtain ⟨h1, h2, h3⟩ := votb_iff.1 h
  have := (rmay_iff _ _ _).1 h2
  exact votb_iff.2 ⟨h1, (rmay_iff _ _ _).2 ⟨this.1, this.2.1, by omega, by omega⟩, h3⟩
theorem getD_turned (l : List Int) {k j : Nat} (hk : k ≤ l.length) (hj : j < l.length) : (l.drop k ++ l.take k).getD j 0 = l.getD (if j < l.length - k then k + j else j - (l.length - k)) 0 := by
  simp only [List.getD_eq_getElem?_getD]
  by_cases h : j < l.length - k
  · rw [if_pos h, List.getElem?_append_left (by simpa using h), List.getElem?_drop]
  · rw [if_neg h, List.getElem?_append_right (by simpa using h), List.length_drop, List.getElem?_take_of_lt (by omega)]
theorem turned_len (l : List Int) (k : Nat) : (l.drop k ++ l.take k).length = l.length := (turned_perm l k).length_eq
theorem votb_turned {lo hi clip : Int} {V U : List Int} {k : Nat} (hk : k ≤ V.length) (h : votb lo hi clip V U = true) : votb lo hi clip (V.drop k ++ V.take k) (U.drop k ++ U.take k) = true := by
  obtain ⟨h1, h2, h3⟩ := votb_iff.1 h
  obtain ⟨hl, ho⟩ := (fits_iff _ _).1 h3
  have ho := okk_at ho
  refine votb_iff.2 ⟨by rw [midb_perm (turned_perm V k)]; exact h1, h2, (fits_iff _ _).2 ⟨by rw [turned_len, turned_len]; exact hl, okk_of fun j hj => ?_⟩⟩
  rw [turned_len] at hj
  rw [getD_turned V hk hj, getD_turned U (by omega) (by omega), ← hl]
  apply ho
  split <;> omega
theorem vote_turned {lo hi clip : Int} {V U : List Int} {k : Nat} (hk : k ≤ V.length) (h : votb lo hi clip V U = true) : votv lo hi 0 (V.drop k ++ V.take k) (U.drop k ++ U.take k) = max lo (min hi (midv V)) := by
  rw [vote_zero (votb_turned hk (votb_zero h)), midv_perm (turned_perm V k)]

/-! ### Bounded faults -/
/-- Two or three values between two numbers, one of which is in the range, and one more: the vote is at most the clip outside. -/
theorem vote_bounded {lo hi clip a b : Int} {V H U : List Int} {x : Int} (h : votb lo hi clip V U = true) (hp : V.Perm (H ++ [x])) (h2 : 2 ≤ H.length) (h3 : H.length ≤ 3)
    (hH : ∀ k, k < H.length → a ≤ H.getD k 0 ∧ H.getD k 0 ≤ b) (hab : a ≤ b) (ht : (lo ≤ a ∧ a ≤ hi) ∨ (lo ≤ b ∧ b ≤ hi)) : a - clip ≤ votv lo hi clip V U ∧ votv lo hi clip V U ≤ b + clip := by
  have M := votb_mid h
  obtain ⟨hk, _, _⟩ := midb_iff.1 (votb_iff.1 h).1
  have hk' : ok (H ++ [x]) = true := by rw [← ok_perm hp]; exact hk
  have hm := (mid_more hk' h2 h3).2
  rw [← midv_perm hp] at hm
  have q := srt_bd (by omega) hH
  have n := mean_near M
  have := M.c1
  have := (rmay_iff _ _ _).1 (votb_iff.1 h).2.1
  rw [votv_yes h]
  unfold within; split
  · omega
  · split <;> omega
theorem three {l : List Int} (h : l.length = 3) : ∃ x y z, l = [x, y, z] := by
  match l, h with
  | [x, y, z], _ => exact ⟨x, y, z, rfl⟩
end Vo
end Go.Proofs.Ytmlhmmfgdioclaa

namespace Go.Proofs.Ytmlhmmfgdioclaa
set_option maxRecDepth 100000
open Go.RowKit
namespace Pa
open Fx Od

def fr (n : Int) : Bool := decide (-4294967296 ≤ n ∧ n ≤ 4294967296)
def fit (l : List Int) : Bool := decide (2 ≤ l.length) && decide (l.length ≤ 4) && l.all fr
def resAt (l : List Int) (k : Nat) : Int := l.getD k 0 - midv (without l (k : Int))
def resTo (l : List Int) (k : Nat) : List Int := (List.range k).map (resAt l)
def res (l : List Int) : List Int := if fit l = true then resTo l l.length else []
/-- Is a residue more than the bound from 0? -/
def off (b x : Int) : Bool := decide (b < x ∨ x < -b)
def offs (b : Int) (r : List Int) : Nat → Nat
  | 0 => 0
  | k + 1 => offs b r k + (off b (r.getD k 0)).toNat
def last (b : Int) (r : List Int) : Nat → Int
  | 0 => -1
  | k + 1 => if off b (r.getD k 0) = true then (k : Int) else last b r k
def susOf (b : Int) (r : List Int) : Int := if offs b r r.length = 1 then last b r r.length else -1
def sus (l : List Int) (b : Int) : Int := if b < 0 then -1 else susOf b (res l)

theorem fit_iff (l : List Int) : fit l = true ↔ 2 ≤ l.length ∧ l.length ≤ 4 ∧ l.all fr = true := by unfold fit; simp [and_assoc]
theorem fit_no {l : List Int} (h : ¬ (2 ≤ l.length ∧ l.length ≤ 4 ∧ l.all fr = true)) : fit l = false := by cases h2 : fit l; rfl; exact absurd ((fit_iff l).1 h2) h
theorem fit_short {l : List Int} (h : l.length < 2 ∨ 4 < l.length) : fit l = false := fit_no (by omega)
theorem fr_iff (n : Int) : fr n = true ↔ -4294967296 ≤ n ∧ n ≤ 4294967296 := by unfold fr; simp
theorem all_fr {l : List Int} (h : l.all fr = true) {k : Nat} (hk : k < l.length) : -4294967296 ≤ l.getD k 0 ∧ l.getD k 0 ≤ 4294967296 := by
  rw [getD_at l k hk]; rw [List.all_eq_true] at h; exact (fr_iff _).1 (h _ (List.getElem_mem hk))
theorem fit_not (l : List Int) (k : Nat) (h : k < l.length) (e : ¬ (-4294967296 ≤ l.getD k 0 ∧ l.getD k 0 ≤ 4294967296)) : fit l = false :=
  fit_no (fun q => e (all_fr q.2.2 h))
theorem fr_step (l : List Int) (k : Nat) (h : k < l.length) (h0 : (l.take k).all fr = true) (e : -4294967296 ≤ l.getD k 0 ∧ l.getD k 0 ≤ 4294967296) : (l.take (k + 1)).all fr = true := by
  rw [take_snoc l k h, List.all_append, h0]; simpa [fr] using e
theorem fit_end {l : List Int} (h2 : 2 ≤ l.length) (h4 : l.length ≤ 4) (h : (l.take l.length).all fr = true) : fit l = true := by
  rw [List.take_of_length_le (Nat.le_refl _)] at h; exact (fit_iff l).2 ⟨h2, h4, h⟩

theorem fit_ok {l : List Int} (h : fit l = true) : ok l = true := by
  have q := (fit_iff l).1 h
  refine (ok_iff l).2 ⟨by omega, List.all_eq_true.2 fun x hx => ?_⟩
  have := (fr_iff x).1 (List.all_eq_true.1 q.2.2 x hx)
  exact (sm_iff x).2 (by omega)

/-! ### the others, and their mid -/
theorem others_sub {l : List Int} {i : Int} {x : Int} (h : x ∈ without l i) : x ∈ l := by
  unfold without at h
  split at h
  · unfold wo at h
    split at h
    · exact List.mem_of_mem_eraseIdx h
    · exact h
  · simp at h
theorem others_len {l : List Int} (h : ok l = true) {k : Nat} (hk : k < l.length) : (without l (k : Int)).length = l.length - 1 := by
  rw [without_yes _ h, wo_at, List.length_append, List.length_take, List.length_drop]; omega
theorem others_ok {l : List Int} (h : ok l = true) (i : Int) : ok (without l i) = true := by
  have q := (ok_iff l).1 h
  refine (ok_iff _).2 ⟨?_, List.all_eq_true.2 fun x hx => ok_mem h (others_sub hx)⟩
  rw [without_yes _ h]; have := wo_le l i; omega
/-- A mid lies where its numbers do. -/
theorem mid_bd {l : List Int} {a b : Int} (hk : ok l = true) (h1 : 1 ≤ l.length) (h4 : l.length ≤ 4) (h : ∀ x ∈ l, a ≤ x ∧ x ≤ b) : a ≤ midv l ∧ midv l ≤ b := by
  have q := mid_in hk h1 h4
  have m1 := h _ ((srt_perm l).mem_iff.1 (show (srt l).getD 0 0 ∈ srt l by rw [getD_at _ _ (by rw [srt_len]; exact h1)]; exact List.getElem_mem _))
  have m2 := h _ ((srt_perm l).mem_iff.1 (show (srt l).getD (l.length - 1) 0 ∈ srt l by rw [getD_at _ _ (by rw [srt_len]; omega)]; exact List.getElem_mem _))
  omega
theorem others_mid {l : List Int} (h : fit l = true) {k : Nat} (hk : k < l.length) : -4294967296 ≤ midv (without l (k : Int)) ∧ midv (without l (k : Int)) ≤ 4294967296 := by
  have q := (fit_iff l).1 h
  have e := others_len (fit_ok h) hk
  refine mid_bd (others_ok (fit_ok h) _) (by omega) (by omega) fun x hx => (fr_iff x).1 (List.all_eq_true.1 q.2.2 x (others_sub hx))

theorem resTo_snoc (l : List Int) (k : Nat) : resTo l (k + 1) = resTo l k ++ [resAt l k] := by unfold resTo; rw [List.range_succ, List.map_append]; rfl
theorem resTo_len (l : List Int) (k : Nat) : (resTo l k).length = k := by unfold resTo; simp
theorem resTo_get (l : List Int) {k j : Nat} (h : j < k) : (resTo l k).getD j 0 = resAt l j := by unfold resTo; simp [List.getD_eq_getElem?_getD, h]
theorem res_yes {l : List Int} (h : fit l = true) : res l = resTo l l.length := if_pos h
theorem res_no {l : List Int} (h : fit l = false) : res l = [] := by unfold res; rw [h]; rfl
theorem res_le (l : List Int) : (res l).length ≤ 4 := by
  cases h : fit l
  · rw [res_no h]; simp
  · rw [res_yes h, resTo_len]; have := (fit_iff l).1 h; omega
theorem res_bd (l : List Int) {k : Nat} (hk : k < (res l).length) : -8589934592 ≤ (res l).getD k 0 ∧ (res l).getD k 0 ≤ 8589934592 := by
  cases h : fit l
  · rw [res_no h] at hk; simp at hk
  · rw [res_yes h] at hk ⊢
    rw [resTo_len] at hk
    rw [resTo_get l hk]
    have a := all_fr ((fit_iff l).1 h).2.2 hk
    have b := others_mid h hk
    unfold resAt; omega
/-- The row that is made first, and filled one by one. -/
def fill (l : List Int) (k : Nat) : List Int := resTo l k ++ List.replicate (l.length - k) 0
theorem fill_len {l : List Int} {k : Nat} (h : k ≤ l.length) : (fill l k).length = l.length := by unfold fill; rw [List.length_append, resTo_len, List.length_replicate]; omega
theorem fill_zero (l : List Int) : fill l 0 = List.replicate l.length 0 := by unfold fill resTo; simp
theorem fill_all (l : List Int) : fill l l.length = resTo l l.length := by unfold fill; simp
theorem fill_set {l : List Int} {k : Nat} (h : k < l.length) : (fill l k).set k (resAt l k) = fill l (k + 1) := by
  unfold fill
  rw [resTo_snoc, List.set_append, if_neg (by rw [resTo_len]; omega), resTo_len, Nat.sub_self, show l.length - k = (l.length - (k + 1)) + 1 by omega, List.replicate_succ, List.set_cons_zero, List.append_assoc, List.singleton_append]

/-! ### who is off -/
theorem offs_mono (b : Int) (r : List Int) (k j : Nat) (h : k ≤ j) : offs b r k ≤ offs b r j := by
  induction j with
  | zero => rw [show k = 0 by omega]; exact Nat.le_refl _
  | succ j ih =>
    by_cases e : k = j + 1
    · rw [e]; exact Nat.le_refl _
    · have := ih (by omega); rw [offs]; omega
theorem offs_le (b : Int) (r : List Int) (k : Nat) : offs b r k ≤ k := by
  induction k with
  | zero => exact Nat.le_refl _
  | succ k ih => rw [offs]; have := Bool.toNat_le (off b (r.getD k 0)); omega
theorem last_none {b : Int} {r : List Int} {k : Nat} (h : offs b r k = 0) : last b r k = -1 := by
  induction k with
  | zero => rfl
  | succ k ih =>
    rw [offs] at h
    cases hb : off b (r.getD k 0)
    · rw [last, hb]; rw [hb] at h; exact ih h
    · rw [hb] at h; simp at h
theorem last_some {b : Int} {r : List Int} {k : Nat} (h : 1 ≤ offs b r k) : 0 ≤ last b r k ∧ last b r k < (k : Int) := by
  induction k with
  | zero => rw [offs] at h; omega
  | succ k ih =>
    rw [offs] at h
    cases hb : off b (r.getD k 0)
    · rw [last, hb]; rw [hb] at h; have := ih (by simpa using h); simp; omega
    · rw [last, hb]; simp; omega
theorem susOf_two {b : Int} {r : List Int} {k : Nat} (hk : k ≤ r.length) (h : 2 ≤ offs b r k) : susOf b r = -1 := by
  have := offs_mono b r k r.length hk
  unfold susOf; rw [if_neg (by omega)]
theorem susOf_last {b : Int} {r : List Int} (h : offs b r r.length ≤ 1) : susOf b r = last b r r.length := by
  unfold susOf
  split
  · rfl
  · rw [last_none (by omega)]
theorem susOf_nil (b : Int) : susOf b [] = -1 := rfl
theorem last_bd (b : Int) (r : List Int) (k : Nat) : -1 ≤ last b r k ∧ last b r k < k := by
  by_cases h : 1 ≤ offs b r k
  · have := last_some h; omega
  · rw [last_none (by omega)]; omega
theorem sus_bd (l : List Int) (b : Int) : -1 ≤ sus l b ∧ sus l b ≤ 3 := by
  have h := last_bd b (res l) (res l).length
  have := res_le l
  unfold sus susOf
  split
  · omega
  · split <;> omega
/-- A residue's distance from 0 is its sign's. -/
theorem off_apart {b x : Int} (hx : -8589934592 ≤ x ∧ x ≤ 8589934592) : decide (apart x 0 ≤ b) = !off b x := by
  unfold apart off
  rw [if_pos ⟨(sm_iff x).2 (by omega), rfl⟩, ← decide_not]
  refine decide_eq_decide.2 ?_
  split <;> omega
theorem offs_yes {b : Int} {r : List Int} {k : Nat} (h : off b (r.getD k 0) = true) : offs b r (k + 1) = offs b r k + 1 := by rw [offs, h]; rfl
theorem offs_no {b : Int} {r : List Int} {k : Nat} (h : off b (r.getD k 0) = false) : offs b r (k + 1) = offs b r k := by rw [offs, h]; rfl
theorem last_yes {b : Int} {r : List Int} {k : Nat} (h : off b (r.getD k 0) = true) : last b r (k + 1) = (k : Int) := by rw [last, if_pos h]
theorem last_no {b : Int} {r : List Int} {k : Nat} (h : off b (r.getD k 0) = false) : last b r (k + 1) = last b r k := by rw [last, h]; rfl

/-! ### one of four -/
/-- A mid of three lies between each two of them. -/
theorem mid_three {x y z a b : Int} (hx : sm x = true) (hy : sm y = true) (hz : sm z = true) (h : (a ≤ y ∧ y ≤ b) ∧ (a ≤ z ∧ z ≤ b) ∨ (a ≤ x ∧ x ≤ b) ∧ (a ≤ z ∧ z ≤ b) ∨ (a ≤ x ∧ x ≤ b) ∧ (a ≤ y ∧ y ≤ b)) : a ≤ midv [x, y, z] ∧ midv [x, y, z] ≤ b := by
  have hk : ok [x, y, z] = true := (ok_iff _).2 ⟨by simp, by simp [hx, hy, hz]⟩
  have e : midv [x, y, z] = midOf (srt [x, y, z]) := by unfold midv; rw [if_pos (midb_yes hk (by simp) (by simp))]
  have s : srt [x, y, z] = ins z (ins y [x]) := rfl
  rw [e, s]
  by_cases c1 : y < x
  · by_cases c2 : z < y
    · simp [ins, c1, c2, midOf]; omega
    · by_cases c3 : z < x
      · simp [ins, c1, c2, c3, midOf]; omega
      · simp [ins, c1, c2, c3, midOf]; omega
  · by_cases c2 : z < x
    · simp [ins, c1, c2, midOf]; omega
    · by_cases c3 : z < y
      · simp [ins, c1, c2, c3, midOf]; omega
      · simp [ins, c1, c2, c3, midOf]; omega

theorem res4 {p q r s : Int} (hp : fr p = true) (hq : fr q = true) (hr : fr r = true) (hs : fr s = true) : res [p, q, r, s] = [p - midv [q, r, s], q - midv [p, r, s], r - midv [p, q, s], s - midv [p, q, r]] := by
  have hf : fit [p, q, r, s] = true := (fit_iff _).2 ⟨by simp, by simp, by simp [hp, hq, hr, hs]⟩
  have ho := fit_ok hf
  rw [res_yes hf]
  have w0 : without [p, q, r, s] ((0 : Nat) : Int) = [q, r, s] := by rw [without_yes _ ho]; rfl
  have w1 : without [p, q, r, s] ((1 : Nat) : Int) = [p, r, s] := by rw [without_yes _ ho]; rfl
  have w2 : without [p, q, r, s] ((2 : Nat) : Int) = [p, q, s] := by rw [without_yes _ ho]; rfl
  have w3 : without [p, q, r, s] ((3 : Nat) : Int) = [p, q, r] := by rw [without_yes _ ho]; rfl
  show [resAt [p, q, r, s] 0, resAt [p, q, r, s] 1, resAt [p, q, r, s] 2, resAt [p, q, r, s] 3] = _
  unfold resAt
  rw [w0, w1, w2, w3]; rfl
theorem sus4 {p q r s b : Int} (hb : 0 ≤ b) (hp : fr p = true) (hq : fr q = true) (hr : fr r = true) (hs : fr s = true) (o0 o1 o2 o3 : Bool) (h0 : off b (p - midv [q, r, s]) = o0) (h1 : off b (q - midv [p, r, s]) = o1) (h2 : off b (r - midv [p, q, s]) = o2) (h3 : off b (s - midv [p, q, r]) = o3) :
    sus [p, q, r, s] b = if o0.toNat + o1.toNat + o2.toNat + o3.toNat = 1 then (if o3 = true then 3 else if o2 = true then 2 else if o1 = true then 1 else if o0 = true then 0 else -1) else -1 := by
  unfold sus
  rw [if_neg (by omega), res4 hp hq hr hs]
  subst h0; subst h1; subst h2; subst h3
  simp only [susOf, offs, last, List.length_cons, List.length_nil, List.getD_cons_zero, List.getD_cons_succ, Nat.zero_add]
  rfl
theorem off_in {b x m : Int} (h1 : x - m ≤ b) (h2 : m - x ≤ b) : off b (x - m) = false := by unfold off; simp; omega
theorem off_out {b x m : Int} (h : b < x - m ∨ b < m - x) : off b (x - m) = true := by unfold off; simp; omega
theorem fr_sm {x : Int} (h : fr x = true) : sm x = true := by have := (fr_iff x).1 h; exact (sm_iff x).2 (by omega)

/-- Three numbers that lie in [lo, hi], and one that is further outside than these are apart: it is the suspect one, wherever it stands. -/
theorem four_odd {x y z o lo hi b : Int} {k : Nat} (hk : k < 4) (hx : lo ≤ x ∧ x ≤ hi) (hy : lo ≤ y ∧ y ≤ hi) (hz : lo ≤ z ∧ z ≤ hi) (hb : b = hi - lo) (fx : fr x = true) (fy : fr y = true) (fz : fr z = true) (fo : fr o = true)
    (h : hi + b < o ∨ o < lo - b) : sus ([] ++ [x, y, z].take k ++ [o] ++ [x, y, z].drop k) b = (k : Int) := by
  have b0 : 0 ≤ b := by omega
  have s1 := fr_sm fx
  have s2 := fr_sm fy
  have s3 := fr_sm fz
  have s4 := fr_sm fo
  have m := mid_three (a := lo) (b := hi) s1 s2 s3 (by omega)
  have e : off b (o - midv [x, y, z]) = true := off_out (by omega)
  have n {u v : Int} (hu : lo ≤ u ∧ u ≤ hi) (hm : lo ≤ v ∧ v ≤ hi) : off b (u - v) = false := off_in (by omega) (by omega)
  match k, hk with
  | 0, _ => exact (sus4 b0 fo fx fy fz true false false false e (n hx (mid_three s4 s2 s3 (by omega))) (n hy (mid_three s4 s1 s3 (by omega))) (n hz (mid_three s4 s1 s2 (by omega)))).trans rfl
  | 1, _ => exact (sus4 b0 fx fo fy fz false true false false (n hx (mid_three s4 s2 s3 (by omega))) e (n hy (mid_three s1 s4 s3 (by omega))) (n hz (mid_three s1 s4 s2 (by omega)))).trans rfl
  | 2, _ => exact (sus4 b0 fx fy fo fz false false true false (n hx (mid_three s2 s4 s3 (by omega))) (n hy (mid_three s1 s4 s3 (by omega))) e (n hz (mid_three s1 s2 s4 (by omega)))).trans rfl
  | 3, _ => exact (sus4 b0 fx fy fz fo false false false true (n hx (mid_three s2 s3 s4 (by omega))) (n hy (mid_three s1 s3 s4 (by omega))) (n hz (mid_three s1 s2 s4 (by omega))) e).trans rfl
/-- Four numbers that all lie in [lo, hi], the bound apart: none is suspect. -/
theorem four_even {x y z o lo hi b : Int} {k : Nat} (hk : k < 4) (hx : lo ≤ x ∧ x ≤ hi) (hy : lo ≤ y ∧ y ≤ hi) (hz : lo ≤ z ∧ z ≤ hi) (ho : lo ≤ o ∧ o ≤ hi) (hb : hi - lo ≤ b) (fx : fr x = true) (fy : fr y = true) (fz : fr z = true) (fo : fr o = true) :
    sus ([] ++ [x, y, z].take k ++ [o] ++ [x, y, z].drop k) b = -1 := by
  have b0 : 0 ≤ b := by omega
  have s1 := fr_sm fx
  have s2 := fr_sm fy
  have s3 := fr_sm fz
  have s4 := fr_sm fo
  have n {u v : Int} (hu : lo ≤ u ∧ u ≤ hi) (hm : lo ≤ v ∧ v ≤ hi) : off b (u - v) = false := off_in (by omega) (by omega)
  match k, hk with
  | 0, _ => exact (sus4 b0 fo fx fy fz false false false false (n ho (mid_three s1 s2 s3 (by omega))) (n hx (mid_three s4 s2 s3 (by omega))) (n hy (mid_three s4 s1 s3 (by omega))) (n hz (mid_three s4 s1 s2 (by omega)))).trans rfl
  | 1, _ => exact (sus4 b0 fx fo fy fz false false false false (n hx (mid_three s4 s2 s3 (by omega))) (n ho (mid_three s1 s2 s3 (by omega))) (n hy (mid_three s1 s4 s3 (by omega))) (n hz (mid_three s1 s4 s2 (by omega)))).trans rfl
  | 2, _ => exact (sus4 b0 fx fy fo fz false false false false (n hx (mid_three s2 s4 s3 (by omega))) (n hy (mid_three s1 s4 s3 (by omega))) (n ho (mid_three s1 s2 s3 (by omega))) (n hz (mid_three s1 s2 s4 (by omega)))).trans rfl
  | 3, _ => exact (sus4 b0 fx fy fz fo false false false false (n hx (mid_three s2 s3 s4 (by omega))) (n hy (mid_three s1 s3 s4 (by omega))) (n hz (mid_three s1 s2 s4 (by omega))) (n ho (mid_three s1 s2 s3 (by omega)))).trans rfl
end Pa
end Go.Proofs.Ytmlhmmfgdioclaa
