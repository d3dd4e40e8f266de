/-
  Plain mathematics for the law OrderMidst: where the mid of one to four numbers lies. No Go text is reached here. No conditions.
-/
import Derived.Test.YtiniijoodgdikaaOrderMath
namespace Go.Proofs.Ytiniijoodgdikaa
open Go.RowKit
namespace Od
open Fx

theorem midOf_in {s : List Int} (hu : Up s) (h1 : 1 ≤ s.length) (h4 : s.length ≤ 4) : s.getD 0 0 ≤ midOf s ∧ midOf s ≤ s.getD (s.length - 1) 0 := by
  have a1 := up_getD hu (i := 0) (j := (s.length - 1) / 2) (by omega) (by omega)
  have a2 := up_getD hu (i := (s.length - 1) / 2) (j := s.length / 2) (by omega) (by omega)
  have a3 := up_getD hu (i := s.length / 2) (j := s.length - 1) (by omega) (by omega)
  unfold midOf; omega
theorem mid_in {l : List Int} (hk : ok l = true) (h1 : 1 ≤ l.length) (h4 : l.length ≤ 4) : (srt l).getD 0 0 ≤ midv l ∧ midv l ≤ (srt l).getD (l.length - 1) 0 := by
  have := midOf_in (srt_up l) (by rw [srt_len]; exact h1) (by rw [srt_len]; exact h4)
  rw [srt_len] at this
  unfold midv; rw [if_pos (midb_yes hk h1 h4)]; exact this
theorem midb_perm {c l : List Int} (h : c.Perm l) : midb c = midb l := by unfold midb; rw [ok_perm h, h.length_eq]
theorem midv_perm {c l : List Int} (h : c.Perm l) : midv c = midv l := by unfold midv; rw [midb_perm h, srt_congr h]
theorem turned_perm (l : List Int) (k : Nat) : (l.drop k ++ l.take k).Perm l := by
  have := List.perm_append_comm (l₁ := l.drop k) (l₂ := l.take k)
  rwa [List.take_append_drop] at this
theorem ok_left {l : List Int} {x : Int} (h : ok (l ++ [x]) = true) : ok l = true := by
  rw [ok_iff] at h ⊢
  rw [List.all_append, Bool.and_eq_true] at h
  simp at h
  exact ⟨by omega, by simpa using h.2.1⟩
theorem mid_more {l : List Int} {x : Int} (hk : ok (l ++ [x]) = true) (h2 : 2 ≤ l.length) (h3 : l.length ≤ 3) : midb (l ++ [x]) = true ∧ (srt l).getD 0 0 ≤ midv (l ++ [x]) ∧ midv (l ++ [x]) ≤ (srt l).getD (l.length - 1) 0 := by
  have hm := midb_yes hk (by simp) (by simp; omega)
  refine ⟨hm, ?_⟩
  unfold midv; rw [if_pos hm, srt_snoc]
  have hu := srt_up l
  have hl := srt_len l
  generalize srt l = s at *
  rw [← hl] at h2 h3 ⊢
  unfold Up at hu
  match s, h2, h3 with
  | [a, b], _, _ =>
    simp at hu
    by_cases c1 : x < a
    · simp [ins, c1, midOf]; omega
    · by_cases c2 : x < b
      · simp [ins, c1, c2, midOf]; omega
      · simp [ins, c1, c2, midOf]; omega
  | [a, b, c], _, _ =>
    simp at hu
    by_cases c1 : x < a
    · simp [ins, c1, midOf]; omega
    · by_cases c2 : x < b
      · simp [ins, c1, c2, midOf]; omega
      · by_cases c3 : x < c
        · simp [ins, c1, c2, c3, midOf]; omega
        · simp [ins, c1, c2, c3, midOf]; omega
theorem without_last {l : List Int} {x : Int} (hk : ok (l ++ [x]) = true) : without (l ++ [x]) (l.length : Int) = l := by
  unfold without; rw [if_pos hk, wo_snoc, if_pos rfl, List.append_nil, wo_out l _ (Or.inr (Int.le_refl _))]
end Od
end Go.Proofs.Ytiniijoodgdikaa
