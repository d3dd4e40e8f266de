/-
  Notes, their texts, and a ring's last ones, in numbers and lists. Nothing of a program here. No conditions.
-/
import Derived.Test.YtpoededbmdffpaaGreatDoorTripMath
import Derived.Lib.ItoaNum
import Derived.Lib.ItoaLen
namespace Go.Proofs.YtpoededbmdffpaaGreatDoor
set_option maxRecDepth 100000
namespace Rg
open Fx
/-- A note. -/
structure Nt where
  y : Int
  c : Int
  s : Int
  k : Int
  t : Int
def nz : Nt := ⟨0, 0, 0, 0, 0⟩
def rgn (n : Nt) : Bool := decide (0 ≤ n.y) && (decide (0 ≤ n.c) && decide (n.c ≤ 3)) && (decide (0 ≤ n.s) && decide (n.s ≤ 7)) && (decide (0 ≤ n.k) && decide (n.k ≤ 2)) && (decide (0 ≤ n.t) && decide (n.t ≤ 63))
theorem rgn_iff (n : Nt) : rgn n = true ↔ 0 ≤ n.y ∧ 0 ≤ n.c ∧ n.c ≤ 3 ∧ 0 ≤ n.s ∧ n.s ≤ 7 ∧ 0 ≤ n.k ∧ n.k ≤ 2 ∧ 0 ≤ n.t ∧ n.t ≤ 63 := by unfold rgn; simp [and_assoc]
/-! Texts. -/
theorem txt_tab : ((List.range 64).all fun m => decide (Tp.tx m ≠ [])) = true := by decide +kernel
theorem txt_ne (m : Int) : (Tp.txt m ≠ []) ↔ (0 ≤ m ∧ m ≤ 63) := by
  unfold Tp.txt
  by_cases h : 0 ≤ m ∧ m ≤ 63
  · rw [if_pos h]
    have := List.all_eq_true.1 txt_tab m.toNat (List.mem_range.2 (by omega))
    simp only [decide_eq_true_eq] at this
    exact ⟨fun _ => h, fun _ => this⟩
  · rw [if_neg h]
    exact ⟨fun q => absurd rfl q, fun q => absurd q h⟩
def mkd (m : Int) : Bool := decide (0 ≤ m) && decide (m ≤ 63)
theorem mkd_iff (m : Int) : mkd m = true ↔ (0 ≤ m ∧ m ≤ 63) := by unfold mkd; simp
/-! Figures. -/
/-! Lists of notes as numbers. -/
def nl (n : Nt) : List Int := [n.y, n.c, n.s, n.k, n.t]
def flat (l : List Nt) : List Int := l.flatMap nl
theorem flat_cons (n : Nt) (l : List Nt) : flat (n :: l) = nl n ++ flat l := rfl
theorem flat_app (a b : List Nt) : flat (a ++ b) = flat a ++ flat b := by unfold flat; simp
theorem flat_len (l : List Nt) : (flat l).length = l.length * 5 := by
  induction l with
  | nil => rfl
  | cons n l ih => rw [flat_cons, List.length_append, ih]; simp [nl]; omega
theorem flat_get (l : List Nt) (i : Nat) (n : Nt) (h : l[i]? = some n) : (flat l).getD (i * 5) 0 = n.y ∧ (flat l).getD (i * 5 + 1) 0 = n.c ∧ (flat l).getD (i * 5 + 2) 0 = n.s ∧ (flat l).getD (i * 5 + 3) 0 = n.k ∧ (flat l).getD (i * 5 + 4) 0 = n.t := by
  induction l generalizing i with
  | nil => simp at h
  | cons m l ih =>
    rw [flat_cons]
    cases i with
    | zero => simp at h; subst h; simp [nl]
    | succ i =>
      rw [List.getElem?_cons_succ] at h
      obtain ⟨h0, h1, h2, h3, h4⟩ := ih i h
      have e : ∀ j, (nl m ++ flat l).getD ((i + 1) * 5 + j) 0 = (flat l).getD (i * 5 + j) 0 := by
        intro j
        rw [show (i + 1) * 5 + j = (i * 5 + j) + 5 by omega]
        simp [nl, List.getD_eq_getElem?_getD]
      refine ⟨?_, ?_, ?_, ?_, ?_⟩
      · have := e 0; simp only [Nat.add_zero] at this; rw [this]; exact h0
      · rw [e]; exact h1
      · rw [e]; exact h2
      · rw [e]; exact h3
      · rw [e]; exact h4
theorem flat_set (l : List Nt) (i : Nat) (n : Nt) (r : List Int) (h : i < l.length) :
    (((((flat l ++ r).set (i * 5) n.y).set (i * 5 + 1) n.c).set (i * 5 + 2) n.s).set (i * 5 + 3) n.k).set (i * 5 + 4) n.t = flat (l.set i n) ++ r := by
  induction l generalizing i with
  | nil => simp at h
  | cons m l ih =>
    cases i with
    | zero => simp [flat_cons, nl]
    | succ i =>
      have ih' := ih i (by simpa using h)
      have e : ∀ (q : List Int) (j : Nat) (x : Int), (nl m ++ q).set ((i + 1) * 5 + j) x = nl m ++ q.set (i * 5 + j) x := by
        intro q j x
        rw [show (i + 1) * 5 + j = i * 5 + j + 5 by omega]
        simp [nl]
      rw [List.set_cons_succ, flat_cons, flat_cons, List.append_assoc, List.append_assoc, ← ih']
      have e0 := e (flat l ++ r) 0 n.y
      simp only [Nat.add_zero] at e0
      rw [e0, e, e, e, e]
theorem flat_drop (l : List Nt) (i : Nat) : flat (l.drop i) = (flat l).drop (i * 5) := by
  induction i generalizing l with
  | zero => simp
  | succ i ih =>
    cases l with
    | nil => simp [flat]
    | cons m l => rw [List.drop_succ_cons, ih, flat_cons, show (i + 1) * 5 = i * 5 + 5 by omega]; simp [nl]
/-! The ring: where each note came to stand. -/
def stp (p : List Nt × Nat) (n : Nt) : List Nt × Nat := (p.1.set (p.2 % 32) n, p.2 + 1)
def rst (l : List Nt) : List Nt × Nat := l.foldl stp (List.replicate 32 nz, 0)
def arr (l : List Nt) : List Nt := (rst l).1
theorem rst_snoc (l : List Nt) (n : Nt) : rst (l ++ [n]) = stp (rst l) n := by unfold rst; rw [List.foldl_append]; rfl
theorem fold_two (l : List Nt) (p : List Nt × Nat) : (l.foldl stp p).2 = p.2 + l.length ∧ (l.foldl stp p).1.length = p.1.length := by
  induction l generalizing p with
  | nil => exact ⟨rfl, rfl⟩
  | cons n l ih =>
    obtain ⟨a, b⟩ := ih (stp p n)
    rw [List.foldl_cons]
    refine ⟨by rw [a]; simp [stp]; omega, by rw [b]; simp [stp]⟩
theorem rst_two (l : List Nt) : (rst l).2 = l.length := by have := (fold_two l (List.replicate 32 nz, 0)).1; simpa [rst] using this
theorem arr_len (l : List Nt) : (arr l).length = 32 := by have := (fold_two l (List.replicate 32 nz, 0)).2; simpa [arr, rst] using this
theorem arr_snoc (l : List Nt) (n : Nt) : arr (l ++ [n]) = (arr l).set (l.length % 32) n := by unfold arr; rw [rst_snoc]; unfold stp; rw [rst_two]
theorem arr_at (l : List Nt) : ∀ j n, l[j]? = some n → l.length ≤ j + 32 → (arr l)[j % 32]? = some n := by
  have key : ∀ r : List Nt, (∀ j n, r.reverse[j]? = some n → r.length ≤ j + 32 → (arr r.reverse)[j % 32]? = some n) := by
    intro r
    induction r with
    | nil => intro j n h; simp at h
    | cons x r ih =>
      intro j n h hl
      rw [List.reverse_cons] at h ⊢
      rw [arr_snoc]
      have hr : r.reverse.length = r.length := List.length_reverse
      have h32 := arr_len r.reverse
      rw [List.length_cons] at hl
      by_cases e : j = r.length
      · subst e
        rw [List.getElem?_append_right (by omega), hr] at h
        simp at h
        subst h
        rw [hr, List.getElem?_set_self (by omega)]
      · have hj : j < r.length := by
          have := (List.getElem?_eq_some_iff.1 h).1
          simp at this; omega
        rw [List.getElem?_append_left (by omega)] at h
        rw [List.getElem?_set_ne (by omega)]
        exact ih j n h (by omega)
  intro j n h hl
  have := key l.reverse j n (by rw [List.reverse_reverse]; exact h) (by rw [List.length_reverse]; exact hl)
  rwa [List.reverse_reverse] at this
/-- How many are lost, and those that are there. -/
def lost (l : List Nt) : Nat := l.length - 32
def lasts (l : List Nt) : List Nt := l.drop (lost l)
theorem lasts_len (l : List Nt) : (lasts l).length = min l.length 32 := by unfold lasts lost; rw [List.length_drop]; omega
theorem lasts_at (l : List Nt) (i : Nat) (h : i < (lasts l).length) : ∃ n, (lasts l)[i]? = some n ∧ (arr l)[(lost l + i) % 32]? = some n := by
  rw [lasts_len] at h
  have hi : lost l + i < l.length := by unfold lost; omega
  refine ⟨l[lost l + i], ?_, ?_⟩
  · unfold lasts; rw [List.getElem?_drop, List.getElem?_eq_getElem hi]
  · exact arr_at l _ _ (List.getElem?_eq_getElem hi) (by unfold lost; omega)
/-- A ring as its numbers. -/
def rgc (l : List Nt) : List Int := flat (arr l) ++ [(l.length : Int)]
theorem rgc_len (l : List Nt) : (rgc l).length = 161 := by unfold rgc; rw [List.length_append, flat_len, arr_len]; rfl
theorem rgc_last (l : List Nt) : (rgc l).getD 160 0 = (l.length : Int) := by
  unfold rgc
  have : (flat (arr l)).length = 160 := by rw [flat_len, arr_len]
  rw [List.getD_eq_getElem?_getD, List.getElem?_append_right (by omega), this]; rfl
theorem rgc_note (l : List Nt) (i : Nat) (n : Nt) (h : (arr l)[i]? = some n) : (rgc l).getD (i * 5) 0 = n.y ∧ (rgc l).getD (i * 5 + 1) 0 = n.c ∧ (rgc l).getD (i * 5 + 2) 0 = n.s ∧ (rgc l).getD (i * 5 + 3) 0 = n.k ∧ (rgc l).getD (i * 5 + 4) 0 = n.t := by
  have hi : i < 32 := by have := (List.getElem?_eq_some_iff.1 h).1; rw [arr_len] at this; exact this
  have hl : (flat (arr l)).length = 160 := by rw [flat_len, arr_len]
  have e : ∀ j, j < 160 → (rgc l).getD j 0 = (flat (arr l)).getD j 0 := by
    intro j hj
    unfold rgc
    rw [List.getD_eq_getElem?_getD, List.getD_eq_getElem?_getD, List.getElem?_append_left (by omega)]
  rw [e _ (by omega), e _ (by omega), e _ (by omega), e _ (by omega), e _ (by omega)]
  exact flat_get _ _ _ h
theorem rgc_add (l : List Nt) (n : Nt) : (((((((rgc l).set (l.length % 32 * 5) n.y).set (l.length % 32 * 5 + 1) n.c).set (l.length % 32 * 5 + 2) n.s).set (l.length % 32 * 5 + 3) n.k).set (l.length % 32 * 5 + 4) n.t).set 160 ((l.length : Int) + 1)) = rgc (l ++ [n]) := by
  have hl : (flat ((arr l).set (l.length % 32) n)).length = 160 := by rw [flat_len, List.length_set, arr_len]
  unfold rgc
  rw [flat_set _ _ _ _ (by rw [arr_len]; omega), arr_snoc, List.set_append_right _ _ (by omega), hl]
  simp
theorem rgc_nil : rgc [] = List.replicate 161 0 := by decide +kernel
end Rg
end Go.Proofs.YtpoededbmdffpaaGreatDoor
