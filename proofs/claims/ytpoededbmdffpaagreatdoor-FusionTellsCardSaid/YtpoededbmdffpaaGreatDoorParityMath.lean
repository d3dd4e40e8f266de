/-
  Plain mathematics for layer 13 (parity): residues, and which value is the suspect one. No Go text is reached here. No conditions.
-/
import Derived.Test.YtpoededbmdffpaaGreatDoorOrderMidMath
namespace Go.Proofs.YtpoededbmdffpaaGreatDoor
set_option maxRecDepth 100000
open Go.RowKit
namespace Pa
open Fx Od
def fr (n : Int) : Bool := decide (-4294967296 ≤ n ∧ n ≤ 4294967296)
def fit (l : List Int) : Bool := decide (2 ≤ l.length) && decide (l.length ≤ 4) && l.all fr
def resAt (l : List Int) (k : Nat) : Int := l.getD k 0 - midv (without l (k : Int))
def resTo (l : List Int) (k : Nat) : List Int := (List.range k).map (resAt l)
def res (l : List Int) : List Int := if fit l = true then resTo l l.length else []
/-- Is a residue more than the bound from 0? -/
def off (b x : Int) : Bool := decide (b < x ∨ x < -b)
def offs (b : Int) (r : List Int) : Nat → Nat
  | 0 => 0
  | k + 1 => offs b r k + (off b (r.getD k 0)).toNat
def last (b : Int) (r : List Int) : Nat → Int
  | 0 => -1
  | k + 1 => if off b (r.getD k 0) = true then (k : Int) else last b r k
def susOf (b : Int) (r : List Int) : Int := if offs b r r.length = 1 then last b r r.length else -1
def sus (l : List Int) (b : Int) : Int := if b < 0 then -1 else susOf b (res l)
theorem fit_iff (l : List Int) : fit l = true ↔ 2 ≤ l.length ∧ l.length ≤ 4 ∧ l.all fr = true := by unfold fit; simp [and_assoc]
theorem fit_no {l : List Int} (h : ¬ (2 ≤ l.length ∧ l.length ≤ 4 ∧ l.all fr = true)) : fit l = false := by cases h2 : fit l; rfl; exact absurd ((fit_iff l).1 h2) h
theorem fit_short {l : List Int} (h : l.length < 2 ∨ 4 < l.length) : fit l = false := fit_no (by omega)
theorem fr_iff (n : Int) : fr n = true ↔ -4294967296 ≤ n ∧ n ≤ 4294967296 := by unfold fr; simp
theorem all_fr {l : List Int} (h : l.all fr = true) {k : Nat} (hk : k < l.length) : -4294967296 ≤ l.getD k 0 ∧ l.getD k 0 ≤ 4294967296 := by
  rw [getD_at l k hk]; rw [List.all_eq_true] at h; exact (fr_iff _).1 (h _ (List.getElem_mem hk))
theorem fit_not (l : List Int) (k : Nat) (h : k < l.length) (e : ¬ (-4294967296 ≤ l.getD k 0 ∧ l.getD k 0 ≤ 4294967296)) : fit l = false :=
  fit_no (fun q => e (all_fr q.2.2 h))
theorem fr_step (l : List Int) (k : Nat) (h : k < l.length) (h0 : (l.take k).all fr = true) (e : -4294967296 ≤ l.getD k 0 ∧ l.getD k 0 ≤ 4294967296) : (l.take (k + 1)).all fr = true := by
  rw [take_snoc l k h, List.all_append, h0]; simpa [fr] using e
theorem fit_end {l : List Int} (h2 : 2 ≤ l.length) (h4 : l.length ≤ 4) (h : (l.take l.length).all fr = true) : fit l = true := by
  rw [List.take_of_length_le (Nat.le_refl _)] at h; exact (fit_iff l).2 ⟨h2, h4, h⟩
theorem fit_ok {l : List Int} (h : fit l = true) : ok l = true := by
  have q := (fit_iff l).1 h
  refine (ok_iff l).2 ⟨by omega, List.all_eq_true.2 fun x hx => ?_⟩
  have := (fr_iff x).1 (List.all_eq_true.1 q.2.2 x hx)
  exact (sm_iff x).2 (by omega)
/-! ### the others, and their mid -/
theorem others_sub {l : List Int} {i : Int} {x : Int} (h : x ∈ without l i) : x ∈ l := by
  unfold without at h
  split at h
  · unfold wo at h
    split at h
    · exact List.mem_of_mem_eraseIdx h
    · exact h
  · simp at h
theorem others_len {l : List Int} (h : ok l = true) {k : Nat} (hk : k < l.length) : (without l (k : Int)).length = l.length - 1 := by
  rw [without_yes _ h, wo_at, List.length_append, List.length_take, List.length_drop]; omega
theorem others_ok {l : List Int} (h : ok l = true) (i : Int) : ok (without l i) = true := by
  have q := (ok_iff l).1 h
  refine (ok_iff _).2 ⟨?_, List.all_eq_true.2 fun x hx => ok_mem h (others_sub hx)⟩
  rw [without_yes _ h]; have := wo_le l i; omega
/-- A mid lies where its numbers do. -/
theorem mid_bd {l : List Int} {a b : Int} (hk : ok l = true) (h1 : 1 ≤ l.length) (h4 : l.length ≤ 4) (h : ∀ x ∈ l, a ≤ x ∧ x ≤ b) : a ≤ midv l ∧ midv l ≤ b := by
  have q := mid_in hk h1 h4
  have m1 := h _ ((srt_perm l).mem_iff.1 (show (srt l).getD 0 0 ∈ srt l by rw [getD_at _ _ (by rw [srt_len]; exact h1)]; exact List.getElem_mem _))
  have m2 := h _ ((srt_perm l).mem_iff.1 (show (srt l).getD (l.length - 1) 0 ∈ srt l by rw [getD_at _ _ (by rw [srt_len]; omega)]; exact List.getElem_mem _))
  omega
theorem others_mid {l : List Int} (h : fit l = true) {k : Nat} (hk : k < l.length) : -4294967296 ≤ midv (without l (k : Int)) ∧ midv (without l (k : Int)) ≤ 4294967296 := by
  have q := (fit_iff l).1 h
  have e := others_len (fit_ok h) hk
  refine mid_bd (others_ok (fit_ok h) _) (by omega) (by omega) fun x hx => (fr_iff x).1 (List.all_eq_true.1 q.2.2 x (others_sub hx))
theorem resTo_snoc (l : List Int) (k : Nat) : resTo l (k + 1) = resTo l k ++ [resAt l k] := by unfold resTo; rw [List.range_succ, List.map_append]; rfl
theorem resTo_len (l : List Int) (k : Nat) : (resTo l k).length = k := by unfold resTo; simp
theorem resTo_get (l : List Int) {k j : Nat} (h : j < k) : (resTo l k).getD j 0 = resAt l j := by unfold resTo; simp [List.getD_eq_getElem?_getD, h]
theorem res_yes {l : List Int} (h : fit l = true) : res l = resTo l l.length := if_pos h
theorem res_no {l : List Int} (h : fit l = false) : res l = [] := by unfold res; rw [h]; rfl
theorem res_le (l : List Int) : (res l).length ≤ 4 := by
  cases h : fit l
  · rw [res_no h]; simp
  · rw [res_yes h, resTo_len]; have := (fit_iff l).1 h; omega
theorem res_bd (l : List Int) {k : Nat} (hk : k < (res l).length) : -8589934592 ≤ (res l).getD k 0 ∧ (res l).getD k 0 ≤ 8589934592 := by
  cases h : fit l
  · rw [res_no h] at hk; simp at hk
  · rw [res_yes h] at hk ⊢
    rw [resTo_len] at hk
    rw [resTo_get l hk]
    have a := all_fr ((fit_iff l).1 h).2.2 hk
    have b := others_mid h hk
    unfold resAt; omega
/-- The row that is made first, and filled one by one. -/
def fill (l : List Int) (k : Nat) : List Int := resTo l k ++ List.replicate (l.length - k) 0
theorem fill_len {l : List Int} {k : Nat} (h : k ≤ l.length) : (fill l k).length = l.length := by unfold fill; rw [List.length_append, resTo_len, List.length_replicate]; omega
theorem fill_zero (l : List Int) : fill l 0 = List.replicate l.length 0 := by unfold fill resTo; simp
theorem fill_all (l : List Int) : fill l l.length = resTo l l.length := by unfold fill; simp
theorem fill_set {l : List Int} {k : Nat} (h : k < l.length) : (fill l k).set k (resAt l k) = fill l (k + 1) := by
  unfold fill
  rw [resTo_snoc, List.set_append, if_neg (by rw [resTo_len]; omega), resTo_len, Nat.sub_self, show l.length - k = (l.length - (k + 1)) + 1 by omega, List.replicate_succ, List.set_cons_zero, List.append_assoc, List.singleton_append]
/-! ### who is off -/
theorem offs_mono (b : Int) (r : List Int) (k j : Nat) (h : k ≤ j) : offs b r k ≤ offs b r j := by
  induction j with
  | zero => rw [show k = 0 by omega]; exact Nat.le_refl _
  | succ j ih =>
    by_cases e : k = j + 1
    · rw [e]; exact Nat.le_refl _
    · have := ih (by omega); rw [offs]; omega
theorem last_none {b : Int} {r : List Int} {k : Nat} (h : offs b r k = 0) : last b r k = -1 := by
  induction k with
  | zero => rfl
  | succ k ih =>
    rw [offs] at h
    cases hb : off b (r.getD k 0)
    · rw [last, hb]; rw [hb] at h; exact ih h
    · rw [hb] at h; simp at h
theorem last_some {b : Int} {r : List Int} {k : Nat} (h : 1 ≤ offs b r k) : 0 ≤ last b r k ∧ last b r k < (k : Int) := by
  induction k with
  | zero => rw [offs] at h; omega
  | succ k ih =>
    rw [offs] at h
    cases hb : off b (r.getD k 0)
    · rw [last, hb]; rw [hb] at h; have := ih (by simpa using h); simp; omega
    · rw [last, hb]; simp; omega
theorem susOf_two {b : Int} {r : List Int} {k : Nat} (hk : k ≤ r.length) (h : 2 ≤ offs b r k) : susOf b r = -1 := by
  have := offs_mono b r k r.length hk
  unfold susOf; rw [if_neg (by omega)]
theorem susOf_last {b : Int} {r : List Int} (h : offs b r r.length ≤ 1) : susOf b r = last b r r.length := by
  unfold susOf
  split
  · rfl
  · rw [last_none (by omega)]
theorem last_bd (b : Int) (r : List Int) (k : Nat) : -1 ≤ last b r k ∧ last b r k < k := by
  by_cases h : 1 ≤ offs b r k
  · have := last_some h; omega
  · rw [last_none (by omega)]; omega
theorem sus_bd (l : List Int) (b : Int) : -1 ≤ sus l b ∧ sus l b ≤ 3 := by
  have h := last_bd b (res l) (res l).length
  have := res_le l
  unfold sus susOf
  split
  · omega
  · split <;> omega
/-- A residue's distance from 0 is its sign's. -/
theorem off_apart {b x : Int} (hx : -8589934592 ≤ x ∧ x ≤ 8589934592) : decide (apart x 0 ≤ b) = !off b x := by
  unfold apart off
  rw [if_pos ⟨(sm_iff x).2 (by omega), rfl⟩, ← decide_not]
  refine decide_eq_decide.2 ?_
  split <;> omega
theorem offs_yes {b : Int} {r : List Int} {k : Nat} (h : off b (r.getD k 0) = true) : offs b r (k + 1) = offs b r k + 1 := by rw [offs, h]; rfl
theorem offs_no {b : Int} {r : List Int} {k : Nat} (h : off b (r.getD k 0) = false) : offs b r (k + 1) = offs b r k := by rw [offs, h]; rfl
theorem last_yes {b : Int} {r : List Int} {k : Nat} (h : off b (r.getD k 0) = true) : last b r (k + 1) = (k : Int) := by rw [last, if_pos h]
theorem last_no {b : Int} {r : List Int} {k : Nat} (h : off b (r.getD k 0) = false) : last b r (k + 1) = last b r k := by rw [last, h]; rfl
/-! ### one of four -/
end Pa
end Go.Proofs.YtpoededbmdffpaaGreatDoor
