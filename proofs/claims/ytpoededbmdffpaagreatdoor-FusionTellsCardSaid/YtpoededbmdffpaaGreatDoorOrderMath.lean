/-
  Plain mathematics for layer 2 (order): lists of whole numbers in rising order, their mid, a list without an element, the spread. No Go text is reached here. No conditions.
-/
import Derived.Test.YtpoededbmdffpaaGreatDoorFixMath
namespace Go.Proofs.YtpoededbmdffpaaGreatDoor
set_option maxRecDepth 100000
open Go.RowKit
namespace Od
open Fx
def ins (x : Int) : List Int → List Int
  | [] => [x]
  | y :: t => if x < y then x :: y :: t else y :: ins x t
def srt (l : List Int) : List Int := l.foldl (fun o x => ins x o) []
def ok (l : List Int) : Bool := decide (l.length ≤ 16) && l.all sm
def osort (l : List Int) : List Int := if ok l = true then srt l else []
def midb (l : List Int) : Bool := ok l && decide (1 ≤ l.length) && decide (l.length ≤ 4)
def midOf (s : List Int) : Int := (s.getD ((s.length - 1) / 2) 0 + s.getD (s.length / 2) 0) / 2
def midv (l : List Int) : Int := if midb l = true then midOf (srt l) else 0
def wo (l : List Int) (i : Int) : List Int := if 0 ≤ i then l.eraseIdx i.toNat else l
def without (l : List Int) (i : Int) : List Int := if ok l = true then wo l i else []
def spreadOf (s : List Int) : Int := s.getD (s.length - 1) 0 - s.getD 0 0
def spread (l : List Int) : Int := if ok l = true then spreadOf (srt l) else 0
def inv : List Int → Nat
  | [] => 0
  | x :: t => t.countP (fun y => decide (y < x)) + inv t
def swap (l : List Int) (k : Nat) : List Int := (l.set (k - 1) (l.getD k 0)).set k (l.getD (k - 1) 0)
def Up (l : List Int) : Prop := l.Pairwise (· ≤ ·)
theorem ok_iff (l : List Int) : ok l = true ↔ l.length ≤ 16 ∧ l.all sm = true := by unfold ok; simp
theorem ok_false (l : List Int) : ok l = false ↔ ¬ (l.length ≤ 16 ∧ l.all sm = true) := by rw [← ok_iff]; cases ok l <;> simp
theorem ok_len {l : List Int} (h : ok l = true) : l.length ≤ 16 := ((ok_iff l).1 h).1
theorem ok_mem {l : List Int} (h : ok l = true) {x : Int} (hx : x ∈ l) : sm x = true := by
  have := ((ok_iff l).1 h).2; rw [List.all_eq_true] at this; exact this x hx
theorem ins_perm (x : Int) (l : List Int) : (ins x l).Perm (x :: l) := by
  induction l with
  | nil => exact List.Perm.refl _
  | cons y t ih =>
    unfold ins; split
    · exact List.Perm.refl _
    · exact (List.Perm.cons y ih).trans (List.Perm.swap x y t)
theorem ins_up (x : Int) (l : List Int) (h : Up l) : Up (ins x l) := by
  unfold Up at *
  induction l with
  | nil => simp [ins]
  | cons y t ih =>
    rw [List.pairwise_cons] at h
    unfold ins; split
    · rw [List.pairwise_cons]
      refine ⟨fun z hz => ?_, by rw [List.pairwise_cons]; exact h⟩
      rcases List.mem_cons.1 hz with rfl | hz
      · omega
      · have := h.1 z hz; omega
    · rw [List.pairwise_cons]
      refine ⟨fun z hz => ?_, ih h.2⟩
      rcases List.mem_cons.1 ((ins_perm x t).mem_iff.1 hz) with rfl | hz
      · omega
      · exact h.1 z hz
theorem srt_snoc (l : List Int) (x : Int) : srt (l ++ [x]) = ins x (srt l) := by unfold srt; rw [List.foldl_append]; rfl
theorem snoc_ind {P : List Int → Prop} (h0 : P []) (h1 : ∀ l x, P l → P (l ++ [x])) (l : List Int) : P l := by
  have : ∀ r : List Int, P r.reverse := by
    intro r; induction r with
    | nil => exact h0
    | cons x t ih => rw [List.reverse_cons]; exact h1 _ _ ih
  have := this l.reverse; rwa [List.reverse_reverse] at this
theorem srt_perm (l : List Int) : (srt l).Perm l := by
  refine snoc_ind (P := fun l => (srt l).Perm l) (List.Perm.refl _) (fun l x ih => ?_) l
  rw [srt_snoc]
  exact (ins_perm x _).trans ((List.Perm.cons x ih).trans (List.perm_append_comm (l₁ := [x]) (l₂ := l)))
theorem srt_up (l : List Int) : Up (srt l) := by
  refine snoc_ind (P := fun l => Up (srt l)) (by unfold Up srt; simp) (fun l x ih => ?_) l
  rw [srt_snoc]; exact ins_up x _ ih
theorem srt_len (l : List Int) : (srt l).length = l.length := (srt_perm l).length_eq
theorem up_eq {a b : List Int} (ha : Up a) (hb : Up b) (h : a.Perm b) : a = b :=
  List.Perm.eq_of_pairwise (fun _ _ _ _ h1 h2 => Int.le_antisymm h1 h2) ha hb h
theorem srt_of {c l : List Int} (h : c.Perm l) (hu : Up c) : c = srt l := up_eq hu (srt_up l) (h.trans (srt_perm l).symm)
theorem getD_at (l : List Int) (k : Nat) (h : k < l.length) : l.getD k 0 = l[k] := by simp [List.getD_eq_getElem?_getD, h]
theorem take_snoc (l : List Int) (k : Nat) (h : k < l.length) : l.take (k + 1) = l.take k ++ [l.getD k 0] := by
  rw [List.take_succ_eq_append_getElem h, getD_at l k h]
/-- A list in two parts round the places k - 1, k. -/
theorem part2 (l : List Int) (k : Nat) (h1 : 1 ≤ k) (h : k < l.length) : l = l.take (k - 1) ++ (l.getD (k - 1) 0 :: l.getD k 0 :: l.drop (k + 1)) := by
  obtain ⟨j, rfl⟩ : ∃ j, k = j + 1 := ⟨k - 1, by omega⟩
  have e1 : l.drop j = l.getD j 0 :: l.drop (j + 1) := by rw [getD_at l j (by omega)]; exact List.drop_eq_getElem_cons (by omega)
  have e2 : l.drop (j + 1) = l.getD (j + 1) 0 :: l.drop (j + 1 + 1) := by rw [getD_at l (j + 1) h]; exact List.drop_eq_getElem_cons h
  simp only [Nat.add_sub_cancel]
  rw [← e2, ← e1, List.take_append_drop]
theorem swap_part (l : List Int) (k : Nat) (h1 : 1 ≤ k) (h : k < l.length) : swap l k = l.take (k - 1) ++ (l.getD k 0 :: l.getD (k - 1) 0 :: l.drop (k + 1)) := by
  have e := part2 l k h1 h
  have hl : (l.take (k - 1)).length = k - 1 := by rw [List.length_take]; omega
  unfold swap
  generalize l.getD k 0 = b at *
  generalize l.getD (k - 1) 0 = a at *
  generalize l.take (k - 1) = p at *
  generalize l.drop (k + 1) = s at *
  rw [e, List.set_append, if_neg (by omega), List.set_append, if_neg (by omega), hl]
  have : k - (k - 1) = 1 := by omega
  simp [this]
theorem swap_perm (l : List Int) (k : Nat) (h1 : 1 ≤ k) (h : k < l.length) : (swap l k).Perm l := by
  rw [swap_part l k h1 h]
  conv => rhs; rw [part2 l k h1 h]
  exact List.Perm.append_left _ (List.Perm.swap _ _ _)
theorem inv_part (p : List Int) (a b : Int) (s : List Int) (h : b < a) : inv (p ++ (b :: a :: s)) < inv (p ++ (a :: b :: s)) := by
  induction p with
  | nil =>
    simp only [List.nil_append, inv, List.countP_cons]
    have h2 : ¬ a < b := by omega
    simp [h, h2]; omega
  | cons x t ih =>
    simp only [List.cons_append, inv]
    have : (t ++ (b :: a :: s)).Perm (t ++ (a :: b :: s)) := List.Perm.append_left _ (List.Perm.swap _ _ _)
    rw [this.countP_eq]; omega
theorem swap_inv (l : List Int) (k : Nat) (h1 : 1 ≤ k) (h : k < l.length) (hd : l.getD k 0 < l.getD (k - 1) 0) : inv (swap l k) < inv l := by
  rw [swap_part l k h1 h]
  conv => rhs; rw [part2 l k h1 h]
  exact inv_part _ _ _ _ hd
theorem up_take (l : List Int) (k : Nat) (h1 : 1 ≤ k) (h : k < l.length) (hu : Up (l.take k)) (hd : l.getD (k - 1) 0 ≤ l.getD k 0) : Up (l.take (k + 1)) := by
  unfold Up at *
  rw [take_snoc l k h, List.pairwise_append]
  refine ⟨hu, by simp, fun x hx y hy => ?_⟩
  have hy := List.mem_singleton.1 hy; subst hy
  obtain ⟨j, rfl⟩ : ∃ j, k = j + 1 := ⟨k - 1, by omega⟩
  simp only [Nat.add_sub_cancel] at hd
  rw [take_snoc l j (by omega)] at hu hx
  rw [List.pairwise_append] at hu
  rcases List.mem_append.1 hx with hx | hx
  · have := hu.2.2 x hx _ (List.mem_singleton.2 rfl); omega
  · have hx := List.mem_singleton.1 hx; subst hx; exact hd
theorem up_one (l : List Int) : Up (l.take 1) := by unfold Up; cases l <;> simp
theorem up_getD {l : List Int} (hu : Up l) {i j : Nat} (hij : i ≤ j) (hj : j < l.length) : l.getD i 0 ≤ l.getD j 0 := by
  rw [getD_at l i (by omega), getD_at l j hj]
  rcases Nat.lt_or_eq_of_le hij with h | rfl
  · exact (List.pairwise_iff_getElem.1 hu) i j (by omega) hj h
  · exact Int.le_refl _
theorem wo_le (l : List Int) (i : Int) : (wo l i).length ≤ l.length := by
  unfold wo; split
  · rw [List.length_eraseIdx]; split <;> omega
  · exact Nat.le_refl _
theorem wo_out (l : List Int) (i : Int) (h : i < 0 ∨ (l.length : Int) ≤ i) : wo l i = l := by
  unfold wo
  split
  · rw [List.eraseIdx_of_length_le (by omega)]
  · rfl
theorem wo_at (l : List Int) (j : Nat) : wo l (j : Int) = l.take j ++ l.drop (j + 1) := by
  unfold wo
  rw [if_pos (by omega), Int.toNat_natCast, List.eraseIdx_eq_take_drop_succ]
theorem osort_len_ok {l : List Int} (h : ok l = true) : (osort l).length = l.length := by unfold osort; rw [if_pos h, srt_len]
theorem ret_mid {a b : Int} {c d : Bool} (h : a = b) (h2 : c = d) : Ending.returned (.tuple #[.int .i64 a, .bool c]) = .returned (.tuple #[.int .i64 b, .bool d]) := by rw [h, h2]
theorem midv_no {l : List Int} (h : midb l = false) : midv l = 0 := by unfold midv; rw [h]; rfl
theorem midb_no {l : List Int} (h : ok l = false ∨ l.length < 1 ∨ 4 < l.length) : midb l = false := by
  unfold midb
  rcases h with h | h | h
  · rw [h]; rfl
  · simp; omega
  · simp; omega
theorem midb_yes {l : List Int} (h : ok l = true) (h1 : 1 ≤ l.length) (h4 : l.length ≤ 4) : midb l = true := by unfold midb; simp [h, h1, h4]
theorem midv_yes {l s : List Int} (h : ok l = true) (h1 : 1 ≤ l.length) (h4 : l.length ≤ 4) (hs : osort l = s) : midv l = midOf s := by
  unfold midv; rw [if_pos (midb_yes h h1 h4), ← hs]; unfold osort; rw [if_pos h]
theorem osort_sm {l s : List Int} (h : ok l = true) (hs : osort l = s) {x : Int} (hx : x ∈ s) : -1099511627776 ≤ x ∧ x ≤ 1099511627776 := by
  subst hs
  unfold osort at hx; rw [if_pos h] at hx
  exact sm_bd (ok_mem h ((srt_perm l).mem_iff.1 hx))
theorem four {s : List Int} (h1 : 1 ≤ s.length) (h4 : s.length ≤ 4) : (∃ x, s = [x]) ∨ (∃ x y, s = [x, y]) ∨ (∃ x y z, s = [x, y, z]) ∨ ∃ x y z u, s = [x, y, z, u] := by
  match s, h1, h4 with
  | [x], _, _ => exact Or.inl ⟨x, rfl⟩
  | [x, y], _, _ => exact Or.inr (Or.inl ⟨x, y, rfl⟩)
  | [x, y, z], _, _ => exact Or.inr (Or.inr (Or.inl ⟨x, y, z, rfl⟩))
  | [x, y, z, u], _, _ => exact Or.inr (Or.inr (Or.inr ⟨x, y, z, u, rfl⟩))
theorem spread_no {l : List Int} (h : osort l = []) : spread l = 0 := by
  unfold spread; split
  · rename_i hk; unfold osort at h; rw [if_pos hk] at h; rw [h]; rfl
  · rfl
theorem spread_yes {l : List Int} (h : 1 ≤ (osort l).length) : ok l = true ∧ spread l = spreadOf (osort l) := by
  unfold spread osort at *
  cases hk : ok l
  · simp [hk] at h
  · simp
theorem without_no {l : List Int} (i : Int) (h : ok l = false) : without l i = [] := by unfold without; rw [h]; rfl
theorem without_yes {l : List Int} (i : Int) (h : ok l = true) : without l i = wo l i := by unfold without; rw [if_pos h]
end Od
end Go.Proofs.YtpoededbmdffpaaGreatDoor
