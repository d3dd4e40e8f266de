/-
 Plain mathematics for the law OrderMidst: where the mid of one to four numbers lies. No Go text is reached here. No conditions.
 What package vote tells, as functions of numbers and lists. No Go text is reached here. No conditions.
 Plain mathematics for layer 13 (parity): residues, and which value is the suspect one. No Go text is reached here. No conditions.
 What a latch does, as functions of numbers: a rule, a state, a cycle, a run. No function of the program is walked here. No conditions.
 Configurations as lists of numbers: the rows in which a fault is looked for, what may be, what is covered, and the greatest error that is. No Go text is reached here. No conditions.
 One signal, cycle by cycle, as functions of numbers and lists: what a cycle does to it, in the document's order. No Go text is reached here. No conditions.
-/
import Derived.Test.YticidhbnljdidaaGreatDoorJAgg8
import Derived.Test.YticidhbnljdidaaGreatDoorChecked
namespace Go.Proofs.YticidhbnljdidaaGreatDoor
set_option maxRecDepth 100000
open Go.RowKit
namespace Od
open Fx
theorem midOf_in {s : List Int} (hu : Up s) (h1 : 1 ≤ s.length) (h4 : s.length ≤ 4) : s.getD 0 0 ≤ midOf s ∧ midOf s ≤ s.getD (s.length - 1) 0 := by
 have a1 := up_getD hu (i := 0) (j := (s.length - 1) / 2) (by omega) (by omega)
 have a2 := up_getD hu (i := (s.length - 1) / 2) (j := s.length / 2) (by omega) (by omega)
 have a3 := up_getD hu (i := s.length / 2) (j := s.length - 1) (by omega) (by omega)
 unfold midOf; omega
theorem mid_in {l : List Int} (hk : ok l = true) (h1 : 1 ≤ l.length) (h4 : l.length ≤ 4) : (srt l).getD 0 0 ≤ midv l ∧ midv l ≤ (srt l).getD (l.length - 1) 0 := by
 have := midOf_in (srt_up l) (by rw [srt_len]; exact h1) (by rw [srt_len]; exact h4)
 rw [srt_len] at this
 unfold midv; rw [if_pos (midb_yes hk h1 h4)]; exact this
end Od
namespace Vo
open Fx Od
def inr (a b n : Int) : Bool := decide (a ≤ n) && decide (n ≤ b)
def rmay (lo hi clip : Int) : Bool := inr (-2147483648) 2147483647 lo && inr lo 2147483647 hi && inr 0 2147483647 clip
def okp (x u : Int) : Bool := inr (-4294967296) 4294967296 x && inr 1 16 u
def okk (V U : List Int) : Nat → Bool
 | 0 => true
 | k + 1 => okk V U k && okp (V.getD k 0) (U.getD k 0)
def fits (V U : List Int) : Bool := decide (V.length = U.length) && okk V U V.length
def cl (mid clip x : Int) : Int := within x (mid - clip) (mid + clip)
def sumk (mid clip : Int) (V U : List Int) : Nat → Int
 | 0 => 0
 | k + 1 => sumk mid clip V U k + U.getD k 0 * cl mid clip (V.getD k 0)
def allk (U : List Int) : Nat → Int
 | 0 => 0
 | k + 1 => allk U k + U.getD k 0
def meanv (mid clip : Int) (V U : List Int) : Int := sumk mid clip V U V.length / allk U V.length
def votb (lo hi clip : Int) (V U : List Int) : Bool := midb V && rmay lo hi clip && fits V U
def votv (lo hi clip : Int) (V U : List Int) : Int := if votb lo hi clip V U = true then within (meanv (midv V) clip V U) lo hi else 0
theorem inr_iff (a b n : Int) : inr a b n = true ↔ a ≤ n ∧ n ≤ b := by unfold inr; simp
theorem rmay_iff (lo hi clip : Int) : rmay lo hi clip = true ↔ (-2147483648 ≤ lo ∧ lo ≤ 2147483647) ∧ (lo ≤ hi ∧ hi ≤ 2147483647) ∧ 0 ≤ clip ∧ clip ≤ 2147483647 := by
 unfold rmay; simp only [Bool.and_eq_true,inr_iff,and_assoc]
theorem okp_iff (x u : Int) : okp x u = true ↔ (-4294967296 ≤ x ∧ x ≤ 4294967296) ∧ 1 ≤ u ∧ u ≤ 16 := by
 unfold okp; simp only [Bool.and_eq_true,inr_iff]
theorem okk_at {V U : List Int} {n : Nat} (h : okk V U n = true) : ∀ k,k < n → okp (V.getD k 0) (U.getD k 0) = true := by
 induction n with
 | zero => intro k hk; omega
 | succ n ih =>
   intro k hk
   unfold okk at h
   rw [Bool.and_eq_true] at h
   rcases Nat.lt_succ_iff_lt_or_eq.1 hk with q | rfl
   · exact ih h.1 k q
   · exact h.2
theorem okk_of {V U : List Int} {n : Nat} (h : ∀ k,k < n → okp (V.getD k 0) (U.getD k 0) = true) : okk V U n = true := by
 induction n with
 | zero => rfl
 | succ n ih =>
   unfold okk
   rw [ih (fun k hk => h k (by omega)),h n (by omega)]; rfl
theorem okk_no {V U : List Int} {k n : Nat} (hk : k < n) (h : okp (V.getD k 0) (U.getD k 0) = false) : okk V U n = false := by
 cases e : okk V U n
 · rfl
 · rw [okk_at e k hk] at h; cases h
theorem fits_iff (V U : List Int) : fits V U = true ↔ V.length = U.length ∧ okk V U V.length = true := by unfold fits; simp
theorem fits_len {V U : List Int} (h : ¬ V.length = U.length) : fits V U = false := by unfold fits; simp [h]
theorem fits_eq {V U : List Int} (h : V.length = U.length) : fits V U = okk V U V.length := by unfold fits; simp [h]
theorem within_bd {n lo hi : Int} (h : lo ≤ hi) : lo ≤ within n lo hi ∧ within n lo hi ≤ hi := by
 unfold within; split
 · omega
 · split <;> omega
theorem clamp_small {n lo hi : Int} (h1 : sm n = true) (h2 : sm lo = true) (h3 : sm hi = true) : clamp n lo hi = within n lo hi := by
 unfold clamp; rw [if_pos ⟨h1,h2,h3⟩]
theorem floor_small {n b : Int} (h1 : sm n = true) (h2 : sm b = true) (h3 : 1 ≤ b) : floor n b = n / b := by
 unfold floor; rw [if_pos ⟨h1,h2,h3⟩]
structure Mid (mid clip : Int) (V U : List Int) : Prop where
 m1 : -4294967296 ≤ mid
 m2 : mid ≤ 4294967296
 c1 : 0 ≤ clip
 c2 : clip ≤ 2147483647
 len : V.length = U.length
 n1 : 1 ≤ V.length
 n4 : V.length ≤ 4
 ok : ∀ k,k < V.length → okp (V.getD k 0) (U.getD k 0) = true
theorem Mid.x {mid clip : Int} {V U : List Int} (M : Mid mid clip V U) {k : Nat} (h : k < V.length) : -4294967296 ≤ V.getD k 0 ∧ V.getD k 0 ≤ 4294967296 := ((okp_iff _ _).1 (M.ok k h)).1
theorem Mid.u {mid clip : Int} {V U : List Int} (M : Mid mid clip V U) {k : Nat} (h : k < V.length) : 1 ≤ U.getD k 0 ∧ U.getD k 0 ≤ 16 := ((okp_iff _ _).1 (M.ok k h)).2
theorem cl_bd {mid clip : Int} (h : 0 ≤ clip) (x : Int) : mid - clip ≤ cl mid clip x ∧ cl mid clip x ≤ mid + clip := within_bd (by omega)
theorem cl_clamp {mid clip : Int} {V U : List Int} (M : Mid mid clip V U) {k : Nat} (h : k < V.length) : clamp (V.getD k 0) (mid - clip) (mid + clip) = cl mid clip (V.getD k 0) := by
 have := M.x h; have := M.m1; have := M.m2; have := M.c1; have := M.c2
 exact clamp_small ((sm_iff _).2 (by omega)) ((sm_iff _).2 (by omega)) ((sm_iff _).2 (by omega))
theorem allk_bd {mid clip : Int} {V U : List Int} (M : Mid mid clip V U) : ∀ k,k ≤ V.length → (k : Int) ≤ allk U k ∧ allk U k ≤ 16 * k := by
 intro k
 induction k with
 | zero => intro _; simp [allk]
 | succ k ih =>
   intro hk
   have := ih (by omega)
   have := M.u (show k < V.length by omega)
   simp only [allk]; omega
theorem mul_bd {u x a b : Int} (h0 : 0 ≤ u) (h1 : a ≤ x) (h2 : x ≤ b) : u * a ≤ u * x ∧ u * x ≤ u * b := ⟨Int.mul_le_mul_of_nonneg_left h1 h0,Int.mul_le_mul_of_nonneg_left h2 h0⟩
theorem sumk_bd {mid clip a b : Int} {V U : List Int} (M : Mid mid clip V U) (h : ∀ k,k < V.length → a ≤ cl mid clip (V.getD k 0) ∧ cl mid clip (V.getD k 0) ≤ b) :
 ∀ k,k ≤ V.length → allk U k * a ≤ sumk mid clip V U k ∧ sumk mid clip V U k ≤ allk U k * b := by
 intro k
 induction k with
 | zero => intro _; simp [allk,sumk]
 | succ k ih =>
   intro hk
   have h1 := ih (by omega)
   have h2 := M.u (show k < V.length by omega)
   have h3 := h k (by omega)
   have h4 := mul_bd (u := U.getD k 0) (by omega) h3.1 h3.2
   simp only [allk,sumk,Int.add_mul]
   generalize U.getD k 0 * cl mid clip (V.getD k 0) = p at *
   omega
theorem sumk_sm {mid clip : Int} {V U : List Int} (M : Mid mid clip V U) {k : Nat} (hk : k ≤ V.length) : -412316860416 ≤ sumk mid clip V U k ∧ sumk mid clip V U k ≤ 412316860416 := by
 have h := sumk_bd (a := -6442450944) (b := 6442450944) M (fun j hj => by
  have := cl_bd (mid := mid) M.c1 (V.getD j 0); have := M.m1; have := M.m2; have := M.c2; omega) k hk
 have h2 := allk_bd M k hk
 have := M.n4
 omega
theorem part_sm {mid clip : Int} {V U : List Int} (M : Mid mid clip V U) {k : Nat} (hk : k < V.length) : -103079215104 ≤ U.getD k 0 * cl mid clip (V.getD k 0) ∧ U.getD k 0 * cl mid clip (V.getD k 0) ≤ 103079215104 := by
 have h1 := cl_bd (mid := mid) M.c1 (V.getD k 0)
 have h2 := M.u hk
 have := M.m1; have := M.m2; have := M.c2
 have h4 := mul_bd (u := U.getD k 0) (a := -6442450944) (b := 6442450944) (x := cl mid clip (V.getD k 0)) (by omega) (by omega) (by omega)
 omega
theorem mean_floor {mid clip : Int} {V U : List Int} (M : Mid mid clip V U) : floor (sumk mid clip V U V.length) (allk U V.length) = meanv mid clip V U := by
 have h1 := sumk_sm M (Nat.le_refl _)
 have h2 := allk_bd M V.length (Nat.le_refl _)
 have := M.n1; have := M.n4
 exact floor_small ((sm_iff _).2 (by omega)) ((sm_iff _).2 (by omega)) (by omega)
theorem mean_bd {mid clip a b : Int} {V U : List Int} (M : Mid mid clip V U) (h : ∀ k,k < V.length → a ≤ cl mid clip (V.getD k 0) ∧ cl mid clip (V.getD k 0) ≤ b) : a ≤ meanv mid clip V U ∧ meanv mid clip V U ≤ b := by
 have h1 := sumk_bd M h V.length (Nat.le_refl _)
 have h2 := allk_bd M V.length (Nat.le_refl _)
 have := M.n1
 unfold meanv
 generalize sumk mid clip V U V.length = s at *
 generalize allk U V.length = t at *
 have ht : 0 < t := by omega
 refine ⟨(Int.le_ediv_iff_mul_le ht).2 (by rw [Int.mul_comm]; exact h1.1),?_⟩
 have : s / t < b + 1 := (Int.ediv_lt_iff_lt_mul ht).2 (by rw [Int.add_mul,Int.mul_comm b t]; omega)
 omega
theorem mean_near {mid clip : Int} {V U : List Int} (M : Mid mid clip V U) : mid - clip ≤ meanv mid clip V U ∧ meanv mid clip V U ≤ mid + clip := mean_bd M (fun _ _ => cl_bd M.c1 _)
theorem mean_sm {mid clip : Int} {V U : List Int} (M : Mid mid clip V U) : sm (meanv mid clip V U) = true := by
 have h := mean_near M; have := M.m1; have := M.m2; have := M.c2
 exact (sm_iff _).2 (by omega)
theorem mean_clamp {mid clip lo hi : Int} {V U : List Int} (M : Mid mid clip V U) (h : rmay lo hi clip = true) : clamp (meanv mid clip V U) lo hi = within (meanv mid clip V U) lo hi := by
 have := (rmay_iff _ _ _).1 h
 exact clamp_small (mean_sm M) ((sm_iff _).2 (by omega)) ((sm_iff _).2 (by omega))
theorem srt_bd {l : List Int} {a b : Int} (h1 : 1 ≤ l.length) (h : ∀ k,k < l.length → a ≤ l.getD k 0 ∧ l.getD k 0 ≤ b) : a ≤ (srt l).getD 0 0 ∧ (srt l).getD (l.length - 1) 0 ≤ b := by
 have hl := srt_len l
 have q : ∀ j,j < l.length → a ≤ (srt l).getD j 0 ∧ (srt l).getD j 0 ≤ b := by
  intro j hj
  have hm : (srt l).getD j 0 ∈ l := (srt_perm l).mem_iff.1 (by rw [getD_at _ j (by omega)]; exact List.getElem_mem _)
  obtain ⟨i,hi,e⟩ := List.getElem_of_mem hm
  rw [← e,← getD_at _ _ hi]
  exact h i hi
 exact ⟨(q 0 (by omega)).1,(q _ (by omega)).2⟩
theorem midb_iff {l : List Int} : midb l = true ↔ ok l = true ∧ 1 ≤ l.length ∧ l.length ≤ 4 := by unfold midb; simp [and_assoc]
theorem ok_of {l : List Int} (h1 : l.length ≤ 16) (h : ∀ k,k < l.length → -4294967296 ≤ l.getD k 0 ∧ l.getD k 0 ≤ 4294967296) : ok l = true := by
 rw [ok_iff]
 refine ⟨h1,List.all_eq_true.2 fun x hx => ?_⟩
 obtain ⟨i,hi,rfl⟩ := List.getElem_of_mem hx
 have := h i hi
 rw [getD_at _ _ hi] at this
 exact (sm_iff _).2 (by omega)
theorem mid_of {clip : Int} {V U : List Int} (hm : midb V = true) (hc : 0 ≤ clip ∧ clip ≤ 2147483647) (hf : fits V U = true) : Mid (midv V) clip V U := by
 obtain ⟨hk,h1,h4⟩ := midb_iff.1 hm
 obtain ⟨hl,ho⟩ := (fits_iff _ _).1 hf
 have ho := okk_at ho
 have h := mid_in hk h1 h4
 have q := srt_bd (a := -4294967296) (b := 4294967296) h1 (fun k hk => ((okp_iff _ _).1 (ho k hk)).1)
 exact ⟨by omega,by omega,hc.1,hc.2,hl,h1,h4,ho⟩
theorem votb_iff {lo hi clip : Int} {V U : List Int} : votb lo hi clip V U = true ↔ midb V = true ∧ rmay lo hi clip = true ∧ fits V U = true := by unfold votb; simp [and_assoc]
theorem votb_mid {lo hi clip : Int} {V U : List Int} (h : votb lo hi clip V U = true) : Mid (midv V) clip V U := by
 obtain ⟨h1,h2,h3⟩ := votb_iff.1 h
 have := (rmay_iff _ _ _).1 h2
 exact mid_of h1 this.2.2 h3
theorem votv_yes {lo hi clip : Int} {V U : List Int} (h : votb lo hi clip V U = true) : votv lo hi clip V U = within (meanv (midv V) clip V U) lo hi := if_pos h
theorem votv_no {lo hi clip : Int} {V U : List Int} (h : votb lo hi clip V U = false) : votv lo hi clip V U = 0 := if_neg (by rw [h]; decide)
theorem vote_in {lo hi clip : Int} {V U : List Int} (h : votb lo hi clip V U = true) : lo ≤ votv lo hi clip V U ∧ votv lo hi clip V U ≤ hi := by
 have := (rmay_iff _ _ _).1 (votb_iff.1 h).2.1
 rw [votv_yes h]; exact within_bd this.2.1.1
end Vo
namespace Pa
open Fx Od
def fr (n : Int) : Bool := decide (-4294967296 ≤ n ∧ n ≤ 4294967296)
def fit (l : List Int) : Bool := decide (2 ≤ l.length) && decide (l.length ≤ 4) && l.all fr
def resAt (l : List Int) (k : Nat) : Int := l.getD k 0 - midv (without l (k : Int))
def resTo (l : List Int) (k : Nat) : List Int := (List.range k).map (resAt l)
def res (l : List Int) : List Int := if fit l = true then resTo l l.length else []
def off (b x : Int) : Bool := decide (b < x ∨ x < -b)
def offs (b : Int) (r : List Int) : Nat → Nat
 | 0 => 0
 | k + 1 => offs b r k + (off b (r.getD k 0)).toNat
def last (b : Int) (r : List Int) : Nat → Int
 | 0 => -1
 | k + 1 => if off b (r.getD k 0) = true then (k : Int) else last b r k
def susOf (b : Int) (r : List Int) : Int := if offs b r r.length = 1 then last b r r.length else -1
def sus (l : List Int) (b : Int) : Int := if b < 0 then -1 else susOf b (res l)
theorem fit_iff (l : List Int) : fit l = true ↔ 2 ≤ l.length ∧ l.length ≤ 4 ∧ l.all fr = true := by unfold fit; simp [and_assoc]
theorem fit_no {l : List Int} (h : ¬ (2 ≤ l.length ∧ l.length ≤ 4 ∧ l.all fr = true)) : fit l = false := by cases h2 : fit l; rfl; exact absurd ((fit_iff l).1 h2) h
theorem fit_short {l : List Int} (h : l.length < 2 ∨ 4 < l.length) : fit l = false := fit_no (by omega)
theorem fr_iff (n : Int) : fr n = true ↔ -4294967296 ≤ n ∧ n ≤ 4294967296 := by unfold fr; simp
theorem all_fr {l : List Int} (h : l.all fr = true) {k : Nat} (hk : k < l.length) : -4294967296 ≤ l.getD k 0 ∧ l.getD k 0 ≤ 4294967296 := by
 rw [getD_at l k hk]; rw [List.all_eq_true] at h; exact (fr_iff _).1 (h _ (List.getElem_mem hk))
theorem fit_not (l : List Int) (k : Nat) (h : k < l.length) (e : ¬ (-4294967296 ≤ l.getD k 0 ∧ l.getD k 0 ≤ 4294967296)) : fit l = false :=
 fit_no (fun q => e (all_fr q.2.2 h))
theorem fr_step (l : List Int) (k : Nat) (h : k < l.length) (h0 : (l.take k).all fr = true) (e : -4294967296 ≤ l.getD k 0 ∧ l.getD k 0 ≤ 4294967296) : (l.take (k + 1)).all fr = true := by
 rw [take_snoc l k h,List.all_append,h0]; simpa [fr] using e
theorem fit_end {l : List Int} (h2 : 2 ≤ l.length) (h4 : l.length ≤ 4) (h : (l.take l.length).all fr = true) : fit l = true := by
 rw [List.take_of_length_le (Nat.le_refl _)] at h; exact (fit_iff l).2 ⟨h2,h4,h⟩
theorem fit_ok {l : List Int} (h : fit l = true) : ok l = true := by
 have q := (fit_iff l).1 h
 refine (ok_iff l).2 ⟨by omega,List.all_eq_true.2 fun x hx => ?_⟩
 have := (fr_iff x).1 (List.all_eq_true.1 q.2.2 x hx)
 exact (sm_iff x).2 (by omega)
theorem others_sub {l : List Int} {i : Int} {x : Int} (h : x ∈ without l i) : x ∈ l := by
 unfold without at h
 split at h
 · unfold wo at h
   split at h
   · exact List.mem_of_mem_eraseIdx h
   · exact h
 · simp at h
theorem others_len {l : List Int} (h : ok l = true) {k : Nat} (hk : k < l.length) : (without l (k : Int)).length = l.length - 1 := by
 rw [without_yes _ h,wo_at,List.length_append,List.length_take,List.length_drop]; omega
theorem others_ok {l : List Int} (h : ok l = true) (i : Int) : ok (without l i) = true := by
 have q := (ok_iff l).1 h
 refine (ok_iff _).2 ⟨?_,List.all_eq_true.2 fun x hx => ok_mem h (others_sub hx)⟩
 rw [without_yes _ h]; have := wo_le l i; omega
theorem mid_bd {l : List Int} {a b : Int} (hk : ok l = true) (h1 : 1 ≤ l.length) (h4 : l.length ≤ 4) (h : ∀ x ∈ l,a ≤ x ∧ x ≤ b) : a ≤ midv l ∧ midv l ≤ b := by
 have q := mid_in hk h1 h4
 have m1 := h _ ((srt_perm l).mem_iff.1 (show (srt l).getD 0 0 ∈ srt l by rw [getD_at _ _ (by rw [srt_len]; exact h1)]; exact List.getElem_mem _))
 have m2 := h _ ((srt_perm l).mem_iff.1 (show (srt l).getD (l.length - 1) 0 ∈ srt l by rw [getD_at _ _ (by rw [srt_len]; omega)]; exact List.getElem_mem _))
 omega
theorem others_mid {l : List Int} (h : fit l = true) {k : Nat} (hk : k < l.length) : -4294967296 ≤ midv (without l (k : Int)) ∧ midv (without l (k : Int)) ≤ 4294967296 := by
 have q := (fit_iff l).1 h
 have e := others_len (fit_ok h) hk
 refine mid_bd (others_ok (fit_ok h) _) (by omega) (by omega) fun x hx => (fr_iff x).1 (List.all_eq_true.1 q.2.2 x (others_sub hx))
theorem resTo_snoc (l : List Int) (k : Nat) : resTo l (k + 1) = resTo l k ++ [resAt l k] := by unfold resTo; rw [List.range_succ,List.map_append]; rfl
theorem resTo_len (l : List Int) (k : Nat) : (resTo l k).length = k := by unfold resTo; simp
theorem resTo_get (l : List Int) {k j : Nat} (h : j < k) : (resTo l k).getD j 0 = resAt l j := by unfold resTo; simp [List.getD_eq_getElem?_getD,h]
theorem res_yes {l : List Int} (h : fit l = true) : res l = resTo l l.length := if_pos h
theorem res_no {l : List Int} (h : fit l = false) : res l = [] := by unfold res; rw [h]; rfl
theorem res_le (l : List Int) : (res l).length ≤ 4 := by
 cases h : fit l
 · rw [res_no h]; simp
 · rw [res_yes h,resTo_len]; have := (fit_iff l).1 h; omega
theorem res_bd (l : List Int) {k : Nat} (hk : k < (res l).length) : -8589934592 ≤ (res l).getD k 0 ∧ (res l).getD k 0 ≤ 8589934592 := by
 cases h : fit l
 · rw [res_no h] at hk; simp at hk
 · rw [res_yes h] at hk ⊢
   rw [resTo_len] at hk
   rw [resTo_get l hk]
   have a := all_fr ((fit_iff l).1 h).2.2 hk
   have b := others_mid h hk
   unfold resAt; omega
def fill (l : List Int) (k : Nat) : List Int := resTo l k ++ List.replicate (l.length - k) 0
theorem fill_len {l : List Int} {k : Nat} (h : k ≤ l.length) : (fill l k).length = l.length := by unfold fill; rw [List.length_append,resTo_len,List.length_replicate]; omega
theorem fill_zero (l : List Int) : fill l 0 = List.replicate l.length 0 := by unfold fill resTo; simp
theorem fill_all (l : List Int) : fill l l.length = resTo l l.length := by unfold fill; simp
theorem fill_set {l : List Int} {k : Nat} (h : k < l.length) : (fill l k).set k (resAt l k) = fill l (k + 1) := by
 unfold fill
 rw [resTo_snoc,List.set_append,if_neg (by rw [resTo_len]; omega),resTo_len,Nat.sub_self,show l.length - k = (l.length - (k + 1)) + 1 by omega,List.replicate_succ,List.set_cons_zero,List.append_assoc,List.singleton_append]
theorem offs_mono (b : Int) (r : List Int) (k j : Nat) (h : k ≤ j) : offs b r k ≤ offs b r j := by
 induction j with
 | zero => rw [show k = 0 by omega]; exact Nat.le_refl _
 | succ j ih =>
   by_cases e : k = j + 1
   · rw [e]; exact Nat.le_refl _
   · have := ih (by omega); rw [offs]; omega
theorem last_none {b : Int} {r : List Int} {k : Nat} (h : offs b r k = 0) : last b r k = -1 := by
 induction k with
 | zero => rfl
 | succ k ih =>
   rw [offs] at h
   cases hb : off b (r.getD k 0)
   · rw [last,hb]; rw [hb] at h; exact ih h
   · rw [hb] at h; simp at h
theorem last_some {b : Int} {r : List Int} {k : Nat} (h : 1 ≤ offs b r k) : 0 ≤ last b r k ∧ last b r k < (k : Int) := by
 induction k with
 | zero => rw [offs] at h; omega
 | succ k ih =>
   rw [offs] at h
   cases hb : off b (r.getD k 0)
   · rw [last,hb]; rw [hb] at h; have := ih (by simpa using h); simp; omega
   · rw [last,hb]; simp; omega
theorem susOf_two {b : Int} {r : List Int} {k : Nat} (hk : k ≤ r.length) (h : 2 ≤ offs b r k) : susOf b r = -1 := by
 have := offs_mono b r k r.length hk
 unfold susOf; rw [if_neg (by omega)]
theorem susOf_last {b : Int} {r : List Int} (h : offs b r r.length ≤ 1) : susOf b r = last b r r.length := by
 unfold susOf
 split
 · rfl
 · rw [last_none (by omega)]
theorem last_bd (b : Int) (r : List Int) (k : Nat) : -1 ≤ last b r k ∧ last b r k < k := by
 by_cases h : 1 ≤ offs b r k
 · have := last_some h; omega
 · rw [last_none (by omega)]; omega
theorem off_apart {b x : Int} (hx : -8589934592 ≤ x ∧ x ≤ 8589934592) : decide (apart x 0 ≤ b) = !off b x := by
 unfold apart off
 rw [if_pos ⟨(sm_iff x).2 (by omega),rfl⟩,← decide_not]
 refine decide_eq_decide.2 ?_
 split <;> omega
theorem offs_yes {b : Int} {r : List Int} {k : Nat} (h : off b (r.getD k 0) = true) : offs b r (k + 1) = offs b r k + 1 := by rw [offs,h]; rfl
theorem offs_no {b : Int} {r : List Int} {k : Nat} (h : off b (r.getD k 0) = false) : offs b r (k + 1) = offs b r k := by rw [offs,h]; rfl
theorem last_yes {b : Int} {r : List Int} {k : Nat} (h : off b (r.getD k 0) = true) : last b r (k + 1) = (k : Int) := by rw [last,if_pos h]
theorem last_no {b : Int} {r : List Int} {k : Nat} (h : off b (r.getD k 0) = false) : last b r (k + 1) = last b r k := by rw [last,h]; rfl
end Pa
open Go.ChangeShapes Go.WideShapes Go.ChangeAt Go.RowKit Go.Deep
namespace Lc
def inb (n lo hi : Int) : Bool := decide (lo ≤ n) && decide (n ≤ hi)
theorem inb_iff {n lo hi : Int} : inb n lo hi = true ↔ lo ≤ n ∧ n ≤ hi := by unfold inb; simp
def rgt (L C B : Int) : Bool := inb L 1 100 && inb C 1 1000 && inb B 0 10
structure Rt (L C B : Int) : Prop where
 l1 : 1 ≤ L
 l2 : L ≤ 100
 c1 : 1 ≤ C
 c2 : C ≤ 1000
 b1 : 0 ≤ B
 b2 : B ≤ 10
theorem rgt_iff {L C B : Int} : rgt L C B = true ↔ Rt L C B := by
 unfold rgt
 rw [Bool.and_eq_true,Bool.and_eq_true,inb_iff,inb_iff,inb_iff]
 exact ⟨fun h => ⟨h.1.1.1,h.1.1.2,h.1.2.1,h.1.2.2,h.2.1,h.2.2⟩,fun h => ⟨⟨⟨h.l1,h.l2⟩,h.c1,h.c2⟩,h.b1,h.b2⟩⟩
structure St where
 la : Bool
 ou : Bool
 st : Int
 cl : Int
 bk : Int
def zer : St := ⟨false,false,0,0,0⟩
def fin (L C B : Int) (s : St) : Bool :=
 if s.ou then s.la && s.st == L && s.cl == 0 && s.bk == B
 else if s.la then s.st == L && inb s.cl 0 (C - 1) && inb s.bk 0 (B - 1)
 else inb s.st 0 (L - 1) && s.cl == 0 && inb s.bk 0 B
def fne (L C B : Int) (s : St) : Bool := rgt L C B && fin L C B s
theorem fne_right {L C B : Int} {s : St} (h : fne L C B s = true) : Rt L C B ∧ fin L C B s = true := by
 unfold fne at h; rw [Bool.and_eq_true] at h; exact ⟨rgt_iff.1 h.1,h.2⟩
def ste (L C B : Int) (s : St) (t : Bool) : St :=
 if s.ou then s
 else if s.la then (if t then { s with cl := 0 } else if s.cl + 1 < C then { s with cl := s.cl + 1 } else ⟨false,false,0,0,s.bk + 1⟩)
 else if t then (if s.st + 1 < L then { s with st := s.st + 1 } else if s.bk < B then { s with st := s.st + 1,la := true } else { s with st := s.st + 1,la := true,ou := true })
 else ⟨false,false,0,0,s.bk⟩
def wha (L C B : Int) (s : St) (t : Bool) : Int :=
 if s.ou then 0
 else if s.la then (if t then 0 else if s.cl + 1 < C then 0 else 2)
 else if t then (if s.st + 1 < L then 0 else if s.bk < B then 1 else 3)
 else 0
inductive Fin (L C B : Int) : St → Prop
 | out : Fin L C B ⟨true,true,L,0,B⟩
 | latched {c b : Int} (hc : 0 ≤ c ∧ c < C) (hb : 0 ≤ b ∧ b < B) : Fin L C B ⟨true,false,L,c,b⟩
 | in {s b : Int} (hs : 0 ≤ s ∧ s < L) (hb : 0 ≤ b ∧ b ≤ B) : Fin L C B ⟨false,false,s,0,b⟩
theorem fin_iff {L C B : Int} {s : St} : fin L C B s = true ↔ Fin L C B s := by
 obtain ⟨la,ou,st,cl,bk⟩ := s
 constructor
 · intro h
   cases ou <;> cases la <;> simp [fin,inb] at h
   · obtain ⟨⟨⟨h1,h2⟩,rfl⟩,h3,h4⟩ := h
     exact .in (by omega) (by omega)
   · obtain ⟨⟨rfl,h1,h2⟩,h3,h4⟩ := h
     exact .latched (by omega) (by omega)
   · obtain ⟨⟨rfl,rfl⟩,rfl⟩ := h
     exact .out
 · intro h
   cases h with
   | out => simp [fin]
   | latched hc hb => simp [fin,inb]; omega
   | «in» hs hb => simp [fin,inb]; omega
theorem fin_zer {L C B : Int} (h : Rt L C B) : Fin L C B zer := .in ⟨Int.le_refl _,by have := h.l1; omega⟩ ⟨Int.le_refl _,h.b1⟩
theorem fin_ste {L C B : Int} (h : Rt L C B) {s : St} (hf : Fin L C B s) (t : Bool) : Fin L C B (ste L C B s t) := by
 have hl := h.l1
 have hc := h.c1
 cases hf with
 | out => exact .out
 | @latched c b hc' hb =>
   cases t
   · by_cases q : c + 1 < C
     · simp only [ste,Bool.false_eq_true,if_false,if_true,q]; exact .latched (by omega) hb
     · simp only [ste,Bool.false_eq_true,if_false,if_true,q]; exact .in (by omega) (by omega)
   · exact .latched (by omega) hb
 | @«in» s b hs hb =>
   cases t
   · exact .in (by omega) hb
   · by_cases q : s + 1 < L
     · simp only [ste,Bool.false_eq_true,if_false,if_true,q]; exact .in (by omega) hb
     · have e : s + 1 = L := by omega
       by_cases p : b < B
       · simp only [ste,Bool.false_eq_true,if_false,if_true,p,e,Int.lt_irrefl]; exact .latched (by omega) (by omega)
       · have e' : b = B := by omega
         simp only [ste,Bool.false_eq_true,if_false,if_true,e',e,Int.lt_irrefl]; exact .out
end Lc
namespace Cf
def G (c : List Int) (j : Nat) : Int := c.getD j 0
def CA (c : List Int) : Array Value := (cellsI .i64 c).toArray
theorem CA_size (c : List Int) : (CA c).size = c.length := by simp [CA,cellsI]
theorem CA_one (c : List Int) : (CA c).all (·.oneCell') = true := by
 simp only [CA,Array.all_eq_true_iff_forall_mem]
 intro v hv
 exact cellsI_one .i64 c v (by simpa using hv)
structure Row where
 name : ByteArray
 lo : Int
 hi : Int
 nums : List Int
def noRow : Row := ⟨⟨#[]⟩,0,0,[]⟩
def ok (r : Row) (x : Int) : Bool := decide (r.lo ≤ x) && decide (x ≤ r.hi)
def fine (r : Row) : Bool := r.nums.all (ok r)
def first : List Row → ByteArray
 | [] => ⟨#[]⟩
 | r :: rs => if fine r = true then first rs else r.name
def own (c : List Int) : List Int := if G c 0 = 4 then [G c 17,G c 18,G c 19,G c 20] else [G c 17,G c 18,G c 19]
def others (c : List Int) : List Int := if G c 0 = 4 then [] else [G c 20]
def rows (c : List Int) : List Row :=
 [⟨⟨#[78]⟩,3,4,[G c 0]⟩,⟨⟨#[76,111]⟩,-2147483648,2147483647,[G c 1]⟩,⟨⟨#[72,105]⟩,G c 1,2147483647,[G c 2]⟩,⟨⟨#[83,97,102,101]⟩,G c 1,G c 2,[G c 3]⟩,
  ⟨⟨#[83,116,101,112]⟩,0,2147483647,[G c 4]⟩,⟨⟨#[83,116,117,99,107]⟩,0,2147483647,[G c 5]⟩,⟨⟨#[87,105,110,100,111,119]⟩,2,16,[G c 6]⟩,
  ⟨⟨#[68,114,105,102,116]⟩,0,2147483647,[G c 7]⟩,⟨⟨#[76,97,103]⟩,0,8,[G c 8]⟩,⟨⟨#[77,105,115]⟩,0,2147483647,[G c 9]⟩,⟨⟨#[65,117,116,104]⟩,0,2147483647,[G c 10]⟩,
  ⟨⟨#[71,97,105,110]⟩,0,8,[G c 11]⟩,⟨⟨#[67,108,105,112]⟩,0,2147483647,[G c 12]⟩,⟨⟨#[76,97,116,99,104]⟩,1,100,[G c 13]⟩,⟨⟨#[67,108,101,97,110]⟩,1,1000,[G c 14]⟩,
  ⟨⟨#[66,117,100,103,101,116]⟩,0,10,[G c 15]⟩,⟨⟨#[76,105,109,105,116]⟩,1,8,[G c 16]⟩,⟨⟨#[87,101,105,103,104,116,115]⟩,1,16,own c⟩,⟨⟨#[87,101,105,103,104,116,115]⟩,0,0,others c⟩]
def fault (c : List Int) : ByteArray := first (rows c)
theorem first_drop (l : List Row) (k : Nat) (h : k < l.length) : first (l.drop k) = if fine (l.getD k noRow) = true then first (l.drop (k + 1)) else (l.getD k noRow).name := by
 rw [List.drop_eq_getElem_cons h,first]
 simp [List.getD_eq_getElem?_getD,h]
def Right (c : List Int) : Prop :=
 (3 ≤ G c 0 ∧ G c 0 ≤ 4) ∧ (-2147483648 ≤ G c 1 ∧ G c 1 ≤ 2147483647) ∧ (G c 1 ≤ G c 2 ∧ G c 2 ≤ 2147483647) ∧ (G c 1 ≤ G c 3 ∧ G c 3 ≤ G c 2) ∧ (0 ≤ G c 4 ∧ G c 4 ≤ 2147483647) ∧ (0 ≤ G c 5 ∧ G c 5 ≤ 2147483647) ∧
 (2 ≤ G c 6 ∧ G c 6 ≤ 16) ∧ (0 ≤ G c 7 ∧ G c 7 ≤ 2147483647) ∧ (0 ≤ G c 8 ∧ G c 8 ≤ 8) ∧ (0 ≤ G c 9 ∧ G c 9 ≤ 2147483647) ∧ (0 ≤ G c 10 ∧ G c 10 ≤ 2147483647) ∧ (0 ≤ G c 11 ∧ G c 11 ≤ 8) ∧ (0 ≤ G c 12 ∧ G c 12 ≤ 2147483647) ∧
 (1 ≤ G c 13 ∧ G c 13 ≤ 100) ∧ (1 ≤ G c 14 ∧ G c 14 ≤ 1000) ∧ (0 ≤ G c 15 ∧ G c 15 ≤ 10) ∧ (1 ≤ G c 16 ∧ G c 16 ≤ 8) ∧ (own c).all (fun x => decide (1 ≤ x) && decide (x ≤ 16)) = true ∧ (others c).all (fun x => decide (0 ≤ x) && decide (x ≤ 0)) = true
instance (c : List Int) : Decidable (Right c) := by unfold Right; infer_instance
theorem first_none : ∀ l : List Row,(∀ r ∈ l,r.name ≠ ⟨#[]⟩) → (first l = ⟨#[]⟩ ↔ l.all fine = true)
 | [],_ => by simp [first]
 | r :: rs,h => by
   have ih := first_none rs (fun x hx => h x (by simp [hx]))
   have h0 := h r (by simp)
   rw [first,List.all_cons,Bool.and_eq_true]
   split
   · rename_i hf; simp [hf,ih]
   · rename_i hf; simp [hf,h0]
theorem fault_none (c : List Int) : fault c = ⟨#[]⟩ ↔ Right c := by
 unfold fault
 rw [first_none _ (by
  intro r hr
  simp only [rows,List.mem_cons,List.not_mem_nil,or_false] at hr
  rcases hr with rfl | rfl | rfl | rfl | rfl | rfl | rfl | rfl | rfl | rfl | rfl | rfl | rfl | rfl | rfl | rfl | rfl | rfl | rfl <;> (intro h; injection h with h; simp at h))]
 simp only [rows,fine,ok,List.all_cons,List.all_nil,Bool.and_true,Bool.and_eq_true,decide_eq_true_eq,Right]
 exact Iff.rfl
def rt (c : List Int) : Bool := decide (Right c)
theorem beq_bytes (a b : ByteArray) : (a == b) = decide (a = b) := by
 rw [beq_toListBytes,Bool.eq_iff_iff,beq_iff_eq,decide_eq_true_eq,ByteArray.toList_eq,ByteArray.toList_eq,Array.toList_inj,ByteArray.ext_iff]
theorem rt_fault (c : List Int) : (fault c == ⟨#[]⟩) = rt c := by
 rw [beq_bytes]; unfold rt; rw [decide_eq_decide]; exact fault_none c
def room (c : List Int) (r : Int) : Int :=
 if Right c ∧ 0 ≤ r ∧ r ≤ 1073741824 then max (-1) (min 1073741824 (min ((G c 9 - 2 * G c 10 - G c 12) / 2) (min ((G c 4 - r) / 2) (min (G c 7 / 2) (min ((G c 5 - 2 * G c 10 - 2 * G c 12) / 4) ((G c 2 - G c 1) / 2)))))) else -1
end Cf
namespace Sg
open Cf (G)
structure Rw where
 is : Bool
 n : Int
def rw0 : Rw := ⟨false,0⟩
structure Ch where
 last : Int
 has : Bool
 k : Nat
 lev : Int
 off : Int
 st : Lc.St
def ch0 : Ch := ⟨0,false,0,0,0,Lc.zer⟩
structure Si where
 val : Int
 votes : List Int
 ch : Nat → Ch
def begin (c : List Int) : Si := ⟨G c 3,[],fun _ => ch0⟩
def NN (c : List Int) : Nat := (G c 0).toNat
def PW (c : List Int) : Nat := (G c 6).toNat - 1
section
variable (c : List Int) (s : Si) (r : Nat → Rw) (sh : Int)
def kq (x : Ch) (n : Int) : Nat := if n = x.last then x.k + 1 else 1
def outr (n : Int) : Bool := Jp.out (G c 1) (G c 2) n
def spk (x : Ch) (n : Int) : Bool := Jp.far (G c 4) x.last x.has n
def frz (x : Ch) (n : Int) : Bool := decide (PW c + 1 ≤ kq x n) && Sk.moved (PW c) (G c 5) (Sk.lastN (PW c) s.votes)
def ahd (i : Nat) : Int := if (r i).is = true then Jp.trips (G c 1) (G c 2) (G c 4) (s.ch i).last (s.ch i).has (r i).n + (if frz c s (s.ch i) (r i).n = true then 8 else 0) else 1
def isin (i : Nat) : Bool := (r i).is && !outr c (r i).n && !spk c (s.ch i) (r i).n && !Fx.has sh i && !(s.ch i).st.la
def inl : List Nat := (List.range (NN c)).filter fun i => isin c s r sh i
def own : List Int := (inl c s r sh).map fun i => (r i).n
def evs : List Int := (inl c s r sh).map fun i => (r i).n - (s.ch i).off
def wts : List Int := (inl c s r sh).map fun i => G c (17 + i)
def any : Bool := !(inl c s r sh).isEmpty
def lev (i : Nat) : Int := if ((r i).is && any c s r sh) = true then Dr.nx (G c 8) (s.ch i).lev ((r i).n - Od.midv (own c s r sh)) else (s.ch i).lev
def drf (i : Nat) : Bool := (r i).is && any c s r sh && Dr.ov (G c 7) (lev c s r sh i)
def val : Int := if Vo.votb (G c 1) (G c 2) (G c 12) (evs c s r sh) (wts c s r sh) = true then Vo.votv (G c 1) (G c 2) (G c 12) (evs c s r sh) (wts c s r sh) else s.val
def mis (i : Nat) : Bool := (r i).is && (decide (G c 9 < (r i).n - (s.ch i).off - val c s r sh) || decide (G c 9 < val c s r sh - ((r i).n - (s.ch i).off)))
def trp (i : Nat) : Int := ahd c s r i + (if drf c s r sh i = true then 16 else 0) + (if mis c s r sh i = true then 32 else 0)
def sus : Int := if Pa.sus (evs c s r sh) (G c 9) < 0 then -1 else ((inl c s r sh).getD (Pa.sus (evs c s r sh) (G c 9)).toNat 0 : Nat)
def off (i : Nat) : Int := if (r i).is = true then Ql.nx (G c 10) (G c 11) (s.ch i).off (r i).n (val c s r sh) else (s.ch i).off
def tr (i : Nat) : Bool := trp c s r sh i != 0
def lat (i : Nat) : Lc.St := Lc.ste (G c 13) (G c 14) (G c 15) (s.ch i).st (tr c s r sh i)
def wha (i : Nat) : Int := Lc.wha (G c 13) (G c 14) (G c 15) (s.ch i).st (tr c s r sh i)
def nxt : Si := ⟨val c s r sh,s.votes ++ [val c s r sh],fun i =>
 ⟨if (r i).is = true then (r i).n else 0,(r i).is,if (r i).is = true then kq (s.ch i) (r i).n else 0,lev c s r sh i,off c s r sh i,lat c s r sh i⟩⟩
end
structure Okc (c : List Int) (x : Ch) : Prop where
 last : -2147483648 ≤ x.last ∧ x.last ≤ 2147483647
 lev : -4294967296 ≤ x.lev ∧ x.lev ≤ 4294967296
 off : -(G c 10) ≤ x.off ∧ x.off ≤ G c 10
 st : Lc.Fin (G c 13) (G c 14) (G c 15) x.st
structure Ok (c : List Int) (s : Si) : Prop where
 val : G c 1 ≤ s.val ∧ s.val ≤ G c 2
 votes : ∀ v ∈ s.votes,G c 1 ≤ v ∧ v ≤ G c 2
 ch : ∀ i,i < NN c → Okc c (s.ch i)
def Rok (c : List Int) (r : Nat → Rw) : Prop := ∀ i,i < NN c → (r i).is = true → -2147483648 ≤ (r i).n ∧ (r i).n ≤ 2147483647
theorem right_latch {c : List Int} (h : Cf.Right c) : Lc.Rt (G c 13) (G c 14) (G c 15) := by
 obtain ⟨-,-,-,-,-,-,-,-,-,-,-,-,-,h1,h2,h3,-⟩ := h
 exact ⟨h1.1,h1.2,h2.1,h2.2,h3.1,h3.2⟩
theorem ok_begin {c : List Int} (h : Cf.Right c) : Ok c (begin c) := by
 have hl := right_latch h
 obtain ⟨-,-,-,h3,-,-,-,-,-,-,h10,-⟩ := h
 exact ⟨h3,fun v hv => by (cases hv),fun i _ => ⟨by simp [begin,ch0],by simp [begin,ch0],by simp [begin,ch0]; omega,Lc.fin_zer hl⟩⟩
section
variable {c : List Int} {s : Si} {r : Nat → Rw} {sh : Int}
theorem NN_34 (h : Cf.Right c) : NN c = 3 ∨ NN c = 4 := by
 obtain ⟨⟨h0,h1⟩,-⟩ := h
 unfold NN; omega
theorem NN_eq (h : Cf.Right c) : ((NN c : Nat) : Int) = G c 0 := by
 obtain ⟨⟨h0,h1⟩,-⟩ := h
 unfold NN; omega
theorem inl_iff {i : Nat} : i ∈ inl c s r sh ↔ i < NN c ∧ isin c s r sh i = true := by unfold inl; simp
theorem inl_len (h : Cf.Right c) : (inl c s r sh).length ≤ 4 := by
 unfold inl
 have h1 := List.length_filter_le (fun i => isin c s r sh i) (List.range (NN c))
 have := NN_34 h
 rw [List.length_range] at h1
 omega
theorem isin_iff {i : Nat} : isin c s r sh i = true ↔ (r i).is = true ∧ outr c (r i).n = false ∧ spk c (s.ch i) (r i).n = false ∧ Fx.has sh i = false ∧ (s.ch i).st.la = false := by
 unfold isin; simp [and_assoc]
theorem out_no {n : Int} (h : outr c n = false) : G c 1 ≤ n ∧ n ≤ G c 2 := by
 unfold outr Jp.out at h; simp at h; omega
theorem map_getD {f : Nat → Int} {l : List Nat} {k : Nat} (h : k < l.length) : (l.map f).getD k 0 = f (l.getD k 0) := by
 simp [List.getD_eq_getElem?_getD,h]
theorem getD_mem {l : List Nat} {k : Nat} (h : k < l.length) : l.getD k 0 ∈ l := by
 rw [List.getD_eq_getElem?_getD,List.getElem?_eq_getElem h]; simp
theorem in_nums (hR : Cf.Right c) (hr : Rok c r) (hO : Ok c s) {i : Nat} (hi : i ∈ inl c s r sh) :
 (G c 1 ≤ (r i).n ∧ (r i).n ≤ G c 2) ∧ (-2147483648 ≤ (r i).n ∧ (r i).n ≤ 2147483647) ∧ ((r i).n - G c 10 ≤ (r i).n - (s.ch i).off ∧ (r i).n - (s.ch i).off ≤ (r i).n + G c 10) ∧ -4294967296 ≤ (r i).n - (s.ch i).off ∧ (r i).n - (s.ch i).off ≤ 4294967296 := by
 obtain ⟨h1,h2⟩ := inl_iff.1 hi
 obtain ⟨k1,k2,-⟩ := isin_iff.1 h2
 have h3 := out_no k2
 have h4 := (hO.ch i h1).off
 have h5 := hr i h1 k1
 obtain ⟨-,-,-,-,-,-,-,-,-,-,h10,-⟩ := hR
 refine ⟨h3,h5,?_,?_⟩ <;> omega
theorem any_iff : any c s r sh = true ↔ inl c s r sh ≠ [] := by unfold any; simp
theorem own_ok (hR : Cf.Right c) (hr : Rok c r) (hO : Ok c s) : Od.ok (own c s r sh) = true := by
 refine Vo.ok_of (by have := inl_len (s := s) (r := r) (sh := sh) hR; unfold own; rw [List.length_map]; omega) fun k hk => ?_
 unfold own at hk ⊢
 rw [List.length_map] at hk
 rw [map_getD hk]
 have := (in_nums hR hr hO (getD_mem hk)).2.1
 omega
theorem val_in (hO : Ok c s) : G c 1 ≤ val c s r sh ∧ val c s r sh ≤ G c 2 := by
 unfold val
 split
 · rename_i h; exact Vo.vote_in h
 · exact hO.val
theorem ok_nxt (hR : Cf.Right c) (hr : Rok c r) (hO : Ok c s) : Ok c (nxt c s r sh) := by
 have hv := val_in (r := r) (sh := sh) hO
 have hl := right_latch hR
 refine ⟨hv,fun v h => ?_,fun i hi => ?_⟩
 · rcases List.mem_append.1 h with q | q
   · exact hO.votes v q
   · rw [List.mem_singleton.1 q]; exact hv
 · have o := hO.ch i hi
   refine ⟨?_,?_,?_,Lc.fin_ste hl o.st _⟩
   · show _ ∧ _
     simp only [nxt]
     split
     · rename_i h; exact hr i hi h
     · omega
   · simp only [nxt,lev]
     obtain ⟨-,-,-,-,-,-,-,-,h8,-⟩ := hR
     split
     · exact Dr.nx_level o.lev h8.1 h8.2
     · exact o.lev
   · simp only [nxt,off]
     obtain ⟨-,-,-,-,-,-,-,-,-,-,h10,-⟩ := hR
     split
     · exact Ql.nx_bd _ _ _ h10.1 o.off
     · exact o.off
end
end Sg
end Go.Proofs.YticidhbnljdidaaGreatDoor
