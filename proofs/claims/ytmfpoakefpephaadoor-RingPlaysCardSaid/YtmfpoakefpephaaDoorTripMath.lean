/-
  Trips as texts, in numbers and lists: names, texts, what a text's pieces come to, what is in a mask. Nothing of a program here. No conditions.
-/
import Derived.Test.YtmfpoakefpephaaDoorFixMath
import Derived.Lib.Join
import Derived.Lib.Bytealg
namespace Go.Proofs.YtmfpoakefpephaaDoor
namespace Tp
open Fx

/-- The names, in their order. -/
def nms : List (List UInt8) := [[102, 114, 97, 109, 101], [114, 97, 110, 103, 101], [115, 112, 105, 107, 101], [115, 116, 117, 99, 107], [100, 114, 105, 102, 116], [109, 105, 115]]
def nm (i : Nat) : List UInt8 := nms.getD i []
def bitOf (m i : Nat) : Bool := m / 2 ^ i % 2 == 1
/-- The names of the first k trips that are in a mask. -/
def parts (m k : Nat) : List (List UInt8) := ((List.range k).filter (bitOf m)).map nm
def tx (m : Nat) : List UInt8 := if m = 0 then [45] else Lib.join (parts m 6) [43]
/-- The text of a number. -/
def txt (m : Int) : List UInt8 := if 0 ≤ m ∧ m ≤ 63 then tx m.toNat else []
def inn (m b : Int) : Bool := decide (0 ≤ m ∧ m ≤ 63) && (List.range 6).any fun i => b == 2 ^ i && bitOf m.toNat i
def msk (l : List Bool) : Int := if l.length ≤ 6 then (bitsN l : Int) else 0
/-- The mask whose text it is. -/
def rprs (s : List UInt8) : Option Nat := (List.range 64).find? fun m => decide (tx m = s)
def num : Option Nat → Int
  | some m => m
  | none => 0
def err : Option Nat → Int
  | some _ => 0
  | none => 3

/-! Pieces. -/
/-- What lies between the '+'. -/
def pcs : List UInt8 → List (List UInt8)
  | [] => [[]]
  | b :: t => if b = 43 then [] :: pcs t else match pcs t with
    | p :: r => (b :: p) :: r
    | [] => [[b]]
theorem pcs_cons (b : UInt8) (t : List UInt8) : pcs (b :: t) = if b = 43 then [] :: pcs t else match pcs t with | p :: r => (b :: p) :: r | [] => [[b]] := rfl
theorem pcs_ne (s : List UInt8) : pcs s ≠ [] := by
  cases s with
  | nil => simp [pcs]
  | cons b t => unfold pcs; split; · simp
                split <;> simp
theorem pcs_none : ∀ s : List UInt8, Lib.indexByte s 43 = -1 → pcs s = [s]
  | [], _ => rfl
  | b :: t, h => by
    unfold Lib.indexByte at h
    by_cases hb : b = 43
    · subst hb; simp at h
    · have h0 : (b == 43) = false := by simpa using hb
      rw [h0] at h
      by_cases ht : Lib.indexByte t 43 = -1
      · unfold pcs; rw [if_neg hb, pcs_none t ht]
      · have h1 : (Lib.indexByte t 43 == -1) = false := by simpa using ht
        rw [h1] at h
        have := Lib.indexByte_ge t 43
        simp at h; omega
theorem pcs_some : ∀ (s : List UInt8) (m : Nat), Lib.indexByte s 43 = m → m < s.length ∧ pcs s = s.take m :: pcs (s.drop (m + 1))
  | [], m, h => by unfold Lib.indexByte at h; omega
  | b :: t, m, h => by
    unfold Lib.indexByte at h
    by_cases hb : b = 43
    · subst hb
      simp at h
      obtain rfl : m = 0 := by omega
      exact ⟨by simp, by simp [pcs]⟩
    · have h0 : (b == 43) = false := by simpa using hb
      rw [h0] at h
      by_cases ht : Lib.indexByte t 43 = -1
      · have h1 : (Lib.indexByte t 43 == -1) = true := by simpa using ht
        rw [h1] at h
        simp at h
      · have h1 : (Lib.indexByte t 43 == -1) = false := by simpa using ht
        rw [h1] at h
        have h2 : Lib.indexByte t 43 = ((m - 1 : Nat) : Int) := by
          have := Lib.indexByte_ge t 43
          simp at h; omega
        have hm : 1 ≤ m := by
          have := Lib.indexByte_ge t 43
          simp at h; omega
        obtain ⟨k1, k2⟩ := pcs_some t (m - 1) h2
        refine ⟨by rw [List.length_cons]; omega, ?_⟩
        obtain ⟨q, rfl⟩ : ∃ q, m = q + 1 := ⟨m - 1, by omega⟩
        simp only [Nat.add_sub_cancel] at k2
        rw [pcs_cons, if_neg hb, k2]
        rfl
theorem join_pcs : ∀ s : List UInt8, Lib.join (pcs s) [43] = s
  | [] => rfl
  | b :: t => by
    have ih := join_pcs t
    have hn := pcs_ne t
    unfold pcs
    generalize pcs t = l at *
    by_cases hb : b = 43
    · subst hb
      rw [if_pos rfl]
      cases l with
      | nil => exact absurd rfl hn
      | cons p r => simp [Lib.join, List.intercalate, List.intersperse] at ih ⊢; exact ih
    · rw [if_neg hb]
      cases l with
      | nil => exact absurd rfl hn
      | cons p r =>
        cases r with
        | nil => simp [Lib.join, List.intercalate, List.intersperse] at ih ⊢; exact ih
        | cons q r => simp [Lib.join, List.intercalate, List.intersperse] at ih ⊢; exact ih

/-! What the pieces come to. -/
/-- The first name from i on that a piece is. -/
def fnd (p : List UInt8) (i : Nat) : Option Nat := (List.range 6).find? fun j => decide (i ≤ j) && decide (nm j = p)
def stp : Option (Nat × Nat) → List UInt8 → Option (Nat × Nat)
  | none, _ => none
  | some (m, i), p => match fnd p i with
    | some j => some (m + 2 ^ j, j + 1)
    | none => none
def run (l : List (List UInt8)) : Option (Nat × Nat) := l.foldl stp (some (0, 0))
theorem run_snoc (l : List (List UInt8)) (p : List UInt8) : run (l ++ [p]) = stp (run l) p := by simp [run]
theorem stp_none (l : List (List UInt8)) : l.foldl stp none = none := by
  induction l with
  | nil => rfl
  | cons a t ih => exact ih
theorem run_dead {l r : List (List UInt8)} (h : run l = none) : run (l ++ r) = none := by
  unfold run at *; rw [List.foldl_append, h, stp_none]
def prs (s : List UInt8) : Option Nat := if s = [45] then some 0 else (run (pcs s)).map (·.1)

theorem fnd_some {p : List UInt8} {i j : Nat} (hi : i ≤ j) (hj : j < 6) (hp : nm j = p) (hn : ∀ k, i ≤ k → k < j → nm k ≠ p) : fnd p i = some j := by
  unfold fnd
  rw [List.find?_eq_some_iff_append]
  refine ⟨by simp [hi, hp], List.range j, List.range' (j + 1) (5 - j), ?_, ?_⟩
  · have : j ∈ [0, 1, 2, 3, 4, 5] := by simp; omega
    simp only [List.mem_cons, List.mem_nil_iff, or_false] at this
    rcases this with rfl | rfl | rfl | rfl | rfl | rfl <;> rfl
  · intro k hk
    have hk' : k < j := by simpa using hk
    by_cases h1 : i ≤ k
    · simp [h1, hn k h1 hk']
    · simp [h1]
theorem fnd_none {p : List UInt8} {i : Nat} (hn : ∀ k, i ≤ k → k < 6 → nm k ≠ p) : fnd p i = none := by
  unfold fnd
  rw [List.find?_eq_none]
  intro k hk
  have hk' : k < 6 := by simpa using hk
  by_cases h1 : i ≤ k
  · simp [h1, hn k h1 hk']
  · simp [h1]
theorem fnd_in {p : List UInt8} {i j : Nat} (h : fnd p i = some j) : i ≤ j ∧ j < 6 ∧ nm j = p := by
  unfold fnd at h
  have h1 := List.find?_some h
  have h2 := List.mem_of_find?_eq_some h
  simp at h1 h2
  exact ⟨h1.1, h2, h1.2⟩

theorem tab_parts : ((List.range 6).all fun j => (List.range (2 ^ j)).all fun m => decide (m + 2 ^ j < 2 ^ (j + 1)) && decide (parts (m + 2 ^ j) 6 = parts m 6 ++ [nm j])) = true := by decide +kernel
theorem parts_next {m j : Nat} (hj : j < 6) (hm : m < 2 ^ j) : m + 2 ^ j < 2 ^ (j + 1) ∧ parts (m + 2 ^ j) 6 = parts m 6 ++ [nm j] := by
  have h1 := List.all_eq_true.1 tab_parts j (List.mem_range.2 hj)
  have h2 := List.all_eq_true.1 h1 m (List.mem_range.2 hm)
  simpa using h2
theorem two_mono {i j : Nat} (h : i ≤ j) : 2 ^ i ≤ 2 ^ j := Nat.pow_le_pow_right (by decide) h
/-- What has been read so far. -/
theorem run_inv : ∀ (l r : List (List UInt8)) (m i : Nat), i ≤ 6 → m < 2 ^ i → parts m 6 = r → ∀ M I, l.foldl stp (some (m, i)) = some (M, I) → I ≤ 6 ∧ M < 2 ^ I ∧ parts M 6 = r ++ l
  | [], r, m, i, hi, hm, hp, M, I, h => by cases h; exact ⟨hi, hm, by simp [hp]⟩
  | p :: l, r, m, i, hi, hm, hp, M, I, h => by
    rw [List.foldl_cons] at h
    cases hf : fnd p i with
    | none =>
      have : stp (some (m, i)) p = none := by simp [stp, hf]
      rw [this, stp_none] at h; cases h
    | some j =>
      have he : stp (some (m, i)) p = some (m + 2 ^ j, j + 1) := by simp [stp, hf]
      rw [he] at h
      obtain ⟨f1, f2, f3⟩ := fnd_in hf
      obtain ⟨n1, n2⟩ := parts_next f2 (Nat.lt_of_lt_of_le hm (two_mono f1))
      obtain ⟨k1, k2, k3⟩ := run_inv l (r ++ [p]) (m + 2 ^ j) (j + 1) (by omega) n1 (by rw [n2, hp, f3]) M I h
      exact ⟨k1, k2, by rw [k3]; simp⟩
theorem run_bd {l : List (List UInt8)} {M I : Nat} (h : run l = some (M, I)) : I ≤ 6 ∧ M < 2 ^ I := by
  obtain ⟨a, b, _⟩ := run_inv l [] 0 0 (by omega) (by decide) (by decide) M I h
  exact ⟨a, b⟩

theorem tab_tx : ((List.range 64).all fun m => decide (prs (tx m) = some m) && (List.range 64).all fun k => decide (tx m = tx k → m = k)) = true := by decide +kernel
theorem prs_tx {m : Nat} (h : m < 64) : prs (tx m) = some m := by
  have h1 := List.all_eq_true.1 tab_tx m (List.mem_range.2 h)
  simp only [Bool.and_eq_true, decide_eq_true_eq] at h1
  exact h1.1
theorem tx_inj {m k : Nat} (h : m < 64) (hk : k < 64) (e : tx m = tx k) : m = k := by
  have h1 := List.all_eq_true.1 tab_tx m (List.mem_range.2 h)
  simp only [Bool.and_eq_true, decide_eq_true_eq] at h1
  have h2 := List.all_eq_true.1 h1.2 k (List.mem_range.2 hk)
  simp only [decide_eq_true_eq] at h2
  exact h2 e
theorem prs_some {s : List UInt8} {m : Nat} (h : prs s = some m) : m < 64 ∧ tx m = s := by
  unfold prs at h
  by_cases hs : s = [45]
  · rw [if_pos hs] at h; cases h; exact ⟨by decide, by rw [hs]; decide⟩
  · rw [if_neg hs] at h
    cases hr : run (pcs s) with
    | none => rw [hr] at h; cases h
    | some q =>
      obtain ⟨M, I⟩ := q
      rw [hr] at h
      cases h
      obtain ⟨a, b, c⟩ := run_inv (pcs s) [] 0 0 (by omega) (by decide) (by decide) M I hr
      have hm : M < 64 := Nat.lt_of_lt_of_le b (two_mono (j := 6) a)
      refine ⟨hm, ?_⟩
      have hM : M ≠ 0 := by
        intro e
        rw [e] at c
        exact pcs_ne s (by simpa [parts] using c.symm.trans (show parts 0 6 = [] by decide))
      simp only
      unfold tx
      rw [if_neg hM, c, List.nil_append, join_pcs]
theorem rprs_some {s : List UInt8} {m : Nat} (h : rprs s = some m) : m < 64 ∧ tx m = s := by
  unfold rprs at h
  have h1 := List.find?_some h
  have h2 := List.mem_of_find?_eq_some h
  simp at h1 h2
  exact ⟨h2, h1⟩
theorem rprs_tx {m : Nat} (h : m < 64) : rprs (tx m) = some m := by
  cases hr : rprs (tx m) with
  | none =>
    unfold rprs at hr
    rw [List.find?_eq_none] at hr
    exact absurd (by simp) (hr m (List.mem_range.2 h))
  | some k =>
    obtain ⟨a, b⟩ := rprs_some hr
    rw [tx_inj a h b]
theorem prs_eq (s : List UInt8) : prs s = rprs s := by
  cases h : prs s with
  | some m => obtain ⟨a, rfl⟩ := prs_some h; exact (rprs_tx a).symm
  | none =>
    cases hr : rprs s with
    | none => rfl
    | some k => obtain ⟨a, rfl⟩ := rprs_some hr; rw [prs_tx a] at h; cases h
theorem rprs_first {s : List UInt8} {m : Nat} (hm : m < 64) (he : tx m = s) : rprs s = some m := he ▸ rprs_tx hm
theorem rprs_no {s : List UInt8} (h : ∀ m, m < 64 → tx m ≠ s) : rprs s = none := by
  cases hr : rprs s with
  | none => rfl
  | some k => obtain ⟨a, b⟩ := rprs_some hr; exact absurd b (h k a)

/-! In a mask. -/
theorem tab_in : ((List.range 64).all fun m => (List.range 64).all fun b => ((count b == 1 && (Nat.land m b == b)) == (List.range 6).any fun i => (b == 2 ^ i) && bitOf m i)) = true := by decide +kernel
theorem bit_small {b : Int} (h : count b = 1) : 0 ≤ b ∧ b < 65536 := by
  by_cases c : 0 ≤ b ∧ b < 65536
  · exact c
  · have : ∀ k, countTo b k = 0 := by
      intro k
      induction k with
      | zero => rfl
      | succ k ih => unfold countTo; rw [ih, has_out _ _ (by omega)]; rfl
    have e : count b = ((0 : Nat) : Int) := congrArg (fun q : Nat => (q : Int)) (this 16)
    rw [e] at h
    exact absurd h (by decide)
theorem in_eq {m b : Int} (h0 : 0 ≤ m) (h1 : m ≤ 63) (h : count b = 1) : (Go.bits .and .i64 m b == b) = inn m b := by
  obtain ⟨b0, b1⟩ := bit_small h
  obtain ⟨m, rfl⟩ : ∃ k : Nat, m = k := ⟨m.toNat, by omega⟩
  obtain ⟨b, rfl⟩ : ∃ k : Nat, b = k := ⟨b.toNat, by omega⟩
  rw [and_i64_nat m b (by omega) (by omega)]
  unfold inn
  have e1 : decide (0 ≤ (m : Int) ∧ (m : Int) ≤ 63) = true := by simp; omega
  rw [e1, Bool.true_and]
  have hl : Nat.land m b ≤ m := Nat.and_le_left
  by_cases hb : b < 64
  · have h2 := List.all_eq_true.1 tab_in m (List.mem_range.2 (by omega))
    have h3 := List.all_eq_true.1 h2 b (List.mem_range.2 hb)
    have h4 : (count (b : Int) == 1) = true := by rw [h]; rfl
    rw [h4, Bool.true_and] at h3
    have h5 := eq_of_beq h3
    have e2 : ((((m &&& b : Nat) : Int)) == (b : Int)) = (Nat.land m b == b) := by
      rw [Bool.eq_iff_iff]; simp; exact Int.ofNat_inj
    have hf : (fun i : Nat => (b == 2 ^ i) && bitOf m i) = fun i : Nat => ((b : Int) == 2 ^ i) && bitOf ((m : Int)).toNat i := by
      funext i
      have e3 : (b == 2 ^ i) = ((b : Int) == 2 ^ i) := by
        rw [Bool.eq_iff_iff, beq_iff_eq, beq_iff_eq]
        exact ⟨fun q => by rw [q]; simp, fun q => by exact_mod_cast q⟩
      rw [e3, Int.toNat_natCast]
    rw [e2, h5, hf]
  · have e2 : ((((m &&& b : Nat) : Int)) == (b : Int)) = false := by
      simp
      have : m &&& b ≤ m := Nat.and_le_left
      omega
    rw [e2]
    symm
    rw [List.any_eq_false]
    intro i hi
    have hi' : i < 6 := by simpa using hi
    have : (2 : Int) ^ i ≤ 2 ^ 5 := pow_mono2 i 5 (by omega)
    have hne : ((b : Int) == 2 ^ i) = false := by simp; omega
    simp [hne]
theorem in_out {m b : Int} (h : ¬ (0 ≤ m ∧ m ≤ 63)) : inn m b = false := by
  unfold inn
  rw [show decide (0 ≤ m ∧ m ≤ 63) = false by simpa using h, Bool.false_and]
theorem in_no {m b : Int} (h : count b ≠ 1) : inn m b = false := by
  unfold inn
  rw [Bool.and_eq_false_iff]
  right
  rw [List.any_eq_false]
  intro i hi
  have hi' : i < 6 := by simpa using hi
  have hb : b ≠ 2 ^ i := by
    intro e
    have : i ∈ [0, 1, 2, 3, 4, 5] := by simp; omega
    simp only [List.mem_cons, List.mem_nil_iff, or_false] at this
    subst e
    rcases this with rfl | rfl | rfl | rfl | rfl | rfl <;> exact absurd (by decide +kernel) h
  simp [hb]
/-- In a mask, of the trip with that place. -/
theorem in_pow {m i : Nat} (hm : m < 64) (hi : i < 6) : inn (m : Int) (2 ^ i) = bitOf m i := by
  unfold inn
  rw [show decide (0 ≤ (m : Int) ∧ (m : Int) ≤ 63) = true by simp; omega, Bool.true_and, Int.toNat_natCast]
  have : i ∈ [0, 1, 2, 3, 4, 5] := by simp; omega
  simp only [List.mem_cons, List.mem_nil_iff, or_false] at this
  rcases this with rfl | rfl | rfl | rfl | rfl | rfl <;> simp [List.range, List.range.loop]
theorem has_bit {m i : Nat} (hm : m < 64) (hi : i < 6) : has (m : Int) (i : Int) = bitOf m i := by
  rw [has_in _ _ (by omega)]
  unfold bitOf
  have e : (m : Int) / 2 ^ i % 2 = ((m / 2 ^ i % 2 : Nat) : Int) := by simp
  rw [Int.toNat_natCast, e, Bool.eq_iff_iff]
  generalize m / 2 ^ i % 2 = q
  simp
  omega
end Tp
end Go.Proofs.YtmfpoakefpephaaDoor
