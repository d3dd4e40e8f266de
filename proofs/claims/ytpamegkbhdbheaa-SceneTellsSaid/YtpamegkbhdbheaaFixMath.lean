/-
  Plain mathematics for layer 1 (fix): what the calls of package fix come to, as functions on whole numbers and lists. No Go text is reached here. No conditions.
-/
import Derived.KernelRfl
import Derived.WalkKit
namespace Go.Proofs.Ytpamegkbhdbheaa
set_option maxRecDepth 100000
open Go.RowKit
namespace Fx

def sm (n : Int) : Bool := decide (-1099511627776 ≤ n ∧ n ≤ 1099511627776)
def within (n lo hi : Int) : Int := if hi < lo ∨ n < lo then lo else if hi < n then hi else n
def clamp (n lo hi : Int) : Int := if sm n = true ∧ sm lo = true ∧ sm hi = true then within n lo hi else 0
def floor (n b : Int) : Int := if sm n = true ∧ sm b = true ∧ 1 ≤ b then n / b else 0
def shift (n b : Int) : Int := if sm n = true ∧ 0 ≤ b ∧ b ≤ 40 then n / 2 ^ b.toNat else 0
def apart (a b : Int) : Int := if sm a = true ∧ sm b = true then (if a < b then b - a else a - b) else 0
def near (n to b : Int) : Int := if sm n = true ∧ sm to = true ∧ sm b = true then (if b < 0 then n else within to (n - b) (n + b)) else 0
def hasIn (m i : Int) : Bool := decide (0 ≤ m ∧ m < 65536 ∧ 0 ≤ i ∧ i < 16)
def has (m i : Int) : Bool := hasIn m i && (m / 2 ^ i.toNat % 2 == 1)
def bitsN : List Bool → Nat
  | [] => 0
  | b :: r => b.toNat + 2 * bitsN r
def bits (l : List Bool) : Int := if l.length ≤ 16 then (bitsN l : Int) else 0
def countTo (m : Int) : Nat → Nat
  | 0 => 0
  | k + 1 => countTo m k + (has m (k : Int)).toNat
def count (m : Int) : Int := (countTo m 16 : Int)
def trues : List Bool → Nat
  | [] => 0
  | b :: r => b.toNat + trues r

theorem sm_iff (n : Int) : sm n = true ↔ -1099511627776 ≤ n ∧ n ≤ 1099511627776 := by unfold sm; simp
theorem sm_false (n : Int) : sm n = false ↔ n < -1099511627776 ∨ 1099511627776 < n := by unfold sm; simp; omega
theorem sm_bd {n : Int} (h : sm n = true) : -1099511627776 ≤ n ∧ n ≤ 1099511627776 := (sm_iff n).1 h

theorem ret_int {k : IntKind} {a b : Int} (h : a = b) : Ending.returned (.int k a) = .returned (.int k b) := by rw [h]
theorem ret_bool {a b : Bool} (h : a = b) : Ending.returned (.bool a) = .returned (.bool b) := by rw [h]

theorem clamp_bd (n lo hi : Int) : -1099511627776 ≤ clamp n lo hi ∧ clamp n lo hi ≤ 1099511627776 := by
  unfold clamp within
  split
  · rename_i h; have h1 := sm_bd h.1; have h2 := sm_bd h.2.1; have h3 := sm_bd h.2.2
    split <;> (try split) <;> omega
  · omega

/-! ### division -/
theorem ediv_unique (n b q : Int) (hb : 0 < b) (h1 : q * b ≤ n) (h2 : n < q * b + b) : n / b = q := by
  have e1 : q ≤ n / b := (Int.le_ediv_iff_mul_le hb).2 h1
  have e2 : n / b < q + 1 := (Int.ediv_lt_iff_lt_mul hb).2 (by rw [Int.add_mul]; omega)
  omega

theorem tdiv_low (n b : Int) (hb : 1 ≤ b) (hn : n < 0) (h : n.tmod b < 0) : n / b = n.tdiv b - 1 := by
  have e := Int.mul_tdiv_add_tmod n b
  have l : -b < n.tmod b := by
    have := Int.neg_tmod (-n) b
    rw [Int.neg_neg] at this
    rw [this, Int.tmod_eq_emod_of_nonneg (by omega)]
    have := Int.emod_lt_of_pos (-n) (show 0 < b by omega)
    omega
  refine ediv_unique n b _ (by omega) ?_ ?_
  · rw [Int.sub_mul, Int.mul_comm]; omega
  · rw [Int.sub_mul, Int.mul_comm]; omega
theorem tdiv_even (n b : Int) (hb : 1 ≤ b) (hn : n < 0) (h : 0 ≤ n.tmod b) : n / b = n.tdiv b := by
  have e := Int.mul_tdiv_add_tmod n b
  have l : n.tmod b ≤ 0 := by
    have := Int.neg_tmod (-n) b
    rw [Int.neg_neg] at this
    rw [this, Int.tmod_eq_emod_of_nonneg (by omega)]
    have := Int.emod_nonneg (-n) (show b ≠ 0 by omega)
    omega
  refine ediv_unique n b _ (by omega) ?_ ?_
  · rw [Int.mul_comm]; omega
  · rw [Int.mul_comm]; omega
theorem tdiv_bd (n b : Int) (hb : 1 ≤ b) (hn : n < 0) : n ≤ n.tdiv b ∧ n.tdiv b ≤ 0 := by
  have := Int.neg_tdiv (-n) b
  rw [Int.neg_neg] at this
  rw [this, Int.tdiv_eq_ediv_of_nonneg (by omega)]
  have h1 : 0 ≤ (-n) / b := Int.ediv_nonneg (by omega) (by omega)
  have h2 : (-n) / b ≤ -n := Int.ediv_le_self _ (by omega)
  omega
theorem div_bd (n b : Int) (hb : 1 ≤ b) (hn : 0 ≤ n) : 0 ≤ n / b ∧ n / b ≤ n :=
  ⟨Int.ediv_nonneg hn (by omega), Int.ediv_le_self _ hn⟩
theorem div_up (n b : Int) (hb : 1 ≤ b) : n / b = -((b - 1 - n) / b) := by
  have e := Int.mul_ediv_add_emod (b - 1 - n) b
  have l := Int.emod_lt_of_pos (b - 1 - n) (show 0 < b by omega)
  have l2 := Int.emod_nonneg (b - 1 - n) (show b ≠ 0 by omega)
  refine ediv_unique n b _ (by omega) ?_ ?_
  · rw [Int.neg_mul, Int.mul_comm]; omega
  · rw [Int.neg_mul, Int.mul_comm]; omega
theorem div_div (n a b : Int) (ha : 0 ≤ a) : n / a / b = n / (a * b) := Int.ediv_ediv_of_nonneg ha

/-! ### powers of two -/
theorem pow_succ2 (k : Nat) : (2 : Int) ^ (k + 1) = 2 * 2 ^ k := by rw [Int.pow_succ, Int.mul_comm]
theorem pow_pos2 (k : Nat) : (1 : Int) ≤ 2 ^ k := by
  induction k with
  | zero => decide
  | succ k ih => rw [pow_succ2]; omega
theorem pow_mono2 (k m : Nat) (h : k ≤ m) : (2 : Int) ^ k ≤ 2 ^ m := by
  induction m with
  | zero => have : k = 0 := by omega
            subst this; omega
  | succ m ih =>
    by_cases e : k = m + 1
    · rw [e]; omega
    · have := ih (by omega); have := pow_pos2 m; rw [pow_succ2]; omega
theorem pow_le40 (k : Nat) (h : k ≤ 40) : (2 : Int) ^ k ≤ 1099511627776 := Int.le_trans (pow_mono2 k 40 h) (by decide)
theorem pow_le19 (k : Nat) (h : k ≤ 19) : (2 : Int) ^ k ≤ 524288 := Int.le_trans (pow_mono2 k 19 h) (by decide)
theorem pow_lt16 (k : Nat) (h : k < 16) : (2 : Int) ^ k ≤ 32768 := Int.le_trans (pow_mono2 k 15 (by omega)) (by decide)

theorem wrap_pow (k : Nat) (h : k < 16) : wrap64 ((2 : Int) ^ k) = 2 ^ k := by
  have h1 := pow_lt16 k h
  have h2 := pow_pos2 k
  generalize (2 : Int) ^ k = x at *
  unfold wrap64
  omega

/-! ### bits of an int -/
theorem and_i64_nat (a b : Nat) (ha : a < 9223372036854775808) (hb : b < 9223372036854775808) :
    Go.bits .and .i64 (a : Int) (b : Int) = ((a &&& b : Nat) : Int) := by
  have hx : a &&& b < 2 ^ 63 := Nat.and_lt_two_pow _ (by omega)
  have h1 : (BitVec.ofInt 64 (a : Int)).toNat = a := by
    rw [BitVec.ofInt_natCast, BitVec.toNat_ofNat]; exact Nat.mod_eq_of_lt (by omega)
  have h2 : (BitVec.ofInt 64 (b : Int)).toNat = b := by
    rw [BitVec.ofInt_natCast, BitVec.toNat_ofNat]; exact Nat.mod_eq_of_lt (by omega)
  show IntKind.i64.wrap ((BitVec.ofInt 64 (a : Int) &&& BitVec.ofInt 64 (b : Int)).toNat : Int) = _
  rw [BitVec.toNat_and, h1, h2, IntKind.wrap_i64]
  omega
theorem or_i64_nat (a b : Nat) (ha : a < 9223372036854775808) (hb : b < 9223372036854775808) :
    Go.bits .or .i64 (a : Int) (b : Int) = ((a ||| b : Nat) : Int) := by
  have hx : a ||| b < 2 ^ 63 := Nat.or_lt_two_pow (by omega) (by omega)
  have h1 : (BitVec.ofInt 64 (a : Int)).toNat = a := by
    rw [BitVec.ofInt_natCast, BitVec.toNat_ofNat]; exact Nat.mod_eq_of_lt (by omega)
  have h2 : (BitVec.ofInt 64 (b : Int)).toNat = b := by
    rw [BitVec.ofInt_natCast, BitVec.toNat_ofNat]; exact Nat.mod_eq_of_lt (by omega)
  show IntKind.i64.wrap ((BitVec.ofInt 64 (a : Int) ||| BitVec.ofInt 64 (b : Int)).toNat : Int) = _
  rw [BitVec.toNat_or, h1, h2, IntKind.wrap_i64]
  omega
theorem and_one (x : Int) (h0 : 0 ≤ x) (h1 : x < 9223372036854775808) : Go.bits .and .i64 x 1 = x % 2 := by
  obtain ⟨n, rfl⟩ := Int.eq_ofNat_of_zero_le h0
  have := and_i64_nat n 1 (by omega) (by decide)
  rw [show ((1 : Nat) : Int) = 1 from rfl] at this
  rw [this, Nat.and_one_is_mod]
  omega
theorem or_high (x : Nat) (k : Nat) (h : x < 2 ^ k) (hk : k < 16) : Go.bits .or .i64 (x : Int) ((2 : Int) ^ k) = (x : Int) + 2 ^ k := by
  have hp : (2 : Nat) ^ k ≤ 32768 := Nat.le_trans (Nat.pow_le_pow_right (by decide) (show k ≤ 15 by omega)) (by decide)
  have e : ((2 : Int) ^ k) = ((2 ^ k : Nat) : Int) := by simp
  have o := Nat.two_pow_add_eq_or_of_lt h 1
  rw [Nat.mul_one] at o
  rw [e, or_i64_nat x (2 ^ k) (by omega) (by omega), Nat.or_comm, ← o]
  omega

theorem hasIn_iff (m i : Int) : hasIn m i = true ↔ 0 ≤ m ∧ m < 65536 ∧ 0 ≤ i ∧ i < 16 := by unfold hasIn; simp
theorem has_out (m i : Int) (h : ¬ (0 ≤ m ∧ m < 65536 ∧ 0 ≤ i ∧ i < 16)) : has m i = false := by
  unfold has hasIn; rw [decide_eq_false h]; rfl
theorem has_in (m i : Int) (h : 0 ≤ m ∧ m < 65536 ∧ 0 ≤ i ∧ i < 16) : has m i = (m / 2 ^ i.toNat % 2 == 1) := by
  unfold has hasIn; rw [decide_eq_true h]; rfl
theorem div_pow_lt (m : Int) (k : Nat) (h0 : 0 ≤ m) (h1 : m < 65536) : 0 ≤ m / 2 ^ k ∧ m / 2 ^ k < 65536 := by
  have := div_bd m (2 ^ k) (pow_pos2 k) h0
  omega
theorem has_go (m i : Int) (h : 0 ≤ m ∧ m < 65536 ∧ 0 ≤ i ∧ i < 16) : (Go.bits .and .i64 (m / 2 ^ i.toNat) 1 == 1) = has m i := by
  have := div_pow_lt m i.toNat h.1 h.2.1
  rw [has_in m i h, and_one _ this.1 (by omega)]

/-! ### masks of lists -/
theorem bitsN_lt (l : List Bool) : bitsN l < 2 ^ l.length := by
  induction l with
  | nil => decide
  | cons b r ih => simp only [bitsN, List.length_cons, Nat.pow_succ]; cases b <;> simp <;> omega
theorem bitsN_snoc (l : List Bool) (b : Bool) : bitsN (l ++ [b]) = bitsN l + b.toNat * 2 ^ l.length := by
  induction l with
  | nil => simp [bitsN]
  | cons c r ih =>
    simp only [List.cons_append, bitsN, ih, List.length_cons, Nat.pow_succ, Nat.mul_add]
    rw [show b.toNat * (2 ^ r.length * 2) = 2 * (b.toNat * 2 ^ r.length) by rw [← Nat.mul_assoc, Nat.mul_comm]]
    omega
theorem take_snoc (l : List Bool) (k : Nat) (h : k < l.length) : l.take (k + 1) = l.take k ++ [l.getD k false] := by
  rw [List.take_succ_eq_append_getElem h]; simp [List.getD_eq_getElem?_getD, h]
theorem bitsN_take_true (l : List Bool) (k : Nat) (h : k < l.length) (e : l.getD k false = true) : bitsN (l.take (k + 1)) = bitsN (l.take k) + 2 ^ k := by
  rw [take_snoc l k h, bitsN_snoc, e, List.length_take, Nat.min_eq_left (by omega)]; simp
theorem bitsN_take_false (l : List Bool) (k : Nat) (h : k < l.length) (e : l.getD k false = false) : bitsN (l.take (k + 1)) = bitsN (l.take k) := by
  rw [take_snoc l k h, bitsN_snoc, e]; simp
theorem trues_snoc (l : List Bool) (b : Bool) : trues (l ++ [b]) = trues l + b.toNat := by
  induction l with
  | nil => simp [trues]
  | cons c r ih => simp only [List.cons_append, trues, ih]; omega
theorem trues_le (l : List Bool) : trues l ≤ l.length := by
  induction l with
  | nil => simp [trues]
  | cons c r ih => simp only [trues, List.length_cons]; cases c <;> simp <;> omega
theorem bitsN_bit (l : List Bool) (k : Nat) : bitsN l / 2 ^ k % 2 = (l.getD k false).toNat := by
  induction l generalizing k with
  | nil => simp [bitsN]
  | cons b r ih =>
    cases k with
    | zero => cases b <;> simp [bitsN] <;> omega
    | succ k =>
      have := ih k
      simp only [bitsN, List.getD_cons_succ]
      rw [← this, Nat.pow_succ, Nat.mul_comm (2 ^ k) 2, ← Nat.div_div_eq_div_mul]
      congr 2
      cases b <;> simp <;> omega
theorem bitsN_lt16 (l : List Bool) (h : l.length ≤ 16) : bitsN l < 65536 := by
  have := bitsN_lt l
  have h2 : (2 : Nat) ^ l.length ≤ 65536 := Nat.le_trans (Nat.pow_le_pow_right (by decide) h) (by decide)
  omega
theorem has_bitsN (l : List Bool) (h : l.length ≤ 16) (k : Nat) (hk : k < 16) : has (bitsN l : Int) (k : Int) = l.getD k false := by
  have hb := bitsN_lt16 l h
  rw [has_in _ _ ⟨by omega, by omega, by omega, by omega⟩]
  have e : ((bitsN l : Int) / 2 ^ (k : Int).toNat % 2) = ((bitsN l / 2 ^ k % 2 : Nat) : Int) := by simp
  rw [e, bitsN_bit]
  cases l.getD k false <;> rfl
theorem countTo_bitsN (l : List Bool) (h : l.length ≤ 16) (k : Nat) (hk : k ≤ 16) : countTo (bitsN l : Int) k = trues (l.take k) := by
  induction k with
  | zero => simp [countTo, trues]
  | succ k ih =>
    rw [countTo, ih (by omega), has_bitsN l h k (by omega)]
    by_cases e : k < l.length
    · rw [take_snoc l k e, trues_snoc]
    · rw [List.take_of_length_le (by omega), List.take_of_length_le (by omega)]
      have : l.getD k false = false := by simp [List.getD_eq_getElem?_getD, List.getElem?_eq_none (show l.length ≤ k by omega)]
      rw [this]; rfl
theorem count_bitsN (l : List Bool) (h : l.length ≤ 16) : count (bitsN l : Int) = (trues l : Int) := by
  unfold count; rw [countTo_bitsN l h 16 (Nat.le_refl _), List.take_of_length_le h]
theorem countTo_le (m : Int) (k : Nat) : countTo m k ≤ k := by
  induction k with
  | zero => simp [countTo]
  | succ k ih => rw [countTo]; cases has m (k : Int) <;> simp <;> omega

end Fx
end Go.Proofs.Ytpamegkbhdbheaa
