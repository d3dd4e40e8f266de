/-
  Plain mathematics for layer 4 (word): numbers as bytes, there and back, one alone and lists; the numbers of 16 bits, round and round. No Go text is reached here. No conditions.
  Plain mathematics for layer 3 (crc): the sum of bytes as a number of 16 bits; part by part; what is sealed has the sum 0; two bytes next to each other, changed, do not leave it so. No Go text is reached here. No conditions.
-/
import Derived.KernelRfl
import Derived.WalkKit
namespace Go.Proofs.Ytchnnpaebggfdaa
set_option maxRecDepth 100000
open Go.RowKit
namespace Wd
/-- Has a number two bytes, or four? -/
def in2 (n : Int) : Bool := decide (0 ≤ n) && decide (n ≤ 65535)
def in4 (n : Int) : Bool := decide (-2147483648 ≤ n) && decide (n ≤ 2147483647)
theorem in2_iff (n : Int) : in2 n = true ↔ 0 ≤ n ∧ n ≤ 65535 := by unfold in2; simp
theorem in4_iff (n : Int) : in4 n = true ↔ -2147483648 ≤ n ∧ n ≤ 2147483647 := by unfold in4; simp
/-- A number below 0 as 2^32 more. -/
def up (n : Int) : Int := if n < 0 then n + 4294967296 else n
def down (u : Int) : Int := if 2147483648 ≤ u then u - 4294967296 else u
theorem up_down {u : Int} (h : 0 ≤ u ∧ u < 4294967296) : up (down u) = u := by unfold up down; split <;> split <;> omega
theorem down_in {u : Int} (h : 0 ≤ u ∧ u < 4294967296) : in4 (down u) = true := by rw [in4_iff]; unfold down; split <;> omega
/-- A number's bytes. -/
def put2 (n : Int) : List Int := if in2 n = true then [n / 256, n % 256] else []
def four (u : Int) : List Int := [u / 16777216, u / 65536 % 256, u / 256 % 256, u % 256]
def put4 (n : Int) : List Int := if in4 n = true then four (up n) else []
def val4 (a b c d : Int) : Int := 256 * (256 * (256 * a + b) + c) + d
theorem put2_yes {n : Int} (h : in2 n = true) : put2 n = [n / 256, n % 256] := by unfold put2; rw [if_pos h]
theorem put4_yes {n : Int} (h : in4 n = true) : put4 n = four (up n) := by unfold put4; rw [if_pos h]
theorem val4_in {a b c d : Int} (ha : 0 ≤ a ∧ a < 256) (hb : 0 ≤ b ∧ b < 256) (hc : 0 ≤ c ∧ c < 256) (hd : 0 ≤ d ∧ d < 256) : 0 ≤ val4 a b c d ∧ val4 a b c d < 4294967296 := by unfold val4; omega
theorem four_val {a b c d : Int} (_ha : 0 ≤ a ∧ a < 256) (hb : 0 ≤ b ∧ b < 256) (hc : 0 ≤ c ∧ c < 256) (hd : 0 ≤ d ∧ d < 256) : four (val4 a b c d) = [a, b, c, d] := by
  unfold four val4
  have h1 : (256 * (256 * (256 * a + b) + c) + d) / 16777216 = a := by omega
  have h2 : (256 * (256 * (256 * a + b) + c) + d) / 65536 % 256 = b := by omega
  have h3 : (256 * (256 * (256 * a + b) + c) + d) / 256 % 256 = c := by omega
  have h4 : (256 * (256 * (256 * a + b) + c) + d) % 256 = d := by omega
  rw [h1, h2, h3, h4]
/-- The number of two bytes, and of four. -/
def get2b (l : List Int) : Bool := l.length == 2
def get2v (l : List Int) : Int := if l.length = 2 then 256 * l.getD 0 0 + l.getD 1 0 else 0
def get4b (l : List Int) : Bool := l.length == 4
def get4v (l : List Int) : Int := if l.length = 4 then down (val4 (l.getD 0 0) (l.getD 1 0) (l.getD 2 0) (l.getD 3 0)) else 0
theorem get2v_yes {l : List Int} (h : l.length = 2) : get2v l = 256 * l.getD 0 0 + l.getD 1 0 := by unfold get2v; rw [if_pos h]
theorem get2v_no {l : List Int} (h : ¬ l.length = 2) : get2v l = 0 := by unfold get2v; rw [if_neg h]
theorem get4v_yes {l : List Int} (h : l.length = 4) : get4v l = down (val4 (l.getD 0 0) (l.getD 1 0) (l.getD 2 0) (l.getD 3 0)) := by unfold get4v; rw [if_pos h]
theorem get4v_no {l : List Int} (h : ¬ l.length = 4) : get4v l = 0 := by unfold get4v; rw [if_neg h]
theorem get2b_iff (l : List Int) : get2b l = true ↔ l.length = 2 := by unfold get2b; simp
theorem get4b_iff (l : List Int) : get4b l = true ↔ l.length = 4 := by unfold get4b; simp
/-- The numbers of bytes, four each. -/
def nums : List Int → List Int
  | a :: b :: c :: d :: t => down (val4 a b c d) :: nums t
  | _ => []
def getAllb (l : List Int) : Bool := l.length % 4 == 0
def getAll (l : List Int) : List Int := if l.length % 4 = 0 then nums l else []
theorem getAllb_iff (l : List Int) : getAllb l = true ↔ l.length % 4 = 0 := by unfold getAllb; simp
theorem getAll_yes {l : List Int} (h : l.length % 4 = 0) : getAll l = nums l := by unfold getAll; rw [if_pos h]
theorem getAll_no {l : List Int} (h : ¬ l.length % 4 = 0) : getAll l = [] := by unfold getAll; rw [if_neg h]
theorem split4 {l : List Int} (h : 4 ≤ l.length) : ∃ a b c d t, l = a :: b :: c :: d :: t := by
  match l, h with
  | a :: b :: c :: d :: t, _ => exact ⟨a, b, c, d, t, rfl⟩
theorem nums_nil {l : List Int} (h : l.length < 4) : nums l = [] := by
  match l, h with
  | [], _ => rfl
  | [_], _ => rfl
  | [_, _], _ => rfl
  | [_, _, _], _ => rfl
  | _ :: _ :: _ :: _ :: _, h => simp at h; omega
theorem nums_len (m : Nat) (l : List Int) (h : l.length = 4 * m) : (nums l).length = m := by
  induction m generalizing l with
  | zero => rw [nums_nil (by omega)]; rfl
  | succ m ih =>
    obtain ⟨a, b, c, d, t, rfl⟩ := split4 (show 4 ≤ l.length by omega)
    show (nums t).length + 1 = m + 1
    rw [ih t (by simp at h; omega)]
theorem nums_app (m : Nat) (l r : List Int) (h : l.length = 4 * m) : nums (l ++ r) = nums l ++ nums r := by
  induction m generalizing l with
  | zero =>
    obtain rfl : l = [] := List.eq_nil_of_length_eq_zero (by omega)
    rfl
  | succ m ih =>
    obtain ⟨a, b, c, d, t, rfl⟩ := split4 (show 4 ≤ l.length by omega)
    show down (val4 a b c d) :: nums (t ++ r) = down (val4 a b c d) :: (nums t ++ nums r)
    rw [ih t (by simp at h; omega)]
theorem take_four (l : List Int) (k : Nat) (h : k + 4 ≤ l.length) : (l.drop k).take 4 = [l.getD k 0, l.getD (k + 1) 0, l.getD (k + 2) 0, l.getD (k + 3) 0] := by
  apply List.ext_getElem
  · simp; omega
  · intro i h1 h2
    simp at h2
    have : i = 0 ∨ i = 1 ∨ i = 2 ∨ i = 3 := by omega
    rcases this with rfl | rfl | rfl | rfl <;> simp [List.getD_eq_getElem?_getD, show k < l.length by omega, show k + 1 < l.length by omega, show k + 2 < l.length by omega, show k + 3 < l.length by omega]
/-- One number more, of the next four bytes. -/
theorem nums_next (l : List Int) (m : Nat) (h : 4 * m + 4 ≤ l.length) : nums (l.take (4 * (m + 1))) = nums (l.take (4 * m)) ++ [get4v ((l.drop (4 * m)).take 4)] := by
  have e : l.take (4 * (m + 1)) = l.take (4 * m) ++ (l.drop (4 * m)).take 4 := by
    rw [show 4 * (m + 1) = 4 * m + 4 by omega, List.take_add]
  rw [e, nums_app m _ _ (by rw [List.length_take]; omega)]
  congr 1
  rw [take_four l (4 * m) (by omega)]
  rfl
/-- All numbers' bytes, or nothing. -/
def fours (l : List Int) : List Int := l.flatMap put4
def putAll (l : List Int) : List Int := if l.all in4 = true then fours l else []
theorem fours_cons (n : Int) (l : List Int) : fours (n :: l) = put4 n ++ fours l := by unfold fours; rw [List.flatMap_cons]
theorem nums_in (m : Nat) (l : List Int) (hl : l.length = 4 * m) (h : ∀ x ∈ l, 0 ≤ x ∧ x < 256) : (nums l).all in4 = true := by
  induction m generalizing l with
  | zero => rw [nums_nil (by omega)]; rfl
  | succ m ih =>
    obtain ⟨a, b, c, d, t, rfl⟩ := split4 (show 4 ≤ l.length by omega)
    show (in4 (down (val4 a b c d)) && (nums t).all in4) = true
    rw [down_in (val4_in (h a (by simp)) (h b (by simp)) (h c (by simp)) (h d (by simp))), ih t (by simp at hl; omega) (fun x hx => h x (by simp [hx]))]; rfl
theorem fours_nums (m : Nat) (l : List Int) (hl : l.length = 4 * m) (h : ∀ x ∈ l, 0 ≤ x ∧ x < 256) : fours (nums l) = l := by
  induction m generalizing l with
  | zero =>
    obtain rfl : l = [] := List.eq_nil_of_length_eq_zero (by omega)
    rfl
  | succ m ih =>
    obtain ⟨a, b, c, d, t, rfl⟩ := split4 (show 4 ≤ l.length by omega)
    have ha := h a (by simp)
    have hb := h b (by simp)
    have hc := h c (by simp)
    have hd := h d (by simp)
    have hv := val4_in ha hb hc hd
    show fours (down (val4 a b c d) :: nums t) = _
    rw [fours_cons, ih t (by simp at hl; omega) (fun x hx => h x (by simp [hx])), put4_yes (down_in hv), up_down hv, four_val ha hb hc hd]; rfl
/-- The number behind one of 16 bits, and how often to another one. -/
def next (n : Int) : Int := if 0 ≤ n ∧ n < 65535 then n + 1 else 0
def after (a b : Int) : Int := if in2 a = true ∧ in2 b = true then (b - a) % 65536 else 0
/-- After so many steps from a. -/
def far (a : Int) (k : Nat) : Int := (a + k) % 65536
end Wd
end Go.Proofs.Ytchnnpaebggfdaa

namespace Go.Proofs.Ytchnnpaebggfdaa
set_option maxRecDepth 100000
open Go.RowKit
namespace Cr
/-- One bit: twice itself, without what is above 16 bits, and crossed with 4129 if the highest bit was 1. -/
def bit1 (s : Nat) : Nat := if 32768 ≤ s then (2 * s % 65536) ^^^ 4129 else 2 * s % 65536
def bits : Nat → Nat → Nat
  | 0, s => s
  | n + 1, s => bit1 (bits n s)
def feed (s b : Nat) : Nat := bits 8 (s ^^^ (256 * b))
def more (s : Nat) (l : List Nat) : Nat := l.foldl feed s
theorem xor_lt {a b : Nat} (ha : a < 65536) (hb : b < 65536) : a ^^^ b < 65536 := Nat.xor_lt_two_pow (n := 16) ha hb
theorem bit1_lt (s : Nat) : bit1 s < 65536 := by
  unfold bit1; split
  · exact xor_lt (Nat.mod_lt _ (by omega)) (by omega)
  · exact Nat.mod_lt _ (by omega)
theorem bits_lt (n s : Nat) (h : s < 65536) : bits n s < 65536 := by
  induction n with
  | zero => exact h
  | succ n _ => exact bit1_lt _
theorem bits_succ (n s : Nat) : bits (n + 1) s = bit1 (bits n s) := rfl
theorem feed_def (s b : Nat) : feed s b = bits 8 (s ^^^ (256 * b)) := by unfold feed; rfl
theorem feed_lt (s b : Nat) : feed s b < 65536 := by
  rw [feed_def, show 8 = 7 + 1 by omega, bits_succ]; exact bit1_lt _
theorem more_nil (s : Nat) : more s [] = s := by unfold more; rw [List.foldl_nil]
theorem more_cons (s b : Nat) (l : List Nat) : more s (b :: l) = more (feed s b) l := by unfold more; rw [List.foldl_cons]
theorem more_two (s x y : Nat) : more s [x, y] = feed (feed s x) y := by rw [more_cons, more_cons, more_nil]
theorem more_lt (s : Nat) (l : List Nat) (h : s < 65536) : more s l < 65536 := by
  induction l generalizing s with
  | nil => rw [more_nil]; exact h
  | cons b t ih => rw [more_cons]; exact ih _ (feed_lt _ _)
theorem more_app (s : Nat) (l r : List Nat) : more s (l ++ r) = more (more s l) r := by unfold more; exact List.foldl_append ..
/-- The highest bit, as a test. -/
theorem high (s : Nat) (h : s < 65536) : 32768 ≤ s ↔ s.testBit 15 = true := by
  rw [Nat.testBit_eq_decide_div_mod_eq]
  simp; omega
theorem two_mod (a b : Nat) : 2 * (a ^^^ b) % 65536 = (2 * a % 65536) ^^^ (2 * b % 65536) := by
  rw [← Nat.xor_mod_two_pow (n := 16)]
  congr 1
  have := Nat.shiftLeft_xor_distrib (a := a) (b := b) (i := 1)
  simpa [Nat.shiftLeft_eq, Nat.mul_comm] using this
theorem bit1_xor (a b : Nat) (ha : a < 65536) (hb : b < 65536) : bit1 (a ^^^ b) = bit1 a ^^^ bit1 b := by
  have h := high (a ^^^ b) (xor_lt ha hb)
  rw [Nat.testBit_xor] at h
  have h1 := high a ha
  have h2 := high b hb
  unfold bit1
  rw [two_mod]
  by_cases c1 : 32768 ≤ a <;> by_cases c2 : 32768 ≤ b
  · have n : ¬ 32768 ≤ a ^^^ b := by rw [h, h1.1 c1, h2.1 c2]; simp
    rw [if_neg n, if_pos c1, if_pos c2]
    rw [Nat.xor_assoc, Nat.xor_comm 4129, Nat.xor_assoc, Nat.xor_self, Nat.xor_zero]
  · have t2 : b.testBit 15 = false := by cases e : b.testBit 15; rfl; exact absurd (h2.2 e) c2
    have n : 32768 ≤ a ^^^ b := by rw [h, h1.1 c1, t2]; rfl
    rw [if_pos n, if_pos c1, if_neg c2, Nat.xor_assoc, Nat.xor_assoc, Nat.xor_comm 4129]
  · have t1 : a.testBit 15 = false := by cases e : a.testBit 15; rfl; exact absurd (h1.2 e) c1
    have n : 32768 ≤ a ^^^ b := by rw [h, t1, h2.1 c2]; rfl
    rw [if_pos n, if_neg c1, if_pos c2, Nat.xor_assoc]
  · have t1 : a.testBit 15 = false := by cases e : a.testBit 15; rfl; exact absurd (h1.2 e) c1
    have t2 : b.testBit 15 = false := by cases e : b.testBit 15; rfl; exact absurd (h2.2 e) c2
    have n : ¬ 32768 ≤ a ^^^ b := by rw [h, t1, t2]; simp
    rw [if_neg n, if_neg c1, if_neg c2]
theorem xor_zero_eq {a b : Nat} (h : a ^^^ b = 0) : a = b := by
  have : a ^^^ b ^^^ b = b := by rw [h, Nat.zero_xor]
  rwa [Nat.xor_assoc, Nat.xor_self, Nat.xor_zero] at this
theorem bit1_zero {s : Nat} (h : s < 65536) (e : bit1 s = 0) : s = 0 := by
  unfold bit1 at e
  split at e
  · have := xor_zero_eq e; omega
  · omega
theorem bits_xor (n a b : Nat) (ha : a < 65536) (hb : b < 65536) : bits n (a ^^^ b) = bits n a ^^^ bits n b := by
  induction n with
  | zero => rfl
  | succ n ih => unfold bits; rw [ih, bit1_xor _ _ (bits_lt n a ha) (bits_lt n b hb)]
theorem bits_zero (n s : Nat) (h : s < 65536) (e : bits n s = 0) : s = 0 := by
  induction n with
  | zero => exact e
  | succ n ih => exact ih (bit1_zero (bits_lt n s h) e)
theorem bits_inj (n a b : Nat) (ha : a < 65536) (hb : b < 65536) (e : bits n a = bits n b) : a = b :=
  xor_zero_eq (bits_zero n _ (xor_lt ha hb) (by rw [bits_xor n a b ha hb, e, Nat.xor_self]))
theorem bits_low (n b : Nat) (hb : b < 256) (hn : n ≤ 8) : bits n b = 2 ^ n * b := by
  induction n with
  | zero => simp [bits]
  | succ n ih =>
    unfold bits
    rw [ih (by omega)]
    have h7 : 2 ^ n ≤ 128 := by
      have : n ≤ 7 := by omega
      calc 2 ^ n ≤ 2 ^ 7 := Nat.pow_le_pow_right (by omega) this
        _ = 128 := rfl
    have hm : 2 ^ n * b ≤ 128 * 255 := Nat.mul_le_mul h7 (by omega)
    unfold bit1
    rw [if_neg (by omega), Nat.mod_eq_of_lt (by omega), Nat.pow_succ, Nat.mul_assoc, Nat.mul_left_comm]
theorem bits8_low (b : Nat) (hb : b < 256) : bits 8 b = 256 * b := bits_low 8 b hb (by omega)
theorem xor_high (s : Nat) : s ^^^ (256 * (s / 256)) = s % 256 := by
  have h1 : s = (256 * (s / 256)) ^^^ (s % 256) := by
    have := Nat.two_pow_add_eq_or_of_lt (i := 8) (b := s % 256) (Nat.mod_lt _ (by omega)) (s / 256)
    have h2 : s = 2 ^ 8 * (s / 256) + s % 256 := by omega
    have h3 : (2 ^ 8 * (s / 256)) ^^^ (s % 256) = (2 ^ 8 * (s / 256)) ||| (s % 256) := by
      apply Nat.eq_of_testBit_eq
      intro i
      rw [Nat.testBit_xor, Nat.testBit_or]
      by_cases hi : i < 8
      · have h8 : decide (8 ≤ i) = false := by simp; omega
        rw [Nat.testBit_two_pow_mul, h8]; simp
      · have : (s % 256).testBit i = false := Nat.testBit_lt_two_pow (Nat.lt_of_lt_of_le (Nat.mod_lt _ (by omega)) (show 256 ≤ 2 ^ i from by
          calc 256 = 2 ^ 8 := rfl
            _ ≤ 2 ^ i := Nat.pow_le_pow_right (by omega) (by omega)))
        rw [this]; simp
    rw [← this] at h3
    show s = (2 ^ 8 * (s / 256)) ^^^ (s % 256)
    rw [h3]; exact h2
  calc s ^^^ (256 * (s / 256)) = ((256 * (s / 256)) ^^^ (s % 256)) ^^^ (256 * (s / 256)) := by rw [← h1]
    _ = s % 256 := by rw [Nat.xor_comm, ← Nat.xor_assoc, Nat.xor_self, Nat.zero_xor]
theorem bits8_zero : bits 8 0 = 0 := by decide +kernel
/-- What is sealed has the sum 0. -/
theorem seal_zero (s : Nat) : more s [s / 256, s % 256] = 0 := by
  rw [more_two]
  have h1 : feed s (s / 256) = 256 * (s % 256) := by
    rw [feed_def, xor_high, bits8_low _ (Nat.mod_lt _ (by omega))]
  rw [h1, feed_def, Nat.xor_self, bits8_zero]
theorem split_low (h l : Nat) (hl : l < 256) : l ^^^ (256 * h) = 256 * h + l := by
  have := xor_high (256 * h + l)
  have q1 : (256 * h + l) / 256 = h := by omega
  have q2 : (256 * h + l) % 256 = l := by omega
  rw [q1, q2] at this
  generalize 256 * h + l = m at *
  rw [← this, Nat.xor_assoc, Nat.xor_self, Nat.xor_zero]
/-- Two bytes that make a sum 0 are the sum. -/
theorem open_of_zero (s h l : Nat) (hs : s < 65536) (hh : h < 256) (hl : l < 256) (e : more s [h, l] = 0) : h = s / 256 ∧ l = s % 256 := by
  rw [more_two, feed_def] at e
  have b1 : 256 * l < 65536 := by omega
  have b2 : 256 * h < 65536 := by omega
  have b3 : l < 65536 := by omega
  have h2 : feed s h ^^^ (256 * l) = 0 := bits_zero 8 _ (xor_lt (feed_lt _ _) b1) e
  have h3 : feed s h = 256 * l := xor_zero_eq h2
  rw [← bits8_low l hl, feed_def] at h3
  have h4 : s ^^^ (256 * h) = l := bits_inj 8 _ _ (xor_lt hs b2) b3 h3
  have h5 : s = l ^^^ (256 * h) := by rw [← h4, Nat.xor_assoc, Nat.xor_self, Nat.xor_zero]
  rw [split_low h l hl] at h5
  omega
theorem open_iff (s h l : Nat) (hs : s < 65536) (hh : h < 256) (hl : l < 256) : more s [h, l] = 0 ↔ (h = s / 256 ∧ l = s % 256) :=
  ⟨open_of_zero s h l hs hh hl, fun ⟨e1, e2⟩ => by rw [e1, e2]; exact seal_zero s⟩
theorem feed_inj (x a b : Nat) (ha : a < 65536) (hb : b < 65536) (hx : x < 256) (e : feed a x = feed b x) : a = b := by
  rw [feed_def, feed_def] at e
  have b1 : 256 * x < 65536 := by omega
  have h2 : a ^^^ (256 * x) = b ^^^ (256 * x) := bits_inj 8 _ _ (xor_lt ha b1) (xor_lt hb b1) e
  have : a ^^^ (256 * x) ^^^ (256 * x) = b ^^^ (256 * x) ^^^ (256 * x) := by rw [h2]
  rwa [Nat.xor_assoc, Nat.xor_self, Nat.xor_zero, Nat.xor_assoc, Nat.xor_self, Nat.xor_zero] at this
theorem more_inj (l : List Nat) (a b : Nat) (ha : a < 65536) (hb : b < 65536) (hl : ∀ x ∈ l, x < 256) (e : more a l = more b l) : a = b := by
  induction l generalizing a b with
  | nil => rw [more_nil, more_nil] at e; exact e
  | cons x t ih =>
    rw [more_cons, more_cons] at e
    exact feed_inj x a b ha hb (hl x (List.mem_cons_self ..)) (ih _ _ (feed_lt _ _) (feed_lt _ _) (fun y hy => hl y (List.mem_cons_of_mem _ hy)) e)
theorem mul_xor (x y : Nat) : 256 * (x ^^^ y) = (256 * x) ^^^ (256 * y) := by
  have := Nat.shiftLeft_xor_distrib (a := x) (b := y) (i := 8)
  simpa [Nat.shiftLeft_eq, Nat.mul_comm] using this
theorem xor_swap (u a b : Nat) : (u ^^^ a) ^^^ (u ^^^ b) = a ^^^ b := by
  rw [Nat.xor_comm u a, Nat.xor_assoc, ← Nat.xor_assoc u u, Nat.xor_self, Nat.zero_xor]
/-- Two bytes next to each other are told by what they do to a sum. -/
theorem pair_inj (u x y x' y' : Nat) (hu : u < 65536) (hx : x < 256) (hy : y < 256) (hx' : x' < 256) (hy' : y' < 256) (e : more u [x, y] = more u [x', y']) : x = x' ∧ y = y' := by
  rw [more_two, more_two, feed_def (feed u x) y, feed_def (feed u x') y'] at e
  have b1 : 256 * y < 65536 := by omega
  have b2 : 256 * y' < 65536 := by omega
  have b3 : 256 * x < 65536 := by omega
  have b4 : 256 * x' < 65536 := by omega
  have e2 : feed u x ^^^ (256 * y) = feed u x' ^^^ (256 * y') := bits_inj 8 _ _ (xor_lt (feed_lt _ _) b1) (xor_lt (feed_lt _ _) b2) e
  have e3 : feed u x ^^^ feed u x' = 256 * (y ^^^ y') := by
    rw [mul_xor]
    generalize feed u x = A at *
    generalize feed u x' = B at *
    generalize 256 * y = C at *
    generalize 256 * y' = D at *
    have h1 : A = B ^^^ D ^^^ C := by rw [← e2, Nat.xor_assoc, Nat.xor_self, Nat.xor_zero]
    rw [h1, Nat.xor_assoc, Nat.xor_assoc, Nat.xor_comm B, Nat.xor_assoc, Nat.xor_assoc, Nat.xor_self, Nat.xor_zero, Nat.xor_comm]
  have hd : x ^^^ x' < 256 := Nat.xor_lt_two_pow (n := 8) hx hx'
  have he : y ^^^ y' < 256 := Nat.xor_lt_two_pow (n := 8) hy hy'
  have e4 : feed u x ^^^ feed u x' = bits 8 (256 * (x ^^^ x')) := by
    rw [feed_def, feed_def, ← bits_xor 8 _ _ (xor_lt hu b3) (xor_lt hu b4), xor_swap, mul_xor]
  rw [e4, ← bits8_low _ he] at e3
  have z : x ^^^ x' = 0 ∧ y ^^^ y' = 0 := by
    generalize x ^^^ x' = d at *
    generalize y ^^^ y' = f at *
    have b5 : 256 * d < 65536 := by omega
    have b6 : f < 65536 := by omega
    have e5 := bits_inj 8 _ _ b5 b6 e3
    omega
  exact ⟨xor_zero_eq z.1, xor_zero_eq z.2⟩
/-- Two lists of bytes that differ at most in two places next to each other, and have one sum, are one. -/
theorem pair_told (s : Nat) (p q : List Nat) (x y x' y' : Nat) (hs : s < 65536) (hq : ∀ b ∈ q, b < 256) (hx : x < 256) (hy : y < 256) (hx' : x' < 256) (hy' : y' < 256)
    (e : more s (p ++ ([x, y] ++ q)) = more s (p ++ ([x', y'] ++ q))) : x = x' ∧ y = y' := by
  rw [more_app, more_app, more_app, more_app] at e
  have h1 := more_lt s p hs
  exact pair_inj _ x y x' y' h1 hx hy hx' hy' (more_inj q _ _ (more_lt _ _ h1) (more_lt _ _ h1) hq e)
end Cr
end Go.Proofs.Ytchnnpaebggfdaa
