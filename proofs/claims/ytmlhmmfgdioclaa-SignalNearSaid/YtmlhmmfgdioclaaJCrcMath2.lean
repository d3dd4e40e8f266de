/-
  Plain mathematics for layer 3 (crc): the sum of bytes as a number of 16 bits; part by part; what is sealed has the sum 0; two bytes next to each other, changed, do not leave it so. No Go text is reached here. No conditions.
  Plain mathematics for layer 3 (crc), in the numbers that Go's text has: bytes as a list of whole numbers, their sum, what is sealed, what is opened. No Go text is reached here. No conditions.
-/
import Derived.KernelRfl
import Derived.WalkKit
import Derived.Laws.BitsAllLaws
import Derived.IntWalk
namespace Go.Proofs.Ytmlhmmfgdioclaa
set_option maxRecDepth 100000
open Go.RowKit
namespace Cr

/-- One bit: twice itself, without what is above 16 bits, and crossed with 4129 if the highest bit was 1. -/
def bit1 (s : Nat) : Nat := if 32768 ≤ s then (2 * s % 65536) ^^^ 4129 else 2 * s % 65536
def bits : Nat → Nat → Nat
  | 0, s => s
  | n + 1, s => bit1 (bits n s)
def feed (s b : Nat) : Nat := bits 8 (s ^^^ (256 * b))
def more (s : Nat) (l : List Nat) : Nat := l.foldl feed s

theorem xor_lt {a b : Nat} (ha : a < 65536) (hb : b < 65536) : a ^^^ b < 65536 := Nat.xor_lt_two_pow (n := 16) ha hb
theorem bit1_lt (s : Nat) : bit1 s < 65536 := by
  unfold bit1; split
  · exact xor_lt (Nat.mod_lt _ (by omega)) (by omega)
  · exact Nat.mod_lt _ (by omega)
theorem bits_lt (n s : Nat) (h : s < 65536) : bits n s < 65536 := by
  induction n with
  | zero => exact h
  | succ n _ => exact bit1_lt _
theorem bits_succ (n s : Nat) : bits (n + 1) s = bit1 (bits n s) := rfl
theorem feed_def (s b : Nat) : feed s b = bits 8 (s ^^^ (256 * b)) := by unfold feed; rfl
theorem feed_lt (s b : Nat) : feed s b < 65536 := by
  rw [feed_def, show 8 = 7 + 1 by omega, bits_succ]; exact bit1_lt _
theorem more_nil (s : Nat) : more s [] = s := by unfold more; rw [List.foldl_nil]
theorem more_cons (s b : Nat) (l : List Nat) : more s (b :: l) = more (feed s b) l := by unfold more; rw [List.foldl_cons]
theorem more_two (s x y : Nat) : more s [x, y] = feed (feed s x) y := by rw [more_cons, more_cons, more_nil]
theorem more_lt (s : Nat) (l : List Nat) (h : s < 65536) : more s l < 65536 := by
  induction l generalizing s with
  | nil => rw [more_nil]; exact h
  | cons b t ih => rw [more_cons]; exact ih _ (feed_lt _ _)
theorem more_app (s : Nat) (l r : List Nat) : more s (l ++ r) = more (more s l) r := by unfold more; exact List.foldl_append ..

/-- The highest bit, as a test. -/
theorem high (s : Nat) (h : s < 65536) : 32768 ≤ s ↔ s.testBit 15 = true := by
  rw [Nat.testBit_eq_decide_div_mod_eq]
  simp; omega
theorem two_mod (a b : Nat) : 2 * (a ^^^ b) % 65536 = (2 * a % 65536) ^^^ (2 * b % 65536) := by
  rw [← Nat.xor_mod_two_pow (n := 16)]
  congr 1
  have := Nat.shiftLeft_xor_distrib (a := a) (b := b) (i := 1)
  simpa [Nat.shiftLeft_eq, Nat.mul_comm] using this
theorem bit1_xor (a b : Nat) (ha : a < 65536) (hb : b < 65536) : bit1 (a ^^^ b) = bit1 a ^^^ bit1 b := by
  have h := high (a ^^^ b) (xor_lt ha hb)
  rw [Nat.testBit_xor] at h
  have h1 := high a ha
  have h2 := high b hb
  unfold bit1
  rw [two_mod]
  by_cases c1 : 32768 ≤ a <;> by_cases c2 : 32768 ≤ b
  · have n : ¬ 32768 ≤ a ^^^ b := by rw [h, h1.1 c1, h2.1 c2]; simp
    rw [if_neg n, if_pos c1, if_pos c2]
    rw [Nat.xor_assoc, Nat.xor_comm 4129, Nat.xor_assoc, Nat.xor_self, Nat.xor_zero]
  · have t2 : b.testBit 15 = false := by cases e : b.testBit 15; rfl; exact absurd (h2.2 e) c2
    have n : 32768 ≤ a ^^^ b := by rw [h, h1.1 c1, t2]; rfl
    rw [if_pos n, if_pos c1, if_neg c2, Nat.xor_assoc, Nat.xor_assoc, Nat.xor_comm 4129]
  · have t1 : a.testBit 15 = false := by cases e : a.testBit 15; rfl; exact absurd (h1.2 e) c1
    have n : 32768 ≤ a ^^^ b := by rw [h, t1, h2.1 c2]; rfl
    rw [if_pos n, if_neg c1, if_pos c2, Nat.xor_assoc]
  · have t1 : a.testBit 15 = false := by cases e : a.testBit 15; rfl; exact absurd (h1.2 e) c1
    have t2 : b.testBit 15 = false := by cases e : b.testBit 15; rfl; exact absurd (h2.2 e) c2
    have n : ¬ 32768 ≤ a ^^^ b := by rw [h, t1, t2]; simp
    rw [if_neg n, if_neg c1, if_neg c2]
theorem xor_zero_eq {a b : Nat} (h : a ^^^ b = 0) : a = b := by
  have : a ^^^ b ^^^ b = b := by rw [h, Nat.zero_xor]
  rwa [Nat.xor_assoc, Nat.xor_self, Nat.xor_zero] at this
theorem bit1_zero {s : Nat} (h : s < 65536) (e : bit1 s = 0) : s = 0 := by
  unfold bit1 at e
  split at e
  · have := xor_zero_eq e; omega
  · omega
theorem bits_xor (n a b : Nat) (ha : a < 65536) (hb : b < 65536) : bits n (a ^^^ b) = bits n a ^^^ bits n b := by
  induction n with
  | zero => rfl
  | succ n ih => unfold bits; rw [ih, bit1_xor _ _ (bits_lt n a ha) (bits_lt n b hb)]
theorem bits_zero (n s : Nat) (h : s < 65536) (e : bits n s = 0) : s = 0 := by
  induction n with
  | zero => exact e
  | succ n ih => exact ih (bit1_zero (bits_lt n s h) e)
theorem bits_inj (n a b : Nat) (ha : a < 65536) (hb : b < 65536) (e : bits n a = bits n b) : a = b :=
  xor_zero_eq (bits_zero n _ (xor_lt ha hb) (by rw [bits_xor n a b ha hb, e, Nat.xor_self]))
theorem bits_low (n b : Nat) (hb : b < 256) (hn : n ≤ 8) : bits n b = 2 ^ n * b := by
  induction n with
  | zero => simp [bits]
  | succ n ih =>
    unfold bits
    rw [ih (by omega)]
    have h7 : 2 ^ n ≤ 128 := by
      have : n ≤ 7 := by omega
      calc 2 ^ n ≤ 2 ^ 7 := Nat.pow_le_pow_right (by omega) this
        _ = 128 := rfl
    have hm : 2 ^ n * b ≤ 128 * 255 := Nat.mul_le_mul h7 (by omega)
    unfold bit1
    rw [if_neg (by omega), Nat.mod_eq_of_lt (by omega), Nat.pow_succ, Nat.mul_assoc, Nat.mul_left_comm]
theorem bits8_low (b : Nat) (hb : b < 256) : bits 8 b = 256 * b := bits_low 8 b hb (by omega)

theorem xor_high (s : Nat) : s ^^^ (256 * (s / 256)) = s % 256 := by
  have h1 : s = (256 * (s / 256)) ^^^ (s % 256) := by
    have := Nat.two_pow_add_eq_or_of_lt (i := 8) (b := s % 256) (Nat.mod_lt _ (by omega)) (s / 256)
    have h2 : s = 2 ^ 8 * (s / 256) + s % 256 := by omega
    have h3 : (2 ^ 8 * (s / 256)) ^^^ (s % 256) = (2 ^ 8 * (s / 256)) ||| (s % 256) := by
      apply Nat.eq_of_testBit_eq
      intro i
      rw [Nat.testBit_xor, Nat.testBit_or]
      by_cases hi : i < 8
      · have h8 : decide (8 ≤ i) = false := by simp; omega
        rw [Nat.testBit_two_pow_mul, h8]; simp
      · have : (s % 256).testBit i = false := Nat.testBit_lt_two_pow (Nat.lt_of_lt_of_le (Nat.mod_lt _ (by omega)) (show 256 ≤ 2 ^ i from by
          calc 256 = 2 ^ 8 := rfl
            _ ≤ 2 ^ i := Nat.pow_le_pow_right (by omega) (by omega)))
        rw [this]; simp
    rw [← this] at h3
    show s = (2 ^ 8 * (s / 256)) ^^^ (s % 256)
    rw [h3]; exact h2
  calc s ^^^ (256 * (s / 256)) = ((256 * (s / 256)) ^^^ (s % 256)) ^^^ (256 * (s / 256)) := by rw [← h1]
    _ = s % 256 := by rw [Nat.xor_comm, ← Nat.xor_assoc, Nat.xor_self, Nat.zero_xor]

theorem bits8_zero : bits 8 0 = 0 := by decide +kernel
/-- What is sealed has the sum 0. -/
theorem seal_zero (s : Nat) : more s [s / 256, s % 256] = 0 := by
  rw [more_two]
  have h1 : feed s (s / 256) = 256 * (s % 256) := by
    rw [feed_def, xor_high, bits8_low _ (Nat.mod_lt _ (by omega))]
  rw [h1, feed_def, Nat.xor_self, bits8_zero]
theorem split_low (h l : Nat) (hl : l < 256) : l ^^^ (256 * h) = 256 * h + l := by
  have := xor_high (256 * h + l)
  have q1 : (256 * h + l) / 256 = h := by omega
  have q2 : (256 * h + l) % 256 = l := by omega
  rw [q1, q2] at this
  generalize 256 * h + l = m at *
  rw [← this, Nat.xor_assoc, Nat.xor_self, Nat.xor_zero]
/-- Two bytes that make a sum 0 are the sum. -/
theorem open_of_zero (s h l : Nat) (hs : s < 65536) (hh : h < 256) (hl : l < 256) (e : more s [h, l] = 0) : h = s / 256 ∧ l = s % 256 := by
  rw [more_two, feed_def] at e
  have b1 : 256 * l < 65536 := by omega
  have b2 : 256 * h < 65536 := by omega
  have b3 : l < 65536 := by omega
  have h2 : feed s h ^^^ (256 * l) = 0 := bits_zero 8 _ (xor_lt (feed_lt _ _) b1) e
  have h3 : feed s h = 256 * l := xor_zero_eq h2
  rw [← bits8_low l hl, feed_def] at h3
  have h4 : s ^^^ (256 * h) = l := bits_inj 8 _ _ (xor_lt hs b2) b3 h3
  have h5 : s = l ^^^ (256 * h) := by rw [← h4, Nat.xor_assoc, Nat.xor_self, Nat.xor_zero]
  rw [split_low h l hl] at h5
  omega
theorem open_iff (s h l : Nat) (hs : s < 65536) (hh : h < 256) (hl : l < 256) : more s [h, l] = 0 ↔ (h = s / 256 ∧ l = s % 256) :=
  ⟨open_of_zero s h l hs hh hl, fun ⟨e1, e2⟩ => by rw [e1, e2]; exact seal_zero s⟩

theorem feed_inj (x a b : Nat) (ha : a < 65536) (hb : b < 65536) (hx : x < 256) (e : feed a x = feed b x) : a = b := by
  rw [feed_def, feed_def] at e
  have b1 : 256 * x < 65536 := by omega
  have h2 : a ^^^ (256 * x) = b ^^^ (256 * x) := bits_inj 8 _ _ (xor_lt ha b1) (xor_lt hb b1) e
  have : a ^^^ (256 * x) ^^^ (256 * x) = b ^^^ (256 * x) ^^^ (256 * x) := by rw [h2]
  rwa [Nat.xor_assoc, Nat.xor_self, Nat.xor_zero, Nat.xor_assoc, Nat.xor_self, Nat.xor_zero] at this
theorem more_inj (l : List Nat) (a b : Nat) (ha : a < 65536) (hb : b < 65536) (hl : ∀ x ∈ l, x < 256) (e : more a l = more b l) : a = b := by
  induction l generalizing a b with
  | nil => rw [more_nil, more_nil] at e; exact e
  | cons x t ih =>
    rw [more_cons, more_cons] at e
    exact feed_inj x a b ha hb (hl x (List.mem_cons_self ..)) (ih _ _ (feed_lt _ _) (feed_lt _ _) (fun y hy => hl y (List.mem_cons_of_mem _ hy)) e)
theorem mul_xor (x y : Nat) : 256 * (x ^^^ y) = (256 * x) ^^^ (256 * y) := by
  have := Nat.shiftLeft_xor_distrib (a := x) (b := y) (i := 8)
  simpa [Nat.shiftLeft_eq, Nat.mul_comm] using this
theorem xor_swap (u a b : Nat) : (u ^^^ a) ^^^ (u ^^^ b) = a ^^^ b := by
  rw [Nat.xor_comm u a, Nat.xor_assoc, ← Nat.xor_assoc u u, Nat.xor_self, Nat.zero_xor]
/-- Two bytes next to each other are told by what they do to a sum. -/
theorem pair_inj (u x y x' y' : Nat) (hu : u < 65536) (hx : x < 256) (hy : y < 256) (hx' : x' < 256) (hy' : y' < 256) (e : more u [x, y] = more u [x', y']) : x = x' ∧ y = y' := by
  rw [more_two, more_two, feed_def (feed u x) y, feed_def (feed u x') y'] at e
  have b1 : 256 * y < 65536 := by omega
  have b2 : 256 * y' < 65536 := by omega
  have b3 : 256 * x < 65536 := by omega
  have b4 : 256 * x' < 65536 := by omega
  have e2 : feed u x ^^^ (256 * y) = feed u x' ^^^ (256 * y') := bits_inj 8 _ _ (xor_lt (feed_lt _ _) b1) (xor_lt (feed_lt _ _) b2) e
  have e3 : feed u x ^^^ feed u x' = 256 * (y ^^^ y') := by
    rw [mul_xor]
    generalize feed u x = A at *
    generalize feed u x' = B at *
    generalize 256 * y = C at *
    generalize 256 * y' = D at *
    have h1 : A = B ^^^ D ^^^ C := by rw [← e2, Nat.xor_assoc, Nat.xor_self, Nat.xor_zero]
    rw [h1, Nat.xor_assoc, Nat.xor_assoc, Nat.xor_comm B, Nat.xor_assoc, Nat.xor_assoc, Nat.xor_self, Nat.xor_zero, Nat.xor_comm]
  have hd : x ^^^ x' < 256 := Nat.xor_lt_two_pow (n := 8) hx hx'
  have he : y ^^^ y' < 256 := Nat.xor_lt_two_pow (n := 8) hy hy'
  have e4 : feed u x ^^^ feed u x' = bits 8 (256 * (x ^^^ x')) := by
    rw [feed_def, feed_def, ← bits_xor 8 _ _ (xor_lt hu b3) (xor_lt hu b4), xor_swap, mul_xor]
  rw [e4, ← bits8_low _ he] at e3
  have z : x ^^^ x' = 0 ∧ y ^^^ y' = 0 := by
    generalize x ^^^ x' = d at *
    generalize y ^^^ y' = f at *
    have b5 : 256 * d < 65536 := by omega
    have b6 : f < 65536 := by omega
    have e5 := bits_inj 8 _ _ b5 b6 e3
    omega
  exact ⟨xor_zero_eq z.1, xor_zero_eq z.2⟩
/-- Two lists of bytes that differ at most in two places next to each other, and have one sum, are one. -/
theorem pair_told (s : Nat) (p q : List Nat) (x y x' y' : Nat) (hs : s < 65536) (hq : ∀ b ∈ q, b < 256) (hx : x < 256) (hy : y < 256) (hx' : x' < 256) (hy' : y' < 256)
    (e : more s (p ++ ([x, y] ++ q)) = more s (p ++ ([x', y'] ++ q))) : x = x' ∧ y = y' := by
  rw [more_app, more_app, more_app, more_app] at e
  have h1 := more_lt s p hs
  exact pair_inj _ x y x' y' h1 hx hy hx' hy' (more_inj q _ _ (more_lt _ _ h1) (more_lt _ _ h1) hq e)
end Cr
end Go.Proofs.Ytmlhmmfgdioclaa

namespace Go.Proofs.Ytmlhmmfgdioclaa
set_option maxRecDepth 100000
open Go.RowKit
namespace Cr

/-- Bytes, as whole numbers. -/
def Bytes (l : List Int) : Prop := ∀ n ∈ l, 0 ≤ n ∧ n < 256
theorem bytes_wf {l : List Int} (h : ∀ n ∈ l, (Lit.int .u8 n).wf = true) : Bytes l := by
  intro n hn
  have := h n hn
  simp only [Lit.wf, Bool.and_eq_true, decide_eq_true_eq] at this
  have hmin : IntKind.u8.min = 0 := rfl
  have hmax : IntKind.u8.max = 255 := rfl
  omega
theorem Bytes.take {l : List Int} (h : Bytes l) (k : Nat) : Bytes (l.take k) := fun n hn => h n (List.mem_of_mem_take hn)
theorem Bytes.drop {l : List Int} (h : Bytes l) (k : Nat) : Bytes (l.drop k) := fun n hn => h n (List.mem_of_mem_drop hn)
theorem Bytes.app {l r : List Int} (h : Bytes l) (k : Bytes r) : Bytes (l ++ r) := fun n hn => (List.mem_append.1 hn).elim (h n) (k n)
theorem Bytes.getD {l : List Int} (h : Bytes l) (k : Nat) : 0 ≤ l.getD k 0 ∧ l.getD k 0 < 256 := by
  by_cases hk : k < l.length
  · have : l.getD k 0 = l[k] := by simp [List.getD_eq_getElem?_getD, hk]
    rw [this]; exact h _ (List.getElem_mem _)
  · have : l.getD k 0 = 0 := by simp [List.getD_eq_getElem?_getD, hk]
    rw [this]; omega

def nats (l : List Int) : List Nat := l.map Int.toNat
theorem nats_app (l r : List Int) : nats (l ++ r) = nats l ++ nats r := by unfold nats; exact List.map_append
theorem nats_lt {l : List Int} (h : Bytes l) : ∀ x ∈ nats l, x < 256 := by
  intro x hx
  obtain ⟨n, hn, rfl⟩ := List.mem_map.1 hx
  have := h n hn; omega
/-- What a sum becomes by the first k bytes. -/
def upto (s : Nat) (l : List Int) (k : Nat) : Nat := more s (nats (l.take k))
theorem upto_0 (s : Nat) (l : List Int) : upto s l 0 = s := by unfold upto; rw [List.take_zero]; exact more_nil s
theorem upto_lt (s : Nat) (l : List Int) (k : Nat) (h : s < 65536) : upto s l k < 65536 := more_lt _ _ h
theorem upto_succ (s : Nat) (l : List Int) (k : Nat) (h : k < l.length) : upto s l (k + 1) = feed (upto s l k) (l.getD k 0).toNat := by
  unfold upto
  rw [List.take_succ_eq_append_getElem h, nats_app, more_app, show nats [l[k]] = [l[k].toNat] from rfl, more_cons, more_nil]
  simp [List.getD_eq_getElem?_getD, h]
theorem upto_all (s : Nat) (l : List Int) : upto s l l.length = more s (nats l) := by unfold upto; rw [List.take_of_length_le (Nat.le_refl _)]
/-- The sum of bytes. -/
def sum (l : List Int) : Nat := more 65535 (nats l)
theorem sum_lt (l : List Int) : sum l < 65536 := more_lt _ _ (by omega)
theorem sum_parts (l : List Int) (k : Nat) : more (sum (l.take k)) (nats (l.drop k)) = sum l := by
  unfold sum; rw [← more_app, ← nats_app, List.take_append_drop]
/-- What a sum becomes, or 0. -/
def moreI (s : Int) (l : List Int) : Int := if 0 ≤ s ∧ s ≤ 65535 then (more s.toNat (nats l) : Nat) else 0
theorem moreI_in (s : Nat) (l : List Int) (h : s < 65536) : moreI s l = (more s (nats l) : Nat) := by
  unfold moreI; rw [if_pos (by omega)]; rfl
theorem moreI_out (s : Int) (l : List Int) (h : ¬ (0 ≤ s ∧ s ≤ 65535)) : moreI s l = 0 := by unfold moreI; rw [if_neg h]
/-- The bytes with their sum. -/
def sealed (l : List Int) : List Int := l ++ [((sum l / 256 : Nat) : Int), ((sum l % 256 : Nat) : Int)]
theorem sealed_len (l : List Int) : (sealed l).length = l.length + 2 := by simp [sealed]
theorem sealed_bytes {l : List Int} (h : Bytes l) : Bytes (sealed l) := by
  have := sum_lt l
  refine h.app ?_
  intro n hn
  simp at hn
  rcases hn with rfl | rfl <;> omega
/-- Do the bytes end with their sum? -/
def opens (l : List Int) : Bool := decide (2 ≤ l.length) && decide (l.getD (l.length - 2) 0 = ((sum (l.take (l.length - 2)) / 256 : Nat) : Int)) && decide (l.getD (l.length - 1) 0 = ((sum (l.take (l.length - 2)) % 256 : Nat) : Int))
def opened (l : List Int) : List Int := if opens l then l.take (l.length - 2) else []
theorem opens_iff (l : List Int) : opens l = true ↔ 2 ≤ l.length ∧ l.getD (l.length - 2) 0 = ((sum (l.take (l.length - 2)) / 256 : Nat) : Int) ∧ l.getD (l.length - 1) 0 = ((sum (l.take (l.length - 2)) % 256 : Nat) : Int) := by
  unfold opens; simp only [Bool.and_eq_true, decide_eq_true_eq, and_assoc]
theorem opens_false {l : List Int} (h : ¬ (2 ≤ l.length ∧ l.getD (l.length - 2) 0 = ((sum (l.take (l.length - 2)) / 256 : Nat) : Int) ∧ l.getD (l.length - 1) 0 = ((sum (l.take (l.length - 2)) % 256 : Nat) : Int))) : opens l = false := by
  cases e : opens l
  · rfl
  · exact absurd ((opens_iff l).1 e) h
theorem opened_yes {l : List Int} (h : opens l = true) : opened l = l.take (l.length - 2) := by unfold opened; rw [if_pos h]
theorem opened_no {l : List Int} (h : opens l = false) : opened l = [] := by unfold opened; rw [if_neg (by rw [h]; simp)]
theorem opened_len (l : List Int) : (opened l).length ≤ l.length := by
  unfold opened; split
  · rw [List.length_take]; omega
  · simp
theorem take_getD (l : List Int) (n : Nat) (h : l.length = n + 2) : l = l.take n ++ [l.getD n 0, l.getD (n + 1) 0] := by
  apply List.ext_getElem
  · simp; omega
  · intro i h1 h2
    by_cases hi : i < n
    · rw [List.getElem_append_left (by simp; omega)]; simp
    · rw [List.getElem_append_right (by simp; omega)]
      have : i = n ∨ i = n + 1 := by omega
      rcases this with rfl | rfl
      · simp [List.getD_eq_getElem?_getD, h1, Nat.min_eq_left (show i ≤ l.length by omega)]
      · simp [List.getD_eq_getElem?_getD, h1, Nat.min_eq_left (show n ≤ l.length by omega)]
/-- Bytes open just if their sum is 0 (there are two at least). -/
theorem opens_zero {l : List Int} (hb : Bytes l) (h2 : 2 ≤ l.length) : opens l = true ↔ sum l = 0 := by
  obtain ⟨n, hn⟩ : ∃ n, l.length = n + 2 := ⟨l.length - 2, by omega⟩
  have g1 := hb.getD n
  have g2 := hb.getD (n + 1)
  have e : sum l = more (sum (l.take n)) [(l.getD n 0).toNat, (l.getD (n + 1) 0).toNat] := by
    have e1 := take_getD l n hn
    have e2 := congrArg nats e1
    rw [nats_app] at e2
    show more 65535 (nats l) = _
    rw [e2, more_app]; rfl
  rw [e, open_iff _ _ _ (sum_lt _) (by omega) (by omega), opens_iff, hn, show n + 2 - 2 = n by omega, show n + 2 - 1 = n + 1 by omega]
  constructor
  · rintro ⟨_, q1, q2⟩; omega
  · rintro ⟨q1, q2⟩; omega
theorem sealed_sum (l : List Int) : sum (sealed l) = 0 := by
  have : nats (sealed l) = nats l ++ [sum l / 256, sum l % 256] := by unfold sealed; rw [nats_app]; rfl
  unfold sum at this ⊢
  rw [this, more_app]; exact seal_zero _
theorem sealed_opens {l : List Int} (h : Bytes l) : opens (sealed l) = true := (opens_zero (sealed_bytes h) (by rw [sealed_len]; omega)).2 (sealed_sum l)
theorem sealed_opened {l : List Int} (h : Bytes l) : opened (sealed l) = l := by
  rw [opened_yes (sealed_opens h), sealed_len]; unfold sealed; simp

/-- A byte, with another one added. -/
def plus (x d : Int) : Int := (x + d) % 256
theorem plus_in (x d : Int) : 0 ≤ plus x d ∧ plus x d < 256 := by unfold plus; omega
theorem plus_same {x d : Int} (hd : 0 ≤ d ∧ d < 256) (h : plus x d = x) : d = 0 := by unfold plus at h; omega
/-- Two bytes next to each other, changed. -/
def spoilt (l : List Int) (k : Nat) (d e : Int) : List Int := (l.set k (plus (l.getD k 0) d)).set (k + 1) (plus (l.getD (k + 1) 0) e)
theorem spoilt_len (l : List Int) (k : Nat) (d e : Int) : (spoilt l k d e).length = l.length := by unfold spoilt; simp
theorem split2 (l : List Int) (k : Nat) (x y : Int) (h : k + 1 < l.length) : (l.set k x).set (k + 1) y = l.take k ++ ([x, y] ++ l.drop (k + 2)) := by
  apply List.ext_getElem
  · simp; omega
  · intro i h1 h2
    have hl : i < l.length := by simpa using h1
    by_cases hi : i < k
    · rw [List.getElem_append_left (by simp; omega), List.getElem_set_ne (by omega), List.getElem_set_ne (by omega)]; simp
    · rw [List.getElem_append_right (by simp; omega)]
      have hk : (l.take k).length = k := by simp; omega
      by_cases e1 : i = k
      · subst e1; rw [List.getElem_set_ne (by omega), List.getElem_set_self]; simp [hk]
      · by_cases e2 : i = k + 1
        · subst e2; rw [List.getElem_set_self]; simp [hk]
        · rw [List.getElem_set_ne (by omega), List.getElem_set_ne (by omega), List.getElem_append_right (by simp [hk]; omega)]
          simp only [List.getElem_drop, hk]
          congr 1
          simp; omega
theorem spoilt_bytes {l : List Int} (h : Bytes l) (k : Nat) (d e : Int) (hk : k + 1 < l.length) : Bytes (spoilt l k d e) := by
  unfold spoilt; rw [split2 l k _ _ hk]
  refine (h.take k).app (Bytes.app ?_ (h.drop _))
  intro n hn; simp at hn; rcases hn with rfl | rfl <;> exact plus_in _ _
theorem spoilt_not {l : List Int} (h : Bytes l) (hz : sum l = 0) (k : Nat) (d e : Int) (hk : k + 1 < l.length) (hd : 0 ≤ d ∧ d < 256) (he : 0 ≤ e ∧ e < 256) (hne : ¬ (d = 0 ∧ e = 0)) : opens (spoilt l k d e) = false := by
  cases ho : opens (spoilt l k d e)
  · rfl
  · exfalso
    have hs := (opens_zero (spoilt_bytes h k d e hk) (by rw [spoilt_len]; omega)).1 ho
    have own : l = (l.set k (l.getD k 0)).set (k + 1) (l.getD (k + 1) 0) := by
      apply List.ext_getElem
      · simp
      · intro i h1 h2
        by_cases e2 : i = k + 1
        · subst e2; simp [List.getD_eq_getElem?_getD, h1]
        · rw [List.getElem_set_ne (by omega)]
          by_cases e1 : i = k
          · subst e1; simp [List.getD_eq_getElem?_getD, h1]
          · rw [List.getElem_set_ne (by omega)]
    have e1 := congrArg nats (own.trans (split2 l k _ _ hk))
    have e2 : nats (spoilt l k d e) = _ := congrArg nats (split2 l k (plus (l.getD k 0) d) (plus (l.getD (k + 1) 0) e) hk)
    rw [nats_app, nats_app] at e1 e2
    unfold sum at hz hs
    rw [e1] at hz
    rw [e2] at hs
    have g1 := h.getD k
    have g2 := h.getD (k + 1)
    have p1 := plus_in (l.getD k 0) d
    have p2 := plus_in (l.getD (k + 1) 0) e
    have t := pair_told 65535 (nats (l.take k)) (nats (l.drop (k + 2))) (l.getD k 0).toNat (l.getD (k + 1) 0).toNat (plus (l.getD k 0) d).toNat (plus (l.getD (k + 1) 0) e).toNat (by omega) (nats_lt (h.drop _)) (by omega) (by omega) (by omega) (by omega) (hz.trans hs.symm)
    have q1 : plus (l.getD k 0) d = l.getD k 0 := by omega
    have q2 : plus (l.getD (k + 1) 0) e = l.getD (k + 1) 0 := by omega
    exact hne ⟨plus_same hd q1, plus_same he q2⟩
/-- Go's bit operations on small numbers. -/
theorem ofInt64 (a : Nat) (ha : a < 9223372036854775808) : (BitVec.ofInt 64 (a : Int)).toNat = a := by
  rw [BitVec.toNat_ofInt]; omega
theorem xor_i64_nat (a b : Nat) (ha : a < 65536) (hb : b < 65536) : Go.bits .xor .i64 (a : Int) (b : Int) = ((a ^^^ b : Nat) : Int) := by
  have h := xor_lt ha hb
  show IntKind.i64.wrap ((BitVec.ofInt 64 (a : Int) ^^^ BitVec.ofInt 64 (b : Int)).toNat : Int) = _
  rw [BitVec.toNat_xor, ofInt64 a (by omega), ofInt64 b (by omega), IntKind.wrap_i64]; omega
theorem and_i64_nat (a b : Nat) (ha : a < 9223372036854775808) (hb : b < 9223372036854775808) : Go.bits .and .i64 (a : Int) (b : Int) = ((a &&& b : Nat) : Int) := by
  have h : a &&& b ≤ a := Nat.and_le_left
  show IntKind.i64.wrap ((BitVec.ofInt 64 (a : Int) &&& BitVec.ofInt 64 (b : Int)).toNat : Int) = _
  rw [BitVec.toNat_and, ofInt64 a ha, ofInt64 b hb, IntKind.wrap_i64]; omega
theorem or_i64_nat (a b : Nat) (ha : a < 65536) (hb : b < 65536) : Go.bits .or .i64 (a : Int) (b : Int) = ((a ||| b : Nat) : Int) := by
  have h : a ||| b < 2 ^ 16 := Nat.or_lt_two_pow ha hb
  show IntKind.i64.wrap ((BitVec.ofInt 64 (a : Int) ||| BitVec.ofInt 64 (b : Int)).toNat : Int) = _
  rw [BitVec.toNat_or, ofInt64 a (by omega), ofInt64 b (by omega), IntKind.wrap_i64]; omega
theorem xor_byte (s c : Nat) (hs : s < 65536) (hc : c < 256) : Go.bits .xor .i64 (s : Int) ((c : Int) * 256) = ((s ^^^ (256 * c) : Nat) : Int) := by
  rw [← xor_i64_nat s (256 * c) hs (by omega)]; congr 1; omega
theorem and_low (x : Nat) (h : x < 65536) : Go.bits .and .i64 ((x : Int) * 2) 65535 = ((2 * x % 65536 : Nat) : Int) := by
  have e := and_i64_nat (2 * x) 65535 (by omega) (by omega)
  rw [show (65535 : Nat) = 2 ^ 16 - 1 by decide, Nat.and_two_pow_sub_one_eq_mod] at e
  rw [show (x : Int) * 2 = ((2 * x : Nat) : Int) by omega]
  exact e
theorem and_top (x : Nat) (h : x < 65536) : Go.bits .and .i64 (x : Int) 32768 = if 32768 ≤ x then 32768 else 0 := by
  have e := and_i64_nat x 32768 (by omega) (by omega)
  have q : x &&& 32768 = x % 65536 / 32768 * 32768 := nat_midmask 16 15 x (by decide)
  refine e.trans ?_
  rw [q]
  split <;> omega
theorem top_yes {x : Nat} (h : x < 65536) (k : 32768 ≤ x) : (Go.bits .and .i64 (x : Int) 32768 != 0) = true := by rw [and_top x h, if_pos k]; rfl
theorem top_no {x : Nat} (h : x < 65536) (k : ¬ 32768 ≤ x) : (Go.bits .and .i64 (x : Int) 32768 != 0) = false := by rw [and_top x h, if_neg k]; rfl
theorem bit1_yes {x : Nat} (k : 32768 ≤ x) : bit1 x = (2 * x % 65536) ^^^ 4129 := by unfold bit1; rw [if_pos k]
theorem bit1_no {x : Nat} (k : ¬ 32768 ≤ x) : bit1 x = 2 * x % 65536 := by unfold bit1; rw [if_neg k]
theorem step_yes {x : Nat} (h : x < 65536) (k : 32768 ≤ x) : Go.bits .xor .i64 (Go.bits .and .i64 ((x : Int) * 2) 65535) 4129 = ((bit1 x : Nat) : Int) := by
  rw [and_low x h, bit1_yes k]; exact xor_i64_nat _ 4129 (Nat.mod_lt _ (by omega)) (by omega)
theorem step_no {x : Nat} (h : x < 65536) (k : ¬ 32768 ≤ x) : Go.bits .and .i64 ((x : Int) * 2) 65535 = ((bit1 x : Nat) : Int) := by
  rw [and_low x h, bit1_no k]
theorem or_pair (h l : Int) (hh : 0 ≤ h ∧ h < 256) (hl : 0 ≤ l ∧ l < 256) : Go.bits .or .i64 (h * 256) l = h * 256 + l := by
  obtain ⟨a, rfl⟩ := Int.eq_ofNat_of_zero_le hh.1
  obtain ⟨b, rfl⟩ := Int.eq_ofNat_of_zero_le hl.1
  have e := or_i64_nat (2 ^ 8 * a) b (by omega) (by omega)
  rw [← Nat.two_pow_add_eq_or_of_lt (i := 8) (b := b) (by omega) a] at e
  rw [show (a : Int) * 256 = ((2 ^ 8 * a : Nat) : Int) by omega]
  rw [e]; omega
end Cr
end Go.Proofs.Ytmlhmmfgdioclaa
