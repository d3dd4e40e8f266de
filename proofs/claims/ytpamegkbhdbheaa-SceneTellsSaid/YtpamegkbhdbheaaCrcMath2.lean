/-
  Plain mathematics for layer 3 (crc), in the numbers that Go's text has: bytes as a list of whole numbers, their sum, what is sealed, what is opened. No Go text is reached here. No conditions.
-/
import Derived.Test.YtpamegkbhdbheaaJWordMath2
import Derived.Laws.BitsAllLaws
import Derived.IntWalk
namespace Go.Proofs.Ytpamegkbhdbheaa
set_option maxRecDepth 100000
open Go.RowKit
namespace Cr

/-- Bytes, as whole numbers. -/
def Bytes (l : List Int) : Prop := ∀ n ∈ l, 0 ≤ n ∧ n < 256
theorem bytes_wf {l : List Int} (h : ∀ n ∈ l, (Lit.int .u8 n).wf = true) : Bytes l := by
  intro n hn
  have := h n hn
  simp only [Lit.wf, Bool.and_eq_true, decide_eq_true_eq] at this
  have hmin : IntKind.u8.min = 0 := rfl
  have hmax : IntKind.u8.max = 255 := rfl
  omega
theorem Bytes.take {l : List Int} (h : Bytes l) (k : Nat) : Bytes (l.take k) := fun n hn => h n (List.mem_of_mem_take hn)
theorem Bytes.drop {l : List Int} (h : Bytes l) (k : Nat) : Bytes (l.drop k) := fun n hn => h n (List.mem_of_mem_drop hn)
theorem Bytes.app {l r : List Int} (h : Bytes l) (k : Bytes r) : Bytes (l ++ r) := fun n hn => (List.mem_append.1 hn).elim (h n) (k n)
theorem Bytes.getD {l : List Int} (h : Bytes l) (k : Nat) : 0 ≤ l.getD k 0 ∧ l.getD k 0 < 256 := by
  by_cases hk : k < l.length
  · have : l.getD k 0 = l[k] := by simp [List.getD_eq_getElem?_getD, hk]
    rw [this]; exact h _ (List.getElem_mem _)
  · have : l.getD k 0 = 0 := by simp [List.getD_eq_getElem?_getD, hk]
    rw [this]; omega

def nats (l : List Int) : List Nat := l.map Int.toNat
theorem nats_app (l r : List Int) : nats (l ++ r) = nats l ++ nats r := by unfold nats; exact List.map_append
theorem nats_lt {l : List Int} (h : Bytes l) : ∀ x ∈ nats l, x < 256 := by
  intro x hx
  obtain ⟨n, hn, rfl⟩ := List.mem_map.1 hx
  have := h n hn; omega
/-- What a sum becomes by the first k bytes. -/
def upto (s : Nat) (l : List Int) (k : Nat) : Nat := more s (nats (l.take k))
theorem upto_0 (s : Nat) (l : List Int) : upto s l 0 = s := by unfold upto; rw [List.take_zero]; exact more_nil s
theorem upto_lt (s : Nat) (l : List Int) (k : Nat) (h : s < 65536) : upto s l k < 65536 := more_lt _ _ h
theorem upto_succ (s : Nat) (l : List Int) (k : Nat) (h : k < l.length) : upto s l (k + 1) = feed (upto s l k) (l.getD k 0).toNat := by
  unfold upto
  rw [List.take_succ_eq_append_getElem h, nats_app, more_app, show nats [l[k]] = [l[k].toNat] from rfl, more_cons, more_nil]
  simp [List.getD_eq_getElem?_getD, h]
theorem upto_all (s : Nat) (l : List Int) : upto s l l.length = more s (nats l) := by unfold upto; rw [List.take_of_length_le (Nat.le_refl _)]
/-- The sum of bytes. -/
def sum (l : List Int) : Nat := more 65535 (nats l)
theorem sum_lt (l : List Int) : sum l < 65536 := more_lt _ _ (by omega)
theorem sum_parts (l : List Int) (k : Nat) : more (sum (l.take k)) (nats (l.drop k)) = sum l := by
  unfold sum; rw [← more_app, ← nats_app, List.take_append_drop]
/-- What a sum becomes, or 0. -/
def moreI (s : Int) (l : List Int) : Int := if 0 ≤ s ∧ s ≤ 65535 then (more s.toNat (nats l) : Nat) else 0
theorem moreI_in (s : Nat) (l : List Int) (h : s < 65536) : moreI s l = (more s (nats l) : Nat) := by
  unfold moreI; rw [if_pos (by omega)]; rfl
theorem moreI_out (s : Int) (l : List Int) (h : ¬ (0 ≤ s ∧ s ≤ 65535)) : moreI s l = 0 := by unfold moreI; rw [if_neg h]
/-- The bytes with their sum. -/
def sealed (l : List Int) : List Int := l ++ [((sum l / 256 : Nat) : Int), ((sum l % 256 : Nat) : Int)]
theorem sealed_len (l : List Int) : (sealed l).length = l.length + 2 := by simp [sealed]
theorem sealed_bytes {l : List Int} (h : Bytes l) : Bytes (sealed l) := by
  have := sum_lt l
  refine h.app ?_
  intro n hn
  simp at hn
  rcases hn with rfl | rfl <;> omega
/-- Do the bytes end with their sum? -/
def opens (l : List Int) : Bool := decide (2 ≤ l.length) && decide (l.getD (l.length - 2) 0 = ((sum (l.take (l.length - 2)) / 256 : Nat) : Int)) && decide (l.getD (l.length - 1) 0 = ((sum (l.take (l.length - 2)) % 256 : Nat) : Int))
def opened (l : List Int) : List Int := if opens l then l.take (l.length - 2) else []
theorem opens_iff (l : List Int) : opens l = true ↔ 2 ≤ l.length ∧ l.getD (l.length - 2) 0 = ((sum (l.take (l.length - 2)) / 256 : Nat) : Int) ∧ l.getD (l.length - 1) 0 = ((sum (l.take (l.length - 2)) % 256 : Nat) : Int) := by
  unfold opens; simp only [Bool.and_eq_true, decide_eq_true_eq, and_assoc]
theorem opens_false {l : List Int} (h : ¬ (2 ≤ l.length ∧ l.getD (l.length - 2) 0 = ((sum (l.take (l.length - 2)) / 256 : Nat) : Int) ∧ l.getD (l.length - 1) 0 = ((sum (l.take (l.length - 2)) % 256 : Nat) : Int))) : opens l = false := by
  cases e : opens l
  · rfl
  · exact absurd ((opens_iff l).1 e) h
theorem opened_yes {l : List Int} (h : opens l = true) : opened l = l.take (l.length - 2) := by unfold opened; rw [if_pos h]
theorem opened_no {l : List Int} (h : opens l = false) : opened l = [] := by unfold opened; rw [if_neg (by rw [h]; simp)]
theorem opened_len (l : List Int) : (opened l).length ≤ l.length := by
  unfold opened; split
  · rw [List.length_take]; omega
  · simp
theorem take_getD (l : List Int) (n : Nat) (h : l.length = n + 2) : l = l.take n ++ [l.getD n 0, l.getD (n + 1) 0] := by
  apply List.ext_getElem
  · simp; omega
  · intro i h1 h2
    by_cases hi : i < n
    · rw [List.getElem_append_left (by simp; omega)]; simp
    · rw [List.getElem_append_right (by simp; omega)]
      have : i = n ∨ i = n + 1 := by omega
      rcases this with rfl | rfl
      · simp [List.getD_eq_getElem?_getD, h1, Nat.min_eq_left (show i ≤ l.length by omega)]
      · simp [List.getD_eq_getElem?_getD, h1, Nat.min_eq_left (show n ≤ l.length by omega)]
/-- Bytes open just if their sum is 0 (there are two at least). -/
theorem opens_zero {l : List Int} (hb : Bytes l) (h2 : 2 ≤ l.length) : opens l = true ↔ sum l = 0 := by
  obtain ⟨n, hn⟩ : ∃ n, l.length = n + 2 := ⟨l.length - 2, by omega⟩
  have g1 := hb.getD n
  have g2 := hb.getD (n + 1)
  have e : sum l = more (sum (l.take n)) [(l.getD n 0).toNat, (l.getD (n + 1) 0).toNat] := by
    have e1 := take_getD l n hn
    have e2 := congrArg nats e1
    rw [nats_app] at e2
    show more 65535 (nats l) = _
    rw [e2, more_app]; rfl
  rw [e, open_iff _ _ _ (sum_lt _) (by omega) (by omega), opens_iff, hn, show n + 2 - 2 = n by omega, show n + 2 - 1 = n + 1 by omega]
  constructor
  · rintro ⟨_, q1, q2⟩; omega
  · rintro ⟨q1, q2⟩; omega
theorem sealed_sum (l : List Int) : sum (sealed l) = 0 := by
  have : nats (sealed l) = nats l ++ [sum l / 256, sum l % 256] := by unfold sealed; rw [nats_app]; rfl
  unfold sum at this ⊢
  rw [this, more_app]; exact seal_zero _
theorem sealed_opens {l : List Int} (h : Bytes l) : opens (sealed l) = true := (opens_zero (sealed_bytes h) (by rw [sealed_len]; omega)).2 (sealed_sum l)
theorem sealed_opened {l : List Int} (h : Bytes l) : opened (sealed l) = l := by
  rw [opened_yes (sealed_opens h), sealed_len]; unfold sealed; simp

/-- A byte, with another one added. -/
def plus (x d : Int) : Int := (x + d) % 256
theorem plus_in (x d : Int) : 0 ≤ plus x d ∧ plus x d < 256 := by unfold plus; omega
theorem plus_same {x d : Int} (hd : 0 ≤ d ∧ d < 256) (h : plus x d = x) : d = 0 := by unfold plus at h; omega
/-- Two bytes next to each other, changed. -/
def spoilt (l : List Int) (k : Nat) (d e : Int) : List Int := (l.set k (plus (l.getD k 0) d)).set (k + 1) (plus (l.getD (k + 1) 0) e)
theorem spoilt_len (l : List Int) (k : Nat) (d e : Int) : (spoilt l k d e).length = l.length := by unfold spoilt; simp
theorem split2 (l : List Int) (k : Nat) (x y : Int) (h : k + 1 < l.length) : (l.set k x).set (k + 1) y = l.take k ++ ([x, y] ++ l.drop (k + 2)) := by
  apply List.ext_getElem
  · simp; omega
  · intro i h1 h2
    have hl : i < l.length := by simpa using h1
    by_cases hi : i < k
    · rw [List.getElem_append_left (by simp; omega), List.getElem_set_ne (by omega), List.getElem_set_ne (by omega)]; simp
    · rw [List.getElem_append_right (by simp; omega)]
      have hk : (l.take k).length = k := by simp; omega
      by_cases e1 : i = k
      · subst e1; rw [List.getElem_set_ne (by omega), List.getElem_set_self]; simp [hk]
      · by_cases e2 : i = k + 1
        · subst e2; rw [List.getElem_set_self]; simp [hk]
        · rw [List.getElem_set_ne (by omega), List.getElem_set_ne (by omega), List.getElem_append_right (by simp [hk]; omega)]
          simp only [List.getElem_drop, hk]
          congr 1
          simp; omega
theorem spoilt_bytes {l : List Int} (h : Bytes l) (k : Nat) (d e : Int) (hk : k + 1 < l.length) : Bytes (spoilt l k d e) := by
  unfold spoilt; rw [split2 l k _ _ hk]
  refine (h.take k).app (Bytes.app ?_ (h.drop _))
  intro n hn; simp at hn; rcases hn with rfl | rfl <;> exact plus_in _ _
theorem spoilt_not {l : List Int} (h : Bytes l) (hz : sum l = 0) (k : Nat) (d e : Int) (hk : k + 1 < l.length) (hd : 0 ≤ d ∧ d < 256) (he : 0 ≤ e ∧ e < 256) (hne : ¬ (d = 0 ∧ e = 0)) : opens (spoilt l k d e) = false := by
  cases ho : opens (spoilt l k d e)
  · rfl
  · exfalso
    have hs := (opens_zero (spoilt_bytes h k d e hk) (by rw [spoilt_len]; omega)).1 ho
    have own : l = (l.set k (l.getD k 0)).set (k + 1) (l.getD (k + 1) 0) := by
      apply List.ext_getElem
      · simp
      · intro i h1 h2
        by_cases e2 : i = k + 1
        · subst e2; simp [List.getD_eq_getElem?_getD, h1]
        · rw [List.getElem_set_ne (by omega)]
          by_cases e1 : i = k
          · subst e1; simp [List.getD_eq_getElem?_getD, h1]
          · rw [List.getElem_set_ne (by omega)]
    have e1 := congrArg nats (own.trans (split2 l k _ _ hk))
    have e2 : nats (spoilt l k d e) = _ := congrArg nats (split2 l k (plus (l.getD k 0) d) (plus (l.getD (k + 1) 0) e) hk)
    rw [nats_app, nats_app] at e1 e2
    unfold sum at hz hs
    rw [e1] at hz
    rw [e2] at hs
    have g1 := h.getD k
    have g2 := h.getD (k + 1)
    have p1 := plus_in (l.getD k 0) d
    have p2 := plus_in (l.getD (k + 1) 0) e
    have t := pair_told 65535 (nats (l.take k)) (nats (l.drop (k + 2))) (l.getD k 0).toNat (l.getD (k + 1) 0).toNat (plus (l.getD k 0) d).toNat (plus (l.getD (k + 1) 0) e).toNat (by omega) (nats_lt (h.drop _)) (by omega) (by omega) (by omega) (by omega) (hz.trans hs.symm)
    have q1 : plus (l.getD k 0) d = l.getD k 0 := by omega
    have q2 : plus (l.getD (k + 1) 0) e = l.getD (k + 1) 0 := by omega
    exact hne ⟨plus_same hd q1, plus_same he q2⟩
/-- Go's bit operations on small numbers. -/
theorem ofInt64 (a : Nat) (ha : a < 9223372036854775808) : (BitVec.ofInt 64 (a : Int)).toNat = a := by
  rw [BitVec.toNat_ofInt]; omega
theorem xor_i64_nat (a b : Nat) (ha : a < 65536) (hb : b < 65536) : Go.bits .xor .i64 (a : Int) (b : Int) = ((a ^^^ b : Nat) : Int) := by
  have h := xor_lt ha hb
  show IntKind.i64.wrap ((BitVec.ofInt 64 (a : Int) ^^^ BitVec.ofInt 64 (b : Int)).toNat : Int) = _
  rw [BitVec.toNat_xor, ofInt64 a (by omega), ofInt64 b (by omega), IntKind.wrap_i64]; omega
theorem and_i64_nat (a b : Nat) (ha : a < 9223372036854775808) (hb : b < 9223372036854775808) : Go.bits .and .i64 (a : Int) (b : Int) = ((a &&& b : Nat) : Int) := by
  have h : a &&& b ≤ a := Nat.and_le_left
  show IntKind.i64.wrap ((BitVec.ofInt 64 (a : Int) &&& BitVec.ofInt 64 (b : Int)).toNat : Int) = _
  rw [BitVec.toNat_and, ofInt64 a ha, ofInt64 b hb, IntKind.wrap_i64]; omega
theorem or_i64_nat (a b : Nat) (ha : a < 65536) (hb : b < 65536) : Go.bits .or .i64 (a : Int) (b : Int) = ((a ||| b : Nat) : Int) := by
  have h : a ||| b < 2 ^ 16 := Nat.or_lt_two_pow ha hb
  show IntKind.i64.wrap ((BitVec.ofInt 64 (a : Int) ||| BitVec.ofInt 64 (b : Int)).toNat : Int) = _
  rw [BitVec.toNat_or, ofInt64 a (by omega), ofInt64 b (by omega), IntKind.wrap_i64]; omega
theorem xor_byte (s c : Nat) (hs : s < 65536) (hc : c < 256) : Go.bits .xor .i64 (s : Int) ((c : Int) * 256) = ((s ^^^ (256 * c) : Nat) : Int) := by
  rw [← xor_i64_nat s (256 * c) hs (by omega)]; congr 1; omega
theorem and_low (x : Nat) (h : x < 65536) : Go.bits .and .i64 ((x : Int) * 2) 65535 = ((2 * x % 65536 : Nat) : Int) := by
  have e := and_i64_nat (2 * x) 65535 (by omega) (by omega)
  rw [show (65535 : Nat) = 2 ^ 16 - 1 by decide, Nat.and_two_pow_sub_one_eq_mod] at e
  rw [show (x : Int) * 2 = ((2 * x : Nat) : Int) by omega]
  exact e
theorem and_top (x : Nat) (h : x < 65536) : Go.bits .and .i64 (x : Int) 32768 = if 32768 ≤ x then 32768 else 0 := by
  have e := and_i64_nat x 32768 (by omega) (by omega)
  have q : x &&& 32768 = x % 65536 / 32768 * 32768 := nat_midmask 16 15 x (by decide)
  refine e.trans ?_
  rw [q]
  split <;> omega
theorem top_yes {x : Nat} (h : x < 65536) (k : 32768 ≤ x) : (Go.bits .and .i64 (x : Int) 32768 != 0) = true := by rw [and_top x h, if_pos k]; rfl
theorem top_no {x : Nat} (h : x < 65536) (k : ¬ 32768 ≤ x) : (Go.bits .and .i64 (x : Int) 32768 != 0) = false := by rw [and_top x h, if_neg k]; rfl
theorem bit1_yes {x : Nat} (k : 32768 ≤ x) : bit1 x = (2 * x % 65536) ^^^ 4129 := by unfold bit1; rw [if_pos k]
theorem bit1_no {x : Nat} (k : ¬ 32768 ≤ x) : bit1 x = 2 * x % 65536 := by unfold bit1; rw [if_neg k]
theorem step_yes {x : Nat} (h : x < 65536) (k : 32768 ≤ x) : Go.bits .xor .i64 (Go.bits .and .i64 ((x : Int) * 2) 65535) 4129 = ((bit1 x : Nat) : Int) := by
  rw [and_low x h, bit1_yes k]; exact xor_i64_nat _ 4129 (Nat.mod_lt _ (by omega)) (by omega)
theorem step_no {x : Nat} (h : x < 65536) (k : ¬ 32768 ≤ x) : Go.bits .and .i64 ((x : Int) * 2) 65535 = ((bit1 x : Nat) : Int) := by
  rw [and_low x h, bit1_no k]
theorem or_pair (h l : Int) (hh : 0 ≤ h ∧ h < 256) (hl : 0 ≤ l ∧ l < 256) : Go.bits .or .i64 (h * 256) l = h * 256 + l := by
  obtain ⟨a, rfl⟩ := Int.eq_ofNat_of_zero_le hh.1
  obtain ⟨b, rfl⟩ := Int.eq_ofNat_of_zero_le hl.1
  have e := or_i64_nat (2 ^ 8 * a) b (by omega) (by omega)
  rw [← Nat.two_pow_add_eq_or_of_lt (i := 8) (b := b) (by omega) a] at e
  rw [show (a : Int) * 256 = ((2 ^ 8 * a : Nat) : Int) by omega]
  rw [e]; omega
end Cr
end Go.Proofs.Ytpamegkbhdbheaa
