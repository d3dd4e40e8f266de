/-
  Plain mathematics for layer 3 (crc), in the numbers that Go's text has: bytes as a list of whole numbers, their sum, what is sealed, what is opened. No Go text is reached here. No conditions.
  Plain mathematics for layer 4 (word), in the numbers that Go's text has: bytes read one by one, bytes written one by one, a row that is filled piece by piece. No Go text is reached here. No conditions.
  Plain mathematics for layer 5 (frame): a frame's bytes, the reject of bytes, the frame of bytes; there and back; one byte changed. No Go text is reached here. No conditions.
-/
import Derived.Test.YtchnnpaebggfdaaJWordMath2
import Derived.Laws.BitsAllLaws
import Derived.IntWalk
import Derived.Laws.CopyOwn
namespace Go.Proofs.Ytchnnpaebggfdaa
set_option maxRecDepth 100000
open Go.RowKit
namespace Cr
/-- Bytes, as whole numbers. -/
def Bytes (l : List Int) : Prop := ∀ n ∈ l, 0 ≤ n ∧ n < 256
theorem bytes_wf {l : List Int} (h : ∀ n ∈ l, (Lit.int .u8 n).wf = true) : Bytes l := by
  intro n hn
  have := h n hn
  simp only [Lit.wf, Bool.and_eq_true, decide_eq_true_eq] at this
  have hmin : IntKind.u8.min = 0 := rfl
  have hmax : IntKind.u8.max = 255 := rfl
  omega
theorem Bytes.take {l : List Int} (h : Bytes l) (k : Nat) : Bytes (l.take k) := fun n hn => h n (List.mem_of_mem_take hn)
theorem Bytes.drop {l : List Int} (h : Bytes l) (k : Nat) : Bytes (l.drop k) := fun n hn => h n (List.mem_of_mem_drop hn)
theorem Bytes.app {l r : List Int} (h : Bytes l) (k : Bytes r) : Bytes (l ++ r) := fun n hn => (List.mem_append.1 hn).elim (h n) (k n)
theorem Bytes.getD {l : List Int} (h : Bytes l) (k : Nat) : 0 ≤ l.getD k 0 ∧ l.getD k 0 < 256 := by
  by_cases hk : k < l.length
  · have : l.getD k 0 = l[k] := by simp [List.getD_eq_getElem?_getD, hk]
    rw [this]; exact h _ (List.getElem_mem _)
  · have : l.getD k 0 = 0 := by simp [List.getD_eq_getElem?_getD, hk]
    rw [this]; omega
def nats (l : List Int) : List Nat := l.map Int.toNat
theorem nats_app (l r : List Int) : nats (l ++ r) = nats l ++ nats r := by unfold nats; exact List.map_append
theorem nats_lt {l : List Int} (h : Bytes l) : ∀ x ∈ nats l, x < 256 := by
  intro x hx
  obtain ⟨n, hn, rfl⟩ := List.mem_map.1 hx
  have := h n hn; omega
/-- What a sum becomes by the first k bytes. -/
def upto (s : Nat) (l : List Int) (k : Nat) : Nat := more s (nats (l.take k))
theorem upto_0 (s : Nat) (l : List Int) : upto s l 0 = s := by unfold upto; rw [List.take_zero]; exact more_nil s
theorem upto_lt (s : Nat) (l : List Int) (k : Nat) (h : s < 65536) : upto s l k < 65536 := more_lt _ _ h
theorem upto_succ (s : Nat) (l : List Int) (k : Nat) (h : k < l.length) : upto s l (k + 1) = feed (upto s l k) (l.getD k 0).toNat := by
  unfold upto
  rw [List.take_succ_eq_append_getElem h, nats_app, more_app, show nats [l[k]] = [l[k].toNat] from rfl, more_cons, more_nil]
  simp [List.getD_eq_getElem?_getD, h]
theorem upto_all (s : Nat) (l : List Int) : upto s l l.length = more s (nats l) := by unfold upto; rw [List.take_of_length_le (Nat.le_refl _)]
/-- The sum of bytes. -/
def sum (l : List Int) : Nat := more 65535 (nats l)
theorem sum_lt (l : List Int) : sum l < 65536 := more_lt _ _ (by omega)
/-- What a sum becomes, or 0. -/
def moreI (s : Int) (l : List Int) : Int := if 0 ≤ s ∧ s ≤ 65535 then (more s.toNat (nats l) : Nat) else 0
theorem moreI_in (s : Nat) (l : List Int) (h : s < 65536) : moreI s l = (more s (nats l) : Nat) := by
  unfold moreI; rw [if_pos (by omega)]; rfl
theorem moreI_out (s : Int) (l : List Int) (h : ¬ (0 ≤ s ∧ s ≤ 65535)) : moreI s l = 0 := by unfold moreI; rw [if_neg h]
/-- The bytes with their sum. -/
def sealed (l : List Int) : List Int := l ++ [((sum l / 256 : Nat) : Int), ((sum l % 256 : Nat) : Int)]
theorem sealed_len (l : List Int) : (sealed l).length = l.length + 2 := by simp [sealed]
theorem sealed_bytes {l : List Int} (h : Bytes l) : Bytes (sealed l) := by
  have := sum_lt l
  refine h.app ?_
  intro n hn
  simp at hn
  rcases hn with rfl | rfl <;> omega
/-- Do the bytes end with their sum? -/
def opens (l : List Int) : Bool := decide (2 ≤ l.length) && decide (l.getD (l.length - 2) 0 = ((sum (l.take (l.length - 2)) / 256 : Nat) : Int)) && decide (l.getD (l.length - 1) 0 = ((sum (l.take (l.length - 2)) % 256 : Nat) : Int))
def opened (l : List Int) : List Int := if opens l then l.take (l.length - 2) else []
theorem opens_iff (l : List Int) : opens l = true ↔ 2 ≤ l.length ∧ l.getD (l.length - 2) 0 = ((sum (l.take (l.length - 2)) / 256 : Nat) : Int) ∧ l.getD (l.length - 1) 0 = ((sum (l.take (l.length - 2)) % 256 : Nat) : Int) := by
  unfold opens; simp only [Bool.and_eq_true, decide_eq_true_eq, and_assoc]
theorem opens_false {l : List Int} (h : ¬ (2 ≤ l.length ∧ l.getD (l.length - 2) 0 = ((sum (l.take (l.length - 2)) / 256 : Nat) : Int) ∧ l.getD (l.length - 1) 0 = ((sum (l.take (l.length - 2)) % 256 : Nat) : Int))) : opens l = false := by
  cases e : opens l
  · rfl
  · exact absurd ((opens_iff l).1 e) h
theorem opened_yes {l : List Int} (h : opens l = true) : opened l = l.take (l.length - 2) := by unfold opened; rw [if_pos h]
theorem opened_no {l : List Int} (h : opens l = false) : opened l = [] := by unfold opened; rw [if_neg (by rw [h]; simp)]
theorem take_getD (l : List Int) (n : Nat) (h : l.length = n + 2) : l = l.take n ++ [l.getD n 0, l.getD (n + 1) 0] := by
  apply List.ext_getElem
  · simp; omega
  · intro i h1 h2
    by_cases hi : i < n
    · rw [List.getElem_append_left (by simp; omega)]; simp
    · rw [List.getElem_append_right (by simp; omega)]
      have : i = n ∨ i = n + 1 := by omega
      rcases this with rfl | rfl
      · simp [List.getD_eq_getElem?_getD, h1, Nat.min_eq_left (show i ≤ l.length by omega)]
      · simp [List.getD_eq_getElem?_getD, h1, Nat.min_eq_left (show n ≤ l.length by omega)]
/-- Bytes open just if their sum is 0 (there are two at least). -/
theorem opens_zero {l : List Int} (hb : Bytes l) (h2 : 2 ≤ l.length) : opens l = true ↔ sum l = 0 := by
  obtain ⟨n, hn⟩ : ∃ n, l.length = n + 2 := ⟨l.length - 2, by omega⟩
  have g1 := hb.getD n
  have g2 := hb.getD (n + 1)
  have e : sum l = more (sum (l.take n)) [(l.getD n 0).toNat, (l.getD (n + 1) 0).toNat] := by
    have e1 := take_getD l n hn
    have e2 := congrArg nats e1
    rw [nats_app] at e2
    show more 65535 (nats l) = _
    rw [e2, more_app]; rfl
  rw [e, open_iff _ _ _ (sum_lt _) (by omega) (by omega), opens_iff, hn, show n + 2 - 2 = n by omega, show n + 2 - 1 = n + 1 by omega]
  constructor
  · rintro ⟨_, q1, q2⟩; omega
  · rintro ⟨q1, q2⟩; omega
theorem sealed_sum (l : List Int) : sum (sealed l) = 0 := by
  have : nats (sealed l) = nats l ++ [sum l / 256, sum l % 256] := by unfold sealed; rw [nats_app]; rfl
  unfold sum at this ⊢
  rw [this, more_app]; exact seal_zero _
theorem sealed_opens {l : List Int} (h : Bytes l) : opens (sealed l) = true := (opens_zero (sealed_bytes h) (by rw [sealed_len]; omega)).2 (sealed_sum l)
theorem sealed_opened {l : List Int} (h : Bytes l) : opened (sealed l) = l := by
  rw [opened_yes (sealed_opens h), sealed_len]; unfold sealed; simp
/-- A byte, with another one added. -/
def plus (x d : Int) : Int := (x + d) % 256
theorem plus_in (x d : Int) : 0 ≤ plus x d ∧ plus x d < 256 := by unfold plus; omega
theorem plus_same {x d : Int} (hd : 0 ≤ d ∧ d < 256) (h : plus x d = x) : d = 0 := by unfold plus at h; omega
/-- Two bytes next to each other, changed. -/
def spoilt (l : List Int) (k : Nat) (d e : Int) : List Int := (l.set k (plus (l.getD k 0) d)).set (k + 1) (plus (l.getD (k + 1) 0) e)
theorem spoilt_len (l : List Int) (k : Nat) (d e : Int) : (spoilt l k d e).length = l.length := by unfold spoilt; simp
theorem split2 (l : List Int) (k : Nat) (x y : Int) (h : k + 1 < l.length) : (l.set k x).set (k + 1) y = l.take k ++ ([x, y] ++ l.drop (k + 2)) := by
  apply List.ext_getElem
  · simp; omega
  · intro i h1 h2
    have hl : i < l.length := by simpa using h1
    by_cases hi : i < k
    · rw [List.getElem_append_left (by simp; omega), List.getElem_set_ne (by omega), List.getElem_set_ne (by omega)]; simp
    · rw [List.getElem_append_right (by simp; omega)]
      have hk : (l.take k).length = k := by simp; omega
      by_cases e1 : i = k
      · subst e1; rw [List.getElem_set_ne (by omega), List.getElem_set_self]; simp [hk]
      · by_cases e2 : i = k + 1
        · subst e2; rw [List.getElem_set_self]; simp [hk]
        · rw [List.getElem_set_ne (by omega), List.getElem_set_ne (by omega), List.getElem_append_right (by simp [hk]; omega)]
          simp only [List.getElem_drop, hk]
          congr 1
          simp; omega
theorem spoilt_bytes {l : List Int} (h : Bytes l) (k : Nat) (d e : Int) (hk : k + 1 < l.length) : Bytes (spoilt l k d e) := by
  unfold spoilt; rw [split2 l k _ _ hk]
  refine (h.take k).app (Bytes.app ?_ (h.drop _))
  intro n hn; simp at hn; rcases hn with rfl | rfl <;> exact plus_in _ _
theorem spoilt_not {l : List Int} (h : Bytes l) (hz : sum l = 0) (k : Nat) (d e : Int) (hk : k + 1 < l.length) (hd : 0 ≤ d ∧ d < 256) (he : 0 ≤ e ∧ e < 256) (hne : ¬ (d = 0 ∧ e = 0)) : opens (spoilt l k d e) = false := by
  cases ho : opens (spoilt l k d e)
  · rfl
  · exfalso
    have hs := (opens_zero (spoilt_bytes h k d e hk) (by rw [spoilt_len]; omega)).1 ho
    have own : l = (l.set k (l.getD k 0)).set (k + 1) (l.getD (k + 1) 0) := by
      apply List.ext_getElem
      · simp
      · intro i h1 h2
        by_cases e2 : i = k + 1
        · subst e2; simp [List.getD_eq_getElem?_getD, h1]
        · rw [List.getElem_set_ne (by omega)]
          by_cases e1 : i = k
          · subst e1; simp [List.getD_eq_getElem?_getD, h1]
          · rw [List.getElem_set_ne (by omega)]
    have e1 := congrArg nats (own.trans (split2 l k _ _ hk))
    have e2 : nats (spoilt l k d e) = _ := congrArg nats (split2 l k (plus (l.getD k 0) d) (plus (l.getD (k + 1) 0) e) hk)
    rw [nats_app, nats_app] at e1 e2
    unfold sum at hz hs
    rw [e1] at hz
    rw [e2] at hs
    have g1 := h.getD k
    have g2 := h.getD (k + 1)
    have p1 := plus_in (l.getD k 0) d
    have p2 := plus_in (l.getD (k + 1) 0) e
    have t := pair_told 65535 (nats (l.take k)) (nats (l.drop (k + 2))) (l.getD k 0).toNat (l.getD (k + 1) 0).toNat (plus (l.getD k 0) d).toNat (plus (l.getD (k + 1) 0) e).toNat (by omega) (nats_lt (h.drop _)) (by omega) (by omega) (by omega) (by omega) (hz.trans hs.symm)
    have q1 : plus (l.getD k 0) d = l.getD k 0 := by omega
    have q2 : plus (l.getD (k + 1) 0) e = l.getD (k + 1) 0 := by omega
    exact hne ⟨plus_same hd q1, plus_same he q2⟩
/-- Go's bit operations on small numbers. -/
theorem ofInt64 (a : Nat) (ha : a < 9223372036854775808) : (BitVec.ofInt 64 (a : Int)).toNat = a := by
  rw [BitVec.toNat_ofInt]; omega
theorem xor_i64_nat (a b : Nat) (ha : a < 65536) (hb : b < 65536) : Go.bits .xor .i64 (a : Int) (b : Int) = ((a ^^^ b : Nat) : Int) := by
  have h := xor_lt ha hb
  show IntKind.i64.wrap ((BitVec.ofInt 64 (a : Int) ^^^ BitVec.ofInt 64 (b : Int)).toNat : Int) = _
  rw [BitVec.toNat_xor, ofInt64 a (by omega), ofInt64 b (by omega), IntKind.wrap_i64]; omega
theorem and_i64_nat (a b : Nat) (ha : a < 9223372036854775808) (hb : b < 9223372036854775808) : Go.bits .and .i64 (a : Int) (b : Int) = ((a &&& b : Nat) : Int) := by
  have h : a &&& b ≤ a := Nat.and_le_left
  show IntKind.i64.wrap ((BitVec.ofInt 64 (a : Int) &&& BitVec.ofInt 64 (b : Int)).toNat : Int) = _
  rw [BitVec.toNat_and, ofInt64 a ha, ofInt64 b hb, IntKind.wrap_i64]; omega
theorem or_i64_nat (a b : Nat) (ha : a < 65536) (hb : b < 65536) : Go.bits .or .i64 (a : Int) (b : Int) = ((a ||| b : Nat) : Int) := by
  have h : a ||| b < 2 ^ 16 := Nat.or_lt_two_pow ha hb
  show IntKind.i64.wrap ((BitVec.ofInt 64 (a : Int) ||| BitVec.ofInt 64 (b : Int)).toNat : Int) = _
  rw [BitVec.toNat_or, ofInt64 a (by omega), ofInt64 b (by omega), IntKind.wrap_i64]; omega
theorem xor_byte (s c : Nat) (hs : s < 65536) (hc : c < 256) : Go.bits .xor .i64 (s : Int) ((c : Int) * 256) = ((s ^^^ (256 * c) : Nat) : Int) := by
  rw [← xor_i64_nat s (256 * c) hs (by omega)]; congr 1; omega
theorem and_low (x : Nat) (h : x < 65536) : Go.bits .and .i64 ((x : Int) * 2) 65535 = ((2 * x % 65536 : Nat) : Int) := by
  have e := and_i64_nat (2 * x) 65535 (by omega) (by omega)
  rw [show (65535 : Nat) = 2 ^ 16 - 1 by decide, Nat.and_two_pow_sub_one_eq_mod] at e
  rw [show (x : Int) * 2 = ((2 * x : Nat) : Int) by omega]
  exact e
theorem and_top (x : Nat) (h : x < 65536) : Go.bits .and .i64 (x : Int) 32768 = if 32768 ≤ x then 32768 else 0 := by
  have e := and_i64_nat x 32768 (by omega) (by omega)
  have q : x &&& 32768 = x % 65536 / 32768 * 32768 := nat_midmask 16 15 x (by decide)
  refine e.trans ?_
  rw [q]
  split <;> omega
theorem top_yes {x : Nat} (h : x < 65536) (k : 32768 ≤ x) : (Go.bits .and .i64 (x : Int) 32768 != 0) = true := by rw [and_top x h, if_pos k]; rfl
theorem top_no {x : Nat} (h : x < 65536) (k : ¬ 32768 ≤ x) : (Go.bits .and .i64 (x : Int) 32768 != 0) = false := by rw [and_top x h, if_neg k]; rfl
theorem bit1_yes {x : Nat} (k : 32768 ≤ x) : bit1 x = (2 * x % 65536) ^^^ 4129 := by unfold bit1; rw [if_pos k]
theorem bit1_no {x : Nat} (k : ¬ 32768 ≤ x) : bit1 x = 2 * x % 65536 := by unfold bit1; rw [if_neg k]
theorem step_yes {x : Nat} (h : x < 65536) (k : 32768 ≤ x) : Go.bits .xor .i64 (Go.bits .and .i64 ((x : Int) * 2) 65535) 4129 = ((bit1 x : Nat) : Int) := by
  rw [and_low x h, bit1_yes k]; exact xor_i64_nat _ 4129 (Nat.mod_lt _ (by omega)) (by omega)
theorem step_no {x : Nat} (h : x < 65536) (k : ¬ 32768 ≤ x) : Go.bits .and .i64 ((x : Int) * 2) 65535 = ((bit1 x : Nat) : Int) := by
  rw [and_low x h, bit1_no k]
theorem or_pair (h l : Int) (hh : 0 ≤ h ∧ h < 256) (hl : 0 ≤ l ∧ l < 256) : Go.bits .or .i64 (h * 256) l = h * 256 + l := by
  obtain ⟨a, rfl⟩ := Int.eq_ofNat_of_zero_le hh.1
  obtain ⟨b, rfl⟩ := Int.eq_ofNat_of_zero_le hl.1
  have e := or_i64_nat (2 ^ 8 * a) b (by omega) (by omega)
  rw [← Nat.two_pow_add_eq_or_of_lt (i := 8) (b := b) (by omega) a] at e
  rw [show (a : Int) * 256 = ((2 ^ 8 * a : Nat) : Int) by omega]
  rw [e]; omega
end Cr
end Go.Proofs.Ytchnnpaebggfdaa

namespace Go.Proofs.Ytchnnpaebggfdaa
set_option maxRecDepth 100000
open Go.RowKit
namespace Wd
open Cr (Bytes)
/-- Go's 'or' of a number moved by eight bits and a byte. -/
theorem or_i64_wide (a b : Nat) (ha : a < 1099511627776) (hb : b < 1099511627776) : Go.bits .or .i64 (a : Int) (b : Int) = ((a ||| b : Nat) : Int) := by
  have h : a ||| b < 2 ^ 40 := Nat.or_lt_two_pow (by omega) (by omega)
  show IntKind.i64.wrap ((BitVec.ofInt 64 (a : Int) ||| BitVec.ofInt 64 (b : Int)).toNat : Int) = _
  rw [BitVec.toNat_or, Cr.ofInt64 a (by omega), Cr.ofInt64 b (by omega), IntKind.wrap_i64]; omega
theorem or_next (h l : Int) (hh : 0 ≤ h ∧ h < 16777216) (hl : 0 ≤ l ∧ l < 256) : Go.bits .or .i64 (h * 256) l = h * 256 + l := by
  obtain ⟨a, rfl⟩ := Int.eq_ofNat_of_zero_le hh.1
  obtain ⟨b, rfl⟩ := Int.eq_ofNat_of_zero_le hl.1
  have e := or_i64_wide (2 ^ 8 * a) b (by omega) (by omega)
  rw [← Nat.two_pow_add_eq_or_of_lt (i := 8) (b := b) (by omega) a] at e
  rw [show (a : Int) * 256 = ((2 ^ 8 * a : Nat) : Int) by omega]
  rw [e]; omega
/-- Bytes, the highest first, as one number. -/
def val (l : List Int) : Int := l.foldl (fun n c => n * 256 + c) 0
theorem val_snoc (l : List Int) (c : Int) : val (l ++ [c]) = val l * 256 + c := by unfold val; rw [List.foldl_append]; rfl
theorem val_next (l : List Int) (k : Nat) (h : k < l.length) : val (l.take (k + 1)) = val (l.take k) * 256 + l.getD k 0 := by
  rw [List.take_succ_eq_append_getElem h, val_snoc]; simp [List.getD_eq_getElem?_getD, h]
theorem val_in {l : List Int} (hy : Bytes l) (k : Nat) (hk : k ≤ l.length) (h4 : k ≤ 4) : 0 ≤ val (l.take k) ∧ val (l.take k) < 4294967296 ∧ (k < 4 → val (l.take k) < 16777216) := by
  have h0 : val (l.take 0) = 0 := by rw [List.take_zero]; rfl
  have s := fun j (hj : j < l.length) => val_next l j hj
  have b := fun j => hy.getD j
  have c : k = 0 ∨ k = 1 ∨ k = 2 ∨ k = 3 ∨ k = 4 := by omega
  rcases c with rfl | rfl | rfl | rfl | rfl
  · omega
  · have s0 := s 0 (by omega); have b0 := b 0; simp only [Nat.zero_add] at s0; omega
  · have s0 := s 0 (by omega); have b0 := b 0; have s1 := s 1 (by omega); have b1 := b 1; simp only [Nat.zero_add, Nat.reduceAdd] at s0 s1; omega
  · have s0 := s 0 (by omega); have b0 := b 0; have s1 := s 1 (by omega); have b1 := b 1; have s2 := s 2 (by omega); have b2 := b 2; simp only [Nat.zero_add, Nat.reduceAdd] at s0 s1 s2; omega
  · have s0 := s 0 (by omega); have b0 := b 0; have s1 := s 1 (by omega); have b1 := b 1; have s2 := s 2 (by omega); have b2 := b 2; have s3 := s 3 (by omega); have b3 := b 3; simp only [Nat.zero_add, Nat.reduceAdd] at s0 s1 s2 s3; omega
theorem val_all (l : List Int) : val (l.take l.length) = val l := by rw [List.take_of_length_le (Nat.le_refl _)]
theorem val_two {l : List Int} (h : l.length = 2) : val l = get2v l := by
  rw [get2v_yes h]
  match l, h with
  | [a, b], _ => show (0 * 256 + a) * 256 + b = 256 * a + b; omega
theorem val_four' {l : List Int} (h : l.length = 4) : down (val l) = get4v l := by
  rw [get4v_yes h]
  match l, h with
  | [a, b, c, d], _ => 
    show down ((((0 * 256 + a) * 256 + b) * 256 + c) * 256 + d) = down (256 * (256 * (256 * a + b) + c) + d)
    congr 1; omega
/-- A number's byte at a place, of so many. -/
def byteAt (n : Int) (s : Nat) : Int := n / ((2 ^ s : Nat) : Int) % 256
def wbytes (n : Int) (m : Nat) : List Int := (List.range m).map fun i => byteAt n (8 * (m - 1 - i))
/-- A row of numbers that is filled one by one, in whatever order. -/
def fillI (l : List Int) (m : Nat) : List Nat → List Int := List.foldl (fun cur i => cur.set i (get4v ((l.drop (4 * i)).take 4))) (List.replicate m 0)
theorem fillI_snoc (l : List Int) (m : Nat) (p : List Nat) (i : Nat) : fillI l m (p ++ [i]) = (fillI l m p).set i (get4v ((l.drop (4 * i)).take 4)) := by unfold fillI; rw [List.foldl_append]; rfl
theorem fillI_len (l : List Int) (m : Nat) (p : List Nat) : (fillI l m p).length = m := by
  have key : ∀ (p : List Nat) (cur : List Int), cur.length = m → (p.foldl (fun cur i => cur.set i (get4v ((l.drop (4 * i)).take 4))) cur).length = m := by
    intro p
    induction p with
    | nil => intro cur hc; exact hc
    | cons i p ih => intro cur hc; rw [List.foldl_cons]; exact ih _ (by rw [List.length_set, hc])
  exact key p _ (by simp)
theorem fillI_range (l : List Int) (m : Nat) (hl : l.length = 4 * m) (k : Nat) (hk : k ≤ m) : fillI l m (List.range k) = nums (l.take (4 * k)) ++ List.replicate (m - k) 0 := by
  induction k with
  | zero => simp [fillI, nums]
  | succ k ih =>
    have hn : (nums (l.take (4 * k))).length = k := nums_len k _ (by rw [List.length_take]; omega)
    rw [List.range_succ, fillI_snoc, ih (by omega), nums_next l k (by omega), List.set_append_right _ _ (by omega), hn, Nat.sub_self]
    obtain ⟨j, hj⟩ : ∃ j, m - k = j + 1 := ⟨m - k - 1, by omega⟩
    rw [hj, List.replicate_succ, List.set_cons_zero, show m - (k + 1) = j by omega]; simp
theorem fillI_all (l : List Int) (m : Nat) (hl : l.length = 4 * m) : fillI l m (List.range m) = getAll l := by
  rw [fillI_range l m hl m (Nat.le_refl _), getAll_yes (by omega), List.take_of_length_le (by omega)]; simp
theorem piece_bytes {l : List Int} (h : Bytes l) (i : Nat) : Bytes ((l.drop (4 * i)).take 4) := (h.drop _).take _
theorem piece_len {l : List Int} {m i : Nat} (hl : l.length = 4 * m) (h : i < m) : ((l.drop (4 * i)).take 4).length = 4 := by rw [List.length_take, List.length_drop]; omega
end Wd
end Go.Proofs.Ytchnnpaebggfdaa

namespace Go.Proofs.Ytchnnpaebggfdaa
set_option maxRecDepth 100000
open Go.RowKit
namespace Fm
open Wd
open Cr (Bytes sealed opens opened sum sealed_len sealed_bytes sealed_opens sealed_sum opens_zero spoilt spoilt_not plus plus_in opens_iff)
/-- May a frame be? Is there such a channel? -/
def right (s : Int) (vs : List Int) : Bool := vs.all in4 && in2 s
def chan (c : Int) : Bool := decide (0 ≤ c) && decide (c ≤ 3)
theorem chan_iff (c : Int) : chan c = true ↔ 0 ≤ c ∧ c ≤ 3 := by unfold chan; simp
theorem right_iff (s : Int) (vs : List Int) : right s vs = true ↔ vs.all in4 = true ∧ in2 s = true := by unfold right; simp
/-- A frame's bytes ahead of their sum, and all of them. -/
def head (c s : Int) (vs : List Int) : List Int := [165, c] ++ (put2 s ++ fours vs)
def enc (c s : Int) (vs : List Int) : List Int := if right s vs = true ∧ chan c = true then sealed (head c s vs) else []
theorem enc_yes {c s : Int} {vs : List Int} (h : right s vs = true) (k : chan c = true) : enc c s vs = sealed (head c s vs) := by unfold enc; rw [if_pos ⟨h, k⟩]
/-- The reject of bytes. -/
def rej (c : Int) (is : Bool) (b : List Int) : Int :=
  if is = false then 1 else if b.length ≠ 38 then 2 else if b.getD 0 0 ≠ 165 then 3 else if b.getD 1 0 ≠ c then 4 else if opens b = false then 5 else 0
def fseq (b : List Int) : Int := get2v ((b.drop 2).take 2)
def fvals (b : List Int) : List Int := nums ((b.drop 4).take 32)
/-- The frame of bytes, as its numbers. -/
def dec (c : Int) (is : Bool) (b : List Int) : List Int := if rej c is b = 0 then fseq b :: fvals b else List.replicate 9 0
theorem rej_absent (c : Int) (b : List Int) : rej c false b = 1 := by unfold rej; simp
theorem rej_length {c : Int} {b : List Int} (h : b.length ≠ 38) : rej c true b = 2 := by unfold rej; simp [h]
theorem rej_sync {c : Int} {b : List Int} (h : b.length = 38) (h0 : b.getD 0 0 ≠ 165) : rej c true b = 3 := by
  unfold rej; rw [if_neg (by simp), if_neg (by simp [h]), if_pos h0]
theorem rej_other {c : Int} {b : List Int} (h : b.length = 38) (h0 : b.getD 0 0 = 165) (h1 : b.getD 1 0 ≠ c) : rej c true b = 4 := by
  unfold rej; rw [if_neg (by simp), if_neg (by simp [h]), if_neg (by simpa using h0), if_pos h1]
theorem rej_sum {c : Int} {b : List Int} (h : b.length = 38) (h0 : b.getD 0 0 = 165) (h1 : b.getD 1 0 = c) (h2 : opens b = false) : rej c true b = 5 := by
  unfold rej; rw [if_neg (by simp), if_neg (by simp [h]), if_neg (by simpa using h0), if_neg (by simpa using h1), if_pos h2]
theorem rej_fine {c : Int} {b : List Int} (h : b.length = 38) (h0 : b.getD 0 0 = 165) (h1 : b.getD 1 0 = c) (h2 : opens b = true) : rej c true b = 0 := by
  unfold rej; rw [if_neg (by simp), if_neg (by simp [h]), if_neg (by simpa using h0), if_neg (by simpa using h1), if_neg (by simp [h2])]
theorem fine_iff {c : Int} {is : Bool} {b : List Int} (h : rej c is b = 0) : is = true ∧ b.length = 38 ∧ b.getD 0 0 = 165 ∧ b.getD 1 0 = c ∧ opens b = true := by
  unfold rej at h
  cases is
  · simp at h
  · refine ⟨rfl, ?_⟩
    by_cases h1 : b.length = 38
    · by_cases h2 : b.getD 0 0 = 165
      · by_cases h3 : b.getD 1 0 = c
        · cases h4 : opens b
          · rw [if_neg (by simp), if_neg (by simp [h1]), if_neg (by simpa using h2), if_neg (by simpa using h3), if_pos h4] at h; cases h
          · exact ⟨h1, h2, h3, rfl⟩
        · rw [if_neg (by simp), if_neg (by simp [h1]), if_neg (by simpa using h2), if_pos h3] at h; cases h
      · rw [if_neg (by simp), if_neg (by simp [h1]), if_pos h2] at h; cases h
    · rw [if_neg (by simp), if_pos h1] at h; cases h
theorem dec_no {c : Int} {is : Bool} {b : List Int} (h : rej c is b ≠ 0) : dec c is b = List.replicate 9 0 := by unfold dec; rw [if_neg h]
theorem dec_yes {c : Int} {is : Bool} {b : List Int} (h : rej c is b = 0) : dec c is b = fseq b :: fvals b := by unfold dec; rw [if_pos h]
/-- There and back: bytes from their frame. -/
theorem cut2 (l : List Int) (h : l.length = 2) : ∃ x y, l = [x, y] := by
  match l, h with
  | [x, y], _ => exact ⟨x, y, rfl⟩
theorem dec_right {b : List Int} (hl : b.length = 38) (hy : Bytes b) : right (fseq b) (fvals b) = true ∧ (fvals b).length = 8 ∧ put2 (fseq b) = (b.drop 2).take 2 ∧ fours (fvals b) = (b.drop 4).take 32 := by
  have y2 : Bytes ((b.drop 2).take 2) := (hy.drop _).take _
  have y4 : Bytes ((b.drop 4).take 32) := (hy.drop _).take _
  have l2 : ((b.drop 2).take 2).length = 2 := by rw [List.length_take, List.length_drop]; omega
  have l4 : ((b.drop 4).take 32).length = 4 * 8 := by rw [List.length_take, List.length_drop]; omega
  obtain ⟨x, y, e⟩ := cut2 _ l2
  have hx := y2 x (by rw [e]; simp)
  have hyy := y2 y (by rw [e]; simp)
  have ef : fseq b = 256 * x + y := by unfold fseq; rw [e]; rfl
  have i2 : in2 (fseq b) = true := (in2_iff _).2 (by omega)
  refine ⟨(right_iff _ _).2 ⟨nums_in 8 _ l4 y4, i2⟩, nums_len 8 _ l4, ?_, fours_nums 8 _ l4 y4⟩
  rw [put2_yes i2, e, ef]
  have e1 : (256 * x + y) / 256 = x := by omega
  have e2 : (256 * x + y) % 256 = y := by omega
  rw [e1, e2]
theorem back {c : Int} {is : Bool} {b : List Int} (h : rej c is b = 0) (k : chan c = true) (hy : Bytes b) : right (fseq b) (fvals b) = true ∧ (fvals b).length = 8 ∧ enc c (fseq b) (fvals b) = b := by
  obtain ⟨_, hl, h0, h1, ho⟩ := fine_iff h
  obtain ⟨r, l8, p2, p4⟩ := dec_right hl hy
  refine ⟨r, l8, ?_⟩
  rw [enc_yes r k]
  have hh : head c (fseq b) (fvals b) = b.take 36 := by
    unfold head
    rw [p2, p4]
    apply List.ext_getElem
    · simp; omega
    · intro i i1 i2
      simp at i2
      have hi : i < b.length := by omega
      by_cases c0 : i < 2
      · have hb0 : b[0]'(by omega) = 165 := by simpa [List.getD_eq_getElem?_getD, show 0 < b.length by omega] using h0
        have hb1 : b[1]'(by omega) = c := by simpa [List.getD_eq_getElem?_getD, show 1 < b.length by omega] using h1
        have : i = 0 ∨ i = 1 := by omega
        rcases this with rfl | rfl
        · simpa using hb0.symm
        · simpa using hb1.symm
      · rw [List.getElem_append_right (by simpa using (by omega : 2 ≤ i))]
        by_cases c1 : i < 4
        · rw [List.getElem_append_left (by simp; omega)]
          simp
          congr 1; omega
        · rw [List.getElem_append_right (by simp; omega)]
          simp
          congr 1; omega
  obtain ⟨_, o1, o2⟩ := (opens_iff b).1 ho
  rw [hl] at o1 o2
  unfold sealed
  rw [hh]
  have t := Cr.take_getD b 36 hl
  rw [show 38 - 2 = 36 by rfl] at o1 o2
  rw [show 38 - 1 = 37 by rfl] at o2
  rw [← o1, ← o2]
  exact t.symm
/-- One byte changed. -/
def bad (b : List Int) (k : Nat) (d : Int) : List Int := b.set k (plus (b.getD k 0) d)
end Fm
end Go.Proofs.Ytchnnpaebggfdaa
