/-
  Plain mathematics for layer 3 (crc): the sum of bytes as a number of 16 bits; part by part; what is sealed has the sum 0; two bytes next to each other, changed, do not leave it so. No Go text is reached here. No conditions.
  Plain mathematics for layer 3 (crc), in the numbers that Go's text has: bytes as a list of whole numbers, their sum, what is sealed, what is opened. No Go text is reached here. No conditions.
-/
import Derived.KernelRfl
import Derived.WalkKit
import Derived.Laws.BitsAllLaws
import Derived.IntWalk
namespace Go.Proofs.YtacclmfbkiadbaaGreat
set_option maxRecDepth 100000
open Go.RowKit
namespace Cr
/-- One bit: twice itself, without what is above 16 bits, and crossed with 4129 if the highest bit was 1. -/
def bit1 (s : Nat) : Nat := if 32768 ≤ s then (2 * s % 65536) ^^^ 4129 else 2 * s % 65536
def bits : Nat → Nat → Nat
  | 0, s => s
  | n + 1, s => bit1 (bits n s)
def feed (s b : Nat) : Nat := bits 8 (s ^^^ (256 * b))
def more (s : Nat) (l : List Nat) : Nat := l.foldl feed s
theorem xor_lt {a b : Nat} (ha : a < 65536) (hb : b < 65536) : a ^^^ b < 65536 := Nat.xor_lt_two_pow (n := 16) ha hb
theorem more_nil (s : Nat) : more s [] = s := by unfold more; rw [List.foldl_nil]
theorem more_cons (s b : Nat) (l : List Nat) : more s (b :: l) = more (feed s b) l := by unfold more; rw [List.foldl_cons]
theorem more_app (s : Nat) (l r : List Nat) : more s (l ++ r) = more (more s l) r := by unfold more; exact List.foldl_append ..
end Cr
end Go.Proofs.YtacclmfbkiadbaaGreat

namespace Go.Proofs.YtacclmfbkiadbaaGreat
set_option maxRecDepth 100000
open Go.RowKit
namespace Cr
/-- Bytes, as whole numbers. -/
def Bytes (l : List Int) : Prop := ∀ n ∈ l, 0 ≤ n ∧ n < 256
theorem Bytes.take {l : List Int} (h : Bytes l) (k : Nat) : Bytes (l.take k) := fun n hn => h n (List.mem_of_mem_take hn)
theorem Bytes.drop {l : List Int} (h : Bytes l) (k : Nat) : Bytes (l.drop k) := fun n hn => h n (List.mem_of_mem_drop hn)
theorem Bytes.app {l r : List Int} (h : Bytes l) (k : Bytes r) : Bytes (l ++ r) := fun n hn => (List.mem_append.1 hn).elim (h n) (k n)
theorem Bytes.getD {l : List Int} (h : Bytes l) (k : Nat) : 0 ≤ l.getD k 0 ∧ l.getD k 0 < 256 := by
  by_cases hk : k < l.length
  · have : l.getD k 0 = l[k] := by simp [List.getD_eq_getElem?_getD, hk]
    rw [this]; exact h _ (List.getElem_mem _)
  · have : l.getD k 0 = 0 := by simp [List.getD_eq_getElem?_getD, hk]
    rw [this]; omega
def nats (l : List Int) : List Nat := l.map Int.toNat
theorem nats_app (l r : List Int) : nats (l ++ r) = nats l ++ nats r := by unfold nats; exact List.map_append
/-- What a sum becomes by the first k bytes. -/
def upto (s : Nat) (l : List Int) (k : Nat) : Nat := more s (nats (l.take k))
theorem upto_succ (s : Nat) (l : List Int) (k : Nat) (h : k < l.length) : upto s l (k + 1) = feed (upto s l k) (l.getD k 0).toNat := by
  unfold upto
  rw [List.take_succ_eq_append_getElem h, nats_app, more_app, show nats [l[k]] = [l[k].toNat] from rfl, more_cons, more_nil]
  simp [List.getD_eq_getElem?_getD, h]
/-- The sum of bytes. -/
def sum (l : List Int) : Nat := more 65535 (nats l)
/-- Go's bit operations on small numbers. -/
theorem ofInt64 (a : Nat) (ha : a < 9223372036854775808) : (BitVec.ofInt 64 (a : Int)).toNat = a := by
  rw [BitVec.toNat_ofInt]; omega
theorem xor_i64_nat (a b : Nat) (ha : a < 65536) (hb : b < 65536) : Go.bits .xor .i64 (a : Int) (b : Int) = ((a ^^^ b : Nat) : Int) := by
  have h := xor_lt ha hb
  show IntKind.i64.wrap ((BitVec.ofInt 64 (a : Int) ^^^ BitVec.ofInt 64 (b : Int)).toNat : Int) = _
  rw [BitVec.toNat_xor, ofInt64 a (by omega), ofInt64 b (by omega), IntKind.wrap_i64]; omega
theorem and_i64_nat (a b : Nat) (ha : a < 9223372036854775808) (hb : b < 9223372036854775808) : Go.bits .and .i64 (a : Int) (b : Int) = ((a &&& b : Nat) : Int) := by
  have h : a &&& b ≤ a := Nat.and_le_left
  show IntKind.i64.wrap ((BitVec.ofInt 64 (a : Int) &&& BitVec.ofInt 64 (b : Int)).toNat : Int) = _
  rw [BitVec.toNat_and, ofInt64 a ha, ofInt64 b hb, IntKind.wrap_i64]; omega
theorem or_i64_nat (a b : Nat) (ha : a < 65536) (hb : b < 65536) : Go.bits .or .i64 (a : Int) (b : Int) = ((a ||| b : Nat) : Int) := by
  have h : a ||| b < 2 ^ 16 := Nat.or_lt_two_pow ha hb
  show IntKind.i64.wrap ((BitVec.ofInt 64 (a : Int) ||| BitVec.ofInt 64 (b : Int)).toNat : Int) = _
  rw [BitVec.toNat_or, ofInt64 a (by omega), ofInt64 b (by omega), IntKind.wrap_i64]; omega
theorem and_low (x : Nat) (h : x < 65536) : Go.bits .and .i64 ((x : Int) * 2) 65535 = ((2 * x % 65536 : Nat) : Int) := by
  have e := and_i64_nat (2 * x) 65535 (by omega) (by omega)
  rw [show (65535 : Nat) = 2 ^ 16 - 1 by decide, Nat.and_two_pow_sub_one_eq_mod] at e
  rw [show (x : Int) * 2 = ((2 * x : Nat) : Int) by omega]
  exact e
theorem bit1_yes {x : Nat} (k : 32768 ≤ x) : bit1 x = (2 * x % 65536) ^^^ 4129 := by unfold bit1; rw [if_pos k]
theorem bit1_no {x : Nat} (k : ¬ 32768 ≤ x) : bit1 x = 2 * x % 65536 := by unfold bit1; rw [if_neg k]
theorem step_yes {x : Nat} (h : x < 65536) (k : 32768 ≤ x) : Go.bits .xor .i64 (Go.bits .and .i64 ((x : Int) * 2) 65535) 4129 = ((bit1 x : Nat) : Int) := by
  rw [and_low x h, bit1_yes k]; exact xor_i64_nat _ 4129 (Nat.mod_lt _ (by omega)) (by omega)
theorem step_no {x : Nat} (h : x < 65536) (k : ¬ 32768 ≤ x) : Go.bits .and .i64 ((x : Int) * 2) 65535 = ((bit1 x : Nat) : Int) := by
  rw [and_low x h, bit1_no k]
end Cr
end Go.Proofs.YtacclmfbkiadbaaGreat
