/-
  Plain mathematics for layer 1 (fix): what the calls of package fix come to, as functions on whole numbers and lists. No Go text is reached here. No conditions.
  What is told of a signal, as mathematics: whether a status may be, its word, the status of a word, its mode, its text. No function of the program is walked here. No conditions.
  What a cycle sends, as mathematics: whether an output may be, its bytes, the output of bytes; there and back; one byte changed. No function of the program is walked here. No conditions.
-/
import Derived.KernelRfl
import Derived.WalkKit
import Derived.Lib.Join
import Derived.Test.YtchnnpaebggfdaaJCrcMath23
namespace Go.Proofs.Ytchnnpaebggfdaa
set_option maxRecDepth 100000
open Go.RowKit
namespace Fx
def sm (n : Int) : Bool := decide (-1099511627776 ≤ n ∧ n ≤ 1099511627776)
def within (n lo hi : Int) : Int := if hi < lo ∨ n < lo then lo else if hi < n then hi else n
def apart (a b : Int) : Int := if sm a = true ∧ sm b = true then (if a < b then b - a else a - b) else 0
def near (n to b : Int) : Int := if sm n = true ∧ sm to = true ∧ sm b = true then (if b < 0 then n else within to (n - b) (n + b)) else 0
def hasIn (m i : Int) : Bool := decide (0 ≤ m ∧ m < 65536 ∧ 0 ≤ i ∧ i < 16)
def has (m i : Int) : Bool := hasIn m i && (m / 2 ^ i.toNat % 2 == 1)
def bitsN : List Bool → Nat
  | [] => 0
  | b :: r => b.toNat + 2 * bitsN r
def bits (l : List Bool) : Int := if l.length ≤ 16 then (bitsN l : Int) else 0
def countTo (m : Int) : Nat → Nat
  | 0 => 0
  | k + 1 => countTo m k + (has m (k : Int)).toNat
def count (m : Int) : Int := (countTo m 16 : Int)
theorem sm_iff (n : Int) : sm n = true ↔ -1099511627776 ≤ n ∧ n ≤ 1099511627776 := by unfold sm; simp
theorem sm_false (n : Int) : sm n = false ↔ n < -1099511627776 ∨ 1099511627776 < n := by unfold sm; simp; omega
theorem sm_bd {n : Int} (h : sm n = true) : -1099511627776 ≤ n ∧ n ≤ 1099511627776 := (sm_iff n).1 h
theorem ret_int {k : IntKind} {a b : Int} (h : a = b) : Ending.returned (.int k a) = .returned (.int k b) := by rw [h]
theorem ret_bool {a b : Bool} (h : a = b) : Ending.returned (.bool a) = .returned (.bool b) := by rw [h]
/-! ### division -/
theorem div_bd (n b : Int) (hb : 1 ≤ b) (hn : 0 ≤ n) : 0 ≤ n / b ∧ n / b ≤ n :=
  ⟨Int.ediv_nonneg hn (by omega), Int.ediv_le_self _ hn⟩
theorem div_div (n a b : Int) (ha : 0 ≤ a) : n / a / b = n / (a * b) := Int.ediv_ediv_of_nonneg ha
/-! ### powers of two -/
theorem pow_succ2 (k : Nat) : (2 : Int) ^ (k + 1) = 2 * 2 ^ k := by rw [Int.pow_succ, Int.mul_comm]
theorem pow_pos2 (k : Nat) : (1 : Int) ≤ 2 ^ k := by
  induction k with
  | zero => decide
  | succ k ih => rw [pow_succ2]; omega
/-! ### bits of an int -/
theorem and_i64_nat (a b : Nat) (ha : a < 9223372036854775808) (hb : b < 9223372036854775808) :
    Go.bits .and .i64 (a : Int) (b : Int) = ((a &&& b : Nat) : Int) := by
  have hx : a &&& b < 2 ^ 63 := Nat.and_lt_two_pow _ (by omega)
  have h1 : (BitVec.ofInt 64 (a : Int)).toNat = a := by
    rw [BitVec.ofInt_natCast, BitVec.toNat_ofNat]; exact Nat.mod_eq_of_lt (by omega)
  have h2 : (BitVec.ofInt 64 (b : Int)).toNat = b := by
    rw [BitVec.ofInt_natCast, BitVec.toNat_ofNat]; exact Nat.mod_eq_of_lt (by omega)
  show IntKind.i64.wrap ((BitVec.ofInt 64 (a : Int) &&& BitVec.ofInt 64 (b : Int)).toNat : Int) = _
  rw [BitVec.toNat_and, h1, h2, IntKind.wrap_i64]
  omega
theorem or_i64_nat (a b : Nat) (ha : a < 9223372036854775808) (hb : b < 9223372036854775808) :
    Go.bits .or .i64 (a : Int) (b : Int) = ((a ||| b : Nat) : Int) := by
  have hx : a ||| b < 2 ^ 63 := Nat.or_lt_two_pow (by omega) (by omega)
  have h1 : (BitVec.ofInt 64 (a : Int)).toNat = a := by
    rw [BitVec.ofInt_natCast, BitVec.toNat_ofNat]; exact Nat.mod_eq_of_lt (by omega)
  have h2 : (BitVec.ofInt 64 (b : Int)).toNat = b := by
    rw [BitVec.ofInt_natCast, BitVec.toNat_ofNat]; exact Nat.mod_eq_of_lt (by omega)
  show IntKind.i64.wrap ((BitVec.ofInt 64 (a : Int) ||| BitVec.ofInt 64 (b : Int)).toNat : Int) = _
  rw [BitVec.toNat_or, h1, h2, IntKind.wrap_i64]
  omega
theorem and_one (x : Int) (h0 : 0 ≤ x) (h1 : x < 9223372036854775808) : Go.bits .and .i64 x 1 = x % 2 := by
  obtain ⟨n, rfl⟩ := Int.eq_ofNat_of_zero_le h0
  have := and_i64_nat n 1 (by omega) (by decide)
  rw [show ((1 : Nat) : Int) = 1 from rfl] at this
  rw [this, Nat.and_one_is_mod]
  omega
theorem has_out (m i : Int) (h : ¬ (0 ≤ m ∧ m < 65536 ∧ 0 ≤ i ∧ i < 16)) : has m i = false := by
  unfold has hasIn; rw [decide_eq_false h]; rfl
theorem has_in (m i : Int) (h : 0 ≤ m ∧ m < 65536 ∧ 0 ≤ i ∧ i < 16) : has m i = (m / 2 ^ i.toNat % 2 == 1) := by
  unfold has hasIn; rw [decide_eq_true h]; rfl
theorem div_pow_lt (m : Int) (k : Nat) (h0 : 0 ≤ m) (h1 : m < 65536) : 0 ≤ m / 2 ^ k ∧ m / 2 ^ k < 65536 := by
  have := div_bd m (2 ^ k) (pow_pos2 k) h0
  omega
theorem has_go (m i : Int) (h : 0 ≤ m ∧ m < 65536 ∧ 0 ≤ i ∧ i < 16) : (Go.bits .and .i64 (m / 2 ^ i.toNat) 1 == 1) = has m i := by
  have := div_pow_lt m i.toNat h.1 h.2.1
  rw [has_in m i h, and_one _ this.1 (by omega)]
/-! ### masks of lists -/
end Fx
end Go.Proofs.Ytchnnpaebggfdaa

namespace Go.Proofs.Ytchnnpaebggfdaa
set_option maxRecDepth 100000
open Go.RowKit
namespace Ss
open Fx
structure St where
  i : Int
  l : Int
  s : Int
  f : Bool
/-- A mask of channels? -/
def mk (n : Int) : Bool := decide (0 ≤ n ∧ n < 16)
def rgt (s : St) : Bool := mk s.i && mk s.l && (s.f == (s.i == 0)) && (s.s == -1 || has s.i s.s)
def sw (s : Int) : Int := if s = -1 then 7 else s
def fw (f : Bool) : Int := if f then 2048 else 0
def wrd (s : St) : Int := s.i + s.l * 16 + sw s.s * 256 + fw s.f
def zer : St := ⟨0, 0, 0, false⟩
def sp (q : Int) : Int := if q = 7 then -1 else q
def parts (n : Int) : St := ⟨n.tmod 16, (n.tmod 256).tdiv 16, sp ((n.tmod 2048).tdiv 256), n.tdiv 2048 == 1⟩
/-- Is a number the word of what its parts tell? -/
def isw (n : Int) : Bool := rgt (parts n) && (wrd (parts n) == n)
def prs (n : Int) : St := if isw n then parts n else zer
def pre (n : Int) : Int := if isw n then 0 else 3
def nms : List (List UInt8) := [[104, 111, 108, 100], [115, 105, 110, 103, 108, 101], [100, 117, 112, 108, 101, 120], [116, 114, 105, 112, 108, 101], [113, 117, 97, 100]]
def nm (k : Nat) : List UInt8 := nms.getD k []
def md (m : Int) : List UInt8 := nm (count m).toNat
theorem mk_iff (n : Int) : mk n = true ↔ 0 ≤ n ∧ n < 16 := by unfold mk; simp
theorem tab_has : ((List.range 16).all fun m => (List.range 16).all fun i => !has (m : Int) (i : Int) || decide (i < 4)) = true := by decide +kernel
theorem has_lt {m i : Int} (h : mk m = true) (hh : has m i = true) : 0 ≤ i ∧ i < 4 := by
  have hm := (mk_iff m).1 h
  by_cases hi : 0 ≤ m ∧ m < 65536 ∧ 0 ≤ i ∧ i < 16
  · have := List.all_eq_true.1 (List.all_eq_true.1 tab_has m.toNat (List.mem_range.2 (by omega))) i.toNat (List.mem_range.2 (by omega))
    rw [show ((m.toNat : Nat) : Int) = m by omega, show ((i.toNat : Nat) : Int) = i by omega, hh] at this
    simp at this
    omega
  · rw [has_out m i hi] at hh; cases hh
theorem rgt_bd {s : St} (h : rgt s = true) : (0 ≤ s.i ∧ s.i < 16) ∧ (0 ≤ s.l ∧ s.l < 16) ∧ (-1 ≤ s.s ∧ s.s < 4) ∧ s.f = (s.i == 0) ∧ (s.s = -1 ∨ has s.i s.s = true) := by
  unfold rgt at h
  simp only [Bool.and_eq_true, Bool.or_eq_true] at h
  obtain ⟨⟨⟨h1, h2⟩, h3⟩, h4⟩ := h
  have e3 : s.f = (s.i == 0) := by simpa using h3
  have e4 : s.s = -1 ∨ has s.i s.s = true := by simpa using h4
  refine ⟨(mk_iff _).1 h1, (mk_iff _).1 h2, ?_, e3, e4⟩
  rcases e4 with e | e
  · omega
  · have := has_lt h1 e; omega
theorem wrd_bd {s : St} (h : rgt s = true) : 0 ≤ wrd s ∧ wrd s < 4096 := by
  obtain ⟨a, b, c, _, _⟩ := rgt_bd h
  unfold wrd sw fw
  split <;> split <;> omega
/-- A status that may be is that of its word. -/
theorem back {s : St} (h : rgt s = true) : parts (wrd s) = s := by
  have hb := wrd_bd h
  obtain ⟨a, b, c, d, e⟩ := rgt_bd h
  unfold parts
  obtain ⟨i, l, q, f⟩ := s
  simp only at *
  have e1 : (wrd ⟨i, l, q, f⟩).tmod 16 = i := by
    rw [Int.tmod_eq_emod_of_nonneg hb.1]
    unfold wrd sw fw; simp only
    split <;> split <;> omega
  have e2 : ((wrd ⟨i, l, q, f⟩).tmod 256).tdiv 16 = l := by
    rw [Int.tmod_eq_emod_of_nonneg hb.1, Int.tdiv_eq_ediv_of_nonneg (by omega)]
    unfold wrd sw fw; simp only
    split <;> split <;> omega
  have e3 : sp (((wrd ⟨i, l, q, f⟩).tmod 2048).tdiv 256) = q := by
    rw [Int.tmod_eq_emod_of_nonneg hb.1, Int.tdiv_eq_ediv_of_nonneg (by omega)]
    unfold sp wrd sw fw; simp only
    split <;> split <;> split <;> omega
  have e4 : ((wrd ⟨i, l, q, f⟩).tdiv 2048 == 1) = f := by
    rw [Int.tdiv_eq_ediv_of_nonneg hb.1]
    unfold wrd sw fw; simp only
    cases f
    · simp; split <;> omega
    · simp; split <;> omega
  rw [e1, e2, e3, e4]
theorem rgt_prs {n : Int} (h : isw n = true) : rgt (prs n) = true ∧ wrd (prs n) = n := by
  unfold prs; rw [if_pos h]
  unfold isw at h
  simpa using h
end Ss
end Go.Proofs.Ytchnnpaebggfdaa

namespace Go.Proofs.Ytchnnpaebggfdaa
set_option maxRecDepth 100000
open Go.RowKit
namespace Ot
open Wd Fm
open Ss (St rgt wrd prs pre isw zer)
open Cr (Bytes sealed opens opened sum sealed_len sealed_bytes sealed_opens sealed_opened sealed_sum opens_iff opened_yes)
/-- An output: its number, its values, its statuses. -/
structure Ou where
  q : Int
  v : List Int
  s : List St
structure Ok (o : Ou) : Prop where
  v : o.v.length = 8
  s : o.s.length = 8
def zou : Ou := ⟨0, List.replicate 8 0, List.replicate 8 zer⟩
theorem ok_zou : Ok zou := ⟨rfl, rfl⟩
def orgt (o : Ou) : Bool := in2 o.q && o.v.all in4 && o.s.all rgt
def fl (l : List St) : Nat := (l.filter fun s => s.f).length
def wds (l : List St) : List Int := l.flatMap fun s => put2 (wrd s)
def head (o : Ou) : List Int := [90, (fl o.s : Int)] ++ (put2 o.q ++ (fours o.v ++ wds o.s))
def enc (o : Ou) : List Int := if orgt o = true then sealed (head o) else []
/-- The word of a signal in bytes that opened. -/
def wd (x : List Int) (i : Nat) : Int := get2v ((x.drop (36 + 2 * i)).take 2)
def oq (x : List Int) : Int := get2v ((x.drop 2).take 2)
def ov (x : List Int) : List Int := nums ((x.drop 4).take 32)
def sts (x : List Int) (n : Nat) : List St := (List.range n).map fun i => prs (wd x i)
def parts (x : List Int) : Ou := ⟨oq x, ov x, sts x 8⟩
def woks (x : List Int) (n : Nat) : Bool := (List.range n).all fun i => isw (wd x i)
/-- Are these bytes an output's? -/
def iso (b : List Int) : Bool := b.length == 54 && b.getD 0 0 == 90 && opens b && woks (b.take 52) 8 && ((fl (parts (b.take 52)).s : Int) == b.getD 1 0)
def dec (b : List Int) : Ou := if iso b = true then parts (b.take 52) else zou
theorem orgt_iff (o : Ou) : orgt o = true ↔ in2 o.q = true ∧ o.v.all in4 = true ∧ o.s.all rgt = true := by unfold orgt; simp [and_assoc]
theorem enc_yes {o : Ou} (h : orgt o = true) : enc o = sealed (head o) := by unfold enc; rw [if_pos h]
theorem dec_yes {b : List Int} (h : iso b = true) : dec b = parts (b.take 52) := by unfold dec; rw [if_pos h]
theorem dec_no {b : List Int} (h : iso b = false) : dec b = zou := by unfold dec; rw [if_neg (by rw [h]; decide)]
theorem wds_snoc (l : List St) (s : St) : wds (l ++ [s]) = wds l ++ put2 (wrd s) := by unfold wds; rw [List.flatMap_append]; simp
theorem iso_iff (b : List Int) : iso b = true ↔ b.length = 54 ∧ b.getD 0 0 = 90 ∧ opens b = true ∧ woks (b.take 52) 8 = true ∧ (fl (parts (b.take 52)).s : Int) = b.getD 1 0 := by
  unfold iso; simp [and_assoc]
theorem wd_in {x : List Int} (hy : Bytes x) (hl : x.length = 52) (i : Nat) (hi : i < 8) : 0 ≤ wd x i ∧ wd x i ≤ 65535 ∧ put2 (wd x i) = (x.drop (36 + 2 * i)).take 2 := by
  have y2 : Bytes ((x.drop (36 + 2 * i)).take 2) := (hy.drop _).take _
  have l2 : ((x.drop (36 + 2 * i)).take 2).length = 2 := by rw [List.length_take, List.length_drop]; omega
  obtain ⟨a, b, e⟩ := cut2 _ l2
  have ha := y2 a (by rw [e]; simp)
  have hb := y2 b (by rw [e]; simp)
  have ew : wd x i = 256 * a + b := by unfold wd; rw [e]; rfl
  refine ⟨by omega, by omega, ?_⟩
  rw [put2_yes ((in2_iff _).2 (by omega)), e, ew]
  have e1 : (256 * a + b) / 256 = a := by omega
  have e2 : (256 * a + b) % 256 = b := by omega
  rw [e1, e2]
theorem sts_len (x : List Int) (n : Nat) : (sts x n).length = n := by unfold sts; simp
theorem sts_next (x : List Int) (n : Nat) : sts x (n + 1) = sts x n ++ [prs (wd x n)] := by unfold sts; rw [List.range_succ, List.map_append]; rfl
theorem woks_next (x : List Int) (n : Nat) : woks x (n + 1) = (woks x n && isw (wd x n)) := by unfold woks; rw [List.range_succ, List.all_append]; simp
theorem woks_at {x : List Int} {n i : Nat} (h : woks x n = true) (hi : i < n) : isw (wd x i) = true := by
  unfold woks at h
  exact List.all_eq_true.1 h i (List.mem_range.2 hi)
theorem sts_rgt {x : List Int} {n : Nat} (h : woks x n = true) : (sts x n).all rgt = true := by
  rw [List.all_eq_true]
  intro s hs
  unfold sts at hs
  obtain ⟨i, hi, rfl⟩ := List.mem_map.1 hs
  exact (Ss.rgt_prs (woks_at h (List.mem_range.1 hi))).1
theorem wds_sts {x : List Int} (hy : Bytes x) (hl : x.length = 52) : ∀ n, n ≤ 8 → woks x n = true → wds (sts x n) = (x.drop 36).take (2 * n)
  | 0, _, _ => by simp [sts, wds]
  | n + 1, hn, h => by
    rw [woks_next, Bool.and_eq_true] at h
    rw [sts_next, wds_snoc, wds_sts hy hl n (by omega) h.1, (Ss.rgt_prs h.2).2, (wd_in hy hl n (by omega)).2.2, show 2 * (n + 1) = 2 * n + 2 by omega, List.take_add, List.drop_drop]
theorem parts_ok {x : List Int} (hl : x.length = 52) : Ok (parts x) := by
  refine ⟨?_, sts_len _ _⟩
  show (nums ((x.drop 4).take 32)).length = 8
  exact nums_len 8 _ (by rw [List.length_take, List.length_drop]; omega)
/-- There and back: bytes from their output. -/
theorem back {b : List Int} (h : iso b = true) (hy : Bytes b) : orgt (dec b) = true ∧ Ok (dec b) ∧ enc (dec b) = b := by
  obtain ⟨hl, h0, ho, hw, hf⟩ := (iso_iff b).1 h
  rw [dec_yes h]
  have hx : (b.take 52).length = 52 := by rw [List.length_take]; omega
  have yx : Bytes (b.take 52) := hy.take _
  have k := parts_ok hx
  have y2 : Bytes (((b.take 52).drop 2).take 2) := (yx.drop _).take _
  have y4 : Bytes (((b.take 52).drop 4).take 32) := (yx.drop _).take _
  have l2 : (((b.take 52).drop 2).take 2).length = 2 := by rw [List.length_take, List.length_drop]; omega
  have l4 : (((b.take 52).drop 4).take 32).length = 4 * 8 := by rw [List.length_take, List.length_drop]; omega
  obtain ⟨x, y, e⟩ := cut2 _ l2
  have hxx := y2 x (by rw [e]; simp)
  have hyy := y2 y (by rw [e]; simp)
  have eq : oq (b.take 52) = 256 * x + y := by unfold oq; rw [e]; rfl
  have i2 : in2 (oq (b.take 52)) = true := (in2_iff _).2 (by omega)
  have r : orgt (parts (b.take 52)) = true := (orgt_iff _).2 ⟨i2, nums_in 8 _ l4 y4, sts_rgt hw⟩
  refine ⟨r, k, ?_⟩
  have p2 : put2 (oq (b.take 52)) = ((b.take 52).drop 2).take 2 := by
    rw [put2_yes i2, e, eq]
    have e1 : (256 * x + y) / 256 = x := by omega
    have e2 : (256 * x + y) % 256 = y := by omega
    rw [e1, e2]
  have p4 : fours (ov (b.take 52)) = ((b.take 52).drop 4).take 32 := fours_nums 8 _ l4 y4
  have p36 : wds (sts (b.take 52) 8) = (b.take 52).drop 36 := by
    rw [wds_sts yx hx 8 (Nat.le_refl _) hw, List.take_of_length_le (by rw [List.length_drop]; omega)]
  have hh : head (parts (b.take 52)) = b.take 52 := by
    have s : b.take 52 = (b.take 52).take 2 ++ (((b.take 52).drop 2).take 2 ++ (((b.take 52).drop 4).take 32 ++ (b.take 52).drop 36)) := by
      rw [show (b.take 52).drop 36 = ((b.take 52).drop 4).drop 32 by rw [List.drop_drop], List.take_append_drop, show (b.take 52).drop 4 = ((b.take 52).drop 2).drop 2 by rw [List.drop_drop], List.take_append_drop, List.take_append_drop]
    have s2 : (b.take 52).take 2 = [90, ((fl (parts (b.take 52)).s : Nat) : Int)] := by
      rw [hf, ← h0]
      match b, hl with
      | u :: v :: t, _ => rfl
    conv => rhs; rw [s]
    unfold head
    rw [s2]
    show _ ++ (put2 (oq (b.take 52)) ++ (fours (ov (b.take 52)) ++ wds (sts (b.take 52) 8))) = _
    rw [p2, p4, p36]
  rw [enc_yes r]
  unfold sealed
  rw [hh]
  obtain ⟨_, o1, o2⟩ := (opens_iff b).1 ho
  rw [hl] at o1 o2
  rw [show 54 - 2 = 52 by rfl] at o1 o2
  rw [show 54 - 1 = 53 by rfl] at o2
  have t := Cr.take_getD b 52 hl
  rw [← o1, ← o2]
  exact t.symm
end Ot
end Go.Proofs.Ytchnnpaebggfdaa
