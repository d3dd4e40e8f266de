/-
  Plain mathematics for layer 1 (fix): what the calls of package fix come to, as functions on whole numbers and lists. No Go text is reached here. No conditions.
  How arguments are opened: slices of numbers and of bools, as lists that lie in memory. No Go text is reached here. No conditions.
  Slices of numbers that a call makes: a row that is known whole, a row that grows by append, what is handed back. No function of the program is walked here. No conditions.
-/
import Derived.KernelRfl
import Derived.WalkKit
import Derived.ProofKit
import Derived.OpenShut
import Derived.Deep.Grids
import Derived.Deep.QuietTactic
import Derived.BigQuiet
import Derived.WalkSmall
import Derived.Test.YtacclmfbkiadbaaGreatChecked
import Derived.OwnWalk
import Derived.Laws.OwnMore
import Derived.Laws.CopyOwn
import Derived.Lib.Hide
import Derived.Lib.QuietBelow
namespace Go.Proofs.YtacclmfbkiadbaaGreat
set_option maxRecDepth 100000
open Go.RowKit
namespace Fx
def sm (n : Int) : Bool := decide (-1099511627776 ≤ n ∧ n ≤ 1099511627776)
def within (n lo hi : Int) : Int := if hi < lo ∨ n < lo then lo else if hi < n then hi else n
def clamp (n lo hi : Int) : Int := if sm n = true ∧ sm lo = true ∧ sm hi = true then within n lo hi else 0
def floor (n b : Int) : Int := if sm n = true ∧ sm b = true ∧ 1 ≤ b then n / b else 0
def shift (n b : Int) : Int := if sm n = true ∧ 0 ≤ b ∧ b ≤ 40 then n / 2 ^ b.toNat else 0
def apart (a b : Int) : Int := if sm a = true ∧ sm b = true then (if a < b then b - a else a - b) else 0
def near (n to b : Int) : Int := if sm n = true ∧ sm to = true ∧ sm b = true then (if b < 0 then n else within to (n - b) (n + b)) else 0
def hasIn (m i : Int) : Bool := decide (0 ≤ m ∧ m < 65536 ∧ 0 ≤ i ∧ i < 16)
def has (m i : Int) : Bool := hasIn m i && (m / 2 ^ i.toNat % 2 == 1)
def bitsN : List Bool → Nat
  | [] => 0
  | b :: r => b.toNat + 2 * bitsN r
def bits (l : List Bool) : Int := if l.length ≤ 16 then (bitsN l : Int) else 0
def countTo (m : Int) : Nat → Nat
  | 0 => 0
  | k + 1 => countTo m k + (has m (k : Int)).toNat
def count (m : Int) : Int := (countTo m 16 : Int)
theorem sm_iff (n : Int) : sm n = true ↔ -1099511627776 ≤ n ∧ n ≤ 1099511627776 := by unfold sm; simp
theorem sm_false (n : Int) : sm n = false ↔ n < -1099511627776 ∨ 1099511627776 < n := by unfold sm; simp; omega
theorem sm_bd {n : Int} (h : sm n = true) : -1099511627776 ≤ n ∧ n ≤ 1099511627776 := (sm_iff n).1 h
theorem ret_int {k : IntKind} {a b : Int} (h : a = b) : Ending.returned (.int k a) = .returned (.int k b) := by rw [h]
theorem ret_bool {a b : Bool} (h : a = b) : Ending.returned (.bool a) = .returned (.bool b) := by rw [h]
/-! ### division -/
theorem ediv_unique (n b q : Int) (hb : 0 < b) (h1 : q * b ≤ n) (h2 : n < q * b + b) : n / b = q := by
  have e1 : q ≤ n / b := (Int.le_ediv_iff_mul_le hb).2 h1
  have e2 : n / b < q + 1 := (Int.ediv_lt_iff_lt_mul hb).2 (by rw [Int.add_mul]; omega)
  omega
theorem tdiv_low (n b : Int) (hb : 1 ≤ b) (hn : n < 0) (h : n.tmod b < 0) : n / b = n.tdiv b - 1 := by
  have e := Int.mul_tdiv_add_tmod n b
  have l : -b < n.tmod b := by
    have := Int.neg_tmod (-n) b
    rw [Int.neg_neg] at this
    rw [this, Int.tmod_eq_emod_of_nonneg (by omega)]
    have := Int.emod_lt_of_pos (-n) (show 0 < b by omega)
    omega
  refine ediv_unique n b _ (by omega) ?_ ?_
  · rw [Int.sub_mul, Int.mul_comm]; omega
  · rw [Int.sub_mul, Int.mul_comm]; omega
theorem tdiv_even (n b : Int) (hb : 1 ≤ b) (hn : n < 0) (h : 0 ≤ n.tmod b) : n / b = n.tdiv b := by
  have e := Int.mul_tdiv_add_tmod n b
  have l : n.tmod b ≤ 0 := by
    have := Int.neg_tmod (-n) b
    rw [Int.neg_neg] at this
    rw [this, Int.tmod_eq_emod_of_nonneg (by omega)]
    have := Int.emod_nonneg (-n) (show b ≠ 0 by omega)
    omega
  refine ediv_unique n b _ (by omega) ?_ ?_
  · rw [Int.mul_comm]; omega
  · rw [Int.mul_comm]; omega
theorem tdiv_bd (n b : Int) (hb : 1 ≤ b) (hn : n < 0) : n ≤ n.tdiv b ∧ n.tdiv b ≤ 0 := by
  have := Int.neg_tdiv (-n) b
  rw [Int.neg_neg] at this
  rw [this, Int.tdiv_eq_ediv_of_nonneg (by omega)]
  have h1 : 0 ≤ (-n) / b := Int.ediv_nonneg (by omega) (by omega)
  have h2 : (-n) / b ≤ -n := Int.ediv_le_self _ (by omega)
  omega
theorem div_bd (n b : Int) (hb : 1 ≤ b) (hn : 0 ≤ n) : 0 ≤ n / b ∧ n / b ≤ n :=
  ⟨Int.ediv_nonneg hn (by omega), Int.ediv_le_self _ hn⟩
theorem div_up (n b : Int) (hb : 1 ≤ b) : n / b = -((b - 1 - n) / b) := by
  have e := Int.mul_ediv_add_emod (b - 1 - n) b
  have l := Int.emod_lt_of_pos (b - 1 - n) (show 0 < b by omega)
  have l2 := Int.emod_nonneg (b - 1 - n) (show b ≠ 0 by omega)
  refine ediv_unique n b _ (by omega) ?_ ?_
  · rw [Int.neg_mul, Int.mul_comm]; omega
  · rw [Int.neg_mul, Int.mul_comm]; omega
theorem div_div (n a b : Int) (ha : 0 ≤ a) : n / a / b = n / (a * b) := Int.ediv_ediv_of_nonneg ha
/-! ### powers of two -/
theorem pow_succ2 (k : Nat) : (2 : Int) ^ (k + 1) = 2 * 2 ^ k := by rw [Int.pow_succ, Int.mul_comm]
theorem pow_pos2 (k : Nat) : (1 : Int) ≤ 2 ^ k := by
  induction k with
  | zero => decide
  | succ k ih => rw [pow_succ2]; omega
theorem pow_mono2 (k m : Nat) (h : k ≤ m) : (2 : Int) ^ k ≤ 2 ^ m := by
  induction m with
  | zero => have : k = 0 := by omega
            subst this; omega
  | succ m ih =>
    by_cases e : k = m + 1
    · rw [e]; omega
    · have := ih (by omega); have := pow_pos2 m; rw [pow_succ2]; omega
theorem pow_le40 (k : Nat) (h : k ≤ 40) : (2 : Int) ^ k ≤ 1099511627776 := Int.le_trans (pow_mono2 k 40 h) (by decide)
theorem pow_lt16 (k : Nat) (h : k < 16) : (2 : Int) ^ k ≤ 32768 := Int.le_trans (pow_mono2 k 15 (by omega)) (by decide)
theorem wrap_pow (k : Nat) (h : k < 16) : wrap64 ((2 : Int) ^ k) = 2 ^ k := by
  have h1 := pow_lt16 k h
  have h2 := pow_pos2 k
  generalize (2 : Int) ^ k = x at *
  unfold wrap64
  omega
/-! ### bits of an int -/
theorem and_i64_nat (a b : Nat) (ha : a < 9223372036854775808) (hb : b < 9223372036854775808) :
    Go.bits .and .i64 (a : Int) (b : Int) = ((a &&& b : Nat) : Int) := by
  have hx : a &&& b < 2 ^ 63 := Nat.and_lt_two_pow _ (by omega)
  have h1 : (BitVec.ofInt 64 (a : Int)).toNat = a := by
    rw [BitVec.ofInt_natCast, BitVec.toNat_ofNat]; exact Nat.mod_eq_of_lt (by omega)
  have h2 : (BitVec.ofInt 64 (b : Int)).toNat = b := by
    rw [BitVec.ofInt_natCast, BitVec.toNat_ofNat]; exact Nat.mod_eq_of_lt (by omega)
  show IntKind.i64.wrap ((BitVec.ofInt 64 (a : Int) &&& BitVec.ofInt 64 (b : Int)).toNat : Int) = _
  rw [BitVec.toNat_and, h1, h2, IntKind.wrap_i64]
  omega
theorem or_i64_nat (a b : Nat) (ha : a < 9223372036854775808) (hb : b < 9223372036854775808) :
    Go.bits .or .i64 (a : Int) (b : Int) = ((a ||| b : Nat) : Int) := by
  have hx : a ||| b < 2 ^ 63 := Nat.or_lt_two_pow (by omega) (by omega)
  have h1 : (BitVec.ofInt 64 (a : Int)).toNat = a := by
    rw [BitVec.ofInt_natCast, BitVec.toNat_ofNat]; exact Nat.mod_eq_of_lt (by omega)
  have h2 : (BitVec.ofInt 64 (b : Int)).toNat = b := by
    rw [BitVec.ofInt_natCast, BitVec.toNat_ofNat]; exact Nat.mod_eq_of_lt (by omega)
  show IntKind.i64.wrap ((BitVec.ofInt 64 (a : Int) ||| BitVec.ofInt 64 (b : Int)).toNat : Int) = _
  rw [BitVec.toNat_or, h1, h2, IntKind.wrap_i64]
  omega
theorem and_one (x : Int) (h0 : 0 ≤ x) (h1 : x < 9223372036854775808) : Go.bits .and .i64 x 1 = x % 2 := by
  obtain ⟨n, rfl⟩ := Int.eq_ofNat_of_zero_le h0
  have := and_i64_nat n 1 (by omega) (by decide)
  rw [show ((1 : Nat) : Int) = 1 from rfl] at this
  rw [this, Nat.and_one_is_mod]
  omega
theorem or_high (x : Nat) (k : Nat) (h : x < 2 ^ k) (hk : k < 16) : Go.bits .or .i64 (x : Int) ((2 : Int) ^ k) = (x : Int) + 2 ^ k := by
  have hp : (2 : Nat) ^ k ≤ 32768 := Nat.le_trans (Nat.pow_le_pow_right (by decide) (show k ≤ 15 by omega)) (by decide)
  have e : ((2 : Int) ^ k) = ((2 ^ k : Nat) : Int) := by simp
  have o := Nat.two_pow_add_eq_or_of_lt h 1
  rw [Nat.mul_one] at o
  rw [e, or_i64_nat x (2 ^ k) (by omega) (by omega), Nat.or_comm, ← o]
  omega
theorem has_out (m i : Int) (h : ¬ (0 ≤ m ∧ m < 65536 ∧ 0 ≤ i ∧ i < 16)) : has m i = false := by
  unfold has hasIn; rw [decide_eq_false h]; rfl
theorem has_in (m i : Int) (h : 0 ≤ m ∧ m < 65536 ∧ 0 ≤ i ∧ i < 16) : has m i = (m / 2 ^ i.toNat % 2 == 1) := by
  unfold has hasIn; rw [decide_eq_true h]; rfl
theorem div_pow_lt (m : Int) (k : Nat) (h0 : 0 ≤ m) (h1 : m < 65536) : 0 ≤ m / 2 ^ k ∧ m / 2 ^ k < 65536 := by
  have := div_bd m (2 ^ k) (pow_pos2 k) h0
  omega
theorem has_go (m i : Int) (h : 0 ≤ m ∧ m < 65536 ∧ 0 ≤ i ∧ i < 16) : (Go.bits .and .i64 (m / 2 ^ i.toNat) 1 == 1) = has m i := by
  have := div_pow_lt m i.toNat h.1 h.2.1
  rw [has_in m i h, and_one _ this.1 (by omega)]
/-! ### masks of lists -/
theorem bitsN_lt (l : List Bool) : bitsN l < 2 ^ l.length := by
  induction l with
  | nil => decide
  | cons b r ih => simp only [bitsN, List.length_cons, Nat.pow_succ]; cases b <;> simp <;> omega
theorem bitsN_snoc (l : List Bool) (b : Bool) : bitsN (l ++ [b]) = bitsN l + b.toNat * 2 ^ l.length := by
  induction l with
  | nil => simp [bitsN]
  | cons c r ih =>
    simp only [List.cons_append, bitsN, ih, List.length_cons, Nat.pow_succ, Nat.mul_add]
    rw [show b.toNat * (2 ^ r.length * 2) = 2 * (b.toNat * 2 ^ r.length) by rw [← Nat.mul_assoc, Nat.mul_comm]]
    omega
theorem take_snoc (l : List Bool) (k : Nat) (h : k < l.length) : l.take (k + 1) = l.take k ++ [l.getD k false] := by
  rw [List.take_succ_eq_append_getElem h]; simp [List.getD_eq_getElem?_getD, h]
theorem bitsN_take_true (l : List Bool) (k : Nat) (h : k < l.length) (e : l.getD k false = true) : bitsN (l.take (k + 1)) = bitsN (l.take k) + 2 ^ k := by
  rw [take_snoc l k h, bitsN_snoc, e, List.length_take, Nat.min_eq_left (by omega)]; simp
theorem bitsN_take_false (l : List Bool) (k : Nat) (h : k < l.length) (e : l.getD k false = false) : bitsN (l.take (k + 1)) = bitsN (l.take k) := by
  rw [take_snoc l k h, bitsN_snoc, e]; simp
end Fx
end Go.Proofs.YtacclmfbkiadbaaGreat

namespace Go.Proofs.YtacclmfbkiadbaaGreat
set_option maxRecDepth 100000
open Go.ChangeShapes Go.WideShapes Go.ChangeAt Go.RowKit Go.Deep
/-- A list of bools that a slice leads to (nil, or cells in memory). -/
def BoolsAt (w : World) (a : Option Addr) (l : List Bool) : Prop :=
  l = [] ∨ ∃ b off, a = some ⟨b, off, none⟩ ∧ ∀ i, i < l.length → w.cell? ⟨b, off + i, none⟩ = some (.bool (l.getD i false))
/-- A list of ints that a slice leads to (nil, or cells in memory). -/
def IntsAt (k : IntKind) (w : World) (a : Option Addr) (l : List Int) : Prop :=
  l = [] ∨ ∃ b off, a = some ⟨b, off, none⟩ ∧ ∀ i, i < l.length → w.cell? ⟨b, off + i, none⟩ = some (.int k (l.getD i 0))
theorem add_plain (b off i : Nat) : (⟨b, off, none⟩ : Addr).add i = ⟨b, off + i, none⟩ := by
  by_cases h : i = 0
  · subst h; simp [Addr.add]
  · simp [Addr.add, h]
theorem cell_lt {w : World} {b o : Nat} {v : Value} (h : w.cell? ⟨b, o, none⟩ = some v) : b < w.heap.size := by
  by_cases e : b < w.heap.size
  · exact e
  · have : w.heap[b]? = none := by simp; omega
    simp [World.cell?, this] at h
theorem BoolsAt.below {w w' : World} {a : Option Addr} {l : List Bool} (h : BoolsAt w a l) (hb : Below w.heap.size w w') : BoolsAt w' a l := by
  rcases h with rfl | ⟨b, off, rfl, hc⟩
  · exact Or.inl rfl
  · refine Or.inr ⟨b, off, rfl, fun i hi => ?_⟩
    rw [hb.cell (p := ⟨b, off + i, none⟩) (cell_lt (hc i hi))]; exact hc i hi
theorem IntsAt.below {k : IntKind} {w w' : World} {a : Option Addr} {l : List Int} (h : IntsAt k w a l) (hb : Below w.heap.size w w') : IntsAt k w' a l := by
  rcases h with rfl | ⟨b, off, rfl, hc⟩
  · exact Or.inl rfl
  · refine Or.inr ⟨b, off, rfl, fun i hi => ?_⟩
    rw [hb.cell (p := ⟨b, off + i, none⟩) (cell_lt (hc i hi))]; exact hc i hi
/-- Worlds that grow one behind the other. -/
theorem grow {w w1 w2 : World} (h : Below w.heap.size w w1) (k : Below w1.heap.size w1 w2) : Below w.heap.size w w2 :=
  h.trans (k.mono h.size)
/-- A call that leaves every world as it is may stand in a region that draws its order. -/
theorem still_quiet {P : Program} {f : FuncId} {args : Array Value} {w : World} {n : Nat} {v : Value} (h : ∀ W : World, Calls P f args W fun e w' => e = .returned v ∧ W = w') :
    Calls P f args (w.drewN n) fun e w' => e = .returned v ∧ ∃ m, w' = w.drewN m :=
  (h _).mono fun _ _ r => ⟨r.1, n, r.2.symm⟩
theorem ints2 (w : World) (t : TypeId) (x y : Int) : IntsAt .i64 (w.alloc (.cells #[.int .i64 x, .int .i64 y] t)) (some ⟨w.heap.size, 0, none⟩) [x, y] := by
  refine Or.inr ⟨_, 0, rfl, ?_⟩
  intro i hi
  simp at hi
  rcases i with _ | _ | i <;> first | (simp [World.cell?_alloc_new]; done) | omega
section
variable {H : Type} {enc : TypeId × Value → H} {P : Program} {w : World}
end
end Go.Proofs.YtacclmfbkiadbaaGreat

namespace Go.Proofs.YtacclmfbkiadbaaGreat
set_option maxRecDepth 100000
open Go.ChangeShapes Go.WideShapes Go.ChangeAt Go.RowKit Go.Deep
/-- A block is laid, and a call made over it. -/
theorem grow_alloc {w w1 w2 : World} {o : Obj} (h : Below w.heap.size w w1) (k : Below (w1.alloc o).heap.size (w1.alloc o) w2) : Below w.heap.size w w2 :=
  (h.alloc h.size o).trans (k.mono (by have := h.size; simp; omega))
/-- A callee that writes nothing that was there, met in a region that draws its order (wp_region_quiet_below). -/
theorem reg_call {P : Program} {f : FuncId} {args : Array Value} {w : World} {v : Value} (h : ∀ W, Below w.heap.size w W → Calls P f args W fun e w' => e = .returned v ∧ Below W.heap.size W w') :
    ∀ d os, Calls P f args (Sort.grow (redrawn w d) os) fun e w'' => e = .returned v ∧ ∃ p : Regrown, w'' = Sort.grow (redrawn w p.d) p.os :=
  fun d os => Calls.regrown_of (h _ (below_regrown w d os))
/-- What a call hands back: a slice that reads as the list l; nothing that was there is written. -/
def RetI (k : IntKind) (w : World) (l : List Int) (e : Ending) (w' : World) : Prop :=
  ∃ a cap, e = .returned (.slice a l.length cap) ∧ IntsAt k w' a l ∧ Below w.heap.size w w'
theorem RetI.congr {k : IntKind} {w : World} {l l' : List Int} {e : Ending} {w' : World} (h : RetI k w l e w') (he : l = l') : RetI k w l' e w' := he ▸ h
theorem retI_nil {k : IntKind} {w w' : World} {l : List Int} (he : l = []) (hb : Below w.heap.size w w') : RetI k w l (.returned (.slice none 0 0)) w' := by
  subst he; exact ⟨none, 0, rfl, Or.inl rfl, hb⟩
theorem retI_mk {k : IntKind} {w w' : World} {a : Option Addr} {l l' : List Int} {n cap : Nat} (he : l' = l) (hn : l'.length = n) (hi : IntsAt k w' a l') (hb : Below w.heap.size w w') :
    RetI k w l (.returned (.slice a n cap)) w' := by subst he; subst hn; exact ⟨a, cap, rfl, hi, hb⟩
/-- The cells of a list of numbers. -/
def cellsI (k : IntKind) (l : List Int) : List Value := l.map (Value.int k)
theorem cellsI_len (k : IntKind) (l : List Int) : (cellsI k l).length = l.length := by simp [cellsI]
theorem cellsI_get (k : IntKind) (l : List Int) (i : Nat) (h : i < l.length) : (cellsI k l)[i]? = some (.int k (l.getD i 0)) := by
  simp [cellsI, List.getD_eq_getElem?_getD, h]
theorem cellsI_one (k : IntKind) (l : List Int) : ∀ v ∈ cellsI k l, v.oneCell' = true := ints_oneCell k l
theorem cellsI_set (k : IntKind) (l : List Int) (i : Nat) (x : Int) : cellsI k (l.set i x) = (cellsI k l).set i (.int k x) := by
  simp [cellsI, List.map_set]
theorem cellsI_app (k : IntKind) (l r : List Int) : cellsI k (l ++ r) = cellsI k l ++ cellsI k r := by simp [cellsI]
/-- A block that is known whole: just the numbers of l. -/
def IRow (k : IntKind) (w : World) (g : Nat) (t : TypeId) (l : List Int) : Prop := w.heap[g]? = some (.cells (cellsI k l).toArray t (0, 0))
section
variable {k : IntKind} {w w' : World} {g : Nat} {t : TypeId} {l : List Int}
theorem IRow.lt (h : IRow k w g t l) : g < w.heap.size := by
  rcases Nat.lt_or_ge g w.heap.size with hlt | hge
  · exact hlt
  · unfold IRow at h; rw [Array.getElem?_eq_none hge] at h; cases h
theorem IRow.cell (h : IRow k w g t l) (i : Nat) (hi : i < l.length) : w.cell? ⟨g, i, none⟩ = some (.int k (l.getD i 0)) := by
  rw [cell_of_row w g i _ t (0, 0) h]; simpa using cellsI_get k l i hi
theorem IRow.frozen (h : IRow k w g t l) (i : Nat) : w.frozen? ⟨g, i, none⟩ = false := by
  unfold IRow at h; simp [World.frozen?, h]
theorem IRow.drew (h : IRow k w g t l) : IRow k w.drew g t l := h
theorem IRow.drewN (h : IRow k w g t l) (n : Nat) : IRow k (w.drewN n) g t l := h
theorem IRow.alloc (h : IRow k w g t l) (o : Obj) : IRow k (w.alloc o) g t l := (Below.heap_alloc w o g h.lt).trans h
theorem IRow.set (h : IRow k w g t l) (i : Nat) (x : Int) : IRow k (w.setCell ⟨g, i, none⟩ (.int k x)) g t (l.set i x) := by
  unfold IRow at h ⊢
  rw [cellsI_set]
  simp [World.setCell, Array.getElem?_modify, h]
theorem IRow.below {B : Nat} (h : IRow k w g t l) (hb : Below B w w') (hg : g < B) : IRow k w' g t l := (hb.block g hg).trans h
theorem IRow.ints (h : IRow k w g t l) : IntsAt k w (some ⟨g, 0, none⟩) l :=
  Or.inr ⟨g, 0, rfl, fun i hi => by rw [Nat.zero_add]; exact h.cell i hi⟩
theorem IRow.of_own {base n : Nat} {xs : List Value} (h : w.ownsRow base t 1 (.slice (some ⟨g, 0, none⟩) n n) n xs) (hx : xs = cellsI k l) : IRow k w g t l := by
  subst hx
  rcases h with ⟨hl, ⟨h0, _⟩ | ⟨g', cap, cur, hv, _, hh, _, _, hs, ht⟩⟩
  · cases h0
  · injection hv with h1 h2 h3
    injection h1 with h1; injection h1 with h1
    subst h1; subst h3
    unfold IRow
    rw [hh]
    have : cur = (cellsI k l).toArray := by
      apply Array.toList_inj.1
      rw [← ht, List.take_of_length_le (by simp [hs])]
    rw [this]
theorem below_drewN {B : Nat} {a w : World} (h : Below B a w) (n : Nat) : Below B a (w.drewN n) := ⟨h.os, h.tape, h.output, h.size, h.block⟩
end
theorem zeros_cellsI (n : Nat) : (madeCells (Value.int .i64 0).cells (n * 1)).toList = cellsI .i64 (List.replicate n 0) := by
  have : (Value.int .i64 0).cells = #[Value.int .i64 0] := rfl
  rw [this, toList_madeCells_one]; simp [cellsI]
/-- A slice's cells, as the source of a copy or of an append. -/
theorem IntsAt.source {k : IntKind} {w : World} {a : Option Addr} {l : List Int} (h : IntsAt k w a l) (hp : 0 < l.length) :
    ∃ ad, a = some ad ∧ ∀ (j : Nat) (v : Value), (cellsI k l)[j]? = some v → w.cell? (ad.add j) = some v := by
  rcases h with rfl | ⟨b, off, rfl, hc⟩
  · simp at hp
  · refine ⟨_, rfl, fun j v hv => ?_⟩
    rw [add_plain]
    by_cases hj : j < l.length
    · rw [cellsI_get k l j hj] at hv; cases hv; exact hc j hj
    · rw [List.getElem?_eq_none (by rw [cellsI_len]; omega)] at hv; cases hv
theorem IntsAt.drew {k : IntKind} {w : World} {a : Option Addr} {l : List Int} (h : IntsAt k w a l) : IntsAt k w.drew a l := h
theorem IntsAt.drewN {k : IntKind} {w : World} {a : Option Addr} {l : List Int} (h : IntsAt k w a l) (n : Nat) : IntsAt k (w.drewN n) a l := h
theorem IntsAt.take {k : IntKind} {w : World} {a : Option Addr} {l : List Int} (h : IntsAt k w a l) (j : Nat) : IntsAt k w a (l.take j) := by
  rcases h with rfl | ⟨b, off, rfl, hc⟩
  · exact Or.inl (by simp)
  · refine Or.inr ⟨b, off, rfl, fun i hi => ?_⟩
    rw [List.length_take] at hi
    rw [hc i (by omega)]; simp [List.getD_eq_getElem?_getD, List.getElem?_take_of_lt (show i < j by omega)]
theorem intsAt_drop {k : IntKind} {w : World} {b off : Nat} {l : List Int} (j : Nat) (hc : ∀ i, i < l.length → w.cell? ⟨b, off + i, none⟩ = some (.int k (l.getD i 0))) : IntsAt k w (some ⟨b, off + j, none⟩) (l.drop j) := by
  refine Or.inr ⟨b, off + j, rfl, fun i hi => ?_⟩
  rw [List.length_drop] at hi
  rw [Nat.add_assoc, hc (j + i) (by omega)]; simp [List.getD_eq_getElem?_getD]
/-- A row that the call itself made, and that may grow. -/
def OwnI (k : IntKind) (base : Nat) (t : TypeId) (w : World) (v : Value) (l : List Int) : Prop := w.ownsRow base t 1 v l.length (cellsI k l)
section
variable {k : IntKind} {base : Nat} {t : TypeId} {w w' : World} {v : Value} {l : List Int}
theorem OwnI.nil : OwnI k base t w (.slice none 0 0) [] := World.ownsRow_nil _ _ _ _
theorem OwnI.form (h : OwnI k base t w v l) : ∃ a cap, v = .slice a l.length cap ∧ IntsAt k w a l := by
  have hc : ∀ g, v.ownBlock = some g → _ := fun g hg => World.ownsRow.cells h (g := g) hg
  rcases h with ⟨hl, ⟨rfl, h0⟩ | ⟨g, cap, cur, rfl, _⟩⟩
  · rw [h0]; exact ⟨none, 0, rfl, Or.inl (List.eq_nil_of_length_eq_zero h0)⟩
  · refine ⟨_, cap, rfl, Or.inr ⟨g, 0, rfl, fun i hi => ?_⟩⟩
    have := hc g rfl i _ (cellsI_get k l i hi)
    rw [add_plain] at this; exact this
theorem OwnI.drewN (h : OwnI k base t w v l) (n : Nat) : OwnI k base t (w.drewN n) v l := h
theorem OwnI.alloc (h : OwnI k base t w v l) (o : Obj) : OwnI k base t (w.alloc o) v l := World.ownsRow.alloc h o
theorem OwnI.blk (h : OwnI k base t w v l) : ∀ j, v.ownBlock = some j → base ≤ j := fun j hj => (World.ownsRow.lt h j hj).1
end
section
variable {P : Program}
/-- append(out, x) of one number, out the call's own row (nil or not). -/
theorem wpList_append1 {wr : World} {ops : Array Oper} {rest : List Oper} {o : Oper} {a : Act} {Q : Exit → Act → World → Prop} (hgd : o.guard = none) (s x : Operand) (t : TypeId)
    (ho : o.op = .call { callee := .builtin .append, args := #[s, x], argTypes := #[t, t] })
    (k : IntKind) (base : Nat) (e : TypeId) (bytes : Nat) (ht : P.underlying t = some (.slice e)) (hi : (P.info? e).map (fun i => (i.zero, i.size, i.bytes)) = some (some (.int k 0), 1, bytes))
    (v : Value) (l : List Int) (y : Int) (te : TypeId) (hs : a.eval s = v) (hx : a.eval x = .slice (some ⟨wr.heap.size, 0, none⟩) 1 1) (hown : OwnI k base e wr v l)
    (hl : l.length < 1099511627776) (hby : bytes ≤ 64) (w0 : World) (hb : Below base w0 wr) (hbase : base ≤ w0.heap.size)
    (h : ∀ v' w', OwnI k base e w' v' (l ++ [y]) → Below base w0 w' → wpList P ops Q rest (a.put o.dst v') w') :
    wpList P ops Q (o :: rest) a (wr.alloc (.cells #[.int k y] te)) := by
  obtain ⟨i0, hi0, hz0, hz1, hz2⟩ := info_parts hi
  have hsz := hb.size
  refine wpList_append_own _ hgd s x t ho base e i0 _ 1 bytes ht hi0 hz0 hz1 hz2 rfl (by omega) v l.length (cellsI k l) hs (hown.alloc _) ⟨wr.heap.size, 0, none⟩ 1 1 [.int k y] hx rfl ?_ ?_ (by unfold maxLen; omega) ?_ (by simp; omega) ?_
  · intro j u hj
    match j, hj with
    | 0, hj => simp at hj; subst hj; simp [Addr.add]
  · intro u hu; simp at hu; subst hu; rfl
  · calc (l.length + 1) * bytes ≤ 1099511627776 * 64 := Nat.mul_le_mul (by omega) hby
      _ ≤ 140737488355328 := by omega
  · intro v' w' h1 h2 _
    refine h v' w' ?_ ?_
    · unfold OwnI; rw [cellsI_app, List.length_append]; exact h1
    · exact (hb.alloc (by omega) _).grown h2 (by simp; omega) (fun j hj => hown.blk j hj)
/-- copy(dst, src): dst lies in a row that is known whole, src wherever. -/
theorem wpList_copyI {w : World} {ops : Array Oper} {rest : List Oper} {o : Oper} {a : Act} {Q : Exit → Act → World → Prop} (hgd : o.guard = none) (d s : Operand) (dT : TypeId)
    (ho : o.op = .call { callee := .builtin .copy, args := #[d, s], argTypes := #[dT, dT] }) (elem : TypeId) (hu : P.underlying dT = some (.slice elem)) (hsz : (P.info? elem).map (·.size) = some 1)
    (k : IntKind) (g off : Nat) (cur cs : List Int) (t : TypeId) (dp sp : Option Addr) (dLen dCap sLen sCap : Nat) (hd : a.eval d = .slice dp dLen dCap) (hs : a.eval s = .slice sp sLen sCap)
    (hg : IRow k w g t cur) (hn : cs.length = Nat.min sLen dLen) (hdp : 0 < cs.length → dp = some ⟨g, off, none⟩) (hsp : IntsAt k w sp cs)
    (hfit : off + cs.length ≤ cur.length) (B : Nat) (w0 : World) (hb : Below B w0 w) (hBg : B ≤ g)
    (h : ∀ w', Hid (IRow k w' g t (splice cur off cs)) → Below B w0 w' → wpList P ops Q rest (a.put o.dst (goInt cs.length)) w') :
    wpList P ops Q (o :: rest) a w := by
  refine wpList_copy_splice hgd d s dT dT ho elem hu hsz dp sp dLen dCap sLen sCap hd hs g off (cellsI k cur) t hg (cellsI k cs) (by rw [cellsI_len]; exact hn)
    (fun hp => ?_) (by rw [cellsI_len, cellsI_len]; exact hfit) (cellsI_one _ _) B w0 hb hBg ?_
  · rw [cellsI_len] at hp; exact ⟨hdp hp, hsp.source hp⟩
  · intro w' h1 h2
    rw [cellsI_len]
    refine h w' ?_ h2
    show IRow k w' g t (splice cur off cs)
    have := h1.out
    unfold IRow
    rw [this]
    simp [splice, cellsI]
theorem step_copyI {ops : Array Oper} {o : Oper} {a : Act} {w : World} {K : Act → World → Prop} {Q : Exit → Act → World → Prop} {E : Prop} (hgd : o.guard = none) (d s : Operand) (dT : TypeId)
    (ho : o.op = .call { callee := .builtin .copy, args := #[d, s], argTypes := #[dT, dT] }) (elem : TypeId) (hu : P.underlying dT = some (.slice elem)) (hsz : (P.info? elem).map (·.size) = some 1)
    (k : IntKind) (g off : Nat) (cur cs : List Int) (t : TypeId) (dp sp : Option Addr) (dLen dCap sLen sCap : Nat) (hd : a.eval d = .slice dp dLen dCap) (hs : a.eval s = .slice sp sLen sCap)
    (hg : IRow k w g t cur) (hn : cs.length = Nat.min sLen dLen) (hdp : 0 < cs.length → dp = some ⟨g, off, none⟩) (hsp : IntsAt k w sp cs)
    (hfit : off + cs.length ≤ cur.length) (B : Nat) (w0 : World) (hb : Below B w0 w) (hBg : B ≤ g)
    (h : ∀ w', Hid (IRow k w' g t (splice cur off cs)) → Below B w0 w' → K (a.put o.dst (goInt cs.length)) w') :
    if Region.wanted o (yielded ops a.tmps) = true then Oper.wp P o a w K Q else E := by
  refine step_copy_splice hgd d s dT dT ho elem hu hsz dp sp dLen dCap sLen sCap hd hs g off (cellsI k cur) t hg (cellsI k cs) (by rw [cellsI_len]; exact hn)
    (fun hp => ?_) (by rw [cellsI_len, cellsI_len]; exact hfit) (cellsI_one _ _) B w0 hb hBg ?_
  · rw [cellsI_len] at hp; exact ⟨hdp hp, hsp.source hp⟩
  · intro w' h1 h2
    rw [cellsI_len]
    refine h w' ?_ h2
    show IRow k w' g t (splice cur off cs)
    have := h1.out
    unfold IRow
    rw [this]
    simp [splice, cellsI]
theorem splice_whole {α : Type} (z c : List α) (h : z.length = c.length) : splice z 0 c = c := by
  unfold splice; rw [List.drop_eq_nil_of_le (by omega)]; simp
end
end Go.Proofs.YtacclmfbkiadbaaGreat
