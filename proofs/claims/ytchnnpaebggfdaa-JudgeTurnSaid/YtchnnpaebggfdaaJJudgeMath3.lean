/-
  Plain mathematics for layer 23 (judge): one point of a scene alone, rows of points in which the odd one was far off, what there is to complain of each point and signal. No Go text is reached here. No conditions.
  An object that the call itself made, while the world goes on. No function of the program is walked here. No conditions.
  A struct of whatever kinds in a block that is known whole: loaded whole, stored whole, handed back by a result's cell. No function of the program is walked here. No conditions.
-/
import Derived.Test.YtchnnpaebggfdaaSceneMath
import Derived.Test.YtchnnpaebggfdaaJFixMath3
import Derived.Test.YtchnnpaebggfdaaJAgg4
import Derived.Laws.ResultCell
namespace Go.Proofs.Ytchnnpaebggfdaa
set_option maxRecDepth 100000
open Go.ChangeShapes Go.WideShapes Go.ChangeAt Go.RowKit Go.Deep
namespace Jd
open Cf (G CA)
open Sc (Sn Pt Ok Cv pt tv ov qv NN lo hi far val fault bound)
open Ot (Ou)
open Ss (St zer)
/-! A point alone. -/
def one (s : Sn) (i : Nat) : Sn := { s with ps := [pt s i] }
section
variable {s : Sn} {i n : Nat} {b : Int}
theorem one_len : (one s i).ps.length = 1 := rfl
theorem one_lo {m : Nat} : lo b (one s i) 0 n m = lo b s i n m := by
  induction m with
  | zero => rfl
  | succ m ih => unfold lo; rw [ih]; rfl
theorem one_hi {m : Nat} : hi b (one s i) 0 n m = hi b s i n m := by
  induction m with
  | zero => rfl
  | succ m ih => unfold hi; rw [ih]; rfl
theorem one_nn : NN (one s i) = NN s := rfl
theorem one_ok (H : Ok s) (hi : i < s.ps.length) : Ok (one s i) := by
  refine ⟨H.cov, H.odd, H.num, by rw [one_len]; omega, fun j hj => ?_, fun j hj => ?_⟩
  · obtain rfl : j = 0 := by rw [one_len] at hj; omega
    have h := H.tru i hi
    unfold Sc.tok at h ⊢
    rw [Sc.all_range] at h ⊢
    intro k hk
    have h1 := h k hk
    unfold Sc.tok1 at h1 ⊢
    rw [Bool.and_eq_true] at h1
    have h2 : Sc.inT (one s i) (tv (one s i) 0 k) = true := h1.1
    rw [h2]; rfl
  · obtain rfl : j = 0 := by rw [one_len] at hj; omega
    exact H.off i hi
end
/-! Rows of points in which the odd one was far off, behind the first i points. -/
def rowc (s : Sn) (n : Nat) : Nat → Nat
  | 0 => 0
  | i + 1 => if far s i n = true then rowc s n i + 1 else 0
theorem rowc_le (s : Sn) (n : Nat) : ∀ i, rowc s n i ≤ i
  | 0 => Nat.le_refl _
  | i + 1 => by have := rowc_le s n i; unfold rowc; split <;> omega
theorem rowc_yes {s : Sn} {n i : Nat} (h : far s i n = true) : rowc s n (i + 1) = rowc s n i + 1 := by
  show (if far s i n = true then rowc s n i + 1 else 0) = _
  rw [if_pos h]
theorem rowc_no {s : Sn} {n i : Nat} (h : far s i n = false) : rowc s n (i + 1) = 0 := by unfold rowc; rw [if_neg (by rw [h]; decide)]
/-- The same, counted backward. -/
theorem rowc_back {s : Sn} {n : Nat} : ∀ (k i : Nat), k ≤ i → (∀ j, j < k → far s (i - 1 - j) n = true) → rowc s n i = k + rowc s n (i - k)
  | 0, i, _, _ => by simp
  | k + 1, 0, h, _ => by omega
  | k + 1, i + 1, h, hf => by
    have h0 := hf 0 (by omega)
    rw [show i + 1 - 1 - 0 = i by omega] at h0
    rw [rowc_yes h0, rowc_back k i (by omega) (fun j hj => by have := hf (j + 1) (by omega); rwa [show i + 1 - 1 - (j + 1) = i - 1 - j by omega] at this), show i + 1 - (k + 1) = i - k by omega]
    omega
theorem rowc_end {s : Sn} {n i k : Nat} (hk : k ≤ i) (hf : ∀ j, j < k → far s (i - 1 - j) n = true) (he : k = i ∨ (k < i ∧ far s (i - 1 - k) n = false)) : rowc s n i = k := by
  rw [rowc_back k i hk hf]
  rcases he with rfl | ⟨h, he⟩
  · rw [Nat.sub_self]; rfl
  · obtain ⟨q, hq⟩ : ∃ q, i - k = q + 1 := ⟨i - k - 1, by omega⟩
    rw [hq, rowc_no (by rwa [show i - 1 - k = q by omega] at he)]; omega
/-! The rows of all eight signals, behind p places (a place: a point, and a signal, both rising). -/
def rw8 (s : Sn) (p : Nat) : List Int := (List.range 8).map fun n => (rowc s n (if n < p % 8 then p / 8 + 1 else p / 8) : Int)
theorem rw8_len {s : Sn} {p : Nat} : (rw8 s p).length = 8 := by simp [rw8]
theorem rw8_get {s : Sn} {p n : Nat} (hn : n < 8) : (rw8 s p).getD n 0 = (rowc s n (if n < p % 8 then p / 8 + 1 else p / 8) : Int) := by
  unfold rw8; simp [List.getD_eq_getElem?_getD, hn]
theorem rw8_here {s : Sn} {p : Nat} : (rw8 s p).getD (p % 8) 0 = (rowc s (p % 8) (p / 8) : Int) := by rw [rw8_get (Nat.mod_lt _ (by decide)), if_neg (by omega)]
theorem rw8_next {s : Sn} {p : Nat} : (rw8 s p).set (p % 8) (rowc s (p % 8) (p / 8 + 1) : Int) = rw8 s (p + 1) := by
  refine List.ext_getElem? fun j => ?_
  rw [List.getElem?_set, rw8_len]
  by_cases hj : j < 8
  · have e : ∀ q, (rw8 s q)[j]? = some (rowc s j (if j < q % 8 then q / 8 + 1 else q / 8) : Int) := fun q => by
      have := rw8_get (s := s) (p := q) hj
      rw [List.getD_eq_getElem?_getD] at this
      rw [List.getElem?_eq_getElem (by rw [rw8_len]; exact hj)] at this ⊢
      exact congrArg some this
    rw [e, e]
    by_cases h : p % 8 = j
    · rw [if_pos h, if_pos (by omega), h]
      congr 2
      by_cases h7 : j = 7
      · rw [if_neg (by omega)]; congr 1; omega
      · rw [if_pos (by omega)]; congr 1; omega
    · rw [if_neg h]
      congr 2
      by_cases h7 : p % 8 = 7
      · rw [if_pos (by omega), if_neg (by omega)]; congr 1; omega
      · rw [show (p + 1) % 8 = p % 8 + 1 by omega, show (p + 1) / 8 = p / 8 by omega]
        by_cases hl : j < p % 8
        · rw [if_pos hl, if_pos (by omega)]
        · rw [if_neg hl, if_neg (by omega)]
  · rw [if_neg (by omega), List.getElem?_eq_none (by rw [rw8_len]; omega), List.getElem?_eq_none (by rw [rw8_len]; omega)]
/-! What there is to complain. -/
/-- Has a channel that there is, but the odd one, such a bit? -/
def sm1 (s : Sn) (m : Int) (b : Bool) (k : Nat) : Bool := !(decide ((k : Int) = s.odd)) && (Fx.has m k == b)
def sm (s : Sn) (m : Int) (b : Bool) : Bool := (List.range (NN s)).any (sm1 s m b)
theorem sm_yes {s : Sn} {m : Int} {b : Bool} {k : Nat} (hk : k < NN s) (h : sm1 s m b k = true) : sm s m b = true := by
  unfold sm; rw [List.any_eq_true]; exact ⟨k, List.mem_range.2 hk, h⟩
theorem sm_no {s : Sn} {m : Int} {b : Bool} (h : ∀ k, k < NN s → sm1 s m b k = false) : sm s m b = false := by
  unfold sm; rw [List.any_eq_false]; intro k hk; rw [h k (List.mem_range.1 hk)]; decide
def least (s : Sn) (i n : Nat) : Int := lo 2147483647 s i n (NN s)
def most (s : Sn) (i n : Nat) : Int := hi (-2147483648) s i n (NN s)
def stt (o : Ou) (n : Nat) : St := o.s.getD n zer
/-- By a value, a status, the range, and a row. -/
def wdx (s : Sn) (x : St) (v l m r : Int) : ByteArray :=
  if x.f = true then ⟨#[102, 97, 105, 108]⟩ else if sm s x.i false = true then ⟨#[111, 117, 116]⟩ else if sm s x.l true = true then ⟨#[108, 97, 116, 99, 104, 101, 100]⟩
  else if v < l - G s.c 10 - G s.c 12 then ⟨#[108, 111, 119]⟩ else if m + G s.c 10 + G s.c 12 < v then ⟨#[104, 105, 103, 104]⟩
  else if G s.c 13 ≤ r ∧ Fx.has x.l s.odd = false then ⟨#[108, 111, 115, 116]⟩ else ⟨#[]⟩
def wd (s : Sn) (o : Ou) (i n : Nat) (r : Int) : ByteArray := wdx s (stt o n) (o.v.getD n 0) (least s i n) (most s i n) r
theorem wd_one {s : Sn} {o : Ou} {i n : Nat} {r : Int} : wd (one s i) o 0 n r = wd s o i n r := by
  unfold wd least most
  rw [one_nn, one_lo, one_hi]; rfl
def ou (l : List Ou) (i : Nat) : Ou := l.getD i Ot.zou
/-- Of the place p. -/
def wa (s : Sn) (l : List Ou) (p : Nat) : ByteArray := wd s (ou l (p / 8)) (p / 8) (p % 8) (rowc s (p % 8) (p / 8 + 1) : Int)
def bad (s : Sn) (l : List Ou) (p : Nat) : Bool := !(decide (wa s l p = ⟨#[]⟩))
/-- The places of which there is something to complain, of the first m. -/
def bads (s : Sn) (l : List Ou) (m : Nat) : List Nat := (List.range m).filter (bad s l)
theorem bads_yes {s : Sn} {l : List Ou} {m : Nat} (h : bad s l m = true) : bads s l (m + 1) = bads s l m ++ [m] := by
  unfold bads; rw [List.range_succ, List.filter_append]; simp [h]
theorem bads_no {s : Sn} {l : List Ou} {m : Nat} (h : bad s l m = false) : bads s l (m + 1) = bads s l m := by
  unfold bads; rw [List.range_succ, List.filter_append]; simp [h]
theorem bads_len {s : Sn} {l : List Ou} {m : Nat} : (bads s l m).length ≤ m := by
  have := List.length_filter_le (bad s l) (List.range m)
  rw [List.length_range] at this
  exact this
theorem mem_bads {s : Sn} {l : List Ou} {m p : Nat} : p ∈ bads s l m ↔ p < m ∧ bad s l p = true := by
  unfold bads; rw [List.mem_filter, List.mem_range]
theorem bads_sorted (s : Sn) (l : List Ou) (m : Nat) : (bads s l m).Pairwise (· < ·) := by
  unfold bads
  exact List.Pairwise.filter _ (List.pairwise_lt_range)
end Jd
end Go.Proofs.Ytchnnpaebggfdaa

namespace Go.Proofs.Ytchnnpaebggfdaa
set_option maxRecDepth 100000
open Go.ChangeShapes Go.WideShapes Go.ChangeAt Go.RowKit Go.Deep
namespace Kp
/-- The block g holds these cells; it is new since w. -/
structure Kept (w W : World) (g : Nat) (t : TypeId) (cs : List Value) : Prop where
  below : Below w.heap.size w W
  row : VRow W g t cs
  ge : w.heap.size ≤ g
section
variable {w W W' : World} {g : Nat} {t : TypeId} {cs cs' : List Value}
theorem Kept.on (h : Kept w W g t cs) (b : Below W.heap.size W W') : Kept w W' g t cs := ⟨grow h.below b, h.row.below b h.row.lt, h.ge⟩
theorem Kept.alloc (h : Kept w W g t cs) (o : Obj) : Kept w (W.alloc o) g t cs := ⟨h.below.alloc h.below.size o, h.row.alloc o, h.ge⟩
theorem Kept.drewN (h : Kept w W g t cs) (n : Nat) : Kept w (W.drewN n) g t cs := ⟨below_drewN h.below n, h.row.drewN n, h.ge⟩
theorem Kept.take (h : Kept w W g t cs) (o : Only g W W') (k : VRow W' g t cs') : Kept w W' g t cs' := ⟨o.below h.below h.below.size h.ge, k, h.ge⟩
theorem kept_new (w W : World) (cs : List Value) (t : TypeId) (h : Below w.heap.size w W) : Kept w (W.alloc (.cells cs.toArray t)) W.heap.size t cs := ⟨h.alloc h.size _, VRow.new W cs t, h.size⟩
end
end Kp
end Go.Proofs.Ytchnnpaebggfdaa

namespace Go.Proofs.Ytchnnpaebggfdaa
set_option maxRecDepth 100000
open Go.ChangeShapes Go.WideShapes Go.ChangeAt Go.RowKit Go.Deep
section
variable {w w' : World} {g j : Nat} {t : TypeId} {cs cs' : List Value}
theorem VRow.put (h : VRow w g t cs) (cs' : List Value) : VRow (w.setRow g cs'.toArray) g t cs' := setRow_heap w g cs.toArray cs'.toArray t (0, 0) h
theorem VRow.putOther (h : VRow w g t cs) (hj : g ≠ j) (c : Array Value) : VRow (w.setRow j c) g t cs := (setRow_other w j g c hj).trans h
theorem Below.put {B : Nat} {a : World} (h : Below B a w) (hg : B ≤ g) (c : Array Value) : Below B a (w.setRow g c) :=
  ⟨h.os, h.tape, h.output, by simpa [World.setRow] using h.size, fun k hk => (setRow_other w g k c (by omega)).trans (h.block k hk)⟩
theorem But.put {S : Nat → Prop} {a : World} (h : But S a w) (hg : S g ∨ a.heap.size ≤ g) (c : Array Value) : But S a (w.setRow g c) :=
  ⟨h.os, h.tape, h.output, by simpa [World.setRow] using h.size, fun k hk hs => (setRow_other w g k c (fun e => by
    rcases hg with q | q
    · exact hs (e ▸ q)
    · omega)).trans (h.block k hk hs)⟩
end
namespace VB
section
variable {P : Program} {w : World} {t tt : TypeId} {g : Nat} {cs : List Value}
/-- The whole variable out of its block. -/
theorem load (hA : (isAgg t).run P w = .ok true w) (hi : (P.info? t).map (·.size) = some cs.length) (h : VRow w g tt cs) :
    (loadVar t ⟨g, 0, none⟩).run P w = .ok (.agg cs.toArray) w := by
  have h1 := run_loadCells_list (P := P) w ⟨g, 0, none⟩ cs (fun j v hv => by rw [add_plain, Nat.zero_add]; exact VRow.cell h j hv)
  cases hq : P.info? t with
  | none => simp [hq] at hi
  | some i =>
    have hs : i.size = cs.length := by simpa [hq] using hi
    simp [loadVar, hA, sizeOf, typeInfo, hq, hs, h1, Result.andThen]
/-- A result that lies in a cell; with one beside it; with two. -/
theorem ret1 {fn : Func} {p : Tmp} {ty : TypeId} {tmps : Array Value} (h : fn.results = #[.cell p ty]) (ht : tmps.getD p undef = .pointer (some ⟨g, 0, none⟩)) (hA : (isAgg ty).run P w = .ok true w) (hi : (P.info? ty).map (·.size) = some cs.length) (hr : VRow w g tt cs) :
    (results fn tmps).run P w = .ok (.agg cs.toArray) w := by
  rw [Agg.results_cell h, ht]
  simp only [asAddr, Sem.run_pure, Result.andThen]
  rw [load hA hi hr]
/-- A whole struct stored. -/
theorem store {ops : Array Oper} {rest : List Oper} {o : Oper} {a : Act} {Q : Exit → Act → World → Prop} (hgd : o.guard = none) (x y : Operand) (ho : o.op = .store t x y)
    (g : Nat) (cs' : List Value) (hx : a.eval x = .pointer (some ⟨g, 0, none⟩)) (hy : a.eval y = .agg cs'.toArray) (hr : VRow w g tt cs) (hi : (P.info? t).map (·.size) = some cs'.length) (hl : cs.length = cs'.length) (h1 : cs'.toArray.all (·.oneCell') = true)
    (h : wpList P ops Q rest (a.put o.dst undef) (w.setRow g cs'.toArray)) : wpList P ops Q (o :: rest) a w :=
  wpList_store_row hgd t x y ho g cs'.toArray hx hy tt cs.toArray hr (by simpa using hi) (by simpa using hl) h1 h
/-- A whole struct loaded. -/
theorem loaded {ops : Array Oper} {rest : List Oper} {o : Oper} {a : Act} {Q : Exit → Act → World → Prop} (hgd : o.guard = none) (x : Operand) (ho : o.op = .load t x)
    (g : Nat) (hx : a.eval x = .pointer (some ⟨g, 0, none⟩)) (hr : VRow w g tt cs) {d : TypeDesc} (hu : P.underlying t = some d) (hd : (match d with | .struct _ | .array _ _ => true | _ => false) = true) (hi : (P.info? t).map (·.size) = some cs.length)
    (h : wpList P ops Q rest (a.put o.dst (.agg cs.toArray)) w) : wpList P ops Q (o :: rest) a w :=
  wpList_load_row hgd t x ho g hx tt cs.toArray (0, 0) d hr hu hd (by simpa using hi) h
end
end VB
end Go.Proofs.Ytchnnpaebggfdaa
