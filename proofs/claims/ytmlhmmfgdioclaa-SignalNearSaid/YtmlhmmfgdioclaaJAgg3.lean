/-
  Structs and arrays of numbers in a block that is known whole: loaded, stored, handed back by a result's cell. No function of the program is walked here. No conditions.
  Blocks of cells of whatever kinds, known whole: loaded, stored, kept; and worlds in which only some blocks were written. No function of the program is walked here. No conditions.
  What package jump tells, as functions of numbers. No Go text is reached here. No conditions.
-/
import Derived.Test.YtmlhmmfgdioclaaJOpen2
import Derived.Laws.Rows
import Derived.Laws.Tables
import Derived.Laws.World
import Derived.Laws.ResultCell
import Derived.Laws.StructEq
import Derived.Test.YtmlhmmfgdioclaaFixMath
namespace Go.Proofs.Ytmlhmmfgdioclaa
set_option maxRecDepth 100000
open Go.ChangeShapes Go.WideShapes Go.ChangeAt Go.RowKit Go.Deep
theorem OwnI.below {k : IntKind} {base : Nat} {t : TypeId} {w w' : World} {v : Value} {l : List Int} (h : OwnI k base t w v l) (hb : Below w.heap.size w w') : OwnI k base t w' v l := by
  rcases h with ⟨hl, h0 | ⟨g, cap, cur, hv, hbg, hh, rest⟩⟩
  · exact ⟨hl, Or.inl h0⟩
  · have hlt : g < w.heap.size := by
      rcases Nat.lt_or_ge g w.heap.size with hlt | hge
      · exact hlt
      · rw [Array.getElem?_eq_none hge] at hh; cases hh
    exact ⟨hl, Or.inr ⟨g, cap, cur, hv, hbg, (hb.block g hlt).trans hh, rest⟩⟩
theorem grow_from {B : Nat} {a w w' : World} (h : Below B a w) (hb : Below w.heap.size w w') (hB : B ≤ w.heap.size) : Below B a w' := h.trans (hb.mono hB)
namespace Agg
section
variable {P : Program} {w : World} {t tt : TypeId} {k : IntKind} {g : Nat} {l : List Int}
/-- The whole variable out of its block. -/
theorem load_row (hA : (isAgg t).run P w = .ok true w) (hi : (P.info? t).map (·.size) = some l.length) (h : IRow k w g tt l) :
    (loadVar t ⟨g, 0, none⟩).run P w = .ok (.agg (cellsI k l).toArray) w := by
  have h1 := run_loadCells_list (P := P) w ⟨g, 0, none⟩ (cellsI k l) (fun j v hv => by
    rw [add_plain, Nat.zero_add, cell_of_row w g j _ tt (0, 0) h]
    simpa using hv)
  rw [cellsI_len] at h1
  cases hq : P.info? t with
  | none => simp [hq] at hi
  | some i =>
    have hs : i.size = l.length := by simpa [hq] using hi
    simp [loadVar, hA, sizeOf, typeInfo, hq, hs, h1, Result.andThen]
/-- A result that lies in a cell. -/
theorem results_cell {fn : Func} {p : Tmp} {ty : TypeId} (h : fn.results = #[.cell p ty]) (tmps : Array Value) (P : Program) (w : World) :
    (results fn tmps).run P w = ((asAddr (tmps.getD p undef)).run P w).andThen fun a w₁ => (loadVar ty a).run P w₁ := by
  simp only [results, h]
  simp [Sem.run_bind, Result.andThen]
theorem ret_row {fn : Func} {p : Tmp} {ty : TypeId} {tmps : Array Value} (h : fn.results = #[.cell p ty]) (ht : tmps.getD p undef = .pointer (some ⟨g, 0, none⟩)) (hA : (isAgg ty).run P w = .ok true w) (hi : (P.info? ty).map (·.size) = some l.length) (hr : IRow k w g tt l) :
    (results fn tmps).run P w = .ok (.agg (cellsI k l).toArray) w := by
  rw [results_cell h, ht]
  simp only [asAddr, Sem.run_pure, Result.andThen]
  rw [load_row hA hi hr]
/-- Two results, the first of them in a cell. -/
theorem ret_row2 {fn : Func} {p u : Tmp} {ty : TypeId} {tmps : Array Value} (h : fn.results = #[.cell p ty, .tmp u]) (ht : tmps.getD p undef = .pointer (some ⟨g, 0, none⟩)) (hA : (isAgg ty).run P w = .ok true w) (hi : (P.info? ty).map (·.size) = some l.length) (hr : IRow k w g tt l) :
    (results fn tmps).run P w = .ok (.tuple #[.agg (cellsI k l).toArray, tmps.getD u undef]) w := by
  rw [results_cell_tmp h, ht]
  simp only [asAddr, Sem.run_pure, Result.andThen]
  rw [load_row hA hi hr]
end
/-- '==' of two arrays of numbers. -/
theorem all_range_ints : ∀ (xs ys : List Int), xs.length = ys.length → ((List.range xs.length).all fun i => xs.getD i 0 == ys.getD i 0) = (xs == ys)
  | [], [], _ => rfl
  | x :: xs, y :: ys, h => by
    have ih := all_range_ints xs ys (by simpa using h)
    rw [List.length_cons, List.range_succ_eq_map, List.all_cons, List.all_map]
    simp only [List.getD_cons_zero, Function.comp_def, List.getD_cons_succ, ih]
    simp [List.cons_beq_cons]
  | [], _ :: _, h => by simp at h
  | _ :: _, [], h => by simp at h
theorem run_equalIn_ints {P : Program} (w : World) (d : Nat) (t e : TypeId) (n : Nat) (k : IntKind) (ht : P.underlying t = some (.array n e)) (he : P.underlying e = some (.int k)) (hsz : ∀ w, (sizeOf e).run P w = .ok 1 w)
    (xs ys : List Int) (hx : xs.length = n) (hy : ys.length = n) :
    (Op.equalIn (d + 2) t (.agg (xs.map (.int k)).toArray) (.agg (ys.map (.int k)).toArray)).run P w = .ok (xs == ys) w := by
  rw [← all_range_ints xs ys (hx.trans hy.symm), hx, List.range_eq_range', Op.equalIn]
  simp only [Sem.run_bind, run_underlying ht, Result.andThen_ok, hsz, Std.Legacy.Range.forIn_eq_forIn_range', Std.Legacy.Range.size, Nat.sub_zero, Nat.add_sub_cancel, Nat.div_one]
  have hl : ∀ i ∈ List.range' 0 n 1, i < n := fun i hi => by simpa using (List.mem_range'_1.1 hi).2
  generalize List.range' 0 n 1 = l at hl ⊢
  induction l with
  | nil => simp
  | cons i l ih =>
    have hi : i < n := hl i (by simp)
    have px : (part e (xs.map (.int k)).toArray (i * 1)).run P w = .ok (.int k (xs.getD i 0)) w := by
      simp [part, isAgg, run_underlying he, List.getD, List.getElem?_eq_getElem (show i < xs.length by omega)]
    have py : (part e (ys.map (.int k)).toArray (i * 1)).run P w = .ok (.int k (ys.getD i 0)) w := by
      simp [part, isAgg, run_underlying he, List.getD, List.getElem?_eq_getElem (show i < ys.length by omega)]
    have pe : (Op.equalIn (d + 1) e (.int k (xs.getD i 0)) (.int k (ys.getD i 0))).run P w = .ok (xs.getD i 0 == ys.getD i 0) w := run_equalIn_int w d e k k _ _ he
    simp only [List.forIn_cons, Sem.run_bind, px, py, pe, Result.andThen_ok, List.all_cons]
    cases hb : (xs.getD i 0 == ys.getD i 0)
    · simp
    · simp only [Bool.not_true, Bool.false_eq_true, if_false, Sem.run_pure, Result.andThen_ok, Bool.true_and]
      exact ih fun j hj => hl j (by simp [hj])
end Agg
end Go.Proofs.Ytmlhmmfgdioclaa

namespace Go.Proofs.Ytmlhmmfgdioclaa
set_option maxRecDepth 100000
open Go.ChangeShapes Go.WideShapes Go.ChangeAt Go.RowKit Go.Deep

/-- A block that is known whole: just these cells. -/
def VRow (w : World) (g : Nat) (t : TypeId) (cs : List Value) : Prop := w.heap[g]? = some (.cells cs.toArray t (0, 0))

/-- Of what was there, only blocks of S may have been written. -/
structure But (S : Nat → Prop) (w w' : World) : Prop where
  os : w'.os = w.os
  tape : w'.tape = w.tape
  output : w'.output = w.output
  size : w.heap.size ≤ w'.heap.size
  block : ∀ k, k < w.heap.size → ¬ S k → w'.heap[k]? = w.heap[k]?
/-- Only the block g may have been written. -/
def Only (g : Nat) (w w' : World) : Prop := But (· = g) w w'

section
variable {S S' : Nat → Prop} {w w' w'' : World} {g j : Nat} {t : TypeId} {cs : List Value}
theorem VRow.new (w : World) (cs : List Value) (t : TypeId) : VRow (w.alloc (.cells cs.toArray t)) w.heap.size t cs := heap_alloc_new w _
theorem VRow.lt (h : VRow w g t cs) : g < w.heap.size := by
  rcases Nat.lt_or_ge g w.heap.size with hlt | hge
  · exact hlt
  · unfold VRow at h; rw [Array.getElem?_eq_none hge] at h; cases h
theorem VRow.cell (h : VRow w g t cs) (i : Nat) {v : Value} (hi : cs[i]? = some v) : w.cell? ⟨g, i, none⟩ = some v := by
  rw [cell_of_row w g i _ t (0, 0) h]; simpa using hi
theorem VRow.frozen (h : VRow w g t cs) (i : Nat) : w.frozen? ⟨g, i, none⟩ = false := by
  unfold VRow at h; simp [World.frozen?, h]
theorem VRow.drew (h : VRow w g t cs) : VRow w.drew g t cs := h
theorem VRow.drewN (h : VRow w g t cs) (n : Nat) : VRow (w.drewN n) g t cs := h
theorem VRow.alloc (h : VRow w g t cs) (o : Obj) : VRow (w.alloc o) g t cs := (Below.heap_alloc w o g h.lt).trans h
theorem VRow.set (h : VRow w g t cs) (i : Nat) (x : Value) : VRow (w.setCell ⟨g, i, none⟩ x) g t (cs.set i x) := by
  unfold VRow at h ⊢
  simp [World.setCell, Array.getElem?_modify, h]
theorem VRow.setOther (h : VRow w g t cs) {p : Addr} (hp : g ≠ p.block) (x : Value) : VRow (w.setCell p x) g t cs := (Below.heap_setCell w p x g hp).trans h
theorem VRow.below {B : Nat} (h : VRow w g t cs) (hb : Below B w w') (hg : g < B) : VRow w' g t cs := (hb.block g hg).trans h
theorem VRow.but (h : VRow w g t cs) (hb : But S w w') (hg : ¬ S g) : VRow w' g t cs := (hb.block g h.lt hg).trans h
theorem VRow.only (h : VRow w g t cs) (hb : Only j w w') (hg : g ≠ j) : VRow w' g t cs := VRow.but h hb hg
theorem VRow.irow {k : IntKind} {l : List Int} (h : VRow w g t (cellsI k l)) : IRow k w g t l := h
theorem IRow.vrow {k : IntKind} {l : List Int} (h : IRow k w g t l) : VRow w g t (cellsI k l) := h
theorem IRow.but {k : IntKind} {l : List Int} (h : IRow k w g t l) (hb : But S w w') (hg : ¬ S g) : IRow k w' g t l := (hb.block g h.lt hg).trans h
theorem IRow.only {k : IntKind} {l : List Int} (h : IRow k w g t l) (hb : Only j w w') (hg : g ≠ j) : IRow k w' g t l := IRow.but h hb hg

theorem But.refl (S : Nat → Prop) (w : World) : But S w w := ⟨rfl, rfl, rfl, Nat.le_refl _, fun _ _ _ => rfl⟩
theorem But.trans (h : But S w w') (k : But S w' w'') : But S w w'' :=
  ⟨k.os.trans h.os, k.tape.trans h.tape, k.output.trans h.output, Nat.le_trans h.size k.size, fun i hi hs => (k.block i (Nat.lt_of_lt_of_le hi h.size) hs).trans (h.block i hi hs)⟩
theorem But.mono (h : But S w w') (hs : ∀ k, S k → S' k) : But S' w w' := ⟨h.os, h.tape, h.output, h.size, fun k hk hn => h.block k hk (fun q => hn (hs k q))⟩
theorem But.of_below (h : Below w.heap.size w w') : But S w w' := ⟨h.os, h.tape, h.output, h.size, fun k hk _ => h.block k hk⟩
theorem But.drew (h : But S w w') : But S w w'.drew := ⟨h.os, h.tape, h.output, h.size, h.block⟩
theorem But.drewN (h : But S w w') (n : Nat) : But S w (w'.drewN n) := ⟨h.os, h.tape, h.output, h.size, h.block⟩
theorem But.alloc (h : But S w w') (o : Obj) : But S w (w'.alloc o) :=
  ⟨h.os, h.tape, h.output, by have := h.size; simp; omega, fun k hk hs => (Below.heap_alloc w' o k (Nat.lt_of_lt_of_le hk h.size)).trans (h.block k hk hs)⟩
theorem But.setCell (h : But S w w') {p : Addr} (hp : S p.block ∨ w.heap.size ≤ p.block) (v : Value) : But S w (w'.setCell p v) :=
  ⟨h.os, h.tape, h.output, by simpa [World.setCell] using h.size, fun k hk hs => (Below.heap_setCell w' p v k (fun e => by
    rcases hp with hp | hp
    · exact hs (e ▸ hp)
    · omega)).trans (h.block k hk hs)⟩
theorem But.call (h : But S w w') (k : But S' w' w'') (hs : ∀ i, S' i → S i ∨ w.heap.size ≤ i) : But S w w'' :=
  ⟨k.os.trans h.os, k.tape.trans h.tape, k.output.trans h.output, Nat.le_trans h.size k.size, fun i hi hn => (k.block i (Nat.lt_of_lt_of_le hi h.size) (fun q => by
    rcases hs i q with q | q
    · exact hn q
    · omega)).trans (h.block i hi hn)⟩
theorem But.grow (h : But S w w') (k : Below w'.heap.size w' w'') : But S w w'' := h.trans (But.of_below k)
theorem But.below {B : Nat} {a : World} (h : Below B a w) (k : But S w w') (hB : B ≤ w.heap.size) (hs : ∀ i, S i → B ≤ i) : Below B a w' :=
  ⟨k.os.trans h.os, k.tape.trans h.tape, k.output.trans h.output, Nat.le_trans h.size k.size, fun i hi => (k.block i (Nat.lt_of_lt_of_le hi hB) (fun q => by have := hs i q; omega)).trans (h.block i hi)⟩
/-- A callee that writes only the block g, met behind a world that grew. -/
theorem Only.below {B : Nat} {a : World} (k : Only g w w') (h : Below B a w) (hB : B ≤ w.heap.size) (hg : B ≤ g) : Below B a w' := But.below h k hB (fun i hi => by rw [hi]; exact hg)
theorem IntsAt.but {k : IntKind} {a : Option Addr} {l : List Int} (h : IntsAt k w a l) (hb : But S w w') (hs : ∀ ad, a = some ad → ¬ S ad.block) : IntsAt k w' a l := by
  rcases h with rfl | ⟨b, off, rfl, hc⟩
  · exact Or.inl rfl
  · refine Or.inr ⟨b, off, rfl, fun i hi => ?_⟩
    have := hc i hi
    rw [← this]
    exact World.cell?_of_block (w := w) (a := ⟨b, off + i, none⟩) (hb.block b (cell_lt this) (hs _ rfl))
end
end Go.Proofs.Ytmlhmmfgdioclaa

namespace Go.Proofs.Ytmlhmmfgdioclaa
set_option maxRecDepth 100000
namespace Jp

/-- May a number be a value? -/
def val (n : Int) : Bool := decide (-2147483648 ≤ n) && decide (n ≤ 2147483647)
/-- May there be such a watch? -/
def may (lo hi step : Int) : Bool := val lo && val hi && decide (lo ≤ hi) && decide (0 ≤ step) && decide (step ≤ 2147483647)
/-- Is a value outside the range? -/
def out (lo hi n : Int) : Bool := decide (n < lo) || decide (hi < n)
/-- Does a value jump? -/
def far (step last : Int) (has : Bool) (n : Int) : Bool := has && (decide (step < n - last) || decide (step < last - n))
def trips (lo hi step last : Int) (has : Bool) (n : Int) : Int := (if out lo hi n = true then 2 else 0) + (if far step last has n = true then 4 else 0)
/-- What Come tells, and what is kept then. -/
def ct (lo hi step last : Int) (has : Bool) (n : Int) : Int := if val n = true then trips lo hi step last has n else 0
def ce (n : Int) : Int := if val n = true then 0 else 1
def cl (last n : Int) : Int := if val n = true then n else last
def ch (has : Bool) (n : Int) : Bool := if val n = true then true else has
/-- The cells of a watch. -/
def wat (lo hi step last : Int) (has : Bool) : List Value := [.int .i64 lo, .int .i64 hi, .int .i64 step, .int .i64 last, .bool has]

theorem val_iff (n : Int) : val n = true ↔ -2147483648 ≤ n ∧ n ≤ 2147483647 := by unfold val; simp
theorem val_no (n : Int) : val n = false ↔ n < -2147483648 ∨ 2147483647 < n := by unfold val; simp; omega
theorem may_iff (lo hi step : Int) : may lo hi step = true ↔ val lo = true ∧ val hi = true ∧ lo ≤ hi ∧ 0 ≤ step ∧ step ≤ 2147483647 := by
  unfold may; simp only [Bool.and_eq_true, decide_eq_true_eq]; constructor <;> (rintro h; simp_all)
theorem apart_vals {a b : Int} (ha : val a = true) (hb : val b = true) : Fx.apart a b = if a < b then b - a else a - b := by
  have h1 := (val_iff a).1 ha
  have h2 := (val_iff b).1 hb
  unfold Fx.apart
  rw [if_pos ⟨(Fx.sm_iff a).2 (by omega), (Fx.sm_iff b).2 (by omega)⟩]
/-- The program's words of a jump are the document's. -/
theorem far_apart {step last n : Int} (hn : val n = true) (hl : val last = true) (hs : 0 ≤ step) : far step last true n = decide (step < Fx.apart n last) := by
  rw [apart_vals hn hl]
  unfold far
  rw [Bool.true_and]
  split
  · rw [show decide (step < n - last) = false by simp; omega, Bool.false_or]
  · by_cases h : step < n - last
    · simp [h]
    · rw [show decide (step < n - last) = false by simpa using h, Bool.false_or, show decide (step < last - n) = false by simp; omega]
theorem far_none (step last n : Int) : far step last false n = false := rfl
theorem ce_yes {n : Int} (h : val n = true) : ce n = 0 := if_pos h
theorem ce_no {n : Int} (h : val n = false) : ce n = 1 := if_neg (by rw [h]; decide)
theorem ct_yes {lo hi step last : Int} {has : Bool} {n : Int} (h : val n = true) : ct lo hi step last has n = trips lo hi step last has n := if_pos h
theorem ct_no {lo hi step last : Int} {has : Bool} {n : Int} (h : val n = false) : ct lo hi step last has n = 0 := if_neg (by rw [h]; decide)
theorem cl_yes {last n : Int} (h : val n = true) : cl last n = n := if_pos h
theorem cl_no {last n : Int} (h : val n = false) : cl last n = last := if_neg (by rw [h]; decide)
theorem ch_yes {has : Bool} {n : Int} (h : val n = true) : ch has n = true := if_pos h
theorem ch_no {has : Bool} {n : Int} (h : val n = false) : ch has n = has := if_neg (by rw [h]; decide)
end Jp
end Go.Proofs.Ytmlhmmfgdioclaa
