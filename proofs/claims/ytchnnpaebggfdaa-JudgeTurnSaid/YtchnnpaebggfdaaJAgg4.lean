/-
  Structs and arrays of numbers in a block that is known whole: loaded, stored, handed back by a result's cell. No function of the program is walked here. No conditions.
  Blocks of cells of whatever kinds, known whole: loaded, stored, kept; and worlds in which only some blocks were written. No function of the program is walked here. No conditions.
  Configurations as lists of numbers: the rows in which a fault is looked for, what may be, what is covered, and the greatest error that is. No Go text is reached here. No conditions.
  A region that draws its order, each operation of which only reads what was there, may lay new blocks, and hands back something of a kind that its place in the frame tells: whatever order is drawn, at the end every place holds a thing of its kind. No function of the program is walked here. No conditions beyond those said.
-/
import Derived.Test.YtchnnpaebggfdaaJOpen2
import Derived.Laws.Rows
import Derived.Laws.Tables
import Derived.Laws.World
import Derived.Laws.ResultCell
import Derived.Laws.StructEq
import Derived.Orders
import Derived.OrdersHeld
namespace Go.Proofs.Ytchnnpaebggfdaa
set_option maxRecDepth 100000
open Go.ChangeShapes Go.WideShapes Go.ChangeAt Go.RowKit Go.Deep
theorem OwnI.below {k : IntKind} {base : Nat} {t : TypeId} {w w' : World} {v : Value} {l : List Int} (h : OwnI k base t w v l) (hb : Below w.heap.size w w') : OwnI k base t w' v l := by
  rcases h with ⟨hl, h0 | ⟨g, cap, cur, hv, hbg, hh, rest⟩⟩
  · exact ⟨hl, Or.inl h0⟩
  · have hlt : g < w.heap.size := by
      rcases Nat.lt_or_ge g w.heap.size with hlt | hge
      · exact hlt
      · rw [Array.getElem?_eq_none hge] at hh; cases hh
    exact ⟨hl, Or.inr ⟨g, cap, cur, hv, hbg, (hb.block g hlt).trans hh, rest⟩⟩
namespace Agg
section
variable {P : Program} {w : World} {t tt : TypeId} {k : IntKind} {g : Nat} {l : List Int}
/-- The whole variable out of its block. -/
theorem load_row (hA : (isAgg t).run P w = .ok true w) (hi : (P.info? t).map (·.size) = some l.length) (h : IRow k w g tt l) :
    (loadVar t ⟨g, 0, none⟩).run P w = .ok (.agg (cellsI k l).toArray) w := by
  have h1 := run_loadCells_list (P := P) w ⟨g, 0, none⟩ (cellsI k l) (fun j v hv => by
    rw [add_plain, Nat.zero_add, cell_of_row w g j _ tt (0, 0) h]
    simpa using hv)
  rw [cellsI_len] at h1
  cases hq : P.info? t with
  | none => simp [hq] at hi
  | some i =>
    have hs : i.size = l.length := by simpa [hq] using hi
    simp [loadVar, hA, sizeOf, typeInfo, hq, hs, h1, Result.andThen]
/-- A result that lies in a cell. -/
theorem results_cell {fn : Func} {p : Tmp} {ty : TypeId} (h : fn.results = #[.cell p ty]) (tmps : Array Value) (P : Program) (w : World) :
    (results fn tmps).run P w = ((asAddr (tmps.getD p undef)).run P w).andThen fun a w₁ => (loadVar ty a).run P w₁ := by
  simp only [results, h]
  simp [Sem.run_bind, Result.andThen]
theorem ret_row {fn : Func} {p : Tmp} {ty : TypeId} {tmps : Array Value} (h : fn.results = #[.cell p ty]) (ht : tmps.getD p undef = .pointer (some ⟨g, 0, none⟩)) (hA : (isAgg ty).run P w = .ok true w) (hi : (P.info? ty).map (·.size) = some l.length) (hr : IRow k w g tt l) :
    (results fn tmps).run P w = .ok (.agg (cellsI k l).toArray) w := by
  rw [results_cell h, ht]
  simp only [asAddr, Sem.run_pure, Result.andThen]
  rw [load_row hA hi hr]
/-- Two results, the first of them in a cell. -/
theorem ret_row2 {fn : Func} {p u : Tmp} {ty : TypeId} {tmps : Array Value} (h : fn.results = #[.cell p ty, .tmp u]) (ht : tmps.getD p undef = .pointer (some ⟨g, 0, none⟩)) (hA : (isAgg ty).run P w = .ok true w) (hi : (P.info? ty).map (·.size) = some l.length) (hr : IRow k w g tt l) :
    (results fn tmps).run P w = .ok (.tuple #[.agg (cellsI k l).toArray, tmps.getD u undef]) w := by
  rw [results_cell_tmp h, ht]
  simp only [asAddr, Sem.run_pure, Result.andThen]
  rw [load_row hA hi hr]
end
end Agg
end Go.Proofs.Ytchnnpaebggfdaa

namespace Go.Proofs.Ytchnnpaebggfdaa
set_option maxRecDepth 100000
open Go.ChangeShapes Go.WideShapes Go.ChangeAt Go.RowKit Go.Deep
/-- A block that is known whole: just these cells. -/
def VRow (w : World) (g : Nat) (t : TypeId) (cs : List Value) : Prop := w.heap[g]? = some (.cells cs.toArray t (0, 0))
/-- Of what was there, only blocks of S may have been written. -/
structure But (S : Nat → Prop) (w w' : World) : Prop where
  os : w'.os = w.os
  tape : w'.tape = w.tape
  output : w'.output = w.output
  size : w.heap.size ≤ w'.heap.size
  block : ∀ k, k < w.heap.size → ¬ S k → w'.heap[k]? = w.heap[k]?
/-- Only the block g may have been written. -/
def Only (g : Nat) (w w' : World) : Prop := But (· = g) w w'
section
variable {S S' : Nat → Prop} {w w' w'' : World} {g j : Nat} {t : TypeId} {cs : List Value}
theorem VRow.new (w : World) (cs : List Value) (t : TypeId) : VRow (w.alloc (.cells cs.toArray t)) w.heap.size t cs := heap_alloc_new w _
theorem VRow.lt (h : VRow w g t cs) : g < w.heap.size := by
  rcases Nat.lt_or_ge g w.heap.size with hlt | hge
  · exact hlt
  · unfold VRow at h; rw [Array.getElem?_eq_none hge] at h; cases h
theorem VRow.cell (h : VRow w g t cs) (i : Nat) {v : Value} (hi : cs[i]? = some v) : w.cell? ⟨g, i, none⟩ = some v := by
  rw [cell_of_row w g i _ t (0, 0) h]; simpa using hi
theorem VRow.frozen (h : VRow w g t cs) (i : Nat) : w.frozen? ⟨g, i, none⟩ = false := by
  unfold VRow at h; simp [World.frozen?, h]
theorem VRow.drew (h : VRow w g t cs) : VRow w.drew g t cs := h
theorem VRow.drewN (h : VRow w g t cs) (n : Nat) : VRow (w.drewN n) g t cs := h
theorem VRow.alloc (h : VRow w g t cs) (o : Obj) : VRow (w.alloc o) g t cs := (Below.heap_alloc w o g h.lt).trans h
theorem VRow.set (h : VRow w g t cs) (i : Nat) (x : Value) : VRow (w.setCell ⟨g, i, none⟩ x) g t (cs.set i x) := by
  unfold VRow at h ⊢
  simp [World.setCell, Array.getElem?_modify, h]
theorem VRow.setOther (h : VRow w g t cs) {p : Addr} (hp : g ≠ p.block) (x : Value) : VRow (w.setCell p x) g t cs := (Below.heap_setCell w p x g hp).trans h
theorem VRow.below {B : Nat} (h : VRow w g t cs) (hb : Below B w w') (hg : g < B) : VRow w' g t cs := (hb.block g hg).trans h
theorem VRow.but (h : VRow w g t cs) (hb : But S w w') (hg : ¬ S g) : VRow w' g t cs := (hb.block g h.lt hg).trans h
theorem VRow.only (h : VRow w g t cs) (hb : Only j w w') (hg : g ≠ j) : VRow w' g t cs := VRow.but h hb hg
theorem IRow.but {k : IntKind} {l : List Int} (h : IRow k w g t l) (hb : But S w w') (hg : ¬ S g) : IRow k w' g t l := (hb.block g h.lt hg).trans h
theorem IRow.only {k : IntKind} {l : List Int} (h : IRow k w g t l) (hb : Only j w w') (hg : g ≠ j) : IRow k w' g t l := IRow.but h hb hg
theorem But.refl (S : Nat → Prop) (w : World) : But S w w := ⟨rfl, rfl, rfl, Nat.le_refl _, fun _ _ _ => rfl⟩
theorem But.trans (h : But S w w') (k : But S w' w'') : But S w w'' :=
  ⟨k.os.trans h.os, k.tape.trans h.tape, k.output.trans h.output, Nat.le_trans h.size k.size, fun i hi hs => (k.block i (Nat.lt_of_lt_of_le hi h.size) hs).trans (h.block i hi hs)⟩
theorem But.mono (h : But S w w') (hs : ∀ k, S k → S' k) : But S' w w' := ⟨h.os, h.tape, h.output, h.size, fun k hk hn => h.block k hk (fun q => hn (hs k q))⟩
theorem But.of_below (h : Below w.heap.size w w') : But S w w' := ⟨h.os, h.tape, h.output, h.size, fun k hk _ => h.block k hk⟩
theorem But.drew (h : But S w w') : But S w w'.drew := ⟨h.os, h.tape, h.output, h.size, h.block⟩
theorem But.drewN (h : But S w w') (n : Nat) : But S w (w'.drewN n) := ⟨h.os, h.tape, h.output, h.size, h.block⟩
theorem But.alloc (h : But S w w') (o : Obj) : But S w (w'.alloc o) :=
  ⟨h.os, h.tape, h.output, by have := h.size; simp; omega, fun k hk hs => (Below.heap_alloc w' o k (Nat.lt_of_lt_of_le hk h.size)).trans (h.block k hk hs)⟩
theorem But.setCell (h : But S w w') {p : Addr} (hp : S p.block ∨ w.heap.size ≤ p.block) (v : Value) : But S w (w'.setCell p v) :=
  ⟨h.os, h.tape, h.output, by simpa [World.setCell] using h.size, fun k hk hs => (Below.heap_setCell w' p v k (fun e => by
    rcases hp with hp | hp
    · exact hs (e ▸ hp)
    · omega)).trans (h.block k hk hs)⟩
theorem But.call (h : But S w w') (k : But S' w' w'') (hs : ∀ i, S' i → S i ∨ w.heap.size ≤ i) : But S w w'' :=
  ⟨k.os.trans h.os, k.tape.trans h.tape, k.output.trans h.output, Nat.le_trans h.size k.size, fun i hi hn => (k.block i (Nat.lt_of_lt_of_le hi h.size) (fun q => by
    rcases hs i q with q | q
    · exact hn q
    · omega)).trans (h.block i hi hn)⟩
theorem But.grow (h : But S w w') (k : Below w'.heap.size w' w'') : But S w w'' := h.trans (But.of_below k)
theorem But.below {B : Nat} {a : World} (h : Below B a w) (k : But S w w') (hB : B ≤ w.heap.size) (hs : ∀ i, S i → B ≤ i) : Below B a w' :=
  ⟨k.os.trans h.os, k.tape.trans h.tape, k.output.trans h.output, Nat.le_trans h.size k.size, fun i hi => (k.block i (Nat.lt_of_lt_of_le hi hB) (fun q => by have := hs i q; omega)).trans (h.block i hi)⟩
/-- A callee that writes only the block g, met behind a world that grew. -/
theorem Only.below {B : Nat} {a : World} (k : Only g w w') (h : Below B a w) (hB : B ≤ w.heap.size) (hg : B ≤ g) : Below B a w' := But.below h k hB (fun i hi => by rw [hi]; exact hg)
theorem IntsAt.but {k : IntKind} {a : Option Addr} {l : List Int} (h : IntsAt k w a l) (hb : But S w w') (hs : ∀ ad, a = some ad → ¬ S ad.block) : IntsAt k w' a l := by
  rcases h with rfl | ⟨b, off, rfl, hc⟩
  · exact Or.inl rfl
  · refine Or.inr ⟨b, off, rfl, fun i hi => ?_⟩
    have := hc i hi
    rw [← this]
    exact World.cell?_of_block (w := w) (a := ⟨b, off + i, none⟩) (hb.block b (cell_lt this) (hs _ rfl))
end
end Go.Proofs.Ytchnnpaebggfdaa

namespace Go.Proofs.Ytchnnpaebggfdaa
set_option maxRecDepth 100000
open Go.ChangeShapes Go.WideShapes Go.ChangeAt Go.RowKit Go.Deep
namespace Cf
/-- The number at place j of a configuration. -/
def G (c : List Int) (j : Nat) : Int := c.getD j 0
/-- Its cells. -/
def CA (c : List Int) : Array Value := (cellsI .i64 c).toArray
theorem CA_size (c : List Int) : (CA c).size = c.length := by simp [CA, cellsI]
structure Row where
  name : ByteArray
  lo : Int
  hi : Int
  nums : List Int
def noRow : Row := ⟨⟨#[]⟩, 0, 0, []⟩
def ok (r : Row) (x : Int) : Bool := decide (r.lo ≤ x) && decide (x ≤ r.hi)
def fine (r : Row) : Bool := r.nums.all (ok r)
def first : List Row → ByteArray
  | [] => ⟨#[]⟩
  | r :: rs => if fine r = true then first rs else r.name
def own (c : List Int) : List Int := if G c 0 = 4 then [G c 17, G c 18, G c 19, G c 20] else [G c 17, G c 18, G c 19]
def others (c : List Int) : List Int := if G c 0 = 4 then [] else [G c 20]
def rows (c : List Int) : List Row :=
  [⟨⟨#[78]⟩, 3, 4, [G c 0]⟩, ⟨⟨#[76, 111]⟩, -2147483648, 2147483647, [G c 1]⟩, ⟨⟨#[72, 105]⟩, G c 1, 2147483647, [G c 2]⟩, ⟨⟨#[83, 97, 102, 101]⟩, G c 1, G c 2, [G c 3]⟩,
   ⟨⟨#[83, 116, 101, 112]⟩, 0, 2147483647, [G c 4]⟩, ⟨⟨#[83, 116, 117, 99, 107]⟩, 0, 2147483647, [G c 5]⟩, ⟨⟨#[87, 105, 110, 100, 111, 119]⟩, 2, 16, [G c 6]⟩,
   ⟨⟨#[68, 114, 105, 102, 116]⟩, 0, 2147483647, [G c 7]⟩, ⟨⟨#[76, 97, 103]⟩, 0, 8, [G c 8]⟩, ⟨⟨#[77, 105, 115]⟩, 0, 2147483647, [G c 9]⟩, ⟨⟨#[65, 117, 116, 104]⟩, 0, 2147483647, [G c 10]⟩,
   ⟨⟨#[71, 97, 105, 110]⟩, 0, 8, [G c 11]⟩, ⟨⟨#[67, 108, 105, 112]⟩, 0, 2147483647, [G c 12]⟩, ⟨⟨#[76, 97, 116, 99, 104]⟩, 1, 100, [G c 13]⟩, ⟨⟨#[67, 108, 101, 97, 110]⟩, 1, 1000, [G c 14]⟩,
   ⟨⟨#[66, 117, 100, 103, 101, 116]⟩, 0, 10, [G c 15]⟩, ⟨⟨#[76, 105, 109, 105, 116]⟩, 1, 8, [G c 16]⟩, ⟨⟨#[87, 101, 105, 103, 104, 116, 115]⟩, 1, 16, own c⟩, ⟨⟨#[87, 101, 105, 103, 104, 116, 115]⟩, 0, 0, others c⟩]
def fault (c : List Int) : ByteArray := first (rows c)
theorem first_drop (l : List Row) (k : Nat) (h : k < l.length) : first (l.drop k) = if fine (l.getD k noRow) = true then first (l.drop (k + 1)) else (l.getD k noRow).name := by
  rw [List.drop_eq_getElem_cons h, first]
  simp [List.getD_eq_getElem?_getD, h]
/-- Whether all stands within its bounds. -/
def Right (c : List Int) : Prop :=
  (3 ≤ G c 0 ∧ G c 0 ≤ 4) ∧ (-2147483648 ≤ G c 1 ∧ G c 1 ≤ 2147483647) ∧ (G c 1 ≤ G c 2 ∧ G c 2 ≤ 2147483647) ∧ (G c 1 ≤ G c 3 ∧ G c 3 ≤ G c 2) ∧ (0 ≤ G c 4 ∧ G c 4 ≤ 2147483647) ∧ (0 ≤ G c 5 ∧ G c 5 ≤ 2147483647) ∧
  (2 ≤ G c 6 ∧ G c 6 ≤ 16) ∧ (0 ≤ G c 7 ∧ G c 7 ≤ 2147483647) ∧ (0 ≤ G c 8 ∧ G c 8 ≤ 8) ∧ (0 ≤ G c 9 ∧ G c 9 ≤ 2147483647) ∧ (0 ≤ G c 10 ∧ G c 10 ≤ 2147483647) ∧ (0 ≤ G c 11 ∧ G c 11 ≤ 8) ∧ (0 ≤ G c 12 ∧ G c 12 ≤ 2147483647) ∧
  (1 ≤ G c 13 ∧ G c 13 ≤ 100) ∧ (1 ≤ G c 14 ∧ G c 14 ≤ 1000) ∧ (0 ≤ G c 15 ∧ G c 15 ≤ 10) ∧ (1 ≤ G c 16 ∧ G c 16 ≤ 8) ∧ (own c).all (fun x => decide (1 ≤ x) && decide (x ≤ 16)) = true ∧ (others c).all (fun x => decide (0 ≤ x) && decide (x ≤ 0)) = true
instance (c : List Int) : Decidable (Right c) := by unfold Right; infer_instance
theorem first_none : ∀ l : List Row, (∀ r ∈ l, r.name ≠ ⟨#[]⟩) → (first l = ⟨#[]⟩ ↔ l.all fine = true)
  | [], _ => by simp [first]
  | r :: rs, h => by
    have ih := first_none rs (fun x hx => h x (by simp [hx]))
    have h0 := h r (by simp)
    rw [first, List.all_cons, Bool.and_eq_true]
    split
    · rename_i hf; simp [hf, ih]
    · rename_i hf; simp [hf, h0]
theorem fault_none (c : List Int) : fault c = ⟨#[]⟩ ↔ Right c := by
  unfold fault
  rw [first_none _ (by
    intro r hr
    simp only [rows, List.mem_cons, List.not_mem_nil, or_false] at hr
    rcases hr with rfl | rfl | rfl | rfl | rfl | rfl | rfl | rfl | rfl | rfl | rfl | rfl | rfl | rfl | rfl | rfl | rfl | rfl | rfl <;> (intro h; injection h with h; simp at h))]
  simp only [rows, fine, ok, List.all_cons, List.all_nil, Bool.and_true, Bool.and_eq_true, decide_eq_true_eq, Right]
  exact Iff.rfl
/-- What Right answers. -/
def rt (c : List Int) : Bool := decide (Right c)
theorem beq_bytes (a b : ByteArray) : (a == b) = decide (a = b) := by
  rw [beq_toListBytes, Bool.eq_iff_iff, beq_iff_eq, decide_eq_true_eq, ByteArray.toList_eq, ByteArray.toList_eq, Array.toList_inj, ByteArray.ext_iff]
theorem rt_fault (c : List Int) : (fault c == ⟨#[]⟩) = rt c := by
  rw [beq_bytes]; unfold rt; rw [decide_eq_decide]; exact fault_none c
/-- What Covers answers. -/
def cov (c : List Int) (e r : Int) : Bool :=
  decide ((0 ≤ e ∧ e ≤ 1073741824 ∧ 0 ≤ r ∧ r ≤ 1073741824) ∧ Right c ∧ 2 * e + 2 * G c 10 + G c 12 ≤ G c 9 ∧ r + 2 * e ≤ G c 4 ∧ 2 * e ≤ G c 7 ∧ 4 * e + 2 * G c 10 + 2 * G c 12 ≤ G c 5 ∧ 2 * e ≤ G c 2 - G c 1)
end Cf
end Go.Proofs.Ytchnnpaebggfdaa

namespace Go.Proofs.Ytchnnpaebggfdaa
set_option maxRecDepth 100000
open Go.ChangeShapes Go.WideShapes Go.ChangeAt Go.RowKit Go.Deep
namespace Flow
/-- The places that an operation looks at. -/
def looks (o : Oper) : List Tmp := o.op.operands.toList.filterMap fun | .tmp t => some t | _ => none
/-- What is asked of an operation: nothing guards it, it has a place below n that is none of those at the start, and what it looks at is one of these or comes from one that it waits for; it waits for earlier ones alone. -/
def fits (ops : Array Oper) (init : List Tmp) (n i : Nat) (o : Oper) : Bool :=
  o.guard.isNone && (match o.dst with | some d => decide (d < n) && !init.contains d | none => false) &&
  ((looks o).all fun t => init.contains t || o.after.any fun e => Region.binds .any e && ((ops[e.on]?).bind (·.dst) == some t)) &&
  (o.after.all fun e => !Region.binds .any e || decide (e.on < i))
def flowB (ops : Array Oper) (init : List Tmp) (n : Nat) : Bool :=
  (ops.toList.zipIdx.all fun q => fits ops init n q.2 q.1) && decide ((ops.toList.map (·.dst)).Nodup)
section
variable {P : Program} {Q : Exit → Act → World → Prop} {ops : Array Oper}
/-- One operation's duty. -/
def Step (P : Program) (Val : Tmp → Value → World → Prop) (Q : Exit → Act → World → Prop) (o : Oper) : Prop :=
  ∀ a w, (∀ t ∈ looks o, Val t (a.tmps.getD t undef) w) → o.wp P a w (fun a' w' => ∃ v, a' = a.put o.dst v ∧ Below w.heap.size w w' ∧ ∀ d, o.dst = some d → Val d v w') Q
structure Inv (ops : Array Oper) (Val : Tmp → Value → World → Prop) (init : List Tmp) (n : Nat) (w0 : World) (a0 : Act) (listed : Array Bool) (a : Act) (w : World) : Prop where
  size : listed.size = ops.size
  frame : a.tmps.size = n
  defers : a.defers = a0.defers
  below : Below w0.heap.size w0 w
  start : ∀ t ∈ init, Val t (a.tmps.getD t undef) w
  old : ∀ t, (∀ (i : Nat) o, ops[i]? = some o → o.dst ≠ some t) → a.tmps.getD t undef = a0.tmps.getD t undef
  vals : ∀ (i : Nat) o d, ops[i]? = some o → listed.getD i true = true → o.dst = some d → Val d (a.tmps.getD d undef) w
theorem flow_at {init : List Tmp} {n : Nat} (hB : flowB ops init n = true) {i : Nat} {o : Oper} (hi : ops[i]? = some o) : fits ops init n i o = true := by
  unfold flowB at hB
  rw [Bool.and_eq_true] at hB
  refine List.all_eq_true.1 hB.1 (o, i) ?_
  rw [List.mem_zipIdx_iff_getElem?]
  simpa using hi
theorem flow_dst {init : List Tmp} {n : Nat} (hB : flowB ops init n = true) {i : Nat} {o : Oper} (hi : ops[i]? = some o) : o.guard = none ∧ ∃ d, o.dst = some d ∧ d < n ∧ d ∉ init := by
  have h := flow_at hB hi
  unfold fits at h
  simp only [Bool.and_eq_true] at h
  obtain ⟨⟨⟨h1, h2⟩, _⟩, _⟩ := h
  refine ⟨by simpa using h1, ?_⟩
  cases hd : o.dst with
  | none => simp [hd] at h2
  | some d => simp [hd] at h2; exact ⟨d, rfl, h2.1, h2.2⟩
theorem flow_one {init : List Tmp} {n : Nat} (hB : flowB ops init n = true) {i j : Nat} {o p : Oper} (hi : ops[i]? = some o) (hj : ops[j]? = some p) (h : o.dst = p.dst) : i = j := by
  unfold flowB at hB
  rw [Bool.and_eq_true] at hB
  have hn : (ops.toList.map (·.dst)).Nodup := of_decide_eq_true hB.2
  have hi' : i < ops.size := by
    rcases Nat.lt_or_ge i ops.size with q | q
    · exact q
    · rw [Array.getElem?_eq_none q] at hi; cases hi
  exact (List.getElem?_inj (l := ops.toList.map (·.dst)) (by simpa using hi') hn).1 (by simp [hi, hj, h])
theorem all_listed {init : List Tmp} {n : Nat} (hB : flowB ops init n = true) {listed : Array Bool} (hs : listed.size = ops.size) (hr : Region.ready .any ops listed = []) :
    ∀ i, i < ops.size → listed.getD i true = true := by
  intro i
  induction i using Nat.strongRecOn with
  | _ i ih =>
    intro hi
    cases hl : listed.getD i true with
    | true => rfl
    | false =>
      have hm : i ∈ Region.ready .any ops listed := mem_ready.2 ⟨hl, ops[i], by simp [hi], fun e he hb => by
        have h := flow_at hB (i := i) (o := ops[i]) (by simp [hi])
        unfold fits at h
        simp only [Bool.and_eq_true] at h
        have := Array.all_eq_true_iff_forall_mem.1 h.2 e he
        simp [hb] at this
        have q := ih e.on this (by omega)
        have hlt : e.on < listed.size := by omega
        simpa [hlt] using q⟩
      rw [hr] at hm; cases hm
theorem step_inv {Val : Tmp → Value → World → Prop} {init : List Tmp} {n : Nat} {w0 : World} {a0 : Act} (hB : flowB ops init n = true)
    (hst : ∀ t v w w', Val t v w → Below w.heap.size w w' → Val t v w') (hstep : ∀ o ∈ ops.toList, Step P Val Q o)
    {listed : Array Bool} {a : Act} {w : World} (I : Inv ops Val init n w0 a0 listed a w) {i : Nat} (hr : i ∈ Region.ready .any ops listed) :
    wpOp P ops Q i (fun a' w' => Inv ops Val init n w0 a0 (listed.setIfInBounds i true) a' w') a w := by
  obtain ⟨hun, o, ho, hall⟩ := mem_ready.1 hr
  obtain ⟨hg, d, hd, hdn, hdi⟩ := flow_dst hB ho
  have hf := flow_at hB ho
  unfold fits at hf
  simp only [Bool.and_eq_true] at hf
  have hlk : ∀ t ∈ looks o, Val t (a.tmps.getD t undef) w := by
    intro t ht
    have h := List.all_eq_true.1 hf.1.2 t ht
    rw [Bool.or_eq_true] at h
    rcases h with h | h
    · exact I.start t (by simpa using h)
    · rw [Array.any_eq_true'] at h
      obtain ⟨e, he, h⟩ := h
      rw [Bool.and_eq_true, beq_iff_eq] at h
      have hl := hall e he h.1
      cases hp : ops[e.on]? with
      | none => rw [hp] at h; simp at h
      | some p =>
        rw [hp] at h
        have hlt : e.on < listed.size := by
          rcases Nat.lt_or_ge e.on listed.size with q | q
          · exact q
          · simp [Array.getElem?_eq_none q] at hl
        exact I.vals e.on p t hp (by simpa [hlt] using hl) (by simpa using h.2)
  have hmem : o ∈ ops.toList := by
    have := Array.mem_of_getElem? ho
    simpa using this
  have hs := hstep o hmem a w hlk
  unfold wpOp
  simp only [ho]
  rw [if_pos (show Region.wanted o (yielded ops a.tmps) = true by simp [Region.wanted, hg])]
  refine .inl (Oper.wp_mono ?_ hs)
  rintro a' w' ⟨v, rfl, hb, hv⟩
  have hv := hv d hd
  have hget : ∀ t, t ≠ d → (a.put o.dst v).tmps.getD t undef = a.tmps.getD t undef := by
    intro t ht
    simp [Act.put, hd, Array.getElem?_setIfInBounds_ne (Ne.symm ht)]
  have hset : (a.put o.dst v).tmps.getD d undef = v := by
    simp [Act.put, hd, I.frame, hdn]
  refine ⟨by simpa using I.size, by simpa [Act.put, hd] using I.frame, by simpa [Act.put, hd] using I.defers, grow I.below hb, ?_, ?_, ?_⟩
  · intro t ht
    rw [hget t (fun e => hdi (e ▸ ht))]
    exact hst _ _ _ _ (I.start t ht) hb
  · intro t ht
    rw [hget t (fun e => ht i o ho (e ▸ hd))]
    exact I.old t ht
  · intro j p x hp hl hx
    by_cases hij : j = i
    · subst hij
      rw [ho] at hp; cases hp
      rw [hd] at hx; cases hx
      rw [hset]; exact hv
    · rw [hget x (fun e => hij (flow_one hB hp ho (by rw [hx, hd, e])))]
      refine hst _ _ _ _ (I.vals j p x hp ?_ hx) hb
      rwa [getD_set_ne true (Ne.symm hij)] at hl
theorem flow_any {Val : Tmp → Value → World → Prop} {init : List Tmp} {n : Nat} {w0 : World} {a0 : Act} (hB : flowB ops init n = true)
    (hst : ∀ t v w w', Val t v w → Below w.heap.size w w' → Val t v w') (hstep : ∀ o ∈ ops.toList, Step P Val Q o)
    (hend : ∀ listed a w, Inv ops Val init n w0 a0 listed a w → (∀ i, i < ops.size → listed.getD i true = true) → Q .normal a w) :
    ∀ (fuel : Nat) (listed : Array Bool) (a : Act) (w : World), Inv ops Val init n w0 a0 listed a w → listed.toList.count false ≤ fuel → wpAny P .any ops Q fuel listed a w
  | 0, listed, a, w, I, hc => by
    have hr : Region.ready .any ops listed = [] := by
      rw [List.eq_nil_iff_forall_not_mem]
      intro i hi
      have h1 := (mem_ready.1 hi).1
      have : false ∈ listed.toList := by
        rcases Nat.lt_or_ge i listed.size with q | q
        · simp [q] at h1
          rw [← h1]; simp
        · simp [Array.getElem?_eq_none q] at h1
      have := List.count_pos_iff.2 this
      omega
    exact ⟨hr, hend _ _ _ I (all_listed hB I.size hr)⟩
  | fuel + 1, listed, a, w, I, hc => by
    refine ⟨fun hr => hend _ _ _ I (all_listed hB I.size hr), fun i hi => ?_⟩
    refine wpOp_mono (fun a' w' I' => flow_any hB hst hstep hend fuel _ a' w' I' ?_) (step_inv hB hst hstep I hi)
    have h1 := (mem_ready.1 hi).1
    have q : i < listed.size := by
      rcases Nat.lt_or_ge i listed.size with q | q
      · exact q
      · simp [Array.getElem?_eq_none q] at h1
    simp [q] at h1
    rw [Array.toList_setIfInBounds, List.count_set (by simpa using q)]
    have hp : 0 < listed.toList.count false := List.count_pos_iff.2 (by rw [← h1]; simp)
    have hp' : listed.toList.count false - 1 ≤ fuel := by omega
    simpa [h1] using hp'
/-- Whatever order is drawn: at the end each place holds a thing of its kind. -/
theorem wp_region_flow {id : Nat} {a : Act} {w : World} (Val : Tmp → Value → World → Prop) (init : List Tmp) (n : Nat) (hm : P.follows .mixedOrders = true) (hB : flowB ops init n = true)
    (hst : ∀ t v w w', Val t v w → Below w.heap.size w w' → Val t v w') (hn : a.tmps.size = n) (hinit : ∀ t ∈ init, Val t (a.tmps.getD t undef) w) (hstep : ∀ o ∈ ops.toList, Step P Val Q o)
    (hend : ∀ a' w', Below w.heap.size w w' → a'.tmps.size = n → a'.defers = a.defers → (∀ t, (∀ (i : Nat) o, ops[i]? = some o → o.dst ≠ some t) → a'.tmps.getD t undef = a.tmps.getD t undef) →
      (∀ (i : Nat) o d, ops[i]? = some o → o.dst = some d → Val d (a'.tmps.getD d undef) w') → Q .normal a' w') : (Code.region id ops true).wp P Q a w := by
  have b0 : Below w.heap.size w { w with drawn := w.drawn + 1 } := ⟨rfl, rfl, rfl, Nat.le_refl _, fun _ _ => rfl⟩
  refine wp_region_any hm (flow_any (Val := Val) (init := init) (n := n) (w0 := w) (a0 := a) hB hst hstep ?_ _ _ _ _ ⟨by simp, hn, rfl, b0, fun t ht => hst _ _ _ _ (hinit t ht) b0, fun _ _ => rfl, ?_⟩ ?_)
  · intro listed a' w' I hl
    refine hend a' w' I.below I.frame I.defers I.old fun i o d hi hd => I.vals i o d hi (hl i ?_) hd
    rcases Nat.lt_or_ge i ops.size with q | q
    · exact q
    · rw [Array.getElem?_eq_none q] at hi; cases hi
  · intro i o d hi hl
    rcases Nat.lt_or_ge i ops.size with q | q
    · simp [q] at hl
    · rw [Array.getElem?_eq_none q] at hi; cases hi
  · simp
end
end Flow
end Go.Proofs.Ytchnnpaebggfdaa
