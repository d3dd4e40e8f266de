/-
  An object that the call itself made, while the world goes on. No function of the program is walked here. No conditions.
  A struct of whatever kinds in a block that is known whole: loaded whole, stored whole, handed back by a result's cell. No function of the program is walked here. No conditions.
  What a law of layer 18 asks of package signal: as a bundle of contracts over whatever lies in memory for a signal; the values that go in and out. Nothing of the program is walked here. No conditions.
  A region that draws its order, each operation of which only reads what was there, may lay new blocks, and hands back something of a kind that its place in the frame tells: whatever order is drawn, at the end every place holds a thing of its kind. No function of the program is walked here. No conditions beyond those said.
-/
import Derived.Test.YtmlhmmfgdioclaaJAgg3
import Derived.Laws.ResultCell
import Derived.Test.YtmlhmmfgdioclaaJLatchMath4
import Derived.Orders
import Derived.OrdersHeld
namespace Go.Proofs.Ytmlhmmfgdioclaa
set_option maxRecDepth 100000
open Go.ChangeShapes Go.WideShapes Go.ChangeAt Go.RowKit Go.Deep
namespace Kp
/-- The block g holds these cells; it is new since w. -/
structure Kept (w W : World) (g : Nat) (t : TypeId) (cs : List Value) : Prop where
  below : Below w.heap.size w W
  row : VRow W g t cs
  ge : w.heap.size ≤ g
section
variable {w W W' : World} {g : Nat} {t : TypeId} {cs cs' : List Value}
theorem Kept.on (h : Kept w W g t cs) (b : Below W.heap.size W W') : Kept w W' g t cs := ⟨grow h.below b, h.row.below b h.row.lt, h.ge⟩
theorem Kept.alloc (h : Kept w W g t cs) (o : Obj) : Kept w (W.alloc o) g t cs := ⟨h.below.alloc h.below.size o, h.row.alloc o, h.ge⟩
theorem Kept.drewN (h : Kept w W g t cs) (n : Nat) : Kept w (W.drewN n) g t cs := ⟨below_drewN h.below n, h.row.drewN n, h.ge⟩
theorem Kept.take (h : Kept w W g t cs) (o : Only g W W') (k : VRow W' g t cs') : Kept w W' g t cs' := ⟨o.below h.below h.below.size h.ge, k, h.ge⟩
theorem kept_new (w W : World) (cs : List Value) (t : TypeId) (h : Below w.heap.size w W) : Kept w (W.alloc (.cells cs.toArray t)) W.heap.size t cs := ⟨h.alloc h.size _, VRow.new W cs t, h.size⟩
end
end Kp
end Go.Proofs.Ytmlhmmfgdioclaa

namespace Go.Proofs.Ytmlhmmfgdioclaa
set_option maxRecDepth 100000
open Go.ChangeShapes Go.WideShapes Go.ChangeAt Go.RowKit Go.Deep
section
variable {w w' : World} {g j : Nat} {t : TypeId} {cs cs' : List Value}
theorem VRow.put (h : VRow w g t cs) (cs' : List Value) : VRow (w.setRow g cs'.toArray) g t cs' := setRow_heap w g cs.toArray cs'.toArray t (0, 0) h
theorem VRow.putOther (h : VRow w g t cs) (hj : g ≠ j) (c : Array Value) : VRow (w.setRow j c) g t cs := (setRow_other w j g c hj).trans h
theorem Below.put {B : Nat} {a : World} (h : Below B a w) (hg : B ≤ g) (c : Array Value) : Below B a (w.setRow g c) :=
  ⟨h.os, h.tape, h.output, by simpa [World.setRow] using h.size, fun k hk => (setRow_other w g k c (by omega)).trans (h.block k hk)⟩
theorem But.put {S : Nat → Prop} {a : World} (h : But S a w) (hg : S g ∨ a.heap.size ≤ g) (c : Array Value) : But S a (w.setRow g c) :=
  ⟨h.os, h.tape, h.output, by simpa [World.setRow] using h.size, fun k hk hs => (setRow_other w g k c (fun e => by
    rcases hg with q | q
    · exact hs (e ▸ q)
    · omega)).trans (h.block k hk hs)⟩
end
namespace VB
section
variable {P : Program} {w : World} {t tt : TypeId} {g : Nat} {cs : List Value}
/-- The whole variable out of its block. -/
theorem load (hA : (isAgg t).run P w = .ok true w) (hi : (P.info? t).map (·.size) = some cs.length) (h : VRow w g tt cs) :
    (loadVar t ⟨g, 0, none⟩).run P w = .ok (.agg cs.toArray) w := by
  have h1 := run_loadCells_list (P := P) w ⟨g, 0, none⟩ cs (fun j v hv => by rw [add_plain, Nat.zero_add]; exact VRow.cell h j hv)
  cases hq : P.info? t with
  | none => simp [hq] at hi
  | some i =>
    have hs : i.size = cs.length := by simpa [hq] using hi
    simp [loadVar, hA, sizeOf, typeInfo, hq, hs, h1, Result.andThen]
/-- A result that lies in a cell; with one beside it; with two. -/
theorem ret1 {fn : Func} {p : Tmp} {ty : TypeId} {tmps : Array Value} (h : fn.results = #[.cell p ty]) (ht : tmps.getD p undef = .pointer (some ⟨g, 0, none⟩)) (hA : (isAgg ty).run P w = .ok true w) (hi : (P.info? ty).map (·.size) = some cs.length) (hr : VRow w g tt cs) :
    (results fn tmps).run P w = .ok (.agg cs.toArray) w := by
  rw [Agg.results_cell h, ht]
  simp only [asAddr, Sem.run_pure, Result.andThen]
  rw [load hA hi hr]
theorem ret2 {fn : Func} {p u : Tmp} {ty : TypeId} {tmps : Array Value} (h : fn.results = #[.cell p ty, .tmp u]) (ht : tmps.getD p undef = .pointer (some ⟨g, 0, none⟩)) (hA : (isAgg ty).run P w = .ok true w) (hi : (P.info? ty).map (·.size) = some cs.length) (hr : VRow w g tt cs) :
    (results fn tmps).run P w = .ok (.tuple #[.agg cs.toArray, tmps.getD u undef]) w := by
  rw [results_cell_tmp h, ht]
  simp only [asAddr, Sem.run_pure, Result.andThen]
  rw [load hA hi hr]
theorem ret3 {fn : Func} {p u v : Tmp} {ty : TypeId} {tmps : Array Value} (h : fn.results = #[.cell p ty, .tmp u, .tmp v]) (ht : tmps.getD p undef = .pointer (some ⟨g, 0, none⟩)) (hA : (isAgg ty).run P w = .ok true w) (hi : (P.info? ty).map (·.size) = some cs.length) (hr : VRow w g tt cs) :
    (results fn tmps).run P w = .ok (.tuple #[.agg cs.toArray, tmps.getD u undef, tmps.getD v undef]) w := by
  have h1 : (results fn tmps).run P w = ((asAddr (tmps.getD p undef)).run P w).andThen fun a w₁ => ((loadVar ty a).run P w₁).andThen fun x w₂ => .ok (.tuple #[x, tmps.getD u undef, tmps.getD v undef]) w₂ := by
    simp only [results, h]
    simp [Sem.run_bind, Result.andThen]
  rw [h1, ht]
  simp only [asAddr, Sem.run_pure, Result.andThen]
  rw [load hA hi hr]
/-- A whole struct stored. -/
theorem store {ops : Array Oper} {rest : List Oper} {o : Oper} {a : Act} {Q : Exit → Act → World → Prop} (hgd : o.guard = none) (x y : Operand) (ho : o.op = .store t x y)
    (g : Nat) (cs' : List Value) (hx : a.eval x = .pointer (some ⟨g, 0, none⟩)) (hy : a.eval y = .agg cs'.toArray) (hr : VRow w g tt cs) (hi : (P.info? t).map (·.size) = some cs'.length) (hl : cs.length = cs'.length) (h1 : cs'.toArray.all (·.oneCell') = true)
    (h : wpList P ops Q rest (a.put o.dst undef) (w.setRow g cs'.toArray)) : wpList P ops Q (o :: rest) a w :=
  wpList_store_row hgd t x y ho g cs'.toArray hx hy tt cs.toArray hr (by simpa using hi) (by simpa using hl) h1 h
/-- A whole struct loaded. -/
theorem loaded {ops : Array Oper} {rest : List Oper} {o : Oper} {a : Act} {Q : Exit → Act → World → Prop} (hgd : o.guard = none) (x : Operand) (ho : o.op = .load t x)
    (g : Nat) (hx : a.eval x = .pointer (some ⟨g, 0, none⟩)) (hr : VRow w g tt cs) {d : TypeDesc} (hu : P.underlying t = some d) (hd : (match d with | .struct _ | .array _ _ => true | _ => false) = true) (hi : (P.info? t).map (·.size) = some cs.length)
    (h : wpList P ops Q rest (a.put o.dst (.agg cs.toArray)) w) : wpList P ops Q (o :: rest) a w :=
  wpList_load_row hgd t x ho g hx tt cs.toArray (0, 0) d hr hu hd (by simpa using hi) h
end
end VB
end Go.Proofs.Ytmlhmmfgdioclaa

namespace Go.Proofs.Ytmlhmmfgdioclaa
set_option maxRecDepth 100000
open Go.ChangeShapes Go.WideShapes Go.ChangeAt Go.RowKit Go.Deep
namespace Sg
open Cf (G CA)

/-- Four raw values as cells. -/
def raw8 (r : Nat → Rw) : List Value := [.bool (r 0).is, .int .i64 (r 0).n, .bool (r 1).is, .int .i64 (r 1).n, .bool (r 2).is, .int .i64 (r 2).n, .bool (r 3).is, .int .i64 (r 3).n]
def raws (l : List Rw) (i : Nat) : Rw := l.getD i rw0
/-- A mask of four. -/
def mk4 (f : Nat → Bool) : Int := (if f 0 = true then 1 else 0) + (if f 1 = true then 2 else 0) + (if f 2 = true then 4 else 0) + (if f 3 = true then 8 else 0)
section
variable (c : List Int) (s : Si) (r : Nat → Rw) (sh : Int)
def inm : Int := mk4 fun i => decide (i < NN c) && isin c s r sh i
def lam : Int := mk4 fun i => decide (i < NN c) && (s.ch i).st.la
def tri (i : Nat) : Int := if i < NN c then trp c s r sh i else 0
def evi (i : Nat) : Int := if i < NN c then wha c s r sh i else 0
/-- What a cycle tells, as cells. -/
def res : List Value := [.int .i64 (val c s r sh), .int .i64 (inm c s r sh), .int .i64 (lam c (nxt c s r sh)), .int .i64 (sus c s r sh), .bool (!any c s r sh),
  .int .i64 (tri c s r sh 0), .int .i64 (tri c s r sh 1), .int .i64 (tri c s r sh 2), .int .i64 (tri c s r sh 3), .int .i64 (evi c s r sh 0), .int .i64 (evi c s r sh 1), .int .i64 (evi c s r sh 2), .int .i64 (evi c s r sh 3)]
end
def zres : List Value := [.int .i64 0, .int .i64 0, .int .i64 0, .int .i64 0, .bool false, .int .i64 0, .int .i64 0, .int .i64 0, .int .i64 0, .int .i64 0, .int .i64 0, .int .i64 0, .int .i64 0]
def lav (s : Lc.St) : List Value := [.bool s.la, .bool s.ou, .int .i64 s.st, .int .i64 s.cl, .int .i64 s.bk]
def okr (c : List Int) (r : Nat → Rw) (sh : Int) : Prop := Rok c r ∧ 0 ≤ sh ∧ sh ≤ 15

/-- The package, as a law meets it: a signal lies in the blocks S, behind a pointer to block g. -/
structure Face where
  At : World → (Nat → Prop) → Nat → List Int → Si → Prop
  lt : ∀ {W S g c s}, At W S g c s → ∀ j, S j → j < W.heap.size
  keep : ∀ {W W' : World} {S T : Nat → Prop} {g c s}, At W S g c s → But T W W' → (∀ j, S j → ¬ T j) → At W' S g c s
  new_yes : ∀ (c : List Int) (w : World), c.length = 21 → Cf.Right c →
    Calls Try.prog 4 #[.agg (CA c)] w fun e w' => (∃ g S, e = .returned (.tuple #[.pointer (some ⟨g, 0, none⟩), .int .i64 0]) ∧ At w' S g c (begin c) ∧ ∀ j, S j → w.heap.size ≤ j) ∧ Below w.heap.size w w'
  new_no : ∀ (c : List Int) (w : World), c.length = 21 → ¬ Cf.Right c →
    Calls Try.prog 4 #[.agg (CA c)] w fun e w' => e = .returned (.tuple #[.pointer none, .int .i64 2]) ∧ Below w.heap.size w w'
  step_yes : ∀ {W S g c s} (r : Nat → Rw) (sh : Int), At W S g c s → Cf.Right c → Ok c s → okr c r sh → s.votes.length < 1099511627776 →
    Calls Try.prog 8 #[.pointer (some ⟨g, 0, none⟩), .agg (raw8 r).toArray, .int .i64 sh] W fun e w' => e = .returned (.tuple #[.agg (res c s r sh).toArray, .int .i64 0]) ∧ ∃ S', At w' S' g c (nxt c s r sh) ∧ But S W w' ∧ ∀ j, S' j → S j ∨ W.heap.size ≤ j
  step_no : ∀ {W S g c s} (r : Nat → Rw) (sh : Int), At W S g c s → Cf.Right c → Ok c s → ¬ okr c r sh →
    Calls Try.prog 8 #[.pointer (some ⟨g, 0, none⟩), .agg (raw8 r).toArray, .int .i64 sh] W fun e w' => e = .returned (.tuple #[.agg zres.toArray, .int .i64 1]) ∧ Below W.heap.size W w'
  value : ∀ {W S g c s}, At W S g c s → Calls Try.prog 9 #[.pointer (some ⟨g, 0, none⟩)] W fun e w' => e = .returned (.int .i64 s.val) ∧ Below W.heap.size W w'
  latched : ∀ {W S g c s}, At W S g c s → Cf.Right c → Calls Try.prog 7 #[.pointer (some ⟨g, 0, none⟩)] W fun e w' => e = .returned (.int .i64 (lam c s)) ∧ Below W.heap.size W w'
  state_yes : ∀ {W S g c s} (k : Nat), At W S g c s → Cf.Right c → k < NN c → Calls Try.prog 13 #[.pointer (some ⟨g, 0, none⟩), .int .i64 k] W fun e w' => e = .returned (.tuple #[.agg (lav (s.ch k).st).toArray, .bool true]) ∧ Below W.heap.size W w'
  state_no : ∀ {W S g c s} (k : Int), At W S g c s → Cf.Right c → (k < 0 ∨ (NN c : Int) ≤ k) → Calls Try.prog 13 #[.pointer (some ⟨g, 0, none⟩), .int .i64 k] W fun e w' => e = .returned (.tuple #[.agg (lav Lc.zer).toArray, .bool false]) ∧ Below W.heap.size W w'
  offset_yes : ∀ {W S g c s} (k : Nat), At W S g c s → Cf.Right c → k < NN c → Calls Try.prog 14 #[.pointer (some ⟨g, 0, none⟩), .int .i64 k] W fun e w' => e = .returned (.int .i64 (s.ch k).off) ∧ Below W.heap.size W w'
  offset_no : ∀ {W S g c s} (k : Int), At W S g c s → Cf.Right c → (k < 0 ∨ (NN c : Int) ≤ k) → Calls Try.prog 14 #[.pointer (some ⟨g, 0, none⟩), .int .i64 k] W fun e w' => e = .returned (.int .i64 0) ∧ Below W.heap.size W w'
theorem Face.on (F : Face) {W W' : World} {S : Nat → Prop} {g : Nat} {c : List Int} {s : Si} (h : F.At W S g c s) (b : Below W.heap.size W W') : F.At W' S g c s :=
  F.keep h (But.of_below (S := fun _ => False) b) (fun _ _ q => q)

/-- A signal that the law has made, while the law goes on: all its blocks are new since w. -/
structure Held (F : Face) (w W : World) (S : Nat → Prop) (g : Nat) (c : List Int) (s : Si) : Prop where
  below : Below w.heap.size w W
  at_ : F.At W S g c s
  new : ∀ j, S j → w.heap.size ≤ j
  ok : Ok c s
section
variable {F : Face} {w W W' : World} {S S' : Nat → Prop} {g : Nat} {c : List Int} {s s' : Si}
theorem Held.on (H : Held F w W S g c s) (b : Below W.heap.size W W') : Held F w W' S g c s := ⟨grow H.below b, F.on H.at_ b, H.new, H.ok⟩
theorem Held.alloc (H : Held F w W S g c s) (o : Obj) : Held F w (W.alloc o) S g c s := H.on ((Below.refl _ _).alloc (Nat.le_refl _) o)
theorem Held.put {j : Nat} (H : Held F w W S g c s) (hj : ¬ S j) (hw : w.heap.size ≤ j) (cs : Array Value) : Held F w (W.setRow j cs) S g c s :=
  ⟨Below.put H.below hw cs, F.keep H.at_ ((But.refl (· = j) W).put (Or.inl rfl) cs) (fun _ hk e => hj (e ▸ hk)), H.new, H.ok⟩
theorem Held.step (H : Held F w W S g c s) (a : F.At W' S' g c s') (b : But S W W') (n : ∀ j, S' j → S j ∨ W.heap.size ≤ j) (o : Ok c s') : Held F w W' S' g c s' :=
  ⟨But.below H.below b H.below.size H.new, a, fun j hj => (n j hj).elim (H.new j) (fun q => Nat.le_trans H.below.size q), o⟩
end
end Sg
end Go.Proofs.Ytmlhmmfgdioclaa

namespace Go.Proofs.Ytmlhmmfgdioclaa
set_option maxRecDepth 100000
open Go.ChangeShapes Go.WideShapes Go.ChangeAt Go.RowKit Go.Deep
namespace Flow

/-- The places that an operation looks at. -/
def looks (o : Oper) : List Tmp := o.op.operands.toList.filterMap fun | .tmp t => some t | _ => none
/-- What is asked of an operation: nothing guards it, it has a place below n that is none of those at the start, and what it looks at is one of these or comes from one that it waits for; it waits for earlier ones alone. -/
def fits (ops : Array Oper) (init : List Tmp) (n i : Nat) (o : Oper) : Bool :=
  o.guard.isNone && (match o.dst with | some d => decide (d < n) && !init.contains d | none => false) &&
  ((looks o).all fun t => init.contains t || o.after.any fun e => Region.binds .any e && ((ops[e.on]?).bind (·.dst) == some t)) &&
  (o.after.all fun e => !Region.binds .any e || decide (e.on < i))
def flowB (ops : Array Oper) (init : List Tmp) (n : Nat) : Bool :=
  (ops.toList.zipIdx.all fun q => fits ops init n q.2 q.1) && decide ((ops.toList.map (·.dst)).Nodup)

section
variable {P : Program} {Q : Exit → Act → World → Prop} {ops : Array Oper}
/-- One operation's duty. -/
def Step (P : Program) (Val : Tmp → Value → World → Prop) (Q : Exit → Act → World → Prop) (o : Oper) : Prop :=
  ∀ a w, (∀ t ∈ looks o, Val t (a.tmps.getD t undef) w) → o.wp P a w (fun a' w' => ∃ v, a' = a.put o.dst v ∧ Below w.heap.size w w' ∧ ∀ d, o.dst = some d → Val d v w') Q

structure Inv (ops : Array Oper) (Val : Tmp → Value → World → Prop) (init : List Tmp) (n : Nat) (w0 : World) (a0 : Act) (listed : Array Bool) (a : Act) (w : World) : Prop where
  size : listed.size = ops.size
  frame : a.tmps.size = n
  defers : a.defers = a0.defers
  below : Below w0.heap.size w0 w
  start : ∀ t ∈ init, Val t (a.tmps.getD t undef) w
  old : ∀ t, (∀ (i : Nat) o, ops[i]? = some o → o.dst ≠ some t) → a.tmps.getD t undef = a0.tmps.getD t undef
  vals : ∀ (i : Nat) o d, ops[i]? = some o → listed.getD i true = true → o.dst = some d → Val d (a.tmps.getD d undef) w

theorem flow_at {init : List Tmp} {n : Nat} (hB : flowB ops init n = true) {i : Nat} {o : Oper} (hi : ops[i]? = some o) : fits ops init n i o = true := by
  unfold flowB at hB
  rw [Bool.and_eq_true] at hB
  refine List.all_eq_true.1 hB.1 (o, i) ?_
  rw [List.mem_zipIdx_iff_getElem?]
  simpa using hi
theorem flow_dst {init : List Tmp} {n : Nat} (hB : flowB ops init n = true) {i : Nat} {o : Oper} (hi : ops[i]? = some o) : o.guard = none ∧ ∃ d, o.dst = some d ∧ d < n ∧ d ∉ init := by
  have h := flow_at hB hi
  unfold fits at h
  simp only [Bool.and_eq_true] at h
  obtain ⟨⟨⟨h1, h2⟩, _⟩, _⟩ := h
  refine ⟨by simpa using h1, ?_⟩
  cases hd : o.dst with
  | none => simp [hd] at h2
  | some d => simp [hd] at h2; exact ⟨d, rfl, h2.1, h2.2⟩
theorem flow_one {init : List Tmp} {n : Nat} (hB : flowB ops init n = true) {i j : Nat} {o p : Oper} (hi : ops[i]? = some o) (hj : ops[j]? = some p) (h : o.dst = p.dst) : i = j := by
  unfold flowB at hB
  rw [Bool.and_eq_true] at hB
  have hn : (ops.toList.map (·.dst)).Nodup := of_decide_eq_true hB.2
  have hi' : i < ops.size := by
    rcases Nat.lt_or_ge i ops.size with q | q
    · exact q
    · rw [Array.getElem?_eq_none q] at hi; cases hi
  exact (List.getElem?_inj (l := ops.toList.map (·.dst)) (by simpa using hi') hn).1 (by simp [hi, hj, h])

theorem all_listed {init : List Tmp} {n : Nat} (hB : flowB ops init n = true) {listed : Array Bool} (hs : listed.size = ops.size) (hr : Region.ready .any ops listed = []) :
    ∀ i, i < ops.size → listed.getD i true = true := by
  intro i
  induction i using Nat.strongRecOn with
  | _ i ih =>
    intro hi
    cases hl : listed.getD i true with
    | true => rfl
    | false =>
      have hm : i ∈ Region.ready .any ops listed := mem_ready.2 ⟨hl, ops[i], by simp [hi], fun e he hb => by
        have h := flow_at hB (i := i) (o := ops[i]) (by simp [hi])
        unfold fits at h
        simp only [Bool.and_eq_true] at h
        have := Array.all_eq_true_iff_forall_mem.1 h.2 e he
        simp [hb] at this
        have q := ih e.on this (by omega)
        have hlt : e.on < listed.size := by omega
        simpa [hlt] using q⟩
      rw [hr] at hm; cases hm

theorem step_inv {Val : Tmp → Value → World → Prop} {init : List Tmp} {n : Nat} {w0 : World} {a0 : Act} (hB : flowB ops init n = true)
    (hst : ∀ t v w w', Val t v w → Below w.heap.size w w' → Val t v w') (hstep : ∀ o ∈ ops.toList, Step P Val Q o)
    {listed : Array Bool} {a : Act} {w : World} (I : Inv ops Val init n w0 a0 listed a w) {i : Nat} (hr : i ∈ Region.ready .any ops listed) :
    wpOp P ops Q i (fun a' w' => Inv ops Val init n w0 a0 (listed.setIfInBounds i true) a' w') a w := by
  obtain ⟨hun, o, ho, hall⟩ := mem_ready.1 hr
  obtain ⟨hg, d, hd, hdn, hdi⟩ := flow_dst hB ho
  have hf := flow_at hB ho
  unfold fits at hf
  simp only [Bool.and_eq_true] at hf
  have hlk : ∀ t ∈ looks o, Val t (a.tmps.getD t undef) w := by
    intro t ht
    have h := List.all_eq_true.1 hf.1.2 t ht
    rw [Bool.or_eq_true] at h
    rcases h with h | h
    · exact I.start t (by simpa using h)
    · rw [Array.any_eq_true'] at h
      obtain ⟨e, he, h⟩ := h
      rw [Bool.and_eq_true, beq_iff_eq] at h
      have hl := hall e he h.1
      cases hp : ops[e.on]? with
      | none => rw [hp] at h; simp at h
      | some p =>
        rw [hp] at h
        have hlt : e.on < listed.size := by
          rcases Nat.lt_or_ge e.on listed.size with q | q
          · exact q
          · simp [Array.getElem?_eq_none q] at hl
        exact I.vals e.on p t hp (by simpa [hlt] using hl) (by simpa using h.2)
  have hmem : o ∈ ops.toList := by
    have := Array.mem_of_getElem? ho
    simpa using this
  have hs := hstep o hmem a w hlk
  unfold wpOp
  simp only [ho]
  rw [if_pos (show Region.wanted o (yielded ops a.tmps) = true by simp [Region.wanted, hg])]
  refine .inl (Oper.wp_mono ?_ hs)
  rintro a' w' ⟨v, rfl, hb, hv⟩
  have hv := hv d hd
  have hget : ∀ t, t ≠ d → (a.put o.dst v).tmps.getD t undef = a.tmps.getD t undef := by
    intro t ht
    simp [Act.put, hd, Array.getElem?_setIfInBounds_ne (Ne.symm ht)]
  have hset : (a.put o.dst v).tmps.getD d undef = v := by
    simp [Act.put, hd, I.frame, hdn]
  refine ⟨by simpa using I.size, by simpa [Act.put, hd] using I.frame, by simpa [Act.put, hd] using I.defers, grow I.below hb, ?_, ?_, ?_⟩
  · intro t ht
    rw [hget t (fun e => hdi (e ▸ ht))]
    exact hst _ _ _ _ (I.start t ht) hb
  · intro t ht
    rw [hget t (fun e => ht i o ho (e ▸ hd))]
    exact I.old t ht
  · intro j p x hp hl hx
    by_cases hij : j = i
    · subst hij
      rw [ho] at hp; cases hp
      rw [hd] at hx; cases hx
      rw [hset]; exact hv
    · rw [hget x (fun e => hij (flow_one hB hp ho (by rw [hx, hd, e])))]
      refine hst _ _ _ _ (I.vals j p x hp ?_ hx) hb
      rwa [getD_set_ne true (Ne.symm hij)] at hl

theorem flow_any {Val : Tmp → Value → World → Prop} {init : List Tmp} {n : Nat} {w0 : World} {a0 : Act} (hB : flowB ops init n = true)
    (hst : ∀ t v w w', Val t v w → Below w.heap.size w w' → Val t v w') (hstep : ∀ o ∈ ops.toList, Step P Val Q o)
    (hend : ∀ listed a w, Inv ops Val init n w0 a0 listed a w → (∀ i, i < ops.size → listed.getD i true = true) → Q .normal a w) :
    ∀ (fuel : Nat) (listed : Array Bool) (a : Act) (w : World), Inv ops Val init n w0 a0 listed a w → listed.toList.count false ≤ fuel → wpAny P .any ops Q fuel listed a w
  | 0, listed, a, w, I, hc => by
    have hr : Region.ready .any ops listed = [] := by
      rw [List.eq_nil_iff_forall_not_mem]
      intro i hi
      have h1 := (mem_ready.1 hi).1
      have : false ∈ listed.toList := by
        rcases Nat.lt_or_ge i listed.size with q | q
        · simp [q] at h1
          rw [← h1]; simp
        · simp [Array.getElem?_eq_none q] at h1
      have := List.count_pos_iff.2 this
      omega
    exact ⟨hr, hend _ _ _ I (all_listed hB I.size hr)⟩
  | fuel + 1, listed, a, w, I, hc => by
    refine ⟨fun hr => hend _ _ _ I (all_listed hB I.size hr), fun i hi => ?_⟩
    refine wpOp_mono (fun a' w' I' => flow_any hB hst hstep hend fuel _ a' w' I' ?_) (step_inv hB hst hstep I hi)
    have h1 := (mem_ready.1 hi).1
    have q : i < listed.size := by
      rcases Nat.lt_or_ge i listed.size with q | q
      · exact q
      · simp [Array.getElem?_eq_none q] at h1
    simp [q] at h1
    rw [Array.toList_setIfInBounds, List.count_set (by simpa using q)]
    have hp : 0 < listed.toList.count false := List.count_pos_iff.2 (by rw [← h1]; simp)
    have hp' : listed.toList.count false - 1 ≤ fuel := by omega
    simpa [h1] using hp'

/-- Whatever order is drawn: at the end each place holds a thing of its kind. -/
theorem wp_region_flow {id : Nat} {a : Act} {w : World} (Val : Tmp → Value → World → Prop) (init : List Tmp) (n : Nat) (hm : P.follows .mixedOrders = true) (hB : flowB ops init n = true)
    (hst : ∀ t v w w', Val t v w → Below w.heap.size w w' → Val t v w') (hn : a.tmps.size = n) (hinit : ∀ t ∈ init, Val t (a.tmps.getD t undef) w) (hstep : ∀ o ∈ ops.toList, Step P Val Q o)
    (hend : ∀ a' w', Below w.heap.size w w' → a'.tmps.size = n → a'.defers = a.defers → (∀ t, (∀ (i : Nat) o, ops[i]? = some o → o.dst ≠ some t) → a'.tmps.getD t undef = a.tmps.getD t undef) →
      (∀ (i : Nat) o d, ops[i]? = some o → o.dst = some d → Val d (a'.tmps.getD d undef) w') → Q .normal a' w') : (Code.region id ops true).wp P Q a w := by
  have b0 : Below w.heap.size w { w with drawn := w.drawn + 1 } := ⟨rfl, rfl, rfl, Nat.le_refl _, fun _ _ => rfl⟩
  refine wp_region_any hm (flow_any (Val := Val) (init := init) (n := n) (w0 := w) (a0 := a) hB hst hstep ?_ _ _ _ _ ⟨by simp, hn, rfl, b0, fun t ht => hst _ _ _ _ (hinit t ht) b0, fun _ _ => rfl, ?_⟩ ?_)
  · intro listed a' w' I hl
    refine hend a' w' I.below I.frame I.defers I.old fun i o d hi hd => I.vals i o d hi (hl i ?_) hd
    rcases Nat.lt_or_ge i ops.size with q | q
    · exact q
    · rw [Array.getElem?_eq_none q] at hi; cases hi
  · intro i o d hi hl
    rcases Nat.lt_or_ge i ops.size with q | q
    · simp [q] at hl
    · rw [Array.getElem?_eq_none q] at hi; cases hi
  · simp
end
end Flow
end Go.Proofs.Ytmlhmmfgdioclaa
