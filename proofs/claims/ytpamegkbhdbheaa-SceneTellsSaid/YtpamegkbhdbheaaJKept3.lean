/-
  An object that the call itself made, while the world goes on. No function of the program is walked here. No conditions.
  A struct of whatever kinds in a block that is known whole: loaded whole, stored whole, handed back by a result's cell. No function of the program is walked here. No conditions.
  append of a whole list of numbers onto a row that the call itself made, in a plain region and in one that draws its order. No function of the program is walked here. No conditions.
-/
import Derived.Test.YtpamegkbhdbheaaJAgg4
import Derived.Laws.ResultCell
import Derived.Test.YtpamegkbhdbheaaJOpen2
import Derived.Deep.RegionLaw
namespace Go.Proofs.Ytpamegkbhdbheaa
set_option maxRecDepth 100000
open Go.ChangeShapes Go.WideShapes Go.ChangeAt Go.RowKit Go.Deep
namespace Kp
/-- The block g holds these cells; it is new since w. -/
structure Kept (w W : World) (g : Nat) (t : TypeId) (cs : List Value) : Prop where
  below : Below w.heap.size w W
  row : VRow W g t cs
  ge : w.heap.size ≤ g
section
variable {w W W' : World} {g : Nat} {t : TypeId} {cs cs' : List Value}
theorem Kept.on (h : Kept w W g t cs) (b : Below W.heap.size W W') : Kept w W' g t cs := ⟨grow h.below b, h.row.below b h.row.lt, h.ge⟩
theorem Kept.alloc (h : Kept w W g t cs) (o : Obj) : Kept w (W.alloc o) g t cs := ⟨h.below.alloc h.below.size o, h.row.alloc o, h.ge⟩
theorem Kept.drewN (h : Kept w W g t cs) (n : Nat) : Kept w (W.drewN n) g t cs := ⟨below_drewN h.below n, h.row.drewN n, h.ge⟩
theorem Kept.take (h : Kept w W g t cs) (o : Only g W W') (k : VRow W' g t cs') : Kept w W' g t cs' := ⟨o.below h.below h.below.size h.ge, k, h.ge⟩
theorem kept_new (w W : World) (cs : List Value) (t : TypeId) (h : Below w.heap.size w W) : Kept w (W.alloc (.cells cs.toArray t)) W.heap.size t cs := ⟨h.alloc h.size _, VRow.new W cs t, h.size⟩
end
end Kp
end Go.Proofs.Ytpamegkbhdbheaa

namespace Go.Proofs.Ytpamegkbhdbheaa
set_option maxRecDepth 100000
open Go.ChangeShapes Go.WideShapes Go.ChangeAt Go.RowKit Go.Deep
section
variable {w w' : World} {g j : Nat} {t : TypeId} {cs cs' : List Value}
theorem VRow.put (h : VRow w g t cs) (cs' : List Value) : VRow (w.setRow g cs'.toArray) g t cs' := setRow_heap w g cs.toArray cs'.toArray t (0, 0) h
theorem VRow.putOther (h : VRow w g t cs) (hj : g ≠ j) (c : Array Value) : VRow (w.setRow j c) g t cs := (setRow_other w j g c hj).trans h
theorem Below.put {B : Nat} {a : World} (h : Below B a w) (hg : B ≤ g) (c : Array Value) : Below B a (w.setRow g c) :=
  ⟨h.os, h.tape, h.output, by simpa [World.setRow] using h.size, fun k hk => (setRow_other w g k c (by omega)).trans (h.block k hk)⟩
theorem But.put {S : Nat → Prop} {a : World} (h : But S a w) (hg : S g ∨ a.heap.size ≤ g) (c : Array Value) : But S a (w.setRow g c) :=
  ⟨h.os, h.tape, h.output, by simpa [World.setRow] using h.size, fun k hk hs => (setRow_other w g k c (fun e => by
    rcases hg with q | q
    · exact hs (e ▸ q)
    · omega)).trans (h.block k hk hs)⟩
end
namespace VB
section
variable {P : Program} {w : World} {t tt : TypeId} {g : Nat} {cs : List Value}
/-- The whole variable out of its block. -/
theorem load (hA : (isAgg t).run P w = .ok true w) (hi : (P.info? t).map (·.size) = some cs.length) (h : VRow w g tt cs) :
    (loadVar t ⟨g, 0, none⟩).run P w = .ok (.agg cs.toArray) w := by
  have h1 := run_loadCells_list (P := P) w ⟨g, 0, none⟩ cs (fun j v hv => by rw [add_plain, Nat.zero_add]; exact VRow.cell h j hv)
  cases hq : P.info? t with
  | none => simp [hq] at hi
  | some i =>
    have hs : i.size = cs.length := by simpa [hq] using hi
    simp [loadVar, hA, sizeOf, typeInfo, hq, hs, h1, Result.andThen]
/-- A result that lies in a cell; with one beside it; with two. -/
theorem ret1 {fn : Func} {p : Tmp} {ty : TypeId} {tmps : Array Value} (h : fn.results = #[.cell p ty]) (ht : tmps.getD p undef = .pointer (some ⟨g, 0, none⟩)) (hA : (isAgg ty).run P w = .ok true w) (hi : (P.info? ty).map (·.size) = some cs.length) (hr : VRow w g tt cs) :
    (results fn tmps).run P w = .ok (.agg cs.toArray) w := by
  rw [Agg.results_cell h, ht]
  simp only [asAddr, Sem.run_pure, Result.andThen]
  rw [load hA hi hr]
theorem ret2 {fn : Func} {p u : Tmp} {ty : TypeId} {tmps : Array Value} (h : fn.results = #[.cell p ty, .tmp u]) (ht : tmps.getD p undef = .pointer (some ⟨g, 0, none⟩)) (hA : (isAgg ty).run P w = .ok true w) (hi : (P.info? ty).map (·.size) = some cs.length) (hr : VRow w g tt cs) :
    (results fn tmps).run P w = .ok (.tuple #[.agg cs.toArray, tmps.getD u undef]) w := by
  rw [results_cell_tmp h, ht]
  simp only [asAddr, Sem.run_pure, Result.andThen]
  rw [load hA hi hr]
theorem ret3 {fn : Func} {p u v : Tmp} {ty : TypeId} {tmps : Array Value} (h : fn.results = #[.cell p ty, .tmp u, .tmp v]) (ht : tmps.getD p undef = .pointer (some ⟨g, 0, none⟩)) (hA : (isAgg ty).run P w = .ok true w) (hi : (P.info? ty).map (·.size) = some cs.length) (hr : VRow w g tt cs) :
    (results fn tmps).run P w = .ok (.tuple #[.agg cs.toArray, tmps.getD u undef, tmps.getD v undef]) w := by
  have h1 : (results fn tmps).run P w = ((asAddr (tmps.getD p undef)).run P w).andThen fun a w₁ => ((loadVar ty a).run P w₁).andThen fun x w₂ => .ok (.tuple #[x, tmps.getD u undef, tmps.getD v undef]) w₂ := by
    simp only [results, h]
    simp [Sem.run_bind, Result.andThen]
  rw [h1, ht]
  simp only [asAddr, Sem.run_pure, Result.andThen]
  rw [load hA hi hr]
/-- A whole struct stored. -/
theorem store {ops : Array Oper} {rest : List Oper} {o : Oper} {a : Act} {Q : Exit → Act → World → Prop} (hgd : o.guard = none) (x y : Operand) (ho : o.op = .store t x y)
    (g : Nat) (cs' : List Value) (hx : a.eval x = .pointer (some ⟨g, 0, none⟩)) (hy : a.eval y = .agg cs'.toArray) (hr : VRow w g tt cs) (hi : (P.info? t).map (·.size) = some cs'.length) (hl : cs.length = cs'.length) (h1 : cs'.toArray.all (·.oneCell') = true)
    (h : wpList P ops Q rest (a.put o.dst undef) (w.setRow g cs'.toArray)) : wpList P ops Q (o :: rest) a w :=
  wpList_store_row hgd t x y ho g cs'.toArray hx hy tt cs.toArray hr (by simpa using hi) (by simpa using hl) h1 h
/-- A whole struct loaded. -/
theorem loaded {ops : Array Oper} {rest : List Oper} {o : Oper} {a : Act} {Q : Exit → Act → World → Prop} (hgd : o.guard = none) (x : Operand) (ho : o.op = .load t x)
    (g : Nat) (hx : a.eval x = .pointer (some ⟨g, 0, none⟩)) (hr : VRow w g tt cs) {d : TypeDesc} (hu : P.underlying t = some d) (hd : (match d with | .struct _ | .array _ _ => true | _ => false) = true) (hi : (P.info? t).map (·.size) = some cs.length)
    (h : wpList P ops Q rest (a.put o.dst (.agg cs.toArray)) w) : wpList P ops Q (o :: rest) a w :=
  wpList_load_row hgd t x ho g hx tt cs.toArray (0, 0) d hr hu hd (by simpa using hi) h
end
end VB
end Go.Proofs.Ytpamegkbhdbheaa

namespace Go.Proofs.Ytpamegkbhdbheaa
set_option maxRecDepth 100000
open Go.ChangeShapes Go.WideShapes Go.ChangeAt Go.RowKit Go.Deep

section
variable {k : IntKind} {base : Nat} {t : TypeId} {w w' : World} {v : Value} {l : List Int}
theorem OwnI.form2 (h : OwnI k base t w v l) : ∃ a cap, v = .slice a l.length cap ∧ IntsAt k w a l ∧ l.length ≤ cap ∧ cap ≤ maxLen := by
  obtain ⟨a, cap, rfl, hi⟩ := h.form
  refine ⟨a, cap, rfl, hi, ?_⟩
  rcases h with ⟨_, ⟨h0, h1⟩ | ⟨g, cap', cur, hv, _, _, hc, hm, _⟩⟩
  · injection h0 with _ _ h3; omega
  · injection hv with _ _ h3; omega
theorem OwnI.lit0 {te : TypeId} (hb : base ≤ w.heap.size) : OwnI k base te (w.alloc (.cells #[] te)) (.slice (some ⟨w.heap.size, 0, none⟩) 0 0) [] :=
  World.ownsRow_lit w #[] 0 hb (by simp) rfl
/-- A row of the call's own that holds something: where it lies, what is read there, what is stored there. -/
theorem OwnI.row (h : OwnI k base t w v l) (hp : 0 < l.length) : ∃ g cap, v = .slice (some ⟨g, 0, none⟩) l.length cap ∧ base ≤ g ∧ l.length ≤ cap ∧ g < w.heap.size := by
  rcases h with ⟨_, ⟨_, h1⟩ | ⟨g, cap, cur, hv, hb, hh, hc, _⟩⟩
  · omega
  · refine ⟨g, cap, hv, hb, hc, ?_⟩
    rcases Nat.lt_or_ge g w.heap.size with hlt | hge
    · exact hlt
    · rw [Array.getElem?_eq_none hge] at hh; cases hh
theorem OwnI.cell {g cap : Nat} (h : OwnI k base t w (.slice (some ⟨g, 0, none⟩) l.length cap) l) (j : Nat) (hj : j < l.length) : w.cell? ⟨g, j, none⟩ = some (.int k (l.getD j 0)) := by
  rw [World.ownsRow.cellAt h j (by omega)]; exact cellsI_get k l j hj
theorem OwnI.frozen {g cap : Nat} (h : OwnI k base t w (.slice (some ⟨g, 0, none⟩) l.length cap) l) (j : Nat) : w.frozen? ⟨g, j, none⟩ = false := World.ownsRow.frozenAt h j
theorem OwnI.stored {g cap : Nat} (h : OwnI k base t w (.slice (some ⟨g, 0, none⟩) l.length cap) l) (j : Nat) (x : Int) : OwnI k base t (w.setCell ⟨g, j, none⟩ (.int k x)) (.slice (some ⟨g, 0, none⟩) l.length cap) (l.set j x) := by
  have := (World.ownsRow.stored h j (.int k x)).1
  unfold OwnI; rw [cellsI_set, List.length_set]; exact this
theorem OwnI.drew (h : OwnI k base t w v l) : OwnI k base t w.drew v l := h
end

section
variable {P : Program}
theorem run_appendI {w : World} (k : IntKind) (base : Nat) (t ty e : TypeId) (bytes : Nat) (ht : P.underlying t = some (.slice e)) (hi : (P.info? e).map (fun i => (i.zero, i.size, i.bytes)) = some (some (.int k 0), 1, bytes))
    (v : Value) (l : List Int) (a : Option Addr) (c : Nat) (r : List Int) (hown : OwnI k base e w v l) (hr : IntsAt k w a r)
    (h63 : l.length + r.length ≤ maxLen) (hbytes : (l.length + r.length) * bytes ≤ 140737488355328) (w0 : World) (hb : Below base w0 w) (hbase : base ≤ w0.heap.size) :
    ∃ v' w', (Builtin.append_ #[t, t] ty #[v, .slice a r.length c]).run P w = .ok v' w' ∧ OwnI k base e w' v' (l ++ r) ∧ Below base w0 w' := by
  obtain ⟨i0, hi0, hz0, hz1, hz2⟩ := info_parts hi
  have hsz := hb.size
  rcases a with _ | ad
  · have h0 : r = [] := by
      rcases hr with h0 | ⟨_, _, h0, _⟩
      · exact h0
      · cases h0
    subst h0
    refine ⟨v, w, ?_, by rw [List.append_nil]; exact hown, hb⟩
    rcases hown.2 with ⟨rfl, h0⟩ | ⟨g, cap, cur, rfl, _, _, hnc, _⟩
    · simp [Builtin.append_, run_underlying ht, sizeOf, typeInfo, hi0, Builtin.lenOf, Builtin.firstCells]
    · simp [Builtin.append_, run_underlying ht, sizeOf, typeInfo, hi0, Builtin.lenOf, Builtin.firstCells, hnc, storeCells]
  · have hcells : ∀ j u, (cellsI k r)[j]? = some u → w.cell? (ad.add j) = some u := by
      intro j u hj
      rcases Nat.eq_zero_or_pos r.length with h0 | h0
      · rw [List.eq_nil_of_length_eq_zero h0] at hj; simp [cellsI] at hj
      · obtain ⟨ad', he, hc⟩ := hr.source h0
        injection he with he; subst he
        exact hc j u hj
    obtain ⟨v', w', h1, h2, h3, _⟩ := run_append_own (P := P) (w := w) base t ty e i0 _ 1 bytes ht hi0 hz0 hz1 hz2 rfl (by omega) v l.length (cellsI k l) hown ad r.length c (cellsI k r) (by rw [cellsI_len]; omega) hcells (cellsI_one k r) h63 hbytes (by omega)
    refine ⟨v', w', h1, ?_, hb.grown h3 (by omega) (fun j hj => hown.blk j hj)⟩
    unfold OwnI; rw [cellsI_app, List.length_append]; exact h2

theorem wpList_appendI {w : World} {ops : Array Oper} {rest : List Oper} {o : Oper} {a : Act} {Q : Exit → Act → World → Prop} (hgd : o.guard = none) (s x : Operand) (t : TypeId)
    (ho : o.op = .call { callee := .builtin .append, args := #[s, x], argTypes := #[t, t] })
    (k : IntKind) (base : Nat) (e : TypeId) (bytes : Nat) (ht : P.underlying t = some (.slice e)) (hi : (P.info? e).map (fun i => (i.zero, i.size, i.bytes)) = some (some (.int k 0), 1, bytes))
    (v : Value) (l : List Int) (ad : Option Addr) (n c : Nat) (r : List Int) (hs : a.eval s = v) (hx : a.eval x = .slice ad n c) (hnl : r.length = n) (hown : OwnI k base e w v l) (hr : IntsAt k w ad r)
    (h63 : l.length + r.length ≤ maxLen) (hbytes : (l.length + r.length) * bytes ≤ 140737488355328) (w0 : World) (hb : Below base w0 w) (hbase : base ≤ w0.heap.size)
    (h : ∀ v' w', OwnI k base e w' v' (l ++ r) → Below base w0 w' → wpList P ops Q rest (a.put o.dst v') w') : wpList P ops Q (o :: rest) a w := by
  subst hnl
  refine wpList_plain hgd fun K hK => ?_
  obtain ⟨v', w', hrun, h1, h2⟩ := run_appendI (P := P) (w := w) k base t o.type e bytes ht hi v l ad c r hown hr h63 hbytes w0 hb hbase
  unfold Oper.wp
  simp [execOp, ho, resolve, invoke, builtin, hs, hx, hrun, Result.andThen]
  exact hK _ _ (h v' w' h1 h2)

theorem step_appendI {ops : Array Oper} {o : Oper} {a : Act} {w : World} {K : Act → World → Prop} {Q : Exit → Act → World → Prop} {E : Prop} (hgd : o.guard = none) (s x : Operand) (t : TypeId)
    (ho : o.op = .call { callee := .builtin .append, args := #[s, x], argTypes := #[t, t] })
    (k : IntKind) (base : Nat) (e : TypeId) (bytes : Nat) (ht : P.underlying t = some (.slice e)) (hi : (P.info? e).map (fun i => (i.zero, i.size, i.bytes)) = some (some (.int k 0), 1, bytes))
    (v : Value) (l : List Int) (ad : Option Addr) (n c : Nat) (r : List Int) (hs : a.eval s = v) (hx : a.eval x = .slice ad n c) (hnl : r.length = n) (hown : OwnI k base e w v l) (hr : IntsAt k w ad r)
    (h63 : l.length + r.length ≤ maxLen) (hbytes : (l.length + r.length) * bytes ≤ 140737488355328) (w0 : World) (hb : Below base w0 w) (hbase : base ≤ w0.heap.size)
    (h : ∀ v' w', OwnI k base e w' v' (l ++ r) → Below base w0 w' → K (a.put o.dst v') w') :
    if Region.wanted o (yielded ops a.tmps) = true then Oper.wp P o a w K Q else E := by
  subst hnl
  have hw : Region.wanted o (yielded ops a.tmps) = true := by simp [Region.wanted, hgd]
  rw [if_pos hw]
  obtain ⟨v', w', hrun, h1, h2⟩ := run_appendI (P := P) (w := w) k base t o.type e bytes ht hi v l ad c r hown hr h63 hbytes w0 hb hbase
  unfold Oper.wp
  simp [execOp, ho, resolve, invoke, builtin, hs, hx, hrun, Result.andThen]
  exact h v' w' h1 h2
end
/-- One number, just laid in memory. -/
theorem laid1 {k : IntKind} (w : World) (t : TypeId) (x : Int) : IntsAt k (w.alloc (.cells #[.int k x] t)) (some ⟨w.heap.size, 0, none⟩) [x] :=
  IRow.ints (t := t) (heap_alloc_new w _)
end Go.Proofs.Ytpamegkbhdbheaa
