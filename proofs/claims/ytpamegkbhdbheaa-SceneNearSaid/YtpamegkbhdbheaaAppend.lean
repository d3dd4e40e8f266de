/-
  append of a whole list of numbers onto a row that the call itself made, in a plain region and in one that draws its order. No function of the program is walked here. No conditions.
-/
import Derived.Test.YtpamegkbhdbheaaRow
import Derived.Deep.RegionLaw
namespace Go.Proofs.Ytpamegkbhdbheaa
set_option maxRecDepth 100000
open Go.ChangeShapes Go.WideShapes Go.ChangeAt Go.RowKit Go.Deep

section
variable {k : IntKind} {base : Nat} {t : TypeId} {w w' : World} {v : Value} {l : List Int}
theorem OwnI.form2 (h : OwnI k base t w v l) : ∃ a cap, v = .slice a l.length cap ∧ IntsAt k w a l ∧ l.length ≤ cap ∧ cap ≤ maxLen := by
  obtain ⟨a, cap, rfl, hi⟩ := h.form
  refine ⟨a, cap, rfl, hi, ?_⟩
  rcases h with ⟨_, ⟨h0, h1⟩ | ⟨g, cap', cur, hv, _, _, hc, hm, _⟩⟩
  · injection h0 with _ _ h3; omega
  · injection hv with _ _ h3; omega
theorem OwnI.lit0 {te : TypeId} (hb : base ≤ w.heap.size) : OwnI k base te (w.alloc (.cells #[] te)) (.slice (some ⟨w.heap.size, 0, none⟩) 0 0) [] :=
  World.ownsRow_lit w #[] 0 hb (by simp) rfl
/-- A row of the call's own that holds something: where it lies, what is read there, what is stored there. -/
theorem OwnI.row (h : OwnI k base t w v l) (hp : 0 < l.length) : ∃ g cap, v = .slice (some ⟨g, 0, none⟩) l.length cap ∧ base ≤ g ∧ l.length ≤ cap ∧ g < w.heap.size := by
  rcases h with ⟨_, ⟨_, h1⟩ | ⟨g, cap, cur, hv, hb, hh, hc, _⟩⟩
  · omega
  · refine ⟨g, cap, hv, hb, hc, ?_⟩
    rcases Nat.lt_or_ge g w.heap.size with hlt | hge
    · exact hlt
    · rw [Array.getElem?_eq_none hge] at hh; cases hh
theorem OwnI.cell {g cap : Nat} (h : OwnI k base t w (.slice (some ⟨g, 0, none⟩) l.length cap) l) (j : Nat) (hj : j < l.length) : w.cell? ⟨g, j, none⟩ = some (.int k (l.getD j 0)) := by
  rw [World.ownsRow.cellAt h j (by omega)]; exact cellsI_get k l j hj
theorem OwnI.frozen {g cap : Nat} (h : OwnI k base t w (.slice (some ⟨g, 0, none⟩) l.length cap) l) (j : Nat) : w.frozen? ⟨g, j, none⟩ = false := World.ownsRow.frozenAt h j
theorem OwnI.stored {g cap : Nat} (h : OwnI k base t w (.slice (some ⟨g, 0, none⟩) l.length cap) l) (j : Nat) (x : Int) : OwnI k base t (w.setCell ⟨g, j, none⟩ (.int k x)) (.slice (some ⟨g, 0, none⟩) l.length cap) (l.set j x) := by
  have := (World.ownsRow.stored h j (.int k x)).1
  unfold OwnI; rw [cellsI_set, List.length_set]; exact this
theorem OwnI.drew (h : OwnI k base t w v l) : OwnI k base t w.drew v l := h
end

section
variable {P : Program}
theorem run_appendI {w : World} (k : IntKind) (base : Nat) (t ty e : TypeId) (bytes : Nat) (ht : P.underlying t = some (.slice e)) (hi : (P.info? e).map (fun i => (i.zero, i.size, i.bytes)) = some (some (.int k 0), 1, bytes))
    (v : Value) (l : List Int) (a : Option Addr) (c : Nat) (r : List Int) (hown : OwnI k base e w v l) (hr : IntsAt k w a r)
    (h63 : l.length + r.length ≤ maxLen) (hbytes : (l.length + r.length) * bytes ≤ 140737488355328) (w0 : World) (hb : Below base w0 w) (hbase : base ≤ w0.heap.size) :
    ∃ v' w', (Builtin.append_ #[t, t] ty #[v, .slice a r.length c]).run P w = .ok v' w' ∧ OwnI k base e w' v' (l ++ r) ∧ Below base w0 w' := by
  obtain ⟨i0, hi0, hz0, hz1, hz2⟩ := info_parts hi
  have hsz := hb.size
  rcases a with _ | ad
  · have h0 : r = [] := by
      rcases hr with h0 | ⟨_, _, h0, _⟩
      · exact h0
      · cases h0
    subst h0
    refine ⟨v, w, ?_, by rw [List.append_nil]; exact hown, hb⟩
    rcases hown.2 with ⟨rfl, h0⟩ | ⟨g, cap, cur, rfl, _, _, hnc, _⟩
    · simp [Builtin.append_, run_underlying ht, sizeOf, typeInfo, hi0, Builtin.lenOf, Builtin.firstCells]
    · simp [Builtin.append_, run_underlying ht, sizeOf, typeInfo, hi0, Builtin.lenOf, Builtin.firstCells, hnc, storeCells]
  · have hcells : ∀ j u, (cellsI k r)[j]? = some u → w.cell? (ad.add j) = some u := by
      intro j u hj
      rcases Nat.eq_zero_or_pos r.length with h0 | h0
      · rw [List.eq_nil_of_length_eq_zero h0] at hj; simp [cellsI] at hj
      · obtain ⟨ad', he, hc⟩ := hr.source h0
        injection he with he; subst he
        exact hc j u hj
    obtain ⟨v', w', h1, h2, h3, _⟩ := run_append_own (P := P) (w := w) base t ty e i0 _ 1 bytes ht hi0 hz0 hz1 hz2 rfl (by omega) v l.length (cellsI k l) hown ad r.length c (cellsI k r) (by rw [cellsI_len]; omega) hcells (cellsI_one k r) h63 hbytes (by omega)
    refine ⟨v', w', h1, ?_, hb.grown h3 (by omega) (fun j hj => hown.blk j hj)⟩
    unfold OwnI; rw [cellsI_app, List.length_append]; exact h2

theorem wpList_appendI {w : World} {ops : Array Oper} {rest : List Oper} {o : Oper} {a : Act} {Q : Exit → Act → World → Prop} (hgd : o.guard = none) (s x : Operand) (t : TypeId)
    (ho : o.op = .call { callee := .builtin .append, args := #[s, x], argTypes := #[t, t] })
    (k : IntKind) (base : Nat) (e : TypeId) (bytes : Nat) (ht : P.underlying t = some (.slice e)) (hi : (P.info? e).map (fun i => (i.zero, i.size, i.bytes)) = some (some (.int k 0), 1, bytes))
    (v : Value) (l : List Int) (ad : Option Addr) (n c : Nat) (r : List Int) (hs : a.eval s = v) (hx : a.eval x = .slice ad n c) (hnl : r.length = n) (hown : OwnI k base e w v l) (hr : IntsAt k w ad r)
    (h63 : l.length + r.length ≤ maxLen) (hbytes : (l.length + r.length) * bytes ≤ 140737488355328) (w0 : World) (hb : Below base w0 w) (hbase : base ≤ w0.heap.size)
    (h : ∀ v' w', OwnI k base e w' v' (l ++ r) → Below base w0 w' → wpList P ops Q rest (a.put o.dst v') w') : wpList P ops Q (o :: rest) a w := by
  subst hnl
  refine wpList_plain hgd fun K hK => ?_
  obtain ⟨v', w', hrun, h1, h2⟩ := run_appendI (P := P) (w := w) k base t o.type e bytes ht hi v l ad c r hown hr h63 hbytes w0 hb hbase
  unfold Oper.wp
  simp [execOp, ho, resolve, invoke, builtin, hs, hx, hrun, Result.andThen]
  exact hK _ _ (h v' w' h1 h2)

theorem step_appendI {ops : Array Oper} {o : Oper} {a : Act} {w : World} {K : Act → World → Prop} {Q : Exit → Act → World → Prop} {E : Prop} (hgd : o.guard = none) (s x : Operand) (t : TypeId)
    (ho : o.op = .call { callee := .builtin .append, args := #[s, x], argTypes := #[t, t] })
    (k : IntKind) (base : Nat) (e : TypeId) (bytes : Nat) (ht : P.underlying t = some (.slice e)) (hi : (P.info? e).map (fun i => (i.zero, i.size, i.bytes)) = some (some (.int k 0), 1, bytes))
    (v : Value) (l : List Int) (ad : Option Addr) (n c : Nat) (r : List Int) (hs : a.eval s = v) (hx : a.eval x = .slice ad n c) (hnl : r.length = n) (hown : OwnI k base e w v l) (hr : IntsAt k w ad r)
    (h63 : l.length + r.length ≤ maxLen) (hbytes : (l.length + r.length) * bytes ≤ 140737488355328) (w0 : World) (hb : Below base w0 w) (hbase : base ≤ w0.heap.size)
    (h : ∀ v' w', OwnI k base e w' v' (l ++ r) → Below base w0 w' → K (a.put o.dst v') w') :
    if Region.wanted o (yielded ops a.tmps) = true then Oper.wp P o a w K Q else E := by
  subst hnl
  have hw : Region.wanted o (yielded ops a.tmps) = true := by simp [Region.wanted, hgd]
  rw [if_pos hw]
  obtain ⟨v', w', hrun, h1, h2⟩ := run_appendI (P := P) (w := w) k base t o.type e bytes ht hi v l ad c r hown hr h63 hbytes w0 hb hbase
  unfold Oper.wp
  simp [execOp, ho, resolve, invoke, builtin, hs, hx, hrun, Result.andThen]
  exact h v' w' h1 h2
end
/-- One number, just laid in memory. -/
theorem laid1 {k : IntKind} (w : World) (t : TypeId) (x : Int) : IntsAt k (w.alloc (.cells #[.int k x] t)) (some ⟨w.heap.size, 0, none⟩) [x] :=
  IRow.ints (t := t) (heap_alloc_new w _)
end Go.Proofs.Ytpamegkbhdbheaa
