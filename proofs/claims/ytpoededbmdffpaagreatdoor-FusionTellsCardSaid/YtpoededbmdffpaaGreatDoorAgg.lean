/-
  Structs and arrays of numbers in a block that is known whole: loaded, stored, handed back by a result's cell. No function of the program is walked here. No conditions.
-/
import Derived.Test.YtpoededbmdffpaaGreatDoorRow
import Derived.Laws.Rows
import Derived.Laws.Tables
import Derived.Laws.World
import Derived.Laws.ResultCell
import Derived.Laws.StructEq
namespace Go.Proofs.YtpoededbmdffpaaGreatDoor
set_option maxRecDepth 100000
open Go.ChangeShapes Go.WideShapes Go.ChangeAt Go.RowKit Go.Deep
theorem OwnI.below {k : IntKind} {base : Nat} {t : TypeId} {w w' : World} {v : Value} {l : List Int} (h : OwnI k base t w v l) (hb : Below w.heap.size w w') : OwnI k base t w' v l := by
  rcases h with ⟨hl, h0 | ⟨g, cap, cur, hv, hbg, hh, rest⟩⟩
  · exact ⟨hl, Or.inl h0⟩
  · have hlt : g < w.heap.size := by
      rcases Nat.lt_or_ge g w.heap.size with hlt | hge
      · exact hlt
      · rw [Array.getElem?_eq_none hge] at hh; cases hh
    exact ⟨hl, Or.inr ⟨g, cap, cur, hv, hbg, (hb.block g hlt).trans hh, rest⟩⟩
theorem grow_from {B : Nat} {a w w' : World} (h : Below B a w) (hb : Below w.heap.size w w') (hB : B ≤ w.heap.size) : Below B a w' := h.trans (hb.mono hB)
namespace Agg
section
variable {P : Program} {w : World} {t tt : TypeId} {k : IntKind} {g : Nat} {l : List Int}
/-- The whole variable out of its block. -/
theorem load_row (hA : (isAgg t).run P w = .ok true w) (hi : (P.info? t).map (·.size) = some l.length) (h : IRow k w g tt l) :
    (loadVar t ⟨g, 0, none⟩).run P w = .ok (.agg (cellsI k l).toArray) w := by
  have h1 := run_loadCells_list (P := P) w ⟨g, 0, none⟩ (cellsI k l) (fun j v hv => by
    rw [add_plain, Nat.zero_add, cell_of_row w g j _ tt (0, 0) h]
    simpa using hv)
  rw [cellsI_len] at h1
  cases hq : P.info? t with
  | none => simp [hq] at hi
  | some i =>
    have hs : i.size = l.length := by simpa [hq] using hi
    simp [loadVar, hA, sizeOf, typeInfo, hq, hs, h1, Result.andThen]
/-- A result that lies in a cell. -/
theorem results_cell {fn : Func} {p : Tmp} {ty : TypeId} (h : fn.results = #[.cell p ty]) (tmps : Array Value) (P : Program) (w : World) :
    (results fn tmps).run P w = ((asAddr (tmps.getD p undef)).run P w).andThen fun a w₁ => (loadVar ty a).run P w₁ := by
  simp only [results, h]
  simp [Sem.run_bind, Result.andThen]
theorem ret_row {fn : Func} {p : Tmp} {ty : TypeId} {tmps : Array Value} (h : fn.results = #[.cell p ty]) (ht : tmps.getD p undef = .pointer (some ⟨g, 0, none⟩)) (hA : (isAgg ty).run P w = .ok true w) (hi : (P.info? ty).map (·.size) = some l.length) (hr : IRow k w g tt l) :
    (results fn tmps).run P w = .ok (.agg (cellsI k l).toArray) w := by
  rw [results_cell h, ht]
  simp only [asAddr, Sem.run_pure, Result.andThen]
  rw [load_row hA hi hr]
/-- Two results, the first of them in a cell. -/
theorem ret_row2 {fn : Func} {p u : Tmp} {ty : TypeId} {tmps : Array Value} (h : fn.results = #[.cell p ty, .tmp u]) (ht : tmps.getD p undef = .pointer (some ⟨g, 0, none⟩)) (hA : (isAgg ty).run P w = .ok true w) (hi : (P.info? ty).map (·.size) = some l.length) (hr : IRow k w g tt l) :
    (results fn tmps).run P w = .ok (.tuple #[.agg (cellsI k l).toArray, tmps.getD u undef]) w := by
  rw [results_cell_tmp h, ht]
  simp only [asAddr, Sem.run_pure, Result.andThen]
  rw [load_row hA hi hr]
end
/-- '==' of two arrays of numbers. -/
theorem all_range_ints : ∀ (xs ys : List Int), xs.length = ys.length → ((List.range xs.length).all fun i => xs.getD i 0 == ys.getD i 0) = (xs == ys)
  | [], [], _ => rfl
  | x :: xs, y :: ys, h => by
    have ih := all_range_ints xs ys (by simpa using h)
    rw [List.length_cons, List.range_succ_eq_map, List.all_cons, List.all_map]
    simp only [List.getD_cons_zero, Function.comp_def, List.getD_cons_succ, ih]
    simp [List.cons_beq_cons]
  | [], _ :: _, h => by simp at h
  | _ :: _, [], h => by simp at h
theorem run_equalIn_ints {P : Program} (w : World) (d : Nat) (t e : TypeId) (n : Nat) (k : IntKind) (ht : P.underlying t = some (.array n e)) (he : P.underlying e = some (.int k)) (hsz : ∀ w, (sizeOf e).run P w = .ok 1 w)
    (xs ys : List Int) (hx : xs.length = n) (hy : ys.length = n) :
    (Op.equalIn (d + 2) t (.agg (xs.map (.int k)).toArray) (.agg (ys.map (.int k)).toArray)).run P w = .ok (xs == ys) w := by
  rw [← all_range_ints xs ys (hx.trans hy.symm), hx, List.range_eq_range', Op.equalIn]
  simp only [Sem.run_bind, run_underlying ht, Result.andThen_ok, hsz, Std.Legacy.Range.forIn_eq_forIn_range', Std.Legacy.Range.size, Nat.sub_zero, Nat.add_sub_cancel, Nat.div_one]
  have hl : ∀ i ∈ List.range' 0 n 1, i < n := fun i hi => by simpa using (List.mem_range'_1.1 hi).2
  generalize List.range' 0 n 1 = l at hl ⊢
  induction l with
  | nil => simp
  | cons i l ih =>
    have hi : i < n := hl i (by simp)
    have px : (part e (xs.map (.int k)).toArray (i * 1)).run P w = .ok (.int k (xs.getD i 0)) w := by
      simp [part, isAgg, run_underlying he, List.getD, List.getElem?_eq_getElem (show i < xs.length by omega)]
    have py : (part e (ys.map (.int k)).toArray (i * 1)).run P w = .ok (.int k (ys.getD i 0)) w := by
      simp [part, isAgg, run_underlying he, List.getD, List.getElem?_eq_getElem (show i < ys.length by omega)]
    have pe : (Op.equalIn (d + 1) e (.int k (xs.getD i 0)) (.int k (ys.getD i 0))).run P w = .ok (xs.getD i 0 == ys.getD i 0) w := run_equalIn_int w d e k k _ _ he
    simp only [List.forIn_cons, Sem.run_bind, px, py, pe, Result.andThen_ok, List.all_cons]
    cases hb : (xs.getD i 0 == ys.getD i 0)
    · simp
    · simp only [Bool.not_true, Bool.false_eq_true, if_false, Sem.run_pure, Result.andThen_ok, Bool.true_and]
      exact ih fun j hj => hl j (by simp [hj])
end Agg
end Go.Proofs.YtpoededbmdffpaaGreatDoor
