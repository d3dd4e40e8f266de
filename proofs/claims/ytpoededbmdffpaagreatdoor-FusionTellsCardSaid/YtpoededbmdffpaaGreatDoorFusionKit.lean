/-
  Rows of bools that are filled one by one; the signals' pointers as an array by value. No function of the program is walked here. No conditions.
-/
import Derived.Test.YtpoededbmdffpaaGreatDoorFusionLie
import Derived.Test.YtpoededbmdffpaaGreatDoorOutputMem
import Derived.Great.Walk
namespace Go.Proofs.YtpoededbmdffpaaGreatDoor
set_option maxRecDepth 100000
open Go.ChangeShapes Go.WideShapes Go.ChangeAt Go.RowKit Go.Deep
namespace Fu
open Cf (G)
open Sg (NN Si Face)
theorem onB {w w' : World} {g : Nat} {t : TypeId} {cs : List Value} (h : VRow w g t cs) (b : Below w.heap.size w w') : VRow w' g t cs := h.below b h.lt
theorem bools_row {w : World} {g : Nat} {t : TypeId} {l : List Bool} (h : VRow w g t (l.map Value.bool)) : BoolsAt w (some ⟨g, 0, none⟩) l :=
  Or.inr ⟨g, 0, rfl, fun i hi => by
    have := h.cell i (v := .bool (l.getD i false)) (by simp [List.getD_eq_getElem?_getD, hi])
    rw [Nat.zero_add]; exact this⟩
/-- A row of n, the first k of which are told. -/
def fillB (f : Nat → Bool) (n k : Nat) : List Bool := (List.range n).map fun j => decide (j < k) && f j
theorem fillB_len (f : Nat → Bool) (n k : Nat) : (fillB f n k).length = n := by unfold fillB; simp
theorem fillB_all (f : Nat → Bool) (n : Nat) : fillB f n n = (List.range n).map f := by
  unfold fillB
  refine List.map_congr_left fun j hj => ?_
  rw [decide_eq_true (List.mem_range.1 hj)]; rfl
theorem fillB_next (f : Nat → Bool) (n k : Nat) : (fillB f n k).set k (f k) = fillB f n (k + 1) := by
  unfold fillB
  refine List.ext_getElem (by simp) fun i h1 h2 => ?_
  rw [List.getElem_set]
  simp only [List.getElem_map, List.getElem_range]
  split
  · rename_i e
    subst e
    rw [decide_eq_true (Nat.lt_succ_self k)]; rfl
  · rename_i e
    have : decide (i < k) = decide (i < k + 1) := decide_eq_decide.2 (by omega)
    rw [this]
section
variable {W W' : World} {g : Nat} {t : TypeId} {f : Nat → Bool} {n k : Nat}
theorem row_next (h : VRow W g t ((fillB f n k).map Value.bool)) : VRow (W.setCell ⟨g, k, none⟩ (.bool (f k))) g t ((fillB f n (k + 1)).map Value.bool) := by
  have := h.set k (.bool (f k))
  rw [← List.map_set, fillB_next f n k] at this
  exact this
theorem row_cell (h : VRow W g t ((fillB f n k).map Value.bool)) (hk : k < n) : ∃ b, W.cell? ⟨g, k, none⟩ = some (.bool b) :=
  ⟨(fillB f n k).getD k false, h.cell k (by rw [List.getElem?_map, List.getElem?_eq_getElem (by rw [fillB_len]; exact hk), List.getD_eq_getElem?_getD, List.getElem?_eq_getElem (by rw [fillB_len]; exact hk)]; rfl)⟩
end
/-- A variable of whatever type is made: the block's cells said by the caller. -/
theorem wpList_lay {P : Program} {ops : Array Oper} {rest : List Oper} {o : Oper} {a : Act} {w : World} {Q : Exit → Act → World → Prop} (hg : o.guard = none) (t : TypeId) (ho : o.op = .alloc t) (cs : List Value)
    (hr : ∀ W : World, (execOp a.eval { o with op := .alloc t }).run P W = .ok (.value (.pointer (some ⟨W.heap.size, 0, none⟩))) (W.alloc (.cells cs.toArray t)))
    (h : wpList P ops Q rest (a.put o.dst (.pointer (some ⟨w.heap.size, 0, none⟩))) (w.alloc (.cells cs.toArray t))) : wpList P ops Q (o :: rest) a w := by
  refine Go.Great.wpList_allocTo hg o.dst rfl _ _ ?_ h
  have := hr w
  rw [← ho] at this
  exact this
/-! The pointers of all signals. -/
def gs (P : Pl) : List Value := [ptr (P.g 0), ptr (P.g 1), ptr (P.g 2), ptr (P.g 3), ptr (P.g 4), ptr (P.g 5), ptr (P.g 6), ptr (P.g 7)]
theorem eight {j : Nat} (h : j < 8) : j = 0 ∨ j = 1 ∨ j = 2 ∨ j = 3 ∨ j = 4 ∨ j = 5 ∨ j = 6 ∨ j = 7 := by omega
theorem gs_get (P : Pl) {j : Nat} (h : j < 8) : (gs P)[j]? = some (ptr (P.g j)) := by
  rcases eight h with rfl | rfl | rfl | rfl | rfl | rfl | rfl | rfl <;> rfl
theorem fcs_g (P : Pl) (c : List Int) (k : Nat) {j : Nat} (h : j < 8) : (fcs P c k)[2 + j]? = some (ptr (P.g j)) := by
  rcases eight h with rfl | rfl | rfl | rfl | rfl | rfl | rfl | rfl <;> rfl
theorem range_g {F : Face} {W : World} {P : Pl} {c : List Int} {m : Fs} (L : Lie F W P c m) : W.rangeAt P.f 2 (gs P) := fun j v hv => by
  have hj : j < 8 := (List.getElem?_eq_some_iff.1 hv).1
  rw [gs_get P hj] at hv
  cases hv
  exact L.fus.cell (2 + j) (fcs_g P c m.k hj)
theorem sizeG (P : Pl) : (Tryz.prog.info? 91).map (·.size) = some (gs P).length := by
  rw [show (gs P).length = 8 from rfl]; kernel_rfl
theorem sizeP (w : World) : (sizeOf 90).run Tryz.prog w = .ok 1 w := by kernel_rfl
theorem index_g (P : Pl) {j : Nat} (h : j < 8) (w : World) : (Instr.index 91 (.agg (gs P).toArray) (.int .i64 (j : Int))).run Tryz.prog w = .ok (ptr (P.g j)) w := by
  refine Ot.run_index Tryz.underlying91 _ j h 1 _ (sizeP w) ?_
  have := gs_get P h
  simp [part, isAgg, run_underlying Tryz.underlying90, this]
end Fu
end Go.Proofs.YtpoededbmdffpaaGreatDoor
