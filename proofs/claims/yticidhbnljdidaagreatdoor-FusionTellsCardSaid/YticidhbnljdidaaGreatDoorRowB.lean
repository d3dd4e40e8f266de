/-
 Slices of bools that a call makes: a row that grows by append, by a list, by zeros ('append(l, make([]bool, n)...)'), or is made; what reads there. No function of the program is walked here. No conditions beyond those said.
-/
import Derived.Test.YticidhbnljdidaaGreatDoorJAgg8
import Derived.Lib.AppendZeros
namespace Go.Proofs.YticidhbnljdidaaGreatDoor
set_option maxRecDepth 100000
open Go.ChangeShapes Go.WideShapes Go.ChangeAt Go.RowKit Go.Deep
def cellsB (l : List Bool) : List Value := l.map Value.bool
theorem cellsB_len (l : List Bool) : (cellsB l).length = l.length := by simp [cellsB]
theorem cellsB_get (l : List Bool) (i : Nat) (h : i < l.length) : (cellsB l)[i]? = some (.bool (l.getD i false)) := by
 simp [cellsB,List.getD_eq_getElem?_getD,h]
theorem BoolsAt.source {w : World} {a : Option Addr} {l : List Bool} (h : BoolsAt w a l) (hp : 0 < l.length) :
 ∃ ad,a = some ad ∧ ∀ (j : Nat) (v : Value),(cellsB l)[j]? = some v → w.cell? (ad.add j) = some v := by
 rcases h with rfl | ⟨b,off,rfl,hc⟩
 · simp at hp
 · refine ⟨_,rfl,fun j v hv => ?_⟩
   rw [add_plain]
   by_cases hj : j < l.length
   · rw [cellsB_get l j hj] at hv; cases hv; exact hc j hj
   · rw [List.getElem?_eq_none (by rw [cellsB_len]; omega)] at hv; cases hv
def OwnB (base : Nat) (t : TypeId) (w : World) (v : Value) (l : List Bool) : Prop := w.ownsRow base t 1 v l.length (cellsB l)
section
variable {base : Nat} {t : TypeId} {w w' : World} {v : Value} {l : List Bool}
theorem OwnB.nil : OwnB base t w (.slice none 0 0) [] := World.ownsRow_nil _ _ _ _
theorem OwnB.form (h : OwnB base t w v l) : ∃ a cap,v = .slice a l.length cap ∧ BoolsAt w a l ∧ l.length ≤ cap ∧ cap ≤ maxLen := by
 have hc : ∀ g,v.ownBlock = some g → _ := fun g hg => World.ownsRow.cells h (g := g) hg
 rcases h with ⟨hl,⟨rfl,h0⟩ | ⟨g,cap,cur,rfl,_,_,h1,h2,_⟩⟩
 · rw [h0]; exact ⟨none,0,rfl,Or.inl (List.eq_nil_of_length_eq_zero h0),Nat.le_refl _,Nat.zero_le _⟩
 · refine ⟨_,cap,rfl,Or.inr ⟨g,0,rfl,fun i hi => ?_⟩,h1,h2⟩
   have := hc g rfl i _ (cellsB_get l i hi)
   rw [add_plain] at this; exact this
theorem OwnB.alloc (h : OwnB base t w v l) (o : Obj) : OwnB base t (w.alloc o) v l := World.ownsRow.alloc h o
theorem OwnB.blk (h : OwnB base t w v l) : ∀ j,v.ownBlock = some j → base ≤ j := fun j hj => (World.ownsRow.lt h j hj).1
theorem OwnB.below (h : OwnB base t w v l) (hb : Below w.heap.size w w') : OwnB base t w' v l := by
 rcases h with ⟨hl,h0 | ⟨g,cap,cur,hv,hbg,hh,rest⟩⟩
 · exact ⟨hl,Or.inl h0⟩
 · have hlt : g < w.heap.size := by
    rcases Nat.lt_or_ge g w.heap.size with hlt | hge
    · exact hlt
    · rw [Array.getElem?_eq_none hge] at hh; cases hh
   exact ⟨hl,Or.inr ⟨g,cap,cur,hv,hbg,(hb.block g hlt).trans hh,rest⟩⟩
end
section
variable {P : Program}
end
end Go.Proofs.YticidhbnljdidaaGreatDoor
