/-
  What New, Last and Counts of package fresh do: their contracts by walking the Go text. Conditions: where the track lies.
-/
import Derived.Test.YtpoededbmdffpaaGreatDoorFreshTake
namespace Go.Proofs.YtpoededbmdffpaaGreatDoor
set_option maxRecDepth 100000
open Go.ChangeShapes Go.WideShapes Go.ChangeAt Go.RowKit Go.Deep
namespace Fh
open Wd Fm
open Cr (Bytes)
theorem agg7 (w : World) : (isAgg 61).run Tryz.prog w = .ok true w := by simp [isAgg, run_underlying Tryz.underlying61]
theorem size7 : (Tryz.prog.info? 61).map (·.size) = some 7 := by kernel_rfl
theorem seven (l : List Int) (h : l.length = 7) : ∃ n0 n1 n2 n3 n4 n5 n6, l = [n0, n1, n2, n3, n4, n5, n6] := by
  match l, h with
  | [n0, n1, n2, n3, n4, n5, n6], _ => exact ⟨n0, n1, n2, n3, n4, n5, n6, rfl⟩
theorem new_yes (c : Int) (w : World) (h : 0 ≤ c ∧ c ≤ 3) :
    Calls Tryz.prog 33 #[.int .i64 c] w fun e w' => e = .returned (.tuple #[.pointer (some ⟨w.heap.size, 0, none⟩), .int .i64 0]) ∧ w' = w.alloc (.cells (trk c 0 false [0, 0, 0, 0, 0, 0, 0]).toArray 170) := by
  obtain ⟨h1, h2⟩ := h
  have h3 : ¬ 4 ≤ c := by omega
  have h4 : ¬ c < 0 := by omega
  go_enter Tryz.func33, Tryz.ntmps33
  go_wp2
  go_ret2
  exact ⟨rfl, rfl⟩
theorem new_no (c : Int) (w : World) (h : ¬ (0 ≤ c ∧ c ≤ 3)) :
    Calls Tryz.prog 33 #[.int .i64 c] w fun e w' => e = .returned (.tuple #[.pointer none, .int .i64 1]) ∧ w = w' := by
  by_cases h1 : c < 0
  · go_enter Tryz.func33, Tryz.ntmps33
    go_wp2
    go_ret2
    exact ⟨rfl, rfl⟩
  · have h2 : 4 ≤ c := by omega
    clear h
    go_enter Tryz.func33, Tryz.ntmps33
    go_wp2
    go_ret2
    exact ⟨rfl, rfl⟩
section
variable (g : Nat) (c last : Int) (has : Bool) (n : List Int) (w : World)
theorem counts_any (hT : VRow w g 170 (trk c last has n)) (hn : n.length = 7) :
    Calls Tryz.prog 63 #[.pointer (some ⟨g, 0, none⟩)] w fun e w' => e = .returned (.agg (cellsI .i64 n).toArray) ∧ Below w.heap.size w w' := by
  obtain ⟨n0, n1, n2, n3, n4, n5, n6, rfl⟩ := seven n hn
  have hT1 := hT.alloc (.cells #[.int .i64 0, .int .i64 0, .int .i64 0, .int .i64 0, .int .i64 0, .int .i64 0, .int .i64 0] 61)
  have c3 := hT1.cell 3 (v := .int .i64 n0) rfl
  have c4 := hT1.cell 4 (v := .int .i64 n1) rfl
  have c5 := hT1.cell 5 (v := .int .i64 n2) rfl
  have c6 := hT1.cell 6 (v := .int .i64 n3) rfl
  have c7 := hT1.cell 7 (v := .int .i64 n4) rfl
  have c8 := hT1.cell 8 (v := .int .i64 n5) rfl
  have c9 := hT1.cell 9 (v := .int .i64 n6) rfl
  have hg := hT.lt
  have ne : g ≠ w.heap.size := by omega
  have ne' : w.heap.size ≠ g := by omega
  clear hT hT1 hn hg
  go_enter Tryz.func63, Tryz.ntmps63
  go_wp2
  refine bodyPost_ret (v := .agg #[.int .i64 n0, .int .i64 n1, .int .i64 n2, .int .i64 n3, .int .i64 n4, .int .i64 n5, .int .i64 n6]) ?_ rfl ⟨rfl, (Below.refl _ _).alloc (Nat.le_refl _) _⟩
  exact (Agg.ret_row (l := [n0, n1, n2, n3, n4, n5, n6]) rfl rfl (agg7 _) size7 (heap_alloc_new w _)).trans rfl
end
end Fh
end Go.Proofs.YtpoededbmdffpaaGreatDoor
