/-
  What New, Last and Counts of package fresh do: their contracts by walking the Go text. Conditions: where the track lies.
-/
import Derived.Test.YtngdaogcmgmmeaaFreshTake
namespace Go.Proofs.Ytngdaogcmgmmeaa
open Go.ChangeShapes Go.WideShapes Go.ChangeAt Go.RowKit Go.Deep
namespace Fh
open Wd Fm
open Cr (Bytes)

theorem agg7 (w : World) : (isAgg 42).run Try.prog w = .ok true w := by simp [isAgg, run_underlying Try.underlying42]
theorem size7 : (Try.prog.info? 42).map (·.size) = some 7 := by kernel_rfl
theorem seven (l : List Int) (h : l.length = 7) : ∃ n0 n1 n2 n3 n4 n5 n6, l = [n0, n1, n2, n3, n4, n5, n6] := by
  match l, h with
  | [n0, n1, n2, n3, n4, n5, n6], _ => exact ⟨n0, n1, n2, n3, n4, n5, n6, rfl⟩

theorem new_yes (c : Int) (w : World) (h : 0 ≤ c ∧ c ≤ 3) :
    Calls Try.prog 7 #[.int .i64 c] w fun e w' => e = .returned (.tuple #[.pointer (some ⟨w.heap.size, 0, none⟩), .int .i64 0]) ∧ w' = w.alloc (.cells (trk c 0 false [0, 0, 0, 0, 0, 0, 0]).toArray 52) := by
  obtain ⟨h1, h2⟩ := h
  have h3 : ¬ 4 ≤ c := by omega
  have h4 : ¬ c < 0 := by omega
  go_enter Try.func7, Try.ntmps7
  go_wp2
  go_ret2
  exact ⟨rfl, rfl⟩
theorem new_no (c : Int) (w : World) (h : ¬ (0 ≤ c ∧ c ≤ 3)) :
    Calls Try.prog 7 #[.int .i64 c] w fun e w' => e = .returned (.tuple #[.pointer none, .int .i64 1]) ∧ w = w' := by
  by_cases h1 : c < 0
  · go_enter Try.func7, Try.ntmps7
    go_wp2
    go_ret2
    exact ⟨rfl, rfl⟩
  · have h2 : 4 ≤ c := by omega
    clear h
    go_enter Try.func7, Try.ntmps7
    go_wp2
    go_ret2
    exact ⟨rfl, rfl⟩
theorem last_nil (w : World) :
    Calls Try.prog 11 #[.pointer none] w fun e w' => e = .returned (.tuple #[.int .i64 0, .bool false]) ∧ w = w' := by
  go_enter Try.func11, Try.ntmps11
  go_wp2
  go_ret2
  exact ⟨rfl, rfl⟩
theorem counts_nil (w : World) :
    Calls Try.prog 12 #[.pointer none] w fun e w' => e = .returned (.agg #[.int .i64 0, .int .i64 0, .int .i64 0, .int .i64 0, .int .i64 0, .int .i64 0, .int .i64 0]) ∧ Below w.heap.size w w' := by
  go_enter Try.func12, Try.ntmps12
  go_wp2
  refine bodyPost_ret (v := .agg #[.int .i64 0, .int .i64 0, .int .i64 0, .int .i64 0, .int .i64 0, .int .i64 0, .int .i64 0]) ?_ rfl ⟨rfl, (Below.refl _ _).alloc (Nat.le_refl _) _⟩
  exact (Agg.ret_row (l := [0, 0, 0, 0, 0, 0, 0]) rfl rfl (agg7 _) size7 (heap_alloc_new w _)).trans rfl

section
variable (g : Nat) (c last : Int) (has : Bool) (n : List Int) (w : World)
theorem last_any (hT : VRow w g 52 (trk c last has n)) :
    Calls Try.prog 11 #[.pointer (some ⟨g, 0, none⟩)] w fun e w' => e = .returned (.tuple #[.int .i64 last, .bool has]) ∧ Below w.heap.size w w' := by
  have c1 := hT.cell 1 (v := .int .i64 last) rfl
  have c2 := hT.cell 2 (v := .bool has) rfl
  clear hT
  go_enter Try.func11, Try.ntmps11
  go_wp2_with fail
  go_quiet (fail)
  go_wp2
  go_ret2
  exact ⟨rfl, below_drewN (Below.refl _ _) _⟩
theorem counts_any (hT : VRow w g 52 (trk c last has n)) (hn : n.length = 7) :
    Calls Try.prog 12 #[.pointer (some ⟨g, 0, none⟩)] w fun e w' => e = .returned (.agg (cellsI .i64 n).toArray) ∧ Below w.heap.size w w' := by
  obtain ⟨n0, n1, n2, n3, n4, n5, n6, rfl⟩ := seven n hn
  have hT1 := hT.alloc (.cells #[.int .i64 0, .int .i64 0, .int .i64 0, .int .i64 0, .int .i64 0, .int .i64 0, .int .i64 0] 42)
  have c3 := hT1.cell 3 (v := .int .i64 n0) rfl
  have c4 := hT1.cell 4 (v := .int .i64 n1) rfl
  have c5 := hT1.cell 5 (v := .int .i64 n2) rfl
  have c6 := hT1.cell 6 (v := .int .i64 n3) rfl
  have c7 := hT1.cell 7 (v := .int .i64 n4) rfl
  have c8 := hT1.cell 8 (v := .int .i64 n5) rfl
  have c9 := hT1.cell 9 (v := .int .i64 n6) rfl
  have hg := hT.lt
  have ne : g ≠ w.heap.size := by omega
  have ne' : w.heap.size ≠ g := by omega
  clear hT hT1 hn hg
  go_enter Try.func12, Try.ntmps12
  go_wp2
  refine bodyPost_ret (v := .agg #[.int .i64 n0, .int .i64 n1, .int .i64 n2, .int .i64 n3, .int .i64 n4, .int .i64 n5, .int .i64 n6]) ?_ rfl ⟨rfl, (Below.refl _ _).alloc (Nat.le_refl _) _⟩
  exact (Agg.ret_row (l := [n0, n1, n2, n3, n4, n5, n6]) rfl rfl (agg7 _) size7 (heap_alloc_new w _)).trans rfl
end
end Fh
end Go.Proofs.Ytngdaogcmgmmeaa
