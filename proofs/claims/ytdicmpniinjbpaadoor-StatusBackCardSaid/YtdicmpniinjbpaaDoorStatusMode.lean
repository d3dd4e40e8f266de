/-
  What Mode of package status, and that of rudderref16, tell: contracts by walking the Go text. Condition: the table of modes lies in memory as the text lays it.
-/
import Derived.Test.YtdicmpniinjbpaaDoorStatusWord
namespace Go.Proofs.YtdicmpniinjbpaaDoor
open Go.ChangeShapes Go.WideShapes Go.ChangeAt Go.RowKit Go.Deep
namespace Ss
open Fx

/-- The table of modes, where it lies. -/
def TabAt (w : World) : Prop := ∀ i, i < 5 → w.cell? ⟨0, i, none⟩ = some (.string ⟨(nm i).toArray⟩)
theorem TabAt.below {w w' : World} (h : TabAt w) (hb : Below w.heap.size w w') : TabAt w' := fun i hi => (hb.cell (p := ⟨_, i, none⟩) (cell_lt (h i hi))).trans (h i hi)
theorem mds_no {s : St} (h : rgt s = false) : mds s = [] := by unfold mds; rw [h]; rfl
theorem mds_yes {s : St} (h : rgt s = true) : mds s = md s.i := by unfold mds; rw [h]; rfl

set_option maxHeartbeats 800000 in
theorem mode_any (s : St) (w : World) (hT : TabAt w) :
    Calls Tryd.prog 12 #[stv s] w fun e w' => e = .returned (.string ⟨(mds s).toArray⟩) ∧ Below w.heap.size w w' := by
  have C := fun W => right_any s W
  have V := Lib.hid (box_new w s 23)
  have B0 := Lib.hid ((Below.refl w.heap.size w).alloc (Nat.le_refl _) (.cells #[.int .i64 s.i, .int .i64 s.l, .int .i64 s.s, .bool s.f] 23))
  cases h : rgt s
  · rw [mds_no h]
    rw [h] at C
    clear h
    unfold stv at *
    go_enter Tryd.func12, Tryd.ntmps12
    go_wp2_with (go_at_call 10; refine (C _).mono ?_; rintro e w1 ⟨rfl, b1⟩; have B1 := Lib.hid (grow B0.out b1); clear b1)
    go_ret
    exact ⟨rfl, B1.out⟩
  · rw [mds_yes h]
    have CC := fun W => count_any s.i W
    obtain ⟨k, hk, ek, em⟩ := md_cases (rgt_bd h).1
    rw [ek] at CC
    rw [h] at C
    rw [em]
    have HT := Lib.hid hT
    clear h hT ek em
    unfold stv at *
    have hki : k ∈ [0, 1, 2, 3, 4] := by simp; omega
    simp only [List.mem_cons, List.mem_nil_iff, or_false] at hki
    rcases hki with rfl | rfl | rfl | rfl | rfl
    all_goals
      go_enter Tryd.func12, Tryd.ntmps12
      go_wp2_with (first | (go_at_call 10; refine (C _).mono ?_; rintro e w1 ⟨rfl, b1⟩; have B1 := Lib.hid (grow B0.out b1); have V1 := Lib.hid (onB V.out b1); obtain ⟨c0, c1, c2, c3⟩ := st_cells V1.out; have T1 := (HT.out.below B1.out) _ hk; clear b1) | (go_at_call 17; refine (CC _).mono ?_; rintro e w2 ⟨rfl, rfl⟩))
      go_ret
      exact ⟨rfl, B1.out⟩

set_option maxHeartbeats 800000 in
theorem rmode_any (s : St) (w : World) :
    Calls Tryd.prog 13 #[stv s] w fun e w' => e = .returned (.string ⟨(mds s).toArray⟩) ∧ Below w.heap.size w w' := by
  have C := fun W => rright_any s W
  have V := Lib.hid (box_new w s 23)
  have B0 := Lib.hid ((Below.refl w.heap.size w).alloc (Nat.le_refl _) (.cells #[.int .i64 s.i, .int .i64 s.l, .int .i64 s.s, .bool s.f] 23))
  cases h : rgt s
  · rw [mds_no h]
    rw [h] at C
    clear h
    unfold stv at *
    go_enter Tryd.func13, Tryd.ntmps13
    go_wp2_with (go_at_call 11; refine (C _).mono ?_; rintro e w1 ⟨rfl, b1⟩; have B1 := Lib.hid (grow B0.out b1); clear b1)
    go_ret
    exact ⟨rfl, B1.out⟩
  · rw [mds_yes h]
    have CC := fun W => rcount_any s.i W
    obtain ⟨k, hk, ek, em⟩ := md_cases (rgt_bd h).1
    rw [ek] at CC
    rw [h] at C
    rw [em]
    clear h ek em
    unfold stv at *
    have hki : k ∈ [0, 1, 2, 3, 4] := by simp; omega
    simp only [List.mem_cons, List.mem_nil_iff, or_false] at hki
    rcases hki with rfl | rfl | rfl | rfl | rfl
    all_goals
      go_enter Tryd.func13, Tryd.ntmps13
      go_wp2_with (first | (go_at_call 11; refine (C _).mono ?_; rintro e w1 ⟨rfl, b1⟩; have B1 := Lib.hid (grow B0.out b1); have V1 := Lib.hid (onB V.out b1); obtain ⟨c0, c1, c2, c3⟩ := st_cells V1.out; clear b1) | (go_at_call 22; refine (CC _).mono ?_; rintro e w2 ⟨rfl, rfl⟩))
      go_ret
      exact ⟨rfl, B1.out⟩
end Ss
end Go.Proofs.YtdicmpniinjbpaaDoor
