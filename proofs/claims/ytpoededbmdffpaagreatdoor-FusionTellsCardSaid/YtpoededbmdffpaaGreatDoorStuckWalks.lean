/-
  What the small calls of package stuck do: their contracts by walking the Go text. Conditions: where the room and the watch lie.
-/
import Derived.Test.YtpoededbmdffpaaGreatDoorStuckMath
import Derived.Test.YtpoededbmdffpaaGreatDoorBlk
import Derived.Test.YtpoededbmdffpaaGreatDoorTail
import Derived.RegionTactic
import Derived.StillTailTactics
import Derived.BigQuiet
import Derived.ProofKit
import Derived.Handy
namespace Go.Proofs.YtpoededbmdffpaaGreatDoor
set_option maxRecDepth 100000
open Go.ChangeShapes Go.WideShapes Go.ChangeAt Go.RowKit Go.Deep
namespace Sk
open Fx (ret_bool)
open Jp (val)
theorem value_any (n : Int) (w : World) :
    Calls Tryz.prog 195 #[.int .i64 n] w fun e w' => e = .returned (.bool (val n)) ∧ w = w' := by
  have HF := Lib.hid (show val n = (decide (-2147483648 ≤ n) && decide (n ≤ 2147483647)) from rfl)
  by_cases h1 : -2147483648 ≤ n
  · rw [show decide (-2147483648 ≤ n) = true by simpa using h1, Bool.true_and] at HF
    go_enter Tryz.func195, Tryz.ntmps195
    go_wp2
    go_ret
    exact ⟨ret_bool HF.out.symm, rfl⟩
  · have d1 : decide (-2147483648 ≤ n) = false := by simpa using h1
    rw [d1, Bool.false_and] at HF
    go_enter Tryz.func195, Tryz.ntmps195
    go_wp2
    go_ret
    exact ⟨ret_bool HF.out.symm, rfl⟩
/-- A room, as it lies, with its votes. -/
def Room (w : World) (g P : Nat) (bound : Int) (V : List Int) : Prop :=
  ∃ ring next, Ring P ring next V ∧ IRow .i64 w g 222 (room ((P : Int) + 1) bound ring (next : Int) (V.length : Int))
section
variable {w w' : World} {g P j : Nat} {bound : Int} {V : List Int}
theorem Room.lt (h : Room w g P bound V) : g < w.heap.size := by obtain ⟨_, _, _, r⟩ := h; exact r.lt
theorem Room.below {B : Nat} (h : Room w g P bound V) (hb : Below B w w') (hg : g < B) : Room w' g P bound V := by obtain ⟨a, b, c, r⟩ := h; exact ⟨a, b, c, r.below hb hg⟩
theorem Room.only (h : Room w g P bound V) (hb : Only j w w') (hg : g ≠ j) : Room w' g P bound V := by obtain ⟨a, b, c, r⟩ := h; exact ⟨a, b, c, r.only hb hg⟩
theorem Room.alloc (h : Room w g P bound V) (o : Obj) : Room (w.alloc o) g P bound V := by obtain ⟨a, b, c, r⟩ := h; exact ⟨a, b, c, r.alloc o⟩
theorem Room.drewN (h : Room w g P bound V) (n : Nat) : Room (w.drewN n) g P bound V := h
theorem Room.drew (h : Room w g P bound V) : Room w.drew g P bound V := h
theorem Room.le (h : Room w g P bound V) : V.length ≤ P ∧ 1 ≤ P ∧ P ≤ 15 := by obtain ⟨_, _, c, _⟩ := h; exact ⟨c.le, c.p1, c.p15⟩
theorem Room.block (h : Room w g P bound V) (hb : w'.heap[g]? = w.heap[g]?) : Room w' g P bound V := by obtain ⟨a, b, c, r⟩ := h; exact ⟨a, b, c, hb.trans r⟩
theorem Room.win (h : Room w g P bound V) : w.cell? ⟨g, 0, none⟩ = some (.int .i64 ((P : Int) + 1)) := by
  obtain ⟨a, b, c, r⟩ := h; have := r.cell 0 (by rw [room_len c.len]; omega); exact this
theorem Room.bnd (h : Room w g P bound V) : w.cell? ⟨g, 1, none⟩ = some (.int .i64 bound) := by
  obtain ⟨a, b, c, r⟩ := h; have := r.cell 1 (by rw [room_len c.len]; omega); exact this
theorem Room.count (h : Room w g P bound V) : w.cell? ⟨g, 18, none⟩ = some (.int .i64 (V.length : Int)) := by
  obtain ⟨a, b, c, r⟩ := h; have := r.cell 18 (by rw [room_len c.len]; omega); rw [room_count c.len] at this; exact this
end
set_option maxHeartbeats 800000 in
theorem new_yes (P : Nat) (bound : Int) (w : World) (h1 : 1 ≤ P) (h2 : P ≤ 15) (h3 : 0 ≤ bound) (h4 : bound ≤ 2147483647) :
    Calls Tryz.prog 72 #[.int .i64 ((P : Int) + 1), .int .i64 bound] w fun e w' => e = .returned (.tuple #[.pointer (some ⟨w.heap.size, 0, none⟩), .int .i64 0]) ∧
      w' = w.alloc (.cells (cellsI .i64 (room ((P : Int) + 1) bound (List.replicate 15 0) 0 0)).toArray 222) := by
  have d1 : decide ((P : Int) + 1 < 2) = false := by simp; omega
  have d2 : decide (16 < (P : Int) + 1) = false := by simp; omega
  have d3 : decide (bound < 0) = false := by simpa using h3
  have d4 : decide (2147483647 < bound) = false := by simpa using h4
  clear h1 h2 h3 h4
  go_enter Tryz.func72, Tryz.ntmps72
  go_wp2
  go_ret2
  exact ⟨rfl, rfl⟩
set_option maxHeartbeats 1600000 in
theorem new_no (window bound : Int) (w : World) (h : may window bound = false) :
    Calls Tryz.prog 72 #[.int .i64 window, .int .i64 bound] w fun e w' => e = .returned (.tuple #[.pointer none, .int .i64 1]) ∧ w = w' := by
  unfold may at h
  cases d1 : decide (window < 2)
  · rw [show decide (2 ≤ window) = true by simpa using d1, Bool.true_and] at h
    cases d2 : decide (16 < window)
    · rw [show decide (window ≤ 16) = true by simpa using d2, Bool.true_and] at h
      cases d3 : decide (bound < 0)
      · have d4 : decide (2147483647 < bound) = true := by
          rw [show decide (0 ≤ bound) = true by simpa using d3, Bool.true_and] at h
          simpa using h
        clear h
        go_enter Tryz.func72, Tryz.ntmps72
        go_wp2
        go_ret2
        exact ⟨rfl, rfl⟩
      · clear h
        go_enter Tryz.func72, Tryz.ntmps72
        go_wp2
        go_ret2
        exact ⟨rfl, rfl⟩
    · clear h
      go_enter Tryz.func72, Tryz.ntmps72
      go_wp2
      go_ret2
      exact ⟨rfl, rfl⟩
  · clear h
    go_enter Tryz.func72, Tryz.ntmps72
    go_wp2
    go_ret2
    exact ⟨rfl, rfl⟩
theorem places_cell (g P : Nat) (w : World) (h2 : P ≤ 15) (hc : w.cell? ⟨g, 0, none⟩ = some (.int .i64 ((P : Int) + 1))) :
    Calls Tryz.prog 207 #[.pointer (some ⟨g, 0, none⟩)] w fun e w' => e = .returned (.int .i64 (P : Int)) ∧ w = w' := by
  go_enter Tryz.func207, Tryz.ntmps207
  go_wp2
  go_ret
  exact ⟨by first | rfl | (congr 2; omega), rfl⟩
/-- The cells of a watch. -/
def wt (r : Nat) (last run : Int) : List Value := [.pointer (some ⟨r, 0, none⟩), .int .i64 last, .int .i64 run]
theorem watch_any (g : Nat) (w : World) :
    Calls Tryz.prog 113 #[.pointer (some ⟨g, 0, none⟩)] w fun e w' => e = .returned (.pointer (some ⟨w.heap.size, 0, none⟩)) ∧ w' = w.alloc (.cells (wt g 0 0).toArray 275) := by
  go_enter Tryz.func113, Tryz.ntmps113
  go_wp2
  go_ret
  exact ⟨rfl, rfl⟩
theorem miss_any (g r : Nat) (last run : Int) (w : World) (hT : VRow w g 275 (wt r last run)) :
    Calls Tryz.prog 193 #[.pointer (some ⟨g, 0, none⟩)] w fun e w' => e = .returned (.tuple #[]) ∧ VRow w' g 275 (wt r last 0) ∧ Only g w w' := by
  have T := Lib.hid hT
  have c2 := hT.cell 2 (v := .int .i64 run) rfl
  have f2 := hT.frozen 2
  clear hT
  go_enter Tryz.func193, Tryz.ntmps193
  go_wp2
  go_end0
  exact ⟨rfl, T.out.set 2 (.int .i64 0), (But.refl (· = g) w).setCell (p := ⟨g, 2, none⟩) (Or.inl rfl) _⟩
end Sk
end Go.Proofs.YtpoededbmdffpaaGreatDoor
