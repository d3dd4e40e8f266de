/-
  What the calls of package rudderref08 do: their contracts by walking the Go text. Conditions: where the watch lies; that a value that came may be one.
-/
import Derived.Test.YtchbnaaglichkaaJumpMath
import Derived.RegionTactic
import Derived.BigQuiet
import Derived.WalkKit
import Derived.ProofKit
import Derived.Handy
namespace Go.Proofs.Ytchbnaaglichkaa
open Go.ChangeShapes Go.WideShapes Go.ChangeAt Go.RowKit Go.Deep
namespace Jp
open Fx (ret_bool)

theorem rright_any (n : Int) (w : World) :
    Calls Try.prog 16 #[.int .i64 n] w fun e w' => e = .returned (.bool (val n)) ∧ w = w' := by
  have HF := Lib.hid (show val n = (decide (-2147483648 ≤ n) && decide (n ≤ 2147483647)) from rfl)
  by_cases h1 : -2147483648 ≤ n
  · rw [show decide (-2147483648 ≤ n) = true by simpa using h1, Bool.true_and] at HF
    go_enter Try.func16, Try.ntmps16
    go_wp2
    go_ret
    exact ⟨ret_bool HF.out.symm, rfl⟩
  · have d1 : decide (-2147483648 ≤ n) = false := by simpa using h1
    rw [d1, Bool.false_and] at HF
    go_enter Try.func16, Try.ntmps16
    go_wp2
    go_ret
    exact ⟨ret_bool HF.out.symm, rfl⟩

set_option maxHeartbeats 3200000 in
theorem rmay_any (lo hi step : Int) (w : World) :
    Calls Try.prog 7 #[.int .i64 lo, .int .i64 hi, .int .i64 step] w fun e w' => e = .returned (.bool (may lo hi step)) ∧ w = w' := by
  have HM : may lo hi step = (val lo && val hi && val step && decide (lo ≤ hi) && decide (0 ≤ step)) := by
    unfold may
    by_cases h : 0 ≤ step
    · rw [show val step = decide (step ≤ 2147483647) by unfold val; simp; omega]
      simp only [h, decide_true, Bool.and_true]
      cases val lo <;> cases val hi <;> cases decide (lo ≤ hi) <;> simp
    · rw [show decide (0 ≤ step) = false by simpa using h]; simp
  cases h1 : val lo
  · rw [h1, Bool.false_and, Bool.false_and, Bool.false_and, Bool.false_and] at HM
    have HF := Lib.hid HM
    clear HM
    go_enter Try.func7, Try.ntmps7
    go_wp2_with (go_at_call 16; refine (rright_any _ _).mono ?_; rintro e w' ⟨rfl, rfl⟩)
    go_ret
    exact ⟨ret_bool HF.out.symm, rfl⟩
  · cases h2 : val hi
    · rw [h1, h2, Bool.true_and, Bool.false_and, Bool.false_and, Bool.false_and] at HM
      have HF := Lib.hid HM
      clear HM
      go_enter Try.func7, Try.ntmps7
      go_wp2_with (go_at_call 16; refine (rright_any _ _).mono ?_; rintro e w' ⟨rfl, rfl⟩)
      go_ret
      exact ⟨ret_bool HF.out.symm, rfl⟩
    · cases h3 : val step
      · rw [h1, h2, h3, Bool.true_and, Bool.true_and, Bool.false_and, Bool.false_and] at HM
        have HF := Lib.hid HM
        clear HM
        go_enter Try.func7, Try.ntmps7
        go_wp2_with (go_at_call 16; refine (rright_any _ _).mono ?_; rintro e w' ⟨rfl, rfl⟩)
        go_ret
        exact ⟨ret_bool HF.out.symm, rfl⟩
      · rw [h1, h2, h3, Bool.true_and, Bool.true_and, Bool.true_and] at HM
        cases d : decide (lo ≤ hi)
        · rw [d, Bool.false_and] at HM
          have HF := Lib.hid HM
          clear HM
          go_enter Try.func7, Try.ntmps7
          go_wp2_with (go_at_call 16; refine (rright_any _ _).mono ?_; rintro e w' ⟨rfl, rfl⟩)
          go_ret
          exact ⟨ret_bool HF.out.symm, rfl⟩
        · rw [d, Bool.true_and] at HM
          have HF := Lib.hid HM
          clear HM
          go_enter Try.func7, Try.ntmps7
          go_wp2_with (go_at_call 16; refine (rright_any _ _).mono ?_; rintro e w' ⟨rfl, rfl⟩)
          go_ret
          exact ⟨ret_bool HF.out.symm, rfl⟩

/-- The cells of the document's watch. -/
def rwt (lo hi step : Int) (came : Value) : List Value := [.int .i64 lo, .int .i64 hi, .int .i64 step, came]
/-- The one value that came, or none. -/
def Came (w : World) (s : Value) (last : Int) (has : Bool) : Prop := (has = false ∧ s = .slice none 0 0) ∨ (has = true ∧ ∃ b t, s = .slice (some ⟨b, 0, none⟩) 1 1 ∧ IRow .i64 w b t [last])
/-- The document's watch, as it lies. -/
def RW (w : World) (g : Nat) (lo hi step last : Int) (has : Bool) : Prop := ∃ s, VRow w g 46 (rwt lo hi step s) ∧ Came w s last has ∧ ∀ b o n c, s = .slice (some ⟨b, o, none⟩) n c → b ≠ g
theorem begin_any (lo hi step : Int) (w : World) :
    Calls Try.prog 8 #[.int .i64 lo, .int .i64 hi, .int .i64 step] w fun e w' => e = .returned (.pointer (some ⟨w.heap.size, 0, none⟩)) ∧ w' = w.alloc (.cells (rwt lo hi step (.slice none 0 0)).toArray 46) := by
  go_enter Try.func8, Try.ntmps8
  go_wp2
  go_ret
  exact ⟨rfl, rfl⟩
theorem rw_new (w : World) (lo hi step last : Int) : RW (w.alloc (.cells (rwt lo hi step (.slice none 0 0)).toArray 46)) w.heap.size lo hi step last false :=
  ⟨_, VRow.new _ _ _, Or.inl ⟨rfl, rfl⟩, fun b o n c h => by cases h⟩
theorem Came.block {w w' : World} {s : Value} {last : Int} {has : Bool} (h : Came w s last has) (hb : ∀ b o n c, s = .slice (some ⟨b, o, none⟩) n c → b < w.heap.size → w'.heap[b]? = w.heap[b]?) : Came w' s last has := by
  rcases h with h | ⟨h, b, t, rfl, r⟩
  · exact Or.inl h
  · exact Or.inr ⟨h, b, t, rfl, (hb b 0 1 1 rfl r.lt).trans r⟩
theorem RW.below {w w' : World} {g : Nat} {lo hi step last : Int} {has : Bool} (h : RW w g lo hi step last has) (hb : Below w.heap.size w w') : RW w' g lo hi step last has := by
  obtain ⟨s, h1, h2, h3⟩ := h
  exact ⟨s, h1.below hb h1.lt, h2.block (fun b _ _ _ _ hl => hb.block b hl), h3⟩
/-- A block of other things was written. -/
theorem RW.past {w w' : World} {g j : Nat} {t : TypeId} {lo hi step last x1 x2 x3 x4 : Int} {x5 has : Bool} (h : RW w g lo hi step last has) (hj : VRow w j t (wat x1 x2 x3 x4 x5)) (hb : Only j w w') (hg : g ≠ j) : RW w' g lo hi step last has := by
  obtain ⟨s, h1, h2, h3⟩ := h
  refine ⟨s, h1.only hb hg, ?_, h3⟩
  rcases h2 with h2 | ⟨h2, b, u, rfl, r⟩
  · exact Or.inl h2
  · refine Or.inr ⟨h2, b, u, rfl, r.only hb (fun e => ?_)⟩
    subst e
    have e2 := hj.symm.trans r
    simp [wat, cellsI] at e2

theorem rmiss_any (g : Nat) (lo hi step last : Int) (has : Bool) (w : World) (hR : RW w g lo hi step last has) :
    Calls Try.prog 10 #[.pointer (some ⟨g, 0, none⟩)] w fun e w' => e = .returned (.tuple #[]) ∧ RW w' g lo hi step 0 false ∧ Only g w w' := by
  obtain ⟨s, h1, _, _⟩ := hR
  have T := Lib.hid h1
  have c3 := h1.cell 3 (v := s) rfl
  have f3 := h1.frozen 3
  clear h1
  go_enter Try.func10, Try.ntmps10
  go_wp2
  go_end0
  exact ⟨rfl, ⟨_, T.out.set 3 _, Or.inl ⟨rfl, rfl⟩, fun b o n c h => by cases h⟩, (But.refl (· = g) w).setCell (p := ⟨g, 3, none⟩) (Or.inl rfl) _⟩
set_option maxHeartbeats 800000 in
theorem rlast_any (g : Nat) (lo hi step last : Int) (has : Bool) (w : World) (hR : RW w g lo hi step last has) (h0 : has = false → last = 0) :
    Calls Try.prog 14 #[.pointer (some ⟨g, 0, none⟩)] w fun e w' => e = .returned (.tuple #[.int .i64 last, .bool has]) ∧ w = w' := by
  obtain ⟨s, h1, h2, _⟩ := hR
  have c3 := h1.cell 3 (v := s) rfl
  clear h1
  rcases h2 with ⟨rfl, rfl⟩ | ⟨rfl, b, t, rfl, r⟩
  · obtain rfl := h0 rfl
    go_enter Try.func14, Try.ntmps14
    go_wp2
    go_ret2
    exact ⟨rfl, rfl⟩
  · have c0 := r.cell 0 (by simp)
    rw [show ([last] : List Int).getD 0 0 = last from rfl] at c0
    clear r h0
    go_enter Try.func14, Try.ntmps14
    go_wp2
    go_ret2
    exact ⟨rfl, rfl⟩
theorem rcome_no (g : Nat) (n : Int) (w : World) (hn : val n = false) :
    Calls Try.prog 12 #[.pointer (some ⟨g, 0, none⟩), .int .i64 n] w fun e w' => e = .returned (.tuple #[.int .i64 0, .int .i64 1]) ∧ w = w' := by
  have V := fun W => rright_any n W
  rw [hn] at V
  go_enter Try.func12, Try.ntmps12
  go_wp2_with (go_at_call 16; (refine (V _).mono ?_; rintro e w' ⟨rfl, rfl⟩))
  go_ret2
  exact ⟨rfl, rfl⟩
end Jp
end Go.Proofs.Ytchbnaaglichkaa
