/-
  What rudderref08.Right returns: its contract by walking the Go text (later references call it too). No conditions.
  What the calls of package rudderref08 do: their contracts by walking the Go text. Conditions: where the watch lies; that a value that came may be one.
  What Come and Miss of package rudderref08 do, and that what came lies in a new block: contracts by walking the Go text. Conditions: where the watch lies; that a value that came may be one.
  What Small and All of the document's answers for layer 1 (package rudderref01) return: contracts by walking the Go text. No conditions beyond the numbers' kinds and where the list lies.
  What the document's own answers for layer 2 (package rudderref02) return: contracts by walking the Go text. No conditions beyond the numbers' kinds and where the list lies.
  What half, Mid, Without, Spread and Ints of the document's answers for layer 2 (package rudderref02) return: contracts by walking the Go text. No conditions beyond the numbers' kinds and where the lists lie.
-/
import Derived.Test.YtacclmfbkiadbaaGreatJAgg5
import Derived.RegionTactic
import Derived.BigQuiet
import Derived.WalkKit
import Derived.ProofKit
import Derived.Handy
import Derived.Test.YtacclmfbkiadbaaGreatJFixMath3
import Derived.OpenShut
import Derived.Deep.LoopGhost
import Derived.Deep.QuietTactic
import Derived.IntWalk
import Derived.WalkSmall
namespace Go.Proofs.YtacclmfbkiadbaaGreat
set_option maxRecDepth 100000
open Go.ChangeShapes Go.WideShapes Go.ChangeAt Go.RowKit Go.Deep
namespace Jp
open Fx (ret_bool)
theorem rright_any (n : Int) (w : World) :
    Calls Tryz.prog 110 #[.int .i64 n] w fun e w' => e = .returned (.bool (val n)) ∧ w = w' := by
  have HF := Lib.hid (show val n = (decide (-2147483648 ≤ n) && decide (n ≤ 2147483647)) from rfl)
  by_cases h1 : -2147483648 ≤ n
  · rw [show decide (-2147483648 ≤ n) = true by simpa using h1, Bool.true_and] at HF
    go_enter Tryz.func110, Tryz.ntmps110
    go_wp2
    go_ret
    exact ⟨ret_bool HF.out.symm, rfl⟩
  · have d1 : decide (-2147483648 ≤ n) = false := by simpa using h1
    rw [d1, Bool.false_and] at HF
    go_enter Tryz.func110, Tryz.ntmps110
    go_wp2
    go_ret
    exact ⟨ret_bool HF.out.symm, rfl⟩
end Jp
end Go.Proofs.YtacclmfbkiadbaaGreat

namespace Go.Proofs.YtacclmfbkiadbaaGreat
set_option maxRecDepth 100000
open Go.ChangeShapes Go.WideShapes Go.ChangeAt Go.RowKit Go.Deep
namespace Jp
open Fx (ret_bool)
/-- The cells of the document's watch. -/
def rwt (lo hi step : Int) (came : Value) : List Value := [.int .i64 lo, .int .i64 hi, .int .i64 step, came]
/-- The one value that came, or none. -/
def Came (w : World) (s : Value) (last : Int) (has : Bool) : Prop := (has = false ∧ s = .slice none 0 0) ∨ (has = true ∧ ∃ b t, s = .slice (some ⟨b, 0, none⟩) 1 1 ∧ IRow .i64 w b t [last])
/-- The document's watch, as it lies. -/
def RW (w : World) (g : Nat) (lo hi step last : Int) (has : Bool) : Prop := ∃ s, VRow w g 120 (rwt lo hi step s) ∧ Came w s last has ∧ ∀ b o n c, s = .slice (some ⟨b, o, none⟩) n c → b ≠ g
theorem begin_any (lo hi step : Int) (w : World) :
    Calls Tryz.prog 24 #[.int .i64 lo, .int .i64 hi, .int .i64 step] w fun e w' => e = .returned (.pointer (some ⟨w.heap.size, 0, none⟩)) ∧ w' = w.alloc (.cells (rwt lo hi step (.slice none 0 0)).toArray 120) := by
  go_enter Tryz.func24, Tryz.ntmps24
  go_wp2
  go_ret
  exact ⟨rfl, rfl⟩
theorem Came.block {w w' : World} {s : Value} {last : Int} {has : Bool} (h : Came w s last has) (hb : ∀ b o n c, s = .slice (some ⟨b, o, none⟩) n c → b < w.heap.size → w'.heap[b]? = w.heap[b]?) : Came w' s last has := by
  rcases h with h | ⟨h, b, t, rfl, r⟩
  · exact Or.inl h
  · exact Or.inr ⟨h, b, t, rfl, (hb b 0 1 1 rfl r.lt).trans r⟩
theorem RW.below {w w' : World} {g : Nat} {lo hi step last : Int} {has : Bool} (h : RW w g lo hi step last has) (hb : Below w.heap.size w w') : RW w' g lo hi step last has := by
  obtain ⟨s, h1, h2, h3⟩ := h
  exact ⟨s, h1.below hb h1.lt, h2.block (fun b _ _ _ _ hl => hb.block b hl), h3⟩
end Jp
end Go.Proofs.YtacclmfbkiadbaaGreat

namespace Go.Proofs.YtacclmfbkiadbaaGreat
set_option maxRecDepth 100000
open Go.ChangeShapes Go.WideShapes Go.ChangeAt Go.RowKit Go.Deep
namespace Jp
open Fx (ret_bool)
/-- The document's watch; what came lies behind m. -/
def RWb (w : World) (m g : Nat) (lo hi step last : Int) (has : Bool) : Prop := ∃ s, VRow w g 120 (rwt lo hi step s) ∧ Came w s last has ∧ ∀ b o n c, s = .slice (some ⟨b, o, none⟩) n c → m ≤ b
theorem rmissb_any (g : Nat) (lo hi step last : Int) (has : Bool) (w : World) (m : Nat) (hR : RW w g lo hi step last has) :
    Calls Tryz.prog 71 #[.pointer (some ⟨g, 0, none⟩)] w fun e w' => e = .returned (.tuple #[]) ∧ RWb w' m g lo hi step 0 false ∧ Only g w w' := by
  obtain ⟨s, h1, _, _⟩ := hR
  have T := Lib.hid h1
  have c3 := h1.cell 3 (v := s) rfl
  have f3 := h1.frozen 3
  clear h1
  go_enter Tryz.func71, Tryz.ntmps71
  go_wp2
  go_end0
  exact ⟨rfl, ⟨_, T.out.set 3 _, Or.inl ⟨rfl, rfl⟩, fun b o n c h => by cases h⟩, (But.refl (· = g) w).setCell (p := ⟨g, 3, none⟩) (Or.inl rfl) _⟩
/-- Behind the store of the list of one value that was laid anew. -/
theorem rcomeb_end {w W : World} {g : Nat} {lo hi step : Int} {s : Value} (n : Int) (u : TypeId) (T : VRow W g 120 (rwt lo hi step s)) (b : Below w.heap.size w W) :
    RWb ((W.alloc (.cells #[.int .i64 n] u)).setCell ⟨g, 3, none⟩ (.slice (some ⟨W.heap.size, 0, none⟩) 1 1)) w.heap.size g lo hi step n true ∧ Only g w ((W.alloc (.cells #[.int .i64 n] u)).setCell ⟨g, 3, none⟩ (.slice (some ⟨W.heap.size, 0, none⟩) 1 1)) := by
  have hg := T.lt
  have ne : W.heap.size ≠ g := by omega
  have b0 := b.size
  refine ⟨⟨_, (T.alloc _).set 3 _, Or.inr ⟨rfl, W.heap.size, u, rfl, ?_⟩, fun b o n c h => by cases h; exact b0⟩, ?_⟩
  · exact ((VRow.new W [.int .i64 n] u).setOther (p := ⟨g, 3, none⟩) ne _).irow (l := [n])
  · exact (show But (· = g) w (W.alloc (.cells #[.int .i64 n] u)) from But.of_below (b.alloc b.size _)).setCell (p := ⟨g, 3, none⟩) (Or.inl rfl) _
set_option maxHeartbeats 3200000 in
theorem rcomeb_yes (g : Nat) (lo hi step last : Int) (has : Bool) (n : Int) (w : World) (hR : RW w g lo hi step last has) (hl : has = true → val last = true) (hn : val n = true) :
    Calls Tryz.prog 72 #[.pointer (some ⟨g, 0, none⟩), .int .i64 n] w fun e w' => e = .returned (.tuple #[.int .i64 (trips lo hi step last has n), .int .i64 0]) ∧ RWb w' w.heap.size g lo hi step n true ∧ Only g w w' := by
  have V := fun W => rright_any n W
  rw [hn] at V
  obtain ⟨s, hT, hC, _⟩ := hR
  have T := Lib.hid hT
  have c0 := hT.cell 0 (v := .int .i64 lo) rfl
  have c1 := hT.cell 1 (v := .int .i64 hi) rfl
  have c2 := hT.cell 2 (v := .int .i64 step) rfl
  have c3 := hT.cell 3 (v := s) rfl
  have hX : trips lo hi step last has n = (if (decide (n < lo) || decide (hi < n)) = true then 2 else 0) + if (has && (decide (step < n - last) || decide (step < last - n))) = true then 4 else 0 := rfl
  have hnb := (val_iff n).1 hn
  clear hT hn
  cases d : decide (n < lo)
  · cases d2 : decide (hi < n)
    · rw [d, d2] at hX
      rcases hC with ⟨rfl, rfl⟩ | ⟨rfl, b, t, rfl, r⟩
      · have HX := Lib.hid (show trips lo hi step last false n = 0 by rw [hX]; simp [*])
        clear hX hl
        go_enter Tryz.func72, Tryz.ntmps72
        go_wp2_with (go_at_call 110; refine (V _).mono ?_; rintro e w' ⟨rfl, rfl⟩)
        go_quiet (fail)
        have TW := Lib.hid (T.out.drewN nq)
        have BW := Lib.hid (below_drewN (Below.refl w.heap.size w) nq)
        generalize w.drewN nq = W at *
        have k3 := (TW.out.alloc (.cells #[.int .i64 n] 3)).cell 3 (v := _) rfl
        have f3 := (TW.out.alloc (.cells #[.int .i64 n] 3)).frozen 3
        go_wp2
        obtain ⟨e1, e2⟩ := rcomeb_end n 3 TW.out BW.out
        rw [HX.out]
        go_ret2
        exact ⟨rfl, e1, e2⟩
      · have hlb := (val_iff last).1 (hl rfl)
        have k0 := r.cell 0 (by simp)
        rw [show ([last] : List Int).getD 0 0 = last from rfl] at k0
        clear hl r
        cases d3 : decide (step < n - last)
        · cases d4 : decide (step < last - n)
          · have HX := Lib.hid (show trips lo hi step last true n = 0 by rw [hX]; simp [*])
            clear hX
            go_enter Tryz.func72, Tryz.ntmps72
            go_wp2_with (go_at_call 110; refine (V _).mono ?_; rintro e w' ⟨rfl, rfl⟩)
            go_quiet (fail)
            have TW := Lib.hid (T.out.drewN nq)
            have BW := Lib.hid (below_drewN (Below.refl w.heap.size w) nq)
            generalize w.drewN nq = W at *
            have k3 := (TW.out.alloc (.cells #[.int .i64 n] 3)).cell 3 (v := _) rfl
            have f3 := (TW.out.alloc (.cells #[.int .i64 n] 3)).frozen 3
            go_wp2
            obtain ⟨e1, e2⟩ := rcomeb_end n 3 TW.out BW.out
            rw [HX.out]
            go_ret2
            exact ⟨rfl, e1, e2⟩
          · have HX := Lib.hid (show trips lo hi step last true n = 4 by rw [hX]; simp [*])
            clear hX
            go_enter Tryz.func72, Tryz.ntmps72
            go_wp2_with (go_at_call 110; refine (V _).mono ?_; rintro e w' ⟨rfl, rfl⟩)
            go_quiet (fail)
            have TW := Lib.hid (T.out.drewN nq)
            have BW := Lib.hid (below_drewN (Below.refl w.heap.size w) nq)
            generalize w.drewN nq = W at *
            have k3 := (TW.out.alloc (.cells #[.int .i64 n] 3)).cell 3 (v := _) rfl
            have f3 := (TW.out.alloc (.cells #[.int .i64 n] 3)).frozen 3
            go_wp2
            obtain ⟨e1, e2⟩ := rcomeb_end n 3 TW.out BW.out
            rw [HX.out]
            go_ret2
            exact ⟨rfl, e1, e2⟩
        · have HX := Lib.hid (show trips lo hi step last true n = 4 by rw [hX]; simp [*])
          clear hX
          go_enter Tryz.func72, Tryz.ntmps72
          go_wp2_with (go_at_call 110; refine (V _).mono ?_; rintro e w' ⟨rfl, rfl⟩)
          go_quiet (fail)
          have TW := Lib.hid (T.out.drewN nq)
          have BW := Lib.hid (below_drewN (Below.refl w.heap.size w) nq)
          generalize w.drewN nq = W at *
          have k3 := (TW.out.alloc (.cells #[.int .i64 n] 3)).cell 3 (v := _) rfl
          have f3 := (TW.out.alloc (.cells #[.int .i64 n] 3)).frozen 3
          go_wp2
          obtain ⟨e1, e2⟩ := rcomeb_end n 3 TW.out BW.out
          rw [HX.out]
          go_ret2
          exact ⟨rfl, e1, e2⟩
    · rw [d, d2] at hX
      rcases hC with ⟨rfl, rfl⟩ | ⟨rfl, b, t, rfl, r⟩
      · have HX := Lib.hid (show trips lo hi step last false n = 2 by rw [hX]; simp [*])
        clear hX hl
        go_enter Tryz.func72, Tryz.ntmps72
        go_wp2_with (go_at_call 110; refine (V _).mono ?_; rintro e w' ⟨rfl, rfl⟩)
        go_quiet (fail)
        have TW := Lib.hid (T.out.drewN nq)
        have BW := Lib.hid (below_drewN (Below.refl w.heap.size w) nq)
        generalize w.drewN nq = W at *
        have k3 := (TW.out.alloc (.cells #[.int .i64 n] 3)).cell 3 (v := _) rfl
        have f3 := (TW.out.alloc (.cells #[.int .i64 n] 3)).frozen 3
        go_wp2
        obtain ⟨e1, e2⟩ := rcomeb_end n 3 TW.out BW.out
        rw [HX.out]
        go_ret2
        exact ⟨rfl, e1, e2⟩
      · have hlb := (val_iff last).1 (hl rfl)
        have k0 := r.cell 0 (by simp)
        rw [show ([last] : List Int).getD 0 0 = last from rfl] at k0
        clear hl r
        cases d3 : decide (step < n - last)
        · cases d4 : decide (step < last - n)
          · have HX := Lib.hid (show trips lo hi step last true n = 2 by rw [hX]; simp [*])
            clear hX
            go_enter Tryz.func72, Tryz.ntmps72
            go_wp2_with (go_at_call 110; refine (V _).mono ?_; rintro e w' ⟨rfl, rfl⟩)
            go_quiet (fail)
            have TW := Lib.hid (T.out.drewN nq)
            have BW := Lib.hid (below_drewN (Below.refl w.heap.size w) nq)
            generalize w.drewN nq = W at *
            have k3 := (TW.out.alloc (.cells #[.int .i64 n] 3)).cell 3 (v := _) rfl
            have f3 := (TW.out.alloc (.cells #[.int .i64 n] 3)).frozen 3
            go_wp2
            obtain ⟨e1, e2⟩ := rcomeb_end n 3 TW.out BW.out
            rw [HX.out]
            go_ret2
            exact ⟨rfl, e1, e2⟩
          · have HX := Lib.hid (show trips lo hi step last true n = 6 by rw [hX]; simp [*])
            clear hX
            go_enter Tryz.func72, Tryz.ntmps72
            go_wp2_with (go_at_call 110; refine (V _).mono ?_; rintro e w' ⟨rfl, rfl⟩)
            go_quiet (fail)
            have TW := Lib.hid (T.out.drewN nq)
            have BW := Lib.hid (below_drewN (Below.refl w.heap.size w) nq)
            generalize w.drewN nq = W at *
            have k3 := (TW.out.alloc (.cells #[.int .i64 n] 3)).cell 3 (v := _) rfl
            have f3 := (TW.out.alloc (.cells #[.int .i64 n] 3)).frozen 3
            go_wp2
            obtain ⟨e1, e2⟩ := rcomeb_end n 3 TW.out BW.out
            rw [HX.out]
            go_ret2
            exact ⟨rfl, e1, e2⟩
        · have HX := Lib.hid (show trips lo hi step last true n = 6 by rw [hX]; simp [*])
          clear hX
          go_enter Tryz.func72, Tryz.ntmps72
          go_wp2_with (go_at_call 110; refine (V _).mono ?_; rintro e w' ⟨rfl, rfl⟩)
          go_quiet (fail)
          have TW := Lib.hid (T.out.drewN nq)
          have BW := Lib.hid (below_drewN (Below.refl w.heap.size w) nq)
          generalize w.drewN nq = W at *
          have k3 := (TW.out.alloc (.cells #[.int .i64 n] 3)).cell 3 (v := _) rfl
          have f3 := (TW.out.alloc (.cells #[.int .i64 n] 3)).frozen 3
          go_wp2
          obtain ⟨e1, e2⟩ := rcomeb_end n 3 TW.out BW.out
          rw [HX.out]
          go_ret2
          exact ⟨rfl, e1, e2⟩
  · rw [d] at hX
    rcases hC with ⟨rfl, rfl⟩ | ⟨rfl, b, t, rfl, r⟩
    · have HX := Lib.hid (show trips lo hi step last false n = 2 by rw [hX]; simp [*])
      clear hX hl
      go_enter Tryz.func72, Tryz.ntmps72
      go_wp2_with (go_at_call 110; refine (V _).mono ?_; rintro e w' ⟨rfl, rfl⟩)
      go_quiet (fail)
      have TW := Lib.hid (T.out.drewN nq)
      have BW := Lib.hid (below_drewN (Below.refl w.heap.size w) nq)
      generalize w.drewN nq = W at *
      have k3 := (TW.out.alloc (.cells #[.int .i64 n] 3)).cell 3 (v := _) rfl
      have f3 := (TW.out.alloc (.cells #[.int .i64 n] 3)).frozen 3
      go_wp2
      obtain ⟨e1, e2⟩ := rcomeb_end n 3 TW.out BW.out
      rw [HX.out]
      go_ret2
      exact ⟨rfl, e1, e2⟩
    · have hlb := (val_iff last).1 (hl rfl)
      have k0 := r.cell 0 (by simp)
      rw [show ([last] : List Int).getD 0 0 = last from rfl] at k0
      clear hl r
      cases d3 : decide (step < n - last)
      · cases d4 : decide (step < last - n)
        · have HX := Lib.hid (show trips lo hi step last true n = 2 by rw [hX]; simp [*])
          clear hX
          go_enter Tryz.func72, Tryz.ntmps72
          go_wp2_with (go_at_call 110; refine (V _).mono ?_; rintro e w' ⟨rfl, rfl⟩)
          go_quiet (fail)
          have TW := Lib.hid (T.out.drewN nq)
          have BW := Lib.hid (below_drewN (Below.refl w.heap.size w) nq)
          generalize w.drewN nq = W at *
          have k3 := (TW.out.alloc (.cells #[.int .i64 n] 3)).cell 3 (v := _) rfl
          have f3 := (TW.out.alloc (.cells #[.int .i64 n] 3)).frozen 3
          go_wp2
          obtain ⟨e1, e2⟩ := rcomeb_end n 3 TW.out BW.out
          rw [HX.out]
          go_ret2
          exact ⟨rfl, e1, e2⟩
        · have HX := Lib.hid (show trips lo hi step last true n = 6 by rw [hX]; simp [*])
          clear hX
          go_enter Tryz.func72, Tryz.ntmps72
          go_wp2_with (go_at_call 110; refine (V _).mono ?_; rintro e w' ⟨rfl, rfl⟩)
          go_quiet (fail)
          have TW := Lib.hid (T.out.drewN nq)
          have BW := Lib.hid (below_drewN (Below.refl w.heap.size w) nq)
          generalize w.drewN nq = W at *
          have k3 := (TW.out.alloc (.cells #[.int .i64 n] 3)).cell 3 (v := _) rfl
          have f3 := (TW.out.alloc (.cells #[.int .i64 n] 3)).frozen 3
          go_wp2
          obtain ⟨e1, e2⟩ := rcomeb_end n 3 TW.out BW.out
          rw [HX.out]
          go_ret2
          exact ⟨rfl, e1, e2⟩
      · have HX := Lib.hid (show trips lo hi step last true n = 6 by rw [hX]; simp [*])
        clear hX
        go_enter Tryz.func72, Tryz.ntmps72
        go_wp2_with (go_at_call 110; refine (V _).mono ?_; rintro e w' ⟨rfl, rfl⟩)
        go_quiet (fail)
        have TW := Lib.hid (T.out.drewN nq)
        have BW := Lib.hid (below_drewN (Below.refl w.heap.size w) nq)
        generalize w.drewN nq = W at *
        have k3 := (TW.out.alloc (.cells #[.int .i64 n] 3)).cell 3 (v := _) rfl
        have f3 := (TW.out.alloc (.cells #[.int .i64 n] 3)).frozen 3
        go_wp2
        obtain ⟨e1, e2⟩ := rcomeb_end n 3 TW.out BW.out
        rw [HX.out]
        go_ret2
        exact ⟨rfl, e1, e2⟩
end Jp
end Go.Proofs.YtacclmfbkiadbaaGreat

namespace Go.Proofs.YtacclmfbkiadbaaGreat
set_option maxRecDepth 100000
open Go.ChangeShapes Go.WideShapes Go.ChangeAt Go.RowKit Go.Deep
namespace Fx
set_option maxHeartbeats 400000 in
theorem rsmall_any (n : Int) (w : World) :
    Calls Tryz.prog 113 #[.int .i64 n] w fun e w' => e = .returned (.bool (sm n)) ∧ w = w' := by
  by_cases h1 : -1099511627776 ≤ n
  · by_cases h2 : n ≤ 1099511627776
    · have HF := Lib.hid ((sm_iff n).2 ⟨h1, h2⟩)
      go_enter Tryz.func113, Tryz.ntmps113
      go_wp2
      go_ret
      exact ⟨ret_bool HF.out.symm, rfl⟩
    · have HF := Lib.hid ((sm_false n).2 (by omega))
      have hd : decide (n ≤ 1099511627776) = false := by simpa using h2
      go_enter Tryz.func113, Tryz.ntmps113
      go_wp2
      go_ret
      exact ⟨ret_bool HF.out.symm, rfl⟩
  · have HF := Lib.hid ((sm_false n).2 (by omega))
    have hd : decide (-1099511627776 ≤ n) = false := by simpa using h1
    go_enter Tryz.func113, Tryz.ntmps113
    go_wp2
    go_ret
    exact ⟨ret_bool HF.out.symm, rfl⟩
theorem all_take_succ (l : List Int) (k : Nat) (h : k < l.length) : (l.take (k + 1)).all sm = ((l.take k).all sm && sm (l.getD k 0)) := by
  rw [List.take_succ_eq_append_getElem h, List.all_append]; simp [List.getD_eq_getElem?_getD, h]
theorem all_of_not (l : List Int) (k : Nat) (h : k < l.length) (e : sm (l.getD k 0) = false) : l.all sm = false := by
  rw [List.all_eq_false]
  refine ⟨l[k], List.getElem_mem h, ?_⟩
  simp [List.getD_eq_getElem?_getD, h] at e
  simp [e]
set_option maxHeartbeats 400000 in
theorem rall_any (a : Option Addr) (cap : Nat) (l : List Int) (w : World) (hl : l.length ≤ 9223372036854775807) (hb : IntsAt .i64 w a l) :
    Calls Tryz.prog 112 #[.slice a l.length cap] w fun e w' => e = .returned (.bool (l.all sm)) ∧ w = w' := by
  have HB := Lib.hid hb
  clear hb
  go_enter Tryz.func112, Tryz.ntmps112
  go_wp2
  go_loop [3] (fun i => ∃ k : Nat, k ≤ l.length ∧ i = .int .i64 k ∧ (l.take k).all sm = true) (fun i => l.length - (intOf i).toNat)
  case atStart => exact ⟨0, by omega, rfl, rfl⟩
  case round =>
    obtain ⟨k, hk, rfl, hall⟩ := hrel
    have HA := Lib.hid hall
    clear hall
    by_cases hlt : k < l.length
    · rcases HB.out with hnil | ⟨b, off, rfl, hc⟩
      · rw [hnil] at hlt; simp at hlt
      have hcell := hc k hlt
      clear hc
      have HT := Lib.hid (all_take_succ l k hlt)
      have HN := Lib.hid (all_of_not l k hlt)
      generalize l.getD k 0 = x at *
      cases hx : sm x
      · go_wp2_with (first | (go_at_call 113; refine (rsmall_any _ _).mono ?_; rintro e w' ⟨rfl, rfl⟩))
        go_ret
        exact ⟨ret_bool (by rw [HN.out hx]), rfl⟩
      · go_wp2_with (first | (go_at_call 113; refine (rsmall_any _ _).mono ?_; rintro e w' ⟨rfl, rfl⟩))
        go_round
        case rel => exact ⟨k + 1, by omega, by go_num, by rw [HT.out, HA.out, hx]; rfl⟩
        case measure => simp [intOf]; omega
    · have : k = l.length := by omega
      subst this
      go_wp2
      go_ret
      exact ⟨ret_bool (by have := HA.out; rw [List.take_of_length_le (Nat.le_refl _)] at this; exact this.symm), rfl⟩
end Fx
end Go.Proofs.YtacclmfbkiadbaaGreat

namespace Go.Proofs.YtacclmfbkiadbaaGreat
set_option maxRecDepth 100000
open Go.ChangeShapes Go.WideShapes Go.ChangeAt Go.RowKit Go.Deep
namespace Od
open Fx
theorem rintInfo : (Tryz.prog.info? 3).map (fun i => (i.zero, i.size, i.bytes)) = some (some (.int .i64 0), 1, 8) := by kernel_rfl
set_option maxHeartbeats 400000 in
theorem rright_any (a : Option Addr) (cap : Nat) (l : List Int) (w : World) (hl : l.length ≤ 9223372036854775807) (hb : IntsAt .i64 w a l) :
    Calls Tryz.prog 75 #[.slice a l.length cap] w fun e w' => e = .returned (.bool (ok l)) ∧ w = w' := by
  have C := rall_any a cap l w hl hb
  cases ha : l.all sm
  · have HF := Lib.hid ((ok_false l).2 (by rw [ha]; simp))
    rw [ha] at C
    go_enter Tryz.func75, Tryz.ntmps75
    go_wp2_with (first | (go_at_call 112; refine C.mono ?_; rintro e w' ⟨rfl, rfl⟩))
    go_ret
    exact ⟨ret_bool HF.out.symm, rfl⟩
  · rw [ha] at C
    by_cases h : l.length ≤ 16
    · have HF := Lib.hid ((ok_iff l).2 ⟨h, ha⟩)
      have d1 : decide ((l.length : Int) ≤ 16) = true := by simp; omega
      go_enter Tryz.func75, Tryz.ntmps75
      go_wp2_with (first | (go_at_call 112; refine C.mono ?_; rintro e w' ⟨rfl, rfl⟩))
      go_ret
      exact ⟨ret_bool HF.out.symm, rfl⟩
    · have HF := Lib.hid ((ok_false l).2 (fun q => h q.1))
      have d1 : decide ((l.length : Int) ≤ 16) = false := by simp; omega
      go_enter Tryz.func75, Tryz.ntmps75
      go_wp2_with (first | (go_at_call 112; refine C.mono ?_; rintro e w' ⟨rfl, rfl⟩))
      go_ret
      exact ⟨ret_bool HF.out.symm, rfl⟩
/-- What the inner loop of Sort has gathered of the first m elements. -/
def InsAt (x : Int) (s : List Int) (m : Nat) (d : Bool) (nx : List Int) : Prop :=
  (d = true → (∃ y ∈ s.take m, x < y) ∧ nx = ins x (s.take m)) ∧ (d = false → (∀ y ∈ s.take m, ¬ x < y) ∧ nx = s.take m)
theorem ins_any (x : Int) (p q : List Int) (h : ∃ y ∈ p, x < y) : ins x (p ++ q) = ins x p ++ q := by
  induction p with
  | nil => obtain ⟨y, hy, _⟩ := h; cases hy
  | cons z t ih =>
    by_cases hz : x < z
    · simp [ins, hz]
    · obtain ⟨y, hy, hxy⟩ := h
      have : ∃ y ∈ t, x < y := by
        rcases List.mem_cons.1 hy with rfl | hy
        · exact absurd hxy hz
        · exact ⟨y, hy, hxy⟩
      simp [ins, hz, ih this]
theorem ins_none (x : Int) (p : List Int) (h : ∀ y ∈ p, ¬ x < y) : ins x p = p ++ [x] := by
  induction p with
  | nil => rfl
  | cons z t ih => simp [ins, h z (List.mem_cons_self ..), ih (fun y hy => h y (List.mem_cons_of_mem _ hy))]
theorem ins_first (x y : Int) (p : List Int) (h : ∀ y ∈ p, ¬ x < y) (hy : x < y) : ins x (p ++ [y]) = p ++ [x] ++ [y] := by
  induction p with
  | nil => simp [ins, hy]
  | cons z t ih => simp [ins, h z (List.mem_cons_self ..)]; simpa using ih (fun y hy => h y (List.mem_cons_of_mem _ hy))
theorem insAt_0 (x : Int) (s : List Int) : InsAt x s 0 false [] := ⟨(fun h => by cases h), fun _ => ⟨by simp, by simp⟩⟩
theorem insAt_done {x : Int} {s nx : List Int} {m : Nat} (h : InsAt x s m true nx) (hm : m < s.length) : InsAt x s (m + 1) true (nx ++ [s.getD m 0]) := by
  obtain ⟨⟨y, hy, hxy⟩, rfl⟩ := h.1 rfl
  refine ⟨fun _ => ?_, fun h => by cases h⟩
  rw [take_snoc s m hm]
  exact ⟨⟨y, List.mem_append_left _ hy, hxy⟩, (ins_any x _ _ ⟨y, hy, hxy⟩).symm⟩
theorem insAt_hit {x : Int} {s nx : List Int} {m : Nat} (h : InsAt x s m false nx) (hm : m < s.length) (hx : x < s.getD m 0) : InsAt x s (m + 1) true (nx ++ [x] ++ [s.getD m 0]) := by
  obtain ⟨hn, rfl⟩ := h.2 rfl
  refine ⟨fun _ => ?_, fun h => by cases h⟩
  rw [take_snoc s m hm]
  exact ⟨⟨_, List.mem_append_right _ (List.mem_singleton.2 rfl), hx⟩, (ins_first x _ _ hn hx).symm⟩
theorem insAt_pass {x : Int} {s nx : List Int} {m : Nat} (h : InsAt x s m false nx) (hm : m < s.length) (hx : ¬ x < s.getD m 0) : InsAt x s (m + 1) false (nx ++ [s.getD m 0]) := by
  obtain ⟨hn, rfl⟩ := h.2 rfl
  refine ⟨(fun h => by cases h), fun _ => ?_⟩
  rw [take_snoc s m hm]
  refine ⟨fun y hy => ?_, rfl⟩
  rcases List.mem_append.1 hy with hy | hy
  · exact hn y hy
  · rw [List.mem_singleton.1 hy]; exact hx
theorem insAt_end_true {x : Int} {s nx : List Int} (h : InsAt x s s.length true nx) : nx = ins x s := by
  have := (h.1 rfl).2; rwa [List.take_of_length_le (Nat.le_refl _)] at this
theorem insAt_end_false {x : Int} {s nx : List Int} (h : InsAt x s s.length false nx) : nx ++ [x] = ins x s := by
  obtain ⟨h1, rfl⟩ := h.2 rfl
  rw [List.take_of_length_le (Nat.le_refl _)] at h1 ⊢
  exact (ins_none x s h1).symm
set_option maxHeartbeats 1600000 in
theorem rsort_any (a : Option Addr) (cap : Nat) (l : List Int) (w : World) (hl : l.length ≤ 9223372036854775807) (hb : IntsAt .i64 w a l) :
    Calls Tryz.prog 76 #[.slice a l.length cap] w (RetI .i64 w (osort l)) := by
  have C := rright_any a cap l w hl hb
  cases hok : ok l
  · have HF := Lib.hid (show osort l = [] by unfold osort; rw [hok]; rfl)
    rw [hok] at C
    go_enter Tryz.func76, Tryz.ntmps76
    go_wp2_with (first | (go_at_call 75; refine C.mono ?_; rintro e w' ⟨rfl, rfl⟩))
    go_ret
    exact retI_nil HF.out (Below.refl _ _)
  · have HF := Lib.hid (show osort l = srt l by unfold osort; rw [if_pos hok])
    have h16 := ok_len hok
    have HB := Lib.hid hb
    rw [hok] at C
    clear hb
    go_enter Tryz.func76, Tryz.ntmps76
    go_wp2_with (first | (go_at_call 75; refine C.mono ?_; rintro e w' ⟨rfl, rfl⟩))
    clear C
    go_loopg [4, 5] l.length (fun g s4 s5 wr => ∃ (k : Nat) (s : List Int) (a1 : Option Addr) (c1 : Nat), k + g = l.length ∧ s5 = .int .i64 k ∧ s4 = .slice a1 s.length c1 ∧ Hid (s = srt (l.take k)) ∧ Hid (IntsAt .i64 wr a1 s) ∧ Hid (Below w.heap.size w wr))
    case atStart => exact ⟨0, [], none, 0, by omega, rfl, rfl, Lib.hid rfl, Lib.hid (Or.inl rfl), Lib.hid (Below.refl _ _)⟩
    case round =>
      rename World => W1
      obtain ⟨k, s, a1, c1, hkg, rfl, rfl, HS, I1, B1⟩ := hrel
      have hsl : s.length ≤ k := by rw [HS.out, srt_len, List.length_take]; omega
      have hsz := B1.out.size
      by_cases hlt : k < l.length
      · have hki : (k : Int) < (l.length : Int) := by omega
        rcases HB.out with hnil | ⟨b, off, rfl, hc⟩
        · rw [hnil] at hlt; simp at hlt
        have hcx := Lib.hid ((B1.out.cell (p := ⟨b, off + k, none⟩) (cell_lt (hc k hlt))).trans (hc k hlt))
        clear hc
        have HX := Lib.hid (srt_take l k hlt)
        generalize l.getD k 0 = x at *
        go_wp2
        go_loopg [6, 7, 8] s.length (fun g2 s6 s7 s8 wx => ∃ (m : Nat) (d : Bool) (nx : List Int), m + g2 = s.length ∧ s8 = .int .i64 m ∧ s7 = .bool d ∧ Hid (InsAt x s m d nx) ∧ nx.length ≤ m + d.toNat ∧ Hid (OwnI .i64 W1.heap.size 3 wx s6 nx) ∧ Hid (Below W1.heap.size W1 wx))
        case atStart => exact ⟨0, false, [], by omega, rfl, rfl, Lib.hid (insAt_0 x s), by simp, Lib.hid OwnI.nil, Lib.hid (Below.refl _ _)⟩
        case round =>
          obtain ⟨m, d, nx, hmg, rfl, rfl, HI, hnl, O2, B2⟩ := hrel
          have hcell : wr.cell? ⟨b, off + k, none⟩ = some (.int .i64 x) := (B2.out.cell (p := ⟨b, off + k, none⟩) (cell_lt hcx.out)).trans hcx.out
          by_cases hmt : m < s.length
          · have hmi : (m : Int) < (s.length : Int) := by omega
            rcases I1.out with hnil | ⟨b1, off1, rfl, hc1⟩
            · rw [hnil] at hmt; simp at hmt
            have hcy := hc1 m hmt
            have hcelly : wr.cell? ⟨b1, off1 + m, none⟩ = some (.int .i64 (s.getD m 0)) := (B2.out.cell (p := ⟨b1, off1 + m, none⟩) (cell_lt hcy)).trans hcy
            have HCY := Lib.hid hcy
            clear hc1 hcy
            cases d
            · have hn2 : nx.length ≤ m := hnl
              clear hnl
              have H1 := Lib.hid (insAt_hit HI.out hmt)
              have H2 := Lib.hid (insAt_pass HI.out hmt)
              generalize s.getD m 0 = y at *
              by_cases hxy : x < y
              · have d1 : decide (x < y) = true := by simpa using hxy
                go_wp2
                go_quiet (fail)
                go_wp2_with (first | ((with_reducible show wpList _ _ _ (⟨some 44, _, _, _, _, _⟩ :: _) _ _); refine wpList_append1 rfl (.tmp 38) (.tmp 43) _ rfl .i64 W1.heap.size 3 8 Tryz.underlying55 rintInfo _ nx x _ rfl rfl (O2.out.drewN _) (by first | omega | (simp; omega)) (by omega) W1 (below_drewN B2.out _) (Nat.le_refl _) ?_; intro v44 w44 O44' B44'; have O44 := Lib.hid O44'; have B44 := Lib.hid B44'; clear O44' B44'; have hy44 := (B44.out.cell (p := ⟨b1, off1 + m, none⟩) (cell_lt HCY.out)).trans HCY.out) | ((with_reducible show wpList _ _ _ (⟨some 51, _, _, _, _, _⟩ :: _) _ _); refine wpList_append1 rfl (.tmp 45) (.tmp 50) _ rfl .i64 W1.heap.size 3 8 Tryz.underlying55 rintInfo _ (nx ++ [x]) y _ rfl rfl O44.out (by first | omega | (simp; omega)) (by omega) W1 B44.out (Nat.le_refl _) ?_; intro v51 w51 O51' B51'; have O51 := Lib.hid O51'; have B51 := Lib.hid B51'; clear O51' B51'))
                go_roundg (gk - 1)
                case rel => exact ⟨m + 1, true, nx ++ [x] ++ [y], by omega, by go_num, rfl, Lib.hid (H1.out hxy), by simp; omega, O51, B51⟩
                case measure => omega
              · have d1 : decide (x < y) = false := by simpa using hxy
                go_wp2
                go_quiet (fail)
                go_wp2_with (first | ((with_reducible show wpList _ _ _ (⟨some 51, _, _, _, _, _⟩ :: _) _ _); refine wpList_append1 rfl (.tmp 45) (.tmp 50) _ rfl .i64 W1.heap.size 3 8 Tryz.underlying55 rintInfo _ nx y _ rfl rfl (O2.out.drewN _) (by first | omega | (simp; omega)) (by omega) W1 (below_drewN B2.out _) (Nat.le_refl _) ?_; intro v51 w51 O51' B51'; have O51 := Lib.hid O51'; have B51 := Lib.hid B51'; clear O51' B51'))
                go_roundg (gk - 1)
                case rel => exact ⟨m + 1, false, nx ++ [y], by omega, by go_num, rfl, Lib.hid (H2.out hxy), by simp; omega, O51, B51⟩
                case measure => omega
            · have hn2 : nx.length ≤ m + 1 := hnl
              clear hnl
              have H1 := Lib.hid (insAt_done HI.out hmt)
              generalize s.getD m 0 = y at *
              go_wp2
              go_quiet (fail)
              go_wp2_with (first | ((with_reducible show wpList _ _ _ (⟨some 51, _, _, _, _, _⟩ :: _) _ _); refine wpList_append1 rfl (.tmp 45) (.tmp 50) _ rfl .i64 W1.heap.size 3 8 Tryz.underlying55 rintInfo _ nx y _ rfl rfl (O2.out.drewN _) (by first | omega | (simp; omega)) (by omega) W1 (below_drewN B2.out _) (Nat.le_refl _) ?_; intro v51 w51 O51' B51'; have O51 := Lib.hid O51'; have B51 := Lib.hid B51'; clear O51' B51'))
              go_roundg (gk - 1)
              case rel => exact ⟨m + 1, true, nx ++ [y], by omega, by go_num, rfl, H1, by simp; omega, O51, B51⟩
              case measure => omega
          · have : m = s.length := by omega
            subst this
            cases d
            · have hn2 : nx.length ≤ s.length := hnl
              clear hnl
              have HE := Lib.hid (insAt_end_false HI.out)
              go_wp2_with (first | ((with_reducible show wpList _ _ _ (⟨some 60, _, _, _, _, _⟩ :: _) _ _); refine wpList_append1 rfl (.tmp 54) (.tmp 59) _ rfl .i64 W1.heap.size 3 8 Tryz.underlying55 rintInfo _ nx x _ rfl rfl O2.out (by first | omega | (simp; omega)) (by omega) W1 B2.out (Nat.le_refl _) ?_; intro v60 w60 O60' B60'; have O60 := Lib.hid O60'; have B60 := Lib.hid B60'; clear O60' B60'))
              obtain ⟨a2, c2, rfl, i2⟩ := O60.out.form
              go_roundg (l.length - (k + 1))
              case rel => exact ⟨k + 1, nx ++ [x], a2, c2, by omega, by go_num, rfl, Lib.hid (by rw [HX.out, ← HS.out]; exact HE.out), Lib.hid i2, Lib.hid (B1.out.trans (B60.out.mono hsz))⟩
              case measure => omega
            · clear hnl
              have HE := Lib.hid (insAt_end_true HI.out)
              obtain ⟨a2, c2, rfl, i2⟩ := O2.out.form
              have I2 := Lib.hid i2
              clear i2
              go_wp2
              go_roundg (l.length - (k + 1))
              case rel => exact ⟨k + 1, nx, a2, c2, by omega, by go_num, rfl, Lib.hid (by rw [HX.out, ← HS.out]; exact HE.out), I2, Lib.hid (B1.out.trans (B2.out.mono hsz))⟩
              case measure => omega
      · go_wp2
        go_ret
        have : k = l.length := by omega
        subst this
        exact retI_mk (by rw [HS.out, List.take_of_length_le (Nat.le_refl _)]; exact HF.out.symm) rfl I1.out B1.out
end Od
end Go.Proofs.YtacclmfbkiadbaaGreat

namespace Go.Proofs.YtacclmfbkiadbaaGreat
set_option maxRecDepth 100000
open Go.ChangeShapes Go.WideShapes Go.ChangeAt Go.RowKit Go.Deep
namespace Od
open Fx
/-- Are two lists one? -/
def same (l r : List Int) : Bool := decide (l = r)
set_option maxHeartbeats 400000 in
theorem half_any (a b : Int) (w : World) (h1 : -1099511627776 ≤ a ∧ a ≤ 1099511627776) (h2 : -1099511627776 ≤ b ∧ b ≤ 1099511627776) :
    Calls Tryz.prog 77 #[.int .i64 a, .int .i64 b] w fun e w' => e = .returned (.int .i64 ((a + b) / 2)) ∧ w = w' := by
  by_cases h : 0 ≤ a + b
  · go_enter Tryz.func77, Tryz.ntmps77
    go_wp2
    go_ret
    exact ⟨rfl, rfl⟩
  · have HF := Lib.hid (show -((1 - (a + b)) / 2) = (a + b) / 2 by omega)
    go_enter Tryz.func77, Tryz.ntmps77
    go_wp2
    go_ret
    exact ⟨ret_int HF.out, rfl⟩
set_option maxHeartbeats 1000000 in
theorem rmid_any (a : Option Addr) (cap : Nat) (l : List Int) (w : World) (hl : l.length ≤ 9223372036854775807) (hb : IntsAt .i64 w a l) :
    Calls Tryz.prog 36 #[.slice a l.length cap] w fun e w' => e = .returned (.tuple #[.int .i64 (midv l), .bool (midb l)]) ∧ Below w.heap.size w w' := by
  have D := rright_any a cap l w hl hb
  by_cases hn : ok l = true ∧ 1 ≤ l.length ∧ l.length ≤ 4
  · obtain ⟨hok, h1, h4⟩ := hn
    obtain ⟨s, hs⟩ : ∃ s, osort l = s := ⟨_, rfl⟩
    have HV := Lib.hid (midv_yes hok h1 (by omega) hs)
    have HM := Lib.hid (midb_yes hok h1 (by omega))
    have hlen := osort_len_ok hok
    have hsm := fun x (hx : x ∈ s) => osort_sm hok hs hx
    have d1 : decide ((l.length : Int) < 1) = false := by simp; omega
    have d2 : decide (4 < (l.length : Int)) = false := by simp; omega
    rw [hs] at hlen
    have C := rsort_any a cap l w hl hb
    rw [hs] at C
    rw [hok] at D
    clear hs
    rcases four (s := s) (by omega) (by omega) with ⟨x, rfl⟩ | ⟨x, y, rfl⟩ | ⟨x, y, z, rfl⟩ | ⟨x, y, z, u, rfl⟩
    · have q0 := hsm x (by simp)
      clear hsm hlen
      go_enter Tryz.func36, Tryz.ntmps36
      go_wp2_with fail
      refine D.mono ?_; rintro e w' ⟨rfl, rfl⟩
      go_wp2_with fail
      refine C.mono ?_; rintro e w1 ⟨a1, c1, rfl, i1, b1⟩
      rcases i1 with hno | ⟨b, off, rfl, hc⟩
      · cases hno
      have c0 : w1.cell? ⟨b, off, none⟩ = some (.int .i64 x) := hc 0 (by simp)
      clear hc
      go_wp2
      go_ret2
      exact ⟨ret_mid (by rw [HV.out]; simp [midOf]; try omega) HM.out.symm, b1⟩
    · have q0 := hsm x (by simp)
      have q1 := hsm y (by simp)
      clear hsm hlen
      go_enter Tryz.func36, Tryz.ntmps36
      go_wp2_with fail
      refine D.mono ?_; rintro e w' ⟨rfl, rfl⟩
      go_wp2_with fail
      refine C.mono ?_; rintro e w1 ⟨a1, c1, rfl, i1, b1⟩
      rcases i1 with hno | ⟨b, off, rfl, hc⟩
      · cases hno
      have c0 : w1.cell? ⟨b, off, none⟩ = some (.int .i64 x) := hc 0 (by simp)
      have c1 : w1.cell? ⟨b, off + 1, none⟩ = some (.int .i64 y) := hc 1 (by simp)
      clear hc
      go_wp2
      go_quiet ((go_at_call 77; exact still_quiet (fun W => half_any _ _ W (by omega) (by omega))))
      go_wp2
      go_ret2
      exact ⟨ret_mid (by rw [HV.out]; simp [midOf]; try omega) HM.out.symm, below_drewN b1 _⟩
    · have q0 := hsm x (by simp)
      have q1 := hsm y (by simp)
      have q2 := hsm z (by simp)
      clear hsm hlen
      go_enter Tryz.func36, Tryz.ntmps36
      go_wp2_with fail
      refine D.mono ?_; rintro e w' ⟨rfl, rfl⟩
      go_wp2_with fail
      refine C.mono ?_; rintro e w1 ⟨a1, c1, rfl, i1, b1⟩
      rcases i1 with hno | ⟨b, off, rfl, hc⟩
      · cases hno
      have c1 : w1.cell? ⟨b, off + 1, none⟩ = some (.int .i64 y) := hc 1 (by simp)
      clear hc
      go_wp2
      go_ret2
      exact ⟨ret_mid (by rw [HV.out]; simp [midOf]; try omega) HM.out.symm, b1⟩
    · have q0 := hsm x (by simp)
      have q1 := hsm y (by simp)
      have q2 := hsm z (by simp)
      have q3 := hsm u (by simp)
      clear hsm hlen
      go_enter Tryz.func36, Tryz.ntmps36
      go_wp2_with fail
      refine D.mono ?_; rintro e w' ⟨rfl, rfl⟩
      go_wp2_with fail
      refine C.mono ?_; rintro e w1 ⟨a1, c1, rfl, i1, b1⟩
      rcases i1 with hno | ⟨b, off, rfl, hc⟩
      · cases hno
      have c1 : w1.cell? ⟨b, off + 1, none⟩ = some (.int .i64 y) := hc 1 (by simp)
      have c2 : w1.cell? ⟨b, off + 2, none⟩ = some (.int .i64 z) := hc 2 (by simp)
      clear hc
      go_wp2
      go_quiet ((go_at_call 77; exact still_quiet (fun W => half_any _ _ W (by omega) (by omega))))
      go_wp2
      go_ret2
      exact ⟨ret_mid (by rw [HV.out]; simp [midOf]; try omega) HM.out.symm, below_drewN b1 _⟩
  · have HF := Lib.hid (midb_no (l := l) (by cases h : ok l; exact Or.inl rfl; exact Or.inr (by simp only [h, true_and] at hn; omega)))
    cases hok : ok l
    · rw [hok] at D
      go_enter Tryz.func36, Tryz.ntmps36
      go_wp2_with fail
      refine D.mono ?_; rintro e w' ⟨rfl, rfl⟩
      go_wp2
      go_ret2
      exact ⟨ret_mid (midv_no HF.out).symm HF.out.symm, Below.refl _ _⟩
    · rw [hok] at D
      by_cases h1 : l.length < 1
      · have d1 : decide ((l.length : Int) < 1) = true := by simp; omega
        go_enter Tryz.func36, Tryz.ntmps36
        go_wp2_with fail
        refine D.mono ?_; rintro e w' ⟨rfl, rfl⟩
        go_wp2
        go_ret2
        exact ⟨ret_mid (midv_no HF.out).symm HF.out.symm, Below.refl _ _⟩
      · have d1 : decide ((l.length : Int) < 1) = false := by simp; omega
        have d2 : decide (4 < (l.length : Int)) = true := by simp; have : ¬ (1 ≤ l.length ∧ l.length ≤ 4) := fun q => hn ⟨hok, q⟩; omega
        go_enter Tryz.func36, Tryz.ntmps36
        go_wp2_with fail
        refine D.mono ?_; rintro e w' ⟨rfl, rfl⟩
        go_wp2
        go_ret2
        exact ⟨ret_mid (midv_no HF.out).symm HF.out.symm, Below.refl _ _⟩
set_option maxHeartbeats 400000 in
theorem rspread_any (a : Option Addr) (cap : Nat) (l : List Int) (w : World) (hl : l.length ≤ 9223372036854775807) (hb : IntsAt .i64 w a l) :
    Calls Tryz.prog 133 #[.slice a l.length cap] w fun e w' => e = .returned (.int .i64 (spread l)) ∧ Below w.heap.size w w' := by
  have C := rsort_any a cap l w hl hb
  by_cases h1 : 1 ≤ (osort l).length
  · obtain ⟨hok, hv⟩ := spread_yes h1
    have hlen := osort_len_ok hok
    have h16 := ok_len hok
    have q0 := osort_sm hok rfl (show (osort l).getD 0 0 ∈ osort l by rw [getD_at _ _ h1]; exact List.getElem_mem _)
    have q1 := osort_sm hok rfl (show (osort l).getD ((osort l).length - 1) 0 ∈ osort l by rw [getD_at _ _ (by omega)]; exact List.getElem_mem _)
    unfold spreadOf at hv
    have HV := Lib.hid hv
    clear hv
    have hs16 : (osort l).length ≤ 16 := by omega
    clear hlen
    generalize osort l = s at *
    go_enter Tryz.func133, Tryz.ntmps133
    go_wp2_with fail
    refine C.mono ?_; rintro e w1 ⟨a1, c1, rfl, i1, b1⟩
    rcases i1 with hno | ⟨b, off, rfl, hc⟩
    · subst hno; simp at h1
    obtain ⟨m, hm⟩ : ∃ m, s.length = m + 1 := ⟨s.length - 1, by omega⟩
    have m15 : m ≤ 15 := by omega
    have c0 := hc 0 (by omega)
    have c9 := hc m (by omega)
    clear hc hs16 h1
    rw [hm] at HV q1 ⊢
    simp only [Nat.add_sub_cancel, Nat.add_zero] at c0 HV q1
    clear hm
    generalize s.getD 0 0 = x at *
    generalize s.getD m 0 = y at *
    have wm : IntKind.i64.wrap (m : Int) = m := IntWalk.i64_in _ (by omega)
    have m1 : (m : Int) < ((m + 1 : Nat) : Int) := by omega
    have m2 : (m : Int) < (m : Int) + 1 := by omega
    have m3 : 0 ≤ (m : Int) := by omega
    go_wp2
    go_quiet (fail)
    go_wp2
    go_ret
    exact ⟨ret_int HV.out.symm, below_drewN b1 _⟩
  · have hnil : osort l = [] := List.eq_nil_of_length_eq_zero (by omega)
    have HF := Lib.hid (spread_no hnil)
    rw [hnil] at C
    clear hnil
    go_enter Tryz.func133, Tryz.ntmps133
    go_wp2_with fail
    refine C.mono ?_; rintro e w1 ⟨a1, c1, rfl, i1, b1⟩
    go_wp2
    go_ret
    exact ⟨ret_int HF.out.symm, b1⟩
set_option maxHeartbeats 800000 in
theorem rwithout_any (a : Option Addr) (cap : Nat) (l : List Int) (i : Int) (w : World) (hl : l.length ≤ 9223372036854775807) (hb : IntsAt .i64 w a l) :
    Calls Tryz.prog 134 #[.slice a l.length cap, .int .i64 i] w (RetI .i64 w (without l i)) := by
  have C := rright_any a cap l w hl hb
  cases hok : ok l
  · have HF := Lib.hid (without_no i hok)
    rw [hok] at C
    go_enter Tryz.func134, Tryz.ntmps134
    go_wp2_with (first | (go_at_call 75; refine C.mono ?_; rintro e w' ⟨rfl, rfl⟩))
    go_ret
    exact retI_nil HF.out (Below.refl _ _)
  · have HF := Lib.hid (without_yes i hok)
    have h16 := ok_len hok
    have HB := Lib.hid hb
    rw [hok] at C
    clear hb
    go_enter Tryz.func134, Tryz.ntmps134
    go_wp2_with (first | (go_at_call 75; refine C.mono ?_; rintro e w' ⟨rfl, rfl⟩))
    clear C
    go_loopg [6, 7] l.length (fun g s6 s7 wr => ∃ (k : Nat) (o : List Int), k + g = l.length ∧ s7 = .int .i64 k ∧ Hid (o = wo (l.take k) i) ∧ o.length ≤ k ∧ Hid (OwnI .i64 w.heap.size 3 wr s6 o) ∧ Hid (Below w.heap.size w wr))
    case atStart => exact ⟨0, [], by omega, rfl, Lib.hid (by unfold wo; simp), by simp, Lib.hid OwnI.nil, Lib.hid (Below.refl _ _)⟩
    case round =>
      obtain ⟨k, o, hkg, rfl, HO, hol, O1, B1⟩ := hrel
      by_cases hlt : k < l.length
      · rcases HB.out with hnil | ⟨b, off, rfl, hc⟩
        · rw [hnil] at hlt; simp at hlt
        have hcx := (B1.out.cell (p := ⟨b, off + k, none⟩) (cell_lt (hc k hlt))).trans (hc k hlt)
        clear hc
        have HX := Lib.hid (wo_take l i k hlt)
        generalize l.getD k 0 = x at *
        by_cases hki : (k : Int) = i
        · have HX2 := Lib.hid (show wo (l.take (k + 1)) i = o by rw [HX.out, if_pos hki, List.append_nil, ← HO.out])
          clear HX
          subst hki
          go_wp2
          go_roundg (gk - 1)
          case rel => exact ⟨k + 1, o, by omega, by go_num, Lib.hid HX2.out.symm, by omega, O1, B1⟩
          case measure => omega
        · have HX2 := Lib.hid (show wo (l.take (k + 1)) i = o ++ [x] by rw [HX.out, if_neg hki, ← HO.out])
          clear HX
          have d1 : ((k : Int) != i) = true := by simpa using hki
          have d2 : ((k : Int) == i) = false := by simpa using hki
          go_wp2_with (first | ((with_reducible show wpList _ _ _ (⟨some 27, _, _, _, _, _⟩ :: _) _ _); refine wpList_append1 rfl (.tmp 21) (.tmp 26) _ rfl .i64 w.heap.size 3 8 Tryz.underlying55 rintInfo _ o x _ rfl rfl O1.out (by omega) (by omega) w B1.out (Nat.le_refl _) ?_; intro v27 w27 O27' B27'; have O27 := Lib.hid O27'; have B27 := Lib.hid B27'; clear O27' B27'))
          go_roundg (gk - 1)
          case rel => exact ⟨k + 1, o ++ [x], by omega, by go_num, Lib.hid HX2.out.symm, by simp; omega, O27, B27⟩
          case measure => omega
      · have : k = l.length := by omega
        subst this
        obtain ⟨a2, c2, rfl, i2⟩ := O1.out.form
        have I2 := Lib.hid i2
        clear i2
        go_wp2
        go_ret
        exact retI_mk (by rw [HO.out, List.take_of_length_le (Nat.le_refl _)]; exact HF.out.symm) rfl I2.out B1.out
end Od
end Go.Proofs.YtacclmfbkiadbaaGreat
