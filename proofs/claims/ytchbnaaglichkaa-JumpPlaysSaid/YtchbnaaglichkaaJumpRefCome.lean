/-
  What Come of package rudderref08 does: its contract by walking the Go text. Conditions: where the watch lies; that a value that came may be one.
-/
import Derived.Test.YtchbnaaglichkaaJumpRef
namespace Go.Proofs.Ytchbnaaglichkaa
open Go.ChangeShapes Go.WideShapes Go.ChangeAt Go.RowKit Go.Deep
namespace Jp
open Fx (ret_bool)

/-- Behind the store of the list of one value that was laid anew. -/
theorem rcome_end {w W : World} {g : Nat} {lo hi step : Int} {s : Value} (n : Int) (u : TypeId) (T : VRow W g 46 (rwt lo hi step s)) (b : Below w.heap.size w W) :
    RW ((W.alloc (.cells #[.int .i64 n] u)).setCell ⟨g, 3, none⟩ (.slice (some ⟨W.heap.size, 0, none⟩) 1 1)) g lo hi step n true ∧ Only g w ((W.alloc (.cells #[.int .i64 n] u)).setCell ⟨g, 3, none⟩ (.slice (some ⟨W.heap.size, 0, none⟩) 1 1)) := by
  have hg := T.lt
  have ne : W.heap.size ≠ g := by omega
  refine ⟨⟨_, (T.alloc _).set 3 _, Or.inr ⟨rfl, W.heap.size, u, rfl, ?_⟩, fun b o n c h => by cases h; exact ne⟩, ?_⟩
  · exact ((VRow.new W [.int .i64 n] u).setOther (p := ⟨g, 3, none⟩) ne _).irow (l := [n])
  · exact (show But (· = g) w (W.alloc (.cells #[.int .i64 n] u)) from But.of_below (b.alloc b.size _)).setCell (p := ⟨g, 3, none⟩) (Or.inl rfl) _

set_option maxHeartbeats 3200000 in
theorem rcome_yes (g : Nat) (lo hi step last : Int) (has : Bool) (n : Int) (w : World) (hR : RW w g lo hi step last has) (hl : has = true → val last = true) (hn : val n = true) :
    Calls Try.prog 12 #[.pointer (some ⟨g, 0, none⟩), .int .i64 n] w fun e w' => e = .returned (.tuple #[.int .i64 (trips lo hi step last has n), .int .i64 0]) ∧ RW w' g lo hi step n true ∧ Only g w w' := by
  have V := fun W => rright_any n W
  rw [hn] at V
  obtain ⟨s, hT, hC, _⟩ := hR
  have T := Lib.hid hT
  have c0 := hT.cell 0 (v := .int .i64 lo) rfl
  have c1 := hT.cell 1 (v := .int .i64 hi) rfl
  have c2 := hT.cell 2 (v := .int .i64 step) rfl
  have c3 := hT.cell 3 (v := s) rfl
  have hX : trips lo hi step last has n = (if (decide (n < lo) || decide (hi < n)) = true then 2 else 0) + if (has && (decide (step < n - last) || decide (step < last - n))) = true then 4 else 0 := rfl
  have hnb := (val_iff n).1 hn
  clear hT hn
  cases d : decide (n < lo)
  · cases d2 : decide (hi < n)
    · rw [d, d2] at hX
      rcases hC with ⟨rfl, rfl⟩ | ⟨rfl, b, t, rfl, r⟩
      · have HX := Lib.hid (show trips lo hi step last false n = 0 by rw [hX]; simp [*])
        clear hX hl
        go_enter Try.func12, Try.ntmps12
        go_wp2_with (go_at_call 16; refine (V _).mono ?_; rintro e w' ⟨rfl, rfl⟩)
        go_quiet (fail)
        have TW := Lib.hid (T.out.drewN nq)
        have BW := Lib.hid (below_drewN (Below.refl w.heap.size w) nq)
        generalize w.drewN nq = W at *
        have k3 := (TW.out.alloc (.cells #[.int .i64 n] 3)).cell 3 (v := _) rfl
        have f3 := (TW.out.alloc (.cells #[.int .i64 n] 3)).frozen 3
        go_wp2
        obtain ⟨e1, e2⟩ := rcome_end n 3 TW.out BW.out
        rw [HX.out]
        go_ret2
        exact ⟨rfl, e1, e2⟩
      · have hlb := (val_iff last).1 (hl rfl)
        have k0 := r.cell 0 (by simp)
        rw [show ([last] : List Int).getD 0 0 = last from rfl] at k0
        clear hl r
        cases d3 : decide (step < n - last)
        · cases d4 : decide (step < last - n)
          · have HX := Lib.hid (show trips lo hi step last true n = 0 by rw [hX]; simp [*])
            clear hX
            go_enter Try.func12, Try.ntmps12
            go_wp2_with (go_at_call 16; refine (V _).mono ?_; rintro e w' ⟨rfl, rfl⟩)
            go_quiet (fail)
            have TW := Lib.hid (T.out.drewN nq)
            have BW := Lib.hid (below_drewN (Below.refl w.heap.size w) nq)
            generalize w.drewN nq = W at *
            have k3 := (TW.out.alloc (.cells #[.int .i64 n] 3)).cell 3 (v := _) rfl
            have f3 := (TW.out.alloc (.cells #[.int .i64 n] 3)).frozen 3
            go_wp2
            obtain ⟨e1, e2⟩ := rcome_end n 3 TW.out BW.out
            rw [HX.out]
            go_ret2
            exact ⟨rfl, e1, e2⟩
          · have HX := Lib.hid (show trips lo hi step last true n = 4 by rw [hX]; simp [*])
            clear hX
            go_enter Try.func12, Try.ntmps12
            go_wp2_with (go_at_call 16; refine (V _).mono ?_; rintro e w' ⟨rfl, rfl⟩)
            go_quiet (fail)
            have TW := Lib.hid (T.out.drewN nq)
            have BW := Lib.hid (below_drewN (Below.refl w.heap.size w) nq)
            generalize w.drewN nq = W at *
            have k3 := (TW.out.alloc (.cells #[.int .i64 n] 3)).cell 3 (v := _) rfl
            have f3 := (TW.out.alloc (.cells #[.int .i64 n] 3)).frozen 3
            go_wp2
            obtain ⟨e1, e2⟩ := rcome_end n 3 TW.out BW.out
            rw [HX.out]
            go_ret2
            exact ⟨rfl, e1, e2⟩
        · have HX := Lib.hid (show trips lo hi step last true n = 4 by rw [hX]; simp [*])
          clear hX
          go_enter Try.func12, Try.ntmps12
          go_wp2_with (go_at_call 16; refine (V _).mono ?_; rintro e w' ⟨rfl, rfl⟩)
          go_quiet (fail)
          have TW := Lib.hid (T.out.drewN nq)
          have BW := Lib.hid (below_drewN (Below.refl w.heap.size w) nq)
          generalize w.drewN nq = W at *
          have k3 := (TW.out.alloc (.cells #[.int .i64 n] 3)).cell 3 (v := _) rfl
          have f3 := (TW.out.alloc (.cells #[.int .i64 n] 3)).frozen 3
          go_wp2
          obtain ⟨e1, e2⟩ := rcome_end n 3 TW.out BW.out
          rw [HX.out]
          go_ret2
          exact ⟨rfl, e1, e2⟩
    · rw [d, d2] at hX
      rcases hC with ⟨rfl, rfl⟩ | ⟨rfl, b, t, rfl, r⟩
      · have HX := Lib.hid (show trips lo hi step last false n = 2 by rw [hX]; simp [*])
        clear hX hl
        go_enter Try.func12, Try.ntmps12
        go_wp2_with (go_at_call 16; refine (V _).mono ?_; rintro e w' ⟨rfl, rfl⟩)
        go_quiet (fail)
        have TW := Lib.hid (T.out.drewN nq)
        have BW := Lib.hid (below_drewN (Below.refl w.heap.size w) nq)
        generalize w.drewN nq = W at *
        have k3 := (TW.out.alloc (.cells #[.int .i64 n] 3)).cell 3 (v := _) rfl
        have f3 := (TW.out.alloc (.cells #[.int .i64 n] 3)).frozen 3
        go_wp2
        obtain ⟨e1, e2⟩ := rcome_end n 3 TW.out BW.out
        rw [HX.out]
        go_ret2
        exact ⟨rfl, e1, e2⟩
      · have hlb := (val_iff last).1 (hl rfl)
        have k0 := r.cell 0 (by simp)
        rw [show ([last] : List Int).getD 0 0 = last from rfl] at k0
        clear hl r
        cases d3 : decide (step < n - last)
        · cases d4 : decide (step < last - n)
          · have HX := Lib.hid (show trips lo hi step last true n = 2 by rw [hX]; simp [*])
            clear hX
            go_enter Try.func12, Try.ntmps12
            go_wp2_with (go_at_call 16; refine (V _).mono ?_; rintro e w' ⟨rfl, rfl⟩)
            go_quiet (fail)
            have TW := Lib.hid (T.out.drewN nq)
            have BW := Lib.hid (below_drewN (Below.refl w.heap.size w) nq)
            generalize w.drewN nq = W at *
            have k3 := (TW.out.alloc (.cells #[.int .i64 n] 3)).cell 3 (v := _) rfl
            have f3 := (TW.out.alloc (.cells #[.int .i64 n] 3)).frozen 3
            go_wp2
            obtain ⟨e1, e2⟩ := rcome_end n 3 TW.out BW.out
            rw [HX.out]
            go_ret2
            exact ⟨rfl, e1, e2⟩
          · have HX := Lib.hid (show trips lo hi step last true n = 6 by rw [hX]; simp [*])
            clear hX
            go_enter Try.func12, Try.ntmps12
            go_wp2_with (go_at_call 16; refine (V _).mono ?_; rintro e w' ⟨rfl, rfl⟩)
            go_quiet (fail)
            have TW := Lib.hid (T.out.drewN nq)
            have BW := Lib.hid (below_drewN (Below.refl w.heap.size w) nq)
            generalize w.drewN nq = W at *
            have k3 := (TW.out.alloc (.cells #[.int .i64 n] 3)).cell 3 (v := _) rfl
            have f3 := (TW.out.alloc (.cells #[.int .i64 n] 3)).frozen 3
            go_wp2
            obtain ⟨e1, e2⟩ := rcome_end n 3 TW.out BW.out
            rw [HX.out]
            go_ret2
            exact ⟨rfl, e1, e2⟩
        · have HX := Lib.hid (show trips lo hi step last true n = 6 by rw [hX]; simp [*])
          clear hX
          go_enter Try.func12, Try.ntmps12
          go_wp2_with (go_at_call 16; refine (V _).mono ?_; rintro e w' ⟨rfl, rfl⟩)
          go_quiet (fail)
          have TW := Lib.hid (T.out.drewN nq)
          have BW := Lib.hid (below_drewN (Below.refl w.heap.size w) nq)
          generalize w.drewN nq = W at *
          have k3 := (TW.out.alloc (.cells #[.int .i64 n] 3)).cell 3 (v := _) rfl
          have f3 := (TW.out.alloc (.cells #[.int .i64 n] 3)).frozen 3
          go_wp2
          obtain ⟨e1, e2⟩ := rcome_end n 3 TW.out BW.out
          rw [HX.out]
          go_ret2
          exact ⟨rfl, e1, e2⟩
  · rw [d] at hX
    rcases hC with ⟨rfl, rfl⟩ | ⟨rfl, b, t, rfl, r⟩
    · have HX := Lib.hid (show trips lo hi step last false n = 2 by rw [hX]; simp [*])
      clear hX hl
      go_enter Try.func12, Try.ntmps12
      go_wp2_with (go_at_call 16; refine (V _).mono ?_; rintro e w' ⟨rfl, rfl⟩)
      go_quiet (fail)
      have TW := Lib.hid (T.out.drewN nq)
      have BW := Lib.hid (below_drewN (Below.refl w.heap.size w) nq)
      generalize w.drewN nq = W at *
      have k3 := (TW.out.alloc (.cells #[.int .i64 n] 3)).cell 3 (v := _) rfl
      have f3 := (TW.out.alloc (.cells #[.int .i64 n] 3)).frozen 3
      go_wp2
      obtain ⟨e1, e2⟩ := rcome_end n 3 TW.out BW.out
      rw [HX.out]
      go_ret2
      exact ⟨rfl, e1, e2⟩
    · have hlb := (val_iff last).1 (hl rfl)
      have k0 := r.cell 0 (by simp)
      rw [show ([last] : List Int).getD 0 0 = last from rfl] at k0
      clear hl r
      cases d3 : decide (step < n - last)
      · cases d4 : decide (step < last - n)
        · have HX := Lib.hid (show trips lo hi step last true n = 2 by rw [hX]; simp [*])
          clear hX
          go_enter Try.func12, Try.ntmps12
          go_wp2_with (go_at_call 16; refine (V _).mono ?_; rintro e w' ⟨rfl, rfl⟩)
          go_quiet (fail)
          have TW := Lib.hid (T.out.drewN nq)
          have BW := Lib.hid (below_drewN (Below.refl w.heap.size w) nq)
          generalize w.drewN nq = W at *
          have k3 := (TW.out.alloc (.cells #[.int .i64 n] 3)).cell 3 (v := _) rfl
          have f3 := (TW.out.alloc (.cells #[.int .i64 n] 3)).frozen 3
          go_wp2
          obtain ⟨e1, e2⟩ := rcome_end n 3 TW.out BW.out
          rw [HX.out]
          go_ret2
          exact ⟨rfl, e1, e2⟩
        · have HX := Lib.hid (show trips lo hi step last true n = 6 by rw [hX]; simp [*])
          clear hX
          go_enter Try.func12, Try.ntmps12
          go_wp2_with (go_at_call 16; refine (V _).mono ?_; rintro e w' ⟨rfl, rfl⟩)
          go_quiet (fail)
          have TW := Lib.hid (T.out.drewN nq)
          have BW := Lib.hid (below_drewN (Below.refl w.heap.size w) nq)
          generalize w.drewN nq = W at *
          have k3 := (TW.out.alloc (.cells #[.int .i64 n] 3)).cell 3 (v := _) rfl
          have f3 := (TW.out.alloc (.cells #[.int .i64 n] 3)).frozen 3
          go_wp2
          obtain ⟨e1, e2⟩ := rcome_end n 3 TW.out BW.out
          rw [HX.out]
          go_ret2
          exact ⟨rfl, e1, e2⟩
      · have HX := Lib.hid (show trips lo hi step last true n = 6 by rw [hX]; simp [*])
        clear hX
        go_enter Try.func12, Try.ntmps12
        go_wp2_with (go_at_call 16; refine (V _).mono ?_; rintro e w' ⟨rfl, rfl⟩)
        go_quiet (fail)
        have TW := Lib.hid (T.out.drewN nq)
        have BW := Lib.hid (below_drewN (Below.refl w.heap.size w) nq)
        generalize w.drewN nq = W at *
        have k3 := (TW.out.alloc (.cells #[.int .i64 n] 3)).cell 3 (v := _) rfl
        have f3 := (TW.out.alloc (.cells #[.int .i64 n] 3)).frozen 3
        go_wp2
        obtain ⟨e1, e2⟩ := rcome_end n 3 TW.out BW.out
        rw [HX.out]
        go_ret2
        exact ⟨rfl, e1, e2⟩

/-- Whatever comes. -/
theorem rcome_any (g : Nat) (lo hi step last : Int) (has : Bool) (n : Int) (w : World) (hR : RW w g lo hi step last has) (hl : has = true → val last = true) :
    Calls Try.prog 12 #[.pointer (some ⟨g, 0, none⟩), .int .i64 n] w fun e w' => e = .returned (.tuple #[.int .i64 (ct lo hi step last has n), .int .i64 (ce n)]) ∧ RW w' g lo hi step (cl last n) (ch has n) ∧ Only g w w' := by
  cases hn : val n
  · rw [ct_no hn, ce_no hn, cl_no hn, ch_no hn]
    refine (rcome_no g n w hn).mono ?_
    rintro e w' ⟨rfl, rfl⟩
    exact ⟨rfl, hR, But.refl _ _⟩
  · rw [ct_yes hn, ce_yes hn, cl_yes hn, ch_yes hn]
    exact rcome_yes g lo hi step last has n w hR hl hn
end Jp
end Go.Proofs.Ytchbnaaglichkaa
