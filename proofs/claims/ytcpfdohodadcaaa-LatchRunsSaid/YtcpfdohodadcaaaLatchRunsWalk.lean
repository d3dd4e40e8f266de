/-
  LatchRuns, walked: the state behind any cycles, and what happened in each, are as the document says; that state may be. Its conditions: where the list lies, what the kinds hold.
-/
import Derived.Test.YtcpfdohodadcaaaLatchAlive
namespace Go.Proofs.Ytcpfdohodadcaaa
open Go.ChangeShapes Go.WideShapes Go.ChangeAt Go.RowKit Go.Deep
namespace Lc.LatchRuns
open Lc

/-- What a run hands back, with its parts told. -/
def RetZ (w : World) (z : St) (xs : List Int) (y : Int) (e : Ending) (w' : World) : Prop :=
  ∃ a n cap, e = .returned (.tuple #[stv z, .slice a n cap, .int .i64 y]) ∧ n = xs.length ∧ n ≤ cap ∧ cap ≤ maxLen ∧ IntsAt .i64 w' a xs ∧ Below w.heap.size w w'

set_option maxHeartbeats 3200000 in
theorem core (L C B : Int) (a : Option Addr) (cap : Nat) (l : List Bool) (w : World) (h3 : ¬ 300 < l.length) (hb : BoolsAt w a l) (z : St) (xs : List Int) (y : Int) (hx : xs.length ≤ 300)
    (C1 : ∀ W, BoolsAt W a l → Calls Try.prog 16 #[rlv L C B, .slice a l.length cap] W (RetZ W z xs y)) (C2 : ∀ W, BoolsAt W a l → Calls Try.prog 17 #[rlv L C B, .slice a l.length cap] W (RetZ W z xs y))
    (hy : (y = 0 ∧ fne L C B z = true) ∨ y = 1) :
    Calls Try.prog 4 #[rlv L C B, .slice a l.length cap] w fun e w' => e = .returned (.bool true) ∧ Below w.heap.size w w' := by
  have CA := alive_any
  have CL := fun W => rule_any L C B W
  have CS := fun (u : St) W => state_any u W
  have CF := fun W => fine_any L C B z W
  have hl3 : l.length ≤ 300 := by omega
  have d3 : decide (300 < (l.length : Int)) = false := by simp; omega
  have hl' : l.length ≤ 9223372036854775807 := by omega
  clear h3
  unfold RetZ rlv stv at *
  rcases hy with ⟨rfl, hf⟩ | rfl
  case' inl => rw [hf] at CF
  all_goals
    go_enter Try.func4, Try.ntmps4
    go_wp2_with fail
    have bB := (Below.refl w.heap.size w).alloc (Nat.le_refl _) (.cells #[.int .i64 L, .int .i64 C, .int .i64 B] 23)
    refine (C1 _ (hb.below bB)).mono ?_
    rintro e w1 ⟨a1, n1, c1, rfl, rfl, l1, m1, i1, b1⟩
    have B1 := Lib.hid (bB.trans (b1.mono (by simp)))
    have R1 := Lib.hid (onB (VRow.new w (rlr L C B) 23) b1)
    have I1 := Lib.hid i1
    clear b1 i1 bB C1 l1 m1
    go_wp2_with (((with_reducible show wpList _ _ _ (⟨some 24, _, _, _, _, _⟩ :: _) _ _); refine VB.loaded (cs := rlr L C B) rfl _ rfl w.heap.size rfl (R1.out.alloc _) Try.underlying23 rfl sizeR ?_))
    refine (CL _).mono ?_
    rintro e w2 ⟨rfl, b2⟩
    have B2 := Lib.hid (grow_alloc B1.out b2)
    have R2 := Lib.hid (carry R1.out _ b2)
    have V2 := Lib.hid (onB (VRow.new w1 (str z) 25) b2)
    have I2 := Lib.hid (carryI I1.out _ b2)
    clear b2 B1 R1 I1
    go_wp2_with fail
    refine (C2 _ (hb.below B2.out)).mono ?_
    rintro e w3 ⟨a3, n3, c3, rfl, rfl, l3, m3, i3, b3⟩
    have B3 := Lib.hid (grow B2.out b3)
    have R3 := Lib.hid (onB R2.out b3)
    have V3 := Lib.hid (onB V2.out b3)
    have I3 := Lib.hid (I2.out.below b3)
    have J3 := Lib.hid i3
    clear b3 i3 B2 R2 V2 I2 C2 l3 m3
    go_wp2_with fail
    have bC := (Below.refl w3.heap.size w3).alloc (Nat.le_refl _) (.cells #[.bool z.la, .bool z.ou, .int .i64 z.st, .int .i64 z.cl, .int .i64 z.bk] 29)
    refine (Sm.ints_any a1 a3 c1 c3 xs xs _ (by omega) (by omega) (I3.out.below bC) (J3.out.below bC)).mono ?_
    rintro e w4 ⟨rfl, b4⟩
    have B4 := Lib.hid (grow B3.out (bC.trans (b4.mono (by simp))))
    have R4 := Lib.hid (carry R3.out _ b4)
    have V4 := Lib.hid (carry V3.out _ b4)
    have K4 := Lib.hid (onB (VRow.new w3 (str z) 29) b4)
    clear b4 bC B3 R3 V3 I3 J3
    rw [Sm.same_self]
    go_wp2_with fail
    obtain ⟨c0, c1, c2⟩ := rl_cells R4.out
    replace c0 := cell_regrown c0
    replace c1 := cell_regrown c1
    replace c2 := cell_regrown c2
    obtain ⟨v0, v1, v2, v3, v4⟩ := st_cells V4.out
    replace v0 := cell_regrown v0
    replace v1 := cell_regrown v1
    replace v2 := cell_regrown v2
    replace v3 := cell_regrown v3
    replace v4 := cell_regrown v4
    obtain ⟨k0, k1, k2, k3, k4⟩ := st_cells K4.out
    replace k0 := cell_regrown k0
    replace k1 := cell_regrown k1
    replace k2 := cell_regrown k2
    replace k3 := cell_regrown k3
    replace k4 := cell_regrown k4
    have cA := reg_call (w := w4) (fun W _ => CA W)
    have cS := fun u => reg_call (w := w4) (fun W _ => CS u W)
    have cF := reg_call (w := w4) (fun W _ => CF W)
    clear CA CL CS CF
    refine wp_region_quiet_below (by kernel_rfl) (by kernel_rfl) ?_
    repeat (go_big_quiet_step (first | exact cA _ _ | exact cS _ _ _ | exact cF _ _))
    refine wpQuiet_nil ?_
    intro _ hw'
    obtain ⟨⟨dq, osq⟩, hw''⟩ := hw'
    subst hw''
    go_wp2
    go_ret
    exact ⟨rfl, grow B4.out (below_regrown w4 dq osq)⟩

set_option maxHeartbeats 800000 in
theorem runs_any (L C B : Int) (a : Option Addr) (cap : Nat) (l : List Bool) (w : World) (hm : l.length ≤ maxLen) (hb : BoolsAt w a l) :
    Calls Try.prog 4 #[rlv L C B, .slice a l.length cap] w fun e w' => e = .returned (.bool true) ∧ Below w.heap.size w w' := by
  by_cases h3 : 300 < l.length
  · have CA := alive_any
    have d3 : decide (300 < (l.length : Int)) = true := by simp; omega
    have hl' : l.length ≤ 9223372036854775807 := hm
    have B1 := Lib.hid ((Below.refl w.heap.size w).alloc (Nat.le_refl _) (.cells #[.int .i64 L, .int .i64 C, .int .i64 B] 23))
    clear hm
    unfold rlv
    go_enter Try.func4, Try.ntmps4
    go_wp2_with fail
    refine (CA _).mono ?_
    rintro e w1 ⟨rfl, b1⟩
    have B2 := Lib.hid (B1.out.trans (b1.mono (by simp)))
    clear b1
    go_wp2
    go_ret
    exact ⟨rfl, B2.out⟩
  · have C1 := fun W (hb : BoolsAt W a l) => run_any L C B a cap l W (by omega) hb
    have C2 := fun W (hb : BoolsAt W a l) => rrun_any L C B a cap l W (by omega) hb
    unfold RetRun at C1 C2
    cases h : rgt L C B
    · rw [h] at C1 C2
      exact core L C B a cap l w h3 hb zer [] 1 (by simp) C1 C2 (.inr rfl)
    · have hR := rgt_iff.1 h
      rw [h] at C1 C2
      exact core L C B a cap l w h3 hb (runs L C B zer l) (whas L C B zer l) 0 (by rw [whas_len]; omega) C1 C2 (.inl ⟨rfl, fne_of hR (fin_runs hR l (fin_zer hR))⟩)
end Lc.LatchRuns
namespace latchRuns
theorem walk (L C B : Int) (a : Option Addr) (cap : Nat) (l : List Bool) (w : World) (_ : (Lit.int .i64 L).wf = true) (_ : (Lit.int .i64 C).wf = true) (_ : (Lit.int .i64 B).wf = true) (hm : l.length ≤ maxLen) (hb : BoolsAt w a l) :
    Calls Try.prog 4 #[.agg #[.int .i64 L, .int .i64 C, .int .i64 B], .slice a l.length cap] w fun e w' => e = .returned (.bool true) ∧ Below w.heap.size w w' :=
  Lc.LatchRuns.runs_any L C B a cap l w hm hb
end latchRuns
end Go.Proofs.Ytcpfdohodadcaaa
