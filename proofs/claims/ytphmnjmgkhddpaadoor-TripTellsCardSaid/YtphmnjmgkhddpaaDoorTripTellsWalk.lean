/-
  The walk of the law TripTells: for every number, text and trips it returns true, and writes nothing that was there. Condition: the table of trips lies in memory as the text lays it.
-/
import Derived.Test.YtphmnjmgkhddpaaDoorTripAlive
import Derived.Lib.QuietBelow
namespace Go.Proofs.YtphmnjmgkhddpaaDoor
open Go.ChangeShapes Go.WideShapes Go.ChangeAt Go.RowKit Go.Deep
namespace tripTells
open Fx Tp

set_option maxRecDepth 100000 in
set_option maxHeartbeats 1600000 in
theorem walk (m : Int) (s : ByteArray) (a : Option Addr) (cap : Nat) (l : List Bool) (b : Int) (w : World) (_w : (Lit.int .i64 m).wf = true) (ws : s.size ≤ maxLen) (hl : l.length ≤ maxLen) (hb : BoolsAt w a l) (_u : (Lit.int .i64 b).wf = true) (hT : TabAt w) :
    Calls Tryd.prog 3 #[.int .i64 m, .string s, .agg #[.slice a l.length cap, .int .i64 b]] w fun e w' => e = .returned (.bool true) ∧ Below w.heap.size w w' := by
  unfold maxLen at ws hl
  have HB := Lib.hid (hb.below ((Below.refl w.heap.size w).alloc (Nat.le_refl _) (.cells #[.slice a l.length cap, .int .i64 b] 24)))
  have B0 := Lib.hid ((Below.refl w.heap.size w).alloc (Nat.le_refl _) (.cells #[.slice a l.length cap, .int .i64 b] 24))
  have HT := Lib.hid (hT.below B0.out)
  have X0 := Lib.hid (VRow.new w [.slice a l.length cap, .int .i64 b] 24)
  have z0 := X0.out.cell 0 (v := .slice a l.length cap) rfl
  have z1 := X0.out.cell 1 (v := .int .i64 b) rfl
  clear hb hT
  by_cases h2 : 200 < s.size
  · have d0 : decide (200 < (s.size : Int)) = true := by simp; omega
    go_enter Tryd.func3, Tryd.ntmps3
    go_wp2_with fail
    refine (alive_any _ HT.out).mono ?_; rintro e w5 ⟨rfl, b5⟩
    go_wp2
    go_ret
    exact ⟨rfl, grow B0.out b5⟩
  · have d0 : decide (200 < (s.size : Int)) = false := by simp; omega
    by_cases h40 : 40 < l.length
    · have d1 : decide (40 < (l.length : Int)) = true := by simp; omega
      go_enter Tryd.func3, Tryd.ntmps3
      go_wp2_with fail
      refine (alive_any _ HT.out).mono ?_; rintro e w5 ⟨rfl, b5⟩
      go_wp2
      go_ret
      exact ⟨rfl, grow B0.out b5⟩
    · have d1 : decide (40 < (l.length : Int)) = false := by simp; omega
      have CP := fun W h => parse_any s ws W h
      rw [prs_eq] at CP
      have CR := fun W => rparse_any s W
      have CT := fun W h => text_any m W h
      have CRT := fun W => rtext_any m W
      have CM := fun W h => mask_any a cap l W hl h
      have CRM := fun W h => rmask_any a cap l W h
      have CI := fun W => in_any m b W
      have CRI := fun W => rin_any m b W
      have CA := fun W h => alive_any W h
      generalize num (rprs (tl s)) = q1 at *
      generalize err (rprs (tl s)) = q2 at *
      generalize txt m = q3 at *
      generalize msk l = q4 at *
      generalize inn m b = q5 at *
      clear h2 h40 ws hl
      go_enter Tryd.func3, Tryd.ntmps3
      go_wp2_with fail
      refine (CP _ HT.out).mono ?_; rintro e w1 ⟨rfl, b1⟩
      have G1 := Lib.hid (grow B0.out b1)
      have HB1 := Lib.hid (HB.out.below b1)
      have HT1 := Lib.hid (HT.out.below b1)
      have X1 := Lib.hid (X0.out.below b1 X0.out.lt)
      clear b1 CP HB HT X0 z0 z1 B0
      go_wp2_with fail
      refine (CR _).mono ?_; rintro e w2 ⟨rfl, b2⟩
      have G2 := Lib.hid (grow G1.out b2)
      have HB2 := Lib.hid (HB1.out.below b2)
      have HT2 := Lib.hid (HT1.out.below b2)
      have X2 := Lib.hid (X1.out.below b2 X1.out.lt)
      clear b2 CR HB1 HT1 X1 G1
      go_wp2_with fail
      have cA := reg_call (w := w2) (fun W h => CA W (HT2.out.below h))
      have cT := reg_call (w := w2) (fun W h => CT W (HT2.out.below h))
      have cRT := reg_call (w := w2) (fun W _ => CRT W)
      have cM := reg_call (w := w2) (fun W h => (CM W (HB2.out.below h)).mono fun e w' q => ⟨q.1, by rw [← q.2]; exact Below.refl _ _⟩)
      have cRM := reg_call (w := w2) (fun W h => (CRM W (HB2.out.below h)).mono fun e w' q => ⟨q.1, by rw [← q.2]; exact Below.refl _ _⟩)
      have cI := reg_call (w := w2) (fun W _ => (CI W).mono fun e w' q => ⟨q.1, by rw [← q.2]; exact Below.refl _ _⟩)
      have cRI := reg_call (w := w2) (fun W _ => (CRI W).mono fun e w' q => ⟨q.1, by rw [← q.2]; exact Below.refl _ _⟩)
      have z0 := cell_regrown (X2.out.cell 0 (v := .slice a l.length cap) rfl)
      have z1 := cell_regrown (X2.out.cell 1 (v := .int .i64 b) rfl)
      clear CA CT CRT CM CRM CI CRI
      refine wp_region_quiet_below (by kernel_rfl) (by kernel_rfl) ?_
      repeat (go_big_quiet_step (first | exact cA _ _ | exact cT _ _ | exact cRT _ _ | exact cM _ _ | exact cRM _ _ | exact cI _ _ | exact cRI _ _))
      refine wpQuiet_nil ?_
      intro _ hw'
      obtain ⟨⟨dq, osq⟩, hw''⟩ := hw'
      subst hw''
      go_wp2
      go_ret
      exact ⟨rfl, grow G2.out (below_regrown w2 dq osq)⟩
end tripTells
end Go.Proofs.YtphmnjmgkhddpaaDoor
