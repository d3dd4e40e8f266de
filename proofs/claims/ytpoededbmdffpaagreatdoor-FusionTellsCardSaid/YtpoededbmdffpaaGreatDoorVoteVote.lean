/-
  What Vote of package vote returns: a contract by walking the Go text. Conditions: where the lists lie.
-/
import Derived.Test.YtpoededbmdffpaaGreatDoorVoteMean
import Derived.Test.YtpoededbmdffpaaGreatDoorOrderWalks2
import Derived.Test.YtpoededbmdffpaaGreatDoorBlk
import Derived.Lib.QuietBelow
namespace Go.Proofs.YtpoededbmdffpaaGreatDoor
set_option maxRecDepth 100000
open Go.ChangeShapes Go.WideShapes Go.ChangeAt Go.RowKit Go.Deep
namespace Vo
open Fx Od
theorem fit_any (a b : Option Addr) (ca cb : Nat) (V U : List Int) (w : World) (hl : V.length ≤ 4) (hV : IntsAt .i64 w a V) (hU : IntsAt .i64 w b U) :
    Calls Tryz.prog 201 #[.slice a V.length ca, .slice b U.length cb] w fun e w' => e = .returned (.bool (fits V U)) ∧ Below w.heap.size w w' := by
  by_cases h : V.length = U.length
  · exact fit_eq a b ca cb V U w hl h hV hU
  · exact fit_len a b ca cb V U w h
/-- A rule as it lies in a box. -/
def rul (lo hi clip : Int) : List Value := [.int .i64 lo, .int .i64 hi, .int .i64 clip]
theorem rul_new (w : World) (lo hi clip : Int) (t : TypeId) : VRow (w.alloc (.cells #[.int .i64 lo, .int .i64 hi, .int .i64 clip] t)) w.heap.size t (rul lo hi clip) := VRow.new w _ t
theorem rul_cells {w : World} {g : Nat} {t : TypeId} {lo hi clip : Int} (h : VRow w g t (rul lo hi clip)) : w.cell? ⟨g, 0, none⟩ = some (.int .i64 lo) ∧ w.cell? ⟨g, 1, none⟩ = some (.int .i64 hi) ∧ w.cell? ⟨g, 2, none⟩ = some (.int .i64 clip) :=
  ⟨h.cell 0 rfl, h.cell 1 rfl, h.cell 2 rfl⟩
theorem ret_vote {lo hi clip : Int} {V U : List Int} {n : Int} {b : Bool} (h1 : votv lo hi clip V U = n) (h2 : votb lo hi clip V U = b) :
    Ending.returned (.tuple #[.int .i64 n, .bool b]) = .returned (.tuple #[.int .i64 (votv lo hi clip V U), .bool (votb lo hi clip V U)]) := by rw [h1, h2]
set_option maxHeartbeats 1600000 in
theorem vote_no (lo hi clip : Int) (a b : Option Addr) (ca cb : Nat) (V U : List Int) (w : World) (hl : V.length ≤ 9223372036854775807) (hV : IntsAt .i64 w a V) (hU : IntsAt .i64 w b U) (hn : votb lo hi clip V U = false) :
    Calls Tryz.prog 165 #[.agg #[.int .i64 lo, .int .i64 hi, .int .i64 clip], .slice a V.length ca, .slice b U.length cb] w fun e w' => e = .returned (.tuple #[.int .i64 (votv lo hi clip V U), .bool (votb lo hi clip V U)]) ∧ Below w.heap.size w w' := by
  have HF := Lib.hid (ret_vote (votv_no hn) hn).symm
  have B := Lib.hid ((Below.refl w.heap.size w).alloc (Nat.le_refl _) (.cells #[.int .i64 lo, .int .i64 hi, .int .i64 clip] 281))
  have R := Lib.hid (rul_new w lo hi clip 281)
  have HV := Lib.hid hV
  have HU := Lib.hid hU
  clear hV hU
  cases h1 : midb V
  · have C1 := fun W h => mid_any a ca V W hl h
    rw [h1] at C1
    clear h1 hn
    go_enter Tryz.func165, Tryz.ntmps165
    go_wp2_with (go_at_call 162; refine (C1 _ (HV.out.below B.out)).mono ?_; rintro e w1 ⟨rfl, b1⟩; have B1 := Lib.hid (grow B.out b1); clear b1)
    go_ret2
    exact ⟨HF.out.symm, B1.out⟩
  · have h4 := (midb_iff.1 h1).2.2
    cases h2 : rmay lo hi clip
    · have C1 := fun W h => mid_any a ca V W hl h
      have C2 := fun W => vright_any lo hi clip W
      rw [h1] at C1
      rw [h2] at C2
      clear h1 h2 hn h4
      go_enter Tryz.func165, Tryz.ntmps165
      go_wp2_with (first
        | (go_at_call 162; refine (C1 _ (HV.out.below B.out)).mono ?_; rintro e w1 ⟨rfl, b1⟩; have B1 := Lib.hid (grow B.out b1); have cc := rul_cells (R.out.below b1 R.out.lt); clear b1)
        | (go_at_call 200; refine (C2 _).mono ?_; rintro e w2 ⟨rfl, b2⟩; have B2 := Lib.hid (grow B1.out b2); clear b2))
      go_ret2
      exact ⟨HF.out.symm, B2.out⟩
    · have h3 : fits V U = false := by unfold votb at hn; rw [h1, h2] at hn; simpa using hn
      have C1 := fun W h => mid_any a ca V W hl h
      have C2 := fun W => vright_any lo hi clip W
      have C3 := fun W h h' => fit_any a b ca cb V U W h4 h h'
      rw [h1] at C1
      rw [h2] at C2
      rw [h3] at C3
      clear h1 h2 h3 hn h4
      go_enter Tryz.func165, Tryz.ntmps165
      go_wp2_with (first
        | (go_at_call 162; refine (C1 _ (HV.out.below B.out)).mono ?_; rintro e w1 ⟨rfl, b1⟩; have B1 := Lib.hid (grow B.out b1); have cc := rul_cells (R.out.below b1 R.out.lt); clear b1)
        | (go_at_call 200; refine (C2 _).mono ?_; rintro e w2 ⟨rfl, b2⟩; have B2 := Lib.hid (grow B1.out b2); clear b2)
        | (go_at_call 201; refine (C3 _ (HV.out.below B2.out) (HU.out.below B2.out)).mono ?_; rintro e w3 ⟨rfl, b3⟩; have B3 := Lib.hid (grow B2.out b3); clear b3))
      go_ret2
      exact ⟨HF.out.symm, B3.out⟩
set_option maxHeartbeats 1600000 in
theorem vote_yes (lo hi clip : Int) (a b : Option Addr) (ca cb : Nat) (V U : List Int) (w : World) (hl : V.length ≤ 9223372036854775807) (hV : IntsAt .i64 w a V) (hU : IntsAt .i64 w b U) (hy : votb lo hi clip V U = true) :
    Calls Tryz.prog 165 #[.agg #[.int .i64 lo, .int .i64 hi, .int .i64 clip], .slice a V.length ca, .slice b U.length cb] w fun e w' => e = .returned (.tuple #[.int .i64 (votv lo hi clip V U), .bool (votb lo hi clip V U)]) ∧ Below w.heap.size w w' := by
  obtain ⟨h1, h2, h3⟩ := votb_iff.1 hy
  have h4 := (midb_iff.1 h1).2.2
  have M := votb_mid hy
  have HF := Lib.hid (ret_vote ((votv_yes hy).trans (mean_clamp M h2).symm) hy).symm
  have B := Lib.hid ((Below.refl w.heap.size w).alloc (Nat.le_refl _) (.cells #[.int .i64 lo, .int .i64 hi, .int .i64 clip] 281))
  have R := Lib.hid (rul_new w lo hi clip 281)
  have HV := Lib.hid hV
  have HU := Lib.hid hU
  have C1 := fun W h => mid_any a ca V W hl h
  have C2 := fun W => vright_any lo hi clip W
  have C3 := fun W h h' => fit_any a b ca cb V U W h4 h h'
  rw [h1] at C1
  rw [h2] at C2
  rw [h3] at C3
  have CM := fun W h h' => mean_any (midv V) clip a b ca cb V U W M h h'
  clear hV hU hy h1 h2 h3 h4 M
  generalize midv V = mid at *
  generalize meanv mid clip V U = m at *
  have CL := fun W => clamp_any m lo hi W
  generalize clamp m lo hi = r at *
  go_enter Tryz.func165, Tryz.ntmps165
  go_wp2_with (first
    | (go_at_call 162; refine (C1 _ (HV.out.below B.out)).mono ?_; rintro e w1 ⟨rfl, b1⟩; have B1 := Lib.hid (grow B.out b1); have R1 := Lib.hid (R.out.below b1 R.out.lt); have cc := rul_cells R1.out; clear b1)
    | (go_at_call 200; refine (C2 _).mono ?_; rintro e w2 ⟨rfl, b2⟩; have B2 := Lib.hid (grow B1.out b2); have R2 := Lib.hid (R1.out.below b2 R1.out.lt); clear b2)
    | (go_at_call 201; refine (C3 _ (HV.out.below B2.out) (HU.out.below B2.out)).mono ?_; rintro e w3 ⟨rfl, b3⟩; have B3 := Lib.hid (grow B2.out b3); have R3 := Lib.hid (R2.out.below b3 R2.out.lt); clear b3))
  have cc3 := rul_cells R3.out
  have c0 := cell_regrown cc3.1
  have c1 := cell_regrown cc3.2.1
  have c2 := cell_regrown cc3.2.2
  have cM := reg_call (w := w3) (fun W hW => CM W ((HV.out.below B3.out).below hW) ((HU.out.below B3.out).below hW))
  have cL := reg_call (w := w3) (fun W _ => (CL W).mono (fun _ _ ⟨h, h'⟩ => ⟨h, h' ▸ Below.refl _ _⟩))
  clear cc cc3 C1 C2 C3 CM CL
  refine wp_region_quiet_below (by kernel_rfl) (by kernel_rfl) ?_
  repeat (go_big_quiet_step (first | exact cM _ _ | exact cL _ _))
  refine wpQuiet_nil ?_
  intro _ hw'
  obtain ⟨⟨dq, osq⟩, hw''⟩ := hw'
  subst hw''
  go_wp2
  go_ret2
  exact ⟨HF.out.symm, grow B3.out (below_regrown w3 dq osq)⟩
theorem vote_any (lo hi clip : Int) (a b : Option Addr) (ca cb : Nat) (V U : List Int) (w : World) (hl : V.length ≤ 9223372036854775807) (hV : IntsAt .i64 w a V) (hU : IntsAt .i64 w b U) :
    Calls Tryz.prog 165 #[.agg #[.int .i64 lo, .int .i64 hi, .int .i64 clip], .slice a V.length ca, .slice b U.length cb] w fun e w' => e = .returned (.tuple #[.int .i64 (votv lo hi clip V U), .bool (votb lo hi clip V U)]) ∧ Below w.heap.size w w' := by
  cases h : votb lo hi clip V U
  · have := vote_no lo hi clip a b ca cb V U w hl hV hU h; rwa [h] at this
  · have := vote_yes lo hi clip a b ca cb V U w hl hV hU h; rwa [h] at this
end Vo
end Go.Proofs.YtpoededbmdffpaaGreatDoor
