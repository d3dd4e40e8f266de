/-
  What the calls of package order return, for every argument: contracts by walking the Go text. No conditions beyond the numbers' kinds and where the list lies.
-/
import Derived.Test.YtpoededbmdffpaaGreatDoorRow
import Derived.Test.YtpoededbmdffpaaGreatDoorOrderMath
import Derived.ProofKit
import Derived.OpenShut
import Derived.Handy
import Derived.Deep.LoopGhost
import Derived.Deep.RegionLaw
import Derived.Deep.QuietTactic
import Derived.BigQuiet
import Derived.BigRegion
namespace Go.Proofs.YtpoededbmdffpaaGreatDoor
set_option maxRecDepth 100000
open Go.ChangeShapes Go.WideShapes Go.ChangeAt Go.RowKit Go.Deep
namespace Od
open Fx
theorem intInfo : (Tryz.prog.info? 3).map (fun i => (i.zero, i.size, i.bytes)) = some (some (.int .i64 0), 1, 8) := by kernel_rfl
theorem intSize : (Tryz.prog.info? 3).map (·.size) = some 1 := by kernel_rfl
theorem all_not (l : List Int) (k : Nat) (h : k < l.length) (e : ¬ (-1099511627776 ≤ l.getD k 0 ∧ l.getD k 0 ≤ 1099511627776)) : ok l = false := by
  rw [ok_false]
  intro ⟨_, ha⟩
  rw [List.all_eq_true] at ha
  have := ha l[k] (List.getElem_mem h)
  rw [getD_at l k h] at e
  exact e ((sm_iff _).1 this)
theorem all_step (l : List Int) (k : Nat) (h : k < l.length) (h0 : (l.take k).all sm = true) (e : -1099511627776 ≤ l.getD k 0 ∧ l.getD k 0 ≤ 1099511627776) : (l.take (k + 1)).all sm = true := by
  rw [take_snoc l k h, List.all_append, h0]; simpa [sm] using e
set_option maxHeartbeats 400000 in
theorem told_any (a : Option Addr) (cap : Nat) (l : List Int) (w : World) (hl : l.length ≤ 9223372036854775807) (hb : IntsAt .i64 w a l) :
    Calls Tryz.prog 220 #[.slice a l.length cap] w fun e w' => e = .returned (.bool (ok l)) ∧ w = w' := by
  by_cases h16 : 16 < l.length
  · have HF := Lib.hid ((ok_false l).2 (by omega))
    go_enter Tryz.func220, Tryz.ntmps220
    go_wp2
    go_ret
    exact ⟨ret_bool HF.out.symm, rfl⟩
  · have HB := Lib.hid hb
    clear hb
    go_enter Tryz.func220, Tryz.ntmps220
    go_wp2
    go_loop [10] (fun i => ∃ k : Nat, k ≤ l.length ∧ i = .int .i64 k ∧ (l.take k).all sm = true) (fun i => l.length - (intOf i).toNat)
    case atStart => exact ⟨0, by omega, rfl, rfl⟩
    case round =>
      obtain ⟨k, hk, rfl, hall⟩ := hrel
      have HA := Lib.hid hall
      clear hall
      by_cases hlt : k < l.length
      · rcases HB.out with hnil | ⟨b, off, rfl, hc⟩
        · rw [hnil] at hlt; simp at hlt
        have hcell := hc k hlt
        clear hc
        have HT := Lib.hid (all_step l k hlt HA.out)
        have HN := Lib.hid (all_not l k hlt)
        generalize l.getD k 0 = x at *
        by_cases h1 : x < -1099511627776
        · go_wp2
          go_ret
          exact ⟨ret_bool (by rw [HN.out (by omega)]), rfl⟩
        · have d1 : decide (x < -1099511627776) = false := by simpa using h1
          by_cases h2 : 1099511627776 < x
          · go_wp2
            go_ret
            exact ⟨ret_bool (by rw [HN.out (by omega)]), rfl⟩
          · have d2 : decide (1099511627776 < x) = false := by simpa using h2
            go_wp2
            go_round
            case rel => exact ⟨k + 1, by omega, by go_num, HT.out (by omega)⟩
            case measure => simp [intOf]; omega
      · have : k = l.length := by omega
        subst this
        go_wp2
        go_ret
        exact ⟨ret_bool (by have := HA.out; rw [List.take_of_length_le (Nat.le_refl _)] at this; exact ((ok_iff l).2 ⟨by omega, this⟩).symm), rfl⟩
theorem swapped {w : World} {g : Nat} {t : TypeId} {c : List Int} {k : Nat} (h : IRow .i64 w g t c) :
    IRow .i64 ((w.setCell ⟨g, k - 1, none⟩ (.int .i64 (c.getD k 0))).setCell ⟨g, k, none⟩ (.int .i64 (c.getD (k - 1) 0))) g t (swap c k) := (h.set (k - 1) _).set k _
set_option maxHeartbeats 800000 in
theorem sort_any (a : Option Addr) (cap : Nat) (l : List Int) (w : World) (hl : l.length ≤ 9223372036854775807) (hb : IntsAt .i64 w a l) :
    Calls Tryz.prog 197 #[.slice a l.length cap] w (RetI .i64 w (osort l)) := by
  cases hok : ok l
  · have HF := Lib.hid (show osort l = [] by unfold osort; rw [hok]; rfl)
    go_enter Tryz.func197, Tryz.ntmps197
    go_wp2
    go_step3
    go_wp2_with (first | (go_at_call 220; refine (told_any _ _ _ _ hl hb).mono ?_; rintro e w' ⟨rfl, rfl⟩))
    rw [Exit.noGoto_ret]
    go_ret
    exact retI_nil HF.out (Below.refl _ _)
  · have HF := Lib.hid (show osort l = srt l by unfold osort; rw [if_pos hok])
    have h16 := ok_len hok
    have HB := Lib.hid hb
    obtain ⟨i0, hi0, hz0, hz1, hz2⟩ := info_parts intInfo
    go_enter Tryz.func197, Tryz.ntmps197
    go_wp2
    go_step3
    go_wp2_with (first
      | (go_at_call 220; refine (told_any _ _ _ _ hl hb).mono ?_; rintro e w' ⟨rfl, rfl⟩)
      | (at_make; refine wpList_make_full _ rfl _ _ _ rfl w.heap.size 3 i0 (.int .i64 0) 1 Tryz.underlying144 hi0 hz0 hz1 .i64 .i64 _ _ l.length rfl rfl rfl rfl (by rw [hz2]; omega) (by unfold maxLen; omega) (Nat.le_refl _) ?_; intro w1 own1 grown1
         have R1 := Lib.hid (IRow.of_own own1 (zeros_cellsI _)); have B1 := Lib.hid ((Below.refl w.heap.size w).grown grown1 (Nat.le_refl _) (by simp)); clear own1 grown1)
      | (refine wpList_copyI (o := ⟨some 13, _, _, _, _, _⟩) rfl (.tmp 11) (.tmp 12) _ rfl 3 Tryz.underlying144 intSize .i64 w.heap.size 0 (List.replicate l.length 0) l 3 _ _ _ _ _ _ rfl rfl R1.out (by simp) (fun _ => rfl) (HB.out.below B1.out) (by simp) w.heap.size w B1.out (Nat.le_refl _) ?_
         intro w2 R2' B2'; have R2 := Lib.hid (show IRow _ _ _ _ l from (splice_whole (List.replicate l.length 0) l (by simp)) ▸ R2'.out); have B2 := Lib.hid B2'; clear R2' B2'))
    clear hb
    go_simp
    go_step3
    go_wp2
    go_loopg [4] (inv l) (fun g _ wr => ∃ c : List Int, c.Perm l ∧ inv c ≤ g ∧ Hid (IRow .i64 wr w.heap.size 3 c) ∧ Hid (Below w.heap.size w wr))
    case atStart => exact ⟨l, List.Perm.refl _, Nat.le_refl _, R2, B2⟩
    case round =>
      obtain ⟨c, hp, hg, R3, B3⟩ := hrel
      have hcl := hp.length_eq
      have HL := Lib.hid hcl
      have hl1 : c.length ≤ l.length := by omega
      have hl2 : l.length ≤ c.length := by omega
      clear hcl
      go_wp2
      go_loopg [4] l.length (fun gg s4 wx => ∃ j : Nat, s4 = .int .i64 ((j : Int) + 1) ∧ j + gg = l.length ∧ Hid (Up (c.take (j + 1))) ∧ Hid (IRow .i64 wx w.heap.size 3 c) ∧ Hid (Below w.heap.size w wx))
      case atStart => exact ⟨0, rfl, by omega, Lib.hid (up_one c), R3, B3⟩
      case round =>
        obtain ⟨j, rfl, hjg, U4, R4, B4⟩ := hrel
        have hj1 : j ≤ l.length := by omega
        by_cases hlt : j + 1 < l.length
        · have hc1 := R4.out.cell j (by omega)
          have hc2 := R4.out.cell (j + 1) (by omega)
          have hf1 := R4.out.frozen j
          have hf2 := R4.out.frozen (j + 1)
          have HS := Lib.hid (swap_inv c (j + 1) (by omega) (by omega))
          have HP := Lib.hid (swap_perm c (j + 1) (by omega) (by omega))
          have HW := Lib.hid (swapped R4.out (k := j + 1))
          have HU := Lib.hid (up_take c (j + 1) (by omega) (by omega) U4.out)
          simp only [Nat.add_sub_cancel] at HS HP HW HU
          generalize c.getD j 0 = x at *
          generalize c.getD (j + 1) 0 = y at *
          have hi1 : (j : Int) + 1 < (l.length : Int) := by omega
          have hjl : (j : Int) < (l.length : Int) := by omega
          by_cases hxy : y < x
          · have d1 : decide (y < x) = true := by simpa using hxy
            go_wp2
            go_quiet (fail)
            go_wp2
            go_region
            go_wp2
            go_roundg (inv (swap c (j + 1)))
            case rel => exact ⟨swap c (j + 1), HP.out.trans hp, Nat.le_refl _, HW.out, ((below_drewN B4.out _).setCell (Nat.le_refl _) _).setCell (Nat.le_refl _) _⟩
            case measure => have := HS.out hxy; omega
          · have d1 : decide (y < x) = false := by simpa using hxy
            go_wp2
            go_quiet (fail)
            go_wp2
            go_roundg (gk - 1)
            case rel => exact ⟨j + 1, by go_num, by omega, Lib.hid (HU.out (by omega)), R4.out.drewN _, below_drewN B4.out _⟩
            case measure => omega
        · go_wp2
          rw [Exit.noGoto_ret]
          go_ret
          exact retI_mk (srt_of hp (by have := U4.out; rwa [List.take_of_length_le (by omega)] at this) |>.trans HF.out.symm) (by omega) R4.out.ints B4.out
end Od
end Go.Proofs.YtpoededbmdffpaaGreatDoor
