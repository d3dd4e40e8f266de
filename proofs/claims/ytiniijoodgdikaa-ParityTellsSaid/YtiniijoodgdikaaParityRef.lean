/-
  What the document's answers for layer 13 (package rudderref13) return: contracts by walking the Go text. No conditions beyond the numbers' kinds and where the lists lie.
-/
import Derived.Test.YtiniijoodgdikaaParityMath
import Derived.Test.YtiniijoodgdikaaOrderRef2
import Derived.Test.YtiniijoodgdikaaAgg
namespace Go.Proofs.Ytiniijoodgdikaa
open Go.ChangeShapes Go.WideShapes Go.ChangeAt Go.RowKit Go.Deep
namespace Pa
open Fx Od

theorem rintInfo : (Try.prog.info? 3).map (fun i => (i.zero, i.size, i.bytes)) = some (some (.int .i64 0), 1, 8) := by kernel_rfl

set_option maxHeartbeats 1600000 in
theorem rres_any (a : Option Addr) (cap : Nat) (l : List Int) (w : World) (hl : l.length ≤ 9223372036854775807) (hb : IntsAt .i64 w a l) :
    Calls Try.prog 8 #[.slice a l.length cap] w (RetI .i64 w (res l)) := by
  by_cases hs : l.length < 2 ∨ 4 < l.length
  · have HF := Lib.hid (res_no (fit_short hs))
    rcases hs with h2 | h4
    · have d1 : decide ((l.length : Int) < 2) = true := by simp; omega
      go_enter Try.func8, Try.ntmps8
      go_wp2
      go_ret
      exact retI_nil HF.out (Below.refl _ _)
    · have d1 : decide ((l.length : Int) < 2) = false := by simp; omega
      have d2 : decide (4 < (l.length : Int)) = true := by simp; omega
      go_enter Try.func8, Try.ntmps8
      go_wp2
      go_ret
      exact retI_nil HF.out (Below.refl _ _)
  · have d1 : decide ((l.length : Int) < 2) = false := by simp; omega
    have d2 : decide (4 < (l.length : Int)) = false := by simp; omega
    have h2 : 2 ≤ l.length := by omega
    have h4 : l.length ≤ 4 := by omega
    have HB := Lib.hid hb
    clear hb hs
    go_enter Try.func8, Try.ntmps8
    go_wp2
    go_loopg [3] l.length (fun g s3 wr => ∃ k : Nat, k + g = l.length ∧ s3 = .int .i64 k ∧ (l.take k).all fr = true ∧ Hid (∃ n, wr = w.drewN n))
    case atStart => exact ⟨0, by omega, rfl, rfl, Lib.hid ⟨0, rfl⟩⟩
    case round =>
      obtain ⟨k, hk, rfl, hall, HN⟩ := hrel
      have HA := Lib.hid hall
      clear hall
      by_cases hlt : k < l.length
      · rcases HB.out with hnil | ⟨b, o, rfl, hc⟩
        · rw [hnil] at hlt; simp at hlt
        have hcell : wr.cell? ⟨b, o + k, none⟩ = some (.int .i64 (l.getD k 0)) := by obtain ⟨n, rfl⟩ := HN.out; exact hc k hlt
        clear hc
        have HT := Lib.hid (fr_step l k hlt HA.out)
        have HX := Lib.hid (fit_not l k hlt)
        generalize l.getD k 0 = x at *
        by_cases h1 : x < -4294967296
        · have e1 : decide (x < -4294967296) = true := by simpa using h1
          go_wp2
          go_ret
          exact retI_nil (res_no (HX.out (by omega))) (by obtain ⟨n, rfl⟩ := HN.out; exact below_drewN (Below.refl _ _) _)
        · have e1 : decide (x < -4294967296) = false := by simpa using h1
          by_cases h2 : 4294967296 < x
          · have e2 : decide (4294967296 < x) = true := by simpa using h2
            go_wp2
            go_ret
            exact retI_nil (res_no (HX.out (by omega))) (by obtain ⟨n, rfl⟩ := HN.out; exact below_drewN (Below.refl _ _) _)
          · have e2 : decide (4294967296 < x) = false := by simpa using h2
            go_wp2
            go_roundg (gk - 1)
            case rel => exact ⟨k + 1, by omega, by go_num, HT.out (by omega), by obtain ⟨n, rfl⟩ := HN.out; exact Lib.hid ⟨_, rfl⟩⟩
            case measure => omega
      · obtain rfl : k = l.length := by omega
        have HK := Lib.hid (fit_end h2 h4 HA.out)
        have HF := Lib.hid (res_yes HK.out)
        have W0 := Lib.hid (show Below w.heap.size w wr by obtain ⟨n, rfl⟩ := HN.out; exact below_drewN (Below.refl _ _) _)
        clear HN HA
        go_wp2
        go_loopg [4, 5] l.length (fun g s4 s5 wx => ∃ k : Nat, k + g = l.length ∧ s5 = .int .i64 k ∧ Hid (OwnI .i64 w.heap.size 3 wx s4 (resTo l k)) ∧ Hid (Below w.heap.size w wx))
        case atStart => exact ⟨0, by omega, rfl, Lib.hid OwnI.nil, W0⟩
        case round =>
          obtain ⟨k, hk, rfl, HO, HW⟩ := hrel
          by_cases hlt : k < l.length
          · have ow := others_len (fit_ok HK.out) hlt
            have bm := others_mid HK.out hlt
            have bl := all_fr ((fit_iff l).1 HK.out).2.2 hlt
            have HS := Lib.hid (resTo_snoc l k)
            unfold resAt at HS
            have rl := resTo_len l k
            have CW := fun W h => rwithout_any a cap l (k : Int) W hl h
            generalize without l (k : Int) = t at *
            have t4 : t.length ≤ 9223372036854775807 := by omega
            have wx : IntKind.i64.wrap (l.getD k 0 - midv t) = l.getD k 0 - midv t := IntWalk.i64_in _ (by omega)
            clear ow
            go_wp2_with fail
            refine (CW _ (HB.out.below HW.out)).mono ?_; rintro e w2 ⟨a2, c2, rfl, i2, b2⟩
            have HO2 := Lib.hid (HO.out.below b2)
            have HW2 := Lib.hid (grow HW.out b2)
            have I2 := Lib.hid i2
            clear b2 i2 HO HW CW
            go_wp2_with fail
            refine (rmid_any a2 c2 t _ t4 I2.out).mono ?_; rintro e w3 ⟨rfl, b3⟩
            have HO3 := Lib.hid (HO2.out.below b3)
            have HW3 := Lib.hid (grow HW2.out b3)
            clear b3 HO2 HW2 I2
            rcases (HB.out.below HW3.out) with hnil | ⟨b, o, rfl, hc⟩
            · rw [hnil] at hlt; simp at hlt
            have hcell := hc k hlt
            clear hc
            generalize midv t = m at *
            generalize l.getD k 0 = x at *
            generalize resTo l k = row at *
            have r4 : row.length < 1099511627776 := by omega
            go_wp2_with (first | ((with_reducible show wpList _ _ _ (⟨some 55, _, _, _, _, _⟩ :: _) _ _); refine wpList_append1 rfl (.tmp 47) (.tmp 54) _ rfl .i64 w.heap.size 3 8 Try.underlying22 rintInfo _ row (x - m) _ rfl rfl HO3.out r4 (by omega) w HW3.out (Nat.le_refl _) ?_; intro v27 w27 O27' B27'; rw [← HS.out] at O27'; have O27 := Lib.hid O27'; have B27 := Lib.hid B27'; clear O27' B27'))
            go_roundg (gk - 1)
            case rel => exact ⟨k + 1, by omega, by go_num, by assumption, B27⟩
            case measure => omega
          · obtain rfl : k = l.length := by omega
            obtain ⟨a2, c2, rfl, i2⟩ := HO.out.form
            have I2 := Lib.hid i2
            clear i2
            go_wp2
            go_ret
            exact retI_mk HF.out.symm rfl I2.out HW.out

set_option maxHeartbeats 1600000 in
theorem rsus_any (a : Option Addr) (cap : Nat) (l : List Int) (b : Int) (w : World) (hl : l.length ≤ 9223372036854775807) (hb : IntsAt .i64 w a l) (hw : -9223372036854775808 ≤ b ∧ b ≤ 9223372036854775807) :
    Calls Try.prog 10 #[.slice a l.length cap, .int .i64 b] w fun e w' => e = .returned (.int .i64 (sus l b)) ∧ Below w.heap.size w w' := by
  have C := rres_any a cap l w hl hb
  have r4 := res_le l
  have RB := Lib.hid (fun k => res_bd l (k := k))
  have hw1 := hw.1
  have hw2 := hw.2
  by_cases hb0 : b < 0
  · have HF := Lib.hid (show sus l b = -1 from if_pos hb0)
    have d0 : decide (0 ≤ b) = false := by simp; omega
    generalize res l = r at *
    clear hw
    go_enter Try.func10, Try.ntmps10
    go_wp2_with fail
    refine C.mono ?_; rintro e w1 ⟨a1, c1, rfl, i1, b1⟩
    have HW := Lib.hid b1
    clear i1 b1 C hb
    go_wp2_with fail
    go_loopg [6, 8] r.length (fun g s6 s8 wr => ∃ k : Nat, k + g = r.length ∧ s6 = .int .i64 0 ∧ s8 = .int .i64 k ∧ Hid (∃ n, wr = w1.drewN n))
    case atStart => exact ⟨0, by omega, rfl, rfl, Lib.hid ⟨0, rfl⟩⟩
    case round =>
      obtain ⟨k, hk, rfl, rfl, HN⟩ := hrel
      by_cases hlt : k < r.length
      · go_wp2
        go_roundg (gk - 1)
        case rel => exact ⟨k + 1, by omega, rfl, by go_num, by obtain ⟨n, rfl⟩ := HN.out; exact Lib.hid ⟨_, rfl⟩⟩
        case measure => omega
      · obtain rfl : k = r.length := by omega
        obtain ⟨n, rfl⟩ := HN.out
        go_wp2
        go_ret
        exact ⟨ret_int HF.out.symm, below_drewN HW.out _⟩
  · have HF := Lib.hid (show sus l b = susOf b (res l) from if_neg hb0)
    have d0 : decide (0 ≤ b) = true := by simp; omega
    have wn : IntKind.i64.wrap (-b) = -b := IntWalk.i64_in _ (by omega)
    generalize res l = r at *
    clear hw
    go_enter Try.func10, Try.ntmps10
    go_wp2_with fail
    refine C.mono ?_; rintro e w1 ⟨a1, c1, rfl, i1, b1⟩
    have HI := Lib.hid i1
    have HW := Lib.hid b1
    clear i1 b1 C hb
    go_wp2_with fail
    go_loopg [6, 7, 8] r.length (fun g s6 s7 s8 wr => ∃ k : Nat, k + g = r.length ∧ s8 = .int .i64 k ∧ s6 = .int .i64 (offs b r k : Nat) ∧ s7 = .int .i64 (last b r k) ∧ Hid (∃ n, wr = w1.drewN n))
    case atStart => exact ⟨0, by omega, rfl, rfl, rfl, Lib.hid ⟨0, rfl⟩⟩
    case round =>
      obtain ⟨k, hk, rfl, rfl, rfl, HN⟩ := hrel
      have o1 := offs_le b r k
      by_cases hlt : k < r.length
      · rcases HI.out with hnil | ⟨bb, o, rfl, hc⟩
        · rw [hnil] at hlt; simp at hlt
        have hcell : wr.cell? ⟨bb, o + k, none⟩ = some (.int .i64 (r.getD k 0)) := by obtain ⟨n, rfl⟩ := HN.out; exact hc k hlt
        have HY := Lib.hid (fun h => (⟨offs_yes (b := b) (r := r) (k := k) h, last_yes h⟩ : _ ∧ _))
        have HX := Lib.hid (fun h => (⟨offs_no (b := b) (r := r) (k := k) h, last_no h⟩ : _ ∧ _))
        generalize r.getD k 0 = x at *
        generalize offs b r k = n at *
        generalize last b r k = y at *
        clear hc
        by_cases h1 : b < x
        · have d1 : decide (b < x) = true := by simpa using h1
          have HE := HY.out (by unfold off; simp [h1])
          clear HX HY
          go_wp2
          go_roundg (gk - 1)
          case rel => exact ⟨k + 1, by omega, by go_num, by rw [HE.1]; go_num, by rw [HE.2], by obtain ⟨n, rfl⟩ := HN.out; exact Lib.hid ⟨_, rfl⟩⟩
          case measure => omega
        · have d1 : decide (b < x) = false := by simpa using h1
          by_cases h2 : x < -b
          · have d2 : decide (x < -b) = true := by simpa using h2
            have HE := HY.out (by unfold off; simp [h2])
            clear HX HY
            go_wp2
            go_roundg (gk - 1)
            case rel => exact ⟨k + 1, by omega, by go_num, by rw [HE.1]; go_num, by rw [HE.2], by obtain ⟨n, rfl⟩ := HN.out; exact Lib.hid ⟨_, rfl⟩⟩
            case measure => omega
          · have d2 : decide (x < -b) = false := by simpa using h2
            have HE := HX.out (by unfold off; simp [h1, h2])
            clear HX HY
            go_wp2
            go_roundg (gk - 1)
            case rel => exact ⟨k + 1, by omega, by go_num, by rw [HE.1], by rw [HE.2], by obtain ⟨n, rfl⟩ := HN.out; exact Lib.hid ⟨_, rfl⟩⟩
            case measure => omega
      · obtain rfl : k = r.length := by omega
        obtain ⟨n, rfl⟩ := HN.out
        by_cases h1 : offs b r r.length = 1
        · have HG := Lib.hid (show susOf b r = last b r r.length from if_pos h1)
          rw [h1]
          go_wp2
          go_ret
          exact ⟨ret_int (by rw [HF.out, HG.out]), below_drewN HW.out _⟩
        · have HG := Lib.hid (show susOf b r = -1 from if_neg h1)
          generalize offs b r r.length = q at *
          have d2 : ((q : Int) == 1) = false := by simp; omega
          go_wp2
          go_ret
          exact ⟨ret_int (by rw [HF.out, HG.out]), below_drewN HW.out _⟩
end Pa
end Go.Proofs.Ytiniijoodgdikaa
