/-
  What the calls of package parity return, for every argument: contracts by walking the Go text. Its conditions: where the list lies, and that it fits its capacity.
-/
import Derived.Test.YtpoededbmdffpaaGreatDoorParityMath
import Derived.Test.YtpoededbmdffpaaGreatDoorOrderWithout
import Derived.Test.YtpoededbmdffpaaGreatDoorFixWalks
namespace Go.Proofs.YtpoededbmdffpaaGreatDoor
set_option maxRecDepth 100000
open Go.ChangeShapes Go.WideShapes Go.ChangeAt Go.RowKit Go.Deep
namespace Pa
open Fx Od
set_option maxHeartbeats 400000 in
theorem fit_any (a : Option Addr) (cap : Nat) (l : List Int) (w : World) (hl : l.length ≤ 9223372036854775807) (hb : IntsAt .i64 w a l) :
    Calls Tryz.prog 225 #[.slice a l.length cap] w fun e w' => e = .returned (.bool (fit l)) ∧ w = w' := by
  by_cases hs : l.length < 2 ∨ 4 < l.length
  · have HF := Lib.hid (fit_short hs)
    rcases hs with h2 | h4
    · have d1 : decide ((l.length : Int) < 2) = true := by simp; omega
      go_enter Tryz.func225, Tryz.ntmps225
      go_wp2
      go_ret
      exact ⟨ret_bool HF.out.symm, rfl⟩
    · have d1 : decide ((l.length : Int) < 2) = false := by simp; omega
      have d2 : decide (4 < (l.length : Int)) = true := by simp; omega
      go_enter Tryz.func225, Tryz.ntmps225
      go_wp2
      go_ret
      exact ⟨ret_bool HF.out.symm, rfl⟩
  · have d1 : decide ((l.length : Int) < 2) = false := by simp; omega
    have d2 : decide (4 < (l.length : Int)) = false := by simp; omega
    have h2 : 2 ≤ l.length := by omega
    have h4 : l.length ≤ 4 := by omega
    have HB := Lib.hid hb
    clear hb hs
    go_enter Tryz.func225, Tryz.ntmps225
    go_wp2
    go_loop [15] (fun i => ∃ k : Nat, k ≤ l.length ∧ i = .int .i64 k ∧ (l.take k).all fr = true) (fun i => l.length - (intOf i).toNat)
    case atStart => exact ⟨0, by omega, rfl, rfl⟩
    case round =>
      obtain ⟨k, hk, rfl, hall⟩ := hrel
      have HA := Lib.hid hall
      clear hall
      by_cases hlt : k < l.length
      · rcases HB.out with hnil | ⟨b, o, rfl, hc⟩
        · rw [hnil] at hlt; simp at hlt
        have hcell := hc k hlt
        clear hc
        have HT := Lib.hid (fr_step l k hlt HA.out)
        have HN := Lib.hid (fit_not l k hlt)
        generalize l.getD k 0 = x at *
        by_cases h1 : x < -4294967296
        · go_wp2
          go_ret
          exact ⟨ret_bool (by rw [HN.out (by omega)]), rfl⟩
        · have e1 : decide (x < -4294967296) = false := by simpa using h1
          by_cases h2 : 4294967296 < x
          · go_wp2
            go_ret
            exact ⟨ret_bool (by rw [HN.out (by omega)]), rfl⟩
          · have e2 : decide (4294967296 < x) = false := by simpa using h2
            go_wp2
            go_round
            case rel => exact ⟨k + 1, by omega, by go_num, HT.out (by omega)⟩
            case measure => simp [intOf]; omega
      · have : k = l.length := by omega
        subst this
        go_wp2
        go_ret
        exact ⟨ret_bool (fit_end h2 h4 HA.out).symm, rfl⟩
set_option maxHeartbeats 1600000 in
theorem res_any (a : Option Addr) (cap : Nat) (l : List Int) (w : World) (hl : l.length ≤ 9223372036854775807) (hcap : l.length ≤ cap) (hcm : cap ≤ 9223372036854775807) (hb : IntsAt .i64 w a l) :
    Calls Tryz.prog 206 #[.slice a l.length cap] w (RetI .i64 w (res l)) := by
  have C := fit_any a cap l w hl hb
  cases hok : fit l
  · have HF := Lib.hid (res_no hok)
    rw [hok] at C
    go_enter Tryz.func206, Tryz.ntmps206
    go_wp2_with (first | (go_at_call 225; refine C.mono ?_; rintro e w' ⟨rfl, rfl⟩))
    go_ret
    exact retI_nil HF.out (Below.refl _ _)
  · have HF := Lib.hid (res_yes hok)
    rw [hok] at C
    have q := (fit_iff l).1 hok
    have h4 : l.length ≤ 4 := q.2.1
    have HK := Lib.hid hok
    have HB := Lib.hid hb
    clear hb q hok
    obtain ⟨i0, hi0, hz0, hz1, hz2⟩ := info_parts intInfo
    go_enter Tryz.func206, Tryz.ntmps206
    go_wp2_with (first
      | (go_at_call 225; refine C.mono ?_; rintro e w' ⟨rfl, rfl⟩)
      | (at_make; refine wpList_make_full _ rfl _ _ _ rfl w.heap.size 3 i0 (.int .i64 0) 1 Tryz.underlying144 hi0 hz0 hz1 .i64 .i64 _ _ l.length rfl rfl rfl rfl (by rw [hz2]; omega) (by unfold maxLen; omega) (Nat.le_refl _) ?_; intro w1 own1 grown1
         have R1 := Lib.hid (IRow.of_own own1 (zeros_cellsI _)); have B1 := Lib.hid ((Below.refl w.heap.size w).grown grown1 (Nat.le_refl _) (by simp)); clear own1 grown1))
    go_loopg [15] l.length (fun g s15 wr => ∃ k : Nat, k + g = l.length ∧ s15 = .int .i64 k ∧ Hid (IRow .i64 wr w.heap.size 3 (fill l k)) ∧ Hid (Below w.heap.size w wr))
    case atStart => exact ⟨0, by omega, rfl, Lib.hid (by rw [fill_zero]; exact R1.out), B1⟩
    case round =>
      obtain ⟨k, hk, rfl, HR, HW⟩ := hrel
      by_cases hlt : k < l.length
      · have CW := Lib.hid (fun W h => without_any a cap l (k : Int) W hl hcap hcm h)
        have ow := others_len (fit_ok HK.out) hlt
        have bm := others_mid HK.out hlt
        have bl := all_fr ((fit_iff l).1 HK.out).2.2 hlt
        have HS := Lib.hid (fill_set hlt)
        unfold resAt at HS
        have HI := Lib.hid (HB.out.below HW.out)
        have CW := without_any a cap l (k : Int) _ hl hcap hcm HI.out
        generalize without l (k : Int) = t at *
        have t4 : t.length ≤ 9223372036854775807 := by omega
        have wx : IntKind.i64.wrap (l.getD k 0 - midv t) = l.getD k 0 - midv t := IntWalk.i64_in _ (by omega)
        clear ow
        go_wp2_with fail
        refine CW.mono ?_; rintro e w2 ⟨a2, c2, rfl, i2, b2⟩
        have HR2 := Lib.hid (HR.out.below b2 HR.out.lt)
        have HW2 := Lib.hid (grow HW.out b2)
        have I2 := Lib.hid i2
        clear b2 i2 HR HW HI CW
        go_wp2_with fail
        refine (mid_any a2 c2 t _ t4 I2.out).mono ?_; rintro e w3 ⟨rfl, b3⟩
        have HR3 := Lib.hid (HR2.out.below b3 HR2.out.lt)
        have HW3 := Lib.hid (grow HW2.out b3)
        clear b3 HR2 HW2 I2
        rcases (HB.out.below HW3.out) with hnil | ⟨b, o, rfl, hc⟩
        · rw [hnil] at hlt; simp at hlt
        have hcell := hc k hlt
        have hf := HR3.out.frozen k
        have hg := HR3.out.cell k (by rw [fill_len (by omega)]; exact hlt)
        clear hc
        generalize midv t = m at *
        generalize l.getD k 0 = x at *
        generalize (fill l k).getD k 0 = y at *
        have HZ := Lib.hid (show IRow .i64 (w3.setCell ⟨w.heap.size, k, none⟩ (.int .i64 (x - m))) w.heap.size 3 (fill l (k + 1)) by rw [← HS.out]; exact HR3.out.set k (x - m))
        go_wp2_with fail
        go_roundg (gk - 1)
        case rel => exact ⟨k + 1, by omega, by go_num, HZ, Lib.hid (HW3.out.setCell (Nat.le_refl _) _)⟩
        case measure => omega
      · obtain rfl : k = l.length := by omega
        go_wp2
        go_ret
        exact retI_mk (by rw [fill_all]; exact HF.out.symm) (by rw [fill_len (Nat.le_refl _)]) HR.out.ints HW.out
set_option maxHeartbeats 1600000 in
theorem sus_any (a : Option Addr) (cap : Nat) (l : List Int) (b : Int) (w : World) (hl : l.length ≤ 9223372036854775807) (hcap : l.length ≤ cap) (hcm : cap ≤ 9223372036854775807) (hb : IntsAt .i64 w a l) :
    Calls Tryz.prog 169 #[.slice a l.length cap, .int .i64 b] w fun e w' => e = .returned (.int .i64 (sus l b)) ∧ Below w.heap.size w w' := by
  by_cases hb0 : b < 0
  · have HF := Lib.hid (show sus l b = -1 from if_pos hb0)
    go_enter Tryz.func169, Tryz.ntmps169
    go_wp2
    go_ret
    exact ⟨ret_int HF.out.symm, Below.refl _ _⟩
  · have C := res_any a cap l w hl hcap hcm hb
    have d0 : decide (b < 0) = false := by simpa using hb0
    have HF := Lib.hid (show sus l b = susOf b (res l) from if_neg hb0)
    have r4 := res_le l
    have RB := Lib.hid (fun k => res_bd l (k := k))
    generalize res l = r at *
    go_enter Tryz.func169, Tryz.ntmps169
    go_wp2_with fail
    refine C.mono ?_; rintro e w1 ⟨a1, c1, rfl, i1, b1⟩
    have HI := Lib.hid i1
    have HW := Lib.hid b1
    clear i1 b1 C hb
    go_wp2_with fail
    go_loopg [6, 14] r.length (fun g s6 s14 wr => ∃ k : Nat, k + g = r.length ∧ s14 = .int .i64 k ∧ s6 = .int .i64 (last b r k) ∧ Hid (offs b r k ≤ 1) ∧ Hid (∃ n, wr = w1.drewN n))
    case atStart => exact ⟨0, by omega, rfl, rfl, Lib.hid (Nat.zero_le _), Lib.hid ⟨0, rfl⟩⟩
    case round =>
      obtain ⟨k, hk, rfl, rfl, HO, HN⟩ := hrel
      by_cases hlt : k < r.length
      · rcases HI.out with hnil | ⟨bb, o, rfl, hc⟩
        · rw [hnil] at hlt; simp at hlt
        have hcell : wr.cell? ⟨bb, o + k, none⟩ = some (.int .i64 (r.getD k 0)) := by obtain ⟨n, rfl⟩ := HN.out; exact hc k hlt
        have hbd := RB.out k hlt
        have HD := Lib.hid (off_apart (b := b) hbd)
        have HY := Lib.hid (fun h => (⟨offs_yes (b := b) (r := r) (k := k) h, last_yes h⟩ : _ ∧ _))
        have HX := Lib.hid (fun h => (⟨offs_no (b := b) (r := r) (k := k) h, last_no h⟩ : _ ∧ _))
        have HT := Lib.hid (fun h => susOf_two (b := b) (r := r) (k := k + 1) hlt h)
        have l1 := last_bd b r k
        have HZ := Lib.hid (last_none (b := b) (r := r) (k := k))
        have HQ := Lib.hid (last_some (b := b) (r := r) (k := k))
        generalize r.getD k 0 = x at *
        generalize last b r k = y at *
        clear hc
        cases hx : off b x
        · have d1 : decide (apart x 0 ≤ b) = true := by rw [HD.out, hx]; rfl
          have HE := HX.out hx
          clear HD HY HX HT HZ HQ l1 hbd
          go_wp2_with (first | (go_at_call 168; refine (apart_any _ _ _).mono ?_; rintro e w' ⟨rfl, rfl⟩))
          go_roundg (gk - 1)
          case rel => exact ⟨k + 1, by omega, by go_num, by rw [HE.2], Lib.hid (by rw [HE.1]; exact HO.out), by obtain ⟨n, rfl⟩ := HN.out; exact Lib.hid ⟨_, rfl⟩⟩
          case measure => omega
        · have d1 : decide (apart x 0 ≤ b) = false := by rw [HD.out, hx]; rfl
          have HE := HY.out hx
          by_cases hy : y = -1
          · have d2 : (y == -1) = true := by simpa using hy
            have d3 : (y != -1) = false := by simpa using hy
            have h0 : offs b r k = 0 := by
              rcases Nat.eq_zero_or_pos (offs b r k) with h | h
              · exact h
              · have := HQ.out h; omega
            have H0 := Lib.hid h0
            clear HD HY HX HT HZ HQ l1 hbd hy h0
            go_wp2_with (first | (go_at_call 168; refine (apart_any _ _ _).mono ?_; rintro e w' ⟨rfl, rfl⟩))
            go_roundg (gk - 1)
            case rel => exact ⟨k + 1, by omega, by go_num, by rw [HE.2], Lib.hid (by rw [HE.1, H0.out]; exact Nat.le_refl _), by obtain ⟨n, rfl⟩ := HN.out; exact Lib.hid ⟨_, rfl⟩⟩
            case measure => omega
          · have d2 : (y == -1) = false := by simpa using hy
            have d3 : (y != -1) = true := by simpa using hy
            have h0 : 1 ≤ offs b r k := by
              rcases Nat.eq_zero_or_pos (offs b r k) with h | h
              · exact absurd (HZ.out h) hy
              · exact h
            have HT2 := Lib.hid (HT.out (by rw [HE.1]; omega))
            clear HD HY HX HT HZ HQ l1 hbd h0
            go_wp2_with (first | (go_at_call 168; refine (apart_any _ _ _).mono ?_; rintro e w' ⟨rfl, rfl⟩))
            go_ret
            exact ⟨ret_int (by rw [HF.out, HT2.out]), by obtain ⟨n, rfl⟩ := HN.out; exact below_drewN HW.out _⟩
      · obtain rfl : k = r.length := by omega
        have HL := Lib.hid (susOf_last HO.out)
        obtain ⟨n, rfl⟩ := HN.out
        go_wp2
        go_ret
        exact ⟨ret_int (by rw [HF.out, HL.out]), below_drewN HW.out _⟩
end Pa
end Go.Proofs.YtpoededbmdffpaaGreatDoor
