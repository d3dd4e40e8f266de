/-
  The walk of the law OrderSorted: for every list it returns true, and writes nothing that was there. No conditions.
-/
import Derived.Test.YtkfcgdhicmmklaaOrderSortedEmpty
namespace Go.Proofs.Ytkfcgdhicmmklaa
open Go.ChangeShapes Go.WideShapes Go.ChangeAt Go.RowKit Go.Deep
namespace orderSorted
open Fx Od

theorem count_step (l : List Int) (v : Int) (k : Nat) (h : k < l.length) : (l.take (k + 1)).count v = (l.take k).count v + if l.getD k 0 = v then 1 else 0 := by
  rw [take_snoc l k h, List.count_append, List.count_singleton]
  by_cases e : l.getD k 0 = v
  · simp only [e, if_pos]; simp
  · rw [if_neg e, if_neg (by simpa using e)]
theorem count_yes (l : List Int) (v : Int) (k : Nat) (h : k < l.length) (e : l.getD k 0 = v) : (l.take (k + 1)).count v = (l.take k).count v + 1 := by rw [count_step l v k h, if_pos e]
theorem count_no (l : List Int) (v : Int) (k : Nat) (h : k < l.length) (e : ¬ l.getD k 0 = v) : (l.take (k + 1)).count v = (l.take k).count v := by rw [count_step l v k h, if_neg e]; rfl
theorem count_bd (l : List Int) (v : Int) (k : Nat) : (l.take k).count v ≤ k := Nat.le_trans (List.count_le_length ..) (List.length_take_le _ _)

set_option maxHeartbeats 3200000 in
theorem walk (a : Option Addr) (cap : Nat) (l : List Int) (w : World) (m0 : l.length ≤ maxLen) (_c0 : l.length ≤ cap ∧ cap ≤ maxLen) (_z : cap * 8 ≤ 140737488351232) (_f : ∀ n ∈ l, (Lit.int .i64 n).wf = true) (hb : IntsAt .i64 w a l) :
    Calls Try.prog 4 #[.slice a l.length cap] w fun e w' => e = .returned (.bool true) ∧ Below w.heap.size w w' := by
  unfold maxLen at m0
  by_cases hne : l.length = 0
  · obtain rfl : l = [] := List.eq_nil_of_length_eq_zero hne
    exact walk_empty a cap w
  have hpos : 0 < l.length := by omega
  clear hne
  have C1 := rright_any a cap l w (by omega) hb
  have C2 := sort_any a cap l w (by omega) hb
  have HB := Lib.hid hb
  clear hb
  cases hok : ok l
  · rw [hok] at C1
    go_enter Try.func4, Try.ntmps4
    go_wp2_with fail
    refine C1.mono ?_; rintro e w' ⟨rfl, rfl⟩
    go_wp2_with fail
    refine (alive_any _).mono ?_; rintro e w5 ⟨rfl, b5⟩
    go_wp2
    go_ret
    exact ⟨rfl, b5⟩
  · rw [hok] at C1
    have h16 := ok_len hok
    obtain ⟨s, hs⟩ : ∃ s, osort l = s := ⟨_, rfl⟩
    have hsl := osort_len_ok hok
    have hsrt : s = srt l := by rw [← hs]; unfold osort; rw [if_pos hok]
    have HP := Lib.hid (show s.Perm l by rw [hsrt]; exact srt_perm l)
    have HU := Lib.hid (show Up s by rw [hsrt]; exact srt_up l)
    have HSS := Lib.hid (show osort s = s by unfold osort; rw [ok_perm HP.out, if_pos hok, hsrt, srt_srt])
    have HSP := Lib.hid (show spread l = spreadOf s by unfold spread; rw [if_pos hok, ← hsrt])
    have hsm := Lib.hid (fun x (hx : x ∈ s) => osort_sm hok hs hx)
    rw [hs] at C2 hsl
    clear hs hsrt
    have HL := Lib.hid hsl
    have hl1 : s.length ≤ l.length := by omega
    have hl2 : l.length ≤ s.length := by omega
    have d0 : ((s.length : Int) != (l.length : Int)) = false := by rw [hsl]; simp
    have d00 : ((s.length : Int) == (l.length : Int)) = true := by rw [hsl]; simp
    clear hsl
    go_enter Try.func4, Try.ntmps4
    go_wp2_with fail
    refine C1.mono ?_; rintro e w' ⟨rfl, rfl⟩
    go_wp2_with fail
    refine C2.mono ?_; rintro e w1 ⟨a1, k1, rfl, i1, b1⟩
    have g1 := Lib.hid b1; have I1 := Lib.hid i1; clear b1 i1 C1
    go_wp2_with fail
    go_loopg [5] l.length (fun g s5 wr => ∃ k : Nat, k + g = l.length ∧ s5 = .int .i64 k ∧ Hid (Below w1.heap.size w1 wr))
    case atStart => exact ⟨0, by omega, rfl, Lib.hid (Below.refl _ _)⟩
    case round =>
      rename World => W1
      obtain ⟨i, hig, rfl, B1⟩ := hrel
      by_cases hlt : i < l.length
      · rcases HB.out with hnil | ⟨b, off, rfl, hc⟩
        · rw [hnil] at hlt; simp at hlt
        rcases I1.out with hnil | ⟨b1, off1, rfl, hc1⟩
        · rw [hnil] at hl2; simp at hl2; rw [hl2] at hlt; simp at hlt
        have HC := Lib.hid (fun (k : Nat) (hk : k < l.length) => (g1.out.cell (p := ⟨b, off + k, none⟩) (cell_lt (hc k hk))).trans (hc k hk))
        have HC1 := Lib.hid hc1
        clear hc hc1
        obtain ⟨v, hv⟩ : ∃ v, l.getD i 0 = v := ⟨_, rfl⟩
        have HV := Lib.hid hv
        clear hv
        go_wp2_with fail
        go_loopg [6, 7, 8] l.length (fun g2 s6 s7 s8 wx => ∃ k : Nat, k + g2 = l.length ∧ s8 = .int .i64 k ∧ s6 = .int .i64 ((l.take k).count v : Nat) ∧ s7 = .int .i64 ((s.take k).count v : Nat) ∧ Hid (Below w1.heap.size w1 wx))
        case atStart => exact ⟨0, by omega, rfl, rfl, rfl, B1⟩
        case round =>
          obtain ⟨k, hkg, rfl, rfl, rfl, B2⟩ := hrel
          have cb1 := count_bd l v k
          have cb2 := count_bd s v k
          by_cases hkt : k < l.length
          · have hks : k < s.length := by omega
            have hki : (k : Int) < (l.length : Int) := by omega
            have hksi : (k : Int) < (s.length : Int) := by omega
            have hii : (i : Int) < (l.length : Int) := by omega
            have q1 := (B2.out.cell (p := ⟨b, off + k, none⟩) (cell_lt (HC.out k hkt))).trans (HC.out k hkt)
            have q2 := (B2.out.cell (p := ⟨b, off + i, none⟩) (cell_lt (HC.out i hlt))).trans (HC.out i hlt)
            have q3 := (B2.out.cell (p := ⟨b1, off1 + k, none⟩) (cell_lt (HC1.out k hks))).trans (HC1.out k hks)
            rw [HV.out] at q2
            have Y1 := Lib.hid (count_yes l v k hkt)
            have N1 := Lib.hid (count_no l v k hkt)
            have Y2 := Lib.hid (count_yes s v k hks)
            have N2 := Lib.hid (count_no s v k hks)
            generalize l.getD k 0 = x at *
            generalize s.getD k 0 = y at *
            generalize hA : (l.take k).count v = A at *
            generalize hB : (s.take k).count v = B at *
            clear hA hB
            have wA : IntKind.i64.wrap ((A : Int) + 1) = (A : Int) + 1 := IntWalk.i64_in _ (by omega)
            have wB : IntKind.i64.wrap ((B : Int) + 1) = (B : Int) + 1 := IntWalk.i64_in _ (by omega)
            by_cases hx : x = v
            · have dx : (x == v) = true := by simpa using hx
              have E1 := Lib.hid (Y1.out hx)
              clear hx Y1 N1
              by_cases hy : y = v
              · have dy : (y == v) = true := by simpa using hy
                have E2 := Lib.hid (Y2.out hy)
                clear hy Y2 N2
                go_wp2
                go_quiet (fail)
                go_wp2
                go_quiet (fail)
                go_wp2
                go_roundg (gk - 1)
                case rel => exact ⟨k + 1, by omega, by go_num, by first | (rw [E1.out]; done) | (rw [E1.out]; go_num), by first | (rw [E2.out]; done) | (rw [E2.out]; go_num), Lib.hid (below_drewN B2.out _)⟩
                case measure => omega
              · have dy : (y == v) = false := by simpa using hy
                have E2 := Lib.hid (N2.out hy)
                clear hy Y2 N2
                go_wp2
                go_quiet (fail)
                go_wp2
                go_quiet (fail)
                go_wp2
                go_roundg (gk - 1)
                case rel => exact ⟨k + 1, by omega, by go_num, by first | (rw [E1.out]; done) | (rw [E1.out]; go_num), by first | (rw [E2.out]; done) | (rw [E2.out]; go_num), Lib.hid (below_drewN B2.out _)⟩
                case measure => omega
            · have dx : (x == v) = false := by simpa using hx
              have E1 := Lib.hid (N1.out hx)
              clear hx Y1 N1
              by_cases hy : y = v
              · have dy : (y == v) = true := by simpa using hy
                have E2 := Lib.hid (Y2.out hy)
                clear hy Y2 N2
                go_wp2
                go_quiet (fail)
                go_wp2
                go_quiet (fail)
                go_wp2
                go_roundg (gk - 1)
                case rel => exact ⟨k + 1, by omega, by go_num, by first | (rw [E1.out]; done) | (rw [E1.out]; go_num), by first | (rw [E2.out]; done) | (rw [E2.out]; go_num), Lib.hid (below_drewN B2.out _)⟩
                case measure => omega
              · have dy : (y == v) = false := by simpa using hy
                have E2 := Lib.hid (N2.out hy)
                clear hy Y2 N2
                go_wp2
                go_quiet (fail)
                go_wp2
                go_quiet (fail)
                go_wp2
                go_roundg (gk - 1)
                case rel => exact ⟨k + 1, by omega, by go_num, by first | (rw [E1.out]; done) | (rw [E1.out]; go_num), by first | (rw [E2.out]; done) | (rw [E2.out]; go_num), Lib.hid (below_drewN B2.out _)⟩
                case measure => omega
          · have hk2 : k = l.length := by omega
            subst hk2
            have E := Lib.hid (show (s.take l.length).count v = (l.take l.length).count v by rw [List.take_of_length_le hl1, List.take_of_length_le (Nat.le_refl _)]; exact HP.out.count_eq v)
            rw [E.out]
            generalize (l.take l.length).count v = A at *
            clear cb2 E
            rcases Nat.eq_zero_or_pos i with hi0 | hi0
            · subst hi0
              go_wp2
              go_quiet (fail)
              go_wp2
              go_roundg (l.length - 1)
              case rel => exact ⟨1, by omega, by go_num, Lib.hid (below_drewN B2.out _)⟩
              case measure => omega
            · obtain ⟨j, rfl⟩ : ∃ j, i = j + 1 := ⟨i - 1, by omega⟩
              have q1 := (B2.out.cell (p := ⟨b1, off1 + j, none⟩) (cell_lt (HC1.out j (by omega)))).trans (HC1.out j (by omega))
              have q2 := (B2.out.cell (p := ⟨b1, off1 + (j + 1), none⟩) (cell_lt (HC1.out (j + 1) (by omega)))).trans (HC1.out (j + 1) (by omega))
              have hle := up_getD HU.out (show j ≤ j + 1 by omega) (by omega)
              generalize s.getD j 0 = x at *
              generalize s.getD (j + 1) 0 = y at *
              have dxy : decide (y < x) = false := by simp; omega
              have di : decide (0 < (j : Int) + 1) = true := by simp <;> omega
              have di2 : decide (0 < ((j + 1 : Nat) : Int)) = true := by simp <;> omega
              have wj : IntKind.i64.wrap (j : Int) = j := IntWalk.i64_in _ (by omega)
              have ji : (j : Int) < (s.length : Int) := by omega
              have ji2 : (j : Int) + 1 < (s.length : Int) := by omega
              go_wp2
              go_quiet (fail)
              go_wp2
              go_roundg (l.length - (j + 1 + 1))
              case rel => exact ⟨j + 1 + 1, by omega, by go_num, Lib.hid (below_drewN B2.out _)⟩
              case measure => omega
      · have C3 := sort_any a1 k1 s W1 (by omega) (I1.out.below B1.out)
        rw [HSS.out] at C3
        go_wp2_with fail
        refine C3.mono ?_; rintro e w3 ⟨a3, k3, rfl, i3, b3⟩
        have g3 := Lib.hid (grow B1.out b3); have I3 := Lib.hid i3; clear b3 i3 C3
        go_wp2_with fail
        refine (ints_any _ _ _ _ _ _ _ (by omega) (by omega) I3.out (I1.out.below g3.out)).mono ?_; rintro e w4 ⟨rfl, b4⟩
        rw [same_self]
        have g4 := Lib.hid (grow g3.out b4); clear b4 I3 g3
        have g5 := Lib.hid (grow g1.out g4.out)
        go_wp2_with fail
        rcases Nat.eq_zero_or_pos s.length with h0 | h0
        · exact absurd (show l.length = 0 by omega) (by omega)
        · rcases I1.out with hno | ⟨b1, off1, rfl, hc1⟩
          · rw [hno] at h0; simp at h0
          obtain ⟨m, hm⟩ : ∃ m, s.length = m + 1 := ⟨s.length - 1, by omega⟩
          have m15 : m ≤ 15 := by omega
          have q1 := (g4.out.cell (p := ⟨b1, off1, none⟩) (cell_lt (hc1 0 h0))).trans (hc1 0 h0)
          have q2 := (g4.out.cell (p := ⟨b1, off1 + m, none⟩) (cell_lt (hc1 m (by omega)))).trans (hc1 m (by omega))
          have e1 := hsm.out _ (show s.getD 0 0 ∈ s by rw [getD_at _ _ h0]; exact List.getElem_mem _)
          have e2 := hsm.out _ (show s.getD m 0 ∈ s by rw [getD_at _ _ (by omega)]; exact List.getElem_mem _)
          have HSQ := Lib.hid (show spread l = s.getD m 0 - s.getD 0 0 by rw [HSP.out]; unfold spreadOf; rw [hm]; rfl)
          have hI := HB.out.below g5.out
          have hB := g5.out
          rw [hm]
          have z0 : ((m : Int) + 1 == 0) = false := by simp; omega
          have z1 : (((m + 1 : Nat) : Int) == 0) = false := by simp; omega
          have wm : IntKind.i64.wrap (m : Int) = m := IntWalk.i64_in _ (by omega)
          have m1 : (m : Int) < ((m + 1 : Nat) : Int) := by omega
          have m2 : (m : Int) < (m : Int) + 1 := by omega
          have m3 : 0 ≤ (m : Int) := by omega
          have m4 : (0 : Int) < (m : Int) + 1 := by omega
          clear hc1 hm h0 HSP hsm HSS HU HP I1 hlt
          generalize s.getD 0 0 = x at *
          generalize s.getD m 0 = y at *
          have wd : IntKind.i64.wrap (y - x) = y - x := IntWalk.i64_in _ (by omega)
          have eqs : (spread l == y - x) = true := by rw [HSQ.out]; simp
          have k1 := cell_regrown q1
          have k2 := cell_regrown q2
          have cA := reg_call (w := w4) (fun W _ => alive_any W)
          have cS := reg_call (w := w4) (fun W hW => spread_any a cap l W (by omega) (hI.below hW))
          clear q1 q2
          refine wp_region_quiet_below (by kernel_rfl) (by kernel_rfl) ?_
          repeat (go_big_quiet_step (first | exact cA _ _ | exact cS _ _))
          refine wpQuiet_nil ?_
          intro _ hw'
          obtain ⟨⟨dq, osq⟩, hw''⟩ := hw'
          subst hw''
          go_wp2
          go_ret
          exact ⟨rfl, grow hB (below_regrown w4 dq osq)⟩
end orderSorted
end Go.Proofs.Ytkfcgdhicmmklaa
