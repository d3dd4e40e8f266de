/-
  What the document's answers for layer 12 (package rudderref12) return: contracts by walking the Go text. Conditions: where the lists lie.
-/
import Derived.Test.YtlaffeadgdebhaaVoteMath
import Derived.Test.YtlaffeadgdebhaaFixRefs
import Derived.Test.YtlaffeadgdebhaaJumpRight
import Derived.Test.YtlaffeadgdebhaaOrderRef2
import Derived.Test.YtlaffeadgdebhaaBlk
import Derived.Lib.QuietBelow
import Derived.Lib.MinMax
import Derived.Deep.LoopGhost
namespace Go.Proofs.Ytlaffeadgdebhaa
open Go.ChangeShapes Go.WideShapes Go.ChangeAt Go.RowKit Go.Deep
namespace Vr
open Fx Od Vo
open Jp (val val_iff)

theorem rmay_doc (lo hi clip : Int) : rmay lo hi clip = (val lo && val hi && val clip && decide (lo ≤ hi) && decide (0 ≤ clip)) := by
  rw [Bool.eq_iff_iff, rmay_iff]
  simp only [Bool.and_eq_true, decide_eq_true_eq, val_iff]
  omega
theorem rr_eq (n : Int) (x : Bool) (w : World) (h : val n = x) : Calls Try.prog 19 #[.int .i64 n] w fun e w' => e = .returned (.bool x) ∧ w = w' := by subst h; exact Jp.rright_any n w

set_option maxHeartbeats 1600000 in
theorem rright_any (lo hi clip : Int) (w : World) :
    Calls Try.prog 10 #[.agg #[.int .i64 lo, .int .i64 hi, .int .i64 clip]] w fun e w' => e = .returned (.bool (rmay lo hi clip)) ∧ Below w.heap.size w w' := by
  have HF := Lib.hid (rmay_doc lo hi clip)
  have B := Lib.hid ((Below.refl w.heap.size w).alloc (Nat.le_refl _) (.cells #[.int .i64 lo, .int .i64 hi, .int .i64 clip] 26))
  generalize rmay lo hi clip = r at *
  cases d1 : val lo <;> cases d2 : val hi <;> cases d3 : val clip
  case true.true.true =>
    have D1 := Lib.hid d1
    have D2 := Lib.hid d2
    have D3 := Lib.hid d3
    rw [d1, d2, d3] at HF
    clear d1 d2 d3
    cases d4 : decide (lo ≤ hi)
    · rw [d4] at HF
      go_enter Try.func10, Try.ntmps10
      go_wp2_with (go_at_call 19; refine (rr_eq _ _ _ (by first | exact D1.out | exact D2.out | exact D3.out)).mono ?_; rintro e w' ⟨rfl, rfl⟩)
      go_ret
      exact ⟨ret_bool (by rw [HF.out]; rfl), B.out⟩
    · rw [d4] at HF
      go_enter Try.func10, Try.ntmps10
      go_wp2_with (go_at_call 19; refine (rr_eq _ _ _ (by first | exact D1.out | exact D2.out | exact D3.out)).mono ?_; rintro e w' ⟨rfl, rfl⟩)
      go_ret
      exact ⟨ret_bool (by rw [HF.out]; rfl), B.out⟩
  all_goals
    have D1 := Lib.hid d1
    have D2 := Lib.hid d2
    have D3 := Lib.hid d3
    rw [d1, d2, d3] at HF
    clear d1 d2 d3
    go_enter Try.func10, Try.ntmps10
    go_wp2_with (go_at_call 19; refine (rr_eq _ _ _ (by first | exact D1.out | exact D2.out | exact D3.out)).mono ?_; rintro e w' ⟨rfl, rfl⟩)
    go_ret
    exact ⟨ret_bool (by rw [HF.out]; rfl), B.out⟩

def rul (lo hi clip : Int) : List Value := [.int .i64 lo, .int .i64 hi, .int .i64 clip]
theorem rul_new (w : World) (lo hi clip : Int) (t : TypeId) : VRow (w.alloc (.cells #[.int .i64 lo, .int .i64 hi, .int .i64 clip] t)) w.heap.size t (rul lo hi clip) := VRow.new w _ t
theorem rul_cells {w : World} {g : Nat} {t : TypeId} {lo hi clip : Int} (h : VRow w g t (rul lo hi clip)) : w.cell? ⟨g, 0, none⟩ = some (.int .i64 lo) ∧ w.cell? ⟨g, 1, none⟩ = some (.int .i64 hi) ∧ w.cell? ⟨g, 2, none⟩ = some (.int .i64 clip) :=
  ⟨h.cell 0 rfl, h.cell 1 rfl, h.cell 2 rfl⟩
theorem ret_vote {lo hi clip : Int} {V U : List Int} {n : Int} {b : Bool} (h1 : votv lo hi clip V U = n) (h2 : votb lo hi clip V U = b) :
    Ending.returned (.tuple #[.int .i64 n, .bool b]) = .returned (.tuple #[.int .i64 (votv lo hi clip V U), .bool (votb lo hi clip V U)]) := by rw [h1, h2]

set_option maxHeartbeats 1600000 in
/-- No vote: the rule, or the counts. -/
theorem rvote_no (lo hi clip : Int) (a b : Option Addr) (ca cb : Nat) (V U : List Int) (w : World) (hl : V.length ≤ 9223372036854775807) (_hu : U.length ≤ 9223372036854775807)
    (hn : (rmay lo hi clip && (decide (1 ≤ V.length) && (decide (V.length ≤ 4) && decide (U.length = V.length)))) = false) :
    Calls Try.prog 8 #[.agg #[.int .i64 lo, .int .i64 hi, .int .i64 clip], .slice a V.length ca, .slice b U.length cb] w fun e w' => e = .returned (.tuple #[.int .i64 (votv lo hi clip V U), .bool (votb lo hi clip V U)]) ∧ Below w.heap.size w w' := by
  have hb : votb lo hi clip V U = false := by
    rw [votb_doc]
    revert hn
    cases rmay lo hi clip <;> cases decide (1 ≤ V.length) <;> cases decide (V.length ≤ 4) <;> cases decide (U.length = V.length) <;> simp
  have HF := Lib.hid (ret_vote (votv_no hb) hb).symm
  have B := Lib.hid ((Below.refl w.heap.size w).alloc (Nat.le_refl _) (.cells #[.int .i64 lo, .int .i64 hi, .int .i64 clip] 26))
  have cc := rul_cells (rul_new w lo hi clip 26)
  have C1 := fun W => rright_any lo hi clip W
  clear hb
  cases h1 : rmay lo hi clip
  · rw [h1] at C1
    clear hn h1
    go_enter Try.func8, Try.ntmps8
    go_wp2_with (go_at_call 10; refine (C1 _).mono ?_; rintro e w1 ⟨rfl, b1⟩; have B1 := Lib.hid (grow B.out b1); clear b1)
    go_ret2
    exact ⟨HF.out.symm, B1.out⟩
  · rw [h1] at C1 hn
    clear h1
    by_cases h2 : V.length < 1
    · have e2 : (V.length : Int) < 1 := by omega
      clear hn h2
      go_enter Try.func8, Try.ntmps8
      go_wp2_with (go_at_call 10; refine (C1 _).mono ?_; rintro e w1 ⟨rfl, b1⟩; have B1 := Lib.hid (grow B.out b1); clear b1)
      go_ret2
      exact ⟨HF.out.symm, B1.out⟩
    · have e2 : decide ((V.length : Int) < 1) = false := by simp; omega
      by_cases h3 : 4 < V.length
      · have e3 : (4 : Int) < V.length := by omega
        clear hn h2 h3
        go_enter Try.func8, Try.ntmps8
        go_wp2_with (go_at_call 10; refine (C1 _).mono ?_; rintro e w1 ⟨rfl, b1⟩; have B1 := Lib.hid (grow B.out b1); clear b1)
        go_ret2
        exact ⟨HF.out.symm, B1.out⟩
      · have e3 : decide ((4 : Int) < V.length) = false := by simp; omega
        have h4 : ¬ U.length = V.length := by
          intro h4
          rw [show decide (1 ≤ V.length) = true by simp; omega, show decide (V.length ≤ 4) = true by simp; omega, show decide (U.length = V.length) = true by simpa using h4] at hn
          cases hn
        have e4 : ((U.length : Int) != (V.length : Int)) = true := by simp; omega
        clear hn h2 h3 h4
        go_enter Try.func8, Try.ntmps8
        go_wp2_with (go_at_call 10; refine (C1 _).mono ?_; rintro e w1 ⟨rfl, b1⟩; have B1 := Lib.hid (grow B.out b1); clear b1)
        go_ret2
        exact ⟨HF.out.symm, B1.out⟩

theorem okp_ways {x u : Int} (h : okp x u = false) : x < -4294967296 ∨ (decide (x < -4294967296) = false ∧ 4294967296 < x) ∨ (decide (x < -4294967296) = false ∧ decide (4294967296 < x) = false ∧ u < 1) ∨
    (decide (x < -4294967296) = false ∧ decide (4294967296 < x) = false ∧ decide (u < 1) = false ∧ 16 < u) := by
  simp only [decide_eq_false_iff_not]
  by_cases q : (-4294967296 ≤ x ∧ x ≤ 4294967296) ∧ 1 ≤ u ∧ u ≤ 16
  · rw [(okp_iff x u).2 q] at h; cases h
  · omega
theorem okp_tests {x u : Int} (h : okp x u = true) : decide (x < -4294967296) = false ∧ decide (4294967296 < x) = false ∧ decide (u < 1) = false ∧ decide (16 < u) = false := by
  simp only [decide_eq_false_iff_not]
  have := (okp_iff x u).1 h
  omega
theorem ints_get {w : World} {a : Option Addr} {l : List Int} {k : Nat} (h : IntsAt .i64 w a l) (hk : k < l.length) : ∃ b off, a = some ⟨b, off, none⟩ ∧ w.cell? ⟨b, off + k, none⟩ = some (.int .i64 (l.getD k 0)) := by
  rcases h with rfl | ⟨b, off, rfl, hc⟩
  · simp at hk
  · exact ⟨b, off, rfl, hc k hk⟩

set_option maxHeartbeats 3200000 in
/-- The counts are right: values and weights are looked at one by one. -/
theorem rvote_at (lo hi clip : Int) (a b : Option Addr) (ca cb : Nat) (V U : List Int) (w : World) (hV : IntsAt .i64 w a V) (hU : IntsAt .i64 w b U) (hr : rmay lo hi clip = true) (h1 : 1 ≤ V.length) (h4 : V.length ≤ 4) (hUV : U.length = V.length) :
    Calls Try.prog 8 #[.agg #[.int .i64 lo, .int .i64 hi, .int .i64 clip], .slice a V.length ca, .slice b U.length cb] w fun e w' => e = .returned (.tuple #[.int .i64 (votv lo hi clip V U), .bool (votb lo hi clip V U)]) ∧ Below w.heap.size w w' := by
  have hd : votb lo hi clip V U = okk V U V.length := by
    rw [votb_doc, hr, show decide (1 ≤ V.length) = true by simpa using h1, show decide (V.length ≤ 4) = true by simpa using h4, show decide (U.length = V.length) = true by simpa using hUV]
    rfl
  have HD := Lib.hid hd
  have HNO := Lib.hid (fun h : okk V U V.length = false => (ret_vote (votv_no (hd.trans h)) (hd.trans h)).symm)
  have B := Lib.hid ((Below.refl w.heap.size w).alloc (Nat.le_refl _) (.cells #[.int .i64 lo, .int .i64 hi, .int .i64 clip] 26))
  have R := Lib.hid (rul_new w lo hi clip 26)
  have cc := rul_cells R.out
  have C1 := fun W => rright_any lo hi clip W
  rw [hr] at C1
  have HV := Lib.hid hV
  have HU := Lib.hid hU
  have HR := Lib.hid hr
  have e2 : decide ((V.length : Int) < 1) = false := by simp; omega
  have e3 : decide ((4 : Int) < V.length) = false := by simp; omega
  have e4 : ((U.length : Int) != (V.length : Int)) = false := by simp; omega
  have HL := Lib.hid hUV
  clear hV hU hr hd hUV
  go_enter Try.func8, Try.ntmps8
  go_wp2_with (go_at_call 10; refine (C1 _).mono ?_; rintro e w1 ⟨rfl, b1⟩; have B1 := Lib.hid (grow B.out b1); have R1 := Lib.hid (R.out.below b1 R.out.lt); clear b1)
  clear cc C1 B R
  go_loopg [9] V.length (fun gg s9 wr => ∃ k : Nat, k + gg = V.length ∧ s9 = .int .i64 k ∧ Hid (okk V U k = true) ∧ w1 = wr)
  case atStart => exact ⟨0, by omega, rfl, Lib.hid rfl, rfl⟩
  case round =>
    obtain ⟨k, hk, rfl, HK, rfl⟩ := hrel
    by_cases hlt : k < V.length
    · have hki : (k : Int) < V.length := by omega
      have hk2 : k < U.length := by have := HL.out; omega
      have hki2 : (k : Int) < U.length := by omega
      obtain ⟨b1, o1, rfl, e1⟩ := ints_get (HV.out.below B1.out) hlt
      obtain ⟨b2, o2, rfl, e5⟩ := ints_get (HU.out.below B1.out) hk2
      have HX := Lib.hid (fun h => HNO.out (okk_no (V := V) (U := U) hlt h))
      have HY := Lib.hid (fun (h : okp (V.getD k 0) (U.getD k 0) = true) => (show okk V U (k + 1) = true from by unfold okk; rw [HK.out, h]; rfl))
      have OW := Lib.hid (fun h => okp_ways (x := V.getD k 0) (u := U.getD k 0) h)
      have OT := Lib.hid (fun h => okp_tests (x := V.getD k 0) (u := U.getD k 0) h)
      cases ho : okp (V.getD k 0) (U.getD k 0)
      · have hno := Lib.hid (HX.out ho)
        have hw := OW.out ho
        clear HX HY OW OT ho HNO
        generalize V.getD k 0 = x at *
        generalize U.getD k 0 = u at *
        rcases hw with q1 | ⟨q1, q2⟩ | ⟨q1, q2, q3⟩ | ⟨q1, q2, q3, q4⟩
        all_goals
          go_wp2_with fail
          go_ret2
          exact ⟨hno.out.symm, B1.out⟩
      · have hy := Lib.hid (HY.out ho)
        obtain ⟨q1, q2, q3, q4⟩ := OT.out ho
        clear HX HY OW OT ho
        generalize V.getD k 0 = x at *
        generalize U.getD k 0 = u at *
        go_wp2_with fail
        go_roundg (gk - 1)
        case rel => exact ⟨k + 1, by omega, by go_num, hy, rfl⟩
        case measure => omega
    · obtain rfl : k = V.length := by omega
      have hb := HD.out.trans HK.out
      have M := votb_mid hb
      have HYES := Lib.hid (ret_vote (votv_yes hb) hb).symm
      have hm := (votb_iff.1 hb).1
      have CM := rmid_any a ca V w1 (by omega) (HV.out.below B1.out)
      rw [hm] at CM
      have HM := Lib.hid M
      clear hb M hm HNO HD HK
      go_wp2_with fail
      refine CM.mono ?_; rintro e w2 ⟨rfl, b2⟩
      have B2 := Lib.hid (grow B1.out b2)
      have R2 := Lib.hid (R1.out.below b2 R1.out.lt)
      clear b2 CM B1 R1
      go_wp2_with fail
      have HMF := Lib.hid (mean_floor HM.out)
      generalize midv V = mid at *
      go_loopg [12, 13, 14] V.length (fun gg s12 s13 s14 wr => ∃ k : Nat, k + gg = V.length ∧ s14 = .int .i64 k ∧ s12 = .int .i64 (sumk mid clip V U k) ∧ s13 = .int .i64 (allk U k) ∧ Hid (∃ n, wr = w2.drewN n))
      case atStart => exact ⟨0, by omega, rfl, rfl, rfl, Lib.hid ⟨0, rfl⟩⟩
      case round =>
        obtain ⟨k, hk, rfl, rfl, rfl, HW⟩ := hrel
        by_cases hlt : k < V.length
        · have hki : (k : Int) < V.length := by omega
          have hk2 : k < U.length := by have := HL.out; omega
          have hki2 : (k : Int) < U.length := by omega
          obtain ⟨nw, hw⟩ := HW.out
          have B3 := below_drewN B2.out nw
          obtain ⟨b1, o1, rfl, e1⟩ := ints_get (HV.out.below B3) hlt
          obtain ⟨b2, o2, rfl, e5⟩ := ints_get (HU.out.below B3) hk2
          have cc := rul_cells (R2.out.drewN nw)
          rw [← hw] at e1 e5 cc
          have M := HM.out
          have q1 := sumk_sm M (k := k) (by omega)
          have q2 := allk_bd M k (by omega)
          have q3 := part_sm M hlt
          have q4 := M.u hlt
          have q5 := cl_bd (mid := mid) M.c1 (V.getD k 0)
          have m1 := M.m1
          have m2 := M.m2
          have c1 := M.c1
          have c2 := M.c2
          have HC := Lib.hid (show cl mid clip (V.getD k 0) = min (max (V.getD k 0) (mid - clip)) (mid + clip) from within_mm2 _ _ _ (by omega))
          have HS := Lib.hid (show sumk mid clip V U (k + 1) = sumk mid clip V U k + cl mid clip (V.getD k 0) * U.getD k 0 by rw [Int.mul_comm]; rfl)
          have HA := Lib.hid (show allk U (k + 1) = allk U k + U.getD k 0 from rfl)
          rw [Int.mul_comm] at q3
          rw [HC.out] at HS q3 q5
          clear hw M HC B3
          generalize V.getD k 0 = x at *
          generalize U.getD k 0 = u at *
          generalize sumk mid clip V U k = s at *
          generalize allk U k = z at *
          go_wp2_with fail
          go_quiet (fail)
          go_wp2_with fail
          go_roundg (gk - 1)
          case rel => exact ⟨k + 1, by omega, by go_num, by rw [HS.out], by rw [HA.out], by obtain ⟨n, rfl⟩ := HW.out; exact Lib.hid ⟨_, World.drewN_drewN _ _ _⟩⟩
          case measure => omega
        · obtain rfl : k = V.length := by omega
          obtain ⟨nw, hw⟩ := HW.out
          have B3 := Lib.hid (show Below w.heap.size w wr by rw [hw]; exact below_drewN B2.out nw)
          have cc := rul_cells (show VRow wr w.heap.size _ (rul lo hi clip) by rw [hw]; exact R2.out.drewN nw)
          have CF := fun W => rfloor_any (sumk mid clip V U V.length) (allk U V.length) W
          rw [HMF.out] at CF
          have HW := Lib.hid (show within (meanv mid clip V U) lo hi = min (max (meanv mid clip V U) lo) hi from within_mm2 _ _ _ ((rmay_iff _ _ _).1 HR.out).2.1.1)
          have c0 := cell_regrown cc.1
          have c1 := cell_regrown cc.2.1
          have cF := reg_call (w := wr) (fun W _ => CF W)
          clear hw cc CF HMF HM HR B2 R2
          generalize sumk mid clip V U V.length = s at *
          generalize allk U V.length = z at *
          generalize meanv mid clip V U = m at *
          go_wp2_with fail
          refine wp_region_quiet_below (by kernel_rfl) (by kernel_rfl) ?_
          repeat (go_big_quiet_step (exact cF _ _))
          refine wpQuiet_nil ?_
          intro _ hw'
          obtain ⟨⟨dq, osq⟩, hw''⟩ := hw'
          subst hw''
          go_wp2
          go_ret2
          have E := HYES.out
          rw [HW.out] at E
          exact ⟨E.symm, grow B3.out (below_regrown wr dq osq)⟩
theorem rvote_any (lo hi clip : Int) (a b : Option Addr) (ca cb : Nat) (V U : List Int) (w : World) (hl : V.length ≤ 9223372036854775807) (hu : U.length ≤ 9223372036854775807) (hV : IntsAt .i64 w a V) (hU : IntsAt .i64 w b U) :
    Calls Try.prog 8 #[.agg #[.int .i64 lo, .int .i64 hi, .int .i64 clip], .slice a V.length ca, .slice b U.length cb] w fun e w' => e = .returned (.tuple #[.int .i64 (votv lo hi clip V U), .bool (votb lo hi clip V U)]) ∧ Below w.heap.size w w' := by
  cases h : (rmay lo hi clip && (decide (1 ≤ V.length) && (decide (V.length ≤ 4) && decide (U.length = V.length))))
  · exact rvote_no lo hi clip a b ca cb V U w hl hu h
  · simp only [Bool.and_eq_true, decide_eq_true_eq] at h
    exact rvote_at lo hi clip a b ca cb V U w hV hU h.1 h.2.1 h.2.2.1 h.2.2.2
end Vr
end Go.Proofs.Ytlaffeadgdebhaa
