/-
  What Clamp, Near, Apart, Floor and Shift of the document's answers for layer 1 (package rudderref01) return: contracts by walking the Go text (cut out of FixRef, over Ref01, for later layers). No conditions beyond the numbers' kinds.
  What the document's answers for layer 12 (package rudderref12) return: contracts by walking the Go text. Conditions: where the lists lie.
  What the document's answers for layer 13 (package rudderref13) return: contracts by walking the Go text. No conditions beyond the numbers' kinds and where the lists lie.
-/
import Derived.Test.YtacclmfbkiadbaaGreatJFixWalks3
import Derived.Test.YtacclmfbkiadbaaGreatJJumpRight6
import Derived.Test.YtacclmfbkiadbaaGreatJStuckMath6
import Derived.Test.YtacclmfbkiadbaaGreatJAgg5
import Derived.Lib.QuietBelow
import Derived.Lib.MinMax
import Derived.Deep.LoopGhost
namespace Go.Proofs.YtacclmfbkiadbaaGreat
set_option maxRecDepth 100000
open Go.ChangeShapes Go.WideShapes Go.ChangeAt Go.RowKit
namespace Fx
theorem rall2 (w : World) (t : TypeId) (x y : Int) :
    Calls Tryz.prog 112 #[.slice (some ⟨w.heap.size, 0, none⟩) 2 2] (w.alloc (.cells #[.int .i64 x, .int .i64 y] t))
      fun e w' => e = .returned (.bool (sm x && sm y)) ∧ (w.alloc (.cells #[.int .i64 x, .int .i64 y] t)) = w' :=
  (rall_any _ 2 [x, y] _ (by simp) (ints2 w t x y)).mono fun e w' ⟨h, h'⟩ => ⟨by rw [h]; simp, h'⟩
set_option maxHeartbeats 400000 in
theorem rfloor_any (n b : Int) (w : World) :
    Calls Tryz.prog 114 #[.int .i64 n, .int .i64 b] w fun e w' => e = .returned (.int .i64 (floor n b)) ∧ Below w.heap.size w w' := by
  cases hs : (sm n && sm b)
  · have HF := Lib.hid (show floor n b = 0 by unfold floor; rw [if_neg (by intro h; simp [h] at hs)])
    go_enter Tryz.func114, Tryz.ntmps114
    go_wp2_with (first | (go_at_call 112; refine (rall2 _ _ _ _).mono ?_; rintro e w' ⟨rfl, rfl⟩))
    go_ret
    exact ⟨ret_int (by rw [HF.out]), by go_grown⟩
  · have hs' : sm n = true ∧ sm b = true := by simpa [and_assoc] using hs
    have b1 := sm_bd hs'.1
    have b2 := sm_bd hs'.2
    by_cases h1 : 1 ≤ b
    · have HF := Lib.hid (show floor n b = n / b by unfold floor; rw [if_pos ⟨hs'.1, hs'.2, h1⟩])
      clear hs'
      by_cases h2 : 0 ≤ n
      · have bd := div_bd n b h1 h2
        go_enter Tryz.func114, Tryz.ntmps114
        go_wp2_with (first | (go_at_call 112; refine (rall2 _ _ _ _).mono ?_; rintro e w' ⟨rfl, rfl⟩))
        go_ret
        exact ⟨ret_int (by rw [HF.out]), by go_grown⟩
      · have bd := div_bd (b - 1 - n) b h1 (by omega)
        have HD := Lib.hid (div_up n b h1)
        go_enter Tryz.func114, Tryz.ntmps114
        go_wp2_with (first | (go_at_call 112; refine (rall2 _ _ _ _).mono ?_; rintro e w' ⟨rfl, rfl⟩))
        go_ret
        exact ⟨ret_int (by rw [HF.out, HD.out]), by go_grown⟩
    · have HF := Lib.hid (show floor n b = 0 by unfold floor; rw [if_neg (by omega)])
      clear hs'
      go_enter Tryz.func114, Tryz.ntmps114
      go_wp2_with (first | (go_at_call 112; refine (rall2 _ _ _ _).mono ?_; rintro e w' ⟨rfl, rfl⟩))
      go_ret
      exact ⟨ret_int (by rw [HF.out]), by go_grown⟩
theorem floor_pow (n : Int) (k : Nat) (h : k ≤ 40) (hn : sm n = true) : floor n (2 ^ k) = n / 2 ^ k := by
  have h1 := pow_le40 k h
  have h2 := pow_pos2 k
  unfold floor; rw [if_pos ⟨hn, (sm_iff _).2 ⟨by omega, by omega⟩, h2⟩]
set_option maxHeartbeats 400000 in
theorem rshift_any (n b : Int) (w : World) :
    Calls Tryz.prog 78 #[.int .i64 n, .int .i64 b] w fun e w' => e = .returned (.int .i64 (shift n b)) ∧ Below w.heap.size w w' := by
  cases h1 : sm n
  case true =>
    by_cases h3 : 0 ≤ b
    · by_cases h4 : b ≤ 40
      · have HF := Lib.hid (show shift n b = n / 2 ^ b.toNat by unfold shift; rw [if_pos ⟨h1, h3, h4⟩])
        obtain ⟨m, rfl⟩ := Int.eq_ofNat_of_zero_le h3
        have HP := Lib.hid (floor_pow n m (by omega) h1)
        have d1 : decide ((m : Int) < 0) = false := by simp
        have d2 : decide (40 < (m : Int)) = false := by simp; omega
        go_enter Tryz.func78, Tryz.ntmps78
        go_wp2_with (first | (go_at_call 113; refine (rsmall_any _ _).mono ?_; rintro e w' ⟨rfl, rfl⟩))
        go_loop [6, 7] (fun p i => ∃ k : Nat, k ≤ m ∧ i = .int .i64 k ∧ p = .int .i64 (2 ^ k)) (fun _ i => m - (intOf i).toNat)
        case atStart => exact ⟨0, by omega, rfl, rfl⟩
        case round =>
          obtain ⟨k, hk, rfl, rfl⟩ := hrel
          have p1 := pow_le40 k (by omega)
          have p2 := pow_pos2 k
          by_cases hlt : k < m
          · have HS := Lib.hid (pow_succ2 k)
            go_wp2_with fail
            go_round
            case rel => exact ⟨k + 1, by omega, by go_num, by rw [HS.out]⟩
            case measure => simp [intOf]; omega
          · have : k = m := by omega
            subst this
            go_wp2_with (first | (go_at_call 114; refine (rfloor_any _ _ _).mono ?_; rintro e w' ⟨rfl, hb⟩))
            go_ret
            exact ⟨ret_int (by rw [HF.out, HP.out]; simp), hb⟩
      · have HF := Lib.hid (show shift n b = 0 by unfold shift; rw [if_neg (by omega)])
        have d1 : decide (b < 0) = false := by simp; omega
        have d2 : decide (40 < b) = true := by simp; omega
        go_enter Tryz.func78, Tryz.ntmps78
        go_wp2_with (first | (go_at_call 113; refine (rsmall_any _ _).mono ?_; rintro e w' ⟨rfl, rfl⟩))
        go_ret
        exact ⟨ret_int (by rw [HF.out]), Below.refl _ _⟩
    · have HF := Lib.hid (show shift n b = 0 by unfold shift; rw [if_neg (by omega)])
      have d1 : decide (b < 0) = true := by simp; omega
      go_enter Tryz.func78, Tryz.ntmps78
      go_wp2_with (first | (go_at_call 113; refine (rsmall_any _ _).mono ?_; rintro e w' ⟨rfl, rfl⟩))
      go_ret
      exact ⟨ret_int (by rw [HF.out]), Below.refl _ _⟩
  case false =>
    have HF := Lib.hid (show shift n b = 0 by unfold shift; rw [h1]; simp)
    go_enter Tryz.func78, Tryz.ntmps78
    go_wp2_with (first | (go_at_call 113; refine (rsmall_any _ _).mono ?_; rintro e w' ⟨rfl, rfl⟩))
    go_ret
    exact ⟨ret_int (by rw [HF.out]), Below.refl _ _⟩
end Fx
end Go.Proofs.YtacclmfbkiadbaaGreat

namespace Go.Proofs.YtacclmfbkiadbaaGreat
set_option maxRecDepth 100000
open Go.ChangeShapes Go.WideShapes Go.ChangeAt Go.RowKit Go.Deep
namespace Vr
open Fx Od Vo
open Jp (val val_iff)
theorem rmay_doc (lo hi clip : Int) : rmay lo hi clip = (val lo && val hi && val clip && decide (lo ≤ hi) && decide (0 ≤ clip)) := by
  rw [Bool.eq_iff_iff, rmay_iff]
  simp only [Bool.and_eq_true, decide_eq_true_eq, val_iff]
  omega
theorem rr_eq (n : Int) (x : Bool) (w : World) (h : val n = x) : Calls Tryz.prog 110 #[.int .i64 n] w fun e w' => e = .returned (.bool x) ∧ w = w' := by subst h; exact Jp.rright_any n w
set_option maxHeartbeats 1600000 in
theorem rright_any (lo hi clip : Int) (w : World) :
    Calls Tryz.prog 115 #[.agg #[.int .i64 lo, .int .i64 hi, .int .i64 clip]] w fun e w' => e = .returned (.bool (rmay lo hi clip)) ∧ Below w.heap.size w w' := by
  have HF := Lib.hid (rmay_doc lo hi clip)
  have B := Lib.hid ((Below.refl w.heap.size w).alloc (Nat.le_refl _) (.cells #[.int .i64 lo, .int .i64 hi, .int .i64 clip] 144))
  generalize rmay lo hi clip = r at *
  cases d1 : val lo <;> cases d2 : val hi <;> cases d3 : val clip
  case true.true.true =>
    have D1 := Lib.hid d1
    have D2 := Lib.hid d2
    have D3 := Lib.hid d3
    rw [d1, d2, d3] at HF
    clear d1 d2 d3
    cases d4 : decide (lo ≤ hi)
    · rw [d4] at HF
      go_enter Tryz.func115, Tryz.ntmps115
      go_wp2_with (go_at_call 110; refine (rr_eq _ _ _ (by first | exact D1.out | exact D2.out | exact D3.out)).mono ?_; rintro e w' ⟨rfl, rfl⟩)
      go_ret
      exact ⟨ret_bool (by rw [HF.out]; rfl), B.out⟩
    · rw [d4] at HF
      go_enter Tryz.func115, Tryz.ntmps115
      go_wp2_with (go_at_call 110; refine (rr_eq _ _ _ (by first | exact D1.out | exact D2.out | exact D3.out)).mono ?_; rintro e w' ⟨rfl, rfl⟩)
      go_ret
      exact ⟨ret_bool (by rw [HF.out]; rfl), B.out⟩
  all_goals
    have D1 := Lib.hid d1
    have D2 := Lib.hid d2
    have D3 := Lib.hid d3
    rw [d1, d2, d3] at HF
    clear d1 d2 d3
    go_enter Tryz.func115, Tryz.ntmps115
    go_wp2_with (go_at_call 110; refine (rr_eq _ _ _ (by first | exact D1.out | exact D2.out | exact D3.out)).mono ?_; rintro e w' ⟨rfl, rfl⟩)
    go_ret
    exact ⟨ret_bool (by rw [HF.out]; rfl), B.out⟩
def rul (lo hi clip : Int) : List Value := [.int .i64 lo, .int .i64 hi, .int .i64 clip]
theorem rul_new (w : World) (lo hi clip : Int) (t : TypeId) : VRow (w.alloc (.cells #[.int .i64 lo, .int .i64 hi, .int .i64 clip] t)) w.heap.size t (rul lo hi clip) := VRow.new w _ t
theorem rul_cells {w : World} {g : Nat} {t : TypeId} {lo hi clip : Int} (h : VRow w g t (rul lo hi clip)) : w.cell? ⟨g, 0, none⟩ = some (.int .i64 lo) ∧ w.cell? ⟨g, 1, none⟩ = some (.int .i64 hi) ∧ w.cell? ⟨g, 2, none⟩ = some (.int .i64 clip) :=
  ⟨h.cell 0 rfl, h.cell 1 rfl, h.cell 2 rfl⟩
theorem ret_vote {lo hi clip : Int} {V U : List Int} {n : Int} {b : Bool} (h1 : votv lo hi clip V U = n) (h2 : votb lo hi clip V U = b) :
    Ending.returned (.tuple #[.int .i64 n, .bool b]) = .returned (.tuple #[.int .i64 (votv lo hi clip V U), .bool (votb lo hi clip V U)]) := by rw [h1, h2]
set_option maxHeartbeats 1600000 in
/-- No vote: the rule, or the counts. -/
theorem rvote_no (lo hi clip : Int) (a b : Option Addr) (ca cb : Nat) (V U : List Int) (w : World) (hl : V.length ≤ 9223372036854775807) (_hu : U.length ≤ 9223372036854775807)
    (hn : (rmay lo hi clip && (decide (1 ≤ V.length) && (decide (V.length ≤ 4) && decide (U.length = V.length)))) = false) :
    Calls Tryz.prog 79 #[.agg #[.int .i64 lo, .int .i64 hi, .int .i64 clip], .slice a V.length ca, .slice b U.length cb] w fun e w' => e = .returned (.tuple #[.int .i64 (votv lo hi clip V U), .bool (votb lo hi clip V U)]) ∧ Below w.heap.size w w' := by
  have hb : votb lo hi clip V U = false := by
    rw [votb_doc]
    revert hn
    cases rmay lo hi clip <;> cases decide (1 ≤ V.length) <;> cases decide (V.length ≤ 4) <;> cases decide (U.length = V.length) <;> simp
  have HF := Lib.hid (ret_vote (votv_no hb) hb).symm
  have B := Lib.hid ((Below.refl w.heap.size w).alloc (Nat.le_refl _) (.cells #[.int .i64 lo, .int .i64 hi, .int .i64 clip] 144))
  have cc := rul_cells (rul_new w lo hi clip 144)
  have C1 := fun W => rright_any lo hi clip W
  clear hb
  cases h1 : rmay lo hi clip
  · rw [h1] at C1
    clear hn h1
    go_enter Tryz.func79, Tryz.ntmps79
    go_wp2_with (go_at_call 115; refine (C1 _).mono ?_; rintro e w1 ⟨rfl, b1⟩; have B1 := Lib.hid (grow B.out b1); clear b1)
    go_ret2
    exact ⟨HF.out.symm, B1.out⟩
  · rw [h1] at C1 hn
    clear h1
    by_cases h2 : V.length < 1
    · have e2 : (V.length : Int) < 1 := by omega
      clear hn h2
      go_enter Tryz.func79, Tryz.ntmps79
      go_wp2_with (go_at_call 115; refine (C1 _).mono ?_; rintro e w1 ⟨rfl, b1⟩; have B1 := Lib.hid (grow B.out b1); clear b1)
      go_ret2
      exact ⟨HF.out.symm, B1.out⟩
    · have e2 : decide ((V.length : Int) < 1) = false := by simp; omega
      by_cases h3 : 4 < V.length
      · have e3 : (4 : Int) < V.length := by omega
        clear hn h2 h3
        go_enter Tryz.func79, Tryz.ntmps79
        go_wp2_with (go_at_call 115; refine (C1 _).mono ?_; rintro e w1 ⟨rfl, b1⟩; have B1 := Lib.hid (grow B.out b1); clear b1)
        go_ret2
        exact ⟨HF.out.symm, B1.out⟩
      · have e3 : decide ((4 : Int) < V.length) = false := by simp; omega
        have h4 : ¬ U.length = V.length := by
          intro h4
          rw [show decide (1 ≤ V.length) = true by simp; omega, show decide (V.length ≤ 4) = true by simp; omega, show decide (U.length = V.length) = true by simpa using h4] at hn
          cases hn
        have e4 : ((U.length : Int) != (V.length : Int)) = true := by simp; omega
        clear hn h2 h3 h4
        go_enter Tryz.func79, Tryz.ntmps79
        go_wp2_with (go_at_call 115; refine (C1 _).mono ?_; rintro e w1 ⟨rfl, b1⟩; have B1 := Lib.hid (grow B.out b1); clear b1)
        go_ret2
        exact ⟨HF.out.symm, B1.out⟩
theorem okp_ways {x u : Int} (h : okp x u = false) : x < -4294967296 ∨ (decide (x < -4294967296) = false ∧ 4294967296 < x) ∨ (decide (x < -4294967296) = false ∧ decide (4294967296 < x) = false ∧ u < 1) ∨
    (decide (x < -4294967296) = false ∧ decide (4294967296 < x) = false ∧ decide (u < 1) = false ∧ 16 < u) := by
  simp only [decide_eq_false_iff_not]
  by_cases q : (-4294967296 ≤ x ∧ x ≤ 4294967296) ∧ 1 ≤ u ∧ u ≤ 16
  · rw [(okp_iff x u).2 q] at h; cases h
  · omega
theorem okp_tests {x u : Int} (h : okp x u = true) : decide (x < -4294967296) = false ∧ decide (4294967296 < x) = false ∧ decide (u < 1) = false ∧ decide (16 < u) = false := by
  simp only [decide_eq_false_iff_not]
  have := (okp_iff x u).1 h
  omega
theorem ints_get {w : World} {a : Option Addr} {l : List Int} {k : Nat} (h : IntsAt .i64 w a l) (hk : k < l.length) : ∃ b off, a = some ⟨b, off, none⟩ ∧ w.cell? ⟨b, off + k, none⟩ = some (.int .i64 (l.getD k 0)) := by
  rcases h with rfl | ⟨b, off, rfl, hc⟩
  · simp at hk
  · exact ⟨b, off, rfl, hc k hk⟩
set_option maxHeartbeats 3200000 in
/-- The counts are right: values and weights are looked at one by one. -/
theorem rvote_at (lo hi clip : Int) (a b : Option Addr) (ca cb : Nat) (V U : List Int) (w : World) (hV : IntsAt .i64 w a V) (hU : IntsAt .i64 w b U) (hr : rmay lo hi clip = true) (h1 : 1 ≤ V.length) (h4 : V.length ≤ 4) (hUV : U.length = V.length) :
    Calls Tryz.prog 79 #[.agg #[.int .i64 lo, .int .i64 hi, .int .i64 clip], .slice a V.length ca, .slice b U.length cb] w fun e w' => e = .returned (.tuple #[.int .i64 (votv lo hi clip V U), .bool (votb lo hi clip V U)]) ∧ Below w.heap.size w w' := by
  have hd : votb lo hi clip V U = okk V U V.length := by
    rw [votb_doc, hr, show decide (1 ≤ V.length) = true by simpa using h1, show decide (V.length ≤ 4) = true by simpa using h4, show decide (U.length = V.length) = true by simpa using hUV]
    rfl
  have HD := Lib.hid hd
  have HNO := Lib.hid (fun h : okk V U V.length = false => (ret_vote (votv_no (hd.trans h)) (hd.trans h)).symm)
  have B := Lib.hid ((Below.refl w.heap.size w).alloc (Nat.le_refl _) (.cells #[.int .i64 lo, .int .i64 hi, .int .i64 clip] 144))
  have R := Lib.hid (rul_new w lo hi clip 144)
  have cc := rul_cells R.out
  have C1 := fun W => rright_any lo hi clip W
  rw [hr] at C1
  have HV := Lib.hid hV
  have HU := Lib.hid hU
  have HR := Lib.hid hr
  have e2 : decide ((V.length : Int) < 1) = false := by simp; omega
  have e3 : decide ((4 : Int) < V.length) = false := by simp; omega
  have e4 : ((U.length : Int) != (V.length : Int)) = false := by simp; omega
  have HL := Lib.hid hUV
  clear hV hU hr hd hUV
  go_enter Tryz.func79, Tryz.ntmps79
  go_wp2_with (go_at_call 115; refine (C1 _).mono ?_; rintro e w1 ⟨rfl, b1⟩; have B1 := Lib.hid (grow B.out b1); have R1 := Lib.hid (R.out.below b1 R.out.lt); clear b1)
  clear cc C1 B R
  go_loopg [9] V.length (fun gg s9 wr => ∃ k : Nat, k + gg = V.length ∧ s9 = .int .i64 k ∧ Hid (okk V U k = true) ∧ w1 = wr)
  case atStart => exact ⟨0, by omega, rfl, Lib.hid rfl, rfl⟩
  case round =>
    obtain ⟨k, hk, rfl, HK, rfl⟩ := hrel
    by_cases hlt : k < V.length
    · have hki : (k : Int) < V.length := by omega
      have hk2 : k < U.length := by have := HL.out; omega
      have hki2 : (k : Int) < U.length := by omega
      obtain ⟨b1, o1, rfl, e1⟩ := ints_get (HV.out.below B1.out) hlt
      obtain ⟨b2, o2, rfl, e5⟩ := ints_get (HU.out.below B1.out) hk2
      have HX := Lib.hid (fun h => HNO.out (okk_no (V := V) (U := U) hlt h))
      have HY := Lib.hid (fun (h : okp (V.getD k 0) (U.getD k 0) = true) => (show okk V U (k + 1) = true from by unfold okk; rw [HK.out, h]; rfl))
      have OW := Lib.hid (fun h => okp_ways (x := V.getD k 0) (u := U.getD k 0) h)
      have OT := Lib.hid (fun h => okp_tests (x := V.getD k 0) (u := U.getD k 0) h)
      cases ho : okp (V.getD k 0) (U.getD k 0)
      · have hno := Lib.hid (HX.out ho)
        have hw := OW.out ho
        clear HX HY OW OT ho HNO
        generalize V.getD k 0 = x at *
        generalize U.getD k 0 = u at *
        rcases hw with q1 | ⟨q1, q2⟩ | ⟨q1, q2, q3⟩ | ⟨q1, q2, q3, q4⟩
        all_goals
          go_wp2_with fail
          go_ret2
          exact ⟨hno.out.symm, B1.out⟩
      · have hy := Lib.hid (HY.out ho)
        obtain ⟨q1, q2, q3, q4⟩ := OT.out ho
        clear HX HY OW OT ho
        generalize V.getD k 0 = x at *
        generalize U.getD k 0 = u at *
        go_wp2_with fail
        go_roundg (gk - 1)
        case rel => exact ⟨k + 1, by omega, by go_num, hy, rfl⟩
        case measure => omega
    · obtain rfl : k = V.length := by omega
      have hb := HD.out.trans HK.out
      have M := votb_mid hb
      have HYES := Lib.hid (ret_vote (votv_yes hb) hb).symm
      have hm := (votb_iff.1 hb).1
      have CM := rmid_any a ca V w1 (by omega) (HV.out.below B1.out)
      rw [hm] at CM
      have HM := Lib.hid M
      clear hb M hm HNO HD HK
      go_wp2_with fail
      refine CM.mono ?_; rintro e w2 ⟨rfl, b2⟩
      have B2 := Lib.hid (grow B1.out b2)
      have R2 := Lib.hid (R1.out.below b2 R1.out.lt)
      clear b2 CM B1 R1
      go_wp2_with fail
      have HMF := Lib.hid (mean_floor HM.out)
      generalize midv V = mid at *
      go_loopg [12, 13, 14] V.length (fun gg s12 s13 s14 wr => ∃ k : Nat, k + gg = V.length ∧ s14 = .int .i64 k ∧ s12 = .int .i64 (sumk mid clip V U k) ∧ s13 = .int .i64 (allk U k) ∧ Hid (∃ n, wr = w2.drewN n))
      case atStart => exact ⟨0, by omega, rfl, rfl, rfl, Lib.hid ⟨0, rfl⟩⟩
      case round =>
        obtain ⟨k, hk, rfl, rfl, rfl, HW⟩ := hrel
        by_cases hlt : k < V.length
        · have hki : (k : Int) < V.length := by omega
          have hk2 : k < U.length := by have := HL.out; omega
          have hki2 : (k : Int) < U.length := by omega
          obtain ⟨nw, hw⟩ := HW.out
          have B3 := below_drewN B2.out nw
          obtain ⟨b1, o1, rfl, e1⟩ := ints_get (HV.out.below B3) hlt
          obtain ⟨b2, o2, rfl, e5⟩ := ints_get (HU.out.below B3) hk2
          have cc := rul_cells (R2.out.drewN nw)
          rw [← hw] at e1 e5 cc
          have M := HM.out
          have q1 := sumk_sm M (k := k) (by omega)
          have q2 := allk_bd M k (by omega)
          have q3 := part_sm M hlt
          have q4 := M.u hlt
          have q5 := cl_bd (mid := mid) M.c1 (V.getD k 0)
          have m1 := M.m1
          have m2 := M.m2
          have c1 := M.c1
          have c2 := M.c2
          have HC := Lib.hid (show cl mid clip (V.getD k 0) = min (max (V.getD k 0) (mid - clip)) (mid + clip) from within_mm2 _ _ _ (by omega))
          have HS := Lib.hid (show sumk mid clip V U (k + 1) = sumk mid clip V U k + cl mid clip (V.getD k 0) * U.getD k 0 by rw [Int.mul_comm]; rfl)
          have HA := Lib.hid (show allk U (k + 1) = allk U k + U.getD k 0 from rfl)
          rw [Int.mul_comm] at q3
          rw [HC.out] at HS q3 q5
          clear hw M HC B3
          generalize V.getD k 0 = x at *
          generalize U.getD k 0 = u at *
          generalize sumk mid clip V U k = s at *
          generalize allk U k = z at *
          go_wp2_with fail
          go_quiet (fail)
          go_wp2_with fail
          go_roundg (gk - 1)
          case rel => exact ⟨k + 1, by omega, by go_num, by rw [HS.out], by rw [HA.out], by obtain ⟨n, rfl⟩ := HW.out; exact Lib.hid ⟨_, World.drewN_drewN _ _ _⟩⟩
          case measure => omega
        · obtain rfl : k = V.length := by omega
          obtain ⟨nw, hw⟩ := HW.out
          have B3 := Lib.hid (show Below w.heap.size w wr by rw [hw]; exact below_drewN B2.out nw)
          have cc := rul_cells (show VRow wr w.heap.size _ (rul lo hi clip) by rw [hw]; exact R2.out.drewN nw)
          have CF := fun W => rfloor_any (sumk mid clip V U V.length) (allk U V.length) W
          rw [HMF.out] at CF
          have HW := Lib.hid (show within (meanv mid clip V U) lo hi = min (max (meanv mid clip V U) lo) hi from within_mm2 _ _ _ ((rmay_iff _ _ _).1 HR.out).2.1.1)
          have c0 := cell_regrown cc.1
          have c1 := cell_regrown cc.2.1
          have cF := reg_call (w := wr) (fun W _ => CF W)
          clear hw cc CF HMF HM HR B2 R2
          generalize sumk mid clip V U V.length = s at *
          generalize allk U V.length = z at *
          generalize meanv mid clip V U = m at *
          go_wp2_with fail
          refine wp_region_quiet_below (by kernel_rfl) (by kernel_rfl) ?_
          repeat (go_big_quiet_step (exact cF _ _))
          refine wpQuiet_nil ?_
          intro _ hw'
          obtain ⟨⟨dq, osq⟩, hw''⟩ := hw'
          subst hw''
          go_wp2
          go_ret2
          have E := HYES.out
          rw [HW.out] at E
          exact ⟨E.symm, grow B3.out (below_regrown wr dq osq)⟩
theorem rvote_any (lo hi clip : Int) (a b : Option Addr) (ca cb : Nat) (V U : List Int) (w : World) (hl : V.length ≤ 9223372036854775807) (hu : U.length ≤ 9223372036854775807) (hV : IntsAt .i64 w a V) (hU : IntsAt .i64 w b U) :
    Calls Tryz.prog 79 #[.agg #[.int .i64 lo, .int .i64 hi, .int .i64 clip], .slice a V.length ca, .slice b U.length cb] w fun e w' => e = .returned (.tuple #[.int .i64 (votv lo hi clip V U), .bool (votb lo hi clip V U)]) ∧ Below w.heap.size w w' := by
  cases h : (rmay lo hi clip && (decide (1 ≤ V.length) && (decide (V.length ≤ 4) && decide (U.length = V.length))))
  · exact rvote_no lo hi clip a b ca cb V U w hl hu h
  · simp only [Bool.and_eq_true, decide_eq_true_eq] at h
    exact rvote_at lo hi clip a b ca cb V U w hV hU h.1 h.2.1 h.2.2.1 h.2.2.2
end Vr
end Go.Proofs.YtacclmfbkiadbaaGreat

namespace Go.Proofs.YtacclmfbkiadbaaGreat
set_option maxRecDepth 100000
open Go.ChangeShapes Go.WideShapes Go.ChangeAt Go.RowKit Go.Deep
namespace Pa
open Fx Od
theorem rintInfo : (Tryz.prog.info? 3).map (fun i => (i.zero, i.size, i.bytes)) = some (some (.int .i64 0), 1, 8) := by kernel_rfl
set_option maxHeartbeats 1600000 in
theorem rres_any (a : Option Addr) (cap : Nat) (l : List Int) (w : World) (hl : l.length ≤ 9223372036854775807) (hb : IntsAt .i64 w a l) :
    Calls Tryz.prog 116 #[.slice a l.length cap] w (RetI .i64 w (res l)) := by
  by_cases hs : l.length < 2 ∨ 4 < l.length
  · have HF := Lib.hid (res_no (fit_short hs))
    rcases hs with h2 | h4
    · have d1 : decide ((l.length : Int) < 2) = true := by simp; omega
      go_enter Tryz.func116, Tryz.ntmps116
      go_wp2
      go_ret
      exact retI_nil HF.out (Below.refl _ _)
    · have d1 : decide ((l.length : Int) < 2) = false := by simp; omega
      have d2 : decide (4 < (l.length : Int)) = true := by simp; omega
      go_enter Tryz.func116, Tryz.ntmps116
      go_wp2
      go_ret
      exact retI_nil HF.out (Below.refl _ _)
  · have d1 : decide ((l.length : Int) < 2) = false := by simp; omega
    have d2 : decide (4 < (l.length : Int)) = false := by simp; omega
    have h2 : 2 ≤ l.length := by omega
    have h4 : l.length ≤ 4 := by omega
    have HB := Lib.hid hb
    clear hb hs
    go_enter Tryz.func116, Tryz.ntmps116
    go_wp2
    go_loopg [3] l.length (fun g s3 wr => ∃ k : Nat, k + g = l.length ∧ s3 = .int .i64 k ∧ (l.take k).all fr = true ∧ Hid (∃ n, wr = w.drewN n))
    case atStart => exact ⟨0, by omega, rfl, rfl, Lib.hid ⟨0, rfl⟩⟩
    case round =>
      obtain ⟨k, hk, rfl, hall, HN⟩ := hrel
      have HA := Lib.hid hall
      clear hall
      by_cases hlt : k < l.length
      · rcases HB.out with hnil | ⟨b, o, rfl, hc⟩
        · rw [hnil] at hlt; simp at hlt
        have hcell : wr.cell? ⟨b, o + k, none⟩ = some (.int .i64 (l.getD k 0)) := by obtain ⟨n, rfl⟩ := HN.out; exact hc k hlt
        clear hc
        have HT := Lib.hid (fr_step l k hlt HA.out)
        have HX := Lib.hid (fit_not l k hlt)
        generalize l.getD k 0 = x at *
        by_cases h1 : x < -4294967296
        · have e1 : decide (x < -4294967296) = true := by simpa using h1
          go_wp2
          go_ret
          exact retI_nil (res_no (HX.out (by omega))) (by obtain ⟨n, rfl⟩ := HN.out; exact below_drewN (Below.refl _ _) _)
        · have e1 : decide (x < -4294967296) = false := by simpa using h1
          by_cases h2 : 4294967296 < x
          · have e2 : decide (4294967296 < x) = true := by simpa using h2
            go_wp2
            go_ret
            exact retI_nil (res_no (HX.out (by omega))) (by obtain ⟨n, rfl⟩ := HN.out; exact below_drewN (Below.refl _ _) _)
          · have e2 : decide (4294967296 < x) = false := by simpa using h2
            go_wp2
            go_roundg (gk - 1)
            case rel => exact ⟨k + 1, by omega, by go_num, HT.out (by omega), by obtain ⟨n, rfl⟩ := HN.out; exact Lib.hid ⟨_, rfl⟩⟩
            case measure => omega
      · obtain rfl : k = l.length := by omega
        have HK := Lib.hid (fit_end h2 h4 HA.out)
        have HF := Lib.hid (res_yes HK.out)
        have W0 := Lib.hid (show Below w.heap.size w wr by obtain ⟨n, rfl⟩ := HN.out; exact below_drewN (Below.refl _ _) _)
        clear HN HA
        go_wp2
        go_loopg [4, 5] l.length (fun g s4 s5 wx => ∃ k : Nat, k + g = l.length ∧ s5 = .int .i64 k ∧ Hid (OwnI .i64 w.heap.size 3 wx s4 (resTo l k)) ∧ Hid (Below w.heap.size w wx))
        case atStart => exact ⟨0, by omega, rfl, Lib.hid OwnI.nil, W0⟩
        case round =>
          obtain ⟨k, hk, rfl, HO, HW⟩ := hrel
          by_cases hlt : k < l.length
          · have ow := others_len (fit_ok HK.out) hlt
            have bm := others_mid HK.out hlt
            have bl := all_fr ((fit_iff l).1 HK.out).2.2 hlt
            have HS := Lib.hid (resTo_snoc l k)
            unfold resAt at HS
            have rl := resTo_len l k
            have CW := fun W h => rwithout_any a cap l (k : Int) W hl h
            generalize without l (k : Int) = t at *
            have t4 : t.length ≤ 9223372036854775807 := by omega
            have wx : IntKind.i64.wrap (l.getD k 0 - midv t) = l.getD k 0 - midv t := IntWalk.i64_in _ (by omega)
            clear ow
            go_wp2_with fail
            refine (CW _ (HB.out.below HW.out)).mono ?_; rintro e w2 ⟨a2, c2, rfl, i2, b2⟩
            have HO2 := Lib.hid (HO.out.below b2)
            have HW2 := Lib.hid (grow HW.out b2)
            have I2 := Lib.hid i2
            clear b2 i2 HO HW CW
            go_wp2_with fail
            refine (rmid_any a2 c2 t _ t4 I2.out).mono ?_; rintro e w3 ⟨rfl, b3⟩
            have HO3 := Lib.hid (HO2.out.below b3)
            have HW3 := Lib.hid (grow HW2.out b3)
            clear b3 HO2 HW2 I2
            rcases (HB.out.below HW3.out) with hnil | ⟨b, o, rfl, hc⟩
            · rw [hnil] at hlt; simp at hlt
            have hcell := hc k hlt
            clear hc
            generalize midv t = m at *
            generalize l.getD k 0 = x at *
            generalize resTo l k = row at *
            have r4 : row.length < 1099511627776 := by omega
            go_wp2_with (first | ((with_reducible show wpList _ _ _ (⟨some 55, _, _, _, _, _⟩ :: _) _ _); refine wpList_append1 rfl (.tmp 47) (.tmp 54) _ rfl .i64 w.heap.size 3 8 Tryz.underlying55 rintInfo _ row (x - m) _ rfl rfl HO3.out r4 (by omega) w HW3.out (Nat.le_refl _) ?_; intro v27 w27 O27' B27'; rw [← HS.out] at O27'; have O27 := Lib.hid O27'; have B27 := Lib.hid B27'; clear O27' B27'))
            go_roundg (gk - 1)
            case rel => exact ⟨k + 1, by omega, by go_num, by assumption, B27⟩
            case measure => omega
          · obtain rfl : k = l.length := by omega
            obtain ⟨a2, c2, rfl, i2⟩ := HO.out.form
            have I2 := Lib.hid i2
            clear i2
            go_wp2
            go_ret
            exact retI_mk HF.out.symm rfl I2.out HW.out
set_option maxHeartbeats 1600000 in
theorem rsus_any (a : Option Addr) (cap : Nat) (l : List Int) (b : Int) (w : World) (hl : l.length ≤ 9223372036854775807) (hb : IntsAt .i64 w a l) (hw : -9223372036854775808 ≤ b ∧ b ≤ 9223372036854775807) :
    Calls Tryz.prog 80 #[.slice a l.length cap, .int .i64 b] w fun e w' => e = .returned (.int .i64 (sus l b)) ∧ Below w.heap.size w w' := by
  have C := rres_any a cap l w hl hb
  have r4 := res_le l
  have RB := Lib.hid (fun k => res_bd l (k := k))
  have hw1 := hw.1
  have hw2 := hw.2
  by_cases hb0 : b < 0
  · have HF := Lib.hid (show sus l b = -1 from if_pos hb0)
    have d0 : decide (0 ≤ b) = false := by simp; omega
    generalize res l = r at *
    clear hw
    go_enter Tryz.func80, Tryz.ntmps80
    go_wp2_with fail
    refine C.mono ?_; rintro e w1 ⟨a1, c1, rfl, i1, b1⟩
    have HW := Lib.hid b1
    clear i1 b1 C hb
    go_wp2_with fail
    go_loopg [6, 8] r.length (fun g s6 s8 wr => ∃ k : Nat, k + g = r.length ∧ s6 = .int .i64 0 ∧ s8 = .int .i64 k ∧ Hid (∃ n, wr = w1.drewN n))
    case atStart => exact ⟨0, by omega, rfl, rfl, Lib.hid ⟨0, rfl⟩⟩
    case round =>
      obtain ⟨k, hk, rfl, rfl, HN⟩ := hrel
      by_cases hlt : k < r.length
      · go_wp2
        go_roundg (gk - 1)
        case rel => exact ⟨k + 1, by omega, rfl, by go_num, by obtain ⟨n, rfl⟩ := HN.out; exact Lib.hid ⟨_, rfl⟩⟩
        case measure => omega
      · obtain rfl : k = r.length := by omega
        obtain ⟨n, rfl⟩ := HN.out
        go_wp2
        go_ret
        exact ⟨ret_int HF.out.symm, below_drewN HW.out _⟩
  · have HF := Lib.hid (show sus l b = susOf b (res l) from if_neg hb0)
    have d0 : decide (0 ≤ b) = true := by simp; omega
    have wn : IntKind.i64.wrap (-b) = -b := IntWalk.i64_in _ (by omega)
    generalize res l = r at *
    clear hw
    go_enter Tryz.func80, Tryz.ntmps80
    go_wp2_with fail
    refine C.mono ?_; rintro e w1 ⟨a1, c1, rfl, i1, b1⟩
    have HI := Lib.hid i1
    have HW := Lib.hid b1
    clear i1 b1 C hb
    go_wp2_with fail
    go_loopg [6, 7, 8] r.length (fun g s6 s7 s8 wr => ∃ k : Nat, k + g = r.length ∧ s8 = .int .i64 k ∧ s6 = .int .i64 (offs b r k : Nat) ∧ s7 = .int .i64 (last b r k) ∧ Hid (∃ n, wr = w1.drewN n))
    case atStart => exact ⟨0, by omega, rfl, rfl, rfl, Lib.hid ⟨0, rfl⟩⟩
    case round =>
      obtain ⟨k, hk, rfl, rfl, rfl, HN⟩ := hrel
      have o1 := offs_le b r k
      by_cases hlt : k < r.length
      · rcases HI.out with hnil | ⟨bb, o, rfl, hc⟩
        · rw [hnil] at hlt; simp at hlt
        have hcell : wr.cell? ⟨bb, o + k, none⟩ = some (.int .i64 (r.getD k 0)) := by obtain ⟨n, rfl⟩ := HN.out; exact hc k hlt
        have HY := Lib.hid (fun h => (⟨offs_yes (b := b) (r := r) (k := k) h, last_yes h⟩ : _ ∧ _))
        have HX := Lib.hid (fun h => (⟨offs_no (b := b) (r := r) (k := k) h, last_no h⟩ : _ ∧ _))
        generalize r.getD k 0 = x at *
        generalize offs b r k = n at *
        generalize last b r k = y at *
        clear hc
        by_cases h1 : b < x
        · have d1 : decide (b < x) = true := by simpa using h1
          have HE := HY.out (by unfold off; simp [h1])
          clear HX HY
          go_wp2
          go_roundg (gk - 1)
          case rel => exact ⟨k + 1, by omega, by go_num, by rw [HE.1]; go_num, by rw [HE.2], by obtain ⟨n, rfl⟩ := HN.out; exact Lib.hid ⟨_, rfl⟩⟩
          case measure => omega
        · have d1 : decide (b < x) = false := by simpa using h1
          by_cases h2 : x < -b
          · have d2 : decide (x < -b) = true := by simpa using h2
            have HE := HY.out (by unfold off; simp [h2])
            clear HX HY
            go_wp2
            go_roundg (gk - 1)
            case rel => exact ⟨k + 1, by omega, by go_num, by rw [HE.1]; go_num, by rw [HE.2], by obtain ⟨n, rfl⟩ := HN.out; exact Lib.hid ⟨_, rfl⟩⟩
            case measure => omega
          · have d2 : decide (x < -b) = false := by simpa using h2
            have HE := HX.out (by unfold off; simp [h1, h2])
            clear HX HY
            go_wp2
            go_roundg (gk - 1)
            case rel => exact ⟨k + 1, by omega, by go_num, by rw [HE.1], by rw [HE.2], by obtain ⟨n, rfl⟩ := HN.out; exact Lib.hid ⟨_, rfl⟩⟩
            case measure => omega
      · obtain rfl : k = r.length := by omega
        obtain ⟨n, rfl⟩ := HN.out
        by_cases h1 : offs b r r.length = 1
        · have HG := Lib.hid (show susOf b r = last b r r.length from if_pos h1)
          rw [h1]
          go_wp2
          go_ret
          exact ⟨ret_int (by rw [HF.out, HG.out]), below_drewN HW.out _⟩
        · have HG := Lib.hid (show susOf b r = -1 from if_neg h1)
          generalize offs b r r.length = q at *
          have d2 : ((q : Int) == 1) = false := by simp; omega
          go_wp2
          go_ret
          exact ⟨ret_int (by rw [HF.out, HG.out]), below_drewN HW.out _⟩
end Pa
end Go.Proofs.YtacclmfbkiadbaaGreat
