/-
  What Right, Failed and Encode of rudderref19 tell: contracts by walking the Go text. Conditions: that an output has eight values and eight statuses.
-/
import Derived.Test.YtpgcoagjlkdmbaaOutputEncode
import Derived.Test.YtpgcoagjlkdmbaaWordRef
import Derived.Test.YtpgcoagjlkdmbaaJCrcOpen2
import Derived.Test.YtpgcoagjlkdmbaaAppend
import Derived.Deep.LoopGhost
namespace Go.Proofs.Ytpgcoagjlkdmbaa
set_option maxRecDepth 100000
open Go.ChangeShapes Go.WideShapes Go.ChangeAt Go.RowKit Go.Deep
namespace Ot
open Ss (St str zer stv rgt wrd)
open Wd (put2 put4 in2 in4)
open Cr (Bytes)

theorem st_cell {W : World} {g : Nat} {t : TypeId} {o : Ou} (h : VRow W g t (ouc o)) (k : Ok o) (i j : Nat) (hi : i < 8) (hj : j < 4) {v : Value} (hv : (str (o.s.getD i zer))[j]? = some v) : W.cell? ⟨g, 9 + i * 4 + j, none⟩ = some v :=
  VRow.cell h _ (by rw [Nat.add_assoc, ouc_st k i j hi hj]; exact hv)
set_option maxHeartbeats 1600000 in
theorem rfailed_any {o : Ou} (k : Ok o) (w : World) :
    Calls Try.prog 14 #[.agg (ouc o).toArray] w fun e w' => e = .returned (.int .i64 (fl o.s : Nat)) ∧ Below w.heap.size w w' := by
  have HK := Lib.hid k
  have HX := Lib.hid (VRow.new w (ouc o) 27)
  have HB := Lib.hid ((Below.refl w.heap.size w).alloc (Nat.le_refl _) (.cells (ouc o).toArray 27))
  clear k
  obtain ⟨ov, hov⟩ : ∃ ov, ouc o = ov := ⟨_, rfl⟩
  rw [hov] at HB ⊢
  have HOV := Lib.hid hov
  rw [hov] at HX
  clear hov
  go_enter Try.func14, Try.ntmps14
  go_wp2_with fail
  generalize w.alloc (.cells ov.toArray 27) = W0 at *
  go_loopg [3, 4] 8 (fun gg s3 s4 wr => ∃ i : Nat, i + gg = 8 ∧ s4 = .int .i64 i ∧ s3 = .int .i64 (fl (o.s.take i) : Nat) ∧ W0 = wr)
  case atStart => exact ⟨0, by omega, rfl, rfl, rfl⟩
  case round =>
    obtain ⟨i, hi, rfl, rfl, rfl⟩ := hrel
    by_cases hlt : i < 8
    · have hii : (i : Int) < 8 := by omega
      have HN := Lib.hid (fl_next o.s i (by rw [HK.out.s]; exact hlt))
      have hle := fl_le (o.s.take i)
      have hl8 : fl (o.s.take i) ≤ 8 := by rw [List.length_take] at hle; omega
      have e3 := st_cell (by rw [HOV.out]; exact HX.out) HK.out i 3 hlt (by omega) (v := .bool (o.s.getD i zer).f) rfl
      clear hle
      generalize fl (o.s.take i) = c at *
      cases hf : (o.s.getD i zer).f
      · rw [hf] at e3 HN
        have HN := Lib.hid (show fl (o.s.take (i + 1)) = c from HN.out)
        clear hf
        go_wp2_with fail
        go_roundg (gk - 1)
        case rel => exact ⟨i + 1, by omega, by go_num, by rw [HN.out], rfl⟩
        case measure => omega
      · rw [hf] at e3 HN
        have HN := Lib.hid (show fl (o.s.take (i + 1)) = c + 1 from HN.out)
        clear hf
        go_wp2_with fail
        go_roundg (gk - 1)
        case rel => exact ⟨i + 1, by omega, by go_num, by rw [HN.out]; go_num, rfl⟩
        case measure => omega
    · obtain rfl : i = 8 := by omega
      go_wp2
      go_ret
      exact ⟨by rw [List.take_of_length_le (by rw [HK.out.s]; omega)]; rfl, HB.out⟩

set_option maxHeartbeats 3200000 in
theorem rright_any {o : Ou} (k : Ok o) (w : World) :
    Calls Try.prog 12 #[.agg (ouc o).toArray] w fun e w' => e = .returned (.bool (orgt o)) ∧ Below w.heap.size w w' := by
  have HK := Lib.hid k
  have HX := Lib.hid (VRow.new w (ouc o) 27)
  have HB := Lib.hid ((Below.refl w.heap.size w).alloc (Nat.le_refl _) (.cells (ouc o).toArray 27))
  have HV := Lib.hid (fun h => orgt_v (o := o) h)
  have HS := Lib.hid (fun h => orgt_s (o := o) h)
  have HQ := Lib.hid (show o.v.all in4 = true → o.s.all rgt = true → orgt o = (decide (0 ≤ o.q) && decide (o.q ≤ 65535)) from fun h1 h2 => by unfold orgt; rw [h1, h2]; unfold in2; simp)
  have HLT := Lib.hid HX.out.lt
  clear k
  obtain ⟨ov, hov⟩ : ∃ ov, ouc o = ov := ⟨_, rfl⟩
  rw [hov] at HB HLT ⊢
  have HOV := Lib.hid hov
  rw [hov] at HX
  clear hov
  generalize orgt o = res at *
  go_enter Try.func12, Try.ntmps12
  go_wp2_with fail
  generalize w.alloc (.cells ov.toArray 27) = W0 at *
  go_loopg [3, 4] 8 (fun gg s3 s4 wr => ∃ i : Nat, i + gg = 8 ∧ s3 = .int .i64 i ∧ Hid ((o.v.take i).all in4 = true ∧ (o.s.take i).all rgt = true) ∧ Hid (VRow wr w.heap.size 27 ov ∧ Below w.heap.size w wr))
  case atStart => exact ⟨0, by omega, rfl, Lib.hid ⟨rfl, rfl⟩, Lib.hid ⟨HX.out, HB.out⟩⟩
  case round =>
    obtain ⟨i, hi, rfl, HT, HR⟩ := hrel
    by_cases hlt : i < 8
    · have hii : (i : Int) < 8 := by omega
      have HNS := Lib.hid (sall_next o.s i (by rw [HK.out.s]; exact hlt))
      have HNV := Lib.hid (vall_next o.v i (by rw [HK.out.v]; exact hlt))
      have HNO := Lib.hid (fun h => HV.out (all_no (k := i + 1) h))
      have HSO := Lib.hid (fun h => HS.out (all_no (k := i + 1) h))
      have HX0 := Lib.hid (show VRow wr w.heap.size 27 (ouc o) by rw [HOV.out]; exact HR.out.1)
      have HRG := Lib.hid (range_st HX0.out HK.out i hlt)
      have HCV := Lib.hid (fun (W : World) (b : Below wr.heap.size wr W) => (VRow.below HX0.out b HX0.out.lt).cell (1 + i) (ouc_v HK.out i hlt))
      have CR := Ss.rright_any (o.s.getD i zer) wr
      unfold stv at CR
      change Calls _ _ #[.agg (str (o.s.getD i zer)).toArray] _ _ at CR
      generalize o.s.getD i zer = s at *
      generalize o.v.getD i 0 = x at *
      have HI4 := Lib.hid (show in4 x = (decide (-2147483648 ≤ x) && decide (x ≤ 2147483647)) from rfl)
      cases hs : rgt s
      · rw [hs] at CR HNS
        have HF := Lib.hid (HSO.out (by rw [HNS.out]; simp))
        clear hs
        go_wp2_with (first
          | ((with_reducible show wpList _ _ _ (⟨some 12, _, _, _, _, _⟩ :: _) _ _); refine wpList_load_mid rfl _ _ rfl w.heap.size (9 + i * 4) rfl (str s) _ HRG.out Try.underlying24 rfl Ss.sizeS ?_)
          | (go_at_call 32; refine CR.mono ?_; rintro e w2 ⟨rfl, b2⟩; have B2 := Lib.hid (grow HR.out.2 b2); clear b2))
        go_ret
        exact ⟨by rw [HF.out]; rfl, B2.out⟩
      · rw [hs] at CR HNS
        clear hs
        by_cases h1 : x < -2147483648
        · have HF := Lib.hid (HNO.out (by rw [HNV.out, HI4.out]; simp; omega))
          go_wp2_with (first
            | ((with_reducible show wpList _ _ _ (⟨some 12, _, _, _, _, _⟩ :: _) _ _); refine wpList_load_mid rfl _ _ rfl w.heap.size (9 + i * 4) rfl (str s) _ HRG.out Try.underlying24 rfl Ss.sizeS ?_)
            | (go_at_call 32; refine CR.mono ?_; rintro e w2 ⟨rfl, b2⟩; have B2 := Lib.hid (grow HR.out.2 b2); have cv := HCV.out _ b2; clear b2))
          go_ret
          exact ⟨by rw [HF.out]; rfl, B2.out⟩
        · have d1 : decide (x < -2147483648) = false := by simpa using h1
          by_cases h2 : 2147483647 < x
          · have HF := Lib.hid (HNO.out (by rw [HNV.out, HI4.out]; simp; omega))
            go_wp2_with (first
              | ((with_reducible show wpList _ _ _ (⟨some 12, _, _, _, _, _⟩ :: _) _ _); refine wpList_load_mid rfl _ _ rfl w.heap.size (9 + i * 4) rfl (str s) _ HRG.out Try.underlying24 rfl Ss.sizeS ?_)
              | (go_at_call 32; refine CR.mono ?_; rintro e w2 ⟨rfl, b2⟩; have B2 := Lib.hid (grow HR.out.2 b2); have cv := HCV.out _ b2; clear b2))
            go_ret
            exact ⟨by rw [HF.out]; rfl, B2.out⟩
          · have d2 : decide (2147483647 < x) = false := by simpa using h2
            have HIN := Lib.hid (show in4 x = true by rw [HI4.out]; simp; omega)
            go_wp2_with (first
              | ((with_reducible show wpList _ _ _ (⟨some 12, _, _, _, _, _⟩ :: _) _ _); refine wpList_load_mid rfl _ _ rfl w.heap.size (9 + i * 4) rfl (str s) _ HRG.out Try.underlying24 rfl Ss.sizeS ?_)
              | (go_at_call 32; refine CR.mono ?_; rintro e w2 ⟨rfl, b2⟩; have B2 := Lib.hid (grow HR.out.2 b2); have X2 := Lib.hid (VRow.below HR.out.1 b2 HR.out.1.lt); have cv := HCV.out _ b2; clear b2))
            go_roundg (gk - 1)
            case rel => exact ⟨i + 1, by omega, by go_num, Lib.hid ⟨by rw [HNV.out, HT.out.1, HIN.out]; rfl, by rw [HNS.out, HT.out.2]; rfl⟩, Lib.hid ⟨X2.out, B2.out⟩⟩
            case measure => omega
    · obtain rfl : i = 8 := by omega
      have HF := Lib.hid (HQ.out (by have := HT.out.1; rwa [List.take_of_length_le (by rw [HK.out.v]; omega)] at this) (by have := HT.out.2; rwa [List.take_of_length_le (by rw [HK.out.s]; omega)] at this))
      have e0 := HR.out.1.cell 0 (v := .int .i64 o.q) (by rw [← HOV.out]; rfl)
      generalize o.q = q at *
      cases d1 : decide (0 ≤ q)
      · rw [d1, Bool.false_and] at HF
        go_wp2
        go_ret
        exact ⟨by rw [HF.out]; rfl, HR.out.2⟩
      · rw [d1, Bool.true_and] at HF
        go_wp2
        go_ret
        exact ⟨by rw [HF.out]; rfl, HR.out.2⟩
end Ot
end Go.Proofs.Ytpgcoagjlkdmbaa
