/-
  SceneNear, walked: for every scene it returns true, and writes nothing that was there. Its conditions: how the scene lies.
-/
import Derived.Test.YtpamegkbhdbheaaSceneNearMath
import Derived.Test.YtpamegkbhdbheaaSceneAlive
import Derived.Test.YtpamegkbhdbheaaJWordStep2
namespace Go.Proofs.Ytpamegkbhdbheaa
set_option maxRecDepth 100000
open Go.ChangeShapes Go.WideShapes Go.ChangeAt Go.RowKit Go.Deep
namespace Sc
open Cf (G CA)

theorem size4 {l : List Int} (h : l.length = 4) : (Try.prog.info? 22).map (·.size) = some (cellsI .i64 l).length := by rw [cellsI, List.length_map, h]; kernel_rfl
theorem At.qs {w : World} {g : Nat} {s : Sn} {a : Option Addr} {cap : Nat} (h : At w g s a cap) : w.rangeAt g 24 (cellsI .i64 s.q) := fun j v hv => by
  have hj : j < s.q.length := by have := (List.getElem?_eq_some_iff.1 hv).1; simpa [cellsI] using this
  rw [cellsI_get .i64 s.q j hj] at hv
  cases hv
  exact h.q j (by rw [← h.len.q]; exact hj)
section
variable (s : Sn) (a : Option Addr) (cap : Nat) (w : World) (L : Lens s) (hp : PsAt w a s.ps)
include L hp
set_option maxRecDepth 100000 in
set_option maxHeartbeats 3200000 in
theorem near_wrong (H : ¬ Ok s) :
    Calls Try.prog 4 #[.agg (scv s a cap).toArray] w fun e w' => e = .returned (.bool true) ∧ Below w.heap.size w w' := by
  have X0 := Lib.hid (Bd.new (cap := cap) L hp)
  have CF := fun W (D : At W w.heap.size s a cap) => fits_any s a cap W D.len D.ps
  have CC := fun W (D : At W w.heap.size s a cap) => cycles_no s a cap W D.len D.ps H
  have CA := fun W (D : At W w.heap.size s a cap) => fault_any s a cap W D.len D.ps
  have HE := emp s
  rw [decide_eq_false (fun h => H (fault_ok.1 h))] at HE
  generalize fault s = ft at *
  generalize fits s = bf at *
  clear L hp H
  go_enter Try.func4, Try.ntmps4
  go_upto_region 1 with fail
  generalize w.alloc (.cells (scv s a cap).toArray 27) = w0 at *
  generalize hg : w.heap.size = g at *
  go_wp2_with ((with_reducible show wpList _ _ _ (⟨some 16, _, _, _, _, _⟩ :: _) _ _); refine loadS rfl _ rfl g rfl X0.out.at_ ?_)
  refine (CF _ X0.out.at_).mono ?_; rintro e w1 ⟨rfl, b1⟩
  have X1 := Lib.hid (X0.out.on b1)
  clear b1 X0 CF
  go_wp2_with ((with_reducible show wpList _ _ _ (⟨some 19, _, _, _, _, _⟩ :: _) _ _); refine loadS rfl _ rfl g rfl X1.out.at_ ?_)
  refine (CC _ X1.out.at_).mono ?_; rintro e w2 ⟨rfl, b1⟩
  have X2 := Lib.hid (X1.out.on b1)
  clear b1 X1 CC
  cases bf
  all_goals
    go_wp2_with fail
    refine (alive_any _).mono ?_; rintro e w3 ⟨rfl, b1⟩
    have X3 := Lib.hid (X2.out.on b1)
    clear b1 X2
    go_wp2_with ((with_reducible show wpList _ _ _ (⟨some 33, _, _, _, _, _⟩ :: _) _ _); refine loadS rfl _ rfl g rfl X3.out.at_ ?_)
    refine (CA _ X3.out.at_).mono ?_; rintro e w4 ⟨rfl, b1⟩
    have X4 := Lib.hid (X3.out.on b1)
    clear b1 X3 CA
    go_wp2_with fail
    go_ret
    exact ⟨rfl, hg ▸ X4.out.below⟩
set_option maxRecDepth 100000 in
set_option maxHeartbeats 3200000 in
theorem near_large (H : Ok s) (hf : fits s = false) :
    Calls Try.prog 4 #[.agg (scv s a cap).toArray] w fun e w' => e = .returned (.bool true) ∧ Below w.heap.size w w' := by
  have X0 := Lib.hid (Bd.new (cap := cap) L hp)
  have CF := fun W (D : At W w.heap.size s a cap) => fits_any s a cap W D.len D.ps
  rw [hf] at CF
  have CC := fun W (D : At W w.heap.size s a cap) => cycles_yes s a cap W D.len D.ps H
  unfold RetY at CC
  have CA := fun W (D : At W w.heap.size s a cap) => fault_any s a cap W D.len D.ps
  have HE := emp s
  rw [decide_eq_true (fault_ok.2 H)] at HE
  generalize fault s = ft at *
  generalize s.ps.length = m at *
  clear L hp H hf
  go_enter Try.func4, Try.ntmps4
  go_upto_region 1 with fail
  generalize w.alloc (.cells (scv s a cap).toArray 27) = w0 at *
  generalize hg : w.heap.size = g at *
  go_wp2_with ((with_reducible show wpList _ _ _ (⟨some 16, _, _, _, _, _⟩ :: _) _ _); refine loadS rfl _ rfl g rfl X0.out.at_ ?_)
  refine (CF _ X0.out.at_).mono ?_; rintro e w1 ⟨rfl, b1⟩
  have X1 := Lib.hid (X0.out.on b1)
  clear b1 X0 CF
  go_wp2_with ((with_reducible show wpList _ _ _ (⟨some 19, _, _, _, _, _⟩ :: _) _ _); refine loadS rfl _ rfl g rfl X1.out.at_ ?_)
  refine (CC _ X1.out.at_).mono ?_; rintro e w2 ⟨gl, T, rfl, F2⟩
  have X2 := Lib.hid (X1.out.on F2.below)
  clear F2 X1 CC
  go_wp2_with fail
  refine (alive_any _).mono ?_; rintro e w3 ⟨rfl, b1⟩
  have X3 := Lib.hid (X2.out.on b1)
  clear b1 X2
  go_wp2_with ((with_reducible show wpList _ _ _ (⟨some 33, _, _, _, _, _⟩ :: _) _ _); refine loadS rfl _ rfl g rfl X3.out.at_ ?_)
  refine (CA _ X3.out.at_).mono ?_; rintro e w4 ⟨rfl, b1⟩
  have X4 := Lib.hid (X3.out.on b1)
  clear b1 X3 CA
  go_wp2_with fail
  go_ret
  exact ⟨rfl, hg ▸ X4.out.below⟩
set_option maxRecDepth 100000 in
set_option maxHeartbeats 6400000 in
theorem near_right (H : Ok s) (hf : fits s = true) :
    Calls Try.prog 4 #[.agg (scv s a cap).toArray] w fun e w' => e = .returned (.bool true) ∧ Below w.heap.size w w' := by
  have X0 := Lib.hid (Bd.new (cap := cap) L hp)
  have CF := fun W (D : At W w.heap.size s a cap) => fits_any s a cap W D.len D.ps
  rw [hf] at CF
  have CC := fun W (D : At W w.heap.size s a cap) => cycles_yes s a cap W D.len D.ps H
  unfold RetY at CC
  have HOK := Lib.hid H
  have HPS := Lib.hid hp
  have C := cv_of H.cov
  have HC := Lib.hid C
  have CE := C.eq
  have hN := C.nn
  have h60 := fits_len hf
  have HQ := Lib.hid (sqs_start H L.q)
  have SQ := Lib.hid (size4 L.q)
  have LQ := Lib.hid L.q
  have AQ := Lib.hid (show (cellsI .i64 s.q).toArray.all (·.oneCell') = true from all_oneCell_toArray (cellsI_one _ _))
  obtain ⟨m, hm⟩ : ∃ m, m = s.ps.length := ⟨_, rfl⟩
  have HM := Lib.hid hm
  rw [← hm] at CC h60
  clear L hp H hf C hm
  generalize hnn : NN s = N at *
  have HNN := Lib.hid hnn
  clear hnn
  go_enter Try.func4, Try.ntmps4
  go_upto_region 1 with fail
  generalize w.alloc (.cells (scv s a cap).toArray 27) = w0 at *
  generalize hg : w.heap.size = g at *
  go_wp2_with ((with_reducible show wpList _ _ _ (⟨some 16, _, _, _, _, _⟩ :: _) _ _); refine loadS rfl _ rfl g rfl X0.out.at_ ?_)
  refine (CF _ X0.out.at_).mono ?_; rintro e w1 ⟨rfl, b1⟩
  have X1 := Lib.hid (X0.out.on b1)
  clear b1 X0 CF
  go_wp2_with ((with_reducible show wpList _ _ _ (⟨some 19, _, _, _, _, _⟩ :: _) _ _); refine loadS rfl _ rfl g rfl X1.out.at_ ?_)
  refine (CC _ X1.out.at_).mono ?_; rintro e w2 ⟨gl, T, rfl, F2⟩
  have X2 := Lib.hid (X1.out.on F2.below)
  have N0 := Lib.hid (show g < w1.heap.size from X1.out.at_.row.lt)
  have F3 := Lib.hid (show Fill w1 w2 gl s s.ps.length T (4 * s.ps.length) from HM.out ▸ F2)
  clear F2 X1 CC
  have c28 := X2.out.at_.p
  rw [← HM.out] at c28
  go_upto_region 7 with fail
  clear c28
  have V1 := (VRow.new w2 [.int .i64 0, .int .i64 0, .int .i64 0, .int .i64 0] 22).put (cellsI .i64 s.q)
  have B1 : Below w2.heap.size w2 ((w2.alloc (.cells #[.int .i64 0, .int .i64 0, .int .i64 0, .int .i64 0] 22)).setRow w2.heap.size (cellsI .i64 s.q).toArray) := Below.put ((Below.refl _ w2).alloc (Nat.le_refl _) _) (Nat.le_refl _) _
  have RQ := Lib.hid X2.out.at_.qs
  have L4 := Lib.hid (show ([.int .i64 0, .int .i64 0, .int .i64 0, .int .i64 0] : List Value).length = (cellsI .i64 s.q).length by rw [cellsI, List.length_map, LQ.out]; rfl)
  have D0 := Lib.hid (show Nr w1 w ((w2.alloc (.cells #[.int .i64 0, .int .i64 0, .int .i64 0, .int .i64 0] 22)).setRow w2.heap.size (cellsI .i64 s.q).toArray) g gl w2.heap.size s a cap T (sqs s 0 0) from
    ⟨X2.out.on B1, F3.out.on B1, by rw [HQ.out]; exact V1, X2.out.below.size, F3.out.below.size, by have := X2.out.at_.row.lt; omega, by have := F3.out.row.lt; omega⟩)
  clear V1 B1
  go_upto_region 8 with (first
    | ((with_reducible show wpList _ _ _ (⟨some 45, _, _, _, _, _⟩ :: _) _ _); refine wpList_load_mid rfl _ _ rfl g 24 rfl (cellsI .i64 s.q) _ RQ.out Try.underlying22 rfl SQ.out ?_)
    | ((with_reducible show wpList _ _ _ (⟨none, .store _ (.tmp 6) _, _, _, _, _⟩ :: _) _ _); refine VB.store rfl _ _ rfl w2.heap.size (cellsI .i64 s.q) rfl rfl (VRow.new w2 [.int .i64 0, .int .i64 0, .int .i64 0, .int .i64 0] 22) SQ.out L4.out AQ.out ?_))
  clear RQ L4 AQ SQ X2 F3 HQ
  generalize (w2.alloc (.cells #[.int .i64 0, .int .i64 0, .int .i64 0, .int .i64 0] 22)).setRow w2.heap.size (cellsI .i64 s.q).toArray = w3 at *
  generalize w2.heap.size = qg at *
  go_wp2_with fail
  go_loopg [7] m (fun gg s7 wr => ∃ i : Nat, i + gg = m ∧ s7 = .int .i64 i ∧ Hid (Nr w1 w wr g gl qg s a cap T (sqs s i 0)))
  case atStart => exact ⟨0, by omega, rfl, D0⟩
  case round =>
    clear D0
    rename World => W
    obtain ⟨i, hi, rfl, D⟩ := hrel
    have HI := Lib.hid hi
    clear hi
    by_cases hlt : i < m
    · have hli : (i : Int) < m := by omega
      have HLT := Lib.hid (show i < s.ps.length by have := HM.out; omega)
      clear hlt
      go_wp2_with fail
      go_loopg [8] N (fun gg s8 wr => ∃ k : Nat, k + gg = N ∧ s8 = .int .i64 k ∧ Hid (Nr w1 w wr g gl qg s a cap T (sqs s i k)))
      case atStart => exact ⟨0, by omega, rfl, D⟩
      case round =>
        clear D
        rename World => W2
        obtain ⟨k, hk, rfl, D⟩ := hrel
        have HK := Lib.hid hk
        clear hk
        have c0 := D.out.bd.at_.c 0 (by omega)
        rw [CE] at c0
        by_cases hlk : k < N
        · have hlk' : (k : Int) < N := by omega
          have hk4 : (k : Int) < 4 := by omega
          have HK4 := Lib.hid (show k < 4 by omega)
          have HKN := Lib.hid (show k < NN s by have := HNN.out; omega)
          obtain ⟨ad, cp, hr, hc, hb⟩ := D.out.slot HLT.out HK4.out HKN.out
          have RS := Lib.hid hr
          have q1 := D.out.bd.at_.odd
          by_cases hod : (k : Int) = s.odd
          · have hy : Cr.Bytes (sby s i k) := by
              have e : sby s i k = (pt s i).l := by unfold sby; rw [if_pos hod]
              rw [e]; exact Cr.bytes_wf (D.out.bd.at_.ps.at_ HLT.out).choose_spec.choose_spec.2.wf
            have CD := fun W (h : IntsAt .u8 W ad (sby s i k)) => Fm.dec_any k (sis s i k) ad cp (sby s i k) W hc hy h
            unfold Fm.RetFR at CD
            have SF := Lib.hid (size9 (dec_len (c := k) (is := sis s i k) hy))
            have LF := Lib.hid (show ([.int .i64 0, .int .i64 0, .int .i64 0, .int .i64 0, .int .i64 0, .int .i64 0, .int .i64 0, .int .i64 0, .int .i64 0] : List Value).length = (cellsI .i64 (Fm.dec k (sis s i k) (sby s i k))).length by rw [cellsI, List.length_map, dec_len hy]; rfl)
            have HS := Lib.hid (sqs_odd i k hod)
            have HOD := Lib.hid hod
            have HB := Lib.hid hb
            clear hr hc hb hy hod hlk
            generalize Fm.rej k (sis s i k) (sby s i k) = rr at *
            generalize Fm.dec k (sis s i k) (sby s i k) = dl at *
            generalize sis s i k = si at *
            generalize (sby s i k).length = ln at *
            go_wp2_with ((with_reducible show wpList _ _ _ (⟨some 66, _, _, _, _, _⟩ :: _) _ _); refine wpList_load_mid rfl _ _ rfl gl (i * 8 + k * 2) rfl [.bool si, .slice ad ln cp] _ RS.out Try.underlying44 rfl sizeL ?_)
            refine (CD _ HB.out).mono ?_; rintro e w4 ⟨rfl, b4⟩
            have D4 := Lib.hid (D.out.on b4)
            clear b4 D CD RS HB q1 c0
            have b5 : Below w4.heap.size w4 ((w4.alloc (.cells #[.int .i64 0, .int .i64 0, .int .i64 0, .int .i64 0, .int .i64 0, .int .i64 0, .int .i64 0, .int .i64 0, .int .i64 0] 52)).setRow w4.heap.size (cellsI .i64 dl).toArray) := Below.put ((Below.refl _ w4).alloc (Nat.le_refl _) _) (Nat.le_refl _) _
            have D5 := Lib.hid (D4.out.on b5)
            clear b5
            go_upto_region 15 with ((with_reducible show wpList _ _ _ (⟨none, .store _ (.tmp 9) _, _, _, _, _⟩ :: _) _ _); refine VB.store rfl _ _ rfl w4.heap.size (cellsI .i64 dl) rfl rfl (VRow.new w4 [.int .i64 0, .int .i64 0, .int .i64 0, .int .i64 0, .int .i64 0, .int .i64 0, .int .i64 0, .int .i64 0, .int .i64 0] 52) SF.out LF.out (all_oneCell_toArray (cellsI_one _ _)) ?_)
            clear D4
            generalize (w4.alloc (.cells #[.int .i64 0, .int .i64 0, .int .i64 0, .int .i64 0, .int .i64 0, .int .i64 0, .int .i64 0, .int .i64 0, .int .i64 0] 52)).setRow w4.heap.size (cellsI .i64 dl).toArray = w5 at *
            generalize w4.heap.size = fb at *
            have q1 := D5.out.bd.at_.odd
            rw [← HOD.out] at q1
            go_wp2_with fail
            go_roundg (gk - 1)
            case rel => exact ⟨k + 1, by have := HK.out; omega, by go_num, by rw [HS.out]; exact D5⟩
            case measure => have := HK.out; omega
          · obtain ⟨hr2, hc2⟩ := HOK.out.right HLT.out HKN.out hod
            have e1 : sis s i k = true := by unfold sis; rw [if_neg hod]
            have e2 : sby s i k = Fm.enc k (sq s i k) (vs s i k) := by unfold sby; rw [if_neg hod]
            rw [e1, e2] at RS
            rw [e2] at hc hb
            have CD := fun W (h : IntsAt .u8 W ad (Fm.enc k (sq s i k) (vs s i k))) => Fm.dec_any k true ad cp (Fm.enc k (sq s i k) (vs s i k)) W hc Fm.enc_bytes h
            unfold Fm.RetFR at CD
            rw [Fm.enc_dec hr2 hc2 vs_len, Fm.enc_rej hr2 hc2 vs_len, if_pos rfl] at CD
            have SF := Lib.hid (size9 (show (sq s i k :: vs s i k).length = 9 by rw [List.length_cons, vs_len]))
            have LF := Lib.hid (show ([.int .i64 0, .int .i64 0, .int .i64 0, .int .i64 0, .int .i64 0, .int .i64 0, .int .i64 0, .int .i64 0, .int .i64 0] : List Value).length = (cellsI .i64 (sq s i k :: vs s i k)).length by show 9 = _; rw [cellsI, List.length_map, List.length_cons, vs_len])
            have HS := Lib.hid (sqs_next i k HKN.out HK4.out hod)
            have HQK := Lib.hid ((sqs_get s i k HK4.out).trans (sqv_is i k HKN.out hod))
            have d1 : ((k : Int) == s.odd) = false := by simp [hod]
            have HVN := Lib.hid (fun n (hn : n < 8) => vs_at (s := s) (i := i) (k := k) hn)
            have HVL := Lib.hid (vs_len (s := s) (i := i) (k := k))
            have HNA := Lib.hid (fun n (hn : n < 8) => near_all HOK.out HLT.out HKN.out hn hod)
            have HB := Lib.hid hb
            clear hr hc hb hod hlk e1 e2 hr2 hc2
            generalize (Fm.enc k (sq s i k) (vs s i k)).length = ln at *
            generalize Fm.enc k (sq s i k) (vs s i k) = lb at *
            generalize vs s i k = vl at *
            generalize sq s i k = sn at *
            go_wp2_with ((with_reducible show wpList _ _ _ (⟨some 66, _, _, _, _, _⟩ :: _) _ _); refine wpList_load_mid rfl _ _ rfl gl (i * 8 + k * 2) rfl [.bool true, .slice ad ln cp] _ RS.out Try.underlying44 rfl sizeL ?_)
            refine (CD _ HB.out).mono ?_; rintro e w4 ⟨rfl, b4⟩
            have D4 := Lib.hid (D.out.on b4)
            clear b4 D CD RS HB q1 c0
            have b5 : Below w4.heap.size w4 ((w4.alloc (.cells #[.int .i64 0, .int .i64 0, .int .i64 0, .int .i64 0, .int .i64 0, .int .i64 0, .int .i64 0, .int .i64 0, .int .i64 0] 52)).setRow w4.heap.size (cellsI .i64 (sn :: vl)).toArray) := Below.put ((Below.refl _ w4).alloc (Nat.le_refl _) _) (Nat.le_refl _) _
            have D5 := Lib.hid (D4.out.on b5)
            have FR := Lib.hid (show IRow .i64 ((w4.alloc (.cells #[.int .i64 0, .int .i64 0, .int .i64 0, .int .i64 0, .int .i64 0, .int .i64 0, .int .i64 0, .int .i64 0, .int .i64 0] 52)).setRow w4.heap.size (cellsI .i64 (sn :: vl)).toArray) w4.heap.size 52 (sn :: vl) from (VRow.new w4 [.int .i64 0, .int .i64 0, .int .i64 0, .int .i64 0, .int .i64 0, .int .i64 0, .int .i64 0, .int .i64 0, .int .i64 0] 52).put (cellsI .i64 (sn :: vl)))
            have NQ := Lib.hid (show w4.heap.size ≠ qg by have := D4.out.row.lt; omega)
            clear b5
            go_upto_region 15 with ((with_reducible show wpList _ _ _ (⟨none, .store _ (.tmp 9) _, _, _, _, _⟩ :: _) _ _); refine VB.store rfl _ _ rfl w4.heap.size (cellsI .i64 (sn :: vl)) rfl rfl (VRow.new w4 [.int .i64 0, .int .i64 0, .int .i64 0, .int .i64 0, .int .i64 0, .int .i64 0, .int .i64 0, .int .i64 0, .int .i64 0] 52) SF.out LF.out (all_oneCell_toArray (cellsI_one _ _)) ?_)
            clear D4
            generalize (w4.alloc (.cells #[.int .i64 0, .int .i64 0, .int .i64 0, .int .i64 0, .int .i64 0, .int .i64 0, .int .i64 0, .int .i64 0, .int .i64 0] 52)).setRow w4.heap.size (cellsI .i64 (sn :: vl)).toArray = w5 at *
            generalize w4.heap.size = fb at *
            have q1 := D5.out.bd.at_.odd
            have cf := FR.out.cell 0 (by simp)
            have cq := D5.out.row.cell k (by show k < 4; exact HK4.out)
            rw [HQK.out] at cq
            replace cf : w5.cell? ⟨fb, 0, none⟩ = some (.int .i64 sn) := cf
            go_upto_region 16 with fail
            clear q1 d1
            go_quiet (fail)
            have bd := below_drewN (Below.refl w5.heap.size w5) nq
            have D6 := Lib.hid (D5.out.on bd)
            have FR6 := Lib.hid (FR.out.below bd FR.out.lt)
            clear bd D5 FR cf cq
            generalize w5.drewN nq = w6 at *
            have cq := D6.out.row.cell k (by show k < 4; exact HK4.out)
            rw [HQK.out] at cq
            have fq := D6.out.row.frozen k
            go_wp2_with fail
            refine (Wd.next_any sn _).mono ?_; rintro e w7 ⟨rfl, rfl⟩
            have D7 := Lib.hid (D6.out.set HPS.out k (Wd.next sn))
            rw [HS.out] at D7
            have FR7 := Lib.hid (show IRow .i64 (w6.setCell ⟨qg, k, none⟩ (.int .i64 (Wd.next sn))) fb 52 (sn :: vl) from FR6.out.vrow.setOther (p := ⟨qg, k, none⟩) NQ.out _)
            generalize Wd.next sn = nx at *
            go_upto_region 19 with fail
            clear cq fq D6 FR6
            generalize w6.setCell ⟨qg, k, none⟩ (.int .i64 nx) = w7 at *
            go_wp2_with fail
            go_loopg [11] 8 (fun gg s11 wr => ∃ n : Nat, n + gg = 8 ∧ s11 = .int .i64 n ∧ Hid (Nr w1 w wr g gl qg s a cap T (sqs s i (k + 1)) ∧ IRow .i64 wr fb 52 (sn :: vl)))
            case atStart => exact ⟨0, rfl, rfl, Lib.hid ⟨D7.out, FR7.out⟩⟩
            case round =>
              clear D7 FR7
              rename World => W3
              obtain ⟨n, hn, rfl, D⟩ := hrel
              have HL := Lib.hid hn
              clear hn
              by_cases hln : n < 8
              · have hl8 : (n : Int) < 8 := by omega
                have CR := fun W (D : At W g s a cap) => range_yes s a cap W D.len D.ps HOK.out i n HLT.out hln
                obtain ⟨f1, f2, f3, f4, f5, f6, f7, f8⟩ := HNA.out n hln
                have HVn := Lib.hid (HVN.out n hln)
                clear hln
                go_wp2_with ((with_reducible show wpList _ _ _ (⟨some 95, _, _, _, _, _⟩ :: _) _ _); refine loadS rfl _ rfl g rfl D.out.1.bd.at_ ?_)
                refine (CR _ D.out.1.bd.at_).mono ?_; rintro e w8 ⟨rfl, b8⟩
                have D8 := Lib.hid (show Nr w1 w w8 g gl qg s a cap T (sqs s i (k + 1)) ∧ IRow .i64 w8 fb 52 (sn :: vl) from ⟨D.out.1.on b8, D.out.2.below b8 D.out.2.lt⟩)
                clear b8 D CR
                have cx := D8.out.2.cell (1 + n) (by rw [List.length_cons, HVL.out]; omega)
                rw [show (sn :: vl).getD (1 + n) 0 = val s i k n by rw [Nat.add_comm, List.getD_cons_succ, HVn.out]] at cx
                have q5 := D8.out.1.bd.at_.p
                obtain ⟨b, off, hab, P⟩ := D8.out.1.bd.at_.ps.at_ HLT.out
                rw [hab] at q5
                have hli2 : (i : Int) < s.ps.length := by have := HLT.out; omega
                have ct := P.t n (by omega)
                have htv : (pt s i).t.getD n 0 = tv s i n := rfl
                rw [htv] at ct
                have q1 := D8.out.1.bd.at_.c 1 (by omega)
                have q2 := D8.out.1.bd.at_.c 2 (by omega)
                have q3 := D8.out.1.bd.at_.e
                have z1 := HC.out.lo
                have z2 := HC.out.hi
                have z3 := HC.out.e
                clear P hab htv
                rw [HNN.out] at f1 f2 f3 f4 ⊢
                generalize lo 2147483647 s i n N = lv at *
                generalize hi (-2147483648) s i n N = hv at *
                generalize val s i k n = x at *
                generalize tv s i n = tt at *
                generalize G s.c 1 = c1 at *
                generalize G s.c 2 = c2 at *
                generalize s.e = ee at *
                have e1 : decide (x < lv) = false := by simp; omega
                have e2 : decide (hv < x) = false := by simp; omega
                have e3 : decide (2 * ee < hv - lv) = false := by simp; omega
                have e4 : decide (x < c1) = false := by simp; omega
                have e5 : decide (c2 < x) = false := by simp; omega
                have e6 : decide (lv < tt - ee) = false := by simp; omega
                have e7 : decide (tt + ee < hv) = false := by simp; omega
                go_wp2_with fail
                go_roundg (gk - 1)
                case rel => exact ⟨n + 1, by have := HL.out; omega, by go_num, D8⟩
                case measure => have := HL.out; omega
              · obtain rfl : n = 8 := by have := HL.out; omega
                go_wp2_with fail
                go_roundg (N - k - 1)
                case rel => exact ⟨k + 1, by have := HK.out; omega, by go_num, Lib.hid D.out.1⟩
                case measure => have := HK.out; omega
        · obtain rfl : k = N := by have := HK.out; omega
          have HS := Lib.hid (show sqs s i k = sqs s (i + 1) 0 by rw [← HNN.out]; exact sqs_row i)
          rw [HS.out] at D
          go_wp2_with fail
          go_roundg (m - i - 1)
          case rel => exact ⟨i + 1, by have := HI.out; omega, by go_num, D⟩
          case measure => have := HI.out; omega
    · obtain rfl : i = m := by have := HI.out; omega
      go_wp2_with fail
      refine (alive_any _).mono ?_; rintro e w9 ⟨rfl, b9⟩
      have D9 := Lib.hid (D.out.on b9)
      clear b9 D
      go_wp2_with fail
      go_ret
      exact ⟨rfl, hg ▸ D9.out.bd.below⟩
theorem near_walk :
    Calls Try.prog 4 #[.agg (scv s a cap).toArray] w fun e w' => e = .returned (.bool true) ∧ Below w.heap.size w w' := by
  by_cases H : Ok s
  · cases hf : fits s
    · exact near_large s a cap w L hp H hf
    · exact near_right s a cap w L hp H hf
  · exact near_wrong s a cap w L hp H
end
end Sc
namespace sceneNear
theorem walk (s : Sc.Sn) (a : Option Addr) (cap : Nat) (w : World) (L : Sc.Lens s) (hp : Sc.PsAt w a s.ps) :
    Calls Try.prog 4 #[.agg (Sc.scv s a cap).toArray] w fun e w' => e = .returned (.bool true) ∧ Below w.heap.size w w' :=
  Sc.near_walk s a cap w L hp
end sceneNear
end Go.Proofs.Ytpamegkbhdbheaa
