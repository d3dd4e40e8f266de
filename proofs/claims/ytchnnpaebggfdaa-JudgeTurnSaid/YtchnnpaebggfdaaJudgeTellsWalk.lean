/-
  JudgeTells, walked: for every scene, outputs, and place it returns true, and writes nothing that was there. Its conditions: how the scene, and the outputs lie.
-/
import Derived.Test.YtchnnpaebggfdaaJudgeAlive
import Derived.Test.YtchnnpaebggfdaaJJudgeRefRow3
import Derived.Test.YtchnnpaebggfdaaJSceneOf2
import Derived.Test.YtchnnpaebggfdaaSceneRefFault
import Derived.Deep.DeepCutAuto
namespace Go.Proofs.Ytchnnpaebggfdaa
set_option maxRecDepth 100000
open Go.ChangeShapes Go.WideShapes Go.ChangeAt Go.RowKit Go.Deep
namespace Jd
open Cf (G CA)
open Sc (Sn Pt Ok PsAt PtOk pt scv ptv Lens At Bd loadS NN far fault RAt RBd has)
open Ot (Ou ouc)
/-- What lies about while the law goes on: the scene, the place. -/
structure Jt (w W : World) (g : Nat) (s : Sn) (a : Option Addr) (cap : Nat) (i n : Int) : Prop where
  bd : Bd w W g s a cap
  pl : VRow W (g + 1) 30 [.int .i64 i, .int .i64 n]
theorem Jt.on {w W W' : World} {g : Nat} {s : Sn} {a : Option Addr} {cap : Nat} {i n : Int} (h : Jt w W g s a cap i n) (b : Below W.heap.size W W') : Jt w W' g s a cap i n := ⟨h.bd.on b, h.pl.below b h.pl.lt⟩
theorem jt_new {w : World} {s : Sn} {a : Option Addr} {cap : Nat} (L : Lens s) (hp : PsAt w a s.ps) (i n : Int) :
    Jt w ((w.alloc (.cells (scv s a cap).toArray 27)).alloc (.cells #[.int .i64 i, .int .i64 n] 30)) w.heap.size s a cap i n :=
  ⟨(Bd.new (cap := cap) L hp).on (Sc.below_new _ _ _), by
    have h := VRow.new (w.alloc (.cells (scv s a cap).toArray 27)) [.int .i64 i, .int .i64 n] 30
    rwa [World.size_alloc] at h⟩
theorem has_eq (s : Sn) (i n : Int) : has s i n = ((fault s).toList.isEmpty && (decide (0 ≤ i) && (decide (i < (s.ps.length : Int)) && (decide (0 ≤ n) && decide (n ≤ 7))))) := by
  rw [Sc.emp]
  unfold has
  rw [Bool.eq_iff_iff]
  simp only [Bool.and_eq_true, decide_eq_true_eq]
  constructor
  · rintro ⟨⟨h1, h2⟩, ⟨h3, h4⟩, h5⟩; exact ⟨h5, h1, by omega, h3, h4⟩
  · rintro ⟨h5, h1, h2, h3, h4⟩; exact ⟨⟨h1, by omega⟩, ⟨h3, h4⟩, h5⟩
section
variable (s : Sn) (a : Option Addr) (cap : Nat) (al : Option Addr) (lcap : Nat) (ls : List Ou) (i n : Int) (w : World) (L : Lens s) (hp : PsAt w a s.ps) (ho : OutsAt w al ls)
include L hp
theorem row_any (hcap : s.ps.length ≤ cap) : ∃ rv : Int, (has s i n = false → rv = 0) ∧ (∀ i' n' : Nat, i = i' → n = n' → has s i n = true → rv = (rowc s n' (i' + 1) : Nat)) ∧
    ∀ W, Below w.heap.size w W → Calls Try.prog 10 #[.agg (scv s a cap).toArray, .int .i64 i, .int .i64 n] W fun e w' => e = .returned (.int .i64 rv) ∧ Below W.heap.size W w' := by
  cases hh : has s i n
  · exact ⟨0, fun _ => rfl, fun _ _ _ _ h => (by cases h), fun W b => row_no s a cap W L (hp.below b) i n hh⟩
  · obtain ⟨H, i', n', rfl, rfl, hi, hn⟩ := Sc.has_is hh
    refine ⟨_, fun h => (by cases h), fun i2 n2 e1 e2 _ => ?_, fun W b => row_yes s a cap W L (hp.below b) H hcap i' n' hi hn⟩
    have e1' : i' = i2 := by omega
    have e2' : n' = n2 := by omega
    rw [e1', e2']
include ho
set_option maxHeartbeats 3200000 in
theorem tells_large (h : (Sc.fits s && lfit ls) = false) :
    Calls Try.prog 3 #[.agg (scv s a cap).toArray, .slice al ls.length lcap, .agg #[.int .i64 i, .int .i64 n]] w fun e w' => e = .returned (.bool true) ∧ Below w.heap.size w w' := by
  have X0 := Lib.hid (jt_new (cap := cap) L hp i n)
  have CF := Lib.hid (fun W (D : At W w.heap.size s a cap) => Sc.fits_any s a cap W D.len D.ps)
  have CL := Lib.hid (fun W (b : Below w.heap.size w W) => lfits_any al lcap ls W (ho.below b))
  have HH := Lib.hid h
  clear L hp ho h
  generalize Sc.fits s = b1 at *
  generalize lfit ls = b2 at *
  go_enter Try.func3, Try.ntmps3
  go_upto_region 1 with fail
  generalize (w.alloc (.cells (scv s a cap).toArray 27)).alloc (.cells #[.int .i64 i, .int .i64 n] 30) = w0 at *
  generalize hg : w.heap.size = g at *
  go_wp2_with ((with_reducible show wpList _ _ _ (⟨some 18, _, _, _, _, _⟩ :: _) _ _); refine loadS rfl _ rfl g rfl X0.out.bd.at_ ?_)
  refine (CF.out _ X0.out.bd.at_).mono ?_; rintro e w1 ⟨rfl, b1'⟩
  have X1 := Lib.hid (X0.out.on b1')
  clear b1' X0 CF
  go_wp2_with fail
  refine (CL.out _ (by rw [← hg]; exact X1.out.bd.below)).mono ?_; rintro e w2 ⟨rfl, b2'⟩
  have X2 := Lib.hid (X1.out.on b2')
  clear b2' X1 CL
  cases b1
  · go_wp2_with fail
    refine (alive_any _).mono ?_; rintro e w3 ⟨rfl, b3'⟩
    have X3 := Lib.hid (X2.out.on b3')
    clear b3' X2
    go_wp2_with fail
    go_ret
    exact ⟨rfl, hg ▸ X3.out.bd.below⟩
  · have HB : b2 = false := by have := HH.out; simpa using this
    subst HB
    go_wp2_with fail
    refine (alive_any _).mono ?_; rintro e w3 ⟨rfl, b3'⟩
    have X3 := Lib.hid (X2.out.on b3')
    clear b3' X2
    go_wp2_with fail
    go_ret
    exact ⟨rfl, hg ▸ X3.out.bd.below⟩
set_option maxRecDepth 100000 in
set_option maxHeartbeats 6400000 in
theorem tells_no (hcap : s.ps.length ≤ cap) (hf : Sc.fits s = true) (hl : lfit ls = true) (h : fitb s ls.length = false) :
    Calls Try.prog 3 #[.agg (scv s a cap).toArray, .slice al ls.length lcap, .agg #[.int .i64 i, .int .i64 n]] w fun e w' => e = .returned (.bool true) ∧ Below w.heap.size w w' := by
  have X0 := Lib.hid (jt_new (cap := cap) L hp i n)
  have CF := Lib.hid (fun W (D : At W w.heap.size s a cap) => Sc.fits_any s a cap W D.len D.ps)
  have CL := Lib.hid (fun W (b : Below w.heap.size w W) => lfits_any al lcap ls W (ho.below b))
  rw [hf] at CF
  rw [hl] at CL
  have CO := Lib.hid (fun W (D : At W w.heap.size s a cap) => Sc.of_any s a cap W D.len D.ps (Sc.fits_len hf))
  have CR := Lib.hid (fun W mg a' cap' (R : RAt W mg s a' cap') => Sc.rfault_any mg s a' cap' W R)
  obtain ⟨rv, hrv0, hrv1, crow⟩ := row_any s a cap i n w L hp hcap
  have HR0 := Lib.hid hrv0
  have HR1 := Lib.hid hrv1
  have CW := Lib.hid crow
  have CG := Lib.hid (fun W (b : Below w.heap.size w W) => good_any s a cap al lcap ls W L (hp.below b) (ho.below b) hcap)
  rw [show good s ls = false by unfold good; rw [h]; rfl] at CG
  have CA := Lib.hid (fun W (D : At W w.heap.size s a cap) => all_no s a cap al lcap W D.len D.ps ls.length h)
  have HH := Lib.hid (has_eq s i n)
  have HK := Lib.hid (fun h => Sc.has_is (s := s) (i := i) (n := n) h)
  have CRW := Lib.hid (fun W mg a' cap' (R : RAt W mg s a' cap') (H : Ok s) i' n' hi hn => rrow_any mg s a' cap' W R H i' n' hi hn)
  have HFB := Lib.hid (show ((fault s).toList.isEmpty && decide ((ls.length : Int) = s.ps.length)) = false by
    rw [Sc.emp, ← h]
    unfold fitb
    rw [show decide ((ls.length : Int) = s.ps.length) = decide (ls.length = s.ps.length) by rw [decide_eq_decide]; omega])
  clear L hp ho hcap hf hl h hrv0 hrv1 crow
  generalize has s i n = hb at *
  generalize fault s = ft at *
  obtain ⟨m, hm⟩ : ∃ m, m = s.ps.length := ⟨_, rfl⟩
  have HM := Lib.hid hm
  rw [← hm] at HH HFB
  generalize ls.length = k at *
  go_enter Try.func3, Try.ntmps3
  go_upto_region 1 with fail
  generalize (w.alloc (.cells (scv s a cap).toArray 27)).alloc (.cells #[.int .i64 i, .int .i64 n] 30) = w0 at *
  generalize hg : w.heap.size = g at *
  go_wp2_with ((with_reducible show wpList _ _ _ (⟨some 18, _, _, _, _, _⟩ :: _) _ _); refine loadS rfl _ rfl g rfl X0.out.bd.at_ ?_)
  refine (CF.out _ X0.out.bd.at_).mono ?_; rintro e w1 ⟨rfl, b1'⟩
  have X1 := Lib.hid (X0.out.on b1')
  clear b1' X0 CF
  go_wp2_with fail
  refine (CL.out _ (by rw [← hg]; exact X1.out.bd.below)).mono ?_; rintro e w2 ⟨rfl, b2'⟩
  have X2 := Lib.hid (X1.out.on b2')
  clear b2' X1 CL
  go_wp2_with ((with_reducible show wpList _ _ _ (⟨some 29, _, _, _, _, _⟩ :: _) _ _); refine loadS rfl _ rfl g rfl X2.out.bd.at_ ?_)
  refine (CO.out _ X2.out.bd.at_).mono ?_; rintro e w3 ⟨mg, a', cap', rfl, r3, b3'⟩
  have X3 := Lib.hid (X2.out.on b3')
  have R3 := Lib.hid r3
  clear b3' X2 CO r3
  go_wp2_with ((with_reducible show wpList _ _ _ (⟨some 32, _, _, _, _, _⟩ :: _) _ _); refine loadS rfl _ rfl g rfl X3.out.bd.at_ ?_)
  refine (CA.out _ X3.out.bd.at_).mono ?_; rintro e w4 ⟨rfl, b4'⟩
  have X4 := Lib.hid (X3.out.on b4')
  have R4 := Lib.hid (R3.out.on b4')
  clear b4' X3 R3 CA
  have c0 := X4.out.pl.cell 0 (v := .int .i64 i) rfl
  have c1 := X4.out.pl.cell 1 (v := .int .i64 n) rfl
  go_wp2_with ((with_reducible show wpList _ _ _ (⟨some 37, _, _, _, _, _⟩ :: _) _ _); refine loadS rfl _ rfl g rfl X4.out.bd.at_ ?_)
  refine (CW.out _ (by rw [← hg]; exact X4.out.bd.below)).mono ?_; rintro e w5 ⟨rfl, b5'⟩
  have X5 := Lib.hid (X4.out.on b5')
  have R5 := Lib.hid (R4.out.on b5')
  clear b5' X4 R4 CW c0 c1
  go_wp2_with ((with_reducible show wpList _ _ _ (⟨some 43, _, _, _, _, _⟩ :: _) _ _); refine loadS rfl _ rfl g rfl X5.out.bd.at_ ?_)
  refine (CG.out _ (by rw [← hg]; exact X5.out.bd.below)).mono ?_; rintro e w6 ⟨rfl, b6'⟩
  have X6 := Lib.hid (X5.out.on b6')
  have R6 := Lib.hid (R5.out.on b6')
  clear b6' X5 R5 CG
  go_wp2_with fail
  refine (CR.out _ _ _ _ R6.out).mono ?_; rintro e w7 ⟨rfl, b7'⟩
  have X7 := Lib.hid (X6.out.on b7')
  have R7 := Lib.hid (R6.out.on b7')
  clear b7' X6 R6 CR
  have c0 := X7.out.pl.cell 0 (v := .int .i64 i) rfl
  have c1 := X7.out.pl.cell 1 (v := .int .i64 n) rfl
  have c28 := X7.out.bd.at_.p
  rw [← hm] at c28
  clear hm
  go_upto_region 10 with fail
  go_cut [15] from 48 to 72 (fun s15 wx => s15 = .bool hb ∧ wx = w7)
  case first =>
    cases q0 : ft.toList.isEmpty
    · go_wp2_with fail
      go_meet
      exact ⟨by rw [HH.out, q0]; rfl, rfl⟩
    · cases q1 : decide (0 ≤ i)
      · go_wp2_with fail
        go_meet
        exact ⟨by rw [HH.out, q0, q1]; rfl, rfl⟩
      · cases q2 : decide (i < (m : Int))
        · go_wp2_with fail
          go_meet
          exact ⟨by rw [HH.out, q0, q1, q2]; rfl, rfl⟩
        · cases q3 : decide (0 ≤ n)
          · go_wp2_with fail
            go_meet
            exact ⟨by rw [HH.out, q0, q1, q2, q3]; rfl, rfl⟩
          · cases q4 : decide (n ≤ 7)
            · go_wp2_with fail
              go_meet
              exact ⟨by rw [HH.out, q0, q1, q2, q3, q4]; rfl, rfl⟩
            · go_wp2_with fail
              go_meet
              exact ⟨by rw [HH.out, q0, q1, q2, q3, q4]; rfl, rfl⟩
  case rest =>
    obtain ⟨rfl, rfl⟩ := hcut
    rename World => W7
    cases hb
    · obtain rfl : rv = 0 := HR0.out rfl
      clear c0 c1
      cases q0 : ft.toList.isEmpty
      · go_wp2_with fail
        refine (alive_any _).mono ?_; rintro e w9 ⟨rfl, b9'⟩
        have X9 := Lib.hid (X7.out.on b9')
        clear b9' X7
        go_wp2_with fail
        go_ret
        exact ⟨rfl, hg ▸ X9.out.bd.below⟩
      · have q1 : ((k : Int) != (m : Int)) = true := by have := HFB.out; rw [q0] at this; simp at this; simp; omega
        go_wp2_with fail
        refine (alive_any _).mono ?_; rintro e w9 ⟨rfl, b9'⟩
        have X9 := Lib.hid (X7.out.on b9')
        clear b9' X7
        go_wp2_with fail
        go_ret
        exact ⟨rfl, hg ▸ X9.out.bd.below⟩
    · obtain ⟨H, i', n', rfl, rfl, hi, hn⟩ := HK.out rfl
      have HRV := Lib.hid (HR1.out i' n' rfl rfl rfl)
      have CX := fun W (R : RAt W mg s a' cap') => CRW.out W mg a' cap' R H i' n' hi hn
      rw [← HRV.out] at CX
      clear H hi hn CRW HR0 HR1 HRV HK HH
      go_wp2_with fail
      refine (CX _ R7.out).mono ?_; rintro e w8 ⟨rfl, b8'⟩
      have X8 := Lib.hid (X7.out.on b8')
      have c28 := X8.out.bd.at_.p
      rw [← HM.out] at c28
      clear b8' X7 R7 CX c0 c1
      cases q0 : ft.toList.isEmpty
      · go_wp2_with fail
        refine (alive_any _).mono ?_; rintro e w9 ⟨rfl, b9'⟩
        have X9 := Lib.hid (X8.out.on b9')
        clear b9' X8
        go_wp2_with fail
        go_ret
        exact ⟨rfl, hg ▸ X9.out.bd.below⟩
      · have q1 : ((k : Int) != (m : Int)) = true := by have := HFB.out; rw [q0] at this; simp at this; simp; omega
        go_wp2_with fail
        refine (alive_any _).mono ?_; rintro e w9 ⟨rfl, b9'⟩
        have X9 := Lib.hid (X8.out.on b9')
        clear b9' X8
        go_wp2_with fail
        go_ret
        exact ⟨rfl, hg ▸ X9.out.bd.below⟩
set_option maxRecDepth 100000 in
set_option maxHeartbeats 6400000 in
theorem tells_yes (hcap : s.ps.length ≤ cap) (hf : Sc.fits s = true) (hl : lfit ls = true) (h : fitb s ls.length = true) :
    Calls Try.prog 3 #[.agg (scv s a cap).toArray, .slice al ls.length lcap, .agg #[.int .i64 i, .int .i64 n]] w fun e w' => e = .returned (.bool true) ∧ Below w.heap.size w w' := by
  have X0 := Lib.hid (jt_new (cap := cap) L hp i n)
  have CF := Lib.hid (fun W (D : At W w.heap.size s a cap) => Sc.fits_any s a cap W D.len D.ps)
  have CL := Lib.hid (fun W (b : Below w.heap.size w W) => lfits_any al lcap ls W (ho.below b))
  rw [hf] at CF
  rw [hl] at CL
  have CO := Lib.hid (fun W (D : At W w.heap.size s a cap) => Sc.of_any s a cap W D.len D.ps (Sc.fits_len hf))
  have CR := Lib.hid (fun W mg a' cap' (R : RAt W mg s a' cap') => Sc.rfault_any mg s a' cap' W R)
  obtain ⟨rv, hrv0, hrv1, crow⟩ := row_any s a cap i n w L hp hcap
  have HR0 := Lib.hid hrv0
  have HR1 := Lib.hid hrv1
  have CW := Lib.hid crow
  have CG := Lib.hid (fun W (b : Below w.heap.size w W) => good_any s a cap al lcap ls W L (hp.below b) (ho.below b) hcap)
  obtain ⟨H, hlen⟩ := fitb_iff.1 h
  have HGD := Lib.hid (show good s ls = (bads s ls (8 * ls.length)).isEmpty by unfold good; rw [h]; rfl)
  have CA := Lib.hid (fun W (D : At W w.heap.size s a cap) (b : Below w.heap.size w W) => all_yes s a cap al lcap ls W D.len D.ps (ho.below b) hcap h)
  have CRA := Lib.hid (fun W mg a' cap' (R : RAt W mg s a' cap') (b : Below w.heap.size w W) => rall_any mg s a' cap' al lcap ls W R H (ho.below b) hlen)
  have HH := Lib.hid (has_eq s i n)
  have HK := Lib.hid (fun h => Sc.has_is (s := s) (i := i) (n := n) h)
  have CRW := Lib.hid (fun W mg a' cap' (R : RAt W mg s a' cap') (H : Ok s) i' n' hi hn => rrow_any mg s a' cap' W R H i' n' hi hn)
  have q00 : (fault s).toList.isEmpty = true := by rw [Sc.emp]; exact decide_eq_true (Sc.fault_ok.2 H)
  have HPL := Lib.hid (show (bads s ls (8 * ls.length)).length ≤ 100000 by have := bads_len (s := s) (l := ls) (m := 8 * ls.length); have := H.few; omega)
  clear L hp ho hcap hf hl h hrv0 hrv1 crow H
  generalize has s i n = hb at *
  generalize fault s = ft at *
  obtain ⟨m, hm⟩ : ∃ m, m = s.ps.length := ⟨_, rfl⟩
  have HM := Lib.hid hm
  rw [← hm] at HH hlen
  have HQ := Lib.hid q00
  have HLN := Lib.hid hlen
  generalize good s ls = gd at *
  generalize wa s ls = f at *
  generalize bads s ls (8 * ls.length) = ps at *
  obtain ⟨k, hk⟩ : ∃ k, k = ls.length := ⟨_, rfl⟩
  rw [← hk] at CL CG CA CRA HLN ⊢
  clear q00 hlen hk
  go_enter Try.func3, Try.ntmps3
  go_upto_region 1 with fail
  generalize (w.alloc (.cells (scv s a cap).toArray 27)).alloc (.cells #[.int .i64 i, .int .i64 n] 30) = w0 at *
  generalize hg : w.heap.size = g at *
  go_wp2_with ((with_reducible show wpList _ _ _ (⟨some 18, _, _, _, _, _⟩ :: _) _ _); refine loadS rfl _ rfl g rfl X0.out.bd.at_ ?_)
  refine (CF.out _ X0.out.bd.at_).mono ?_; rintro e w1 ⟨rfl, b1'⟩
  have X1 := Lib.hid (X0.out.on b1')
  clear b1' X0 CF
  go_wp2_with fail
  refine (CL.out _ (by rw [← hg]; exact X1.out.bd.below)).mono ?_; rintro e w2 ⟨rfl, b2'⟩
  have X2 := Lib.hid (X1.out.on b2')
  clear b2' X1 CL
  go_wp2_with ((with_reducible show wpList _ _ _ (⟨some 29, _, _, _, _, _⟩ :: _) _ _); refine loadS rfl _ rfl g rfl X2.out.bd.at_ ?_)
  refine (CO.out _ X2.out.bd.at_).mono ?_; rintro e w3 ⟨mg, a', cap', rfl, r3, b3'⟩
  have X3 := Lib.hid (X2.out.on b3')
  have R3 := Lib.hid r3
  clear b3' X2 CO r3
  go_wp2_with ((with_reducible show wpList _ _ _ (⟨some 32, _, _, _, _, _⟩ :: _) _ _); refine loadS rfl _ rfl g rfl X3.out.bd.at_ ?_)
  refine (CA.out _ X3.out.bd.at_ (by rw [← hg]; exact X3.out.bd.below)).mono ?_; rintro e w4 ⟨a1, cp1, rfl, hcm, b4'⟩
  have M4 := Lib.hid hcm
  clear hcm
  have X4 := Lib.hid (X3.out.on b4')
  have R4 := Lib.hid (R3.out.on b4')
  clear b4' X3 R3 CA
  have c0 := X4.out.pl.cell 0 (v := .int .i64 i) rfl
  have c1 := X4.out.pl.cell 1 (v := .int .i64 n) rfl
  go_wp2_with ((with_reducible show wpList _ _ _ (⟨some 37, _, _, _, _, _⟩ :: _) _ _); refine loadS rfl _ rfl g rfl X4.out.bd.at_ ?_)
  refine (CW.out _ (by rw [← hg]; exact X4.out.bd.below)).mono ?_; rintro e w5 ⟨rfl, b5'⟩
  have X5 := Lib.hid (X4.out.on b5')
  have R5 := Lib.hid (R4.out.on b5')
  have M5 := Lib.hid (M4.out.on b5')
  clear b5' X4 R4 CW c0 c1
  go_wp2_with ((with_reducible show wpList _ _ _ (⟨some 43, _, _, _, _, _⟩ :: _) _ _); refine loadS rfl _ rfl g rfl X5.out.bd.at_ ?_)
  refine (CG.out _ (by rw [← hg]; exact X5.out.bd.below)).mono ?_; rintro e w6 ⟨rfl, b6'⟩
  have X6 := Lib.hid (X5.out.on b6')
  have R6 := Lib.hid (R5.out.on b6')
  have M6 := Lib.hid (M5.out.on b6')
  clear b6' X5 R5 CG
  go_wp2_with fail
  refine (CR.out _ _ _ _ R6.out).mono ?_; rintro e w7 ⟨rfl, b7'⟩
  have X7 := Lib.hid (X6.out.on b7')
  have R7 := Lib.hid (R6.out.on b7')
  have M7 := Lib.hid (M6.out.on b7')
  clear M4 M5 M6
  clear b7' X6 R6 CR
  have c0 := X7.out.pl.cell 0 (v := .int .i64 i) rfl
  have c1 := X7.out.pl.cell 1 (v := .int .i64 n) rfl
  have c28 := X7.out.bd.at_.p
  rw [← hm] at c28
  clear hm
  go_upto_region 10 with fail
  go_cut [15] from 48 to 72 (fun s15 wx => s15 = .bool hb ∧ wx = w7)
  case first =>
    cases q0 : ft.toList.isEmpty
    · go_wp2_with fail
      go_meet
      exact ⟨by rw [HH.out, q0]; rfl, rfl⟩
    · cases q1 : decide (0 ≤ i)
      · go_wp2_with fail
        go_meet
        exact ⟨by rw [HH.out, q0, q1]; rfl, rfl⟩
      · cases q2 : decide (i < (m : Int))
        · go_wp2_with fail
          go_meet
          exact ⟨by rw [HH.out, q0, q1, q2]; rfl, rfl⟩
        · cases q3 : decide (0 ≤ n)
          · go_wp2_with fail
            go_meet
            exact ⟨by rw [HH.out, q0, q1, q2, q3]; rfl, rfl⟩
          · cases q4 : decide (n ≤ 7)
            · go_wp2_with fail
              go_meet
              exact ⟨by rw [HH.out, q0, q1, q2, q3, q4]; rfl, rfl⟩
            · go_wp2_with fail
              go_meet
              exact ⟨by rw [HH.out, q0, q1, q2, q3, q4]; rfl, rfl⟩
  case rest =>
    obtain ⟨rfl, rfl⟩ := hcut
    rename World => W7
    have q0 := HQ.out
    cases hb
    · obtain rfl : rv = 0 := HR0.out rfl
      clear c0 c1
      have q1 : ((k : Int) != (m : Int)) = false := by have := HLN.out; simp; omega
      go_wp2_with fail
      refine (CRA.out _ _ _ _ R7.out (by rw [← hg]; exact X7.out.bd.below)).mono ?_; rintro e w9 ⟨a2, cp2, rfl, hcm, b9'⟩
      have X9 := Lib.hid (X7.out.on b9')
      have M9 := Lib.hid (And.intro (M7.out.on b9') hcm)
      clear b9' X7 R7 M7 CRA hcm q0 q1 c28
      go_wp2_with fail
      refine (same_self a1 a2 cp1 cp2 f ps _ M9.out.1 M9.out.2 HPL.out).mono ?_; rintro e w10 ⟨rfl, b10'⟩
      have X10 := Lib.hid (X9.out.on b10')
      clear b10' X9 M9
      go_wp2_with fail
      refine (alive_any _).mono ?_; rintro e w11 ⟨rfl, b11'⟩
      have X11 := Lib.hid (X10.out.on b11')
      clear b11' X10
      obtain ⟨q, hq⟩ : ∃ q, q = ps.length := ⟨_, rfl⟩
      by_cases hq0 : ps = []
      · have hgd : gd = true := by rw [HGD.out, hq0]; rfl
        have hpl : ps.length = 0 := by rw [hq0]; rfl
        rw [hpl] at *
        subst hgd
        clear HGD hq hq0
        go_wp2_with fail
        go_ret
        exact ⟨rfl, hg ▸ X11.out.bd.below⟩
      · have hgd : gd = false := by rw [HGD.out, List.isEmpty_eq_false_iff]; exact hq0
        have hpl : 0 < q := by rw [hq]; exact List.length_pos_iff.2 hq0
        have e0 : ((q : Int) == 0) = false := by simp; omega
        subst hgd
        rw [← hq]
        clear HGD hq hq0 hpl HPL
        go_wp2_with fail
        go_ret
        exact ⟨rfl, hg ▸ X11.out.bd.below⟩
    · obtain ⟨H, i', n', rfl, rfl, hi, hn⟩ := HK.out rfl
      have HRV := Lib.hid (HR1.out i' n' rfl rfl rfl)
      have CX := fun W (R : RAt W mg s a' cap') => CRW.out W mg a' cap' R H i' n' hi hn
      rw [← HRV.out] at CX
      clear H hi hn CRW HR0 HR1 HRV HK HH
      go_wp2_with fail
      refine (CX _ R7.out).mono ?_; rintro e w8 ⟨rfl, b8'⟩
      have X8 := Lib.hid (X7.out.on b8')
      have R8 := Lib.hid (R7.out.on b8')
      have M8 := Lib.hid (M7.out.on b8')
      have c28 := X8.out.bd.at_.p
      rw [← HM.out] at c28
      clear b8' X7 R7 M7 CX c0 c1
      have q1 : ((k : Int) != (m : Int)) = false := by have := HLN.out; simp; omega
      go_wp2_with fail
      refine (CRA.out _ _ _ _ R8.out (by rw [← hg]; exact X8.out.bd.below)).mono ?_; rintro e w9 ⟨a2, cp2, rfl, hcm, b9'⟩
      have X9 := Lib.hid (X8.out.on b9')
      have M9 := Lib.hid (And.intro (M8.out.on b9') hcm)
      clear b9' X8 R8 M8 CRA hcm q0 q1 c28
      go_wp2_with fail
      refine (same_self a1 a2 cp1 cp2 f ps _ M9.out.1 M9.out.2 HPL.out).mono ?_; rintro e w10 ⟨rfl, b10'⟩
      have X10 := Lib.hid (X9.out.on b10')
      clear b10' X9 M9
      go_wp2_with fail
      refine (alive_any _).mono ?_; rintro e w11 ⟨rfl, b11'⟩
      have X11 := Lib.hid (X10.out.on b11')
      clear b11' X10
      obtain ⟨q, hq⟩ : ∃ q, q = ps.length := ⟨_, rfl⟩
      by_cases hq0 : ps = []
      · have hgd : gd = true := by rw [HGD.out, hq0]; rfl
        have hpl : ps.length = 0 := by rw [hq0]; rfl
        rw [hpl] at *
        subst hgd
        clear HGD hq hq0
        go_wp2_with fail
        go_ret
        exact ⟨rfl, hg ▸ X11.out.bd.below⟩
      · have hgd : gd = false := by rw [HGD.out, List.isEmpty_eq_false_iff]; exact hq0
        have hpl : 0 < q := by rw [hq]; exact List.length_pos_iff.2 hq0
        have e0 : ((q : Int) == 0) = false := by simp; omega
        subst hgd
        rw [← hq]
        clear HGD hq hq0 hpl HPL
        go_wp2_with fail
        go_ret
        exact ⟨rfl, hg ▸ X11.out.bd.below⟩
theorem tells_any (hcap : s.ps.length ≤ cap) :
    Calls Try.prog 3 #[.agg (scv s a cap).toArray, .slice al ls.length lcap, .agg #[.int .i64 i, .int .i64 n]] w fun e w' => e = .returned (.bool true) ∧ Below w.heap.size w w' := by
  cases h : Sc.fits s && lfit ls
  · exact tells_large s a cap al lcap ls i n w L hp ho h
  · rw [Bool.and_eq_true] at h
    cases hb : fitb s ls.length
    · exact tells_no s a cap al lcap ls i n w L hp ho hcap h.1 h.2 hb
    · exact tells_yes s a cap al lcap ls i n w L hp ho hcap h.1 h.2 hb
end
end Jd
namespace judgeTells
open Sc (Sn PsAt scv Lens)
open Ot (Ou)
theorem walk (s : Sn) (a : Option Addr) (cap : Nat) (al : Option Addr) (lcap : Nat) (ls : List Ou) (i n : Int) (w : World) (L : Lens s) (hp : PsAt w a s.ps) (hcap : s.ps.length ≤ cap) (ho : Jd.OutsAt w al ls) (_ : (Lit.int .i64 i).wf = true) (_ : (Lit.int .i64 n).wf = true) :
    Calls Try.prog 3 #[.agg (scv s a cap).toArray, .slice al ls.length lcap, .agg #[.int .i64 i, .int .i64 n]] w fun e w' => e = .returned (.bool true) ∧ Below w.heap.size w w' :=
  Jd.tells_any s a cap al lcap ls i n w L hp ho hcap
end judgeTells
end Go.Proofs.Ytchnnpaebggfdaa
