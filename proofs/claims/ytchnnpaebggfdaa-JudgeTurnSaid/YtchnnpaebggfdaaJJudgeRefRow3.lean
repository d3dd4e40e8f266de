/-
  What the document's Row, and word of layer 23 tell: contracts by walking the Go text. Conditions: how the document's scene, and the output lie.
  What the document's word of layer 23 tells: a contract by walking the Go text. Conditions: how the document's scene, and the output lie.
  What the document's All of layer 23 tells: a contract by walking the Go text. Conditions: how the document's scene, and the outputs lie.
-/
import Derived.Test.YtchnnpaebggfdaaJJudgeMem2
import Derived.Test.YtchnnpaebggfdaaJJudgeWord2
import Derived.Test.YtchnnpaebggfdaaSceneRefMore
import Derived.Test.YtchnnpaebggfdaaJFixMaskRef3
import Derived.BigQuiet
import Derived.Test.YtchnnpaebggfdaaJJudgeSeq4
namespace Go.Proofs.Ytchnnpaebggfdaa
set_option maxRecDepth 100000
open Go.ChangeShapes Go.WideShapes Go.ChangeAt Go.RowKit Go.Deep
namespace Jd
open Cf (G CA)
open Sc (Sn Pt Ok PsAt PtOk pt scv ptv Lens At Bd loadS NN far RAt RBd)
open Ot (Ou ouc)
open Ss (St str zer)
section
variable (g : Nat) (s : Sn) (a : Option Addr) (cap : Nat) (w : World) (R : RAt w g s a cap) (H : Ok s)
include R H
set_option maxHeartbeats 1600000 in
theorem rrow_any (i n : Nat) (hi : i < s.ps.length) (hn : n < 8) :
    Calls Try.prog 13 #[.pointer (some ⟨g, 0, none⟩), .int .i64 i, .int .i64 n] w fun e w' => e = .returned (.int .i64 (rowc s n (i + 1) : Nat)) ∧ Below w.heap.size w w' := by
  have X0 := Lib.hid (RBd.start R)
  have CF := Lib.hid (fun W (D : RAt W g s a cap) (j : Nat) (hj : j < s.ps.length) => Sc.rfar_any g s a cap W D H j n hj hn)
  have HRE := Lib.hid (fun k hk hf he => rowc_end (s := s) (n := n) (i := i + 1) (k := k) hk hf he)
  have HIL := Lib.hid hi
  have hi63 : (i : Int) ≤ 10000 := by have := H.few; omega
  clear R H hi hn
  generalize hrr : rowc s n (i + 1) = ans at *
  clear hrr
  go_enter Try.func13, Try.ntmps13
  go_wp2_with fail
  go_loopg [7, 8, 9] (i + 1) (fun gg s7 s8 _ wr => ∃ c : Nat, c + gg = i + 1 ∧ s7 = .int .i64 c ∧ s8 = .int .i64 ((i : Int) - c) ∧ Hid (∀ j, j < c → far s (i + 1 - 1 - j) n = true) ∧ Hid (RBd w wr g s a cap))
  case atStart => exact ⟨0, by omega, rfl, by simp, Lib.hid (fun j hj => by omega), X0⟩
  case round =>
    clear X0
    rename World => W
    obtain ⟨c, hc, rfl, rfl, HA, D⟩ := hrel
    have HC := Lib.hid hc
    clear hc
    by_cases hlt : c < i + 1
    · obtain ⟨j, hj⟩ : ∃ j, j = i + 1 - 1 - c := ⟨_, rfl⟩
      have HJ := Lib.hid hj
      have HE := Lib.hid (show (i : Int) - c = (j : Int) by omega)
      have hjl : j < s.ps.length := by have := HIL.out; omega
      have hj0 : (0 : Int) ≤ (j : Int) := by omega
      have hji : (j : Int) ≤ 10000 := by omega
      have hc63 : (c : Int) ≤ 10000 := by omega
      have CJ := fun W (D : RAt W g s a cap) => CF.out W D j hjl
      have HLT := Lib.hid hlt
      clear hlt hj hjl
      rw [HE.out]
      generalize hfj : far s j n = fj at *
      have HF := Lib.hid hfj
      clear hfj
      go_wp2_with fail
      refine (CJ _ D.out.at_).mono ?_; rintro e w2 ⟨rfl, b2⟩
      have D2 := Lib.hid (D.out.on b2)
      clear b2 D CJ
      cases fj
      · have HX := Lib.hid (show ans = c from HRE.out c (by have := HLT.out; omega) HA.out (Or.inr ⟨HLT.out, by rw [← HJ.out]; exact HF.out⟩))
        go_wp2_with fail
        go_ret
        exact ⟨by rw [HX.out]; rfl, D2.out.below⟩
      · go_wp2_with fail
        go_roundg (gk - 1)
        case rel => exact ⟨c + 1, by have := HC.out; have := HLT.out; omega, by go_num, by have := HE.out; go_num, Lib.hid (fun q hq => by
          rcases Nat.lt_succ_iff_lt_or_eq.1 hq with h | rfl
          · exact HA.out q h
          · rw [← HJ.out]; exact HF.out), D2⟩
        case measure => have := HC.out; have := HLT.out; omega
    · obtain rfl : c = i + 1 := by have := HC.out; omega
      have HX := Lib.hid (show ans = i + 1 from HRE.out (i + 1) (Nat.le_refl _) HA.out (Or.inl rfl))
      have HE := Lib.hid (show (i : Int) - ((i + 1 : Nat) : Int) = -1 by omega)
      rw [HE.out]
      go_wp2_with fail
      go_ret
      exact ⟨by rw [HX.out]; rfl, D.out.below⟩
end
end Jd
end Go.Proofs.Ytchnnpaebggfdaa

namespace Go.Proofs.Ytchnnpaebggfdaa
set_option maxRecDepth 100000
open Go.ChangeShapes Go.WideShapes Go.ChangeAt Go.RowKit Go.Deep
namespace Jd
open Cf (G CA)
open Sc (Sn Pt Ok PsAt PtOk pt scv ptv Lens At Bd loadS NN far RAt RBd)
open Ot (Ou ouc)
open Ss (St str zer)
theorem lo_one {s : Sn} {i n : Nat} (H : Ok s) (hi : i < s.ps.length) (hn : n < 8) : Sc.lo 4294967296 s i n (NN s) = least s i n := by
  have C := Sc.cv_of H.cov
  refine Sc.lo_base (Sc.some_in C) fun k hk ho => ?_
  have h1 := H.within hi hk hn ho
  have h2 := C.hi
  omega
theorem hi_one {s : Sn} {i n : Nat} (H : Ok s) (hi' : i < s.ps.length) (hn : n < 8) : Sc.hi (-4294967296) s i n (NN s) = most s i n := by
  have C := Sc.cv_of H.cov
  refine Sc.hi_base (Sc.some_in C) fun k hk ho => ?_
  have h1 := H.within hi' hk hn ho
  have h2 := C.lo
  omega
/-- What lies about: the document's scene, the output, its status. -/
structure Wk (w W : World) (g : Nat) (s : Sn) (a : Option Addr) (cap og sg : Nat) (o : Ou) (x : St) : Prop where
  bd : RBd w W g s a cap
  ou : VRow W og 57 (ouc o)
  st : VRow W sg 54 (str x)
theorem Wk.on {w W W' : World} {g : Nat} {s : Sn} {a : Option Addr} {cap og sg : Nat} {o : Ou} {x : St} (h : Wk w W g s a cap og sg o x) (b : Below W.heap.size W W') : Wk w W' g s a cap og sg o x := ⟨h.bd.on b, h.ou.below b h.ou.lt, h.st.below b h.st.lt⟩
set_option maxRecDepth 100000 in
set_option maxHeartbeats 6400000 in
theorem rword_any (g : Nat) (s : Sn) (a : Option Addr) (cap : Nat) (w : World) (R : RAt w g s a cap) (H : Ok s) (o : Ou) (K : Ot.Ok o) (i n : Nat) (hi : i < s.ps.length) (hn : n < 8) :
    Calls Try.prog 28 #[.pointer (some ⟨g, 0, none⟩), .agg (ouc o).toArray, .int .i64 i, .int .i64 n] w fun e w' => e = .returned (.string (wd s o i n (rowc s n (i + 1) : Nat))) ∧ Below w.heap.size w w' := by
  have X0 := Lib.hid ((RBd.start R).on (Sc.below_new w (ouc o).toArray 57))
  have V0' := VRow.new w (ouc o) 57
  have V0 := Lib.hid V0'
  have RS := Lib.hid (Ot.range_st V0' K n hn)
  have C := Lib.hid (Sc.cv_of H.cov)
  have hNN := C.out.eq
  have h4 : (NN s : Int) ≤ 4 := by have := C.out.nn; omega
  have CR := Lib.hid (fun W (D : RAt W g s a cap) => show Calls Try.prog 42 #[.pointer (some ⟨g, 0, none⟩), .int .i64 i, .int .i64 n] W fun e w' => e = .returned (.tuple #[.int .i64 (least s i n), .int .i64 (most s i n)]) ∧ Below W.heap.size W w' from by
    have h := Sc.rrange_any g s a cap W D H i n hi hn
    rw [lo_one H hi hn, hi_one H hi hn] at h
    exact h)
  have CW := Lib.hid (fun W (D : RAt W g s a cap) => rrow_any g s a cap W D H i n hi hn)
  have HV := Lib.hid (Ot.ouc_v K n hn)
  have hn8 : (n : Int) < 8 := by omega
  have hbd := range_bd H hi hn
  have zA := C.out.a
  have zP := C.out.p
  have HWD := Lib.hid (show wd s o i n (rowc s n (i + 1) : Nat) = wdx s (stt o n) (o.v.getD n 0) (least s i n) (most s i n) (rowc s n (i + 1) : Nat) from rfl)
  have HNI := Lib.hid (fun m k h1 h2 => sm_yes (s := s) (m := m) (b := false) (k := k) h1 h2)
  have HYI := Lib.hid (fun m h => sm_no (s := s) (m := m) (b := false) h)
  have HNL := Lib.hid (fun m k h1 h2 => sm_yes (s := s) (m := m) (b := true) (k := k) h1 h2)
  have HYL := Lib.hid (fun m h => sm_no (s := s) (m := m) (b := true) h)
  have H1 := Lib.hid (fun m b k => show sm1 s m b k = (!(decide ((k : Int) = s.odd)) && (Fx.has m k == b)) from rfl)
  have CH := Lib.hid (fun m k W => Fx.rhas_any m k W)
  clear R H hi hn V0' C
  generalize least s i n = le at *
  generalize most s i n = mo at *
  generalize rowc s n (i + 1) = rr at *
  generalize hxx : stt o n = x at *
  have HSX := Lib.hid (show o.s.getD n zer = x from hxx)
  rw [HSX.out] at RS
  generalize o.v.getD n 0 = v at *
  generalize wd s o i n rr = ans at *
  generalize hN : NN s = N at *
  clear hxx HSX K hN
  obtain ⟨oc, hoc⟩ : ∃ oc, oc = ouc o := ⟨_, rfl⟩
  have HOC := Lib.hid hoc
  rw [← hoc] at V0 RS HV X0 ⊢
  clear hoc
  go_enter Try.func28, Try.ntmps28
  go_upto_region 1 with fail
  generalize w.alloc (.cells oc.toArray 57) = w0 at *
  generalize w.heap.size = og at *
  have Z1 := VRow.new w0 (str zer) 54
  have B1 := Below.put ((Below.refl w0.heap.size w0).alloc (Nat.le_refl _) (.cells (str zer).toArray 54)) (Nat.le_refl _) (str x).toArray
  have KW := Lib.hid (show Wk w ((w0.alloc (.cells #[.int .i64 0, .int .i64 0, .int .i64 0, .bool false] 54)).setRow w0.heap.size (str x).toArray) g s a cap og w0.heap.size o x from ⟨X0.out.on B1, by rw [← HOC.out]; exact V0.out.below B1 V0.out.lt, VRow.put Z1 (str x)⟩)
  have ZZ := Lib.hid Z1
  clear Z1 B1 X0
  go_upto_region 2 with (first
    | ((with_reducible show wpList _ _ _ (⟨some 19, _, _, _, _, _⟩ :: _) _ _); refine wpList_load_mid rfl _ _ rfl og (9 + n * 4) rfl (str x) _ RS.out Try.underlying54 rfl Ss.sizeS ?_)
    | ((with_reducible show wpList _ _ _ (⟨none, .store _ (.tmp 9) _, _, _, _, _⟩ :: _) _ _); refine VB.store rfl _ _ rfl w0.heap.size (str x) rfl rfl ZZ.out Ss.sizeS rfl (Ss.str_one x) ?_))
  simp only [Act.put]
  generalize (w0.alloc (.cells #[.int .i64 0, .int .i64 0, .int .i64 0, .bool false] 54)).setRow w0.heap.size (str x).toArray = w1 at *
  generalize w0.heap.size = sg at *
  clear ZZ V0 RS
  have k3 := KW.out.st.cell 3 (v := .bool x.f) rfl
  unfold wdx at HWD
  cases hf : x.f
  · rw [hf] at k3 HWD
    rw [if_neg (by decide)] at HWD
    go_wp2_with fail
    clear k3
    go_loopg [10, 11] N (fun gg s10 _ wr => ∃ k : Nat, k + gg = N ∧ s10 = .int .i64 k ∧ Hid (∀ j, j < k → sm1 s x.i false j = false) ∧ Hid (Wk w wr g s a cap og sg o x))
    case atStart => exact ⟨0, by omega, rfl, Lib.hid (fun j hj => by omega), KW⟩
    case round =>
      clear KW
      rename World => W
      obtain ⟨k, hk, rfl, HA, D⟩ := hrel
      have HK := Lib.hid hk
      clear hk
      have c0 := D.out.bd.at_.c 0 (by omega)
      rw [hNN] at c0
      by_cases hlt : k < N
      · have hli : (k : Int) < N := by omega
        have hk4 : (k : Int) < 4 := by omega
        have e1 := D.out.st.cell 0 (v := .int .i64 x.i) rfl
        have c23 := D.out.bd.at_.odd
        have H1k := Lib.hid (H1.out x.i false k)
        have HNk := Lib.hid (HNI.out x.i k hlt)
        have HAk := Lib.hid (show sm1 s x.i false k = false → ∀ j, j < k + 1 → sm1 s x.i false j = false from fun h j hj => by
          rcases Nat.lt_succ_iff_lt_or_eq.1 hj with h' | rfl
          · exact HA.out j h'
          · exact h)
        have CHk := fun W => CH.out x.i k W
        have HKL := Lib.hid hlt
        clear hlt
        generalize sm1 s x.i false k = x1 at *
        generalize Fx.has x.i k = hb at *
        by_cases hod : (k : Int) = s.odd
        · have d1 : ((k : Int) != s.odd) = false := by simp [hod]
          have HX := Lib.hid (HAk.out (by rw [H1k.out]; simp [hod]))
          clear hod
          go_wp2_with fail
          refine (CHk _).mono ?_; rintro e w5 ⟨rfl, rfl⟩
          go_wp2_with fail
          go_roundg (gk - 1)
          case rel => exact ⟨k + 1, by have := HK.out; omega, by go_num, HX, D⟩
          case measure => have := HK.out; have := HKL.out; omega
        · have d1 : ((k : Int) != s.odd) = true := by simp [hod]
          have H2 := Lib.hid (show x1 = (hb == false) by rw [H1k.out]; simp [hod])
          clear hod
          cases hb
          · have HX := Lib.hid (HNk.out H2.out)
            rw [HX.out, if_pos rfl] at HWD
            go_wp2_with fail
            refine (CHk _).mono ?_; rintro e w5 ⟨rfl, rfl⟩
            go_wp2_with fail
            go_ret
            exact ⟨Sc.ret_str HWD.out.symm, D.out.bd.below⟩
          · have HX := Lib.hid (HAk.out H2.out)
            go_wp2_with fail
            refine (CHk _).mono ?_; rintro e w5 ⟨rfl, rfl⟩
            go_wp2_with fail
            go_roundg (gk - 1)
            case rel => exact ⟨k + 1, by have := HK.out; omega, by go_num, HX, D⟩
            case measure => have := HK.out; have := HKL.out; omega
      · obtain rfl : N = k := by have := HK.out; omega
        have HX := Lib.hid (HYI.out x.i HA.out)
        rw [HX.out, if_neg (by decide)] at HWD
        go_wp2_with fail
        clear c0
        go_loopg [12, 13] N (fun gg s12 _ wr => ∃ k : Nat, k + gg = N ∧ s12 = .int .i64 k ∧ Hid (∀ j, j < k → sm1 s x.l true j = false) ∧ Hid (Wk w wr g s a cap og sg o x))
        case atStart => exact ⟨0, by omega, rfl, Lib.hid (fun j hj => by omega), D⟩
        case round =>
          clear D
          rename World => W
          obtain ⟨k, hk, rfl, HA, D⟩ := hrel
          have HK := Lib.hid hk
          clear hk
          have c0 := D.out.bd.at_.c 0 (by omega)
          rw [hNN] at c0
          by_cases hlt : k < N
          · have hli : (k : Int) < N := by omega
            have hk4 : (k : Int) < 4 := by omega
            have e1 := D.out.st.cell 1 (v := .int .i64 x.l) rfl
            have c23 := D.out.bd.at_.odd
            have H1k := Lib.hid (H1.out x.l true k)
            have HNk := Lib.hid (HNL.out x.l k hlt)
            have HAk := Lib.hid (show sm1 s x.l true k = false → ∀ j, j < k + 1 → sm1 s x.l true j = false from fun h j hj => by
              rcases Nat.lt_succ_iff_lt_or_eq.1 hj with h' | rfl
              · exact HA.out j h'
              · exact h)
            have CHk := fun W => CH.out x.l k W
            have HKL := Lib.hid hlt
            clear hlt
            generalize sm1 s x.l true k = x1 at *
            generalize Fx.has x.l k = hb at *
            by_cases hod : (k : Int) = s.odd
            · have d1 : ((k : Int) != s.odd) = false := by simp [hod]
              have HX := Lib.hid (HAk.out (by rw [H1k.out]; simp [hod]))
              clear hod
              go_wp2_with fail
              refine (CHk _).mono ?_; rintro e w5 ⟨rfl, rfl⟩
              go_wp2_with fail
              go_roundg (gk - 1)
              case rel => exact ⟨k + 1, by have := HK.out; omega, by go_num, HX, D⟩
              case measure => have := HK.out; have := HKL.out; omega
            · have d1 : ((k : Int) != s.odd) = true := by simp [hod]
              have H2 := Lib.hid (show x1 = (hb == true) by rw [H1k.out]; simp [hod])
              clear hod
              cases hb
              · have HX := Lib.hid (HAk.out H2.out)
                go_wp2_with fail
                refine (CHk _).mono ?_; rintro e w5 ⟨rfl, rfl⟩
                go_wp2_with fail
                go_roundg (gk - 1)
                case rel => exact ⟨k + 1, by have := HK.out; omega, by go_num, HX, D⟩
                case measure => have := HK.out; have := HKL.out; omega
              · have HX := Lib.hid (HNk.out H2.out)
                rw [HX.out, if_pos rfl] at HWD
                go_wp2_with fail
                refine (CHk _).mono ?_; rintro e w5 ⟨rfl, rfl⟩
                go_wp2_with fail
                go_ret
                exact ⟨Sc.ret_str HWD.out.symm, D.out.bd.below⟩
          · obtain rfl : N = k := by have := HK.out; omega
            have HX := Lib.hid (HYL.out x.l HA.out)
            rw [HX.out, if_neg (by decide)] at HWD
            go_wp2_with fail
            clear c0
            refine (CR.out _ D.out.bd.at_).mono ?_; rintro e w6 ⟨rfl, b6⟩
            have D6 := Lib.hid (D.out.on b6)
            clear b6 D CR
            have q10 := D6.out.bd.at_.c 10 (by omega)
            have q12 := D6.out.bd.at_.c 12 (by omega)
            have qv := D6.out.ou.cell (1 + n) (by rw [← HOC.out]; exact HV.out)
            have p1 : IntKind.i64.wrap (le - G s.c 10) = le - G s.c 10 := IntWalk.i64_in _ (by omega)
            have p2 : IntKind.i64.wrap (le - G s.c 10 - G s.c 12) = le - G s.c 10 - G s.c 12 := IntWalk.i64_in _ (by omega)
            have p3 : IntKind.i64.wrap (mo + G s.c 10) = mo + G s.c 10 := IntWalk.i64_in _ (by omega)
            have p4 : IntKind.i64.wrap (mo + G s.c 10 + G s.c 12) = mo + G s.c 10 + G s.c 12 := IntWalk.i64_in _ (by omega)
            go_wp2_with fail
            go_quiet (fail)
            have bd7 := below_drewN (Below.refl w6.heap.size w6) nq
            have D7 := Lib.hid (D6.out.on bd7)
            clear bd7 D6 q10 q12 qv
            generalize w6.drewN nq = w7 at *
            by_cases h3 : v < le - G s.c 10 - G s.c 12
            · rw [if_pos h3] at HWD
              go_wp2_with fail
              go_ret
              exact ⟨Sc.ret_str HWD.out.symm, D7.out.bd.below⟩
            · rw [if_neg h3] at HWD
              have q10 := D7.out.bd.at_.c 10 (by omega)
              have q12 := D7.out.bd.at_.c 12 (by omega)
              have qv := D7.out.ou.cell (1 + n) (by rw [← HOC.out]; exact HV.out)
              go_wp2_with fail
              clear h3
              go_quiet (fail)
              have bd8 := below_drewN (Below.refl w7.heap.size w7) nq
              have D8 := Lib.hid (D7.out.on bd8)
              clear bd8 D7 q10 q12 qv
              generalize w7.drewN nq = w8 at *
              by_cases h4 : mo + G s.c 10 + G s.c 12 < v
              · rw [if_pos h4] at HWD
                go_wp2_with fail
                go_ret
                exact ⟨Sc.ret_str HWD.out.symm, D8.out.bd.below⟩
              · rw [if_neg h4] at HWD
                have cR := reg_call (w := w8) (fun W' b' => CW.out W' (D8.out.bd.at_.on b'))
                have cH := reg_call (w := w8) (fun W' b' => (CH.out x.l s.odd W').mono (fun e w' q => ⟨q.1, q.2 ▸ Below.refl _ _⟩))
                have q13 := cell_regrown (D8.out.bd.at_.c 13 (by omega))
                have q23 := cell_regrown D8.out.bd.at_.odd
                have k1 := cell_regrown (D8.out.st.cell 1 (v := .int .i64 x.l) rfl)
                go_wp2_with fail
                clear h4
                by_cases h5 : G s.c 13 ≤ (rr : Int)
                · have e5 : decide (G s.c 13 ≤ (rr : Int)) = true := by simpa using h5
                  cases h6 : Fx.has x.l s.odd
                  · rw [if_pos ⟨h5, h6⟩] at HWD
                    rw [h6] at cH
                    clear h5 h6
                    refine wp_region_quiet_below rfl (by kernel_rfl) ?_
                    repeat (go_big_quiet_step (first | exact cR _ _ | exact cH _ _))
                    refine wpQuiet_nil ?_
                    rintro w9 ⟨p9, rfl⟩
                    have D9 := Lib.hid (D8.out.on (below_regrown w8 p9.d p9.os))
                    go_wp2_with fail
                    go_ret
                    exact ⟨Sc.ret_str HWD.out.symm, D9.out.bd.below⟩
                  · rw [if_neg (fun q => by rw [h6] at q; cases q.2)] at HWD
                    rw [h6] at cH
                    clear h5 h6
                    refine wp_region_quiet_below rfl (by kernel_rfl) ?_
                    repeat (go_big_quiet_step (first | exact cR _ _ | exact cH _ _))
                    refine wpQuiet_nil ?_
                    rintro w9 ⟨p9, rfl⟩
                    have D9 := Lib.hid (D8.out.on (below_regrown w8 p9.d p9.os))
                    go_wp2_with fail
                    go_ret
                    exact ⟨Sc.ret_str HWD.out.symm, D9.out.bd.below⟩
                · rw [if_neg (fun q => h5 q.1)] at HWD
                  have e5 : decide (G s.c 13 ≤ (rr : Int)) = false := by simpa using h5
                  clear h5
                  refine wp_region_quiet_below rfl (by kernel_rfl) ?_
                  repeat (go_big_quiet_step (first | exact cR _ _ | exact cH _ _))
                  refine wpQuiet_nil ?_
                  rintro w9 ⟨p9, rfl⟩
                  have D9 := Lib.hid (D8.out.on (below_regrown w8 p9.d p9.os))
                  go_wp2_with fail
                  go_ret
                  exact ⟨Sc.ret_str HWD.out.symm, D9.out.bd.below⟩
  · rw [hf] at k3 HWD
    rw [if_pos rfl] at HWD
    go_wp2_with fail
    go_ret
    exact ⟨Sc.ret_str HWD.out.symm, KW.out.bd.below⟩
end Jd
end Go.Proofs.Ytchnnpaebggfdaa

namespace Go.Proofs.Ytchnnpaebggfdaa
set_option maxRecDepth 100000
open Go.ChangeShapes Go.WideShapes Go.ChangeAt Go.RowKit Go.Deep
namespace Jd
open Cf (G CA)
open Sc (Sn Pt Ok PsAt PtOk pt scv ptv Lens At Bd loadS NN far RAt RBd)
open Ot (Ou ouc)
open Ss (St str zer)
theorem rcmInfo : (Try.prog.info? 82).map (fun i => (i.zero, i.size, i.bytes)) = some (some (.agg #[.int .i64 0, .int .i64 0, .string ⟨#[]⟩]), 3, 32) := by kernel_rfl
/-- What is kept: the document's scene, and the complaints so far. -/
structure Ra (w W : World) (g : Nat) (s : Sn) (a : Option Addr) (cap : Nat) (ls : List Ou) (v : Value) (p : Nat) : Prop where
  bd : RBd w W g s a cap
  own : W.ownsRow w.heap.size 82 3 v (bads s ls p).length (cmf (wa s ls) (bads s ls p))
theorem Ra.on {w W W' : World} {g : Nat} {s : Sn} {a : Option Addr} {cap : Nat} {ls : List Ou} {v : Value} {p : Nat} (h : Ra w W g s a cap ls v p) (b : Below W.heap.size W W') : Ra w W' g s a cap ls v p :=
  ⟨h.bd.on b, Sc.ownsR_on h.own b⟩
set_option maxRecDepth 100000 in
set_option maxHeartbeats 6400000 in
theorem rall_any (g : Nat) (s : Sn) (a : Option Addr) (cap : Nat) (al : Option Addr) (lcap : Nat) (ls : List Ou) (w : World) (R : RAt w g s a cap) (H : Ok s) (ho : OutsAt w al ls) (hlen : ls.length = s.ps.length) :
    Calls Try.prog 14 #[.pointer (some ⟨g, 0, none⟩), .slice al ls.length lcap] w fun e w' => ∃ a' cap', e = .returned (.slice a' (bads s ls (8 * ls.length)).length cap') ∧ CmAt w' a' (wa s ls) (bads s ls (8 * ls.length)) ∧ Below w.heap.size w w' := by
  have X0 := Lib.hid (show Ra w w g s a cap ls (.slice none 0 0) 0 from ⟨RBd.start R, World.ownsRow_nil _ _ _ _⟩)
  have R0 := Lib.hid R
  have CW := Lib.hid (fun W (b : Below w.heap.size w W) (i k : Nat) (K : Ot.Ok (ou ls i)) (hi : i < s.ps.length) (hk : k < 8) => rword_any g s a cap W (R.on b) H (ou ls i) K i k hi hk)
  have HO := Lib.hid ho
  have HM := Lib.hid (show ls.length ≤ 10000 ∧ ls.length = s.ps.length from ⟨by rw [hlen]; exact H.few, hlen⟩)
  obtain ⟨i0, hi0, hz0, hz1, hz2⟩ := info_parts rcmInfo
  have hm63 : (ls.length : Int) ≤ 10000 := by have := HM.out; omega
  clear R H ho hlen
  obtain ⟨m, hm⟩ : ∃ m, m = ls.length := ⟨_, rfl⟩
  rw [← hm] at hm63 ⊢
  have HL := Lib.hid hm
  clear hm
  go_enter Try.func14, Try.ntmps14
  go_wp2_with fail
  go_loopg [5, 6, 7, 8] m (fun gg s5 s6 _ _ wr => ∃ (i : Nat) (v : Value), i + gg = m ∧ s5 = v ∧ s6 = .int .i64 i ∧ Hid (Ra w wr g s a cap ls v (8 * i)))
  case atStart => exact ⟨0, _, by omega, rfl, rfl, X0⟩
  case round =>
    clear X0
    rename World => W
    obtain ⟨i, v, hi, rfl, rfl, D⟩ := hrel
    have HI := Lib.hid hi
    clear hi
    by_cases hlt : i < m
    · have hli : (i : Int) < m := by omega
      obtain ⟨ob, off, rfl, KO, HRO⟩ := HO.out.at_ (i := i) (by have := HL.out; omega)
      have HR := Lib.hid HRO
      have HK := Lib.hid KO
      have HZ := Lib.hid (Ot.sizeO KO)
      have HLT := Lib.hid hlt
      have hi63 : (i : Int) ≤ 10000 := by omega
      clear KO HRO hlt
      go_wp2_with fail
      go_loopg [5, 7, 8] 8 (fun gg s5 s7 _ wr => ∃ (k : Nat) (v : Value), k + gg = 8 ∧ s5 = v ∧ s7 = .int .i64 k ∧ Hid (Ra w wr g s a cap ls v (8 * i + k)))
      case atStart => exact ⟨0, _, rfl, rfl, rfl, D⟩
      case round =>
        clear D
        rename World => W2
        obtain ⟨k, v, hk, rfl, rfl, D⟩ := hrel
        have HK8 := Lib.hid hk
        clear hk
        by_cases hlk : k < 8
        · have hlk' : (k : Int) < 8 := by omega
          have hd1 : (8 * i + k) / 8 = i := by omega
          have hd2 : (8 * i + k) % 8 = k := by omega
          have HW := Lib.hid (show wa s ls (8 * i + k) = wd s (ou ls i) i k (rowc s k (i + 1) : Nat) by unfold wa; rw [hd1, hd2])
          have HCM := Lib.hid (show cmc (wa s ls) (8 * i + k) = [.int .i64 (i : Nat), .int .i64 (k : Nat), .string (wa s ls (8 * i + k))] by unfold cmc; rw [hd1, hd2])
          have CWk := fun W b => CW.out W b i k HK.out (by have := HLT.out; have := HL.out; have := HM.out; omega) hlk
          rw [← HW.out] at CWk
          have HEM := Lib.hid (show (wa s ls (8 * i + k)).toList.isEmpty = !(bad s ls (8 * i + k)) by
            unfold bad
            rw [Bool.not_not, Bool.eq_iff_iff, decide_eq_true_eq, List.isEmpty_iff, ByteArray.toList_eq, ByteArray.ext_iff]
            simp)
          have HY := Lib.hid (fun h => bads_yes (s := s) (l := ls) (m := 8 * i + k) h)
          have HN := Lib.hid (fun h => bads_no (s := s) (l := ls) (m := 8 * i + k) h)
          have HBL := Lib.hid (bads_len (s := s) (l := ls) (m := 8 * i + k))
          have HO1 := Lib.hid (range_below HR.out D.out.bd.below)
          clear hd1 hd2 hlk HW
          generalize wa s ls (8 * i + k) = wx at *
          generalize hbb : bad s ls (8 * i + k) = bb at *
          have HBB := Lib.hid hbb
          clear hbb
          go_wp2_with ((with_reducible show wpList _ _ _ (⟨some 23, _, _, _, _, _⟩ :: _) _ _); refine wpList_load_mid rfl _ _ rfl ob (off + i * 41) rfl (ouc (ou ls i)) _ HO1.out Try.underlying57 rfl HZ.out ?_)
          refine (CWk _ D.out.bd.below).mono ?_; rintro e w3 ⟨rfl, b3⟩
          have D3 := Lib.hid (D.out.on b3)
          clear b3 D CWk HO1
          cases bb
          · have he : wx.toList.isEmpty = true := by rw [HEM.out]; rfl
            go_wp2_with fail
            go_roundg (gk - 1)
            case rel => exact ⟨k + 1, _, by have := HK8.out; omega, rfl, by go_num, by rw [← Nat.add_assoc]; exact Lib.hid ⟨D3.out.bd, by rw [HN.out trivial]; exact D3.out.own⟩⟩
            case measure => have := HK8.out; omega
          · have he : wx.toList.isEmpty = false := by rw [HEM.out]; rfl
            have OW := Lib.hid D3.out.own
            have BW := Lib.hid D3.out.bd.below
            have NX := Lib.hid (show cmf (wa s ls) (bads s ls (8 * i + k + 1)) = cmf (wa s ls) (bads s ls (8 * i + k)) ++ [.int .i64 (i : Nat), .int .i64 (k : Nat), .string wx] ∧ (bads s ls (8 * i + k + 1)).length = (bads s ls (8 * i + k)).length + 1 by
              rw [HY.out rfl, cmf_app, cmf_one, HCM.out]; simp)
            have HB4 := Lib.hid (show (bads s ls (8 * i + k)).length < 100000 by have := HBL.out; omega)
            have BS := Lib.hid (show w.heap.size ≤ w3.heap.size from BW.out.size)
            have DB := Lib.hid D3.out.bd
            clear D3 HBL HEM
            generalize cmf (wa s ls) (bads s ls (8 * i + k)) = xs at *
            generalize (bads s ls (8 * i + k)).length = q at *
            go_wp2_with ((with_reducible show wpList _ _ _ (⟨some 35, _, _, _, _, _⟩ :: _) _ _); refine wpList_append_own _ rfl _ _ 44 rfl w.heap.size 82 i0 _ 3 32 Try.underlying44 hi0 hz0 hz1 hz2 rfl (by decide) _ q xs rfl (OW.out.alloc _) ⟨w3.heap.size, 0, none⟩ 1 1 [.int .i64 (i : Nat), .int .i64 (k : Nat), .string wx] rfl rfl (fun j u hj => by rw [add_plain, Nat.zero_add]; exact VRow.cell (VRow.new w3 [.int .i64 (i : Nat), .int .i64 (k : Nat), .string wx] 82) j hj) (by intro u hu; simp at hu; rcases hu with rfl | rfl | rfl <;> rfl) (by have := HB4.out; unfold maxLen; omega) (by have := HB4.out; omega) (by have := BS.out; simp; omega) ?_; intro v' w5 ho5 hg5 _; have O5 := Lib.hid ho5; have G5 := Lib.hid hg5; clear ho5 hg5)
            have B5 := Lib.hid ((BW.out.alloc BS.out (.cells #[.int .i64 (i : Nat), .int .i64 (k : Nat), .string wx] 82)).grown G5.out (by have := BS.out; simp; omega) (fun j hj => (World.ownsRow.lt OW.out j hj).1))
            go_roundg (gk - 1)
            case rel => exact ⟨k + 1, _, by have := HK8.out; omega, rfl, by go_num, by rw [← Nat.add_assoc]; exact Lib.hid ⟨⟨R0.out.on B5.out, B5.out⟩, by rw [NX.out.1, NX.out.2]; exact O5.out⟩⟩
            case measure => have := HK8.out; omega
        · obtain rfl : 8 = k := by have := HK8.out; omega
          go_wp2_with fail
          go_roundg (m - i - 1)
          case rel => exact ⟨i + 1, _, by have := HI.out; omega, rfl, by go_num, by rw [Nat.mul_add]; exact D⟩
          case measure => have := HI.out; have := HLT.out; omega
    · obtain rfl : m = i := by have := HI.out; omega
      go_wp2_with fail
      obtain ⟨a', cap', rfl, hcm⟩ := own_form D.out.own
      go_ret
      refine ⟨a', cap', ?_, ?_, D.out.bd.below⟩
      · rfl
      · exact hcm
end Jd
end Go.Proofs.Ytchnnpaebggfdaa
