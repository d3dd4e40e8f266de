/-
  What the document's Range and Far do: their contracts by walking the Go text. Conditions: how the scene lies; that it is right; that there is such a point, and signal.
-/
import Derived.Test.YtchnnpaebggfdaaJSceneLoad2
import Derived.Test.YtchnnpaebggfdaaSceneFar
import Derived.Test.YtchnnpaebggfdaaJFrameRefC2
import Derived.Lib.MinMax
namespace Go.Proofs.Ytchnnpaebggfdaa
set_option maxRecDepth 100000
open Go.ChangeShapes Go.WideShapes Go.ChangeAt Go.RowKit Go.Deep
namespace Sc
open Cf (G CA)
section
variable (g : Nat) (s : Sn) (a : Option Addr) (cap : Nat) (w : World) (R : RAt w g s a cap)
include R
set_option maxHeartbeats 3200000 in
theorem rrange_any (H : Ok s) (i n : Nat) (hj : i < s.ps.length) (hn : n < 8) :
    Calls Try.prog 42 #[.pointer (some ⟨g, 0, none⟩), .int .i64 i, .int .i64 n] w fun e w' => e = .returned (.tuple #[.int .i64 (lo 4294967296 s i n (NN s)), .int .i64 (hi (-4294967296) s i n (NN s))]) ∧ Below w.heap.size w w' := by
  have X0 := Lib.hid (RBd.start R)
  have C := cv_of H.cov
  obtain ⟨b, off, rfl, -⟩ := R.ps.at_ hj
  have HI := Lib.hid hj
  have hli : (i : Int) < s.ps.length := by omega
  have hln : (n : Int) < 8 := by omega
  have hN := C.nn
  have HW := Lib.hid (fun k (hk : k < NN s) (ho : ¬ (k : Int) = s.odd) => H.within hj hk hn ho)
  have c1 := C.lo
  have c2 := C.hi
  have HB := Lib.hid (show ∀ k, k < NN s → ¬ (k : Int) = s.odd → -9223372036854775808 ≤ val s i k n ∧ val s i k n ≤ 9223372036854775807 from fun k hk ho => by have := HW.out k hk ho; omega)
  have HP := Lib.hid (show ∀ W k, RAt W g s (some ⟨b, off, none⟩) cap → k < 4 → W.cell? ⟨b, off + i * 42 + n, none⟩ = some (.int .i64 (tv s i n)) ∧ W.cell? ⟨b, off + i * 42 + 8 + k * 8 + n, none⟩ = some (.int .i64 (ov s i k n)) from fun W k D hk => by
    have P := D.ps.here hj
    refine ⟨P.t n hn, ?_⟩
    have := P.o (k * 8 + n) (by omega)
    rw [← Nat.add_assoc, ← Nat.add_assoc] at this
    exact this)
  have CE := C.eq
  clear R H C hj hn HW c1 c2
  generalize hm : NN s = m at *
  go_enter Try.func42, Try.ntmps42
  go_wp2_with fail
  go_loopg [8, 9, 10, 11] m (fun gg s8 s9 s10 _ wr => ∃ k : Nat, k + gg = m ∧ s10 = .int .i64 k ∧ s8 = .int .i64 (lo 4294967296 s i n k) ∧ s9 = .int .i64 (hi (-4294967296) s i n k) ∧ Hid (RBd w wr g s (some ⟨b, off, none⟩) cap))
  case atStart => exact ⟨0, by omega, rfl, rfl, rfl, X0⟩
  case round =>
    clear X0
    rename World => W
    obtain ⟨k, hk, rfl, rfl, rfl, D⟩ := hrel
    have HK := Lib.hid hk
    clear hk
    have c0 := D.out.at_.c 0 (by omega)
    rw [CE] at c0
    by_cases hlt : k < m
    · have hlk : (k : Int) < m := by omega
      have hk4 : (k : Int) < 4 := by omega
      have q1 := D.out.at_.odd
      by_cases hod : (k : Int) = s.odd
      · have d1 : ((k : Int) != s.odd) = false := by simp [hod]
        have HL := Lib.hid (show lo 4294967296 s i n (k + 1) = lo 4294967296 s i n k ∧ hi (-4294967296) s i n (k + 1) = hi (-4294967296) s i n k from ⟨by rw [lo, if_pos hod], by rw [hi, if_pos hod]⟩)
        clear hod hlt
        generalize s.odd = od at *
        go_wp2_with fail
        go_roundg (gk - 1)
        case rel => exact ⟨k + 1, by have := HK.out; omega, by go_num, by rw [HL.out.1], by rw [HL.out.2], D⟩
        case measure => have := HK.out; omega
      · have d1 : ((k : Int) != s.odd) = true := by simp [hod]
        have HL := Lib.hid (show lo 4294967296 s i n (k + 1) = min (lo 4294967296 s i n k) (val s i k n) ∧ hi (-4294967296) s i n (k + 1) = max (hi (-4294967296) s i n k) (val s i k n) from ⟨by rw [lo, if_neg hod], by rw [hi, if_neg hod]⟩)
        have q2 := D.out.at_.p
        obtain ⟨ct, co⟩ := HP.out _ k D.out.at_ (by omega)
        have hb := HB.out k hlt hod
        have hv : tv s i n + ov s i k n = val s i k n := rfl
        clear hod hlt
        generalize s.odd = od at *
        generalize val s i k n = x at *
        generalize tv s i n = x1 at *
        generalize ov s i k n = x2 at *
        generalize lo 4294967296 s i n k = ll at *
        generalize hi (-4294967296) s i n k = hh at *
        have p1 : IntKind.i64.wrap x = x := IntWalk.i64_in _ (by omega)
        go_upto_region 7 with fail
        go_quiet (fail)
        have D2 := Lib.hid (D.out.on (below_drewN (Below.refl W.heap.size W) nq))
        clear D q1 q2 ct co c0
        generalize W.drewN nq = W2 at *
        go_wp2_with fail
        go_roundg (gk - 1)
        case rel => exact ⟨k + 1, by have := HK.out; omega, by go_num, by rw [HL.out.1], by rw [HL.out.2], D2⟩
        case measure => have := HK.out; omega
    · obtain rfl : k = m := by have := HK.out; omega
      go_wp2_with fail
      go_ret2
      exact ⟨rfl, D.out.below⟩
set_option maxHeartbeats 3200000 in
theorem rfar_any (H : Ok s) (i n : Nat) (hi : i < s.ps.length) (hn : n < 8) :
    Calls Try.prog 27 #[.pointer (some ⟨g, 0, none⟩), .int .i64 i, .int .i64 n] w fun e w' => e = .returned (.bool (far s i n)) ∧ Below w.heap.size w w' := by
  have X0 := Lib.hid (RBd.start R)
  obtain ⟨b, off, rfl, P⟩ := R.ps.at_ hi
  have hy := Cr.bytes_wf P.wf
  have hli : (i : Int) < s.ps.length := by omega
  have hln : (n : Int) < 8 := by omega
  have C := cv_of H.cov
  by_cases ho : s.odd < 0
  · have hf : far s i n = false := by unfold far; rw [decide_eq_false (by omega)]; rfl
    rw [hf]
    have d1 : decide (s.odd < 0) = true := by simpa using ho
    have q1 := X0.out.at_.odd
    clear R H hi hn hy P hf C ho
    generalize s.odd = od at *
    go_enter Try.func27, Try.ntmps27
    go_wp2_with fail
    go_ret
    exact ⟨rfl, X0.out.below⟩
  · have d1 : decide (s.odd < 0) = false := by simpa using ho
    have HF := Lib.hid (show far s i n = (decide (rj s i ≠ 0) || decide (bound s < dst s i n ∨ dst s i n < -bound s)) by unfold far; rw [decide_eq_true (by omega)]; rfl)
    have hdl := dec_len (c := s.odd) (is := (pt s i).is) hy
    have HDV := Lib.hid (dec_val (c := s.odd) (is := (pt s i).is) hy n hn)
    have SF := Lib.hid (size9 hdl)
    have CD := Lib.hid (fun W (D : RAt W g s (some ⟨b, off, none⟩) cap) => (show Calls Try.prog 40 #[.int .i64 s.odd, .agg #[.bool (pt s i).is, .slice (pt s i).a (pt s i).l.length (pt s i).cap]] W fun e w' => e = .returned (.tuple #[.agg (cellsI .i64 (Fm.dec s.odd (pt s i).is (pt s i).l)).toArray, .int .i64 (rj s i)]) ∧ Below W.heap.size W w' from
      Fm.rdec_any s.odd (pt s i).is (pt s i).a (pt s i).cap (pt s i).l W P.cap.1 hy (D.ps.here hi).bytes))
    have HX := Lib.hid (show (cellsI .i64 (Fm.dec s.odd (pt s i).is (pt s i).l))[1 + n]? = some (.int .i64 ((Fm.dec s.odd (pt s i).is (pt s i).l).getD (1 + n) 0)) from cellsI_get .i64 _ _ (by rw [hdl]; omega))
    have HT := Lib.hid (H.truth hi hn)
    have HDS := Lib.hid (show dst s i n = (Fm.dec s.odd (pt s i).is (pt s i).l).getD (1 + n) 0 - tv s i n from rfl)
    have HBD := Lib.hid (show bound s = G s.c 9 + s.e + 2 * G s.c 10 + G s.c 12 from rfl)
    have HC := Lib.hid C
    have HP := Lib.hid (show ∀ W, RAt W g s (some ⟨b, off, none⟩) cap → W.cell? ⟨b, off + i * 42 + 40, none⟩ = some (.bool (pt s i).is) ∧ W.cell? ⟨b, off + i * 42 + 41, none⟩ = some (.slice (pt s i).a (pt s i).l.length (pt s i).cap) ∧ W.cell? ⟨b, off + i * 42 + n, none⟩ = some (.int .i64 (tv s i n)) from fun W D => by
      have P := D.ps.here hi
      exact ⟨P.cell 40 _ (ptv_is P.t8 P.o32), P.cell 41 _ (ptv_l P.t8 P.o32), P.t n hn⟩)
    have HL9 := Lib.hid (show (cellsI .i64 (List.replicate 9 0)).length = (cellsI .i64 (Fm.dec s.odd (pt s i).is (pt s i).l)).length by rw [cellsI, cellsI, List.length_map, List.length_map, hdl]; rfl)
    clear R H hi hn hy P C hdl ho
    generalize Fm.dec s.odd (pt s i).is (pt s i).l = dl at *
    generalize dl.getD (1 + n) 0 = x at *
    generalize (pt s i).is = ps1 at *
    generalize (pt s i).a = ps2 at *
    generalize (pt s i).cap = ps3 at *
    generalize (pt s i).l.length = ps4 at *
    generalize rj s i = rr at *
    generalize far s i n = ans at *
    have q1 := X0.out.at_.odd
    go_enter Try.func27, Try.ntmps27
    go_upto_region 3 with fail
    clear q1 d1
    refine Lt.wp_region_box (aF := ?_) 18 17 83 7 30 92 (cellsI .i64 (List.replicate 9 0)) (cellsI .i64 dl) [true, true, true, true, true, true, true, true, true, true, true, true, true, true, true, true, false, false] [false, false, false, false, false, false, false, false, false, false, false, false, false, false, false, false, true, false] (by kernel_rfl) (by kernel_rfl) (by kernel_rfl) rfl (by decide) rfl rfl ?_ SF.out HL9.out (all_oneCell_toArray (cellsI_one _ _)) ?_ ?_ ?_
    case refine_3 =>
      intro W bW
      have D := X0.out.on bW
      have c1 := cell_regrown D.at_.odd
      have c2 := cell_regrown D.at_.p
      have c3 := cell_regrown (HP.out W D.at_).1
      have c4 := cell_regrown (HP.out W D.at_).2.1
      have cD := reg_call (w := W) (fun W' b' => CD.out W' (D.at_.on b'))
      simp only [List.take_succ_cons, List.take_zero, Lt.sel]
      repeat (go_big_quiet_step (first | exact cD _ _))
      exact rfl
    case refine_2 => exact allocF
    case refine_4 => exact rfl
    intro gx W KW
    have D := Lib.hid (X0.out.on KW.below)
    have K := Lib.hid KW.row
    simp only [List.drop_succ_cons, List.drop_zero, Act.put, List.setIfInBounds_toArray, List.set_cons_succ, List.set_cons_zero]
    clear KW CD X0 SF HL9
    go_upto_region 4 with fail
    have cx := K.out.cell (1 + n) HX.out
    have q5 := D.out.at_.p
    have q6 := (HP.out W D.out.at_).2.2
    have hd := HDV.out
    have ht := HT.out
    have z1 := HC.out.lo
    have z2 := HC.out.hi
    have z4 := HC.out.e
    have HDS2 := HDS.out
    generalize tv s i n = tt at *
    have p0 : IntKind.i64.wrap (x - tt) = x - tt := IntWalk.i64_in _ (by omega)
    have hdb : -9223372036854775807 ≤ x - tt ∧ x - tt ≤ 9223372036854775807 := by omega
    clear hd ht z1 z2 HDS2
    go_quiet (fail)
    have D2 := Lib.hid (D.out.on (below_drewN (Below.refl W.heap.size W) nq))
    clear D cx q5 q6 HP HX K
    generalize W.drewN nq = W2 at *
    rw [HDS.out] at HF
    clear HDS p0
    generalize x - tt = dd at *
    have q1 := D2.out.at_.c 9 (by omega)
    have q2 := D2.out.at_.c 10 (by omega)
    have q3 := D2.out.at_.c 12 (by omega)
    have q4 := D2.out.at_.e
    have z1 := HC.out.m
    have z2 := HC.out.a
    have z3 := HC.out.p
    rw [HBD.out] at HF
    clear HBD
    generalize G s.c 9 = c9 at *
    generalize G s.c 10 = c10 at *
    generalize G s.c 12 = c12 at *
    generalize s.e = ee at *
    have p1 : IntKind.i64.wrap (c9 + ee) = c9 + ee := IntWalk.i64_in _ (by omega)
    have p2 : IntKind.i64.wrap (2 * c10) = 2 * c10 := IntWalk.i64_in _ (by omega)
    have p3 : IntKind.i64.wrap (c9 + ee + 2 * c10) = c9 + ee + 2 * c10 := IntWalk.i64_in _ (by omega)
    have p4 : IntKind.i64.wrap (c9 + ee + 2 * c10 + c12) = c9 + ee + 2 * c10 + c12 := IntWalk.i64_in _ (by omega)
    have hbb : 0 ≤ c9 + ee + 2 * c10 + c12 ∧ c9 + ee + 2 * c10 + c12 ≤ 9223372036854775807 := by omega
    go_upto_region 5 with fail
    go_quiet (fail)
    have D3 := Lib.hid (D2.out.on (below_drewN (Below.refl W2.heap.size W2) nq))
    clear D2 q1 q2 q3 q4 p1 p2 p3 p4 z1 z2 z3 z4
    generalize W2.drewN nq = W3 at *
    generalize c9 + ee + 2 * c10 + c12 = bd at *
    by_cases hr : rr = 0
    · have e1 : (rr != 0) = false := by simp [hr]
      by_cases h1 : bd < dd
      · have e2 : decide (bd < dd) = true := by simpa using h1
        have HA := Lib.hid (show ans = true by rw [HF.out]; simp [h1])
        clear hr h1
        go_wp2_with fail
        go_ret
        exact ⟨ret_bool HA.out.symm, D3.out.below⟩
      · have e2 : decide (bd < dd) = false := by simpa using h1
        by_cases h2 : dd < -bd
        · have e3 : decide (dd < -bd) = true := by simpa using h2
          have HA := Lib.hid (show ans = true by rw [HF.out]; simp [h2])
          clear hr h1 h2
          go_wp2_with fail
          go_ret
          exact ⟨ret_bool HA.out.symm, D3.out.below⟩
        · have e3 : decide (dd < -bd) = false := by simpa using h2
          have HA := Lib.hid (show ans = false by rw [HF.out]; simp [hr]; omega)
          clear hr h1 h2
          go_wp2_with fail
          go_ret
          exact ⟨ret_bool HA.out.symm, D3.out.below⟩
    · have e1 : (rr != 0) = true := by simp [hr]
      have HA := Lib.hid (show ans = true by rw [HF.out]; simp [hr])
      clear hr
      go_wp2_with fail
      go_ret
      exact ⟨ret_bool HA.out.symm, D3.out.below⟩
end
end Sc
end Go.Proofs.Ytchnnpaebggfdaa
