/-
  What the document's Fault does: its contract by walking the Go text. Conditions: how the scene lies.
-/
import Derived.Test.YtchnnpaebggfdaaJSceneLoad2
import Derived.Test.YtchnnpaebggfdaaJOpen2
namespace Go.Proofs.Ytchnnpaebggfdaa
set_option maxRecDepth 100000
open Go.ChangeShapes Go.WideShapes Go.ChangeAt Go.RowKit Go.Deep
namespace Sc
open Cf (G CA)
section
variable (g : Nat) (s : Sn) (a : Option Addr) (cap : Nat) (w : World) (R : RAt w g s a cap)
include R
set_option maxRecDepth 100000 in
set_option maxHeartbeats 6400000 in
theorem rfault_any :
    Calls Try.prog 12 #[.pointer (some ⟨g, 0, none⟩)] w fun e w' => e = .returned (.string (fault s)) ∧ Below w.heap.size w w' := by
  have CC := fun W => Cf.rcovers_any s.c s.e s.r W R.len.c
  rw [show Cf.cov s.c s.e s.r = cv s from rfl] at CC
  have HF := Lib.hid (show fault s = if cv s = false then ⟨#[99, 111, 118, 101, 114]⟩ else if odk s = false then ⟨#[111, 100, 100]⟩ else if num s = false then ⟨#[110, 117, 109, 98, 101, 114]⟩ else if 10000 < s.ps.length then ⟨#[112, 111, 105, 110, 116, 115]⟩ else pf s from rfl)
  have HCV := Lib.hid (fun h => cv_of (s := s) h)
  have CO := Lib.hid (fun W (D : RAt W g s a cap) C => roff_any g s a cap W D C)
  have HLN := Lib.hid R.len.n
  have hR := Lib.hid (rsizeK R)
  have c21 := cell_regrown R.e
  have c22 := cell_regrown R.r
  have HRG := Lib.hid (show ∀ W', (∃ z : Regrown, W' = Sort.grow (redrawn w z.d) z.os) → W'.rangeAt g 0 (cellsI .i64 s.c) by
    rintro W' ⟨z, rfl⟩
    exact (R.on (below_regrown w z.d z.os)).conf)
  have cC := reg_call (w := w) (fun W _ => CC W)
  have X0 := Lib.hid (RBd.start R)
  clear R CC
  generalize hcv : cv s = bc at *
  go_enter Try.func12, Try.ntmps12
  go_upto_region 1 with fail
  refine wp_region_quiet_below (by kernel_rfl) (by kernel_rfl) ?_
  repeat (first
    | (with_reducible show wpQuiet _ _ _ _ (⟨some 11, _, _, _, _, _⟩ :: _) _
       refine wpQuiet_loadR rfl _ rfl g 0 (cellsI .i64 s.c) rfl HRG.out _ Try.underlying24 rfl hR.out ?_
       simp only [Act.put, List.setIfInBounds_toArray, List.set_cons_succ, List.set_cons_zero])
    | go_big_quiet_step (exact cC _ _))
  refine wpQuiet_nil ?_
  intro _ hw'
  obtain ⟨⟨dq, osq⟩, hw''⟩ := hw'
  subst hw''
  have X1 := Lib.hid (X0.out.on (below_regrown w dq osq))
  clear X0 c21 c22 HRG cC hR
  generalize Sort.grow (redrawn w dq) osq = W1 at *
  cases bc
  · rw [if_pos rfl] at HF
    go_wp2_with fail
    go_ret
    exact ⟨ret_str HF.out.symm, X1.out.below⟩
  · rw [if_neg (by decide)] at HF
    have HC := Lib.hid (HCV.out rfl)
    have CO1 := Lib.hid (fun W (D : RAt W g s a cap) => CO.out W D HC.out)
    clear CO HCV hcv
    have HO := Lib.hid (show odk s = (decide (-1 ≤ s.odd) && decide (s.odd ≤ G s.c 0 - 1)) from rfl)
    have q1 := X1.out.at_.odd
    have q0 := X1.out.at_.c 0 (by omega)
    have CE := HC.out.eq
    have z0 := HC.out.nn
    rw [CE] at q0
    by_cases hd1 : s.odd < -1
    · have d1 : decide (s.odd < -1) = true := by simpa using hd1
      have HF2 := Lib.hid (show fault s = ⟨#[111, 100, 100]⟩ by rw [HF.out, HO.out, if_pos (by simp; omega)])
      clear hd1 CE
      generalize s.odd = od at *
      go_upto_region 4 with fail
      go_quiet (fail)
      have D2 := Lib.hid (X1.out.on (below_drewN (Below.refl W1.heap.size W1) nq))
      clear X1 q1 q0
      generalize W1.drewN nq = W2 at *
      go_wp2_with fail
      go_ret
      exact ⟨ret_str HF2.out.symm, D2.out.below⟩
    · have d1 : decide (s.odd < -1) = false := by simpa using hd1
      by_cases hd2 : (NN s : Int) ≤ s.odd
      · have d2 : decide ((NN s : Int) ≤ s.odd) = true := by simpa using hd2
        have HF2 := Lib.hid (show fault s = ⟨#[111, 100, 100]⟩ by rw [HF.out, HO.out, CE, if_pos (by simp; omega)])
        clear hd1 hd2 CE
        generalize NN s = N at *
        generalize s.odd = od at *
        go_upto_region 4 with fail
        go_quiet (fail)
        have D2 := Lib.hid (X1.out.on (below_drewN (Below.refl W1.heap.size W1) nq))
        clear X1 q1 q0
        generalize W1.drewN nq = W2 at *
        go_wp2_with fail
        go_ret
        exact ⟨ret_str HF2.out.symm, D2.out.below⟩
      · have d2 : decide ((NN s : Int) ≤ s.odd) = false := by simpa using hd2
        rw [HO.out, if_neg (by rw [CE]; simp; omega)] at HF
        have HNO := Lib.hid (show ∀ k, k < NN s → num1 s k = false → num s = false from fun k hk h => all_range_no hk h)
        have HNY := Lib.hid (show (∀ k, k < NN s → num1 s k = true) → num s = true from fun h => all_range.2 h)
        clear hd1 hd2 HO
        generalize hnn : NN s = N at *
        have HNN := Lib.hid hnn
        clear hnn
        generalize s.odd = od at *
        go_upto_region 4 with fail
        go_quiet (fail)
        have D2 := Lib.hid (X1.out.on (below_drewN (Below.refl W1.heap.size W1) nq))
        clear X1 q1 q0 d1 d2
        generalize W1.drewN nq = W2 at *
        go_wp2_with fail
        go_loopg [4] N (fun gg s4 wr => ∃ k : Nat, k + gg = N ∧ s4 = .int .i64 k ∧ Hid (∀ j, j < k → num1 s j = true) ∧ Hid (RBd w wr g s a cap))
        case atStart => exact ⟨0, by omega, rfl, Lib.hid (fun j hj => by omega), D2⟩
        case round =>
          clear D2
          rename World => W
          obtain ⟨k, hk, rfl, HA, D⟩ := hrel
          have HK := Lib.hid hk
          clear hk
          have q0 := D.out.at_.c 0 (by omega)
          rw [CE] at q0
          by_cases hlt : k < N
          · have hlk : (k : Int) < N := by omega
            have hk4 : (k : Int) < 4 := by omega
            have ck := D.out.at_.q k (by omega)
            have HV := Lib.hid (show num1 s k = (decide (0 ≤ qv s k) && decide (qv s k ≤ 65535)) from rfl)
            have HNK := Lib.hid (HNO.out k hlt)
            have HNS := Lib.hid (show num1 s k = true → ∀ j, j < k + 1 → num1 s j = true from fun h j hj => by
              rcases Nat.lt_succ_iff_lt_or_eq.1 hj with h' | rfl
              · exact HA.out j h'
              · exact h)
            clear hlt
            generalize qv s k = x at *
            by_cases hx1 : x < 0
            · have d1 : decide (x < 0) = true := by simpa using hx1
              have HF2 := Lib.hid (show fault s = ⟨#[110, 117, 109, 98, 101, 114]⟩ by rw [HF.out, if_pos (HNK.out (by rw [HV.out]; simp; omega))])
              clear hx1
              go_wp2_with fail
              go_ret
              exact ⟨ret_str HF2.out.symm, D.out.below⟩
            · have d1 : decide (x < 0) = false := by simpa using hx1
              by_cases hx2 : 65535 < x
              · have d2 : decide (65535 < x) = true := by simpa using hx2
                have HF2 := Lib.hid (show fault s = ⟨#[110, 117, 109, 98, 101, 114]⟩ by rw [HF.out, if_pos (HNK.out (by rw [HV.out]; simp; omega))])
                clear hx1 hx2
                go_wp2_with fail
                go_ret
                exact ⟨ret_str HF2.out.symm, D.out.below⟩
              · have d2 : decide (65535 < x) = false := by simpa using hx2
                have HS := Lib.hid (HNS.out (by rw [HV.out]; simp; omega))
                clear hx1 hx2
                go_wp2_with fail
                go_roundg (gk - 1)
                case rel => exact ⟨k + 1, by have := HK.out; omega, by go_num, HS, D⟩
                case measure => have := HK.out; omega
          · obtain rfl : k = N := by have := HK.out; omega
            rw [if_neg (by rw [HNY.out HA.out]; decide)] at HF
            clear HNO HNY hlt
            have q5 := D.out.at_.p
            by_cases hx : 10000 < s.ps.length
            · rw [if_pos hx] at HF
              have d1 : decide (10000 < (s.ps.length : Int)) = true := by simp; omega
              clear hx
              go_wp2_with fail
              go_ret
              exact ⟨ret_str HF.out.symm, D.out.below⟩
            · rw [if_neg hx] at HF
              have d1 : decide (10000 < (s.ps.length : Int)) = false := by simp; omega
              clear hx
              have HPN := Lib.hid (fun i (hi : i < s.ps.length) => pf_no (s := s) hi)
              have HPY := Lib.hid (pf_yes (s := s))
              go_upto_region 13 with fail
              generalize hm : s.ps.length = m at *
              have HM := Lib.hid hm
              have hmx : (m : Int) ≤ 9223372036854775807 := by have := HLN.out; omega
              clear hm q0 d1 HNN CE z0 HA
              go_wp2_with fail
              go_loopg [5, 6, 7] m (fun gg s5 _ _ wr => ∃ i : Nat, i + gg = m ∧ s5 = .int .i64 i ∧ Hid (∀ j, j < i → tok s j = true) ∧ Hid (RBd w wr g s a cap))
              case atStart => exact ⟨0, by omega, rfl, Lib.hid (fun j hj => by omega), D⟩
              case round =>
                clear D q5
                rename World => W3
                obtain ⟨i, hi, rfl, HA, D⟩ := hrel
                have HI := Lib.hid hi
                clear hi
                have q5 := D.out.at_.p
                rw [HM.out] at q5
                by_cases hlt : i < m
                · have hli : (i : Int) < m := by omega
                  have HPT := Lib.hid (show tok s i = false → fault s = ⟨#[116, 114, 117, 116, 104]⟩ from fun h => by rw [HF.out]; exact HPN.out i hlt h)
                  have HLT := Lib.hid hlt
                  have HTS := Lib.hid (show tok s i = true → ∀ j, j < i + 1 → tok s j = true from fun h j hj => by
                    rcases Nat.lt_succ_iff_lt_or_eq.1 hj with h' | rfl
                    · exact HA.out j h'
                    · exact h)
                  clear hlt
                  go_wp2_with fail
                  clear q5
                  go_loopg [6, 7] 8 (fun gg s6 _ wr => ∃ n : Nat, n + gg = 8 ∧ s6 = .int .i64 n ∧ Hid (∀ j, j < n → tok1 s i j = true) ∧ Hid (RBd w wr g s a cap))
                  case atStart => exact ⟨0, by omega, rfl, Lib.hid (fun j hj => by omega), D⟩
                  case round =>
                    clear D
                    rename World => W4
                    obtain ⟨n, hn, rfl, HB, D⟩ := hrel
                    have HL := Lib.hid hn
                    clear hn
                    by_cases hln : n < 8
                    · have hl8 : (n : Int) < 8 := by omega
                      have q5 := D.out.at_.p
                      obtain ⟨b, off, hab, -⟩ := D.out.at_.ps.at_ (i := i) (by have := HLT.out; have := HM.out; omega)
                      have HAB := Lib.hid hab
                      have HPP := Lib.hid (show ∀ W, RAt W g s a cap → ∀ j, j < s.ps.length → W.cell? ⟨b, off + j * 42 + n, none⟩ = some (.int .i64 (tv s j n)) from fun W R j hj => by
                        have hp := R.ps
                        rw [HAB.out] at hp
                        exact (hp.here hj).t n hln)
                      rw [hab, HM.out] at q5
                      have ci := HPP.out _ D.out.at_ i (by have := HLT.out; have := HM.out; omega)
                      have q1 := D.out.at_.c 1 (by omega)
                      have q2 := D.out.at_.c 2 (by omega)
                      have q3 := D.out.at_.e
                      have z1 := HC.out.lo
                      have z2 := HC.out.hi
                      have z3 := HC.out.e
                      have z5 := HC.out.w
                      have HV := Lib.hid (show tok1 s i n = (inT s (tv s i n) && (decide (i = 0) || (decide (tv s i n - tv s (i - 1) n ≤ s.r) && decide (tv s (i - 1) n - tv s i n ≤ s.r)))) from rfl)
                      have HW := Lib.hid (show inT s (tv s i n) = (decide (G s.c 1 + s.e ≤ tv s i n) && decide (tv s i n ≤ G s.c 2 - s.e)) from rfl)
                      have HTN := Lib.hid (show tok1 s i n = false → fault s = ⟨#[116, 114, 117, 116, 104]⟩ from fun h => HPT.out (all_range_no hln h))
                      have HBS := Lib.hid (show tok1 s i n = true → ∀ j, j < n + 1 → tok1 s i j = true from fun h j hj => by
                        rcases Nat.lt_succ_iff_lt_or_eq.1 hj with h' | rfl
                        · exact HB.out j h'
                        · exact h)
                      have HPR := Lib.hid (show i ≠ 0 → G s.c 1 + s.e ≤ tv s (i - 1) n ∧ tv s (i - 1) n ≤ G s.c 2 - s.e from fun h0 => tok_1 (HA.out (i - 1) (by omega)) hln)
                      have HCJ := Lib.hid (show ∀ W, RAt W g s a cap → i ≠ 0 → W.cell? ⟨b, off + (i - 1) * 42 + n, none⟩ = some (.int .i64 (tv s (i - 1) n)) from fun W R h0 => HPP.out W R (i - 1) (by have := HLT.out; have := HM.out; omega))
                      clear hab hln
                      generalize hx : tv s i n = x at *
                      generalize G s.c 1 = c1 at *
                      generalize G s.c 2 = c2 at *
                      generalize s.e = ee at *
                      have p1 : IntKind.i64.wrap (c1 + ee) = c1 + ee := IntWalk.i64_in _ (by omega)
                      have p2 : IntKind.i64.wrap (c2 - ee) = c2 - ee := IntWalk.i64_in _ (by omega)
                      clear hx
                      by_cases hx1 : x < c1 + ee
                      · have e1 : decide (x < c1 + ee) = true := by simpa using hx1
                        have HF2 := Lib.hid (HTN.out (by rw [HV.out, HW.out]; simp; omega))
                        clear hx1
                        go_upto_region 20 with fail
                        go_quiet (fail)
                        have D2 := Lib.hid (D.out.on (below_drewN (Below.refl W4.heap.size W4) nq))
                        clear D q1 q2 q3 q5 ci
                        generalize W4.drewN nq = W5 at *
                        go_wp2_with fail
                        go_ret
                        exact ⟨ret_str HF2.out.symm, D2.out.below⟩
                      · have e1 : decide (x < c1 + ee) = false := by simpa using hx1
                        by_cases hx2 : c2 - ee < x
                        · have e2 : decide (c2 - ee < x) = true := by simpa using hx2
                          have HF2 := Lib.hid (HTN.out (by rw [HV.out, HW.out]; simp; omega))
                          clear hx1 hx2
                          go_upto_region 20 with fail
                          go_quiet (fail)
                          have D2 := Lib.hid (D.out.on (below_drewN (Below.refl W4.heap.size W4) nq))
                          clear D q1 q2 q3 q5 ci
                          generalize W4.drewN nq = W5 at *
                          go_wp2_with fail
                          go_ret
                          exact ⟨ret_str HF2.out.symm, D2.out.below⟩
                        · have e2 : decide (c2 - ee < x) = false := by simpa using hx2
                          have HV2 := Lib.hid (show tok1 s i n = (decide (i = 0) || (decide (x - tv s (i - 1) n ≤ s.r) && decide (tv s (i - 1) n - x ≤ s.r))) by rw [HV.out, HW.out, decide_eq_true (show c1 + ee ≤ x by omega), decide_eq_true (show x ≤ c2 - ee by omega)]; rfl)
                          have HXB := Lib.hid (show c1 + ee ≤ x ∧ x ≤ c2 - ee by omega)
                          go_upto_region 20 with fail
                          go_quiet (fail)
                          have D2 := Lib.hid (D.out.on (below_drewN (Below.refl W4.heap.size W4) nq))
                          clear D q1 q2 q3 q5 ci hx1 hx2
                          generalize W4.drewN nq = W5 at *
                          by_cases h0 : i = 0
                          · have d0 : decide (0 < i) = false := by simp; omega
                            have HS := Lib.hid (HBS.out (by rw [HV2.out]; simp [h0]))
                            clear h0
                            go_upto_region 22 with fail
                            go_quiet (fail)
                            have D3 := Lib.hid (D2.out.on (below_drewN (Below.refl W5.heap.size W5) nq))
                            clear D2
                            generalize W5.drewN nq = W6 at *
                            go_wp2_with fail
                            go_roundg (gk - 1)
                            case rel => exact ⟨n + 1, by have := HL.out; omega, by go_num, HS, D3⟩
                            case measure => have := HL.out; omega
                          · have d0 : decide (0 < i) = true := by simp; omega
                            obtain ⟨j, hj⟩ : ∃ j, i = j + 1 := ⟨i - 1, by omega⟩
                            have f1 : (i : Int) - 1 = (j : Nat) := by omega
                            have hjl : (j : Int) < m := by omega
                            have p3 : IntKind.i64.wrap (j : Int) = (j : Int) := IntWalk.i64_in _ (by omega)
                            have cj := HCJ.out _ D2.out.at_ h0
                            rw [show i - 1 = j by omega] at cj
                            have q4 := D2.out.at_.r
                            have q5 := D2.out.at_.p
                            rw [HAB.out, HM.out] at q5
                            have hpr := HPR.out h0
                            have hxb := HXB.out
                            rw [show i - 1 = j by omega] at HV2 hpr
                            have HV3 := Lib.hid (show tok1 s i n = (decide (x - tv s j n ≤ s.r) && decide (tv s j n - x ≤ s.r)) by rw [HV2.out]; simp [h0])
                            generalize tv s j n = y at *
                            generalize s.r = rr at *
                            have p4 : IntKind.i64.wrap (x - y) = x - y := IntWalk.i64_in _ (by omega)
                            have p5 : IntKind.i64.wrap (y - x) = y - x := IntWalk.i64_in _ (by omega)
                            by_cases hq1 : rr < x - y
                            · have e3 : decide (rr < x - y) = true := by simpa using hq1
                              have HF2 := Lib.hid (HTN.out (by rw [HV3.out]; simp; omega))
                              clear hq1 h0 hj hpr hxb
                              go_upto_region 22 with fail
                              go_quiet (fail)
                              have D3 := Lib.hid (D2.out.on (below_drewN (Below.refl W5.heap.size W5) nq))
                              clear D2 cj q4 q5
                              generalize W5.drewN nq = W6 at *
                              go_wp2_with fail
                              go_ret
                              exact ⟨ret_str HF2.out.symm, D3.out.below⟩
                            · have e3 : decide (rr < x - y) = false := by simpa using hq1
                              by_cases hq2 : rr < y - x
                              · have e4 : decide (rr < y - x) = true := by simpa using hq2
                                have HF2 := Lib.hid (HTN.out (by rw [HV3.out]; simp; omega))
                                clear hq1 hq2 h0 hj hpr hxb
                                go_upto_region 22 with fail
                                go_quiet (fail)
                                have D3 := Lib.hid (D2.out.on (below_drewN (Below.refl W5.heap.size W5) nq))
                                clear D2 cj q4 q5
                                generalize W5.drewN nq = W6 at *
                                go_wp2_with fail
                                go_ret
                                exact ⟨ret_str HF2.out.symm, D3.out.below⟩
                              · have e4 : decide (rr < y - x) = false := by simpa using hq2
                                have HS := Lib.hid (HBS.out (by rw [HV3.out]; simp; omega))
                                clear hq1 hq2 h0 hj hpr hxb
                                go_upto_region 22 with fail
                                go_quiet (fail)
                                have D3 := Lib.hid (D2.out.on (below_drewN (Below.refl W5.heap.size W5) nq))
                                clear D2 cj q4 q5
                                generalize W5.drewN nq = W6 at *
                                go_wp2_with fail
                                go_roundg (gk - 1)
                                case rel => exact ⟨n + 1, by have := HL.out; omega, by go_num, HS, D3⟩
                                case measure => have := HL.out; omega
                    · obtain rfl : n = 8 := by have := HL.out; omega
                      have HS := Lib.hid (HTS.out (all_range.2 HB.out))
                      go_wp2_with fail
                      go_roundg (m - i - 1)
                      case rel => exact ⟨i + 1, by have := HI.out; omega, by go_num, HS, D⟩
                      case measure => have := HI.out; omega
                · obtain rfl : i = m := by have := HI.out; omega
                  have HF2 := Lib.hid (show fault s = fv s i by rw [HF.out]; exact HPY.out HA.out)
                  have CO2 := CO1.out _ D.out.at_
                  go_wp2_with fail
                  refine CO2.mono ?_; rintro e w9 ⟨rfl, b9⟩
                  have D9 := Lib.hid (D.out.on b9)
                  clear b9 D
                  go_wp2_with fail
                  go_ret
                  exact ⟨ret_str HF2.out.symm, D9.out.below⟩
end
end Sc
end Go.Proofs.Ytchnnpaebggfdaa
