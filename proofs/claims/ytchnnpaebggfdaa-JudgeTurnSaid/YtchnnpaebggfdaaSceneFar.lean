/-
  What Far of package scene does: its contract by walking the Go text. Conditions: how the scene lies.
-/
import Derived.Test.YtchnnpaebggfdaaSceneRange
import Derived.Test.YtchnnpaebggfdaaFrameDec
import Derived.Test.YtchnnpaebggfdaaJLateRun2
import Derived.Test.YtchnnpaebggfdaaJOpen2
namespace Go.Proofs.Ytchnnpaebggfdaa
set_option maxRecDepth 100000
open Go.ChangeShapes Go.WideShapes Go.ChangeAt Go.RowKit Go.Deep
namespace Sc
open Cf (G CA)
theorem dec_len {c : Int} {is : Bool} {b : List Int} (hy : Cr.Bytes b) : (Fm.dec c is b).length = 9 := by
  by_cases h : Fm.rej c is b = 0
  · have hf := Fm.fine_iff h
    rw [Fm.dec_yes h, List.length_cons, (Fm.dec_right hf.2.1 hy).2.1]
  · rw [Fm.dec_no h]; rfl
theorem dec_val {c : Int} {is : Bool} {b : List Int} (hy : Cr.Bytes b) (n : Nat) (hn : n < 8) : -2147483648 ≤ (Fm.dec c is b).getD (1 + n) 0 ∧ (Fm.dec c is b).getD (1 + n) 0 ≤ 2147483647 := by
  by_cases h : Fm.rej c is b = 0
  · have hf := Fm.fine_iff h
    obtain ⟨hr, hl, -, -⟩ := Fm.dec_right hf.2.1 hy
    have := List.all_eq_true.1 ((Fm.right_iff _ _).1 hr).1 ((Fm.fvals b)[n]'(by omega)) (List.getElem_mem _)
    rw [Fm.dec_yes h, Nat.add_comm, List.getD_cons_succ, List.getD_eq_getElem?_getD, List.getElem?_eq_getElem (by omega)]
    exact (Wd.in4_iff _).1 this
  · rw [Fm.dec_no h]
    have : (List.replicate 9 (0 : Int)).getD (1 + n) 0 = 0 := by rcases Fm.lt8 hn with rfl | rfl | rfl | rfl | rfl | rfl | rfl | rfl <;> rfl
    omega
theorem apart_far {x t : Int} (hx : -4294967296 ≤ x ∧ x ≤ 4294967296) (ht : -4294967296 ≤ t ∧ t ≤ 4294967296) (bd : Int) : decide (bd < Fx.apart x t) = decide (bd < x - t ∨ x - t < -bd) := by
  unfold Fx.apart Fx.sm
  rw [if_pos ⟨by simp; omega, by simp; omega⟩]
  split <;> by_cases h1 : bd < x - t <;> by_cases h2 : x - t < -bd <;> simp [h1, h2] <;> omega
theorem allocF (W : World) : (Instr.alloc 92 true (.tuple #[])).run Try.prog W = .ok (.pointer (some ⟨W.heap.size, 0, none⟩)) (W.alloc (.cells (cellsI .i64 (List.replicate 9 0)).toArray 92)) := by kernel_rfl
theorem size9 {l : List Int} (h : l.length = 9) : (Try.prog.info? 92).map (·.size) = some (cellsI .i64 l).length := by rw [cellsI, List.length_map, h]; kernel_rfl
section
variable (s : Sn) (a : Option Addr) (cap : Nat) (w : World) (L : Lens s) (hp : PsAt w a s.ps)
include L hp
set_option maxHeartbeats 1600000 in
theorem far_no (i n : Int) (h : has s i n = false) :
    Calls Try.prog 22 #[.agg (scv s a cap).toArray, .int .i64 i, .int .i64 n] w fun e w' => e = .returned (.bool false) ∧ Below w.heap.size w w' := by
  have X0 := Lib.hid (Bd.new (cap := cap) L hp)
  have CH := fun W (D : At W w.heap.size s a cap) => has_any s a cap W D.len D.ps i n
  rw [h] at CH
  clear L hp h
  go_enter Try.func22, Try.ntmps22
  go_upto_region 1 with fail
  generalize w.alloc (.cells (scv s a cap).toArray 27) = w0 at *
  generalize hg : w.heap.size = g at *
  go_wp2_with ((with_reducible show wpList _ _ _ (⟨some 10, _, _, _, _, _⟩ :: _) _ _); refine loadS rfl _ rfl g rfl X0.out.at_ ?_)
  refine (CH _ X0.out.at_).mono ?_; rintro e w1 ⟨rfl, b1⟩
  have X1 := Lib.hid (X0.out.on b1)
  clear b1
  go_wp2_with fail
  go_ret
  exact ⟨rfl, hg ▸ X1.out.below⟩
set_option maxHeartbeats 3200000 in
theorem far_yes (H : Ok s) (i n : Nat) (hi : i < s.ps.length) (hn : n < 8) :
    Calls Try.prog 22 #[.agg (scv s a cap).toArray, .int .i64 i, .int .i64 n] w fun e w' => e = .returned (.bool (far s i n)) ∧ Below w.heap.size w w' := by
  have X0 := Lib.hid (Bd.new (cap := cap) L hp)
  have CH := fun W (D : At W w.heap.size s a cap) => has_any s a cap W D.len D.ps i n
  rw [has_yes H hi hn] at CH
  obtain ⟨b, off, rfl, P⟩ := hp.at_ hi
  have hy := Cr.bytes_wf P.wf
  have HI := Lib.hid hi
  have hli : (i : Int) < s.ps.length := by omega
  have hln : (n : Int) < 8 := by omega
  by_cases ho : s.odd = -1
  · have hf : far s i n = false := by unfold far; rw [ho]; rfl
    rw [hf]
    clear L hp H hi hn hy P hf
    go_enter Try.func22, Try.ntmps22
    go_upto_region 1 with fail
    generalize w.alloc (.cells (scv s (some ⟨b, off, none⟩) cap).toArray 27) = w0 at *
    generalize hg : w.heap.size = g at *
    go_wp2_with ((with_reducible show wpList _ _ _ (⟨some 10, _, _, _, _, _⟩ :: _) _ _); refine loadS rfl _ rfl g rfl X0.out.at_ ?_)
    refine (CH _ X0.out.at_).mono ?_; rintro e w1 ⟨rfl, b1⟩
    have X1 := Lib.hid (X0.out.on b1)
    clear b1
    have c1 := X1.out.at_.odd
    rw [ho] at c1
    go_wp2_with fail
    go_ret
    exact ⟨rfl, hg ▸ X1.out.below⟩
  · have C := cv_of H.cov
    have ho0 : 0 ≤ s.odd := by have := H.odd; omega
    have d1 : (s.odd == -1) = false := by simp [ho]
    have HF := Lib.hid (show far s i n = (decide (rj s i ≠ 0) || decide (bound s < dst s i n ∨ dst s i n < -bound s)) by unfold far; rw [decide_eq_true ho0]; rfl)
    have hdl := dec_len (c := s.odd) (is := (pt s i).is) hy
    have HDV := Lib.hid (dec_val (c := s.odd) (is := (pt s i).is) hy n hn)
    have SF := Lib.hid (size9 hdl)
    have CD := Lib.hid (fun W (D : At W w.heap.size s (some ⟨b, off, none⟩) cap) => (show Calls Try.prog 36 #[.int .i64 s.odd, .agg #[.bool (pt s i).is, .slice (pt s i).a (pt s i).l.length (pt s i).cap]] W fun e w' => e = .returned (.tuple #[.agg (cellsI .i64 (Fm.dec s.odd (pt s i).is (pt s i).l)).toArray, .int .i64 (rj s i)]) ∧ Below W.heap.size W w' from
      Fm.dec_any s.odd (pt s i).is (pt s i).a (pt s i).cap (pt s i).l W P.cap.1 hy (D.ps.here hi).bytes))
    have HX := Lib.hid (show (cellsI .i64 (Fm.dec s.odd (pt s i).is (pt s i).l))[1 + n]? = some (.int .i64 ((Fm.dec s.odd (pt s i).is (pt s i).l).getD (1 + n) 0)) from cellsI_get .i64 _ _ (by rw [hdl]; omega))
    have HT := Lib.hid (H.truth hi hn)
    have HDS := Lib.hid (show dst s i n = (Fm.dec s.odd (pt s i).is (pt s i).l).getD (1 + n) 0 - tv s i n from rfl)
    have HBD := Lib.hid (show bound s = G s.c 9 + s.e + 2 * G s.c 10 + G s.c 12 from rfl)
    have HC := Lib.hid C
    have HN8 := Lib.hid hn
    have HP := Lib.hid (show ∀ W, At W w.heap.size s (some ⟨b, off, none⟩) cap → W.cell? ⟨b, off + i * 42 + 40, none⟩ = some (.bool (pt s i).is) ∧ W.cell? ⟨b, off + i * 42 + 41, none⟩ = some (.slice (pt s i).a (pt s i).l.length (pt s i).cap) ∧ W.cell? ⟨b, off + i * 42 + n, none⟩ = some (.int .i64 (tv s i n)) from fun W D => by
      have P := D.ps.here hi
      exact ⟨P.cell 40 _ (ptv_is P.t8 P.o32), P.cell 41 _ (ptv_l P.t8 P.o32), P.t n hn⟩)
    have HL9 := Lib.hid (show (cellsI .i64 (List.replicate 9 0)).length = (cellsI .i64 (Fm.dec s.odd (pt s i).is (pt s i).l)).length by rw [cellsI, cellsI, List.length_map, List.length_map, hdl]; rfl)
    clear L hp H hi hn hy P C hdl ho ho0
    generalize Fm.dec s.odd (pt s i).is (pt s i).l = dl at *
    generalize dl.getD (1 + n) 0 = x at *
    generalize (pt s i).is = ps1 at *
    generalize (pt s i).a = ps2 at *
    generalize (pt s i).cap = ps3 at *
    generalize (pt s i).l.length = ps4 at *
    generalize rj s i = rr at *
    generalize far s i n = ans at *
    go_enter Try.func22, Try.ntmps22
    go_upto_region 1 with fail
    generalize w.alloc (.cells (scv s (some ⟨b, off, none⟩) cap).toArray 27) = w0 at *
    generalize hg : w.heap.size = g at *
    go_wp2_with ((with_reducible show wpList _ _ _ (⟨some 10, _, _, _, _, _⟩ :: _) _ _); refine loadS rfl _ rfl g rfl X0.out.at_ ?_)
    refine (CH _ X0.out.at_).mono ?_; rintro e w1 ⟨rfl, b1⟩
    have X1 := Lib.hid (X0.out.on b1)
    clear b1 X0 CH
    have c1 := X1.out.at_.odd
    go_upto_region 3 with fail
    clear c1 d1
    refine Lt.wp_region_box (aF := ?_) 14 13 62 7 30 92 (cellsI .i64 (List.replicate 9 0)) (cellsI .i64 dl) [true, true, true, true, true, true, true, true, true, true, true, true, false, false] [false, false, false, false, false, false, false, false, false, false, false, false, true, false] (by kernel_rfl) (by kernel_rfl) (by kernel_rfl) rfl (by decide) rfl rfl ?_ SF.out HL9.out (all_oneCell_toArray (cellsI_one _ _)) ?_ ?_ ?_
    case refine_3 =>
      intro W bW
      have D := X1.out.on bW
      have c1 := cell_regrown D.at_.odd
      have c2 := cell_regrown D.at_.p
      have c3 := cell_regrown (HP.out W D.at_).1
      have c4 := cell_regrown (HP.out W D.at_).2.1
      have cD := reg_call (w := W) (fun W' b' => CD.out W' (D.at_.on b'))
      simp only [List.take_succ_cons, List.take_zero, Lt.sel]
      repeat (go_big_quiet_step (first | exact cD _ _))
      exact rfl
    case refine_2 => exact allocF
    case refine_4 => exact rfl
    intro gx W KW
    have D := Lib.hid (X1.out.on KW.below)
    have K := Lib.hid KW.row
    simp only [List.drop_succ_cons, List.drop_zero, Act.put, List.setIfInBounds_toArray, List.set_cons_succ, List.set_cons_zero]
    clear KW CD X1 SF HL9
    by_cases hr : rr = 0
    · have e1 : (rr == 0) = true := by simp [hr]
      have cx := K.out.cell (1 + n) HX.out
      have q1 := D.out.at_.c 9 (by omega)
      have q2 := D.out.at_.c 10 (by omega)
      have q3 := D.out.at_.c 12 (by omega)
      have q4 := D.out.at_.e
      have z1 := HC.out.m
      have z2 := HC.out.a
      have z3 := HC.out.p
      have z4 := HC.out.e
      have HA := Lib.hid (show ans = decide (bound s < Fx.apart x (tv s i n)) from by
        rw [HF.out, hr, HDS.out, apart_far (by have := HDV.out; omega) (by have := HT.out; have := HC.out.lo; have := HC.out.hi; omega)]; rfl)
      have HLC := D.out.at_.len.c
      have HG := Lib.hid (show ∀ j, j < 21 → (cellsI .i64 s.c)[j]? = some (.int .i64 (G s.c j)) from fun j hj => cellsI_get .i64 s.c j (by rw [HLC]; exact hj))
      have SK := Lib.hid (sizeK D.out.at_)
      have LK := Lib.hid (show ([.int .i64 0, .int .i64 0, .int .i64 0, .int .i64 0, .int .i64 0, .int .i64 0, .int .i64 0, .int .i64 0, .int .i64 0, .int .i64 0, .int .i64 0, .int .i64 0, .int .i64 0, .int .i64 0, .int .i64 0, .int .i64 0, .int .i64 0, .int .i64 0, .int .i64 0, .int .i64 0, .int .i64 0] : List Value).length = (cellsI .i64 s.c).length by rw [cellsI, List.length_map, HLC]; rfl)
      have V1 := (VRow.new W [.int .i64 0, .int .i64 0, .int .i64 0, .int .i64 0, .int .i64 0, .int .i64 0, .int .i64 0, .int .i64 0, .int .i64 0, .int .i64 0, .int .i64 0, .int .i64 0, .int .i64 0, .int .i64 0, .int .i64 0, .int .i64 0, .int .i64 0, .int .i64 0, .int .i64 0, .int .i64 0, .int .i64 0] 24).put (cellsI .i64 s.c)
      have B1 : Below W.heap.size W ((W.alloc (.cells #[.int .i64 0, .int .i64 0, .int .i64 0, .int .i64 0, .int .i64 0, .int .i64 0, .int .i64 0, .int .i64 0, .int .i64 0, .int .i64 0, .int .i64 0, .int .i64 0, .int .i64 0, .int .i64 0, .int .i64 0, .int .i64 0, .int .i64 0, .int .i64 0, .int .i64 0, .int .i64 0, .int .i64 0] 24)).setRow W.heap.size (cellsI .i64 s.c).toArray) := Below.put ((Below.refl _ W).alloc (Nat.le_refl _) _) (Nat.le_refl _) _
      have V2 := Lib.hid V1
      have D2 := Lib.hid (D.out.on B1)
      have K2 := Lib.hid (K.out.below B1 K.out.lt)
      have AK := Lib.hid (show (cellsI .i64 s.c).toArray.all (·.oneCell') = true from all_oneCell_toArray (cellsI_one _ _))
      clear HLC V1 B1
      rw [HBD.out] at HA
      have AP := fun W => Fx.apart_any x (tv s i n) W
      generalize hdd : Fx.apart x (tv s i n) = dd at *
      clear hr hdd
      go_upto_region 7 with (first
        | ((with_reducible show wpList _ _ _ (⟨some 35, _, _, _, _, _⟩ :: _) _ _); refine loadK rfl _ rfl g rfl D.out.at_ ?_)
        | ((with_reducible show wpList _ _ _ (⟨none, .store _ (.tmp 9) _, _, _, _, _⟩ :: _) _ _); refine VB.store rfl _ _ rfl W.heap.size (cellsI .i64 s.c) rfl rfl (VRow.new W [.int .i64 0, .int .i64 0, .int .i64 0, .int .i64 0, .int .i64 0, .int .i64 0, .int .i64 0, .int .i64 0, .int .i64 0, .int .i64 0, .int .i64 0, .int .i64 0, .int .i64 0, .int .i64 0, .int .i64 0, .int .i64 0, .int .i64 0, .int .i64 0, .int .i64 0, .int .i64 0, .int .i64 0] 24) SK.out LK.out AK.out ?_))
      clear cx q1 q2 q3 q4 D K SK LK AK
      generalize (W.alloc (.cells #[.int .i64 0, .int .i64 0, .int .i64 0, .int .i64 0, .int .i64 0, .int .i64 0, .int .i64 0, .int .i64 0, .int .i64 0, .int .i64 0, .int .i64 0, .int .i64 0, .int .i64 0, .int .i64 0, .int .i64 0, .int .i64 0, .int .i64 0, .int .i64 0, .int .i64 0, .int .i64 0, .int .i64 0] 24)).setRow W.heap.size (cellsI .i64 s.c).toArray = W1 at *
      generalize W.heap.size = kg at *
      have cx := K2.out.cell (1 + n) HX.out
      have q1 := V2.out.cell 9 (HG.out 9 (by omega))
      have q2 := V2.out.cell 10 (HG.out 10 (by omega))
      have q3 := V2.out.cell 12 (HG.out 12 (by omega))
      have q4 := D2.out.at_.e
      have q5 := D2.out.at_.p
      have q6 := (HP.out W1 D2.out.at_).2.2
      clear HP V2 K2 HX
      generalize tv s i n = tt at *
      generalize G s.c 9 = c9 at *
      generalize G s.c 10 = c10 at *
      generalize G s.c 12 = c12 at *
      generalize s.e = ee at *
      have p1 : IntKind.i64.wrap (c9 + ee) = c9 + ee := IntWalk.i64_in _ (by omega)
      have p2 : IntKind.i64.wrap (2 * c10) = 2 * c10 := IntWalk.i64_in _ (by omega)
      have p3 : IntKind.i64.wrap (c9 + ee + 2 * c10) = c9 + ee + 2 * c10 := IntWalk.i64_in _ (by omega)
      have p4 : IntKind.i64.wrap (c9 + ee + 2 * c10 + c12) = c9 + ee + 2 * c10 + c12 := IntWalk.i64_in _ (by omega)
      go_quiet (exact Calls.quiet_of_same ((AP _).mono fun e w' q => ⟨q.1, q.2.symm⟩))
      have bd := below_drewN (Below.refl W1.heap.size W1) nq
      have D3 := Lib.hid (D2.out.on bd)
      clear bd D2
      generalize W1.drewN nq = W3 at *
      go_wp2_with fail
      go_ret
      exact ⟨ret_bool HA.out.symm, hg ▸ D3.out.below⟩
    · have HA := Lib.hid (show ans = true by rw [HF.out]; simp [hr])
      have e1 : (rr == 0) = false := by simp [hr]
      clear hr
      go_wp2_with fail
      go_ret
      exact ⟨ret_bool HA.out.symm, hg ▸ D.out.below⟩
end
end Sc
end Go.Proofs.Ytchnnpaebggfdaa
