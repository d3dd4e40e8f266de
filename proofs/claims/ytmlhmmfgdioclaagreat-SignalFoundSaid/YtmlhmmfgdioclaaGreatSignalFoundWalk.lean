/-
  SignalFound, walked over whatever package signal's contracts are: for all configurations and traces it returns true, and writes nothing that was there. Conditions: the numbers' bounds, how the points lie.
-/
import Derived.Test.YtmlhmmfgdioclaaGreatJSignalBegun4
import Derived.Test.YtmlhmmfgdioclaaGreatJLate3
import Derived.Deep.LoopGhost
import Derived.Deep.DeepCutAuto
import Derived.Deep.CutBlock
import Derived.Deep.RegionLaw
namespace Go.Proofs.YtmlhmmfgdioclaaGreat
set_option maxRecDepth 100000
open Go.ChangeShapes Go.WideShapes Go.ChangeAt Go.RowKit Go.Deep
namespace Sg.SignalFound
open Cf (G CA Box)
open Sg

set_option maxHeartbeats 6400000 in
theorem found_out (F : Face) (HA : ∀ W, Calls Tryz.prog 6 #[] W fun e w' => e = .returned (.bool true) ∧ Below W.heap.size W w')
    (c : List Int) (E R O : Int) (a : Option Addr) (l : List Pt) (cap : Nat) (w : World) (hc : c.length = 21) (hl : PtsAt w a l) (hp : ∀ p ∈ l, Pok p) :
    Calls Tryz.prog 5 #[.agg (CA c), .agg (trv E R O a l.length cap).toArray] w fun e w' => e = .returned (.bool true) ∧ Below w.heap.size w w' := by
  obtain ⟨b0, n0, x0, t0⟩ := boxes w c E R O a l.length cap
  have X0 := Lib.hid x0
  have T0 := Lib.hid t0
  have B0 := Lib.hid b0
  have N0 := Lib.hid n0
  have HC := Lib.hid hc
  clear b0 n0 x0 t0
  cases hf : fitc c E R l
  · have BN := fun W (hW : PtsAt W a l) => begun_no c E R O a l cap W hc hW hf
    have HL := Lib.hid hl
    clear hl hp hc
    go_enter Tryz.func5, Tryz.ntmps5
    go_wp2_with (first
      | ((with_reducible show wpList _ _ _ (⟨some 24, _, _, _, _, _⟩ :: _) _ _); refine Cf.wpList_loadW rfl _ rfl w.heap.size c rfl X0.out HC.out ?_)
      | ((with_reducible show wpList _ _ _ (⟨some 25, _, _, _, _, _⟩ :: _) _ _); refine VB.loaded rfl _ rfl (w.heap.size + 1) rfl T0.out Tryz.underlying70 rfl sizeT ?_))
    refine (BN _ (HL.out.on B0.out)).mono ?_; rintro e w1 ⟨rfl, b1⟩
    have B1 := Lib.hid (grow B0.out b1)
    clear b1 BN
    go_wp2_with fail
    refine (HA _).mono ?_; rintro e w2 ⟨rfl, b2⟩
    go_wp2
    go_ret
    exact ⟨rfl, grow B1.out b2⟩
  · have BN := fun W (hW : PtsAt W a l) => begun_yes F c E R O a l cap W hc hW hf
    have hff := hf
    unfold fitc at hff
    rw [Bool.and_eq_true, Bool.and_eq_true, decide_eq_true_eq] at hff
    obtain ⟨⟨h12, hcov⟩, hfit⟩ := hff
    have HV := Lib.hid (cov_iff.1 hcov)
    have HPT := Lib.hid (fun (k : Nat) p (h : l[k]? = some p) => (show Pok p ∧ -2147483648 ≤ p.raw.n ∧ p.raw.n ≤ 2147483647 from ⟨hp p (List.mem_of_getElem? h), by
      unfold fitp at hfit
      have := List.all_eq_true.1 hfit p (List.mem_of_getElem? h)
      simpa using this⟩))
    have HL := Lib.hid hl
    have HR := Lib.hid (at0_in (cov_iff.1 hcov))
    have HNE := Lib.hid (NN_eq HV.out.right)
    have h34 := NN_34 HV.out.right
    obtain ⟨m, hm⟩ : ∃ m, m = l.length := ⟨_, rfl⟩
    rw [← hm] at X0 T0 B0 N0 BN h12 ⊢
    have HM := Lib.hid hm
    clear hl hp hc hf hcov hfit hm
    by_cases hO : O < 0 ∨ (NN c : Int) ≤ O
    · go_enter Tryz.func5, Tryz.ntmps5
      go_wp2_with (first
        | ((with_reducible show wpList _ _ _ (⟨some 24, _, _, _, _, _⟩ :: _) _ _); refine Cf.wpList_loadW rfl _ rfl w.heap.size c rfl X0.out HC.out ?_)
        | ((with_reducible show wpList _ _ _ (⟨some 25, _, _, _, _, _⟩ :: _) _ _); refine VB.loaded rfl _ rfl (w.heap.size + 1) rfl T0.out Tryz.underlying70 rfl sizeT ?_))
      refine (BN _ (HL.out.on B0.out)).mono ?_; rintro e w1 ⟨g, S, rfl, H1⟩
      have q0 := Cf.Box.at (X0.out.on H1.below) HC.out 0 (by omega)
      rw [← HNE.out] at q0
      have t2 := (VRow.below T0.out H1.below (T0.out.lt)).cell 2 (v := .int .i64 O) rfl
      have B1 := Lib.hid (grow B0.out H1.below)
      clear H1 BN X0 T0 B0 N0
      generalize at0 c E = a0 at *
      have hw : decide (O < 0) = true ∨ (decide (O < 0) = false ∧ decide ((NN c : Int) ≤ O) = true) := by
        by_cases q : O < 0
        · exact Or.inl (by simpa using q)
        · exact Or.inr ⟨by simpa using q, by simpa using hO.resolve_left q⟩
      clear hO
      rcases hw with e1 | ⟨e1, e2⟩
      all_goals
        go_wp2_with fail
        refine (HA _).mono ?_; rintro e w2 ⟨rfl, b2⟩
        go_wp2
        go_ret
        exact ⟨rfl, grow B1.out b2⟩
    · obtain ⟨o, rfl⟩ : ∃ o : Nat, O = o := ⟨O.toNat, by omega⟩
      have hoN : o < NN c := by omega
      have HOD := Lib.hid (show od (o : Int) = o by unfold od; exact (if_pos (by omega)).trans rfl)
      clear hO
      go_enter Tryz.func5, Tryz.ntmps5
      go_wp2_with (first
        | ((with_reducible show wpList _ _ _ (⟨some 24, _, _, _, _, _⟩ :: _) _ _); refine Cf.wpList_loadW rfl _ rfl w.heap.size c rfl X0.out HC.out ?_)
        | ((with_reducible show wpList _ _ _ (⟨some 25, _, _, _, _, _⟩ :: _) _ _); refine VB.loaded rfl _ rfl (w.heap.size + 1) rfl T0.out Tryz.underlying70 rfl sizeT ?_))
      refine (BN _ (HL.out.on B0.out)).mono ?_; rintro e w1 ⟨g, S, rfl, H1⟩
      have D1 := Lib.hid (show Bd F w w1 c E R o a m cap S g (begin c) (at0 c E) 0 from ⟨grow B0.out H1.below, H1.at_, fun j hj => Nat.le_trans N0.out (H1.new j hj), Nat.le_trans N0.out H1.below.size, inv_begin HV.out _ _, X0.out.on H1.below, VRow.below T0.out H1.below (T0.out.lt), by simp [begin]⟩)
      have W1 := Lib.hid (show Way (G c 13) (G c 14) (G c 15) ((begin c).ch o).st 0 0 from way_begin (right_latch HV.out.right))
      have q0 := Cf.Box.at D1.out.cfg HC.out 0 (by omega)
      rw [← HNE.out] at q0
      have t2 := D1.out.trc.cell 2 (v := .int .i64 o) rfl
      clear H1 BN X0 T0 B0 N0
      generalize begin c = s0 at *
      generalize at0 c E = a0 at *
      have d1 : decide ((o : Int) < 0) = false := decide_eq_false (by omega)
      have d2 : decide ((NN c : Int) ≤ (o : Int)) = false := decide_eq_false (by omega)
      have d3 : (o : Int) < 4 := by omega
      have d4 : decide (NN c ≤ o) = false := by simp; omega
      have d5 : ¬ NN c ≤ o := by omega
      have HP2 := Lib.hid (show (2 : Int) ^ o = 1 ∨ (2 : Int) ^ o = 2 ∨ (2 : Int) ^ o = 4 ∨ (2 : Int) ^ o = 8 by
        have hki : o ∈ [0, 1, 2, 3] := by simp; omega
        simp only [List.mem_cons, List.mem_nil_iff, or_false] at hki
        rcases hki with rfl | rfl | rfl | rfl <;> decide)
      have t2' : (w1.alloc (.cells #[.int .i64 1, .int .i64 2, .int .i64 4, .int .i64 8] 3)).cell? ⟨w.heap.size + 1, 2, none⟩ = some (.int .i64 o) := (D1.out.trc.alloc _).cell 2 rfl
      have ci : (w1.alloc (.cells #[.int .i64 1, .int .i64 2, .int .i64 4, .int .i64 8] 3)).cell? ⟨w1.heap.size, o, none⟩ = some (.int .i64 (2 ^ o)) := by
        have v := VRow.new w1 [.int .i64 1, .int .i64 2, .int .i64 4, .int .i64 8] 3
        have hki : o ∈ [0, 1, 2, 3] := by simp; omega
        simp only [List.mem_cons, List.mem_nil_iff, or_false] at hki
        rcases hki with rfl | rfl | rfl | rfl <;> exact v.cell _ rfl
      go_upto_region 9 with fail
      have D2 := Lib.hid (D1.out.on ((Below.refl w1.heap.size w1).alloc (Nat.le_refl _) (.cells #[.int .i64 1, .int .i64 2, .int .i64 4, .int .i64 8] 3)))
      clear D1 d1 d2 d4 d5 t2 t2' ci q0
      generalize w1.alloc (.cells #[.int .i64 1, .int .i64 2, .int .i64 4, .int .i64 8] 3) = W2 at *
      generalize w1.heap.size = gt at *
      go_wp2_with fail
      go_loopg [6, 8, 9, 11] m (fun gg s6 s8 s9 s11 wr => ∃ (i : Nat) (at_ f n : Int) (s : Si) (S : Nat → Prop), i + gg = m ∧ s11 = .int .i64 i ∧ s6 = .int .i64 at_ ∧ s8 = .int .i64 f ∧ s9 = .int .i64 n ∧ Hid (G c 1 + E ≤ at_ ∧ at_ ≤ G c 2 - E) ∧ Hid (f ≤ i ∧ n ≤ i) ∧ Hid (Way (G c 13) (G c 14) (G c 15) (s.ch o).st f n) ∧ Hid (Bd F w wr c E R o a m cap S g s at_ i))
      case atStart => exact ⟨0, a0, 0, 0, s0, S, by omega, rfl, rfl, rfl, rfl, HR, Lib.hid ⟨by omega, by omega⟩, W1, D2⟩
      case round =>
        obtain ⟨i, at_, f, n, s, S, hi, rfl, rfl, rfl, rfl, HR2, HFN, WY, D⟩ := hrel
        have HI := Lib.hid hi
        clear D2 W1 HR hi
        have t0 := D.out.trc.cell 0 (v := .int .i64 E) rfl
        have t2 := D.out.trc.cell 2 (v := .int .i64 o) rfl
        have t3 := D.out.trc.cell 3 (v := .slice a m cap) rfl
        by_cases hlt : i < m
        · have hli : (i : Int) < m := by omega
          obtain ⟨b, off, rfl, hat⟩ := HL.out (by have := HM.out; omega)
          obtain ⟨p, hpi⟩ : ∃ p, l[i]? = some p := ⟨_, List.getElem?_eq_getElem (by have := HM.out; omega)⟩
          have HP := Lib.hid (HPT.out i p hpi)
          have P0 := Lib.hid ((hat i p hpi).on D.out.below)
          clear hat hpi hlt
          have HRN := Lib.hid (show -4294967296 ≤ at_ ∧ at_ ≤ 4294967296 by
            obtain ⟨-, r1, r2, -⟩ := HV.out.right
            have := HV.out.e0; have := HR2.out; omega)
          have CM := Lib.hid (fun W => moved_any c E R o (some ⟨b, off, none⟩) m cap at_ p W HC.out HV.out HP.out.1 HRN.out)
          go_upto_region 12 with fail
          have t3r := cell_regrown t3
          have cM := reg_call (w := wr) (fun W _ => CM.out W)
          have HT := Lib.hid (show ∀ W', (∃ p : Regrown, W' = Sort.grow (redrawn wr p.d) p.os) → Box W' w.heap.size c by rintro W' ⟨p, rfl⟩; exact D.out.cfg.on (below_regrown wr p.d p.os))
          have HX := Lib.hid (show ∀ W', (∃ p : Regrown, W' = Sort.grow (redrawn wr p.d) p.os) → ∀ (j : Nat) v, (trv E R o (some ⟨b, off, none⟩) m cap)[j]? = some v → W'.cell? ⟨w.heap.size + 1, 0 + j, none⟩ = some v by
            rintro W' ⟨p, rfl⟩ j v hv
            rw [Nat.zero_add]
            exact ((D.out.trc).below (below_regrown wr p.d p.os) D.out.trc.lt).cell j hv)
          have HY := Lib.hid (show ∀ W', (∃ p : Regrown, W' = Sort.grow (redrawn wr p.d) p.os) → ∀ (j : Nat) v, (ptv p)[j]? = some v → W'.cell? ⟨b, off + i * 7 + j, none⟩ = some v by
            rintro W' ⟨q, rfl⟩
            exact P0.out.on (below_regrown wr q.d q.os))
          refine wp_region_quiet_below (by kernel_rfl) (by kernel_rfl) ?_
          repeat (first
            | (with_reducible show wpQuiet _ _ _ _ (⟨some 59, _, _, _, _, _⟩ :: _) _
               refine wpQuiet_loadK rfl _ rfl w.heap.size c rfl HT.out HC.out ?_
               simp only [Act.put, List.setIfInBounds_toArray, List.set_cons_succ, List.set_cons_zero])
            | (with_reducible show wpQuiet _ _ _ _ (⟨some 60, _, _, _, _, _⟩ :: _) _
               refine wpQuiet_loadR rfl _ rfl (w.heap.size + 1) 0 _ rfl HX.out aggT sizeT ?_
               simp only [Act.put, List.setIfInBounds_toArray, List.set_cons_succ, List.set_cons_zero])
            | (with_reducible show wpQuiet _ _ _ _ (⟨some 66, _, _, _, _, _⟩ :: _) _
               refine wpQuiet_loadR rfl _ rfl b (off + i * 7) _ rfl HY.out aggP sizeP ?_
               simp only [Act.put, List.setIfInBounds_toArray, List.set_cons_succ, List.set_cons_zero])
            | go_big_quiet_step (exact cM _ _))
          refine wpQuiet_nil ?_
          intro _ hw'
          obtain ⟨⟨dq, osq⟩, hw''⟩ := hw'
          subst hw''
          have HQ := Lib.hid (mvd_in (a := at_) HV.out p.mv)
          have HQN := Lib.hid (show -4294967296 ≤ mvd c E R at_ p.mv ∧ mvd c E R at_ p.mv ≤ 4294967296 by
            obtain ⟨-, r1, r2, -⟩ := HV.out.right
            have := HV.out.e0; have := HQ.out; omega)
          have YC := Lib.hid (told_cy (p := p) (O := (o : Int)) (a := at_) HV.out HR2.out HP.out.2 p.mv)
          have D2 := Lib.hid (D.out.on (below_regrown wr dq osq))
          have P2 := Lib.hid (P0.out.on (below_regrown wr dq osq))
          have HRW := Lib.hid (show ∀ at', (told1 c E o at' p o) = p.raw from fun at' => (told_at hoN).trans (if_pos rfl))
          clear D P0 HT HX HY CM cM t0 t2 t3 t3r HR2 HRN
          generalize mvd c E R at_ p.mv = at' at *
          have CT := Lib.hid (fun W => told_any c E R o (some ⟨b, off, none⟩) m cap at' p W HC.out HV.out HP.out.1 HQN.out)
          replace HRW := Lib.hid (HRW.out at')
          change Hid (∀ W, Calls _ _ _ W fun e w' => e = .returned (.tuple #[.agg (raw8 (told1 c E o at' p)).toArray, _, _]) ∧ _) at CT
          generalize told1 c E o at' p = rr at *
          generalize llo E o at' p (NN c) = lo at *
          generalize lhi E o at' p (NN c) = hi at *
          show Exit.then _ _ .normal _ (Sort.grow (redrawn wr dq) osq)
          generalize Sort.grow (redrawn wr dq) osq = W1 at *
          clear wr
          have CS := Lib.hid (F.state_yes o D2.out.held HV.out.right hoN)
          have t2 := D2.out.trc.cell 2 (v := .int .i64 o) rfl
          generalize HST : (s.ch o).st = st at *
          have HSTE := Lib.hid HST
          clear HST
          go_wp2_with fail
          refine (CS.out).mono ?_; rintro e w3 ⟨rfl, b3⟩
          have D3 := Lib.hid (D2.out.on b3)
          have P3 := Lib.hid (P2.out.on b3)
          have V3 := Lib.hid (VRow.new w3 (lav Lc.zer) 62)
          clear b3 D2 P2 CS t2
          go_upto_region 14 with ((with_reducible show wpList _ _ _ (⟨none, .store _ (.tmp 12) _, _, _, _, _⟩ :: _) _ _); refine VB.store rfl _ _ rfl w3.heap.size (lav st) rfl rfl V3.out sizeL rfl (lav_one st) ?_)
          have L4 := Bd.lay D3.out (lav Lc.zer) (lav st) 62
          have D4 := Lib.hid L4.1
          have S4 := Lib.hid L4.2.1
          have P4 := Lib.hid (P3.out.on L4.2.2)
          have NS := Lib.hid (D3.out.out (Nat.le_refl w3.heap.size))
          clear L4 V3 D3 P3
          rw [show lav Lc.zer = [.bool false, .bool false, .int .i64 0, .int .i64 0, .int .i64 0] from rfl] at D4 S4 P4
          generalize (w3.alloc (.cells #[.bool false, .bool false, .int .i64 0, .int .i64 0, .int .i64 0] 62)).setRow w3.heap.size (lav st).toArray = W4 at *
          generalize w3.heap.size = gs at *
          have t3 := D4.out.trc.cell 3 (v := .slice (some ⟨b, off, none⟩) m cap) rfl
          refine Lt.wp_region_box (aF := ?_) 17 14 220 14 85 42 (raw8 fun _ => rw0) (raw8 rr) [true, true, true, true, true, true, true, true, true, true, true, true, true, false, false, true, true] [false, false, false, false, false, false, false, false, false, false, false, false, false, true, false, false, false] (by kernel_rfl) (by kernel_rfl) (by kernel_rfl) rfl (by decide) rfl rfl ?_ sizeR rfl (raw_one rr) ?_ ?_ ?_
          case refine_3 =>
            intro W bW
            have D3 := D4.out.on bW
            have P3 := P4.out.on bW
            have t3r := cell_regrown (D3.trc.cell 3 (v := .slice (some ⟨b, off, none⟩) m cap) rfl)
            have cM := reg_call (w := W) (fun W _ => CT.out W)
            have HT := Lib.hid (show ∀ W', (∃ p : Regrown, W' = Sort.grow (redrawn W p.d) p.os) → Box W' w.heap.size c by rintro W' ⟨p, rfl⟩; exact D3.cfg.on (below_regrown W p.d p.os))
            have HX := Lib.hid (show ∀ W', (∃ p : Regrown, W' = Sort.grow (redrawn W p.d) p.os) → ∀ (j : Nat) v, (trv E R o (some ⟨b, off, none⟩) m cap)[j]? = some v → W'.cell? ⟨w.heap.size + 1, 0 + j, none⟩ = some v by
              rintro W' ⟨p, rfl⟩ j v hv
              rw [Nat.zero_add]
              exact ((D3.trc).below (below_regrown W p.d p.os) D3.trc.lt).cell j hv)
            have HY := Lib.hid (show ∀ W', (∃ p : Regrown, W' = Sort.grow (redrawn W p.d) p.os) → ∀ (j : Nat) v, (ptv p)[j]? = some v → W'.cell? ⟨b, off + i * 7 + j, none⟩ = some v by
              rintro W' ⟨q, rfl⟩
              exact P3.on (below_regrown W q.d q.os))
            simp only [List.take_succ_cons, List.take_zero, Lt.sel]
            repeat (first
              | (with_reducible show wpQuiet _ _ _ _ (⟨some 76, _, _, _, _, _⟩ :: _) _
                 refine wpQuiet_loadK rfl _ rfl w.heap.size c rfl HT.out HC.out ?_
                 simp only [Act.put, List.setIfInBounds_toArray, List.set_cons_succ, List.set_cons_zero])
              | (with_reducible show wpQuiet _ _ _ _ (⟨some 77, _, _, _, _, _⟩ :: _) _
                 refine wpQuiet_loadR rfl _ rfl (w.heap.size + 1) 0 _ rfl HX.out aggT sizeT ?_
                 simp only [Act.put, List.setIfInBounds_toArray, List.set_cons_succ, List.set_cons_zero])
              | (with_reducible show wpQuiet _ _ _ _ (⟨some 83, _, _, _, _, _⟩ :: _) _
                 refine wpQuiet_loadR rfl _ rfl b (off + i * 7) _ rfl HY.out aggP sizeP ?_
                 simp only [Act.put, List.setIfInBounds_toArray, List.set_cons_succ, List.set_cons_zero])
              | go_big_quiet_step (exact cM _ _))
            exact rfl
          case refine_2 => exact allocR
          case refine_4 => exact rfl
          intro gx W KW
          have D5 := Lib.hid (D4.out.on KW.below)
          have S5 := Lib.hid (VRow.below S4.out KW.below S4.out.lt)
          have K5 := Lib.hid KW.row
          have NX := Lib.hid (D4.out.out KW.ge)
          simp only [List.drop_succ_cons, List.drop_zero, Act.put, List.setIfInBounds_toArray, List.set_cons_succ, List.set_cons_zero]
          clear KW CT D4 P4 S4 t3
          have CS := Lib.hid (F.step_yes (r := rr) (sh := 0) D5.out.held HV.out.right D5.out.inv.ok ⟨YC.out.ok, by omega, by omega⟩ (by have := D5.out.votes; have := HI.out; omega))
          go_wp2_with ((with_reducible show wpList _ _ _ (⟨some 90, _, _, _, _, _⟩ :: _) _ _); refine VB.loaded rfl _ rfl gx rfl K5.out Tryz.underlying42 rfl sizeR ?_)
          refine (CS.out).mono ?_; rintro e w6 ⟨rfl, S', h6, q6, m6⟩
          have D6 := Lib.hid (Bd.step HV.out D5.out YC.out h6 q6 m6)
          have S6 := Lib.hid (VRow.but S5.out q6 NS.out)
          have K6 := Lib.hid (VRow.but K5.out q6 NX.out)
          have V6 := Lib.hid (VRow.new w6 zres 37)
          have YO := Lib.hid (show Cy c rr E R at_ at' o by have h := YC.out; rwa [HOD.out] at h)
          have IO := Lib.hid (show Inv c s E at_ o by have h := D5.out.inv; rwa [HOD.out] at h)
          clear CS h6 q6 m6 D5 S5 K5 NX NS YC
          go_upto_region 16 with ((with_reducible show wpList _ _ _ (⟨none, .store _ (.tmp 17) _, _, _, _, _⟩ :: _) _ _); refine VB.store rfl _ _ rfl w6.heap.size (res c s rr 0) rfl rfl V6.out sizeS rfl (res_one c s rr 0) ?_)
          have L7 := Bd.lay D6.out zres (res c s rr 0) 37
          have D7 := Lib.hid L7.1
          have R7 := Lib.hid L7.2.1
          have S7 := Lib.hid (VRow.below S6.out L7.2.2 S6.out.lt)
          have K7 := Lib.hid (VRow.below K6.out L7.2.2 K6.out.lt)
          clear L7 V6 D6 S6 K6
          unfold zres at D7 R7 S7 K7
          generalize (w6.alloc (.cells #[.int .i64 0, .int .i64 0, .int .i64 0, .int .i64 0, .bool false, .int .i64 0, .int .i64 0, .int .i64 0, .int .i64 0, .int .i64 0, .int .i64 0, .int .i64 0, .int .i64 0] 37)).setRow w6.heap.size (res c s rr 0).toArray = W7 at *
          generalize w6.heap.size = ga at *
          have CS := Lib.hid (F.state_yes o D7.out.held HV.out.right hoN)
          have t2 := D7.out.trc.cell 2 (v := .int .i64 o) rfl
          obtain ⟨st', HS2⟩ : ∃ st', st' = ((nxt c s rr 0).ch o).st := ⟨_, rfl⟩
          rw [← HS2] at CS
          have HST2 := Lib.hid HS2
          clear HS2
          go_wp2_with fail
          refine (CS.out).mono ?_; rintro e w8 ⟨rfl, b8⟩
          have D8 := Lib.hid (D7.out.on b8)
          have R8 := Lib.hid (VRow.below R7.out b8 R7.out.lt)
          have S8 := Lib.hid (VRow.below S7.out b8 S7.out.lt)
          have K8 := Lib.hid (VRow.below K7.out b8 K7.out.lt)
          have V8 := Lib.hid (VRow.new w8 (lav Lc.zer) 62)
          clear b8 D7 R7 S7 K7 CS t2
          go_upto_region 17 with ((with_reducible show wpList _ _ _ (⟨none, .store _ (.tmp 19) _, _, _, _, _⟩ :: _) _ _); refine VB.store rfl _ _ rfl w8.heap.size (lav st') rfl rfl V8.out sizeL rfl (lav_one st') ?_)
          have L9 := Bd.lay D8.out (lav Lc.zer) (lav st') 62
          have D9 := Lib.hid L9.1
          have T9 := Lib.hid L9.2.1
          have R9 := Lib.hid (VRow.below R8.out L9.2.2 R8.out.lt)
          have S9 := Lib.hid (VRow.below S8.out L9.2.2 S8.out.lt)
          have K9 := Lib.hid (VRow.below K8.out L9.2.2 K8.out.lt)
          clear L9 V8 D8 R8 S8 K8
          rw [show lav Lc.zer = [.bool false, .bool false, .int .i64 0, .int .i64 0, .int .i64 0] from rfl] at D9 T9 R9 S9 K9
          generalize (w8.alloc (.cells #[.bool false, .bool false, .int .i64 0, .int .i64 0, .int .i64 0] 62)).setRow w8.heap.size (lav st').toArray = W9 at *
          generalize w8.heap.size = gz at *
          have t0 := D9.out.trc.cell 0 (v := .int .i64 E) rfl
          have t2 := D9.out.trc.cell 2 (v := .int .i64 o) rfl
          have q9 := Cf.Box.at D9.out.cfg HC.out 9 (by omega)
          have q10 := Cf.Box.at D9.out.cfg HC.out 10 (by omega)
          have q12 := Cf.Box.at D9.out.cfg HC.out 12 (by omega)
          have k0 : W9.cell? ⟨gx, o * 2, none⟩ = some (.bool (rr o).is) ∧ W9.cell? ⟨gx, o * 2 + 1, none⟩ = some (.int .i64 (rr o).n) := by
            have hki : o ∈ [0, 1, 2, 3] := by simp; omega
            simp only [List.mem_cons, List.mem_nil_iff, or_false] at hki
            rcases hki with rfl | rfl | rfl | rfl
            · exact ⟨K9.out.cell 0 rfl, K9.out.cell 1 rfl⟩
            · exact ⟨K9.out.cell 2 rfl, K9.out.cell 3 rfl⟩
            · exact ⟨K9.out.cell 4 rfl, K9.out.cell 5 rfl⟩
            · exact ⟨K9.out.cell 6 rfl, K9.out.cell 7 rfl⟩
          obtain ⟨k1, k2⟩ := k0
          have y9 : 0 ≤ G c 9 ∧ G c 9 ≤ 2147483647 := by obtain ⟨-, -, -, -, -, -, -, -, -, h, -⟩ := HV.out.right; exact h
          have y10 : 0 ≤ G c 10 ∧ G c 10 ≤ 2147483647 := by obtain ⟨-, -, -, -, -, -, -, -, -, -, h, -⟩ := HV.out.right; exact h
          have y12 : 0 ≤ G c 12 ∧ G c 12 ≤ 2147483647 := by obtain ⟨-, -, -, -, -, -, -, -, -, -, -, -, h, -⟩ := HV.out.right; exact h
          have yE := HV.out.e0
          have yE1 := HV.out.e1
          have yr : -2147483648 ≤ (rr o).n ∧ (rr o).n ≤ 2147483647 := by rw [HRW.out]; exact HP.out.2
          have ya := HQN.out
          obtain ⟨bd, hbd⟩ : ∃ bd, bd = G c 9 + E + 2 * G c 10 + G c 12 := ⟨_, rfl⟩
          have p1 : IntKind.i64.wrap ((rr o).n - at') = (rr o).n - at' := IntWalk.i64_in _ (by omega)
          have p2 : IntKind.i64.wrap (G c 9 + E) = G c 9 + E := IntWalk.i64_in _ (by omega)
          have p3 : IntKind.i64.wrap (2 * G c 10) = 2 * G c 10 := IntWalk.i64_in _ (by omega)
          have p4 : IntKind.i64.wrap (G c 9 + E + 2 * G c 10) = G c 9 + E + 2 * G c 10 := IntWalk.i64_in _ (by omega)
          have p5 : IntKind.i64.wrap (G c 9 + E + 2 * G c 10 + G c 12) = bd := by rw [IntWalk.i64_in _ (by omega), hbd]
          have p6 : IntKind.i64.wrap (-bd) = -bd := IntWalk.i64_in _ (by omega)
          have HBD := Lib.hid hbd
          clear hbd y9 y10 y12 yE yE1 yr ya
          go_upto_region 19 with fail
          clear p1 p2 p3 p4 p5 q9 q10 q12
          have HFA := Lib.hid (fun (fb : Bool) hb => found_any HV.out YO.out IO.out hoN (f := f) (m := n) (by rw [HSTE.out]; exact WY.out) fb hb)
          have HTE := Lib.hid (HBD.out)
          go_cut [136] from 120 to 135 (fun s136 wx => ∃ fb : Bool, s136 = .bool fb ∧ Hid (fb = true → (rr o).is = false ∨ bd < (rr o).n - at' ∨ (rr o).n - at' < -bd) ∧ wx = W9)
          case first =>
            clear HFA
            cases hi1 : (rr o).is
            · rw [hi1] at k1
              have HI1 := Lib.hid hi1
              clear hi1
              go_wp2_with fail
              go_meet
              exact ⟨true, rfl, Lib.hid (fun _ => Or.inl HI1.out), rfl⟩
            · rw [hi1] at k1
              by_cases g1 : bd < (rr o).n - at'
              · have HG := Lib.hid g1
                have e0 : decide (bd < (rr o).n - at') = true := by simpa using g1
                clear hi1 g1
                generalize (rr o).n - at' = dd at *
                go_wp2_with fail
                go_meet
                exact ⟨true, rfl, Lib.hid (fun _ => Or.inr (Or.inl HG.out)), rfl⟩
              · by_cases g2 : (rr o).n - at' < -bd
                · have HG := Lib.hid g2
                  have e0 : decide (bd < (rr o).n - at') = false := by simpa using g1
                  have e3 : decide ((rr o).n - at' < -bd) = true := by simpa using g2
                  clear hi1 g1 g2
                  generalize (rr o).n - at' = dd at *
                  go_wp2_with fail
                  go_meet
                  exact ⟨true, rfl, Lib.hid (fun _ => Or.inr (Or.inr HG.out)), rfl⟩
                · have e0 : decide (bd < (rr o).n - at') = false := by simpa using g1
                  have e3 : decide ((rr o).n - at' < -bd) = false := by simpa using g2
                  clear hi1 g1 g2
                  generalize (rr o).n - at' = dd at *
                  go_wp2_with fail
                  go_meet
                  exact ⟨false, rfl, Lib.hid (fun h => by cases h), rfl⟩
          case rest =>
            obtain ⟨fb, rfl, HF, rfl⟩ := hcut
            rename World => W9
            have FD := Lib.hid (HFA.out fb (fun h => by have := HF.out h; rwa [HTE.out] at this))
            have ct : W9.cell? ⟨ga, 5 + o, none⟩ = some (.int .i64 (tri c s rr 0 o)) := by
              have hki : o ∈ [0, 1, 2, 3] := by simp; omega
              simp only [List.mem_cons, List.mem_nil_iff, or_false] at hki
              rcases hki with rfl | rfl | rfl | rfl
              · exact R9.out.cell 5 rfl
              · exact R9.out.cell 6 rfl
              · exact R9.out.cell 7 rfl
              · exact R9.out.cell 8 rfl
            have f0 := WY.out.f0
            have n0 := WY.out.m0
            have fn := HFN.out
            have p7 : IntKind.i64.wrap (f + 1) = f + 1 := IntWalk.i64_in _ (by omega)
            have p8 : IntKind.i64.wrap (n + 1) = n + 1 := IntWalk.i64_in _ (by omega)
            have HBF := Lib.hid (show (if fb = true then f + 1 else 0) ≤ ((i + 1 : Nat) : Int) ∧ (if tri c s rr 0 o = 0 then n + 1 else 0) ≤ ((i + 1 : Nat) : Int) by
              constructor
              · split <;> omega
              · split <;> omega)
            clear HFA HF k1 k2 p6 HTE HBD K9 f0 n0 fn
            obtain ⟨tv, htv⟩ : ∃ tv, tv = tri c s rr 0 o := ⟨_, rfl⟩
            rw [← htv] at ct HBF
            have HTV := Lib.hid htv
            clear htv
            go_upto_if 136 with fail
            go_cut [8] from 137 to 144 (fun s8 wx => s8 = .int .i64 (if fb = true then f + 1 else 0) ∧ wx = W9)
            case first =>
              cases fb
              · go_wp2_with fail
                go_meet
                exact ⟨rfl, rfl⟩
              · have e2 : ¬ tv = 0 := by rw [HTV.out]; exact FD.out.trips rfl
                have e1 : (tv == 0) = false := by simpa using e2
                go_wp2_with fail
                go_meet
                exact ⟨rfl, rfl⟩
            case rest =>
              obtain ⟨rfl, rfl⟩ := hcut
              rename World => W9
              have HW2 := Lib.hid (FD.out.way)
              have HBK := Lib.hid (FD.out.back)
              have HOU := Lib.hid (FD.out.out)
              have HNO := Lib.hid (FD.out.not)
              clear FD
              rw [← HTV.out] at HW2 HBK
              generalize (if fb = true then f + 1 else 0) = f' at *
              go_upto_if 150 with fail
              go_cut [9] from 151 to 152 (fun s9 wx => s9 = .int .i64 (if tv = 0 then n + 1 else 0) ∧ wx = W9)
              case first =>
                by_cases hz : tv = 0
                · have e1 : (tv == 0) = true := by simpa using hz
                  have HZ := Lib.hid hz
                  clear hz
                  go_wp2_with fail
                  go_meet
                  exact ⟨by rw [if_pos HZ.out], rfl⟩
                · have e1 : (tv == 0) = false := by simpa using hz
                  have HZ := Lib.hid hz
                  clear hz
                  go_wp2_with fail
                  go_meet
                  exact ⟨by rw [if_neg HZ.out], rfl⟩
              case rest =>
                obtain ⟨rfl, rfl⟩ := hcut
                rename World => W9
                clear p7 p8 ct
                generalize (if tv = 0 then n + 1 else 0) = n' at *
                rw [HSTE.out] at HOU HNO HBK
                rw [← HST2.out] at HOU HBK
                have HW3 := Lib.hid (show Way (G c 13) (G c 14) (G c 15) st' f' n' by rw [HST2.out]; exact HW2.out)
                have HMB := Lib.hid (show (0 ≤ inm c s rr 0 ∧ inm c s rr 0 ≤ 15) ∧ 0 ≤ lam c (nxt c s rr 0) ∧ lam c (nxt c s rr 0) ≤ 15 from ⟨mk4_bd _, mk4_bd _⟩)
                have HMI := Lib.hid (in_bit (c := c) (s := s) (r := rr) hoN (by omega))
                have HML := Lib.hid (la_bit (c := c) (s' := nxt c s rr 0) hoN (by omega))
                rw [← HST2.out] at HML
                have v1 := R9.out.cell 1 (v := .int .i64 (inm c s rr 0)) rfl
                have v2 := R9.out.cell 2 (v := .int .i64 (lam c (nxt c s rr 0))) rfl
                have a0' := S9.out.cell 0 (v := .bool st.la) rfl
                have a1' := S9.out.cell 1 (v := .bool st.ou) rfl
                have z0' := T9.out.cell 0 (v := .bool st'.la) rfl
                have z1' := T9.out.cell 1 (v := .bool st'.ou) rfl
                have z4' := T9.out.cell 4 (v := .int .i64 st'.bk) rfl
                have q13 := Cf.Box.at D9.out.cfg HC.out 13 (by omega)
                have q14 := Cf.Box.at D9.out.cfg HC.out 14 (by omega)
                have q15 := Cf.Box.at D9.out.cfg HC.out 15 (by omega)
                have d6 : decide (G c 15 < st'.bk) = false := by have := way_back HW3.out; simp; omega
                have HLT := Lib.hid (fun h => way_latched HW3.out (show G c 13 ≤ f' from h))
                generalize inm c s rr 0 = IN at *
                generalize lam c (nxt c s rr 0) = LA at *
                generalize (2 : Int) ^ o = P at *
                have z1 : (P == 0) = false := by have := HP2.out; simp; omega
                have z2 : ¬ (P = 0) := by have := HP2.out; omega
                obtain ⟨m1, m2, m3⟩ := quo_bd HMB.out.1 HP2.out
                obtain ⟨m4, m5, m6⟩ := quo_bd HMB.out.2 HP2.out
                have p1 : IntKind.i64.wrap (IN.tdiv P) = IN.tdiv P := IntWalk.i64_in _ (by omega)
                have p2 : IntKind.i64.wrap (LA.tdiv P) = LA.tdiv P := IntWalk.i64_in _ (by omega)
                have p3 : IntKind.i64.wrap ((IN.tdiv P).tmod 2) = (IN.tdiv P).tmod 2 := IntWalk.i64_in _ (by omega)
                have p4 : IntKind.i64.wrap ((LA.tdiv P).tmod 2) = (LA.tdiv P).tmod 2 := IntWalk.i64_in _ (by omega)
                clear m1 m2 m3 m4 m5 m6
                have HY1 := Lib.hid (show st'.la = true → ((LA.tdiv P).tmod 2 == 0) = false from fun h => by rw [HML.out, if_pos h]; rfl)
                have HY2 := Lib.hid (show st.la = true → ((IN.tdiv P).tmod 2 == 1) = false from fun h => by rw [HMI.out, if_neg (by rw [HNO.out h]; decide)]; rfl)
                have HB2 := Lib.hid (show st.la = true → st'.la = false → decide (n' < G c 14) = false from fun h1 h2 => by have := HBK.out h1 h2; simp; omega)
                clear HMI HML HNO HBK HW3 t0 t2
                go_upto_region 27 with fail
                simp only [List.append_eq, List.cons_append, List.nil_append]
                have hw : (st.ou = false ∨ (st.ou = true ∧ st'.ou = true)) := by
                  cases h1 : st.ou
                  · exact Or.inl rfl
                  · exact Or.inr ⟨rfl, HOU.out h1⟩
                rcases hw with h1 | ⟨h1, h2⟩
                all_goals
                  rw [h1] at a1'
                  first
                  | (rw [h2] at z1'; clear h2)
                  | skip
                  clear h1
                  cases hla : st.la
                  · rw [hla] at a0'
                    clear hla
                    by_cases hg : G c 13 ≤ f'
                    · have x1 : decide (G c 13 ≤ f') = true := by simpa using hg
                      have hl' := HLT.out hg
                      rw [hl'] at z0'
                      have y1 := HY1.out hl'
                      clear hg hl'
                      go_wp2_with fail
                      go_roundg (gk - 1)
                      case rel => exact ⟨i + 1, at', f', n', nxt c s rr 0, S', by have := HI.out; omega, by go_num, rfl, rfl, rfl, HQ, HBF, HW2, D9⟩
                      case measure => have := HI.out; omega
                    · have x1 : decide (G c 13 ≤ f') = false := by simpa using hg
                      clear hg
                      go_wp2_with fail
                      go_roundg (gk - 1)
                      case rel => exact ⟨i + 1, at', f', n', nxt c s rr 0, S', by have := HI.out; omega, by go_num, rfl, rfl, rfl, HQ, HBF, HW2, D9⟩
                      case measure => have := HI.out; omega
                  · rw [hla] at a0'
                    have y2 := HY2.out hla
                    by_cases hg : G c 13 ≤ f'
                    · have x1 : decide (G c 13 ≤ f') = true := by simpa using hg
                      have hl' := HLT.out hg
                      rw [hl'] at z0'
                      have y1 := HY1.out hl'
                      clear hg hl' hla
                      go_wp2_with fail
                      go_roundg (gk - 1)
                      case rel => exact ⟨i + 1, at', f', n', nxt c s rr 0, S', by have := HI.out; omega, by go_num, rfl, rfl, rfl, HQ, HBF, HW2, D9⟩
                      case measure => have := HI.out; omega
                    · have x1 : decide (G c 13 ≤ f') = false := by simpa using hg
                      clear hg
                      cases hl' : st'.la
                      · rw [hl'] at z0'
                        have y3 := HB2.out hla hl'
                        clear hl' hla
                        go_wp2_with fail
                        go_roundg (gk - 1)
                        case rel => exact ⟨i + 1, at', f', n', nxt c s rr 0, S', by have := HI.out; omega, by go_num, rfl, rfl, rfl, HQ, HBF, HW2, D9⟩
                        case measure => have := HI.out; omega
                      · rw [hl'] at z0'
                        clear hl' hla
                        go_wp2_with fail
                        go_roundg (gk - 1)
                        case rel => exact ⟨i + 1, at', f', n', nxt c s rr 0, S', by have := HI.out; omega, by go_num, rfl, rfl, rfl, HQ, HBF, HW2, D9⟩
                        case measure => have := HI.out; omega
        · obtain rfl : i = m := by have := HI.out; omega
          go_wp2_with fail
          refine (HA _).mono ?_; rintro e w2 ⟨rfl, b2⟩
          go_wp2
          go_ret
          exact ⟨rfl, grow D.out.below b2⟩
end Sg.SignalFound
end Go.Proofs.YtmlhmmfgdioclaaGreat
