/-
  SignalBounded, walked over whatever package signal's contracts are: for all configurations and traces it returns true, and writes nothing that was there. Conditions: the numbers' bounds, how the points lie.
  The live question of layer 18, in numbers: what a small signal tells in three cycles. Mathematics alone. No conditions.
  The live question of layer 18, walked over whatever package signal's contracts are: it is answered true. No conditions.
-/
import Derived.Test.YtmlhmmfgdioclaaGreatJSignalBegun3
import Derived.Test.YtmlhmmfgdioclaaGreatJLate3
import Derived.Deep.LoopGhost
import Derived.Deep.DeepCutAuto
import Derived.Deep.CutBlock
import Derived.Deep.RegionLaw
namespace Go.Proofs.YtmlhmmfgdioclaaGreat
set_option maxRecDepth 100000
open Go.ChangeShapes Go.WideShapes Go.ChangeAt Go.RowKit Go.Deep
namespace Sg.SignalBounded
open Cf (G CA Box)
open Sg

set_option maxHeartbeats 6400000 in
theorem bounded_any (F : Face) (HA : ∀ W, Calls Tryz.prog 6 #[] W fun e w' => e = .returned (.bool true) ∧ Below W.heap.size W w')
    (c : List Int) (E R O : Int) (a : Option Addr) (l : List Pt) (cap : Nat) (w : World) (hc : c.length = 21) (hl : PtsAt w a l) (hp : ∀ p ∈ l, Pok p) :
    Calls Tryz.prog 4 #[.agg (CA c), .agg (trv E R O a l.length cap).toArray] w fun e w' => e = .returned (.bool true) ∧ Below w.heap.size w w' := by
  obtain ⟨b0, n0, x0, t0⟩ := boxes w c E R O a l.length cap
  have X0 := Lib.hid x0
  have T0 := Lib.hid t0
  have B0 := Lib.hid b0
  have N0 := Lib.hid n0
  have HC := Lib.hid hc
  clear b0 n0 x0 t0
  cases hf : fitc c E R l
  · have BN := fun W (hW : PtsAt W a l) => begun_no c E R O a l cap W hc hW hf
    have HL := Lib.hid hl
    clear hl hp hc
    go_enter Tryz.func4, Tryz.ntmps4
    go_wp2_with (first
      | ((with_reducible show wpList _ _ _ (⟨some 20, _, _, _, _, _⟩ :: _) _ _); refine Cf.wpList_loadW rfl _ rfl w.heap.size c rfl X0.out HC.out ?_)
      | ((with_reducible show wpList _ _ _ (⟨some 21, _, _, _, _, _⟩ :: _) _ _); refine VB.loaded rfl _ rfl (w.heap.size + 1) rfl T0.out Tryz.underlying70 rfl sizeT ?_))
    refine (BN _ (HL.out.on B0.out)).mono ?_; rintro e w1 ⟨rfl, b1⟩
    have B1 := Lib.hid (grow B0.out b1)
    clear b1 BN
    go_wp2_with fail
    refine (HA _).mono ?_; rintro e w2 ⟨rfl, b2⟩
    go_wp2
    go_ret
    exact ⟨rfl, grow B1.out b2⟩
  · have BN := fun W (hW : PtsAt W a l) => begun_yes F c E R O a l cap W hc hW hf
    have hff := hf
    unfold fitc at hff
    rw [Bool.and_eq_true, Bool.and_eq_true, decide_eq_true_eq] at hff
    obtain ⟨⟨h12, hcov⟩, hfit⟩ := hff
    have HV := Lib.hid (cov_iff.1 hcov)
    have HPT := Lib.hid (fun (k : Nat) p (h : l[k]? = some p) => (show Pok p ∧ -2147483648 ≤ p.raw.n ∧ p.raw.n ≤ 2147483647 from ⟨hp p (List.mem_of_getElem? h), by
      unfold fitp at hfit
      have := List.all_eq_true.1 hfit p (List.mem_of_getElem? h)
      simpa using this⟩))
    have HL := Lib.hid hl
    have HR := Lib.hid (at0_in (cov_iff.1 hcov))
    obtain ⟨m, hm⟩ : ∃ m, m = l.length := ⟨_, rfl⟩
    rw [← hm] at X0 T0 B0 N0 BN h12 ⊢
    have HM := Lib.hid hm
    clear hl hp hc hf hcov hfit hm
    go_enter Tryz.func4, Tryz.ntmps4
    go_wp2_with (first
      | ((with_reducible show wpList _ _ _ (⟨some 20, _, _, _, _, _⟩ :: _) _ _); refine Cf.wpList_loadW rfl _ rfl w.heap.size c rfl X0.out HC.out ?_)
      | ((with_reducible show wpList _ _ _ (⟨some 21, _, _, _, _, _⟩ :: _) _ _); refine VB.loaded rfl _ rfl (w.heap.size + 1) rfl T0.out Tryz.underlying70 rfl sizeT ?_))
    refine (BN _ (HL.out.on B0.out)).mono ?_; rintro e w1 ⟨g, S, rfl, H1⟩
    have D1 := Lib.hid (show Bd F w w1 c E R O a m cap S g (begin c) (at0 c E) 0 from ⟨grow B0.out H1.below, H1.at_, fun j hj => Nat.le_trans N0.out (H1.new j hj), Nat.le_trans N0.out H1.below.size, inv_begin HV.out _ _, X0.out.on H1.below, VRow.below T0.out H1.below (T0.out.lt), by simp [begin]⟩)
    clear H1 BN X0 T0 B0 N0
    generalize begin c = s0 at *
    generalize at0 c E = a0 at *
    go_wp2_with fail
    go_loopg [6, 8] m (fun gg s6 s8 wr => ∃ (i : Nat) (at_ : Int) (s : Si) (S : Nat → Prop), i + gg = m ∧ s8 = .int .i64 i ∧ s6 = .int .i64 at_ ∧ Hid (G c 1 + E ≤ at_ ∧ at_ ≤ G c 2 - E) ∧ Hid (Bd F w wr c E R O a m cap S g s at_ i))
    case atStart => exact ⟨0, a0, s0, S, by omega, rfl, rfl, HR, D1⟩
    case round =>
      obtain ⟨i, at_, s, S, hi, rfl, rfl, HR2, D⟩ := hrel
      have HI := Lib.hid hi
      clear D1 HR hi
      have t0 := D.out.trc.cell 0 (v := .int .i64 E) rfl
      have t2 := D.out.trc.cell 2 (v := .int .i64 O) rfl
      have t3 := D.out.trc.cell 3 (v := .slice a m cap) rfl
      by_cases hlt : i < m
      · have hli : (i : Int) < m := by omega
        obtain ⟨b, off, rfl, hat⟩ := HL.out (by have := HM.out; omega)
        obtain ⟨p, hpi⟩ : ∃ p, l[i]? = some p := ⟨_, List.getElem?_eq_getElem (by have := HM.out; omega)⟩
        have HP := Lib.hid (HPT.out i p hpi)
        have P0 := Lib.hid ((hat i p hpi).on D.out.below)
        clear hat hpi hlt
        have HRN := Lib.hid (show -4294967296 ≤ at_ ∧ at_ ≤ 4294967296 by
          obtain ⟨-, r1, r2, -⟩ := HV.out.right
          have := HV.out.e0; have := HR2.out; omega)
        have CM := Lib.hid (fun W => moved_any c E R O (some ⟨b, off, none⟩) m cap at_ p W HC.out HV.out HP.out.1 HRN.out)
        go_upto_region 9 with fail
        have t3r := cell_regrown t3
        have cM := reg_call (w := wr) (fun W _ => CM.out W)
        have hT : ∀ W, (∃ p : Regrown, W = Sort.grow (redrawn wr p.d) p.os) → Box W w.heap.size c := by rintro W ⟨p, rfl⟩; exact D.out.cfg.on (below_regrown wr p.d p.os)
        have hX : ∀ W, (∃ p : Regrown, W = Sort.grow (redrawn wr p.d) p.os) → ∀ (j : Nat) v, (trv E R O (some ⟨b, off, none⟩) m cap)[j]? = some v → W.cell? ⟨w.heap.size + 1, 0 + j, none⟩ = some v := by
          rintro W ⟨p, rfl⟩ j v hv
          rw [Nat.zero_add]
          exact ((D.out.trc).below (below_regrown wr p.d p.os) D.out.trc.lt).cell j hv
        have hY : ∀ W, (∃ p : Regrown, W = Sort.grow (redrawn wr p.d) p.os) → ∀ (j : Nat) v, (ptv p)[j]? = some v → W.cell? ⟨b, off + i * 7 + j, none⟩ = some v := by
          rintro W ⟨q, rfl⟩
          exact P0.out.on (below_regrown wr q.d q.os)
        have HT := Lib.hid hT
        have HX := Lib.hid hX
        have HY := Lib.hid hY
        clear hT hX hY
        refine wp_region_quiet_below (by kernel_rfl) (by kernel_rfl) ?_
        repeat (first
          | (with_reducible show wpQuiet _ _ _ _ (⟨some 38, _, _, _, _, _⟩ :: _) _
             refine wpQuiet_loadK rfl _ rfl w.heap.size c rfl HT.out HC.out ?_
             simp only [Act.put, List.setIfInBounds_toArray, List.set_cons_succ, List.set_cons_zero])
          | (with_reducible show wpQuiet _ _ _ _ (⟨some 39, _, _, _, _, _⟩ :: _) _
             refine wpQuiet_loadR rfl _ rfl (w.heap.size + 1) 0 _ rfl HX.out aggT sizeT ?_
             simp only [Act.put, List.setIfInBounds_toArray, List.set_cons_succ, List.set_cons_zero])
          | (with_reducible show wpQuiet _ _ _ _ (⟨some 45, _, _, _, _, _⟩ :: _) _
             refine wpQuiet_loadR rfl _ rfl b (off + i * 7) _ rfl HY.out aggP sizeP ?_
             simp only [Act.put, List.setIfInBounds_toArray, List.set_cons_succ, List.set_cons_zero])
          | go_big_quiet_step (exact cM _ _))
        refine wpQuiet_nil ?_
        intro _ hw'
        obtain ⟨⟨dq, osq⟩, hw''⟩ := hw'
        subst hw''
        have HQ := Lib.hid (mvd_in (a := at_) HV.out p.mv)
        have HQN := Lib.hid (show -4294967296 ≤ mvd c E R at_ p.mv ∧ mvd c E R at_ p.mv ≤ 4294967296 by
          obtain ⟨-, r1, r2, -⟩ := HV.out.right
          have := HV.out.e0; have := HQ.out; omega)
        have YC := Lib.hid (told_cy (p := p) (O := O) (a := at_) HV.out HR2.out HP.out.2 p.mv)
        have D2 := Lib.hid (D.out.on (below_regrown wr dq osq))
        have P2 := Lib.hid (P0.out.on (below_regrown wr dq osq))
        clear D P0 HT HX HY CM cM t0 t2 t3 t3r HR2 HRN
        generalize mvd c E R at_ p.mv = at' at *
        have CT := Lib.hid (fun W => told_any c E R O (some ⟨b, off, none⟩) m cap at' p W HC.out HV.out HP.out.1 HQN.out)
        have HU := Lib.hid (fun (j : Nat) (h : j < NN c) (h2 : j ≠ od O) => told_hull (p := p) (a := at') HV.out h h2)
        have HLB := Lib.hid (llo_bd (p := p) (O := O) HV.out.e0 HV.out.e1 HQN.out (NN c))
        have HHB := Lib.hid (lhi_bd (p := p) (O := O) HV.out.e0 HV.out.e1 HQN.out (NN c))
        change Hid (∀ W, Calls _ _ _ W fun e w' => e = .returned (.tuple #[.agg (raw8 (told1 c E O at' p)).toArray, _, _]) ∧ _) at CT
        generalize told1 c E O at' p = rr at *
        generalize llo E O at' p (NN c) = lo at *
        generalize lhi E O at' p (NN c) = hi at *
        show Exit.then _ _ .normal _ (Sort.grow (redrawn wr dq) osq)
        generalize Sort.grow (redrawn wr dq) osq = W1 at *
        clear wr
        have t3 := D2.out.trc.cell 3 (v := .slice (some ⟨b, off, none⟩) m cap) rfl
        go_upto_region 10 with fail
        refine Lt.wp_region_box (aF := ?_) 17 14 151 9 57 42 (raw8 fun _ => rw0) (raw8 rr) [true, true, true, true, true, true, true, true, true, true, true, true, true, false, false, true, true] [false, false, false, false, false, false, false, false, false, false, false, false, false, true, false, false, false] (by kernel_rfl) (by kernel_rfl) (by kernel_rfl) rfl (by decide) rfl rfl ?_ sizeR rfl (raw_one rr) ?_ ?_ ?_
        case refine_3 =>
          intro W bW
          have t3r := cell_regrown (t3.trans rfl)
          have D3 := D2.out.on bW
          have P3 := P2.out.on bW
          have t3r := cell_regrown (D3.trc.cell 3 (v := .slice (some ⟨b, off, none⟩) m cap) rfl)
          have cM := reg_call (w := W) (fun W _ => CT.out W)
          have HT := Lib.hid (show ∀ W', (∃ p : Regrown, W' = Sort.grow (redrawn W p.d) p.os) → Box W' w.heap.size c by rintro W' ⟨p, rfl⟩; exact D3.cfg.on (below_regrown W p.d p.os))
          have HX := Lib.hid (show ∀ W', (∃ p : Regrown, W' = Sort.grow (redrawn W p.d) p.os) → ∀ (j : Nat) v, (trv E R O (some ⟨b, off, none⟩) m cap)[j]? = some v → W'.cell? ⟨w.heap.size + 1, 0 + j, none⟩ = some v by
            rintro W' ⟨p, rfl⟩ j v hv
            rw [Nat.zero_add]
            exact ((D3.trc).below (below_regrown W p.d p.os) D3.trc.lt).cell j hv)
          have HY := Lib.hid (show ∀ W', (∃ p : Regrown, W' = Sort.grow (redrawn W p.d) p.os) → ∀ (j : Nat) v, (ptv p)[j]? = some v → W'.cell? ⟨b, off + i * 7 + j, none⟩ = some v by
            rintro W' ⟨q, rfl⟩
            exact P3.on (below_regrown W q.d q.os))
          simp only [List.take_succ_cons, List.take_zero, Lt.sel]
          repeat (first
            | (with_reducible show wpQuiet _ _ _ _ (⟨some 48, _, _, _, _, _⟩ :: _) _
               refine wpQuiet_loadK rfl _ rfl w.heap.size c rfl HT.out HC.out ?_
               simp only [Act.put, List.setIfInBounds_toArray, List.set_cons_succ, List.set_cons_zero])
            | (with_reducible show wpQuiet _ _ _ _ (⟨some 49, _, _, _, _, _⟩ :: _) _
               refine wpQuiet_loadR rfl _ rfl (w.heap.size + 1) 0 _ rfl HX.out aggT sizeT ?_
               simp only [Act.put, List.setIfInBounds_toArray, List.set_cons_succ, List.set_cons_zero])
            | (with_reducible show wpQuiet _ _ _ _ (⟨some 55, _, _, _, _, _⟩ :: _) _
               refine wpQuiet_loadR rfl _ rfl b (off + i * 7) _ rfl HY.out aggP sizeP ?_
               simp only [Act.put, List.setIfInBounds_toArray, List.set_cons_succ, List.set_cons_zero])
            | go_big_quiet_step (exact cM _ _))
          exact rfl
        case refine_2 => exact allocR
        case refine_4 => exact rfl
        intro gx W KW
        have D3 := Lib.hid (D2.out.on KW.below)
        have K3 := Lib.hid KW
        simp only [List.drop_succ_cons, List.drop_zero, Act.put, List.setIfInBounds_toArray, List.set_cons_succ, List.set_cons_zero]
        clear KW CT D2 P2 t3
        have CS := Lib.hid (F.step_yes (r := rr) (sh := 0) D3.out.held HV.out.right D3.out.inv.ok ⟨YC.out.ok, by omega, by omega⟩ (by have := D3.out.votes; have := HI.out; omega))
        go_wp2_with ((with_reducible show wpList _ _ _ (⟨some 62, _, _, _, _, _⟩ :: _) _ _); refine VB.loaded rfl _ rfl gx rfl K3.out.row Tryz.underlying42 rfl sizeR ?_)
        refine (CS.out).mono ?_; rintro e w4 ⟨rfl, S', h4, q4, m4⟩
        have D4 := Lib.hid (Bd.step HV.out D3.out YC.out h4 q4 m4)
        have HVAL := Lib.hid (healthy_val HV.out YC.out D3.out.inv HU.out)
        have HANY := Lib.hid (healthy_any HV.out YC.out D3.out.inv)
        have HIN := Lib.hid (fun (j : Nat) (h : j < NN c) (h2 : j ≠ od O) => (healthy_in HV.out YC.out D3.out.inv h h2).1)
        have HCA := Lib.hid (fun (j : Nat) (h : j < NN c) (h2 : j ≠ od O) => healthy_calm HV.out YC.out D3.out.inv h h2)
        have V5 := Lib.hid (VRow.new w4 zres 37)
        clear CS h4 q4 m4 D3 K3
        go_upto_region 12 with ((with_reducible show wpList _ _ _ (⟨none, .store _ (.tmp 12) _, _, _, _, _⟩ :: _) _ _); refine VB.store rfl _ _ rfl w4.heap.size (res c s rr 0) rfl rfl V5.out sizeS rfl (res_one c s rr 0) ?_)
        have L5 := Bd.lay D4.out zres (res c s rr 0) 37
        have D5 := Lib.hid L5.1
        have R5 := Lib.hid L5.2.1
        clear L5 V5 D4
        unfold zres at D5 R5
        generalize (w4.alloc (.cells #[.int .i64 0, .int .i64 0, .int .i64 0, .int .i64 0, .bool false, .int .i64 0, .int .i64 0, .int .i64 0, .int .i64 0, .int .i64 0, .int .i64 0, .int .i64 0, .int .i64 0] 37)).setRow w4.heap.size (res c s rr 0).toArray = W5 at *
        generalize w4.heap.size = ga at *
        have v0 := R5.out.cell 0 (v := .int .i64 (val c s rr 0)) rfl
        have v4 : W5.cell? ⟨ga, 4, none⟩ = some (.bool false) := by
          have := R5.out.cell 4 (v := .bool (!any c s rr 0)) rfl
          rwa [HANY.out] at this
        have q10 := Cf.Box.at D5.out.cfg HC.out 10 (by omega)
        have q12 := Cf.Box.at D5.out.cfg HC.out 12 (by omega)
        have x1 := HVAL.out.1
        have x2 := HVAL.out.2
        have y10 : 0 ≤ G c 10 ∧ G c 10 ≤ 2147483647 := by obtain ⟨-, -, -, -, -, -, -, -, -, -, h, -⟩ := HV.out.right; exact h
        have y12 : 0 ≤ G c 12 ∧ G c 12 ≤ 2147483647 := by obtain ⟨-, -, -, -, -, -, -, -, -, -, -, -, h, -⟩ := HV.out.right; exact h
        have z1 := HLB.out
        have z2 := HHB.out
        clear HVAL HLB HHB HANY
        generalize val c s rr 0 = vv at v0 x1 x2
        generalize G c 10 = au at q10 x1 x2 y10
        generalize G c 12 = cl at q12 x1 x2 y12
        have p1 : IntKind.i64.wrap (lo - au) = lo - au := IntWalk.i64_in _ (by omega)
        have p2 : IntKind.i64.wrap (lo - au - cl) = lo - au - cl := IntWalk.i64_in _ (by omega)
        have p3 : IntKind.i64.wrap (hi + au) = hi + au := IntWalk.i64_in _ (by omega)
        have p4 : IntKind.i64.wrap (hi + au + cl) = hi + au + cl := IntWalk.i64_in _ (by omega)
        have d1 : decide (vv < lo - au - cl) = false := by simp; omega
        have d2 : decide (hi + au + cl < vv) = false := by simp; omega
        go_wp2_with fail
        clear d1 d2 p1 p2 p3 p4 q10 q12 v0 v4 x1 x2 y10 y12 z1 z2
        have HLM := Lib.hid (show lam c (nxt c s rr 0) = mk4 fun j => decide (j < NN c) && ((nxt c s rr 0).ch j).st.la from rfl)
        have HSI := Lib.hid (fun (j : Nat) (h : j < NN c) (h2 : j ≠ od O) => (D5.out.inv.ch j h h2).st)
        have q0 := Cf.Box.at D5.out.cfg HC.out 0 (by omega)
        have h34 := NN_34 HV.out.right
        have HNE := Lib.hid (NN_eq HV.out.right)
        rw [← HNE.out] at q0
        have HTR := Lib.hid (fun (j : Nat) (h : j < NN c) (h2 : j ≠ od O) => (show tri c s rr 0 j = 0 from (if_pos h).trans (HCA.out j h h2).1))
        have HBI := Lib.hid (fun (j : Nat) (h : j < NN c) (h2 : j ≠ od O) => (show ((inm c s rr 0).tdiv (2 ^ j)).tmod 2 = 1 by
          unfold inm
          rw [mk4_bit _ (by omega), if_pos (by rw [HIN.out j h h2]; simpa using h)]))
        have HBL := Lib.hid (fun (j : Nat) (h : j < NN c) (h2 : j ≠ od O) => (show ((lam c (nxt c s rr 0)).tdiv (2 ^ j)).tmod 2 = 0 by
          rw [HLM.out, mk4_bit _ (by omega), if_neg (by rw [HSI.out j h h2]; simp [Lc.zer])]))
        have HBD := Lib.hid (show (0 ≤ inm c s rr 0 ∧ inm c s rr 0 ≤ 15) ∧ 0 ≤ lam c (nxt c s rr 0) ∧ lam c (nxt c s rr 0) ≤ 15 from ⟨mk4_bd _, mk4_bd _⟩)
        have R6 := Lib.hid (show VRow W5 ga 37 [.int .i64 (val c s rr 0), .int .i64 (inm c s rr 0), .int .i64 (lam c (nxt c s rr 0)), .int .i64 (sus c s rr 0), .bool (!any c s rr 0),
  .int .i64 (tri c s rr 0 0), .int .i64 (tri c s rr 0 1), .int .i64 (tri c s rr 0 2), .int .i64 (tri c s rr 0 3), .int .i64 (evi c s rr 0 0), .int .i64 (evi c s rr 0 1), .int .i64 (evi c s rr 0 2), .int .i64 (evi c s rr 0 3)] from R5.out)
        clear HCA HIN HLM R5 HU YC
        generalize nxt c s rr 0 = s' at *
        generalize inm c s rr 0 = IN at *
        generalize lam c s' = LA at *
        generalize tri c s rr 0 = TR at *
        go_loopg [14, 15] (NN c) (fun g2 s14 s15 wx => ∃ k : Nat, k + g2 = NN c ∧ s15 = .int .i64 k ∧ s14 = .int .i64 (2 ^ k) ∧ Hid (Bd F w wx c E R O (some ⟨b, off, none⟩) m cap S' g s' at' (i + 1)) ∧ Hid (VRow wx ga 37 [.int .i64 (val c s rr 0), .int .i64 IN, .int .i64 LA, .int .i64 (sus c s rr 0), .bool (!any c s rr 0), .int .i64 (TR 0), .int .i64 (TR 1), .int .i64 (TR 2), .int .i64 (TR 3), .int .i64 (evi c s rr 0 0), .int .i64 (evi c s rr 0 1), .int .i64 (evi c s rr 0 2), .int .i64 (evi c s rr 0 3)]))
        case atStart => exact ⟨0, by omega, rfl, rfl, D5, R6⟩
        case round =>
          rename World => W6
          obtain ⟨k, hk, rfl, rfl, D7, R7⟩ := hrel
          have HK := Lib.hid hk
          clear D5 R6 hk q0
          have q0 := Cf.Box.at D7.out.cfg HC.out 0 (by omega)
          rw [← HNE.out] at q0
          have t2 := D7.out.trc.cell 2 (v := .int .i64 O) rfl
          by_cases hkn : k < NN c
          · have hkn' : (k : Int) < (NN c : Nat) := by omega
            have hk4 : (k : Int) < 4 := by omega
            have hk5 : k < 4 := by omega
            have hki : k ∈ [0, 1, 2, 3] := by simp; omega
            simp only [List.mem_cons, List.mem_nil_iff, or_false] at hki
            have HPW := Lib.hid (show (2 : Int) ^ k = 1 ∨ (2 : Int) ^ k = 2 ∨ (2 : Int) ^ k = 4 ∨ (2 : Int) ^ k = 8 by rcases hki with rfl | rfl | rfl | rfl <;> decide)
            have HB1 := Lib.hid (HBI.out k hkn)
            have HB2 := Lib.hid (HBL.out k hkn)
            have HPK := Lib.hid (show (2 : Int) * 2 ^ k = 2 ^ (k + 1) by rw [Int.pow_succ]; omega)
            have ct : ∀ W, VRow W ga 37 [.int .i64 (val c s rr 0), .int .i64 IN, .int .i64 LA, .int .i64 (sus c s rr 0), .bool (!any c s rr 0), .int .i64 (TR 0), .int .i64 (TR 1), .int .i64 (TR 2), .int .i64 (TR 3), .int .i64 (evi c s rr 0 0), .int .i64 (evi c s rr 0 1), .int .i64 (evi c s rr 0 2), .int .i64 (evi c s rr 0 3)] →
                W.cell? ⟨ga, 5 + k, none⟩ = some (.int .i64 (TR k)) ∧ W.cell? ⟨ga, 1, none⟩ = some (.int .i64 IN) ∧ W.cell? ⟨ga, 2, none⟩ = some (.int .i64 LA) := fun W h => ⟨by
              rcases hki with rfl | rfl | rfl | rfl
              · exact h.cell 5 rfl
              · exact h.cell 6 rfl
              · exact h.cell 7 rfl
              · exact h.cell 8 rfl, h.cell 1 rfl, h.cell 2 rfl⟩
            have CT := Lib.hid ct
            clear ct hki
            generalize (2 : Int) ^ k = P at *
            have CS := Lib.hid (F.state_yes k D7.out.held HV.out.right hkn)
            go_wp2_with fail
            refine (CS.out).mono ?_; rintro e w7 ⟨rfl, b7⟩
            have D8 := Lib.hid (D7.out.on b7)
            have R8 := Lib.hid (VRow.below R7.out b7 R7.out.lt)
            clear CS D7 R7 b7 t2 q0
            have HS := Lib.hid (fun h2 => HSI.out k hkn h2)
            have HTK := Lib.hid (fun h2 => HTR.out k hkn h2)
            generalize (s'.ch k).st = st at *
            have V8 := Lib.hid (VRow.new w7 (lav Lc.zer) 62)
            go_upto_region 19 with ((with_reducible show wpList _ _ _ (⟨none, .store _ (.tmp 16) _, _, _, _, _⟩ :: _) _ _); refine VB.store rfl _ _ rfl w7.heap.size (lav st) rfl rfl V8.out sizeL rfl (lav_one st) ?_)
            have L9 := Bd.lay D8.out (lav Lc.zer) (lav st) 62
            have D9 := Lib.hid L9.1
            have R9 := Lib.hid (VRow.below R8.out L9.2.2 R8.out.lt)
            have S9 := Lib.hid L9.2.1
            clear L9 V8 D8 R8
            rw [show lav Lc.zer = [.bool false, .bool false, .int .i64 0, .int .i64 0, .int .i64 0] from rfl] at D9 R9 S9
            generalize (w7.alloc (.cells #[.bool false, .bool false, .int .i64 0, .int .i64 0, .int .i64 0] 62)).setRow w7.heap.size (lav st).toArray = W9 at *
            generalize w7.heap.size = gs at *
            have t2 := D9.out.trc.cell 2 (v := .int .i64 O) rfl
            go_cut [18] from 109 to 140 (fun s18 wx => ∃ b : Bool, s18 = .bool b ∧ (k ≠ od O → b = false) ∧ wx = W9)
            case first =>
              obtain ⟨c5, c1, c2⟩ := CT.out W9 R9.out
              have s0 := S9.out.cell 0 (v := .bool st.la) rfl
              have s1 := S9.out.cell 1 (v := .bool st.ou) rfl
              have s2 := S9.out.cell 2 (v := .int .i64 st.st) rfl
              have s3 := S9.out.cell 3 (v := .int .i64 st.cl) rfl
              have s4 := S9.out.cell 4 (v := .int .i64 st.bk) rfl
              have z1 : (P == 0) = false := by have := HPW.out; simp; omega
              have z2 : ¬ (P = 0) := by have := HPW.out; omega
              obtain ⟨m1, m2, m3⟩ := quo_bd HBD.out.1 HPW.out
              obtain ⟨m4, m5, m6⟩ := quo_bd HBD.out.2 HPW.out
              have p1 : IntKind.i64.wrap (IN.tdiv P) = IN.tdiv P := IntWalk.i64_in _ (by omega)
              have p2 : IntKind.i64.wrap (LA.tdiv P) = LA.tdiv P := IntWalk.i64_in _ (by omega)
              have p3 : IntKind.i64.wrap ((IN.tdiv P).tmod 2) = (IN.tdiv P).tmod 2 := IntWalk.i64_in _ (by omega)
              have p4 : IntKind.i64.wrap ((LA.tdiv P).tmod 2) = (LA.tdiv P).tmod 2 := IntWalk.i64_in _ (by omega)
              obtain ⟨b2, hE⟩ := eqL_any st
              by_cases ho : k = od O
              · have HO := Lib.hid ho
                clear ho HS HTK HB1 HB2 m1 m2 m3 m4 m5 m6
                generalize TR k = tv at *
                by_cases h1 : tv = 0
                · subst h1
                  cases b2
                  · go_wp2_with fail
                    go_meet
                    exact ⟨_, rfl, fun h => absurd HO.out h, rfl⟩
                  · by_cases h2 : (IN.tdiv P).tmod 2 = 0
                    · have e1 : ((IN.tdiv P).tmod 2 == 0) = true := by simpa using h2
                      go_wp2_with fail
                      go_meet
                      exact ⟨_, rfl, fun h => absurd HO.out h, rfl⟩
                    · have e1 : ((IN.tdiv P).tmod 2 == 0) = false := by simpa using h2
                      go_wp2_with fail
                      go_meet
                      exact ⟨_, rfl, fun h => absurd HO.out h, rfl⟩
                · have e1 : (tv == 0) = false := by simpa using h1
                  have e2 : (tv != 0) = true := by simpa using h1
                  go_wp2_with fail
                  go_meet
                  exact ⟨_, rfl, fun h => absurd HO.out h, rfl⟩
              · have hb : b2 = true := by
                  have h1 := hE w
                  have h2 := eqL_zer w
                  rw [HS.out ho] at h1
                  have h3 := h1.symm.trans h2
                  injection h3
                subst hb
                rw [HTK.out ho] at c5
                have y1 := HB1.out ho
                have y2 := HB2.out ho
                rw [y1] at p3
                rw [y2] at p4
                clear ho HS HTK HB1 HB2 m1 m2 m3 m4 m5 m6
                go_wp2_with fail
                go_meet
                exact ⟨false, rfl, fun _ => rfl, rfl⟩
            case rest =>
              obtain ⟨bb, rfl, hbb, rfl⟩ := hcut
              have p1 : IntKind.i64.wrap (2 * P) = 2 * P := IntWalk.i64_in _ (by have := HPW.out; omega)
              have HBB := Lib.hid hbb
              clear hbb
              by_cases hO : (k : Int) = O
              · have dO : ((k : Int) == O) = true := by simpa using hO
                have dO2 : ((k : Int) != O) = false := by simpa using hO
                go_wp2_with fail
                go_roundg (gk - 1)
                case rel => exact ⟨k + 1, by have := HK.out; omega, by go_num, by rw [HPK.out], D9, R9⟩
                case measure => have := HK.out; omega
              · have dO : ((k : Int) == O) = false := by simpa using hO
                have dO2 : ((k : Int) != O) = true := by simpa using hO
                obtain rfl : bb = false := HBB.out fun h => hO ((od_iff hk5).2 h)
                go_wp2_with fail
                go_roundg (gk - 1)
                case rel => exact ⟨k + 1, by have := HK.out; omega, by go_num, by rw [HPK.out], D9, R9⟩
                case measure => have := HK.out; omega
          · obtain rfl : k = NN c := by have := HK.out; omega
            go_wp2_with fail
            go_roundg (m - i - 1)
            case rel => exact ⟨i + 1, at', s', S', by have := HI.out; omega, by go_num, rfl, HQ, D7⟩
            case measure => have := HI.out; omega
      · obtain rfl : i = m := by have := HI.out; omega
        go_wp2_with fail
        refine (HA _).mono ?_; rintro e w2 ⟨rfl, b2⟩
        go_wp2
        go_ret
        exact ⟨rfl, grow D.out.below b2⟩
end Sg.SignalBounded
end Go.Proofs.YtmlhmmfgdioclaaGreat

namespace Go.Proofs.YtmlhmmfgdioclaaGreat
set_option maxRecDepth 100000
open Go.ChangeShapes Go.WideShapes Go.ChangeAt Go.RowKit Go.Deep
namespace Sg
open Cf (G CA Box)
def ra : Nat → Rw := fun i => if i = 2 then ⟨true, 200⟩ else rw0
def rb : Nat → Rw := fun i => if i = 0 then ⟨true, 10⟩ else if i = 1 then ⟨true, 12⟩ else if i = 2 then ⟨true, 90⟩ else rw0
def s1 : Si := nxt smallc (begin smallc) ra 0
def s2 : Si := nxt smallc s1 rb 0
def s3 : Si := nxt smallc s2 rb 0
theorem small_right : Cf.Right smallc := by decide
theorem res_a : res smallc (begin smallc) ra 0 = [.int .i64 5, .int .i64 0, .int .i64 0, .int .i64 (-1), .bool true, .int .i64 1, .int .i64 1, .int .i64 34, .int .i64 0, .int .i64 0, .int .i64 0, .int .i64 0, .int .i64 0] := by kernel_rfl
theorem res_b : res smallc s1 rb 0 = [.int .i64 11, .int .i64 3, .int .i64 4, .int .i64 (-1), .bool false, .int .i64 0, .int .i64 0, .int .i64 52, .int .i64 0, .int .i64 0, .int .i64 0, .int .i64 1, .int .i64 0] := by kernel_rfl
theorem res_c : res smallc s2 rb 0 = [.int .i64 11, .int .i64 3, .int .i64 4, .int .i64 (-1), .bool false, .int .i64 0, .int .i64 0, .int .i64 48, .int .i64 0, .int .i64 0, .int .i64 0, .int .i64 0, .int .i64 0] := by kernel_rfl
theorem st_c : (s3.ch 2).st.la = true := by kernel_rfl
theorem off_c : (s3.ch 0).off = -1 := by kernel_rfl
theorem lam_c : lam smallc s3 = 4 := by kernel_rfl
theorem val_c : s3.val = 11 := by kernel_rfl
end Sg
end Go.Proofs.YtmlhmmfgdioclaaGreat

namespace Go.Proofs.YtmlhmmfgdioclaaGreat
set_option maxRecDepth 100000
open Go.ChangeShapes Go.WideShapes Go.ChangeAt Go.RowKit Go.Deep
namespace Sg
open Cf (G CA Box)

theorem Held.lay {F : Face} {w W : World} {S : Nat → Prop} {g : Nat} {c : List Int} {s : Si} (H : Held F w W S g c s) (cs cs' : List Value) (t : TypeId) : Held F w ((W.alloc (.cells cs.toArray t)).setRow W.heap.size cs'.toArray) S g c s ∧ VRow ((W.alloc (.cells cs.toArray t)).setRow W.heap.size cs'.toArray) W.heap.size t cs' ∧ Below W.heap.size W ((W.alloc (.cells cs.toArray t)).setRow W.heap.size cs'.toArray) := by
  have b : Below W.heap.size W ((W.alloc (.cells cs.toArray t)).setRow W.heap.size cs'.toArray) := Below.put ((Below.refl _ _).alloc (Nat.le_refl _) _) (Nat.le_refl _) _
  exact ⟨H.on b, VRow.put (VRow.new W cs t) cs', b⟩
theorem step_held (F : Face) {w W : World} {S : Nat → Prop} {g : Nat} {s : Si} (r : Nat → Rw) (H : Held F w W S g smallc s) (hr : Rok smallc r) (hv : s.votes.length < 1099511627776) :
    Calls Tryz.prog 10 #[.pointer (some ⟨g, 0, none⟩), .agg (raw8 r).toArray, .int .i64 0] W fun e w' => ∃ S', e = .returned (.tuple #[.agg (res smallc s r 0).toArray, .int .i64 0]) ∧ Held F w w' S' g smallc (nxt smallc s r 0) ∧ But S W w' ∧ ∀ j, j < W.heap.size → ¬ S j → ¬ S' j := by
  refine (F.step_yes r 0 H.at_ small_right H.ok ⟨hr, by omega, by omega⟩ hv).mono ?_
  rintro e w' ⟨rfl, S', h, b, n⟩
  exact ⟨S', rfl, H.step h b n (ok_nxt small_right hr H.ok), b, fun j hj hn q => (n j q).elim hn (fun h => by omega)⟩
theorem Held.not {F : Face} {w W : World} {S : Nat → Prop} {g : Nat} {c : List Int} {s : Si} (H : Held F w W S g c s) {j : Nat} (hj : W.heap.size ≤ j) : ¬ S j := fun q => by have := F.lt H.at_ j q; omega
theorem rok_a : Rok smallc ra := fun i hi hs => by
  unfold ra at *
  split <;> simp_all [rw0]
theorem rok_b : Rok smallc rb := fun i hi hs => by
  unfold rb at *
  split
  · simp
  · split
    · simp
    · split <;> simp_all [rw0]
/-- A row that the signal's steps leave alone. -/
structure Rest (W : World) (S : Nat → Prop) (g : Nat) (cs : List Value) : Prop where
  row : VRow W g 37 cs
  not : ¬ S g
theorem Rest.on {W W' : World} {S : Nat → Prop} {g : Nat} {cs : List Value} (h : Rest W S g cs) (b : Below W.heap.size W W') : Rest W' S g cs := ⟨h.row.below b h.row.lt, h.not⟩
theorem Rest.step {W W' : World} {S S' : Nat → Prop} {g : Nat} {cs : List Value} (h : Rest W S g cs) (b : But S W W') (n : ∀ j, j < W.heap.size → ¬ S j → ¬ S' j) : Rest W' S' g cs := ⟨h.row.but b h.not, n g h.row.lt h.not⟩
theorem Held.rest {F : Face} {w W : World} {S : Nat → Prop} {g : Nat} {c : List Int} {s : Si} (H : Held F w W S g c s) (cs : List Value) : Rest (W.alloc (.cells cs.toArray 37)) S W.heap.size cs := ⟨VRow.new W cs _, H.not (Nat.le_refl _)⟩
theorem eq4_0 (w : World) : (Op.equalIn 10000 22 (.agg #[.int .i64 1, .int .i64 1, .int .i64 34, .int .i64 0]) (.agg #[.int .i64 1, .int .i64 1, .int .i64 34, .int .i64 0])).run Tryz.prog w = .ok true w := by kernel_rfl
theorem eq4_1 (w : World) : (Op.equalIn 10000 22 (.agg #[.int .i64 0, .int .i64 0, .int .i64 52, .int .i64 0]) (.agg #[.int .i64 0, .int .i64 0, .int .i64 52, .int .i64 0])).run Tryz.prog w = .ok true w := by kernel_rfl
theorem eq4_2 (w : World) : (Op.equalIn 10000 22 (.agg #[.int .i64 0, .int .i64 0, .int .i64 1, .int .i64 0]) (.agg #[.int .i64 0, .int .i64 0, .int .i64 1, .int .i64 0])).run Tryz.prog w = .ok true w := by kernel_rfl
theorem eq4_3 (w : World) : (Op.equalIn 10000 22 (.agg #[.int .i64 0, .int .i64 0, .int .i64 48, .int .i64 0]) (.agg #[.int .i64 0, .int .i64 0, .int .i64 48, .int .i64 0])).run Tryz.prog w = .ok true w := by kernel_rfl
theorem lav_c : lav (s3.ch 2).st = [.bool true, .bool false, .int .i64 2, .int .i64 0, .int .i64 0] := by kernel_rfl
def rd : Nat → Rw := fun i => if i = 0 then ⟨true, 2147483648⟩ else rw0
theorem not_d : ¬ okr smallc rd 0 := fun h => by
  have := (h.1 0 (by decide) rfl).2
  simp [rd] at this
theorem not_e : ¬ okr smallc (fun _ => rw0) 16 := fun h => by
  have := h.2.2
  omega

set_option maxHeartbeats 6400000 in
theorem alive_any (F : Face) (w : World) : Calls Tryz.prog 6 #[] w fun e w' => e = .returned (.bool true) ∧ Below w.heap.size w w' := by
  have SM := small_any w
  have NY := fun W => F.new_yes smallc W rfl small_right
  have NN := fun W => F.new_no (List.replicate 21 0) W rfl (by decide)
  go_enter Tryz.func6, Tryz.ntmps6
  go_wp2_with fail
  refine SM.mono ?_; rintro e w1 ⟨rfl, b1⟩
  have B1 := Lib.hid b1
  clear b1 SM
  go_wp2_with fail
  refine (NY _).mono ?_; rintro e w2 ⟨⟨g, S, rfl, a2, n2⟩, b2⟩
  have H2 := Lib.hid (show Held F w w2 S g smallc (begin smallc) from ⟨grow B1.out b2, a2, fun j hj => Nat.le_trans B1.out.size (n2 j hj), ok_begin small_right⟩)
  clear a2 n2 b2 B1 NY
  go_wp2_with ((with_reducible show wpList _ _ _ (⟨some 26, _, _, _, _, _⟩ :: _) _ _); refine wpList_buildTo rfl _ _ rfl (CA (List.replicate 21 0)) (by kernel_rfl) ?_)
  refine (NN _).mono ?_; rintro e w3 ⟨rfl, b3⟩
  have H3 := Lib.hid (H2.out.on b3)
  clear b3 NN H2
  go_wp2_with fail
  have C4 := step_held F ra H3.out rok_a (by decide)
  rw [res_a, show nxt smallc (begin smallc) ra 0 = s1 from rfl] at C4
  refine C4.mono ?_; rintro e w4 ⟨S4, rfl, h4, q4, n4⟩
  have V4 := Lib.hid (VRow.new w4 [.int .i64 0, .int .i64 0, .int .i64 0, .int .i64 0, .bool false, .int .i64 0, .int .i64 0, .int .i64 0, .int .i64 0, .int .i64 0, .int .i64 0, .int .i64 0, .int .i64 0] 37)
  have H4 := Lib.hid (h4.alloc (.cells #[.int .i64 5, .int .i64 0, .int .i64 0, .int .i64 (-1), .bool true, .int .i64 1, .int .i64 1, .int .i64 34, .int .i64 0, .int .i64 0, .int .i64 0, .int .i64 0, .int .i64 0] 37))
  have Ra := Lib.hid (h4.rest [.int .i64 5, .int .i64 0, .int .i64 0, .int .i64 (-1), .bool true, .int .i64 1, .int .i64 1, .int .i64 34, .int .i64 0, .int .i64 0, .int .i64 0, .int .i64 0, .int .i64 0])
  clear C4 h4 q4 n4 H3
  go_upto_region 6 with ((with_reducible show wpList _ _ _ (⟨none, .store _ (.tmp 5) _, _, _, _, _⟩ :: _) _ _); refine VB.store rfl _ _ rfl w4.heap.size [.int .i64 5, .int .i64 0, .int .i64 0, .int .i64 (-1), .bool true, .int .i64 1, .int .i64 1, .int .i64 34, .int .i64 0, .int .i64 0, .int .i64 0, .int .i64 0, .int .i64 0] rfl rfl V4.out sizeS rfl rfl ?_)
  clear V4
  generalize w4.alloc (.cells #[.int .i64 5, .int .i64 0, .int .i64 0, .int .i64 (-1), .bool true, .int .i64 1, .int .i64 1, .int .i64 34, .int .i64 0, .int .i64 0, .int .i64 0, .int .i64 0, .int .i64 0] 37) = W4 at *
  generalize w4.heap.size = g4 at *
  go_wp2_with fail
  have C5 := step_held F rb H4.out rok_b (by decide)
  rw [res_b, show nxt smallc (s1) rb 0 = s2 from rfl] at C5
  refine C5.mono ?_; rintro e w5 ⟨S5, rfl, h5, q5, n5⟩
  replace Ra := Lib.hid (Ra.out.step q5 n5)
  have V5 := Lib.hid (VRow.new w5 [.int .i64 0, .int .i64 0, .int .i64 0, .int .i64 0, .bool false, .int .i64 0, .int .i64 0, .int .i64 0, .int .i64 0, .int .i64 0, .int .i64 0, .int .i64 0, .int .i64 0] 37)
  have H5 := Lib.hid (h5.alloc (.cells #[.int .i64 11, .int .i64 3, .int .i64 4, .int .i64 (-1), .bool false, .int .i64 0, .int .i64 0, .int .i64 52, .int .i64 0, .int .i64 0, .int .i64 0, .int .i64 1, .int .i64 0] 37))
  have Rb := Lib.hid (h5.rest [.int .i64 11, .int .i64 3, .int .i64 4, .int .i64 (-1), .bool false, .int .i64 0, .int .i64 0, .int .i64 52, .int .i64 0, .int .i64 0, .int .i64 0, .int .i64 1, .int .i64 0])
  replace Ra := Lib.hid (Ra.out.on ((Below.refl w5.heap.size w5).alloc (Nat.le_refl _) (.cells #[.int .i64 11, .int .i64 3, .int .i64 4, .int .i64 (-1), .bool false, .int .i64 0, .int .i64 0, .int .i64 52, .int .i64 0, .int .i64 0, .int .i64 0, .int .i64 1, .int .i64 0] 37)))
  clear C5 h5 q5 n5 H4
  go_upto_region 7 with ((with_reducible show wpList _ _ _ (⟨none, .store _ (.tmp 7) _, _, _, _, _⟩ :: _) _ _); refine VB.store rfl _ _ rfl w5.heap.size [.int .i64 11, .int .i64 3, .int .i64 4, .int .i64 (-1), .bool false, .int .i64 0, .int .i64 0, .int .i64 52, .int .i64 0, .int .i64 0, .int .i64 0, .int .i64 1, .int .i64 0] rfl rfl V5.out sizeS rfl rfl ?_)
  clear V5
  generalize w5.alloc (.cells #[.int .i64 11, .int .i64 3, .int .i64 4, .int .i64 (-1), .bool false, .int .i64 0, .int .i64 0, .int .i64 52, .int .i64 0, .int .i64 0, .int .i64 0, .int .i64 1, .int .i64 0] 37) = W5 at *
  generalize w5.heap.size = g5 at *
  go_wp2_with fail
  have C6 := step_held F rb H5.out rok_b (by decide)
  rw [res_c, show nxt smallc (s2) rb 0 = s3 from rfl] at C6
  refine C6.mono ?_; rintro e w6 ⟨S6, rfl, h6, q6, n6⟩
  replace Ra := Lib.hid (Ra.out.step q6 n6)
  replace Rb := Lib.hid (Rb.out.step q6 n6)
  have V6 := Lib.hid (VRow.new w6 [.int .i64 0, .int .i64 0, .int .i64 0, .int .i64 0, .bool false, .int .i64 0, .int .i64 0, .int .i64 0, .int .i64 0, .int .i64 0, .int .i64 0, .int .i64 0, .int .i64 0] 37)
  have H6 := Lib.hid (h6.alloc (.cells #[.int .i64 11, .int .i64 3, .int .i64 4, .int .i64 (-1), .bool false, .int .i64 0, .int .i64 0, .int .i64 48, .int .i64 0, .int .i64 0, .int .i64 0, .int .i64 0, .int .i64 0] 37))
  have Rc := Lib.hid (h6.rest [.int .i64 11, .int .i64 3, .int .i64 4, .int .i64 (-1), .bool false, .int .i64 0, .int .i64 0, .int .i64 48, .int .i64 0, .int .i64 0, .int .i64 0, .int .i64 0, .int .i64 0])
  replace Ra := Lib.hid (Ra.out.on ((Below.refl w6.heap.size w6).alloc (Nat.le_refl _) (.cells #[.int .i64 11, .int .i64 3, .int .i64 4, .int .i64 (-1), .bool false, .int .i64 0, .int .i64 0, .int .i64 48, .int .i64 0, .int .i64 0, .int .i64 0, .int .i64 0, .int .i64 0] 37)))
  replace Rb := Lib.hid (Rb.out.on ((Below.refl w6.heap.size w6).alloc (Nat.le_refl _) (.cells #[.int .i64 11, .int .i64 3, .int .i64 4, .int .i64 (-1), .bool false, .int .i64 0, .int .i64 0, .int .i64 48, .int .i64 0, .int .i64 0, .int .i64 0, .int .i64 0, .int .i64 0] 37)))
  clear C6 h6 q6 n6 H5
  go_upto_region 8 with ((with_reducible show wpList _ _ _ (⟨none, .store _ (.tmp 9) _, _, _, _, _⟩ :: _) _ _); refine VB.store rfl _ _ rfl w6.heap.size [.int .i64 11, .int .i64 3, .int .i64 4, .int .i64 (-1), .bool false, .int .i64 0, .int .i64 0, .int .i64 48, .int .i64 0, .int .i64 0, .int .i64 0, .int .i64 0, .int .i64 0] rfl rfl V6.out sizeS rfl rfl ?_)
  clear V6
  generalize w6.alloc (.cells #[.int .i64 11, .int .i64 3, .int .i64 4, .int .i64 (-1), .bool false, .int .i64 0, .int .i64 0, .int .i64 48, .int .i64 0, .int .i64 0, .int .i64 0, .int .i64 0, .int .i64 0] 37) = W6 at *
  generalize w6.heap.size = g6 at *
  go_wp2_with fail
  have C7 := F.step_no rd 0 H6.out.at_ small_right H6.out.ok not_d
  unfold zres at C7
  refine C7.mono ?_; rintro e w7 ⟨rfl, b7⟩
  have b7' := b7.alloc b7.size (.cells #[.int .i64 0, .int .i64 0, .int .i64 0, .int .i64 0, .bool false, .int .i64 0, .int .i64 0, .int .i64 0, .int .i64 0, .int .i64 0, .int .i64 0, .int .i64 0, .int .i64 0] 37)
  have V7 := Lib.hid (VRow.new w7 [.int .i64 0, .int .i64 0, .int .i64 0, .int .i64 0, .bool false, .int .i64 0, .int .i64 0, .int .i64 0, .int .i64 0, .int .i64 0, .int .i64 0, .int .i64 0, .int .i64 0] 37)
  have H7 := Lib.hid (H6.out.on b7')
  replace Ra := Lib.hid (Ra.out.on b7')
  replace Rb := Lib.hid (Rb.out.on b7')
  replace Rc := Lib.hid (Rc.out.on b7')
  clear C7 b7 b7' H6
  go_upto_region 9 with ((with_reducible show wpList _ _ _ (⟨none, .store _ (.tmp 11) _, _, _, _, _⟩ :: _) _ _); refine VB.store rfl _ _ rfl w7.heap.size [.int .i64 0, .int .i64 0, .int .i64 0, .int .i64 0, .bool false, .int .i64 0, .int .i64 0, .int .i64 0, .int .i64 0, .int .i64 0, .int .i64 0, .int .i64 0, .int .i64 0] rfl rfl V7.out sizeS rfl rfl ?_)
  clear V7
  generalize w7.alloc (.cells #[.int .i64 0, .int .i64 0, .int .i64 0, .int .i64 0, .bool false, .int .i64 0, .int .i64 0, .int .i64 0, .int .i64 0, .int .i64 0, .int .i64 0, .int .i64 0, .int .i64 0] 37) = W7 at *
  generalize w7.heap.size = g7 at *
  go_wp2_with fail
  have C8 := F.step_no (fun _ => rw0) 16 H7.out.at_ small_right H7.out.ok not_e
  unfold zres at C8
  refine C8.mono ?_; rintro e w8 ⟨rfl, b8⟩
  have b8' := b8.alloc b8.size (.cells #[.int .i64 0, .int .i64 0, .int .i64 0, .int .i64 0, .bool false, .int .i64 0, .int .i64 0, .int .i64 0, .int .i64 0, .int .i64 0, .int .i64 0, .int .i64 0, .int .i64 0] 37)
  have V8 := Lib.hid (VRow.new w8 [.int .i64 0, .int .i64 0, .int .i64 0, .int .i64 0, .bool false, .int .i64 0, .int .i64 0, .int .i64 0, .int .i64 0, .int .i64 0, .int .i64 0, .int .i64 0, .int .i64 0] 37)
  have H8 := Lib.hid (H7.out.on b8')
  replace Ra := Lib.hid (Ra.out.on b8')
  replace Rb := Lib.hid (Rb.out.on b8')
  replace Rc := Lib.hid (Rc.out.on b8')
  clear C8 b8 b8' H7
  go_upto_region 10 with ((with_reducible show wpList _ _ _ (⟨none, .store _ (.tmp 13) _, _, _, _, _⟩ :: _) _ _); refine VB.store rfl _ _ rfl w8.heap.size [.int .i64 0, .int .i64 0, .int .i64 0, .int .i64 0, .bool false, .int .i64 0, .int .i64 0, .int .i64 0, .int .i64 0, .int .i64 0, .int .i64 0, .int .i64 0, .int .i64 0] rfl rfl V8.out sizeS rfl rfl ?_)
  clear V8
  generalize w8.alloc (.cells #[.int .i64 0, .int .i64 0, .int .i64 0, .int .i64 0, .bool false, .int .i64 0, .int .i64 0, .int .i64 0, .int .i64 0, .int .i64 0, .int .i64 0, .int .i64 0, .int .i64 0] 37) = W8 at *
  generalize w8.heap.size = g8 at *
  go_wp2_with fail
  have C9 := F.state_yes 2 H8.out.at_ small_right (by decide)
  rw [lav_c] at C9
  refine C9.mono ?_; rintro e w9 ⟨rfl, b9⟩
  have b9' := b9.alloc b9.size (.cells #[.bool true, .bool false, .int .i64 2, .int .i64 0, .int .i64 0] 62)
  have V9 := Lib.hid (VRow.new w9 [.bool false, .bool false, .int .i64 0, .int .i64 0, .int .i64 0] 62)
  have X9 := Lib.hid (VRow.new w9 [.bool true, .bool false, .int .i64 2, .int .i64 0, .int .i64 0] 62)
  have H9 := Lib.hid (H8.out.on b9')
  replace Ra := Lib.hid (Ra.out.on b9')
  replace Rb := Lib.hid (Rb.out.on b9')
  replace Rc := Lib.hid (Rc.out.on b9')
  clear C9 b9 b9' H8
  go_upto_region 11 with ((with_reducible show wpList _ _ _ (⟨none, .store _ (.tmp 15) _, _, _, _, _⟩ :: _) _ _); refine VB.store rfl _ _ rfl w9.heap.size [.bool true, .bool false, .int .i64 2, .int .i64 0, .int .i64 0] rfl rfl V9.out sizeL rfl rfl ?_)
  clear V9
  generalize w9.alloc (.cells #[.bool true, .bool false, .int .i64 2, .int .i64 0, .int .i64 0] 62) = W9 at *
  generalize w9.heap.size = g9 at *
  have a0 := Ra.out.row.cell 0 rfl
  have a1 := Ra.out.row.cell 1 rfl
  have a2 := Ra.out.row.cell 2 rfl
  have a3 := Ra.out.row.cell 3 rfl
  have a4 := Ra.out.row.cell 4 rfl
  have a5 := Ra.out.row.cell 5 rfl
  have a6 := Ra.out.row.cell 6 rfl
  have a7 := Ra.out.row.cell 7 rfl
  have a8 := Ra.out.row.cell 8 rfl
  have a9 := Ra.out.row.cell 9 rfl
  have a10 := Ra.out.row.cell 10 rfl
  have a11 := Ra.out.row.cell 11 rfl
  have a12 := Ra.out.row.cell 12 rfl
  have b0 := Rb.out.row.cell 0 rfl
  have b1 := Rb.out.row.cell 1 rfl
  have b2 := Rb.out.row.cell 2 rfl
  have b3 := Rb.out.row.cell 3 rfl
  have b4 := Rb.out.row.cell 4 rfl
  have b5 := Rb.out.row.cell 5 rfl
  have b6 := Rb.out.row.cell 6 rfl
  have b7 := Rb.out.row.cell 7 rfl
  have b8 := Rb.out.row.cell 8 rfl
  have b9 := Rb.out.row.cell 9 rfl
  have b10 := Rb.out.row.cell 10 rfl
  have b11 := Rb.out.row.cell 11 rfl
  have b12 := Rb.out.row.cell 12 rfl
  have c0 := Rc.out.row.cell 0 rfl
  have c1 := Rc.out.row.cell 1 rfl
  have c2 := Rc.out.row.cell 2 rfl
  have c3 := Rc.out.row.cell 3 rfl
  have c4 := Rc.out.row.cell 4 rfl
  have c5 := Rc.out.row.cell 5 rfl
  have c6 := Rc.out.row.cell 6 rfl
  have c7 := Rc.out.row.cell 7 rfl
  have c8 := Rc.out.row.cell 8 rfl
  have c9 := Rc.out.row.cell 9 rfl
  have c10 := Rc.out.row.cell 10 rfl
  have c11 := Rc.out.row.cell 11 rfl
  have c12 := Rc.out.row.cell 12 rfl
  have x0 := X9.out.cell 0 rfl
  have E0 := fun W => eq4_0 W
  have E1 := fun W => eq4_1 W
  have E2 := fun W => eq4_2 W
  have E3 := fun W => eq4_3 W
  go_wp2_with fail
  have C10 := F.latched H9.out.at_ small_right
  rw [lam_c] at C10
  refine C10.mono ?_; rintro e w10 ⟨rfl, b10⟩
  have H10 := Lib.hid (H9.out.on b10)
  clear C10 b10 H9
  go_wp2_with fail
  have C11 := F.value H10.out.at_
  rw [val_c] at C11
  refine C11.mono ?_; rintro e w11 ⟨rfl, b11⟩
  have H11 := Lib.hid (H10.out.on b11)
  clear C11 b11 H10
  go_wp2_with fail
  have C12 := F.offset_yes 0 H11.out.at_ small_right (by decide)
  rw [off_c] at C12
  refine C12.mono ?_; rintro e w12 ⟨rfl, b12⟩
  have H12 := Lib.hid (H11.out.on b12)
  clear C12 b12 H11
  go_wp2_with fail
  have C13 := F.offset_no 3 H12.out.at_ small_right (Or.inr (by decide))
  refine C13.mono ?_; rintro e w13 ⟨rfl, b13⟩
  have H13 := Lib.hid (H12.out.on b13)
  clear C13 b13 H12
  go_wp2_with fail
  go_ret
  exact ⟨rfl, H13.out.below⟩
end Sg
end Go.Proofs.YtmlhmmfgdioclaaGreat
