/-
  JudgeTurn, walked: for every scene, outputs, and place it returns true, and writes nothing that was there. Its conditions: how the scene, and the outputs lie.
-/
import Derived.Test.YtchnnpaebggfdaaJJudgeWord2
import Derived.Test.YtchnnpaebggfdaaJudgeTellsWalk
import Derived.Test.YtchnnpaebggfdaaJTail3
import Derived.Lib.MinMax
import Derived.Deep.AppendLies
import Derived.Deep.DeepCutAuto
namespace Go.Proofs.Ytchnnpaebggfdaa
set_option maxRecDepth 100000
open Go.ChangeShapes Go.WideShapes Go.ChangeAt Go.RowKit Go.Deep
namespace Jd
open Cf (G CA)
open Sc (Sn Pt Ok PsAt PtOk pt scv ptv Lens At Bd loadS NN far fault RAt RBd has)
open Ot (Ou ouc)
theorem oInfo : (Try.prog.info? 57).map (fun i => (i.zero, i.size, i.bytes)) = some (some (.agg (ouc Ot.zou).toArray), 41, 328) := by kernel_rfl
theorem near_append {ops rest : List Oper} {o : Oper} {A : Act} {Q : Exit → Act → World → Prop} {w W : World} {ob off m lcap : Nat} {ls : List Ou} (hgd : o.guard = none) (x y : Operand)
    (ho : o.op = .call { callee := .builtin .append, args := #[x, y], argTypes := #[28, 28] }) (hs : A.eval x = .slice (some ⟨W.heap.size, 0, none⟩) 0 0) (hx : A.eval y = .slice (some ⟨ob, off, none⟩) m lcap)
    (HS : ∀ (i : Nat) o, ls[i]? = some o → Ot.Ok o ∧ w.rangeAt ob (off + i * 41) (ouc o)) (B : Below w.heap.size w W) (hm : ls.length = m) (h0 : 0 < m) (hb : m ≤ 10000)
    (h : ∀ g cap w5, w5.ownsRow W.heap.size 57 41 (.slice (some ⟨g, 0, none⟩) m cap) m (ls.flatMap ouc) → Below W.heap.size W w5 → W.heap.size ≤ g → wpList Try.prog ops.toArray Q rest (A.put o.dst (.slice (some ⟨g, 0, none⟩) m cap)) w5) :
    wpList Try.prog ops.toArray Q (o :: rest) A (W.alloc (.cells #[] 57)) := by
  obtain ⟨i0, hi0, hz0, hz1, hz2⟩ := info_parts oInfo
  have HK : ∀ (j : Nat) o, ls[j]? = some o → Ot.Ok o := fun j o hj => (HS j o hj).1
  have own := World.ownsRow_lit (base := W.heap.size) (e := 57) (size := 41) W #[] 0 (Nat.le_refl _) (by unfold maxLen; omega) rfl
  refine wpList_append_lies _ hgd x y 28 ho W.heap.size 57 i0 _ 41 328 Try.underlying28 hi0 hz0 hz1 hz2 (by decide) (by decide) _ 0 [] hs own ⟨ob, off, none⟩ m lcap (ls.flatMap ouc) hx (by rw [flat_len HK, hm, Nat.mul_comm])
    (fun j u hj => by rw [add_plain]; have c := range_all HS B j u hj; rw [add_plain] at c; exact ((Sc.below_new W #[] 57).cell (p := ⟨ob, off + j, none⟩) (cell_lt c)).trans c) (flat_one ls) h0 (by unfold maxLen; omega) (by omega) (by simp) _ rfl ?_
  intro g cap w5 h1 h2 h3 _
  rw [Nat.zero_add, List.nil_append] at h1
  rw [Nat.zero_add]
  exact h g cap w5 h1 ((Sc.below_new W #[] 57).grown h2 (by simp) (fun j hj => (World.ownsRow.lt own j hj).1)) ((World.ownsRow.lt h1 g rfl).1)
theorem lfit_at {ls : List Ou} (h : lfit ls = true) {i n : Nat} (hi : i < ls.length) (hn : n < 8) : -1099511627776 ≤ (ou ls i).v.getD n 0 ∧ (ou ls i).v.getD n 0 ≤ 1099511627776 := by
  unfold lfit at h
  rw [Bool.and_eq_true] at h
  have := Sc.all_range.1 (Sc.all_range.1 h.2 i hi) n hn
  unfold lf1 at this
  rw [Bool.and_eq_true, decide_eq_true_eq, decide_eq_true_eq] at this
  exact this
section
variable (s : Sn) (a : Option Addr) (cap : Nat) (al : Option Addr) (lcap : Nat) (ls : List Ou) (i n : Int) (w : World) (L : Lens s) (hp : PsAt w a s.ps) (ho : OutsAt w al ls)
include L hp ho
theorem all_any (hcap : s.ps.length ≤ cap) (W : World) (b : Below w.heap.size w W) : Calls Try.prog 9 #[.agg (scv s a cap).toArray, .slice al ls.length lcap] W
    fun e w' => ∃ a' k cap', e = .returned (.tuple #[.slice a' k cap', .int .i64 (if fitb s ls.length = true then 0 else 1)]) ∧ Below W.heap.size W w' := by
  cases h : fitb s ls.length
  · exact (all_no s a cap al lcap W L (hp.below b) ls.length h).mono fun e w' q => ⟨none, 0, 0, by rw [q.1, if_neg (by decide)], q.2⟩
  · refine (all_yes s a cap al lcap ls W L (hp.below b) (ho.below b) hcap h).mono ?_
    rintro e w' ⟨a', cap', rfl, -, q⟩
    exact ⟨a', _, cap', by rw [if_pos rfl], q⟩
set_option maxHeartbeats 3200000 in
theorem turn_no (hcap : s.ps.length ≤ cap) (h : (Sc.fits s && lfit ls && fitb s ls.length) = false) :
    Calls Try.prog 4 #[.agg (scv s a cap).toArray, .slice al ls.length lcap, .agg #[.int .i64 i, .int .i64 n]] w fun e w' => e = .returned (.bool true) ∧ Below w.heap.size w w' := by
  have X0 := Lib.hid (jt_new (cap := cap) L hp i n)
  have CF := Lib.hid (fun W (D : At W w.heap.size s a cap) => Sc.fits_any s a cap W D.len D.ps)
  have CL := Lib.hid (fun W (b : Below w.heap.size w W) => lfits_any al lcap ls W (ho.below b))
  have CA := Lib.hid (all_any s a cap al lcap ls w L hp ho hcap)
  have HH := Lib.hid h
  clear L hp ho h
  generalize Sc.fits s = b1 at *
  generalize lfit ls = b2 at *
  generalize fitb s ls.length = b3 at *
  obtain ⟨ev, hev⟩ : ∃ ev : Int, ev = if b3 = true then 0 else 1 := ⟨_, rfl⟩
  rw [← hev] at CA
  have HE := Lib.hid hev
  clear hev
  go_enter Try.func4, Try.ntmps4
  go_upto_region 1 with fail
  generalize (w.alloc (.cells (scv s a cap).toArray 27)).alloc (.cells #[.int .i64 i, .int .i64 n] 30) = w0 at *
  generalize hg : w.heap.size = g at *
  go_wp2_with ((with_reducible show wpList _ _ _ (⟨some 18, _, _, _, _, _⟩ :: _) _ _); refine loadS rfl _ rfl g rfl X0.out.bd.at_ ?_)
  refine (CF.out _ X0.out.bd.at_).mono ?_; rintro e w1 ⟨rfl, b1'⟩
  have X1 := Lib.hid (X0.out.on b1')
  clear b1' X0 CF
  go_wp2_with fail
  refine (CL.out _ (by rw [← hg]; exact X1.out.bd.below)).mono ?_; rintro e w2 ⟨rfl, b2'⟩
  have X2 := Lib.hid (X1.out.on b2')
  clear b2' X1 CL
  go_wp2_with ((with_reducible show wpList _ _ _ (⟨some 23, _, _, _, _, _⟩ :: _) _ _); refine loadS rfl _ rfl g rfl X2.out.bd.at_ ?_)
  refine (CA.out _ (by rw [← hg]; exact X2.out.bd.below)).mono ?_; rintro e w3 ⟨a', k, cap', rfl, b3'⟩
  have X3 := Lib.hid (X2.out.on b3')
  clear b3' X2 CA
  cases b1
  · go_wp2_with fail
    refine (alive_any _).mono ?_; rintro e w4 ⟨rfl, b4'⟩
    have X4 := Lib.hid (X3.out.on b4')
    clear b4' X3
    go_wp2_with fail
    go_ret
    exact ⟨rfl, hg ▸ X4.out.bd.below⟩
  · cases b2
    · go_wp2_with fail
      refine (alive_any _).mono ?_; rintro e w4 ⟨rfl, b4'⟩
      have X4 := Lib.hid (X3.out.on b4')
      clear b4' X3
      go_wp2_with fail
      go_ret
      exact ⟨rfl, hg ▸ X4.out.bd.below⟩
    · have HB : b3 = false := by have := HH.out; simpa using this
      subst HB
      obtain rfl : ev = 1 := HE.out
      go_wp2_with fail
      refine (alive_any _).mono ?_; rintro e w4 ⟨rfl, b4'⟩
      have X4 := Lib.hid (X3.out.on b4')
      clear b4' X3
      go_wp2_with fail
      go_ret
      exact ⟨rfl, hg ▸ X4.out.bd.below⟩
set_option maxRecDepth 100000 in
set_option maxHeartbeats 6400000 in
theorem turn_yes (hcap : s.ps.length ≤ cap) (hf : Sc.fits s = true) (hl : lfit ls = true) (h : fitb s ls.length = true) :
    Calls Try.prog 4 #[.agg (scv s a cap).toArray, .slice al ls.length lcap, .agg #[.int .i64 i, .int .i64 n]] w fun e w' => e = .returned (.bool true) ∧ Below w.heap.size w w' := by
  have X0 := Lib.hid (jt_new (cap := cap) L hp i n)
  have CF := Lib.hid (fun W (D : At W w.heap.size s a cap) => Sc.fits_any s a cap W D.len D.ps)
  have CL := Lib.hid (fun W (b : Below w.heap.size w W) => lfits_any al lcap ls W (ho.below b))
  rw [hf] at CF
  rw [hl] at CL
  obtain ⟨H, hlen⟩ := fitb_iff.1 h
  have CG := Lib.hid (fun W (b : Below w.heap.size w W) => good_any s a cap al lcap ls W L (hp.below b) (ho.below b) hcap)
  have HGD := Lib.hid (show good s ls = (bads s ls (8 * ls.length)).isEmpty by unfold good; rw [h]; rfl)
  have CA := Lib.hid (fun W (D : At W w.heap.size s a cap) (b : Below w.heap.size w W) => all_yes s a cap al lcap ls W D.len D.ps (ho.below b) hcap h)
  have HPL := Lib.hid (show (bads s ls (8 * ls.length)).length ≤ 100000 by have := bads_len (s := s) (l := ls) (m := 8 * ls.length); have := H.few; omega)
  have HO := Lib.hid ho
  have HSO := Lib.hid (bads_sorted s ls (8 * ls.length))
  have HY := Lib.hid (show ls.length = s.ps.length ∧ ls.length ≤ 10000 from ⟨hlen, by have := H.few; omega⟩)
  obtain ⟨ps, hps⟩ : ∃ ps, ps = bads s ls (8 * ls.length) := ⟨_, rfl⟩
  rw [← hps] at CA HGD HPL HSO
  have HP := Lib.hid hps
  have HX := Lib.hid (And.intro L (And.intro hp (And.intro hcap (And.intro H h))))
  have HFL := Lib.hid hl
  clear L hp ho hcap hf hl h H hlen hps
  generalize good s ls = gd at *
  obtain ⟨m, hm⟩ : ∃ m, m = ls.length := ⟨_, rfl⟩
  have HM := Lib.hid hm
  rw [← hm] at CL CG CA ⊢
  clear hm
  have HF0 := Lib.hid (show wa s ls = wa s ls from rfl)
  generalize hf0 : wa s ls = f at CA
  clear hf0 HF0
  go_enter Try.func4, Try.ntmps4
  go_upto_region 1 with fail
  generalize (w.alloc (.cells (scv s a cap).toArray 27)).alloc (.cells #[.int .i64 i, .int .i64 n] 30) = w0 at *
  generalize hg : w.heap.size = g at *
  go_wp2_with ((with_reducible show wpList _ _ _ (⟨some 18, _, _, _, _, _⟩ :: _) _ _); refine loadS rfl _ rfl g rfl X0.out.bd.at_ ?_)
  refine (CF.out _ X0.out.bd.at_).mono ?_; rintro e w1 ⟨rfl, b1'⟩
  have X1 := Lib.hid (X0.out.on b1')
  clear b1' X0 CF
  go_wp2_with fail
  refine (CL.out _ (by rw [← hg]; exact X1.out.bd.below)).mono ?_; rintro e w2 ⟨rfl, b2'⟩
  have X2 := Lib.hid (X1.out.on b2')
  clear b2' X1 CL
  go_wp2_with ((with_reducible show wpList _ _ _ (⟨some 23, _, _, _, _, _⟩ :: _) _ _); refine loadS rfl _ rfl g rfl X2.out.bd.at_ ?_)
  refine (CA.out _ X2.out.bd.at_ (by rw [← hg]; exact X2.out.bd.below)).mono ?_; rintro e w3 ⟨a1, cp1, rfl, hcm, b3'⟩
  have M3 := Lib.hid hcm
  have X3 := Lib.hid (X2.out.on b3')
  clear b3' hcm X2 CA
  obtain ⟨q, hq⟩ : ∃ q, q = ps.length := ⟨_, rfl⟩
  rw [← hq] at HPL ⊢
  have HQ := Lib.hid hq
  clear hq
  go_wp2_with fail
  go_loopg [11] q (fun gg s11 wr => ∃ k : Nat, k + gg = q ∧ s11 = .int .i64 ((k + 1 : Nat) : Int) ∧ Hid (Jt w wr g s a cap i n) ∧ Hid (CmAt wr a1 f ps))
  case atStart => exact ⟨0, by omega, rfl, X3, M3⟩
  case round =>
    clear X3 M3
    rename World => W
    obtain ⟨k, hk, rfl, X3, M3⟩ := hrel
    have HK := Lib.hid hk
    clear hk
    obtain ⟨k1, hk1⟩ : ∃ k1, k1 = k + 1 := ⟨_, rfl⟩
    rw [← hk1]
    by_cases hlt : k1 < q
    · have hl1 : (k1 : Int) < q := by omega
      have hl0 : (k : Int) < q := by omega
      have w1' : IntKind.i64.wrap ((k1 : Int) - 1) = (k : Int) := by rw [show (k1 : Int) - 1 = (k : Int) by omega]; exact IntWalk.i64_in _ (by have := HPL.out; omega)
      have hn : ps ≠ [] := by intro e; have := HQ.out; rw [e] at this; simp at this; omega
      obtain ⟨b1, o1, rfl, g1⟩ := M3.out.resolve_left hn
      have hp0 : k < ps.length := by have := HQ.out; omega
      have hp1 : k1 < ps.length := by have := HQ.out; omega
      have r0 := g1 k _ (List.getElem?_eq_getElem hp0)
      have r1 := g1 k1 _ (List.getElem?_eq_getElem hp1)
      have hs := (List.pairwise_iff_getElem.1 HSO.out) k k1 hp0 hp1 (by omega)
      generalize ps[k] = p0 at *
      generalize ps[k1] = p1 at *
      have u0 := r0 0 _ rfl
      have u1 := r0 1 _ rfl
      have v0 := r1 0 _ rfl
      have v1 := r1 1 _ rfl
      rw [Nat.add_zero] at u0 v0
      have d1 : decide (((p1 / 8 : Nat) : Int) < ((p0 / 8 : Nat) : Int)) = false := by simp; omega
      have d3 : ((p1 / 8 : Nat) : Int) = ((p0 / 8 : Nat) : Int) → decide (((p1 % 8 : Nat) : Int) ≤ ((p0 % 8 : Nat) : Int)) = false := fun e => by simp; omega
      have HL := Lib.hid hlt
      have HK1 := Lib.hid hk1
      clear r0 r1 g1 hn hp0 hp1 hs hlt hk1
      generalize ((p0 / 8 : Nat) : Int) = x0 at *
      generalize ((p0 % 8 : Nat) : Int) = y0 at *
      generalize ((p1 / 8 : Nat) : Int) = x1 at *
      generalize ((p1 % 8 : Nat) : Int) = y1 at *
      have hk63 : (k1 : Int) ≤ 100000 := by have := HPL.out; omega
      go_wp2_with fail
      by_cases hx : x1 = x0
      · have d2 : (x1 == x0) = true := by simpa using hx
        have d4 := d3 hx
        clear d3 hx
        go_quiet (fail)
        have bd := below_drewN (Below.refl W.heap.size W) nq
        have X4 := Lib.hid (X3.out.on bd)
        have M4 := Lib.hid (M3.out.on bd)
        clear bd X3 M3 u0 u1 v0 v1
        generalize W.drewN nq = W4 at *
        go_wp2_with fail
        go_roundg (gk - 1)
        case rel => exact ⟨k + 1, by have := HK.out; have := HK1.out; have := HL.out; omega, by rw [show ((k + 1 + 1 : Nat) : Int) = (k1 : Int) + 1 by have := HK1.out; omega], X4, M4⟩
        case measure => have := HK.out; have := HK1.out; have := HL.out; omega
      · have d2 : (x1 == x0) = false := by simpa using hx
        clear d3 hx
        go_quiet (fail)
        have bd := below_drewN (Below.refl W.heap.size W) nq
        have X4 := Lib.hid (X3.out.on bd)
        have M4 := Lib.hid (M3.out.on bd)
        clear bd X3 M3 u0 u1 v0 v1
        generalize W.drewN nq = W4 at *
        go_wp2_with fail
        go_roundg (gk - 1)
        case rel => exact ⟨k + 1, by have := HK.out; have := HK1.out; have := HL.out; omega, by rw [show ((k + 1 + 1 : Nat) : Int) = (k1 : Int) + 1 by have := HK1.out; omega], X4, M4⟩
        case measure => have := HK.out; have := HK1.out; have := HL.out; omega
    · have hl1 : ¬ (k1 : Int) < q := by omega
      clear hk1 hlt
      have c0 := X3.out.pl.cell 0 (v := .int .i64 i) rfl
      have c1 := X3.out.pl.cell 1 (v := .int .i64 n) rfl
      have HMI := Lib.hid (show ls.length = m ∧ m ≤ 10000 from ⟨HM.out.symm, by rw [HM.out]; exact HY.out.2⟩)
      have hm63 : (m : Int) ≤ 10000 := by have := HMI.out.2; omega
      cases q1 : decide (i < 0)
      · cases q2 : decide ((m : Int) ≤ i)
        · cases q3 : decide (n < 0)
          · cases q4 : decide (7 < n)
            · simp only [decide_eq_false_iff_not] at q1 q2 q3 q4
              obtain ⟨i', rfl⟩ : ∃ i' : Nat, i = i' := ⟨i.toNat, by omega⟩
              obtain ⟨n', rfl⟩ : ∃ n' : Nat, n = n' := ⟨n.toNat, by omega⟩
              have hi : i' < m := by omega
              have hn : n' < 8 := by omega
              have e1 : decide ((i' : Int) < 0) = false := by simp
              have e2 : decide ((m : Int) ≤ i') = false := by simp; omega
              have e3 : decide ((n' : Int) < 0) = false := by simp
              have e4 : decide (7 < (n' : Int)) = false := by simp; omega
              clear q1 q2 q3 q4
              have hm0 : 0 < m := by omega
              have hne : ls ≠ [] := by intro e; have := HMI.out.1; rw [e] at this; simp at this; omega
              obtain ⟨ob, off, rfl, hs⟩ := HO.out.resolve_left hne
              have HS := Lib.hid hs
              have HKO := Lib.hid (show ∀ (j : Nat) o, ls[j]? = some o → Ot.Ok o from fun j o hj => (hs j o hj).1)
              have hci := hs i' _ (ou_at (by rw [HMI.out.1]; exact hi))
              have BW' : Below w.heap.size w W := by rw [hg]; have := X3.out.bd.below; rwa [hg] at this
              have BW := Lib.hid BW'
              have HV := Lib.hid (range_below hci.2 BW')
              have HKI := Lib.hid hci.1
              have HI := Lib.hid (And.intro hi hn)
              clear hs hne hci BW'
              have HWS := Lib.hid BW.out.size
              go_wp2_with (first
                | ((with_reducible show wpList _ _ _ (⟨some 108, _, _, _, _, _⟩ :: _) _ _); refine near_append rfl _ _ rfl rfl rfl HS.out BW.out HMI.out.1 hm0 HMI.out.2 ?_; intro g5 cp5 w5 ho5 hb5 hg5; have X5 := Lib.hid (X3.out.on hb5); have N5 := Lib.hid (And.intro ho5 (And.intro hb5 hg5)); have c0 := X5.out.pl.cell 0 (v := .int .i64 (i' : Int)) rfl; have c1 := X5.out.pl.cell 1 (v := .int .i64 (n' : Int)) rfl; clear ho5 hb5 hg5 hm0)
                | ((with_reducible show wpList _ _ _ (⟨some 110, _, _, _, _, _⟩ :: _) _ _); refine loadS rfl _ rfl g rfl X5.out.bd.at_ ?_))
              obtain ⟨L, hp, hcap, H, hfb⟩ := HX.out
              have CR := Sc.range_yes s a cap w5 L (hp.below (show Below w.heap.size w w5 by rw [hg]; have := X5.out.bd.below; rwa [hg] at this)) H i' n' (by have := HY.out.1; have := HMI.out.1; omega) hn
              change Calls _ _ _ w5 (fun e w' => e = .returned (.tuple #[.int .i64 (least s i' n'), .int .i64 (most s i' n')]) ∧ Below w5.heap.size w5 w') at CR
              have BD := Lib.hid (And.intro (range_bd H (by have := HY.out.1; have := HMI.out.1; omega : i' < s.ps.length) hn) (And.intro (least_most H i' n') (lfit_at HFL.out (by rw [HMI.out.1]; exact hi) hn)))
              have HBN := Lib.hid (bads_near H (by rw [HMI.out.1]; exact hi) hn HKI.out (8 * m) (s := s))
              clear L hp hcap H hfb
              refine CR.mono ?_; rintro e w6 ⟨rfl, b6⟩
              have X6 := Lib.hid (X5.out.on b6)
              have N6 := Lib.hid (And.intro (World.ownsRow.kept N5.out.1 (grown_on b6) (Or.inr (by simp [Value.ownBlock]))) (And.intro (grow N5.out.2.1 b6) N5.out.2.2))
              have V6 := Lib.hid (range_below HV.out N6.out.2.1)
              have HVC := Lib.hid (Ot.ouc_v HKI.out n' hn)
              have HVY := Lib.hid (show hlf (least s i' n') (most s i' n') ((ou ls i').v.getD n' 0) = clm (least s i' n') (most s i' n') ((ou ls i').v.getD n' 0) + ((ou ls i').v.getD n' 0 - clm (least s i' n') (most s i' n') ((ou ls i').v.getD n' 0)).tdiv 2 from rfl)
              have HCL := Lib.hid (show clm (least s i' n') (most s i' n') ((ou ls i').v.getD n' 0) = max (least s i' n') (min (most s i' n') ((ou ls i').v.getD n' 0)) from rfl)
              have HCC := Lib.hid (clm_cases (v := (ou ls i').v.getD n' 0) BD.out.2.1)
              generalize hxx : hlf (least s i' n') (most s i' n') ((ou ls i').v.getD n' 0) = x at *
              generalize hle : least s i' n' = le at *
              generalize hmo : most s i' n' = mo at *
              generalize hvv : (ou ls i').v.getD n' 0 = v at *
              generalize clm le mo v = t at *
              have cv := V6.out (1 + n') _ HVC.out
              rw [← Nat.add_assoc] at cv
              have c0 := X6.out.pl.cell 0 (v := .int .i64 (i' : Int)) rfl
              have c1 := X6.out.pl.cell 1 (v := .int .i64 (n' : Int)) rfl
              have li : (i' : Int) < m := by omega
              have ln : (n' : Int) < 8 := by omega
              clear b6 CR X5 N5 V6 HI
              go_upto_region 15 with fail
              go_quiet (fail)
              go_upto_region 16 with fail
              rw [← HCL.out]
              have bd := below_drewN (Below.refl w6.heap.size w6) nq
              have X7 := Lib.hid (X6.out.on bd)
              have N7 := Lib.hid (And.intro (World.ownsRow.kept N6.out.1 (grown_on bd) (Or.inr (by simp [Value.ownBlock]))) (And.intro (grow N6.out.2.1 bd) N6.out.2.2))
              have cv := range_below HV.out N7.out.2.1 (1 + n') _ HVC.out
              rw [← Nat.add_assoc] at cv
              have c0 := X7.out.pl.cell 0 (v := .int .i64 (i' : Int)) rfl
              have c1 := X7.out.pl.cell 1 (v := .int .i64 (n' : Int)) rfl
              clear bd X6 N6
              generalize w6.drewN nq = w7 at *
              have hit := ou_at (l := ls) (i := i') (by rw [HMI.out.1]; exact hi)
              have ce := World.ownsRow.cells N7.out.1 (g := g5) rfl (i' * 41 + (1 + n')) _ ((flat_at HKO.out i' _ (1 + n') hit (by omega)).trans HVC.out)
              rw [add_plain, Nat.zero_add, ← Nat.add_assoc] at ce
              have cf := World.ownsRow.frozenAt N7.out.1 (i' * 41 + 1 + n')
              have NX := World.ownsRow.stored N7.out.1 (i' * 41 + (1 + n')) (.int .i64 x)
              rw [flat_set HKO.out i' _ n' x hit hn, ← Nat.add_assoc] at NX
              have bds := BD.out
              have hcc := HCC.out
              have p1 : IntKind.i64.wrap (v - t) = v - t := IntWalk.i64_in _ (by omega)
              have p2 := half_pos (x := v - t)
              have p3 := half_neg (x := v - t)
              have p4 : wrap64 ((v - t).tdiv 2) = (v - t).tdiv 2 := by unfold wrap64; omega
              have p5 := Lib.hid (show wrap64 (t + wrap64 ((v - t).tdiv 2)) = x by rw [p4, HVY.out]; unfold wrap64; omega)
              clear p2 p3 p4 bds hcc hit
              refine Tail.wp_region_quiet_tail 22 (by kernel_rfl) (by kernel_rfl) ?_
              simp only [List.take_succ_cons, List.take_zero, List.drop_succ_cons, List.drop_zero]
              repeat (go_big_quiet_step (fail))
              refine wpQuiet_nil ?_
              go_upto_region 17 with fail
              rw [p5.out]
              have O8' := World.ownsRow.drew NX.1
              have B8' := below_drewN (N7.out.2.1.setCell (p := ⟨g5, i' * 41 + 1 + n', none⟩) N7.out.2.2 (.int .i64 x)) 1
              change Below W.heap.size W (w7.setCell ⟨g5, i' * 41 + 1 + n', none⟩ (.int .i64 x)).drew at B8'
              clear NX cv c0 c1 ce cf p1 p5 N7 X7
              generalize (w7.setCell ⟨g5, i' * 41 + 1 + n', none⟩ (.int .i64 x)).drew = w8 at *
              have X8 := Lib.hid (X3.out.on B8')
              have O8 := Lib.hid (outs_own (ls := near ls i' n' x) (near_ok HKO.out HKI.out) O8')
              clear O8' B8' X3
              obtain ⟨L, hp, hcap, H, hfb⟩ := HX.out
              have W8' : Below w.heap.size w w8 := by rw [hg]; have := X8.out.bd.below; rwa [hg] at this
              have hfn : fitb s (near ls i' n' x).length = true := by rw [near_len]; exact hfb
              have CA2 := all_yes s a cap (some ⟨g5, 0, none⟩) cp5 (near ls i' n' x) w8 L (hp.below W8') O8.out hcap hfn
              have CG2 := Lib.hid (fun W (B : Below w8.heap.size w8 W) => good_any s a cap (some ⟨g5, 0, none⟩) cp5 (near ls i' n' x) W L (hp.below (W8'.trans (B.mono W8'.size))) (O8.out.below B) hcap)
              have HGN := Lib.hid (show good s (near ls i' n' x) = (bads s (near ls i' n' x) (8 * (near ls i' n' x).length)).isEmpty by unfold good; rw [hfn]; rfl)
              rw [near_len, HMI.out.1] at CA2 CG2 HGN
              have HB := Lib.hid (show (bads s (near ls i' n' x) (8 * m)).length ≤ q by have := HBN.out; rw [HQ.out, HP.out, HMI.out.1]; exact this)
              clear L hp hcap H hfb W8' hfn HBN
              generalize good s (near ls i' n' x) = gn at *
              generalize bads s (near ls i' n' x) (8 * m) = pb at *
              generalize near ls i' n' x = nr at *
              go_wp2_with ((with_reducible show wpList _ _ _ (⟨some 154, _, _, _, _, _⟩ :: _) _ _); refine loadS rfl _ rfl g rfl X8.out.bd.at_ ?_)
              refine CA2.mono ?_; rintro e w9 ⟨a2, cp2, rfl, -, b9⟩
              have X9 := Lib.hid (X8.out.on b9)
              have B9 := Lib.hid b9
              clear b9 X8 CA2
              obtain ⟨qb, hqb⟩ : ∃ qb, qb = pb.length := ⟨_, rfl⟩
              have HQB := Lib.hid hqb
              rw [← hqb] at HB ⊢
              clear hqb
              go_wp2_with fail
              refine (alive_any _).mono ?_; rintro e w10 ⟨rfl, b10⟩
              have X10 := Lib.hid (X9.out.on b10)
              have B10 := Lib.hid (grow B9.out b10)
              clear b10 X9 B9
              have hle : decide (qb ≤ q) = true := by have := HB.out; simp; omega
              by_cases hq0 : q = 0
              · have hgn : gn = true := by rw [HGN.out, List.isEmpty_iff, ← List.length_eq_zero_iff]; have := HB.out; have := HQB.out; omega
                have hgd : gd = true := by rw [HGD.out, List.isEmpty_iff, ← List.length_eq_zero_iff]; have := HQ.out; omega
                subst hgn
                subst hgd
                subst hq0
                obtain rfl : qb = 0 := by have := HB.out; omega
                clear HGN HGD HQB hle
                go_wp2_with ((with_reducible show wpList _ _ _ (⟨some 176, _, _, _, _, _⟩ :: _) _ _); refine loadS rfl _ rfl g rfl X10.out.bd.at_ ?_)
                refine (CG2.out _ B10.out).mono ?_; rintro e w11 ⟨rfl, b11⟩
                have X11 := Lib.hid (X10.out.on b11)
                clear b11 X10 B10 CG2
                go_wp2_with ((with_reducible show wpList _ _ _ (⟨some 182, _, _, _, _, _⟩ :: _) _ _); refine loadS rfl _ rfl g rfl X11.out.bd.at_ ?_)
                refine (CG.out _ (by rw [← hg]; exact X11.out.bd.below)).mono ?_; rintro e w12 ⟨rfl, b12⟩
                have X12 := Lib.hid (X11.out.on b12)
                clear b12 X11 CG
                go_wp2_with fail
                go_ret
                exact ⟨rfl, hg ▸ X12.out.bd.below⟩
              · have hgd : gd = false := by
                  rw [HGD.out, List.isEmpty_eq_false_iff]
                  intro e
                  apply hq0
                  rw [HQ.out, e]; rfl
                subst hgd
                have e5 : decide (0 < q) = true := by simp; omega
                have e6 : ((q : Int) == 0) = false := by simp; omega
                have e7 : (q == 0) = false := by simp; omega
                clear HGN HGD hq0
                go_wp2_with ((with_reducible show wpList _ _ _ (⟨some 182, _, _, _, _, _⟩ :: _) _ _); refine loadS rfl _ rfl g rfl X10.out.bd.at_ ?_)
                refine (CG.out _ (by rw [← hg]; exact X10.out.bd.below)).mono ?_; rintro e w12 ⟨rfl, b12⟩
                have X12 := Lib.hid (X10.out.on b12)
                clear b12 X10 CG
                go_wp2_with fail
                go_ret
                exact ⟨rfl, hg ▸ X12.out.bd.below⟩
            · go_wp2_with fail
              refine (alive_any _).mono ?_; rintro e w4 ⟨rfl, b4'⟩
              have X4 := Lib.hid (X3.out.on b4')
              clear b4' X3
              go_wp2_with fail
              go_ret
              exact ⟨rfl, hg ▸ X4.out.bd.below⟩
          · go_wp2_with fail
            refine (alive_any _).mono ?_; rintro e w4 ⟨rfl, b4'⟩
            have X4 := Lib.hid (X3.out.on b4')
            clear b4' X3
            go_wp2_with fail
            go_ret
            exact ⟨rfl, hg ▸ X4.out.bd.below⟩
        · go_wp2_with fail
          refine (alive_any _).mono ?_; rintro e w4 ⟨rfl, b4'⟩
          have X4 := Lib.hid (X3.out.on b4')
          clear b4' X3
          go_wp2_with fail
          go_ret
          exact ⟨rfl, hg ▸ X4.out.bd.below⟩
      · go_wp2_with fail
        refine (alive_any _).mono ?_; rintro e w4 ⟨rfl, b4'⟩
        have X4 := Lib.hid (X3.out.on b4')
        clear b4' X3
        go_wp2_with fail
        go_ret
        exact ⟨rfl, hg ▸ X4.out.bd.below⟩
theorem turn_any (hcap : s.ps.length ≤ cap) :
    Calls Try.prog 4 #[.agg (scv s a cap).toArray, .slice al ls.length lcap, .agg #[.int .i64 i, .int .i64 n]] w fun e w' => e = .returned (.bool true) ∧ Below w.heap.size w w' := by
  cases h : Sc.fits s && lfit ls && fitb s ls.length
  · exact turn_no s a cap al lcap ls i n w L hp ho hcap h
  · rw [Bool.and_eq_true, Bool.and_eq_true] at h
    exact turn_yes s a cap al lcap ls i n w L hp ho hcap h.1.1 h.1.2 h.2
end
end Jd
namespace judgeTurn
open Sc (Sn PsAt scv Lens)
open Ot (Ou)
theorem walk (s : Sn) (a : Option Addr) (cap : Nat) (al : Option Addr) (lcap : Nat) (ls : List Ou) (i n : Int) (w : World) (L : Lens s) (hp : PsAt w a s.ps) (hcap : s.ps.length ≤ cap) (ho : Jd.OutsAt w al ls) (_ : (Lit.int .i64 i).wf = true) (_ : (Lit.int .i64 n).wf = true) :
    Calls Try.prog 4 #[.agg (scv s a cap).toArray, .slice al ls.length lcap, .agg #[.int .i64 i, .int .i64 n]] w fun e w' => e = .returned (.bool true) ∧ Below w.heap.size w w' :=
  Jd.turn_any s a cap al lcap ls i n w L hp ho hcap
end judgeTurn
end Go.Proofs.Ytchnnpaebggfdaa
