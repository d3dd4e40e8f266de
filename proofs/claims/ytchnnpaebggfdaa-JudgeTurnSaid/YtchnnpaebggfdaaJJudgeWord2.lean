/-
  What word of package judge tells: a contract by walking the Go text. Conditions: how the scene, of one point or more, and the output lie.
  Plain mathematics for layer 23 (judge): a value moved half the way to its range is complained of no more than ahead. No Go text is reached here. No conditions.
-/
import Derived.Test.YtchnnpaebggfdaaJJudgeMem2
import Derived.Test.YtchnnpaebggfdaaJRounds4
namespace Go.Proofs.Ytchnnpaebggfdaa
set_option maxRecDepth 100000
open Go.ChangeShapes Go.WideShapes Go.ChangeAt Go.RowKit Go.Deep
namespace Jd
open Cf (G CA)
open Sc (Sn Pt Ok PsAt PtOk pt scv ptv Lens At Bd loadS NN)
open Ot (Ou ouc)
open Ss (St str zer)
theorem wpQuiet_loadR {ops : Array Oper} {C : World → Prop} {Q : Act → Prop} {o : Oper} {rest : List Oper} {a : Act} {t : TypeId} (hw : Region.wanted o (yielded ops a.tmps) = true) (x : Operand) (ho : o.op = .load t x)
    (b off : Nat) (cs : List Value) (hx : a.eval x = .pointer (some ⟨b, off, none⟩)) (hb : ∀ w, C w → w.rangeAt b off cs) (d : TypeDesc) (hu : Try.prog.underlying t = some d) (hd : d.isRow = true) (hi : (Try.prog.info? t).map (·.size) = some cs.length)
    (h : wpQuiet Try.prog ops C Q rest (a.put o.dst (.agg cs.toArray))) : wpQuiet Try.prog ops C Q (o :: rest) a := by
  unfold wpQuiet
  rw [if_pos hw]
  refine ⟨.agg cs.toArray, fun w hC => ?_, h⟩
  have e := run_loadVar_mid (P := Try.prog) w b off t cs d (hb w hC) hu hd hi
  unfold Oper.quietAt execOp
  simp only [ho, hx, Instr.loadAt, Instr.sureAddr, Sem.run_bind, Sem.run_pure, Result.andThen_ok, e]
  exact ⟨rfl, rfl⟩
theorem allocK (W : World) : (Instr.alloc 24 true (.tuple #[])).run Try.prog W = .ok (.pointer (some ⟨W.heap.size, 0, none⟩)) (W.alloc (.cells ([.int .i64 0, .int .i64 0, .int .i64 0, .int .i64 0, .int .i64 0, .int .i64 0, .int .i64 0, .int .i64 0, .int .i64 0, .int .i64 0, .int .i64 0, .int .i64 0, .int .i64 0, .int .i64 0, .int .i64 0, .int .i64 0, .int .i64 0, .int .i64 0, .int .i64 0, .int .i64 0, .int .i64 0] : List Value).toArray 24)) := by kernel_rfl
theorem allocSt (W : World) : (Instr.alloc 54 true (.tuple #[])).run Try.prog W = .ok (.pointer (some ⟨W.heap.size, 0, none⟩)) (W.alloc (.cells (str zer).toArray 54)) := by kernel_rfl
theorem range_bd {s : Sn} (H : Ok s) {i n : Nat} (hi : i < s.ps.length) (hn : n < 8) : (-2147483648 ≤ least s i n ∧ least s i n ≤ 2147483647) ∧ -2147483648 ≤ most s i n ∧ most s i n ≤ 2147483647 := by
  have C := Sc.cv_of H.cov
  obtain ⟨k, hk, ho⟩ := Sc.some_in C
  have h1 := H.within hi hk hn ho
  have h2 : least s i n ≤ Sc.val s i k n := Sc.lo_each hk ho
  have h3 : Sc.val s i k n ≤ most s i n := Sc.hi_each hk ho
  have h4 : -2147483648 ≤ least s i n := Sc.lo_above (by omega) fun j hj hoj => by have := H.within hi hj hn hoj; have := C.lo; omega
  have h5 : most s i n ≤ 2147483647 := Sc.hi_below (by omega) fun j hj hoj => by have := H.within hi hj hn hoj; have := C.hi; omega
  have := C.lo
  have := C.hi
  omega
set_option maxHeartbeats 3200000 in
theorem word_any (s : Sn) (a : Option Addr) (cap : Nat) (w : World) (L : Lens s) (hp : PsAt w a s.ps) (H : Ok s) (hlen : 0 < s.ps.length) (o : Ou) (K : Ot.Ok o) (n : Nat) (hn : n < 8) (r : Int) :
    Calls Try.prog 35 #[.agg (scv s a cap).toArray, .agg (ouc o).toArray, .int .i64 n, .int .i64 r] w fun e w' => e = .returned (.string (wd s o 0 n r)) ∧ Below w.heap.size w w' := by
  have X0 := Lib.hid ((Bd.new (cap := cap) L hp).on (Sc.below_new _ (ouc o).toArray 57))
  have V0' := VRow.new (w.alloc (.cells (scv s a cap).toArray 27)) (ouc o) 57
  rw [World.size_alloc] at V0'
  have V0 := Lib.hid V0'
  clear V0'
  have HSK := Lib.hid (show (Try.prog.info? 24).map (·.size) = some (cellsI .i64 s.c).length by rw [cellsI, List.length_map, L.c]; kernel_rfl)
  have HLK := Lib.hid (show ([.int .i64 0, .int .i64 0, .int .i64 0, .int .i64 0, .int .i64 0, .int .i64 0, .int .i64 0, .int .i64 0, .int .i64 0, .int .i64 0, .int .i64 0, .int .i64 0, .int .i64 0, .int .i64 0, .int .i64 0, .int .i64 0, .int .i64 0, .int .i64 0, .int .i64 0, .int .i64 0, .int .i64 0] : List Value).length = (cellsI .i64 s.c).length by rw [cellsI, List.length_map, L.c]; rfl)
  have HV := Lib.hid (Ot.ouc_v K n hn)
  have HST := Lib.hid (fun W (V : VRow W (w.heap.size + 1) 57 (ouc o)) => Ot.range_st V K n hn)
  have HK := Lib.hid K
  have C := Lib.hid (Sc.cv_of H.cov)
  have CR := Lib.hid (fun W (D : At W w.heap.size s a cap) => show Calls Try.prog 16 #[.agg (scv s a cap).toArray, .int .i64 (0 : Nat), .int .i64 n] W fun e w' => e = .returned (.tuple #[.int .i64 (least s 0 n), .int .i64 (most s 0 n)]) ∧ Below W.heap.size W w' from Sc.range_yes s a cap W D.len D.ps H 0 n hlen hn)
  have CS := Lib.hid (fun W (D : At W w.heap.size s a cap) (m : Int) (b : Bool) => some_any s a cap W D.len D.ps m b C.out.nn C.out.eq)
  have hn8 : (n : Int) < 8 := by omega
  have HWD := Lib.hid (show wd s o 0 n r = wdx s (stt o n) (o.v.getD n 0) (least s 0 n) (most s 0 n) r from rfl)
  have hbd := range_bd H hlen hn
  have zA := C.out.a
  have zP := C.out.p
  generalize least s 0 n = le at *
  generalize most s 0 n = mo at *
  generalize hx : stt o n = x at *
  have HSX := Lib.hid (show o.s.getD n zer = x from hx)
  rw [HSX.out] at HST
  generalize hv : o.v.getD n 0 = v at *
  generalize hww : wd s o 0 n r = ans at *
  generalize hoc : ouc o = oc at *
  clear L hp H hlen hn K hx hv hww
  go_enter Try.func35, Try.ntmps35
  go_upto_region 1 with fail
  generalize (w.alloc (.cells (scv s a cap).toArray 27)).alloc (.cells oc.toArray 57) = w0 at *
  generalize hg : w.heap.size = g at *
  refine Ws.wp_boxes2 (aF := ?_) 10 11 12 14 76 9 11 15 23 [true, true, true, true, true, true, true, true, true, true, false, false, false, true, false] 24 54 [.int .i64 0, .int .i64 0, .int .i64 0, .int .i64 0, .int .i64 0, .int .i64 0, .int .i64 0, .int .i64 0, .int .i64 0, .int .i64 0, .int .i64 0, .int .i64 0, .int .i64 0, .int .i64 0, .int .i64 0, .int .i64 0, .int .i64 0, .int .i64 0, .int .i64 0, .int .i64 0, .int .i64 0] (cellsI .i64 s.c) (str zer) (str x)
    (by kernel_rfl) (by kernel_rfl) (by kernel_rfl) (by kernel_rfl) rfl (by decide) rfl rfl rfl rfl (by kernel_rfl) (by kernel_rfl) allocK allocSt HSK.out HLK.out (all_oneCell_toArray (cellsI_one _ _)) Ss.sizeS rfl (Ss.str_one x) ?hq ?hyA ?hyB ?e1 ?e2 ?g0 ?g1 ?g2 ?hend
  case hq =>
    intro W bW
    have D := Lib.hid (X0.out.on bW)
    have V := Lib.hid (V0.out.below bW V0.out.lt)
    have HK2 := Lib.hid (show ∀ w', (∃ p : Regrown, w' = Sort.grow (redrawn W p.d) p.os) → w'.rangeAt g 0 (cellsI .i64 s.c) by rintro w' ⟨p, rfl⟩; exact (D.out.at_.on (below_regrown W p.d p.os)).conf)
    have HS2 := Lib.hid (show ∀ w', (∃ p : Regrown, w' = Sort.grow (redrawn W p.d) p.os) → w'.rangeAt (g + 1) (9 + n * 4) (str x) by rintro w' ⟨p, rfl⟩; exact HST.out _ (V.out.below (below_regrown W p.d p.os) V.out.lt))
    have v1 := cell_regrown (V.out.cell (1 + n) HV.out)
    simp only [Lt.sel, Lt.putAll, List.zip_cons_cons, List.zip_nil_right, List.foldl_cons, List.foldl_nil, Act.put, List.setIfInBounds_toArray, List.set_cons_succ, List.set_cons_zero]
    repeat (first
      | (with_reducible show wpQuiet _ _ _ _ (⟨some 15, _, _, _, _, _⟩ :: _) _
         refine wpQuiet_loadR rfl _ rfl g 0 (cellsI .i64 s.c) rfl HK2.out _ Try.underlying24 rfl HSK.out ?_
         simp only [Act.put, List.setIfInBounds_toArray, List.set_cons_succ, List.set_cons_zero])
      | (with_reducible show wpQuiet _ _ _ _ (⟨some 23, _, _, _, _, _⟩ :: _) _
         refine wpQuiet_loadR rfl _ rfl (g + 1) (9 + n * 4) (str x) rfl HS2.out _ Try.underlying54 rfl Ss.sizeS ?_
         simp only [Act.put, List.setIfInBounds_toArray, List.set_cons_succ, List.set_cons_zero])
      | go_big_quiet_step (fail))
    exact rfl
  case hyA => exact fun _ _ => rfl
  case hyB => exact fun _ _ => rfl
  case e1 => exact fun _ _ => rfl
  case e2 => exact fun _ _ => rfl
  case g0 => exact fun _ _ _ => rfl
  case g1 => exact fun _ _ _ => rfl
  case g2 => exact fun _ _ _ => rfl
  case hend =>
    intro ga gb Y KA KB
    have D := Lib.hid (X0.out.on KA.below)
    have RA := Lib.hid KA.row
    have RB := Lib.hid KB.row
    clear KA KB X0 V0
    simp only [Lt.putAll, List.zip_cons_cons, List.zip_nil_right, List.foldl_cons, List.foldl_nil, Act.put, List.setIfInBounds_toArray, List.set_cons_succ, List.set_cons_zero]
    go_wp2_with ((with_reducible show wpList _ _ _ (⟨some 25, _, _, _, _, _⟩ :: _) _ _); refine loadS rfl _ rfl g rfl D.out.at_ ?_)
    refine (CR.out _ D.out.at_).mono ?_; rintro e w2 ⟨rfl, b2⟩
    have D2 := Lib.hid (D.out.on b2)
    have RA2 := Lib.hid (RA.out.below b2 RA.out.lt)
    have RB2 := Lib.hid (RB.out.below b2 RB.out.lt)
    clear D RA RB b2 CR
    have HCG := Lib.hid (show ∀ j, j < 21 → (cellsI .i64 s.c)[j]? = some (.int .i64 (G s.c j)) from fun j hj => cellsI_get .i64 s.c j (by rw [D2.out.at_.len.c]; exact hj))
    have k3 := RB2.out.cell 3 (v := .bool x.f) rfl
    unfold wdx at HWD
    cases hf : x.f
    · rw [hf] at k3 HWD
      rw [if_neg (by decide)] at HWD
      have k0 := RB2.out.cell 0 (v := .int .i64 x.i) rfl
      go_wp2_with ((with_reducible show wpList _ _ _ (⟨some 34, _, _, _, _, _⟩ :: _) _ _); refine loadS rfl _ rfl g rfl D2.out.at_ ?_)
      refine (CS.out _ D2.out.at_ _ _).mono ?_; rintro e w3 ⟨rfl, b3⟩
      have D3 := Lib.hid (D2.out.on b3)
      have RA3 := Lib.hid (RA2.out.below b3 RA2.out.lt)
      have RB3 := Lib.hid (RB2.out.below b3 RB2.out.lt)
      clear D2 RA2 RB2 b3 k3 k0
      cases h1 : sm s x.i false
      · rw [h1, if_neg (by decide)] at HWD
        have k1 := RB3.out.cell 1 (v := .int .i64 x.l) rfl
        go_wp2_with ((with_reducible show wpList _ _ _ (⟨some 39, _, _, _, _, _⟩ :: _) _ _); refine loadS rfl _ rfl g rfl D3.out.at_ ?_)
        refine (CS.out _ D3.out.at_ _ _).mono ?_; rintro e w4 ⟨rfl, b4⟩
        have D4 := Lib.hid (D3.out.on b4)
        have RA4 := Lib.hid (RA3.out.below b4 RA3.out.lt)
        have RB4 := Lib.hid (RB3.out.below b4 RB3.out.lt)
        clear D3 RA3 RB3 b4 k1
        cases h2 : sm s x.l true
        · rw [h2, if_neg (by decide)] at HWD
          have q10 := RA4.out.cell 10 (HCG.out 10 (by omega))
          have q12 := RA4.out.cell 12 (HCG.out 12 (by omega))
          have q13 := RA4.out.cell 13 (HCG.out 13 (by omega))
          have k1 := RB4.out.cell 1 (v := .int .i64 x.l) rfl
          have k23 := D4.out.at_.odd
          generalize G s.c 10 = cA at *
          generalize G s.c 12 = cP at *
          generalize G s.c 13 = cL at *
          have p1 : IntKind.i64.wrap (le - cA) = le - cA := IntWalk.i64_in _ (by omega)
          have p2 : IntKind.i64.wrap (le - cA - cP) = le - cA - cP := IntWalk.i64_in _ (by omega)
          have p3 : IntKind.i64.wrap (mo + cA) = mo + cA := IntWalk.i64_in _ (by omega)
          have p4 : IntKind.i64.wrap (mo + cA + cP) = mo + cA + cP := IntWalk.i64_in _ (by omega)
          by_cases h3 : v < le - cA - cP
          · rw [if_pos h3] at HWD
            go_wp2_with fail
            go_ret
            exact ⟨Sc.ret_str HWD.out.symm, hg ▸ D4.out.below⟩
          · rw [if_neg h3] at HWD
            by_cases h4 : mo + cA + cP < v
            · rw [if_pos h4] at HWD
              go_wp2_with fail
              go_ret
              exact ⟨Sc.ret_str HWD.out.symm, hg ▸ D4.out.below⟩
            · rw [if_neg h4] at HWD
              by_cases h5 : cL ≤ r
              · have CH := fun W => Fx.has_any x.l s.odd W
                cases h6 : Fx.has x.l s.odd
                · rw [h6] at CH HWD
                  rw [if_pos ⟨h5, rfl⟩] at HWD
                  go_wp2_with fail
                  refine (CH _).mono ?_; rintro e w5 ⟨rfl, rfl⟩
                  go_wp2_with fail
                  go_ret
                  exact ⟨Sc.ret_str HWD.out.symm, hg ▸ D4.out.below⟩
                · rw [h6] at CH HWD
                  rw [if_neg (fun q => by cases q.2)] at HWD
                  go_wp2_with fail
                  refine (CH _).mono ?_; rintro e w5 ⟨rfl, rfl⟩
                  go_wp2_with fail
                  go_ret
                  exact ⟨Sc.ret_str HWD.out.symm, hg ▸ D4.out.below⟩
              · rw [if_neg (fun q => h5 q.1)] at HWD
                go_wp2_with fail
                go_ret
                exact ⟨Sc.ret_str HWD.out.symm, hg ▸ D4.out.below⟩
        · rw [h2, if_pos rfl] at HWD
          go_wp2_with fail
          go_ret
          exact ⟨Sc.ret_str HWD.out.symm, hg ▸ D4.out.below⟩
      · rw [h1, if_pos rfl] at HWD
        go_wp2_with fail
        go_ret
        exact ⟨Sc.ret_str HWD.out.symm, hg ▸ D3.out.below⟩
    · rw [hf] at k3 HWD
      rw [if_pos rfl] at HWD
      go_wp2_with fail
      go_ret
      exact ⟨Sc.ret_str HWD.out.symm, hg ▸ D2.out.below⟩
end Jd
end Go.Proofs.Ytchnnpaebggfdaa

namespace Go.Proofs.Ytchnnpaebggfdaa
set_option maxRecDepth 100000
open Go.ChangeShapes Go.WideShapes Go.ChangeAt Go.RowKit Go.Deep
namespace Jd
open Cf (G CA)
open Sc (Sn Pt Ok PsAt PtOk pt scv ptv Lens At Bd NN)
open Ot (Ou ouc)
open Ss (St zer)
/-- Nothing to complain of, in words. -/
theorem wdx_ok {s : Sn} {x : St} {v l m r : Int} : wdx s x v l m r = ⟨#[]⟩ ↔ x.f = false ∧ sm s x.i false = false ∧ sm s x.l true = false ∧ ¬ v < l - G s.c 10 - G s.c 12 ∧ ¬ m + G s.c 10 + G s.c 12 < v ∧ ¬ (G s.c 13 ≤ r ∧ Fx.has x.l s.odd = false) := by
  unfold wdx
  constructor
  · intro h
    split at h
    · exact absurd h (by decide)
    · rename_i h1
      split at h
      · exact absurd h (by decide)
      · rename_i h2
        split at h
        · exact absurd h (by decide)
        · rename_i h3
          split at h
          · exact absurd h (by decide)
          · rename_i h4
            split at h
            · exact absurd h (by decide)
            · rename_i h5
              split at h
              · exact absurd h (by decide)
              · rename_i h6
                exact ⟨by simpa using h1, by simpa using h2, by simpa using h3, h4, h5, h6⟩
  · rintro ⟨h1, h2, h3, h4, h5, h6⟩
    rw [h1, h2, h3]
    simp [h4, h5, h6]
/-- The nearest of the range; half the way to it. -/
def clm (l m v : Int) : Int := max l (min m v)
def hlf (l m v : Int) : Int := clm l m v + (v - clm l m v).tdiv 2
theorem clm_cases {l m v : Int} (h : l ≤ m) : (v < l ∧ clm l m v = l) ∨ (m < v ∧ clm l m v = m) ∨ (l ≤ v ∧ v ≤ m ∧ clm l m v = v) := by
  unfold clm; omega
theorem half_pos {x : Int} (h : 0 ≤ x) : 0 ≤ x.tdiv 2 ∧ x.tdiv 2 ≤ x := by
  rw [Int.tdiv_eq_ediv_of_nonneg h]; omega
theorem half_neg {x : Int} (h : x ≤ 0) : x ≤ x.tdiv 2 ∧ x.tdiv 2 ≤ 0 := by
  have e : x = -(-x) := by omega
  rw [e, Int.neg_tdiv]
  have := half_pos (x := -x) (by omega)
  omega
theorem hlf_cases {l m v : Int} (h : l ≤ m) : (v ≤ hlf l m v ∧ hlf l m v ≤ l) ∨ (m ≤ hlf l m v ∧ hlf l m v ≤ v) ∨ (l ≤ hlf l m v ∧ hlf l m v ≤ m ∧ hlf l m v = v) := by
  unfold hlf
  rcases clm_cases (v := v) h with ⟨h1, h2⟩ | ⟨h1, h2⟩ | ⟨h1, h2, h3⟩
  · rw [h2]; have := half_neg (x := v - l) (by omega); omega
  · rw [h2]; have := half_pos (x := v - m) (by omega); omega
  · rw [h3, Int.sub_self]; rw [show Int.tdiv 0 2 = 0 by rfl]; omega
theorem least_most {s : Sn} (H : Ok s) (i n : Nat) : least s i n ≤ most s i n := by
  have C := Sc.cv_of H.cov
  obtain ⟨k, hk, ho⟩ := Sc.some_in C
  have h2 : least s i n ≤ Sc.val s i k n := Sc.lo_each hk ho
  have h3 : Sc.val s i k n ≤ most s i n := Sc.hi_each hk ho
  omega
/-- Outputs with one value in another's place. -/
def nou (o : Ou) (n : Nat) (x : Int) : Ou := { o with v := o.v.set n x }
def near (ls : List Ou) (i n : Nat) (x : Int) : List Ou := ls.set i (nou (ou ls i) n x)
section
variable {ls : List Ou} {i n : Nat} {x : Int}
theorem near_len : (near ls i n x).length = ls.length := by unfold near; rw [List.length_set]
theorem ou_near (hi : i < ls.length) (j : Nat) : ou (near ls i n x) j = if j = i then nou (ou ls i) n x else ou ls j := by
  unfold near ou
  rw [List.getD_eq_getElem?_getD, List.getElem?_set]
  by_cases h : i = j
  · rw [if_pos h, if_pos hi, if_pos h.symm]; rfl
  · rw [if_neg h, if_neg (fun e => h e.symm), List.getD_eq_getElem?_getD]
theorem nou_ok {o : Ou} (K : Ot.Ok o) : Ot.Ok (nou o n x) := ⟨by unfold nou; simpa using K.v, K.s⟩
theorem nou_cells {o : Ou} (K : Ot.Ok o) (hn : n < 8) : ouc (nou o n x) = (ouc o).set (1 + n) (.int .i64 x) := by
  unfold ouc nou
  rw [show 1 + n = n + 1 by omega, List.set_cons_succ, List.set_append_left _ _ (by rw [cellsI, List.length_map, K.v]; omega), cellsI_set]
theorem near_ok (hk : ∀ (j : Nat) o, ls[j]? = some o → Ot.Ok o) (K : Ot.Ok (ou ls i)) (j : Nat) (o : Ou) (h : (near ls i n x)[j]? = some o) : Ot.Ok o := by
  unfold near at h
  rw [List.getElem?_set] at h
  split at h
  · split at h
    · rw [← Option.some.inj h]; exact nou_ok K
    · cases h
  · exact hk j o h
theorem bad_near {s : Sn} (H : Ok s) (hi : i < ls.length) (hn : n < 8) (K : Ot.Ok (ou ls i)) (p : Nat)
    (h : bad s (near ls i n (hlf (least s i n) (most s i n) ((ou ls i).v.getD n 0))) p = true) : bad s ls p = true := by
  unfold bad at h ⊢
  rw [Bool.not_eq_true', decide_eq_false_iff_not] at h ⊢
  intro hw
  apply h
  unfold wa at hw ⊢
  rw [ou_near hi]
  by_cases hp : p / 8 = i
  · rw [if_pos hp]
    rw [hp] at hw ⊢
    unfold wd at hw ⊢
    rw [wdx_ok] at hw ⊢
    obtain ⟨h1, h2, h3, h4, h5, h6⟩ := hw
    refine ⟨h1, h2, h3, ?_, ?_, h6⟩
    all_goals
      unfold nou
      by_cases hq : p % 8 = n
      · rw [hq] at h4 h5 ⊢
        have e : ((ou ls i).v.set n (hlf (least s i n) (most s i n) ((ou ls i).v.getD n 0))).getD n 0 = hlf (least s i n) (most s i n) ((ou ls i).v.getD n 0) := by
          rw [List.getD_eq_getElem?_getD, List.getElem?_set_self (by rw [K.v]; exact hn)]; rfl
        show ¬ _
        rw [e]
        have C := Sc.cv_of H.cov
        have hlm := least_most H i n
        have hc := hlf_cases (v := (ou ls i).v.getD n 0) hlm
        have := C.a
        have := C.p
        generalize hlf (least s i n) (most s i n) ((ou ls i).v.getD n 0) = y at *
        generalize (ou ls i).v.getD n 0 = v at *
        omega
      · have e : ∀ y, ((ou ls i).v.set n y).getD (p % 8) 0 = (ou ls i).v.getD (p % 8) 0 := fun y => by
          rw [List.getD_eq_getElem?_getD, List.getElem?_set_ne (fun e => hq e.symm), ← List.getD_eq_getElem?_getD]
        show ¬ _
        rw [e]
        assumption
  · rw [if_neg hp]; exact hw
theorem bads_near {s : Sn} (H : Ok s) (hi : i < ls.length) (hn : n < 8) (K : Ot.Ok (ou ls i)) (m : Nat) :
    (bads s (near ls i n (hlf (least s i n) (most s i n) ((ou ls i).v.getD n 0))) m).length ≤ (bads s ls m).length := by
  unfold bads
  rw [← List.countP_eq_length_filter, ← List.countP_eq_length_filter]
  exact List.countP_mono_left fun p _ h => bad_near H hi hn K p h
end
/-- Where a value of outputs lies, one after another. -/
theorem flat_len {ls : List Ou} (h : ∀ (i : Nat) o, ls[i]? = some o → Ot.Ok o) : (ls.flatMap ouc).length = 41 * ls.length := by
  induction ls with
  | nil => rfl
  | cons o t ih => rw [List.flatMap_cons, List.length_append, ih (fun i o' hi => h (i + 1) o' (by simpa using hi)), Ot.ouc_len (h 0 o rfl), List.length_cons]; omega
theorem flat_at {ls : List Ou} (h : ∀ (i : Nat) o, ls[i]? = some o → Ot.Ok o) : ∀ (i : Nat) o (j : Nat), ls[i]? = some o → j < 41 → (ls.flatMap ouc)[i * 41 + j]? = (ouc o)[j]? := by
  induction ls with
  | nil => intro i o j hi; simp at hi
  | cons q t ih =>
    intro i o j hi hj
    have hq := Ot.ouc_len (h 0 q rfl)
    cases i with
    | zero =>
      obtain rfl : q = o := by simpa using hi
      rw [List.flatMap_cons, Nat.zero_mul, Nat.zero_add, List.getElem?_append_left (by omega)]
    | succ i =>
      rw [List.flatMap_cons, List.getElem?_append_right (by rw [hq]; omega), ← ih (fun i o' hi => h (i + 1) o' (by simpa using hi)) i o j (by simpa using hi) hj, hq]
      congr 1; omega
theorem flat_set {ls : List Ou} (h : ∀ (i : Nat) o, ls[i]? = some o → Ot.Ok o) : ∀ (i : Nat) o (j : Nat) (x : Int), ls[i]? = some o → j < 8 → (ls.flatMap ouc).set (i * 41 + (1 + j)) (.int .i64 x) = (ls.set i (nou o j x)).flatMap ouc := by
  induction ls with
  | nil => intro i o j x hi; simp at hi
  | cons q t ih =>
    intro i o j x hi hj
    have hq := Ot.ouc_len (h 0 q rfl)
    cases i with
    | zero =>
      obtain rfl : q = o := by simpa using hi
      rw [List.set_cons_zero, List.flatMap_cons, List.flatMap_cons, Nat.zero_mul, Nat.zero_add, List.set_append_left _ _ (by omega), nou_cells (h 0 q rfl) hj]
    | succ i =>
      rw [List.set_cons_succ, List.flatMap_cons, List.flatMap_cons, List.set_append_right _ _ (by rw [hq]; omega), ← ih (fun i o' hi => h (i + 1) o' (by simpa using hi)) i o j x (by simpa using hi) hj, hq]
      congr 2; omega
/-- Outputs that lie whole in a row of their own. -/
theorem outs_own {base : Nat} {w : World} {g cap n : Nat} {te : TypeId} {ls : List Ou} (h : ∀ (i : Nat) o, ls[i]? = some o → Ot.Ok o) (ho : w.ownsRow base te 41 (.slice (some ⟨g, 0, none⟩) n cap) n (ls.flatMap ouc)) : OutsAt w (some ⟨g, 0, none⟩) ls := by
  refine Or.inr ⟨g, 0, rfl, fun i o hi => ⟨h i o hi, fun j v hj => ?_⟩⟩
  have h41 : j < 41 := by have := (List.getElem?_eq_some_iff.1 hj).1; rwa [Ot.ouc_len (h i o hi)] at this
  have := World.ownsRow.cells ho (g := g) rfl (i * 41 + j) v (by rw [flat_at h i o j hi h41]; exact hj)
  rw [add_plain] at this
  rw [← this, Nat.add_assoc]
theorem flat_cells {w : World} {b off : Nat} {ls : List Ou} (hs : ∀ (i : Nat) o, ls[i]? = some o → Ot.Ok o ∧ w.rangeAt b (off + i * 41) (ouc o)) (j : Nat) (u : Value) (h : (ls.flatMap ouc)[j]? = some u) : w.cell? ((⟨b, off, none⟩ : Addr).add j) = some u := by
  have hk : ∀ (i : Nat) o, ls[i]? = some o → Ot.Ok o := fun i o hi => (hs i o hi).1
  have hj : j < 41 * ls.length := by have := (List.getElem?_eq_some_iff.1 h).1; rwa [flat_len hk] at this
  have hi : j / 41 < ls.length := by omega
  have he := List.getElem?_eq_getElem hi
  have e : j = j / 41 * 41 + j % 41 := by omega
  rw [e, flat_at hk _ _ _ he (Nat.mod_lt _ (by decide))] at h
  have := (hs _ _ he).2 _ _ h
  rw [add_plain, e, ← Nat.add_assoc]
  exact this
theorem range_all {w0 w : World} {b off : Nat} {ls : List Ou} (hs : ∀ (i : Nat) o, ls[i]? = some o → Ot.Ok o ∧ w0.rangeAt b (off + i * 41) (ouc o)) (hb : Below w0.heap.size w0 w) (j : Nat) (u : Value) (h : (ls.flatMap ouc)[j]? = some u) : w.cell? ((⟨b, off, none⟩ : Addr).add j) = some u :=
  flat_cells (fun i o hi => ⟨(hs i o hi).1, range_below (hs i o hi).2 hb⟩) j u h
theorem flat_one (ls : List Ou) : ∀ v ∈ ls.flatMap ouc, v.oneCell' = true := by
  intro v hv
  obtain ⟨o, -, h⟩ := List.mem_flatMap.1 hv
  exact Ot.ouc_one o v h
end Jd
end Go.Proofs.Ytchnnpaebggfdaa
