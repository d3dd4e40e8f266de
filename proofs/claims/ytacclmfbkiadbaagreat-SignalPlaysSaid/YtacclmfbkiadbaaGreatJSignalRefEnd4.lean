/-
  What end of rudderref18 does: a contract by walking the Go text. Conditions: how the document's signal and the result lie; that the configuration, the state and the raw values may be.
  What lies there while Step of rudderref18 goes on, and what each kind of act does to it. No function of the program is walked here. No conditions beyond those said.
  What the document's answers for layer 10 (package rudderref10) return: contracts by walking the Go text. Conditions: that the level may be one.
  The states that Step of rudderref18 goes through, and who is in as a mask: mathematics, and how what lies there is kept. No function of the program is walked here but by ahead's contract. Conditions: those said.
-/
import Derived.Test.YtacclmfbkiadbaaGreatSignalRefVote
import Derived.Test.YtacclmfbkiadbaaGreatJEqualRef5
import Derived.Test.YtacclmfbkiadbaaGreatJLatchNext3
import Derived.Test.YtacclmfbkiadbaaGreatJSetWrites2
import Derived.Test.YtacclmfbkiadbaaGreatJConfigRow6
import Derived.Deep.MidRow
import Derived.Test.YtacclmfbkiadbaaGreatJStuckMath6
import Derived.Test.YtacclmfbkiadbaaGreatJFixRefs3
import Derived.Test.YtacclmfbkiadbaaGreatJJumpRight6
namespace Go.Proofs.YtacclmfbkiadbaaGreat
set_option maxRecDepth 100000
open Go.ChangeShapes Go.WideShapes Go.ChangeAt Go.RowKit Go.Deep
namespace Sg
open Cf (G CA Box)
/-- What a cycle tells, with trips and events as functions. -/
def rsf (v i l s : Int) (f : Bool) (T E : Nat → Int) : List Value := r13 v i l s f (T 0) (T 1) (T 2) (T 3) (E 0) (E 1) (E 2) (E 3)
theorem rsf_T (v i l s : Int) (f : Bool) (T E : Nat → Int) (k : Nat) (hk : k < 4) : (rsf v i l s f T E)[5 + k]? = some (.int .i64 (T k)) := by
  have : k = 0 ∨ k = 1 ∨ k = 2 ∨ k = 3 := by omega
  rcases this with rfl | rfl | rfl | rfl <;> rfl
theorem rsf_E (v i l s : Int) (f : Bool) (T E : Nat → Int) (k : Nat) (hk : k < 4) : (rsf v i l s f T E)[9 + k]? = some (.int .i64 (E k)) := by
  have : k = 0 ∨ k = 1 ∨ k = 2 ∨ k = 3 := by omega
  rcases this with rfl | rfl | rfl | rfl <;> rfl
theorem rsf_setT (v i l s : Int) (f : Bool) (T E : Nat → Int) (k : Nat) (hk : k < 4) (x : Int) : (rsf v i l s f T E).set (5 + k) (.int .i64 x) = rsf v i l s f (fun j => if j = k then x else T j) E := by
  have : k = 0 ∨ k = 1 ∨ k = 2 ∨ k = 3 := by omega
  rcases this with rfl | rfl | rfl | rfl <;> rfl
theorem rsf_setE (v i l s : Int) (f : Bool) (T E : Nat → Int) (k : Nat) (hk : k < 4) (x : Int) : (rsf v i l s f T E).set (9 + k) (.int .i64 x) = rsf v i l s f T (fun j => if j = k then x else E j) := by
  have : k = 0 ∨ k = 1 ∨ k = 2 ∨ k = 3 := by omega
  rcases this with rfl | rfl | rfl | rfl <;> rfl
/-- A channel behind that step; what happened to it. -/
def bO (c : List Int) (s : Si) (r : Nat → Rw) (i : Nat) : Int := if (r i).is = true then Ql.nx (G c 10) (G c 11) (s.ch i).off (r i).n s.val else (s.ch i).off
def bS (c : List Int) (s : Si) (T : Nat → Int) (i : Nat) : Lc.St := Lc.ste (G c 13) (G c 14) (G c 15) (s.ch i).st (T i != 0)
def bW (c : List Int) (s : Si) (T : Nat → Int) (i : Nat) : Int := Lc.wha (G c 13) (G c 14) (G c 15) (s.ch i).st (T i != 0)
def bC (c : List Int) (s : Si) (r : Nat → Rw) (T : Nat → Int) (i : Nat) : Ch := { s.ch i with off := bO c s r i, st := bS c s T i }
def upto (k : Nat) {α : Type} (f g : Nat → α) (i : Nat) : α := if i < k then f i else g i
theorem upto_same {α : Type} (k : Nat) (f g : Nat → α) : upto k f g k = g k := if_neg (Nat.lt_irrefl k)
theorem upto_succ {α : Type} (k : Nat) (f g : Nat → α) : (fun i => if i = k then f k else upto k f g i) = upto (k + 1) f g := by
  funext i
  unfold upto
  by_cases e : i = k
  · subst e; rw [if_pos rfl, if_pos (Nat.lt_succ_self _)]
  · rw [if_neg e]
    by_cases h : i < k
    · rw [if_pos h, if_pos (by omega)]
    · rw [if_neg h, if_neg (by omega)]
theorem upto_zero {α : Type} (f g : Nat → α) : upto 0 f g = g := by funext i; exact if_neg (Nat.not_lt_zero i)
theorem pt_upto (s : Si) (k : Nat) (f : Nat → Ch) (g : Nat → Ch) (h : Ch) (e : h = f k) : pt { s with ch := upto k f g } k h = { s with ch := upto (k + 1) f g } := by
  subst e
  show ({ s with ch := fun i => if i = k then f k else upto k f g i } : Si) = _
  rw [upto_succ]
/-- All that lies there while the call goes on. -/
structure En (W X : World) (S : Nat → Prop) (p : Pl) (c : List Int) (s : Si) (ls : Nat → Int) (r : Nat → Rw) (o rb : Nat) (R : List Value) : Prop where
  rx : RX X S p c s ls
  out : VRow X o 49 R
  rule : VRow X rb 145 (Lc.rlr (G c 13) (G c 14) (G c 15))
  raw : VRow X W.heap.size 46 (raw8 r)
  but : But (fun j => S j ∨ j = o) W X
  rbg : W.heap.size < rb
section
variable {W X Y : World} {S : Nat → Prop} {p : Pl} {c : List Int} {s s' : Si} {ls ls' : Nat → Int} {r : Nat → Rw} {o rb : Nat} {R R' : List Value}
theorem En.on (h : En W X S p c s ls r o rb R) (b : Below X.heap.size X Y) : En W Y S p c s ls r o rb R :=
  ⟨h.rx.on b, h.out.below b h.out.lt, h.rule.below b h.rule.lt, h.raw.below b h.raw.lt, h.but.grow b, h.rbg⟩
theorem En.sig (h : En W X S p c s ls r o rb R) (hS : ∀ j, S j → j < W.heap.size) (ho : ¬ S o) (b : Only p.g X Y) (rx : RX Y S p c s' ls') : En W Y S p c s' ls' r o rb R := by
  have hg := h.rx.own.1
  have hl := hS _ hg
  have := h.rbg
  exact ⟨rx, h.out.only b (fun e => ho (e ▸ hg)), h.rule.only b (by omega), h.raw.only b (by omega), h.but.trans (b.mono fun j e => .inl (e ▸ hg)), h.rbg⟩
theorem En.res (h : En W X S p c s ls r o rb R) (hlt : o < W.heap.size) (ho : ¬ S o) (b : Only o X Y) (v : VRow Y o 49 R') : En W Y S p c s ls r o rb R' := by
  have := h.rbg
  exact ⟨h.rx.keep b (fun j hj e => ho (e ▸ hj)), v, h.rule.only b (by omega), h.raw.only b (by omega), h.but.trans (b.mono fun j e => .inr e), h.rbg⟩
end
theorem pt_pt (s : Si) (k : Nat) (A B : Ch) : pt (pt s k A) k B = pt s k B := by
  unfold pt
  congr 1
  funext j
  dsimp only
  split <;> rfl
theorem sizeRl : (Tryz.prog.info? 145).map (·.size) = some 3 := by kernel_rfl
theorem aggRl (w : World) : (isAgg 145).run Tryz.prog w = .ok true w := by simp [isAgg, run_underlying Tryz.underlying145]
theorem sizeSr5 : (Tryz.prog.info? 58).map (·.size) = some 5 := by kernel_rfl
set_option maxRecDepth 100000 in
set_option maxHeartbeats 3200000 in
theorem rend_any {W : World} {S : Nat → Prop} {p : Pl} {c : List Int} {s : Si} {ls : Nat → Int} {r : Nat → Rw} {o : Nat} {v0 v1 v2 v3 : Int} {v4 : Bool} {T E : Nat → Int} (H : RX W S p c s ls) (hc : c.length = 21) (hR : Cf.Right c) (hO : Ok c s) (hlen : s.votes.length ≤ 1000)
    (ho : VRow W o 49 (rsf v0 v1 v2 v3 v4 T E)) (hoS : ¬ S o) :
    Calls Tryz.prog 39 #[.pointer (some ⟨p.g, 0, none⟩), .agg (raw8 r).toArray, .pointer (some ⟨o, 0, none⟩)] W fun e w' => e = .returned (.tuple #[]) ∧ (∃ S', RX w' S' p c { s with votes := s.votes ++ [s.val], ch := upto (NN c) (bC c s r T) s.ch } ls ∧ (∀ j, S' j → S j ∨ W.heap.size ≤ j)) ∧
      VRow w' o 49 (rsf v0 v1 v2 v3 v4 T (upto (NN c) (bW c s T) E)) ∧ But (fun j => S j ∨ j = o) W w' := by
  have B0 := Lib.hid ((Below.refl W.heap.size W).alloc (Nat.le_refl _) (.cells (raw8 r).toArray 46))
  have R0 := Lib.hid (VRow.new W (raw8 r) 46)
  have X0 := Lib.hid (H.on B0.out)
  have O0 := Lib.hid (ho.below B0.out ho.lt)
  have HIN := Lib.hid H
  have HC := Lib.hid hc
  have HOS := Lib.hid hoS
  have HOL := Lib.hid ho.lt
  have HOK := Lib.hid hO
  have HR := Lib.hid hR
  have HLEN := Lib.hid hlen
  have h34 := NN_34 hR
  have hNE := NN_eq hR
  clear H hc hoS hO ho hlen
  go_enter Tryz.func39, Tryz.ntmps39
  go_upto_region 1 with fail
  generalize W.alloc (.cells (raw8 r).toArray 46) = W0 at *
  refine Lt.wp_region_box (aF := ?_) 18 17 116 6 28 145 (Lc.rlr 0 0 0) (Lc.rlr (G c 13) (G c 14) (G c 15)) [true, true, true, true, true, true, true, true, true, true, true, true, true, true, true, true, false, false] [false, false, false, false, false, false, false, false, false, false, false, false, false, false, false, false, true, false] (by kernel_rfl) (by kernel_rfl) (by kernel_rfl) rfl (by decide) rfl rfl ?_ sizeRl rfl (by simp [Lc.rlr, Value.oneCell']) ?_ ?_ ?_
  case refine_3 =>
    intro Y bY
    have k1 := cell_regrown ((X0.out.on bY).cfg HC.out 13 (by omega))
    have k2 := cell_regrown ((X0.out.on bY).cfg HC.out 14 (by omega))
    have k3 := cell_regrown ((X0.out.on bY).cfg HC.out 15 (by omega))
    simp only [List.take_succ_cons, List.take_zero, Lt.sel]
    repeat (go_big_quiet_step (fail))
    exact rfl
  case refine_2 => intro Y; kernel_rfl
  case refine_4 => kernel_rfl
  case refine_5 =>
    intro rb Y kp
    have N0 := Lib.hid (show En W Y S p c { s with ch := upto 0 (bC c s r T) s.ch } ls r o rb (rsf v0 v1 v2 v3 v4 T (upto 0 (bW c s T) E)) from by
      have hy := kp.below
      rw [upto_zero, upto_zero]
      have hge := kp.ge
      have hsz := R0.out.lt
      exact ⟨X0.out.on hy, O0.out.below hy O0.out.lt, kp.row, R0.out.below hy R0.out.lt, But.of_below (grow B0.out hy), by omega⟩)
    have HSL := Lib.hid (fun j (h : S j) => HIN.out.lt j h)
    have hEN : (G c 0) = (NN c : Int) := hNE.symm
    clear kp X0 O0 R0 B0 hNE
    simp only [List.drop_succ_cons, List.drop_zero, Act.put, List.setIfInBounds_toArray, List.set_cons_succ, List.set_cons_zero]
    go_wp2_with fail
    go_loopg [7] (NN c) (fun gg s7 wx => ∃ k : Nat, k + gg = NN c ∧ s7 = .int .i64 k ∧ Hid (En W wx S p c { s with ch := upto k (bC c s r T) s.ch } ls r o rb (rsf v0 v1 v2 v3 v4 T (upto k (bW c s T) E))))
    case atStart => exact ⟨0, by omega, rfl, N0⟩
    case round =>
      rename World => X
      obtain ⟨k, hkg, rfl, N⟩ := hrel
      have HKG := Lib.hid hkg
      have q0 := N.out.rx.cfg HC.out 0 (by omega)
      rw [hEN] at q0
      clear N0 hkg
      by_cases hk : k < NN c
      · have hki : (k : Int) < (NN c : Int) := by omega
        have hk4 : k < 4 := by omega
        have hk4' : (k : Int) < 4 := by omega
        have HKN := Lib.hid hk
        have i0 := N.out.raw.cell _ (raw8_is r k hk4)
        have HBO := Lib.hid (show bO c s r k = if (r k).is = true then Ql.nx (G c 10) (G c 11) (s.ch k).off (r k).n s.val else (s.ch k).off from rfl)
        obtain ⟨is, his⟩ : ∃ is, (r k).is = is := ⟨_, rfl⟩
        rw [his] at i0 HBO
        clear hk his
        go_upto_if 41 with fail
        go_cut [8, 9] from 42 to 75 (fun s8 s9 wx => Hid (En W wx S p c (pt { s with ch := upto k (bC c s r T) s.ch } k { s.ch k with off := bO c s r k }) ls r o rb (rsf v0 v1 v2 v3 v4 T (upto k (bW c s T) E))))
        case first =>
          cases is
          · go_wp2_with fail
            go_meet
            refine Lib.hid (N.out.sig HSL.out HOS.out (But.refl _ _) (RX.congr N.out.rx rfl rfl (fun j hj => ?_) (fun _ _ => rfl)))
            by_cases e : j = k
            · subst e
              rw [pt_same]
              show upto j _ _ j = _
              rw [upto_same, show bO c s r j = (s.ch j).off from by rw [HBO.out]; rfl]
            · rw [pt_other _ _ _ _ e]
          · have n1 := N.out.raw.cell _ (raw8_n r k hk4)
            have o1 := N.out.rx.ofc HC.out HKN.out (by omega)
            have a1 := N.out.rx.cfg HC.out 10 (by omega)
            have a2 := N.out.rx.cfg HC.out 11 (by omega)
            have w1 := N.out.rx.vac HC.out
            have f1 := N.out.rx.frz (32 + k)
            rw [show ({ s with ch := upto k (bC c s r T) s.ch } : Si).ch k = s.ch k from upto_same _ _ _] at o1
            have hof := (HOK.out.ch k HKN.out).off
            have hmay : Ql.may (G c 10) (G c 11) = true := by
              obtain ⟨-, -, -, -, -, -, -, -, -, -, h10, h11, -⟩ := HR.out
              exact (Ql.may_iff _ _).2 ⟨h10.1, h10.2, h11.1, h11.2⟩
            have cS := reg_call (w := X) (fun Z hZ => Ql.rlearn_any (G c 10) (G c 11) (s.ch k).off (r k).n s.val Z hmay hof)
            replace n1 := cell_regrown n1
            replace o1 := cell_regrown o1
            replace a1 := cell_regrown a1
            replace a2 := cell_regrown a2
            replace w1 := cell_regrown w1
            have HBY := Lib.hid (show bO c s r k = Ql.nx (G c 10) (G c 11) (s.ch k).off (r k).n s.val from by rw [HBO.out]; rfl)
            clear HBO q0 i0 hof hmay
            generalize Ql.nx (G c 10) (G c 11) (s.ch k).off (r k).n s.val = nn at *
            generalize Ql.ce (r k).n s.val = ce at *
            go_upto_region 6 with fail
            refine wp_region_quiet_below (by kernel_rfl) (by kernel_rfl) ?_
            repeat (go_big_quiet_step (exact cS _ _))
            refine wpQuiet_nil ?_
            intro _ hw'
            obtain ⟨⟨dq, osq⟩, hw''⟩ := hw'
            subst hw''
            have N1 := Lib.hid (N.out.on (below_regrown X dq osq))
            clear n1 o1 a1 a2 w1 f1 cS
            generalize Sort.grow (redrawn X dq) osq = X1 at *
            have f1 := N1.out.rx.frz (32 + k)
            have o1 := N1.out.rx.ofc HC.out HKN.out (by omega)
            have N2 := Lib.hid (N1.out.sig HSL.out HOS.out (only_cell p.g (32 + k) _) (N1.out.rx.setOff HC.out HKN.out (by omega) nn))
            go_wp2_with fail
            go_meet
            rw [HBY.out]
            refine Lib.hid (show En W _ S p c _ ls r o rb _ from ?_)
            have := N2.out
            rw [upto_same] at this
            exact this
        case rest =>
          have ec : (pt { s with ch := upto k (bC c s r T) s.ch } k { s.ch k with off := bO c s r k }).ch k = { s.ch k with off := bO c s r k } := pt_same _ _ _
          rename World => X
          have NR := hcut
          clear N i0 q0 HBO
          have ES := Lib.hid (show ({ s.ch k with off := bO c s r k, st := bS c s T k } : Ch) = bC c s r T k from rfl)
          have HN2 := Lib.hid (fun W' => (show Calls Tryz.prog 82 #[.agg #[.int .i64 (G c 13), .int .i64 (G c 14), .int .i64 (G c 15)], .agg (lav (s.ch k).st).toArray, .bool (T k != 0)] W' fun e w' => e = .returned (.tuple #[.agg (lav (bS c s T k)).toArray, .int .i64 (bW c s T k), .int .i64 0]) ∧ Below W'.heap.size W' w' from by
            refine (Lc.rnext_any (G c 13) (G c 14) (G c 15) (s.ch k).st (T k != 0) W').mono ?_
            rintro e w' ⟨rfl, hb⟩
            refine ⟨?_, hb⟩
            have hfn : Lc.fne (G c 13) (G c 14) (G c 15) (s.ch k).st = true := by
              unfold Lc.fne
              rw [Bool.and_eq_true]
              exact ⟨Lc.rgt_iff.2 (right_latch HR.out), Lc.fin_iff.2 (HOK.out.ch k HKN.out).st⟩
            unfold Lc.nxs Lc.nxw Lc.nxe
            rw [hfn]; rfl))
          have NC := Lib.hid (fun Y (hY : Below X.heap.size X Y) => (show (∀ (j : Nat) v, (Lc.rlr (G c 13) (G c 14) (G c 15))[j]? = some v → ∀ W', (∃ q : Regrown, W' = Sort.grow (redrawn Y q.d) q.os) → W'.cell? ⟨rb, 0 + j, none⟩ = some v) ∧ (∀ (j : Nat) v, (lav (s.ch k).st)[j]? = some v → ∀ W', (∃ q : Regrown, W' = Sort.grow (redrawn Y q.d) q.os) → W'.cell? ⟨p.g, 36 + k * 5 + j, none⟩ = some v) ∧ Y.cell? ⟨o, 5 + k, none⟩ = some (.int .i64 (T k)) from by
            have ny := NR.out.on hY
            refine ⟨fun j v hv W' hW => ?_, fun j v hv W' hW => ?_, ny.out.cell _ (rsf_T _ _ _ _ _ _ _ k hk4)⟩
            · obtain ⟨q, rfl⟩ := hW
              have := (ny.on (below_regrown Y q.d q.os)).rule
              rw [Nat.zero_add]; exact this.cell j hv
            · obtain ⟨q, rfl⟩ := hW
              exact (ny.on (below_regrown Y q.d q.os)).rx.stc HC.out HKN.out (by omega) j v (by rw [ec]; exact hv)))
          clear ec
          obtain ⟨st', hst⟩ : ∃ x, bS c s T k = x := ⟨_, rfl⟩
          obtain ⟨wh, hwh⟩ : ∃ x, bW c s T k = x := ⟨_, rfl⟩
          rw [hst, hwh] at HN2
          rw [hst] at ES
          have HWH := Lib.hid hwh
          clear hst hwh
          go_upto_region 8 with fail
          refine Lt.wp_region_box (aF := ?_) 23 20 116 10 92 58 (lav Lc.zer) (lav st') [true, true, true, true, true, true, true, true, true, true, true, true, true, true, true, true, true, true, true, false, false, true, true] [false, false, false, false, false, false, false, false, false, false, false, false, false, false, false, false, false, false, false, true, false, false, false] (by kernel_rfl) (by kernel_rfl) (by kernel_rfl) rfl (by decide) rfl rfl ?_ sizeSr5 rfl (lav_one st') ?_ ?_ ?_
          case refine_2 => intro Y; kernel_rfl
          case refine_3 =>
            intro Y bY
            obtain ⟨z1, z2, z3⟩ := NC.out Y bY
            have HZ1 := Lib.hid (fun W' hW j v hv => z1 j v hv W' hW)
            have HZ2 := Lib.hid (fun W' hW j v hv => z2 j v hv W' hW)
            replace z3 := cell_regrown z3
            have cN := reg_call (w := Y) (fun W _ => HN2.out W)
            clear z1 z2
            simp only [List.take_succ_cons, List.take_zero, Lt.sel]
            repeat (first
              | (with_reducible show wpQuiet _ _ _ _ (⟨some 77, _, _, _, _, _⟩ :: _) _
                 refine wpQuiet_loadR rfl _ rfl rb 0 (Lc.rlr (G c 13) (G c 14) (G c 15)) rfl HZ1.out aggRl sizeRl ?_
                 simp only [Act.put, List.setIfInBounds_toArray, List.set_cons_succ, List.set_cons_zero])
              | (with_reducible show wpQuiet _ _ _ _ (⟨some 83, _, _, _, _, _⟩ :: _) _
                 refine wpQuiet_loadR rfl _ rfl p.g (36 + k * 5) (lav (s.ch k).st) rfl HZ2.out Lc.aggSr sizeSr5 ?_
                 simp only [Act.put, List.setIfInBounds_toArray, List.set_cons_succ, List.set_cons_zero])
              | go_big_quiet_step (exact cN _ _))
            exact rfl
          case refine_4 => kernel_rfl
          case refine_5 =>
            intro g10 Y kp
            have NY := Lib.hid (NR.out.on kp.below)
            have KR := Lib.hid (show VRow Y g10 58 (lav st') from kp.row)
            have hge := kp.ge
            have hox : o < X.heap.size := NR.out.out.lt
            clear kp NC HN2 NR
            simp only [List.drop_succ_cons, List.drop_zero, Act.put, List.setIfInBounds_toArray, List.set_cons_succ, List.set_cons_zero]
            go_upto_region 9 with fail
            refine Tail.wp_region_quiet_tail 6 (by kernel_rfl) (by kernel_rfl) ?_
            simp only [List.take_succ_cons, List.take_zero, List.drop_succ_cons, List.drop_zero]
            have HG := Lib.hid (fun W' (hW : W' = Y.drew) (j : Nat) v (hv : (lav st')[j]? = some v) => (show W'.cell? ⟨g10, 0 + j, none⟩ = some v from by rw [hW, Nat.zero_add]; exact KR.out.drew.cell j hv))
            repeat (first
              | (with_reducible show wpQuiet _ _ _ _ (⟨some 97, _, _, _, _, _⟩ :: _) _
                 refine wpQuiet_loadR rfl _ rfl g10 0 (lav st') rfl HG.out Lc.aggSr sizeSr5 ?_
                 simp only [Act.put, List.setIfInBounds_toArray, List.set_cons_succ, List.set_cons_zero])
              | go_big_quiet_step (fail))
            refine wpQuiet_nil ?_
            have ND := Lib.hid (NY.out.on (Below.refl Y.heap.size Y).drew)
            clear NY
            refine wpList_store_mid rfl 58 _ _ rfl p.g (36 + k * 5) (lav st').toArray rfl rfl ?_ sizeSr5 (lav_one st') ?_
            · intro j hj
              have hj5 : j < (lav ((pt { s with ch := upto k (bC c s r T) s.ch } k { s.ch k with off := bO c s r k }).ch k).st).length := hj
              exact ⟨by rw [ND.out.rx.stc HC.out HKN.out (by omega) j _ (List.getElem?_eq_getElem hj5)]; rfl, ND.out.rx.frz _⟩
            have N3 := Lib.hid (ND.out.sig HSL.out HOS.out (only_cells p.g (36 + k * 5) st') (ND.out.rx.setSt HC.out HKN.out (by omega) st'))
            rw [pt_same, pt_pt, pt_upto _ _ _ _ _ ES.out] at N3
            rw [List.toList_toArray]
            clear ND
            generalize Y.drew.setCells p.g (36 + k * 5) (lav st') = Z at *
            have f3 := N3.out.out.frozen (9 + k)
            have c3 := N3.out.out.cell _ (rsf_E v0 v1 v2 v3 v4 T _ k hk4)
            have N4 := Lib.hid (N3.out.res HOL.out HOS.out (only_cell o (9 + k) (.int .i64 wh)) (N3.out.out.set (9 + k) _))
            rw [rsf_setE _ _ _ _ _ _ _ k hk4, ← HWH.out, upto_succ, HWH.out] at N4
            clear N3 HWH ES HG KR
            go_wp2_with fail
            go_roundg (NN c - k - 1)
            case rel =>
              have h1 := HKG.out
              have h2 := HKN.out
              exact ⟨k + 1, by omega, by go_num, N4⟩
            case measure =>
              have h1 := HKG.out
              have h2 := HKN.out
              omega
      · have hke : k = NN c := by have := HKG.out; omega
        have HKE := Lib.hid hke
        have hki : ¬ (k : Int) < (NN c : Int) := by omega
        rw [hke] at N
        clear hk hke
        go_upto_region 11 with fail
        have RV := fun (Y : World) (h : RX Y S p c { s with ch := upto (NN c) (bC c s r T) s.ch } ls) => Sk.rvoteb_yes p.lo p.rm (PW c) (G c 5) s.votes s.val Y ((Jp.val_iff _).2 (by
          have hv := HOK.out.val
          obtain ⟨-, h1, h2, -⟩ := HR.out
          omega)) h.room' HLEN.out
        have k1 := N.out.rx.rmc HC.out
        have k2 := N.out.rx.vac HC.out
        have ND := Lib.hid (N.out.on (Below.refl X.heap.size X).drew)
        refine Tail.wp_region_quiet_tail 8 (by kernel_rfl) (by kernel_rfl) ?_
        simp only [List.take_succ_cons, List.take_zero, List.drop_succ_cons, List.drop_zero]
        repeat (go_big_quiet_step (fail))
        refine wpQuiet_nil ?_
        go_wp2_with fail
        refine (RV X.drew ND.out.rx).mono ?_; rintro e Z ⟨rfl, R1', O1'⟩
        have X1 := Lib.hid (ND.out.rx.vote O1' R1' (by simp))
        have hp := HIN.out.own.2.1
        have O1 := Lib.hid (ND.out.out.only O1' (fun e => HOS.out (e ▸ hp)))
        have B1 := Lib.hid (ND.out.but.trans (O1'.mono fun j e => Or.inl (e ▸ hp)))
        have hsz := ND.out.but.size
        clear RV k1 k2 N ND R1' O1'
        go_wp2_with fail
        go_end0
        refine ⟨rfl, ⟨_, X1.out, fun j h => (up_of h).imp (fun q => q) (fun q => Nat.le_trans hsz q)⟩, O1.out, B1.out⟩
end Sg
end Go.Proofs.YtacclmfbkiadbaaGreat

namespace Go.Proofs.YtacclmfbkiadbaaGreat
set_option maxRecDepth 100000
open Go.ChangeShapes Go.WideShapes Go.ChangeAt Go.RowKit Go.Deep
namespace Sg
open Cf (G CA Box)
theorem ins_eq (c : List Int) (s : Si) (r : Nat → Rw) (sh : Int) (i : Nat) : ((r i).is && !Fx.has (ahd c s r i) 1 && !Fx.has (ahd c s r i) 2 && !Fx.has sh i && !(s.ch i).st.la) = isin c s r sh i := by
  unfold isin
  cases his : (r i).is
  · simp
  · have e : ahd c s r i = (if outr c (r i).n = true then 2 else 0) + (if spk c (s.ch i) (r i).n = true then 4 else 0) + (if frz c s (s.ch i) (r i).n = true then 8 else 0) := by
      unfold ahd
      rw [if_pos his]; rfl
    have h1 : Fx.has (ahd c s r i) 1 = outr c (r i).n := by
      rw [e]
      cases outr c (r i).n <;> cases spk c (s.ch i) (r i).n <;> cases frz c s (s.ch i) (r i).n <;> decide
    have h2 : Fx.has (ahd c s r i) 2 = spk c (s.ch i) (r i).n := by
      rw [e]
      cases outr c (r i).n <;> cases spk c (s.ch i) (r i).n <;> cases frz c s (s.ch i) (r i).n <;> decide
    rw [h1, h2]
/-- The lists of who is in, and of what these tell, of the first k channels. -/
def inK (c : List Int) (s : Si) (r : Nat → Rw) (sh : Int) (k : Nat) : List Nat := (List.range k).filter fun i => isin c s r sh i
theorem inK_yes {c : List Int} {s : Si} {r : Nat → Rw} {sh : Int} {k : Nat} (h : isin c s r sh k = true) : inK c s r sh (k + 1) = inK c s r sh k ++ [k] := by
  unfold inK; rw [List.range_succ, List.filter_append]; simp [h]
theorem inK_no {c : List Int} {s : Si} {r : Nat → Rw} {sh : Int} {k : Nat} (h : isin c s r sh k = false) : inK c s r sh (k + 1) = inK c s r sh k := by
  unfold inK; rw [List.range_succ, List.filter_append]; simp [h]
theorem inK_len (c : List Int) (s : Si) (r : Nat → Rw) (sh : Int) (k : Nat) : (inK c s r sh k).length ≤ k := by
  have := List.length_filter_le (fun i => isin c s r sh i) (List.range k)
  rwa [List.length_range] at this
theorem inK_all (c : List Int) (s : Si) (r : Nat → Rw) (sh : Int) : inK c s r sh (NN c) = inl c s r sh := rfl
def ownK (r : Nat → Rw) (l : List Nat) : List Int := l.map fun i => (r i).n
/-- All that lies there while a step goes on. -/
structure Sb (W X : World) (S S' : Nat → Prop) (p : Pl) (c : List Int) (s : Si) (ls : Nat → Int) (r : Nat → Rw) (R : List Value) (L U : List Int) (v u : Value) : Prop where
  rx : RX X S' p c s ls
  sub : ∀ j, S' j → S j ∨ W.heap.size + 3 ≤ j
  raw : VRow X W.heap.size 46 (raw8 r)
  res : VRow X (W.heap.size + 1) 49 (rsf 0 0 0 0 false (fun _ => 0) fun _ => 0)
  out : VRow X (W.heap.size + 1 + 1) 49 R
  own1 : OwnI .i64 (W.heap.size + 3) 3 X v L
  own2 : OwnI .i64 (W.heap.size + 3) 3 X u U
  ap : Apart v u
  n1 : ∀ g, v.ownBlock = some g → ¬ S' g
  n2 : ∀ g, u.ownBlock = some g → ¬ S' g
  but : But S W X
section
variable {W X Y Z : World} {S S' S2 : Nat → Prop} {p : Pl} {c : List Int} {s s2 : Si} {ls ls2 : Nat → Int} {r : Nat → Rw} {R R' : List Value} {L U : List Int} {v u v' u' : Value} {y : Int}
theorem Sb.big (h : Sb W X S S' p c s ls r R L U v u) : W.heap.size + 3 ≤ X.heap.size := h.out.lt
theorem Sb.lt1 (h : Sb W X S S' p c s ls r R L U v u) {g : Nat} (e : v.ownBlock = some g) : W.heap.size + 3 ≤ g ∧ g < X.heap.size := World.ownsRow.lt h.own1 g e
theorem Sb.lt2 (h : Sb W X S S' p c s ls r R L U v u) {g : Nat} (e : u.ownBlock = some g) : W.heap.size + 3 ≤ g ∧ g < X.heap.size := World.ownsRow.lt h.own2 g e
theorem Sb.on (h : Sb W X S S' p c s ls r R L U v u) (b : Below X.heap.size X Y) : Sb W Y S S' p c s ls r R L U v u :=
  ⟨h.rx.on b, h.sub, h.raw.below b h.raw.lt, h.res.below b h.res.lt, h.out.below b h.out.lt, Ws.owns_on h.own1 b, Ws.owns_on h.own2 b, h.ap, h.n1, h.n2, h.but.grow b⟩
/-- A call that writes what is the signal's alone. -/
theorem Sb.call (h : Sb W X S S' p c s ls r R L U v u) (hS : ∀ j, S j → j < W.heap.size) (rx : RX Y S2 p c s2 ls2) (b : But S' X Y) (hs : ∀ j, S2 j → S' j ∨ X.heap.size ≤ j) : Sb W Y S S2 p c s2 ls2 r R L U v u := by
  have hb := h.big
  have no : ∀ j, j < W.heap.size + 3 → W.heap.size ≤ j → ¬ S' j := fun j h1 h2 q => by
    rcases h.sub j q with q | q
    · have := hS j q; omega
    · omega
  refine ⟨rx, fun j hj => ?_, h.raw.but b (no _ (by omega) (by omega)), h.res.but b (no _ (by omega) (by omega)), h.out.but b (no _ (by omega) (by omega)), owns_but h.own1 b h.n1, owns_but h.own2 b h.n2, h.ap, fun g e q => ?_, fun g e q => ?_, ?_⟩
  · rcases hs j hj with q | q
    · exact h.sub j q
    · exact .inr (by omega)
  · rcases hs g q with q | q
    · exact h.n1 g e q
    · have := (h.lt1 e).2; omega
  · rcases hs g q with q | q
    · exact h.n2 g e q
    · have := (h.lt2 e).2; omega
  · refine But.call h.but b fun j q => ?_
    rcases h.sub j q with q | q
    · exact .inl q
    · exact .inr (by omega)
theorem Sb.sig (h : Sb W X S S' p c s ls r R L U v u) (hS : ∀ j, S j → j < W.heap.size) (b : Only p.g X Y) (rx : RX Y S' p c s2 ls2) : Sb W Y S S' p c s2 ls2 r R L U v u :=
  h.call hS rx (b.mono fun _ e => e ▸ h.rx.own.1) fun _ q => .inl q
theorem Sb.put (h : Sb W X S S' p c s ls r R L U v u) (hS : ∀ j, S j → j < W.heap.size) (b : Only (W.heap.size + 1 + 1) X Y) (vr : VRow Y (W.heap.size + 1 + 1) 49 R') : Sb W Y S S' p c s ls r R' L U v u := by
  have no : ¬ S' (W.heap.size + 1 + 1) := fun q => by
    rcases h.sub _ q with q | q
    · have := hS _ q; omega
    · omega
  refine ⟨h.rx.keep b (fun _ hj e => no (e ▸ hj)), h.sub, h.raw.only b (by omega), h.res.only b (by omega), vr, owns_but h.own1 b (fun g e q => by have := (h.lt1 e).1; omega), owns_but h.own2 b (fun g e q => by have := (h.lt2 e).1; omega), h.ap, h.n1, h.n2, But.call h.but b fun _ e => .inr (by omega)⟩
theorem Sb.one (h : Sb W X S S' p c s ls r R L U v u) (o : OwnI .i64 (W.heap.size + 3) 3 Y v' (L ++ [y])) (B0 : Below X.heap.size X Z) (mv : Moved Z v v') (B : Z.grownBy Y v.ownBlock) : Sb W Y S S' p c s ls r R (L ++ [y]) U v' u := by
  have hb := h.big
  have g0 := B0.size
  have B' : But (fun k => v.ownBlock = some k) X Y := (But.of_below B0).trans ⟨B.os, B.tape, B.output, B.size, fun k hk hn => B.block k hk (fun e => hn e.symm)⟩
  refine ⟨h.rx.keep B' (fun j hj e => h.n1 j e hj), h.sub, h.raw.but B' (fun e => by have := (h.lt1 e).1; omega), h.res.but B' (fun e => by have := (h.lt1 e).1; omega), h.out.but B' (fun e => by have := (h.lt1 e).1; omega), o, owns_but h.own2 B' (fun g e q => h.ap g q e), fun g e1 e2 => ?_, fun g e q => ?_, h.n2, But.call h.but B' fun _ e => .inr (by have := (h.lt1 e).1; omega)⟩
  · rcases mv with q | q
    · exact h.ap g (q.symm.trans e1) e2
    · have := (h.lt2 e2).2
      rw [e1] at q; cases q; omega
  · rcases mv with m | m
    · exact h.n1 g (m.symm.trans e) q
    · rw [e] at m; cases m
      have := h.rx.lt _ q; omega
theorem Sb.two (h : Sb W X S S' p c s ls r R L U v u) (o : OwnI .i64 (W.heap.size + 3) 3 Y u' (U ++ [y])) (B0 : Below X.heap.size X Z) (mv : Moved Z u u') (B : Z.grownBy Y u.ownBlock) : Sb W Y S S' p c s ls r R L (U ++ [y]) v u' := by
  have hb := h.big
  have g0 := B0.size
  have B' : But (fun k => u.ownBlock = some k) X Y := (But.of_below B0).trans ⟨B.os, B.tape, B.output, B.size, fun k hk hn => B.block k hk (fun e => hn e.symm)⟩
  refine ⟨h.rx.keep B' (fun j hj e => h.n2 j e hj), h.sub, h.raw.but B' (fun e => by have := (h.lt2 e).1; omega), h.res.but B' (fun e => by have := (h.lt2 e).1; omega), h.out.but B' (fun e => by have := (h.lt2 e).1; omega), owns_but h.own1 B' (fun g e q => h.ap g e q), o, fun g e1 e2 => ?_, h.n1, fun g e q => ?_, But.call h.but B' fun _ e => .inr (by have := (h.lt2 e).1; omega)⟩
  · rcases mv with q | q
    · exact h.ap g e1 (q.symm.trans e2)
    · have := (h.lt1 e1).2
      rw [e2] at q; cases q; omega
  · rcases mv with m | m
    · exact h.n2 g (m.symm.trans e) q
    · rw [e] at m; cases m
      have := h.rx.lt _ q; omega
end
end Sg
end Go.Proofs.YtacclmfbkiadbaaGreat

namespace Go.Proofs.YtacclmfbkiadbaaGreat
set_option maxRecDepth 100000
open Go.ChangeShapes Go.WideShapes Go.ChangeAt Go.RowKit Go.Deep
namespace Dr
open Fx (ret_bool)
set_option maxHeartbeats 800000 in
theorem rcome_any (lag level d : Int) (w : World) (hl : -4294967296 ≤ level ∧ level ≤ 4294967296) (h0 : 0 ≤ lag) (h8 : lag ≤ 8) :
    Calls Tryz.prog 37 #[.int .i64 lag, .int .i64 level, .int .i64 d] w fun e w' => e = .returned (.tuple #[.int .i64 (nx lag level d), .int .i64 (ce d)]) ∧ Below w.heap.size w w' := by
  cases hd : dif d
  · rw [ce_no hd, nx_no hd]
    unfold dif at hd
    clear hl h0 h8
    cases d1 : decide (d < -4294967296)
    · have d2 : decide (4294967296 < d) = true := by simp at d1 hd ⊢; omega
      clear hd
      go_enter Tryz.func37, Tryz.ntmps37
      go_wp2
      go_ret2
      exact ⟨rfl, Below.refl _ _⟩
    · clear hd
      go_enter Tryz.func37, Tryz.ntmps37
      go_wp2
      go_ret2
      exact ⟨rfl, Below.refl _ _⟩
  · have hn := nx_level (d := d) hl h0 h8
    have hd' := (dif_iff d).1 hd
    have HX := Lib.hid (nx_yes (lag := lag) (level := level) hd)
    rw [ce_yes hd]
    generalize nx lag level d = x at *
    have d1 : decide (d < -4294967296) = false := by simp; omega
    have d2 : decide (4294967296 < d) = false := by simp; omega
    have CS := fun W => Fx.rshift_any (d - level) lag W
    generalize Fx.shift (d - level) lag = s at *
    obtain rfl : s = x - level := by have := HX.out; omega
    have n1 : -9223372036854775808 ≤ d - level := by omega
    have n2 : d - level ≤ 9223372036854775807 := by omega
    have n3 : level + (x - level) = x := by omega
    clear hd hd' HX h0 h8
    go_enter Tryz.func37, Tryz.ntmps37
    go_wp2_with fail
    refine (CS _).mono ?_; rintro e w1 ⟨rfl, b1⟩
    go_wp2
    go_ret2
    exact ⟨rfl, b1⟩
end Dr
end Go.Proofs.YtacclmfbkiadbaaGreat

namespace Go.Proofs.YtacclmfbkiadbaaGreat
set_option maxRecDepth 100000
open Go.ChangeShapes Go.WideShapes Go.ChangeAt Go.RowKit Go.Deep
namespace Sg
open Cf (G CA Box)
def sA (s : Si) (r : Nat → Rw) (k : Nat) : Si := { s with ch := upto k (aw s r) s.ch }
def lA (r : Nat → Rw) (ls : Nat → Int) (k : Nat) : Nat → Int := upto k (fun i => (r i).n) ls
theorem sA_ch (s : Si) (r : Nat → Rw) (k : Nat) : (sA s r k).ch k = s.ch k := upto_same _ _ _
theorem ahd_A (c : List Int) (s : Si) (r : Nat → Rw) (k : Nat) : ahd c (sA s r k) r k = ahd c s r k := by
  unfold ahd frz
  rw [sA_ch]; rfl
theorem aw_A (s : Si) (r : Nat → Rw) (k : Nat) : aw (sA s r k) r k = aw s r k := by
  unfold aw
  rw [sA_ch]
theorem pt_A (s : Si) (r : Nat → Rw) (k : Nat) : pt (sA s r k) k (aw s r k) = sA s r (k + 1) := pt_upto s k (aw s r) s.ch _ rfl
theorem al_A (r : Nat → Rw) (ls : Nat → Int) (k : Nat) : al r (lA r ls k) k = lA r ls (k + 1) := upto_succ k (fun i => (r i).n) ls
theorem rahead_any {W : World} {S : Nat → Prop} {p : Pl} {c : List Int} {s : Si} {ls : Nat → Int} {r : Nat → Rw} {i : Nat} (H : RX W S p c s ls) (hc : c.length = 21) (hR : Cf.Right c) (hi : i < NN c) (h4 : NN c ≤ 4) (hv : (r i).is = true → Jp.val (r i).n = true) (hl : (s.ch i).has = true → Jp.val (s.ch i).last = true) (hls : ls i = (s.ch i).last) (hk : (s.ch i).k ≤ 1000) (hV : s.votes.length ≤ 1000) :
    Calls Tryz.prog 34 #[.pointer (some ⟨p.g, 0, none⟩), .int .i64 i, rwv (r i)] W fun e w' => e = .returned (.int .i64 (ahd c s r i)) ∧ (∃ S', RX w' S' p c (pt s i (aw s r i)) (al r ls i) ∧ ∀ j, S' j → S j ∨ W.heap.size ≤ j) ∧ But S W w' := by
  cases h : (r i).is
  · exact rahead_no H hc hi h4 h
  · exact rahead_yes H hc hR hi h4 h (hv h) hl hls hk hV
theorem sq_A (c : List Int) (s : Si) (r : Nat → Rw) (k : Nat) (h : k < NN c) : sq c (sA s r (k + 1)) k = (s.ch k).st := by
  unfold sq
  rw [if_pos h]
  show (upto (k + 1) (aw s r) s.ch k).st = _
  unfold upto
  rw [if_pos (Nat.lt_succ_self k)]; rfl
theorem idx_snoc (l : List Nat) (k : Nat) : idx l ++ [(k : Int)] = idx (l ++ [k]) := by unfold idx; rw [List.map_append]; rfl
theorem own_snoc (r : Nat → Rw) (l : List Nat) (k : Nat) : ownK r l ++ [(r k).n] = ownK r (l ++ [k]) := by unfold ownK; rw [List.map_append]; rfl
def zf : Nat → Int := fun _ => 0
theorem midb_any {c : List Int} {s : Si} {r : Nat → Rw} {sh : Int} (hR : Cf.Right c) (hr : Rok c r) (hO : Ok c s) : Od.midb (own c s r sh) = any c s r sh := by
  have hl := inl_len (s := s) (r := r) (sh := sh) hR
  cases ha : any c s r sh
  · have h0 : inl c s r sh = [] := by unfold any at ha; simpa using ha
    exact Od.midb_no (.inr (.inl (by unfold own; rw [h0]; simp)))
  · have h0 := any_iff.1 ha
    have h1 : 1 ≤ (inl c s r sh).length := by
      cases e : inl c s r sh with
      | nil => exact absurd e h0
      | cons a l => simp
    exact Od.midb_yes (own_ok hR hr hO) (by unfold own; rw [List.length_map]; exact h1) (by unfold own; rw [List.length_map]; exact hl)
theorem midv_bd {c : List Int} {s : Si} {r : Nat → Rw} {sh : Int} (hR : Cf.Right c) (hr : Rok c r) (hO : Ok c s) : -2147483648 ≤ Od.midv (own c s r sh) ∧ Od.midv (own c s r sh) ≤ 2147483647 := by
  have hl := inl_len (s := s) (r := r) (sh := sh) hR
  cases ha : any c s r sh
  · have hb := midb_any (sh := sh) hR hr hO
    rw [ha] at hb
    unfold Od.midv
    rw [hb]; simp
  · have h0 := any_iff.1 ha
    have h1 : 1 ≤ (inl c s r sh).length := by
      cases e : inl c s r sh with
      | nil => exact absurd e h0
      | cons a l => simp
    have hk := own_ok (sh := sh) hR hr hO
    have h1' : 1 ≤ (own c s r sh).length := by unfold own; rw [List.length_map]; exact h1
    have h4' : (own c s r sh).length ≤ 4 := by unfold own; rw [List.length_map]; exact hl
    have hel : ∀ k, k < (own c s r sh).length → -2147483648 ≤ (Od.srt (own c s r sh)).getD k 0 ∧ (Od.srt (own c s r sh)).getD k 0 ≤ 2147483647 := fun k hk => by
      have hm : (Od.srt (own c s r sh)).getD k 0 ∈ own c s r sh := by
        refine (Od.srt_perm _).mem_iff.1 ?_
        have hlen : k < (Od.srt (own c s r sh)).length := by rw [(Od.srt_perm _).length_eq]; exact hk
        rw [List.getD_eq_getElem?_getD, List.getElem?_eq_getElem hlen]; simp
      unfold own at hm
      obtain ⟨i, hi, he⟩ := List.mem_map.1 hm
      have := (in_nums hR hr hO hi).2.1
      unfold own; omega
    have hmid := Od.mid_in hk h1' h4'
    have e0 := hel 0 (by omega)
    have e1 := hel ((own c s r sh).length - 1) (by omega)
    omega
theorem ahd_b (c : List Int) (s : Si) (r : Nat → Rw) (i : Nat) : 0 ≤ ahd c s r i ∧ ahd c s r i < 16 := by
  unfold ahd Jp.trips
  split <;> (try split) <;> (try split) <;> (try split) <;> omega
theorem upto_skip {α : Type} (k : Nat) (f g : Nat → α) (h : f k = g k) : upto (k + 1) f g = upto k f g := by
  rw [← upto_succ]
  funext i
  by_cases e : i = k
  · subst e; rw [if_pos rfl, upto_same]; exact h
  · rw [if_neg e]
def fB (c : List Int) (s : Si) (r : Nat → Rw) (sh : Int) (i : Nat) : Ch := { aw s r i with lev := lev c s r sh i }
def sB (c : List Int) (s : Si) (r : Nat → Rw) (sh : Int) (k : Nat) : Si := { s with ch := upto k (fB c s r sh) (sA s r (NN c)).ch }
def gB (c : List Int) (s : Si) (r : Nat → Rw) (sh : Int) (i : Nat) : Int := ahd c s r i + (if drf c s r sh i = true then 16 else 0)
def tB (c : List Int) (s : Si) (r : Nat → Rw) (sh : Int) (k : Nat) : Nat → Int := upto k (gB c s r sh) (upto (NN c) (ahd c s r) zf)
theorem sA_at (c : List Int) (s : Si) (r : Nat → Rw) (k : Nat) (h : k < NN c) : (sA s r (NN c)).ch k = aw s r k := if_pos h
theorem sB_ch (c : List Int) (s : Si) (r : Nat → Rw) (sh : Int) (k : Nat) (h : k < NN c) : (sB c s r sh k).ch k = aw s r k := (upto_same _ _ _).trans (sA_at c s r k h)
theorem sB_0 (c : List Int) (s : Si) (r : Nat → Rw) (sh : Int) : sB c s r sh 0 = sA s r (NN c) := by unfold sB; rw [upto_zero]; rfl
theorem tB_0 (c : List Int) (s : Si) (r : Nat → Rw) (sh : Int) : tB c s r sh 0 = upto (NN c) (ahd c s r) zf := upto_zero _ _
theorem tB_at (c : List Int) (s : Si) (r : Nat → Rw) (sh : Int) (k : Nat) (h : k < NN c) : tB c s r sh k k = ahd c s r k := (upto_same _ _ _).trans (if_pos h)
theorem sB_skip (c : List Int) (s : Si) (r : Nat → Rw) (sh : Int) (k : Nat) (h : k < NN c) (hl : lev c s r sh k = (s.ch k).lev) : sB c s r sh (k + 1) = sB c s r sh k := by
  unfold sB
  rw [upto_skip]
  rw [sA_at c s r k h]
  unfold fB
  rw [hl]; rfl
theorem tB_skip (c : List Int) (s : Si) (r : Nat → Rw) (sh : Int) (k : Nat) (h : k < NN c) (hd : drf c s r sh k = false) : tB c s r sh (k + 1) = tB c s r sh k := by
  unfold tB
  rw [upto_skip]
  unfold gB
  rw [hd]
  show _ = (if k < NN c then ahd c s r k else zf k)
  rw [if_pos h]; simp
theorem sB_pt (c : List Int) (s : Si) (r : Nat → Rw) (sh : Int) (k : Nat) (h : k < NN c) : pt (sB c s r sh k) k { (sB c s r sh k).ch k with lev := lev c s r sh k } = sB c s r sh (k + 1) := by
  rw [sB_ch c s r sh k h]
  exact pt_upto s k (fB c s r sh) (sA s r (NN c)).ch _ rfl
theorem tB_put (c : List Int) (s : Si) (r : Nat → Rw) (sh : Int) (k : Nat) (hd : drf c s r sh k = true) : (fun j => if j = k then ahd c s r k + 16 else tB c s r sh k j) = tB c s r sh (k + 1) := by
  have e : gB c s r sh k = ahd c s r k + 16 := by unfold gB; rw [hd]; rfl
  rw [← e]
  exact upto_succ k _ _
theorem idx_len (l : List Nat) : (idx l).length = l.length := by unfold idx; rw [List.length_map]
def sC (c : List Int) (s : Si) (r : Nat → Rw) (sh : Int) : Si := { sB c s r sh (NN c) with val := val c s r sh }
theorem sB_at (c : List Int) (s : Si) (r : Nat → Rw) (sh : Int) (i : Nat) (h : i < NN c) : (sB c s r sh (NN c)).ch i = fB c s r sh i := if_pos h
theorem eV_B (c : List Int) (s : Si) (r : Nat → Rw) (sh : Int) : eV (sB c s r sh (NN c)) r (inl c s r sh) = evs c s r sh := by
  unfold eV evs
  refine List.map_congr_left fun i hi => ?_
  rw [sB_at c s r sh i (inl_iff.1 hi).1]; rfl
theorem val_B (c : List Int) (s : Si) (r : Nat → Rw) (sh : Int) : valV c (sB c s r sh (NN c)) (evs c s r sh) (wV c (inl c s r sh)) = val c s r sh := rfl
theorem sus_B (c : List Int) (s : Si) (r : Nat → Rw) (sh : Int) : susV (evs c s r sh) (G c 9) (inl c s r sh) = sus c s r sh := rfl
def gC (c : List Int) (s : Si) (r : Nat → Rw) (sh : Int) (i : Nat) : Int := gB c s r sh i + (if mis c s r sh i = true then 32 else 0)
def tM (c : List Int) (s : Si) (r : Nat → Rw) (sh : Int) (k : Nat) : Nat → Int := upto k (gC c s r sh) (tB c s r sh (NN c))
theorem tM_0 (c : List Int) (s : Si) (r : Nat → Rw) (sh : Int) : tM c s r sh 0 = tB c s r sh (NN c) := upto_zero _ _
theorem tM_at (c : List Int) (s : Si) (r : Nat → Rw) (sh : Int) (k : Nat) (h : k < NN c) : tM c s r sh k k = gB c s r sh k := (upto_same _ _ _).trans (if_pos h)
theorem tM_skip (c : List Int) (s : Si) (r : Nat → Rw) (sh : Int) (k : Nat) (h : k < NN c) (hd : mis c s r sh k = false) : tM c s r sh (k + 1) = tM c s r sh k := by
  unfold tM
  rw [upto_skip]
  unfold gC
  rw [hd]
  show _ = (if k < NN c then gB c s r sh k else _)
  rw [if_pos h]; simp
theorem tM_put (c : List Int) (s : Si) (r : Nat → Rw) (sh : Int) (k : Nat) (hd : mis c s r sh k = true) : (fun j => if j = k then gB c s r sh k + 32 else tM c s r sh k j) = tM c s r sh (k + 1) := by
  have e : gC c s r sh k = gB c s r sh k + 32 := by unfold gC; rw [hd]; rfl
  rw [← e]
  exact upto_succ k _ _
theorem gB_b (c : List Int) (s : Si) (r : Nat → Rw) (sh : Int) (i : Nat) : 0 ≤ gB c s r sh i ∧ gB c s r sh i < 32 := by
  have := ahd_b c s r i
  unfold gB; split <;> omega
theorem rsf_setS (v i l s : Int) (f : Bool) (T E : Nat → Int) (x : Int) : (rsf v i l s f T E).set 3 (.int .i64 x) = rsf v i l x f T E := rfl
theorem Sb.both {W X Y : World} {S S' S2 : Nat → Prop} {p : Pl} {c : List Int} {s s2 : Si} {ls ls2 : Nat → Int} {r : Nat → Rw} {R R' : List Value} {L U : List Int} {v u : Value} (h : Sb W X S S' p c s ls r R L U v u) (hS : ∀ j, S j → j < W.heap.size) (rx : RX Y S2 p c s2 ls2) (vr : VRow Y (W.heap.size + 1 + 1) 49 R') (b : But (fun j => S' j ∨ j = W.heap.size + 1 + 1) X Y) (hs : ∀ j, S2 j → S' j ∨ X.heap.size ≤ j) : Sb W Y S S2 p c s2 ls2 r R' L U v u := by
  have hb := h.big
  have no : ∀ j, j < W.heap.size + 2 → W.heap.size ≤ j → ¬ (S' j ∨ j = W.heap.size + 1 + 1) := fun j h1 h2 q => by
    rcases q with q | q
    · rcases h.sub j q with q | q
      · have := hS j q; omega
      · omega
    · omega
  refine ⟨rx, fun j hj => ?_, h.raw.but b (no _ (by omega) (by omega)), h.res.but b (no _ (by omega) (by omega)), vr, owns_but h.own1 b fun g e q => ?_, owns_but h.own2 b fun g e q => ?_, h.ap, fun g e q => ?_, fun g e q => ?_, ?_⟩
  · rcases hs j hj with q | q
    · exact h.sub j q
    · exact .inr (by omega)
  · rcases q with q | q
    · exact h.n1 g e q
    · have := (h.lt1 e).1; omega
  · rcases q with q | q
    · exact h.n2 g e q
    · have := (h.lt2 e).1; omega
  · rcases hs g q with q | q
    · exact h.n1 g e q
    · have := (h.lt1 e).2; omega
  · rcases hs g q with q | q
    · exact h.n2 g e q
    · have := (h.lt2 e).2; omega
  · refine But.call h.but b fun j q => ?_
    rcases q with q | q
    · rcases h.sub j q with q | q
      · exact .inl q
      · exact .inr (by omega)
    · exact .inr (by omega)
theorem ok_C {c : List Int} {s : Si} {r : Nat → Rw} {sh : Int} (hR : Cf.Right c) (hr : Rok c r) (hO : Ok c s) : Ok c (sC c s r sh) := by
  have hn := ok_nxt (sh := sh) hR hr hO
  refine ⟨hn.val, hO.votes, fun i hi => ?_⟩
  have e : (sC c s r sh).ch i = fB c s r sh i := sB_at c s r sh i hi
  rw [e]
  exact ⟨(hn.ch i hi).last, (hn.ch i hi).lev, (hO.ch i hi).off, (hO.ch i hi).st⟩
theorem tM_tri (c : List Int) (s : Si) (r : Nat → Rw) (sh : Int) : tM c s r sh (NN c) = tri c s r sh := by
  funext i
  unfold tM tB tri upto
  by_cases h : i < NN c
  · rw [if_pos h, if_pos h]; rfl
  · rw [if_neg h, if_neg h, if_neg h, if_neg h]; rfl
theorem tri_at {c : List Int} {s : Si} {r : Nat → Rw} {sh : Int} {i : Nat} (h : i < NN c) : tri c s r sh i = trp c s r sh i := if_pos h
theorem end_si (c : List Int) (s : Si) (r : Nat → Rw) (sh : Int) (i : Nat) (h : i < NN c) : upto (NN c) (bC c (sC c s r sh) r (tri c s r sh)) (sC c s r sh).ch i = (nxt c s r sh).ch i := by
  have e : (sC c s r sh).ch i = fB c s r sh i := sB_at c s r sh i h
  show (if i < NN c then bC c (sC c s r sh) r (tri c s r sh) i else _) = _
  rw [if_pos h]
  unfold bC bO bS
  rw [e, tri_at h]; rfl
theorem end_ev (c : List Int) (s : Si) (r : Nat → Rw) (sh : Int) : upto (NN c) (bW c (sC c s r sh) (tri c s r sh)) zf = evi c s r sh := by
  funext i
  unfold evi upto
  by_cases h : i < NN c
  · rw [if_pos h, if_pos h]
    have e : (sC c s r sh).ch i = fB c s r sh i := sB_at c s r sh i h
    unfold bW
    rw [e, tri_at h]; rfl
  · rw [if_neg h, if_neg h]; rfl
/-- Who is in, as a mask of the first k; within a round, of the first q of the list. -/
def inM (c : List Int) (s : Si) (r : Nat → Rw) (sh : Int) (k : Nat) : Int := mk4 fun i => decide (i < k) && (decide (i < NN c) && isin c s r sh i)
theorem mk4_succ (f : Nat → Bool) (i : Nat) (hi : i < 4) : mk4 (fun j => decide (j < i + 1) && f j) = mk4 (fun j => decide (j < i) && f j) + (if f i = true then 2 ^ i else 0) := by
  have : i = 0 ∨ i = 1 ∨ i = 2 ∨ i = 3 := by omega
  unfold mk4
  dsimp only
  rcases this with rfl | rfl | rfl | rfl
  all_goals
    rcases Bool.eq_false_or_eq_true (f 0) with h0 | h0 <;> rcases Bool.eq_false_or_eq_true (f 1) with h1 | h1 <;> rcases Bool.eq_false_or_eq_true (f 2) with h2 | h2 <;> rcases Bool.eq_false_or_eq_true (f 3) with h3 | h3 <;> simp [h0, h1, h2, h3]
theorem inM_succ (c : List Int) (s : Si) (r : Nat → Rw) (sh : Int) (i : Nat) (hi : i < 4) : inM c s r sh (i + 1) = inM c s r sh i + (if i ∈ inl c s r sh then 2 ^ i else 0) := by
  unfold inM
  rw [mk4_succ _ i hi]
  congr 1
  have e : (i ∈ inl c s r sh) ↔ (decide (i < NN c) && isin c s r sh i) = true := by rw [inl_iff]; simp
  by_cases h : i ∈ inl c s r sh
  · rw [if_pos h, if_pos (e.1 h)]
  · rw [if_neg h, if_neg (fun q => h (e.2 q))]
theorem inM_0 (c : List Int) (s : Si) (r : Nat → Rw) (sh : Int) : inM c s r sh 0 = 0 := by unfold inM mk4; simp
theorem inM_all (c : List Int) (s : Si) (r : Nat → Rw) (sh : Int) : inM c s r sh (NN c) = inm c s r sh := by
  unfold inM inm
  congr 1
  funext i
  cases decide (i < NN c) <;> simp
theorem take_mem_succ {l : List Nat} {k i : Nat} (hk : k < l.length) : (i ∈ l.take (k + 1)) ↔ (i ∈ l.take k ∨ i = l.getD k 0) := by
  rw [List.take_add_one, List.getElem?_eq_getElem hk, List.getD_eq_getElem?_getD, List.getElem?_eq_getElem hk, List.mem_append]
  simp
theorem take_nodup {l : List Nat} (h : l.Nodup) {k : Nat} (hk : k < l.length) : l.getD k 0 ∉ l.take k := by
  have e : l.take (k + 1) = l.take k ++ [l.getD k 0] := by
    rw [List.take_add_one, List.getElem?_eq_getElem hk, List.getD_eq_getElem?_getD, List.getElem?_eq_getElem hk]; rfl
  have hn : (l.take (k + 1)).Nodup := h.sublist (List.take_sublist _ _)
  rw [e, List.nodup_append] at hn
  intro q
  exact hn.2.2 _ q _ (List.mem_singleton.2 rfl) rfl
/-- What the list adds to the mask, of its first q. -/
def adQ (l : List Nat) (i q : Nat) : Int := if i ∈ l.take q then 2 ^ i else 0
theorem adQ_0 (l : List Nat) (i : Nat) : adQ l i 0 = 0 := by unfold adQ; simp
theorem adQ_all (l : List Nat) (i : Nat) : adQ l i l.length = if i ∈ l then 2 ^ i else 0 := by unfold adQ; rw [List.take_length]
theorem adQ_no {l : List Nat} {i q : Nat} (hq : q < l.length) (h : l.getD q 0 ≠ i) : adQ l i (q + 1) = adQ l i q := by
  unfold adQ
  have e : (i ∈ l.take (q + 1)) ↔ i ∈ l.take q := by
    rw [take_mem_succ hq]
    exact ⟨fun z => z.elim id (fun w => absurd w.symm h), .inl⟩
  by_cases z : i ∈ l.take q
  · rw [if_pos z, if_pos (e.2 z)]
  · rw [if_neg z, if_neg (fun w => z (e.1 w))]
theorem adQ_yes {l : List Nat} (hn : l.Nodup) {i q : Nat} (hq : q < l.length) (h : l.getD q 0 = i) : adQ l i q = 0 ∧ adQ l i (q + 1) = 2 ^ i := by
  subst h
  unfold adQ
  exact ⟨if_neg (take_nodup hn hq), if_pos ((take_mem_succ hq).2 (.inr rfl))⟩
theorem two_cases (i : Nat) (hi : i < 4) : (2 : Int) ^ i = 1 ∨ (2 : Int) ^ i = 2 ∨ (2 : Int) ^ i = 4 ∨ (2 : Int) ^ i = 8 := by
  have : i = 0 ∨ i = 1 ∨ i = 2 ∨ i = 3 := by omega
  rcases this with rfl | rfl | rfl | rfl <;> decide
theorem inM_low (c : List Int) (s : Si) (r : Nat → Rw) (sh : Int) (i : Nat) : 0 ≤ inM c s r sh i ∧ inM c s r sh i ≤ 15 := mk4_bd _
theorem la_sq (c : List Int) (s : Si) : (mk4 fun i => (sq c s i).la) = lam c s := by
  unfold lam
  congr 1
  funext i
  unfold sq
  by_cases h : i < NN c
  · rw [if_pos h]; simp [h]
  · rw [if_neg h]; simp [h]; rfl
end Sg
end Go.Proofs.YtacclmfbkiadbaaGreat
