/-
  What Run of rudderref15 tells: a contract by walking the Go text. Its conditions: where the list lies, and that it is no longer than what can be made.
-/
import Derived.Test.YtcpfdohodadcaaaLatchRefNext
import Derived.Test.YtcpfdohodadcaaaLatchRun
import Derived.Test.YtcpfdohodadcaaaAppend
namespace Go.Proofs.Ytcpfdohodadcaaa
open Go.ChangeShapes Go.WideShapes Go.ChangeAt Go.RowKit Go.Deep
namespace Lc

theorem ownI_putRow {k : IntKind} {base : Nat} {t : TypeId} {w : World} {v : Value} {l : List Int} (h : OwnI k base t w v l) {g : Nat} (hg : g < base) (c : Array Value) : OwnI k base t (w.setRow g c) v l := by
  obtain ⟨hl, hn | ⟨g', cap, cur, hv, hb, hh, rest⟩⟩ := h
  · exact ⟨hl, .inl hn⟩
  · exact ⟨hl, .inr ⟨g', cap, cur, hv, hb, (setRow_other w g g' c (by omega)).trans hh, rest⟩⟩
/-- What lies about while the document's run goes on. -/
structure Rn (w W : World) (L C B : Int) (l : List Bool) (g k : Nat) (v : Value) : Prop where
  below : Below w.heap.size w W
  rule : VRow W w.heap.size 32 (rlr L C B)
  res : VRow W (w.heap.size + 1) 29 (str zer)
  st : VRow W g 29 (str (runs L C B zer (l.take k)))
  own : OwnI .i64 (g + 1) 3 W v (whas L C B zer (l.take k))
  gt : w.heap.size + 1 < g
theorem Rn.on {w W W' : World} {L C B : Int} {l : List Bool} {g k : Nat} {v : Value} (h : Rn w W L C B l g k v) (b : Below W.heap.size W W') : Rn w W' L C B l g k v :=
  ⟨grow h.below b, h.rule.below b h.rule.lt, h.res.below b h.res.lt, h.st.below b h.st.lt, OwnI.below h.own b, h.gt⟩
/-- The same, with another state. -/
structure Rp (w W : World) (L C B : Int) (l : List Bool) (g k : Nat) (v : Value) (r : St) : Prop where
  below : Below w.heap.size w W
  rule : VRow W w.heap.size 32 (rlr L C B)
  res : VRow W (w.heap.size + 1) 29 (str zer)
  st : VRow W g 29 (str r)
  own : OwnI .i64 (g + 1) 3 W v (whas L C B zer (l.take k))
  gt : w.heap.size + 1 < g
theorem Rn.put {w W : World} {L C B : Int} {l : List Bool} {g k : Nat} {v : Value} (h : Rn w W L C B l g k v) (r : St) : Rp w (W.setRow g (str r).toArray) L C B l g k v r :=
  have := h.gt
  ⟨Below.put h.below (by omega) _, h.rule.putOther (by omega) _, h.res.putOther (by omega) _, h.st.put _, ownI_putRow h.own (by omega) _, h.gt⟩
theorem Rp.next {w W W' : World} {L C B : Int} {l : List Bool} {g k : Nat} {v v' : Value} (h : Rp w W L C B l g k v (ste L C B (runs L C B zer (l.take k)) (l.getD k false))) (hk : k < l.length) (b : Below (g + 1) W W')
    (o : OwnI .i64 (g + 1) 3 W' v' (whas L C B zer (l.take k) ++ [wha L C B (runs L C B zer (l.take k)) (l.getD k false)])) : Rn w W' L C B l g (k + 1) v' := by
  have hg := h.gt
  refine ⟨h.below.trans (b.mono (by omega)), h.rule.below b (by omega), h.res.below b (by omega), ?_, ?_, hg⟩
  · rw [take_more l k hk, runs_snoc]; exact h.st.below b (by omega)
  · rw [take_more l k hk, whas_snoc]; exact o
theorem rn_start {w w1 : World} {L C B : Int} {l : List Bool} (T : TwoR w w1 32 29 L C B) :
    Rn w (w1.alloc (.cells (str zer).toArray 29)) L C B l w1.heap.size 0 (.slice none 0 0) :=
  ⟨T.below.alloc T.below.size _, T.rule.alloc _, T.res.alloc _, VRow.new w1 (str zer) _, OwnI.nil, T.res.lt⟩

set_option maxHeartbeats 1600000 in
theorem rrun_no (L C B : Int) (a : Option Addr) (cap : Nat) (l : List Bool) (w : World) (h : rgt L C B = false) :
    Calls Try.prog 17 #[rlv L C B, .slice a l.length cap] w (RetRun w L C B l) := by
  have C1 := fun W => rright_any L C B W
  rw [h] at C1
  have HF := Lib.hid h
  clear h
  have T := Lib.hid (two_box w L C B 32 29)
  unfold rlv at *
  go_enter Try.func17, Try.ntmps17
  go_wp2_with (first
    | (go_at_call 13; refine (C1 _).mono ?_; rintro e w1 ⟨rfl, b1⟩; have T1 := Lib.hid (T.out.on b1); clear b1)
    | ((with_reducible show wpList _ _ _ (⟨none, .store _ (.tmp 4) _, _, _, _, _⟩ :: _) _ _); refine VB.store rfl _ _ rfl (w.heap.size + 1) (str zer) rfl rfl T1.out.res sizeSr rfl (str_one zer) ?_))
  refine bodyPost_ret (v := .tuple #[.agg (str zer).toArray, .slice none 0 0, .int .i64 1]) ?_ rfl ⟨none, 0, 0, ?_, ?_, Nat.le_refl _, Nat.zero_le _, ?_, Below.put T1.out.below (by omega) _⟩
  · exact (VB.ret3 (cs := str zer) rfl rfl (aggSr _) sizeSr (T1.out.res.put (str zer))).trans rfl
  · rw [HF.out]; rfl
  · rw [HF.out]; rfl
  · rw [HF.out]; exact Or.inl rfl

set_option maxHeartbeats 3200000 in
theorem rrun_yes (L C B : Int) (a : Option Addr) (cap : Nat) (l : List Bool) (w : World) (h : rgt L C B = true) (hl : l.length ≤ 16777216) (hb : BoolsAt w a l) :
    Calls Try.prog 17 #[rlv L C B, .slice a l.length cap] w (RetRun w L C B l) := by
  have C1 := fun W => rright_any L C B W
  rw [h] at C1
  have HF := Lib.hid h
  have HR := Lib.hid (rgt_iff.1 h)
  clear h
  have HB := Lib.hid hb
  clear hb
  have T := Lib.hid (two_box w L C B 32 29)
  unfold rlv at *
  go_enter Try.func17, Try.ntmps17
  go_wp2_with (first
    | (go_at_call 13; refine (C1 _).mono ?_; rintro e w1 ⟨rfl, b1⟩; have T1 := Lib.hid (T.out.on b1); clear b1)
    | ((with_reducible show wpList _ _ _ (⟨none, .store _ (.tmp 8) _, _, _, _, _⟩ :: _) _ _); refine VB.store rfl _ _ rfl w1.heap.size (str zer) rfl rfl (VRow.new w1 (str zer) _) sizeSr rfl (str_one zer) ?_))
  have A1 := Lib.hid (rn_start (l := l) T1.out)
  have A0 := Lib.hid ((rn_start (l := l) T1.out).put zer)
  clear T T1 C1
  go_loopg [9, 10] l.length (fun gn s9 s10 wr => ∃ (k : Nat) (v : Value), k + gn = l.length ∧ s10 = .int .i64 k ∧ s9 = v ∧ Hid (Rn w wr L C B l w1.heap.size k v))
  case atStart => exact ⟨0, _, by omega, rfl, rfl, Lib.hid ⟨A0.out.below, A0.out.rule, A0.out.res, A0.out.st, A0.out.own, A0.out.gt⟩⟩
  case round =>
    obtain ⟨k, u9, hk, rfl, rfl, HA⟩ := hrel
    clear A1 A0
    by_cases hlt : k < l.length
    · have HN := fun W (b : Below wr.heap.size wr W) => (HA.out.on b).put (ste L C B (runs L C B zer (l.take k)) (l.getD k false))
      have HX := fun W W' v' (h : Rp w W L C B l w1.heap.size k u9 (ste L C B (runs L C B zer (l.take k)) (l.getD k false))) (b : Below (w1.heap.size + 1) W W') (o : OwnI .i64 (w1.heap.size + 1) 3 W' v' (whas L C B zer (l.take k) ++ [wha L C B (runs L C B zer (l.take k)) (l.getD k false)])) => h.next hlt b o
      have CN := fun W => rnext_any L C B (runs L C B zer (l.take k)) (l.getD k false) W
      have hn := fne_of HR.out (fin_runs HR.out (l.take k) (fin_zer HR.out))
      unfold RetN nxs nxw nxe at CN
      rw [hn] at CN
      simp only [if_true] at CN
      have HL := Lib.hid (show (whas L C B zer (l.take k)).length < 1099511627776 by rw [whas_len, List.length_take]; omega)
      have S0 := HA.out.st
      have R0 := Lib.hid HA.out.rule
      rcases HB.out with hnil | ⟨b, o, rfl, hc⟩
      · exfalso; rw [hnil] at hlt; simp at hlt
      have hcell := fun W (bw : Below wr.heap.size wr W) => (bw.cell (cell_lt ((HA.out.below.cell (cell_lt (hc k hlt))).trans (hc k hlt)))).trans ((HA.out.below.cell (cell_lt (hc k hlt))).trans (hc k hlt))
      clear hc hn
      generalize ste L C B (runs L C B zer (l.take k)) (l.getD k false) = r at *
      generalize wha L C B (runs L C B zer (l.take k)) (l.getD k false) = x at *
      generalize runs L C B zer (l.take k) = s at *
      generalize l.getD k false = t at *
      replace S0 := Lib.hid S0
      replace HN := Lib.hid HN
      replace HX := Lib.hid HX
      replace hcell := Lib.hid hcell
      unfold stv at *
      go_wp2
      refine Lt.wp_region_box (aF := ?_) 14 12 44 11 34 29 (str zer) (str r) [true, true, true, true, true, true, true, true, true, true, true, false, false, true] [false, false, false, false, false, false, false, false, false, false, false, true, false, false] (by kernel_rfl) (by kernel_rfl) (by kernel_rfl) rfl (by decide) rfl rfl ?_ sizeSr rfl (str_one r) ?_ ?_ ?_
      case refine_3 =>
        intro W bW
        obtain ⟨c0, c1, c2⟩ := rl_cells (R0.out.below bW R0.out.lt)
        replace c0 := cell_regrown c0
        replace c1 := cell_regrown c1
        replace c2 := cell_regrown c2
        obtain ⟨q0, q1, q2, q3, q4⟩ := st_cells (S0.out.below bW S0.out.lt)
        replace q0 := cell_regrown q0
        replace q1 := cell_regrown q1
        replace q2 := cell_regrown q2
        replace q3 := cell_regrown q3
        replace q4 := cell_regrown q4
        have ce := cell_regrown (hcell.out W bW)
        have cN := reg_call (w := W) (fun W _ => CN W)
        simp only [List.take_succ_cons, List.take_zero, Lt.sel]
        repeat (go_big_quiet_step (exact cN _ _))
        exact rfl
      case refine_2 => exact allocSr
      case refine_4 => exact rfl
      intro gx W KW
      have P1 := HN.out W KW.below
      have S2 := Lib.hid (S0.out.below KW.below S0.out.lt)
      have K2 := Lib.hid KW
      simp only [List.drop_succ_cons, List.drop_zero, Act.put, List.setIfInBounds_toArray, List.set_cons_succ, List.set_cons_zero]
      clear KW HN S0 R0 CN hcell
      go_wp2_with (first
        | ((with_reducible show wpList _ _ _ (⟨some 37, _, _, _, _, _⟩ :: _) _ _); refine VB.loaded (cs := str r) rfl _ rfl gx rfl K2.out.row Try.underlying29 rfl sizeSr ?_)
        | ((with_reducible show wpList _ _ _ (⟨none, .store _ (.tmp 8) _, _, _, _, _⟩ :: _) _ _); refine VB.store rfl _ _ rfl w1.heap.size (str r) rfl rfl S2.out sizeSr rfl (str_one r) ?_; generalize W.setRow w1.heap.size (str r).toArray = W1 at *; have PP := Lib.hid P1; clear P1)
        | ((with_reducible show wpList _ _ _ (⟨some 41, _, _, _, _, _⟩ :: _) _ _); go_loud (refine wpList_append1 rfl (.tmp 38) (.tmp 40) _ rfl .i64 (w1.heap.size + 1) 3 8 Try.underlying42 intInfo u9 _ x _ rfl rfl PP.out.own HL.out (by omega) W1 (Below.refl _ _) PP.out.st.lt ?_); intro v41 w41 O41 B41; have N41 := Lib.hid (HX.out W1 w41 v41 PP.out B41 O41); clear O41 B41))
      go_roundg (gk - 1)
      case rel => exact ⟨k + 1, _, by omega, by go_num, rfl, N41⟩
      case measure => omega
    · obtain rfl : k = l.length := by omega
      have S1 := Lib.hid (show VRow wr w1.heap.size 29 (str (runs L C B zer l)) by have := HA.out.st; rwa [List.take_length] at this)
      obtain ⟨a9, c9, rfl, i9, l9, m9⟩ := HA.out.own.form2
      rw [List.take_length] at i9 l9
      generalize hz : runs L C B zer l = z at *
      have HZ := Lib.hid hz
      clear hz
      go_wp2_with (first
        | ((with_reducible show wpList _ _ _ (⟨some 42, _, _, _, _, _⟩ :: _) _ _); refine VB.loaded (cs := str z) rfl _ rfl w1.heap.size rfl S1.out Try.underlying29 rfl sizeSr ?_)
        | ((with_reducible show wpList _ _ _ (⟨none, .store _ (.tmp 4) _, _, _, _, _⟩ :: _) _ _); refine VB.store rfl _ _ rfl (w.heap.size + 1) (str z) rfl rfl HA.out.res sizeSr rfl (str_one _) ?_))
      have hgt := HA.out.gt
      refine bodyPost_ret (v := .tuple #[.agg (str z).toArray, .slice a9 (whas L C B zer l).length c9, .int .i64 0]) ?_ rfl ⟨a9, (whas L C B zer l).length, c9, by rw [HF.out, HZ.out]; rfl, by rw [HF.out]; rfl, l9, m9, ?_, Below.put HA.out.below (by omega) _⟩
      · exact (VB.ret3 (cs := str z) rfl rfl (aggSr _) sizeSr (HA.out.res.put (str z))).trans rfl
      · rw [HF.out]
        refine i9.but (S := fun k => k = w.heap.size + 1) (But.put (S := fun k => k = w.heap.size + 1) (But.refl _ _) (.inl rfl) _) fun ad e => ?_
        have := HA.out.own.blk ad.block (by rw [e]; rfl)
        omega

theorem rrun_any (L C B : Int) (a : Option Addr) (cap : Nat) (l : List Bool) (w : World) (hl : l.length ≤ 16777216) (hb : BoolsAt w a l) :
    Calls Try.prog 17 #[rlv L C B, .slice a l.length cap] w (RetRun w L C B l) := by
  cases h : rgt L C B
  · exact rrun_no L C B a cap l w h
  · exact rrun_yes L C B a cap l w h hl hb
end Lc
end Go.Proofs.Ytcpfdohodadcaaa
