/-
  What New of package signal returns: a contract by walking the Go text (channels made one by one, their row grows). Conditions: none beyond the configuration's length.
  What Begin of rudderref18 returns: a contract by walking the Go text. Conditions: a configuration that may be.
-/
import Derived.Test.YtacclmfbkiadbaaGreatJSignalMake2
import Derived.Test.YtacclmfbkiadbaaGreatJConfigRow6
import Derived.Test.YtacclmfbkiadbaaGreatJSignalRefAt2
import Derived.Test.YtacclmfbkiadbaaGreatJSetWrites2
namespace Go.Proofs.YtacclmfbkiadbaaGreat
set_option maxRecDepth 100000
open Go.ChangeShapes Go.WideShapes Go.ChangeAt Go.RowKit Go.Deep Go.Shelf
namespace Sg
open Cf (G CA Box)
open Rf
theorem ptrInfo : (Tryz.prog.info? 75).map (fun i => (i.zero, i.size, i.bytes)) = some (some (.pointer none), 1, 8) := by kernel_rfl
/-- A whole configuration loaded, in a region that draws. -/
theorem wpQuiet_cfg {ops : Array Oper} {C : World → Prop} {Q : Act → Prop} {o : Oper} {rest : List Oper} {a : Act} (hw : Region.wanted o (yielded ops a.tmps) = true) (x : Operand) (ho : o.op = .load 24 x)
    (b : Nat) (c : List Int) (hx : a.eval x = .pointer (some ⟨b, 0, none⟩)) (hb : ∀ w, C w → Box w b c) (hc : c.length = 21)
    (h : wpQuiet Tryz.prog ops C Q rest (a.put o.dst (.agg (CA c)))) : wpQuiet Tryz.prog ops C Q (o :: rest) a := by
  unfold wpQuiet
  rw [if_pos hw]
  refine ⟨.agg (CA c), fun w hC => ?_, h⟩
  unfold Oper.quietAt execOp
  simp only [ho, hx, Instr.loadAt, Instr.sureAddr, Sem.run_bind, Sem.run_pure, Result.andThen_ok, run_loadVar_row w b 24 24 (CA c) (0, 0) _ (hb w hC) Tryz.underlying24 rfl (by rw [Cf.CA_size, hc]; exact Cf.sizeC)]
  exact ⟨rfl, rfl⟩
theorem new_no (c : List Int) (w : World) (hc : c.length = 21) (hR : ¬ Cf.Right c) :
    Calls Tryz.prog 5 #[.agg (CA c)] w fun e w' => e = .returned (.tuple #[.pointer none, .int .i64 2]) ∧ Below w.heap.size w w' := by
  have CR := fun W => Cf.right_any c W hc
  have hrt : Cf.rt c = false := by
    cases h : Cf.rt c
    · rfl
    · exact absurd (of_decide_eq_true h) hR
  rw [hrt] at CR
  have B1 := Lib.hid (Box.new w c)
  have HC := Lib.hid hc
  have b1 := Lib.hid ((Below.refl w.heap.size w).alloc (Nat.le_refl _) (.cells (CA c) 24))
  clear hc hR hrt
  go_enter Tryz.func5, Tryz.ntmps5
  go_wp2_with (first | ((with_reducible show wpList _ _ _ (⟨some 7, _, _, _, _, _⟩ :: _) _ _); refine Cf.wpList_loadC rfl _ rfl w.heap.size c rfl B1.out HC.out ?_) | (go_at_call 19; refine (CR _).mono ?_; rintro e w2 ⟨rfl, b2⟩; have HB2 := Lib.hid (grow b1.out b2); clear b2))
  go_ret2
  exact ⟨rfl, HB2.out⟩
set_option maxRecDepth 100000 in
set_option maxHeartbeats 1600000 in
/-- A channel: its watches, its filter, its trim, itself: all new. -/
theorem newChannel_any (c : List Int) (rm : Nat) (w : World) (hc : c.length = 21) (hR : Cf.Right c) :
    Calls Tryz.prog 21 #[.agg (CA c), .pointer (some ⟨rm, 0, none⟩)] w fun e w' => ∃ x j f l t, e = .returned (.pointer (some ⟨x, 0, none⟩)) ∧ Below w.heap.size w w' ∧ (w.heap.size ≤ j ∧ j < l ∧ l < t ∧ t < f ∧ f < x) ∧
      VRow w' x 102 [.pointer (some ⟨j, 0, none⟩), .pointer (some ⟨f, 0, none⟩), .pointer (some ⟨l, 0, none⟩), .pointer (some ⟨t, 0, none⟩), .bool false, .bool false, .int .i64 0, .int .i64 0, .int .i64 0] ∧
      VRow w' j 157 (Jp.wat (G c 1) (G c 2) (G c 4) 0 false) ∧ VRow w' f 164 (Sk.wt rm 0 0) ∧ VRow w' l 161 (Dr.fil (G c 8) (G c 7) 0) ∧ VRow w' t 151 (Ql.tri (G c 10) (G c 11) 0) := by
  have B1 := Box.new w c
  have k1 := B1.at hc 1 (by omega)
  have k2 := B1.at hc 2 (by omega)
  have k4 := B1.at hc 4 (by omega)
  have b1 := Lib.hid ((Below.refl w.heap.size w).alloc (Nat.le_refl _) (.cells (CA c) 24))
  obtain ⟨h0, h1, h2, h3, h4, h5, h6, h7, h8, h9, h10, h11, -⟩ := hR
  have CJ := fun W => (Jp.new_yes (G c 1) (G c 2) (G c 4) W ((Jp.may_iff _ _ _).2 ⟨(Jp.val_iff _).2 (by omega), (Jp.val_iff _).2 (by omega), by omega, by omega, by omega⟩)).mono fun e w' q => (show ∃ g, e = .returned (.tuple #[.pointer (some ⟨g, 0, none⟩), .int .i64 0]) ∧ Kp.Kept W w' g 157 (Jp.wat (G c 1) (G c 2) (G c 4) 0 false) from ⟨_, q.1, by rw [q.2]; exact ⟨(Below.refl _ _).alloc (Nat.le_refl _) _, VRow.new _ _ _, Nat.le_refl _⟩⟩)
  have CD := fun W => (Dr.new_yes (G c 8) (G c 7) W ((Dr.may_iff _ _).2 ⟨h8.1, h8.2, h7.1, h7.2⟩)).mono fun e w' q => (show ∃ g, e = .returned (.tuple #[.pointer (some ⟨g, 0, none⟩), .int .i64 0]) ∧ Kp.Kept W w' g 161 (Dr.fil (G c 8) (G c 7) 0) from ⟨_, q.1, by rw [q.2]; exact ⟨(Below.refl _ _).alloc (Nat.le_refl _) _, VRow.new _ _ _, Nat.le_refl _⟩⟩)
  have CT := fun W => Ql.new_yes (G c 10) (G c 11) W ((Ql.may_iff _ _).2 ⟨h10.1, h10.2, h11.1, h11.2⟩)
  have CW := fun W => (Sk.watch_any rm W).mono fun e w' q => (show ∃ g, e = .returned (.pointer (some ⟨g, 0, none⟩)) ∧ Kp.Kept W w' g 164 (Sk.wt rm 0 0) from ⟨_, q.1, by rw [q.2]; exact ⟨(Below.refl _ _).alloc (Nat.le_refl _) _, VRow.new _ _ _, Nat.le_refl _⟩⟩)
  have BB := Lib.hid B1
  have HC := Lib.hid hc
  clear B1 hc h0 h1 h2 h3 h4 h5 h6 h7 h8 h9 h10 h11
  go_enter Tryz.func21, Tryz.ntmps21
  go_wp2_with (first | (go_at_call 46; refine (CJ _).mono ?_; clear CJ k1 k2 k4; rintro e w2 ⟨j, rfl, kj⟩; have X2 := Lib.hid (BB.out.on kj.below); have q8 := X2.out.at HC.out 8 (by omega); have q7 := X2.out.at HC.out 7 (by omega); have KJ := Lib.hid kj; clear kj) | (go_at_call 47; refine (CD _).mono ?_; clear CD q7 q8; rintro e w3 ⟨l, rfl, kl⟩; have X3 := Lib.hid (X2.out.on kl.below); have q10 := X3.out.at HC.out 10 (by omega); have q11 := X3.out.at HC.out 11 (by omega); have KL := Lib.hid kl; clear kl) | (go_at_call 48; refine (CT _).mono ?_; clear CT q10 q11; rintro e w4 ⟨t, rfl, kt⟩; have KT := Lib.hid kt; clear kt) | (go_at_call 49; refine (CW _).mono ?_; clear CW; rintro e w5 ⟨f, rfl, kf⟩; have KF := Lib.hid kf; clear kf))
  go_ret
  obtain ⟨bj, vj, gj⟩ := KJ.out
  obtain ⟨bl, vl, gl⟩ := KL.out
  obtain ⟨bt, vt, gt⟩ := KT.out
  obtain ⟨bf, vf, gf⟩ := KF.out
  have ww : (w.alloc (Obj.cells (CA c) 24)).heap.size = w.heap.size + 1 := by simp
  have b5 := (Below.refl w5.heap.size w5).alloc (Nat.le_refl _) (.cells #[.pointer (some ⟨j, 0, none⟩), .pointer (some ⟨f, 0, none⟩), .pointer (some ⟨l, 0, none⟩), .pointer (some ⟨t, 0, none⟩), .bool false, .bool false, .int .i64 0, .int .i64 0, .int .i64 0] 102)
  have lj := vj.lt
  have ll := vl.lt
  have lt := vt.lt
  have lf := vf.lt
  have b4 := grow bf b5
  have b3 := grow bt b4
  have b2 := grow bl b3
  exact ⟨_, j, f, l, t, rfl, grow b1.out (grow bj b2), ⟨by omega, by omega, by omega, by omega, by omega⟩, VRow.new w5 _ _, vj.below b2 lj, vf.below b5 lf, vl.below b3 ll, vt.below b4 lt⟩
set_option maxRecDepth 100000 in
set_option maxHeartbeats 3200000 in
theorem new_yes (c : List Int) (w : World) (hc : c.length = 21) (hR : Cf.Right c) :
    Calls Tryz.prog 5 #[.agg (CA c)] w fun e w' => ∃ b : Nat → Nat, e = .returned (.tuple #[.pointer (some ⟨b 0, 0, none⟩), .int .i64 0]) ∧ Lie w' b c (begin c) ∧ (∀ k, In b c k → w.heap.size ≤ k) ∧ Below w.heap.size w w' := by
  have CR := fun W => Cf.right_any c W hc
  have hrt : Cf.rt c = true := decide_eq_true hR
  rw [hrt] at CR
  have hPW := PW_bd hR
  have CS := fun W => (Sk.new_yes (PW c) (G c 5) W hPW.1 hPW.2 (by obtain ⟨-, -, -, -, -, h5, -⟩ := hR; exact h5.1) (by obtain ⟨-, -, -, -, -, h5, -⟩ := hR; exact h5.2)).mono fun e w' q => (show ∃ g, e = .returned (.tuple #[.pointer (some ⟨g, 0, none⟩), .int .i64 0]) ∧ Kp.Kept W w' g 109 (cellsI .i64 (Sk.room ((PW c : Int) + 1) (G c 5) (List.replicate 15 0) 0 0)) from ⟨_, q.1, by rw [q.2]; exact ⟨(Below.refl _ _).alloc (Nat.le_refl _) _, VRow.new _ _ _, Nat.le_refl _⟩⟩)
  have hP6 : (PW c : Int) + 1 = G c 6 := by
    obtain ⟨-, -, -, -, -, -, h6, -⟩ := hR
    unfold PW; omega
  rw [hP6] at CS
  have B1 := Lib.hid (Box.new w c)
  have HC := Lib.hid hc
  have b1 := Lib.hid ((Below.refl w.heap.size w).alloc (Nat.le_refl _) (.cells (CA c) 24))
  have BS := Lib.hid (fun rm => built_sig c rm (G c 3) hc)
  have HN := NN_34 hR
  obtain ⟨z, hz⟩ : ∃ z, z = fun rm => (sgv c rm (.slice none 0 0) (G c 3)).toArray := ⟨_, rfl⟩
  have HZ := Lib.hid hz
  clear hc hrt hz
  go_enter Tryz.func5, Tryz.ntmps5
  go_wp2_with (first | ((with_reducible show wpList _ _ _ (⟨some 7, _, _, _, _, _⟩ :: _) _ _); refine Cf.wpList_loadC rfl _ rfl w.heap.size c rfl B1.out HC.out ?_) | (go_at_call 19; refine (CR _).mono ?_; rintro e w2 ⟨rfl, b2⟩; have HB2 := Lib.hid (grow b1.out b2); have X2 := Lib.hid (B1.out.on b2); have q5 := X2.out.at HC.out 5 (by omega); have q6 := X2.out.at HC.out 6 (by omega); clear b2) | (go_at_call 20; refine (CS _).mono ?_; clear CS q5 q6; rintro e w3 ⟨rm, rfl, kr⟩; have KR := Lib.hid kr; have X3 := Lib.hid (X2.out.on kr.below); have q3 := X3.out.at HC.out 3 (by omega); have q0 := ((X3.out.below ((Below.refl w3.heap.size w3).alloc (Nat.le_refl _) (.cells (z rm) 74)) X3.out.lt)).at HC.out 0 (by omega); clear kr) | ((with_reducible show wpList _ _ _ (⟨some 22, _, _, _, _, _⟩ :: _) _ _); refine wpList_buildTo rfl _ _ rfl (z rm) (by rw [HZ.out]; simp only [List.map_toArray, List.map_cons, List.map_nil]; exact BS.out rm) ?_) | ((with_reducible show wpList _ _ _ (⟨some 18, _, _, _, _, _⟩ :: _) _ _); refine Cf.wpList_loadC rfl _ rfl w.heap.size c rfl X3.out HC.out ?_))
  clear q3 q0 CR
  have CN := Lib.hid (fun (W : World) => newChannel_any c rm W HC.out hR)
  have HHR := Lib.hid hR
  have hg : w.heap.size ≤ w3.heap.size := by have := X3.out.lt; omega
  have hgl : w.heap.size < w3.heap.size := X3.out.lt
  obtain ⟨g, hg0⟩ : ∃ g, g = w3.heap.size := ⟨_, rfl⟩
  obtain ⟨br, vr, gr⟩ := KR.out
  have hb0 : Below w.heap.size w w3 := grow HB2.out br
  have h2 := HB2.out.size
  have S0 : Sm w (w3.alloc (.cells (z rm) 74)) c w.heap.size g rm (fun p => if p = 0 then g else rm) 0 (.slice none 0 0) := by
    have hal := (Below.refl w3.heap.size w3).alloc (Nat.le_refl _) (.cells (z rm) 74)
    refine ⟨grow hb0 hal, VRow.below (w := w3) X3.out hal X3.out.lt, ?_, vr.below hal vr.lt, rfl, rfl, fun i hi => by omega, fun p q hp hq p2 q2 he => ?_, fun p hp p2 => ?_⟩
    · rw [hg0, HZ.out]; exact VRow.new _ _ _
    · have := vr.lt
      have h5 : p = 0 ∨ p = 1 := by omega
      have h6 : q = 0 ∨ q = 1 := by omega
      rcases h5 with rfl | rfl <;> rcases h6 with rfl | rfl <;> simp at he ⊢ <;> omega
    · show _ ≤ if p = 0 then g else rm
      split <;> omega
  have SS := Lib.hid S0
  clear S0 hb0 br vr gr h2 KR X3 X2 HB2 b1 B1 hR hP6 BS HZ
  generalize w3.alloc (.cells (z rm) 74) = W0 at *
  rw [← hg0] at hg hgl ⊢
  clear hg0
  obtain ⟨N0, hN0⟩ : ∃ N0, N0 = NN c := ⟨_, rfl⟩
  have hG0 : G c 0 = (N0 : Int) := by rw [hN0]; unfold NN at HN ⊢; omega
  rw [hG0]
  obtain ⟨i0, hi0, hz0, hz1, hz2⟩ := info_parts ptrInfo
  go_loopg [26] N0 (fun gn s26 wr => ∃ k : Nat, k + gn = N0 ∧ s26 = .int .i64 k ∧ Hid (∃ b v, Sm w wr c w.heap.size g rm b k v ∧ wr.ownsRow w.heap.size 75 1 v k (prow b k)))
  case atStart => exact ⟨0, by omega, rfl, Lib.hid ⟨_, _, SS.out, World.ownsRow_nil _ _ _ _⟩⟩
  case round =>
    obtain ⟨k, hk, rfl, HM⟩ := hrel
    clear SS
    cases gk with
    | zero =>
      obtain rfl : k = N0 := by omega
      have d0 : decide ((k : Int) < (k : Int)) = false := by simp
      go_wp2_with fail
      go_ret2
      obtain ⟨b, v, h1, h2⟩ := HM.out
      subst hN0
      obtain ⟨b', e0, h3, h4⟩ := h1.lie h2 HHR.out
      exact ⟨b', by rw [e0]; rfl, h3, h4, h1.below⟩
    | succ gn =>
      obtain ⟨b, v, HS, HO⟩ := HM.out
      have d0 : decide ((k : Int) < (N0 : Int)) = true := by simp; omega
      have hv : ∃ a cap, v = .slice a k cap := by
        rcases HO.2 with ⟨rfl, h0⟩ | ⟨g, cap, cur, rfl, _⟩
        · rw [h0]; exact ⟨none, 0, rfl⟩
        · exact ⟨_, cap, rfl⟩
      obtain ⟨va, vc, hv⟩ := hv
      have HSS := Lib.hid HS
      have HOO := Lib.hid HO
      have hk4 : k ≤ 4 := by omega
      have hXw := HS.below.size
      clear HS HO HM
      go_wp2_with fail
      refine Wr.wp_writes (aF := ?_) [35, 36, 37] [7, 8, 9, 12] 42 3 [true, true, true, true, true, true, true, false, false, false, true, true, false] [false, false, false, false, false, false, false, false, false, false, true, false, false] [(35, undef), (36, undef), (37, undef)]
        (fun q vs Y => match q with
          | 0 => Below wr.heap.size wr Y
          | 1 => Below wr.heap.size wr Y ∧ ∃ x j f l t, vs.getD 0 undef = .pointer (some ⟨x, 0, none⟩) ∧ (wr.heap.size ≤ j ∧ j < l ∧ l < t ∧ t < f ∧ f < x) ∧ Nw Y c rm x j f l t
          | 2 => Below wr.heap.size wr Y ∧ ∃ x j f l t, vs.getD 0 undef = .pointer (some ⟨x, 0, none⟩) ∧ (wr.heap.size ≤ j ∧ j < l ∧ l < t ∧ t < f ∧ f < x) ∧ Nw Y c rm x j f l t ∧ ∃ ad : Addr, vs.getD 1 undef = .slice (some ad) 1 1 ∧ Y.cell? ad = some (.pointer (some ⟨x, 0, none⟩))
          | 3 => Sm w Y c w.heap.size g rm b k v ∧ ∃ x j f l t, (wr.heap.size ≤ j ∧ j < l ∧ l < t ∧ t < f ∧ f < x) ∧ Nw Y c rm x j f l t ∧ ∃ ar cap, vs.getD 2 undef = .slice (some ⟨ar, 0, none⟩) (k + 1) cap ∧ Y.ownsRow w.heap.size 75 1 (.slice (some ⟨ar, 0, none⟩) (k + 1) cap) (k + 1) (prow b k ++ [.pointer (some ⟨x, 0, none⟩)])
          | _ => ∃ b' v', Sm w Y c w.heap.size g rm b' (k + 1) v' ∧ Y.ownsRow w.heap.size 75 1 v' (k + 1) (prow b' (k + 1)))
        (fun Y => Box Y w.heap.size c ∧ VRow Y g 74 (sgv c rm v (G c 3)))
        (by kernel_rfl) (by kernel_rfl) (by kernel_rfl) (by kernel_rfl) (by kernel_rfl) ?ha ?hMC ?hMg ?h0 ?hq ?hq2 ?hw ?hend
      case hq =>
        rintro Y ⟨hb, hs⟩
        have k1 := cell_regrown (hs.cell 22 (v := v) (sgv_row c HC.out rm v _))
        have HBX := Lib.hid (show ∀ W, (∃ p : Regrown, W = Sort.grow (redrawn Y p.d) p.os) → Box W w.heap.size c by rintro W ⟨p, rfl⟩; exact hb.on (below_regrown Y p.d p.os))
        clear hb hs
        subst hv
        simp only [Lt.sel, Lt.putAll, List.map_cons, List.map_nil, List.zip_cons_cons, List.zip_nil_right, List.foldl_cons, List.foldl_nil, Act.put, List.setIfInBounds_toArray, List.set_cons_succ, List.set_cons_zero]
        repeat (first
          | (with_reducible show wpQuiet _ _ _ _ (⟨some 33, _, _, _, _, _⟩ :: _) _
             refine wpQuiet_cfg rfl _ rfl w.heap.size c rfl HBX.out HC.out ?_
             simp only [Act.put, List.setIfInBounds_toArray, List.set_cons_succ, List.set_cons_zero])
          | go_big_quiet_step (fail))
        exact rfl
      case ha => rfl
      case hMC =>
        have key : ∀ Y, Sm w Y c w.heap.size g rm b k v → Box Y w.heap.size c ∧ VRow Y g 74 (sgv c rm v (G c 3)) := fun Y h => ⟨h.cfg, h.sig⟩
        rintro (_ | _ | _ | _ | q) vs Y hq hM
        · exact key _ (HSS.out.on hM)
        · exact key _ (HSS.out.on hM.1)
        · exact key _ (HSS.out.on hM.1)
        · exact key _ hM.1
        · omega
      case hMg =>
        rintro (_ | _ | _ | _ | q) vs Y Z hM hC
        · exact grow hM hC.to
        · obtain ⟨h1, x, j, f, l, t, h2, h3, h4⟩ := hM
          exact ⟨grow h1 hC.to, x, j, f, l, t, h2, h3, h4.on hC.to⟩
        · obtain ⟨h1, x, j, f, l, t, h2, h3, h4, ad, h5, h6⟩ := hM
          exact ⟨grow h1 hC.to, x, j, f, l, t, h2, h3, h4.on hC.to, ad, h5, (hC.to.cell (p := ad) (cell_blk h6)).trans h6⟩
        · obtain ⟨h1, x, j, f, l, t, h3, h4, ar, cap, h5, h6⟩ := hM
          exact ⟨h1.on hC.to, x, j, f, l, t, h3, h4.on hC.to, ar, cap, h5, owns_grow h6 hC.to⟩
        · obtain ⟨b', v', h1, h2⟩ := hM
          exact ⟨b', v', h1.on hC.to, owns_grow h2 hC.to⟩
      case h0 => exact fun _ _ => Below.refl _ _
      case hq2 =>
        intro q vs Y _ _ _
        simp only [Lt.sel]
        repeat (go_big_quiet_step (fail))
        exact rfl
      case hw =>
        rintro (_ | _ | _ | _ | q) st o hs ho vs Y hl hM
        · obtain rfl : 7 = st := by simpa using hs
          obtain rfl := Option.some.inj ho
          match vs, hl with
          | [x1, x2, x3], _ =>
            refine Wr.wp_fn (f := 21) (args := #[.agg (CA c), .pointer (some ⟨rm, 0, none⟩)]) (by kernel_rfl) (CN.out Y) ?_
            rintro e Z ⟨x, j, f, l, t, rfl, hb, ho, z1, z2, z3, z4, z5⟩
            have hMs := hM.size
            exact ⟨_, rfl, _, rfl, fun d hd hn => absurd (by cases hd; simp) hn, grow hM hb, x, j, f, l, t, rfl, ⟨by omega, ho.2⟩, ⟨z1, z2, z3, z4, z5⟩⟩
        · obtain rfl : 8 = st := by simpa using hs
          obtain rfl := Option.some.inj ho
          match vs, hl with
          | [x1, x2, x3], _ =>
            obtain ⟨h1, x, j, f, l, t, h2, h3, h4⟩ := hM
            obtain rfl : x1 = .pointer (some ⟨x, 0, none⟩) := h2
            have hnew := (Boxed.new Y 75 (.pointer (some ⟨x, 0, none⟩))).cell
            have hal := (Below.refl Y.heap.size Y).alloc (Nat.le_refl _) (.cells #[.pointer (some ⟨x, 0, none⟩)] 75)
            have HK := Lib.hid (And.intro (grow h1 hal) (And.intro h3 (And.intro (h4.on hal) hnew)))
            clear hal hnew h1 h3 h4
            simp only [Lt.putAll, List.zip_cons_cons, List.zip_nil_right, List.foldl_cons, List.foldl_nil, Act.put, List.setIfInBounds_toArray, List.set_cons_succ, List.set_cons_zero]
            unfold Oper.wp
            go_simp
            exact ⟨HK.out.1, x, rfl, j, f, l, t, HK.out.2.1, HK.out.2.2.1, ⟨Y.heap.size, 0, none⟩, rfl, HK.out.2.2.2⟩
        · obtain rfl : 9 = st := by simpa using hs
          obtain rfl := Option.some.inj ho
          match vs, hl with
          | [x1, x2, x3], _ =>
            obtain ⟨h1, x, j, f, l, t, h2, h3, h4, ad, h5, h6⟩ := hM
            obtain rfl : x1 = .pointer (some ⟨x, 0, none⟩) := h2
            obtain rfl : x2 = .slice (some ad) 1 1 := h5
            have hrY := owns_grow HOO.out h1
            have hYs := h1.size
            simp only [Lt.putAll, List.zip_cons_cons, List.zip_nil_right, List.foldl_cons, List.foldl_nil, Act.put, List.setIfInBounds_toArray, List.set_cons_succ, List.set_cons_zero]
            refine wp_append_own _ (.tmp 32) (.tmp 36) 72 rfl w.heap.size 75 i0 (.pointer none) 1 8 Tryz.underlying72 hi0 hz0 hz1 hz2 rfl (by decide) v k (prow b k) (by rw [hv]; rfl) hrY ad 1 1 [.pointer (some ⟨x, 0, none⟩)] rfl rfl ?_ (by simp [Value.oneCell']) (by unfold maxLen; omega) (by omega) (by omega) ?_
            · intro j w hj
              match j, hj with
              | 0, hj => simp at hj; subst hj; simpa [Addr.add] using h6
            · intro v' w' g1 g2 _
              obtain ⟨g', cap', rfl⟩ := ownsRow_succ g1
              refine ⟨_, rfl, fun d hd hn => absurd (by cases hd; simp) hn, (HSS.out.on h1).grown hrY (Nat.le_refl _) g2, x, j, f, l, t, h3, h4.grown hrY g2, g', cap', rfl, g1⟩
        · obtain rfl : 12 = st := by simpa using hs
          obtain rfl := Option.some.inj ho
          match vs, hl with
          | [x1, x2, x3], _ =>
            obtain ⟨h1, x, j, f, l, t, h3, h4, ar, cap, h5, h6⟩ := hM
            obtain rfl : x3 = .slice (some ⟨ar, 0, none⟩) (k + 1) cap := h5
            have cl := h1.sig.cell 22 (v := v) (sgv_row c HC.out rm v _)
            have fl := h1.sig.frozen 22
            have HK := Lib.hid (show ∃ b' v', Sm w (Y.setCell ⟨g, 22, none⟩ (.slice (some ⟨ar, 0, none⟩) (k + 1) cap)) c w.heap.size g rm b' (k + 1) v' ∧ (Y.setCell ⟨g, 22, none⟩ (.slice (some ⟨ar, 0, none⟩) (k + 1) cap)).ownsRow w.heap.size 75 1 v' (k + 1) (prow b' (k + 1)) from
              ⟨ext b k x j f l t, _, (h1.next h4 (fun p hp p2 => HSS.out.lt hp p2) hXw h3).row HC.out _ (by omega), by rw [prow_ext]; exact vrow_set h1.sig (by decide) h6 _⟩)
            clear h1 h3 h4 h6
            subst hv
            simp only [Lt.putAll, List.zip_cons_cons, List.zip_nil_right, List.foldl_cons, List.foldl_nil, Act.put, List.setIfInBounds_toArray, List.set_cons_succ, List.set_cons_zero]
            unfold Oper.wp
            go_simp
            exact HK.out
        · simp at hs
      case hend =>
        intro vs Y hl hM
        have HK := Lib.hid (show ∃ b' v', Sm w Y c w.heap.size g rm b' (k + 1) v' ∧ Y.ownsRow w.heap.size 75 1 v' (k + 1) (prow b' (k + 1)) from hM)
        clear hM
        match vs, hl with
        | [x1, x2, x3], _ =>
          simp only [Lt.putAll, List.zip_cons_cons, List.zip_nil_right, List.foldl_cons, List.foldl_nil, Act.put, List.setIfInBounds_toArray, List.set_cons_succ, List.set_cons_zero]
          go_wp2_with fail
          go_roundg gn
          case rel => exact ⟨k + 1, by omega, by go_num, HK⟩
          case measure => omega
end Sg
end Go.Proofs.YtacclmfbkiadbaaGreat

namespace Go.Proofs.YtacclmfbkiadbaaGreat
set_option maxRecDepth 100000
open Go.ChangeShapes Go.WideShapes Go.ChangeAt Go.RowKit Go.Deep Go.Shelf
namespace Sg
open Cf (G CA Box)
theorem rptrInfo : (Tryz.prog.info? 78).map (fun i => (i.zero, i.size, i.bytes)) = some (some (.pointer none), 1, 8) := by kernel_rfl
def nils : Nat → Value := fun _ => .slice none 0 0
def rs0 (c : List Int) (rm : Nat) (v : Value) : List Value := rsg c (.pointer (some ⟨rm, 0, none⟩)) (G c 3) v nils (fun _ => 0) (fun _ => 0) (fun _ => Lc.zer)
theorem built_rsg (c : List Int) (rm : Nat) (v : Int) (hc : c.length = 21) : Tryz.prog.built 61 [(0, .agg (CA c)), (1, .pointer (some ⟨rm, 0, none⟩)), (2, .int .i64 v)] = some (rsg c (.pointer (some ⟨rm, 0, none⟩)) v (.slice none 0 0) nils (fun _ => 0) (fun _ => 0) (fun _ => Lc.zer)).toArray := by
  match c, hc with
  | [a0, a1, a2, a3, a4, a5, a6, a7, a8, a9, a10, a11, a12, a13, a14, a15, a16, a17, a18, a19, a20], _ =>
    refine Eq.trans ?_ rfl
    kernel_rfl
theorem rs0_row (c : List Int) (hc : c.length = 21) (rm : Nat) (v : Value) : (rs0 c rm v)[23]? = some v := rsg_watch hc
theorem rs0_set (c : List Int) (hc : c.length = 21) (rm : Nat) (v v' : Value) : (rs0 c rm v).set 23 v' = rs0 c rm v' := rsg_set hc 2 _
/-- A new signal, with some watches. -/
structure Rm (w X : World) (c : List Int) (g rm : Nat) (wa : Nat → Nat) (k : Nat) (v : Value) : Prop where
  below : Below w.heap.size w X
  cfg : VRow X w.heap.size 24 (cellsI .i64 c)
  sig : VRow X g 61 (rs0 c rm v)
  room : VRow X rm 118 (Sk.rrm (G c 6) (G c 5) (.slice none 0 0))
  wat : ∀ i, i < k → VRow X (wa i) 120 (Jp.rwt (G c 1) (G c 2) (G c 4) (.slice none 0 0))
  ord : w.heap.size < rm ∧ rm < g ∧ ∀ i, i < k → g < wa i
  inj : ∀ i j, i < k → j < k → wa i = wa j → i = j
section
variable {w X Y : World} {c : List Int} {g rm : Nat} {wa : Nat → Nat} {k : Nat} {v v' : Value}
theorem Rm.on (H : Rm w X c g rm wa k v) (B : Below X.heap.size X Y) : Rm w Y c g rm wa k v :=
  ⟨grow H.below B, H.cfg.below B H.cfg.lt, H.sig.below B H.sig.lt, H.room.below B H.room.lt, fun i hi => (H.wat i hi).below B (H.wat i hi).lt, H.ord, H.inj⟩
theorem Rm.grown (H : Rm w X c g rm wa k v) {base : Nat} {u : Value} {n : Nat} {xs : List Value} (hr : X.ownsRow base 78 1 u n xs) (hb : w.heap.size ≤ base) (hg : X.grownBy Y u.ownBlock) : Rm w Y c g rm wa k v :=
  ⟨H.below.grown hg H.below.size fun j e => Nat.le_trans hb (World.ownsRow.lt hr j e).1, vrow_row H.cfg (by decide) hr hg, vrow_row H.sig (by decide) hr hg, vrow_row H.room (by decide) hr hg, fun i hi => vrow_row (H.wat i hi) (by decide) hr hg, H.ord, H.inj⟩
theorem Rm.row (H : Rm w X c g rm wa k v) (hc : c.length = 21) (v' : Value) : Rm w (X.setCell ⟨g, 23, none⟩ v') c g rm wa k v' := by
  obtain ⟨o1, o2, o3⟩ := H.ord
  have B : Only g X (X.setCell ⟨g, 23, none⟩ v') := only_cell g 23 v'
  refine ⟨But.below H.below B H.below.size fun i e => by omega, H.cfg.only B (by omega), ?_, H.room.only B (by omega), fun i hi => (H.wat i hi).only B (by have := o3 i hi; omega), H.ord, H.inj⟩
  have := H.sig.set 23 v'
  rwa [rs0_set c hc] at this
def ext1 (wa : Nat → Nat) (k x i : Nat) : Nat := if i = k then x else wa i
theorem Rm.next {x : Nat} (H : Rm w X c g rm wa k v) (hx : VRow X x 120 (Jp.rwt (G c 1) (G c 2) (G c 4) (.slice none 0 0))) (hn : ∀ i, i < k → wa i < x) (hg : g < x) : Rm w X c g rm (ext1 wa k x) (k + 1) v := by
  obtain ⟨o1, o2, o3⟩ := H.ord
  refine ⟨H.below, H.cfg, H.sig, H.room, fun i hi => ?_, ⟨o1, o2, fun i hi => ?_⟩, fun i j hi hj e => ?_⟩
  · unfold ext1; split
    · exact hx
    · exact H.wat i (by omega)
  · unfold ext1; split
    · exact hg
    · exact o3 i (by omega)
  · unfold ext1 at e
    split at e <;> split at e
    · omega
    · have := hn j (by omega); omega
    · have := hn i (by omega); omega
    · exact H.inj i j (by omega) (by omega) e
def wrow (wa : Nat → Nat) (k : Nat) : List Value := (List.range k).map fun i => .pointer (some ⟨wa i, 0, none⟩)
theorem wrow_ext (wa : Nat → Nat) (k x : Nat) : wrow (ext1 wa k x) (k + 1) = wrow wa k ++ [.pointer (some ⟨x, 0, none⟩)] := by
  unfold wrow
  rw [List.range_succ, List.map_append]
  congr 1
  · refine List.map_congr_left fun i hi => ?_
    have := List.mem_range.1 hi
    unfold ext1; rw [if_neg (by omega)]
  · simp [ext1]
/-- The signal, once all its watches are there. -/
theorem Rm.done (H : Rm w X c g rm wa (NN c) v) (hr : X.ownsRow w.heap.size 78 1 v (NN c) (wrow wa (NN c))) (hR : Cf.Right c) : ∃ (p : Pl) (S : Nat → Prop), p.g = g ∧ RX X S p c (begin c) (fun _ => 0) ∧ ∀ j, S j → w.heap.size ≤ j := by
  have hN := NN_34 hR
  have h6 : (PW c : Int) + 1 = G c 6 := by
    obtain ⟨-, -, -, -, -, -, h6, -⟩ := hR
    unfold PW; omega
  obtain ⟨o1, o2, o3⟩ := H.ord
  rcases hr with ⟨hl, ⟨rfl, h0⟩ | ⟨wb, cap, cur, rfl, hb, hh, q1, q2, q3, q4⟩⟩
  · omega
  · have hlt : wb < X.heap.size := by
      rcases Nat.lt_or_ge wb X.heap.size with q | q
      · exact q
      · rw [Array.getElem?_eq_none q] at hh; cases hh
    have hrow : VRow X wb 78 cur.toList := by
      unfold VRow; rw [hh, Array.toArray_toList]
    have ne : ∀ {j : Nat} {t : TypeId} {cs : List Value}, VRow X j t cs → t ≠ 78 → j ≠ wb := fun {j t cs} h ht e => by
      subst e
      unfold VRow at h
      rw [hh] at h
      injection h with h; injection h with h1 h2
      exact ht h2.symm
    have hs := H.below.size
    refine ⟨⟨X.heap.size, g, rm, wb, wa⟩, fun j => w.heap.size < j ∧ j < X.heap.size ∧ (j = g ∨ j = rm ∨ j = wb ∨ ∃ i, i < NN c ∧ j = wa i) ∨ (j = wb), rfl, ?_, fun j hj => ?_⟩
    · refine ⟨⟨cap, nils, ?_, fun i hi => ?_⟩, ⟨none, 0, ?_, Or.inl rfl, Nat.le_refl _, by unfold maxLen; omega, fun ad e => by cases e⟩, ⟨_, _, hrow, fun i hi => ?_⟩, fun i hi => ⟨_, H.wat i hi, Or.inl ⟨rfl, rfl⟩, fun b o n k e => by cases e⟩, ⟨?_, ?_, .inr rfl, fun i hi => ?_⟩, ⟨H.sig.lt, H.room.lt, hlt, fun i hi => (H.wat i hi).lt⟩, ⟨fun e => ?_, ne H.sig (by decide), ne H.room (by decide), fun i hi => ⟨fun e => ?_, fun e => ?_, ne (H.wat i hi) (by decide)⟩, H.inj⟩, fun j hj => ?_, Nat.le_refl _⟩
      · have e1 : lq c (begin c) = fun _ => 0 := by funext i; unfold lq; split <;> rfl
        have e2 : fq c (begin c) = fun _ => 0 := by funext i; unfold fq; split <;> rfl
        have e3 : sq c (begin c) = fun _ => Lc.zer := by funext i; unfold sq; split <;> rfl
        rw [e1, e2, e3]; exact H.sig
      · have e : kn c (begin c) i = 0 := by unfold kn; split <;> rfl
        rw [e]; exact Hold.nil
      · rw [h6]; exact H.room
      · have q5 : (cur.toList.take (NN c * 1))[i]? = (wrow wa (NN c))[i]? := by rw [q4]
        rw [List.getElem?_take_of_lt (by omega)] at q5
        show cur.toList[i]? = _
        rw [q5]; simp [wrow, hi]
      · exact .inl ⟨by show w.heap.size < g; omega, H.sig.lt, .inl rfl⟩
      · exact .inl ⟨o1, H.room.lt, .inr (.inl rfl)⟩
      · exact .inl ⟨by show w.heap.size < wa i; have := o3 i hi; omega, (H.wat i hi).lt, .inr (.inr (.inr ⟨i, hi, rfl⟩))⟩
      · have e' : g = rm := e
        omega
      · have e' : wa i = g := e
        have := o3 i hi; omega
      · have e' : wa i = rm := e
        have := o3 i hi; omega
      · rcases hj with h | h
        · exact h.2.1
        · rw [h]; exact hlt
    · rcases hj with h | h
      · omega
      · rw [h]; exact hb
end
theorem wp_buildTo {P : Program} {o : Oper} {a : Act} {w : World} {K : Act → World → Prop} {Q : Exit → Act → World → Prop} (t : TypeId) (parts : Array (Nat × Operand)) (ho : o.op = .build t parts) (cells : Array Value) (hf : P.built t (parts.map fun (i, x) => (i, a.eval x)).toList = some cells) (h : K (a.put o.dst (.agg cells)) w) : o.wp P a w K Q :=
  wp_build t parts ho (by rw [hf]; rfl) (by rw [hf]; exact h)
/-- The room's call, the signal's cells, its box, the assignment. -/
structure Bq (X : World) (c : List Int) (bs : List Bool) (vs : List Value) (Y : World) : Prop where
  below : Below X.heap.size X Y
  c0 : bs.getD 0 false = true → ∃ rm, vs.getD 0 undef = .pointer (some ⟨rm, 0, none⟩) ∧ X.heap.size ≤ rm ∧ VRow Y rm 118 (Sk.rrm (G c 6) (G c 5) (.slice none 0 0))
  c1 : bs.getD 1 false = true → ∃ rm, vs.getD 1 undef = .agg (rs0 c rm (.slice none 0 0)).toArray ∧ X.heap.size ≤ rm ∧ VRow Y rm 118 (Sk.rrm (G c 6) (G c 5) (.slice none 0 0))
  c2 : bs.getD 2 false = true → ∃ rm g, vs.getD 2 undef = .pointer (some ⟨g, 0, none⟩) ∧ X.heap.size ≤ rm ∧ rm < g ∧ VRow Y rm 118 (Sk.rrm (G c 6) (G c 5) (.slice none 0 0)) ∧ VRow Y g 61 (rs0 c rm (.slice none 0 0))
  c3 : bs.getD 3 false = true → ∃ rm g, vs.getD 3 undef = .pointer (some ⟨g, 0, none⟩) ∧ X.heap.size ≤ rm ∧ rm < g ∧ VRow Y rm 118 (Sk.rrm (G c 6) (G c 5) (.slice none 0 0)) ∧ VRow Y g 61 (rs0 c rm (.slice none 0 0))
theorem Bq.on {X Y Z : World} {c : List Int} {bs : List Bool} {vs : List Value} (h : Bq X c bs vs Y) (b : Below Y.heap.size Y Z) : Bq X c bs vs Z :=
  ⟨grow h.below b, fun e => by obtain ⟨rm, q1, q2, q3⟩ := h.c0 e; exact ⟨rm, q1, q2, q3.below b q3.lt⟩, fun e => by obtain ⟨rm, q1, q2, q3⟩ := h.c1 e; exact ⟨rm, q1, q2, q3.below b q3.lt⟩, fun e => by obtain ⟨rm, g, q1, q2, q3, q4, q5⟩ := h.c2 e; exact ⟨rm, g, q1, q2, q3, q4.below b q4.lt, q5.below b q5.lt⟩, fun e => by obtain ⟨rm, g, q1, q2, q3, q4, q5⟩ := h.c3 e; exact ⟨rm, g, q1, q2, q3, q4.below b q4.lt, q5.below b q5.lt⟩⟩
theorem list4 {α : Type} {l : List α} (h : l.length = 4) : ∃ a b c d, l = [a, b, c, d] := by
  match l, h with
  | [a, b, c, d], _ => exact ⟨a, b, c, d, rfl⟩
set_option maxRecDepth 100000 in
set_option maxHeartbeats 3200000 in
theorem rbegin_any (c : List Int) (w : World) (hc : c.length = 21) (hR : Cf.Right c) :
    Calls Tryz.prog 7 #[.agg (CA c)] w fun e w' => (∃ (p : Pl) (S : Nat → Prop), e = .returned (.pointer (some ⟨p.g, 0, none⟩)) ∧ RX w' S p c (begin c) (fun _ => 0) ∧ ∀ j, S j → w.heap.size ≤ j) ∧ Below w.heap.size w w' := by
  have B1 := Lib.hid (Box.new w c)
  have HC := Lib.hid hc
  have HR := Lib.hid hR
  have b1 := Lib.hid ((Below.refl w.heap.size w).alloc (Nat.le_refl _) (.cells (CA c) 24))
  have BS := Lib.hid (fun rm => built_rsg c rm (G c 3) hc)
  have HN := NN_34 hR
  have hNE := NN_eq hR
  clear hc hR
  go_enter Tryz.func7, Tryz.ntmps7
  go_upto_region 1 with fail
  have hsz : (w.alloc (.cells (CA c) 24)).heap.size = w.heap.size + 1 := by simp
  generalize w.alloc (.cells (CA c) 24) = W0 at *
  refine Ws.wp_sets (aF := ?_) [10, 13, 14, 3] [5, 8, 9, 10] 38 [true, true, true, true, true, false, true, true, false, false, false] [(10, undef), (13, undef), (14, undef), (3, undef)]
    (Bq W0 c)
    (fun Y => Below W0.heap.size W0 Y)
    (by kernel_rfl) (by kernel_rfl) (by kernel_rfl) (by kernel_rfl) ?ha ?hMC ?hMg ?h0 ?hq ?hw ?hend
  case ha => rfl
  case hMC => exact fun bs vs Y h => h.below
  case hMg => exact fun bs vs Y Z h hC => h.on hC.to
  case h0 => exact fun vs _ => ⟨Below.refl _ _, fun e => (by cases e), fun e => (by cases e), fun e => (by cases e), fun e => (by cases e)⟩
  case hq =>
    intro Y hY
    have BY := B1.out.on hY
    have k6 := cell_regrown (BY.at HC.out 6 (by omega))
    have k5 := cell_regrown (BY.at HC.out 5 (by omega))
    have k3 := cell_regrown (BY.at HC.out 3 (by omega))
    have HBX := Lib.hid (show ∀ W, (∃ p : Regrown, W = Sort.grow (redrawn Y p.d) p.os) → Box W w.heap.size c by rintro W ⟨p, rfl⟩; exact BY.on (below_regrown Y p.d p.os))
    clear BY hY
    simp only [Lt.sel, Lt.putAll, List.map_cons, List.map_nil, List.zip_cons_cons, List.zip_nil_right, List.foldl_cons, List.foldl_nil, Act.put, List.setIfInBounds_toArray, List.set_cons_succ, List.set_cons_zero]
    repeat (first
      | (with_reducible show wpQuiet _ _ _ _ (⟨some 5, _, _, _, _, _⟩ :: _) _
         refine wpQuiet_cfg rfl _ rfl w.heap.size c rfl HBX.out HC.out ?_
         simp only [Act.put, List.setIfInBounds_toArray, List.set_cons_succ, List.set_cons_zero])
      | go_big_quiet_step (fail))
    exact rfl
  case hw =>
    rintro bs (_ | _ | _ | _ | k) st o hbl hs ho hk hpre vs Y hv hM
    · obtain rfl : 5 = st := by simpa using hs
      obtain rfl := Option.some.inj ho
      obtain ⟨x0, x1, x2, x3, rfl⟩ := list4 hv
      obtain ⟨y0, y1, y2, y3, rfl⟩ := list4 hbl
      refine Wr.wp_fn (f := 23) (args := #[.int .i64 (G c 6), .int .i64 (G c 5)]) (by kernel_rfl) (Sk.rbegin_any (G c 6) (G c 5) Y) ?_
      rintro e Z ⟨rfl, rfl⟩
      have HZ := hM.on ((Below.refl Y.heap.size Y).alloc (Nat.le_refl _) (.cells (Sk.rrm (G c 6) (G c 5) (.slice none 0 0)).toArray 118))
      exact ⟨_, rfl, _, rfl, fun d hd hn => (by cases hd; exact absurd (by decide) hn), ⟨HZ.below, fun _ => ⟨_, rfl, hM.below.size, VRow.new _ _ _⟩, HZ.c1, HZ.c2, HZ.c3⟩⟩
    · obtain rfl : 8 = st := by simpa using hs
      obtain ⟨x0, x1, x2, x3, rfl⟩ := list4 hv
      obtain ⟨y0, y1, y2, y3, rfl⟩ := list4 hbl
      have ho' := Option.some.inj ho
      obtain rfl : y0 = true := hpre 0 5 rfl (by rw [← ho']; kernel_rfl)
      obtain ⟨rm, e0, h1, h2⟩ := hM.c0 rfl
      obtain rfl : x0 = .pointer (some ⟨rm, 0, none⟩) := e0
      have HK := Lib.hid (show Bq W0 c [true, true, y2, y3] [.pointer (some ⟨rm, 0, none⟩), .agg (rs0 c rm (.slice none 0 0)).toArray, x2, x3] Y from ⟨hM.below, hM.c0, fun _ => ⟨rm, rfl, h1, h2⟩, hM.c2, hM.c3⟩)
      have BR := BS.out rm
      clear hM h1 h2
      obtain rfl := ho'
      change _ = some (rs0 c rm (.slice none 0 0)).toArray at BR
      generalize (rs0 c rm (.slice none 0 0)).toArray = RR at *
      simp only [Lt.putAll, List.zip_cons_cons, List.zip_nil_right, List.foldl_cons, List.foldl_nil, Act.put, List.setIfInBounds_toArray, List.set_cons_succ, List.set_cons_zero]
      refine wp_buildTo 61 _ rfl RR (by simp only [List.map_toArray, List.map_cons, List.map_nil]; exact BR) ?_
      exact ⟨_, rfl, fun d hd hn => (by cases hd; exact absurd (by decide) hn), HK.out⟩
    · obtain rfl : 9 = st := by simpa using hs
      obtain ⟨x0, x1, x2, x3, rfl⟩ := list4 hv
      obtain ⟨y0, y1, y2, y3, rfl⟩ := list4 hbl
      have ho' := Option.some.inj ho
      obtain rfl : y1 = true := hpre 1 8 rfl (by rw [← ho']; kernel_rfl)
      obtain ⟨rm, e0, h1, h2⟩ := hM.c1 rfl
      obtain rfl : x1 = .agg (rs0 c rm (.slice none 0 0)).toArray := e0
      have hB := hM.on ((Below.refl Y.heap.size Y).alloc (Nat.le_refl _) (.cells (rs0 c rm (.slice none 0 0)).toArray 61))
      have HK := Lib.hid (show Bq W0 c [y0, true, true, y3] [x0, .agg (rs0 c rm (.slice none 0 0)).toArray, .pointer (some ⟨Y.heap.size, 0, none⟩), x3] (Y.alloc (.cells (rs0 c rm (.slice none 0 0)).toArray 61)) from ⟨hB.below, hB.c0, hB.c1, fun _ => ⟨rm, Y.heap.size, rfl, h1, h2.lt, h2.alloc _, VRow.new _ _ _⟩, hB.c3⟩)
      clear hM h1 h2 hB
      obtain rfl := ho'
      generalize (rs0 c rm (.slice none 0 0)).toArray = RR at *
      simp only [Lt.putAll, List.zip_cons_cons, List.zip_nil_right, List.foldl_cons, List.foldl_nil, Act.put, List.setIfInBounds_toArray, List.set_cons_succ, List.set_cons_zero]
      unfold Oper.wp
      go_simp
      exact HK.out
    · obtain rfl : 10 = st := by simpa using hs
      obtain ⟨x0, x1, x2, x3, rfl⟩ := list4 hv
      obtain ⟨y0, y1, y2, y3, rfl⟩ := list4 hbl
      have ho' := Option.some.inj ho
      obtain rfl : y2 = true := hpre 2 9 rfl (by rw [← ho']; kernel_rfl)
      have HK := Lib.hid (show Bq W0 c [y0, y1, true, true] [x0, x1, x2, x2] Y from ⟨hM.below, hM.c0, hM.c1, hM.c2, hM.c2⟩)
      clear hM
      obtain rfl := ho'
      simp only [Lt.putAll, List.zip_cons_cons, List.zip_nil_right, List.foldl_cons, List.foldl_nil, Act.put, List.setIfInBounds_toArray, List.set_cons_succ, List.set_cons_zero]
      unfold Oper.wp
      go_simp
      exact HK.out
    · simp at hs
  case hend =>
    intro vs Y hv hM
    obtain ⟨x0, x1, x2, x3, rfl⟩ := list4 hv
    clear hv
    obtain ⟨rm, g, e3, h1, h2, h3, h4⟩ := hM.c3 rfl
    obtain rfl : x3 = .pointer (some ⟨g, 0, none⟩) := e3
    have R0 := Lib.hid (show Rm w Y c g rm (fun _ => 0) 0 (.slice none 0 0) from by
      have hb := hM.below
      exact ⟨grow b1.out hb, VRow.below (show VRow W0 w.heap.size 24 (cellsI .i64 c) from B1.out) hb B1.out.lt, h4, h3, fun i hi => by omega, ⟨by omega, h2, fun i hi => by omega⟩, fun i j hi => by omega⟩)
    clear hM h1 h2 h3 h4
    have hEN : (G c 0) = (NN c : Int) := hNE.symm
    obtain ⟨i0, hi0, hz0, hz1, hz2⟩ := info_parts rptrInfo
    clear B1 b1 BS hNE hsz
    simp only [Lt.putAll, List.zip_cons_cons, List.zip_nil_right, List.foldl_cons, List.foldl_nil, Act.put, List.setIfInBounds_toArray, List.set_cons_succ, List.set_cons_zero]
    go_wp2_with fail
    go_loopg [4] (NN c) (fun gg s4 wr => ∃ k : Nat, k + gg = NN c ∧ s4 = .int .i64 k ∧ Hid (∃ wa v, Rm w wr c g rm wa k v ∧ (∀ i, i < k → wa i < wr.heap.size) ∧ wr.ownsRow w.heap.size 78 1 v k (wrow wa k)))
    case atStart => exact ⟨0, by omega, rfl, Lib.hid ⟨_, _, R0.out, fun i hi => by omega, World.ownsRow_nil _ _ _ _⟩⟩
    case round =>
      rename World => X
      obtain ⟨k, hkg, rfl, HM⟩ := hrel
      have HKG := Lib.hid hkg
      clear R0 hkg
      by_cases hk : k < NN c
      · have hki : (k : Int) < (NN c : Int) := by omega
        have HKN := Lib.hid hk
        obtain ⟨wa, v, HS, HT, HO⟩ := HM.out
        have hv : ∃ a cap, v = .slice a k cap := by
          rcases HO.2 with ⟨rfl, h0⟩ | ⟨g, cap, cur, rfl, _⟩
          · rw [h0]; exact ⟨none, 0, rfl⟩
          · exact ⟨_, cap, rfl⟩
        obtain ⟨va, vc, hv⟩ := hv
        have q0 := (show Box X w.heap.size c from HS.cfg).at HC.out 0 (by omega)
        rw [hEN] at q0
        have HSS := Lib.hid HS
        have HTT := Lib.hid HT
        have HOO := Lib.hid HO
        have hk4 : k ≤ 4 := by omega
        have hXw := HS.below.size
        clear HS HT HO HM hk
        go_wp2_with fail
        refine Wr.wp_writes (aF := ?_) [32, 33, 34] [11, 12, 13, 16] 38 3 [true, true, true, true, true, true, true, true, true, true, true, false, false, false, true, true, false] [false, false, false, false, false, false, false, false, false, false, false, false, false, false, true, false, false] [(32, undef), (33, undef), (34, undef)]
          (fun q vs Y => match q with
            | 0 => Below X.heap.size X Y
            | 1 => Below X.heap.size X Y ∧ ∃ x, vs.getD 0 undef = .pointer (some ⟨x, 0, none⟩) ∧ X.heap.size ≤ x ∧ VRow Y x 120 (Jp.rwt (G c 1) (G c 2) (G c 4) (.slice none 0 0))
            | 2 => Below X.heap.size X Y ∧ ∃ x, vs.getD 0 undef = .pointer (some ⟨x, 0, none⟩) ∧ X.heap.size ≤ x ∧ VRow Y x 120 (Jp.rwt (G c 1) (G c 2) (G c 4) (.slice none 0 0)) ∧ ∃ ad : Addr, vs.getD 1 undef = .slice (some ad) 1 1 ∧ Y.cell? ad = some (.pointer (some ⟨x, 0, none⟩))
            | 3 => Rm w Y c g rm wa k v ∧ X.heap.size ≤ Y.heap.size ∧ ∃ x, X.heap.size ≤ x ∧ VRow Y x 120 (Jp.rwt (G c 1) (G c 2) (G c 4) (.slice none 0 0)) ∧ ∃ ar cap, vs.getD 2 undef = .slice (some ⟨ar, 0, none⟩) (k + 1) cap ∧ Y.ownsRow w.heap.size 78 1 (.slice (some ⟨ar, 0, none⟩) (k + 1) cap) (k + 1) (wrow wa k ++ [.pointer (some ⟨x, 0, none⟩)])
            | _ => ∃ wa' v', Rm w Y c g rm wa' (k + 1) v' ∧ (∀ i, i < k + 1 → wa' i < Y.heap.size) ∧ Y.ownsRow w.heap.size 78 1 v' (k + 1) (wrow wa' (k + 1)))
          (fun Y => Box Y w.heap.size c ∧ VRow Y g 61 (rs0 c rm v))
          (by kernel_rfl) (by kernel_rfl) (by kernel_rfl) (by kernel_rfl) (by kernel_rfl) ?ha ?hMC ?hMg ?h0 ?hq ?hq2 ?hw ?hend
        case hq =>
          rintro Y ⟨hb, hs⟩
          have k23 := cell_regrown (hs.cell 23 (v := v) (rs0_row c HC.out rm v))
          have k1 := cell_regrown (hb.at HC.out 1 (by omega))
          have k2 := cell_regrown (hb.at HC.out 2 (by omega))
          have k4 := cell_regrown (hb.at HC.out 4 (by omega))
          clear hb hs
          subst hv
          simp only [Lt.sel, Lt.putAll, List.map_cons, List.map_nil, List.zip_cons_cons, List.zip_nil_right, List.foldl_cons, List.foldl_nil, Act.put, List.setIfInBounds_toArray, List.set_cons_succ, List.set_cons_zero]
          repeat (go_big_quiet_step (fail))
          exact rfl
        case ha => rfl
        case hMC =>
          have key : ∀ Y, Rm w Y c g rm wa k v → Box Y w.heap.size c ∧ VRow Y g 61 (rs0 c rm v) := fun Y h => ⟨h.cfg, h.sig⟩
          rintro (_ | _ | _ | _ | q) vs Y hq hM
          · exact key _ (HSS.out.on hM)
          · exact key _ (HSS.out.on hM.1)
          · exact key _ (HSS.out.on hM.1)
          · exact key _ hM.1
          · omega
        case hMg =>
          rintro (_ | _ | _ | _ | q) vs Y Z hM hC
          · exact grow hM hC.to
          · obtain ⟨h1, x, h2, h3, h4⟩ := hM
            exact ⟨grow h1 hC.to, x, h2, h3, h4.below hC.to h4.lt⟩
          · obtain ⟨h1, x, h2, h3, h4, ad, h5, h6⟩ := hM
            exact ⟨grow h1 hC.to, x, h2, h3, h4.below hC.to h4.lt, ad, h5, (hC.to.cell (p := ad) (Rf.cell_blk h6)).trans h6⟩
          · obtain ⟨h1, hz, x, h3, h4, ar, cap, h5, h6⟩ := hM
            exact ⟨h1.on hC.to, Nat.le_trans hz hC.to.size, x, h3, h4.below hC.to h4.lt, ar, cap, h5, owns_grow h6 hC.to⟩
          · obtain ⟨wa', v', h1, ht, h2⟩ := hM
            exact ⟨wa', v', h1.on hC.to, fun i hi => Nat.lt_of_lt_of_le (ht i hi) hC.to.size, owns_grow h2 hC.to⟩
        case h0 => exact fun _ _ => Below.refl _ _
        case hq2 =>
          intro q vs Y _ _ _
          simp only [Lt.sel]
          repeat (go_big_quiet_step (fail))
          exact rfl
        case hw =>
          rintro (_ | _ | _ | _ | q) st o hs ho vs Y hl hM
          · obtain rfl : 11 = st := by simpa using hs
            obtain rfl := Option.some.inj ho
            match vs, hl with
            | [x1, x2, x3], _ =>
              refine Wr.wp_fn (f := 24) (args := #[.int .i64 (G c 1), .int .i64 (G c 2), .int .i64 (G c 4)]) (by kernel_rfl) (Jp.begin_any (G c 1) (G c 2) (G c 4) Y) ?_
              rintro e Z ⟨rfl, rfl⟩
              have hMs := hM.size
              exact ⟨_, rfl, _, rfl, fun d hd hn => absurd (by cases hd; simp) hn, grow hM ((Below.refl _ _).alloc (Nat.le_refl _) _), _, rfl, hMs, VRow.new _ _ _⟩
          · obtain rfl : 12 = st := by simpa using hs
            obtain rfl := Option.some.inj ho
            match vs, hl with
            | [x1, x2, x3], _ =>
              obtain ⟨h1, x, h2, h3, h4⟩ := hM
              obtain rfl : x1 = .pointer (some ⟨x, 0, none⟩) := h2
              have hnew := (Boxed.new Y 78 (.pointer (some ⟨x, 0, none⟩))).cell
              have hal := (Below.refl Y.heap.size Y).alloc (Nat.le_refl _) (.cells #[.pointer (some ⟨x, 0, none⟩)] 78)
              have HK := Lib.hid (And.intro (grow h1 hal) (And.intro h3 (And.intro (h4.below hal h4.lt) hnew)))
              clear hal hnew h1 h3 h4
              simp only [Lt.putAll, List.zip_cons_cons, List.zip_nil_right, List.foldl_cons, List.foldl_nil, Act.put, List.setIfInBounds_toArray, List.set_cons_succ, List.set_cons_zero]
              unfold Oper.wp
              go_simp
              exact ⟨HK.out.1, x, rfl, HK.out.2.1, HK.out.2.2.1, ⟨Y.heap.size, 0, none⟩, rfl, HK.out.2.2.2⟩
          · obtain rfl : 13 = st := by simpa using hs
            obtain rfl := Option.some.inj ho
            match vs, hl with
            | [x1, x2, x3], _ =>
              obtain ⟨h1, x, h2, h3, h4, ad, h5, h6⟩ := hM
              obtain rfl : x1 = .pointer (some ⟨x, 0, none⟩) := h2
              obtain rfl : x2 = .slice (some ad) 1 1 := h5
              have hrY := owns_grow HOO.out h1
              have hYs := h1.size
              simp only [Lt.putAll, List.zip_cons_cons, List.zip_nil_right, List.foldl_cons, List.foldl_nil, Act.put, List.setIfInBounds_toArray, List.set_cons_succ, List.set_cons_zero]
              refine wp_append_own _ (.tmp 25) (.tmp 33) 54 rfl w.heap.size 78 i0 (.pointer none) 1 8 Tryz.underlying54 hi0 hz0 hz1 hz2 rfl (by decide) v k (wrow wa k) (by rw [hv]; rfl) hrY ad 1 1 [.pointer (some ⟨x, 0, none⟩)] rfl rfl ?_ (by simp [Value.oneCell']) (by unfold maxLen; omega) (by omega) (by omega) ?_
              · intro j w hj
                match j, hj with
                | 0, hj => simp at hj; subst hj; simpa [Addr.add] using h6
              · intro v' w' g1 g2 _
                obtain ⟨g', cap', rfl⟩ := ownsRow_succ g1
                exact ⟨_, rfl, fun d hd hn => absurd (by cases hd; simp) hn, (HSS.out.on h1).grown hrY (Nat.le_refl _) g2, Nat.le_trans hYs g2.size, x, h3, vrow_row h4 (by decide) hrY g2, g', cap', rfl, g1⟩
          · obtain rfl : 16 = st := by simpa using hs
            obtain rfl := Option.some.inj ho
            match vs, hl with
            | [x1, x2, x3], _ =>
              obtain ⟨h1, hz, x, h3, h4, ar, cap, h5, h6⟩ := hM
              obtain rfl : x3 = .slice (some ⟨ar, 0, none⟩) (k + 1) cap := h5
              have cl := h1.sig.cell 23 (v := v) (rs0_row c HC.out rm v)
              have fl := h1.sig.frozen 23
              have hgl := HSS.out.sig.lt
              have hxl := h4.lt
              have hN1 := h1.next h4 (fun i hi => by have := HTT.out i hi; omega) (by omega)
              have HK := Lib.hid (show ∃ wa' v', Rm w (Y.setCell ⟨g, 23, none⟩ (.slice (some ⟨ar, 0, none⟩) (k + 1) cap)) c g rm wa' (k + 1) v' ∧ (∀ i, i < k + 1 → wa' i < Y.heap.size) ∧ (Y.setCell ⟨g, 23, none⟩ (.slice (some ⟨ar, 0, none⟩) (k + 1) cap)).ownsRow w.heap.size 78 1 v' (k + 1) (wrow wa' (k + 1)) from
                ⟨ext1 wa k x, _, hN1.row HC.out _, fun i hi => (hN1.wat i hi).lt, by rw [wrow_ext]; exact vrow_set h1.sig (by decide) h6 _⟩)
              clear h1 h3 h4 h6 hN1
              subst hv
              simp only [Lt.putAll, List.zip_cons_cons, List.zip_nil_right, List.foldl_cons, List.foldl_nil, Act.put, List.setIfInBounds_toArray, List.set_cons_succ, List.set_cons_zero]
              unfold Oper.wp
              go_simp
              exact HK.out
          · simp at hs
        case hend =>
          intro vs Y hl hM
          have HK := Lib.hid (show ∃ wa' v', Rm w Y c g rm wa' (k + 1) v' ∧ (∀ i, i < k + 1 → wa' i < Y.heap.size) ∧ Y.ownsRow w.heap.size 78 1 v' (k + 1) (wrow wa' (k + 1)) from hM)
          clear hM
          match vs, hl with
          | [x1, x2, x3], _ =>
            simp only [Lt.putAll, List.zip_cons_cons, List.zip_nil_right, List.foldl_cons, List.foldl_nil, Act.put, List.setIfInBounds_toArray, List.set_cons_succ, List.set_cons_zero]
            go_wp2_with fail
            go_roundg (NN c - k - 1)
            case rel =>
              have h1 := HKG.out
              have h2 := HKN.out
              exact ⟨k + 1, by omega, by go_num, HK⟩
            case measure =>
              have h1 := HKG.out
              have h2 := HKN.out
              omega
      · have hke : k = NN c := by have := HKG.out; omega
        have hki : ¬ (k : Int) < (NN c : Int) := by omega
        obtain ⟨wa, v, HS, HT, HO⟩ := HM.out
        have q0 := (show Box X w.heap.size c from HS.cfg).at HC.out 0 (by omega)
        rw [hEN] at q0
        subst hke
        obtain ⟨p, S, e1, e2, e3⟩ := HS.done HO HR.out
        have HF := Lib.hid (And.intro e2 (And.intro e3 HS.below))
        subst e1
        clear HS HT HO HM hk e2 e3
        go_wp2_with fail
        go_ret
        exact ⟨⟨p, rfl, S, HF.out.1, HF.out.2.1⟩, HF.out.2.2⟩
end Sg
end Go.Proofs.YtacclmfbkiadbaaGreat
