/-
  What learn of package signal does (the seventh step of a cycle): a contract by walking the Go text. Conditions: how a signal lies; that the raw values, and the value, may be.
-/
import Derived.Test.YtpoededbmdffpaaGreatDoorSignalEnter
import Derived.Test.YtpoededbmdffpaaGreatDoorEqualLearn
namespace Go.Proofs.YtpoededbmdffpaaGreatDoor
set_option maxRecDepth 100000
open Go.ChangeShapes Go.WideShapes Go.ChangeAt Go.RowKit Go.Deep Go.Shelf
namespace Sg
open Cf (G CA)
open Rf
attribute [local go_sem] Oper.semAt_some
/-- A channel behind that step. -/
def nL (c : List Int) (s : Si) (r : Nat → Rw) (i : Nat) : Ch := { s.ch i with off := Ql.nx (G c 10) (G c 11) (s.ch i).off (r i).n s.val }
/-- One place of a channel alone was written. -/
theorem Chan.trim {X Y : World} {b : Nat → Nat} {c : List Int} {s : Si} {i : Nat} (H : Lie X b c s) (hi : i < NN c) (B : But (fun k => k = tb b i) X Y) {o : Int} (ht : VRow Y (tb b i) 273 (Ql.tri (G c 10) (G c 11) o)) : Chan Y b c i { s.ch i with off := o } := by
  have C := H.chs i hi
  obtain ⟨n1, n2, n3, n4, n5, n6, n7, n8, n9, n10, n11⟩ := H.five hi
  obtain ⟨l, f1, f2⟩ := C.fw
  exact ⟨C.own.but B n4, C.jw.but B n7, ⟨l, f1.but B n9, f2⟩, C.fl.but B n10, ht⟩
set_option maxRecDepth 100000 in
set_option maxHeartbeats 3200000 in
theorem learn_any {W : World} {b : Nat → Nat} {c : List Int} {s : Si} {u : Nat} {r : Nat → Rw} {sh : Int} {T : Nat → Int} {m : Int} (hc : c.length = 21) (hR : Cf.Right c) (hO : Ok c s) (H : Tn W b c s u r sh T m) :
    Calls Tryz.prog 121 #[.pointer (some ⟨u, 0, none⟩)] W fun e w' => e = .returned (.tuple #[]) ∧ Tn w' b c { mid s ((List.range (NN c)).filter fun i => (r i).is) (nL c s r) with votes := s.votes ++ [s.val] } u r sh T m ∧ But (Us b c u) W w' := by
  have hN := NN_34 hR
  refine (callsIn_wide (n := 5)).1 ?_
  refine callsIn_of_wp_marks Tryz.func121 rfl trivial ?_ rfl
  simp only [Tryz.ntmps121, List.size_toArray, List.length_cons, List.length_nil, Nat.reduceAdd, Nat.reduceSub, Array.replicate_succ, Array.replicate_zero, List.push_toArray, List.append_toArray, List.nil_append, List.cons_append]
  gi_wp2_with (refine ⟨trivial, ?_⟩; gi_at_call 156; refine (callsIn_wide.2 (valued_any _ _)).mono ?_; rintro e w2 ⟨rfl, rfl⟩)
  have b1 := (Boxed.new W 234 (.pointer (some ⟨u, 0, none⟩))).alloc (.cells #[.pointer (some ⟨u, 0, none⟩)] 234)
  have b3 := Boxed.new (W.alloc (.cells #[.pointer (some ⟨u, 0, none⟩)] 234)) 234 (.pointer (some ⟨u, 0, none⟩))
  rw [World.size_alloc] at b3
  have hB0 := ((Below.refl W.heap.size W).alloc (Nat.le_refl _) (.cells #[.pointer (some ⟨u, 0, none⟩)] 234)).alloc (by simp) (.cells #[.pointer (some ⟨u, 0, none⟩)] 234)
  have hsz : ((W.alloc (.cells #[.pointer (some ⟨u, 0, none⟩)] 234)).alloc (.cells #[.pointer (some ⟨u, 0, none⟩)] 234)).heap.size = W.heap.size + 2 := by simp
  generalize (W.alloc (.cells #[.pointer (some ⟨u, 0, none⟩)] 234)).alloc (.cells #[.pointer (some ⟨u, 0, none⟩)] 234) = W0 at *
  have H0 := H.on hB0
  have HL := Lib.hid (fun k (hk : Us b c u k) => H.lt hk)
  have HOU := Lib.hid H.out
  clear H
  refine range_goes rfl (by omega) (gf := 191) (lb := #[.pointer (some ⟨W.heap.size + 1, 0, none⟩)]) rfl trivial (enters_of Tryz.func191 (by kernel_rfl) rfl)
    (hseq_valued _ (by omega) hc hR H0 b3.cell) Kc.trans (fun X k o o' _ h2 h3 h4 => Kc.put h2 h3 h4) (fun _ => rfl)
    (fun pre X => Tn X b c (mid s (pre.map (·.1)) (nL c s r)) u r sh T m ∧ Boxed X W.heap.size 234 (.pointer (some ⟨u, 0, none⟩)) ∧ But (Us b c u) W X)
    (fun _ _ _ => False)
    (OwnFrom.and (own_tn _ _ _ _) (OwnFrom.and (own_box _ _ _ _) (own_other _ _ _ (by omega))))
    (fun _ _ _ _ _ hs _ _ => hs)
    ⟨by rw [List.map_nil, mid_nil]; exact H0, b1, But.of_below hB0⟩
    (fun x => { tmps := #[.pointer (some ⟨u, 0, none⟩), .pointer (some ⟨W.heap.size, 0, none⟩), .int .i64 x.1, .pointer (some ⟨xb b x.1, 0, none⟩), .pointer (some ⟨u, 0, none⟩), .func (.func 191) #[] #[.pointer (some ⟨W.heap.size + 1, 0, none⟩)], .int .i64 x.1, .pointer (some ⟨xb b x.1, 0, none⟩), undef, undef, undef, undef, undef, undef, undef, undef, undef, undef, undef, undef, undef, undef, undef, undef, undef, undef, undef, undef, undef, undef, undef, undef, undef, undef, undef, undef, undef, undef], defers := [] }) ?assign ?body ?done ?stop
  case assign =>
    intro l x W K hK
    dsimp only [encv]
    gi_wp2
    exact hK
  case body =>
    rintro lp pre x X ⟨HX, bx1, hB⟩ hlen hG
    have hx := x.2.1
    have hx4 : x.1 < 4 := by omega
    have hxi : (x.1 : Int) < 4 := by omega
    have HMP := Lib.hid (show (pre ++ [x]).map (·.1) = pre.map (·.1) ++ [x.1] by simp)
    have eS : (mid s (pre.map (·.1)) (nL c s r)).ch x.1 = s.ch x.1 := mx_not hG
    have KC := Lib.hid (fun (Y : World) (s' : Si) (T' : Nat → Int) (S : Nat → Prop) (hY : Tn Y b c s' u r sh T' m) (h : But S X Y) (hS : ∀ k, S k → Of b x.1 k ∨ k = u) => (show (KeepsFrom W0.heap.size X Y ∧ Kc (Dv b u (W.heap.size + 1) W0.heap.size) (W0.heap.size + 2) X Y) ∧ Boxed Y W.heap.size 234 (.pointer (some ⟨u, 0, none⟩)) ∧ But (Us b c u) W Y from by
      have hS' : ∀ k, S k → Us b c u k ∧ k ≠ b 2 := fun k q => (hS k q).elim (fun o => ⟨of_us hx o, fun e => HX.lie.apart3 hx (p := 2) (by omega) (e ▸ o)⟩) (fun e => ⟨.inr e, fun e2 => HX.out (by rw [← e, e2]; exact ⟨2, by unfold pn; omega, rfl⟩)⟩)
      refine ⟨round_kc HX hY h fun k q => ⟨by have := HL.out k (hS' k q).1; omega, by have := HL.out k (hS' k q).1; omega, (hS' k q).2⟩, ?_, hB.trans (h.mono fun k q => (hS' k q).1)⟩
      exact (h.block _ (by have := bx1.lt; omega) fun q => by have := HL.out _ (hS' _ q).1; omega).trans bx1))
    have HXX := Lib.hid HX
    have B1 := Lib.hid bx1
    have CH := HX.lie.chs x.1 hx
    rw [eS] at CH
    have HCH := Lib.hid CH
    have ho10 : 0 ≤ G c 10 ∧ G c 10 ≤ 2147483647 := by obtain ⟨-, -, -, -, -, -, -, -, -, -, h10, -⟩ := hR; exact h10
    have ho11 : 0 ≤ G c 11 ∧ G c 11 ≤ 8 := by obtain ⟨-, -, -, -, -, -, -, -, -, -, -, h11, -⟩ := hR; exact h11
    have hmay : Ql.may (G c 10) (G c 11) = true := (Ql.may_iff _ _).2 ⟨ho10.1, ho10.2, ho11.1, ho11.2⟩
    have hoo := (hO.ch x.1 hx).off
    have hfive := HX.lie.five hx
    have htu : tb b x.1 ≠ u := fun e => HX.out (e ▸ of_in hx (.inr (.inr (.inr (.inr rfl)))))
    have CL := Lib.hid (fun (Y : World) (HY : VRow Y (tb b x.1) 273 (Ql.tri (G c 10) (G c 11) (s.ch x.1).off)) => Ql.learn_any (tb b x.1) _ _ _ (r x.1).n s.val Y HY hmay hoo)
    obtain ⟨er, her⟩ : ∃ er, er = Ql.ce (r x.1).n s.val := ⟨_, rfl⟩
    rw [← her] at CL
    have HS := Lib.hid eS
    have hb02 : b 2 ≠ tb b x.1 := fun e => by have := HX.lie.inj 2 (7 + 5 * x.1) (by unfold pn; omega) (by unfold pn; omega) e; omega
    have hb00 : b 0 ≠ tb b x.1 := fun e => by have := HX.lie.inj 0 (7 + 5 * x.1) (by unfold pn; omega) (by unfold pn; omega) e; omega
    clear HX bx1 hB hlen H0 b1 b3 hB0 her CH hmay ho10 ho11 hoo
    gi_wp2
    refine Wr.wpIn_w1 (aF := ?_) [14] 38 [true, true, true, true, true, true, true, true, true, true, true, true, true, true, false] 22 (.int .i64 er)
      (fun k Y => match k with
        | 0 => But (fun _ => False) X Y
        | _ => But (fun k => k = tb b x.1) X Y ∧ VRow Y (tb b x.1) 273 (Ql.tri (G c 10) (G c 11) (Ql.nx (G c 10) (G c 11) (s.ch x.1).off (r x.1).n s.val)))
      (fun Y => But (fun k => k = tb b x.1) X Y)
      (by kernel_rfl) (by kernel_rfl) (by kernel_rfl) (by kernel_rfl) ?hL ?ha ?hMC ?hMg ?h0 ?hq ?hw ?hend
    case hq =>
      intro Y hY
      have htW := HL.out (tb b x.1) (of_us hx (.inr (.inr (.inr (.inr rfl)))))
      have k1 := cell_regrown ((show Boxed Y W.heap.size 234 (.pointer (some ⟨u, 0, none⟩)) from (hY.block _ B1.out.lt (by omega)).trans B1.out).cell)
      have hTY := HXX.out.trn.but hY (fun e => htu e.symm)
      have k2 := cell_regrown (hTY.cell 0 (v := .pointer (some ⟨b 0, 0, none⟩)) rfl)
      have k3 := cell_regrown ((World.cell?_of_block (w := X) (a := ⟨b 0, 23, none⟩) (hY.block (b 0) (HXX.out.lie.lt ⟨0, by unfold pn; omega, rfl⟩) hb00)).trans (HXX.out.lie.val hc))
      have k4 := cell_regrown ((HCH.out.own.but hY (by omega)).cell 3 (v := .pointer (some ⟨tb b x.1, 0, none⟩)) rfl)
      have cR := reg_call (w := Y) (fun Z B => (raw_row (hTY.below B hTY.lt) x.1 hx4).mono fun e w' q => ⟨q.1, q.2 ▸ Below.refl _ _⟩)
      simp only [Lt.sel, Act.put, List.setIfInBounds_toArray, List.set_cons_succ, List.set_cons_zero]
      repeat (go_big_quiet_step (exact cR _ _))
      exact rfl
    case ha => rfl
    case hL => rintro ⟨_, _, h⟩; exact h
    case hMC =>
      rintro (_ | k) Y hM
      · exact hM.mono fun _ q => q.elim
      · exact hM.1
    case hMg =>
      rintro (_ | k) Y Z hM hC
      · exact hM.grow hC.to
      · exact ⟨hM.1.grow hC.to, hM.2.below hC.to hM.2.lt⟩
    case h0 => exact But.refl _ _
    case hw =>
      rintro (_ | k) st o hs ho Y hM
      · obtain rfl : 14 = st := by simpa using hs
        obtain rfl := Option.some.inj ho
        refine Wr.wp_fn (f := 171) (args := #[.pointer (some ⟨tb b x.1, 0, none⟩), .int .i64 (r x.1).n, .int .i64 s.val]) ?_ (CL.out Y (HCH.out.tr.but hM fun q => q)) ?_
        · kernel_rfl
        · rintro e Z ⟨rfl, z1, z2⟩
          exact ⟨_, rfl, _, rfl, fun _ _ _ => rfl, (hM.mono fun _ q => q.elim).trans z2, z1⟩
      · simp at hs
    case hend =>
      intro Y hM
      have HM := Lib.hid (show But (fun k => k = tb b x.1) X Y ∧ VRow Y (tb b x.1) 273 (Ql.tri (G c 10) (G c 11) (Ql.nx (G c 10) (G c 11) (s.ch x.1).off (r x.1).n s.val)) from hM)
      clear hM
      gi_wp2
      have HB := HM.out.1.mono (S' := Of b x.1) fun k e => .inr (.inr (.inr (.inr e)))
      have HY := HXX.out.set hx HB (Chan.trim HXX.out.lie hx HM.out.1 HM.out.2)
      obtain ⟨⟨k1, k2⟩, k3, k4⟩ := KC.out Y _ _ _ HY HB fun k e => .inl e
      refine ⟨k1, k2, ?_, k3, k4⟩
      rw [put_mid _ _ _ _ _ (show _ = nL c s r x.1 by rw [HS.out]; rfl)] at HY
      rw [HMP.out]; exact HY
  case done =>
    rintro D ys X hD hys ⟨HX, bx1, hB⟩ hK
    rw [hys] at HX
    have hvv : Jp.val s.val = true := by
      have h1 := hO.val
      obtain ⟨-, h2, h3, -⟩ := hR
      unfold Jp.val; simp; omega
    have hrm := HX.lie.room
    have CV := Lib.hid (fun (Y : World) (hY : But (fun _ => False) X Y) => Sk.vote_yes (b 1) (PW c) (G c 5) _ s.val Y hvv (room_but hrm hY fun q => q))
    have hPW := PW_bd hR
    rw [show (mid s ((List.range (NN c)).filter fun i => (r i).is) (nL c s r)).votes = s.votes from rfl, Sk.lastN_snoc hPW.1] at CV
    have hl1 : b 1 < W.heap.size := HL.out _ (.inl ⟨1, by unfold pn; omega, rfl⟩)
    have hu1 : u ≠ b 1 := fun e => HOU.out (e ▸ ⟨1, by unfold pn; omega, rfl⟩)
    have h01 : b 0 ≠ b 1 := fun e => by have := HX.lie.inj 0 1 (by unfold pn; omega) (by unfold pn; omega) e; omega
    clear b1 b3 H0 hB0 hrm
    gi_wp2
    refine wpIn_wide.2 ?_
    refine Wr.wp_w1 (aF := ?_) [14] 38 [true, true, true, true, true, true, true, true, true, true, true, true, true, true, false] 37 (.int .i64 0)
      (fun k Y => match k with
        | 0 => But (fun _ => False) X Y
        | _ => But (fun k => k = b 1) X Y ∧ Sk.Room Y (b 1) (PW c) (G c 5) (Sk.lastN (PW c) (s.votes ++ [s.val])))
      (fun Y => But (fun k => k = b 1) X Y)
      (by kernel_rfl) (by kernel_rfl) (by kernel_rfl) ?ha ?hMC ?hMg ?h0 ?hq ?hw ?hend
    case hq =>
      intro Y hY
      have k1 := cell_regrown ((show Boxed Y W.heap.size 234 (.pointer (some ⟨u, 0, none⟩)) from (hY.block _ bx1.lt (by omega)).trans bx1).cell)
      have k2 := cell_regrown ((HX.trn.but hY hu1).cell 0 (v := .pointer (some ⟨b 0, 0, none⟩)) rfl)
      have h0 := hY.block (b 0) (HX.lie.lt ⟨0, by unfold pn; omega, rfl⟩) h01
      have k3 := cell_regrown ((World.cell?_of_block (w := X) (a := ⟨b 0, 23, none⟩) h0).trans (HX.lie.val hc))
      have k4 := cell_regrown ((World.cell?_of_block (w := X) (a := ⟨b 0, 21, none⟩) h0).trans (HX.lie.rm hc))
      rw [show (mid s ((List.range (NN c)).filter fun i => (r i).is) (nL c s r)).val = s.val from rfl] at k3
      simp only [Lt.sel, Act.put, List.setIfInBounds_toArray, List.set_cons_succ, List.set_cons_zero]
      repeat (go_big_quiet_step (fail))
      exact rfl
    case ha => rfl
    case hMC =>
      rintro (_ | k) Y hM
      · exact hM.mono fun _ q => q.elim
      · exact hM.1
    case hMg =>
      rintro (_ | k) Y Z hM hC
      · exact hM.grow hC.to
      · exact ⟨hM.1.grow hC.to, hM.2.below hC.to hM.2.lt⟩
    case h0 => exact But.refl _ _
    case hw =>
      rintro (_ | k) st o hs ho Y hM
      · obtain rfl : 14 = st := by simpa using hs
        obtain rfl := Option.some.inj ho
        refine Wr.wp_fn (f := 172) (args := #[.pointer (some ⟨b 1, 0, none⟩), .int .i64 s.val]) ?_ (CV.out Y hM) ?_
        · kernel_rfl
        · rintro e Z ⟨rfl, z1, z2⟩
          exact ⟨_, rfl, _, rfl, fun _ _ _ => rfl, (hM.mono fun _ q => q.elim).trans z2, z1⟩
      · simp at hs
    case hend =>
      intro Y hM
      have hM : But (fun k => k = b 1) X Y ∧ Sk.Room Y (b 1) (PW c) (G c 5) (Sk.lastN (PW c) (s.votes ++ [s.val])) := hM
      have hK' := (hM.1.block D (Array.getElem?_eq_some_iff.1 hK).1 (by omega)).trans hK
      refine ⟨by simp, .inl ⟨_, _, rfl, run_takeDeferred hK', ?_⟩⟩
      have HY : Tn Y b c { mid s ((List.range (NN c)).filter fun i => (r i).is) (nL c s r) with votes := s.votes ++ [s.val] } u r sh T m := ⟨HX.lie.setRoom _ hM.1 hM.2, HX.trn.but hM.1 hu1, HX.out⟩
      exact ⟨_, results_none rfl _ _ _, rfl, tn_put HY hK' rfl, but_put (hB.trans (hM.1.mono fun k e => .inl ⟨1, by unfold pn; omega, e⟩)) (by omega) _⟩
  case stop =>
    rintro D cc pre X _ _ h _
    exact h.elim
end Sg
end Go.Proofs.YtpoededbmdffpaaGreatDoor
