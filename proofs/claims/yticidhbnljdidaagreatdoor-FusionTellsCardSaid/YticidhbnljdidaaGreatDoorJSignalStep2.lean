/-
 What Step of package signal does where a cycle may be: a contract by walking the Go text. Conditions: how a signal lies, that the configuration, the state and the raw values may be.
 The package as a law of layer 18 meets it: how a signal lies, and the contracts of all that a law calls. No function of the program is walked here. No conditions beyond those said.
-/
import Derived.Test.YticidhbnljdidaaGreatDoorJSignalLatch4
import Derived.Test.YticidhbnljdidaaGreatDoorSignalNew
import Derived.Test.YticidhbnljdidaaGreatDoorJSignalState4
import Derived.Test.YticidhbnljdidaaGreatDoorJSignalBound10
namespace Go.Proofs.YticidhbnljdidaaGreatDoor
set_option maxRecDepth 100000
open Go.ChangeShapes Go.WideShapes Go.ChangeAt Go.RowKit Go.Deep Go.Shelf
namespace Sg
open Cf (G CA)
theorem inm_any {c : List Int} {s : Si} {r : Nat → Rw} {sh : Int} (hR : Cf.Right c) : (inm c s r sh == 0) = !any c s r sh := by
 cases ha : any c s r sh
 · have h0 : inl c s r sh = [] := by unfold any at ha; simpa using ha
   have hn : ∀ i,i < NN c → isin c s r sh i = false := fun i hi => by
    cases h : isin c s r sh i
    · rfl
    · have := inl_iff.2 ⟨hi,h⟩
      rw [h0] at this; cases this
   have hf : ∀ i,(decide (i < NN c) && isin c s r sh i) = false := fun i => by
    by_cases hi : i < NN c
    · rw [hn i hi]; simp
    · simp [hi]
   unfold inm mk4
   simp [hf]
 · have h0 := any_iff.1 ha
   obtain ⟨i,hi⟩ := List.exists_mem_of_ne_nil _ h0
   obtain ⟨h1,h2⟩ := inl_iff.1 hi
   have h3 := inm_has (s := s) (r := r) (sh := sh) hR h1
   rw [h2] at h3
   show _ = false
   rw [beq_eq_false_iff_ne]
   intro e
   rw [e] at h3
   simp [Fx.has] at h3
theorem ev_one (f : Nat → Int) : (ev4 f).toArray.all (·.oneCell') = true := by simp [ev4,Value.oneCell']
set_option maxRecDepth 100000 in
set_option maxHeartbeats 1600000 in
theorem step_yes {W : World} {b : Nat → Nat} {c : List Int} {s : Si} {r : Nat → Rw} {sh : Int} (hc : c.length = 21) (hR : Cf.Right c) (hr : Rok c r) (hO : Ok c s) (H : Lie W b c s) (hn : okb c r sh = true) :
 Calls Tryz.prog 79 #[.pointer (some ⟨b 0,0,none⟩),.agg (raw8 r).toArray,.int .i64 sh] W fun e w' => e = .returned (.tuple #[.agg (res c s r sh).toArray,.int .i64 0]) ∧ Lie w' b c (nxt c s r sh) ∧ But (In b c) W w' := by
 have hlW := fun k (hk : In b c k) => H.lt hk
 have RA := Lib.hid (show VRow ((W.alloc (.cells (raw8 r).toArray 114)).alloc (.cells zres.toArray 109)) W.heap.size 114 (raw8 r) from (VRow.new W (raw8 r) _).alloc _)
 have hs1 : (W.alloc (.cells (raw8 r).toArray 114)).heap.size = W.heap.size + 1 := by simp
 have hs2 : ((W.alloc (.cells (raw8 r).toArray 114)).alloc (.cells zres.toArray 109)).heap.size = W.heap.size + 2 := by simp
 have b2 := ((Below.refl W.heap.size W).alloc (Nat.le_refl _) (.cells (raw8 r).toArray 114)).alloc (by omega) (.cells zres.toArray 109)
 have RB0 := VRow.new (W.alloc (.cells (raw8 r).toArray 114)) zres 109
 rw [hs1] at RB0
 obtain ⟨z,hz⟩ : ∃ z,z = (tnr (b 0) r sh z4 0).toArray := ⟨_,rfl⟩
 have HZ := Lib.hid hz
 have b3 := b2.alloc (by omega) (.cells z 236)
 have RB := Lib.hid (RB0.alloc (.cells z 236))
 have TT := Lib.hid (show Tn (((W.alloc (.cells (raw8 r).toArray 114)).alloc (.cells zres.toArray 109)).alloc (.cells z 236)) b c s (W.heap.size + 2) r sh z4 0 from
  ⟨H.keep (But.of_below (S := fun _ => False) b3) fun _ _ q => q,by rw [hz,← hs2]; exact VRow.new _ _ _,fun q => by have := hlW _ q; omega⟩)
 have BB := Lib.hid b3
 have hnU : ¬ Us b c (W.heap.size + 2) (W.heap.size + 1) := by
  rintro (q | q)
  · have := hlW _ q; omega
  · omega
 have BT := Lib.hid (built_turn (b 0) r sh)
 clear hs1 hs2 b2 b3 RB0 hz
 have CRT := right_any hc hR TT.out
 rw [hn] at CRT
 rw [show zres.toArray = #[.int .i64 0,.int .i64 0,.int .i64 0,.int .i64 0,.bool false,.int .i64 0,.int .i64 0,.int .i64 0,.int .i64 0,.int .i64 0,.int .i64 0,.int .i64 0,.int .i64 0] from rfl] at CRT TT BB RB RA
 have HLW := Lib.hid hlW
 clear H hlW hn
 go_enter Tryz.func79,Tryz.ntmps79
 go_wp2_with (first | ((with_reducible show wpList _ _ _ (⟨some 15,_,_,_,_,_⟩ :: _) _ _); refine VB.loaded rfl _ rfl W.heap.size rfl RA.out Tryz.underlying114 rfl sizeRw ?_) | ((with_reducible show wpList _ _ _ (⟨some 17,_,_,_,_,_⟩ :: _) _ _); refine wpList_buildTo rfl _ _ rfl z (by rw [HZ.out]; simp only [List.map_toArray,List.map_cons,List.map_nil]; exact BT.out) ?_) | (go_at_call 114; refine CRT.mono ?_; clear CRT; rintro e w2 ⟨rfl,b2⟩; have RB2 := Lib.hid (RB.out.below b2 RB.out.lt); have BB2 := Lib.hid (grow BB.out b2); have TT2 := Lib.hid (TT.out.on b2); have BU2 := Lib.hid (But.of_below (S := Us b c (W.heap.size + 2)) BB2.out); clear b2) | (go_at_call 115; refine (st_watch hc hR hr hO TT2.out).mono ?_; rintro e w3 ⟨rfl,h3,b3⟩; have TT3 := Lib.hid h3; have RB3 := Lib.hid (RB2.out.but b3 hnU); have BU3 := Lib.hid (BU2.out.trans b3); clear h3 b3) | (go_at_call 116; refine (st_enter hc hR TT3.out).mono ?_; rintro e w4 ⟨rfl,h3,b3⟩; have TT4 := Lib.hid h3; have RB4 := Lib.hid (RB3.out.but b3 hnU); have BU4 := Lib.hid (BU3.out.trans b3); clear h3 b3) | (go_at_call 117; refine (st_drift hc hR hr hO TT4.out).mono ?_; rintro e w5 ⟨rfl,h3,b3⟩; have TT5 := Lib.hid h3; have RB5 := Lib.hid (RB4.out.but b3 hnU); have BU5 := Lib.hid (BU4.out.trans b3); clear h3 b3) | (go_at_call 118; refine (st_vote hc hR hr hO TT5.out).mono ?_; rintro e w6 ⟨rfl,h3,b3⟩; have TT6 := Lib.hid h3; have RB6 := Lib.hid (RB5.out.but b3 hnU); have BU6 := Lib.hid (BU5.out.trans b3); clear h3 b3) | (go_at_call 119; refine (st_compare hc hR hr hO TT6.out).mono ?_; rintro e w7 ⟨rfl,h3,b3⟩; have TT7 := Lib.hid h3; have RB7 := Lib.hid (RB6.out.but b3 hnU); have BU7 := Lib.hid (BU6.out.trans b3); clear h3 b3) | (go_at_call 120; refine (st_suspect hc hR hr hO TT7.out).mono ?_; rintro e w8 ⟨rfl,b3⟩; have TT8 := Lib.hid (TT7.out.on b3); have RB8 := Lib.hid (RB7.out.below b3 RB7.out.lt); have BU8 := Lib.hid (BU7.out.grow b3); clear b3) | (go_at_call 121; refine (st_learn hc hR hr hO TT8.out).mono ?_; rintro e w9 ⟨rfl,h3,b3⟩; have TT9 := Lib.hid h3; have RB9 := Lib.hid (RB8.out.but b3 hnU); have BU9 := Lib.hid (BU8.out.trans b3); clear h3 b3) | (go_at_call 122; refine (st_latch hc hR hr hO TT9.out).mono ?_; rintro e w10 ⟨rfl,h3,b3⟩; have TT10 := Lib.hid h3; have RB10 := Lib.hid (RB9.out.but b3 hnU); have BU10 := Lib.hid (BU9.out.trans b3); have EB := Lib.hid (show VRow (w10.alloc (.cells #[.int .i64 0,.int .i64 0,.int .i64 0,.int .i64 0] 22)) w10.heap.size 22 [.int .i64 0,.int .i64 0,.int .i64 0,.int .i64 0] from VRow.new w10 _ _); clear h3 b3) | ((with_reducible show wpList _ _ _ (⟨none,.store _ (.tmp 10) _,_,_,_,_⟩ :: _) _ _); refine VB.store rfl _ _ rfl w10.heap.size (ev4 (evi c s r sh)) rfl rfl EB.out sizeE4 rfl (ev_one _) ?_))
 have hu1 := TT10.out.lt (k := W.heap.size + 2) (.inr rfl)
 have hbe := ((But.of_below (S := fun _ => False) ((Below.refl w10.heap.size w10).alloc (Nat.le_refl _) (.cells #[.int .i64 0,.int .i64 0,.int .i64 0,.int .i64 0] 22)))).put (.inr (Nat.le_refl _)) (ev4 (evi c s r sh)).toArray
 have EV := Lib.hid (VRow.put EB.out (ev4 (evi c s r sh)))
 have TTe := Lib.hid (show Tn _ b c (nxt c s r sh) (W.heap.size + 1 + 1) r sh (tri c s r sh) (inm c s r sh) from TT10.out.keep hbe fun _ _ q => q)
 have RBe := Lib.hid (RB10.out.but hbe fun q => q)
 have BUe := Lib.hid (BU10.out.trans (hbe.mono fun _ q => q.elim))
 have HHC := Lib.hid (And.intro hc hR)
 clear EB TT10 RB10 BU10 hbe TT9 TT8 TT7 TT6 TT5 TT4 TT3 TT2 TT RB9 RB8 RB7 RB6 RB5 RB4 RB3 RB2 RB RA BU9 BU8 BU7 BU6 BU5 BU4 BU3 BU2 BB2 BB BT HZ hr hO hc hR
 generalize World.setRow _ w10.heap.size (ev4 (evi c s r sh)).toArray = X at *
 generalize w10.heap.size = ev at *
 simp only [Act.put]
 refine Wr.wp_w0 (aF := ?_) [23] 62 [true,true,true,true,true,true,true,true,true,true,true,true,true,true,true,true,true,true,true,true,true,true,true,false,true]
  (fun k Y => match k with
   | 0 => But (fun _ => False) X Y
   | _ => But (fun k => k = W.heap.size + 1) X Y ∧ VRow Y (W.heap.size + 1) 109 [.int .i64 (val c s r sh),.int .i64 (inm c s r sh),.int .i64 (lam c (nxt c s r sh)),.int .i64 (sus c s r sh),.bool (inm c s r sh == 0),.int .i64 (tri c s r sh 0),.int .i64 (tri c s r sh 1),.int .i64 (tri c s r sh 2),.int .i64 (tri c s r sh 3),.int .i64 (evi c s r sh 0),.int .i64 (evi c s r sh 1),.int .i64 (evi c s r sh 2),.int .i64 (evi c s r sh 3)])
  (fun Y => But (fun k => k = W.heap.size + 1) X Y)
  (by kernel_rfl) (by kernel_rfl) (by kernel_rfl) ?ha ?hMC ?hMg ?h0 ?hq ?hw ?hend
 case hq =>
  intro Y hY
  have HY : Tn Y b c (nxt c s r sh) (W.heap.size + 1 + 1) r sh (tri c s r sh) (inm c s r sh) := TTe.out.keep hY fun k hk e => hnU (e ▸ hk)
  have k1 := cell_regrown (show Y.cell? ⟨b 0,23,none⟩ = some (.int .i64 (val c s r sh)) from HY.lie.val HHC.out.1)
  have k2 := cell_regrown HY.inn
  have HEV := EV.out.but hY (show ¬ ev = W.heap.size + 1 by omega)
  have HTR := Lib.hid (show ∀ w,(∃ p : Regrown,w = Sort.grow (redrawn Y p.d) p.os) → ∀ (j : Nat) v,(ev4 (tri c s r sh))[j]? = some v → w.cell? ⟨W.heap.size + 1 + 1,10 + j,none⟩ = some v by
   rintro w ⟨p,rfl⟩ j v hj
   have H2 := HY.on (below_regrown Y p.d p.os)
   match j,hj with
   | 0,hj => cases hj; exact H2.trp (i := 0) (by omega)
   | 1,hj => cases hj; exact H2.trp (i := 1) (by omega)
   | 2,hj => cases hj; exact H2.trp (i := 2) (by omega)
   | 3,hj => cases hj; exact H2.trp (i := 3) (by omega))
  have HEE := Lib.hid (show ∀ w,(∃ p : Regrown,w = Sort.grow (redrawn Y p.d) p.os) → ∀ (j : Nat) v,(ev4 (evi c s r sh))[j]? = some v → w.cell? ⟨ev,0 + j,none⟩ = some v by
   rintro w ⟨p,rfl⟩ j v hj
   rw [Nat.zero_add]
   exact (HEV.below (below_regrown Y p.d p.os) HEV.lt).cell j hj)
  have cL := reg_call (w := Y) (fun Z B => latched_any HHC.out.1 HHC.out.2 (HY.on B).lie)
  clear HY HEV
  simp only [Lt.sel]
  repeat (first | ((with_reducible show wpQuiet _ _ _ _ (⟨some 59,_,_,_,_,_⟩ :: _) _); refine wpQuiet_row rfl _ rfl (W.heap.size + 1 + 1) 10 (ev4 (tri c s r sh)) rfl HTR.out aggE4 sizeE4 ?_; simp only [Act.put,List.setIfInBounds_toArray,List.set_cons_succ,List.set_cons_zero,ev4]) | ((with_reducible show wpQuiet _ _ _ _ (⟨some 60,_,_,_,_,_⟩ :: _) _); refine wpQuiet_row rfl _ rfl ev 0 (ev4 (evi c s r sh)) rfl HEE.out aggE4 sizeE4 ?_; simp only [Act.put,List.setIfInBounds_toArray,List.set_cons_succ,List.set_cons_zero,ev4]) | go_big_quiet_step (exact cL _ _))
  exact rfl
 case ha => rfl
 case hMC =>
  rintro (_ | k) Y hM
  · exact hM.mono fun _ q => q.elim
  · exact hM.1
 case hMg =>
  rintro (_ | k) Y Z hM hC
  · exact hM.grow hC.to
  · exact ⟨hM.1.grow hC.to,hM.2.below hC.to hM.2.lt⟩
 case h0 => exact But.refl _ _
 case hw =>
  rintro (_ | k) st o hs ho Y hM
  · obtain rfl : 23 = st := by simpa using hs
    obtain rfl := Option.some.inj ho
    have hR1 := RBe.out.but hM fun q => q
    refine wp_store_row 109 _ _ rfl (W.heap.size + 1) ([.int .i64 (val c s r sh),.int .i64 (inm c s r sh),.int .i64 (lam c (nxt c s r sh)),.int .i64 (sus c s r sh),.bool (inm c s r sh == 0),.int .i64 (tri c s r sh 0),.int .i64 (tri c s r sh 1),.int .i64 (tri c s r sh 2),.int .i64 (tri c s r sh 3),.int .i64 (evi c s r sh 0),.int .i64 (evi c s r sh 1),.int .i64 (evi c s r sh 2),.int .i64 (evi c s r sh 3)] : List Value).toArray rfl rfl 109 _ hR1 sizeRs rfl (by simp [Value.oneCell']) ?_
    exact ⟨_,rfl,trivial,(hM.mono (S' := fun k => k = W.heap.size + 1) fun _ q => q.elim).put (.inl rfl) _,hR1.put _⟩
  · simp at hs
 case hend =>
  intro Y hM
  have hM : But (fun k => k = W.heap.size + 1) X Y ∧ VRow Y (W.heap.size + 1) 109 _ := hM
  have hM1 := Lib.hid hM.1
  have hM2 := Lib.hid hM.2
  clear hM
  go_wp2_with fail
  refine bodyPost_ret (v := .tuple #[.agg (res c s r sh).toArray,.int .i64 0]) ?_ rfl ⟨rfl,?_,?_⟩
  · have e : (inm c s r sh == 0) = !any c s r sh := inm_any HHC.out.2
    have h2 := hM2.out
    rw [e] at h2
    exact (VB.ret2 (cs := res c s r sh) (p := 6) (u := 7) (ty := 109) rfl rfl (aggRs _) sizeRs h2).trans rfl
  · exact (TTe.out.keep hM1.out fun k hk e => hnU (e ▸ hk)).lie
  · have hB := (BUe.out.mono (S' := fun k => Us b c (W.heap.size + 2) k ∨ k = W.heap.size + 1) fun _ e => .inl e).trans (hM1.out.mono (S' := fun k => Us b c (W.heap.size + 2) k ∨ k = W.heap.size + 1) fun _ e => .inr e)
    refine ⟨hB.os,hB.tape,hB.output,hB.size,fun k hk hs => hB.block k hk ?_⟩
    rintro ((q | q) | q)
    · exact hs q
    · omega
    · omega
end Sg
namespace Sg
open Cf (G CA)
def faced : Face where
 At W S g c s := ∃ b,Lie W b c s ∧ S = In b c ∧ g = b 0 ∧ c.length = 21
 lt := by
  rintro W S g c s ⟨b,H,rfl,rfl,hc⟩ j hj
  exact H.lt hj
 keep := by
  rintro W W' S T g c s ⟨b,H,rfl,rfl,hc⟩ B hT
  exact ⟨b,H.keep B hT,rfl,rfl,hc⟩
 new_yes := fun c w hc hR => (new_yes c w hc hR).mono fun e w' q => by
  obtain ⟨b,e1,h1,h2,h3⟩ := q
  exact ⟨⟨b 0,In b c,e1,⟨b,h1,rfl,rfl,hc⟩,h2⟩,h3⟩
 new_no := fun c w hc hR => new_no c w hc hR
 step_yes := by
  rintro W S g c s r sh ⟨b,H,rfl,rfl,hc⟩ hR hO hr _
  refine (step_yes hc hR hr.1 hO H (okb_iff.2 hr)).mono fun e w' q => ?_
  exact ⟨q.1,In b c,⟨b,q.2.1,rfl,rfl,hc⟩,q.2.2,fun j hj => .inl hj⟩
 step_no := by
  rintro W S g c s r sh ⟨b,H,rfl,rfl,hc⟩ hR hO hr
  refine step_no hc hR H ?_
  cases h : okb c r sh
  · rfl
  · exact absurd (okb_iff.1 h) hr
 latched := by
  rintro W S g c s ⟨b,H,rfl,rfl,hc⟩ hR
  exact latched_any hc hR H
 state_yes := by
  rintro W S g c s k ⟨b,H,rfl,rfl,hc⟩ hR hk
  exact state_yes hc H k hk
 state_no := by
  rintro W S g c s k ⟨b,H,rfl,rfl,hc⟩ hR hk
  exact state_no hc H k hk
end Sg
end Go.Proofs.YticidhbnljdidaaGreatDoor
