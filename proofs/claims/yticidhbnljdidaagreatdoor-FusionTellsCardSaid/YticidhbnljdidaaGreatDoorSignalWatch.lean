/-
 What watch of package signal does (the first step of a cycle): a contract by walking the Go text (a range over the channels; a value that comes to both watches). Conditions: how a signal lies; that the raw values may be.
-/
import Derived.Test.YticidhbnljdidaaGreatDoorJSignalState4
import Derived.Test.YticidhbnljdidaaGreatDoorJJumpCome7
import Derived.Test.YticidhbnljdidaaGreatDoorStuckCome
namespace Go.Proofs.YticidhbnljdidaaGreatDoor
set_option maxRecDepth 100000
open Go.ChangeShapes Go.WideShapes Go.ChangeAt Go.RowKit Go.Deep Go.Shelf
namespace Sg
open Cf (G CA)
open Rf
attribute [local go_sem] Oper.semAt_some
section
variable {W X Y : World} {b : Nat → Nat} {c : List Int} {s s' : Si} {u : Nat} {r : Nat → Rw} {sh : Int} {T T' : Nat → Int} {m m' : Int} {S : Nat → Prop} {i : Nat} {h : Ch}
theorem Lie.set' (H : Lie X b c s) (hi : i < NN c) (B : But S X Y) (hS : ∀ k,In b c k → S k → Of b i k) (C : Chan Y b c i h) : Lie Y b c (put s i h) := by
 obtain ⟨cap,h1⟩ := H.sig
 obtain ⟨cs,t,h2,h3⟩ := H.arr
 have no : ∀ p,p < 3 → ¬ S (b p) := fun p hp q => H.apart3 hi hp (hS _ ⟨p,by unfold pn; omega,rfl⟩ q)
 refine ⟨H.inj,⟨cap,h1.but B (no 0 (by omega))⟩,room_but H.room B (no 1 (by omega)),⟨cs,t,h2.but B (no 2 (by omega)),h3⟩,fun j hj => ?_⟩
 by_cases e : j = i
 · subst e; rw [put_same]; exact C
 · rw [put_other _ _ _ _ e]
   exact (H.chs j hj).but B fun k hk q => H.apart hi hj e hk (hS k (of_in hj hk) q)
theorem Tn.come (H : Tn X b c s u r sh T m) (hi : i < NN c) {n : Int} {k' : Nat} (B : But (fun k => (k = jb b i ∨ k = fb b i) ∨ k = u) X Y) (hj : VRow Y (jb b i) 266 (Jp.wat (G c 1) (G c 2) (G c 4) n true))
 (hf : ∃ last,VRow Y (fb b i) 275 (Sk.wt (b 1) last ((min k' (PW c + 1) : Nat) : Int)) ∧ (k' = 0 ∨ last = n)) (hu : VRow Y u 236 (tnr (b 0) r sh T' m)) :
 Tn Y b c (put s i { s.ch i with last := n,has := true,k := k' }) u r sh T' m := by
 have C := H.lie.chs i hi
 obtain ⟨n1,n2,n3,n4,n5,n6,n7,n8,n9,n10,n11⟩ := H.lie.five hi
 have ou : ∀ k,Of b i k → k ≠ u := fun k hk e => H.out (e ▸ of_in hi hk)
 refine ⟨H.lie.set' hi B (fun k hk q => ?_) ⟨C.own.but B ?_,hj,hf,C.fl.but B ?_,C.tr.but B ?_⟩,hu,H.out⟩
 · rcases q with (e | e) | e
   · exact .inr (.inl e)
   · exact .inr (.inr (.inl e))
   · exact absurd (e ▸ hk) H.out
 · have := ou _ (.inl rfl)
   rintro ((e | e) | e) <;> omega
 · have := ou _ (.inr (.inr (.inr (.inl rfl))))
   rintro ((e | e) | e) <;> omega
 · have := ou _ (.inr (.inr (.inr (.inr rfl))))
   rintro ((e | e) | e) <;> omega
end
theorem run_eq {P : Nat} {x : Ch} {last n : Int} (h : x.k = 0 ∨ last = x.last) : Sk.run ((P : Int) + 1) last ((min x.k (P + 1) : Nat) : Int) n = ((min (kq x n) (P + 1) : Nat) : Int) := by
 unfold Sk.run kq
 rcases h with h | h
 · rw [h]; simp only [Nat.zero_min,Int.natCast_zero,ite_self]
   omega
 · subst h
   split <;> omega
theorem froz_eq {c : List Int} {s : Si} {x : Ch} {last n : Int} (h : x.k = 0 ∨ last = x.last) : Sk.froz (PW c) (G c 5) (Sk.lastN (PW c) s.votes) last ((min x.k (PW c + 1) : Nat) : Int) n = frz c s x n := by
 unfold Sk.froz frz
 rw [run_eq h]
 congr 1
 by_cases q : PW c + 1 ≤ kq x n
 · rw [decide_eq_true q,decide_eq_true (by omega)]
 · rw [decide_eq_false q,decide_eq_false (by omega)]
def nW (s : Si) (r : Nat → Rw) (i : Nat) : Ch := { s.ch i with last := if (r i).is = true then (r i).n else 0,has := (r i).is,k := if (r i).is = true then kq (s.ch i) (r i).n else 0 }
def z4 : Nat → Int := fun _ => 0
set_option maxRecDepth 100000 in
set_option maxHeartbeats 3200000 in
theorem watch_any {W : World} {b : Nat → Nat} {c : List Int} {s : Si} {u : Nat} {r : Nat → Rw} {sh : Int} {m : Int} (hc : c.length = 21) (hR : Cf.Right c) (hr : Rok c r) (hO : Ok c s) (H : Tn W b c s u r sh z4 m) :
 Calls Tryz.prog 115 #[.pointer (some ⟨u,0,none⟩)] W fun e w' => e = .returned (.tuple #[]) ∧ Tn w' b c (mid s (List.range (NN c)) (nW s r)) u r sh (mx (List.range (NN c)) (ahd c s r) z4) m ∧ But (Us b c u) W w' := by
 have hN := NN_34 hR
 refine (callsIn_wide (n := 5)).1 ?_
 refine callsIn_of_wp_marks Tryz.func115 rfl trivial ?_ rfl
 simp only [Tryz.ntmps115,List.size_toArray,List.length_cons,List.length_nil,Nat.reduceAdd,Nat.reduceSub,Array.replicate_succ,Array.replicate_zero,List.push_toArray,List.append_toArray,List.nil_append,List.cons_append]
 have s0 := cel (.cells #[.pointer (some ⟨u,0,none⟩)] 234) H.sig
 gi_wp2_with (refine ⟨trivial,?_⟩; gi_at_call 100; refine (callsIn_wide.2 (all_any _ _)).mono ?_; rintro e w2 ⟨rfl,rfl⟩)
 have b1 := (Boxed.new W 234 (.pointer (some ⟨u,0,none⟩))).alloc (.cells #[.pointer (some ⟨b 0,0,none⟩)] 90)
 have b2 := Boxed.new (W.alloc (.cells #[.pointer (some ⟨u,0,none⟩)] 234)) 90 (.pointer (some ⟨b 0,0,none⟩))
 rw [World.size_alloc] at b2
 have hB0 := ((Below.refl W.heap.size W).alloc (Nat.le_refl _) (.cells #[.pointer (some ⟨u,0,none⟩)] 234)).alloc (by simp) (.cells #[.pointer (some ⟨b 0,0,none⟩)] 90)
 have hsz : ((W.alloc (.cells #[.pointer (some ⟨u,0,none⟩)] 234)).alloc (.cells #[.pointer (some ⟨b 0,0,none⟩)] 90)).heap.size = W.heap.size + 2 := by simp
 clear s0
 generalize (W.alloc (.cells #[.pointer (some ⟨u,0,none⟩)] 234)).alloc (.cells #[.pointer (some ⟨b 0,0,none⟩)] 90) = W0 at *
 have H0 := H.on hB0
 have HL := Lib.hid (fun k (hk : Us b c u k) => H.lt hk)
 have HIN := Lib.hid H.lie.inj
 clear H
 refine range_goes rfl (by omega) (gf := 146) (lb := #[.pointer (some ⟨W.heap.size + 1,0,none⟩)]) rfl trivial (enters_of Tryz.func146 (by kernel_rfl) rfl)
  (hseq_all (u := u) _ (by omega) hc hR H0.lie b2.cell) Kc.trans (fun X k o o' _ h2 h3 h4 => Kc.put h2 h3 h4) (fun _ => rfl)
  (fun pre X => Tn X b c (mid s (pre.map Fin.val) (nW s r)) u r sh (mx (pre.map Fin.val) (ahd c s r) z4) m ∧ Boxed X W.heap.size 234 (.pointer (some ⟨u,0,none⟩)) ∧ But (Us b c u) W X)
  (fun _ _ _ => False)
  (OwnFrom.and (own_tn _ _ _ _) (OwnFrom.and (own_box _ _ _ _) (own_other _ _ _ (by omega))))
  (fun _ _ _ _ _ hs _ _ => hs)
  ⟨by rw [List.map_nil,mid_nil,mx_nil]; exact H0,b1,But.of_below hB0⟩
  (fun x => { tmps := #[.pointer (some ⟨u,0,none⟩),.pointer (some ⟨W.heap.size,0,none⟩),.int .i64 x.val,.pointer (some ⟨xb b x.val,0,none⟩),undef,undef,.pointer (some ⟨u,0,none⟩),.pointer (some ⟨u,0,none⟩),.pointer (some ⟨u,0,none⟩),.pointer (some ⟨b 0,0,none⟩),.func (.func 146) #[] #[.pointer (some ⟨W.heap.size + 1,0,none⟩)],.int .i64 x.val,.pointer (some ⟨xb b x.val,0,none⟩),undef,undef,undef,undef,undef,undef,undef,undef,undef,undef,undef,undef,undef,undef,undef,undef,undef,undef,undef,undef,undef,undef,undef,undef,undef,undef,undef,undef,undef,undef,undef,undef,undef,undef,undef,undef,undef,undef,undef,undef,undef,undef,undef,undef,undef,undef],defers := [] }) ?assign ?body ?done ?stop
 case assign =>
  intro l x W K hK
  dsimp only [enca]
  gi_wp2
  exact hK
 case body =>
  rintro lp pre x X ⟨HX,bx1,hB⟩ hlen hG
  have hx := x.isLt
  have hx4 : x.val < 4 := by omega
  have hxi : (x.val : Int) < 4 := by omega
  have c1 := bx1.cell
  have q1 := HX.is hx4
  have HMP := Lib.hid (show (pre ++ [x]).map Fin.val = pre.map Fin.val ++ [x.val] by simp)
  have eS : (mid s (pre.map Fin.val) (nW s r)).ch x.val = s.ch x.val := mx_not hG
  have eT : mx (pre.map Fin.val) (ahd c s r) z4 x.val = 0 := mx_not hG
  have HS := Lib.hid eS
  have HTT := Lib.hid eT
  have HXX := Lib.hid HX
  have HBB := Lib.hid hB
  have B1 := Lib.hid bx1
  have KC := Lib.hid (fun (Y : World) (s' : Si) (T' : Nat → Int) (S : Nat → Prop) (hY : Tn Y b c s' u r sh T' m) (h : But S X Y) (hS : ∀ k,S k → Of b x.val k ∨ k = u) => (show (KeepsFrom W0.heap.size X Y ∧ Kc (Dv b u (W.heap.size + 1) W0.heap.size) (W0.heap.size + 2) X Y) ∧ Boxed Y W.heap.size 234 (.pointer (some ⟨u,0,none⟩)) ∧ But (Us b c u) W Y from by
   have hS' : ∀ k,S k → Us b c u k ∧ k ≠ b 2 := fun k q => (hS k q).elim (fun o => ⟨of_us hx o,fun e => HX.lie.apart3 hx (p := 2) (by omega) (e ▸ o)⟩) (fun e => ⟨.inr e,fun e2 => HX.out (by rw [← e,e2]; exact ⟨2,by unfold pn; omega,rfl⟩)⟩)
   refine ⟨round_kc HX hY h fun k q => ⟨by have := HL.out k (hS' k q).1; omega,by have := HL.out k (hS' k q).1; omega,(hS' k q).2⟩,?_,hB.trans (h.mono fun k q => (hS' k q).1)⟩
   exact (h.block _ (by have := bx1.lt; omega) fun q => by have := HL.out _ (hS' _ q).1; omega).trans bx1))
  clear HX hB bx1
  cases his : (r x.val).is
  · rw [his] at q1
    have hf := HXX.out.trn.frozen (10 + x.val)
    have hcl := HXX.out.trp hx4
    obtain ⟨t1,t2⟩ := HXX.out.trip hx4 1
    have CM := miss_any t1.lie x.val hx
    have c1' := (t2.block W.heap.size (by have := c1; exact cell_blk c1) (fun e => by have := HL.out u (.inr rfl); omega))
    gi_wp2
    refine ⟨trivial,(CallsIn.inRound lp (callsIn_wide.2 CM)).mono ?_⟩
    rintro e Y ⟨rfl,ch,bo⟩
    have HY := Lib.hid (t1.set hx bo ch)
    have HBO := Lib.hid ((t2.mono (S' := fun k => Of b x.val k ∨ k = u) fun k e => .inr e).trans (bo.mono fun k e => .inl e))
    clear t1 t2 CM ch bo c1' q1 hf hcl
    gi_wp2
    obtain ⟨⟨k1,k2⟩,k3,k4⟩ := KC.out Y _ _ _ HY.out HBO.out fun k q => q
    refine ⟨k1,k2,?_,k3,k4⟩
    have := HY.out
    rw [put_mid _ _ _ _ _ (show _ = nW s r x.val by rw [HS.out]; unfold nW; simp [his]),tup_mx _ _ _ _ _ (show 1 = ahd c s r x.val by unfold ahd; simp [his])] at this
    rw [HMP.out]; exact this
  · rw [his] at q1
    have hv : Jp.val (r x.val).n = true := by
     have := hr x.val hx his
     unfold Jp.val; simp; omega
    have CH := HXX.out.lie.chs x.val hx
    rw [eS] at CH
    have HCH := Lib.hid CH
    have h5 := HXX.out.lie.five hx
    have hju : jb b x.val ≠ u := fun e => HXX.out.out (e ▸ of_in hx (.inr (.inl rfl)))
    have hxu : xb b x.val ≠ u := fun e => HXX.out.out (e ▸ of_in hx (.inl rfl))
    have hfu : fb b x.val ≠ u := fun e => HXX.out.out (e ▸ of_in hx (.inr (.inr (.inl rfl))))
    have h0 := CH.own.cell 0 (v := .pointer (some ⟨jb b x.val,0,none⟩)) rfl
    have huu : VRow X u 236 (tnr (b 0) r sh (mx (pre.map Fin.val) (ahd c s r) z4) m) := HXX.out.trn
    have HUU := Lib.hid huu
    have hjl : (s.ch x.val).has = true → Jp.val (s.ch x.val).last = true := fun _ => by
     have := (hO.ch x.val hx).last
     unfold Jp.val; simp; omega
    have hst : 0 ≤ G c 4 := by obtain ⟨-,-,-,-,h4,-⟩ := hR; exact h4.1
    have HJC := Lib.hid (fun (Y : World) (hj : VRow Y (jb b x.val) 266 (Jp.wat (G c 1) (G c 2) (G c 4) (s.ch x.val).last (s.ch x.val).has)) => Jp.come_yes (jb b x.val) _ _ _ _ _ (r x.val).n Y hj hjl hst hv)
    have HV := Lib.hid hv
    have HCL := Lib.hid c1
    clear hv hjl hst huu CH
    gi_wp2
    clear q1
    obtain ⟨v1,hv1⟩ : ∃ v1,v1 = Jp.trips (G c 1) (G c 2) (G c 4) (s.ch x.val).last (s.ch x.val).has (r x.val).n := ⟨_,rfl⟩
    rw [← hv1] at HJC
    have HV1 := Lib.hid hv1
    clear hv1
    refine Wr.wpIn_w1 (aF := ?_) [9,16] 59 [true,true,true,true,true,true,true,true,true,false,true,true,true,true,true,true,false] 38 (.tuple #[.int .i64 v1,.int .i64 0])
     (fun k Y => match k with
      | 0 => But (fun _ => False) X Y
      | 1 => But (fun k => k = jb b x.val) X Y ∧ VRow Y (jb b x.val) 266 (Jp.wat (G c 1) (G c 2) (G c 4) (r x.val).n true)
      | _ => But (fun k => k = jb b x.val ∨ k = u) X Y ∧ VRow Y (jb b x.val) 266 (Jp.wat (G c 1) (G c 2) (G c 4) (r x.val).n true) ∧ VRow Y u 236 (tnr (b 0) r sh (tup (mx (pre.map Fin.val) (ahd c s r) z4) x.val v1) m))
     (fun Y => But (fun k => k = jb b x.val ∨ k = u) X Y ∧ ∃ T',VRow Y u 236 (tnr (b 0) r sh T' m))
     (by kernel_rfl) (by kernel_rfl) (by kernel_rfl) (by kernel_rfl) ?hL ?ha ?hMC ?hMg ?h0 ?hq ?hw ?hend
    case hq =>
     intro Y hY
     obtain ⟨hb,T',hT⟩ := hY
     have k1 := cell_regrown ((show Boxed Y W.heap.size 234 (.pointer (some ⟨u,0,none⟩)) from (hb.block _ B1.out.lt (by
      have h1 := HL.out u (.inr rfl)
      have h2 := HL.out (jb b x.val) (of_us hx (.inr (.inl rfl)))
      rintro (e | e) <;> omega)).trans B1.out).cell)
     have k2 := cell_regrown ((HCH.out.own.but hb (by rintro (e | e) <;> omega)).cell 0 (v := .pointer (some ⟨jb b x.val,0,none⟩)) rfl)
     have cR := reg_call (w := Y) (fun Z B => (raw_row (hT.below B hT.lt) x.val hx4).mono fun e w' q => ⟨q.1,q.2 ▸ Below.refl _ _⟩)
     simp only [Lt.sel,Act.put,List.setIfInBounds_toArray,List.set_cons_succ,List.set_cons_zero]
     repeat (go_big_quiet_step (exact cR _ _))
     exact rfl
    case ha => rfl
    case hL => rintro ⟨_,_,h⟩; exact h
    case hMC =>
     rintro (_ | _ | k) Y hM
     · exact ⟨hM.mono fun _ q => q.elim,_,HUU.out.but hM fun q => q⟩
     · exact ⟨hM.1.mono fun _ q => .inl q,_,HUU.out.but hM.1 fun e => hju e.symm⟩
     · exact ⟨hM.1,_,hM.2.2⟩
    case hMg =>
     rintro (_ | _ | k) Y Z hM hC
     · exact hM.grow hC.to
     · exact ⟨hM.1.grow hC.to,hM.2.below hC.to hM.2.lt⟩
     · exact ⟨hM.1.grow hC.to,hM.2.1.below hC.to hM.2.1.lt,hM.2.2.below hC.to hM.2.2.lt⟩
    case h0 => exact But.refl _ _
    case hw =>
     rintro (_ | _ | k) s o hs ho Y hM
     · obtain rfl : 9 = s := by simpa using hs
       obtain rfl := Option.some.inj ho
       refine Wr.wp_fn (f := 159) (args := #[.pointer (some ⟨jb b x.val,0,none⟩),.int .i64 (r x.val).n]) ?_ (HJC.out Y (HCH.out.jw.but hM fun q => q)) ?_
       · kernel_rfl
       · rintro e Z ⟨rfl,z1,z2⟩
         exact ⟨_,rfl,_,rfl,fun _ _ _ => rfl,(hM.mono fun _ q => q.elim).trans z2,z1⟩
     · obtain rfl : 16 = s := by simpa using hs
       obtain rfl := Option.some.inj ho
       have hu := HUU.out.but hM.1 fun e => hju e.symm
       have f1 := hu.frozen (10 + x.val)
       have f2 : Y.cell? ⟨u,10 + x.val,none⟩ = some (.int .i64 (mx (pre.map Fin.val) (ahd c s r) z4 x.val)) := by
        have : x.val = 0 ∨ x.val = 1 ∨ x.val = 2 ∨ x.val = 3 := by omega
        rcases this with e | e | e | e <;> (rw [e]; exact hu.cell _ rfl)
       have HK := Lib.hid (show But (fun k => k = jb b x.val ∨ k = u) X (Y.setCell ⟨u,10 + x.val,none⟩ (.int .i64 v1)) ∧ VRow (Y.setCell ⟨u,10 + x.val,none⟩ (.int .i64 v1)) (jb b x.val) 266 (Jp.wat (G c 1) (G c 2) (G c 4) (r x.val).n true) ∧ VRow (Y.setCell ⟨u,10 + x.val,none⟩ (.int .i64 v1)) u 236 (tnr (b 0) r sh (tup (mx (pre.map Fin.val) (ahd c s r) z4) x.val v1) m) from
        ⟨(hM.1.mono fun _ q => .inl q).setCell (p := ⟨u,10 + x.val,none⟩) (.inl (.inr rfl)) _,hM.2.setOther (p := ⟨u,10 + x.val,none⟩) hju _,tnr_set hx4 v1 ▸ hu.set (10 + x.val) _⟩)
       unfold Oper.wp
       go_simp
       exact HK.out
     · simp at hs
    case hend =>
     intro Y hM
     have HM := Lib.hid (show But (fun k => k = jb b x.val ∨ k = u) X Y ∧ VRow Y (jb b x.val) 266 (Jp.wat (G c 1) (G c 2) (G c 4) (r x.val).n true) ∧ VRow Y u 236 (tnr (b 0) r sh (tup (mx (pre.map Fin.val) (ahd c s r) z4) x.val v1) m) from hM)
     clear hM c1 h0 HUU HJC HCL
     obtain ⟨la,fr,fl⟩ := HCH.out.fw
     have hHf := HM.out.1.mono (S' := fun k => (k = jb b x.val ∨ k = fb b x.val) ∨ k = u) fun k q => q.elim (fun e => .inl (.inl e)) .inr
     have HRM := Lib.hid (room_but (HXX.out.lie.room) HM.out.1 (by
      have := HXX.out.out
      rintro (e | e)
      · have := HXX.out.lie.inj 1 (4 + 5 * x.val) (by unfold pn; omega) (by unfold pn; omega) e; omega
      · exact this (e ▸ ⟨1,by unfold pn; omega,rfl⟩)))
     have HFR := Lib.hid (fr.but HM.out.1 (by rintro (e | e) <;> omega))
     have HV' := Lib.hid HV.out
     have HFC := Lib.hid (fun (Z : World) (hz : But (fun _ => False) Y Z) => Sk.come_yes (fb b x.val) (b 1) (PW c) (G c 5) la _ (r x.val).n _ Z HV.out (room_but HRM.out hz fun q => q) (HFR.out.but hz fun q => q) (by omega) (by omega) (by omega))
     have hfz : Sk.froz (PW c) (G c 5) (Sk.lastN (PW c) s.votes) la ((min (s.ch x.val).k (PW c + 1) : Nat) : Int) (r x.val).n = frz c s (s.ch x.val) (r x.val).n := froz_eq fl
     have hrn : Sk.run ((PW c : Int) + 1) la ((min (s.ch x.val).k (PW c + 1) : Nat) : Int) (r x.val).n = ((min (kq (s.ch x.val) (r x.val).n) (PW c + 1) : Nat) : Int) := run_eq fl
     have HFC2 := HFC
     rw [show (mid s (pre.map Fin.val) (nW s r)).votes = s.votes from rfl] at HFC2
     rw [hfz,hrn] at HFC2
     clear HFC hfz hrn fr
     obtain ⟨fz,hfz⟩ : ∃ fz,fz = frz c s (s.ch x.val) (r x.val).n := ⟨_,rfl⟩
     rw [← hfz] at HFC2
     have HFZ := Lib.hid hfz
     clear hfz
     gi_wp2
     refine Wr.wpIn_w1 (aF := ?_) [7] 59 [true,true,true,true,true,true,true,false,true,true,true,true,true] 52 (.tuple #[.bool fz,.int .i64 0])
      (fun k Z => match k with
       | 0 => But (fun _ => False) Y Z
       | _ => But (fun k => k = fb b x.val) Y Z ∧ VRow Z (fb b x.val) 275 (Sk.wt (b 1) (r x.val).n ((min (kq (s.ch x.val) (r x.val).n) (PW c + 1) : Nat) : Int)))
      (fun Z => But (fun k => k = fb b x.val) Y Z)
      (by kernel_rfl) (by kernel_rfl) (by kernel_rfl) (by kernel_rfl) ?hL ?ha ?hMC ?hMg ?h0 ?hq ?hw ?hend
     case hq =>
      intro Z hZ
      have hT := HM.out.2.2.but hZ (fun e => hfu e.symm)
      have hXY : Boxed Y W.heap.size 234 (.pointer (some ⟨u,0,none⟩)) := (HM.out.1.block _ B1.out.lt (by
       have h1 := HL.out u (.inr rfl)
       have h2 := HL.out (jb b x.val) (of_us hx (.inr (.inl rfl)))
       rintro (e | e) <;> omega)).trans B1.out
      have k1 := cell_regrown ((show Boxed Z W.heap.size 234 (.pointer (some ⟨u,0,none⟩)) from (hZ.block _ hXY.lt (by
       have h2 := HL.out (fb b x.val) (of_us hx (.inr (.inr (.inl rfl))))
       intro e; omega)).trans hXY).cell)
      have k2 := cell_regrown (((HCH.out.own.but HM.out.1 (by rintro (e | e) <;> omega)).but hZ (by omega)).cell 1 (v := .pointer (some ⟨fb b x.val,0,none⟩)) rfl)
      have cR := reg_call (w := Z) (fun Z' B => (raw_row (hT.below B hT.lt) x.val hx4).mono fun e w' q => ⟨q.1,q.2 ▸ Below.refl _ _⟩)
      simp only [Lt.sel,Act.put,List.setIfInBounds_toArray,List.set_cons_succ,List.set_cons_zero]
      repeat (go_big_quiet_step (exact cR _ _))
      exact rfl
     case ha => rfl
     case hL => rintro ⟨_,_,h⟩; exact h
     case hMC =>
      rintro (_ | k) Z hM
      · exact hM.mono fun _ q => q.elim
      · exact hM.1
     case hMg =>
      rintro (_ | k) Z Z' hM hC
      · exact hM.grow hC.to
      · exact ⟨hM.1.grow hC.to,hM.2.below hC.to hM.2.lt⟩
     case h0 => exact But.refl _ _
     case hw =>
      rintro (_ | k) s o hs ho Z hM
      · obtain rfl : 7 = s := by simpa using hs
        obtain rfl := Option.some.inj ho
        refine Wr.wp_fn (f := 160) (args := #[.pointer (some ⟨fb b x.val,0,none⟩),.int .i64 (r x.val).n]) ?_ (HFC2.out Z hM) ?_
        · kernel_rfl
        · rintro e Z' ⟨rfl,z1,z2⟩
          exact ⟨_,rfl,_,rfl,fun _ _ _ => rfl,(hM.mono fun _ q => q.elim).trans z2,z1⟩
      · simp at hs
     case hend =>
      intro Z hM2
      have HM2 := Lib.hid (show But (fun k => k = fb b x.val) Y Z ∧ VRow Z (fb b x.val) 275 (Sk.wt (b 1) (r x.val).n ((min (kq (s.ch x.val) (r x.val).n) (PW c + 1) : Nat) : Int)) from hM2)
      clear hM2
      have hXZ : But (fun k => (k = jb b x.val ∨ k = fb b x.val) ∨ k = u) X Z := hHf.trans (HM2.out.1.mono fun k e => .inl (.inr e))
      have HZ := HXX.out.come hx (k' := kq (s.ch x.val) (r x.val).n) hXZ (HM.out.2.1.but HM2.out.1 (by omega)) ⟨_,HM2.out.2,.inr rfl⟩ (HM.out.2.2.but HM2.out.1 (fun e => hfu e.symm))
      have HZB : But (fun k => Of b x.val k ∨ k = u) X Z := hXZ.mono fun k q => q.elim (fun q => .inl (q.elim (fun e => .inr (.inl e)) fun e => .inr (.inr (.inl e)))) .inr
      obtain ⟨⟨-,-⟩,hBZ,-⟩ := KC.out Z _ _ _ HZ HZB fun k q => q
      have c1 := hBZ.cell
      have CT := trip_any HZ x.val hx4 8 fz (.inl rfl) (by
       show 0 ≤ tup _ x.val v1 x.val ∧ tup _ x.val v1 x.val < 8
       unfold tup
       rw [if_pos rfl,HV1.out]
       unfold Jp.trips
       split <;> split <;> omega)
      clear hBZ
      gi_wp2
      refine ⟨trivial,(CallsIn.inRound lp (callsIn_wide.2 CT)).mono ?_⟩
      rintro e Z2 ⟨rfl,HZ2,BZ2⟩
      have H2 := Lib.hid HZ2
      have B2 := Lib.hid (HZB.trans (BZ2.mono fun k e => .inr e))
      clear HZ2 BZ2 CT c1 HZ HZB
      gi_wp2
      obtain ⟨⟨k1,k2⟩,k3,k4⟩ := KC.out Z2 _ _ _ H2.out B2.out fun k q => q
      refine ⟨k1,k2,?_,k3,k4⟩
      have := H2.out
      have eT2 : tup (tup (mx (pre.map Fin.val) (ahd c s r) z4) x.val v1) x.val (tup (mx (pre.map Fin.val) (ahd c s r) z4) x.val v1 x.val + if fz = true then 8 else 0) = mx (pre.map Fin.val ++ [x.val]) (ahd c s r) z4 := by
       rw [← tup_mx _ _ _ _ _ (show (v1 + if fz = true then 8 else 0) = ahd c s r x.val by rw [HV1.out,HFZ.out]; unfold ahd; rw [if_pos his])]
       funext k
       unfold tup
       by_cases e : k = x.val
       · subst e; simp
       · simp [e]
      rw [eT2,put_mid _ _ _ _ _ (show _ = nW s r x.val by rw [HS.out]; unfold nW; simp [his])] at this
      rw [HMP.out]; exact this
 case done =>
  rintro D ys X hD hys ⟨HX,-,hB⟩ hK
  gi_wp2
  refine ⟨by simp,.inl ⟨_,_,rfl,run_takeDeferred hK,?_⟩⟩
  rw [hys] at HX
  exact ⟨_,results_none rfl _ _ _,rfl,tn_put HX hK rfl,but_put hB (by omega) _⟩
 case stop =>
  rintro D cc pre X _ _ h _
  exact h.elim
end Sg
end Go.Proofs.YticidhbnljdidaaGreatDoor
