/-
 What New of package signal returns: a contract by walking the Go text (channels made one by one, their row grows). Conditions: none beyond the configuration's length.
-/
import Derived.Test.YticidhbnljdidaaGreatDoorJFusionStep4
import Derived.Test.YticidhbnljdidaaGreatDoorSignalHelp
import Derived.Test.YticidhbnljdidaaGreatDoorJSignalBound10
namespace Go.Proofs.YticidhbnljdidaaGreatDoor
set_option maxRecDepth 100000
open Go.ChangeShapes Go.WideShapes Go.ChangeAt Go.RowKit Go.Deep Go.Shelf
namespace Sg
open Cf (G CA Box)
open Rf
theorem ptrInfo : (Tryz.prog.info? 177).map (fun i => (i.zero,i.size,i.bytes)) = some (some (.pointer none),1,8) := by kernel_rfl
theorem wpQuiet_cfg {ops : Array Oper} {C : World → Prop} {Q : Act → Prop} {o : Oper} {rest : List Oper} {a : Act} (hw : Region.wanted o (yielded ops a.tmps) = true) (x : Operand) (ho : o.op = .load 24 x)
 (b : Nat) (c : List Int) (hx : a.eval x = .pointer (some ⟨b,0,none⟩)) (hb : ∀ w,C w → Box w b c) (hc : c.length = 21)
 (h : wpQuiet Tryz.prog ops C Q rest (a.put o.dst (.agg (CA c)))) : wpQuiet Tryz.prog ops C Q (o :: rest) a := by
 unfold wpQuiet
 rw [if_pos hw]
 refine ⟨.agg (CA c),fun w hC => ?_,h⟩
 unfold Oper.quietAt execOp
 simp only [ho,hx,Instr.loadAt,Instr.sureAddr,Sem.run_bind,Sem.run_pure,Result.andThen_ok,run_loadVar_row w b 24 24 (CA c) (0,0) _ (hb w hC) Tryz.underlying24 rfl (by rw [Cf.CA_size,hc]; exact Cf.sizeC)]
 exact ⟨rfl,rfl⟩
theorem new_no (c : List Int) (w : World) (hc : c.length = 21) (hR : ¬ Cf.Right c) :
 Calls Tryz.prog 34 #[.agg (CA c)] w fun e w' => e = .returned (.tuple #[.pointer none,.int .i64 2]) ∧ Below w.heap.size w w' := by
 have CR := fun W => Cf.right_any c W hc
 have hrt : Cf.rt c = false := by
  cases h : Cf.rt c
  · rfl
  · exact absurd (of_decide_eq_true h) hR
 rw [hrt] at CR
 have B1 := Lib.hid (Box.new w c)
 have HC := Lib.hid hc
 have b1 := Lib.hid ((Below.refl w.heap.size w).alloc (Nat.le_refl _) (.cells (CA c) 24))
 clear hc hR hrt
 go_enter Tryz.func34,Tryz.ntmps34
 go_wp2_with (first | ((with_reducible show wpList _ _ _ (⟨some 7,_,_,_,_,_⟩ :: _) _ _); refine Cf.wpList_loadC rfl _ rfl w.heap.size c rfl B1.out HC.out ?_) | (go_at_call 23; refine (CR _).mono ?_; rintro e w2 ⟨rfl,b2⟩; have HB2 := Lib.hid (grow b1.out b2); clear b2))
 go_ret2
 exact ⟨rfl,HB2.out⟩
set_option maxRecDepth 100000 in
set_option maxHeartbeats 1600000 in
theorem newChannel_any (c : List Int) (rm : Nat) (w : World) (hc : c.length = 21) (hR : Cf.Right c) :
 Calls Tryz.prog 73 #[.agg (CA c),.pointer (some ⟨rm,0,none⟩)] w fun e w' => ∃ x j f l t,e = .returned (.pointer (some ⟨x,0,none⟩)) ∧ Below w.heap.size w w' ∧ (w.heap.size ≤ j ∧ j < l ∧ l < t ∧ t < f ∧ f < x) ∧
  VRow w' x 201 [.pointer (some ⟨j,0,none⟩),.pointer (some ⟨f,0,none⟩),.pointer (some ⟨l,0,none⟩),.pointer (some ⟨t,0,none⟩),.bool false,.bool false,.int .i64 0,.int .i64 0,.int .i64 0] ∧
  VRow w' j 266 (Jp.wat (G c 1) (G c 2) (G c 4) 0 false) ∧ VRow w' f 275 (Sk.wt rm 0 0) ∧ VRow w' l 270 (Dr.fil (G c 8) (G c 7) 0) ∧ VRow w' t 273 (Ql.tri (G c 10) (G c 11) 0) := by
 have B1 := Box.new w c
 have k1 := B1.at hc 1 (by omega)
 have k2 := B1.at hc 2 (by omega)
 have k4 := B1.at hc 4 (by omega)
 have b1 := Lib.hid ((Below.refl w.heap.size w).alloc (Nat.le_refl _) (.cells (CA c) 24))
 obtain ⟨h0,h1,h2,h3,h4,h5,h6,h7,h8,h9,h10,h11,-⟩ := hR
 have CJ := fun W => (Jp.new_yes (G c 1) (G c 2) (G c 4) W ((Jp.may_iff _ _ _).2 ⟨(Jp.val_iff _).2 (by omega),(Jp.val_iff _).2 (by omega),by omega,by omega,by omega⟩)).mono fun e w' q => (show ∃ g,e = .returned (.tuple #[.pointer (some ⟨g,0,none⟩),.int .i64 0]) ∧ Kp.Kept W w' g 266 (Jp.wat (G c 1) (G c 2) (G c 4) 0 false) from ⟨_,q.1,by rw [q.2]; exact ⟨(Below.refl _ _).alloc (Nat.le_refl _) _,VRow.new _ _ _,Nat.le_refl _⟩⟩)
 have CD := fun W => (Dr.new_yes (G c 8) (G c 7) W ((Dr.may_iff _ _).2 ⟨h8.1,h8.2,h7.1,h7.2⟩)).mono fun e w' q => (show ∃ g,e = .returned (.tuple #[.pointer (some ⟨g,0,none⟩),.int .i64 0]) ∧ Kp.Kept W w' g 270 (Dr.fil (G c 8) (G c 7) 0) from ⟨_,q.1,by rw [q.2]; exact ⟨(Below.refl _ _).alloc (Nat.le_refl _) _,VRow.new _ _ _,Nat.le_refl _⟩⟩)
 have CT := fun W => Ql.new_yes (G c 10) (G c 11) W ((Ql.may_iff _ _).2 ⟨h10.1,h10.2,h11.1,h11.2⟩)
 have CW := fun W => (Sk.watch_any rm W).mono fun e w' q => (show ∃ g,e = .returned (.pointer (some ⟨g,0,none⟩)) ∧ Kp.Kept W w' g 275 (Sk.wt rm 0 0) from ⟨_,q.1,by rw [q.2]; exact ⟨(Below.refl _ _).alloc (Nat.le_refl _) _,VRow.new _ _ _,Nat.le_refl _⟩⟩)
 have BB := Lib.hid B1
 have HC := Lib.hid hc
 clear B1 hc h0 h1 h2 h3 h4 h5 h6 h7 h8 h9 h10 h11
 go_enter Tryz.func73,Tryz.ntmps73
 go_wp2_with (first | (go_at_call 110; refine (CJ _).mono ?_; clear CJ k1 k2 k4; rintro e w2 ⟨j,rfl,kj⟩; have X2 := Lib.hid (BB.out.on kj.below); have q8 := X2.out.at HC.out 8 (by omega); have q7 := X2.out.at HC.out 7 (by omega); have KJ := Lib.hid kj; clear kj) | (go_at_call 111; refine (CD _).mono ?_; clear CD q7 q8; rintro e w3 ⟨l,rfl,kl⟩; have X3 := Lib.hid (X2.out.on kl.below); have q10 := X3.out.at HC.out 10 (by omega); have q11 := X3.out.at HC.out 11 (by omega); have KL := Lib.hid kl; clear kl) | (go_at_call 112; refine (CT _).mono ?_; clear CT q10 q11; rintro e w4 ⟨t,rfl,kt⟩; have KT := Lib.hid kt; clear kt) | (go_at_call 113; refine (CW _).mono ?_; clear CW; rintro e w5 ⟨f,rfl,kf⟩; have KF := Lib.hid kf; clear kf))
 go_ret
 obtain ⟨bj,vj,gj⟩ := KJ.out
 obtain ⟨bl,vl,gl⟩ := KL.out
 obtain ⟨bt,vt,gt⟩ := KT.out
 obtain ⟨bf,vf,gf⟩ := KF.out
 have ww : (w.alloc (Obj.cells (CA c) 24)).heap.size = w.heap.size + 1 := by simp
 have b5 := (Below.refl w5.heap.size w5).alloc (Nat.le_refl _) (.cells #[.pointer (some ⟨j,0,none⟩),.pointer (some ⟨f,0,none⟩),.pointer (some ⟨l,0,none⟩),.pointer (some ⟨t,0,none⟩),.bool false,.bool false,.int .i64 0,.int .i64 0,.int .i64 0] 201)
 have lj := vj.lt
 have ll := vl.lt
 have lt := vt.lt
 have lf := vf.lt
 have b4 := grow bf b5
 have b3 := grow bt b4
 have b2 := grow bl b3
 exact ⟨_,j,f,l,t,rfl,grow b1.out (grow bj b2),⟨by omega,by omega,by omega,by omega,by omega⟩,VRow.new w5 _ _,vj.below b2 lj,vf.below b5 lf,vl.below b3 ll,vt.below b4 lt⟩
set_option maxRecDepth 100000 in
set_option maxHeartbeats 3200000 in
theorem new_yes (c : List Int) (w : World) (hc : c.length = 21) (hR : Cf.Right c) :
 Calls Tryz.prog 34 #[.agg (CA c)] w fun e w' => ∃ b : Nat → Nat,e = .returned (.tuple #[.pointer (some ⟨b 0,0,none⟩),.int .i64 0]) ∧ Lie w' b c (begin c) ∧ (∀ k,In b c k → w.heap.size ≤ k) ∧ Below w.heap.size w w' := by
 have CR := fun W => Cf.right_any c W hc
 have hrt : Cf.rt c = true := decide_eq_true hR
 rw [hrt] at CR
 have hPW := PW_bd hR
 have CS := fun W => (Sk.new_yes (PW c) (G c 5) W hPW.1 hPW.2 (by obtain ⟨-,-,-,-,-,h5,-⟩ := hR; exact h5.1) (by obtain ⟨-,-,-,-,-,h5,-⟩ := hR; exact h5.2)).mono fun e w' q => (show ∃ g,e = .returned (.tuple #[.pointer (some ⟨g,0,none⟩),.int .i64 0]) ∧ Kp.Kept W w' g 222 (cellsI .i64 (Sk.room ((PW c : Int) + 1) (G c 5) (List.replicate 15 0) 0 0)) from ⟨_,q.1,by rw [q.2]; exact ⟨(Below.refl _ _).alloc (Nat.le_refl _) _,VRow.new _ _ _,Nat.le_refl _⟩⟩)
 have hP6 : (PW c : Int) + 1 = G c 6 := by
  obtain ⟨-,-,-,-,-,-,h6,-⟩ := hR
  unfold PW; omega
 rw [hP6] at CS
 have B1 := Lib.hid (Box.new w c)
 have HC := Lib.hid hc
 have b1 := Lib.hid ((Below.refl w.heap.size w).alloc (Nat.le_refl _) (.cells (CA c) 24))
 have BS := Lib.hid (fun rm => built_sig c rm (G c 3) hc)
 have HN := NN_34 hR
 obtain ⟨z,hz⟩ : ∃ z,z = fun rm => (sgv c rm (.slice none 0 0) (G c 3)).toArray := ⟨_,rfl⟩
 have HZ := Lib.hid hz
 clear hc hrt hz
 go_enter Tryz.func34,Tryz.ntmps34
 go_wp2_with (first | ((with_reducible show wpList _ _ _ (⟨some 7,_,_,_,_,_⟩ :: _) _ _); refine Cf.wpList_loadC rfl _ rfl w.heap.size c rfl B1.out HC.out ?_) | (go_at_call 23; refine (CR _).mono ?_; rintro e w2 ⟨rfl,b2⟩; have HB2 := Lib.hid (grow b1.out b2); have X2 := Lib.hid (B1.out.on b2); have q5 := X2.out.at HC.out 5 (by omega); have q6 := X2.out.at HC.out 6 (by omega); clear b2) | (go_at_call 72; refine (CS _).mono ?_; clear CS q5 q6; rintro e w3 ⟨rm,rfl,kr⟩; have KR := Lib.hid kr; have X3 := Lib.hid (X2.out.on kr.below); have q3 := X3.out.at HC.out 3 (by omega); have q0 := ((X3.out.below ((Below.refl w3.heap.size w3).alloc (Nat.le_refl _) (.cells (z rm) 176)) X3.out.lt)).at HC.out 0 (by omega); clear kr) | ((with_reducible show wpList _ _ _ (⟨some 22,_,_,_,_,_⟩ :: _) _ _); refine wpList_buildTo rfl _ _ rfl (z rm) (by rw [HZ.out]; simp only [List.map_toArray,List.map_cons,List.map_nil]; exact BS.out rm) ?_) | ((with_reducible show wpList _ _ _ (⟨some 18,_,_,_,_,_⟩ :: _) _ _); refine Cf.wpList_loadC rfl _ rfl w.heap.size c rfl X3.out HC.out ?_))
 clear q3 q0 CR
 have CN := Lib.hid (fun (W : World) => newChannel_any c rm W HC.out hR)
 have HHR := Lib.hid hR
 have hg : w.heap.size ≤ w3.heap.size := by have := X3.out.lt; omega
 have hgl : w.heap.size < w3.heap.size := X3.out.lt
 obtain ⟨g,hg0⟩ : ∃ g,g = w3.heap.size := ⟨_,rfl⟩
 obtain ⟨br,vr,gr⟩ := KR.out
 have hb0 : Below w.heap.size w w3 := grow HB2.out br
 have h2 := HB2.out.size
 have S0 : Sm w (w3.alloc (.cells (z rm) 176)) c w.heap.size g rm (fun p => if p = 0 then g else rm) 0 (.slice none 0 0) := by
  have hal := (Below.refl w3.heap.size w3).alloc (Nat.le_refl _) (.cells (z rm) 176)
  refine ⟨grow hb0 hal,VRow.below (w := w3) X3.out hal X3.out.lt,?_,vr.below hal vr.lt,rfl,rfl,fun i hi => by omega,fun p q hp hq p2 q2 he => ?_,fun p hp p2 => ?_⟩
  · rw [hg0,HZ.out]; exact VRow.new _ _ _
  · have := vr.lt
    have h5 : p = 0 ∨ p = 1 := by omega
    have h6 : q = 0 ∨ q = 1 := by omega
    rcases h5 with rfl | rfl <;> rcases h6 with rfl | rfl <;> simp at he ⊢ <;> omega
  · show _ ≤ if p = 0 then g else rm
    split <;> omega
 have SS := Lib.hid S0
 clear S0 hb0 br vr gr h2 KR X3 X2 HB2 b1 B1 hR hP6 BS HZ
 generalize w3.alloc (.cells (z rm) 176) = W0 at *
 rw [← hg0] at hg hgl ⊢
 clear hg0
 obtain ⟨N0,hN0⟩ : ∃ N0,N0 = NN c := ⟨_,rfl⟩
 have hG0 : G c 0 = (N0 : Int) := by rw [hN0]; unfold NN at HN ⊢; omega
 rw [hG0]
 obtain ⟨i0,hi0,hz0,hz1,hz2⟩ := info_parts ptrInfo
 go_loopg [26] N0 (fun gn s26 wr => ∃ k : Nat,k + gn = N0 ∧ s26 = .int .i64 k ∧ Hid (∃ b v,Sm w wr c w.heap.size g rm b k v ∧ wr.ownsRow w.heap.size 177 1 v k (prow b k)))
 case atStart => exact ⟨0,by omega,rfl,Lib.hid ⟨_,_,SS.out,World.ownsRow_nil _ _ _ _⟩⟩
 case round =>
  obtain ⟨k,hk,rfl,HM⟩ := hrel
  clear SS
  cases gk with
  | zero =>
    obtain rfl : k = N0 := by omega
    have d0 : decide ((k : Int) < (k : Int)) = false := by simp
    go_wp2_with fail
    go_ret2
    obtain ⟨b,v,h1,h2⟩ := HM.out
    subst hN0
    obtain ⟨b',e0,h3,h4⟩ := h1.lie h2 HHR.out
    exact ⟨b',by rw [e0]; rfl,h3,h4,h1.below⟩
  | succ gn =>
    obtain ⟨b,v,HS,HO⟩ := HM.out
    have d0 : decide ((k : Int) < (N0 : Int)) = true := by simp; omega
    have hv : ∃ a cap,v = .slice a k cap := by
     rcases HO.2 with ⟨rfl,h0⟩ | ⟨g,cap,cur,rfl,_⟩
     · rw [h0]; exact ⟨none,0,rfl⟩
     · exact ⟨_,cap,rfl⟩
    obtain ⟨va,vc,hv⟩ := hv
    have HSS := Lib.hid HS
    have HOO := Lib.hid HO
    have hk4 : k ≤ 4 := by omega
    have hXw := HS.below.size
    clear HS HO HM
    go_wp2_with fail
    refine Wr.wp_writes (aF := ?_) [35,36,37] [7,8,9,12] 42 3 [true,true,true,true,true,true,true,false,false,false,true,true,false] [false,false,false,false,false,false,false,false,false,false,true,false,false] [(35,undef),(36,undef),(37,undef)]
     (fun q vs Y => match q with
      | 0 => Below wr.heap.size wr Y
      | 1 => Below wr.heap.size wr Y ∧ ∃ x j f l t,vs.getD 0 undef = .pointer (some ⟨x,0,none⟩) ∧ (wr.heap.size ≤ j ∧ j < l ∧ l < t ∧ t < f ∧ f < x) ∧ Nw Y c rm x j f l t
      | 2 => Below wr.heap.size wr Y ∧ ∃ x j f l t,vs.getD 0 undef = .pointer (some ⟨x,0,none⟩) ∧ (wr.heap.size ≤ j ∧ j < l ∧ l < t ∧ t < f ∧ f < x) ∧ Nw Y c rm x j f l t ∧ ∃ ad : Addr,vs.getD 1 undef = .slice (some ad) 1 1 ∧ Y.cell? ad = some (.pointer (some ⟨x,0,none⟩))
      | 3 => Sm w Y c w.heap.size g rm b k v ∧ ∃ x j f l t,(wr.heap.size ≤ j ∧ j < l ∧ l < t ∧ t < f ∧ f < x) ∧ Nw Y c rm x j f l t ∧ ∃ ar cap,vs.getD 2 undef = .slice (some ⟨ar,0,none⟩) (k + 1) cap ∧ Y.ownsRow w.heap.size 177 1 (.slice (some ⟨ar,0,none⟩) (k + 1) cap) (k + 1) (prow b k ++ [.pointer (some ⟨x,0,none⟩)])
      | _ => ∃ b' v',Sm w Y c w.heap.size g rm b' (k + 1) v' ∧ Y.ownsRow w.heap.size 177 1 v' (k + 1) (prow b' (k + 1)))
     (fun Y => Box Y w.heap.size c ∧ VRow Y g 176 (sgv c rm v (G c 3)))
     (by kernel_rfl) (by kernel_rfl) (by kernel_rfl) (by kernel_rfl) (by kernel_rfl) ?ha ?hMC ?hMg ?h0 ?hq ?hq2 ?hw ?hend
    case hq =>
     rintro Y ⟨hb,hs⟩
     have k1 := cell_regrown (hs.cell 22 (v := v) (sgv_row c HC.out rm v _))
     have HBX := Lib.hid (show ∀ W,(∃ p : Regrown,W = Sort.grow (redrawn Y p.d) p.os) → Box W w.heap.size c by rintro W ⟨p,rfl⟩; exact hb.on (below_regrown Y p.d p.os))
     clear hb hs
     subst hv
     simp only [Lt.sel,Lt.putAll,List.map_cons,List.map_nil,List.zip_cons_cons,List.zip_nil_right,List.foldl_cons,List.foldl_nil,Act.put,List.setIfInBounds_toArray,List.set_cons_succ,List.set_cons_zero]
     repeat (first
      | (with_reducible show wpQuiet _ _ _ _ (⟨some 33,_,_,_,_,_⟩ :: _) _
         refine wpQuiet_cfg rfl _ rfl w.heap.size c rfl HBX.out HC.out ?_
         simp only [Act.put,List.setIfInBounds_toArray,List.set_cons_succ,List.set_cons_zero])
      | go_big_quiet_step (fail))
     exact rfl
    case ha => rfl
    case hMC =>
     have key : ∀ Y,Sm w Y c w.heap.size g rm b k v → Box Y w.heap.size c ∧ VRow Y g 176 (sgv c rm v (G c 3)) := fun Y h => ⟨h.cfg,h.sig⟩
     rintro (_ | _ | _ | _ | q) vs Y hq hM
     · exact key _ (HSS.out.on hM)
     · exact key _ (HSS.out.on hM.1)
     · exact key _ (HSS.out.on hM.1)
     · exact key _ hM.1
     · omega
    case hMg =>
     rintro (_ | _ | _ | _ | q) vs Y Z hM hC
     · exact grow hM hC.to
     · obtain ⟨h1,x,j,f,l,t,h2,h3,h4⟩ := hM
       exact ⟨grow h1 hC.to,x,j,f,l,t,h2,h3,h4.on hC.to⟩
     · obtain ⟨h1,x,j,f,l,t,h2,h3,h4,ad,h5,h6⟩ := hM
       exact ⟨grow h1 hC.to,x,j,f,l,t,h2,h3,h4.on hC.to,ad,h5,(hC.to.cell (p := ad) (cell_blk h6)).trans h6⟩
     · obtain ⟨h1,x,j,f,l,t,h3,h4,ar,cap,h5,h6⟩ := hM
       exact ⟨h1.on hC.to,x,j,f,l,t,h3,h4.on hC.to,ar,cap,h5,owns_grow h6 hC.to⟩
     · obtain ⟨b',v',h1,h2⟩ := hM
       exact ⟨b',v',h1.on hC.to,owns_grow h2 hC.to⟩
    case h0 => exact fun _ _ => Below.refl _ _
    case hq2 =>
     intro q vs Y _ _ _
     simp only [Lt.sel]
     repeat (go_big_quiet_step (fail))
     exact rfl
    case hw =>
     rintro (_ | _ | _ | _ | q) st o hs ho vs Y hl hM
     · obtain rfl : 7 = st := by simpa using hs
       obtain rfl := Option.some.inj ho
       match vs,hl with
       | [x1,x2,x3],_ =>
         refine Wr.wp_fn (f := 73) (args := #[.agg (CA c),.pointer (some ⟨rm,0,none⟩)]) (by kernel_rfl) (CN.out Y) ?_
         rintro e Z ⟨x,j,f,l,t,rfl,hb,ho,z1,z2,z3,z4,z5⟩
         have hMs := hM.size
         exact ⟨_,rfl,_,rfl,fun d hd hn => absurd (by cases hd; simp) hn,grow hM hb,x,j,f,l,t,rfl,⟨by omega,ho.2⟩,⟨z1,z2,z3,z4,z5⟩⟩
     · obtain rfl : 8 = st := by simpa using hs
       obtain rfl := Option.some.inj ho
       match vs,hl with
       | [x1,x2,x3],_ =>
         obtain ⟨h1,x,j,f,l,t,h2,h3,h4⟩ := hM
         obtain rfl : x1 = .pointer (some ⟨x,0,none⟩) := h2
         have hnew := (Boxed.new Y 177 (.pointer (some ⟨x,0,none⟩))).cell
         have hal := (Below.refl Y.heap.size Y).alloc (Nat.le_refl _) (.cells #[.pointer (some ⟨x,0,none⟩)] 177)
         have HK := Lib.hid (And.intro (grow h1 hal) (And.intro h3 (And.intro (h4.on hal) hnew)))
         clear hal hnew h1 h3 h4
         simp only [Lt.putAll,List.zip_cons_cons,List.zip_nil_right,List.foldl_cons,List.foldl_nil,Act.put,List.setIfInBounds_toArray,List.set_cons_succ,List.set_cons_zero]
         unfold Oper.wp
         go_simp
         exact ⟨HK.out.1,x,rfl,j,f,l,t,HK.out.2.1,HK.out.2.2.1,⟨Y.heap.size,0,none⟩,rfl,HK.out.2.2.2⟩
     · obtain rfl : 9 = st := by simpa using hs
       obtain rfl := Option.some.inj ho
       match vs,hl with
       | [x1,x2,x3],_ =>
         obtain ⟨h1,x,j,f,l,t,h2,h3,h4,ad,h5,h6⟩ := hM
         obtain rfl : x1 = .pointer (some ⟨x,0,none⟩) := h2
         obtain rfl : x2 = .slice (some ad) 1 1 := h5
         have hrY := owns_grow HOO.out h1
         have hYs := h1.size
         simp only [Lt.putAll,List.zip_cons_cons,List.zip_nil_right,List.foldl_cons,List.foldl_nil,Act.put,List.setIfInBounds_toArray,List.set_cons_succ,List.set_cons_zero]
         refine wp_append_own _ (.tmp 32) (.tmp 36) 174 rfl w.heap.size 177 i0 (.pointer none) 1 8 Tryz.underlying174 hi0 hz0 hz1 hz2 rfl (by decide) v k (prow b k) (by rw [hv]; rfl) hrY ad 1 1 [.pointer (some ⟨x,0,none⟩)] rfl rfl ?_ (by simp [Value.oneCell']) (by unfold maxLen; omega) (by omega) (by omega) ?_
         · intro j w hj
           match j,hj with
           | 0,hj => simp at hj; subst hj; simpa [Addr.add] using h6
         · intro v' w' g1 g2 _
           obtain ⟨g',cap',rfl⟩ := ownsRow_succ g1
           refine ⟨_,rfl,fun d hd hn => absurd (by cases hd; simp) hn,(HSS.out.on h1).grown hrY (Nat.le_refl _) g2,x,j,f,l,t,h3,h4.grown hrY g2,g',cap',rfl,g1⟩
     · obtain rfl : 12 = st := by simpa using hs
       obtain rfl := Option.some.inj ho
       match vs,hl with
       | [x1,x2,x3],_ =>
         obtain ⟨h1,x,j,f,l,t,h3,h4,ar,cap,h5,h6⟩ := hM
         obtain rfl : x3 = .slice (some ⟨ar,0,none⟩) (k + 1) cap := h5
         have cl := h1.sig.cell 22 (v := v) (sgv_row c HC.out rm v _)
         have fl := h1.sig.frozen 22
         have HK := Lib.hid (show ∃ b' v',Sm w (Y.setCell ⟨g,22,none⟩ (.slice (some ⟨ar,0,none⟩) (k + 1) cap)) c w.heap.size g rm b' (k + 1) v' ∧ (Y.setCell ⟨g,22,none⟩ (.slice (some ⟨ar,0,none⟩) (k + 1) cap)).ownsRow w.heap.size 177 1 v' (k + 1) (prow b' (k + 1)) from
          ⟨ext b k x j f l t,_,(h1.next h4 (fun p hp p2 => HSS.out.lt hp p2) hXw h3).row HC.out _ (by omega),by rw [prow_ext]; exact vrow_set h1.sig (by decide) h6 _⟩)
         clear h1 h3 h4 h6
         subst hv
         simp only [Lt.putAll,List.zip_cons_cons,List.zip_nil_right,List.foldl_cons,List.foldl_nil,Act.put,List.setIfInBounds_toArray,List.set_cons_succ,List.set_cons_zero]
         unfold Oper.wp
         go_simp
         exact HK.out
     · simp at hs
    case hend =>
     intro vs Y hl hM
     have HK := Lib.hid (show ∃ b' v',Sm w Y c w.heap.size g rm b' (k + 1) v' ∧ Y.ownsRow w.heap.size 177 1 v' (k + 1) (prow b' (k + 1)) from hM)
     clear hM
     match vs,hl with
     | [x1,x2,x3],_ =>
       simp only [Lt.putAll,List.zip_cons_cons,List.zip_nil_right,List.foldl_cons,List.foldl_nil,Act.put,List.setIfInBounds_toArray,List.set_cons_succ,List.set_cons_zero]
       go_wp2_with fail
       go_roundg gn
       case rel => exact ⟨k + 1,by omega,by go_num,HK⟩
       case measure => omega
end Sg
end Go.Proofs.YticidhbnljdidaaGreatDoor
