/-
 What latch of package signal does (the eighth step of a cycle): a contract by walking the Go text. Conditions: how a signal lies; that the latches may be.
 The eight steps of a cycle, one behind the other: each step's contract in the numbers of the whole cycle. No function of the program is walked here. Conditions: how a signal lies, that the configuration, the state and the raw values may be.
 What Latched of package signal returns: a contract by walking the Go text. Conditions: how a signal lies.
 What Step of package signal does: a contract by walking the Go text. Conditions: how a signal lies, that the configuration and the state may be.
-/
import Derived.Test.YticidhbnljdidaaGreatDoorJSignalVote7
import Derived.Test.YticidhbnljdidaaGreatDoorLatchNext
import Derived.Deep.MidRow
import Derived.Test.YticidhbnljdidaaGreatDoorJSignalDrift5
import Derived.Test.YticidhbnljdidaaGreatDoorJSignalState4
import Derived.Test.YticidhbnljdidaaGreatDoorSignalWatch
import Derived.Test.YticidhbnljdidaaGreatDoorJSignalEnter2
import Derived.Test.YticidhbnljdidaaGreatDoorJOrderMidMath6
import Derived.Test.YticidhbnljdidaaGreatDoorSignalHelp
namespace Go.Proofs.YticidhbnljdidaaGreatDoor
set_option maxRecDepth 100000
open Go.ChangeShapes Go.WideShapes Go.ChangeAt Go.RowKit Go.Deep Go.Shelf
namespace Sg
open Cf (G CA)
open Rf
attribute [local go_sem] Oper.semAt_some
def nA (c : List Int) (s : Si) (T : Nat → Int) (i : Nat) : Ch := { s.ch i with st := Lc.ste (G c 13) (G c 14) (G c 15) (s.ch i).st (T i != 0) }
def whT (c : List Int) (s : Si) (T : Nat → Int) (i : Nat) : Int := Lc.wha (G c 13) (G c 14) (G c 15) (s.ch i).st (T i != 0)
def ev4 (f : Nat → Int) : List Value := [.int .i64 (f 0),.int .i64 (f 1),.int .i64 (f 2),.int .i64 (f 3)]
theorem ev4_set {f : Nat → Int} {i : Nat} (hi : i < 4) (x : Int) : (ev4 f).set i (.int .i64 x) = ev4 fun k => if k = i then x else f k := by
 have : i = 0 ∨ i = 1 ∨ i = 2 ∨ i = 3 := by omega
 rcases this with rfl | rfl | rfl | rfl <;> rfl
theorem fne_of {c : List Int} {s : Si} (hR : Cf.Right c) (hO : Ok c s) {i : Nat} (hi : i < NN c) : Lc.fne (G c 13) (G c 14) (G c 15) (s.ch i).st = true := by
 unfold Lc.fne
 rw [Bool.and_eq_true]
 exact ⟨Lc.rgt_iff.2 (right_latch hR),Lc.fin_iff.2 (hO.ch i hi).st⟩
theorem chr_put {W : World} {b : Nat → Nat} {i : Nat} {s s' : Lc.St} (h : VRow W (xb b i) 201 (chr b i s)) :
 VRow (W.setCells (xb b i) 4 (lav s').toArray.toList) (xb b i) 201 (chr b i s') ∧ But (fun k => k = xb b i) W (W.setCells (xb b i) 4 (lav s').toArray.toList) :=
 ⟨((((h.set 4 (.bool s'.la)).set 5 (.bool s'.ou)).set 6 (.int .i64 s'.st)).set 7 (.int .i64 s'.cl)).set 8 (.int .i64 s'.bk),
   ((((But.setCell (p := ⟨_,4,none⟩) (But.refl (· = _) W) (Or.inl rfl) (.bool s'.la)).setCell (p := ⟨_,5,none⟩) (Or.inl rfl) (.bool s'.ou)).setCell (p := ⟨_,6,none⟩) (Or.inl rfl) (.int .i64 s'.st)).setCell (p := ⟨_,7,none⟩) (Or.inl rfl) (.int .i64 s'.cl)).setCell (p := ⟨_,8,none⟩) (Or.inl rfl) (.int .i64 s'.bk)⟩
theorem size4 : (Tryz.prog.info? 22).map (·.size) = some 4 := by kernel_rfl
theorem agg4 (w : World) : (isAgg 22).run Tryz.prog w = .ok true w := by simp [isAgg,run_underlying Tryz.underlying22]
theorem Chan.latch {X Y : World} {b : Nat → Nat} {c : List Int} {s : Si} {i : Nat} (H : Lie X b c s) (hi : i < NN c) {S : Nat → Prop} (B : But S X Y) (hS : ∀ k,Of b i k → k ≠ xb b i → ¬ S k) {st : Lc.St} (ht : VRow Y (xb b i) 201 (chr b i st)) : Chan Y b c i { s.ch i with st := st } := by
 have C := H.chs i hi
 obtain ⟨n1,n2,n3,n4,n5,n6,n7,n8,n9,n10,n11⟩ := H.five hi
 obtain ⟨l,f1,f2⟩ := C.fw
 exact ⟨ht,C.jw.but B (hS _ (.inr (.inl rfl)) (Ne.symm n1)),⟨l,f1.but B (hS _ (.inr (.inr (.inl rfl))) (Ne.symm n2)),f2⟩,C.fl.but B (hS _ (.inr (.inr (.inr (.inl rfl)))) (Ne.symm n3)),C.tr.but B (hS _ (.inr (.inr (.inr (.inr rfl)))) (Ne.symm n4))⟩
set_option maxRecDepth 100000 in
set_option maxHeartbeats 3200000 in
theorem latch_any {W : World} {b : Nat → Nat} {c : List Int} {s : Si} {u : Nat} {r : Nat → Rw} {sh : Int} {T : Nat → Int} {m : Int} (hc : c.length = 21) (hR : Cf.Right c) (hO : Ok c s) (H : Tn W b c s u r sh T m) :
 Calls Tryz.prog 122 #[.pointer (some ⟨u,0,none⟩)] W fun e w' => e = .returned (.agg (ev4 (mx (List.range (NN c)) (whT c s T) z4)).toArray) ∧ Tn w' b c (mid s (List.range (NN c)) (nA c s T)) u r sh T m ∧ But (Us b c u) W w' := by
 have hN := NN_34 hR
 refine (callsIn_wide (n := 5)).1 ?_
 refine callsIn_of_wp_marks Tryz.func122 rfl trivial ?_ rfl
 simp only [Tryz.ntmps122,List.size_toArray,List.length_cons,List.length_nil,Nat.reduceAdd,Nat.reduceSub,Array.replicate_succ,Array.replicate_zero,List.push_toArray,List.append_toArray,List.nil_append,List.cons_append]
 have s0 := cel (.cells #[.int .i64 0,.int .i64 0,.int .i64 0,.int .i64 0] 22) (cel (.cells #[.int .i64 0,.int .i64 0,.int .i64 0,.int .i64 0] 22) (cel (.cells #[.pointer (some ⟨u,0,none⟩)] 234) H.sig))
 gi_wp2_with (refine ⟨trivial,?_⟩; gi_at_call 100; refine (callsIn_wide.2 (all_any _ _)).mono ?_; rintro e w2 ⟨rfl,rfl⟩)
 clear s0
 obtain ⟨z0,z1,z2,z3,hB0,hsz⟩ : Boxed ((((W.alloc (.cells #[.pointer (some ⟨u,0,none⟩)] 234)).alloc (.cells #[.int .i64 0,.int .i64 0,.int .i64 0,.int .i64 0] 22)).alloc (.cells #[.int .i64 0,.int .i64 0,.int .i64 0,.int .i64 0] 22)).alloc (.cells #[.pointer (some ⟨b 0,0,none⟩)] 90)) W.heap.size 234 (.pointer (some ⟨u,0,none⟩)) ∧
  VRow ((((W.alloc (.cells #[.pointer (some ⟨u,0,none⟩)] 234)).alloc (.cells #[.int .i64 0,.int .i64 0,.int .i64 0,.int .i64 0] 22)).alloc (.cells #[.int .i64 0,.int .i64 0,.int .i64 0,.int .i64 0] 22)).alloc (.cells #[.pointer (some ⟨b 0,0,none⟩)] 90)) (W.heap.size + 1) 22 (ev4 z4) ∧
  VRow ((((W.alloc (.cells #[.pointer (some ⟨u,0,none⟩)] 234)).alloc (.cells #[.int .i64 0,.int .i64 0,.int .i64 0,.int .i64 0] 22)).alloc (.cells #[.int .i64 0,.int .i64 0,.int .i64 0,.int .i64 0] 22)).alloc (.cells #[.pointer (some ⟨b 0,0,none⟩)] 90)) (W.heap.size + 1 + 1) 22 (ev4 z4) ∧
  Boxed ((((W.alloc (.cells #[.pointer (some ⟨u,0,none⟩)] 234)).alloc (.cells #[.int .i64 0,.int .i64 0,.int .i64 0,.int .i64 0] 22)).alloc (.cells #[.int .i64 0,.int .i64 0,.int .i64 0,.int .i64 0] 22)).alloc (.cells #[.pointer (some ⟨b 0,0,none⟩)] 90)) (W.heap.size + 1 + 1 + 1) 90 (.pointer (some ⟨b 0,0,none⟩)) ∧
  Below W.heap.size W ((((W.alloc (.cells #[.pointer (some ⟨u,0,none⟩)] 234)).alloc (.cells #[.int .i64 0,.int .i64 0,.int .i64 0,.int .i64 0] 22)).alloc (.cells #[.int .i64 0,.int .i64 0,.int .i64 0,.int .i64 0] 22)).alloc (.cells #[.pointer (some ⟨b 0,0,none⟩)] 90)) ∧
  ((((W.alloc (.cells #[.pointer (some ⟨u,0,none⟩)] 234)).alloc (.cells #[.int .i64 0,.int .i64 0,.int .i64 0,.int .i64 0] 22)).alloc (.cells #[.int .i64 0,.int .i64 0,.int .i64 0,.int .i64 0] 22)).alloc (.cells #[.pointer (some ⟨b 0,0,none⟩)] 90)).heap.size = W.heap.size + 4 := by
  have sv (X : World) (n : Nat) (y : TypeId) (cs : List Value) (hX : X.heap.size = n) : VRow (X.alloc (.cells cs.toArray y)) n y cs := hX ▸ VRow.new X cs y
  exact ⟨(((sv _ _ _ [_] (by simp)).alloc _).alloc _).alloc _,((sv _ _ _ (ev4 z4) (by simp)).alloc _).alloc _,(sv _ _ _ (ev4 z4) (by simp)).alloc _,sv _ _ _ [_] (by simp),((((Below.refl W.heap.size W).alloc (Nat.le_refl _) _).alloc (by simp) _).alloc (by simp; omega) _).alloc (by simp; omega) _,by simp⟩
 generalize (((W.alloc (.cells #[.pointer (some ⟨u,0,none⟩)] 234)).alloc (.cells #[.int .i64 0,.int .i64 0,.int .i64 0,.int .i64 0] 22)).alloc (.cells #[.int .i64 0,.int .i64 0,.int .i64 0,.int .i64 0] 22)).alloc (.cells #[.pointer (some ⟨b 0,0,none⟩)] 90) = W0 at *
 have H0 := H.on hB0
 have HL := Lib.hid (fun k (hk : Us b c u k) => H.lt hk)
 clear H
 refine range_goes rfl (by omega) (gf := 146) (lb := #[.pointer (some ⟨W.heap.size + 1 + 1 + 1,0,none⟩)]) rfl trivial (enters_of Tryz.func146 (by kernel_rfl) rfl)
  (hseq_all (u := u) _ (by omega) hc hR H0.lie z3.cell) Kc.trans (fun X k o o' _ h2 h3 h4 => Kc.put h2 h3 h4) (fun _ => rfl)
  (fun pre X => Tn X b c (mid s (pre.map Fin.val) (nA c s T)) u r sh T m ∧ (Boxed X W.heap.size 234 (.pointer (some ⟨u,0,none⟩)) ∧ VRow X (W.heap.size + 1) 22 (ev4 z4) ∧ VRow X (W.heap.size + 1 + 1) 22 (ev4 (mx (pre.map Fin.val) (whT c s T) z4))) ∧ But (Us b c u) W X)
  (fun _ _ _ => False)
  (OwnFrom.and (own_tn _ _ _ _) (OwnFrom.and (OwnFrom.and (own_box _ _ _ _) (OwnFrom.and (own_row _ _ _ _) (own_row _ _ _ _))) (own_other _ _ _ (by omega))))
  (fun _ _ _ _ _ hs _ _ => hs)
  ⟨by rw [List.map_nil,mid_nil]; exact H0,⟨z0,z1,by rw [List.map_nil,mx_nil]; exact z2⟩,But.of_below hB0⟩
  (fun x => { tmps := #[.pointer (some ⟨u,0,none⟩),.pointer (some ⟨W.heap.size,0,none⟩),.pointer (some ⟨W.heap.size + 1,0,none⟩),.pointer (some ⟨W.heap.size + 1 + 1,0,none⟩),.int .i64 x.val,.pointer (some ⟨xb b x.val,0,none⟩),.pointer (some ⟨u,0,none⟩),.pointer (some ⟨u,0,none⟩),.pointer (some ⟨u,0,none⟩),.pointer (some ⟨b 0,0,none⟩),.func (.func 146) #[] #[.pointer (some ⟨W.heap.size + 1 + 1 + 1,0,none⟩)],.int .i64 x.val,.pointer (some ⟨xb b x.val,0,none⟩),undef,undef,undef,undef,undef,undef,undef,undef,undef,undef,undef,undef,undef,undef,undef,undef,undef,undef,undef,undef,undef,undef,undef,undef,undef,undef,undef],defers := [] }) ?assign ?body ?done ?stop
 case assign =>
  intro l x W K hK
  dsimp only [enca]
  gi_wp2
  exact hK
 case body =>
  rintro lp pre x X ⟨HX,⟨bx1,bx2,bx3⟩,hB⟩ hlen hG
  have hx := x.isLt
  have hx4 : x.val < 4 := by omega
  have hxi : (x.val : Int) < 4 := by omega
  have HMP := Lib.hid (show (pre ++ [x]).map Fin.val = pre.map Fin.val ++ [x.val] by simp)
  have eS : (mid s (pre.map Fin.val) (nA c s T)).ch x.val = s.ch x.val := mx_not hG
  have HXX := Lib.hid HX
  have B1 := Lib.hid bx1
  have B3 := Lib.hid bx3
  have CH := HX.lie.chs x.val hx
  rw [eS] at CH
  have HCH := Lib.hid CH
  have hfive := HX.lie.five hx
  have hxu : xb b x.val ≠ u := fun e => HX.out (e ▸ of_in hx (.inl rfl))
  have hxW : xb b x.val < W.heap.size := HL.out _ (of_us hx (.inl rfl))
  have huW : u < W.heap.size := HL.out u (.inr rfl)
  have h2W : b 2 < W.heap.size := HL.out _ (.inl ⟨2,by unfold pn; omega,rfl⟩)
  have h02 : b 2 ≠ xb b x.val := fun e => by have := HX.lie.inj 2 (3 + 5 * x.val) (by unfold pn; omega) (by unfold pn; omega) e; omega
  have KC := Lib.hid (fun (Y : World) (h : But (fun k => k = xb b x.val ∨ k = W.heap.size + 1 + 1) X Y) (hY : Tn Y b c (mid s (pre.map Fin.val ++ [x.val]) (nA c s T)) u r sh T m) => (show (KeepsFrom W0.heap.size X Y ∧ Kc (Dv b u (W.heap.size + 1 + 1 + 1) W0.heap.size) (W0.heap.size + 2) X Y) ∧ (Boxed Y W.heap.size 234 (.pointer (some ⟨u,0,none⟩)) ∧ VRow Y (W.heap.size + 1) 22 (ev4 z4)) ∧ But (Us b c u) W Y from by
   refine ⟨round_kc HX hY h fun k q => ?_,⟨(h.block _ bx1.lt (by rintro (e | e) <;> omega)).trans bx1,bx2.but h (by rintro (e | e) <;> omega)⟩,But.call hB h fun k q => ?_⟩
   · rcases q with e | e
     · exact ⟨by omega,by omega,by omega⟩
     · exact ⟨by omega,by omega,by omega⟩
   · rcases q with e | e
     · exact .inl (.inl (e ▸ of_in hx (.inl rfl)))
     · exact .inr (by omega)))
  have HNX := Lib.hid (fun W' => Lc.next_any (G c 13) (G c 14) (G c 15) (s.ch x.val).st (T x.val != 0) W')
  have hfn := fne_of hR hO hx
  have HN2 := Lib.hid (fun W' => (show Calls Tryz.prog 173 #[Lc.rlv (G c 13) (G c 14) (G c 15),Lc.stv (s.ch x.val).st,.bool (T x.val != 0)] W' fun e w' => e = .returned (.tuple #[.agg (lav (nA c s T x.val).st).toArray,.int .i64 (whT c s T x.val),.int .i64 0]) ∧ Below W'.heap.size W' w' from by
   refine (HNX.out W').mono ?_
   rintro e w' ⟨rfl,hb⟩
   refine ⟨?_,hb⟩
   unfold Lc.nxs Lc.nxw Lc.nxe
   rw [hfn]; rfl))
  have HRL := Lib.hid (fun (Y : World) (h : But (fun _ => False) X Y) => rule_any hc (HX.lie.keep h fun _ _ q => q))
  unfold Lc.rlv Lc.stv at HN2
  unfold Lc.rlv at HRL
  have HS := Lib.hid eS
  have HST := Lib.hid (show { s.ch x.val with st := (nA c s T x.val).st } = nA c s T x.val from rfl)
  clear HX bx1 bx2 bx3 hB hlen H0 z0 z1 z2 z3 hB0 HNX hfn CH eS
  generalize (nA c s T x.val).st = st' at *
  generalize G c 13 = L13 at *
  generalize G c 14 = L14 at *
  generalize G c 15 = L15 at *
  obtain ⟨wh,hwh⟩ : ∃ wh,whT c s T x.val = wh := ⟨_,rfl⟩
  rw [hwh] at HN2
  have HWH := Lib.hid hwh
  clear hwh
  gi_wp2
  refine Wr.wpIn_writes (aF := ?_) [] [25,27] 40 0 [true,true,true,true,true,true,true,true,true,true,true,true,true,true,true,true,true,true,true,true,true,true,true,true,true,false,true,false] [false,true,false,false,false,false,false,false,false,false,false,false,false,false,false,false,false,false,false,false,true,true,true,true,true,false,true,false] []
   (fun k _ Y => match k with
    | 0 => But (fun _ => False) X Y
    | 1 => But (fun k => k = xb b x.val) X Y ∧ VRow Y (xb b x.val) 201 (chr b x.val st')
    | _ => But (fun k => k = xb b x.val ∨ k = W.heap.size + 1 + 1) X Y ∧ VRow Y (xb b x.val) 201 (chr b x.val st') ∧ VRow Y (W.heap.size + 1 + 1) 22 (ev4 (mx (pre.map Fin.val ++ [x.val]) (whT c s T) z4)))
   (fun Y => But (fun _ => False) X Y)
   (by kernel_rfl) (by kernel_rfl) (by kernel_rfl) (by kernel_rfl) (by kernel_rfl) (by kernel_rfl) ?hL ?ha ?hMC ?hMg ?h0 ?hq ?hq2 ?hw ?hend
  case hq =>
   intro Y hY
   have HY := HXX.out.keep hY fun _ _ q => q
   have k1 := cell_regrown ((show Boxed Y W.heap.size 234 (.pointer (some ⟨u,0,none⟩)) from (hY.block _ B1.out.lt (fun q => q)).trans B1.out).cell)
   have k2 := cell_regrown HY.sig
   have k3 := cell_regrown (HY.trp hx4)
   have hOW := HCH.out.own.but hY fun q => q
   have k4 := cell_regrown (hOW.cell 4 (v := .bool (s.ch x.val).st.la) rfl)
   have k5 := cell_regrown (hOW.cell 5 (v := .bool (s.ch x.val).st.ou) rfl)
   have k6 := cell_regrown (hOW.cell 6 (v := .int .i64 (s.ch x.val).st.st) rfl)
   have k7 := cell_regrown (hOW.cell 7 (v := .int .i64 (s.ch x.val).st.cl) rfl)
   have k8 := cell_regrown (hOW.cell 8 (v := .int .i64 (s.ch x.val).st.bk) rfl)
   have cR := reg_call (w := Y) (fun Z B => HRL.out Z (hY.grow B))
   have cN := reg_call (w := Y) (fun Z _ => HN2.out Z)
   simp only [Lt.sel,Lt.putAll,List.map_nil,List.zip_nil_right,List.foldl_nil]
   repeat (go_big_quiet_step (first | exact cR _ _ | exact cN _ _))
   exact rfl
  case ha => rfl
  case hL => rintro ⟨_,_,h⟩; exact h
  case hMC =>
   rintro (_ | k) vs Y hk hM
   · exact hM
   · omega
  case hMg =>
   rintro (_ | _ | k) vs Y Z hM hC
   · exact hM.grow hC.to
   · exact ⟨hM.1.grow hC.to,hM.2.below hC.to hM.2.lt⟩
   · exact ⟨hM.1.grow hC.to,hM.2.1.below hC.to hM.2.1.lt,hM.2.2.below hC.to hM.2.2.lt⟩
  case h0 => exact fun _ _ => But.refl _ _
  case hq2 =>
   intro k vs Y _ _ _
   simp only [Lt.sel]
   repeat (go_big_quiet_step (fail))
   exact rfl
  case hw =>
   rintro (_ | _ | k) sx o hs ho vs Y hl hM
   · obtain rfl : 25 = sx := by simpa using hs
     obtain rfl := Option.some.inj ho
     obtain rfl : vs = [] := List.length_eq_zero_iff.1 hl
     have hOW := HCH.out.own.but hM fun q => q
     obtain ⟨p1,p2⟩ := chr_put (s' := st') hOW
     refine wp_store_mid 54 _ _ rfl (xb b x.val) 4 (lav st').toArray rfl rfl ?_ sizeL' (lav_one' _) ?_
     · intro j hj
       have hj : j < 5 := hj
       have : j = 0 ∨ j = 1 ∨ j = 2 ∨ j = 3 ∨ j = 4 := by omega
       rcases this with rfl | rfl | rfl | rfl | rfl <;> exact ⟨by rw [hOW.cell _ rfl]; rfl,hOW.frozen _⟩
     · exact ⟨_,rfl,fun d hd _ => (by cases hd),(hM.mono fun _ q => q.elim).trans p2,p1⟩
   · obtain rfl : 27 = sx := by simpa using hs
     obtain rfl := Option.some.inj ho
     obtain rfl : vs = [] := List.length_eq_zero_iff.1 hl
     have hE := B3.out.but hM.1 (by omega)
     have f1 := hE.frozen x.val
     have f2 : Y.cell? ⟨W.heap.size + 1 + 1,x.val,none⟩ = some (.int .i64 (mx (pre.map Fin.val) (whT c s T) z4 x.val)) := by
      have : x.val = 0 ∨ x.val = 1 ∨ x.val = 2 ∨ x.val = 3 := by omega
      rcases this with e | e | e | e <;> (rw [e]; exact hE.cell _ rfl)
     have HK := Lib.hid (show But (fun k => k = xb b x.val ∨ k = W.heap.size + 1 + 1) X (Y.setCell ⟨W.heap.size + 1 + 1,x.val,none⟩ (.int .i64 wh)) ∧ VRow (Y.setCell ⟨W.heap.size + 1 + 1,x.val,none⟩ (.int .i64 wh)) (xb b x.val) 201 (chr b x.val st') ∧ VRow (Y.setCell ⟨W.heap.size + 1 + 1,x.val,none⟩ (.int .i64 wh)) (W.heap.size + 1 + 1) 22 (ev4 (mx (pre.map Fin.val ++ [x.val]) (whT c s T) z4)) from
      ⟨(hM.1.mono fun _ q => .inl q).setCell (p := ⟨W.heap.size + 1 + 1,x.val,none⟩) (.inl (.inr rfl)) _,hM.2.setOther (p := ⟨W.heap.size + 1 + 1,x.val,none⟩) (by show xb b x.val ≠ W.heap.size + 1 + 1; omega) _,by
        rw [← mx_snoc _ _ _ _ wh HWH.out.symm,← ev4_set hx4]
        exact hE.set x.val _⟩)
     clear hE hM
     simp only [Lt.putAll,List.zip_nil_right,List.foldl_nil]
     unfold Oper.wp
     go_simp
     exact HK.out
   · simp at hs
  case hend =>
   intro vs Y hl hM
   obtain rfl : vs = [] := List.length_eq_zero_iff.1 hl
   have HM := Lib.hid (show But (fun k => k = xb b x.val ∨ k = W.heap.size + 1 + 1) X Y ∧ VRow Y (xb b x.val) 201 (chr b x.val st') ∧ VRow Y (W.heap.size + 1 + 1) 22 (ev4 (mx (pre.map Fin.val ++ [x.val]) (whT c s T) z4)) from hM)
   clear hM
   have hin : ∀ k,In b c k → k < W.heap.size := fun k hk => HL.out k (.inl hk)
   have HC := Chan.latch HXX.out.lie hx HM.out.1 (by
    intro k hk hne
    have := hin k (of_in hx hk)
    rintro (e | e)
    · exact hne e
    · omega) HM.out.2.1
   have HY : Tn Y b c (put (mid s (pre.map Fin.val) (nA c s T)) x.val { (mid s (pre.map Fin.val) (nA c s T)).ch x.val with st := st' }) u r sh T m := ⟨HXX.out.lie.set' hx HM.out.1 (by
    intro k hk q
    have := hin k hk
    rcases q with e | e
    · exact .inl e
    · omega) HC,HXX.out.trn.but HM.out.1 (by rintro (e | e) <;> omega),HXX.out.out⟩
   rw [put_mid _ _ _ _ _ (show _ = nA c s T x.val by rw [HS.out]; exact HST.out)] at HY
   have HYY := Lib.hid HY
   clear HC HY
   simp only [Lt.putAll,List.zip_nil_right,List.foldl_nil]
   gi_wp2
   obtain ⟨⟨k1,k2⟩,⟨k3,k4⟩,k5⟩ := KC.out Y HM.out.1 HYY.out
   refine ⟨k1,k2,?_,⟨k3,k4,?_⟩,k5⟩
   · rw [HMP.out]; exact HYY.out
   · rw [HMP.out]; exact HM.out.2.2
 case done =>
  rintro D ys X hD hys ⟨HX,⟨bx1,bx2,bx3⟩,hB⟩ hK
  rw [hys] at HX bx3
  obtain ⟨f,hf⟩ : ∃ f,mx (List.range (NN c)) (whT c s T) z4 = f := ⟨_,rfl⟩
  rw [hf] at bx3
  have HF := Lib.hid hf
  clear hf
  have HXX := Lib.hid HX
  have B2 := Lib.hid bx2
  have HBB := Lib.hid hB
  have k0 := bx3.cell 0 (v := .int .i64 (f 0)) rfl
  have k1 := bx3.cell 1 (v := .int .i64 (f 1)) rfl
  have k2 := bx3.cell 2 (v := .int .i64 (f 2)) rfl
  have k3 := bx3.cell 3 (v := .int .i64 (f 3)) rfl
  have c0 := bx2.cell 0 (v := .int .i64 0) rfl
  have c1 := bx2.cell 1 (v := .int .i64 0) rfl
  have c2 := bx2.cell 2 (v := .int .i64 0) rfl
  have c3 := bx2.cell 3 (v := .int .i64 0) rfl
  have f0 := bx2.frozen 0
  have f1 := bx2.frozen 1
  have f2 := bx2.frozen 2
  have f3 := bx2.frozen 3
  clear HX bx1 bx2 bx3 hB H0 z0 z1 z2 z3 hB0
  gi_wp2
  have HR := (((B2.out.set 0 (.int .i64 (f 0))).set 1 (.int .i64 (f 1))).set 2 (.int .i64 (f 2))).set 3 (.int .i64 (f 3))
  have HR' : VRow ((((X.setCell ⟨W.heap.size + 1,0,none⟩ (.int .i64 (f 0))).setCell ⟨W.heap.size + 1,1,none⟩ (.int .i64 (f 1))).setCell ⟨W.heap.size + 1,2,none⟩ (.int .i64 (f 2))).setCell ⟨W.heap.size + 1,3,none⟩ (.int .i64 (f 3))) (W.heap.size + 1) 22 (ev4 f) := HR
  have hBB : But (fun k => k = W.heap.size + 1) X ((((X.setCell ⟨W.heap.size + 1,0,none⟩ (.int .i64 (f 0))).setCell ⟨W.heap.size + 1,1,none⟩ (.int .i64 (f 1))).setCell ⟨W.heap.size + 1,2,none⟩ (.int .i64 (f 2))).setCell ⟨W.heap.size + 1,3,none⟩ (.int .i64 (f 3))) :=
   (((But.setCell (p := ⟨_,0,none⟩) (But.refl (· = _) X) (Or.inl rfl) _).setCell (p := ⟨_,1,none⟩) (Or.inl rfl) _).setCell (p := ⟨_,2,none⟩) (Or.inl rfl) _).setCell (p := ⟨_,3,none⟩) (Or.inl rfl) _
  clear HR c0 c1 c2 c3 f0 f1 f2 f3 k0 k1 k2 k3
  generalize (((X.setCell ⟨W.heap.size + 1,0,none⟩ (.int .i64 (f 0))).setCell ⟨W.heap.size + 1,1,none⟩ (.int .i64 (f 1))).setCell ⟨W.heap.size + 1,2,none⟩ (.int .i64 (f 2))).setCell ⟨W.heap.size + 1,3,none⟩ (.int .i64 (f 3)) = Y at *
  have hDX := (Array.getElem?_eq_some_iff.1 hK).1
  have hK' := (hBB.block D hDX (by omega)).trans hK
  have hBW : But (Us b c u) W Y := But.call HBB.out hBB fun k e => .inr (by omega)
  have HY := HXX.out.keep hBB fun k hk e => by have := HL.out k hk; omega
  refine ⟨by simp,.inl ⟨_,_,rfl,run_takeDeferred hK',?_⟩⟩
  have HRP : VRow (Y.putObj D (.deferred none)) (W.heap.size + 1) 22 (ev4 f) := box_turned (but_grown (grownBy_putObj' Y D (.deferred none))) (fun k e => by cases e; exact ⟨_,hK',rfl⟩) HR'
  exact ⟨_,VB.ret1 (cs := ev4 f) rfl rfl (agg4 _) size4 HRP,by rw [HF.out],tn_put HY hK' rfl,but_put hBW (by omega) _⟩
 case stop =>
  rintro D cc pre X _ _ h _
  exact h.elim
end Sg
namespace Sg
open Cf (G CA)
theorem has_mk4 (f : Nat → Bool) {i : Nat} (hi : i < 4) : Fx.has (mk4 f) (i : Int) = f i := by
 unfold mk4
 have : i = 0 ∨ i = 1 ∨ i = 2 ∨ i = 3 := by omega
 generalize h0 : f 0 = a0
 generalize h1 : f 1 = a1
 generalize h2 : f 2 = a2
 generalize h3 : f 3 = a3
 rcases this with rfl | rfl | rfl | rfl
 · rw [h0]; cases a0 <;> cases a1 <;> cases a2 <;> cases a3 <;> decide
 · rw [h1]; cases a0 <;> cases a1 <;> cases a2 <;> cases a3 <;> decide
 · rw [h2]; cases a0 <;> cases a1 <;> cases a2 <;> cases a3 <;> decide
 · rw [h3]; cases a0 <;> cases a1 <;> cases a2 <;> cases a3 <;> decide
def S1 (s : Si) (r : Nat → Rw) : Si := { s with ch := nW s r }
def S2 (c : List Int) (s : Si) (r : Nat → Rw) (sh : Int) : Si := { s with ch := fun i => { nW s r i with lev := lev c s r sh i } }
def S3 (c : List Int) (s : Si) (r : Nat → Rw) (sh : Int) : Si := { S2 c s r sh with val := val c s r sh }
def S4 (c : List Int) (s : Si) (r : Nat → Rw) (sh : Int) : Si := ⟨val c s r sh,s.votes ++ [val c s r sh],fun i => { nW s r i with lev := lev c s r sh i,off := off c s r sh i }⟩
def T1 (c : List Int) (s : Si) (r : Nat → Rw) (i : Nat) : Int := if i < NN c then ahd c s r i else 0
def T2 (c : List Int) (s : Si) (r : Nat → Rw) (sh : Int) (i : Nat) : Int := if i < NN c then ahd c s r i + (if drf c s r sh i = true then 16 else 0) else 0
section
variable {W : World} {b : Nat → Nat} {c : List Int} {s : Si} {u : Nat} {r : Nat → Rw} {sh : Int}
theorem inm_has (hR : Cf.Right c) {i : Nat} (hi : i < NN c) : Fx.has (inm c s r sh) (i : Int) = isin c s r sh i := by
 have := NN_34 hR
 unfold inm
 rw [has_mk4 _ (by omega)]
 simp [hi]
theorem ths_in (hR : Cf.Right c) (v : Nat → Int) : ths (inm c s r sh) v (List.range (NN c)) = (inl c s r sh).map v := by
 unfold ths inl
 congr 1
 exact List.filter_congr fun i hi => inm_has hR (List.mem_range.1 hi)
theorem in_val (hR : Cf.Right c) (hr : Rok c r) (i : Nat) (hi : i < NN c) (h : Fx.has (inm c s r sh) (i : Int) = true) : Jp.val (r i).n = true := by
 rw [inm_has hR hi] at h
 exact (Jp.val_iff _).2 (hr i hi (isin_iff.1 h).1)
theorem ahd_bd (i : Nat) : 0 ≤ ahd c s r i ∧ ahd c s r i < 16 := by
 unfold ahd Jp.trips
 split <;> (try split) <;> (try split) <;> (try split) <;> omega
theorem ok1 (hr : Rok c r) (hO : Ok c s) : Ok c (S1 s r) := ⟨hO.val,hO.votes,fun i hi => by
 have o := hO.ch i hi
 refine ⟨?_,o.lev,o.off,o.st⟩
 show -2147483648 ≤ (if (r i).is = true then (r i).n else 0) ∧ (if (r i).is = true then (r i).n else 0) ≤ 2147483647
 split
 · rename_i h; exact hr i hi h
 · omega⟩
theorem ok2 (hR : Cf.Right c) (hr : Rok c r) (hO : Ok c s) : Ok c (S2 c s r sh) := ⟨hO.val,hO.votes,fun i hi => ⟨((ok1 hr hO).ch i hi).last,((ok_nxt (sh := sh) hR hr hO).ch i hi).lev,(hO.ch i hi).off,(hO.ch i hi).st⟩⟩
theorem ok3 (hR : Cf.Right c) (hr : Rok c r) (hO : Ok c s) : Ok c (S3 c s r sh) := ⟨(ok_nxt (sh := sh) hR hr hO).val,hO.votes,(ok2 hR hr hO).ch⟩
theorem ok4 (hR : Cf.Right c) (hr : Rok c r) (hO : Ok c s) : Ok c (S4 c s r sh) := ⟨(ok_nxt (sh := sh) hR hr hO).val,(ok_nxt (sh := sh) hR hr hO).votes,fun i hi => ⟨((ok1 hr hO).ch i hi).last,((ok_nxt (sh := sh) hR hr hO).ch i hi).lev,((ok_nxt (sh := sh) hR hr hO).ch i hi).off,(hO.ch i hi).st⟩⟩
theorem flt {i : Nat} : i ∈ (List.range (NN c)).filter (fun i => (r i).is) ↔ i < NN c ∧ (r i).is = true := by simp
theorem st_watch (hc : c.length = 21) (hR : Cf.Right c) (hr : Rok c r) (hO : Ok c s) (H : Tn W b c s u r sh z4 0) :
 Calls Tryz.prog 115 #[.pointer (some ⟨u,0,none⟩)] W fun e w' => e = .returned (.tuple #[]) ∧ Tn w' b c (S1 s r) u r sh (T1 c s r) 0 ∧ But (Us b c u) W w' :=
 (watch_any hc hR hr hO H).mono fun e w' q => by
  refine ⟨q.1,?_,q.2.2⟩
  have e : mx (List.range (NN c)) (ahd c s r) z4 = T1 c s r := by funext i; unfold mx T1 z4; simp
  rw [← e]
  exact q.2.1.congr rfl rfl fun i hi => mx_yes (List.mem_range.2 hi)
theorem st_enter (hc : c.length = 21) (hR : Cf.Right c) (H : Tn W b c (S1 s r) u r sh (T1 c s r) 0) :
 Calls Tryz.prog 116 #[.pointer (some ⟨u,0,none⟩)] W fun e w' => e = .returned (.tuple #[]) ∧ Tn w' b c (S1 s r) u r sh (T1 c s r) (inm c s r sh) ∧ But (Us b c u) W w' :=
 enter_any (s := s) hR (fun _ _ => rfl) (fun _ hi => if_pos hi) hc H
theorem st_drift (hc : c.length = 21) (hR : Cf.Right c) (hr : Rok c r) (hO : Ok c s) (H : Tn W b c (S1 s r) u r sh (T1 c s r) (inm c s r sh)) :
 Calls Tryz.prog 117 #[.pointer (some ⟨u,0,none⟩)] W fun e w' => e = .returned (.tuple #[]) ∧ Tn w' b c (S2 c s r sh) u r sh (T2 c s r sh) (inm c s r sh) ∧ But (Us b c u) W w' := by
 have hl := inl_len (s := s) (r := r) (sh := sh) hR
 cases ha : any c s r sh
 · have h0 : inl c s r sh = [] := by unfold any at ha; simpa using ha
   refine (drift_no hc hR H (own c s r sh) (ths_in hR _) (Od.midb_no (.inr (.inl (by unfold own; rw [h0]; simp))))).mono fun e w' q => ⟨q.1,?_,q.2.2⟩
   have e : T1 c s r = T2 c s r sh := by funext i; unfold T1 T2 drf; simp [ha]
   rw [← e]
   exact q.2.1.congr rfl rfl fun i hi => by show nW s r i = { nW s r i with lev := lev c s r sh i }; unfold lev; simp [ha]; rfl
 · have h0 := any_iff.1 ha
   have h1 : 1 ≤ (inl c s r sh).length := by
    cases e : inl c s r sh with
    | nil => exact absurd e h0
    | cons a l => simp
   have hk := own_ok (sh := sh) hR hr hO
   have h1' : 1 ≤ (own c s r sh).length := by unfold own; rw [List.length_map]; exact h1
   have h4' : (own c s r sh).length ≤ 4 := by unfold own; rw [List.length_map]; exact hl
   have hel : ∀ k,k < (own c s r sh).length → -2147483648 ≤ (Od.srt (own c s r sh)).getD k 0 ∧ (Od.srt (own c s r sh)).getD k 0 ≤ 2147483647 := fun k hk => by
    have hm : (Od.srt (own c s r sh)).getD k 0 ∈ own c s r sh := by
     refine (Od.srt_perm _).mem_iff.1 ?_
     have hlen : k < (Od.srt (own c s r sh)).length := by rw [(Od.srt_perm _).length_eq]; exact hk
     rw [List.getD_eq_getElem?_getD,List.getElem?_eq_getElem hlen]; simp
    unfold own at hm
    obtain ⟨i,hi,he⟩ := List.mem_map.1 hm
    have := (in_nums hR hr hO hi).2.1
    unfold own; omega
   have hmid := Od.mid_in hk h1' h4'
   have e0 := hel 0 (by omega)
   have e1 := hel ((own c s r sh).length - 1) (by omega)
   refine (drift_yes hc hR (ok1 hr hO) (fun i hi his => (Jp.val_iff _).2 (hr i hi his)) (fun i hi his => by unfold T1; rw [if_pos hi]; exact ahd_bd i) H (own c s r sh) (ths_in hR _) (Od.midb_yes hk h1' h4') _ rfl (by omega)).mono fun e w' q => ⟨q.1,?_,q.2.2⟩
   have eL : ∀ i,i < NN c → (r i).is = true → lev c s r sh i = Dr.nx (G c 8) (s.ch i).lev ((r i).n - Od.midv (own c s r sh)) := fun i _ his => by unfold lev; simp [ha,his]
   have e : mx ((List.range (NN c)).filter fun i => (r i).is) (tD c (S1 s r) r (Od.midv (own c s r sh)) (T1 c s r)) (T1 c s r) = T2 c s r sh := by
    funext i
    by_cases hi : i < NN c
    · by_cases his : (r i).is = true
      · rw [mx_yes (flt.2 ⟨hi,his⟩)]
        unfold tD T1 T2 drf
        rw [if_pos hi,if_pos hi,eL i hi his,his,ha]
        rfl
      · rw [mx_not fun q => his (flt.1 q).2]
        unfold T1 T2 drf
        simp [his]
    · rw [mx_not fun q => hi (flt.1 q).1]
      unfold T1 T2
      rw [if_neg hi,if_neg hi]
   rw [← e]
   refine q.2.1.congr rfl rfl fun i hi => ?_
   show mx _ _ _ i = { nW s r i with lev := lev c s r sh i }
   by_cases his : (r i).is = true
   · rw [mx_yes (flt.2 ⟨hi,his⟩),eL i hi his]; rfl
   · rw [mx_not fun q => his (flt.1 q).2]
     unfold lev; simp [his]; rfl
theorem st_vote (hc : c.length = 21) (hR : Cf.Right c) (hr : Rok c r) (hO : Ok c s) {T : Nat → Int} (H : Tn W b c (S2 c s r sh) u r sh T (inm c s r sh)) :
 Calls Tryz.prog 118 #[.pointer (some ⟨u,0,none⟩)] W fun e w' => e = .returned (.tuple #[]) ∧ Tn w' b c (S3 c s r sh) u r sh T (inm c s r sh) ∧ But (Us b c u) W w' :=
 vote_any hc hR (ok2 hR hr hO) (in_val hR hr) H (evs c s r sh) (wts c s r sh) (ths_in hR _) (ths_in hR _) (val c s r sh) rfl
theorem st_compare (hc : c.length = 21) (hR : Cf.Right c) (hr : Rok c r) (hO : Ok c s) (H : Tn W b c (S3 c s r sh) u r sh (T2 c s r sh) (inm c s r sh)) :
 Calls Tryz.prog 119 #[.pointer (some ⟨u,0,none⟩)] W fun e w' => e = .returned (.tuple #[]) ∧ Tn w' b c (S3 c s r sh) u r sh (tri c s r sh) (inm c s r sh) ∧ But (Us b c u) W w' := by
 refine (compare_any hc hR hr (ok3 hR hr hO) (fun i hi => by
  have := ahd_bd (c := c) (s := s) (r := r) i
  unfold T2; rw [if_pos hi]; split <;> omega) H).mono fun e w' q => ⟨q.1,?_,q.2.2⟩
 have e : mx ((List.range (NN c)).filter fun i => (r i).is) (tC c (S3 c s r sh) r (T2 c s r sh)) (T2 c s r sh) = tri c s r sh := by
  funext i
  by_cases hi : i < NN c
  · by_cases his : (r i).is = true
    · rw [mx_yes (flt.2 ⟨hi,his⟩)]
      have em : mcp c (S3 c s r sh) r i = mis c s r sh i := by
       have hv := val_in (r := r) (sh := sh) hO
       have hrr := hr i hi his
       have hoo := (hO.ch i hi).off
       obtain ⟨-,h1,h2,-,-,-,-,-,-,h9,h10,-⟩ := hR
       unfold mcp mis
       rw [his]
       show decide (G c 9 < Fx.apart ((r i).n - (s.ch i).off) (val c s r sh)) = _
       unfold Fx.apart
       rw [if_pos ⟨(Fx.sm_iff _).2 (by omega),(Fx.sm_iff _).2 (by omega)⟩]
       rw [Bool.true_and,← Bool.decide_or]
       refine decide_eq_decide.2 ?_
       split <;> omega
      unfold tC tri trp T2
      rw [if_pos hi,if_pos hi,em]
    · rw [mx_not fun q => his (flt.1 q).2]
      unfold T2 tri trp mis
      simp [his]
  · rw [mx_not fun q => hi (flt.1 q).1]
    unfold T2 tri
    rw [if_neg hi,if_neg hi]
 rw [← e]
 exact q.2.1
theorem sus_lt (l : List Int) (x : Int) : Pa.sus l x = -1 ∨ (0 ≤ Pa.sus l x ∧ Pa.sus l x < l.length) := by
 have h := Pa.last_bd x (Pa.res l) (Pa.res l).length
 have h2 : (Pa.res l).length ≤ l.length := by
  cases h : Pa.fit l
  · rw [Pa.res_no h]; simp
  · rw [Pa.res_yes h,Pa.resTo_len]; omega
 unfold Pa.sus Pa.susOf
 split
 · exact .inl rfl
 · split
   · omega
   · exact .inl rfl
theorem st_suspect (hc : c.length = 21) (hR : Cf.Right c) (hr : Rok c r) (hO : Ok c s) {T : Nat → Int} (H : Tn W b c (S3 c s r sh) u r sh T (inm c s r sh)) :
 Calls Tryz.prog 120 #[.pointer (some ⟨u,0,none⟩)] W fun e w' => e = .returned (.int .i64 (sus c s r sh)) ∧ Below W.heap.size W w' := by
 have hs := sus_lt (evs c s r sh) (G c 9)
 have hlen : (evs c s r sh).length = (inl c s r sh).length := by unfold evs; rw [List.length_map]
 refine suspect_any hc hR (ok3 hR hr hO) (in_val hR hr) H (evs c s r sh) ((inl c s r sh).map fun i : Nat => (i : Int)) (ths_in hR _) (ths_in hR _) _ rfl ?_ (sus c s r sh) ?_
 · rw [List.length_map]; omega
 · unfold sus
   rcases hs with e | ⟨h1,h2⟩
   · rw [e]; rfl
   · rw [if_neg (by omega),if_neg (by omega),map_getD (by omega)]
theorem st_learn (hc : c.length = 21) (hR : Cf.Right c) (hr : Rok c r) (hO : Ok c s) {T : Nat → Int} {m : Int} (H : Tn W b c (S3 c s r sh) u r sh T m) :
 Calls Tryz.prog 121 #[.pointer (some ⟨u,0,none⟩)] W fun e w' => e = .returned (.tuple #[]) ∧ Tn w' b c (S4 c s r sh) u r sh T m ∧ But (Us b c u) W w' := by
 refine (learn_any hc hR (ok3 hR hr hO) H).mono fun e w' q => ⟨q.1,?_,q.2.2⟩
 refine q.2.1.congr rfl rfl fun i hi => ?_
 show mx _ _ _ i = { nW s r i with lev := lev c s r sh i,off := off c s r sh i }
 by_cases his : (r i).is = true
 · rw [mx_yes (flt.2 ⟨hi,his⟩)]
   unfold off; rw [if_pos his]; rfl
 · rw [mx_not fun q => his (flt.1 q).2]
   unfold off; rw [if_neg his]; rfl
theorem st_latch (hc : c.length = 21) (hR : Cf.Right c) (hr : Rok c r) (hO : Ok c s) {m : Int} (H : Tn W b c (S4 c s r sh) u r sh (tri c s r sh) m) :
 Calls Tryz.prog 122 #[.pointer (some ⟨u,0,none⟩)] W fun e w' => e = .returned (.agg (ev4 (evi c s r sh)).toArray) ∧ Tn w' b c (nxt c s r sh) u r sh (tri c s r sh) m ∧ But (Us b c u) W w' := by
 refine (latch_any hc hR (ok4 hR hr hO) H).mono fun e w' q => ⟨?_,?_,q.2.2⟩
 · have e : mx (List.range (NN c)) (whT c (S4 c s r sh) (tri c s r sh)) z4 = evi c s r sh := by
    funext i
    unfold mx evi z4
    simp only [List.mem_range]
    split
    · rename_i hi
      unfold whT wha tr tri; rw [if_pos hi]; rfl
    · rfl
   rw [← e]; exact q.1
 · refine q.2.1.congr rfl rfl fun i hi => ?_
   show mx _ _ _ i = _
   rw [mx_yes (List.mem_range.2 hi)]
   unfold nA nxt lat tr tri; rw [if_pos hi]; rfl
end
end Sg
namespace Sg
open Cf (G CA)
open Rf
attribute [local go_sem] Oper.semAt_some
def laf (s : Si) (i : Nat) : Bool := (s.ch i).st.la
theorem la_mask (c : List Int) (s : Si) : mk4 (mx (List.range (NN c)) (laf s) fun _ => false) = lam c s := by
 unfold lam
 congr 1
 funext i
 unfold mx laf
 by_cases h : i < NN c <;> simp [h]
set_option maxRecDepth 100000 in
set_option maxHeartbeats 3200000 in
theorem latched_any {W : World} {b : Nat → Nat} {c : List Int} {s : Si} (hc : c.length = 21) (hR : Cf.Right c) (H : Lie W b c s) :
 Calls Tryz.prog 61 #[.pointer (some ⟨b 0,0,none⟩)] W fun e w' => e = .returned (.int .i64 (lam c s)) ∧ Below W.heap.size W w' := by
 have hN := NN_34 hR
 refine (callsIn_wide (n := 5)).1 ?_
 refine callsIn_of_wp_marks Tryz.func61 rfl trivial ?_ rfl
 simp only [Tryz.ntmps61,List.size_toArray,List.length_cons,List.length_nil,Nat.reduceAdd,Nat.reduceSub,Array.replicate_succ,Array.replicate_zero,List.push_toArray,List.append_toArray,List.nil_append,List.cons_append]
 gi_wp2_with (refine ⟨trivial,?_⟩; gi_at_call 100; refine (callsIn_wide.2 (all_any _ _)).mono ?_; rintro e w2 ⟨rfl,rfl⟩)
 have bR := (VRow.new W (bl4 fun _ => false) 202).alloc (.cells #[.pointer (some ⟨b 0,0,none⟩)] 90)
 have b3 := Boxed.new (W.alloc (.cells #[.bool false,.bool false,.bool false,.bool false] 202)) 90 (.pointer (some ⟨b 0,0,none⟩))
 rw [World.size_alloc] at b3
 rw [show (bl4 fun _ => false).toArray = #[.bool false,.bool false,.bool false,.bool false] from rfl] at bR
 have hB0 := ((Below.refl W.heap.size W).alloc (Nat.le_refl _) (.cells #[.bool false,.bool false,.bool false,.bool false] 202)).alloc (by simp) (.cells #[.pointer (some ⟨b 0,0,none⟩)] 90)
 have hsz : ((W.alloc (.cells #[.bool false,.bool false,.bool false,.bool false] 202)).alloc (.cells #[.pointer (some ⟨b 0,0,none⟩)] 90)).heap.size = W.heap.size + 2 := by simp
 generalize (W.alloc (.cells #[.bool false,.bool false,.bool false,.bool false] 202)).alloc (.cells #[.pointer (some ⟨b 0,0,none⟩)] 90) = W0 at *
 have H0 := H.keep (But.of_below (S := fun _ => False) hB0) fun _ _ q => q
 have HH := Lib.hid H
 have h3 := b3.cell
 obtain ⟨cap0,hrow0⟩ := H0.row hc
 clear H
 refine range_goes rfl (by omega) (gf := 146) (lb := #[.pointer (some ⟨W.heap.size + 1,0,none⟩)]) rfl trivial (enters_of Tryz.func146 (by kernel_rfl) rfl)
  (Kp := Kc (fun p => p.block < W.heap.size) (W0.heap.size + 2))
  (fun V hV hs => all_goes _ (by omega) (W.heap.size + 1) (b 0) (b 2) cap0 b (NN c) _ _ (by omega) _ V ((hV.cell (p := ⟨_,0,none⟩) (cell_blk h3)).trans h3) ((hV.cell (p := ⟨_,22,none⟩) (cell_blk hrow0)).trans hrow0) (fun i hi => (H0.keep (But.of_below (S := fun _ => False) hV) fun _ _ q => q).at hi) (fun i => HH.out.lt ⟨2,by unfold pn; omega,rfl⟩))
  Kc.trans (fun X k o o' _ h2 h3 h4 => Kc.put h2 h3 h4) (fun _ => by rfl)
  (fun pre X => VRow X W.heap.size 202 (bl4 (mx (pre.map Fin.val) (laf s) fun _ => false)) ∧ Below W.heap.size W X)
  (fun _ _ _ => False)
  (OwnFrom.and (own_row _ _ _ _) (ownFrom_below (Nat.le_refl _) (by omega)))
  (fun _ _ _ _ _ hs _ _ => hs)
  ⟨by rw [List.map_nil,mx_nil]; exact bR,hB0⟩
  (fun x => { tmps := #[.pointer (some ⟨b 0,0,none⟩),undef,.int .i64 0,.pointer (some ⟨W.heap.size,0,none⟩),.int .i64 x.val,.pointer (some ⟨xb b x.val,0,none⟩),.pointer (some ⟨b 0,0,none⟩),.bool false,.pointer (some ⟨b 0,0,none⟩),.func (.func 146) #[] #[.pointer (some ⟨W.heap.size + 1,0,none⟩)],.int .i64 x.val,.pointer (some ⟨xb b x.val,0,none⟩),undef,undef,undef,undef,undef,undef,undef,undef,undef],defers := [] }) ?assign ?body ?done ?stop
 case assign =>
  intro l x W K hK
  dsimp only [enca]
  gi_wp2
  exact hK
 case body =>
  rintro lp pre x X ⟨bxR,hB⟩ hlen hG
  have hx := x.isLt
  have hx4 : x.val < 4 := by omega
  have hxi : (x.val : Int) < 4 := by omega
  have HX := HH.out.keep (But.of_below (S := fun _ => False) hB) fun _ _ q => q
  have q3 := (HX.chs x.val hx).own.cell 4 (v := .bool (s.ch x.val).st.la) rfl
  have HMP := Lib.hid (show (pre ++ [x]).map Fin.val = pre.map Fin.val ++ [x.val] by simp)
  have fR := bxR.frozen x.val
  have cR : ∃ q,X.cell? ⟨W.heap.size,x.val,none⟩ = some (.bool q) := by
   have : x.val = 0 ∨ x.val = 1 ∨ x.val = 2 ∨ x.val = 3 := by omega
   rcases this with e | e | e | e <;> (rw [e]; exact ⟨_,bxR.cell _ rfl⟩)
  obtain ⟨q0,cR⟩ := cR
  have HK := Lib.hid (show VRow (X.setCell ⟨W.heap.size,x.val,none⟩ (.bool (s.ch x.val).st.la)) W.heap.size 202 (bl4 (mx (pre.map Fin.val ++ [x.val]) (laf s) fun _ => false)) ∧ Below W.heap.size W (X.setCell ⟨W.heap.size,x.val,none⟩ (.bool (s.ch x.val).st.la)) ∧ Below W.heap.size X (X.setCell ⟨W.heap.size,x.val,none⟩ (.bool (s.ch x.val).st.la)) from by
   refine ⟨?_,hB.setCell (p := ⟨W.heap.size,x.val,none⟩) (Nat.le_refl _) _,(Below.refl _ X).setCell (p := ⟨W.heap.size,x.val,none⟩) (Nat.le_refl _) _⟩
   rw [← mx_snoc _ _ _ _ (s.ch x.val).st.la rfl,← bl4_set hx4]
   exact bxR.set x.val _)
  clear HX bxR hB hlen H0 bR b3 hB0 hsz h3 hrow0
  generalize (s.ch x.val).st.la = la at *
  gi_wp2
  refine ⟨(KeepsOthers.setCell _ _ _).from _,⟨fun p w hp hc => (HK.out.2.2.cell (p := p) hp).trans hc,(KeepsOthers.setCell _ _ _).from _⟩,?_,HK.out.2.1⟩
  rw [HMP.out]; exact HK.out.1
 case done =>
  rintro D ys X hD hys ⟨bxR,hB⟩ hK
  rw [hys] at bxR
  have HB := Lib.hid (bl4_bools bxR)
  have HM := Lib.hid (la_mask c s)
  have CB := Fx.bits_any (some ⟨W.heap.size,0,none⟩) 4 _ X (by simp) HB.out
  rw [bits4,HM.out] at CB
  simp only [List.length_cons,List.length_nil] at CB
  have HBB := Lib.hid hB
  clear hB bxR H0 bR b3 hB0 h3 hrow0
  obtain ⟨lm,hlm⟩ : ∃ lm,lam c s = lm := ⟨_,rfl⟩
  rw [hlm] at CB
  have HLM := Lib.hid hlm
  clear hlm
  gi_wp2_with (refine ⟨trivial,?_⟩; gi_at_call 62; refine (callsIn_wide.2 CB).mono ?_; rintro e w' ⟨rfl,rfl⟩)
  refine ⟨by simp,.inl ⟨_,_,rfl,run_takeDeferred hK,?_⟩⟩
  exact ⟨_,results_tmp rfl _ _ _,(by rw [HLM.out]; rfl),HBB.out.trans (belowK_b (w := W) (Nat.le_refl _) X D _ _ (by omega) hK rfl rfl)⟩
 case stop =>
  rintro D cc pre X _ _ h _
  exact h.elim
end Sg
namespace Sg
open Cf (G CA)
theorem zres_one : zres.toArray.all (·.oneCell') = true := by simp [zres,Value.oneCell']
theorem sizeRw : (Tryz.prog.info? 114).map (·.size) = some 8 := by kernel_rfl
theorem sizeRs : (Tryz.prog.info? 109).map (·.size) = some 13 := by kernel_rfl
theorem aggRs (w : World) : (isAgg 109).run Tryz.prog w = .ok true w := by simp [isAgg,run_underlying Tryz.underlying109]
theorem sizeE4 : (Tryz.prog.info? 22).map (·.size) = some 4 := by kernel_rfl
theorem aggE4 (w : World) : (isAgg 22).run Tryz.prog w = .ok true w := by simp [isAgg,run_underlying Tryz.underlying22]
theorem built_turn (g : Nat) (r : Nat → Rw) (sh : Int) : Tryz.prog.built 236 [(0,.pointer (some ⟨g,0,none⟩)),(1,.agg (raw8 r).toArray),(2,.int .i64 sh)] = some (tnr g r sh z4 0).toArray := by
 refine Eq.trans ?_ rfl
 kernel_rfl
theorem wpQuiet_row {ops : Array Oper} {C : World → Prop} {Q : Act → Prop} {o : Oper} {rest : List Oper} {a : Act} {t : TypeId} (hw : Region.wanted o (yielded ops a.tmps) = true) (x : Operand) (ho : o.op = .load t x)
 (b off : Nat) (cs : List Value) (hx : a.eval x = .pointer (some ⟨b,off,none⟩)) (hb : ∀ w,C w → ∀ (j : Nat) v,cs[j]? = some v → w.cell? ⟨b,off + j,none⟩ = some v) (hA : ∀ w,(isAgg t).run Tryz.prog w = .ok true w) (hi : (Tryz.prog.info? t).map (·.size) = some cs.length)
 (h : wpQuiet Tryz.prog ops C Q rest (a.put o.dst (.agg cs.toArray))) : wpQuiet Tryz.prog ops C Q (o :: rest) a := by
 unfold wpQuiet
 rw [if_pos hw]
 refine ⟨.agg cs.toArray,fun w hC => ?_,h⟩
 have e : (loadVar t ⟨b,off,none⟩).run Tryz.prog w = .ok (.agg cs.toArray) w := by
  have h1 := run_loadCells_list (P := Tryz.prog) w ⟨b,off,none⟩ cs (fun j v hv => by rw [add_plain]; exact hb w hC j v hv)
  cases hq : Tryz.prog.info? t with | none => simp [hq] at hi | some i =>
   have hs : i.size = cs.length := by simpa [hq] using hi
   simp [loadVar,hA,sizeOf,typeInfo,hq,hs,h1,Result.andThen]
 unfold Oper.quietAt execOp
 simp only [ho,hx,Instr.loadAt,Instr.sureAddr,Sem.run_bind,Sem.run_pure,Result.andThen_ok,e]
 exact ⟨rfl,rfl⟩
set_option maxRecDepth 100000 in
set_option maxHeartbeats 800000 in
theorem step_no {W : World} {b : Nat → Nat} {c : List Int} {s : Si} {r : Nat → Rw} {sh : Int} (hc : c.length = 21) (hR : Cf.Right c) (H : Lie W b c s) (hn : okb c r sh = false) :
 Calls Tryz.prog 79 #[.pointer (some ⟨b 0,0,none⟩),.agg (raw8 r).toArray,.int .i64 sh] W fun e w' => e = .returned (.tuple #[.agg zres.toArray,.int .i64 1]) ∧ Below W.heap.size W w' := by
 have hlW := fun k (hk : In b c k) => H.lt hk
 have RA := Lib.hid (show VRow ((W.alloc (.cells (raw8 r).toArray 114)).alloc (.cells zres.toArray 109)) W.heap.size 114 (raw8 r) from (VRow.new W (raw8 r) _).alloc _)
 have hs1 : (W.alloc (.cells (raw8 r).toArray 114)).heap.size = W.heap.size + 1 := by simp
 have hs2 : ((W.alloc (.cells (raw8 r).toArray 114)).alloc (.cells zres.toArray 109)).heap.size = W.heap.size + 2 := by simp
 have b2 := ((Below.refl W.heap.size W).alloc (Nat.le_refl _) (.cells (raw8 r).toArray 114)).alloc (by omega) (.cells zres.toArray 109)
 have RB0 := VRow.new (W.alloc (.cells (raw8 r).toArray 114)) zres 109
 rw [hs1] at RB0
 obtain ⟨z,hz⟩ : ∃ z,z = (tnr (b 0) r sh z4 0).toArray := ⟨_,rfl⟩
 have HZ := Lib.hid hz
 have b3 := b2.alloc (by omega) (.cells z 236)
 have RB := Lib.hid (RB0.alloc (.cells z 236))
 have TT := Lib.hid (show Tn (((W.alloc (.cells (raw8 r).toArray 114)).alloc (.cells zres.toArray 109)).alloc (.cells z 236)) b c s (W.heap.size + 2) r sh z4 0 from
  ⟨H.keep (But.of_below (S := fun _ => False) b3) fun _ _ q => q,by rw [hz,← hs2]; exact VRow.new _ _ _,fun q => by have := hlW _ q; omega⟩)
 have BB := Lib.hid b3
 have hnU : ¬ Us b c (W.heap.size + 2) (W.heap.size + 1) := by
  rintro (q | q)
  · have := hlW _ q; omega
  · omega
 have BT := Lib.hid (built_turn (b 0) r sh)
 clear hs1 hs2 b2 b3 RB0 hz
 have CRT := right_any hc hR TT.out
 rw [hn] at CRT
 rw [show zres.toArray = #[.int .i64 0,.int .i64 0,.int .i64 0,.int .i64 0,.bool false,.int .i64 0,.int .i64 0,.int .i64 0,.int .i64 0,.int .i64 0,.int .i64 0,.int .i64 0,.int .i64 0] from rfl] at CRT TT BB RB RA
 clear H hlW hnU hn hR
 go_enter Tryz.func79,Tryz.ntmps79
 go_wp2_with (first | ((with_reducible show wpList _ _ _ (⟨some 15,_,_,_,_,_⟩ :: _) _ _); refine VB.loaded rfl _ rfl W.heap.size rfl RA.out Tryz.underlying114 rfl sizeRw ?_) | ((with_reducible show wpList _ _ _ (⟨some 17,_,_,_,_,_⟩ :: _) _ _); refine wpList_buildTo rfl _ _ rfl z (by rw [HZ.out]; simp only [List.map_toArray,List.map_cons,List.map_nil]; exact BT.out) ?_) | (go_at_call 114; refine CRT.mono ?_; clear CRT; rintro e w2 ⟨rfl,b2⟩; have RB2 := Lib.hid (RB.out.below b2 RB.out.lt); have BB2 := Lib.hid (grow BB.out b2); have TT2 := Lib.hid (TT.out.on b2); clear b2) | ((with_reducible show wpList _ _ _ (⟨none,.store _ (.tmp 6) _,_,_,_,_⟩ :: _) _ _); refine VB.store rfl _ _ rfl (W.heap.size + 1) zres rfl rfl RB2.out sizeRs rfl zres_one ?_))
 have hbw := Below.put BB2.out (g := W.heap.size + 1) (by omega) zres.toArray
 have hrw := VRow.put RB2.out zres
 generalize w2.setRow (W.heap.size + 1) zres.toArray = w3 at *
 refine bodyPost_ret (v := .tuple #[.agg zres.toArray,.int .i64 1]) ?_ rfl ⟨rfl,hbw⟩
 exact (VB.ret2 (cs := zres) (p := 6) (u := 7) (ty := 109) rfl rfl (aggRs _) sizeRs hrw).trans rfl
end Sg
end Go.Proofs.YticidhbnljdidaaGreatDoor
