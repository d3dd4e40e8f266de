/-
 What drift of package signal does (the third step of a cycle): a contract by walking the Go text. Conditions: how a signal lies; that the raw values may be.
 What the calls of package vote return, but Vote, and the iterator weighted: contracts by walking the Go text. Conditions: where the lists lie.
 What fit of package vote returns: a contract by walking the Go text (a range over the iterator weighted). Conditions: where the lists lie.
 What mean of package vote returns: a contract by walking the Go text (a range over the iterator weighted, whose body adds up). Conditions: where the lists lie; that values, weights, mid and clip may be such.
 What Vote of package vote returns: a contract by walking the Go text. Conditions: where the lists lie.
-/
import Derived.Test.YticidhbnljdidaaGreatDoorSignalThose
import Derived.Test.YticidhbnljdidaaGreatDoorDriftCome
import Derived.Test.YticidhbnljdidaaGreatDoorJJumpCome7
import Derived.Test.YticidhbnljdidaaGreatDoorJOrderMidMath6
import Derived.Test.YticidhbnljdidaaGreatDoorFixWalks
import Derived.Test.YticidhbnljdidaaGreatDoorJOpen2
import Derived.Test.YticidhbnljdidaaGreatDoorJEqualWalks5
import Derived.RegionTactic
import Derived.BigQuiet
import Derived.RangeFuncNested
import Derived.RangeFuncBound
import Derived.RangeFuncCalls
import Derived.RangeFuncLeaves
import Derived.Shelf.Abstract
import Derived.Shelf.RegionOpen
import Derived.OwnWalkIn
import Derived.TacticsInMore
import Derived.LoopNIn
import Derived.LoopIn
import Derived.Test.YticidhbnljdidaaGreatDoorJAgg8
import Derived.Lib.QuietBelow
namespace Go.Proofs.YticidhbnljdidaaGreatDoor
set_option maxRecDepth 100000
open Go.ChangeShapes Go.WideShapes Go.ChangeAt Go.RowKit Go.Deep Go.Shelf
namespace Sg
open Cf (G CA)
open Rf
attribute [local go_sem] Oper.semAt_some
def nD (c : List Int) (s : Si) (r : Nat → Rw) (md : Int) (i : Nat) : Ch := { s.ch i with lev := Dr.nx (G c 8) (s.ch i).lev ((r i).n - md) }
def tD (c : List Int) (s : Si) (r : Nat → Rw) (md : Int) (T : Nat → Int) (i : Nat) : Int := T i + if Dr.ov (G c 7) (Dr.nx (G c 8) (s.ch i).lev ((r i).n - md)) = true then 16 else 0
theorem Chan.fil {X Y : World} {b : Nat → Nat} {c : List Int} {s : Si} {i : Nat} (H : Lie X b c s) (hi : i < NN c) (B : But (fun k => k = lb b i) X Y) {o : Int} (ht : VRow Y (lb b i) 270 (Dr.fil (G c 8) (G c 7) o)) : Chan Y b c i { s.ch i with lev := o } := by
 have C := H.chs i hi
 obtain ⟨n1,n2,n3,n4,n5,n6,n7,n8,n9,n10,n11⟩ := H.five hi
 obtain ⟨l,f1,f2⟩ := C.fw
 exact ⟨C.own.but B n3,C.jw.but B n6,⟨l,f1.but B n8,f2⟩,ht,C.tr.but B (Ne.symm n10)⟩
set_option maxRecDepth 100000 in
set_option maxHeartbeats 3200000 in
theorem drift_no {W : World} {b : Nat → Nat} {c : List Int} {s : Si} {u : Nat} {r : Nat → Rw} {sh : Int} {T : Nat → Int} {m : Int} (hc : c.length = 21) (hR : Cf.Right c) (H : Tn W b c s u r sh T m)
 (L : List Int) (hL : ths m (fun i => (r i).n) (List.range (NN c)) = L) (hm : Od.midb L = false) :
 Calls Tryz.prog 117 #[.pointer (some ⟨u,0,none⟩)] W fun e w' => e = .returned (.tuple #[]) ∧ Tn w' b c s u r sh T m ∧ But (Us b c u) W w' := by
 have hB1 := (Below.refl W.heap.size W).alloc (Nat.le_refl _) (.cells #[.pointer (some ⟨u,0,none⟩)] 234)
 have CT := hL ▸ those_raw hc hR (H.on hB1)
 have hll : L.length ≤ 9223372036854775807 := by
  have h1 := ths_len m (fun i => (r i).n) (List.range (NN c))
  rw [hL,List.length_range] at h1
  have := NN_34 hR; omega
 have CM := fun (a : Option Addr) (cap : Nat) (Y : World) (hV : IntsAt .i64 Y a L) => Od.mid_any a cap L Y hll hV
 rw [hm] at CM
 have HH := Lib.hid H
 have HB1 := Lib.hid hB1
 clear hL hm H hB1
 generalize Od.midv L = mv at *
 have hs1 : (W.alloc (.cells #[.pointer (some ⟨u,0,none⟩)] 234)).heap.size = W.heap.size + 1 := by simp
 refine (callsIn_wide (n := 5)).1 ?_
 refine callsIn_of_wp_marks Tryz.func117 rfl trivial ?_ rfl
 simp only [Tryz.ntmps117,List.size_toArray,List.length_cons,List.length_nil,Nat.reduceAdd,Nat.reduceSub,Array.replicate_succ,Array.replicate_zero,List.push_toArray,List.append_toArray,List.nil_append,List.cons_append]
 gi_wp2_with (first | (refine ⟨trivial,?_⟩; gi_at_call 163; refine (callsIn_wide.2 CT).mono ?_; clear CT; rintro e w2 ⟨a,cap,rfl,-,hi,hb⟩; have HB2 := Lib.hid (grow HB1.out hb); have HC2 := Lib.hid hb; have CM2 := CM a cap w2 hi; clear CM hi hb) | (refine ⟨trivial,?_⟩; gi_at_call 162; refine (callsIn_wide.2 CM2).mono ?_; clear CM2; rintro e w3 ⟨rfl,hb3⟩; have HB3 := Lib.hid (grow HB2.out hb3); have hsz3 : W.heap.size + 1 ≤ w3.heap.size := (by have h1 := hb3.size; have h2 := HC2.out.size; have h3 := hs1; omega); have b1 : Boxed w3 W.heap.size 234 (.pointer (some ⟨u,0,none⟩)) := ((hb3.block _ (by have h2 := HC2.out.size; have h3 := hs1; omega)).trans ((HC2.out.block _ (by have h3 := hs1; omega)).trans (Boxed.new W _ _))); have b2 := b1.alloc (.cells #[.int .i64 mv] 3); have k2 := b2.cell; clear hb3))
 have hb := HB3.out.alloc HB3.out.size (.cells #[.int .i64 mv] 3)
 exact ⟨_,results_none rfl _ _ _,rfl,HH.out.on hb,But.of_below hb⟩
set_option maxRecDepth 100000 in
set_option maxHeartbeats 3200000 in
theorem drift_yes {W : World} {b : Nat → Nat} {c : List Int} {s : Si} {u : Nat} {r : Nat → Rw} {sh : Int} {T : Nat → Int} {m : Int} (hc : c.length = 21) (hR : Cf.Right c) (hO : Ok c s) (hv : ∀ i,i < NN c → (r i).is = true → Jp.val (r i).n = true) (hT : ∀ i,i < NN c → (r i).is = true → 0 ≤ T i ∧ T i < 16) (H : Tn W b c s u r sh T m)
 (L : List Int) (hL : ths m (fun i => (r i).n) (List.range (NN c)) = L) (hm : Od.midb L = true) (mv : Int) (hmv : Od.midv L = mv) (hmb : -2147483648 ≤ mv ∧ mv ≤ 2147483647) :
 Calls Tryz.prog 117 #[.pointer (some ⟨u,0,none⟩)] W fun e w' => e = .returned (.tuple #[]) ∧ Tn w' b c (mid s ((List.range (NN c)).filter fun i => (r i).is) (nD c s r mv)) u r sh (mx ((List.range (NN c)).filter fun i => (r i).is) (tD c s r mv T) T) m ∧ But (Us b c u) W w' := by
 have hB1 := (Below.refl W.heap.size W).alloc (Nat.le_refl _) (.cells #[.pointer (some ⟨u,0,none⟩)] 234)
 have CT := hL ▸ those_raw hc hR (H.on hB1)
 have hll : L.length ≤ 9223372036854775807 := by
  have h1 := ths_len m (fun i => (r i).n) (List.range (NN c))
  rw [hL,List.length_range] at h1
  have := NN_34 hR; omega
 have CM := fun (a : Option Addr) (cap : Nat) (Y : World) (hV : IntsAt .i64 Y a L) => Od.mid_any a cap L Y hll hV
 rw [hm] at CM
 rw [hmv] at CM
 have hN := NN_34 hR
 have HH := Lib.hid H
 have HB1 := Lib.hid hB1
 clear hL hm H hB1 hmv
 have hs1 : (W.alloc (.cells #[.pointer (some ⟨u,0,none⟩)] 234)).heap.size = W.heap.size + 1 := by simp
 refine (callsIn_wide (n := 5)).1 ?_
 refine callsIn_of_wp_marks Tryz.func117 rfl trivial ?_ rfl
 simp only [Tryz.ntmps117,List.size_toArray,List.length_cons,List.length_nil,Nat.reduceAdd,Nat.reduceSub,Array.replicate_succ,Array.replicate_zero,List.push_toArray,List.append_toArray,List.nil_append,List.cons_append]
 gi_wp2_with (first | (refine ⟨trivial,?_⟩; gi_at_call 163; refine (callsIn_wide.2 CT).mono ?_; clear CT; rintro e w2 ⟨a,cap,rfl,-,hi,hb⟩; have HB2 := Lib.hid (grow HB1.out hb); have HC2 := Lib.hid hb; have CM2 := CM a cap w2 hi; clear CM hi hb) | (refine ⟨trivial,?_⟩; gi_at_call 162; refine (callsIn_wide.2 CM2).mono ?_; clear CM2; rintro e w3 ⟨rfl,hb3⟩; have HB3 := Lib.hid (grow HB2.out hb3); have hsz3 : W.heap.size + 1 ≤ w3.heap.size := (by have h1 := hb3.size; have h2 := HC2.out.size; have h3 := hs1; omega); have b1 : Boxed w3 W.heap.size 234 (.pointer (some ⟨u,0,none⟩)) := ((hb3.block _ (by have h2 := HC2.out.size; have h3 := hs1; omega)).trans ((HC2.out.block _ (by have h3 := hs1; omega)).trans (Boxed.new W _ _))); have b2 := b1.alloc (.cells #[.int .i64 mv] 3); have k2 := b2.cell; clear hb3) | (refine ⟨trivial,?_⟩; gi_at_call 156; refine (callsIn_wide.2 (valued_any _ _)).mono ?_; rintro e w4 ⟨rfl,rfl⟩))
 have b3 := Boxed.new (w3.alloc (.cells #[.int .i64 mv] 3)) 234 (.pointer (some ⟨u,0,none⟩))
 rw [World.size_alloc] at b3
 have bm := (Boxed.new w3 3 (.int .i64 mv)).alloc (.cells #[.pointer (some ⟨u,0,none⟩)] 234)
 have b4 := b2.alloc (.cells #[.pointer (some ⟨u,0,none⟩)] 234)
 have hB0 := (HB3.out.alloc HB3.out.size (.cells #[.int .i64 mv] 3)).alloc (by rw [World.size_alloc]; omega) (.cells #[.pointer (some ⟨u,0,none⟩)] 234)
 have hsz : ((w3.alloc (.cells #[.int .i64 mv] 3)).alloc (.cells #[.pointer (some ⟨u,0,none⟩)] 234)).heap.size = w3.heap.size + 2 := by simp
 clear k2 b1 b2 HB3 HB2 HC2 HB1
 generalize (w3.alloc (.cells #[.int .i64 mv] 3)).alloc (.cells #[.pointer (some ⟨u,0,none⟩)] 234) = W0 at *
 generalize w3.heap.size = n3 at *
 have H0 := HH.out.on hB0
 have HL := Lib.hid (fun k (hk : Us b c u k) => HH.out.lt hk)
 have HOU := Lib.hid HH.out.out
 clear HH
 refine range_goes rfl (by omega) (gf := 191) (lb := #[.pointer (some ⟨n3 + 1,0,none⟩)]) rfl trivial (enters_of Tryz.func191 (by kernel_rfl) rfl)
  (hseq_valued _ (by omega) hc hR H0 b3.cell) Kc.trans (fun X k o o' _ h2 h3 h4 => Kc.put h2 h3 h4) (fun _ => rfl)
  (fun pre X => Tn X b c (mid s (pre.map (·.1)) (nD c s r mv)) u r sh (mx (pre.map (·.1)) (tD c s r mv T) T) m ∧ (Boxed X W.heap.size 234 (.pointer (some ⟨u,0,none⟩)) ∧ Boxed X n3 3 (.int .i64 mv)) ∧ But (Us b c u) W X)
  (fun _ _ _ => False)
  (OwnFrom.and (own_tn _ _ _ _) (OwnFrom.and (OwnFrom.and (own_box _ _ _ _) (own_box _ _ _ _)) (own_other _ _ _ (by omega))))
  (fun _ _ _ _ _ hs _ _ => hs)
  ⟨by rw [List.map_nil,mid_nil,mx_nil]; exact H0,⟨b4,bm⟩,But.of_below hB0⟩
  (fun x => { tmps := #[.pointer (some ⟨u,0,none⟩),.pointer (some ⟨W.heap.size,0,none⟩),.pointer (some ⟨n3,0,none⟩),.bool true,.int .i64 x.1,.pointer (some ⟨xb b x.1,0,none⟩),undef,undef,.tuple #[.int .i64 mv,.bool true],.pointer (some ⟨u,0,none⟩),.pointer (some ⟨u,0,none⟩),.func (.func 157) #[.pointer (some ⟨u,0,none⟩)] #[],.slice a L.length cap,.tuple #[.int .i64 mv,.bool true],.int .i64 mv,.bool true,.bool true,.bool false,.pointer (some ⟨u,0,none⟩),.func (.func 191) #[] #[.pointer (some ⟨n3 + 1,0,none⟩)],.int .i64 x.1,.pointer (some ⟨xb b x.1,0,none⟩),undef,undef,undef,undef,undef,undef,undef,undef,undef,undef,undef,undef,undef,undef,undef,undef,undef],defers := [] }) ?assign ?body ?done ?stop
 case assign =>
  intro l x W K hK
  dsimp only [encv]
  gi_wp2
  exact hK
 case body =>
  rintro lp pre x X ⟨HX,bx1,hB⟩ hlen hG
  have hx := x.2.1
  have hx4 : x.1 < 4 := by omega
  have hxi : (x.1 : Int) < 4 := by omega
  have HMP := Lib.hid (show (pre ++ [x]).map (·.1) = pre.map (·.1) ++ [x.1] by simp)
  have eS : (mid s (pre.map (·.1)) (nD c s r mv)).ch x.1 = s.ch x.1 := mx_not hG
  have ET := Lib.hid (show mx (pre.map (·.1)) (tD c s r mv T) T x.1 = T x.1 from mx_not hG)
  have KC := Lib.hid (fun (Y : World) (s' : Si) (T' : Nat → Int) (S : Nat → Prop) (hY : Tn Y b c s' u r sh T' m) (h : But S X Y) (hS : ∀ k,S k → Of b x.1 k ∨ k = u) => (show (KeepsFrom W0.heap.size X Y ∧ Kc (Dv b u (n3 + 1) W0.heap.size) (W0.heap.size + 2) X Y) ∧ (Boxed Y W.heap.size 234 (.pointer (some ⟨u,0,none⟩)) ∧ Boxed Y n3 3 (.int .i64 mv)) ∧ But (Us b c u) W Y from by
   have hS' : ∀ k,S k → Us b c u k ∧ k ≠ b 2 := fun k q => (hS k q).elim (fun o => ⟨of_us hx o,fun e => HX.lie.apart3 hx (p := 2) (by omega) (e ▸ o)⟩) (fun e => ⟨.inr e,fun e2 => HX.out (by rw [← e,e2]; exact ⟨2,by unfold pn; omega,rfl⟩)⟩)
   refine ⟨round_kc HX hY h fun k q => ⟨by have := HL.out k (hS' k q).1; omega,by have := HL.out k (hS' k q).1; omega,(hS' k q).2⟩,⟨?_,?_⟩,hB.trans (h.mono fun k q => (hS' k q).1)⟩
   · exact (h.block _ (by have := bx1.1.lt; omega) fun q => by have := HL.out _ (hS' _ q).1; omega).trans bx1.1
   · exact (h.block _ (by have := bx1.2.lt; omega) fun q => by have := HL.out _ (hS' _ q).1; omega).trans bx1.2))
  have HXX := Lib.hid HX
  have B1 := Lib.hid bx1
  have CH := HX.lie.chs x.1 hx
  rw [eS] at CH
  have HCH := Lib.hid CH
  have hmay : Dr.may (G c 8) (G c 7) = true := by
   obtain ⟨-,-,-,-,-,-,-,h7,h8,-⟩ := hR
   exact (Dr.may_iff _ _).2 ⟨h8.1,h8.2,h7.1,h7.2⟩
  have hoo := (hO.ch x.1 hx).lev
  have hvx := hv x.1 hx x.2.2
  have hnb : -2147483648 ≤ (r x.1).n ∧ (r x.1).n ≤ 2147483647 := by simpa [Jp.val] using hvx
  have n1 : -9223372036854775808 ≤ (r x.1).n - mv := by omega
  have n2 : (r x.1).n - mv ≤ 9223372036854775807 := by omega
  have hdd : Dr.dif ((r x.1).n - mv) = true := (Dr.dif_iff _).2 (by omega)
  have hT0 := hT x.1 hx x.2.2
  have hlu : lb b x.1 ≠ u := fun e => HX.out (e ▸ of_in hx (.inr (.inr (.inr (.inl rfl)))))
  have CL := Lib.hid (fun (Y : World) (HY : VRow Y (lb b x.1) 270 (Dr.fil (G c 8) (G c 7) (s.ch x.1).lev)) => Dr.come_yes (lb b x.1) _ _ _ ((r x.1).n - mv) Y HY hoo hmay hdd)
  obtain ⟨ov,hov⟩ : ∃ ov,ov = Dr.ov (G c 7) (Dr.nx (G c 8) (s.ch x.1).lev ((r x.1).n - mv)) := ⟨_,rfl⟩
  rw [← hov] at CL
  have HOV := Lib.hid hov
  have HS := Lib.hid eS
  have HT0 := Lib.hid hT0
  clear HX bx1 hB hlen H0 b3 b4 bm hB0 hov CH hmay hoo hvx hdd hT0
  gi_wp2
  refine Wr.wpIn_w1 (aF := ?_) [9] 39 [true,true,true,true,true,true,true,true,true,false,true,true,true,true,true] 32 (.tuple #[.bool ov,.int .i64 0])
   (fun k Y => match k with
    | 0 => But (fun _ => False) X Y
    | _ => But (fun k => k = lb b x.1) X Y ∧ VRow Y (lb b x.1) 270 (Dr.fil (G c 8) (G c 7) (Dr.nx (G c 8) (s.ch x.1).lev ((r x.1).n - mv))))
   (fun Y => But (fun k => k = lb b x.1) X Y)
   (by kernel_rfl) (by kernel_rfl) (by kernel_rfl) (by kernel_rfl) ?hL ?ha ?hMC ?hMg ?h0 ?hq ?hw ?hend
  case hq =>
   intro Y hY
   have htW := HL.out (lb b x.1) (of_us hx (.inr (.inr (.inr (.inl rfl)))))
   have k1 := cell_regrown ((show Boxed Y W.heap.size 234 (.pointer (some ⟨u,0,none⟩)) from (hY.block _ B1.out.1.lt (by omega)).trans B1.out.1).cell)
   have k2 := cell_regrown ((show Boxed Y n3 3 (.int .i64 mv) from (hY.block _ B1.out.2.lt (by omega)).trans B1.out.2).cell)
   have hTY := HXX.out.trn.but hY (fun e => hlu e.symm)
   have hfive := HXX.out.lie.five hx
   have k4 := cell_regrown ((HCH.out.own.but hY (by omega)).cell 2 (v := .pointer (some ⟨lb b x.1,0,none⟩)) rfl)
   have cR := reg_call (w := Y) (fun Z B => (raw_row (hTY.below B hTY.lt) x.1 hx4).mono fun e w' q => ⟨q.1,q.2 ▸ Below.refl _ _⟩)
   simp only [Lt.sel,Act.put,List.setIfInBounds_toArray,List.set_cons_succ,List.set_cons_zero]
   repeat (go_big_quiet_step (exact cR _ _))
   exact rfl
  case ha => rfl
  case hL => rintro ⟨_,_,h⟩; exact h
  case hMC =>
   rintro (_ | k) Y hM
   · exact hM.mono fun _ q => q.elim
   · exact hM.1
  case hMg =>
   rintro (_ | k) Y Z hM hC
   · exact hM.grow hC.to
   · exact ⟨hM.1.grow hC.to,hM.2.below hC.to hM.2.lt⟩
  case h0 => exact But.refl _ _
  case hw =>
   rintro (_ | k) st o hs ho Y hM
   · obtain rfl : 9 = st := by simpa using hs
     obtain rfl := Option.some.inj ho
     refine Wr.wp_fn (f := 164) (args := #[.pointer (some ⟨lb b x.1,0,none⟩),.int .i64 ((r x.1).n - mv)]) ?_ (CL.out Y (HCH.out.fl.but hM fun q => q)) ?_
     · kernel_rfl
     · rintro e Z ⟨rfl,z1,z2⟩
       exact ⟨_,rfl,_,rfl,fun _ _ _ => rfl,(hM.mono fun _ q => q.elim).trans z2,z1⟩
   · simp at hs
  case hend =>
   intro Y hM
   have HM := Lib.hid (show But (fun k => k = lb b x.1) X Y ∧ VRow Y (lb b x.1) 270 (Dr.fil (G c 8) (G c 7) (Dr.nx (G c 8) (s.ch x.1).lev ((r x.1).n - mv))) from hM)
   clear hM
   have HB := HM.out.1.mono (S' := Of b x.1) fun k e => .inr (.inr (.inr (.inl e)))
   have HY := HXX.out.set hx HB (Chan.fil HXX.out.lie hx HM.out.1 HM.out.2)
   rw [put_mid _ _ _ _ _ (show _ = nD c s r mv x.1 by rw [HS.out]; rfl)] at HY
   obtain ⟨-,hBY,-⟩ := KC.out Y _ _ _ HY HB fun k e => .inl e
   have c1 := hBY.1.cell
   have CT := trip_any HY x.1 hx4 16 ov (.inr (.inl rfl)) (by rw [ET.out]; exact HT0.out)
   have HBB := Lib.hid HB
   clear hBY HB HY
   gi_wp2
   refine ⟨trivial,(CallsIn.inRound lp (callsIn_wide.2 CT)).mono ?_⟩
   rintro e Z2 ⟨rfl,HZ2,BZ2⟩
   have H2 := Lib.hid HZ2
   have B2 := Lib.hid ((HBB.out.mono (S' := fun k => Of b x.1 k ∨ k = u) fun k e => .inl e).trans (BZ2.mono fun k e => .inr e))
   clear HZ2 BZ2 CT c1
   gi_wp2
   obtain ⟨⟨k1,k2⟩,k3,k4⟩ := KC.out Z2 _ _ _ H2.out B2.out fun k q => q
   refine ⟨k1,k2,?_,k3,k4⟩
   have := H2.out
   rw [tup_mx _ _ _ _ _ (show _ = tD c s r mv T x.1 by rw [ET.out,HOV.out]; rfl)] at this
   rw [HMP.out]; exact this
 case done =>
  rintro D ys X hD hys ⟨HX,-,hB⟩ hK
  rw [hys] at HX
  gi_wp2
  refine ⟨by simp,.inl ⟨_,_,rfl,run_takeDeferred hK,?_⟩⟩
  exact ⟨_,results_none rfl _ _ _,rfl,tn_put HX hK rfl,but_put hB (by omega) _⟩
 case stop =>
  rintro D cc pre X _ _ h _
  exact h.elim
end Sg
namespace Vo
open Fx Od
attribute [local go_sem] Oper.semAt_some
theorem vwithin_any (n lo hi : Int) (w : World) :
 Calls Tryz.prog 221 #[.int .i64 n,.int .i64 lo,.int .i64 hi] w fun e w' => e = .returned (.bool (inr lo hi n)) ∧ w = w' := by
 have HF := Lib.hid (show inr lo hi n = (decide (lo ≤ n) && decide (n ≤ hi)) from rfl)
 generalize inr lo hi n = X at *
 cases d : decide (lo ≤ n)
 · rw [d,Bool.false_and] at HF
   go_enter Tryz.func221,Tryz.ntmps221
   go_wp2
   go_ret
   exact ⟨ret_bool HF.out.symm,rfl⟩
 · rw [d,Bool.true_and] at HF
   go_enter Tryz.func221,Tryz.ntmps221
   go_wp2
   go_ret
   exact ⟨ret_bool HF.out.symm,rfl⟩
theorem vwithin_eq (n lo hi : Int) (x : Bool) (w : World) (h : inr lo hi n = x) :
 Calls Tryz.prog 221 #[.int .i64 n,.int .i64 lo,.int .i64 hi] w fun e w' => e = .returned (.bool x) ∧ w = w' := by subst h; exact vwithin_any n lo hi w
set_option maxHeartbeats 800000 in
theorem vright_any (lo hi clip : Int) (w : World) :
 Calls Tryz.prog 200 #[.agg #[.int .i64 lo,.int .i64 hi,.int .i64 clip]] w fun e w' => e = .returned (.bool (rmay lo hi clip)) ∧ Below w.heap.size w w' := by
 have HF := Lib.hid (show rmay lo hi clip = (inr (-2147483648) 2147483647 lo && inr lo 2147483647 hi && inr 0 2147483647 clip) from rfl)
 have B := Lib.hid ((Below.refl w.heap.size w).alloc (Nat.le_refl _) (.cells #[.int .i64 lo,.int .i64 hi,.int .i64 clip] 281))
 generalize rmay lo hi clip = r at *
 cases d1 : inr (-2147483648) 2147483647 lo <;> cases d2 : inr lo 2147483647 hi <;> cases d3 : inr 0 2147483647 clip
 all_goals
  rw [d1,d2,d3] at HF
  have D1 := Lib.hid d1
  have D2 := Lib.hid d2
  have D3 := Lib.hid d3
  clear d1 d2 d3
  go_enter Tryz.func200,Tryz.ntmps200
  go_wp2_with (go_at_call 221; refine (vwithin_eq _ _ _ _ _ (by first | exact D1.out | exact D2.out | exact D3.out)).mono ?_; rintro e w' ⟨rfl,rfl⟩)
  go_ret
  exact ⟨ret_bool HF.out.symm,B.out⟩
def encp (V U : List Int) (x : Fin V.length) : Array Value := #[.int .i64 (V.getD x.val 0),.int .i64 (U.getD x.val 0)]
def Stay (n B : Nat) (W W' : World) : Prop := (∀ k,k < n → W'.heap[k]? = W.heap[k]?) ∧ W'.heap[B]? = W.heap[B]? ∧ W'.heap[B + 1]? = W.heap[B + 1]?
theorem Stay.refl (n B : Nat) (W : World) : Stay n B W W := ⟨fun _ _ => rfl,rfl,rfl⟩
theorem Stay.trans {n B : Nat} {X Y Z : World} (h : Stay n B X Y) (k : Stay n B Y Z) : Stay n B X Z := ⟨fun i hi => (k.1 i hi).trans (h.1 i hi),k.2.1.trans h.2.1,k.2.2.trans h.2.2⟩
theorem Stay.put {n B : Nat} {w : World} (hn : n ≤ w.heap.size) (hB : B + 1 < w.heap.size) (W : World) (l : Nat) (o o' : Obj) (hl : w.heap.size ≤ l) (_ : W.heap[l]? = some o) (_ : o.isCells = false) (_ : o.isWalk = false) : Stay n B W (W.putObj l o') :=
 ⟨fun k hk => World.putObj_heap_other (by omega),World.putObj_heap_other (by omega),World.putObj_heap_other (by omega)⟩
theorem Stay.box {n B : Nat} {W W' : World} {v : Value} (h : Stay n B W W') (hc : W.cell? ⟨B,0,none⟩ = some v) : W'.cell? ⟨B,0,none⟩ = some v := (World.cell?_of_block (a := ⟨B,0,none⟩) h.2.1).trans hc
theorem Stay.box1 {n B : Nat} {W W' : World} {v : Value} (h : Stay n B W W') (hc : W.cell? ⟨B + 1,0,none⟩ = some v) : W'.cell? ⟨B + 1,0,none⟩ = some v := (World.cell?_of_block (a := ⟨B + 1,0,none⟩) h.2.2).trans hc
def At (n : Nat) (w : World) (a : Option Addr) (l : List Int) : Prop :=
 l = [] ∨ ∃ b off,a = some ⟨b,off,none⟩ ∧ b < n ∧ ∀ i,i < l.length → w.cell? ⟨b,off + i,none⟩ = some (.int .i64 (l.getD i 0))
theorem At.of {w : World} {a : Option Addr} {l : List Int} (h : IntsAt .i64 w a l) : At w.heap.size w a l := by
 rcases h with rfl | ⟨b,off,rfl,hc⟩
 · exact Or.inl rfl
 · by_cases h0 : 0 < l.length
   · exact Or.inr ⟨b,off,rfl,cell_lt (hc 0 h0),hc⟩
   · exact Or.inl (List.eq_nil_of_length_eq_zero (by omega))
theorem At.keep {n : Nat} {w W : World} {a : Option Addr} {l : List Int} (h : At n w a l) (hk : ∀ k,k < n → W.heap[k]? = w.heap[k]?) : At n W a l := by
 rcases h with rfl | ⟨b,off,rfl,hb,hc⟩
 · exact Or.inl rfl
 · exact Or.inr ⟨b,off,rfl,hb,fun i hi => (World.cell?_of_block (a := ⟨b,off + i,none⟩) (hk b hb)).trans (hc i hi)⟩
theorem At.below {n : Nat} {w W : World} {a : Option Addr} {l : List Int} (h : At n w a l) (hb : Below n w W) : At n W a l := h.keep (fun k hk => hb.block k hk)
theorem At.get {n : Nat} {w : World} {a : Option Addr} {l : List Int} (h : At n w a l) {k : Nat} (hk : k < l.length) : ∃ b off,a = some ⟨b,off,none⟩ ∧ w.cell? ⟨b,off + k,none⟩ = some (.int .i64 (l.getD k 0)) := by
 rcases h with rfl | ⟨b,off,rfl,_,hc⟩
 · simp at hk
 · exact ⟨b,off,rfl,hc k hk⟩
set_option maxRecDepth 100000 in
set_option maxHeartbeats 2000000 in
theorem weighted1_in (n : Nat) (hn : 1 ≤ n) (l B n₀ ca cb : Nat) (a b : Option Addr) (V U : List Int) (hl : V.length ≤ 4) (hVU : V.length = U.length) (J Jx : List (Fin V.length) → World → Prop)
 (hY : ∀ pre x W,J pre W → pre.length < V.length → YieldAt Fence.wide (n - 1) Tryz.prog l (encp V U x) W fun e W' =>
  (e = .returned (.bool true) ∧ J (pre ++ [x]) W' ∧ Stay n₀ B W W') ∨ (e = .returned (.bool false) ∧ Jx (pre ++ [x]) W'))
 (W : World) (hB1 : W.cell? ⟨B,0,none⟩ = some (.slice a V.length ca)) (hB2 : W.cell? ⟨B + 1,0,none⟩ = some (.slice b U.length cb)) (hV : At n₀ W a V) (hU : At n₀ W b U) (h0 : J [] W) :
 CallsIn Fence.wide n Tryz.prog 232 #[.func (.yield l) #[] #[],.pointer (some ⟨B,0,none⟩),.pointer (some ⟨B + 1,0,none⟩)] W fun e W' => (∃ v,e = .returned v) ∧
  ((∃ ys : List (Fin V.length),ys.map Fin.val = List.range V.length ∧ J ys W') ∨ (∃ pre,True ∧ Jx pre W')) := by
 have HV := Lib.hid hV
 have HU := Lib.hid hU
 clear hV hU
 refine callsIn_of_wp Tryz.func232 rfl trivial ?_ rfl
 simp only [Tryz.ntmps232,List.size_toArray,List.length_cons,List.length_nil,Nat.reduceAdd,Nat.reduceSub,Array.replicate_succ,Array.replicate_zero,List.push_toArray,List.append_toArray,List.nil_append,List.cons_append]
 gi_wp2
 gi_loopw [8] (fun i wr => ∃ (k : Nat) (pre : List (Fin V.length)),k ≤ V.length ∧ i = .int .i64 k ∧ pre.map Fin.val = List.range k ∧ J pre wr ∧ Stay n₀ B W wr)
  (fun i _ => V.length - (intOf i).toNat)
 case atStart => exact ⟨0,[],Nat.zero_le _,rfl,rfl,h0,Stay.refl _ _ _⟩
 case round =>
  obtain ⟨k,pre,hk,rfl,hpre,hJs,hnx⟩ := hrel
  have hlenp : pre.length = k := by have := congrArg List.length hpre; simpa using this
  by_cases hlt : k < V.length
  · obtain ⟨fn,tmps,assign,body,hy,hYR⟩ := hY pre ⟨k,hlt⟩ wr hJs (by omega)
    dsimp only [encp] at hy
    have hbx := hnx.box hB1
    have hbx1 := hnx.box1 hB2
    obtain ⟨b1,o1,rfl,e1⟩ := (HV.out.keep hnx.1).get hlt
    obtain ⟨b2,o2,rfl,e2⟩ := (HU.out.keep hnx.1).get (show k < U.length by omega)
    have hki : (k : Int) < (V.length : Int) := by omega
    have hki2 : (k : Int) < (U.length : Int) := by omega
    have hk2 : k < U.length := by omega
    generalize V.getD k 0 = x at *
    generalize U.getD k 0 = y at *
    gi_wp2
    refine hYR.mono ?_
    rintro e W3 (⟨rfl,hJ3,hk3⟩ | ⟨rfl,hJx3⟩)
    · gi_wp2
      go_roundw
      case rel => exact ⟨k + 1,pre ++ [⟨k,hlt⟩],by omega,by simp,by rw [List.map_append,hpre,List.range_succ]; rfl,hJ3,hnx.trans hk3⟩
      case measure => simp [intOf]; omega
    · gi_wp2
      refine bodyPost_ret (results_none rfl _ _ _) rfl ?_
      exact ⟨⟨_,rfl⟩,.inr ⟨_,trivial,hJx3⟩⟩
  · obtain rfl : k = V.length := by omega
    gi_wp2
    go_end0
    exact ⟨⟨_,rfl⟩,.inl ⟨pre,hpre,hJs⟩⟩
theorem weighted_stops (n : Nat) (hn : 1 ≤ n) (B n₀ ca cb : Nat) (a b : Option Addr) (V U : List Int) (hl : V.length ≤ 4) (hVU : V.length = U.length) (w : World) (hn₀ : n₀ ≤ w.heap.size) (hB : B + 1 < w.heap.size)
 (hB1 : w.cell? ⟨B,0,none⟩ = some (.slice a V.length ca)) (hB2 : w.cell? ⟨B + 1,0,none⟩ = some (.slice b U.length cb)) (hV : At n₀ w a V) (hU : At n₀ w b U) :
 SeqStopsK Fence.wide n Tryz.prog 232 #[.pointer (some ⟨B,0,none⟩),.pointer (some ⟨B + 1,0,none⟩)] (encp V U) (Stay n₀ B) (fun ys => ys.map Fin.val = List.range V.length) (fun _ => True) V.length w := fun l J Jx W hW _ _ hY h0 =>
 weighted1_in n hn l B n₀ ca cb a b V U hl hVU J Jx hY W ((hW.cell (p := ⟨B,0,none⟩) (show B < w.heap.size by omega)).trans hB1) ((hW.cell (p := ⟨B + 1,0,none⟩) hB).trans hB2) (hV.below (hW.mono hn₀)) (hU.below (hW.mono hn₀)) h0
theorem weighted_any (a b : Option Addr) (la lb ca cb : Nat) (w : World) :
 Calls Tryz.prog 222 #[.slice a la ca,.slice b lb cb] w fun e w' => e = .returned (.func (.func 232) #[] #[.pointer (some ⟨w.heap.size,0,none⟩),.pointer (some ⟨w.heap.size + 1,0,none⟩)]) ∧
  w' = (w.alloc (.cells #[.slice a la ca] 144)).alloc (.cells #[.slice b lb cb] 144) := by
 go_enter Tryz.func222,Tryz.ntmps222
 go_wp2
 go_ret
 exact ⟨rfl,rfl⟩
end Vo
namespace Vo
open Fx Od
attribute [local go_sem] Oper.semAt_some
set_option maxRecDepth 100000 in
set_option maxHeartbeats 2000000 in
theorem fit_len (a b : Option Addr) (ca cb : Nat) (V U : List Int) (w : World) (hne : ¬ V.length = U.length) :
 Calls Tryz.prog 201 #[.slice a V.length ca,.slice b U.length cb] w fun e w' => e = .returned (.bool (fits V U)) ∧ Below w.heap.size w w' := by
 have HF := Lib.hid (fits_len hne)
 have d0 : ((V.length : Int) != (U.length : Int)) = true := by simp; omega
 have hc := (Boxed.new w 4 (.bool false)).cell
 refine (callsIn_wide (n := 5)).1 ?_
 refine callsIn_of_wp_marks Tryz.func201 rfl trivial ?_ rfl
 simp only [Tryz.ntmps201,List.size_toArray,List.length_cons,List.length_nil,Nat.reduceAdd,Nat.reduceSub,Array.replicate_succ,Array.replicate_zero,List.push_toArray,List.append_toArray,List.nil_append,List.cons_append]
 gi_wp2
 exact ⟨.bool false,by simp [results,Tryz.f201,go_sem,hc],ret_bool HF.out.symm,(Below.refl w.heap.size w).alloc (Nat.le_refl _) _⟩
theorem okk_all {V U : List Int} {ys : List (Fin V.length)} (h : ys.map Fin.val = List.range V.length) (hy : ∀ y ∈ ys,okp (V.getD y.val 0) (U.getD y.val 0) = true) : okk V U V.length = true :=
 okk_of fun k hk => by
  have : k ∈ ys.map Fin.val := by rw [h]; exact List.mem_range.2 hk
  obtain ⟨y,hm,rfl⟩ := List.mem_map.1 this
  exact hy y hm
set_option maxRecDepth 100000 in
set_option maxHeartbeats 2000000 in
theorem fit_eq (a b : Option Addr) (ca cb : Nat) (V U : List Int) (w : World) (hl : V.length ≤ 4) (he : V.length = U.length) (hV : IntsAt .i64 w a V) (hU : IntsAt .i64 w b U) :
 Calls Tryz.prog 201 #[.slice a V.length ca,.slice b U.length cb] w fun e w' => e = .returned (.bool (fits V U)) ∧ Below w.heap.size w w' := by
 have HF := Lib.hid (fits_eq he)
 have HV := Lib.hid (At.of hV)
 have HU := Lib.hid (At.of hU)
 clear hV hU
 have d0 : ((V.length : Int) != (U.length : Int)) = false := by simp; omega
 have HE := Lib.hid he
 clear he
 refine (callsIn_wide (n := 5)).1 ?_
 refine callsIn_of_wp_marks Tryz.func201 rfl trivial ?_ rfl
 simp only [Tryz.ntmps201,List.size_toArray,List.length_cons,List.length_nil,Nat.reduceAdd,Nat.reduceSub,Array.replicate_succ,Array.replicate_zero,List.push_toArray,List.append_toArray,List.nil_append,List.cons_append]
 gi_wp2_with (refine ⟨trivial,?_⟩; gi_at_call 222; refine (callsIn_wide.2 (weighted_any _ _ _ _ _ _ _)).mono ?_; rintro e w2 ⟨rfl,rfl⟩)
 have bR := ((Boxed.new w 4 (.bool false)).alloc (.cells #[.slice a V.length ca] 144)).alloc (.cells #[.slice b U.length cb] 144)
 have b1 := (Boxed.new (w.alloc (.cells #[.bool false] 4)) 144 (.slice a V.length ca)).alloc (.cells #[.slice b U.length cb] 144)
 have b2 := Boxed.new ((w.alloc (.cells #[.bool false] 4)).alloc (.cells #[.slice a V.length ca] 144)) 144 (.slice b U.length cb)
 rw [World.size_alloc] at b1
 rw [World.size_alloc,World.size_alloc] at b2
 have hB0 := (((Below.refl w.heap.size w).alloc (Nat.le_refl _) (.cells #[.bool false] 4)).alloc (by simp) (.cells #[.slice a V.length ca] 144)).alloc (by simp; omega) (.cells #[.slice b U.length cb] 144)
 have hsz : (((w.alloc (.cells #[.bool false] 4)).alloc (.cells #[.slice a V.length ca] 144)).alloc (.cells #[.slice b U.length cb] 144)).heap.size = w.heap.size + 3 := by simp
 generalize ((w.alloc (.cells #[.bool false] 4)).alloc (.cells #[.slice a V.length ca] 144)).alloc (.cells #[.slice b U.length cb] 144) = W0 at *
 refine wpIn_rangeFunc_ownG rfl (by omega) (gf := 232) (lb := #[.pointer (some ⟨w.heap.size + 1,0,none⟩),.pointer (some ⟨w.heap.size + 1 + 1,0,none⟩)]) rfl trivial (enters_of Tryz.func232 (by kernel_rfl) rfl)
  (weighted_stops _ (by omega) (w.heap.size + 1) w.heap.size ca cb a b V U hl HE.out W0 (by omega) (by omega) b1.cell b2.cell (HV.out.below hB0) (HU.out.below hB0)) Stay.trans (Stay.put (by omega) (by omega)) (Below.refl _ _) (fun _ => rfl)
  (fun pre W => ((∀ y ∈ pre,okp (V.getD y.val 0) (U.getD y.val 0) = true) ∧ Boxed W w.heap.size 4 (.bool false)) ∧ Below w.heap.size w W)
  (fun c _ W => (((c = .ret) ∧ okk V U V.length = false) ∧ Boxed W w.heap.size 4 (.bool false)) ∧ Below w.heap.size w W)
  (OwnFrom.and (OwnFrom.and (ownFrom_pure _ _) (Own.from (boxed_own _ _ _) _)) (ownFrom_below (Nat.le_refl _) (by omega)))
  (fun c => OwnFrom.and (OwnFrom.and (ownFrom_pure _ _) (Own.from (boxed_own _ _ _) _)) (ownFrom_below (Nat.le_refl _) (by omega)))
  ⟨⟨by simp,bR⟩,hB0⟩
  (fun x => { tmps := #[.slice a V.length ca,.slice b U.length cb,undef,undef,.pointer (some ⟨w.heap.size,0,none⟩),.int .i64 (V.getD x.val 0),.int .i64 (U.getD x.val 0),.slice a V.length ca,.int .i64 V.length,.slice b U.length cb,.int .i64 U.length,.bool false,.slice a V.length ca,.slice b U.length cb,.func (.func 232) #[] #[.pointer (some ⟨w.heap.size + 1,0,none⟩),.pointer (some ⟨w.heap.size + 1 + 1,0,none⟩)],.int .i64 (V.getD x.val 0),.int .i64 (U.getD x.val 0),undef,undef,undef,undef,undef,undef,undef,undef],defers := [] }) ?assign ?body ?done ?stop
 case assign =>
  intro l x W K hK
  dsimp only [encp]
  generalize V.getD x.val 0 = vx at *
  generalize U.getD x.val 0 = ux at *
  gi_wp2
  exact hK
 case body =>
  rintro lp pre x W ⟨⟨hp,hbx⟩,hB⟩ _
  have HP := Lib.hid hp
  have HX := Lib.hid (fun h => okk_no (V := V) (U := U) x.isLt h)
  have HY := Lib.hid (fun (h : okp (V.getD x.val 0) (U.getD x.val 0) = true) y (hy : y ∈ pre ++ [x]) => (show okp (V.getD y.val 0) (U.getD y.val 0) = true from by
   rcases List.mem_append.1 hy with q | q
   · exact hp y q
   · rw [List.mem_singleton.1 q]; exact h))
  have HO := Lib.hid (show okp (V.getD x.val 0) (U.getD x.val 0) = (inr (-4294967296) 4294967296 (V.getD x.val 0) && inr 1 16 (U.getD x.val 0)) from rfl)
  have hbc := hbx.cell
  have hbf := hbx.frozen
  have HBx := Lib.hid hbx
  have HB := Lib.hid hB
  clear hp hbx hB
  generalize okp (V.getD x.val 0) (U.getD x.val 0) = ok at *
  generalize V.getD x.val 0 = vx at *
  generalize U.getD x.val 0 = ux at *
  cases d1 : inr (-4294967296) 4294967296 vx <;> cases d2 : inr 1 16 ux
  all_goals
   rw [d1,d2] at HO
   have D1 := Lib.hid d1
   have D2 := Lib.hid d2
   clear d1 d2
   gi_wp2_with (first | (refine ⟨trivial,?_⟩; gi_at_call 221; refine (CallsIn.inRound lp (callsIn_wide.2 (vwithin_eq _ _ _ _ _ (by first | exact D1.out | exact D2.out)))).mono ?_; rintro e w' ⟨rfl,rfl⟩) | (refine ⟨trivial,?_⟩))
   first
    | exact ⟨KeepsFrom.refl _ _,Stay.refl _ _ _,⟨HY.out HO.out,HBx.out⟩,HB.out⟩
    | exact ⟨(KeepsOthers.setCell _ _ _).from _,⟨⟨rfl,HX.out HO.out⟩,HBx.out.set _⟩,HB.out.setCell (p := ⟨w.heap.size,0,none⟩) (Nat.le_refl _) _⟩
 case done =>
  rintro D ys W hD hys ⟨⟨hp,hbx⟩,hB⟩ hK
  have HT := Lib.hid (okk_all hys hp)
  have hbc := hbx.cell
  have hbf := hbx.frozen
  gi_wp2
  have hK' := (KeepsOthers.setCell W ⟨w.heap.size,0,none⟩ (.bool true)).same D _ hK rfl
  refine ⟨by simp,.inl ⟨_,_,rfl,run_takeDeferred hK',?_⟩⟩
  have hc := (((hbx.set (.bool true)).kept (grownBy_putObj' _ D (.deferred none)) (by simp; omega))).cell
  exact ⟨.bool true,by simp [results,Tryz.f201,go_sem,hc],ret_bool (by rw [HF.out,HT.out]),
   (hB.setCell (p := ⟨w.heap.size,0,none⟩) (Nat.le_refl _) _).trans (belowK_b (w := w) (Nat.le_refl _) _ D _ _ (by omega) hK' rfl rfl)⟩
 case stop =>
  rintro D c pre W hD _ ⟨⟨⟨rfl,hno⟩,hbx⟩,hB⟩ hK
  gi_wp2
  refine ⟨by simp,.inl ⟨_,_,rfl,run_takeDeferred hK,?_⟩⟩
  have hc := (hbx.kept (grownBy_putObj' _ D (.deferred none)) (by simp; omega)).cell
  exact ⟨.bool false,by simp [results,Tryz.f201,go_sem,hc],ret_bool (by rw [HF.out,hno]),
   hB.trans (belowK_b (w := w) (Nat.le_refl _) W D _ _ (by omega) hK rfl rfl)⟩
end Vo
namespace Vo
open Fx Od
attribute [local go_sem] Oper.semAt_some
def sumf (mid clip : Int) (V U : List Int) (l : List Nat) : Int := (l.map fun k => U.getD k 0 * cl mid clip (V.getD k 0)).sum
def allf (U : List Int) (l : List Nat) : Int := (l.map fun k => U.getD k 0).sum
theorem sumf_snoc (mid clip : Int) (V U : List Int) (l : List Nat) (k : Nat) : sumf mid clip V U (l ++ [k]) = sumf mid clip V U l + U.getD k 0 * cl mid clip (V.getD k 0) := by unfold sumf; simp
theorem allf_snoc (U : List Int) (l : List Nat) (k : Nat) : allf U (l ++ [k]) = allf U l + U.getD k 0 := by unfold allf; simp
theorem sumf_all (mid clip : Int) (V U : List Int) (n : Nat) : sumf mid clip V U (List.range n) = sumk mid clip V U n := by
 induction n with
 | zero => rfl
 | succ n ih => rw [List.range_succ,sumf_snoc,ih]; rfl
theorem allf_all (U : List Int) (n : Nat) : allf U (List.range n) = allk U n := by
 induction n with
 | zero => rfl
 | succ n ih => rw [List.range_succ,allf_snoc,ih]; rfl
theorem sumf_bd {mid clip : Int} {V U : List Int} (M : Mid mid clip V U) (l : List (Fin V.length)) : -(103079215104 * (l.length : Int)) ≤ sumf mid clip V U (l.map Fin.val) ∧ sumf mid clip V U (l.map Fin.val) ≤ 103079215104 * l.length := by
 induction l with
 | nil => simp [sumf]
 | cons x t ih =>
   have h := part_sm M x.isLt
   have e : sumf mid clip V U ((x :: t).map Fin.val) = U.getD x.val 0 * cl mid clip (V.getD x.val 0) + sumf mid clip V U (t.map Fin.val) := by unfold sumf; simp
   rw [e,List.length_cons]
   generalize U.getD x.val 0 * cl mid clip (V.getD x.val 0) = p at *
   omega
theorem allf_bd {mid clip : Int} {V U : List Int} (M : Mid mid clip V U) (l : List (Fin V.length)) : 0 ≤ allf U (l.map Fin.val) ∧ allf U (l.map Fin.val) ≤ 16 * l.length := by
 induction l with
 | nil => simp [allf]
 | cons x t ih =>
   have h := M.u x.isLt
   have e : allf U ((x :: t).map Fin.val) = U.getD x.val 0 + allf U (t.map Fin.val) := by unfold allf; simp
   rw [e,List.length_cons]
   omega
theorem six (w : World) (t u : TypeId) (v1 v2 v3 v4 v5 v6 : Value) (W : World) (h : W = (((((w.alloc (.cells #[v1] t)).alloc (.cells #[v2] t)).alloc (.cells #[v3] t)).alloc (.cells #[v4] t)).alloc (.cells #[v5] u)).alloc (.cells #[v6] u)) :
 (Boxed W w.heap.size t v1 ∧ Boxed W (w.heap.size + 1) t v2 ∧ Boxed W (w.heap.size + 2) t v3 ∧ Boxed W (w.heap.size + 3) t v4) ∧ (Boxed W (w.heap.size + 4) u v5 ∧ Boxed W (w.heap.size + 4 + 1) u v6) ∧ Below w.heap.size w W ∧ W.heap.size = w.heap.size + 6 := by
 have hb : Below w.heap.size w W := by
  rw [h]
  exact ((((((Below.refl w.heap.size w).alloc (Nat.le_refl _) _).alloc (by simp) _).alloc (by simp; omega) _).alloc (by simp; omega) _).alloc (by simp; omega) _).alloc (by simp; omega) _
 subst h
 have s (X : World) (n : Nat) (y : TypeId) (v : Value) (hX : X.heap.size = n) : Boxed (X.alloc (.cells #[v] y)) n y v := hX ▸ Boxed.new X y v
 refine ⟨⟨?_,?_,?_,?_⟩,⟨?_,?_⟩,hb,by simp⟩
 · exact (((((s _ _ _ _ (by simp)).alloc _).alloc _).alloc _).alloc _).alloc _
 · exact ((((s _ _ _ _ (by simp)).alloc _).alloc _).alloc _).alloc _
 · exact (((s _ _ _ _ (by simp)).alloc _).alloc _).alloc _
 · exact ((s _ _ _ _ (by simp)).alloc _).alloc _
 · exact (s _ _ _ _ (by simp)).alloc _
 · exact s _ _ _ _ (by simp)
theorem set_other (W : World) (b k : Nat) (v : Value) (h : k ≠ b) : (W.setCell ⟨b,0,none⟩ v).heap[k]? = W.heap[k]? := heap_setCell_other W ⟨b,0,none⟩ k v h
theorem added {w W : World} {t : TypeId} {m c s z : Value} (s' z' : Value) (n : Nat) (h : (Boxed W w.heap.size t m ∧ Boxed W (w.heap.size + 1) t c) ∧ (Boxed W (w.heap.size + 2) t s ∧ Boxed W (w.heap.size + 3) t z)) (hb : Below w.heap.size w W) :
 KeepsFrom n W ((W.setCell ⟨w.heap.size + 2,0,none⟩ s').setCell ⟨w.heap.size + 3,0,none⟩ z').drew ∧ Stay w.heap.size (w.heap.size + 4) W ((W.setCell ⟨w.heap.size + 2,0,none⟩ s').setCell ⟨w.heap.size + 3,0,none⟩ z').drew ∧
  ((Boxed ((W.setCell ⟨w.heap.size + 2,0,none⟩ s').setCell ⟨w.heap.size + 3,0,none⟩ z').drew w.heap.size t m ∧ Boxed ((W.setCell ⟨w.heap.size + 2,0,none⟩ s').setCell ⟨w.heap.size + 3,0,none⟩ z').drew (w.heap.size + 1) t c) ∧
    (Boxed ((W.setCell ⟨w.heap.size + 2,0,none⟩ s').setCell ⟨w.heap.size + 3,0,none⟩ z').drew (w.heap.size + 2) t s' ∧ Boxed ((W.setCell ⟨w.heap.size + 2,0,none⟩ s').setCell ⟨w.heap.size + 3,0,none⟩ z').drew (w.heap.size + 3) t z')) ∧
  Below w.heap.size w ((W.setCell ⟨w.heap.size + 2,0,none⟩ s').setCell ⟨w.heap.size + 3,0,none⟩ z').drew := by
 have o (k : Nat) (h2 : k ≠ w.heap.size + 2) (h3 : k ≠ w.heap.size + 3) : ((W.setCell ⟨w.heap.size + 2,0,none⟩ s').setCell ⟨w.heap.size + 3,0,none⟩ z').drew.heap[k]? = W.heap[k]? := (set_other _ _ k z' h3).trans (set_other W _ k s' h2)
 refine ⟨(((KeepsOthers.setCell _ _ _).trans (KeepsOthers.setCell _ _ _)).trans (KeepsOthers.drew _)).from _,⟨fun k hk => o k (by omega) (by omega),o _ (by omega) (by omega),o _ (by omega) (by omega)⟩,⟨⟨?_,?_⟩,?_,?_⟩,?_⟩
 · exact (o _ (by omega) (by omega)).trans h.1.1
 · exact (o _ (by omega) (by omega)).trans h.1.2
 · exact (h.2.1.set s').other (show w.heap.size + 2 ≠ w.heap.size + 3 by omega) z'
 · exact (h.2.2.other (show w.heap.size + 3 ≠ w.heap.size + 2 by omega) s').set z'
 · exact ((hb.setCell (p := ⟨w.heap.size + 2,0,none⟩) (Nat.le_add_right _ _) s').setCell (p := ⟨w.heap.size + 3,0,none⟩) (Nat.le_add_right _ _) z').drew
set_option maxRecDepth 100000 in
set_option maxHeartbeats 2000000 in
theorem mean_any (mid clip : Int) (a b : Option Addr) (ca cb : Nat) (V U : List Int) (w : World) (M : Mid mid clip V U) (hV : IntsAt .i64 w a V) (hU : IntsAt .i64 w b U) :
 Calls Tryz.prog 203 #[.int .i64 mid,.int .i64 clip,.slice a V.length ca,.slice b U.length cb] w fun e w' => e = .returned (.int .i64 (meanv mid clip V U)) ∧ Below w.heap.size w w' := by
 have HM := Lib.hid M
 have HV := Lib.hid (At.of hV)
 have HU := Lib.hid (At.of hU)
 clear hV hU M
 refine (callsIn_wide (n := 5)).1 ?_
 refine callsIn_of_wp_marks Tryz.func203 rfl trivial ?_ rfl
 simp only [Tryz.ntmps203,List.size_toArray,List.length_cons,List.length_nil,Nat.reduceAdd,Nat.reduceSub,Array.replicate_succ,Array.replicate_zero,List.push_toArray,List.append_toArray,List.nil_append,List.cons_append]
 gi_wp2_with (refine ⟨trivial,?_⟩; gi_at_call 222; refine (callsIn_wide.2 (weighted_any _ _ _ _ _ _ _)).mono ?_; rintro e w2 ⟨rfl,rfl⟩)
 obtain ⟨⟨bM,bC,bS,bA⟩,⟨b1,b2⟩,hB0,hsz⟩ := six w 3 144 (.int .i64 mid) (.int .i64 clip) (.int .i64 0) (.int .i64 0) (.slice a V.length ca) (.slice b U.length cb) _ rfl
 generalize (((((w.alloc (.cells #[.int .i64 mid] 3)).alloc (.cells #[.int .i64 clip] 3)).alloc (.cells #[.int .i64 0] 3)).alloc (.cells #[.int .i64 0] 3)).alloc (.cells #[.slice a V.length ca] 144)).alloc (.cells #[.slice b U.length cb] 144) = W0 at *
 simp only [Nat.add_assoc,Nat.reduceAdd] at b2 ⊢
 refine wpIn_rangeFunc_ownG rfl (by omega) (gf := 232) (lb := #[.pointer (some ⟨w.heap.size + 4,0,none⟩),.pointer (some ⟨w.heap.size + 5,0,none⟩)]) rfl trivial (enters_of Tryz.func232 (by kernel_rfl) rfl)
  (weighted_stops _ (by omega) (w.heap.size + 4) w.heap.size ca cb a b V U (by have := HM.out.n4; omega) HM.out.len W0 (by omega) (by omega) b1.cell b2.cell (HV.out.below hB0) (HU.out.below hB0)) Stay.trans (Stay.put (by omega) (by omega)) (Below.refl _ _) (fun _ => rfl)
  (fun pre W => ((Boxed W w.heap.size 3 (.int .i64 mid) ∧ Boxed W (w.heap.size + 1) 3 (.int .i64 clip)) ∧ (Boxed W (w.heap.size + 2) 3 (.int .i64 (sumf mid clip V U (pre.map Fin.val))) ∧ Boxed W (w.heap.size + 3) 3 (.int .i64 (allf U (pre.map Fin.val))))) ∧ Below w.heap.size w W)
  (fun _ _ _ => False)
  (OwnFrom.and (OwnFrom.and (OwnFrom.and (Own.from (boxed_own _ _ _) _) (Own.from (boxed_own _ _ _) _)) (OwnFrom.and (Own.from (boxed_own _ _ _) _) (Own.from (boxed_own _ _ _) _))) (ownFrom_below (Nat.le_refl _) (by omega)))
  (fun _ _ _ _ _ hs _ _ => hs)
  ⟨⟨⟨bM,bC⟩,⟨bS,bA⟩⟩,hB0⟩
  (fun x => { tmps := #[.int .i64 mid,.int .i64 clip,.slice a V.length ca,.slice b U.length cb,.pointer (some ⟨w.heap.size,0,none⟩),.pointer (some ⟨w.heap.size + 1,0,none⟩),undef,undef,.int .i64 0,.pointer (some ⟨w.heap.size + 2,0,none⟩),.pointer (some ⟨w.heap.size + 3,0,none⟩),.int .i64 (V.getD x.val 0),.int .i64 (U.getD x.val 0),.slice a V.length ca,.slice b U.length cb,.func (.func 232) #[] #[.pointer (some ⟨w.heap.size + 4,0,none⟩),.pointer (some ⟨w.heap.size + 5,0,none⟩)],.int .i64 (V.getD x.val 0),.int .i64 (U.getD x.val 0),undef,undef,undef,undef,undef,undef,undef,undef,undef,undef,undef,undef,undef,undef,undef,undef,undef,undef],defers := [] }) ?assign ?body ?done ?stop
 case assign =>
  intro l x W K hK
  dsimp only [encp]
  generalize V.getD x.val 0 = vx at *
  generalize U.getD x.val 0 = ux at *
  gi_wp2
  exact hK
 case body =>
  rintro lp pre x W ⟨⟨⟨hbM,hbC⟩,⟨hbS,hbA⟩⟩,hB⟩ hpl
  have M := HM.out
  have HS := Lib.hid (show sumf mid clip V U ((pre ++ [x]).map Fin.val) = sumf mid clip V U (pre.map Fin.val) + U.getD x.val 0 * cl mid clip (V.getD x.val 0) by rw [List.map_append]; exact sumf_snoc _ _ _ _ _ _)
  have HA := Lib.hid (show allf U ((pre ++ [x]).map Fin.val) = allf U (pre.map Fin.val) + U.getD x.val 0 by rw [List.map_append]; exact allf_snoc _ _ _)
  have q1 := sumf_bd M pre
  have q2 := allf_bd M pre
  have q3 := part_sm M x.isLt
  have q4 := M.u x.isLt
  have q5 := cl_bd (mid := mid) M.c1 (V.getD x.val 0)
  have CC := fun W => clamp_any (V.getD x.val 0) (mid - clip) (mid + clip) W
  rw [cl_clamp M x.isLt] at CC
  have n4 := M.n4
  have m1 := M.m1
  have m2 := M.m2
  have c1 := M.c1
  have c2 := M.c2
  clear M
  generalize sumf mid clip V U (pre.map Fin.val) = s at *
  generalize allf U (pre.map Fin.val) = z at *
  generalize cl mid clip (V.getD x.val 0) = c at *
  generalize V.getD x.val 0 = vx at *
  generalize U.getD x.val 0 = ux at *
  have cM := hbM.cell
  have cC := hbC.cell
  have cS := hbS.cell
  have fS := hbS.frozen
  have fA := (hbA.other (show w.heap.size + 3 ≠ w.heap.size + 2 by omega) (.int .i64 (s + ux * c))).frozen
  have cA := (hbA.other (show w.heap.size + 3 ≠ w.heap.size + 2 by omega) (.int .i64 (s + ux * c))).cell
  have X1 := Lib.hid (And.intro (And.intro hbM hbC) (And.intro hbS hbA))
  have HB := Lib.hid hB
  clear hbM hbC hbS hbA hB
  gi_wp2
  refine Rn.wpIn_region_quiet_tail 12 (by kernel_rfl) (by kernel_rfl) (by kernel_rfl) (by rintro ⟨_,_,h⟩; exact h) ?_
  simp only [List.take_succ_cons,List.take_zero,List.drop_succ_cons,List.drop_zero]
  repeat (first | go_big_quiet_step (fail) | (go_big_quiet_want; go_big_quiet_op; refine ⟨_,(CC _).mono (fun e w' q => ⟨q.1,q.2.symm⟩),?_⟩; go_big_quiet_on))
  refine wpQuiet_nil ?_
  go_wp2_with fail
  gi_wp2
  have E := added (.int .i64 (s + ux * c)) (.int .i64 (z + ux)) W0.heap.size X1.out HB.out
  rw [← HS.out,← HA.out] at E
  rw [← HS.out,← HA.out]
  exact E
 case done =>
  rintro D ys W hD hys ⟨⟨⟨hbM,hbC⟩,⟨hbS,hbA⟩⟩,hB⟩ hK
  rw [hys,sumf_all] at hbS
  rw [hys,allf_all] at hbA
  have CF := fun W => floor_any (sumk mid clip V U V.length) (allk U V.length) W
  rw [mean_floor HM.out] at CF
  have cS := hbS.cell
  have cA := hbA.cell
  clear hbM hbC hbS hbA
  generalize sumk mid clip V U V.length = s at *
  generalize allk U V.length = z at *
  gi_wp2_with (refine ⟨trivial,?_⟩; gi_at_call 224; refine (callsIn_wide.2 (CF _)).mono ?_; rintro e w2 ⟨rfl,rfl⟩)
  refine ⟨by simp,.inl ⟨_,_,rfl,run_takeDeferred hK,?_⟩⟩
  refine ⟨_,results_tmp rfl _ _ _,rfl,hB.trans (belowK_b (w := w) (Nat.le_refl _) W D _ _ (by omega) hK rfl rfl)⟩
 case stop =>
  rintro D c pre W _ _ h _
  exact h.elim
end Vo
open Go.ChangeShapes Go.WideShapes Go.ChangeAt Go.RowKit Go.Deep
namespace Vo
open Fx Od
theorem fit_any (a b : Option Addr) (ca cb : Nat) (V U : List Int) (w : World) (hl : V.length ≤ 4) (hV : IntsAt .i64 w a V) (hU : IntsAt .i64 w b U) :
 Calls Tryz.prog 201 #[.slice a V.length ca,.slice b U.length cb] w fun e w' => e = .returned (.bool (fits V U)) ∧ Below w.heap.size w w' := by
 by_cases h : V.length = U.length
 · exact fit_eq a b ca cb V U w hl h hV hU
 · exact fit_len a b ca cb V U w h
def rul (lo hi clip : Int) : List Value := [.int .i64 lo,.int .i64 hi,.int .i64 clip]
theorem rul_new (w : World) (lo hi clip : Int) (t : TypeId) : VRow (w.alloc (.cells #[.int .i64 lo,.int .i64 hi,.int .i64 clip] t)) w.heap.size t (rul lo hi clip) := VRow.new w _ t
theorem rul_cells {w : World} {g : Nat} {t : TypeId} {lo hi clip : Int} (h : VRow w g t (rul lo hi clip)) : w.cell? ⟨g,0,none⟩ = some (.int .i64 lo) ∧ w.cell? ⟨g,1,none⟩ = some (.int .i64 hi) ∧ w.cell? ⟨g,2,none⟩ = some (.int .i64 clip) :=
 ⟨h.cell 0 rfl,h.cell 1 rfl,h.cell 2 rfl⟩
theorem ret_vote {lo hi clip : Int} {V U : List Int} {n : Int} {b : Bool} (h1 : votv lo hi clip V U = n) (h2 : votb lo hi clip V U = b) :
 Ending.returned (.tuple #[.int .i64 n,.bool b]) = .returned (.tuple #[.int .i64 (votv lo hi clip V U),.bool (votb lo hi clip V U)]) := by rw [h1,h2]
set_option maxHeartbeats 1600000 in
theorem vote_no (lo hi clip : Int) (a b : Option Addr) (ca cb : Nat) (V U : List Int) (w : World) (hl : V.length ≤ 9223372036854775807) (hV : IntsAt .i64 w a V) (hU : IntsAt .i64 w b U) (hn : votb lo hi clip V U = false) :
 Calls Tryz.prog 165 #[.agg #[.int .i64 lo,.int .i64 hi,.int .i64 clip],.slice a V.length ca,.slice b U.length cb] w fun e w' => e = .returned (.tuple #[.int .i64 (votv lo hi clip V U),.bool (votb lo hi clip V U)]) ∧ Below w.heap.size w w' := by
 have HF := Lib.hid (ret_vote (votv_no hn) hn).symm
 have B := Lib.hid ((Below.refl w.heap.size w).alloc (Nat.le_refl _) (.cells #[.int .i64 lo,.int .i64 hi,.int .i64 clip] 281))
 have R := Lib.hid (rul_new w lo hi clip 281)
 have HV := Lib.hid hV
 have HU := Lib.hid hU
 clear hV hU
 cases h1 : midb V
 · have C1 := fun W h => mid_any a ca V W hl h
   rw [h1] at C1
   clear h1 hn
   go_enter Tryz.func165,Tryz.ntmps165
   go_wp2_with (go_at_call 162; refine (C1 _ (HV.out.below B.out)).mono ?_; rintro e w1 ⟨rfl,b1⟩; have B1 := Lib.hid (grow B.out b1); clear b1)
   go_ret2
   exact ⟨HF.out.symm,B1.out⟩
 · have h4 := (midb_iff.1 h1).2.2
   cases h2 : rmay lo hi clip
   · have C1 := fun W h => mid_any a ca V W hl h
     have C2 := fun W => vright_any lo hi clip W
     rw [h1] at C1
     rw [h2] at C2
     clear h1 h2 hn h4
     go_enter Tryz.func165,Tryz.ntmps165
     go_wp2_with (first
      | (go_at_call 162; refine (C1 _ (HV.out.below B.out)).mono ?_; rintro e w1 ⟨rfl,b1⟩; have B1 := Lib.hid (grow B.out b1); have cc := rul_cells (R.out.below b1 R.out.lt); clear b1)
      | (go_at_call 200; refine (C2 _).mono ?_; rintro e w2 ⟨rfl,b2⟩; have B2 := Lib.hid (grow B1.out b2); clear b2))
     go_ret2
     exact ⟨HF.out.symm,B2.out⟩
   · have h3 : fits V U = false := by unfold votb at hn; rw [h1,h2] at hn; simpa using hn
     have C1 := fun W h => mid_any a ca V W hl h
     have C2 := fun W => vright_any lo hi clip W
     have C3 := fun W h h' => fit_any a b ca cb V U W h4 h h'
     rw [h1] at C1
     rw [h2] at C2
     rw [h3] at C3
     clear h1 h2 h3 hn h4
     go_enter Tryz.func165,Tryz.ntmps165
     go_wp2_with (first
      | (go_at_call 162; refine (C1 _ (HV.out.below B.out)).mono ?_; rintro e w1 ⟨rfl,b1⟩; have B1 := Lib.hid (grow B.out b1); have cc := rul_cells (R.out.below b1 R.out.lt); clear b1)
      | (go_at_call 200; refine (C2 _).mono ?_; rintro e w2 ⟨rfl,b2⟩; have B2 := Lib.hid (grow B1.out b2); clear b2)
      | (go_at_call 201; refine (C3 _ (HV.out.below B2.out) (HU.out.below B2.out)).mono ?_; rintro e w3 ⟨rfl,b3⟩; have B3 := Lib.hid (grow B2.out b3); clear b3))
     go_ret2
     exact ⟨HF.out.symm,B3.out⟩
set_option maxHeartbeats 1600000 in
theorem vote_yes (lo hi clip : Int) (a b : Option Addr) (ca cb : Nat) (V U : List Int) (w : World) (hl : V.length ≤ 9223372036854775807) (hV : IntsAt .i64 w a V) (hU : IntsAt .i64 w b U) (hy : votb lo hi clip V U = true) :
 Calls Tryz.prog 165 #[.agg #[.int .i64 lo,.int .i64 hi,.int .i64 clip],.slice a V.length ca,.slice b U.length cb] w fun e w' => e = .returned (.tuple #[.int .i64 (votv lo hi clip V U),.bool (votb lo hi clip V U)]) ∧ Below w.heap.size w w' := by
 obtain ⟨h1,h2,h3⟩ := votb_iff.1 hy
 have h4 := (midb_iff.1 h1).2.2
 have M := votb_mid hy
 have HF := Lib.hid (ret_vote ((votv_yes hy).trans (mean_clamp M h2).symm) hy).symm
 have B := Lib.hid ((Below.refl w.heap.size w).alloc (Nat.le_refl _) (.cells #[.int .i64 lo,.int .i64 hi,.int .i64 clip] 281))
 have R := Lib.hid (rul_new w lo hi clip 281)
 have HV := Lib.hid hV
 have HU := Lib.hid hU
 have C1 := fun W h => mid_any a ca V W hl h
 have C2 := fun W => vright_any lo hi clip W
 have C3 := fun W h h' => fit_any a b ca cb V U W h4 h h'
 rw [h1] at C1
 rw [h2] at C2
 rw [h3] at C3
 have CM := fun W h h' => mean_any (midv V) clip a b ca cb V U W M h h'
 clear hV hU hy h1 h2 h3 h4 M
 generalize midv V = mid at *
 generalize meanv mid clip V U = m at *
 have CL := fun W => clamp_any m lo hi W
 generalize clamp m lo hi = r at *
 go_enter Tryz.func165,Tryz.ntmps165
 go_wp2_with (first
  | (go_at_call 162; refine (C1 _ (HV.out.below B.out)).mono ?_; rintro e w1 ⟨rfl,b1⟩; have B1 := Lib.hid (grow B.out b1); have R1 := Lib.hid (R.out.below b1 R.out.lt); have cc := rul_cells R1.out; clear b1)
  | (go_at_call 200; refine (C2 _).mono ?_; rintro e w2 ⟨rfl,b2⟩; have B2 := Lib.hid (grow B1.out b2); have R2 := Lib.hid (R1.out.below b2 R1.out.lt); clear b2)
  | (go_at_call 201; refine (C3 _ (HV.out.below B2.out) (HU.out.below B2.out)).mono ?_; rintro e w3 ⟨rfl,b3⟩; have B3 := Lib.hid (grow B2.out b3); have R3 := Lib.hid (R2.out.below b3 R2.out.lt); clear b3))
 have cc3 := rul_cells R3.out
 have c0 := cell_regrown cc3.1
 have c1 := cell_regrown cc3.2.1
 have c2 := cell_regrown cc3.2.2
 have cM := reg_call (w := w3) (fun W hW => CM W ((HV.out.below B3.out).below hW) ((HU.out.below B3.out).below hW))
 have cL := reg_call (w := w3) (fun W _ => (CL W).mono (fun _ _ ⟨h,h'⟩ => ⟨h,h' ▸ Below.refl _ _⟩))
 clear cc cc3 C1 C2 C3 CM CL
 refine wp_region_quiet_below (by kernel_rfl) (by kernel_rfl) ?_
 repeat (go_big_quiet_step (first | exact cM _ _ | exact cL _ _))
 refine wpQuiet_nil ?_
 intro _ hw'
 obtain ⟨⟨dq,osq⟩,hw''⟩ := hw'
 subst hw''
 go_wp2
 go_ret2
 exact ⟨HF.out.symm,grow B3.out (below_regrown w3 dq osq)⟩
theorem vote_any (lo hi clip : Int) (a b : Option Addr) (ca cb : Nat) (V U : List Int) (w : World) (hl : V.length ≤ 9223372036854775807) (hV : IntsAt .i64 w a V) (hU : IntsAt .i64 w b U) :
 Calls Tryz.prog 165 #[.agg #[.int .i64 lo,.int .i64 hi,.int .i64 clip],.slice a V.length ca,.slice b U.length cb] w fun e w' => e = .returned (.tuple #[.int .i64 (votv lo hi clip V U),.bool (votb lo hi clip V U)]) ∧ Below w.heap.size w w' := by
 cases h : votb lo hi clip V U
 · have := vote_no lo hi clip a b ca cb V U w hl hV hU h; rwa [h] at this
 · have := vote_yes lo hi clip a b ca cb V U w hl hV hU h; rwa [h] at this
end Vo
end Go.Proofs.YticidhbnljdidaaGreatDoor
