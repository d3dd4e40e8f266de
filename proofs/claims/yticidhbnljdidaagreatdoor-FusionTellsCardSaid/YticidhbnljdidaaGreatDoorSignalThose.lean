/-
 What those of package signal returns, over each of the four functions that it is handed: contracts by walking the Go text. Conditions: how a signal lies; that the raw values of those that are in may be.
-/
import Derived.Test.YticidhbnljdidaaGreatDoorJSignalEnter2
import Derived.Test.YticidhbnljdidaaGreatDoorJJumpCome7
import Derived.Maps.AppendAt
namespace Go.Proofs.YticidhbnljdidaaGreatDoor
set_option maxRecDepth 100000
open Go.ChangeShapes Go.WideShapes Go.ChangeAt Go.RowKit Go.Deep Go.Shelf
namespace Sg
open Cf (G CA)
open Rf
attribute [local go_sem] Oper.semAt_some
def RetK (w : World) (l : List Int) (e : Ending) (w' : World) : Prop := ∃ a cap,e = .returned (.slice a l.length cap) ∧ (l.length ≤ cap ∧ cap ≤ 9223372036854775807) ∧ IntsAt .i64 w' a l ∧ Below w.heap.size w w'
def ths (m : Int) (v : Nat → Int) (l : List Nat) : List Int := (l.filter fun i : Nat => Fx.has m (i : Int)).map v
theorem ths_yes {m : Int} {v : Nat → Int} {l : List Nat} {i : Nat} (h : Fx.has m i = true) : ths m v (l ++ [i]) = ths m v l ++ [v i] := by unfold ths; rw [List.filter_append]; simp [h]
theorem ths_no {m : Int} {v : Nat → Int} {l : List Nat} {i : Nat} (h : Fx.has m i = false) : ths m v (l ++ [i]) = ths m v l := by unfold ths; rw [List.filter_append]; simp [h]
theorem ths_len (m : Int) (v : Nat → Int) (l : List Nat) : (ths m v l).length ≤ l.length := by unfold ths; rw [List.length_map]; exact List.length_filter_le _ _
theorem owns_grow {base : Nat} {e : TypeId} {n : Nat} {X Y : World} {v : Value} {k : Nat} {xs : List Value} (h : X.ownsRow base e n v k xs) (b : Below X.heap.size X Y) : Y.ownsRow base e n v k xs := by
 rcases h with ⟨hl,⟨rfl,h0⟩ | ⟨g,cap,cur,rfl,hb,hh,q⟩⟩
 · exact ⟨hl,Or.inl ⟨rfl,h0⟩⟩
 · refine ⟨hl,Or.inr ⟨g,cap,cur,rfl,hb,(b.block g ?_).trans hh,q⟩⟩
   rcases Nat.lt_or_ge g X.heap.size with k | k
   · exact k
   · rw [Array.getElem?_eq_none k] at hh; cases hh
theorem keeps_below {X Y : World} (b : Below X.heap.size X Y) : KeepsOthers X Y :=
 ⟨b.size,fun k _ hk _ => (b.block k (Array.getElem?_eq_some_iff.1 hk).1).trans hk⟩
theorem boxed_on {X Y : World} {g : Nat} {t : TypeId} {v : Value} (h : Boxed X g t v) (b : Below X.heap.size X Y) : Boxed Y g t v := (b.block g h.lt).trans h
theorem boxed_row {X Y : World} {g : Nat} {t e : TypeId} {u v : Value} {base n k : Nat} {xs : List Value} (h : Boxed X g t u) (ht : t ≠ e) (hr : X.ownsRow base e n v k xs) (hg : X.grownBy Y v.ownBlock) : Boxed Y g t u := h.kept hg (h.not_row ht hr)
theorem four (w : World) (t1 t2 t3 t4 : TypeId) (v1 v2 v3 v4 : Value) (W : World) (h : W = (((w.alloc (.cells #[v1] t1)).alloc (.cells #[v2] t2)).alloc (.cells #[v3] t3)).alloc (.cells #[v4] t4)) :
 (Boxed W w.heap.size t1 v1 ∧ Boxed W (w.heap.size + 1) t2 v2 ∧ Boxed W (w.heap.size + 1 + 1) t3 v3 ∧ Boxed W (w.heap.size + 1 + 1 + 1) t4 v4) ∧ Below w.heap.size w W ∧ W.heap.size = w.heap.size + 4 := by
 have hb : Below w.heap.size w W := by
  rw [h]
  exact ((((Below.refl w.heap.size w).alloc (Nat.le_refl _) _).alloc (by simp) _).alloc (by simp; omega) _).alloc (by simp; omega) _
 subst h
 have s (X : World) (n : Nat) (y : TypeId) (v : Value) (hX : X.heap.size = n) : Boxed (X.alloc (.cells #[v] y)) n y v := hX ▸ Boxed.new X y v
 refine ⟨⟨?_,?_,?_,?_⟩,hb,by simp⟩
 · exact (((s _ _ _ _ (by simp)).alloc _).alloc _).alloc _
 · exact ((s _ _ _ _ (by simp)).alloc _).alloc _
 · exact (s _ _ _ _ (by simp)).alloc _
 · exact s _ _ _ _ (by simp)
set_option maxRecDepth 100000 in
set_option maxHeartbeats 3200000 in
theorem those_raw {W : World} {b : Nat → Nat} {c : List Int} {s : Si} {u : Nat} {r : Nat → Rw} {sh : Int} {T : Nat → Int} {m : Int} (hc : c.length = 21) (hR : Cf.Right c) (H : Tn W b c s u r sh T m) :
 Calls Tryz.prog 163 #[.pointer (some ⟨u,0,none⟩),.func (.func 157) #[.pointer (some ⟨u,0,none⟩)] #[]] W (RetK W (ths m (fun i => (r i).n) (List.range (NN c)))) := by
 have hN := NN_34 hR
 obtain ⟨i0,hi0,hz0,hz1,hz2⟩ := info_parts Od.intInfo
 have HCF := Lib.hid (fun (Y : World) (HY : Tn Y b c s u r sh T m) (i : Nat) (hi : i < NN c) (hm : Fx.has m i = true) => (show Calls Tryz.prog 157 #[.pointer (some ⟨u,0,none⟩),.int .i64 i] Y fun e w' => e = .returned (.int .i64 ((r i).n)) ∧ Below Y.heap.size Y w' from (raw_any HY i (by omega)).mono fun e w' q => ⟨q.1,q.2 ▸ Below.refl _ _⟩))
 refine (callsIn_wide (n := 5)).1 ?_
 refine callsIn_of_wp_marks Tryz.func163 rfl trivial ?_ rfl
 simp only [Tryz.ntmps163,List.size_toArray,List.length_cons,List.length_nil,Nat.reduceAdd,Nat.reduceSub,Array.replicate_succ,Array.replicate_zero,List.push_toArray,List.append_toArray,List.nil_append,List.cons_append]
 have s0 := cel (.cells #[.slice none 0 0] 144) (cel (.cells #[.func (.func 157) #[.pointer (some ⟨u,0,none⟩)] #[]] 60) (cel (.cells #[.pointer (some ⟨u,0,none⟩)] 234) H.sig))
 gi_wp2_with (refine ⟨trivial,?_⟩; gi_at_call 100; refine (callsIn_wide.2 (all_any _ _)).mono ?_; rintro e w2 ⟨rfl,rfl⟩)
 clear s0
 obtain ⟨⟨z0,z1,z2,z3⟩,hB0,hsz⟩ := four W _ _ _ _ _ _ _ _ _ rfl
 generalize (((W.alloc (.cells #[.pointer (some ⟨u,0,none⟩)] 234)).alloc (.cells #[.func (.func 157) #[.pointer (some ⟨u,0,none⟩)] #[]] 60)).alloc (.cells #[.slice none 0 0] 144)).alloc (.cells #[.pointer (some ⟨b 0,0,none⟩)] 90) = W0 at *
 have H0 := H.on hB0
 have HH := Lib.hid H
 clear H
 have h3 := z3.cell
 obtain ⟨cap0,hrow0⟩ := H0.lie.row hc
 refine range_goes rfl (by omega) (gf := 146) (lb := #[.pointer (some ⟨W.heap.size + 1 + 1 + 1,0,none⟩)]) rfl trivial (enters_of Tryz.func146 (by kernel_rfl) rfl)
  (Kp := Kc (fun p => p.block < W.heap.size) (W0.heap.size + 2))
  (fun V hV hs => all_goes _ (by omega) (W.heap.size + 1 + 1 + 1) (b 0) (b 2) cap0 b (NN c) _ _ (by omega) _ V ((hV.cell (p := ⟨_,0,none⟩) (cell_blk h3)).trans h3) ((hV.cell (p := ⟨_,22,none⟩) (cell_blk hrow0)).trans hrow0) (fun i hi => (H0.on hV).lie.at hi) (fun i => HH.out.lt (.inl ⟨2,by unfold pn; omega,rfl⟩)))
  Kc.trans (fun X k o o' _ h2 h3 h4 => Kc.put h2 h3 h4) (fun _ => by rfl)
  (fun pre X => ((∃ v,Boxed X (W.heap.size + 1 + 1) 144 v ∧ X.ownsRow W.heap.size 3 1 v (ths m (fun i => (r i).n) (pre.map Fin.val)).length (cellsI .i64 (ths m (fun i => (r i).n) (pre.map Fin.val))) ∧ True) ∧ (Boxed X W.heap.size 234 (.pointer (some ⟨u,0,none⟩)) ∧ Boxed X (W.heap.size + 1) 60 (.func (.func 157) #[.pointer (some ⟨u,0,none⟩)] #[]))) ∧ Below W.heap.size W X)
  (fun _ _ _ => False)
  (OwnFrom.and (OwnFrom.and (Own.from (holdsRow_own W.heap.size (W.heap.size + 1 + 1) 144 3 1 (fun pre : List (Fin (NN c)) => (ths m (fun i => (r i).n) (pre.map Fin.val)).length) (fun pre => cellsI .i64 (ths m (fun i => (r i).n) (pre.map Fin.val))) (fun _ _ => True)) _) (OwnFrom.and (own_box _ _ _ _) (own_box _ _ _ _))) (ownFrom_below (Nat.le_refl _) (by omega)))
  (fun _ _ _ _ _ hs _ _ => hs)
  ⟨⟨⟨_,z2,World.ownsRow_nil _ _ _ _,trivial⟩,z0,z1⟩,hB0⟩
  (fun x => { tmps := #[.pointer (some ⟨u,0,none⟩),.func (.func 157) #[.pointer (some ⟨u,0,none⟩)] #[],.pointer (some ⟨W.heap.size,0,none⟩),.pointer (some ⟨W.heap.size + 1,0,none⟩),.slice none 0 0,.pointer (some ⟨W.heap.size + 1 + 1,0,none⟩),.int .i64 x.val,.pointer (some ⟨u,0,none⟩),.pointer (some ⟨u,0,none⟩),.pointer (some ⟨u,0,none⟩),.pointer (some ⟨b 0,0,none⟩),.func (.func 146) #[] #[.pointer (some ⟨W.heap.size + 1 + 1 + 1,0,none⟩)],.int .i64 x.val,.pointer (some ⟨xb b x.val,0,none⟩),undef,undef,undef,undef,undef,undef,undef,undef,undef,undef,undef,undef,undef],defers := [] }) ?assign ?body ?done ?stop
 case assign =>
  intro l x W K hK
  dsimp only [enca]
  gi_wp2
  exact hK
 case body =>
  rintro lp pre x X ⟨⟨⟨v,hbx,hrow,-⟩,bt,bo⟩,hB⟩ hlen hG
  have hx := x.isLt
  have HX := HH.out.on hB
  have HMP : (pre ++ [x]).map Fin.val = pre.map Fin.val ++ [x.val] := by simp
  have hl4 : (ths m (fun i => (r i).n) (pre.map Fin.val)).length ≤ 4 := by
   have := ths_len m (fun i => (r i).n) (pre.map Fin.val)
   rw [List.length_map] at this; omega
  have ct := bt.cell
  have q1 := HX.inn
  have CHS := fun W' => Fx.has_any m x.val W'
  cases hm : Fx.has m x.val
  · have HN := Lib.hid (ths_no (v := fun i => (r i).n) (l := pre.map Fin.val) hm)
    rw [hm] at CHS
    have HB := Lib.hid hB
    have HR := Lib.hid (And.intro hbx (And.intro hrow (And.intro bt bo)))
    clear hB hrow bt bo hm HX z0 z1 z2 z3 hB0 H0 h3 hrow0
    gi_wp2_with (refine ⟨trivial,?_⟩; gi_at_call 60; refine (CallsIn.inRound lp (callsIn_wide.2 (CHS _))).mono ?_; rintro e w' ⟨rfl,rfl⟩)
    refine ⟨KeepsFrom.refl _ _,Kc.refl _ _ _,⟨⟨v,HR.out.1,?_,trivial⟩,HR.out.2.2⟩,HB.out⟩
    rw [HMP,HN.out]; exact HR.out.2.1
  · have HN := Lib.hid (ths_yes (v := fun i => (r i).n) (l := pre.map Fin.val) hm)
    rw [hm] at CHS
    have HB := Lib.hid hB
    have hv : ∃ a cap,v = .slice a (ths m (fun i => (r i).n) (pre.map Fin.val)).length cap := by
     rcases hrow.2 with ⟨rfl,h0⟩ | ⟨g,cap,cur,rfl,_⟩
     · rw [h0]; exact ⟨none,0,rfl⟩
     · exact ⟨_,cap,rfl⟩
    obtain ⟨va,vc,hv⟩ := hv
    have HR := Lib.hid (And.intro hbx (And.intro hrow (And.intro bt bo)))
    have HXX := Lib.hid HX
    have HCY := Lib.hid (fun (Y : World) (h : Below X.heap.size X Y) => HCF.out Y (HXX.out.on h) x.val hx hm)
    have HCW := Lib.hid (fun (Y : World) (h : Tn Y b c s u r sh T m) => HCF.out Y h x.val hx hm)
    clear hB hrow bt bo hm HX z0 z1 z2 z3 hB0 H0 h3 hrow0
    gi_wp2_with (refine ⟨trivial,?_⟩; gi_at_call 60; refine (CallsIn.inRound lp (callsIn_wide.2 (CHS _))).mono ?_; rintro e w' ⟨rfl,rfl⟩)
    obtain ⟨y,hy⟩ : ∃ y,y = (r x.val).n := ⟨_,rfl⟩
    have HY := Lib.hid hy
    have HCZ := Lib.hid (fun (Y : World) (h : Below X.heap.size X Y) => (show Calls Tryz.prog 157 #[.pointer (some ⟨u,0,none⟩),.int .i64 x.val] Y fun e w' => e = .returned (.int .i64 y) ∧ Below Y.heap.size Y w' from by rw [hy]; exact HCY.out Y h))
    replace HCW := Lib.hid (fun (Y : World) (h : Tn Y b c s u r sh T m) => (show Calls Tryz.prog 157 #[.pointer (some ⟨u,0,none⟩),.int .i64 x.val] Y fun e w' => e = .returned (.int .i64 y) ∧ Below Y.heap.size Y w' from by rw [hy]; exact HCW.out Y h))
    rw [← hy] at HN
    clear hy HCY
    generalize ths m (fun i => (r i).n) (pre.map Fin.val) = ls at *
    have cl := hbx.cell
    refine Wr.wpIn_writes (aF := ?_) [24,25] [4,5,6] 27 2 [true,true,true,true,false,false,false] [false,false,false,false,false,false,false] [(24,undef),(25,undef)]
     (fun k vs Y => match k with
      | 0 => Below X.heap.size X Y
      | 1 => Below X.heap.size X Y ∧ ∃ ad : Addr,vs.getD 0 undef = .slice (some ad) 1 1 ∧ Y.cell? ad = some (.int .i64 y)
      | 2 => (Below W.heap.size X Y ∧ KeepsOthers X Y ∧ Boxed Y W.heap.size 234 (.pointer (some ⟨u,0,none⟩)) ∧ Boxed Y (W.heap.size + 1) 60 (.func (.func 157) #[.pointer (some ⟨u,0,none⟩)] #[])) ∧ Boxed Y (W.heap.size + 1 + 1) 144 v ∧ ∃ g cap,vs.getD 1 undef = .slice (some ⟨g,0,none⟩) (ls.length + 1) cap ∧ Y.ownsRow W.heap.size 3 1 (.slice (some ⟨g,0,none⟩) (ls.length + 1) cap) (ls.length + 1) (cellsI .i64 (ls ++ [y]))
      | _ => (Below W.heap.size X Y ∧ KeepsOthers X Y ∧ Boxed Y W.heap.size 234 (.pointer (some ⟨u,0,none⟩)) ∧ Boxed Y (W.heap.size + 1) 60 (.func (.func 157) #[.pointer (some ⟨u,0,none⟩)] #[])) ∧ ∃ v',Boxed Y (W.heap.size + 1 + 1) 144 v' ∧ Y.ownsRow W.heap.size 3 1 v' (ls.length + 1) (cellsI .i64 (ls ++ [y])))
     (fun Y => (Boxed Y (W.heap.size + 1 + 1) 144 v ∧ Boxed Y W.heap.size 234 (.pointer (some ⟨u,0,none⟩)) ∧ Boxed Y (W.heap.size + 1) 60 (.func (.func 157) #[.pointer (some ⟨u,0,none⟩)] #[])) ∧ (∀ Z,Below Y.heap.size Y Z → Calls Tryz.prog 157 #[.pointer (some ⟨u,0,none⟩),.int .i64 x.val] Z fun e w' => e = .returned (.int .i64 y) ∧ Below Z.heap.size Z w'))
     (by kernel_rfl) (by kernel_rfl) (by kernel_rfl) (by kernel_rfl) (by kernel_rfl) (by kernel_rfl) ?hL ?ha ?hMC ?hMg ?h0 ?hq ?hq2 ?hw ?hend
    case hq =>
     rintro Y ⟨⟨y1,y2,y3⟩,y4⟩
     have k1 := cell_regrown y1.cell
     have k3 := cell_regrown y3.cell
     have cR := reg_call (w := Y) y4
     subst hv
     simp only [Lt.sel,Lt.putAll,List.map_cons,List.map_nil,List.zip_cons_cons,List.zip_nil_right,List.foldl_cons,List.foldl_nil,Act.put,List.setIfInBounds_toArray,List.set_cons_succ,List.set_cons_zero]
     repeat (go_big_quiet_step (exact cR _ _))
     exact rfl
    case ha => rfl
    case hL => rintro ⟨_,_,h⟩; exact h
    case hMC =>
     rintro (_ | _ | _ | k) vs Y hk hM
     · exact ⟨⟨boxed_on HR.out.1 hM,boxed_on HR.out.2.2.1 hM,boxed_on HR.out.2.2.2 hM⟩,fun Z h => HCZ.out Z (grow hM h)⟩
     · exact ⟨⟨boxed_on HR.out.1 hM.1,boxed_on HR.out.2.2.1 hM.1,boxed_on HR.out.2.2.2 hM.1⟩,fun Z h => HCZ.out Z (grow hM.1 h)⟩
     · refine ⟨⟨hM.2.1,hM.1.2.2.1,hM.1.2.2.2⟩,fun Z h => ?_⟩
       have hb := HH.out.on ((HB.out.trans hM.1.1).trans (h.mono (by have := (HB.out.trans hM.1.1).size; omega)))
       exact HCW.out Z hb
     · omega
    case hMg =>
     rintro (_ | _ | _ | k) vs Y Z hM hC
     · exact grow hM hC.to
     · obtain ⟨h1,ad,h2,h3⟩ := hM
       exact ⟨grow h1 hC.to,ad,h2,(hC.to.cell (p := ad) (cell_blk h3)).trans h3⟩
     · obtain ⟨⟨h1,h2,h3,h4⟩,h5,g,cap,h6,h7⟩ := hM
       exact ⟨⟨h1.trans (hC.to.mono (by have := (HB.out.trans h1).size; omega)),h2.trans (keeps_below hC.to),boxed_on h3 hC.to,boxed_on h4 hC.to⟩,boxed_on h5 hC.to,g,cap,h6,owns_grow h7 hC.to⟩
     · obtain ⟨⟨h1,h2,h3,h4⟩,v',h5,h6⟩ := hM
       exact ⟨⟨h1.trans (hC.to.mono (by have := (HB.out.trans h1).size; omega)),h2.trans (keeps_below hC.to),boxed_on h3 hC.to,boxed_on h4 hC.to⟩,v',boxed_on h5 hC.to,owns_grow h6 hC.to⟩
    case h0 => exact fun _ _ => Below.refl _ _
    case hq2 =>
     intro k vs Y _ _ _
     exact rfl
    case hw =>
     rintro (_ | _ | _ | k) st o hs ho vs Y hl hM
     · obtain rfl : 4 = st := by simpa using hs
       obtain rfl := Option.some.inj ho
       match vs,hl with
       | [x1,x2],_ =>
         have hnew := (Boxed.new Y 3 (.int .i64 y)).cell
         have HK := Lib.hid (show Below X.heap.size X (Y.alloc (.cells #[.int .i64 y] 3)) ∧ ∃ ad : Addr,(Value.slice (some ⟨Y.heap.size,0,none⟩) 1 1) = .slice (some ad) 1 1 ∧ (Y.alloc (.cells #[.int .i64 y] 3)).cell? ad = some (.int .i64 y) from
          ⟨hM.alloc hM.size _,⟨Y.heap.size,0,none⟩,rfl,hnew⟩)
         have HM := Lib.hid hM
         clear hM hnew
         simp only [Lt.putAll,List.zip_cons_cons,List.zip_nil_right,List.foldl_cons,List.foldl_nil,Act.put,List.setIfInBounds_toArray,List.set_cons_succ,List.set_cons_zero]
         unfold Oper.wp
         go_simp
         exact HK.out
     · obtain rfl : 5 = st := by simpa using hs
       obtain rfl := Option.some.inj ho
       match vs,hl with
       | [x1,x2],_ =>
         obtain ⟨hb,ad,he,hcell⟩ := hM
         obtain rfl : x1 = .slice (some ad) 1 1 := he
         have hrY := owns_grow HR.out.2.1 hb
         have hbs := HB.out.size
         have hYs := hb.size
         simp only [Lt.putAll,List.zip_cons_cons,List.zip_nil_right,List.foldl_cons,List.foldl_nil,Act.put,List.setIfInBounds_toArray,List.set_cons_succ,List.set_cons_zero]
         refine wp_append_own _ (.tmp 20) (.tmp 24) 144 rfl W.heap.size 3 i0 (.int .i64 0) 1 8 Tryz.underlying144 hi0 hz0 hz1 hz2 rfl (by decide) v ls.length (cellsI .i64 ls) (by rw [hv]; rfl) hrY ad 1 1 [.int .i64 y] rfl rfl ?_ (by simp [Value.oneCell']) (by unfold maxLen; omega) (by omega) (by omega) ?_
         · intro j w hj
           match j,hj with
           | 0,hj => simp at hj; subst hj; simpa [Addr.add] using hcell
         · intro v' w' h1 h2 _
           obtain ⟨g',cap',rfl⟩ := ownsRow_succ h1
           have hgb : Below W.heap.size X w' := ((hb.mono hbs).grown h2 (by omega) fun k e => (World.ownsRow.lt hrY k e).1)
           have hcl : ∀ (k : Nat) (o : Obj),v.ownBlock = some k → Y.heap[k]? = some o → o.isCells = true := fun k o e ho => by
            rcases hrY.2 with ⟨rfl,-⟩ | ⟨g,cap,cur,rfl,-,hh,-⟩
            · cases e
            · obtain rfl : g = k := by simpa [Value.ownBlock] using e
              rw [hh] at ho; cases ho; rfl
           refine ⟨_,rfl,fun d hd hn => absurd (by cases hd; simp) hn,⟨hgb,(keeps_below hb).trans (KeepsOthers.of_grownBy h2 hcl),boxed_row (boxed_on HR.out.2.2.1 hb) (by decide) hrY h2,boxed_row (boxed_on HR.out.2.2.2 hb) (by decide) hrY h2⟩,boxed_row (boxed_on HR.out.1 hb) (by decide) hrY h2,g',cap',rfl,?_⟩
           rw [cellsI_app]; exact h1
     · obtain rfl : 6 = st := by simpa using hs
       obtain rfl := Option.some.inj ho
       match vs,hl with
       | [x1,x2],_ =>
         obtain ⟨⟨k1,k2,k3,k4⟩,k5,g,cap,he,hrY⟩ := hM
         obtain rfl : x2 = .slice (some ⟨g,0,none⟩) (ls.length + 1) cap := he
         have cl := k5.cell
         have fl := k5.frozen
         have hne : some (W.heap.size + 1 + 1) ≠ (Value.slice (some ⟨g,0,none⟩) (ls.length + 1) cap).ownBlock := k5.not_row (by decide) hrY
         have HK := Lib.hid (show (Below W.heap.size X (Y.setCell ⟨W.heap.size + 1 + 1,0,none⟩ (.slice (some ⟨g,0,none⟩) (ls.length + 1) cap)) ∧ KeepsOthers X (Y.setCell ⟨W.heap.size + 1 + 1,0,none⟩ (.slice (some ⟨g,0,none⟩) (ls.length + 1) cap)) ∧ Boxed (Y.setCell ⟨W.heap.size + 1 + 1,0,none⟩ (.slice (some ⟨g,0,none⟩) (ls.length + 1) cap)) W.heap.size 234 (.pointer (some ⟨u,0,none⟩)) ∧ Boxed (Y.setCell ⟨W.heap.size + 1 + 1,0,none⟩ (.slice (some ⟨g,0,none⟩) (ls.length + 1) cap)) (W.heap.size + 1) 60 (.func (.func 157) #[.pointer (some ⟨u,0,none⟩)] #[])) ∧ ∃ v',Boxed (Y.setCell ⟨W.heap.size + 1 + 1,0,none⟩ (.slice (some ⟨g,0,none⟩) (ls.length + 1) cap)) (W.heap.size + 1 + 1) 144 v' ∧ (Y.setCell ⟨W.heap.size + 1 + 1,0,none⟩ (.slice (some ⟨g,0,none⟩) (ls.length + 1) cap)).ownsRow W.heap.size 3 1 v' (ls.length + 1) (cellsI .i64 (ls ++ [y])) from
          ⟨⟨k1.setCell (p := ⟨W.heap.size + 1 + 1,0,none⟩) (by show W.heap.size ≤ W.heap.size + 1 + 1; omega) _,k2.trans (KeepsOthers.setCell _ _ _),k3.other (by omega) _,k4.other (by omega) _⟩,_,k5.set _,hrY.kept (grownBy_setCell' Y (W.heap.size + 1 + 1) _) (.inr (Ne.symm hne))⟩)
         clear k1 k2 k3 k4 k5 hrY hne
         simp only [Lt.putAll,List.zip_cons_cons,List.zip_nil_right,List.foldl_cons,List.foldl_nil,Act.put,List.setIfInBounds_toArray,List.set_cons_succ,List.set_cons_zero]
         unfold Oper.wp
         go_simp
         exact HK.out
     · simp at hs
    case hend =>
     intro vs Y hl hM
     obtain ⟨⟨k1,k2,k3,k4⟩,v',k5,k6⟩ := hM
     have HK := Lib.hid (And.intro k1 (And.intro k2 (And.intro k3 (And.intro k4 (And.intro k5 k6)))))
     clear k1 k2 k3 k4 k5 k6
     match vs,hl with
     | [x1,x2],_ =>
       simp only [Lt.putAll,List.zip_cons_cons,List.zip_nil_right,List.foldl_cons,List.foldl_nil,Act.put,List.setIfInBounds_toArray,List.set_cons_succ,List.set_cons_zero]
       gi_wp2
       obtain ⟨k1,k2,k3,k4,k5,k6⟩ := HK.out
       refine ⟨k2.from _,⟨fun p w hp hc => (k1.cell (p := p) hp).trans hc,k2.from _⟩,⟨⟨v',k5,?_,trivial⟩,k3,k4⟩,HB.out.trans k1⟩
       rw [HMP,HN.out,List.length_append]; exact k6
 case done =>
  rintro D ys X hD hys ⟨⟨⟨v,hbx,hrow,-⟩,bt,bo⟩,hB⟩ hK
  have hrow2 := ownsRow_putObj hrow (.deferred none) hK rfl
  rw [hys] at hrow hrow2
  have hcp : ∀ a n cap,v = .slice a n cap → n = (ths m (fun i => (r i).n) (List.range (NN c))).length → n ≤ cap ∧ cap ≤ 9223372036854775807 := fun a n cap e hn => by
   rcases hrow.2 with ⟨rfl,h0⟩ | ⟨g,cap',cur,rfl,_,_,h1,h2,_⟩
   · cases e; omega
   · cases e; unfold maxLen at h2; omega
  obtain ⟨a,cap,rfl,_⟩ := OwnI.form (show OwnI .i64 _ _ _ v (ths m (fun i => (r i).n) (List.range (NN c))) from hrow)
  obtain ⟨a',cap',he,hi⟩ := OwnI.form (show OwnI .i64 _ _ _ _ (ths m (fun i => (r i).n) (List.range (NN c))) from hrow2)
  cases he
  have hbc := hbx.cell
  gi_wp2
  refine ⟨by simp,.inl ⟨_,_,rfl,run_takeDeferred hK,?_⟩⟩
  refine ⟨_,results_tmp rfl _ _ _,?_⟩
  exact ⟨_,_,rfl,hcp _ _ _ rfl rfl,hi,hB.trans (belowK_b (w := W) (Nat.le_refl _) X D _ _ (by omega) hK rfl rfl)⟩
 case stop =>
  rintro D cc pre X _ _ h _
  exact h.elim
set_option maxRecDepth 100000 in
set_option maxHeartbeats 3200000 in
theorem those_even {W : World} {b : Nat → Nat} {c : List Int} {s : Si} {u : Nat} {r : Nat → Rw} {sh : Int} {T : Nat → Int} {m : Int} (hc : c.length = 21) (hR : Cf.Right c) (hO : Ok c s) (hv : ∀ i,i < NN c → Fx.has m i = true → Jp.val (r i).n = true) (H : Tn W b c s u r sh T m) :
 Calls Tryz.prog 163 #[.pointer (some ⟨u,0,none⟩),.func (.func 166) #[.pointer (some ⟨u,0,none⟩)] #[]] W (RetK W (ths m (fun i => (r i).n - (s.ch i).off) (List.range (NN c)))) := by
 have hN := NN_34 hR
 obtain ⟨i0,hi0,hz0,hz1,hz2⟩ := info_parts Od.intInfo
 have HCF := Lib.hid (fun (Y : World) (HY : Tn Y b c s u r sh T m) (i : Nat) (hi : i < NN c) (hm : Fx.has m i = true) => (show Calls Tryz.prog 166 #[.pointer (some ⟨u,0,none⟩),.int .i64 i] Y fun e w' => e = .returned (.int .i64 ((r i).n - (s.ch i).off)) ∧ Below Y.heap.size Y w' from even_any hc hR hO HY i hi (hv i hi hm)))
 refine (callsIn_wide (n := 5)).1 ?_
 refine callsIn_of_wp_marks Tryz.func163 rfl trivial ?_ rfl
 simp only [Tryz.ntmps163,List.size_toArray,List.length_cons,List.length_nil,Nat.reduceAdd,Nat.reduceSub,Array.replicate_succ,Array.replicate_zero,List.push_toArray,List.append_toArray,List.nil_append,List.cons_append]
 have s0 := cel (.cells #[.slice none 0 0] 144) (cel (.cells #[.func (.func 166) #[.pointer (some ⟨u,0,none⟩)] #[]] 60) (cel (.cells #[.pointer (some ⟨u,0,none⟩)] 234) H.sig))
 gi_wp2_with (refine ⟨trivial,?_⟩; gi_at_call 100; refine (callsIn_wide.2 (all_any _ _)).mono ?_; rintro e w2 ⟨rfl,rfl⟩)
 clear s0
 obtain ⟨⟨z0,z1,z2,z3⟩,hB0,hsz⟩ := four W _ _ _ _ _ _ _ _ _ rfl
 generalize (((W.alloc (.cells #[.pointer (some ⟨u,0,none⟩)] 234)).alloc (.cells #[.func (.func 166) #[.pointer (some ⟨u,0,none⟩)] #[]] 60)).alloc (.cells #[.slice none 0 0] 144)).alloc (.cells #[.pointer (some ⟨b 0,0,none⟩)] 90) = W0 at *
 have H0 := H.on hB0
 have HH := Lib.hid H
 clear H
 have h3 := z3.cell
 obtain ⟨cap0,hrow0⟩ := H0.lie.row hc
 refine range_goes rfl (by omega) (gf := 146) (lb := #[.pointer (some ⟨W.heap.size + 1 + 1 + 1,0,none⟩)]) rfl trivial (enters_of Tryz.func146 (by kernel_rfl) rfl)
  (Kp := Kc (fun p => p.block < W.heap.size) (W0.heap.size + 2))
  (fun V hV hs => all_goes _ (by omega) (W.heap.size + 1 + 1 + 1) (b 0) (b 2) cap0 b (NN c) _ _ (by omega) _ V ((hV.cell (p := ⟨_,0,none⟩) (cell_blk h3)).trans h3) ((hV.cell (p := ⟨_,22,none⟩) (cell_blk hrow0)).trans hrow0) (fun i hi => (H0.on hV).lie.at hi) (fun i => HH.out.lt (.inl ⟨2,by unfold pn; omega,rfl⟩)))
  Kc.trans (fun X k o o' _ h2 h3 h4 => Kc.put h2 h3 h4) (fun _ => by rfl)
  (fun pre X => ((∃ v,Boxed X (W.heap.size + 1 + 1) 144 v ∧ X.ownsRow W.heap.size 3 1 v (ths m (fun i => (r i).n - (s.ch i).off) (pre.map Fin.val)).length (cellsI .i64 (ths m (fun i => (r i).n - (s.ch i).off) (pre.map Fin.val))) ∧ True) ∧ (Boxed X W.heap.size 234 (.pointer (some ⟨u,0,none⟩)) ∧ Boxed X (W.heap.size + 1) 60 (.func (.func 166) #[.pointer (some ⟨u,0,none⟩)] #[]))) ∧ Below W.heap.size W X)
  (fun _ _ _ => False)
  (OwnFrom.and (OwnFrom.and (Own.from (holdsRow_own W.heap.size (W.heap.size + 1 + 1) 144 3 1 (fun pre : List (Fin (NN c)) => (ths m (fun i => (r i).n - (s.ch i).off) (pre.map Fin.val)).length) (fun pre => cellsI .i64 (ths m (fun i => (r i).n - (s.ch i).off) (pre.map Fin.val))) (fun _ _ => True)) _) (OwnFrom.and (own_box _ _ _ _) (own_box _ _ _ _))) (ownFrom_below (Nat.le_refl _) (by omega)))
  (fun _ _ _ _ _ hs _ _ => hs)
  ⟨⟨⟨_,z2,World.ownsRow_nil _ _ _ _,trivial⟩,z0,z1⟩,hB0⟩
  (fun x => { tmps := #[.pointer (some ⟨u,0,none⟩),.func (.func 166) #[.pointer (some ⟨u,0,none⟩)] #[],.pointer (some ⟨W.heap.size,0,none⟩),.pointer (some ⟨W.heap.size + 1,0,none⟩),.slice none 0 0,.pointer (some ⟨W.heap.size + 1 + 1,0,none⟩),.int .i64 x.val,.pointer (some ⟨u,0,none⟩),.pointer (some ⟨u,0,none⟩),.pointer (some ⟨u,0,none⟩),.pointer (some ⟨b 0,0,none⟩),.func (.func 146) #[] #[.pointer (some ⟨W.heap.size + 1 + 1 + 1,0,none⟩)],.int .i64 x.val,.pointer (some ⟨xb b x.val,0,none⟩),undef,undef,undef,undef,undef,undef,undef,undef,undef,undef,undef,undef,undef],defers := [] }) ?assign ?body ?done ?stop
 case assign =>
  intro l x W K hK
  dsimp only [enca]
  gi_wp2
  exact hK
 case body =>
  rintro lp pre x X ⟨⟨⟨v,hbx,hrow,-⟩,bt,bo⟩,hB⟩ hlen hG
  have hx := x.isLt
  have HX := HH.out.on hB
  have HMP : (pre ++ [x]).map Fin.val = pre.map Fin.val ++ [x.val] := by simp
  have hl4 : (ths m (fun i => (r i).n - (s.ch i).off) (pre.map Fin.val)).length ≤ 4 := by
   have := ths_len m (fun i => (r i).n - (s.ch i).off) (pre.map Fin.val)
   rw [List.length_map] at this; omega
  have ct := bt.cell
  have q1 := HX.inn
  have CHS := fun W' => Fx.has_any m x.val W'
  cases hm : Fx.has m x.val
  · have HN := Lib.hid (ths_no (v := fun i => (r i).n - (s.ch i).off) (l := pre.map Fin.val) hm)
    rw [hm] at CHS
    have HB := Lib.hid hB
    have HR := Lib.hid (And.intro hbx (And.intro hrow (And.intro bt bo)))
    clear hB hrow bt bo hm HX z0 z1 z2 z3 hB0 H0 h3 hrow0
    gi_wp2_with (refine ⟨trivial,?_⟩; gi_at_call 60; refine (CallsIn.inRound lp (callsIn_wide.2 (CHS _))).mono ?_; rintro e w' ⟨rfl,rfl⟩)
    refine ⟨KeepsFrom.refl _ _,Kc.refl _ _ _,⟨⟨v,HR.out.1,?_,trivial⟩,HR.out.2.2⟩,HB.out⟩
    rw [HMP,HN.out]; exact HR.out.2.1
  · have HN := Lib.hid (ths_yes (v := fun i => (r i).n - (s.ch i).off) (l := pre.map Fin.val) hm)
    rw [hm] at CHS
    have HB := Lib.hid hB
    have hv : ∃ a cap,v = .slice a (ths m (fun i => (r i).n - (s.ch i).off) (pre.map Fin.val)).length cap := by
     rcases hrow.2 with ⟨rfl,h0⟩ | ⟨g,cap,cur,rfl,_⟩
     · rw [h0]; exact ⟨none,0,rfl⟩
     · exact ⟨_,cap,rfl⟩
    obtain ⟨va,vc,hv⟩ := hv
    have HR := Lib.hid (And.intro hbx (And.intro hrow (And.intro bt bo)))
    have HXX := Lib.hid HX
    have HCY := Lib.hid (fun (Y : World) (h : Below X.heap.size X Y) => HCF.out Y (HXX.out.on h) x.val hx hm)
    have HCW := Lib.hid (fun (Y : World) (h : Tn Y b c s u r sh T m) => HCF.out Y h x.val hx hm)
    clear hB hrow bt bo hm HX z0 z1 z2 z3 hB0 H0 h3 hrow0
    gi_wp2_with (refine ⟨trivial,?_⟩; gi_at_call 60; refine (CallsIn.inRound lp (callsIn_wide.2 (CHS _))).mono ?_; rintro e w' ⟨rfl,rfl⟩)
    obtain ⟨y,hy⟩ : ∃ y,y = (r x.val).n - (s.ch x.val).off := ⟨_,rfl⟩
    have HY := Lib.hid hy
    have HCZ := Lib.hid (fun (Y : World) (h : Below X.heap.size X Y) => (show Calls Tryz.prog 166 #[.pointer (some ⟨u,0,none⟩),.int .i64 x.val] Y fun e w' => e = .returned (.int .i64 y) ∧ Below Y.heap.size Y w' from by rw [hy]; exact HCY.out Y h))
    replace HCW := Lib.hid (fun (Y : World) (h : Tn Y b c s u r sh T m) => (show Calls Tryz.prog 166 #[.pointer (some ⟨u,0,none⟩),.int .i64 x.val] Y fun e w' => e = .returned (.int .i64 y) ∧ Below Y.heap.size Y w' from by rw [hy]; exact HCW.out Y h))
    rw [← hy] at HN
    clear hy HCY
    generalize ths m (fun i => (r i).n - (s.ch i).off) (pre.map Fin.val) = ls at *
    have cl := hbx.cell
    refine Wr.wpIn_writes (aF := ?_) [24,25] [4,5,6] 27 2 [true,true,true,true,false,false,false] [false,false,false,false,false,false,false] [(24,undef),(25,undef)]
     (fun k vs Y => match k with
      | 0 => Below X.heap.size X Y
      | 1 => Below X.heap.size X Y ∧ ∃ ad : Addr,vs.getD 0 undef = .slice (some ad) 1 1 ∧ Y.cell? ad = some (.int .i64 y)
      | 2 => (Below W.heap.size X Y ∧ KeepsOthers X Y ∧ Boxed Y W.heap.size 234 (.pointer (some ⟨u,0,none⟩)) ∧ Boxed Y (W.heap.size + 1) 60 (.func (.func 166) #[.pointer (some ⟨u,0,none⟩)] #[])) ∧ Boxed Y (W.heap.size + 1 + 1) 144 v ∧ ∃ g cap,vs.getD 1 undef = .slice (some ⟨g,0,none⟩) (ls.length + 1) cap ∧ Y.ownsRow W.heap.size 3 1 (.slice (some ⟨g,0,none⟩) (ls.length + 1) cap) (ls.length + 1) (cellsI .i64 (ls ++ [y]))
      | _ => (Below W.heap.size X Y ∧ KeepsOthers X Y ∧ Boxed Y W.heap.size 234 (.pointer (some ⟨u,0,none⟩)) ∧ Boxed Y (W.heap.size + 1) 60 (.func (.func 166) #[.pointer (some ⟨u,0,none⟩)] #[])) ∧ ∃ v',Boxed Y (W.heap.size + 1 + 1) 144 v' ∧ Y.ownsRow W.heap.size 3 1 v' (ls.length + 1) (cellsI .i64 (ls ++ [y])))
     (fun Y => (Boxed Y (W.heap.size + 1 + 1) 144 v ∧ Boxed Y W.heap.size 234 (.pointer (some ⟨u,0,none⟩)) ∧ Boxed Y (W.heap.size + 1) 60 (.func (.func 166) #[.pointer (some ⟨u,0,none⟩)] #[])) ∧ (∀ Z,Below Y.heap.size Y Z → Calls Tryz.prog 166 #[.pointer (some ⟨u,0,none⟩),.int .i64 x.val] Z fun e w' => e = .returned (.int .i64 y) ∧ Below Z.heap.size Z w'))
     (by kernel_rfl) (by kernel_rfl) (by kernel_rfl) (by kernel_rfl) (by kernel_rfl) (by kernel_rfl) ?hL ?ha ?hMC ?hMg ?h0 ?hq ?hq2 ?hw ?hend
    case hq =>
     rintro Y ⟨⟨y1,y2,y3⟩,y4⟩
     have k1 := cell_regrown y1.cell
     have k3 := cell_regrown y3.cell
     have cR := reg_call (w := Y) y4
     subst hv
     simp only [Lt.sel,Lt.putAll,List.map_cons,List.map_nil,List.zip_cons_cons,List.zip_nil_right,List.foldl_cons,List.foldl_nil,Act.put,List.setIfInBounds_toArray,List.set_cons_succ,List.set_cons_zero]
     repeat (go_big_quiet_step (exact cR _ _))
     exact rfl
    case ha => rfl
    case hL => rintro ⟨_,_,h⟩; exact h
    case hMC =>
     rintro (_ | _ | _ | k) vs Y hk hM
     · exact ⟨⟨boxed_on HR.out.1 hM,boxed_on HR.out.2.2.1 hM,boxed_on HR.out.2.2.2 hM⟩,fun Z h => HCZ.out Z (grow hM h)⟩
     · exact ⟨⟨boxed_on HR.out.1 hM.1,boxed_on HR.out.2.2.1 hM.1,boxed_on HR.out.2.2.2 hM.1⟩,fun Z h => HCZ.out Z (grow hM.1 h)⟩
     · refine ⟨⟨hM.2.1,hM.1.2.2.1,hM.1.2.2.2⟩,fun Z h => ?_⟩
       have hb := HH.out.on ((HB.out.trans hM.1.1).trans (h.mono (by have := (HB.out.trans hM.1.1).size; omega)))
       exact HCW.out Z hb
     · omega
    case hMg =>
     rintro (_ | _ | _ | k) vs Y Z hM hC
     · exact grow hM hC.to
     · obtain ⟨h1,ad,h2,h3⟩ := hM
       exact ⟨grow h1 hC.to,ad,h2,(hC.to.cell (p := ad) (cell_blk h3)).trans h3⟩
     · obtain ⟨⟨h1,h2,h3,h4⟩,h5,g,cap,h6,h7⟩ := hM
       exact ⟨⟨h1.trans (hC.to.mono (by have := (HB.out.trans h1).size; omega)),h2.trans (keeps_below hC.to),boxed_on h3 hC.to,boxed_on h4 hC.to⟩,boxed_on h5 hC.to,g,cap,h6,owns_grow h7 hC.to⟩
     · obtain ⟨⟨h1,h2,h3,h4⟩,v',h5,h6⟩ := hM
       exact ⟨⟨h1.trans (hC.to.mono (by have := (HB.out.trans h1).size; omega)),h2.trans (keeps_below hC.to),boxed_on h3 hC.to,boxed_on h4 hC.to⟩,v',boxed_on h5 hC.to,owns_grow h6 hC.to⟩
    case h0 => exact fun _ _ => Below.refl _ _
    case hq2 =>
     intro k vs Y _ _ _
     exact rfl
    case hw =>
     rintro (_ | _ | _ | k) st o hs ho vs Y hl hM
     · obtain rfl : 4 = st := by simpa using hs
       obtain rfl := Option.some.inj ho
       match vs,hl with
       | [x1,x2],_ =>
         have hnew := (Boxed.new Y 3 (.int .i64 y)).cell
         have HK := Lib.hid (show Below X.heap.size X (Y.alloc (.cells #[.int .i64 y] 3)) ∧ ∃ ad : Addr,(Value.slice (some ⟨Y.heap.size,0,none⟩) 1 1) = .slice (some ad) 1 1 ∧ (Y.alloc (.cells #[.int .i64 y] 3)).cell? ad = some (.int .i64 y) from
          ⟨hM.alloc hM.size _,⟨Y.heap.size,0,none⟩,rfl,hnew⟩)
         have HM := Lib.hid hM
         clear hM hnew
         simp only [Lt.putAll,List.zip_cons_cons,List.zip_nil_right,List.foldl_cons,List.foldl_nil,Act.put,List.setIfInBounds_toArray,List.set_cons_succ,List.set_cons_zero]
         unfold Oper.wp
         go_simp
         exact HK.out
     · obtain rfl : 5 = st := by simpa using hs
       obtain rfl := Option.some.inj ho
       match vs,hl with
       | [x1,x2],_ =>
         obtain ⟨hb,ad,he,hcell⟩ := hM
         obtain rfl : x1 = .slice (some ad) 1 1 := he
         have hrY := owns_grow HR.out.2.1 hb
         have hbs := HB.out.size
         have hYs := hb.size
         simp only [Lt.putAll,List.zip_cons_cons,List.zip_nil_right,List.foldl_cons,List.foldl_nil,Act.put,List.setIfInBounds_toArray,List.set_cons_succ,List.set_cons_zero]
         refine wp_append_own _ (.tmp 20) (.tmp 24) 144 rfl W.heap.size 3 i0 (.int .i64 0) 1 8 Tryz.underlying144 hi0 hz0 hz1 hz2 rfl (by decide) v ls.length (cellsI .i64 ls) (by rw [hv]; rfl) hrY ad 1 1 [.int .i64 y] rfl rfl ?_ (by simp [Value.oneCell']) (by unfold maxLen; omega) (by omega) (by omega) ?_
         · intro j w hj
           match j,hj with
           | 0,hj => simp at hj; subst hj; simpa [Addr.add] using hcell
         · intro v' w' h1 h2 _
           obtain ⟨g',cap',rfl⟩ := ownsRow_succ h1
           have hgb : Below W.heap.size X w' := ((hb.mono hbs).grown h2 (by omega) fun k e => (World.ownsRow.lt hrY k e).1)
           have hcl : ∀ (k : Nat) (o : Obj),v.ownBlock = some k → Y.heap[k]? = some o → o.isCells = true := fun k o e ho => by
            rcases hrY.2 with ⟨rfl,-⟩ | ⟨g,cap,cur,rfl,-,hh,-⟩
            · cases e
            · obtain rfl : g = k := by simpa [Value.ownBlock] using e
              rw [hh] at ho; cases ho; rfl
           refine ⟨_,rfl,fun d hd hn => absurd (by cases hd; simp) hn,⟨hgb,(keeps_below hb).trans (KeepsOthers.of_grownBy h2 hcl),boxed_row (boxed_on HR.out.2.2.1 hb) (by decide) hrY h2,boxed_row (boxed_on HR.out.2.2.2 hb) (by decide) hrY h2⟩,boxed_row (boxed_on HR.out.1 hb) (by decide) hrY h2,g',cap',rfl,?_⟩
           rw [cellsI_app]; exact h1
     · obtain rfl : 6 = st := by simpa using hs
       obtain rfl := Option.some.inj ho
       match vs,hl with
       | [x1,x2],_ =>
         obtain ⟨⟨k1,k2,k3,k4⟩,k5,g,cap,he,hrY⟩ := hM
         obtain rfl : x2 = .slice (some ⟨g,0,none⟩) (ls.length + 1) cap := he
         have cl := k5.cell
         have fl := k5.frozen
         have hne : some (W.heap.size + 1 + 1) ≠ (Value.slice (some ⟨g,0,none⟩) (ls.length + 1) cap).ownBlock := k5.not_row (by decide) hrY
         have HK := Lib.hid (show (Below W.heap.size X (Y.setCell ⟨W.heap.size + 1 + 1,0,none⟩ (.slice (some ⟨g,0,none⟩) (ls.length + 1) cap)) ∧ KeepsOthers X (Y.setCell ⟨W.heap.size + 1 + 1,0,none⟩ (.slice (some ⟨g,0,none⟩) (ls.length + 1) cap)) ∧ Boxed (Y.setCell ⟨W.heap.size + 1 + 1,0,none⟩ (.slice (some ⟨g,0,none⟩) (ls.length + 1) cap)) W.heap.size 234 (.pointer (some ⟨u,0,none⟩)) ∧ Boxed (Y.setCell ⟨W.heap.size + 1 + 1,0,none⟩ (.slice (some ⟨g,0,none⟩) (ls.length + 1) cap)) (W.heap.size + 1) 60 (.func (.func 166) #[.pointer (some ⟨u,0,none⟩)] #[])) ∧ ∃ v',Boxed (Y.setCell ⟨W.heap.size + 1 + 1,0,none⟩ (.slice (some ⟨g,0,none⟩) (ls.length + 1) cap)) (W.heap.size + 1 + 1) 144 v' ∧ (Y.setCell ⟨W.heap.size + 1 + 1,0,none⟩ (.slice (some ⟨g,0,none⟩) (ls.length + 1) cap)).ownsRow W.heap.size 3 1 v' (ls.length + 1) (cellsI .i64 (ls ++ [y])) from
          ⟨⟨k1.setCell (p := ⟨W.heap.size + 1 + 1,0,none⟩) (by show W.heap.size ≤ W.heap.size + 1 + 1; omega) _,k2.trans (KeepsOthers.setCell _ _ _),k3.other (by omega) _,k4.other (by omega) _⟩,_,k5.set _,hrY.kept (grownBy_setCell' Y (W.heap.size + 1 + 1) _) (.inr (Ne.symm hne))⟩)
         clear k1 k2 k3 k4 k5 hrY hne
         simp only [Lt.putAll,List.zip_cons_cons,List.zip_nil_right,List.foldl_cons,List.foldl_nil,Act.put,List.setIfInBounds_toArray,List.set_cons_succ,List.set_cons_zero]
         unfold Oper.wp
         go_simp
         exact HK.out
     · simp at hs
    case hend =>
     intro vs Y hl hM
     obtain ⟨⟨k1,k2,k3,k4⟩,v',k5,k6⟩ := hM
     have HK := Lib.hid (And.intro k1 (And.intro k2 (And.intro k3 (And.intro k4 (And.intro k5 k6)))))
     clear k1 k2 k3 k4 k5 k6
     match vs,hl with
     | [x1,x2],_ =>
       simp only [Lt.putAll,List.zip_cons_cons,List.zip_nil_right,List.foldl_cons,List.foldl_nil,Act.put,List.setIfInBounds_toArray,List.set_cons_succ,List.set_cons_zero]
       gi_wp2
       obtain ⟨k1,k2,k3,k4,k5,k6⟩ := HK.out
       refine ⟨k2.from _,⟨fun p w hp hc => (k1.cell (p := p) hp).trans hc,k2.from _⟩,⟨⟨v',k5,?_,trivial⟩,k3,k4⟩,HB.out.trans k1⟩
       rw [HMP,HN.out,List.length_append]; exact k6
 case done =>
  rintro D ys X hD hys ⟨⟨⟨v,hbx,hrow,-⟩,bt,bo⟩,hB⟩ hK
  have hrow2 := ownsRow_putObj hrow (.deferred none) hK rfl
  rw [hys] at hrow hrow2
  have hcp : ∀ a n cap,v = .slice a n cap → n = (ths m (fun i => (r i).n - (s.ch i).off) (List.range (NN c))).length → n ≤ cap ∧ cap ≤ 9223372036854775807 := fun a n cap e hn => by
   rcases hrow.2 with ⟨rfl,h0⟩ | ⟨g,cap',cur,rfl,_,_,h1,h2,_⟩
   · cases e; omega
   · cases e; unfold maxLen at h2; omega
  obtain ⟨a,cap,rfl,_⟩ := OwnI.form (show OwnI .i64 _ _ _ v (ths m (fun i => (r i).n - (s.ch i).off) (List.range (NN c))) from hrow)
  obtain ⟨a',cap',he,hi⟩ := OwnI.form (show OwnI .i64 _ _ _ _ (ths m (fun i => (r i).n - (s.ch i).off) (List.range (NN c))) from hrow2)
  cases he
  have hbc := hbx.cell
  gi_wp2
  refine ⟨by simp,.inl ⟨_,_,rfl,run_takeDeferred hK,?_⟩⟩
  refine ⟨_,results_tmp rfl _ _ _,?_⟩
  exact ⟨_,_,rfl,hcp _ _ _ rfl rfl,hi,hB.trans (belowK_b (w := W) (Nat.le_refl _) X D _ _ (by omega) hK rfl rfl)⟩
 case stop =>
  rintro D cc pre X _ _ h _
  exact h.elim
set_option maxRecDepth 100000 in
set_option maxHeartbeats 3200000 in
theorem those_weight {W : World} {b : Nat → Nat} {c : List Int} {s : Si} {u : Nat} {r : Nat → Rw} {sh : Int} {T : Nat → Int} {m : Int} (hc : c.length = 21) (hR : Cf.Right c) (H : Tn W b c s u r sh T m) :
 Calls Tryz.prog 163 #[.pointer (some ⟨u,0,none⟩),.func (.func 167) #[.pointer (some ⟨u,0,none⟩)] #[]] W (RetK W (ths m (fun i => G c (17 + i)) (List.range (NN c)))) := by
 have hN := NN_34 hR
 obtain ⟨i0,hi0,hz0,hz1,hz2⟩ := info_parts Od.intInfo
 have HCF := Lib.hid (fun (Y : World) (HY : Tn Y b c s u r sh T m) (i : Nat) (hi : i < NN c) (hm : Fx.has m i = true) => (show Calls Tryz.prog 167 #[.pointer (some ⟨u,0,none⟩),.int .i64 i] Y fun e w' => e = .returned (.int .i64 (G c (17 + i))) ∧ Below Y.heap.size Y w' from (weight_any hc HY i (by omega)).mono fun e w' q => ⟨q.1,q.2 ▸ Below.refl _ _⟩))
 refine (callsIn_wide (n := 5)).1 ?_
 refine callsIn_of_wp_marks Tryz.func163 rfl trivial ?_ rfl
 simp only [Tryz.ntmps163,List.size_toArray,List.length_cons,List.length_nil,Nat.reduceAdd,Nat.reduceSub,Array.replicate_succ,Array.replicate_zero,List.push_toArray,List.append_toArray,List.nil_append,List.cons_append]
 have s0 := cel (.cells #[.slice none 0 0] 144) (cel (.cells #[.func (.func 167) #[.pointer (some ⟨u,0,none⟩)] #[]] 60) (cel (.cells #[.pointer (some ⟨u,0,none⟩)] 234) H.sig))
 gi_wp2_with (refine ⟨trivial,?_⟩; gi_at_call 100; refine (callsIn_wide.2 (all_any _ _)).mono ?_; rintro e w2 ⟨rfl,rfl⟩)
 clear s0
 obtain ⟨⟨z0,z1,z2,z3⟩,hB0,hsz⟩ := four W _ _ _ _ _ _ _ _ _ rfl
 generalize (((W.alloc (.cells #[.pointer (some ⟨u,0,none⟩)] 234)).alloc (.cells #[.func (.func 167) #[.pointer (some ⟨u,0,none⟩)] #[]] 60)).alloc (.cells #[.slice none 0 0] 144)).alloc (.cells #[.pointer (some ⟨b 0,0,none⟩)] 90) = W0 at *
 have H0 := H.on hB0
 have HH := Lib.hid H
 clear H
 have h3 := z3.cell
 obtain ⟨cap0,hrow0⟩ := H0.lie.row hc
 refine range_goes rfl (by omega) (gf := 146) (lb := #[.pointer (some ⟨W.heap.size + 1 + 1 + 1,0,none⟩)]) rfl trivial (enters_of Tryz.func146 (by kernel_rfl) rfl)
  (Kp := Kc (fun p => p.block < W.heap.size) (W0.heap.size + 2))
  (fun V hV hs => all_goes _ (by omega) (W.heap.size + 1 + 1 + 1) (b 0) (b 2) cap0 b (NN c) _ _ (by omega) _ V ((hV.cell (p := ⟨_,0,none⟩) (cell_blk h3)).trans h3) ((hV.cell (p := ⟨_,22,none⟩) (cell_blk hrow0)).trans hrow0) (fun i hi => (H0.on hV).lie.at hi) (fun i => HH.out.lt (.inl ⟨2,by unfold pn; omega,rfl⟩)))
  Kc.trans (fun X k o o' _ h2 h3 h4 => Kc.put h2 h3 h4) (fun _ => by rfl)
  (fun pre X => ((∃ v,Boxed X (W.heap.size + 1 + 1) 144 v ∧ X.ownsRow W.heap.size 3 1 v (ths m (fun i => G c (17 + i)) (pre.map Fin.val)).length (cellsI .i64 (ths m (fun i => G c (17 + i)) (pre.map Fin.val))) ∧ True) ∧ (Boxed X W.heap.size 234 (.pointer (some ⟨u,0,none⟩)) ∧ Boxed X (W.heap.size + 1) 60 (.func (.func 167) #[.pointer (some ⟨u,0,none⟩)] #[]))) ∧ Below W.heap.size W X)
  (fun _ _ _ => False)
  (OwnFrom.and (OwnFrom.and (Own.from (holdsRow_own W.heap.size (W.heap.size + 1 + 1) 144 3 1 (fun pre : List (Fin (NN c)) => (ths m (fun i => G c (17 + i)) (pre.map Fin.val)).length) (fun pre => cellsI .i64 (ths m (fun i => G c (17 + i)) (pre.map Fin.val))) (fun _ _ => True)) _) (OwnFrom.and (own_box _ _ _ _) (own_box _ _ _ _))) (ownFrom_below (Nat.le_refl _) (by omega)))
  (fun _ _ _ _ _ hs _ _ => hs)
  ⟨⟨⟨_,z2,World.ownsRow_nil _ _ _ _,trivial⟩,z0,z1⟩,hB0⟩
  (fun x => { tmps := #[.pointer (some ⟨u,0,none⟩),.func (.func 167) #[.pointer (some ⟨u,0,none⟩)] #[],.pointer (some ⟨W.heap.size,0,none⟩),.pointer (some ⟨W.heap.size + 1,0,none⟩),.slice none 0 0,.pointer (some ⟨W.heap.size + 1 + 1,0,none⟩),.int .i64 x.val,.pointer (some ⟨u,0,none⟩),.pointer (some ⟨u,0,none⟩),.pointer (some ⟨u,0,none⟩),.pointer (some ⟨b 0,0,none⟩),.func (.func 146) #[] #[.pointer (some ⟨W.heap.size + 1 + 1 + 1,0,none⟩)],.int .i64 x.val,.pointer (some ⟨xb b x.val,0,none⟩),undef,undef,undef,undef,undef,undef,undef,undef,undef,undef,undef,undef,undef],defers := [] }) ?assign ?body ?done ?stop
 case assign =>
  intro l x W K hK
  dsimp only [enca]
  gi_wp2
  exact hK
 case body =>
  rintro lp pre x X ⟨⟨⟨v,hbx,hrow,-⟩,bt,bo⟩,hB⟩ hlen hG
  have hx := x.isLt
  have HX := HH.out.on hB
  have HMP : (pre ++ [x]).map Fin.val = pre.map Fin.val ++ [x.val] := by simp
  have hl4 : (ths m (fun i => G c (17 + i)) (pre.map Fin.val)).length ≤ 4 := by
   have := ths_len m (fun i => G c (17 + i)) (pre.map Fin.val)
   rw [List.length_map] at this; omega
  have ct := bt.cell
  have q1 := HX.inn
  have CHS := fun W' => Fx.has_any m x.val W'
  cases hm : Fx.has m x.val
  · have HN := Lib.hid (ths_no (v := fun i => G c (17 + i)) (l := pre.map Fin.val) hm)
    rw [hm] at CHS
    have HB := Lib.hid hB
    have HR := Lib.hid (And.intro hbx (And.intro hrow (And.intro bt bo)))
    clear hB hrow bt bo hm HX z0 z1 z2 z3 hB0 H0 h3 hrow0
    gi_wp2_with (refine ⟨trivial,?_⟩; gi_at_call 60; refine (CallsIn.inRound lp (callsIn_wide.2 (CHS _))).mono ?_; rintro e w' ⟨rfl,rfl⟩)
    refine ⟨KeepsFrom.refl _ _,Kc.refl _ _ _,⟨⟨v,HR.out.1,?_,trivial⟩,HR.out.2.2⟩,HB.out⟩
    rw [HMP,HN.out]; exact HR.out.2.1
  · have HN := Lib.hid (ths_yes (v := fun i => G c (17 + i)) (l := pre.map Fin.val) hm)
    rw [hm] at CHS
    have HB := Lib.hid hB
    have hv : ∃ a cap,v = .slice a (ths m (fun i => G c (17 + i)) (pre.map Fin.val)).length cap := by
     rcases hrow.2 with ⟨rfl,h0⟩ | ⟨g,cap,cur,rfl,_⟩
     · rw [h0]; exact ⟨none,0,rfl⟩
     · exact ⟨_,cap,rfl⟩
    obtain ⟨va,vc,hv⟩ := hv
    have HR := Lib.hid (And.intro hbx (And.intro hrow (And.intro bt bo)))
    have HXX := Lib.hid HX
    have HCY := Lib.hid (fun (Y : World) (h : Below X.heap.size X Y) => HCF.out Y (HXX.out.on h) x.val hx hm)
    have HCW := Lib.hid (fun (Y : World) (h : Tn Y b c s u r sh T m) => HCF.out Y h x.val hx hm)
    clear hB hrow bt bo hm HX z0 z1 z2 z3 hB0 H0 h3 hrow0
    gi_wp2_with (refine ⟨trivial,?_⟩; gi_at_call 60; refine (CallsIn.inRound lp (callsIn_wide.2 (CHS _))).mono ?_; rintro e w' ⟨rfl,rfl⟩)
    obtain ⟨y,hy⟩ : ∃ y,y = G c (17 + x.val) := ⟨_,rfl⟩
    have HY := Lib.hid hy
    have HCZ := Lib.hid (fun (Y : World) (h : Below X.heap.size X Y) => (show Calls Tryz.prog 167 #[.pointer (some ⟨u,0,none⟩),.int .i64 x.val] Y fun e w' => e = .returned (.int .i64 y) ∧ Below Y.heap.size Y w' from by rw [hy]; exact HCY.out Y h))
    replace HCW := Lib.hid (fun (Y : World) (h : Tn Y b c s u r sh T m) => (show Calls Tryz.prog 167 #[.pointer (some ⟨u,0,none⟩),.int .i64 x.val] Y fun e w' => e = .returned (.int .i64 y) ∧ Below Y.heap.size Y w' from by rw [hy]; exact HCW.out Y h))
    rw [← hy] at HN
    clear hy HCY
    generalize ths m (fun i => G c (17 + i)) (pre.map Fin.val) = ls at *
    have cl := hbx.cell
    refine Wr.wpIn_writes (aF := ?_) [24,25] [4,5,6] 27 2 [true,true,true,true,false,false,false] [false,false,false,false,false,false,false] [(24,undef),(25,undef)]
     (fun k vs Y => match k with
      | 0 => Below X.heap.size X Y
      | 1 => Below X.heap.size X Y ∧ ∃ ad : Addr,vs.getD 0 undef = .slice (some ad) 1 1 ∧ Y.cell? ad = some (.int .i64 y)
      | 2 => (Below W.heap.size X Y ∧ KeepsOthers X Y ∧ Boxed Y W.heap.size 234 (.pointer (some ⟨u,0,none⟩)) ∧ Boxed Y (W.heap.size + 1) 60 (.func (.func 167) #[.pointer (some ⟨u,0,none⟩)] #[])) ∧ Boxed Y (W.heap.size + 1 + 1) 144 v ∧ ∃ g cap,vs.getD 1 undef = .slice (some ⟨g,0,none⟩) (ls.length + 1) cap ∧ Y.ownsRow W.heap.size 3 1 (.slice (some ⟨g,0,none⟩) (ls.length + 1) cap) (ls.length + 1) (cellsI .i64 (ls ++ [y]))
      | _ => (Below W.heap.size X Y ∧ KeepsOthers X Y ∧ Boxed Y W.heap.size 234 (.pointer (some ⟨u,0,none⟩)) ∧ Boxed Y (W.heap.size + 1) 60 (.func (.func 167) #[.pointer (some ⟨u,0,none⟩)] #[])) ∧ ∃ v',Boxed Y (W.heap.size + 1 + 1) 144 v' ∧ Y.ownsRow W.heap.size 3 1 v' (ls.length + 1) (cellsI .i64 (ls ++ [y])))
     (fun Y => (Boxed Y (W.heap.size + 1 + 1) 144 v ∧ Boxed Y W.heap.size 234 (.pointer (some ⟨u,0,none⟩)) ∧ Boxed Y (W.heap.size + 1) 60 (.func (.func 167) #[.pointer (some ⟨u,0,none⟩)] #[])) ∧ (∀ Z,Below Y.heap.size Y Z → Calls Tryz.prog 167 #[.pointer (some ⟨u,0,none⟩),.int .i64 x.val] Z fun e w' => e = .returned (.int .i64 y) ∧ Below Z.heap.size Z w'))
     (by kernel_rfl) (by kernel_rfl) (by kernel_rfl) (by kernel_rfl) (by kernel_rfl) (by kernel_rfl) ?hL ?ha ?hMC ?hMg ?h0 ?hq ?hq2 ?hw ?hend
    case hq =>
     rintro Y ⟨⟨y1,y2,y3⟩,y4⟩
     have k1 := cell_regrown y1.cell
     have k3 := cell_regrown y3.cell
     have cR := reg_call (w := Y) y4
     subst hv
     simp only [Lt.sel,Lt.putAll,List.map_cons,List.map_nil,List.zip_cons_cons,List.zip_nil_right,List.foldl_cons,List.foldl_nil,Act.put,List.setIfInBounds_toArray,List.set_cons_succ,List.set_cons_zero]
     repeat (go_big_quiet_step (exact cR _ _))
     exact rfl
    case ha => rfl
    case hL => rintro ⟨_,_,h⟩; exact h
    case hMC =>
     rintro (_ | _ | _ | k) vs Y hk hM
     · exact ⟨⟨boxed_on HR.out.1 hM,boxed_on HR.out.2.2.1 hM,boxed_on HR.out.2.2.2 hM⟩,fun Z h => HCZ.out Z (grow hM h)⟩
     · exact ⟨⟨boxed_on HR.out.1 hM.1,boxed_on HR.out.2.2.1 hM.1,boxed_on HR.out.2.2.2 hM.1⟩,fun Z h => HCZ.out Z (grow hM.1 h)⟩
     · refine ⟨⟨hM.2.1,hM.1.2.2.1,hM.1.2.2.2⟩,fun Z h => ?_⟩
       have hb := HH.out.on ((HB.out.trans hM.1.1).trans (h.mono (by have := (HB.out.trans hM.1.1).size; omega)))
       exact HCW.out Z hb
     · omega
    case hMg =>
     rintro (_ | _ | _ | k) vs Y Z hM hC
     · exact grow hM hC.to
     · obtain ⟨h1,ad,h2,h3⟩ := hM
       exact ⟨grow h1 hC.to,ad,h2,(hC.to.cell (p := ad) (cell_blk h3)).trans h3⟩
     · obtain ⟨⟨h1,h2,h3,h4⟩,h5,g,cap,h6,h7⟩ := hM
       exact ⟨⟨h1.trans (hC.to.mono (by have := (HB.out.trans h1).size; omega)),h2.trans (keeps_below hC.to),boxed_on h3 hC.to,boxed_on h4 hC.to⟩,boxed_on h5 hC.to,g,cap,h6,owns_grow h7 hC.to⟩
     · obtain ⟨⟨h1,h2,h3,h4⟩,v',h5,h6⟩ := hM
       exact ⟨⟨h1.trans (hC.to.mono (by have := (HB.out.trans h1).size; omega)),h2.trans (keeps_below hC.to),boxed_on h3 hC.to,boxed_on h4 hC.to⟩,v',boxed_on h5 hC.to,owns_grow h6 hC.to⟩
    case h0 => exact fun _ _ => Below.refl _ _
    case hq2 =>
     intro k vs Y _ _ _
     exact rfl
    case hw =>
     rintro (_ | _ | _ | k) st o hs ho vs Y hl hM
     · obtain rfl : 4 = st := by simpa using hs
       obtain rfl := Option.some.inj ho
       match vs,hl with
       | [x1,x2],_ =>
         have hnew := (Boxed.new Y 3 (.int .i64 y)).cell
         have HK := Lib.hid (show Below X.heap.size X (Y.alloc (.cells #[.int .i64 y] 3)) ∧ ∃ ad : Addr,(Value.slice (some ⟨Y.heap.size,0,none⟩) 1 1) = .slice (some ad) 1 1 ∧ (Y.alloc (.cells #[.int .i64 y] 3)).cell? ad = some (.int .i64 y) from
          ⟨hM.alloc hM.size _,⟨Y.heap.size,0,none⟩,rfl,hnew⟩)
         have HM := Lib.hid hM
         clear hM hnew
         simp only [Lt.putAll,List.zip_cons_cons,List.zip_nil_right,List.foldl_cons,List.foldl_nil,Act.put,List.setIfInBounds_toArray,List.set_cons_succ,List.set_cons_zero]
         unfold Oper.wp
         go_simp
         exact HK.out
     · obtain rfl : 5 = st := by simpa using hs
       obtain rfl := Option.some.inj ho
       match vs,hl with
       | [x1,x2],_ =>
         obtain ⟨hb,ad,he,hcell⟩ := hM
         obtain rfl : x1 = .slice (some ad) 1 1 := he
         have hrY := owns_grow HR.out.2.1 hb
         have hbs := HB.out.size
         have hYs := hb.size
         simp only [Lt.putAll,List.zip_cons_cons,List.zip_nil_right,List.foldl_cons,List.foldl_nil,Act.put,List.setIfInBounds_toArray,List.set_cons_succ,List.set_cons_zero]
         refine wp_append_own _ (.tmp 20) (.tmp 24) 144 rfl W.heap.size 3 i0 (.int .i64 0) 1 8 Tryz.underlying144 hi0 hz0 hz1 hz2 rfl (by decide) v ls.length (cellsI .i64 ls) (by rw [hv]; rfl) hrY ad 1 1 [.int .i64 y] rfl rfl ?_ (by simp [Value.oneCell']) (by unfold maxLen; omega) (by omega) (by omega) ?_
         · intro j w hj
           match j,hj with
           | 0,hj => simp at hj; subst hj; simpa [Addr.add] using hcell
         · intro v' w' h1 h2 _
           obtain ⟨g',cap',rfl⟩ := ownsRow_succ h1
           have hgb : Below W.heap.size X w' := ((hb.mono hbs).grown h2 (by omega) fun k e => (World.ownsRow.lt hrY k e).1)
           have hcl : ∀ (k : Nat) (o : Obj),v.ownBlock = some k → Y.heap[k]? = some o → o.isCells = true := fun k o e ho => by
            rcases hrY.2 with ⟨rfl,-⟩ | ⟨g,cap,cur,rfl,-,hh,-⟩
            · cases e
            · obtain rfl : g = k := by simpa [Value.ownBlock] using e
              rw [hh] at ho; cases ho; rfl
           refine ⟨_,rfl,fun d hd hn => absurd (by cases hd; simp) hn,⟨hgb,(keeps_below hb).trans (KeepsOthers.of_grownBy h2 hcl),boxed_row (boxed_on HR.out.2.2.1 hb) (by decide) hrY h2,boxed_row (boxed_on HR.out.2.2.2 hb) (by decide) hrY h2⟩,boxed_row (boxed_on HR.out.1 hb) (by decide) hrY h2,g',cap',rfl,?_⟩
           rw [cellsI_app]; exact h1
     · obtain rfl : 6 = st := by simpa using hs
       obtain rfl := Option.some.inj ho
       match vs,hl with
       | [x1,x2],_ =>
         obtain ⟨⟨k1,k2,k3,k4⟩,k5,g,cap,he,hrY⟩ := hM
         obtain rfl : x2 = .slice (some ⟨g,0,none⟩) (ls.length + 1) cap := he
         have cl := k5.cell
         have fl := k5.frozen
         have hne : some (W.heap.size + 1 + 1) ≠ (Value.slice (some ⟨g,0,none⟩) (ls.length + 1) cap).ownBlock := k5.not_row (by decide) hrY
         have HK := Lib.hid (show (Below W.heap.size X (Y.setCell ⟨W.heap.size + 1 + 1,0,none⟩ (.slice (some ⟨g,0,none⟩) (ls.length + 1) cap)) ∧ KeepsOthers X (Y.setCell ⟨W.heap.size + 1 + 1,0,none⟩ (.slice (some ⟨g,0,none⟩) (ls.length + 1) cap)) ∧ Boxed (Y.setCell ⟨W.heap.size + 1 + 1,0,none⟩ (.slice (some ⟨g,0,none⟩) (ls.length + 1) cap)) W.heap.size 234 (.pointer (some ⟨u,0,none⟩)) ∧ Boxed (Y.setCell ⟨W.heap.size + 1 + 1,0,none⟩ (.slice (some ⟨g,0,none⟩) (ls.length + 1) cap)) (W.heap.size + 1) 60 (.func (.func 167) #[.pointer (some ⟨u,0,none⟩)] #[])) ∧ ∃ v',Boxed (Y.setCell ⟨W.heap.size + 1 + 1,0,none⟩ (.slice (some ⟨g,0,none⟩) (ls.length + 1) cap)) (W.heap.size + 1 + 1) 144 v' ∧ (Y.setCell ⟨W.heap.size + 1 + 1,0,none⟩ (.slice (some ⟨g,0,none⟩) (ls.length + 1) cap)).ownsRow W.heap.size 3 1 v' (ls.length + 1) (cellsI .i64 (ls ++ [y])) from
          ⟨⟨k1.setCell (p := ⟨W.heap.size + 1 + 1,0,none⟩) (by show W.heap.size ≤ W.heap.size + 1 + 1; omega) _,k2.trans (KeepsOthers.setCell _ _ _),k3.other (by omega) _,k4.other (by omega) _⟩,_,k5.set _,hrY.kept (grownBy_setCell' Y (W.heap.size + 1 + 1) _) (.inr (Ne.symm hne))⟩)
         clear k1 k2 k3 k4 k5 hrY hne
         simp only [Lt.putAll,List.zip_cons_cons,List.zip_nil_right,List.foldl_cons,List.foldl_nil,Act.put,List.setIfInBounds_toArray,List.set_cons_succ,List.set_cons_zero]
         unfold Oper.wp
         go_simp
         exact HK.out
     · simp at hs
    case hend =>
     intro vs Y hl hM
     obtain ⟨⟨k1,k2,k3,k4⟩,v',k5,k6⟩ := hM
     have HK := Lib.hid (And.intro k1 (And.intro k2 (And.intro k3 (And.intro k4 (And.intro k5 k6)))))
     clear k1 k2 k3 k4 k5 k6
     match vs,hl with
     | [x1,x2],_ =>
       simp only [Lt.putAll,List.zip_cons_cons,List.zip_nil_right,List.foldl_cons,List.foldl_nil,Act.put,List.setIfInBounds_toArray,List.set_cons_succ,List.set_cons_zero]
       gi_wp2
       obtain ⟨k1,k2,k3,k4,k5,k6⟩ := HK.out
       refine ⟨k2.from _,⟨fun p w hp hc => (k1.cell (p := p) hp).trans hc,k2.from _⟩,⟨⟨v',k5,?_,trivial⟩,k3,k4⟩,HB.out.trans k1⟩
       rw [HMP,HN.out,List.length_append]; exact k6
 case done =>
  rintro D ys X hD hys ⟨⟨⟨v,hbx,hrow,-⟩,bt,bo⟩,hB⟩ hK
  have hrow2 := ownsRow_putObj hrow (.deferred none) hK rfl
  rw [hys] at hrow hrow2
  have hcp : ∀ a n cap,v = .slice a n cap → n = (ths m (fun i => G c (17 + i)) (List.range (NN c))).length → n ≤ cap ∧ cap ≤ 9223372036854775807 := fun a n cap e hn => by
   rcases hrow.2 with ⟨rfl,h0⟩ | ⟨g,cap',cur,rfl,_,_,h1,h2,_⟩
   · cases e; omega
   · cases e; unfold maxLen at h2; omega
  obtain ⟨a,cap,rfl,_⟩ := OwnI.form (show OwnI .i64 _ _ _ v (ths m (fun i => G c (17 + i)) (List.range (NN c))) from hrow)
  obtain ⟨a',cap',he,hi⟩ := OwnI.form (show OwnI .i64 _ _ _ _ (ths m (fun i => G c (17 + i)) (List.range (NN c))) from hrow2)
  cases he
  have hbc := hbx.cell
  gi_wp2
  refine ⟨by simp,.inl ⟨_,_,rfl,run_takeDeferred hK,?_⟩⟩
  refine ⟨_,results_tmp rfl _ _ _,?_⟩
  exact ⟨_,_,rfl,hcp _ _ _ rfl rfl,hi,hB.trans (belowK_b (w := W) (Nat.le_refl _) X D _ _ (by omega) hK rfl rfl)⟩
 case stop =>
  rintro D cc pre X _ _ h _
  exact h.elim
set_option maxRecDepth 100000 in
set_option maxHeartbeats 3200000 in
theorem those_number {W : World} {b : Nat → Nat} {c : List Int} {s : Si} {u : Nat} {r : Nat → Rw} {sh : Int} {T : Nat → Int} {m : Int} (hc : c.length = 21) (hR : Cf.Right c) (H : Tn W b c s u r sh T m) :
 Calls Tryz.prog 163 #[.pointer (some ⟨u,0,none⟩),.func (.func 170) #[] #[]] W (RetK W (ths m (fun i => (i : Int)) (List.range (NN c)))) := by
 have hN := NN_34 hR
 obtain ⟨i0,hi0,hz0,hz1,hz2⟩ := info_parts Od.intInfo
 have HCF := Lib.hid (fun (Y : World) (HY : Tn Y b c s u r sh T m) (i : Nat) (hi : i < NN c) (hm : Fx.has m i = true) => (show Calls Tryz.prog 170 #[.int .i64 i] Y fun e w' => e = .returned (.int .i64 ((i : Int))) ∧ Below Y.heap.size Y w' from (number_any i Y).mono fun e w' q => ⟨q.1,q.2 ▸ Below.refl _ _⟩))
 refine (callsIn_wide (n := 5)).1 ?_
 refine callsIn_of_wp_marks Tryz.func163 rfl trivial ?_ rfl
 simp only [Tryz.ntmps163,List.size_toArray,List.length_cons,List.length_nil,Nat.reduceAdd,Nat.reduceSub,Array.replicate_succ,Array.replicate_zero,List.push_toArray,List.append_toArray,List.nil_append,List.cons_append]
 have s0 := cel (.cells #[.slice none 0 0] 144) (cel (.cells #[.func (.func 170) #[] #[]] 60) (cel (.cells #[.pointer (some ⟨u,0,none⟩)] 234) H.sig))
 gi_wp2_with (refine ⟨trivial,?_⟩; gi_at_call 100; refine (callsIn_wide.2 (all_any _ _)).mono ?_; rintro e w2 ⟨rfl,rfl⟩)
 clear s0
 obtain ⟨⟨z0,z1,z2,z3⟩,hB0,hsz⟩ := four W _ _ _ _ _ _ _ _ _ rfl
 generalize (((W.alloc (.cells #[.pointer (some ⟨u,0,none⟩)] 234)).alloc (.cells #[.func (.func 170) #[] #[]] 60)).alloc (.cells #[.slice none 0 0] 144)).alloc (.cells #[.pointer (some ⟨b 0,0,none⟩)] 90) = W0 at *
 have H0 := H.on hB0
 have HH := Lib.hid H
 clear H
 have h3 := z3.cell
 obtain ⟨cap0,hrow0⟩ := H0.lie.row hc
 refine range_goes rfl (by omega) (gf := 146) (lb := #[.pointer (some ⟨W.heap.size + 1 + 1 + 1,0,none⟩)]) rfl trivial (enters_of Tryz.func146 (by kernel_rfl) rfl)
  (Kp := Kc (fun p => p.block < W.heap.size) (W0.heap.size + 2))
  (fun V hV hs => all_goes _ (by omega) (W.heap.size + 1 + 1 + 1) (b 0) (b 2) cap0 b (NN c) _ _ (by omega) _ V ((hV.cell (p := ⟨_,0,none⟩) (cell_blk h3)).trans h3) ((hV.cell (p := ⟨_,22,none⟩) (cell_blk hrow0)).trans hrow0) (fun i hi => (H0.on hV).lie.at hi) (fun i => HH.out.lt (.inl ⟨2,by unfold pn; omega,rfl⟩)))
  Kc.trans (fun X k o o' _ h2 h3 h4 => Kc.put h2 h3 h4) (fun _ => by rfl)
  (fun pre X => ((∃ v,Boxed X (W.heap.size + 1 + 1) 144 v ∧ X.ownsRow W.heap.size 3 1 v (ths m (fun i => (i : Int)) (pre.map Fin.val)).length (cellsI .i64 (ths m (fun i => (i : Int)) (pre.map Fin.val))) ∧ True) ∧ (Boxed X W.heap.size 234 (.pointer (some ⟨u,0,none⟩)) ∧ Boxed X (W.heap.size + 1) 60 (.func (.func 170) #[] #[]))) ∧ Below W.heap.size W X)
  (fun _ _ _ => False)
  (OwnFrom.and (OwnFrom.and (Own.from (holdsRow_own W.heap.size (W.heap.size + 1 + 1) 144 3 1 (fun pre : List (Fin (NN c)) => (ths m (fun i => (i : Int)) (pre.map Fin.val)).length) (fun pre => cellsI .i64 (ths m (fun i => (i : Int)) (pre.map Fin.val))) (fun _ _ => True)) _) (OwnFrom.and (own_box _ _ _ _) (own_box _ _ _ _))) (ownFrom_below (Nat.le_refl _) (by omega)))
  (fun _ _ _ _ _ hs _ _ => hs)
  ⟨⟨⟨_,z2,World.ownsRow_nil _ _ _ _,trivial⟩,z0,z1⟩,hB0⟩
  (fun x => { tmps := #[.pointer (some ⟨u,0,none⟩),.func (.func 170) #[] #[],.pointer (some ⟨W.heap.size,0,none⟩),.pointer (some ⟨W.heap.size + 1,0,none⟩),.slice none 0 0,.pointer (some ⟨W.heap.size + 1 + 1,0,none⟩),.int .i64 x.val,.pointer (some ⟨u,0,none⟩),.pointer (some ⟨u,0,none⟩),.pointer (some ⟨u,0,none⟩),.pointer (some ⟨b 0,0,none⟩),.func (.func 146) #[] #[.pointer (some ⟨W.heap.size + 1 + 1 + 1,0,none⟩)],.int .i64 x.val,.pointer (some ⟨xb b x.val,0,none⟩),undef,undef,undef,undef,undef,undef,undef,undef,undef,undef,undef,undef,undef],defers := [] }) ?assign ?body ?done ?stop
 case assign =>
  intro l x W K hK
  dsimp only [enca]
  gi_wp2
  exact hK
 case body =>
  rintro lp pre x X ⟨⟨⟨v,hbx,hrow,-⟩,bt,bo⟩,hB⟩ hlen hG
  have hx := x.isLt
  have HX := HH.out.on hB
  have HMP : (pre ++ [x]).map Fin.val = pre.map Fin.val ++ [x.val] := by simp
  have hl4 : (ths m (fun i => (i : Int)) (pre.map Fin.val)).length ≤ 4 := by
   have := ths_len m (fun i => (i : Int)) (pre.map Fin.val)
   rw [List.length_map] at this; omega
  have ct := bt.cell
  have q1 := HX.inn
  have CHS := fun W' => Fx.has_any m x.val W'
  cases hm : Fx.has m x.val
  · have HN := Lib.hid (ths_no (v := fun i => (i : Int)) (l := pre.map Fin.val) hm)
    rw [hm] at CHS
    have HB := Lib.hid hB
    have HR := Lib.hid (And.intro hbx (And.intro hrow (And.intro bt bo)))
    clear hB hrow bt bo hm HX z0 z1 z2 z3 hB0 H0 h3 hrow0
    gi_wp2_with (refine ⟨trivial,?_⟩; gi_at_call 60; refine (CallsIn.inRound lp (callsIn_wide.2 (CHS _))).mono ?_; rintro e w' ⟨rfl,rfl⟩)
    refine ⟨KeepsFrom.refl _ _,Kc.refl _ _ _,⟨⟨v,HR.out.1,?_,trivial⟩,HR.out.2.2⟩,HB.out⟩
    rw [HMP,HN.out]; exact HR.out.2.1
  · have HN := Lib.hid (ths_yes (v := fun i => (i : Int)) (l := pre.map Fin.val) hm)
    rw [hm] at CHS
    have HB := Lib.hid hB
    have hv : ∃ a cap,v = .slice a (ths m (fun i => (i : Int)) (pre.map Fin.val)).length cap := by
     rcases hrow.2 with ⟨rfl,h0⟩ | ⟨g,cap,cur,rfl,_⟩
     · rw [h0]; exact ⟨none,0,rfl⟩
     · exact ⟨_,cap,rfl⟩
    obtain ⟨va,vc,hv⟩ := hv
    have HR := Lib.hid (And.intro hbx (And.intro hrow (And.intro bt bo)))
    have HXX := Lib.hid HX
    have HCY := Lib.hid (fun (Y : World) (h : Below X.heap.size X Y) => HCF.out Y (HXX.out.on h) x.val hx hm)
    have HCW := Lib.hid (fun (Y : World) (h : Tn Y b c s u r sh T m) => HCF.out Y h x.val hx hm)
    clear hB hrow bt bo hm HX z0 z1 z2 z3 hB0 H0 h3 hrow0
    gi_wp2_with (refine ⟨trivial,?_⟩; gi_at_call 60; refine (CallsIn.inRound lp (callsIn_wide.2 (CHS _))).mono ?_; rintro e w' ⟨rfl,rfl⟩)
    obtain ⟨y,hy⟩ : ∃ y,y = (x.val : Int) := ⟨_,rfl⟩
    have HY := Lib.hid hy
    have HCZ := Lib.hid (fun (Y : World) (h : Below X.heap.size X Y) => (show Calls Tryz.prog 170 #[.int .i64 x.val] Y fun e w' => e = .returned (.int .i64 y) ∧ Below Y.heap.size Y w' from by rw [hy]; exact HCY.out Y h))
    replace HCW := Lib.hid (fun (Y : World) (h : Tn Y b c s u r sh T m) => (show Calls Tryz.prog 170 #[.int .i64 x.val] Y fun e w' => e = .returned (.int .i64 y) ∧ Below Y.heap.size Y w' from by rw [hy]; exact HCW.out Y h))
    rw [← hy] at HN
    clear hy HCY
    generalize ths m (fun i => (i : Int)) (pre.map Fin.val) = ls at *
    have cl := hbx.cell
    refine Wr.wpIn_writes (aF := ?_) [24,25] [4,5,6] 27 2 [true,true,true,true,false,false,false] [false,false,false,false,false,false,false] [(24,undef),(25,undef)]
     (fun k vs Y => match k with
      | 0 => Below X.heap.size X Y
      | 1 => Below X.heap.size X Y ∧ ∃ ad : Addr,vs.getD 0 undef = .slice (some ad) 1 1 ∧ Y.cell? ad = some (.int .i64 y)
      | 2 => (Below W.heap.size X Y ∧ KeepsOthers X Y ∧ Boxed Y W.heap.size 234 (.pointer (some ⟨u,0,none⟩)) ∧ Boxed Y (W.heap.size + 1) 60 (.func (.func 170) #[] #[])) ∧ Boxed Y (W.heap.size + 1 + 1) 144 v ∧ ∃ g cap,vs.getD 1 undef = .slice (some ⟨g,0,none⟩) (ls.length + 1) cap ∧ Y.ownsRow W.heap.size 3 1 (.slice (some ⟨g,0,none⟩) (ls.length + 1) cap) (ls.length + 1) (cellsI .i64 (ls ++ [y]))
      | _ => (Below W.heap.size X Y ∧ KeepsOthers X Y ∧ Boxed Y W.heap.size 234 (.pointer (some ⟨u,0,none⟩)) ∧ Boxed Y (W.heap.size + 1) 60 (.func (.func 170) #[] #[])) ∧ ∃ v',Boxed Y (W.heap.size + 1 + 1) 144 v' ∧ Y.ownsRow W.heap.size 3 1 v' (ls.length + 1) (cellsI .i64 (ls ++ [y])))
     (fun Y => (Boxed Y (W.heap.size + 1 + 1) 144 v ∧ Boxed Y W.heap.size 234 (.pointer (some ⟨u,0,none⟩)) ∧ Boxed Y (W.heap.size + 1) 60 (.func (.func 170) #[] #[])) ∧ (∀ Z,Below Y.heap.size Y Z → Calls Tryz.prog 170 #[.int .i64 x.val] Z fun e w' => e = .returned (.int .i64 y) ∧ Below Z.heap.size Z w'))
     (by kernel_rfl) (by kernel_rfl) (by kernel_rfl) (by kernel_rfl) (by kernel_rfl) (by kernel_rfl) ?hL ?ha ?hMC ?hMg ?h0 ?hq ?hq2 ?hw ?hend
    case hq =>
     rintro Y ⟨⟨y1,y2,y3⟩,y4⟩
     have k1 := cell_regrown y1.cell
     have k3 := cell_regrown y3.cell
     have cR := reg_call (w := Y) y4
     subst hv
     simp only [Lt.sel,Lt.putAll,List.map_cons,List.map_nil,List.zip_cons_cons,List.zip_nil_right,List.foldl_cons,List.foldl_nil,Act.put,List.setIfInBounds_toArray,List.set_cons_succ,List.set_cons_zero]
     repeat (go_big_quiet_step (exact cR _ _))
     exact rfl
    case ha => rfl
    case hL => rintro ⟨_,_,h⟩; exact h
    case hMC =>
     rintro (_ | _ | _ | k) vs Y hk hM
     · exact ⟨⟨boxed_on HR.out.1 hM,boxed_on HR.out.2.2.1 hM,boxed_on HR.out.2.2.2 hM⟩,fun Z h => HCZ.out Z (grow hM h)⟩
     · exact ⟨⟨boxed_on HR.out.1 hM.1,boxed_on HR.out.2.2.1 hM.1,boxed_on HR.out.2.2.2 hM.1⟩,fun Z h => HCZ.out Z (grow hM.1 h)⟩
     · refine ⟨⟨hM.2.1,hM.1.2.2.1,hM.1.2.2.2⟩,fun Z h => ?_⟩
       have hb := HH.out.on ((HB.out.trans hM.1.1).trans (h.mono (by have := (HB.out.trans hM.1.1).size; omega)))
       exact HCW.out Z hb
     · omega
    case hMg =>
     rintro (_ | _ | _ | k) vs Y Z hM hC
     · exact grow hM hC.to
     · obtain ⟨h1,ad,h2,h3⟩ := hM
       exact ⟨grow h1 hC.to,ad,h2,(hC.to.cell (p := ad) (cell_blk h3)).trans h3⟩
     · obtain ⟨⟨h1,h2,h3,h4⟩,h5,g,cap,h6,h7⟩ := hM
       exact ⟨⟨h1.trans (hC.to.mono (by have := (HB.out.trans h1).size; omega)),h2.trans (keeps_below hC.to),boxed_on h3 hC.to,boxed_on h4 hC.to⟩,boxed_on h5 hC.to,g,cap,h6,owns_grow h7 hC.to⟩
     · obtain ⟨⟨h1,h2,h3,h4⟩,v',h5,h6⟩ := hM
       exact ⟨⟨h1.trans (hC.to.mono (by have := (HB.out.trans h1).size; omega)),h2.trans (keeps_below hC.to),boxed_on h3 hC.to,boxed_on h4 hC.to⟩,v',boxed_on h5 hC.to,owns_grow h6 hC.to⟩
    case h0 => exact fun _ _ => Below.refl _ _
    case hq2 =>
     intro k vs Y _ _ _
     exact rfl
    case hw =>
     rintro (_ | _ | _ | k) st o hs ho vs Y hl hM
     · obtain rfl : 4 = st := by simpa using hs
       obtain rfl := Option.some.inj ho
       match vs,hl with
       | [x1,x2],_ =>
         have hnew := (Boxed.new Y 3 (.int .i64 y)).cell
         have HK := Lib.hid (show Below X.heap.size X (Y.alloc (.cells #[.int .i64 y] 3)) ∧ ∃ ad : Addr,(Value.slice (some ⟨Y.heap.size,0,none⟩) 1 1) = .slice (some ad) 1 1 ∧ (Y.alloc (.cells #[.int .i64 y] 3)).cell? ad = some (.int .i64 y) from
          ⟨hM.alloc hM.size _,⟨Y.heap.size,0,none⟩,rfl,hnew⟩)
         have HM := Lib.hid hM
         clear hM hnew
         simp only [Lt.putAll,List.zip_cons_cons,List.zip_nil_right,List.foldl_cons,List.foldl_nil,Act.put,List.setIfInBounds_toArray,List.set_cons_succ,List.set_cons_zero]
         unfold Oper.wp
         go_simp
         exact HK.out
     · obtain rfl : 5 = st := by simpa using hs
       obtain rfl := Option.some.inj ho
       match vs,hl with
       | [x1,x2],_ =>
         obtain ⟨hb,ad,he,hcell⟩ := hM
         obtain rfl : x1 = .slice (some ad) 1 1 := he
         have hrY := owns_grow HR.out.2.1 hb
         have hbs := HB.out.size
         have hYs := hb.size
         simp only [Lt.putAll,List.zip_cons_cons,List.zip_nil_right,List.foldl_cons,List.foldl_nil,Act.put,List.setIfInBounds_toArray,List.set_cons_succ,List.set_cons_zero]
         refine wp_append_own _ (.tmp 20) (.tmp 24) 144 rfl W.heap.size 3 i0 (.int .i64 0) 1 8 Tryz.underlying144 hi0 hz0 hz1 hz2 rfl (by decide) v ls.length (cellsI .i64 ls) (by rw [hv]; rfl) hrY ad 1 1 [.int .i64 y] rfl rfl ?_ (by simp [Value.oneCell']) (by unfold maxLen; omega) (by omega) (by omega) ?_
         · intro j w hj
           match j,hj with
           | 0,hj => simp at hj; subst hj; simpa [Addr.add] using hcell
         · intro v' w' h1 h2 _
           obtain ⟨g',cap',rfl⟩ := ownsRow_succ h1
           have hgb : Below W.heap.size X w' := ((hb.mono hbs).grown h2 (by omega) fun k e => (World.ownsRow.lt hrY k e).1)
           have hcl : ∀ (k : Nat) (o : Obj),v.ownBlock = some k → Y.heap[k]? = some o → o.isCells = true := fun k o e ho => by
            rcases hrY.2 with ⟨rfl,-⟩ | ⟨g,cap,cur,rfl,-,hh,-⟩
            · cases e
            · obtain rfl : g = k := by simpa [Value.ownBlock] using e
              rw [hh] at ho; cases ho; rfl
           refine ⟨_,rfl,fun d hd hn => absurd (by cases hd; simp) hn,⟨hgb,(keeps_below hb).trans (KeepsOthers.of_grownBy h2 hcl),boxed_row (boxed_on HR.out.2.2.1 hb) (by decide) hrY h2,boxed_row (boxed_on HR.out.2.2.2 hb) (by decide) hrY h2⟩,boxed_row (boxed_on HR.out.1 hb) (by decide) hrY h2,g',cap',rfl,?_⟩
           rw [cellsI_app]; exact h1
     · obtain rfl : 6 = st := by simpa using hs
       obtain rfl := Option.some.inj ho
       match vs,hl with
       | [x1,x2],_ =>
         obtain ⟨⟨k1,k2,k3,k4⟩,k5,g,cap,he,hrY⟩ := hM
         obtain rfl : x2 = .slice (some ⟨g,0,none⟩) (ls.length + 1) cap := he
         have cl := k5.cell
         have fl := k5.frozen
         have hne : some (W.heap.size + 1 + 1) ≠ (Value.slice (some ⟨g,0,none⟩) (ls.length + 1) cap).ownBlock := k5.not_row (by decide) hrY
         have HK := Lib.hid (show (Below W.heap.size X (Y.setCell ⟨W.heap.size + 1 + 1,0,none⟩ (.slice (some ⟨g,0,none⟩) (ls.length + 1) cap)) ∧ KeepsOthers X (Y.setCell ⟨W.heap.size + 1 + 1,0,none⟩ (.slice (some ⟨g,0,none⟩) (ls.length + 1) cap)) ∧ Boxed (Y.setCell ⟨W.heap.size + 1 + 1,0,none⟩ (.slice (some ⟨g,0,none⟩) (ls.length + 1) cap)) W.heap.size 234 (.pointer (some ⟨u,0,none⟩)) ∧ Boxed (Y.setCell ⟨W.heap.size + 1 + 1,0,none⟩ (.slice (some ⟨g,0,none⟩) (ls.length + 1) cap)) (W.heap.size + 1) 60 (.func (.func 170) #[] #[])) ∧ ∃ v',Boxed (Y.setCell ⟨W.heap.size + 1 + 1,0,none⟩ (.slice (some ⟨g,0,none⟩) (ls.length + 1) cap)) (W.heap.size + 1 + 1) 144 v' ∧ (Y.setCell ⟨W.heap.size + 1 + 1,0,none⟩ (.slice (some ⟨g,0,none⟩) (ls.length + 1) cap)).ownsRow W.heap.size 3 1 v' (ls.length + 1) (cellsI .i64 (ls ++ [y])) from
          ⟨⟨k1.setCell (p := ⟨W.heap.size + 1 + 1,0,none⟩) (by show W.heap.size ≤ W.heap.size + 1 + 1; omega) _,k2.trans (KeepsOthers.setCell _ _ _),k3.other (by omega) _,k4.other (by omega) _⟩,_,k5.set _,hrY.kept (grownBy_setCell' Y (W.heap.size + 1 + 1) _) (.inr (Ne.symm hne))⟩)
         clear k1 k2 k3 k4 k5 hrY hne
         simp only [Lt.putAll,List.zip_cons_cons,List.zip_nil_right,List.foldl_cons,List.foldl_nil,Act.put,List.setIfInBounds_toArray,List.set_cons_succ,List.set_cons_zero]
         unfold Oper.wp
         go_simp
         exact HK.out
     · simp at hs
    case hend =>
     intro vs Y hl hM
     obtain ⟨⟨k1,k2,k3,k4⟩,v',k5,k6⟩ := hM
     have HK := Lib.hid (And.intro k1 (And.intro k2 (And.intro k3 (And.intro k4 (And.intro k5 k6)))))
     clear k1 k2 k3 k4 k5 k6
     match vs,hl with
     | [x1,x2],_ =>
       simp only [Lt.putAll,List.zip_cons_cons,List.zip_nil_right,List.foldl_cons,List.foldl_nil,Act.put,List.setIfInBounds_toArray,List.set_cons_succ,List.set_cons_zero]
       gi_wp2
       obtain ⟨k1,k2,k3,k4,k5,k6⟩ := HK.out
       refine ⟨k2.from _,⟨fun p w hp hc => (k1.cell (p := p) hp).trans hc,k2.from _⟩,⟨⟨v',k5,?_,trivial⟩,k3,k4⟩,HB.out.trans k1⟩
       rw [HMP,HN.out,List.length_append]; exact k6
 case done =>
  rintro D ys X hD hys ⟨⟨⟨v,hbx,hrow,-⟩,bt,bo⟩,hB⟩ hK
  have hrow2 := ownsRow_putObj hrow (.deferred none) hK rfl
  rw [hys] at hrow hrow2
  have hcp : ∀ a n cap,v = .slice a n cap → n = (ths m (fun i => (i : Int)) (List.range (NN c))).length → n ≤ cap ∧ cap ≤ 9223372036854775807 := fun a n cap e hn => by
   rcases hrow.2 with ⟨rfl,h0⟩ | ⟨g,cap',cur,rfl,_,_,h1,h2,_⟩
   · cases e; omega
   · cases e; unfold maxLen at h2; omega
  obtain ⟨a,cap,rfl,_⟩ := OwnI.form (show OwnI .i64 _ _ _ v (ths m (fun i => (i : Int)) (List.range (NN c))) from hrow)
  obtain ⟨a',cap',he,hi⟩ := OwnI.form (show OwnI .i64 _ _ _ _ (ths m (fun i => (i : Int)) (List.range (NN c))) from hrow2)
  cases he
  have hbc := hbx.cell
  gi_wp2
  refine ⟨by simp,.inl ⟨_,_,rfl,run_takeDeferred hK,?_⟩⟩
  refine ⟨_,results_tmp rfl _ _ _,?_⟩
  exact ⟨_,_,rfl,hcp _ _ _ rfl rfl,hi,hB.trans (belowK_b (w := W) (Nat.le_refl _) X D _ _ (by omega) hK rfl rfl)⟩
 case stop =>
  rintro D cc pre X _ _ h _
  exact h.elim
end Sg
end Go.Proofs.YticidhbnljdidaaGreatDoor
