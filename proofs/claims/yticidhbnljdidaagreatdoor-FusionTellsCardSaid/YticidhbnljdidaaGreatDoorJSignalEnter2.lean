/-
 What enter of package signal does (the second step of a cycle: who is in): a contract by walking the Go text. Conditions: how a signal lies.
 What shut and Shut of package fusion return: contracts by walking the Go text (a method value is called). Conditions: how a fusion lies.
-/
import Derived.Test.YticidhbnljdidaaGreatDoorSignalWatch
import Derived.Test.YticidhbnljdidaaGreatDoorFixWalks
import Derived.Test.YticidhbnljdidaaGreatDoorRowB
import Derived.Test.YticidhbnljdidaaGreatDoorJFusionArgs2
namespace Go.Proofs.YticidhbnljdidaaGreatDoor
set_option maxRecDepth 100000
open Go.ChangeShapes Go.WideShapes Go.ChangeAt Go.RowKit Go.Deep Go.Shelf
namespace Sg
open Cf (G CA)
open Rf
attribute [local go_sem] Oper.semAt_some
def bl4 (f : Nat → Bool) : List Value := [.bool (f 0),.bool (f 1),.bool (f 2),.bool (f 3)]
theorem bl4_set {f : Nat → Bool} {i : Nat} (hi : i < 4) (x : Bool) : (bl4 f).set i (.bool x) = bl4 fun k => if k = i then x else f k := by
 have : i = 0 ∨ i = 1 ∨ i = 2 ∨ i = 3 := by omega
 rcases this with rfl | rfl | rfl | rfl <;> rfl
theorem bl4_bools {W : World} {g : Nat} {t : TypeId} {f : Nat → Bool} (h : VRow W g t (bl4 f)) : BoolsAt W (some ⟨g,0,none⟩) [f 0,f 1,f 2,f 3] := by
 refine Or.inr ⟨g,0,rfl,fun i hi => ?_⟩
 have : i = 0 ∨ i = 1 ∨ i = 2 ∨ i = 3 := by simp at hi; omega
 rcases this with rfl | rfl | rfl | rfl <;> exact h.cell _ rfl
theorem bits4 (f : Nat → Bool) : Fx.bits [f 0,f 1,f 2,f 3] = mk4 f := by
 unfold mk4
 generalize f 0 = a
 generalize f 1 = b
 generalize f 2 = c
 generalize f 3 = d
 cases a <;> cases b <;> cases c <;> cases d <;> decide +kernel
theorem and_six {o f z : Bool} : Go.bits .and .i64 ((if o = true then 2 else 0) + (if f = true then 4 else 0) + (if z = true then 8 else 0)) 6 = (if o = true then 2 else 0) + (if f = true then 4 else 0) := by
 cases o <;> cases f <;> cases z <;> decide +kernel
theorem ahd_six {c : List Int} {s : Si} {r : Nat → Rw} {i : Nat} (h : (r i).is = true) :
 ∃ z : Int,Go.bits .and .i64 (ahd c s r i) 6 = z ∧ (z == 0) = (!outr c (r i).n && !spk c (s.ch i) (r i).n) ∧ -9223372036854775808 ≤ z ∧ z ≤ 9223372036854775807 := by
 unfold ahd
 rw [if_pos h]
 unfold Jp.trips
 refine ⟨_,and_six,?_,?_⟩
 · unfold outr spk
   generalize Jp.out (G c 1) (G c 2) (r i).n = o
   generalize Jp.far (G c 4) (s.ch i).last (s.ch i).has (r i).n = f
   cases o <;> cases f <;> rfl
 · split <;> split <;> omega
theorem in_mask (c : List Int) (s : Si) (r : Nat → Rw) (sh : Int) : mk4 (mx ((List.range (NN c)).filter fun i => (r i).is) (isin c s r sh) fun _ => false) = inm c s r sh := by
 unfold inm
 congr 1
 funext i
 unfold mx
 by_cases h : i < NN c
 · cases q : (r i).is
   · have : isin c s r sh i = false := by unfold isin; rw [q]; rfl
     rw [if_neg (by simp [q]),this]; simp
   · rw [if_pos (by simp [q,h])]; simp [h]
 · rw [if_neg (by simp [h])]; simp [h]
set_option maxRecDepth 100000 in
set_option maxHeartbeats 3200000 in
theorem enter_any {W : World} {b : Nat → Nat} {c : List Int} {s s' : Si} {u : Nat} {r : Nat → Rw} {sh : Int} {T : Nat → Int} {m : Int} (hR : Cf.Right c) (hst : ∀ i,i < NN c → (s'.ch i).st = (s.ch i).st) (hT : ∀ i,i < NN c → T i = ahd c s r i) (hc : c.length = 21) (H : Tn W b c s' u r sh T m) :
 Calls Tryz.prog 116 #[.pointer (some ⟨u,0,none⟩)] W fun e w' => e = .returned (.tuple #[]) ∧ Tn w' b c s' u r sh T (inm c s r sh) ∧ But (Us b c u) W w' := by
 have hN := NN_34 hR
 refine (callsIn_wide (n := 5)).1 ?_
 refine callsIn_of_wp_marks Tryz.func116 rfl trivial ?_ rfl
 simp only [Tryz.ntmps116,List.size_toArray,List.length_cons,List.length_nil,Nat.reduceAdd,Nat.reduceSub,Array.replicate_succ,Array.replicate_zero,List.push_toArray,List.append_toArray,List.nil_append,List.cons_append]
 gi_wp2_with (refine ⟨trivial,?_⟩; gi_at_call 156; refine (callsIn_wide.2 (valued_any _ _)).mono ?_; rintro e w2 ⟨rfl,rfl⟩)
 have b1 := ((Boxed.new W 234 (.pointer (some ⟨u,0,none⟩))).alloc (.cells #[.bool false,.bool false,.bool false,.bool false] 202)).alloc (.cells #[.pointer (some ⟨u,0,none⟩)] 234)
 have bR := (VRow.new (W.alloc (.cells #[.pointer (some ⟨u,0,none⟩)] 234)) (bl4 fun _ => false) 202).alloc (.cells #[.pointer (some ⟨u,0,none⟩)] 234)
 have b3 := Boxed.new ((W.alloc (.cells #[.pointer (some ⟨u,0,none⟩)] 234)).alloc (.cells #[.bool false,.bool false,.bool false,.bool false] 202)) 234 (.pointer (some ⟨u,0,none⟩))
 rw [World.size_alloc] at bR
 rw [World.size_alloc,World.size_alloc] at b3
 have hB0 := (((Below.refl W.heap.size W).alloc (Nat.le_refl _) (.cells #[.pointer (some ⟨u,0,none⟩)] 234)).alloc (by simp) (.cells #[.bool false,.bool false,.bool false,.bool false] 202)).alloc (by simp; omega) (.cells #[.pointer (some ⟨u,0,none⟩)] 234)
 have hsz : (((W.alloc (.cells #[.pointer (some ⟨u,0,none⟩)] 234)).alloc (.cells #[.bool false,.bool false,.bool false,.bool false] 202)).alloc (.cells #[.pointer (some ⟨u,0,none⟩)] 234)).heap.size = W.heap.size + 3 := by simp
 rw [show (bl4 fun _ => false).toArray = #[.bool false,.bool false,.bool false,.bool false] from rfl] at bR
 generalize ((W.alloc (.cells #[.pointer (some ⟨u,0,none⟩)] 234)).alloc (.cells #[.bool false,.bool false,.bool false,.bool false] 202)).alloc (.cells #[.pointer (some ⟨u,0,none⟩)] 234) = W0 at *
 have H0 := H.on hB0
 have HL := Lib.hid (fun k (hk : Us b c u k) => H.lt hk)
 clear H
 refine range_goes rfl (by omega) (gf := 191) (lb := #[.pointer (some ⟨W.heap.size + 1 + 1,0,none⟩)]) rfl trivial (enters_of Tryz.func191 (by kernel_rfl) rfl)
  (hseq_valued _ (by omega) hc hR H0 b3.cell) Kc.trans (fun X k o o' _ h2 h3 h4 => Kc.put h2 h3 h4) (fun _ => rfl)
  (fun pre X => Tn X b c s' u r sh T m ∧ (Boxed X W.heap.size 234 (.pointer (some ⟨u,0,none⟩)) ∧ VRow X (W.heap.size + 1) 202 (bl4 (mx (pre.map (·.1)) (isin c s r sh) fun _ => false))) ∧ Below W.heap.size W X)
  (fun _ _ _ => False)
  (OwnFrom.and (own_tn _ _ _ _) (OwnFrom.and (OwnFrom.and (own_box _ _ _ _) (own_row _ _ _ _)) (ownFrom_below (Nat.le_refl _) (by omega))))
  (fun _ _ _ _ _ hs _ _ => hs)
  ⟨H0,⟨b1,by rw [List.map_nil,mx_nil]; exact bR⟩,hB0⟩
  (fun x => { tmps := #[.pointer (some ⟨u,0,none⟩),.pointer (some ⟨W.heap.size,0,none⟩),.pointer (some ⟨W.heap.size + 1,0,none⟩),.int .i64 x.1,.pointer (some ⟨xb b x.1,0,none⟩),.pointer (some ⟨u,0,none⟩),.func (.func 191) #[] #[.pointer (some ⟨W.heap.size + 1 + 1,0,none⟩)],.int .i64 x.1,.pointer (some ⟨xb b x.1,0,none⟩),undef,undef,undef,undef,undef,undef,undef,undef,undef,undef,undef,undef,undef,undef,undef,undef,undef,undef,undef,undef,undef,undef,undef,undef,undef,undef,undef,undef,undef,undef,undef,undef],defers := [] }) ?assign ?body ?done ?stop
 case assign =>
  intro l x W K hK
  dsimp only [encv]
  gi_wp2
  exact hK
 case body =>
  rintro lp pre x X ⟨HX,⟨bx1,bxR⟩,hB⟩ hlen hG
  have hx := x.2.1
  have hx4 : x.1 < 4 := by omega
  have hxi : (x.1 : Int) < 4 := by omega
  have c1 := bx1.cell
  have q1 := HX.trp hx4
  have q2 := HX.shut
  have CH := HX.lie.chs x.1 hx
  have q3 := CH.own.cell 4 (v := .bool (s'.ch x.1).st.la) rfl
  obtain ⟨z,hz1,hz2,hz3,hz4⟩ := ahd_six (c := c) (s := s) (r := r) x.2.2
  rw [hT x.1 hx] at q1
  rw [hst x.1 hx] at q3
  have HMP := Lib.hid (show (pre ++ [x]).map (·.1) = pre.map (·.1) ++ [x.1] by simp)
  have fR := bxR.frozen x.1
  have cR : ∃ q,X.cell? ⟨W.heap.size + 1,x.1,none⟩ = some (.bool q) := by
   have : x.1 = 0 ∨ x.1 = 1 ∨ x.1 = 2 ∨ x.1 = 3 := by omega
   rcases this with e | e | e | e <;> (rw [e]; exact ⟨_,bxR.cell _ rfl⟩)
  obtain ⟨q0,cR⟩ := cR
  have CHS := fun W' => Fx.has_any sh x.1 W'
  have HI := Lib.hid (show isin c s r sh x.1 = ((z == 0) && !(s.ch x.1).st.la && !Fx.has sh x.1) by unfold isin; rw [x.2.2,hz2]; cases outr c (r x.1).n <;> cases spk c (s.ch x.1) (r x.1).n <;> cases Fx.has sh x.1 <;> cases (s.ch x.1).st.la <;> rfl)
  have K := Lib.hid (fun (v : Bool) (hv : v = isin c s r sh x.1) => (show (KeepsFrom W0.heap.size X (X.setCell ⟨W.heap.size + 1,x.1,none⟩ (.bool v)) ∧ Kc (Dv b u (W.heap.size + 1 + 1) W0.heap.size) (W0.heap.size + 2) X (X.setCell ⟨W.heap.size + 1,x.1,none⟩ (.bool v))) ∧ Tn (X.setCell ⟨W.heap.size + 1,x.1,none⟩ (.bool v)) b c s' u r sh T m ∧ (Boxed (X.setCell ⟨W.heap.size + 1,x.1,none⟩ (.bool v)) W.heap.size 234 (.pointer (some ⟨u,0,none⟩)) ∧ VRow (X.setCell ⟨W.heap.size + 1,x.1,none⟩ (.bool v)) (W.heap.size + 1) 202 (bl4 (mx (pre.map (·.1) ++ [x.1]) (isin c s r sh) fun _ => false))) ∧ Below W.heap.size W (X.setCell ⟨W.heap.size + 1,x.1,none⟩ (.bool v)) from by
   have hu2 : b 2 < W.heap.size := HL.out _ (.inl ⟨2,by unfold pn; omega,rfl⟩)
   have bb : But (· = W.heap.size + 1) X (X.setCell ⟨W.heap.size + 1,x.1,none⟩ (.bool v)) := But.setCell (p := ⟨_,_,none⟩) (But.refl (· = _) X) (Or.inl rfl) _
   have HT := HX.keep bb fun k hk e => by have := HL.out k hk; omega
   refine ⟨round_kc HX HT bb (B := W.heap.size + 1 + 1) (n₀ := W0.heap.size) fun k e => ⟨by omega,by omega,by omega⟩,HT,⟨(bb.block _ bx1.lt (by omega)).trans bx1,?_⟩,hB.setCell (p := ⟨W.heap.size + 1,x.1,none⟩) (by show W.heap.size ≤ W.heap.size + 1; omega) _⟩
   rw [← mx_snoc _ _ _ _ v hv,← bl4_set hx4]
   exact bxR.set x.1 _))
  clear CH HX bx1 bxR hB hlen hz2 H0 b1 bR b3 hB0 hT hst
  generalize Fx.has sh x.1 = hs at *
  generalize (s.ch x.1).st.la = la at *
  generalize ahd c s r x.1 = ah at *
  replace K := K.out
  cases d1 : (z == 0)
  · rw [d1] at HI
    clear hsz
    have HK := Lib.hid (K false HI.out.symm)
    clear K
    gi_wp2_with (first | (refine ⟨trivial,?_⟩; gi_at_call 60; refine (CallsIn.inRound lp (callsIn_wide.2 (CHS _))).mono ?_; rintro e w' ⟨rfl,rfl⟩) | (refine ⟨trivial,?_⟩))
    obtain ⟨⟨k1,k2⟩,k3,k4,k5⟩ := HK.out
    refine ⟨k1,k2,k3,⟨k4.1,?_⟩,k5⟩
    have := k4.2
    rw [← HMP.out] at this
    exact this
  · cases la
    · cases hs
      · rw [d1] at HI
        clear hsz
        have HK := Lib.hid (K true HI.out.symm)
        clear K
        gi_wp2_with (first | (refine ⟨trivial,?_⟩; gi_at_call 60; refine (CallsIn.inRound lp (callsIn_wide.2 (CHS _))).mono ?_; rintro e w' ⟨rfl,rfl⟩) | (refine ⟨trivial,?_⟩))
        obtain ⟨⟨k1,k2⟩,k3,k4,k5⟩ := HK.out
        refine ⟨k1,k2,k3,⟨k4.1,?_⟩,k5⟩
        have := k4.2
        rw [← HMP.out] at this
        exact this
      · rw [d1] at HI
        clear hsz
        have HK := Lib.hid (K false HI.out.symm)
        clear K
        gi_wp2_with (first | (refine ⟨trivial,?_⟩; gi_at_call 60; refine (CallsIn.inRound lp (callsIn_wide.2 (CHS _))).mono ?_; rintro e w' ⟨rfl,rfl⟩) | (refine ⟨trivial,?_⟩))
        obtain ⟨⟨k1,k2⟩,k3,k4,k5⟩ := HK.out
        refine ⟨k1,k2,k3,⟨k4.1,?_⟩,k5⟩
        have := k4.2
        rw [← HMP.out] at this
        exact this
    · rw [d1] at HI
      clear hsz
      have HK := Lib.hid (K false HI.out.symm)
      clear K
      gi_wp2_with (first | (refine ⟨trivial,?_⟩; gi_at_call 60; refine (CallsIn.inRound lp (callsIn_wide.2 (CHS _))).mono ?_; rintro e w' ⟨rfl,rfl⟩) | (refine ⟨trivial,?_⟩))
      obtain ⟨⟨k1,k2⟩,k3,k4,k5⟩ := HK.out
      refine ⟨k1,k2,k3,⟨k4.1,?_⟩,k5⟩
      have := k4.2
      rw [← HMP.out] at this
      exact this
 case done =>
  rintro D ys X hD hys ⟨HX,⟨bx1,bxR⟩,hB⟩ hK
  rw [hys] at bxR
  have HIM := Lib.hid (in_mask c s r sh)
  generalize (mx ((List.range (NN c)).filter fun i => (r i).is) (isin c s r sh) fun _ => false) = f at *
  gi_wp2
  refine wpIn_wide.2 ?_
  refine Wr.wp_w0 (aF := ?_) [5] 41 [true,true,true,true,true,false]
   (fun k Y => match k with
    | 0 => But (fun _ => False) X Y
    | _ => But (fun k => k = u) X Y ∧ VRow Y u 236 (tnr (b 0) r sh T (mk4 f)))
   (fun Y => But (fun k => k = u) X Y)
   (by kernel_rfl) (by kernel_rfl) (by kernel_rfl) ?ha ?hMC ?hMg ?h0 ?hq ?hw ?hend
  case hq =>
   intro Y hY
   have huW := HL.out u (.inr rfl)
   have k1 := cell_regrown ((show Boxed Y W.heap.size 234 (.pointer (some ⟨u,0,none⟩)) from (hY.block _ bx1.lt (by omega)).trans bx1).cell)
   have hRY := VRow.but bxR hY (by omega)
   have cB := reg_call (w := Y) (fun Z B => (Fx.bits_any (some ⟨W.heap.size + 1,0,none⟩) 4 _ Z (by simp) (bl4_bools (hRY.below B hRY.lt))).mono fun e w' q => ⟨q.1,q.2 ▸ Below.refl _ _⟩)
   rw [bits4] at cB
   simp only [List.length_cons,List.length_nil] at cB
   simp only [Lt.sel]
   repeat (go_big_quiet_step (exact cB _ _))
   exact rfl
  case ha => rfl
  case hMC =>
   rintro (_ | k) Y hM
   · exact hM.mono fun _ q => q.elim
   · exact hM.1
  case hMg =>
   rintro (_ | k) Y Z hM hC
   · exact hM.grow hC.to
   · exact ⟨hM.1.grow hC.to,hM.2.below hC.to hM.2.lt⟩
  case h0 => exact But.refl _ _
  case hw =>
   rintro (_ | k) s1 o hs ho Y hM
   · obtain rfl : 5 = s1 := by simpa using hs
     obtain rfl := Option.some.inj ho
     have hu := HX.trn.but hM fun q => q
     have f1 := hu.frozen 14
     have f2 := hu.cell 14 (v := .int .i64 m) rfl
     have HKK := Lib.hid (show But (fun k => k = u) X (Y.setCell ⟨u,14,none⟩ (.int .i64 (mk4 f))) ∧ VRow (Y.setCell ⟨u,14,none⟩ (.int .i64 (mk4 f))) u 236 (tnr (b 0) r sh T (mk4 f)) from
      ⟨But.setCell (S := fun k => k = u) (p := ⟨u,14,none⟩) (hM.mono fun _ q => q.elim) (.inl rfl) _,hu.set 14 _⟩)
     clear hu
     generalize mk4 f = mf at *
     unfold Oper.wp
     go_simp
     exact HKK.out
   · simp at hs
  case hend =>
   intro Y hM
   have hM : But (fun k => k = u) X Y ∧ VRow Y u 236 (tnr (b 0) r sh T (mk4 f)) := hM
   have huW := HL.out u (.inr rfl)
   have hK' := (hM.1.block D (Array.getElem?_eq_some_iff.1 hK).1 (by omega)).trans hK
   refine ⟨by simp,.inl ⟨_,_,rfl,run_takeDeferred hK',?_⟩⟩
   rw [HIM.out] at hM
   have HY : Tn Y b c s' u r sh T (inm c s r sh) := ⟨HX.lie.keep hM.1 fun k hk e => HX.out (e ▸ hk),hM.2,HX.out⟩
   exact ⟨_,results_none rfl _ _ _,rfl,tn_put HY hK' rfl,but_put ((But.of_below hB).trans (hM.1.mono fun k e => .inr e)) (by omega) _⟩
 case stop =>
  rintro D cc pre X _ _ h _
  exact h.elim
end Sg
open Go.ChangeShapes Go.WideShapes Go.ChangeAt Go.RowKit Go.Deep
namespace Fu
open Cf (G)
open Sg (NN Si Face)
theorem isSh_eq {c : List Int} {m : Fs} (hR : Cf.Right c) {i : Nat} (hi : i < 4) : decide (G c 16 ≤ Fx.count (lamI c m (i : Int))) = isSh c m i := by
 rw [lamI_in c m hi,count_lam]
 unfold isSh
 by_cases h : i < NN c
 · rw [decide_eq_true h,Bool.true_and]
 · rw [decide_eq_false h,Bool.false_and,decide_eq_false_iff_not]
   have h0 : lal c m i = List.replicate 8 false := by
    unfold lal
    rw [List.eq_replicate_iff]
    refine ⟨by simp,fun b hb => ?_⟩
    obtain ⟨j,-,rfl⟩ := List.mem_map.1 hb
    unfold lac
    rw [decide_eq_false h]; rfl
   rw [h0]
   have hl : 1 ≤ G c 16 := by
    obtain ⟨-,-,-,-,-,-,-,-,-,-,-,-,-,-,-,-,h16,-⟩ := hR
    exact h16.1
   have : Fx.trues (List.replicate 8 false) = 0 := rfl
   omega
theorem sh_eq {c : List Int} {m : Fs} (hR : Cf.Right c) : Fx.bits ((List.range 4).map fun i : Nat => decide (G c 16 ≤ Fx.count (lamI c m (i : Int)))) = sh c m := by
 rw [show (List.range 4).map (fun i : Nat => decide (G c 16 ≤ Fx.count (lamI c m (i : Int)))) = (List.range 4).map (isSh c m) from List.map_congr_left fun i hi => isSh_eq hR (List.mem_range.1 hi)]
 exact Sg.bits4 (isSh c m)
set_option maxHeartbeats 1600000 in
theorem shut_any {F : Face} {W : World} {P : Pl} {c : List Int} {m : Fs} (hR : Cf.Right c) (L : Lie F W P c m) :
 Calls Tryz.prog 58 #[.int .i64 (G c 16),.func (.func 21) #[.pointer (some ⟨P.f,0,none⟩)] #[]] W fun e w' => e = .returned (.int .i64 (sh c m)) ∧ Below W.heap.size W w' := by
 have CL := fun (V : World) (B : Below W.heap.size W V) (i : Int) => latched_any hR (L.on B) i
 have CC := fun (V : World) (i : Int) => Fx.count_any (lamI c m i) V
 obtain ⟨f,hf⟩ : ∃ f : Nat → Bool,f = fun i : Nat => decide (G c 16 ≤ Fx.count (lamI c m (i : Int))) := ⟨_,rfl⟩
 have HE := Lib.hid (show Fx.bits ((List.range 4).map f) = sh c m from by rw [hf]; exact sh_eq hR)
 have hB0 := (Below.refl W.heap.size W).alloc (Nat.le_refl _) (.cells (((fillB f 4 0).map Value.bool)).toArray 202)
 have hV0 := VRow.new W ((fillB f 4 0).map Value.bool) 202
 have HF := Lib.hid (fillB_all f 4)
 have hz : ((fillB f 4 0).map Value.bool).toArray = #[.bool false,.bool false,.bool false,.bool false] := rfl
 rw [hz] at hB0 hV0
 have HB0 := Lib.hid hB0
 have HV0 := Lib.hid hV0
 have FE := Lib.hid (show ∀ k : Nat,decide (G c 16 ≤ Fx.count (lamI c m (k : Int))) = f k from fun k => by rw [hf])
 generalize sh c m = res at *
 generalize G c 16 = lim at *
 generalize lamI c m = ll at *
 clear hB0 hV0 hz L hR hf
 go_enter Tryz.func58,Tryz.ntmps58
 go_wp2_with fail
 generalize W.alloc (.cells #[.bool false,.bool false,.bool false,.bool false] 202) = W1 at *
 go_loopg [6,7] 4 (fun gg _ s7 wr => ∃ k : Nat,k + gg = 4 ∧ s7 = .int .i64 k ∧ Hid (VRow wr W.heap.size 202 ((fillB f 4 k).map Value.bool)) ∧ Hid (Below W.heap.size W wr))
 case atStart => exact ⟨0,by omega,rfl,HV0,HB0⟩
 case round =>
  obtain ⟨k,hkg,rfl,HV,HB⟩ := hrel
  by_cases hk : k < 4
  · have hki : (k : Int) < 4 := by omega
    have fk := FE.out k
    go_wp2_with (first
     | (go_at_call 21; refine (CL _ HB.out k).mono ?_; rintro e w1 ⟨rfl,b1⟩; have HB1 := Lib.hid (grow HB.out b1); have HV1 := Lib.hid (onB HV.out b1); clear b1)
     | (go_at_call 99; refine (CC _ k).mono ?_; rintro e w2 ⟨rfl,rfl⟩; obtain ⟨q0,cR⟩ := row_cell HV1.out hk; have fR := HV1.out.frozen k))
    go_roundg (gk - 1)
    case rel => exact ⟨k + 1,by omega,by go_num,Lib.hid (row_next HV1.out),Lib.hid (HB1.out.setCell (p := ⟨W.heap.size,k,none⟩) (Nat.le_refl _) _)⟩
    case measure => omega
  · obtain rfl : k = 4 := by omega
    have HB8 := Lib.hid (bools_row HV.out)
    have CB := Fx.bits_any (some ⟨W.heap.size,0,none⟩) 4 _ wr (by rw [fillB_len]; decide) HB8.out
    rw [fillB_len,HF.out,HE.out] at CB
    go_wp2_with (go_at_call 62; refine CB.mono ?_; rintro e w2 ⟨rfl,rfl⟩)
    go_ret
    exact ⟨rfl,HB.out⟩
theorem Shut_any {F : Face} {W : World} {P : Pl} {c : List Int} {m : Fs} (hR : Cf.Right c) (L : Lie F W P c m) :
 Calls Tryz.prog 19 #[.pointer (some ⟨P.f,0,none⟩)] W fun e w' => e = .returned (.int .i64 (sh c m)) ∧ Below W.heap.size W w' := by
 have CS := shut_any hR L
 have c0 := L.fus.cell 0 (v := .int .i64 (G c 16)) rfl
 have hmf : ∀ (fn : Fn) (first cap : Array Value) (w : World),(Instr.makeFunc fn first cap).run Tryz.prog w = .ok (.func fn first cap) w := fun _ _ _ _ => rfl
 generalize sh c m = res at *
 generalize G c 16 = lim at *
 clear L hR
 go_enter Tryz.func19,Tryz.ntmps19
 go_wp2_with (go_at_call 58; refine CS.mono ?_; rintro e w1 ⟨rfl,b1⟩)
 go_ret
 exact ⟨rfl,b1⟩
end Fu
end Go.Proofs.YticidhbnljdidaaGreatDoor
