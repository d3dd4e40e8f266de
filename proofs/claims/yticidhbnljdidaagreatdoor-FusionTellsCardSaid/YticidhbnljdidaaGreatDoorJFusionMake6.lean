/-
 What New of package fusion returns: contracts by walking the Go text. Conditions: for a configuration that may be: that the table of trips lies in memory.
 What Cycles, Lost, Notes, Rejects and State of package fusion return: contracts by walking the Go text. Conditions: how a fusion lies.
 The live question of layer 20 in numbers: two cycles of a small fusion. No Go text is reached here. No conditions.
 A fusion while a law goes on; the small configuration, and a slot, by package rudderlaw20: contracts by walking the Go text. No conditions beyond those said.
 What the law's live question for layer 20 needs: a cycle of the small fusion. Conditions: how it lies.
 The law's live question for layer 20: the program answers it as it must. A contract by walking the Go text. Conditions: that the table of trips lies in memory as the text lays it.
-/
import Derived.Test.YticidhbnljdidaaGreatDoorJFusionStep4
import Derived.Test.YticidhbnljdidaaGreatDoorSignalNew
import Derived.Deep.LoopGhost
import Derived.Test.YticidhbnljdidaaGreatDoorJSignalEnter2
import Derived.Test.YticidhbnljdidaaGreatDoorJFusionTurn3
import Derived.Test.YticidhbnljdidaaGreatDoorJSignalBound10
import Derived.Test.YticidhbnljdidaaGreatDoorJFusionMath6
import Derived.Test.YticidhbnljdidaaGreatDoorJFusionArgs2
import Derived.Test.YticidhbnljdidaaGreatDoorJFrameDec14
namespace Go.Proofs.YticidhbnljdidaaGreatDoor
set_option maxRecDepth 100000
open Go.ChangeShapes Go.WideShapes Go.ChangeAt Go.RowKit Go.Deep
namespace Fu
open Cf (G CA Box)
open Sg (NN Si Face)
theorem wp_buildTo {P : Program} {o : Oper} {a : Act} {w : World} {K : Act → World → Prop} {Q : Exit → Act → World → Prop} (t : TypeId) (parts : Array (Nat × Operand)) (ho : o.op = .build t parts) (cells : Array Value) (hf : P.built t (parts.map fun (i,x) => (i,a.eval x)).toList = some cells) (h : K (a.put o.dst (.agg cells)) w) : o.wp P a w K Q :=
 wp_build t parts ho (by rw [hf]; rfl) (by rw [hf]; exact h)
theorem list4 {α : Type} {l : List α} (h : l.length = 4) : ∃ a b c d,l = [a,b,c,d] := by
 match l,h with
 | [a,b,c,d],_ => exact ⟨a,b,c,d,rfl⟩
structure Nq (F : Face) (w X : World) (P : Pl) (c : List Int) (n : Nat) (bs : List Bool) (vs : List Value) (Y : World) : Prop where
 cfg : Box Y w.heap.size c
 low : bs.getD 4 false = false → Below X.heap.size X Y
 ord : bs.getD 4 false = true → bs.getD 0 false = true ∧ bs.getD 1 false = true ∧ bs.getD 2 false = true
 t1 : bs.getD 1 false = true → ∃ g,vs.getD 1 undef = .tuple #[ptr g,.int .i64 0]
 c0 : bs.getD 0 false = true → bs.getD 4 false = false → ∃ g S,vs.getD 0 undef = .tuple #[ptr g,.int .i64 0] ∧ F.At Y S g c (Sg.begin c) ∧ ∀ j,S j → X.heap.size ≤ j
 c1 : bs.getD 1 false = true → bs.getD 4 false = false → ∃ g S,vs.getD 1 undef = .tuple #[ptr g,.int .i64 0] ∧ F.At Y S g c (Sg.begin c) ∧ ∀ j,S j → X.heap.size ≤ j
 c2 : bs.getD 2 false = true → bs.getD 4 false = false → ∃ g S,vs.getD 2 undef = ptr g ∧ F.At Y S g c (Sg.begin c) ∧ ∀ j,S j → X.heap.size ≤ j
 c4 : bs.getD 4 false = true → ∃ P',LieN F w Y P' c (n + 1) ∧ P'.f = P.f
theorem Nq.on {F : Face} {w X Y Z : World} {P : Pl} {c : List Int} {n : Nat} {bs : List Bool} {vs : List Value} (h : Nq F w X P c n bs vs Y) (b : Below Y.heap.size Y Z) : Nq F w X P c n bs vs Z :=
 ⟨h.cfg.on b,fun e => grow (h.low e) b,h.ord,h.t1,fun e e2 => by obtain ⟨g,S,q1,q2,q3⟩ := h.c0 e e2; exact ⟨g,S,q1,F.on q2 b,q3⟩,fun e e2 => by obtain ⟨g,S,q1,q2,q3⟩ := h.c1 e e2; exact ⟨g,S,q1,F.on q2 b,q3⟩,
  fun e e2 => by obtain ⟨g,S,q1,q2,q3⟩ := h.c2 e e2; exact ⟨g,S,q1,F.on q2 b,q3⟩,fun e => by obtain ⟨P',q1,q2⟩ := h.c4 e; exact ⟨P',q1.on b,q2⟩⟩
theorem list5 {α : Type} {l : List α} (h : l.length = 5) : ∃ a b c d e,l = [a,b,c,d,e] := by
 match l,h with
 | [a,b,c,d,e],_ => exact ⟨a,b,c,d,e,rfl⟩
theorem list3 {α : Type} {l : List α} (h : l.length = 3) : ∃ a b c,l = [a,b,c] := by
 match l,h with
 | [a,b,c],_ => exact ⟨a,b,c,rfl⟩
theorem trkInfo : (Tryz.prog.info? 94).map (fun i => (i.zero,i.size,i.bytes)) = some (some (.pointer none),1,8) := by kernel_rfl
theorem wpList_append1P {wr : World} {ops : Array Oper} {rest : List Oper} {o : Oper} {a : Act} {Q : Exit → Act → World → Prop} (hgd : o.guard = none) (s x : Operand)
 (ho : o.op = .call { callee := .builtin .append,args := #[s,x],argTypes := #[89,89] })
 (base : Nat) (v : Value) (k : Nat) (l : List Value) (y : Nat) (hs : a.eval s = v) (hx : a.eval x = .slice (some ⟨wr.heap.size,0,none⟩) 1 1) (hown : wr.ownsRow base 94 1 v k l)
 (hk : k < 1000) (hbase : base ≤ wr.heap.size)
 (h : ∀ v' w',w'.ownsRow base 94 1 v' (k + 1) (l ++ [ptr y]) → (wr.alloc (.cells #[ptr y] 94)).grownBy w' v.ownBlock → wpList Tryz.prog ops Q rest (a.put o.dst v') w') :
 wpList Tryz.prog ops Q (o :: rest) a (wr.alloc (.cells #[ptr y] 94)) := by
 obtain ⟨i0,hi0,hz0,hz1,hz2⟩ := info_parts trkInfo
 have hnew := VRow.new wr [ptr y] 94
 refine wpList_append_own _ hgd s x 89 ho base 94 i0 _ 1 8 Tryz.underlying89 hi0 hz0 hz1 hz2 rfl (by omega) v k l hs (hown.alloc _) ⟨wr.heap.size,0,none⟩ 1 1 [ptr y] hx rfl ?_ ?_ (by unfold maxLen; omega) (by omega) (by simp; omega) ?_
 · intro j u hj
   rw [add_plain,Nat.zero_add]
   exact VRow.cell hnew j hj
 · intro u hu
   rw [List.mem_singleton.1 hu]; rfl
 · intro v' w' h1 h2 _
   exact h v' w' h1 h2
set_option maxHeartbeats 800000 in
theorem new_no (c : List Int) (w : World) (hc : c.length = 21) (hR : ¬ Cf.Right c) :
 Calls Tryz.prog 8 #[.agg (CA c)] w fun e w' => e = .returned (.tuple #[.pointer none,.int .i64 2]) ∧ Below w.heap.size w w' := by
 have B1 := Lib.hid (Box.new w c)
 have b1 := Lib.hid ((Below.refl w.heap.size w).alloc (Nat.le_refl _) (.cells (CA c) 24))
 have CR := fun W => Cf.right_any c W hc
 have hr : Cf.rt c = false := decide_eq_false hR
 rw [hr] at CR
 have HC := Lib.hid hc
 clear hr hR hc
 go_enter Tryz.func8,Tryz.ntmps8
 go_wp2_with (first
  | (with_reducible show wpList _ _ _ (⟨some 9,_,_,_,_,_⟩ :: _) _ _; refine Cf.wpList_loadC rfl _ rfl w.heap.size c rfl B1.out HC.out ?_)
  | (go_at_call 23; refine (CR _).mono ?_; rintro e w2 ⟨rfl,b2⟩; have B2 := Lib.hid (grow b1.out b2); clear b2))
 go_ret2
 exact ⟨rfl,B2.out⟩
set_option maxRecDepth 100000 in
set_option maxHeartbeats 6400000 in
theorem new_yes (F : Face) (c : List Int) (w : World) (hc : c.length = 21) (hR : Cf.Right c) (hg : 0 < w.heap.size) :
 Calls Tryz.prog 8 #[.agg (CA c)] w fun e w' => ∃ P : Pl,e = .returned (.tuple #[ptr P.f,.int .i64 0]) ∧ Lie F w' P c (begin c) ∧ Below w.heap.size w w' ∧ ∀ b,P.col b ≠ 0 → w.heap.size ≤ b := by
 have B1 := Lib.hid (Box.new w c)
 have b1 := Lib.hid ((Below.refl w.heap.size w).alloc (Nat.le_refl _) (.cells (CA c) 24))
 have CR := fun W => Cf.right_any c W hc
 have hr : Cf.rt c = true := decide_eq_true hR
 rw [hr] at CR
 have CN := fun W => F.new_yes c W hc hR
 have h34 := Sg.NN_34 hR
 have HN := Lib.hid h34
 have hNE := Sg.NN_eq hR
 have HC := Lib.hid hc
 have HG := Lib.hid hg
 clear hr hR hc h34 hg
 go_enter Tryz.func8,Tryz.ntmps8
 go_upto_region 3 with (first
  | (with_reducible show wpList _ _ _ (⟨some 9,_,_,_,_,_⟩ :: _) _ _; refine Cf.wpList_loadC rfl _ rfl w.heap.size c rfl B1.out HC.out ?_)
  | (go_at_call 23; refine (CR _).mono ?_; rintro e w2 ⟨rfl,b2⟩; have B2 := Lib.hid (B1.out.on b2); have c2 := Lib.hid (grow b1.out b2); clear b2))
 have hz2 := Lib.hid (show w.heap.size + 1 ≤ w2.heap.size by have := B2.out.lt; omega)
 clear CR B1 b1
 refine Ws.wp_sets (aF := ?_) [14,15,16,4] [2,3,4,5] 53 [true,true,false,false,false,false] [(14,undef),(15,undef),(16,undef),(4,undef)]
  (Fq w2 c)
  (fun Y => Below w2.heap.size w2 Y)
  (by kernel_rfl) (by kernel_rfl) (by kernel_rfl) (by kernel_rfl) ?ha ?hMC ?hMg ?h0 ?hq ?hw ?hend
 case ha => rfl
 case hMC => exact fun bs vs Y h => h.below
 case hMg => exact fun bs vs Y Z h hC => h.on hC.to
 case h0 => exact fun vs _ => ⟨Below.refl _ _,fun e => (by cases e),fun e => (by cases e),fun e => (by cases e),fun e => (by cases e)⟩
 case hq =>
  intro Y hY
  have BY := B2.out.on hY
  have k16 := cell_regrown (BY.at HC.out 16 (by omega))
  clear BY hY
  simp only [Lt.sel,Lt.putAll,List.map_cons,List.map_nil,List.zip_cons_cons,List.zip_nil_right,List.foldl_cons,List.foldl_nil,Act.put,List.setIfInBounds_toArray,List.set_cons_succ,List.set_cons_zero]
  repeat (go_big_quiet_step (fail))
  exact rfl
 case hw =>
  rintro bs (_ | _ | _ | _ | k) st o hbl hs ho hk hpre vs Y hv hM
  · obtain rfl : 2 = st := by simpa using hs
    obtain rfl := Option.some.inj ho
    obtain ⟨x0,x1,x2,x3,rfl⟩ := list4 hv
    obtain ⟨y0,y1,y2,y3,rfl⟩ := list4 hbl
    refine Wr.wp_fn (f := 32) (args := #[]) (by kernel_rfl) (Rg.new_any Y) ?_
    rintro e Z ⟨rfl,rfl⟩
    have HZ := hM.on ((Below.refl Y.heap.size Y).alloc (Nat.le_refl _) (.cells (cellsI .i64 (Rg.rgc [])).toArray 168))
    exact ⟨_,rfl,_,rfl,fun d hd hn => (by cases hd; exact absurd (by decide) hn),⟨HZ.below,fun _ => ⟨_,rfl,hM.below.size,VRow.new _ _ _⟩,HZ.c1,HZ.c2,HZ.c3⟩⟩
  · obtain rfl : 3 = st := by simpa using hs
    obtain ⟨x0,x1,x2,x3,rfl⟩ := list4 hv
    obtain ⟨y0,y1,y2,y3,rfl⟩ := list4 hbl
    have ho' := Option.some.inj ho
    obtain rfl : y0 = true := hpre 0 2 rfl (by rw [← ho']; kernel_rfl)
    obtain ⟨r,e0,h1,h2⟩ := hM.c0 rfl
    obtain rfl : x0 = ptr r := e0
    have HK := Lib.hid (show Fq w2 c [true,true,y2,y3] [ptr r,.agg (fc0 c (.slice none 0 0) nul r).toArray,x2,x3] Y from ⟨hM.below,hM.c0,fun _ => ⟨r,rfl,h1,h2⟩,hM.c2,hM.c3⟩)
    have BR := fbuilt c r
    clear hM h1 h2
    obtain rfl := ho'
    generalize (fc0 c (.slice none 0 0) nul r).toArray = RR at *
    simp only [Lt.putAll,List.zip_cons_cons,List.zip_nil_right,List.foldl_cons,List.foldl_nil,Act.put,List.setIfInBounds_toArray,List.set_cons_succ,List.set_cons_zero]
    refine wp_buildTo 93 _ rfl RR (by simp only [List.map_toArray,List.map_cons,List.map_nil]; exact BR) ?_
    exact ⟨_,rfl,fun d hd hn => (by cases hd; exact absurd (by decide) hn),HK.out⟩
  · obtain rfl : 4 = st := by simpa using hs
    obtain ⟨x0,x1,x2,x3,rfl⟩ := list4 hv
    obtain ⟨y0,y1,y2,y3,rfl⟩ := list4 hbl
    have ho' := Option.some.inj ho
    obtain rfl : y1 = true := hpre 1 3 rfl (by rw [← ho']; kernel_rfl)
    obtain ⟨r,e0,h1,h2⟩ := hM.c1 rfl
    obtain rfl : x1 = .agg (fc0 c (.slice none 0 0) nul r).toArray := e0
    have hB := hM.on ((Below.refl Y.heap.size Y).alloc (Nat.le_refl _) (.cells (fc0 c (.slice none 0 0) nul r).toArray 93))
    have HK := Lib.hid (show Fq w2 c [y0,true,true,y3] [x0,.agg (fc0 c (.slice none 0 0) nul r).toArray,ptr Y.heap.size,x3] (Y.alloc (.cells (fc0 c (.slice none 0 0) nul r).toArray 93)) from
     ⟨hB.below,hB.c0,hB.c1,fun _ => ⟨r,Y.heap.size,rfl,h1,IRow.lt h2,ring_on h2 ((Below.refl Y.heap.size Y).alloc (Nat.le_refl _) _),VRow.new _ _ _⟩,hB.c3⟩)
    clear hM h1 h2 hB
    obtain rfl := ho'
    generalize (fc0 c (.slice none 0 0) nul r).toArray = RR at *
    simp only [Lt.putAll,List.zip_cons_cons,List.zip_nil_right,List.foldl_cons,List.foldl_nil,Act.put,List.setIfInBounds_toArray,List.set_cons_succ,List.set_cons_zero]
    unfold Oper.wp
    go_simp
    exact HK.out
  · obtain rfl : 5 = st := by simpa using hs
    obtain ⟨x0,x1,x2,x3,rfl⟩ := list4 hv
    obtain ⟨y0,y1,y2,y3,rfl⟩ := list4 hbl
    have ho' := Option.some.inj ho
    obtain rfl : y2 = true := hpre 2 4 rfl (by rw [← ho']; kernel_rfl)
    have HK := Lib.hid (show Fq w2 c [y0,y1,true,true] [x0,x1,x2,x2] Y from ⟨hM.below,hM.c0,hM.c1,hM.c2,hM.c2⟩)
    clear hM
    obtain rfl := ho'
    simp only [Lt.putAll,List.zip_cons_cons,List.zip_nil_right,List.foldl_cons,List.foldl_nil,Act.put,List.setIfInBounds_toArray,List.set_cons_succ,List.set_cons_zero]
    unfold Oper.wp
    go_simp
    exact HK.out
  · simp at hs
 case hend =>
  intro vs Y hv hM
  obtain ⟨x0,x1,x2,x3,rfl⟩ := list4 hv
  clear hv
  obtain ⟨r,f,e3,h1,h2,h3,h4⟩ := hM.c3 rfl
  obtain rfl : x3 = ptr f := e3
  have T0 := Lib.hid (show Tm w Y c f r (fun _ => 0) 0 (.slice none 0 0) from ⟨grow c2.out hM.below,B2.out.on hM.below,h4,h3,fun i hi => by omega,World.ownsRow_nil _ _ _ _,⟨by have := hz2.out; omega,h2⟩,fun i hi => by omega,fun i j _ hj => by omega⟩)
  clear h1 h2 h3 h4 hM B2 c2
  simp only [Lt.putAll,List.zip_cons_cons,List.zip_nil_right,List.foldl_cons,List.foldl_nil,Act.put,List.setIfInBounds_toArray,List.set_cons_succ,List.set_cons_zero]
  have k0 := T0.out.cfg.at HC.out 0 (by omega)
  rw [← hNE] at k0
  unfold ptr
  go_wp2_with fail
  clear k0
  go_loopg [19] (NN c) (fun gg s19 wr => ∃ (k : Nat) (h : Nat → Nat) (v : Value),k + gg = NN c ∧ s19 = .int .i64 k ∧ Hid (Tm w wr c f r h k v))
  case atStart => exact ⟨0,_,_,by omega,rfl,T0⟩
  case round =>
   obtain ⟨k,h,v,hkg,rfl,H⟩ := hrel
   clear T0
   by_cases hk : k < NN c
   · have hki : (k : Int) < NN c := by omega
     have hk4 : (k : Int) < 4 := by have := HN.out; omega
     have CF := Fh.new_yes k wr (by have := HN.out; omega)
     have hb1 := (Below.refl wr.heap.size wr).alloc (Nat.le_refl _) (.cells (Fh.trk k 0 false [0,0,0,0,0,0,0]).toArray 170)
     have H1 := Lib.hid (H.out.on hb1)
     have V1 := Lib.hid (VRow.new wr (Fh.trk k 0 false [0,0,0,0,0,0,0]) 170)
     have U1 := Lib.hid (show f < wr.heap.size ∧ ∀ i,i < k → h i < wr.heap.size from ⟨H.out.fus.lt,fun i hi => (H.out.trk i hi).lt⟩)
     clear hb1
     generalize wr.alloc (.cells (Fh.trk k 0 false [0,0,0,0,0,0,0]).toArray 170) = w5 at *
     generalize hx : wr.heap.size = x at *
     go_upto_region 8 with (go_at_call 33; refine CF.mono ?_; rintro e w6 ⟨rfl,rfl⟩)
     have cv := H1.out.fus.cell 1 (v := v) rfl
     have hb2 := Lib.hid ((Below.refl w6.heap.size w6).alloc (Nat.le_refl _) (.cells #[ptr x] 94))
     have H2 := Lib.hid (H1.out.on hb2.out)
     have V2 := Lib.hid (onB V1.out hb2.out)
     have HRW := Lib.hid H1.out.row
     have HX := Lib.hid (fun (v' : Value) (Z : World) (g : (w6.alloc (.cells #[ptr x] 94)).grownBy Z v.ownBlock) (o : Z.ownsRow w.heap.size 94 1 v' (k + 1) (prow h k ++ [ptr x])) =>
      (show Tm w (Z.setCell ⟨f,1,none⟩ v') c f r (upd h k x) (k + 1) v' from H2.out.next V2.out (by have := U1.out.1; omega) (fun i hi => U1.out.2 i hi) g (by rw [prow_next]; exact o)))
     have HFR := Lib.hid (fun (Z : World) (g : (w6.alloc (.cells #[ptr x] 94)).grownBy Z v.ownBlock) => (show VRow Z f 93 (fc0 c v nul r) from Sg.vrow_row H2.out.fus (by decide) H2.out.row g))
     have hbs := Lib.hid (show w.heap.size ≤ w6.heap.size from H1.out.below.size)
     clear hb2 H1 V1 H2 V2
     unfold ptr at HX HFR
     go_wp2_with ((with_reducible show wpList _ _ _ (⟨some 34,_,_,_,_,_⟩ :: _) _ _); refine wpList_append1P rfl _ _ rfl w.heap.size v k _ x rfl rfl HRW.out (by have := HN.out; omega) hbs.out ?_; intro v' Z o1 g1; obtain ⟨g',cap',rfl⟩ := ownsRow_succ o1; have HT := Lib.hid (HX.out _ Z g1 o1); have cz := (HFR.out Z g1).cell 1 (v := v) rfl; have fz := (HFR.out Z g1).frozen 1; clear o1 g1)
     go_roundg (gk - 1)
     case rel => exact ⟨k + 1,_,_,by omega,by go_num,HT⟩
     case measure => omega
   · obtain rfl : k = NN c := by omega
     obtain ⟨P,N0,hpf,rfl⟩ := LieN.start (by have := HN.out; omega) (by have := HN.out; omega) H.out
     have HP := Lib.hid hpf
     have HN0 := Lib.hid N0
     clear N0
     go_wp2_with fail
     go_loopg [38] 8 (fun g2 s38 wx => ∃ (n : Nat) (Q : Pl),n + g2 = 8 ∧ s38 = .int .i64 n ∧ Hid (LieN F w wx Q c n) ∧ Hid (Q.f = f))
     case atStart => exact ⟨0,P,by omega,rfl,HN0,HP⟩
     case round =>
      obtain ⟨n,Q,hng,rfl,H,HQ⟩ := hrel
      by_cases hn : n < 8
      · have hni : (n : Int) < 8 := by omega
        have hqf := HQ.out
        go_upto_region 13 with fail
        have HB1 := Lib.hid (show ∀ Y,Box Y w.heap.size c → ∀ W,(∃ p : Regrown,W = Sort.grow (redrawn Y p.d) p.os) → Box W w.heap.size c by rintro Y hY W ⟨p,rfl⟩; exact hY.on (below_regrown Y p.d p.os))
        refine Ws.wp_sets (aF := ?_) [45,41,46] [3,4,5,6,10] 53 [true,true,true,false,false,false,false,true,true,true,false] [(45,undef),(41,undef),(46,undef),(47,.int .i64 0)]
         (Nq F w wr Q c n)
         (fun Y => Box Y w.heap.size c)
         (by kernel_rfl) (by kernel_rfl) (by kernel_rfl) (by kernel_rfl) ?ha ?hMC ?hMg ?h0 ?hq ?hw ?hend
        case ha => rfl
        case hMC => exact fun bs vs Y h => h.cfg
        case hMg => exact fun bs vs Y Z h hC => h.on hC.to
        case h0 => exact fun vs _ => ⟨H.out.cfg,fun _ => Below.refl _ _,fun e => (by cases e),fun e => (by cases e),fun e => (by cases e),fun e => (by cases e),fun e => (by cases e),fun e => (by cases e)⟩
        case hq =>
         intro Y hY
         have HY := Lib.hid (HB1.out Y hY)
         clear hY
         simp only [Lt.sel,Lt.putAll,List.map_cons,List.map_nil,List.zip_cons_cons,List.zip_nil_right,List.foldl_cons,List.foldl_nil,Act.put,List.setIfInBounds_toArray,List.set_cons_succ,List.set_cons_zero]
         repeat (first
          | (with_reducible show wpQuiet _ _ _ _ (⟨some 44,_,_,_,_,_⟩ :: _) _
             refine Sg.wpQuiet_cfg rfl _ rfl w.heap.size c rfl HY.out HC.out ?_
             simp only [Act.put,List.setIfInBounds_toArray,List.set_cons_succ,List.set_cons_zero])
          | go_big_quiet_step (fail))
         exact rfl
        case hw =>
         rintro bs (_ | _ | _ | _ | _ | q) st o hbl hs ho hk hpre vs Y hv hM
         · obtain rfl : 3 = st := by simpa using hs
           obtain rfl := Option.some.inj ho
           obtain ⟨x0,x1,x2,rfl⟩ := list3 hv
           obtain ⟨y0,y1,y2,y3,y4,rfl⟩ := list5 hbl
           obtain rfl : y0 = false := hk
           have h4 : y4 = false := by
            cases y4
            · rfl
            · exact absurd (hM.ord rfl).1 (by simp)
           subst h4
           refine Wr.wp_fn (f := 34) (args := #[.agg (CA c)]) (by kernel_rfl) (CN Y) ?_
           rintro e Z ⟨⟨g,S,rfl,a1,a2⟩,b1⟩
           have hl := hM.low rfl
           have hls := hl.size
           exact ⟨_,rfl,_,rfl,fun d hd hn => (by cases hd; exact absurd (by decide) hn),⟨hM.cfg.on b1,fun _ => grow hl b1,fun e => (by cases e),(hM.on b1).t1,fun _ _ => ⟨g,S,rfl,a1,fun j hj => Nat.le_trans hls (a2 j hj)⟩,(hM.on b1).c1,(hM.on b1).c2,fun e => (by cases e)⟩⟩
         · obtain rfl : 4 = st := by simpa using hs
           obtain ⟨x0,x1,x2,rfl⟩ := list3 hv
           obtain ⟨y0,y1,y2,y3,y4,rfl⟩ := list5 hbl
           have ho' := Option.some.inj ho
           obtain rfl : y0 = true := hpre 0 3 rfl (by rw [← ho']; kernel_rfl)
           obtain rfl : y1 = false := hk
           have h4 : y4 = false := by
            cases y4
            · rfl
            · exact absurd (hM.ord rfl).2.1 (by simp)
           subst h4
           have HK := Lib.hid (show Nq F w wr Q c n [true,true,y2,y3,false] [x0,x0,x2] Y from ⟨hM.cfg,hM.low,fun e => (by cases e),fun _ => by obtain ⟨g,S,q,-⟩ := hM.c0 rfl rfl; exact ⟨g,q⟩,hM.c0,fun _ => hM.c0 rfl,hM.c2,fun e => (by cases e)⟩)
           clear hM
           obtain rfl := ho'
           simp only [Lt.putAll,List.zip_cons_cons,List.zip_nil_right,List.foldl_cons,List.foldl_nil,Act.put,List.setIfInBounds_toArray,List.set_cons_succ,List.set_cons_zero]
           unfold Oper.wp
           go_simp
           exact HK.out
         · obtain rfl : 5 = st := by simpa using hs
           obtain ⟨x0,x1,x2,rfl⟩ := list3 hv
           obtain ⟨y0,y1,y2,y3,y4,rfl⟩ := list5 hbl
           have ho' := Option.some.inj ho
           obtain rfl : y1 = true := hpre 1 4 rfl (by rw [← ho']; kernel_rfl)
           obtain rfl : y2 = false := hk
           have h4 : y4 = false := by
            cases y4
            · rfl
            · exact absurd (hM.ord rfl).2.2 (by simp)
           subst h4
           obtain ⟨g,S,q1,q2,q3⟩ := hM.c1 rfl rfl
           obtain rfl : x1 = .tuple #[ptr g,.int .i64 0] := q1
           have HK := Lib.hid (show Nq F w wr Q c n [y0,true,true,y3,false] [x0,.tuple #[ptr g,.int .i64 0],ptr g] Y from ⟨hM.cfg,hM.low,fun e => (by cases e),hM.t1,hM.c0,hM.c1,fun _ _ => ⟨g,S,rfl,q2,q3⟩,fun e => (by cases e)⟩)
           clear hM q2 q3
           obtain rfl := ho'
           simp only [Lt.putAll,List.zip_cons_cons,List.zip_nil_right,List.foldl_cons,List.foldl_nil,Act.put,List.setIfInBounds_toArray,List.set_cons_succ,List.set_cons_zero]
           unfold Oper.wp
           go_simp
           exact HK.out
         · obtain rfl : 6 = st := by simpa using hs
           obtain ⟨x0,x1,x2,rfl⟩ := list3 hv
           obtain ⟨y0,y1,y2,y3,y4,rfl⟩ := list5 hbl
           have ho' := Option.some.inj ho
           obtain rfl : y1 = true := hpre 1 4 rfl (by rw [← ho']; kernel_rfl)
           obtain rfl : y3 = false := hk
           obtain ⟨g,q1⟩ := hM.t1 rfl
           obtain rfl : x1 = .tuple #[ptr g,.int .i64 0] := q1
           have HK := Lib.hid (show Nq F w wr Q c n [y0,true,y2,true,y4] [x0,.tuple #[ptr g,.int .i64 0],x2] Y from ⟨hM.cfg,hM.low,hM.ord,hM.t1,hM.c0,hM.c1,hM.c2,hM.c4⟩)
           clear hM
           obtain rfl := ho'
           simp only [Lt.putAll,List.zip_cons_cons,List.zip_nil_right,List.foldl_cons,List.foldl_nil,Act.put,List.setIfInBounds_toArray,List.set_cons_succ,List.set_cons_zero]
           unfold Oper.wp
           go_simp
           exact ⟨rfl,HK.out⟩
         · obtain rfl : 10 = st := by simpa using hs
           obtain ⟨x0,x1,x2,rfl⟩ := list3 hv
           obtain ⟨y0,y1,y2,y3,y4,rfl⟩ := list5 hbl
           have ho' := Option.some.inj ho
           obtain rfl : y2 = true := hpre 2 5 rfl (by rw [← ho']; kernel_rfl)
           obtain rfl : y1 = true := hpre 1 4 rfl (by rw [← ho']; kernel_rfl)
           obtain rfl : y0 = true := hpre 0 3 rfl (by rw [← ho']; kernel_rfl)
           obtain rfl : y4 = false := hk
           obtain ⟨g,S,q1,q2,q3⟩ := hM.c2 rfl rfl
           obtain rfl : x2 = ptr g := q1
           have K := H.out.on (hM.low rfl)
           have cz := K.fus.cell (2 + n) (v := pgs Q.g n n) (by rcases eight hn with rfl | rfl | rfl | rfl | rfl | rfl | rfl | rfl <;> rfl)
           have fz := K.fus.frozen (2 + n)
           obtain ⟨P',n1,n2⟩ := H.out.next hn q2 q3 (hM.low rfl)
           have HK := Lib.hid (show Nq F w wr Q c n [true,true,true,y3,true] [x0,x1,ptr g] (Y.setCell ⟨Q.f,2 + n,none⟩ (ptr g)) from ⟨n1.cfg,fun e => (by cases e),fun _ => ⟨rfl,rfl,rfl⟩,hM.t1,fun _ e => (by cases e),fun _ e => (by cases e),fun _ e => (by cases e),fun _ => ⟨P',n1,n2⟩⟩)
           clear hM K n1 n2 q2 q3
           obtain rfl := ho'
           unfold ptr at HK ⊢
           rw [hqf] at cz fz HK
           simp only [Lt.putAll,List.zip_cons_cons,List.zip_nil_right,List.foldl_cons,List.foldl_nil,Act.put,List.setIfInBounds_toArray,List.set_cons_succ,List.set_cons_zero]
           unfold Oper.wp
           go_simp
           exact HK.out
         · simp at hs
        case hend =>
         intro vs Y hv hM
         obtain ⟨x0,x1,x2,rfl⟩ := list3 hv
         obtain ⟨P',n1,n2⟩ := hM.c4 rfl
         have HN1 := Lib.hid n1
         have HF1 := Lib.hid (n2.trans HQ.out)
         clear n1 n2 hM hv
         simp only [Lt.putAll,List.zip_cons_cons,List.zip_nil_right,List.foldl_cons,List.foldl_nil,Act.put,List.setIfInBounds_toArray,List.set_cons_succ,List.set_cons_zero]
         go_wp2_with fail
         go_roundg (gk - 1)
         case rel => exact ⟨n + 1,P',by omega,by go_num,HN1,HF1⟩
         case measure => omega
      · obtain rfl : n = 8 := by omega
        have HL := Lib.hid (H.out.full HG.out)
        have HNW := Lib.hid (show ∀ b,Q.col b ≠ 0 → w.heap.size ≤ b from fun b hb => by have := H.out.new b hb; omega)
        have HB := Lib.hid H.out.below
        have hqf := HQ.out
        subst hqf
        clear H
        go_wp2_with fail
        go_ret2
        exact ⟨Q,rfl,HL.out,HB.out,HNW.out⟩
end Fu
namespace Fu
open Cf (G)
open Sg (NN Si Face lav)
section
variable {F : Face} {W : World} {P : Pl} {c : List Int} {m : Fs}
theorem cycles_any (L : Lie F W P c m) : Calls Tryz.prog 18 #[.pointer (some ⟨P.f,0,none⟩)] W fun e w' => e = .returned (.int .i64 m.k) ∧ W = w' := by
 have c11 := L.fus.cell 11 (v := .int .i64 m.k) rfl
 clear L
 go_enter Tryz.func18,Tryz.ntmps18
 go_wp2
 go_ret
 exact ⟨rfl,rfl⟩
theorem lost_any (L : Lie F W P c m) (hl : m.notes.length < 1099511627776) : Calls Tryz.prog 20 #[.pointer (some ⟨P.f,0,none⟩)] W fun e w' => e = .returned (.int .i64 (Rg.lost m.notes : Nat)) ∧ W = w' := by
 have c10 := L.fus.cell 10 (v := ptr P.r) rfl
 have CL := Rg.lost_any P.r m.notes W L.rng hl
 clear L
 unfold ptr at c10
 go_enter Tryz.func20,Tryz.ntmps20
 go_wp2_with (go_at_call 59; refine CL.mono ?_; rintro e w1 ⟨rfl,rfl⟩)
 go_ret
 exact ⟨rfl,rfl⟩
theorem notes_any (L : Lie F W P c m) (hl : m.notes.length < 1099511627776) : Calls Tryz.prog 17 #[.pointer (some ⟨P.f,0,none⟩)] W (Rg.RetN W (Rg.lasts m.notes)) := by
 have c10 := L.fus.cell 10 (v := ptr P.r) rfl
 have CL := Rg.all_any P.r m.notes W L.rng hl
 clear L
 unfold ptr at c10
 unfold Rg.RetN at *
 go_enter Tryz.func17,Tryz.ntmps17
 go_wp2_with (go_at_call 57; refine CL.mono ?_; rintro e w1 ⟨a,cap,rfl,i1,b1⟩; have I1 := Lib.hid i1; have B1 := Lib.hid b1; clear i1 b1)
 go_ret
 exact ⟨a,cap,rfl,I1.out,B1.out⟩
theorem agg7 (w : World) : (isAgg 61).run Tryz.prog w = .ok true w := by simp [isAgg,run_underlying Tryz.underlying61]
theorem size7 : (Tryz.prog.info? 61).map (·.size) = some 7 := by kernel_rfl
set_option maxHeartbeats 800000 in
theorem rejects_yes (L : Lie F W P c m) {i : Nat} (hi : i < NN c) (h7 : (m.t i).n.length = 7) : Calls Tryz.prog 22 #[.pointer (some ⟨P.f,0,none⟩),.int .i64 i] W fun e w' => e = .returned (.agg (cellsI .i64 (m.t i).n).toArray) ∧ Below W.heap.size W w' := by
 have hb := (Below.refl W.heap.size W).alloc (Nat.le_refl _) (.cells (cellsI .i64 (List.replicate 7 0)).toArray 61)
 have L1 := L.on hb
 have c1 := L1.fus.cell 1 (v := .slice (some ⟨P.tb,0,none⟩) (NN c) P.cap) rfl
 have tc : (W.alloc (.cells (cellsI .i64 (List.replicate 7 0)).toArray 61)).cell? ⟨P.tb,i,none⟩ = some (ptr (P.h i)) := by
  obtain ⟨cs,t,h1,h2⟩ := L1.tab
  exact h1.cell i (h2 i hi)
 have CC := Fh.counts_any (P.h i) (i : Int) (m.t i).last (m.t i).has (m.t i).n _ (L1.trk i hi) h7
 have V0 := Lib.hid (VRow.new W (cellsI .i64 (List.replicate 7 0)) 61)
 have hii : (i : Int) < NN c := by omega
 have HB := Lib.hid hb
 unfold ptr at tc
 generalize (m.t i).n = q at *
 have H7 := Lib.hid h7
 clear L L1 hb h7
 go_enter Tryz.func22,Tryz.ntmps22
 go_upto_region 1 with ((with_reducible show wpList _ _ _ (⟨_,.alloc 61,_,_,_,_⟩ :: _) _ _); refine wpList_lay rfl _ rfl (cellsI .i64 (List.replicate 7 0)) (fun _ => by kernel_rfl) ?_)
 generalize W.alloc (.cells (cellsI .i64 (List.replicate 7 0)).toArray 61) = W1 at *
 go_wp2_with (first
  | (go_at_call 63; refine CC.mono ?_; rintro e w1 ⟨rfl,b1⟩; have B1 := Lib.hid (grow HB.out b1); have V1 := Lib.hid (onB V0.out b1); clear b1)
  | ((with_reducible show wpList _ _ _ (⟨none,.store _ (.tmp 4) _,_,_,_,_⟩ :: _) _ _); refine VB.store rfl _ _ rfl W.heap.size (cellsI .i64 q) rfl rfl V1.out (by rw [cellsI_len,H7.out]; exact size7) (by rw [cellsI_len,cellsI_len,H7.out]; rfl) (all_oneCell_toArray (cellsI_one _ _)) ?_))
 exact bodyPost_ret (VB.ret1 rfl rfl (agg7 _) (by rw [cellsI_len,H7.out]; exact size7) (V1.out.put (cellsI .i64 q))) rfl ⟨rfl,Below.put B1.out (Nat.le_refl _) _⟩
theorem aggLt (w : World) : (isAgg 54).run Tryz.prog w = .ok true w := by simp [isAgg,run_underlying Tryz.underlying54]
theorem sizeLt (s : Lc.St) : (Tryz.prog.info? 54).map (·.size) = some (lav s).length := by
 rw [show (lav s).length = 5 from rfl]; kernel_rfl
set_option maxHeartbeats 800000 in
theorem state_yes (hR : Cf.Right c) (L : Lie F W P c m) {i j : Nat} (hi : i < NN c) (hj : j < 8) : Calls Tryz.prog 16 #[.pointer (some ⟨P.f,0,none⟩),.int .i64 i,.int .i64 j] W fun e w' => e = .returned (.tuple #[.agg (lav ((m.s j).ch i).st).toArray,.bool true]) ∧ Below W.heap.size W w' := by
 have hb := (Below.refl W.heap.size W).alloc (Nat.le_refl _) (.cells (lav Lc.zer).toArray 54)
 have L1 := L.on hb
 have cj := L1.fus.cell (2 + j) (fcs_g P c m.k hj)
 have CS := F.state_yes i (L1.sig j hj) hR hi
 have V0 := Lib.hid (VRow.new W (lav Lc.zer) 54)
 have hjj : (j : Int) < 8 := by omega
 have HB := Lib.hid hb
 unfold ptr at cj
 generalize ((m.s j).ch i).st = st at *
 clear L L1 hb
 go_enter Tryz.func16,Tryz.ntmps16
 go_upto_region 1 with ((with_reducible show wpList _ _ _ (⟨_,.alloc 54,_,_,_,_⟩ :: _) _ _); refine wpList_lay rfl _ rfl (lav Lc.zer) (fun _ => by kernel_rfl) ?_)
 generalize W.alloc (.cells (lav Lc.zer).toArray 54) = W1 at *
 go_wp2_with (first
  | (go_at_call 56; refine CS.mono ?_; rintro e w1 ⟨rfl,b1⟩; have B1 := Lib.hid (grow HB.out b1); have V1 := Lib.hid (onB V0.out b1); clear b1)
  | ((with_reducible show wpList _ _ _ (⟨none,.store _ (.tmp 6) _,_,_,_,_⟩ :: _) _ _); refine VB.store rfl _ _ rfl W.heap.size (lav st) rfl rfl V1.out (sizeLt st) rfl (Sg.lav_one st) ?_))
 exact bodyPost_ret ((VB.ret2 (cs := lav st) rfl rfl (aggLt _) (sizeLt st) (V1.out.put (lav st))).trans rfl) rfl ⟨rfl,Below.put B1.out (Nat.le_refl _) _⟩
end
end Fu
namespace Fu
open Cf (G)
open Sg (NN Si Rw rw0)
open Wd (next)
def cS : List Int := [3,-100,100,5,40,9,3,30,0,20,2,0,4,2,2,1,4,1,1,2,0]
theorem cS_right : Cf.Right cS := by decide
theorem c0_right : ¬ Cf.Right (List.replicate 21 0) := by decide
theorem nS : NN cS = 3 := by decide
def vS (i : Nat) : Int := if i = 0 then 10 else if i = 1 then 12 else 99
def yS (sq : Nat → Int) : Nat → Sl := fun i => if i < 3 then ⟨true,Fm.enc i (sq i) (List.replicate 8 (vS i))⟩ else ⟨false,[]⟩
def q1 (i : Nat) : Int := if i = 0 then 7 else if i = 1 then 65535 else 3
def q2 (i : Nat) : Int := if i = 0 then 8 else if i = 1 then 0 else 3
def y1 : Nat → Sl := yS q1
def y2 : Nat → Sl := yS q2
theorem three {i : Nat} (h : i < 3) : i = 0 ∨ i = 1 ∨ i = 2 := by omega
theorem right_S {i : Nat} (h : i < 3) : Fm.right (q1 i) (List.replicate 8 (vS i)) = true ∧ Fm.right (q2 i) (List.replicate 8 (vS i)) = true ∧ Fm.chan (i : Int) = true := by
 rcases three h with rfl | rfl | rfl <;> decide
theorem yok_S (sq : Nat → Int) : Yok cS (yS sq) := fun i hi => by
 rw [nS] at hi
 unfold yS
 rw [if_pos hi]
 exact Fm.enc_bytes
theorem told_fine {m : Fs} {sq : Nat → Int} {i : Nat} (h : i < 3) (hr : Fm.right (sq i) (List.replicate 8 (vS i)) = true) (hs : (m.t i).has = false ∨ sq i = next (m.t i).last) :
 rj m (yS sq) i = 0 ∧ fr m (yS sq) i = sq i :: List.replicate 8 (vS i) ∧ tkn m (yS sq) i = ⟨sq i,true,Fh.one (m.t i).n 0⟩ := by
 have hc : Fm.chan (i : Int) = true := (right_S h).2.2
 have e : yS sq i = ⟨true,Fm.enc i (sq i) (List.replicate 8 (vS i))⟩ := by unfold yS; rw [if_pos h]
 have hrej : Fm.rej (i : Int) (yS sq i).is (yS sq i).l = 0 := by
  rw [e]
  show Fm.rej (i : Int) true (Fm.enc i (sq i) (List.replicate 8 (vS i))) = 0
  rw [Fm.enc_rej hr hc (by simp),if_pos rfl]
 obtain ⟨p1,p2⟩ := Fm.enc_parts hr hc (by simp)
 have hs' : (m.t i).has = false ∨ Fm.fseq (yS sq i).l = next (m.t i).last := by rw [e]; show _ ∨ Fm.fseq (Fm.enc i (sq i) (List.replicate 8 (vS i))) = _; rw [p1]; exact hs
 have h1 : rj m (yS sq) i = 0 := Fh.jr_fine hrej hs'
 refine ⟨h1,?_,?_⟩
 · unfold fr
   rw [Fh.jf_fine hrej hs',e]
   show Fm.fseq (Fm.enc i (sq i) _) :: Fm.fvals (Fm.enc i (sq i) _) = _
   rw [p1,p2]
 · unfold tkn
   rw [h1,Fh.jl_yes hrej,Fh.jh_yes hrej,e]
   show (⟨Fm.fseq (Fm.enc i (sq i) _),true,_⟩ : Tk) = _
   rw [p1]; rfl
theorem told_stale {m : Fs} {sq : Nat → Int} {i : Nat} (h : i < 3) (hr : Fm.right (sq i) (List.replicate 8 (vS i)) = true) (hh : (m.t i).has = true) (hs : sq i ≠ next (m.t i).last) : rj m (yS sq) i = 6 := by
 have hc : Fm.chan (i : Int) = true := (right_S h).2.2
 have e : yS sq i = ⟨true,Fm.enc i (sq i) (List.replicate 8 (vS i))⟩ := by unfold yS; rw [if_pos h]
 have hrej : Fm.rej (i : Int) (yS sq i).is (yS sq i).l = 0 := by
  rw [e]
  show Fm.rej (i : Int) true (Fm.enc i (sq i) (List.replicate 8 (vS i))) = 0
  rw [Fm.enc_rej hr hc (by simp),if_pos rfl]
 obtain ⟨p1,-⟩ := Fm.enc_parts hr hc (by simp)
 exact Fh.jr_stale hrej hh (by rw [e]; show Fm.fseq (Fm.enc i (sq i) _) ≠ _; rw [p1]; exact hs)
def R1 : Nat → Rw := fun i => if i < 3 then ⟨true,vS i⟩ else rw0
def R2 : Nat → Rw := fun i => if i < 2 then ⟨true,vS i⟩ else rw0
def m0 : Fs := begin cS
def m1 : Fs := nx cS m0 y1
def m2 : Fs := nx cS m1 y2
theorem getD_rep {j : Nat} (h : j < 8) (x : Int) : (List.replicate 8 x).getD j 0 = x := by
 rw [List.getD_eq_getElem?_getD,List.getElem?_replicate,if_pos h]; rfl
theorem raw_1 {j : Nat} (hj : j < 8) : raw cS m0 y1 j = R1 := by
 funext i
 unfold raw R1
 rw [nS]
 by_cases h : i < 3
 · obtain ⟨a,b,-⟩ := told_fine (m := m0) (sq := q1) h (right_S h).1 (Or.inl rfl)
   rw [if_pos ⟨h,a⟩,if_pos h]
   show (⟨true,(fr m0 (yS q1) i).getD (1 + j) 0⟩ : Rw) = _
   rw [b,Nat.add_comm,List.getD_cons_succ,getD_rep hj]
 · rw [if_neg (fun q => h q.1),if_neg h]
theorem t_1 {i : Nat} (h : i < 3) : m1.t i = ⟨q1 i,true,[1,0,0,0,0,0,0]⟩ := by
 show (if i < NN cS then tkn m0 y1 i else m0.t i) = _
 rw [nS,if_pos h]
 exact (told_fine (m := m0) (sq := q1) h (right_S h).1 (Or.inl rfl)).2.2
theorem raw_2 {j : Nat} (hj : j < 8) : raw cS m1 y2 j = R2 := by
 funext i
 unfold raw R2
 rw [nS]
 by_cases h : i < 2
 · obtain ⟨a,b,-⟩ := told_fine (m := m1) (sq := q2) (i := i) (by omega) (right_S (by omega)).2.1 (Or.inr (by
    rw [t_1 (by omega)]
    have : i = 0 ∨ i = 1 := by omega
    rcases this with rfl | rfl <;> decide))
   rw [if_pos ⟨by omega,a⟩,if_pos h]
   show (⟨true,(fr m1 (yS q2) i).getD (1 + j) 0⟩ : Rw) = _
   rw [b,Nat.add_comm,List.getD_cons_succ,getD_rep hj]
 · rw [if_neg h]
   by_cases h3 : i < 3
   · obtain rfl : i = 2 := by omega
     have := told_stale (m := m1) (sq := q2) (i := 2) (by omega) (right_S (by omega)).2.1 (by rw [t_1 (by omega)]) (by rw [t_1 (by omega)]; decide)
     rw [if_neg (fun q => by have q2 := q.2; unfold y2 at q2; rw [this] at q2; cases q2)]
   · rw [if_neg (fun q => h3 q.1)]
theorem lal_same {c : List Int} {m : Fs} {s : Si} (h : ∀ j,j < 8 → m.s j = s) (i : Nat) : lal c m i = List.replicate 8 (decide (i < NN c) && (s.ch i).st.la) := by
 unfold lal
 rw [List.eq_replicate_iff]
 refine ⟨by simp,fun b hb => ?_⟩
 obtain ⟨j,hj,rfl⟩ := List.mem_map.1 hb
 unfold lac
 rw [h j (List.mem_range.1 hj)]
def shS (s : Si) : Int := Sg.mk4 fun i => decide (i < 3) && decide ((4 : Int) ≤ (Fx.trues (List.replicate 8 (decide (i < 3) && (s.ch i).st.la)) : Int))
theorem sh_same {m : Fs} {s : Si} (h : ∀ j,j < 8 → m.s j = s) : sh cS m = shS s := by
 unfold sh shS
 congr 1
 funext i
 unfold isSh
 rw [lal_same h,nS]; rfl
def s0 : Si := Sg.begin cS
def s1 : Si := Sg.nxt cS s0 R1 0
def s2 : Si := Sg.nxt cS s1 R2 0
theorem sh_0 : sh cS m0 = 0 := by
 rw [sh_same (s := s0) fun _ _ => rfl]; decide +kernel
theorem s_1 {j : Nat} (hj : j < 8) : m1.s j = s1 := by
 show (if j < 8 then sgn cS m0 y1 j else m0.s j) = s1
 rw [if_pos hj]
 unfold sgn
 rw [raw_1 hj,sh_0]; rfl
theorem sh_1 : sh cS m1 = 0 := by
 rw [sh_same (s := s1) fun j hj => s_1 hj]; decide +kernel
theorem s_2 {j : Nat} (hj : j < 8) : m2.s j = s2 := by
 show (if j < 8 then sgn cS m1 y2 j else m1.s j) = s2
 rw [if_pos hj]
 unfold sgn
 rw [raw_2 hj,s_1 hj,sh_1]; rfl
theorem live_sh : sh cS m2 = 4 := by
 rw [sh_same (s := s2) fun j hj => s_2 hj]; decide +kernel
theorem live_la : lamI cS m2 2 = 255 := by
 rw [show (2 : Int) = ((2 : Nat) : Int) from rfl,lamI_in _ _ (by decide)]
 unfold lam
 rw [lal_same (s := s2) fun j hj => s_2 hj]; decide +kernel
theorem live_st {j : Nat} (hj : j < 8) : ((m2.s j).ch 2).st.la = true := by
 rw [s_2 hj]; decide +kernel
theorem live_v {j : Nat} (hj : j < 8) : vls cS m1 y2 j = 12 := by
 unfold vls
 rw [raw_2 hj,s_1 hj,sh_1]; decide +kernel
theorem live_s {j : Nat} (hj : j < 8) : sta cS m1 y2 j = ⟨3,4,-1,false⟩ := by
 unfold sta sgn
 rw [raw_2 hj,s_1 hj,sh_1]
 have h1 : Sg.inm cS s1 R2 0 = 3 := by decide +kernel
 have h2 : Sg.lam cS (Sg.nxt cS s1 R2 0) = 4 := by decide +kernel
 have h3 : Sg.sus cS s1 R2 0 = -1 := by decide +kernel
 have h4 : Sg.any cS s1 R2 0 = true := by decide +kernel
 rw [h1,h2,h3,h4]; rfl
theorem live_t : (m2.t 2).n = [1,0,0,0,0,0,1] := by
 show (if 2 < NN cS then tkn m1 y2 2 else m1.t 2).n = _
 rw [nS,if_pos (by decide)]
 have := told_stale (m := m1) (sq := q2) (i := 2) (by omega) (right_S (by omega)).2.1 (by rw [t_1 (by omega)]) (by rw [t_1 (by omega)]; decide)
 unfold tkn
 unfold y2
 rw [this,t_1 (by omega)]; rfl
theorem evi_1 {i j : Nat} (hi : i < 3) (hj : j < 8) : evi cS m0 y1 i j = 0 := by
 unfold evi
 rw [raw_1 hj,sh_0]
 show Sg.evi cS s0 R1 0 i = 0
 rcases three hi with rfl | rfl | rfl <;> decide +kernel
theorem evi_2 {i j : Nat} (hi : i < 3) (hj : j < 8) : evi cS m1 y2 i j = (if i = 2 then 1 else 0) ∧ tri cS m1 y2 2 j = 1 := by
 unfold evi tri
 rw [raw_2 hj,s_1 hj,sh_1]
 rcases three hi with rfl | rfl | rfl <;> exact ⟨by decide +kernel,by decide +kernel⟩
theorem ntr_none {c : List Int} {m : Fs} {y : Nat → Sl} {i : Nat} (h : ∀ j,j < 8 → evi c m y i j = 0) : ntr c m y i 8 = [] := by
 unfold ntr
 rw [List.filterMap_eq_nil_iff]
 intro j hj
 rw [if_pos (h j (List.mem_range.1 hj))]
theorem filterMap_some {α β : Type} {f : α → Option β} {g : α → β} : ∀ {l : List α},(∀ x,x ∈ l → f x = some (g x)) → l.filterMap f = l.map g
 | [],_ => rfl
 | a :: l,h => by
   rw [List.filterMap_cons,h a (List.mem_cons_self ..),List.map_cons,filterMap_some fun x hx => h x (List.mem_cons_of_mem _ hx)]
theorem notes_1 : m1.notes = [] := by
 show m0.notes ++ nts cS m0 y1 (NN cS) = []
 rw [nS]
 show [] ++ nts cS m0 y1 3 = []
 rw [nts_next,nts_next,nts_next,ntr_none fun j hj => evi_1 (by decide) hj,ntr_none fun j hj => evi_1 (by decide) hj,ntr_none fun j hj => evi_1 (by decide) hj]; rfl
theorem notes_2 : m2.notes = (List.range 8).map fun j : Nat => (⟨1,2,j,0,1⟩ : Rg.Nt) := by
 show m1.notes ++ nts cS m1 y2 (NN cS) = _
 rw [nS,notes_1]
 rw [nts_next,nts_next,nts_next,ntr_none (i := 0) fun j hj => by have := (evi_2 (i := 0) (by decide) hj).1; simpa using this,ntr_none (i := 1) fun j hj => by have := (evi_2 (i := 1) (by decide) hj).1; simpa using this]
 show [] ++ (([] ++ [] ++ []) ++ ntr cS m1 y2 2 8) = _
 simp only [List.nil_append]
 unfold ntr
 have : ∀ j,j ∈ List.range 8 → (if evi cS m1 y2 2 j = 0 then none else some (nt cS m1 y2 2 j)) = some (⟨1,2,j,0,1⟩ : Rg.Nt) := fun j hj => by
  obtain ⟨h1,h2⟩ := evi_2 (i := 2) (by decide) (List.mem_range.1 hj)
  rw [if_neg (by rw [h1]; decide)]
  unfold nt
  rw [h1,h2]; rfl
 exact filterMap_some this
end Fu
namespace Fu
open Cf (G CA)
open Sg (NN Si Face)
open Ot (ouc zou)
structure Hd (F : Face) (w W : World) (P : Pl) (c : List Int) (m : Fs) : Prop where
 lie : Lie F W P c m
 below : Below w.heap.size w W
 new : ∀ b,P.col b ≠ 0 → w.heap.size ≤ b
 tab : Tp.TabAt W
 ok : Ok c m
section
variable {F : Face} {w W W' : World} {P P' : Pl} {c : List Int} {m m' : Fs} {y : Nat → Sl}
theorem Hd.on (H : Hd F w W P c m) (b : Below W.heap.size W W') : Hd F w W' P c m := ⟨H.lie.on b,grow H.below b,H.new,H.tab.below b,H.ok⟩
theorem Hd.step (H : Hd F w W P c m) (hR : Cf.Right c) (hy : Yok c y) (g : Goes F W P W' P' c (nx c m y)) : Hd F w W' P' c (nx c m y) :=
 ⟨g.lie,But.below H.below g.but H.below.size (fun i hi => H.new i hi),fun b hb => (g.more b hb).elim (H.new b) (fun q => Nat.le_trans H.below.size q),g.tab H.tab H.lie.tz,ok_nx hR hy H.ok⟩
theorem Hd.many (H : Hd F w W P c m) (hk : m.k < 8589934592) : m.notes.length < 1099511627776 := by
 have := H.ok.n
 omega
end
theorem u8_apart {X : World} {a : Option Addr} {l : List Int} {b : Nat} {t : TypeId} {cs : List Value} (h : IntsAt .u8 X a l) (hl : 0 < l.length) (v : VRow X b t cs) (hn : ∀ u,u ∈ cs → ∀ x,u ≠ .int .u8 x) : ∀ ad,a = some ad → ¬ ad.block = b := by
 rcases h with h | ⟨b',off,rfl,hc⟩
 · rw [h] at hl; simp at hl
 · rintro ad e eb
   cases e
   have h0 := hc 0 hl
   replace eb : b' = b := eb
   subst eb
   rw [cell_of_row X b' (off + 0) _ t (0,0) v] at h0
   exact hn _ (List.mem_of_getElem? (l := cs) (by simpa using h0)) _ rfl
set_option maxHeartbeats 800000 in
theorem small_any (w : World) : Calls Tryz.prog 30 #[] w fun e w' => e = .returned (.agg (CA cS)) ∧ Below w.heap.size w w' := by
 have V := Lib.hid (VRow.new w (cellsI .i64 (List.replicate 21 0)) 24)
 have SZ : (Tryz.prog.info? 24).map (·.size) = some (cellsI .i64 cS).length := by
  rw [show (cellsI .i64 cS).length = 21 from rfl]; kernel_rfl
 have HS := Lib.hid SZ
 have AG : ∀ W : World,(isAgg 24).run Tryz.prog W = .ok true W := fun W => by simp [isAgg,run_underlying Tryz.underlying24]
 have HA := Lib.hid AG
 clear SZ AG
 go_enter Tryz.func30,Tryz.ntmps30
 go_wp2_with (first
  | ((with_reducible show wpList _ _ _ (⟨_,.alloc 24,_,_,_,_⟩ :: _) _ _); refine wpList_lay rfl _ rfl (cellsI .i64 (List.replicate 21 0)) (fun _ => by kernel_rfl) ?_)
  | ((with_reducible show wpList _ _ _ (⟨some 2,_,_,_,_,_⟩ :: _) _ _); refine Rg.wpList_buildTo rfl _ _ rfl (cellsI .i64 cS).toArray (by kernel_rfl) ?_)
  | ((with_reducible show wpList _ _ _ (⟨none,.store _ (.tmp 0) _,_,_,_,_⟩ :: _) _ _); refine VB.store rfl _ _ rfl w.heap.size (cellsI .i64 cS) rfl rfl V.out HS.out rfl (all_oneCell_toArray (cellsI_one _ _)) ?_))
 exact bodyPost_ret (VB.ret1 rfl rfl (HA.out _) HS.out (V.out.put (cellsI .i64 cS))) rfl ⟨rfl,Below.put ((Below.refl _ w).alloc (Nat.le_refl _) _) (Nat.le_refl _) _⟩
set_option maxHeartbeats 800000 in
theorem slot_any (ch sq n : Int) (w : World) (hr : Fm.right sq (List.replicate 8 n) = true) (hc : Fm.chan ch = true) :
 Calls Tryz.prog 31 #[.int .i64 ch,.int .i64 sq,.int .i64 n] w fun e w' => ∃ a cap,e = .returned (.agg #[.bool true,.slice a 38 cap]) ∧ IntsAt .u8 w' a (Fm.enc ch sq (List.replicate 8 n)) ∧ 38 ≤ cap ∧ Below w.heap.size w w' := by
 have CE := fun W => Fm.enc_yes_any ch sq n n n n n n n n W hr hc
 unfold Fm.RetCE at CE
 simp only [show ([n,n,n,n,n,n,n,n] : List Int) = List.replicate 8 n from rfl] at CE
 rw [Fm.encE_yes hr hc,Fm.enc_len hr hc (by simp)] at CE
 have HEL := Lib.hid (Fm.enc_len hr hc (by simp))
 have V := Lib.hid (VRow.new w [.bool false,.slice none 0 0] 45)
 have B := Lib.hid ((Below.refl w.heap.size w).alloc (Nat.le_refl _) (.cells #[.bool false,.slice none 0 0] 45))
 have SZ := Lib.hid (show (Tryz.prog.info? 45).map (·.size) = some 2 by kernel_rfl)
 have AG := Lib.hid (show ∀ W : World,(isAgg 45).run Tryz.prog W = .ok true W from fun W => by simp [isAgg,run_underlying Tryz.underlying45])
 clear hr hc
 go_enter Tryz.func31,Tryz.ntmps31
 go_upto_region 1 with fail
 generalize w.alloc (.cells #[.bool false,.slice none 0 0] 45) = W1 at *
 go_wp2_with (first
  | (go_at_call 70; refine (CE _).mono ?_; rintro e w1 ⟨a,cap,rfl,i1,m1,b1⟩; have B1 := Lib.hid (grow B.out b1); have V1 := Lib.hid (onB V.out b1); have I1 := Lib.hid i1; have M1 := Lib.hid m1; clear i1 m1 b1)
  | ((with_reducible show wpList _ _ _ (⟨none,.store _ (.tmp 6) _,_,_,_,_⟩ :: _) _ _); refine VB.store rfl _ _ rfl w.heap.size [.bool true,.slice a 38 cap] rfl rfl V1.out SZ.out rfl (by simp [Value.oneCell']) ?_))
 have IE := I1.out.but ((But.refl (· = w.heap.size) w1).put (g := w.heap.size) (Or.inl rfl) ([.bool true,.slice a 38 cap] : List Value).toArray) (fun ad e => ?_)
 · exact bodyPost_ret ((VB.ret1 (cs := [.bool true,.slice a 38 cap]) rfl rfl (AG.out _) SZ.out (V1.out.put _)).trans rfl) rfl ⟨a,cap,rfl,IE,M1.out,Below.put B1.out (Nat.le_refl _) _⟩
 · exact u8_apart I1.out (by rw [HEL.out]; decide) V1.out (by intro v hv x e; simp at hv; rcases hv with rfl | rfl <;> cases e) ad e
end Fu
namespace Fu
open Cf (G CA)
open Sg (NN Si Face lav)
open Ot (ouc zou)
open Ss (str)
def A3 (a0 a1 a2 : Option Addr) : Nat → Option Addr := fun i => if i = 0 then a0 else if i = 1 then a1 else if i = 2 then a2 else none
def C3 (c0 c1 c2 : Nat) : Nat → Nat := fun i => if i = 0 then c0 else if i = 1 then c1 else if i = 2 then c2 else 0
theorem cyv_S {sq : Nat → Int} (hr : ∀ i,i < 3 → Fm.right (sq i) (List.replicate 8 (vS i)) = true) (a0 a1 a2 : Option Addr) (c0 c1 c2 : Nat) :
 (cyv (yS sq) (A3 a0 a1 a2) (C3 c0 c1 c2)).toArray = #[.bool true,.slice a0 38 c0,.bool true,.slice a1 38 c1,.bool true,.slice a2 38 c2,.bool false,.slice none 0 0] := by
 have h : ∀ i : Nat,i < 3 → (Fm.enc (i : Int) (sq i) (List.replicate 8 (vS i))).length = 38 := fun i hi => Fm.enc_len (hr i hi) (right_S hi).2.2 (by simp)
 have e : ∀ i,i < 3 → (yS sq i).l.length = 38 := fun i hi => by unfold yS; rw [if_pos hi]; exact h i hi
 unfold cyv
 rw [e 0 (by decide),e 1 (by decide),e 2 (by decide)]
 rfl
theorem yat_S {W : World} {sq : Nat → Int} {a0 a1 a2 : Option Addr} {c0 c1 c2 : Nat} (hr : ∀ i,i < 3 → Fm.right (sq i) (List.replicate 8 (vS i)) = true)
 (i0 : IntsAt .u8 W a0 (Fm.enc 0 (sq 0) (List.replicate 8 (vS 0)))) (i1 : IntsAt .u8 W a1 (Fm.enc 1 (sq 1) (List.replicate 8 (vS 1)))) (i2 : IntsAt .u8 W a2 (Fm.enc 2 (sq 2) (List.replicate 8 (vS 2)))) (h0 : 38 ≤ c0) (h1 : 38 ≤ c1) (h2 : 38 ≤ c2) :
 YAt W cS (yS sq) (A3 a0 a1 a2) (C3 c0 c1 c2) := by
 have h : ∀ i : Nat,i < 3 → (Fm.enc (i : Int) (sq i) (List.replicate 8 (vS i))).length = 38 := fun i hi => Fm.enc_len (hr i hi) (right_S hi).2.2 (by simp)
 refine ⟨yok_S sq,fun i hi => ?_,fun i hi => ?_⟩
 · rw [nS] at hi
   have e : (yS sq i).l.length = 38 := by unfold yS; rw [if_pos hi]; exact h i hi
   rw [e]
   rcases three hi with rfl | rfl | rfl
   · exact h0
   · exact h1
   · exact h2
 · rw [nS] at hi
   rcases three hi with rfl | rfl | rfl
   · exact i0
   · exact i1
   · exact i2
theorem step_S {F : Face} {w W : World} {P : Pl} {m : Fs} {sq : Nat → Int} {a0 a1 a2 : Option Addr} {c0 c1 c2 : Nat} (H : Hd F w W P cS m) (hk : m.k < 8589934592) (hr : ∀ i,i < 3 → Fm.right (sq i) (List.replicate 8 (vS i)) = true)
 (i0 : IntsAt .u8 W a0 (Fm.enc 0 (sq 0) (List.replicate 8 (vS 0)))) (i1 : IntsAt .u8 W a1 (Fm.enc 1 (sq 1) (List.replicate 8 (vS 1)))) (i2 : IntsAt .u8 W a2 (Fm.enc 2 (sq 2) (List.replicate 8 (vS 2)))) (h0 : 38 ≤ c0) (h1 : 38 ≤ c1) (h2 : 38 ≤ c2) :
 Calls Tryz.prog 11 #[.pointer (some ⟨P.f,0,none⟩),.agg #[.bool true,.slice a0 38 c0,.bool true,.slice a1 38 c1,.bool true,.slice a2 38 c2,.bool false,.slice none 0 0]] W fun e w' =>
  ∃ (P' : Pl) (a : Option Addr) (cap : Nat),e = .returned (.tuple #[.agg (ouc (out cS m (yS sq))).toArray,.slice a 54 cap,.int .i64 0]) ∧ Hd F w w' P' cS (nx cS m (yS sq)) ∧ P'.f = P.f := by
 have := step_any cS_right H.ok hk H.lie H.tab (yat_S hr i0 i1 i2 h0 h1 h2)
 rw [cyv_S hr] at this
 refine this.mono fun e w' q => ?_
 obtain ⟨P',a,cap,e1,-,-,g⟩ := q
 exact ⟨P',a,cap,e1,H.step cS_right (yok_S sq) g,g.f⟩
def oS : Ot.Ou := ⟨1,List.replicate 8 12,List.replicate 8 ⟨3,4,-1,false⟩⟩
theorem out_S : out cS m1 y2 = oS := by
 have hk : (m1.k : Int) % 65536 = 1 := rfl
 have hv : (List.range 8).map (vls cS m1 y2) = List.replicate 8 12 := by
  rw [List.eq_replicate_iff]
  refine ⟨by simp,fun b hb => ?_⟩
  obtain ⟨j,hj,rfl⟩ := List.mem_map.1 hb
  exact live_v (List.mem_range.1 hj)
 have hs : (List.range 8).map (sta cS m1 y2) = List.replicate 8 ⟨3,4,-1,false⟩ := by
  rw [List.eq_replicate_iff]
  refine ⟨by simp,fun b hb => ?_⟩
  obtain ⟨j,hj,rfl⟩ := List.mem_map.1 hb
  exact live_s (List.mem_range.1 hj)
 unfold out oS
 rw [hk,hv,hs]
theorem lasts_S : Rg.lasts m2.notes = m2.notes ∧ m2.notes.length = 8 ∧ Rg.lost m2.notes = 0 ∧ m2.notes[0]? = some ⟨1,2,0,0,1⟩ := by
 have h8 : m2.notes.length = 8 := by rw [notes_2]; simp
 have hl : Rg.lost m2.notes = 0 := by unfold Rg.lost; rw [h8]
 refine ⟨by unfold Rg.lasts; rw [hl,List.drop_zero],h8,hl,by rw [notes_2]; rfl⟩
theorem eq7 (W : World) : (Op.equalIn 10000 61 (.agg #[.int .i64 1,.int .i64 0,.int .i64 0,.int .i64 0,.int .i64 0,.int .i64 0,.int .i64 1]) (.agg #[.int .i64 1,.int .i64 0,.int .i64 0,.int .i64 0,.int .i64 0,.int .i64 0,.int .i64 1])).run Tryz.prog W = .ok true W :=
 Agg.run_equalIn_ints W 9998 _ _ 7 .i64 Tryz.underlying61 Tryz.underlying3 (fun w => by kernel_rfl) [1,0,0,0,0,0,1] [1,0,0,0,0,0,1] rfl rfl
section
variable {F : Face} {w W : World} {P : Pl}
theorem live_1 {a0 a1 a2 : Option Addr} {c0 c1 c2 : Nat} (H : Hd F w W P cS m0) (i0 : IntsAt .u8 W a0 (Fm.enc 0 7 (List.replicate 8 10))) (i1 : IntsAt .u8 W a1 (Fm.enc 1 65535 (List.replicate 8 12))) (i2 : IntsAt .u8 W a2 (Fm.enc 2 3 (List.replicate 8 99))) (h0 : 38 ≤ c0) (h1 : 38 ≤ c1) (h2 : 38 ≤ c2) :
 Calls Tryz.prog 11 #[.pointer (some ⟨P.f,0,none⟩),.agg #[.bool true,.slice a0 38 c0,.bool true,.slice a1 38 c1,.bool true,.slice a2 38 c2,.bool false,.slice none 0 0]] W fun e w' =>
  ∃ (P' : Pl) (a : Option Addr) (cap : Nat) (o : Array Value),e = .returned (.tuple #[.agg o,.slice a 54 cap,.int .i64 0]) ∧ Hd F w w' P' cS m1 ∧ P'.f = P.f :=
 (step_S (sq := q1) H (by decide) (fun i hi => (right_S hi).1) i0 i1 i2 h0 h1 h2).mono fun e w' q => by
  obtain ⟨P',a,cap,q1,q2,q3⟩ := q
  exact ⟨P',a,cap,_,q1,q2,q3⟩
theorem live_2 {a0 a1 a2 : Option Addr} {c0 c1 c2 : Nat} (H : Hd F w W P cS m1) (i0 : IntsAt .u8 W a0 (Fm.enc 0 8 (List.replicate 8 10))) (i1 : IntsAt .u8 W a1 (Fm.enc 1 0 (List.replicate 8 12))) (i2 : IntsAt .u8 W a2 (Fm.enc 2 3 (List.replicate 8 99))) (h0 : 38 ≤ c0) (h1 : 38 ≤ c1) (h2 : 38 ≤ c2) :
 Calls Tryz.prog 11 #[.pointer (some ⟨P.f,0,none⟩),.agg #[.bool true,.slice a0 38 c0,.bool true,.slice a1 38 c1,.bool true,.slice a2 38 c2,.bool false,.slice none 0 0]] W fun e w' =>
  ∃ (P' : Pl) (a : Option Addr) (cap : Nat),e = .returned (.tuple #[.agg (ouc oS).toArray,.slice a 54 cap,.int .i64 0]) ∧ Hd F w w' P' cS m2 ∧ P'.f = P.f :=
 (step_S (sq := q2) H (by decide) (fun i hi => (right_S hi).2.1) i0 i1 i2 h0 h1 h2).mono fun e w' q => by
  obtain ⟨P',a,cap,q1,q2,q3⟩ := q
  refine ⟨P',a,cap,?_,q2,q3⟩
  rw [q1,← out_S]; rfl
theorem live_notes (H : Hd F w W P cS m2) : Calls Tryz.prog 17 #[.pointer (some ⟨P.f,0,none⟩)] W fun e w' =>
 ∃ b off cap,e = .returned (.slice (some ⟨b,off,none⟩) 8 cap) ∧ w'.rangeAt b off [.int .i64 1,.int .i64 2,.int .i64 0,.int .i64 0,.int .i64 1] ∧ Below W.heap.size W w' := by
 obtain ⟨l1,l2,l3,l4⟩ := lasts_S
 refine (notes_any H.lie (by rw [l2]; decide)).mono fun e w' q => ?_
 rw [l1] at q
 obtain ⟨a,cap,q1,q2,q3,q4⟩ := q
 obtain ⟨b,off,rfl,hat⟩ := q3.at (by rw [l2]; decide)
 obtain ⟨h0,h1,h2,h3,h4⟩ := hat 0 _ l4
 rw [l2] at q1
 refine ⟨b,off,cap,q1,fun j v hv => ?_,q4⟩
 match j,hv with
 | 0,hv => simp at hv; subst hv; simpa using h0
 | 1,hv => simp at hv; subst hv; simpa using h1
 | 2,hv => simp at hv; subst hv; simpa using h2
 | 3,hv => simp at hv; subst hv; simpa using h3
 | 4,hv => simp at hv; subst hv; simpa using h4
 | j + 5,hv => simp at hv
theorem live_state (H : Hd F w W P cS m2) : Calls Tryz.prog 16 #[.pointer (some ⟨P.f,0,none⟩),.int .i64 2,.int .i64 7] W fun e w' =>
 ∃ st : List Value,e = .returned (.tuple #[.agg (Value.bool true :: st).toArray,.bool true]) ∧ st.length = 4 ∧ (∀ v ∈ st,v.oneCell' = true) ∧ Below W.heap.size W w' :=
 (state_yes cS_right H.lie (i := 2) (j := 7) (by decide) (by decide)).mono fun e w' q => by
  refine ⟨[.bool ((m2.s 7).ch 2).st.ou,.int .i64 ((m2.s 7).ch 2).st.st,.int .i64 ((m2.s 7).ch 2).st.cl,.int .i64 ((m2.s 7).ch 2).st.bk],?_,rfl,fun v hv => ?_,q.2⟩
  · rw [q.1]
    unfold lav
    rw [live_st (by decide)]
  · simp at hv; rcases hv with rfl | rfl | rfl | rfl <;> rfl
theorem live_shut (H : Hd F w W P cS m2) : Calls Tryz.prog 19 #[.pointer (some ⟨P.f,0,none⟩)] W fun e w' => e = .returned (.int .i64 4) ∧ Below W.heap.size W w' := by
 have h := Shut_any cS_right H.lie
 rw [live_sh] at h
 exact h
theorem live_latched (H : Hd F w W P cS m2) : Calls Tryz.prog 21 #[.pointer (some ⟨P.f,0,none⟩),.int .i64 2] W fun e w' => e = .returned (.int .i64 255) ∧ Below W.heap.size W w' := by
 have h := latched_any cS_right H.lie 2
 rw [live_la] at h
 exact h
theorem live_rejects (H : Hd F w W P cS m2) : Calls Tryz.prog 22 #[.pointer (some ⟨P.f,0,none⟩),.int .i64 2] W fun e w' => e = .returned (.agg #[.int .i64 1,.int .i64 0,.int .i64 0,.int .i64 0,.int .i64 0,.int .i64 0,.int .i64 1]) ∧ Below W.heap.size W w' := by
 have h := rejects_yes H.lie (i := 2) (by decide) (by rw [live_t]; rfl)
 rw [live_t] at h
 exact h
theorem live_cycles (H : Hd F w W P cS m2) : Calls Tryz.prog 18 #[.pointer (some ⟨P.f,0,none⟩)] W fun e w' => e = .returned (.int .i64 2) ∧ W = w' := cycles_any H.lie
theorem live_lost (H : Hd F w W P cS m2) : Calls Tryz.prog 20 #[.pointer (some ⟨P.f,0,none⟩)] W fun e w' => e = .returned (.int .i64 0) ∧ W = w' := by
 obtain ⟨l1,l2,l3,l4⟩ := lasts_S
 have h := lost_any H.lie (by rw [l2]; decide)
 rw [l3] at h
 exact h
end
end Fu
namespace Fu
open Cf (G CA)
open Sg (NN Si Face lav)
open Ot (ouc zou)
open Ss (str)
set_option maxRecDepth 100000 in
set_option maxHeartbeats 6400000 in
theorem alive_any (F : Face) (w : World) (hT : Tp.TabAt w) (hg : 0 < w.heap.size) : Calls Tryz.prog 7 #[] w fun e w' => e = .returned (.bool true) ∧ Below w.heap.size w w' := by
 have C1 := fun W => small_any W
 have C2 := fun W (h : 0 < W.heap.size) => new_yes F cS W rfl cS_right h
 have C3 := fun W => new_no (List.replicate 21 0) W rfl c0_right
 change ∀ W,Calls _ _ #[.agg #[.int .i64 0,.int .i64 0,.int .i64 0,.int .i64 0,.int .i64 0,.int .i64 0,.int .i64 0,.int .i64 0,.int .i64 0,.int .i64 0,.int .i64 0,.int .i64 0,.int .i64 0,.int .i64 0,.int .i64 0,.int .i64 0,.int .i64 0,.int .i64 0,.int .i64 0,.int .i64 0,.int .i64 0]] _ _ at C3
 have S10 := Lib.hid (fun W => slot_any 0 7 10 W (by decide) (by decide))
 have S11 := Lib.hid (fun W => slot_any 1 65535 12 W (by decide) (by decide))
 have S12 := Lib.hid (fun W => slot_any 2 3 99 W (by decide) (by decide))
 have S20 := Lib.hid (fun W => slot_any 0 8 10 W (by decide) (by decide))
 have S21 := Lib.hid (fun W => slot_any 1 0 12 W (by decide) (by decide))
 have HT := Lib.hid hT
 have HG := Lib.hid hg
 have HM0 := Lib.hid (show begin cS = m0 from rfl)
 have HO0 := Lib.hid (show Ok cS m0 from ok_begin cS_right)
 have L1 := @live_1 F w
 have L2 := @live_2 F w
 have LN := @live_notes F w
 have LS := @live_state F w
 have LH := @live_shut F w
 have LL := @live_latched F w
 have LR := @live_rejects F w
 have LC := @live_cycles F w
 have LO := @live_lost F w
 have E7 := eq7
 have HOO := Lib.hid (show Ot.Ok oS from ⟨rfl,rfl⟩)
 have HO1 := Lib.hid (show (ouc oS)[0]? = some (.int .i64 1) ∧ (ouc oS)[8]? = some (.int .i64 12) ∧ ∀ j v,([.int .i64 3,.int .i64 4,.int .i64 (-1),.bool false] : List Value)[j]? = some v → (ouc oS)[9 + j]? = some v from ⟨rfl,rfl,fun j v hv => by
  match j,hv with
  | 0,hv => exact hv
  | 1,hv => exact hv
  | 2,hv => exact hv
  | 3,hv => exact hv
  | j + 4,hv => simp at hv⟩)
 rw [HM0.out] at C2
 generalize oS = oo at *
 generalize m2 = M2 at *
 generalize m1 = M1 at *
 generalize m0 = M0 at *
 generalize cS = cc at *
 generalize Fm.enc 0 7 (List.replicate 8 10) = e10 at *
 generalize Fm.enc 1 65535 (List.replicate 8 12) = e11 at *
 generalize Fm.enc 2 3 (List.replicate 8 99) = e12 at *
 generalize Fm.enc 0 8 (List.replicate 8 10) = e20 at *
 generalize Fm.enc 1 0 (List.replicate 8 12) = e21 at *
 clear hT hg
 go_enter Tryz.func7,Tryz.ntmps7
 go_upto_region 2 with (first
  | (go_at_call 30; refine (C1 _).mono ?_; rintro e w1 ⟨rfl,b1⟩; have B1 := Lib.hid b1; clear b1)
  | (go_at_call 8; refine (C2 w1 (Nat.lt_of_lt_of_le HG.out B1.out.size)).mono ?_; rintro e w2 ⟨P,rfl,l2,b2,n2⟩; have B2 := Lib.hid (grow B1.out b2); have H2 := Lib.hid (show Hd F w w2 P cc M0 from ⟨l2,grow B1.out b2,fun b hb => Nat.le_trans B1.out.size (n2 b hb),HT.out.below B2.out,HO0.out⟩); clear l2 b2 n2))
 unfold ptr
 go_upto_region 5 with (go_at_call 8; refine (C3 w2).mono ?_; rintro e w3 ⟨rfl,b3⟩; have H3 := Lib.hid (H2.out.on b3); clear b3)
 clear H2 B2 B1 C1 C2 C3
 go_wp2_with fail
 refine (S10.out _).mono ?_; rintro e w4 ⟨a0,k0,rfl,i0,m0,b4⟩
 have H4 := Lib.hid (H3.out.on b4)
 have I4 := Lib.hid i0
 have M4 := Lib.hid m0
 clear i0 m0 b4 H3
 go_wp2_with fail
 refine (S11.out _).mono ?_; rintro e w5 ⟨a1,k1,rfl,i0,m0,b5⟩
 have H5 := Lib.hid (H4.out.on b5)
 have J5 := Lib.hid (I4.out.below b5)
 have I5 := Lib.hid i0
 have M5 := Lib.hid m0
 clear i0 m0 b5 H4 I4
 go_wp2_with fail
 refine (S12.out _).mono ?_; rintro e w6 ⟨a2,k2,rfl,i0,m0,b6⟩
 have H6 := Lib.hid (H5.out.on b6)
 have J6 := Lib.hid (J5.out.below b6)
 have K6 := Lib.hid (I5.out.below b6)
 have I6 := Lib.hid i0
 have M6 := Lib.hid m0
 clear i0 m0 b6 H5 J5 I5
 go_wp2_with ((with_reducible show wpList _ _ _ (⟨some 27,_,_,_,_,_⟩ :: _) _ _); refine Rg.wpList_buildTo rfl _ _ rfl #[.bool true,.slice a0 38 k0,.bool true,.slice a1 38 k1,.bool true,.slice a2 38 k2,.bool false,.slice none 0 0] (by kernel_rfl) ?_)
 refine (L1 H6.out J6.out K6.out I6.out M4.out M5.out M6.out).mono ?_; rintro e w7 ⟨P7,a7,c7,o7,rfl,h7,f7⟩
 have H7 := Lib.hid h7
 have F7 := Lib.hid f7.symm
 clear h7 f7 H6 J6 K6 I6 M4 M5 M6 S10 S11
 rw [F7.out]
 clear F7
 go_wp2_with fail
 refine (S20.out _).mono ?_; rintro e w4 ⟨a0,k0,rfl,i0,m0,b4⟩
 have H4 := Lib.hid (H7.out.on b4)
 have I4 := Lib.hid i0
 have M4 := Lib.hid m0
 clear i0 m0 b4 H7
 go_wp2_with fail
 refine (S21.out _).mono ?_; rintro e w5 ⟨a1,k1,rfl,i0,m0,b5⟩
 have H5 := Lib.hid (H4.out.on b5)
 have J5 := Lib.hid (I4.out.below b5)
 have I5 := Lib.hid i0
 have M5 := Lib.hid m0
 clear i0 m0 b5 H4 I4
 go_wp2_with fail
 refine (S12.out _).mono ?_; rintro e w6 ⟨a2,k2,rfl,i0,m0,b6⟩
 have H6 := Lib.hid (H5.out.on b6)
 have J6 := Lib.hid (J5.out.below b6)
 have K6 := Lib.hid (I5.out.below b6)
 have I6 := Lib.hid i0
 have M6 := Lib.hid m0
 clear i0 m0 b6 H5 J5 I5
 go_wp2_with ((with_reducible show wpList _ _ _ (⟨some 34,_,_,_,_,_⟩ :: _) _ _); refine Rg.wpList_buildTo rfl _ _ rfl #[.bool true,.slice a0 38 k0,.bool true,.slice a1 38 k1,.bool true,.slice a2 38 k2,.bool false,.slice none 0 0] (by kernel_rfl) ?_)
 refine (L2 H6.out J6.out K6.out I6.out M4.out M5.out M6.out).mono ?_; rintro e w8 ⟨P8,a8,c8,rfl,h8,f8⟩
 have H8 := Lib.hid h8
 have F8 := Lib.hid f8.symm
 clear h8 f8 H6 J6 K6 I6 M4 M5 M6 S20 S21 S12 L1 L2
 rw [F8.out]
 clear F8
 go_upto_region 7 with (first
  | ((with_reducible show wpList _ _ _ (⟨_,.alloc 40,_,_,_,_⟩ :: _) _ _); refine wpList_lay rfl _ rfl (ouc zou) (fun _ => by kernel_rfl) ?_)
  | ((with_reducible show wpList _ _ _ (⟨none,.store _ (.tmp 5) _,_,_,_,_⟩ :: _) _ _); refine VB.store rfl _ _ rfl w8.heap.size (ouc oo) rfl rfl (VRow.new w8 (ouc zou) 40) (Ot.sizeO HOO.out) (by rw [Ot.ouc_len Ot.ok_zou,Ot.ouc_len HOO.out]) (Ot.ouc_all _) ?_))
 have hb9 := Below.put ((Below.refl w8.heap.size w8).alloc (Nat.le_refl _) (.cells (ouc zou).toArray 40)) (Nat.le_refl _) (ouc oo).toArray
 have H9 := Lib.hid (H8.out.on hb9)
 have V9 := Lib.hid ((VRow.new w8 (ouc zou) 40).put (ouc oo))
 clear hb9 H8
 generalize (w8.alloc (.cells (ouc zou).toArray 40)).setRow w8.heap.size (ouc oo).toArray = w9 at *
 generalize w8.heap.size = ob at *
 go_wp2_with fail
 refine (LN H9.out).mono ?_; rintro e w10 ⟨nb,no,nc,rfl,r10,b10⟩
 have H10 := Lib.hid (H9.out.on b10)
 have V10 := Lib.hid (onB V9.out b10)
 have R10 := Lib.hid r10
 clear r10 b10 H9 V9 LN
 go_upto_region 10 with fail
 go_wp2_with fail
 refine (LS H10.out).mono ?_; rintro e w11 ⟨st,rfl,hl,ho,b11⟩
 have H11 := Lib.hid (H10.out.on b11)
 have V11 := Lib.hid (onB V10.out b11)
 have R11 := Lib.hid (fun j v hv => show w11.cell? ⟨nb,no + j,none⟩ = some v from (b11.cell (p := ⟨nb,no + j,none⟩) (cell_lt (R10.out j v hv))).trans (R10.out j v hv))
 have hb12 := Below.put ((Below.refl w11.heap.size w11).alloc (Nat.le_refl _) (.cells (lav Lc.zer).toArray 54)) (Nat.le_refl _) (Value.bool true :: st).toArray
 have H12 := Lib.hid (H11.out.on hb12)
 have V12 := Lib.hid (onB V11.out hb12)
 have R12 := Lib.hid (show ∀ j v,([.int .i64 1,.int .i64 2,.int .i64 0,.int .i64 0,.int .i64 1] : List Value)[j]? = some v → ((w11.alloc (.cells (lav Lc.zer).toArray 54)).setRow w11.heap.size (Value.bool true :: st).toArray).cell? ⟨nb,no + j,none⟩ = some v from fun j v hv => (hb12.cell (p := ⟨nb,no + j,none⟩) (cell_lt (R11.out j v hv))).trans (R11.out j v hv))
 have VS := Lib.hid ((VRow.new w11 (lav Lc.zer) 54).put (Value.bool true :: st))
 have SS := Lib.hid (show (Tryz.prog.info? 54).map (·.size) = some (Value.bool true :: st).length by rw [List.length_cons,hl]; kernel_rfl)
 have SL := Lib.hid (show (lav Lc.zer).length = (Value.bool true :: st).length by rw [List.length_cons,hl]; rfl)
 have SO := Lib.hid (show (Value.bool true :: st).toArray.all (·.oneCell') = true from all_oneCell_toArray (fun v hv => by
  rcases List.mem_cons.1 hv with rfl | hv
  · rfl
  · exact ho v hv))
 have SN := Lib.hid (show (Tryz.prog.info? 86).map (·.size) = some 5 by kernel_rfl)
 have RS := Lib.hid (show ∀ W,VRow W ob 40 (ouc oo) → W.rangeAt ob 9 [.int .i64 3,.int .i64 4,.int .i64 (-1),.bool false] from fun W V j v hv => V.cell (9 + j) (HO1.out.2.2 j v hv))
 have c0 := V12.out.cell 0 HO1.out.1
 have c8 := V12.out.cell 8 HO1.out.2.1
 have c9 := V12.out.cell 9 (HO1.out.2.2 0 _ rfl)
 have c10 := V12.out.cell 10 (HO1.out.2.2 1 _ rfl)
 have c11 := V12.out.cell 11 (HO1.out.2.2 2 _ rfl)
 have c12 := V12.out.cell 12 (HO1.out.2.2 3 _ rfl)
 have d0 := R12.out 0 _ rfl
 have d1 := R12.out 1 _ rfl
 have d2 := R12.out 2 _ rfl
 have d3 := R12.out 3 _ rfl
 have d4 := R12.out 4 _ rfl
 rw [Nat.add_zero] at d0
 clear hb12 H10 V10 R10 b11 hl ho LS H11 V11 R11 RS SN V12 R12
 generalize hsb : w11.heap.size = sb at *
 go_wp2_with (first
  | ((with_reducible show wpList _ _ _ (⟨_,.alloc 54,_,_,_,_⟩ :: _) _ _); refine wpList_lay rfl _ rfl (lav Lc.zer) (fun _ => by kernel_rfl) ?_)
  | ((with_reducible show wpList _ _ _ (⟨none,.store _ (.tmp 9) _,_,_,_,_⟩ :: _) _ _); refine VB.store rfl _ _ rfl w11.heap.size (Value.bool true :: st) rfl rfl (VRow.new w11 (lav Lc.zer) 54) SS.out SL.out SO.out ?_; rw [hsb]; generalize (w11.alloc (.cells (lav Lc.zer).toArray 54)).setRow sb (Value.bool true :: st).toArray = w12 at *)
  | (go_at_call 19; refine (LH H12.out).mono ?_; rintro e w13 ⟨rfl,b13⟩; have H13 := Lib.hid (H12.out.on b13); have VS13 := Lib.hid (onB VS.out b13); clear b13)
  | (go_at_call 21; refine (LL H13.out).mono ?_; rintro e w14 ⟨rfl,b14⟩; have H14 := Lib.hid (H13.out.on b14); have VS14 := Lib.hid (onB VS13.out b14); clear b14)
  | (go_at_call 22; refine (LR H14.out).mono ?_; rintro e w15 ⟨rfl,b15⟩; have H15 := Lib.hid (H14.out.on b15); have VS15 := Lib.hid (onB VS14.out b15); have cs := VS15.out.cell 0 (v := .bool true) rfl; clear b15)
  | (go_at_call 18; refine (LC H15.out).mono ?_; rintro e w16 ⟨rfl,rfl⟩)
  | (go_at_call 20; refine (LO H15.out).mono ?_; rintro e w17 ⟨rfl,rfl⟩))
 go_ret
 exact ⟨rfl,H15.out.below⟩
end Fu
end Go.Proofs.YticidhbnljdidaaGreatDoor
