/-
 What Encode of package output tells: a contract by walking the Go text (appends to a boxed slice, a range over the iterator statuses). Conditions: that an output has eight values and eight statuses.
 A region that draws its order and writes several times, where not each write waits for the one ahead: whatever order is drawn, each place holds its own value at the end. The phases are told by which writes were carried out. No function of the program is walked here. No conditions beyond those said.
-/
import Derived.Test.YticidhbnljdidaaGreatDoorJOutputIter6
import Derived.Test.YticidhbnljdidaaGreatDoorJFrameDec14
import Derived.Test.YticidhbnljdidaaGreatDoorJCrcStep4
import Derived.Test.YticidhbnljdidaaGreatDoorJSignalState4
namespace Go.Proofs.YticidhbnljdidaaGreatDoor
set_option maxRecDepth 100000
open Go.ChangeShapes Go.WideShapes Go.ChangeAt Go.RowKit Go.Deep Go.Shelf
namespace Ot
open Ss (St str zer stv rgt wrd)
open Rf
open Wd (put2 putAll in2 in4)
open Cr (Bytes)
attribute [local go_sem] Oper.semAt_some
def RetCE (w : World) (l : List Int) (x : Int) (e : Ending) (w' : World) : Prop :=
 ∃ a cap,e = .returned (.tuple #[.slice a l.length cap,.int .i64 x]) ∧ IntsAt .u8 w' a l ∧ l.length ≤ cap ∧ Below w.heap.size w w'
theorem retCE_mk {w w' : World} {a : Option Addr} {l l' : List Int} {n cap : Nat} {x : Int} (he : l' = l) (hn : l'.length = n) (hx : x = 0) (hc : n ≤ cap) (hi : IntsAt .u8 w' a l') (hb : Below w.heap.size w w') :
 RetCE w l x (.returned (.tuple #[.slice a n cap,.int .i64 0])) w' := by subst he; subst hn; subst hx; exact ⟨a,cap,rfl,hi,hc,hb⟩
theorem ownLit2 {k : IntKind} {base : Nat} {w : World} {te : TypeId} (x y : Int) (hb : base ≤ w.heap.size) : OwnI k base te (w.alloc (.cells #[.int k x,.int k y] te)) (.slice (some ⟨w.heap.size,0,none⟩) 2 2) [x,y] :=
 World.ownsRow_lit w #[.int k x,.int k y] 2 hb (by decide) rfl
theorem results2 {fn : Func} {p q : Tmp} (h : fn.results = #[.tmp p,.tmp q]) (tmps : Array Value) (P : Program) (w : World) : (results fn tmps).run P w = .ok (.tuple #[tmps.getD p undef,tmps.getD q undef]) w := results_tmp2 h tmps P w
theorem wdv_yes {p : St} (h : rgt p = true) : Ss.wdv p = wrd p := by unfold Ss.wdv; rw [h]; rfl
theorem putAll_ret {o : Ou} (k : Ok o) {Y : World} {g : Nat} {t : TypeId} (h : VRow Y g t (ouc o)) : Calls Tryz.prog 83 #[.slice (some ⟨g,1,none⟩) 8 8] Y (RetI .u8 Y (putAll o.v)) := by
 have C := Wd.putAll_any (some ⟨g,1,none⟩) 8 o.v Y (by rw [k.v]; omega) (ints_v h k)
 rw [k.v] at C
 exact C.mono fun e w' ⟨a,cap,h1,h2,_,h3⟩ => ⟨a,cap,h1,h2,h3⟩
theorem ints_turned {k : IntKind} {W : World} {a : Option Addr} {l : List Int} {D : Nat} {o o' : Obj} (h : IntsAt k W a l) (hD : W.heap[D]? = some o) (ho : o.isCells = false) : IntsAt k (W.putObj D o') a l := by
 rcases h with rfl | ⟨b,off,rfl,hc⟩
 · exact Or.inl rfl
 · exact Or.inr ⟨b,off,rfl,fun i hi => cell_turned (but_grown (grownBy_putObj' W D o')) (fun k e => by cases e; exact ⟨o,hD,ho⟩) (hc i hi)⟩
set_option maxRecDepth 100000 in
set_option maxHeartbeats 3200000 in
theorem enc_yes_any {o : Ou} (k : Ok o) (w : World) (hr : orgt o = true) :
 Calls Tryz.prog 41 #[.agg (ouc o).toArray] w (RetCE w (enc o) (encE o)) := by
 obtain ⟨hq,hv,hs⟩ := (orgt_iff o).1 hr
 have HE := Lib.hid (enc_yes hr)
 have HZ := Lib.hid (encE_yes hr)
 have HK := Lib.hid k
 have HZ0 := Lib.hid (sizeO k)
 have CR := fun W => callsIn_wide (n := 5 - 1) |>.2 (right_any k W)
 have CF := fun W => callsIn_wide (n := 5 - 1) |>.2 (failed_any k W)
 rw [hr] at CR
 have HFL : fl o.s ≤ 8 := by have := fl_le o.s; rw [k.s] at this; exact this
 have hBX := VRow.new w (ouc o) 40
 have HBX := Lib.hid hBX
 have HR0 := Lib.hid (range_o hBX)
 have hB0 := Lib.hid ((Below.refl w.heap.size w).alloc (Nat.le_refl _) (.cells (ouc o).toArray 40))
 clear hBX
 obtain ⟨ov,hov⟩ : ∃ ov,ouc o = ov := ⟨_,rfl⟩
 rw [hov] at HR0 HZ0 CR CF HBX hB0 ⊢
 have HOV := Lib.hid hov
 clear hov
 generalize hfl : fl o.s = fc at *
 have HFC := Lib.hid hfl
 clear hfl
 have wf : IntKind.u8.wrap (fc : Int) = fc := IntWalk.u8_in _ (by omega)
 have Z0 := Lib.hid (show (w.alloc (.cells ov.toArray 40)).heap.size = w.heap.size + 1 by simp)
 refine (callsIn_wide (n := 5)).1 ?_
 refine callsIn_of_wp_marks Tryz.func41 rfl trivial ?_ rfl
 simp only [Tryz.ntmps41,List.size_toArray,List.length_cons,List.length_nil,Nat.reduceAdd,Nat.reduceSub,Array.replicate_succ,Array.replicate_zero,List.push_toArray,List.append_toArray,List.nil_append,List.cons_append]
 gi_wp2_with (first
  | ((with_reducible show wpListIn _ _ _ _ _ (⟨some 8,_,_,_,_,_⟩ :: _) _ _); refine wpListIn_loadR rfl _ _ rfl w.heap.size 0 rfl ov _ HR0.out Tryz.underlying40 rfl HZ0.out ?_)
  | ((with_reducible show wpListIn _ _ _ _ _ (⟨some 11,_,_,_,_,_⟩ :: _) _ _); refine wpListIn_loadR rfl _ _ rfl w.heap.size 0 rfl ov _ (row_range X1.out) Tryz.underlying40 rfl HZ0.out ?_)
  | (refine ⟨trivial,?_⟩; gi_at_call 25; refine (CR _).mono ?_; rintro e w1 ⟨rfl,b1⟩; have B1 := Lib.hid (grow hB0.out b1); have X1 := Lib.hid (HBX.out.below b1 HBX.out.lt); have S1 : w.heap.size + 1 ≤ w1.heap.size := Nat.le_trans (Nat.le_of_eq Z0.out.symm) b1.size; clear b1)
  | (refine ⟨trivial,?_⟩; gi_at_call 67; refine (CF _).mono ?_; rintro e w2 ⟨rfl,b2⟩; have B2 := Lib.hid (grow B1.out b2); have X2 := Lib.hid (X1.out.below b2 X1.out.lt); have S2 : w.heap.size + 1 ≤ w2.heap.size := Nat.le_trans S1 b2.size; clear b2))
 have b3 := Boxed.new (w2.alloc (.cells #[.int .u8 90,.int .u8 fc] 5)) 41 (.slice (some ⟨w2.heap.size,0,none⟩) 2 2)
 rw [World.size_alloc] at b3
 have o3 := (ownLit2 (k := .u8) (te := 5) (w := w2) 90 fc S2).alloc (.cells #[.slice (some ⟨w2.heap.size,0,none⟩) 2 2] 41)
 have x3 := (X2.out.alloc (.cells #[.int .u8 90,.int .u8 fc] 5)).alloc (.cells #[.slice (some ⟨w2.heap.size,0,none⟩) 2 2] 41)
 have B3 := Lib.hid ((B2.out.alloc B2.out.size (.cells #[.int .u8 90,.int .u8 fc] 5)).alloc (by have := B2.out.size; simp; omega) (.cells #[.slice (some ⟨w2.heap.size,0,none⟩) 2 2] 41))
 have S3 : w.heap.size + 1 ≤ ((w2.alloc (.cells #[.int .u8 90,.int .u8 fc] 5)).alloc (.cells #[.slice (some ⟨w2.heap.size,0,none⟩) 2 2] 41)).heap.size := by simp; omega
 have hbx : w.heap.size + 1 ≤ w2.heap.size + 1 := by omega
 clear wf B1 B2 S1 X1 X2 hB0 HR0 Z0
 generalize (w2.alloc (.cells #[.int .u8 90,.int .u8 fc] 5)).alloc (.cells #[.slice (some ⟨w2.heap.size,0,none⟩) 2 2] 41) = X3 at *
 generalize w2.heap.size + 1 = bx at *
 generalize Value.slice (some ⟨w2.heap.size,0,none⟩) 2 2 = v3 at *
 have e3 := x3.cell 0 (v := .int .i64 o.q) (by rw [← HOV.out]; rfl)
 have HB3 := Lib.hid b3
 have HO3 := Lib.hid o3
 have HX3 := Lib.hid x3
 have HE3 := Lib.hid e3
 have HL2 := Lib.hid (Fm.put2_len hq)
 have HQ := Lib.hid hq
 have HVV := Lib.hid hv
 have HSS := Lib.hid hs
 clear b3 o3 x3 e3 S2 hr hq hv hs k
 refine wpIn_wide.2 ?_
 obtain ⟨i0,hi0,hz0,hz1,hz2⟩ := info_parts Wd.byteInfo
 have HI := Lib.hid (And.intro hi0 (And.intro hz0 (And.intro hz1 hz2)))
 clear hi0 hz0 hz1 hz2
 refine Wr.wp_writes (aF := ?_) [18,19] [3,4,5] 39 2 [true,true,true,false,false,false] [false,false,false,false,false,false] [(18,undef),(19,undef)]
  (Ab.Ph X3 (w.heap.size + 1) bx 41 5 v3 [90,(fc : Int)] (put2 o.q)) (fun Y => Boxed Y bx 41 v3 ∧ Y.cell? ⟨w.heap.size,0,none⟩ = some (.int .i64 o.q))
  (by kernel_rfl) (by kernel_rfl) (by kernel_rfl) (by kernel_rfl) (by kernel_rfl) ?ha ?hMC ?hMg ?h0 ?hq ?hq2 ?hw ?hend
 case hq =>
  rintro Y ⟨y1,y2⟩
  have k1 := cell_regrown y1.cell
  have k2 := cell_regrown y2
  simp only [Lt.sel,Lt.putAll,List.map_cons,List.map_nil,List.zip_cons_cons,List.zip_nil_right,List.foldl_cons,List.foldl_nil,Act.put,List.setIfInBounds_toArray,List.set_cons_succ,List.set_cons_zero]
  repeat (go_big_quiet_step (fail))
  exact rfl
 case ha => rfl
 case hMC =>
  intro k vs Y hk hM
  have hb := Ab.Ph.low k vs S3 hM
  exact ⟨Ab.Ph.box HB3.out k vs hk hM,(hb.cell (p := ⟨w.heap.size,0,none⟩) (by show w.heap.size < w.heap.size + 1; omega)).trans HE3.out⟩
 case hMg => exact fun k vs Y Z hM hC => Ab.Ph.grow S3 k vs hM hC.to
 case h0 => exact fun _ _ => Below.refl _ _
 case hq2 => intro k vs Y _ _ _; exact rfl
 case hw =>
  rintro (_ | _ | _ | k) st p hs hp vs Y hl hM
  · obtain rfl : 3 = st := by simpa using hs
    obtain rfl := Option.some.inj hp
    match vs,hl with
    | [x1,x2],_ =>
      refine Ab.du_call (f := 82) (args := #[.int .i64 o.q]) hM (by kernel_rfl) (Wd.put2_any _ _) fun al cap Z hZ => ?_
      exact ⟨_,rfl,fun d hd hn => absurd (by cases hd; simp) hn,hZ⟩
  · obtain rfl : 4 = st := by simpa using hs
    obtain rfl := Option.some.inj hp
    match vs,hl with
    | [x1,x2],_ =>
      refine Ab.du_append (.tmp 15) (.tmp 18) 41 rfl i0 Tryz.underlying41 HI.out.1 HI.out.2.1 HI.out.2.2.1 HI.out.2.2.2 S3 (by decide) HB3.out HO3.out (by rw [HL2.out]; omega) (by rw [HL2.out]; simp) (x1 := x1) (x2 := x2) hM rfl rfl fun v' Z hZ => ?_
      exact ⟨_,rfl,fun d hd hn => absurd (by cases hd; simp) hn,hZ⟩
  · obtain rfl : 5 = st := by simpa using hs
    obtain rfl := Option.some.inj hp
    match vs,hl with
    | [x1,x2],_ =>
      obtain ⟨a2,cap2,rfl,-⟩ := OwnI.form (show OwnI .u8 _ _ _ x2 _ from hM.2.2)
      generalize ([90,(fc : Int)] ++ put2 o.q).length = nn at *
      have HP := Lib.hid (Ab.ph_store hbx (by decide) hM)
      have k5 : Boxed Y bx 41 v3 := hM.2.1
      have cl := k5.cell
      have fl := k5.frozen
      clear hM k5
      simp only [Lt.putAll,List.zip_cons_cons,List.zip_nil_right,List.foldl_cons,List.foldl_nil,Act.put,List.setIfInBounds_toArray,List.set_cons_succ,List.set_cons_zero]
      unfold Oper.wp
      go_simp
      exact HP.out
  · simp at hs
 case hend =>
  intro vs Y hl hM
  obtain ⟨⟨h1,h2⟩,v4,h3,h4⟩ := hM
  have B4 := Lib.hid (B3.out.trans (h1.mono (Nat.le_succ _)))
  have HX4 := Lib.hid (HX3.out.below h1 (Nat.lt_succ_self _))
  have HB4 := Lib.hid h3
  have HO4 := Lib.hid h4
  have S4 : w.heap.size + 1 ≤ Y.heap.size := Nat.le_trans S3 h1.size
  clear h1 h2 h3 h4 HB3 HO3 HX3 HE3 B3 S3
  clear X3
  rename World => X4
  match vs,hl with
  | [x1,x2],_ =>
    simp only [Lt.putAll,List.zip_cons_cons,List.zip_nil_right,List.foldl_cons,List.foldl_nil,Act.put,List.setIfInBounds_toArray,List.set_cons_succ,List.set_cons_zero]
    gi_wp2
    have HV4 := Lib.hid (Wd.putAll_yes HVV.out)
    have HLV := Lib.hid (show (putAll o.v).length = 32 by rw [HV4.out,Wd.fours_len _ HVV.out,HK.out.v])
    have HLL := Lib.hid (show ([90,(fc : Int)] ++ put2 o.q).length = 4 by rw [List.length_append,HL2.out]; rfl)
    generalize hl4 : [90,(fc : Int)] ++ put2 o.q = l4 at *
    have HL4 := Lib.hid hl4
    clear hl4
    refine wpIn_wide.2 ?_
    refine Wr.wp_writes (aF := ?_) [23,24] [3,4,5] 39 2 [true,true,true,false,false,false] [false,false,false,false,false,false] [(23,undef),(24,undef)]
     (Ab.Ph X4 (w.heap.size + 1) bx 41 5 v4 l4 (putAll o.v)) (fun Y => Boxed Y bx 41 v4)
     (by kernel_rfl) (by kernel_rfl) (by kernel_rfl) (by kernel_rfl) (by kernel_rfl) ?ha ?hMC ?hMg ?h0 ?hq ?hq2 ?hw ?hend
    case hq =>
     rintro Y y1
     have k1 := cell_regrown y1.cell
     simp only [Lt.sel,Lt.putAll,List.map_cons,List.map_nil,List.zip_cons_cons,List.zip_nil_right,List.foldl_cons,List.foldl_nil,Act.put,List.setIfInBounds_toArray,List.set_cons_succ,List.set_cons_zero]
     repeat (go_big_quiet_step (fail))
     exact rfl
    case ha => rfl
    case hMC => exact fun k vs Y hk hM => Ab.Ph.box HB4.out k vs hk hM
    case hMg => exact fun k vs Y Z hM hC => Ab.Ph.grow S4 k vs hM hC.to
    case h0 => exact fun _ _ => Below.refl _ _
    case hq2 => intro k vs Y _ _ _; exact rfl
    case hw =>
     rintro (_ | _ | _ | k) st p hs hp vs Y hl hM
     · obtain rfl : 3 = st := by simpa using hs
       obtain rfl := Option.some.inj hp
       match vs,hl with
       | [x1,x2],_ =>
         refine Ab.du_call (f := 83) (args := #[.slice (some ⟨w.heap.size,1,none⟩) 8 8]) hM (by kernel_rfl) (putAll_ret HK.out (by rw [HOV.out]; exact HX4.out.below (Ab.Ph.low 0 [x1,x2] S4 hM) (Nat.lt_succ_self _))) fun al cap Z hZ => ?_
         exact ⟨_,rfl,fun d hd hn => absurd (by cases hd; simp) hn,hZ⟩
     · obtain rfl : 4 = st := by simpa using hs
       obtain rfl := Option.some.inj hp
       match vs,hl with
       | [x1,x2],_ =>
         refine Ab.du_append (.tmp 20) (.tmp 23) 41 rfl i0 Tryz.underlying41 HI.out.1 HI.out.2.1 HI.out.2.2.1 HI.out.2.2.2 S4 (by decide) HB4.out HO4.out (by rw [HLV.out]; omega) (by rw [HLV.out,HLL.out]; omega) (x1 := x1) (x2 := x2) hM rfl rfl fun v' Z hZ => ?_
         exact ⟨_,rfl,fun d hd hn => absurd (by cases hd; simp) hn,hZ⟩
     · obtain rfl : 5 = st := by simpa using hs
       obtain rfl := Option.some.inj hp
       match vs,hl with
       | [x1,x2],_ =>
         obtain ⟨a2,cap2,rfl,-⟩ := OwnI.form (show OwnI .u8 _ _ _ x2 _ from hM.2.2)
         generalize (l4 ++ putAll o.v).length = nn at *
         have HP := Lib.hid (Ab.ph_store hbx (by decide) hM)
         have k5 : Boxed Y bx 41 v4 := hM.2.1
         have cl := k5.cell
         have fl := k5.frozen
         clear hM k5
         simp only [Lt.putAll,List.zip_cons_cons,List.zip_nil_right,List.foldl_cons,List.foldl_nil,Act.put,List.setIfInBounds_toArray,List.set_cons_succ,List.set_cons_zero]
         unfold Oper.wp
         go_simp
         exact HP.out
     · simp at hs
    case hend =>
     intro vs Y hl hM
     obtain ⟨⟨h1,h2⟩,v5,h3,h4⟩ := hM
     have B5 := Lib.hid (B4.out.trans (h1.mono (Nat.le_succ _)))
     have HX5 := Lib.hid (HX4.out.below h1 (Nat.lt_succ_self _))
     have HB5 := Lib.hid h3
     have HO5 := Lib.hid h4
     have S5 : w.heap.size + 1 ≤ Y.heap.size := Nat.le_trans S4 h1.size
     clear h1 h2 h3 h4 HB4 HO4 HX4 B4 S4
     clear X4
     rename World => X5
     have C1 := fun W => callsIn_wide (n := 5 - 1) |>.2 (statuses_any o W)
     rw [HOV.out] at C1
     match vs,hl with
     | [x3,x4],_ =>
       simp only [Lt.putAll,List.zip_cons_cons,List.zip_nil_right,List.foldl_cons,List.foldl_nil,Act.put,List.setIfInBounds_toArray,List.set_cons_succ,List.set_cons_zero]
       gi_wp2_with (first
        | ((with_reducible show wpListIn _ _ _ _ _ (⟨some 25,_,_,_,_,_⟩ :: _) _ _); refine wpListIn_loadR rfl _ _ rfl w.heap.size 0 rfl ov _ (row_range HX5.out) Tryz.underlying40 rfl HZ0.out ?_)
        | (refine ⟨trivial,?_⟩; gi_at_call 68; refine (C1 _).mono ?_; rintro e w2 ⟨rfl,rfl⟩))
       have HL5 := Lib.hid (show (l4 ++ putAll o.v).length = 36 by rw [List.length_append,HLL.out,HLV.out])
       have HH := Lib.hid (show (l4 ++ putAll o.v) ++ wds o.s = head o by unfold head; rw [← HL4.out,HV4.out,← HFC.out,List.append_assoc,List.append_assoc])
       generalize l4 ++ putAll o.v = l5 at *
       have v6 := VRow.new X5 ov 40
       have b6 := Lib.hid (HB5.out.alloc (.cells ov.toArray 40))
       have o6 := Lib.hid (HO5.out.alloc (.cells ov.toArray 40))
       have B6 := Lib.hid (B5.out.alloc B5.out.size (.cells ov.toArray 40))
       have S6 : w.heap.size + 1 ≤ (X5.alloc (.cells ov.toArray 40)).heap.size := by simp; omega
       have CS := fun W a cap h => Cr.seal_cap a cap (head o) W (by rw [head_len ((orgt_iff o).2 ⟨HQ.out,HVV.out,HSS.out⟩) HK.out]; omega) (head_bytes HK.out) h
       have HHL := Lib.hid (head_len ((orgt_iff o).2 ⟨HQ.out,HVV.out,HSS.out⟩) HK.out)
       rw [HHL.out] at CS
       have HSL := Lib.hid (show (Cr.sealed (head o)).length = 54 by rw [Cr.sealed_len,HHL.out])
       clear B5 HX5 HB5 HO5 S5 C1 HL4 HLL HLV HV4 CR CF
       generalize hx6 : X5.heap.size = gb at *
       clear hx6
       generalize X5.alloc (.cells ov.toArray 40) = X6 at *
       refine range_lays rfl (by omega) (gf := 107) (lb := #[.pointer (some ⟨gb,0,none⟩)]) rfl trivial (enters_of Tryz.func107 (by kernel_rfl) rfl)
        (Kp := fun _ _ => True) (encs := encs o)
        (fun V hV _ => statuses_goes _ (by omega) gb o HK.out _ V (by rw [HOV.out]; exact v6.below hV v6.lt))
        (fun _ _ => trivial) (fun _ _ _ _ _ _ _ _ => trivial) (fun _ => rfl)
        (fun pre X => (∃ v,Boxed X bx 41 v ∧ X.ownsRow (w.heap.size + 1) 5 1 v (l5 ++ wds (o.s.take pre.length)).length (cellsI .u8 (l5 ++ wds (o.s.take pre.length))) ∧ True) ∧ Below w.heap.size w X)
        (fun _ _ _ => False)
        (OwnFrom.and (Own.from (holdsRow_own (w.heap.size + 1) bx 41 5 1 (fun pre : List (Fin 8) => (l5 ++ wds (o.s.take pre.length)).length) (fun pre => cellsI .u8 (l5 ++ wds (o.s.take pre.length))) (fun _ _ => True)) _) (ownFrom_below (Nat.le_refl _) (by omega)))
        (fun _ _ _ _ _ hs _ _ => hs)
        ⟨⟨v5,b6.out,by rw [show l5 ++ wds (o.s.take ([] : List (Fin 8)).length) = l5 by simp [wds]]; exact o6.out,trivial⟩,B6.out⟩
        (fun pre x a' X => ((∃ v,Boxed X bx 41 v ∧ X.ownsRow (w.heap.size + 1) 5 1 v (l5 ++ wds (o.s.take pre.length)).length (cellsI .u8 (l5 ++ wds (o.s.take pre.length))) ∧ True) ∧ Below w.heap.size w X) ∧ ∃ g,VRow X g 37 (str (o.s.getD x.val zer)) ∧
         a' = { tmps := #[.agg ov.toArray,.pointer (some ⟨w.heap.size,0,none⟩),.slice none 0 0,.int .i64 0,.pointer (some ⟨bx,0,none⟩),.pointer (some ⟨g,0,none⟩),undef,undef,.agg ov.toArray,.bool true,.bool false,.agg ov.toArray,.int .i64 fc,.int .u8 fc,v3,v3,.pointer (some ⟨w.heap.size,0,none⟩),
          .int .i64 o.q,x1,x2,v4,.pointer (some ⟨w.heap.size,1,none⟩),.slice (some ⟨w.heap.size,1,none⟩) 8 8,x3,x4,.agg ov.toArray,.func (.func 107) #[] #[.pointer (some ⟨gb,0,none⟩)],.agg (str (o.s.getD x.val zer)).toArray,undef,undef,undef,undef,undef,undef,undef,undef,undef,undef,undef],defers := [] })
        (fun pre x a' A B row h hg hr => ?hib) ?assign ?body ?done ?stop
       case hib =>
        obtain ⟨⟨h1,h2⟩,g,h3,h4⟩ := h
        exact ⟨⟨Own.from (holdsRow_own (β := Unit) (w.heap.size + 1) bx 41 5 1 (fun _ => (l5 ++ wds (o.s.take pre.length)).length) (fun _ => cellsI .u8 (l5 ++ wds (o.s.take pre.length))) (fun _ _ => True)) X6.heap.size () A B row h1 hg hr,ownFrom_below (β := Unit) (Nat.le_refl _) (by omega) () A B row h2 hg hr⟩,g,own_row (β := Unit) X6.heap.size g _ (fun _ => _) () A B row h3 hg hr,h4⟩
       case assign =>
        rintro l pre x X ⟨⟨v,h1,h0,-⟩,h2⟩ - -
        obtain ⟨q1,q2⟩ := lay_st X (o.s.getD x.val zer)
        refine ⟨_,_,q1,trivial,⟨⟨⟨v,boxed_grown h1 q1,Ab.owns_grow h0 ((Below.refl _ X).grown q1 (Nat.le_refl _) fun k e => by cases e),trivial⟩,below_grown h2 q1 h2.size⟩,X.heap.size,q2,rfl⟩,fun K hK => ?_⟩
        dsimp only [encs]
        have RN := Lib.hid (VRow.new X (str zer) 37)
        clear h0 h1 h2
        generalize o.s.getD x.val zer = s at *
        gi_wp2_with ((with_reducible show wpListIn _ _ _ _ _ (⟨none,.store _ (.tmp 5) _,_,_,_,_⟩ :: _) _ _); refine wpListIn_storeW rfl _ _ _ _ rfl X.heap.size (str zer) (str s) rfl rfl RN.out Ss.sizeS rfl (Ss.str_one s) ?_)
        exact hK
       case body =>
        rintro lp pre x a' X ⟨⟨⟨v,h1,h0,-⟩,h2⟩,g,h3,rfl⟩ hlen hG
        have HN := Lib.hid (wds_next o.s pre.length (by rw [HK.out.s]; exact hlen))
        have HRG := Lib.hid (at_rgt HSS.out (i := pre.length) (by rw [HK.out.s]; exact hlen))
        rw [hG] at h3 ⊢
        have HL := Lib.hid (show (pre ++ [x]).length = pre.length + 1 by simp)
        have HLW := Lib.hid (show (l5 ++ wds (o.s.take pre.length)).length ≤ 60 by
         rw [List.length_append,HL5.out,wds_len (List.all_eq_true.2 fun y hy => List.all_eq_true.1 HSS.out y (List.mem_of_mem_take hy)),List.length_take]; omega)
        have H0 := Lib.hid h0
        have H1 := Lib.hid h1
        have H2 := Lib.hid h2
        have RS := Lib.hid (row_range h3)
        clear h0 h1 h2 h3
        generalize o.s.getD pre.length zer = s at *
        have CW := Ss.word_any s X
        unfold stv at CW
        change Calls _ _ #[.agg (str s).toArray] _ _ at CW
        rw [wdv_yes HRG.out] at CW
        generalize Ss.wde s = we at *
        have HPL := Lib.hid (Fm.put2_len (wrd_in2 HRG.out))
        generalize wds (o.s.take pre.length) = wr at *
        generalize hlr : l5 ++ wr = lr at *
        have HLR := Lib.hid hlr
        clear hlr
        generalize wrd s = ws at *
        gi_wp2_with (first
         | ((with_reducible show wpListIn _ _ _ _ _ (⟨some 29,_,_,_,_,_⟩ :: _) _ _); refine wpListIn_loadR rfl _ _ rfl g 0 rfl (str s) _ RS.out Tryz.underlying37 rfl Ss.sizeS ?_)
         | (refine ⟨trivial,?_⟩; gi_at_call 84; refine (CallsIn.inRound lp (callsIn_wide.2 CW)).mono ?_; rintro e w2 ⟨rfl,bw⟩; have HB7 := Lib.hid (Ab.boxed_on H1.out bw); have HO7 := Lib.hid (show OwnI .u8 _ _ _ _ _ from Ab.owns_grow H0.out bw); have B7 := Lib.hid (grow H2.out bw); have KF := Lib.hid (KeepsFrom.of_but (B := X6.heap.size) (But.of_below (S := fun _ => False) bw) (fun _ q => q.elim)); clear bw))
        have S7 : w.heap.size + 1 ≤ w2.heap.size := by have := KF.out.size; have := H2.out.size; have := H1.out.lt; omega
        rename World => X7
        refine Wr.wpIn_writes (aF := ?_) [35,36] [2,3,4] 39 2 [true,true,false,false,false] [false,false,false,false,false] [(35,undef),(36,undef)]
         (Ab.Ph X7 (w.heap.size + 1) bx 41 5 v lr (put2 ws)) (fun Y => Boxed Y bx 41 v)
         (by kernel_rfl) (by kernel_rfl) (by kernel_rfl) (by kernel_rfl) (by kernel_rfl) (by kernel_rfl) ?hL ?ha ?hMC ?hMg ?h0 ?hq ?hq2 ?hw ?hend
        case hq =>
         rintro Y y1
         have k1 := cell_regrown y1.cell
         simp only [Lt.sel,Lt.putAll,List.map_cons,List.map_nil,List.zip_cons_cons,List.zip_nil_right,List.foldl_cons,List.foldl_nil,Act.put,List.setIfInBounds_toArray,List.set_cons_succ,List.set_cons_zero]
         repeat (go_big_quiet_step (fail))
         exact rfl
        case ha => rfl
        case hL => rintro ⟨_,_,h⟩; exact h
        case hMC => exact fun k vs Y hk hM => Ab.Ph.box HB7.out k vs hk hM
        case hMg => exact fun k vs Y Z hM hC => Ab.Ph.grow S7 k vs hM hC.to
        case h0 => exact fun _ _ => Below.refl _ _
        case hq2 => intro k vs Y _ _ _; exact rfl
        case hw =>
         rintro (_ | _ | _ | k) st p hs hp vs Y hl hM
         · obtain rfl : 2 = st := by simpa using hs
           obtain rfl := Option.some.inj hp
           match vs,hl with
           | [x1,x2],_ =>
             refine Ab.du_call (f := 82) (args := #[.int .i64 ws]) hM (by kernel_rfl) (Wd.put2_any _ _) fun al cap Z hZ => ?_
             exact ⟨_,rfl,fun d hd hn => absurd (by cases hd; simp) hn,hZ⟩
         · obtain rfl : 3 = st := by simpa using hs
           obtain rfl := Option.some.inj hp
           match vs,hl with
           | [x1,x2],_ =>
             refine Ab.du_append (.tmp 33) (.tmp 35) 41 rfl i0 Tryz.underlying41 HI.out.1 HI.out.2.1 HI.out.2.2.1 HI.out.2.2.2 S7 (by decide) HB7.out HO7.out (by rw [HPL.out]; omega) (by rw [HPL.out]; have := HLW.out; omega) (x1 := x1) (x2 := x2) hM rfl rfl fun v' Z hZ => ?_
             exact ⟨_,rfl,fun d hd hn => absurd (by cases hd; simp) hn,hZ⟩
         · obtain rfl : 4 = st := by simpa using hs
           obtain rfl := Option.some.inj hp
           match vs,hl with
           | [x1,x2],_ =>
             obtain ⟨a2,cap2,rfl,-⟩ := OwnI.form (show OwnI .u8 _ _ _ x2 _ from hM.2.2)
             generalize (lr ++ put2 ws).length = nn at *
             have HP := Lib.hid (Ab.ph_store hbx (by decide) hM)
             have k5 : Boxed Y bx 41 v := hM.2.1
             have cl := k5.cell
             have fl := k5.frozen
             clear hM k5
             simp only [Lt.putAll,List.zip_cons_cons,List.zip_nil_right,List.foldl_cons,List.foldl_nil,Act.put,List.setIfInBounds_toArray,List.set_cons_succ,List.set_cons_zero]
             unfold Oper.wp
             go_simp
             exact HP.out
         · simp at hs
        case hend =>
         intro vs Y hl hM
         obtain ⟨⟨h1,h2⟩,v',h3,h4⟩ := hM
         have HF := Lib.hid (And.intro (h2.from X6.heap.size) (And.intro h3 (And.intro h4 (B7.out.trans (h1.mono (Nat.le_succ _))))))
         clear h1 h2 h3 h4
         match vs,hl with
         | [y1,y2],_ =>
           simp only [Lt.putAll,List.zip_cons_cons,List.zip_nil_right,List.foldl_cons,List.foldl_nil,Act.put,List.setIfInBounds_toArray,List.set_cons_succ,List.set_cons_zero]
           gi_wp2
           refine ⟨KF.out.trans HF.out.1,trivial,⟨v',HF.out.2.1,?_,trivial⟩,HF.out.2.2.2⟩
           rw [HL.out,HN.out,← List.append_assoc,HLR.out]
           exact HF.out.2.2.1
       case done =>
        rintro D ys X hD hys ⟨⟨v,h1,h0,-⟩,h2⟩ hK
        rw [len8 hys,List.take_of_length_le (by rw [HK.out.s]; omega),HH.out] at h0
        obtain ⟨a9,cap9,rfl,i9⟩ := OwnI.form (show OwnI .u8 _ _ _ v _ from h0)
        rw [HHL.out] at h1
        have c1 := h1.cell
        have I9 := Lib.hid i9
        have H2 := Lib.hid h2
        have HKK := Lib.hid hK
        clear h0 h1 h2 i9
        gi_wp2_with (refine ⟨trivial,?_⟩; gi_at_call 85; refine (callsIn_wide.2 (CS _ _ _ I9.out)).mono ?_; rintro e w7 ⟨a7,cap7,rfl,i7,m7,b7⟩; have I7 := Lib.hid i7; have M7 := Lib.hid m7; have B7 := Lib.hid b7; clear i7 m7 b7)
        have hK' := (B7.out.block D (Array.getElem?_eq_some_iff.1 HKK.out).1).trans HKK.out
        refine ⟨by simp,.inl ⟨_,_,rfl,run_takeDeferred hK',?_⟩⟩
        refine ⟨_,results2 rfl _ _ _,?_⟩
        exact retCE_mk HE.out.symm rfl HZ.out M7.out (ints_turned I7.out hK' rfl) ((grow H2.out B7.out).trans (belowK_b (w := w) (Nat.le_refl _) w7 D _ _ (by omega) hK' rfl rfl))
       case stop =>
        rintro D cc pre X _ _ h _
        exact h.elim
end Ot
open Go.ChangeShapes Go.WideShapes Go.ChangeAt Go.RowKit Go.Deep
namespace Ws
open Lt Wr
open Flow (looks)
def setsB (l : List Oper) (ss : List Nat) (N : Nat) (NC : List Tmp) (m : List Bool) : Bool :=
 (l.zipIdx.all fun q => fitsW l ss N NC q.2 q.1) && (decide (dsts l).Nodup && (decide ss.Nodup && ((ss.all fun s => decide (s < l.length)) && (((List.range l.length).all fun i => ss.contains i || m.getD i false) && (lexOk N (sel m l) &&
  (Region.noSelect l.toArray && ((wdsts l ss).all fun d => !(dsts (sel m l)).contains d)))))))
section
variable {P : Program} {Q : Exit → Act → World → Prop} {l : List Oper} {ss : List Nat} {N : Nat} {NC : List Tmp} {m0 : List Bool} {a0 a1 aF : Act} {M : List Bool → List Value → World → Prop}
structure InvS (l : List Oper) (ss : List Nat) (N : Nat) (NC : List Tmp) (M : List Bool → List Value → World → Prop) (a0 aF : Act) (hl : Array Bool) (a : Act) (w : World) : Prop where
 size : hl.size = l.length
 frame : a.tmps.size = N
 defers : a.defers = a0.defers
 old : ∀ t,t ∉ dsts l → got a t = got a0 t
 const : ∀ (i : Nat) o d,l[i]? = some o → hl.getD i false = true → o.dst = some d → d ∉ NC → got a d = got aF d
 phase : ∃ bs : List Bool,bs.length = ss.length ∧ M bs (NC.map (got a)) w ∧ ∀ (j s : Nat),ss[j]? = some s → hl.getD s false = bs.getD j false
structure FitS (l : List Oper) (ss : List Nat) (N : Nat) (NC : List Tmp) (m : List Bool) : Prop where
 fit : ∀ (i : Nat) o,l[i]? = some o → fitsW l ss N NC i o = true
 one : (dsts l).Nodup
 once : ss.Nodup
 lt : ∀ s ∈ ss,s < l.length
 cov : ∀ i,i < l.length → i ∉ ss → m.getD i false = true
 lex : lexOk N (sel m l) = true
 nosel : ∀ o ∈ l,∀ cs b,o.op ≠ .select cs b
 wd : ∀ d ∈ wdsts l ss,d ∉ dsts (sel m l)
theorem fits_of {m : List Bool} (h : setsB l ss N NC m = true) : FitS l ss N NC m := by
 unfold setsB at h
 simp only [Bool.and_eq_true] at h
 obtain ⟨h1,h2,h3,h5,h6,h7,h8,h9⟩ := h
 refine ⟨fun i o ho => List.all_eq_true.1 h1 (o,i) (by rw [List.mem_zipIdx_iff_getElem?]; simpa using ho),of_decide_eq_true h2,of_decide_eq_true h3,fun s hs => by have := List.all_eq_true.1 h5 s hs; simpa using this,fun i hi hn => ?_,h7,fun o ho cs b => ?_,fun d hd => by have := List.all_eq_true.1 h9 d hd; simpa using this⟩
 · have := List.all_eq_true.1 h6 i (List.mem_range.2 hi)
   simpa [hn] using this
 · obtain ⟨j,hj⟩ := List.mem_iff_getElem?.1 ho
   exact Region.noSelect_spec h8 j o cs b (by simpa using hj)
theorem any_sets {m : List Bool} (O : FitS l ss N NC m) (hF : ∀ t,t ∉ dsts l → got aF t = got a0 t) (hfs : aF.tmps.size = N) (hfd : aF.defers = a0.defers)
 (hW : ∀ d ∈ wdsts l ss,d ∉ NC → got aF d = got a1 d) (hMg : ∀ bs vs W W',M bs vs W → Cl W W' → M bs vs W')
 (hq : ∀ bs vs W,M bs vs W → ∀ (i : Nat) o,l[i]? = some o → i ∉ ss → ∀ d,o.dst = some d → ∀ w2,Cl W w2 → o.quietAt P aF (Cl W) w2 (got aF d))
 (hw : ∀ (bs : List Bool) (k s : Nat) o,bs.length = ss.length → ss[k]? = some s → l[s]? = some o → bs.getD k false = false → (∀ (k' s' : Nat),ss[k']? = some s' → waits o s' = true → bs.getD k' false = true) → ∀ a W,a.tmps.size = N → M bs (NC.map (got a)) W → (∀ t ∈ looks o,t ∉ NC → got a t = got aF t) →
  o.wp P a W (fun a' W' => ∃ v,a' = a.put o.dst v ∧ (∀ d,o.dst = some d → d ∉ NC → v = got a1 d) ∧ M (bs.set k true) (NC.map (got a')) W') (fun _ _ _ => False))
 (hend : ∀ vs W,vs.length = NC.length → M (List.replicate ss.length true) vs W → Q .normal (putAll aF NC vs) W) :
 ∀ (f : Nat) (hl : Array Bool) (a : Act) (w : World),InvS l ss N NC M a0 aF hl a w → hl.toList.count false ≤ f → wpAny P .any l.toArray Q f hl a w := by
 have low : ∀ (i : Nat) o,l[i]? = some o → ∀ e ∈ o.after,Region.binds .any e = true → e.on < i := fun i o ho e he hb => by
  have h := O.fit i o ho
  unfold fitsW at h
  simp only [Bool.and_eq_true] at h
  have := Array.all_eq_true_iff_forall_mem.1 h.2.1 e he
  simpa [hb] using this
 have done : ∀ (hl : Array Bool) (a : Act) (w : World),InvS l ss N NC M a0 aF hl a w → (∀ i,i < l.length → hl.getD i false = true) → Q .normal a w := by
  intro hl a w I hall
  obtain ⟨bs,hbl,hM,hk⟩ := I.phase
  have e : putAll aF NC (NC.map (got a)) = a := by
   refine putAll_eq (N := N) I.frame NC aF hfs (by rw [hfd,I.defers]) fun t ht => ?_
   by_cases q : t ∈ dsts l
   · obtain ⟨o,ho,hod⟩ := List.mem_filterMap.1 q
     obtain ⟨j,hj⟩ := List.mem_iff_getElem?.1 ho
     exact (I.const j o t hj (hall j (List.getElem?_eq_some_iff.1 hj).1) hod ht).symm
   · rw [I.old t q,hF t q]
  have hbs : bs = List.replicate ss.length true := by
   refine List.ext_getElem (by simp [hbl]) fun k h1 h2 => ?_
   have q : k < ss.length := by omega
   have := hk k _ (List.getElem?_eq_getElem q)
   rw [hall _ (O.lt _ (List.getElem_mem q)),List.getD_eq_getElem?_getD,List.getElem?_eq_getElem h1] at this
   simpa using this.symm
  have := hend (NC.map (got a)) w (by simp) (hbs ▸ hM)
  rwa [e] at this
 -- the least one that is left is ready
 have some_ready : ∀ (hl : Array Bool),hl.size = l.length → Region.ready .any l.toArray hl = [] → ∀ i,i < l.length → hl.getD i false = true := by
  intro hl hs h0 i
  induction i using Nat.strongRecOn with
  | _ i ih =>
    intro hi
    cases q : hl.getD i false with
    | true => rfl
    | false =>
      have hun : hl.getD i true = false := by
       have hlt : i < hl.size := by omega
       simpa [hlt] using q
      have := (show i ∈ Region.ready .any l.toArray hl from mem_ready.2 ⟨hun,l[i],(by rw [List.getElem?_toArray]; exact List.getElem?_eq_getElem hi),fun e he hb => ih e.on (low i _ (List.getElem?_eq_getElem hi) e he hb) (by have := low i _ (List.getElem?_eq_getElem hi) e he hb; omega)⟩)
      rw [h0] at this; cases this
 intro f
 induction f with
 | zero =>
   intro hl a w I hc
   have hall : ∀ i,i < l.length → hl.getD i false = true := fun i hi => by
    cases q : hl.getD i false with
    | true => rfl
    | false =>
      have hlt : i < hl.size := by rw [I.size]; exact hi
      simp [hlt] at q
      have : false ∈ hl.toList := by rw [← q]; simp
      have := List.count_pos_iff.2 this
      omega
   refine ⟨?_,done hl a w I hall⟩
   cases hr : Region.ready .any l.toArray hl with
   | nil => rfl
   | cons i r =>
     obtain ⟨hun,o,ho,-⟩ := mem_ready.1 (show i ∈ Region.ready .any l.toArray hl by rw [hr]; exact List.mem_cons_self)
     have hi : i < l.length := by simpa using (Array.getElem?_eq_some_iff.1 ho).1
     have h1 := hall i hi
     rw [getD_both hun] at h1; cases h1
 | succ f ih =>
   intro hl a w I hc
   refine ⟨fun hr => done hl a w I (some_ready hl I.size hr),fun i hr => ?_⟩
   obtain ⟨hun,o,ho,hall⟩ := mem_ready.1 hr
   have ho' : l[i]? = some o := by simpa using ho
   have hi : i < l.length := (List.getElem?_eq_some_iff.1 ho').1
   have hil : i < hl.size := by rw [I.size]; exact hi
   have hsf : hl.getD i false = false := getD_both hun
   have hf := O.fit i o ho'
   unfold fitsW at hf
   simp only [Bool.and_eq_true] at hf
   obtain ⟨hg,-,⟨hds,hlk⟩,hnc⟩ := hf
   have hg : o.guard = none := by simpa using hg
   have hcount : (hl.setIfInBounds i true).toList.count false ≤ f := by
    rw [Array.toList_setIfInBounds,List.count_set (by simpa using hil)]
    have hun' : hl[i] = false := by simpa [hil] using hun
    have hp : 0 < hl.toList.count false := List.count_pos_iff.2 (by rw [← hun']; simp)
    have hp' : hl.toList.count false - 1 ≤ f := by omega
    simpa [hun'] using hp'
   have cst : ∀ t ∈ looks o,t ∉ NC → got a t = got aF t := by
    intro t ht hn
    have h := List.all_eq_true.1 hlk t ht
    rw [Bool.or_eq_true] at h
    rcases h with h | h
    · have h : t ∉ dsts l := by simpa using h
      rw [I.old t h,hF t h]
    · rw [Array.any_eq_true'] at h
      obtain ⟨e,he,h⟩ := h
      rw [Bool.and_eq_true,beq_iff_eq] at h
      have hl' := hall e he h.1
      cases hp : l[e.on]? with
      | none => rw [hp] at h; simp at h
      | some p => rw [hp] at h; exact I.const e.on p t hp hl' (by simpa using h.2) hn
   have self : ∀ j,(hl.setIfInBounds i true).getD j false = true → j = i ∨ hl.getD j false = true := fun j h => by
    by_cases q : j = i
    · exact .inl q
    · exact .inr (set_false h q)
   -- what the frame is behind it
   have next : ∀ (v : Value) (w' : World),(∀ d,o.dst = some d → d ∉ NC → v = got aF d) → (∃ bs : List Bool,bs.length = ss.length ∧ M bs (NC.map (got (a.put o.dst v))) w' ∧ ∀ (j s : Nat),ss[j]? = some s → (hl.setIfInBounds i true).getD s false = bs.getD j false) →
    InvS l ss N NC M a0 aF (hl.setIfInBounds i true) (a.put o.dst v) w' := by
    intro v w' hv hp
    cases hd : o.dst with
    | none =>
      rw [hd] at hp
      refine ⟨by simpa using I.size,I.frame,I.defers,I.old,fun j p d h1 h2 h3 h4 => ?_,hp⟩
      rcases self j h2 with rfl | h2
      · rw [ho'] at h1; cases h1; rw [hd] at h3; cases h3
      · exact I.const j p d h1 h2 h3 h4
    | some d =>
      rw [hd] at hp
      have hdN : d < N := by rw [hd] at hds; simpa using hds
      refine ⟨by simpa using I.size,by simpa [Act.put] using I.frame,I.defers,fun t ht => ?_,fun j p x h1 h2 h3 h4 => ?_,hp⟩
      · rw [got_put (fun e => ht (by rw [e]; exact mem_dsts ho' hd))]; exact I.old t ht
      · by_cases q : j = i
        · subst q; rw [ho'] at h1; cases h1; rw [hd] at h3; cases h3
          rw [got_set (by rw [I.frame]; exact hdN)]; exact hv d hd h4
        · rw [got_put (fun e => q (dst_one O.one h1 ho' (by rw [← e]; exact h3) hd))]; exact I.const j p x h1 (set_false h2 q) h3 h4
   obtain ⟨bs,hbl,hM,hk⟩ := I.phase
   unfold wpOp
   simp only [ho]
   rw [if_pos (show Region.wanted o (yielded l.toArray a.tmps) = true by simp [Region.wanted,hg])]
   refine .inl ?_
   by_cases his : i ∈ ss
   · -- a write: the next one
     obtain ⟨j,hj⟩ := List.mem_iff_getElem?.1 his
     have hjl : j < ss.length := (List.getElem?_eq_some_iff.1 hj).1
     have hbj : bs.getD j false = false := by rw [← hk j i hj]; exact hsf
     have hpre : ∀ (k' s' : Nat),ss[k']? = some s' → waits o s' = true → bs.getD k' false = true := fun k' s' hs' hwt => by
      obtain ⟨e,he,hb,hon⟩ := waits_iff hwt
      rw [← hk k' s' hs']
      exact hon ▸ hall e he hb
     refine Oper.wp_mono ?_ (wp_noQ (hw bs j i o hbl hj ho' hbj hpre a w I.frame hM cst))
     rintro a' w' ⟨v,rfl,hv,hM'⟩
     refine ih _ _ _ (next v w' (fun d hd hn => ?_) ⟨bs.set j true,by simpa using hbl,hM',fun k s hs => ?_⟩) hcount
     · rw [hv d hd hn]
       exact (hW d (List.mem_filterMap.2 ⟨i,his,by rw [ho']; exact hd⟩) hn).symm
     · by_cases q : s = i
       · subst q
         have hjk : k = j := (List.getElem?_inj (List.getElem?_eq_some_iff.1 hs).1 O.once).1 (hs.trans hj.symm)
         subst hjk
         rw [List.getD_eq_getElem?_getD,List.getElem?_set_self (by omega)]
         simp [hil]
       · have hne : j ≠ k := fun e => q (by rw [← e,hj] at hs; cases hs; rfl)
         rw [getD_set_ne false (Ne.symm q),hk k s hs,List.getD_eq_getElem?_getD,List.getD_eq_getElem?_getD,List.getElem?_set_ne hne]
   · -- it only reads
     have hnc : (∀ t ∈ looks o,t ∉ NC) ∧ ∃ d,o.dst = some d ∧ d ∉ NC := by
      simp only [Bool.or_eq_true,Bool.and_eq_true] at hnc
      rcases hnc with h | ⟨h1,h2⟩
      · exact absurd (by simpa using h) his
      · refine ⟨fun t ht => by have := List.all_eq_true.1 h1 t ht; simpa using this,?_⟩
        cases hd : o.dst with
        | none => rw [hd] at h2; cases h2
        | some d => rw [hd] at h2; exact ⟨d,rfl,by simpa using h2⟩
     obtain ⟨c1,d,hd,c2⟩ := hnc
     have hx : execOp a.eval o = execOp aF.eval o := execOp_congr o (O.nosel o (List.mem_of_getElem? ho')) (looks_eval fun t ht => cst t ht (c1 t ht))
     refine Oper.wp_of_quiet (C := Cl w) (K := fun a'' => a'' = a.put o.dst (got aF d)) (Cl.of (Below.refl _ _)) ?_ ⟨got aF d,fun w2 h2 => ?_,rfl⟩
     · rintro a' w' hc' rfl
       have same : NC.map (got (a.put o.dst (got aF d))) = NC.map (got a) := by
        rw [hd]; exact List.map_congr_left fun t ht => got_put (fun e => c2 (e ▸ ht))
       refine ih _ _ _ (next (got aF d) w' (fun d' hd' _ => by rw [hd] at hd'; cases hd'; rfl) ⟨bs,hbl,by rw [same]; exact hMg bs _ w w' hM hc',fun j s hs => ?_⟩) hcount
       rw [getD_set_ne false (fun e => his (by rw [e]; exact List.mem_of_getElem? hs)),hk j s hs]
     · have := hq bs _ w hM i o ho' his d hd w2 h2
       unfold Oper.quietAt at this ⊢
       rw [hx]
       exact this
theorem duty_set {a1 aF : Act} (hB : setsB l ss N NC m0 = true) (hNC : NC.Nodup ∧ ∀ t ∈ NC,t < N) (hfs : aF.tmps.size = N)
 (hw : ∀ (bs : List Bool) (k s : Nat) o,bs.length = ss.length → ss[k]? = some s → l[s]? = some o → bs.getD k false = false → (∀ (k' s' : Nat),ss[k']? = some s' → waits o s' = true → bs.getD k' false = true) → ∀ vs W,vs.length = NC.length → M bs vs W →
  o.wp P (putAll aF NC vs) W (fun a' W' => ∃ v,a' = (putAll aF NC vs).put o.dst v ∧ (∀ d,o.dst = some d → d ∉ NC → v = got a1 d) ∧ M (bs.set k true) (NC.map (got a')) W') (fun _ _ _ => False)) :
 ∀ (bs : List Bool) (k s : Nat) o,bs.length = ss.length → ss[k]? = some s → l[s]? = some o → bs.getD k false = false → (∀ (k' s' : Nat),ss[k']? = some s' → waits o s' = true → bs.getD k' false = true) → ∀ a W,a.tmps.size = N → M bs (NC.map (got a)) W → (∀ t ∈ looks o,t ∉ NC → got a t = got aF t) →
   o.wp P a W (fun a' W' => ∃ v,a' = a.put o.dst v ∧ (∀ d,o.dst = some d → d ∉ NC → v = got a1 d) ∧ M (bs.set k true) (NC.map (got a')) W') (fun _ _ _ => False) := fun bs k s o hb hs ho h1 h2 a W ha hM hl => by
 have O := fits_of hB
 have hd : ∀ d,o.dst = some d → d < N := fun d h => by
  have := O.fit s o ho
  unfold fitsW at this
  simp only [Bool.and_eq_true] at this
  have := this.2.2.1.1
  rw [h] at this
  simpa using this
 have hin : ∀ t ∈ NC,got (putAll aF NC (NC.map (got a))) t = got a t := got_putAll a NC aF hNC.1 (fun t ht => by rw [hfs]; exact hNC.2 t ht)
 have same : ∀ v,NC.map (got (a.put o.dst v)) = NC.map (got ((putAll aF NC (NC.map (got a))).put o.dst v)) := fun v => by
  cases hq : o.dst with
  | none => exact List.map_congr_left fun t ht => (hin t ht).symm
  | some d =>
    refine List.map_congr_left fun t ht => ?_
    by_cases e : t = d
    · subst e
      rw [got_set (by rw [ha]; exact hd t hq),got_set (by rw [size_putAll,hfs]; exact hd t hq)]
    · rw [got_put e,got_put e,hin t ht]
 refine Oper.wp_mono ?_ (wp_swap (aF := putAll aF NC (NC.map (got a))) (R := fun v W' => (∀ d,o.dst = some d → d ∉ NC → v = got a1 d) ∧ M (bs.set k true) (NC.map (got ((putAll aF NC (NC.map (got a))).put o.dst v))) W') (execOp_congr o (O.nosel o (List.mem_of_getElem? ho)) (looks_eval fun t ht => ?_)) (fun d h => by rw [size_putAll,hfs]; exact hd d h) (Oper.wp_mono ?_ (hw bs k s o hb hs ho h1 h2 (NC.map (got a)) W (by simp) hM)))
 · rintro a' W' ⟨v,rfl,h2,h3⟩
   exact ⟨v,rfl,h2,by rw [same v]; exact h3⟩
 · by_cases q : t ∈ NC
   · exact (hin t q).symm
   · rw [got_putAll_not _ _ _ _ q]; exact hl t ht q
 · rintro a' W' ⟨v,rfl,h2,h3⟩
   exact ⟨v,rfl,h2,h3⟩
theorem wp_sets {id : Nat} {a w} (NC : List Tmp) (ss : List Nat) (N : Nat) (m : List Bool) (ds : List (Tmp × Value)) (M : List Bool → List Value → World → Prop) (C : World → Prop) {aF : Act} (hm : P.follows .mixedOrders = true) (hB : setsB l ss N NC m = true) (hNC : (decide NC.Nodup && (NC.all fun t => decide (t < N))) = true) (hds : ds.map (·.1) = wdsts l ss)
 (ha : a.tmps.size = N) (hMC : ∀ bs vs W,M bs vs W → C W) (hMg : ∀ bs vs W W',M bs vs W → Cl W W' → M bs vs W') (h0 : ∀ vs,vs.length = NC.length → M (List.replicate ss.length false) vs w)
 (hq : ∀ W,C W → wpQuiet P l.toArray (fun w' => ∃ p : Regrown,w' = Sort.grow (redrawn W p.d) p.os) (fun a' => a' = aF) (sel m l) (putAll a (ds.map (·.1)) (ds.map (·.2))))
 (hw : ∀ (bs : List Bool) (k s : Nat) o,bs.length = ss.length → ss[k]? = some s → l[s]? = some o → bs.getD k false = false → (∀ (k' s' : Nat),ss[k']? = some s' → waits o s' = true → bs.getD k' false = true) → ∀ vs W,vs.length = NC.length → M bs vs W →
  o.wp P (putAll aF NC vs) W (fun a' W' => ∃ v,a' = (putAll aF NC vs).put o.dst v ∧ (∀ d,o.dst = some d → d ∉ NC → v = got (putAll a (ds.map (·.1)) (ds.map (·.2))) d) ∧ M (bs.set k true) (NC.map (got a')) W') (fun _ _ _ => False))
 (hend : ∀ vs W,vs.length = NC.length → M (List.replicate ss.length true) vs W → Q .normal (putAll aF NC vs) W) : (Code.region id l.toArray true).wp P Q a w := by
 have hn : NC.Nodup ∧ ∀ t ∈ NC,t < N := by
  rw [Bool.and_eq_true] at hNC
  exact ⟨of_decide_eq_true hNC.1,fun t ht => by have := List.all_eq_true.1 hNC.2 t ht; simpa using this⟩
 have ha1 : (putAll a (ds.map (·.1)) (ds.map (·.2))).tmps.size = N := by rw [size_putAll,ha]
 have hd1 : ∀ (NC : List Tmp) (vs : List Value) (a : Act),(putAll a NC vs).defers = a.defers := fun NC => by
  induction NC with
  | nil => intro vs a; rfl
  | cons x NC ih =>
    intro vs a
    cases vs with
    | nil => rfl
    | cons v vs =>
      have := ih vs (a.put (some x) v)
      exact this
 have O := fits_of hB
 have facts : ∀ W,C W → _ := fun W hW => lex_facts (sel m l) (putAll a (ds.map (·.1)) (ds.map (·.2))) (fun o ho => O.nosel o (sel_sub m _ o ho)) O.lex ha1 (hq W hW)
 obtain ⟨f1,f2,f3,-⟩ := facts w (hMC _ _ _ (h0 (NC.map (got a)) (by simp)))
 have h0' := h0 (NC.map (got a)) (by simp)
 refine wp_region_any hm ?_
 refine any_sets (a0 := a) (a1 := putAll a (ds.map (·.1)) (ds.map (·.2))) O (fun t ht => ?_) f1 (by rw [f2,hd1]) (fun d hd _ => f3 d (O.wd d hd)) hMg (fun bs vs W hM i o ho his d hd w2 h2 => ?_) (duty_set hB hn f1 hw) hend _ _ a _ ?_ (by simp)
 · rw [f3 t (fun q => ht (dsts_sub m l t q))]
   refine got_putAll_not _ _ _ _ ?_
   rw [hds]
   intro q
   obtain ⟨s,hs,h⟩ := List.mem_filterMap.1 q
   cases hp : l[s]? with
   | none => rw [hp] at h; cases h
   | some p => rw [hp] at h; exact ht (mem_dsts hp h)
 · exact (facts W (hMC _ _ _ hM)).2.2.2 o (mem_sel m l i o ho (O.cov i (List.getElem?_eq_some_iff.1 ho).1 his)) d hd w2 h2
 · exact ⟨by simp,ha,rfl,fun _ _ => rfl,fun i o d _ h => (by rw [getD_replicate_false] at h; cases h),⟨List.replicate ss.length false,by simp,hMg _ _ w _ h0' (Cl.of (Below.refl _ w).drew),fun j s _ => by rw [getD_replicate_false]; simp [List.getD_eq_getElem?_getD,List.getElem?_replicate]; try (split <;> rfl)⟩⟩
end
end Ws
end Go.Proofs.YticidhbnljdidaaGreatDoor
