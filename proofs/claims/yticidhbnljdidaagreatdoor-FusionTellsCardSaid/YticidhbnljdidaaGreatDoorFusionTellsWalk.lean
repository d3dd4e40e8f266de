/-
 FusionTells, walked over whatever package signal's contracts are: for all configurations and cycles it returns true, and writes nothing that was there. Conditions: how the cycles lie, and that the table of trips lies in memory as the text lays it.
-/
import Derived.Test.YticidhbnljdidaaGreatDoorJFusionMake6
import Derived.Test.YticidhbnljdidaaGreatDoorJFusionArgs2
import Derived.Test.YticidhbnljdidaaGreatDoorJFusionBits4
import Derived.Test.YticidhbnljdidaaGreatDoorJSignalEnter2
import Derived.Test.YticidhbnljdidaaGreatDoorOutputEq
import Derived.Test.YticidhbnljdidaaGreatDoorJSignalBound10
import Derived.Deep.LoopGhost
import Derived.BigQuiet
namespace Go.Proofs.YticidhbnljdidaaGreatDoor
set_option maxRecDepth 100000
open Go.ChangeShapes Go.WideShapes Go.ChangeAt Go.RowKit Go.Deep
namespace Fu
open Cf (G CA Box)
open Sg (NN Si Face)
open Ot (Ou ouc zou)
open Ss (str)
theorem loadedW {P : Program} {ops : Array Oper} {rest : List Oper} {o : Oper} {a : Act} {w : World} {Q : Exit → Act → World → Prop} {t tt : TypeId} {cs : List Value} (hw : Region.wanted o (yielded ops a.tmps) = true) (x : Operand) (ho : o.op = .load t x)
 (g : Nat) (hx : a.eval x = .pointer (some ⟨g,0,none⟩)) (hr : VRow w g tt cs) {d : TypeDesc} (hu : P.underlying t = some d) (hd : (match d with | .struct _ | .array _ _ => true | _ => false) = true) (hi : (P.info? t).map (·.size) = some cs.length)
 (h : wpList P ops Q rest (a.put o.dst (.agg cs.toArray)) w) : wpList P ops Q (o :: rest) a w := by
 unfold wpList
 rw [if_pos hw]
 exact .inl (wp_load_row t x ho g hx tt cs.toArray (0,0) d hr hu hd (by simpa using hi) h)
theorem lay_out (o : Ou) (w : World) : Below w.heap.size w ((w.alloc (.cells (ouc zou).toArray 40)).setRow w.heap.size (ouc o).toArray) ∧ VRow ((w.alloc (.cells (ouc zou).toArray 40)).setRow w.heap.size (ouc o).toArray) w.heap.size 40 (ouc o) :=
 ⟨Below.put ((Below.refl _ w).alloc (Nat.le_refl _) _) (Nat.le_refl _) _,(VRow.new w (ouc zou) _).put (ouc o)⟩
theorem dec_out {o : Ou} (h : Ot.orgt o = true) (k : Ot.Ok o) (a : Option Addr) (cap : Nat) (w : World) (hcap : 54 ≤ cap) (hb : IntsAt .u8 w a (Ot.enc o)) :
 Calls Tryz.prog 24 #[.slice a 54 cap] w fun e w' => e = .returned (.tuple #[.agg (ouc o).toArray,.int .i64 0]) ∧ Below w.heap.size w w' := by
 have hl := Ot.enc_len h k
 have C := Ot.dec_any a cap (Ot.enc o) w (by omega) (by omega) (Ot.enc_bytes k) hb
 unfold Ot.RetD at C
 rw [hl,Ot.enc_dec h k,Ot.decE_yes (Ot.enc_iso h k)] at C
 exact C
theorem right_out {o : Ou} (h : Ot.orgt o = true) (k : Ot.Ok o) (w : World) : Calls Tryz.prog 25 #[.agg (ouc o).toArray] w fun e w' => e = .returned (.bool true) ∧ Below w.heap.size w w' := by
 have := Ot.right_any k w
 rwa [h] at this
theorem step_out {F : Face} {w W : World} {P : Pl} {c : List Int} {s : Fs} (hR : Cf.Right c) (H : Hd F w W P c s) (hk : s.k < 8589934592) {b off : Nat} {q : CyA} (Q : CyOk W b off q) :
 Calls Tryz.prog 11 #[.pointer (some ⟨P.f,0,none⟩),.agg q.v.toArray] W fun e w' => ∃ (P' : Pl) (a : Option Addr) (cap : Nat),e = .returned (.tuple #[.agg (ouc (out c s q.y)).toArray,.slice a 54 cap,.int .i64 0]) ∧
  IntsAt .u8 w' a (Ot.enc (out c s q.y)) ∧ 54 ≤ cap ∧ Hd F w w' P' c (nx c s q.y) ∧ P'.f = P.f ∧ W.heap.size ≤ w'.heap.size := by
 have Y := Q.yat (c := c) (by have := Sg.NN_34 hR; omega)
 refine (step_any hR H.ok hk H.lie H.tab Y).mono fun e w' r => ?_
 obtain ⟨P',a,cap,e1,i1,m1,g⟩ := r
 exact ⟨P',a,cap,e1,i1,m1,H.step hR Y.ok g,g.f,g.but.size⟩
set_option maxRecDepth 100000 in
set_option maxHeartbeats 6400000 in
theorem tells_any (F : Face) (HA : ∀ W,Tp.TabAt W → 0 < W.heap.size → Calls Tryz.prog 7 #[] W fun e w' => e = .returned (.bool true) ∧ Below W.heap.size W w')
 (c : List Int) (a : Option Addr) (qs : List CyA) (cap : Nat) (w : World) (hc : c.length = 21) (hm : qs.length ≤ cap) (hs : CysAt w a qs) (hT : Tp.TabAt w) (hg : 0 < w.heap.size) :
 Calls Tryz.prog 4 #[.agg (CA c),.slice a qs.length cap] w fun e w' => e = .returned (.bool true) ∧ Below w.heap.size w w' := by
 have X0 := Lib.hid (Box.new w c)
 have B0 := Lib.hid ((Below.refl w.heap.size w).alloc (Nat.le_refl _) (.cells (CA c) 24))
 have HC := Lib.hid hc
 have HT := Lib.hid hT
 have HG := Lib.hid hg
 have RA := fun W => Cf.right_any c W hc
 have FI := fun W (b : Below w.heap.size w W) => fits_any a cap qs W hm (hs.below b)
 by_cases hf : fits qs = false
 · rw [hf] at FI
   clear hm hs hT hg
   generalize qs.length = m at *
   by_cases hR : Cf.Right c
   · have NY := fun W (h : 0 < W.heap.size) => new_yes F c W hc hR h
     rw [show Cf.rt c = true from decide_eq_true hR] at RA
     clear hc hR hf
     go_enter Tryz.func4,Tryz.ntmps4
     go_wp2_with fail
     refine (FI _ B0.out).mono ?_; rintro e w1 ⟨rfl,rfl⟩
     clear FI
     go_wp2_with ((with_reducible show wpList _ _ _ (⟨some 23,_,_,_,_,_⟩ :: _) _ _); refine Cf.wpList_loadW rfl _ rfl w.heap.size c rfl X0.out HC.out ?_)
     refine (NY _ (Nat.lt_of_lt_of_le HG.out B0.out.size)).mono ?_; rintro e w1 ⟨P,rfl,-,b1,-⟩
     have B1 := Lib.hid (grow B0.out b1)
     have X1 := Lib.hid (X0.out.on b1)
     clear b1 NY B0 X0
     unfold ptr
     go_wp2_with fail
     refine (HA _ (HT.out.below B1.out) (Nat.lt_of_lt_of_le HG.out B1.out.size)).mono ?_; rintro e w2 ⟨rfl,b2⟩
     have B2 := Lib.hid (grow B1.out b2)
     have X2 := Lib.hid (X1.out.on b2)
     clear b2 B1 X1
     go_wp2_with ((with_reducible show wpList _ _ _ (⟨some 41,_,_,_,_,_⟩ :: _) _ _); refine Cf.wpList_loadW rfl _ rfl w.heap.size c rfl X2.out HC.out ?_)
     refine (RA _).mono ?_; rintro e w3 ⟨rfl,b3⟩
     go_wp2
     go_ret
     exact ⟨rfl,grow B2.out b3⟩
   · have NO := fun W => new_no c W hc hR
     rw [show Cf.rt c = false from decide_eq_false hR] at RA
     clear hc hR hf
     go_enter Tryz.func4,Tryz.ntmps4
     go_wp2_with fail
     refine (FI _ B0.out).mono ?_; rintro e w1 ⟨rfl,rfl⟩
     clear FI
     go_wp2_with ((with_reducible show wpList _ _ _ (⟨some 23,_,_,_,_,_⟩ :: _) _ _); refine Cf.wpList_loadW rfl _ rfl w.heap.size c rfl X0.out HC.out ?_)
     refine (NO _).mono ?_; rintro e w1 ⟨rfl,b1⟩
     have B1 := Lib.hid (grow B0.out b1)
     have X1 := Lib.hid (X0.out.on b1)
     clear b1 NO B0 X0
     go_wp2_with fail
     refine (HA _ (HT.out.below B1.out) (Nat.lt_of_lt_of_le HG.out B1.out.size)).mono ?_; rintro e w2 ⟨rfl,b2⟩
     have B2 := Lib.hid (grow B1.out b2)
     have X2 := Lib.hid (X1.out.on b2)
     clear b2 B1 X1
     go_wp2_with ((with_reducible show wpList _ _ _ (⟨some 41,_,_,_,_,_⟩ :: _) _ _); refine Cf.wpList_loadW rfl _ rfl w.heap.size c rfl X2.out HC.out ?_)
     refine (RA _).mono ?_; rintro e w3 ⟨rfl,b3⟩
     go_wp2
     go_ret
     exact ⟨rfl,grow B2.out b3⟩
 · have hf : fits qs = true := by simpa using hf
   rw [hf] at FI
   by_cases hR : Cf.Right c
   · have NY := fun W (h : 0 < W.heap.size) => new_yes F c W hc hR h
     have HS := Lib.hid hs
     have HR := Lib.hid hR
     have HL := Lib.hid (fits_len hf)
     have HO0 := Lib.hid (show Ok c (begin c) from ok_begin hR)
     obtain ⟨m,hm'⟩ : ∃ m,m = qs.length := ⟨_,rfl⟩
     rw [← hm'] at FI hm ⊢
     have HM := Lib.hid hm'
     clear hc hf hs hT hg RA hm' hm hR
     go_enter Tryz.func4,Tryz.ntmps4
     go_wp2_with fail
     refine (FI _ B0.out).mono ?_; rintro e w1 ⟨rfl,rfl⟩
     clear FI
     go_wp2_with ((with_reducible show wpList _ _ _ (⟨some 23,_,_,_,_,_⟩ :: _) _ _); refine Cf.wpList_loadW rfl _ rfl w.heap.size c rfl X0.out HC.out ?_)
     refine (NY _ (Nat.lt_of_lt_of_le HG.out B0.out.size)).mono ?_; rintro e w1 ⟨P,rfl,l1,b1,n1⟩
     generalize hw0 : w.alloc (.cells (CA c) 24) = w0 at *
     have D1 := Lib.hid (show Hd F w0 w1 P c (begin c) from ⟨l1,b1,n1,(HT.out.below B0.out).below b1,HO0.out⟩)
     have HK0 := Lib.hid (show (begin c).k = 0 from rfl)
     clear l1 b1 n1 NY hw0 HO0
     unfold ptr
     generalize begin c = s0 at *
     generalize hpf : P.f = pf at *
     have HP := Lib.hid hpf
     clear hpf
     go_wp2_with fail
     go_loopg [8] m (fun gg s8 wr => ∃ (i : Nat) (P : Pl) (s : Fs),i + gg = m ∧ s8 = .int .i64 i ∧ Hid (Hd F w0 wr P c s ∧ s.k = i ∧ P.f = pf))
     case atStart => exact ⟨0,P,s0,by omega,rfl,Lib.hid ⟨D1.out,HK0.out,HP.out⟩⟩
     case round =>
      clear HK0 HP D1 P s0
      rename World => W1
      obtain ⟨i,P,s,hi,rfl,D⟩ := hrel
      have HI := Lib.hid hi
      clear hi
      by_cases hlt : i < m
      · have hli : (i : Int) < m := by omega
        have h60 : (m : Int) ≤ 60 := by have := HL.out; have := HM.out; omega
        obtain ⟨b,off,rfl,hat⟩ := HS.out.some (by have := HM.out; omega)
        obtain ⟨q,hqi⟩ : ∃ q,qs[i]? = some q := ⟨_,List.getElem?_eq_getElem (by have := HM.out; omega)⟩
        have QC := Lib.hid (fun (W : World) (B : Below w.heap.size w W) => (hat i q hqi).below B)
        clear hat hqi
        have hsk : s.k < 1000 := by have := D.out.2.1; have := HL.out; have := HM.out; omega
        have SH := Shut_any HR.out D.out.1.lie
        have CN := fun W (H : Hd F w0 W P c s) => notes_any H.lie (H.many (by omega))
        have CL := fun W (H : Hd F w0 W P c s) => lost_any H.lie (H.many (by omega))
        have CS := fun W (H : Hd F w0 W P c s) => step_out HR.out H (by omega) (QC.out W (grow B0.out H.below))
        have HB := Lib.hid (show (Rg.lasts s.notes).length ≤ 32 ∧ Rg.lost s.notes < 1099511627776 from ⟨by rw [Rg.lasts_len]; omega,by have := D.out.1.many (by omega); unfold Rg.lost; omega⟩)
        have HMO := Lib.hid (more_notes (c := c) (m := s) (y := q.y))
        rw [D.out.2.2] at SH CN CL CS
        have D1 := Lib.hid D.out.1
        have hoq := out_q (c := c) (m := s) (y := q.y) (by omega)
        rw [D.out.2.1] at hoq
        have HOR := Lib.hid (out_rgt (y := q.y) HR.out D.out.1.ok)
        have HOK := Lib.hid (out_ok (c := c) (m := s) (y := q.y))
        clear hlt
        go_wp2_with fail
        refine SH.mono ?_; rintro e W2 ⟨rfl,b2⟩
        have D2 := Lib.hid (D1.out.on b2)
        clear b2 D1 SH
        go_wp2_with fail
        refine (CN _ D2.out).mono ?_; rintro e W3 ⟨na,nc,rfl,-,-,b2⟩
        have D3 := Lib.hid (D2.out.on b2)
        clear b2 D2
        generalize (Rg.lasts s.notes).length = a1 at *
        go_wp2_with fail
        refine (CL _ D3.out).mono ?_; rintro e W4 ⟨rfl,rfl⟩
        generalize Rg.lost s.notes = l1 at *
        have hb1 : (a1 : Int) ≤ 32 := by have := HB.out; omega
        have hb2 : (l1 : Int) < 1099511627776 := by have := HB.out; omega
        have QR := Lib.hid (show W3.rangeAt b (off + i * 8) q.v from fun j v hv => (QC.out W3 (grow B0.out D3.out.below)).cell j v hv)
        have SQ := Lib.hid (show (Tryz.prog.info? 47).map (·.size) = some q.v.length by rw [show q.v.length = 8 from rfl]; kernel_rfl)
        go_wp2_with ((with_reducible show wpList _ _ _ (⟨some 64,_,_,_,_,_⟩ :: _) _ _); refine wpList_load_mid rfl _ _ rfl b (off + i * 8) rfl q.v _ QR.out Tryz.underlying47 rfl SQ.out ?_)
        refine (CS _ D3.out).mono ?_; rintro e W5 ⟨P5,sa,sc,rfl,i5,m5,d5,p5,g5⟩
        have hp5 : P5.f = pf := p5
        have hk5 : (nx c s q.y).k = i + 1 := by show s.k + 1 = i + 1; rw [D.out.2.1]
        have HK5 := Lib.hid hk5
        have HP5 := Lib.hid hp5
        have CN := fun W (H : Hd F w0 W P5 c (nx c s q.y)) => notes_any H.lie (H.many (by omega))
        have CL := fun W (H : Hd F w0 W P5 c (nx c s q.y)) => lost_any H.lie (H.many (by omega))
        have CC := fun W (H : Hd F w0 W P5 c (nx c s q.y)) => cycles_any H.lie
        have HB := Lib.hid (show (Rg.lasts (nx c s q.y).notes).length ≤ 32 ∧ Rg.lost (nx c s q.y).notes < 1099511627776 from ⟨by rw [Rg.lasts_len]; omega,by have := d5.many (by omega); unfold Rg.lost; omega⟩)
        have HVJ := Lib.hid (show ∀ j,j < 8 → ∃ x,(out c s q.y).v.getD j 0 = x ∧ G c 1 ≤ x ∧ x ≤ G c 2 from fun j hj => ⟨_,out_v hj,vls_in D.out.1.ok j hj⟩)
        have HSJ := Lib.hid (show ∀ j,j < 8 → ∃ t,(out c s q.y).s.getD j Ss.zer = t ∧ (0 ≤ t.i ∧ t.i ≤ 15) ∧ (NN c = 3 → t.i ≤ 7 ∧ t.l ≤ 7) ∧ ∀ k,k < 4 → isSh c s k = true → ((t.i).tdiv (2 ^ k)).tmod 2 = 0 from fun j hj => ⟨_,out_s hj,sta_in,sta_seven,fun k hk h => in_bit hk h⟩)
        have HSB := Lib.hid (show ∀ k,k < 4 → ((sh c s).tdiv (2 ^ k)).tmod 2 = if isSh c s k = true then 1 else 0 from fun k hk => shut_bit hk)
        have HSS := Lib.hid (show 0 ≤ sh c s ∧ sh c s ≤ 15 from sh_bd)
        rw [hp5] at CN CL CC
        rw [hk5] at CC
        have D5 := Lib.hid d5
        have I5 := Lib.hid i5
        have M5 := Lib.hid m5
        clear d5 i5 m5 p5 g5 CS D3 QR SQ D hsk hk5 hp5
        generalize nx c s q.y = s5 at *
        generalize out c s q.y = o at *
        generalize sh c s = shv at *
        generalize isSh c s = fs at *
        go_upto_region 11 with (first
         | ((with_reducible show wpList _ _ _ (⟨_,.alloc 40,_,_,_,_⟩ :: _) _ _); refine wpList_lay rfl _ rfl (ouc zou) (fun _ => by kernel_rfl) ?_)
         | ((with_reducible show wpList _ _ _ (⟨none,.store _ (.tmp 11) _,_,_,_,_⟩ :: _) _ _); refine VB.store rfl _ _ rfl W5.heap.size (ouc o) rfl rfl (VRow.new W5 (ouc zou) 40) (Ot.sizeO HOK.out) (by rw [Ot.ouc_len Ot.ok_zou,Ot.ouc_len HOK.out]) (Ot.ouc_all _) ?_))
        have lo := lay_out o W5
        have D6 := Lib.hid (D5.out.on lo.1)
        have V6 := Lib.hid lo.2
        have I6 := Lib.hid (I5.out.below lo.1)
        clear lo D5 I5
        generalize (W5.alloc (.cells (ouc zou).toArray 40)).setRow W5.heap.size (ouc o).toArray = W6 at *
        generalize W5.heap.size = og at *
        go_wp2_with fail
        refine (dec_out HOR.out HOK.out sa sc _ M5.out I6.out).mono ?_; rintro e W7 ⟨rfl,b7⟩
        have D7 := Lib.hid (D6.out.on b7)
        have V7 := Lib.hid (onB V6.out b7)
        clear b7 D6 V6 I6
        go_upto_region 12 with (first
         | ((with_reducible show wpList _ _ _ (⟨_,.alloc 40,_,_,_,_⟩ :: _) _ _); refine wpList_lay rfl _ rfl (ouc zou) (fun _ => by kernel_rfl) ?_)
         | ((with_reducible show wpList _ _ _ (⟨none,.store _ (.tmp 14) _,_,_,_,_⟩ :: _) _ _); refine VB.store rfl _ _ rfl W7.heap.size (ouc o) rfl rfl (VRow.new W7 (ouc zou) 40) (Ot.sizeO HOK.out) (by rw [Ot.ouc_len Ot.ok_zou,Ot.ouc_len HOK.out]) (Ot.ouc_all _) ?_))
        have lo := lay_out o W7
        have D8 := Lib.hid (D7.out.on lo.1)
        have V8 := Lib.hid (onB V7.out lo.1)
        have P8 := Lib.hid lo.2
        clear lo D7 V7
        generalize (W7.alloc (.cells (ouc zou).toArray 40)).setRow W7.heap.size (ouc o).toArray = W8 at *
        generalize W7.heap.size = pg at *
        have EQ := Ot.eq_self HOK.out
        have RO := fun W => right_out HOR.out HOK.out W
        have c0 := V8.out.cell 0 (v := .int .i64 i) (by rw [← hoq]; rfl)
        have SO := Lib.hid (Ot.sizeO HOK.out)
        have HC0 := Lib.hid (show (ouc o)[0]? = some (.int .i64 i) by rw [← hoq]; rfl)
        go_wp2_with (first
         | ((with_reducible show wpList _ _ _ (⟨some 81,_,_,_,_,_⟩ :: _) _ _); refine loadedW rfl _ rfl pg rfl P8.out Tryz.underlying40 rfl SO.out ?_)
         | ((with_reducible show wpList _ _ _ (⟨some 82,_,_,_,_,_⟩ :: _) _ _); refine loadedW rfl _ rfl og rfl V8.out Tryz.underlying40 rfl SO.out ?_)
         | ((with_reducible show wpList _ _ _ (⟨some 86,_,_,_,_,_⟩ :: _) _ _); refine loadedW rfl _ rfl og rfl V8.out Tryz.underlying40 rfl SO.out ?_))
        refine (RO _).mono ?_; rintro e W9 ⟨rfl,b9⟩
        have D9 := Lib.hid (D8.out.on b9)
        have V9 := Lib.hid (onB V8.out b9)
        clear c0
        have c0 := V9.out.cell 0 HC0.out
        clear b9 D8 V8 P8 RO EQ
        go_wp2_with fail
        refine (CC _ D9.out).mono ?_; rintro e W10 ⟨rfl,rfl⟩
        go_wp2_with fail
        refine (CN _ D9.out).mono ?_; rintro e W10 ⟨na2,nc2,rfl,-,-,b10⟩
        have D10 := Lib.hid (D9.out.on b10)
        have V10 := Lib.hid (onB V9.out b10)
        clear b10 D9 V9 c0
        generalize (Rg.lasts s5.notes).length = a2 at *
        go_wp2_with fail
        refine (CL _ D10.out).mono ?_; rintro e W11 ⟨rfl,rfl⟩
        generalize Rg.lost s5.notes = l2 at *
        have hb3 : (a2 : Int) ≤ 32 := by have := HB.out; omega
        have hb4 : (l2 : Int) < 1099511627776 := by have := HB.out; omega
        have hmo : decide ((a2 : Int) + l2 < (a1 : Int) + l1) = false := by have := HMO.out; simp; omega
        go_upto_region 15 with fail
        clear hmo hb1 hb2 hb3 hb4 HB HMO CN CL CC
        go_loopg [16] 8 (fun g2 s16 wx => ∃ j : Nat,j + g2 = 8 ∧ s16 = .int .i64 j ∧ Hid (Hd F w0 wx P5 c s5 ∧ VRow wx og 40 (ouc o)))
        case atStart => exact ⟨0,by omega,rfl,Lib.hid ⟨D10.out,V10.out⟩⟩
        case round =>
         clear D10 V10
         rename World => Wx
         obtain ⟨j,hj,rfl,HE⟩ := hrel
         have HJ := Lib.hid hj
         by_cases hj8 : j < 8
         · have hj8' : (j : Int) < 8 := by omega
           obtain ⟨x,hx,hx1,hx2⟩ := HVJ.out j hj8
           obtain ⟨t,ht,htb,ht7,htk⟩ := HSJ.out j hj8
           have RT := Lib.hid (show Wx.rangeAt og (9 + j * 4) (str t) from ht ▸ Ot.range_st HE.out.2 HOK.out j hj8)
           have SS := Lib.hid (show (Tryz.prog.info? 37).map (·.size) = some (str t).length by rw [show (str t).length = 4 from rfl]; kernel_rfl)
           have HX := Lib.hid (show (ouc o)[1 + j]? = some (.int .i64 x) by rw [Ot.ouc_v HOK.out j hj8,hx])
           have HTB := Lib.hid htb
           have HTK := Lib.hid htk
           clear hj htk
           go_upto_region 18 with (first
            | ((with_reducible show wpList _ _ _ (⟨some 120,_,_,_,_,_⟩ :: _) _ _); refine wpList_load_mid rfl _ _ rfl og (9 + j * 4) rfl (str t) _ RT.out Tryz.underlying37 rfl SS.out ?_)
            | ((with_reducible show wpList _ _ _ (⟨_,.alloc 37,_,_,_,_⟩ :: _) _ _); refine wpList_lay rfl _ rfl (str Ss.zer) (fun _ => by kernel_rfl) ?_)
            | ((with_reducible show wpList _ _ _ (⟨none,.store _ (.tmp 17) _,_,_,_,_⟩ :: _) _ _); refine VB.store rfl _ _ rfl Wx.heap.size (str t) rfl rfl (VRow.new Wx (str Ss.zer) 37) SS.out rfl (by simp [str,Value.oneCell']) ?_))
           simp only [Act.put,List.setIfInBounds_toArray,List.set_cons_succ,List.set_cons_zero]
           have lo : Below Wx.heap.size Wx ((Wx.alloc (.cells (str Ss.zer).toArray 37)).setRow Wx.heap.size (str t).toArray) ∧ VRow ((Wx.alloc (.cells (str Ss.zer).toArray 37)).setRow Wx.heap.size (str t).toArray) Wx.heap.size 37 (str t) :=
            ⟨Below.put ((Below.refl _ Wx).alloc (Nat.le_refl _) _) (Nat.le_refl _) _,(VRow.new Wx (str Ss.zer) _).put (str t)⟩
           have D12 := Lib.hid (HE.out.1.on lo.1)
           have V12 := Lib.hid (onB HE.out.2 lo.1)
           have S12 := Lib.hid lo.2
           clear lo HE RT SS
           generalize (Wx.alloc (.cells (str Ss.zer).toArray 37)).setRow Wx.heap.size (str t).toArray = W12 at *
           generalize Wx.heap.size = sg at *
           have q0 := Cf.Box.at (X0.out.on D12.out.below) HC.out 0 (by omega)
           have q1 := Cf.Box.at (X0.out.on D12.out.below) HC.out 1 (by omega)
           have q2 := Cf.Box.at (X0.out.on D12.out.below) HC.out 2 (by omega)
           have r0 := S12.out.cell 0 (v := .int .i64 t.i) rfl
           have r1 := S12.out.cell 1 (v := .int .i64 t.l) rfl
           have v1 := V12.out.cell (1 + j) HX.out
           have d1 : decide (x < G c 1) = false := by simp; omega
           have d2 : decide (G c 2 < x) = false := by simp; omega
           have hNN : G c 0 = 3 → NN c = 3 := fun h => by unfold NN; rw [h]; rfl
           clear hx1 hx2 hx ht htb
           generalize hti : t.i = ti at *
           have HT0 := Lib.hid (show (str t)[0]? = some (.int .i64 ti) by rw [← hti]; rfl)
           clear hti
           generalize t.l = tl at *
           by_cases hN : G c 0 = 3
           · rw [hN] at q0
             have d4 : decide (7 < ti) = false := by have := ht7 (hNN hN); simp; omega
             have d5 : decide (7 < tl) = false := by have := ht7 (hNN hN); simp; omega
             clear ht7 hNN hN
             generalize G c 1 = c1 at *
             generalize G c 2 = c2 at *
             go_quiet (fail)
             clear q0 q1 q2 r0 r1 v1 d1 d2 d4 d5
             go_upto_region 22 with fail
             have bd := below_drewN (Below.refl W12.heap.size W12) nq
             have D13 := Lib.hid (D12.out.on bd)
             have V13 := Lib.hid (onB V12.out bd)
             have r0 := (onB S12.out bd).cell 0 (v := .int .i64 ti) HT0.out
             clear bd D12 V12 S12
             generalize W12.drewN nq = W13 at *
             go_loopg [18,19] 4 (fun g3 s18 s19 wx => ∃ k : Nat,k + g3 = 4 ∧ s19 = .int .i64 k ∧ s18 = .int .i64 (2 ^ k) ∧ W13 = wx)
             case atStart => exact ⟨0,by omega,rfl,rfl,rfl⟩
             case round =>
              obtain ⟨k,hk,rfl,rfl,rfl⟩ := hrel
              have HK := Lib.hid hk
              clear hk
              by_cases hk4 : k < 4
              · have hk4' : (k : Int) < 4 := by omega
                have hki : k ∈ [0,1,2,3] := by simp; omega
                simp only [List.mem_cons,List.mem_nil_iff,or_false] at hki
                have HPW := Lib.hid (show (2 : Int) ^ k = 1 ∨ (2 : Int) ^ k = 2 ∨ (2 : Int) ^ k = 4 ∨ (2 : Int) ^ k = 8 by rcases hki with rfl | rfl | rfl | rfl <;> decide)
                have HPK := Lib.hid (show (2 : Int) * 2 ^ k = 2 ^ (k + 1) by rw [Int.pow_succ]; omega)
                have b1 := HSB.out k hk4
                have hb2 := HTK.out k hk4
                clear hki
                generalize (2 : Int) ^ k = P at *
                have z1 : (P == 0) = false := by have := HPW.out; simp; omega
                have z2 : ¬ (P = 0) := by have := HPW.out; omega
                obtain ⟨m1,m2,m3⟩ := Sg.quo_bd HSS.out HPW.out
                obtain ⟨m4,m5,m6⟩ := Sg.quo_bd HTB.out HPW.out
                have p1 : IntKind.i64.wrap (shv.tdiv P) = shv.tdiv P := IntWalk.i64_in _ (by omega)
                have p2 : IntKind.i64.wrap (ti.tdiv P) = ti.tdiv P := IntWalk.i64_in _ (by omega)
                have p4 : IntKind.i64.wrap ((shv.tdiv P).tmod 2) = (shv.tdiv P).tmod 2 := IntWalk.i64_in _ (by omega)
                have p5 : IntKind.i64.wrap ((ti.tdiv P).tmod 2) = (ti.tdiv P).tmod 2 := IntWalk.i64_in _ (by omega)
                have p7 : IntKind.i64.wrap (2 * P) = 2 * P := IntWalk.i64_in _ (by have := HPW.out; omega)
                clear m1 m2 m3 m4 m5 m6
                cases hfs : fs k
                · rw [if_neg (by rw [hfs]; decide)] at b1
                  rw [b1] at p4
                  clear hb2 hfs
                  go_wp2_with fail
                  go_roundg (gk - 1)
                  case rel => exact ⟨k + 1,by have := HK.out; omega,by go_num,by rw [HPK.out],rfl⟩
                  case measure => have := HK.out; omega
                · rw [if_pos hfs] at b1
                  rw [b1] at p4
                  have b2 := hb2 hfs
                  rw [b2] at p5
                  clear hb2 hfs
                  go_wp2_with fail
                  go_roundg (gk - 1)
                  case rel => exact ⟨k + 1,by have := HK.out; omega,by go_num,by rw [HPK.out],rfl⟩
                  case measure => have := HK.out; omega
              · obtain rfl : k = 4 := by have := HK.out; omega
                go_wp2_with fail
                go_roundg (8 - j - 1)
                case rel => exact ⟨j + 1,by have := HJ.out; omega,by go_num,Lib.hid ⟨D13.out,V13.out⟩⟩
                case measure => have := HJ.out; omega
           · have h4 : G c 0 = 4 := by have := HR.out.1; omega
             rw [h4] at q0
             clear ht7 hNN hN h4
             generalize G c 1 = c1 at *
             generalize G c 2 = c2 at *
             go_quiet (fail)
             clear q0 q1 q2 r0 r1 v1 d1 d2
             go_upto_region 22 with fail
             have bd := below_drewN (Below.refl W12.heap.size W12) nq
             have D13 := Lib.hid (D12.out.on bd)
             have V13 := Lib.hid (onB V12.out bd)
             have r0 := (onB S12.out bd).cell 0 (v := .int .i64 ti) HT0.out
             clear bd D12 V12 S12
             generalize W12.drewN nq = W13 at *
             go_loopg [18,19] 4 (fun g3 s18 s19 wx => ∃ k : Nat,k + g3 = 4 ∧ s19 = .int .i64 k ∧ s18 = .int .i64 (2 ^ k) ∧ W13 = wx)
             case atStart => exact ⟨0,by omega,rfl,rfl,rfl⟩
             case round =>
              obtain ⟨k,hk,rfl,rfl,rfl⟩ := hrel
              have HK := Lib.hid hk
              clear hk
              by_cases hk4 : k < 4
              · have hk4' : (k : Int) < 4 := by omega
                have hki : k ∈ [0,1,2,3] := by simp; omega
                simp only [List.mem_cons,List.mem_nil_iff,or_false] at hki
                have HPW := Lib.hid (show (2 : Int) ^ k = 1 ∨ (2 : Int) ^ k = 2 ∨ (2 : Int) ^ k = 4 ∨ (2 : Int) ^ k = 8 by rcases hki with rfl | rfl | rfl | rfl <;> decide)
                have HPK := Lib.hid (show (2 : Int) * 2 ^ k = 2 ^ (k + 1) by rw [Int.pow_succ]; omega)
                have b1 := HSB.out k hk4
                have hb2 := HTK.out k hk4
                clear hki
                generalize (2 : Int) ^ k = P at *
                have z1 : (P == 0) = false := by have := HPW.out; simp; omega
                have z2 : ¬ (P = 0) := by have := HPW.out; omega
                obtain ⟨m1,m2,m3⟩ := Sg.quo_bd HSS.out HPW.out
                obtain ⟨m4,m5,m6⟩ := Sg.quo_bd HTB.out HPW.out
                have p1 : IntKind.i64.wrap (shv.tdiv P) = shv.tdiv P := IntWalk.i64_in _ (by omega)
                have p2 : IntKind.i64.wrap (ti.tdiv P) = ti.tdiv P := IntWalk.i64_in _ (by omega)
                have p4 : IntKind.i64.wrap ((shv.tdiv P).tmod 2) = (shv.tdiv P).tmod 2 := IntWalk.i64_in _ (by omega)
                have p5 : IntKind.i64.wrap ((ti.tdiv P).tmod 2) = (ti.tdiv P).tmod 2 := IntWalk.i64_in _ (by omega)
                have p7 : IntKind.i64.wrap (2 * P) = 2 * P := IntWalk.i64_in _ (by have := HPW.out; omega)
                clear m1 m2 m3 m4 m5 m6
                cases hfs : fs k
                · rw [if_neg (by rw [hfs]; decide)] at b1
                  rw [b1] at p4
                  clear hb2 hfs
                  go_wp2_with fail
                  go_roundg (gk - 1)
                  case rel => exact ⟨k + 1,by have := HK.out; omega,by go_num,by rw [HPK.out],rfl⟩
                  case measure => have := HK.out; omega
                · rw [if_pos hfs] at b1
                  rw [b1] at p4
                  have b2 := hb2 hfs
                  rw [b2] at p5
                  clear hb2 hfs
                  go_wp2_with fail
                  go_roundg (gk - 1)
                  case rel => exact ⟨k + 1,by have := HK.out; omega,by go_num,by rw [HPK.out],rfl⟩
                  case measure => have := HK.out; omega
              · obtain rfl : k = 4 := by have := HK.out; omega
                go_wp2_with fail
                go_roundg (8 - j - 1)
                case rel => exact ⟨j + 1,by have := HJ.out; omega,by go_num,Lib.hid ⟨D13.out,V13.out⟩⟩
                case measure => have := HJ.out; omega
         · obtain rfl : j = 8 := by have := HJ.out; omega
           go_wp2_with fail
           go_roundg (m - i - 1)
           case rel => exact ⟨i + 1,P5,s5,by have := HI.out; omega,by go_num,Lib.hid ⟨HE.out.1,HK5.out,HP5.out⟩⟩
           case measure => have := HI.out; omega
      · obtain rfl : i = m := by have := HI.out; omega
        have DE := Lib.hid (grow B0.out D.out.1.below)
        clear D
        go_wp2_with fail
        refine (HA _ (HT.out.below DE.out) (Nat.lt_of_lt_of_le HG.out DE.out.size)).mono ?_; rintro e w2 ⟨rfl,b2⟩
        have B2 := Lib.hid (grow DE.out b2)
        clear b2 DE
        go_wp2
        go_ret
        exact ⟨rfl,B2.out⟩
   · have NO := fun W => new_no c W hc hR
     rw [show Cf.rt c = false from decide_eq_false hR] at RA
     clear hc hR hf hm hs hT hg
     generalize qs.length = m at *
     go_enter Tryz.func4,Tryz.ntmps4
     go_wp2_with fail
     refine (FI _ B0.out).mono ?_; rintro e w1 ⟨rfl,rfl⟩
     clear FI
     go_wp2_with ((with_reducible show wpList _ _ _ (⟨some 23,_,_,_,_,_⟩ :: _) _ _); refine Cf.wpList_loadW rfl _ rfl w.heap.size c rfl X0.out HC.out ?_)
     refine (NO _).mono ?_; rintro e w1 ⟨rfl,b1⟩
     have B1 := Lib.hid (grow B0.out b1)
     have X1 := Lib.hid (X0.out.on b1)
     clear b1 NO B0 X0
     go_wp2_with fail
     refine (HA _ (HT.out.below B1.out) (Nat.lt_of_lt_of_le HG.out B1.out.size)).mono ?_; rintro e w2 ⟨rfl,b2⟩
     have B2 := Lib.hid (grow B1.out b2)
     have X2 := Lib.hid (X1.out.on b2)
     clear b2 B1 X1
     go_wp2_with ((with_reducible show wpList _ _ _ (⟨some 41,_,_,_,_,_⟩ :: _) _ _); refine Cf.wpList_loadW rfl _ rfl w.heap.size c rfl X2.out HC.out ?_)
     refine (RA _).mono ?_; rintro e w3 ⟨rfl,b3⟩
     go_wp2
     go_ret
     exact ⟨rfl,grow B2.out b3⟩
end Fu
end Go.Proofs.YticidhbnljdidaaGreatDoor
