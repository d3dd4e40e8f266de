/-
  OutputTells, walked: an output's bytes, the output of any bytes, whether it may be, how many failed, are as the document says. Its conditions: what the kinds hold, how the bytes lie.
-/
import Derived.Test.YtpgcoagjlkdmbaaJOutputSome2
import Derived.Test.YtpgcoagjlkdmbaaJCrcRef2
namespace Go.Proofs.Ytpgcoagjlkdmbaa
set_option maxRecDepth 100000
open Go.ChangeShapes Go.WideShapes Go.ChangeAt Go.RowKit Go.Deep
namespace Ot
open Ss (St str zer stv)
open Cr (Bytes bytes_wf)

theorem dec_ok {l : List Int} (hy : Bytes l) : Ok (dec l) := by
  cases h : iso l
  · rw [dec_no h]; exact ok_zou
  · exact (back h hy).2.1
theorem enc_le {o : Ou} (k : Ok o) : (enc o).length ≤ 54 := by
  cases h : orgt o
  · rw [enc_no h]; simp
  · rw [enc_len h k]; exact Nat.le_refl _

set_option maxRecDepth 100000 in
set_option maxHeartbeats 3200000 in
theorem tells_any {o : Ou} (k : Ok o) (a : Option Addr) (cap : Nat) (l : List Int) (w : World) (cc : l.length ≤ cap) (f : ∀ n ∈ l, (Lit.int .u8 n).wf = true) (hb : IntsAt .u8 w a l) :
    Calls Try.prog 3 #[.agg (ouc o).toArray, .slice a l.length cap] w fun e w' => e = .returned (.bool true) ∧ Below w.heap.size w w' := by
  have AL := fun W => alive_any W
  have B0 := Lib.hid ((Below.refl w.heap.size w).alloc (Nat.le_refl _) (.cells (ouc o).toArray 27))
  have V0 := Lib.hid (VRow.new w (ouc o) 27)
  by_cases h300 : 300 < l.length
  · have d0 : decide (300 < (l.length : Int)) = true := by simp; omega
    clear hb f cc h300 k V0
    generalize l.length = n at *
    generalize ouc o = ov at *
    go_enter Try.func3, Try.ntmps3
    go_wp2_with fail
    refine (AL _).mono ?_; rintro e w5 ⟨rfl, b5⟩
    go_wp2
    go_ret
    exact ⟨rfl, grow B0.out b5⟩
  · have d0 : decide (300 < (l.length : Int)) = false := by simp; omega
    have hy := bytes_wf f
    have HB := Lib.hid (hb.below B0.out)
    have CE := fun W => enc_any k W
    have CR := fun W => renc_any k W
    have DE := fun W h => dec_any a cap l W (by omega) cc hy h
    have DR := fun W h => rdec_any a cap l W (by omega) cc hy h
    have HL := Lib.hid (enc_le k)
    have kd := dec_ok hy
    have EQ := fun W => eq_self kd W
    have NZ := Lib.hid (sizeO k)
    have ND := Lib.hid (sizeO kd)
    have H41 := Lib.hid (show (ouc zou).length = (ouc (dec l)).length by rw [ouc_len ok_zou, ouc_len kd])
    have HALL := Lib.hid (ouc_all (dec l))
    have LO := Lib.hid (fun X => lay_out (dec l) X)
    have RA := fun W => right_any k W
    have RB := fun W => rright_any k W
    have FA := fun W => failed_any k W
    have FB := fun W => rfailed_any k W
    unfold RetD at DE DR
    have HU := Lib.hid (Try.underlying27)
    clear hb f h300 hy kd
    generalize decE l = r at *
    generalize dec l = p at *
    generalize encE o = x at *
    generalize enc o = bs at *
    generalize orgt o = rt at *
    generalize fl o.s = fn at *
    generalize l.length = n at *
    have SS := fun W a3 a4 k3 k4 h h' => Cr.rsame_self a3 a4 k3 k4 bs W (by have := HL.out; omega) h h'
    generalize ouc o = ov at *
    go_enter Try.func3, Try.ntmps3
    go_wp2_with ((with_reducible show wpList _ _ _ (⟨some 19, _, _, _, _, _⟩ :: _) _ _); refine VB.loaded rfl _ rfl w.heap.size rfl V0.out HU.out rfl NZ.out ?_)
    refine (CE _).mono ?_; rintro e w1 ⟨a1, k1, rfl, i1, -, b1⟩
    have G1 := Lib.hid (grow B0.out b1)
    have I1 := Lib.hid i1; have V1 := Lib.hid (V0.out.below b1 V0.out.lt); have H1 := Lib.hid (HB.out.below b1)
    clear b1 i1 CE HB B0 V0
    go_wp2_with ((with_reducible show wpList _ _ _ (⟨some 24, _, _, _, _, _⟩ :: _) _ _); refine VB.loaded rfl _ rfl w.heap.size rfl V1.out HU.out rfl NZ.out ?_)
    refine (CR _).mono ?_; rintro e w2 ⟨a2, k2, rfl, i2, b2⟩
    have G2 := Lib.hid (grow G1.out b2)
    have I2 := Lib.hid (I1.out.below b2); have J2 := Lib.hid i2; have V2 := Lib.hid (V1.out.below b2 V1.out.lt); have H2 := Lib.hid (H1.out.below b2)
    clear b2 i2 CR H1 G1 I1 V1
    go_wp2_with fail
    refine (SS _ _ _ _ _ I2.out J2.out).mono ?_; rintro e w3 ⟨rfl, b3⟩
    have G3 := Lib.hid (grow G2.out b3)
    have V3 := Lib.hid (V2.out.below b3 V2.out.lt); have H3 := Lib.hid (H2.out.below b3)
    clear b3 SS G2 I2 J2 V2 H2
    go_wp2_with fail
    refine (DE _ H3.out).mono ?_; rintro e w4 ⟨rfl, b4⟩
    have G4 := Lib.hid (grow G3.out b4)
    have V4 := Lib.hid (V3.out.below b4 V3.out.lt); have H4 := Lib.hid (H3.out.below b4)
    have N4 := Lib.hid (VRow.new w4 (ouc zou) 27)
    have Q4 := Lib.hid (LO.out w4)
    clear b4 DE G3 V3 H3
    go_wp2_with ((with_reducible show wpList _ _ _ (⟨none, .store _ (.tmp 10) _, _, _, _, _⟩ :: _) _ _); refine VB.store rfl _ _ rfl w4.heap.size (ouc p) rfl rfl N4.out ND.out H41.out HALL.out ?_; change wpList _ _ _ _ _ ((w4.alloc (.cells (ouc zou).toArray 27)).setRow w4.heap.size (ouc p).toArray))
    have G5 := Lib.hid (grow G4.out Q4.out.1)
    have V5 := Lib.hid (V4.out.below Q4.out.1 V4.out.lt); have H5 := Lib.hid (H4.out.below Q4.out.1); have P5 := Lib.hid Q4.out.2
    clear N4 Q4 G4 V4 H4
    generalize (w4.alloc (.cells (ouc zou).toArray 27)).setRow w4.heap.size (ouc p).toArray = w5 at *
    generalize w4.heap.size = g4 at *
    refine (DR _ H5.out).mono ?_; rintro e w6 ⟨rfl, b6⟩
    have G6 := Lib.hid (grow G5.out b6)
    have V6 := Lib.hid (V5.out.below b6 V5.out.lt); have P6 := Lib.hid (P5.out.below b6 P5.out.lt)
    have N6 := Lib.hid (VRow.new w6 (ouc zou) 27)
    have Q6 := Lib.hid (LO.out w6)
    clear b6 DR G5 V5 P5 H5
    go_wp2_with ((with_reducible show wpList _ _ _ (⟨none, .store _ (.tmp 12) _, _, _, _, _⟩ :: _) _ _); refine VB.store rfl _ _ rfl w6.heap.size (ouc p) rfl rfl N6.out ND.out H41.out HALL.out ?_; change wpList _ _ _ _ _ ((w6.alloc (.cells (ouc zou).toArray 27)).setRow w6.heap.size (ouc p).toArray); generalize hw7 : (w6.alloc (.cells (ouc zou).toArray 27)).setRow w6.heap.size (ouc p).toArray = w7)
    have G7 := Lib.hid (hw7 ▸ (grow G6.out Q6.out.1))
    have V7 := Lib.hid (hw7 ▸ (V6.out.below Q6.out.1 V6.out.lt)); have P7 := Lib.hid (hw7 ▸ (P6.out.below Q6.out.1 P6.out.lt)); have Q7 := Lib.hid (hw7 ▸ Q6.out.2)
    clear N6 Q6 G6 V6 P6 hw7
    generalize w6.heap.size = g6 at *
    have HRO := Lib.hid (show ∀ W', (∃ p : Regrown, W' = Sort.grow (redrawn w7 p.d) p.os) → W'.rangeAt w.heap.size 0 ov from by rintro W' ⟨p, rfl⟩; exact row_range (V7.out.below (below_regrown w7 p.d p.os) V7.out.lt))
    have HRP := Lib.hid (show ∀ W', (∃ p : Regrown, W' = Sort.grow (redrawn w7 p.d) p.os) → W'.rangeAt g4 0 (ouc p) from by rintro W' ⟨p, rfl⟩; exact row_range (P7.out.below (below_regrown w7 p.d p.os) P7.out.lt))
    have HRQ := Lib.hid (show ∀ W', (∃ p : Regrown, W' = Sort.grow (redrawn w7 p.d) p.os) → W'.rangeAt g6 0 (ouc p) from by rintro W' ⟨p, rfl⟩; exact row_range (Q7.out.below (below_regrown w7 p.d p.os) Q7.out.lt))
    have cA := reg_call (w := w7) (fun W _ => AL W)
    have cRA := reg_call (w := w7) (fun W _ => RA W)
    have cRB := reg_call (w := w7) (fun W _ => RB W)
    have cFA := reg_call (w := w7) (fun W _ => FA W)
    have cFB := reg_call (w := w7) (fun W _ => FB W)
    clear AL RA RB FA FB V7 P7 Q7
    refine wp_region_quiet_below (by kernel_rfl) (by kernel_rfl) ?_
    repeat (first
      | (with_reducible show wpQuiet _ _ _ _ (⟨some 51, _, _, _, _, _⟩ :: _) _
         refine wpQuiet_loadR rfl _ rfl g4 0 (ouc p) rfl HRP.out _ HU.out rfl ND.out ?_
         simp only [Act.put, List.setIfInBounds_toArray, List.set_cons_succ, List.set_cons_zero])
      | (with_reducible show wpQuiet _ _ _ _ (⟨some 52, _, _, _, _, _⟩ :: _) _
         refine wpQuiet_loadR rfl _ rfl g6 0 (ouc p) rfl HRQ.out _ HU.out rfl ND.out ?_
         simp only [Act.put, List.setIfInBounds_toArray, List.set_cons_succ, List.set_cons_zero])
      | (with_reducible show wpQuiet _ _ _ _ (⟨some 61, _, _, _, _, _⟩ :: _) _
         refine wpQuiet_loadR rfl _ rfl w.heap.size 0 ov rfl HRO.out _ HU.out rfl NZ.out ?_
         simp only [Act.put, List.setIfInBounds_toArray, List.set_cons_succ, List.set_cons_zero])
      | (with_reducible show wpQuiet _ _ _ _ (⟨some 63, _, _, _, _, _⟩ :: _) _
         refine wpQuiet_loadR rfl _ rfl w.heap.size 0 ov rfl HRO.out _ HU.out rfl NZ.out ?_
         simp only [Act.put, List.setIfInBounds_toArray, List.set_cons_succ, List.set_cons_zero])
      | (with_reducible show wpQuiet _ _ _ _ (⟨some 68, _, _, _, _, _⟩ :: _) _
         refine wpQuiet_loadR rfl _ rfl w.heap.size 0 ov rfl HRO.out _ HU.out rfl NZ.out ?_
         simp only [Act.put, List.setIfInBounds_toArray, List.set_cons_succ, List.set_cons_zero])
      | (with_reducible show wpQuiet _ _ _ _ (⟨some 70, _, _, _, _, _⟩ :: _) _
         refine wpQuiet_loadR rfl _ rfl w.heap.size 0 ov rfl HRO.out _ HU.out rfl NZ.out ?_
         simp only [Act.put, List.setIfInBounds_toArray, List.set_cons_succ, List.set_cons_zero])
      | go_big_quiet_step (first | exact cA _ _ | exact cRA _ _ | exact cRB _ _ | exact cFA _ _ | exact cFB _ _))
    refine wpQuiet_nil ?_
    intro _ hw'
    obtain ⟨⟨dq, osq⟩, hw''⟩ := hw'
    subst hw''
    go_wp2
    go_ret
    exact ⟨rfl, grow G7.out (below_regrown w7 dq osq)⟩
end Ot
namespace outputTells
open Ot Ss
theorem walk (x0 : Int) (x1 : Int) (x2 : Int) (x3 : Int) (x4 : Int) (x5 : Int) (x6 : Int) (x7 : Int) (x8 : Int) (x9 : Int) (x10 : Int) (x11 : Int) (x12 : Bool) (x13 : Int) (x14 : Int) (x15 : Int) (x16 : Bool) (x17 : Int) (x18 : Int) (x19 : Int) (x20 : Bool) (x21 : Int) (x22 : Int) (x23 : Int) (x24 : Bool) (x25 : Int) (x26 : Int) (x27 : Int) (x28 : Bool) (x29 : Int) (x30 : Int) (x31 : Int) (x32 : Bool) (x33 : Int) (x34 : Int) (x35 : Int) (x36 : Bool) (x37 : Int) (x38 : Int) (x39 : Int) (x40 : Bool) (a : Option Addr) (cap : Nat) (l : List Int) (w : World) (_u0 : (Lit.int .i64 x0).wf = true) (_u1 : (Lit.int .i64 x1).wf = true) (_u2 : (Lit.int .i64 x2).wf = true) (_u3 : (Lit.int .i64 x3).wf = true) (_u4 : (Lit.int .i64 x4).wf = true) (_u5 : (Lit.int .i64 x5).wf = true) (_u6 : (Lit.int .i64 x6).wf = true) (_u7 : (Lit.int .i64 x7).wf = true) (_u8 : (Lit.int .i64 x8).wf = true) (_u9 : (Lit.int .i64 x9).wf = true) (_u10 : (Lit.int .i64 x10).wf = true) (_u11 : (Lit.int .i64 x11).wf = true) (_u13 : (Lit.int .i64 x13).wf = true) (_u14 : (Lit.int .i64 x14).wf = true) (_u15 : (Lit.int .i64 x15).wf = true) (_u17 : (Lit.int .i64 x17).wf = true) (_u18 : (Lit.int .i64 x18).wf = true) (_u19 : (Lit.int .i64 x19).wf = true) (_u21 : (Lit.int .i64 x21).wf = true) (_u22 : (Lit.int .i64 x22).wf = true) (_u23 : (Lit.int .i64 x23).wf = true) (_u25 : (Lit.int .i64 x25).wf = true) (_u26 : (Lit.int .i64 x26).wf = true) (_u27 : (Lit.int .i64 x27).wf = true) (_u29 : (Lit.int .i64 x29).wf = true) (_u30 : (Lit.int .i64 x30).wf = true) (_u31 : (Lit.int .i64 x31).wf = true) (_u33 : (Lit.int .i64 x33).wf = true) (_u34 : (Lit.int .i64 x34).wf = true) (_u35 : (Lit.int .i64 x35).wf = true) (_u37 : (Lit.int .i64 x37).wf = true) (_u38 : (Lit.int .i64 x38).wf = true) (_u39 : (Lit.int .i64 x39).wf = true) (_c : l.length ≤ maxLen) (m : l.length ≤ cap ∧ cap ≤ maxLen) (_z : cap * 1 ≤ 140737488351232) (f : ∀ n ∈ l, (Lit.int .u8 n).wf = true) (b : IntsAt .u8 w a l) :
    Calls Try.prog 3 #[.agg #[.int .i64 x0, .int .i64 x1, .int .i64 x2, .int .i64 x3, .int .i64 x4, .int .i64 x5, .int .i64 x6, .int .i64 x7, .int .i64 x8, .int .i64 x9, .int .i64 x10, .int .i64 x11, .bool x12, .int .i64 x13, .int .i64 x14, .int .i64 x15, .bool x16, .int .i64 x17, .int .i64 x18, .int .i64 x19, .bool x20, .int .i64 x21, .int .i64 x22, .int .i64 x23, .bool x24, .int .i64 x25, .int .i64 x26, .int .i64 x27, .bool x28, .int .i64 x29, .int .i64 x30, .int .i64 x31, .bool x32, .int .i64 x33, .int .i64 x34, .int .i64 x35, .bool x36, .int .i64 x37, .int .i64 x38, .int .i64 x39, .bool x40], .slice a l.length cap] w fun e w' => e = .returned (.bool true) ∧ Below w.heap.size w w' :=
  tells_any (o := ⟨x0, [x1, x2, x3, x4, x5, x6, x7, x8], [⟨x9, x10, x11, x12⟩, ⟨x13, x14, x15, x16⟩, ⟨x17, x18, x19, x20⟩, ⟨x21, x22, x23, x24⟩, ⟨x25, x26, x27, x28⟩, ⟨x29, x30, x31, x32⟩, ⟨x33, x34, x35, x36⟩, ⟨x37, x38, x39, x40⟩]⟩) ⟨rfl, rfl⟩ a cap l w m.1 f b
end outputTells
end Go.Proofs.Ytpgcoagjlkdmbaa
