/-
  What Encode of rudderref19 tells: a contract by walking the Go text. Conditions: that an output has eight values and eight statuses.
  What Decode of rudderref19 tells, whatever the bytes are: a contract by walking the Go text. Conditions: how the bytes lie.
-/
import Derived.Test.YtpgcoagjlkdmbaaOutputRef
import Derived.Test.YtpgcoagjlkdmbaaOutputRefDec
namespace Go.Proofs.Ytpgcoagjlkdmbaa
set_option maxRecDepth 100000
open Go.ChangeShapes Go.WideShapes Go.ChangeAt Go.RowKit Go.Deep
namespace Ot
open Ss (St str zer stv rgt wrd)
open Wd (put2 put4 in2 in4 fours)
open Cr (Bytes)

/-- What the document's Encode hands back. -/
def RetE (w : World) (l : List Int) (x : Int) (e : Ending) (w' : World) : Prop :=
  ∃ a cap, e = .returned (.tuple #[.slice a l.length cap, .int .i64 x]) ∧ IntsAt .u8 w' a l ∧ Below w.heap.size w w'
set_option maxHeartbeats 3200000 in
theorem renc_any {o : Ou} (k : Ok o) (w : World) :
    Calls Try.prog 7 #[.agg (ouc o).toArray] w (RetE w (enc o) (encE o)) := by
  have HK := Lib.hid k
  have HX := Lib.hid (VRow.new w (ouc o) 27)
  have HB := Lib.hid ((Below.refl w.heap.size w).alloc (Nat.le_refl _) (.cells (ouc o).toArray 27))
  have HZ := Lib.hid (sizeO k)
  have CR := fun W => rright_any k W
  have CF := fun W => rfailed_any k W
  have Z0 := Lib.hid (show (w.alloc (.cells (ouc o).toArray 27)).heap.size = w.heap.size + 1 by simp)
  cases hr : orgt o
  · have HE := Lib.hid (enc_no hr)
    have HN := Lib.hid (encE_no hr)
    rw [hr] at CR
    clear hr k CF
    generalize ouc o = ov at *
    go_enter Try.func7, Try.ntmps7
    go_wp2_with (first
      | ((with_reducible show wpList _ _ _ (⟨some 10, _, _, _, _, _⟩ :: _) _ _); refine VB.loaded rfl _ rfl w.heap.size rfl HX.out Try.underlying27 rfl HZ.out ?_)
      | (go_at_call 12; refine (CR _).mono ?_; rintro e w1 ⟨rfl, b1⟩; have B1 := Lib.hid (grow HB.out b1); clear b1))
    go_ret2
    rw [HE.out, HN.out]
    exact ⟨none, 0, rfl, Or.inl rfl, B1.out⟩
  · obtain ⟨hq, hv, hs⟩ := (orgt_iff o).1 hr
    have HE := Lib.hid (enc_yes hr)
    have HN := Lib.hid (encE_yes hr)
    have HH := Lib.hid (show (([90, (fl o.s : Int)] ++ put2 o.q) ++ fours o.v) ++ wds o.s = head o by unfold head; rw [List.append_assoc, List.append_assoc])
    have HHL := Lib.hid (head_len hr k)
    have CS := fun W a cap h => Cr.rseal_any a cap (head o) W (by rw [HHL.out]; omega) (head_bytes k) h
    rw [HHL.out] at CS
    have HSL := Lib.hid (show (Cr.sealed (head o)).length = 54 by rw [Cr.sealed_len, HHL.out])
    have HFL : fl o.s ≤ 8 := by have := fl_le o.s; rw [k.s] at this; exact this
    have HL2 := Lib.hid (Fm.put2_len hq)
    have HV4 := Lib.hid hv
    have HSR := Lib.hid hs
    rw [hr] at CR
    clear hr k hq hv hs
    obtain ⟨ov, hov⟩ : ∃ ov, ouc o = ov := ⟨_, rfl⟩
    rw [hov] at HX HB HZ CR CF Z0 ⊢
    have HOV := Lib.hid hov
    clear hov
    generalize fl o.s = fc at *
    have wf : IntKind.u8.wrap (fc : Int) = fc := IntWalk.u8_in _ (by omega)
    go_enter Try.func7, Try.ntmps7
    go_wp2_with (first
      | ((with_reducible show wpList _ _ _ (⟨some 10, _, _, _, _, _⟩ :: _) _ _); refine VB.loaded rfl _ rfl w.heap.size rfl HX.out Try.underlying27 rfl HZ.out ?_)
      | ((with_reducible show wpList _ _ _ (⟨some 14, _, _, _, _, _⟩ :: _) _ _); refine VB.loaded rfl _ rfl w.heap.size rfl X1.out Try.underlying27 rfl HZ.out ?_)
      | (go_at_call 12; refine (CR _).mono ?_; rintro e w1 ⟨rfl, b1⟩; have B1 := Lib.hid b1; have X1 := Lib.hid (VRow.below HX.out b1 HX.out.lt); clear b1)
      | (go_at_call 14; refine (CF _).mono ?_; rintro e w2 ⟨rfl, b2⟩; have B2 := Lib.hid (grow B1.out b2); have X2 := Lib.hid (VRow.below X1.out b2 X1.out.lt)
         have S2 := Lib.hid (show w.heap.size + 1 ≤ w2.heap.size by have := B2.out.size; rw [Z0.out] at this; exact this)
         have O3 := Lib.hid (ownLit2 (k := .u8) (te := 5) (w := w2) 90 fc S2.out)
         have B3 := Lib.hid ((B2.out.mono (Nat.le_of_eq Z0.out.symm)).alloc S2.out (.cells #[.int .u8 90, .int .u8 fc] 5))
         have X3 := Lib.hid (X2.out.alloc (.cells #[.int .u8 90, .int .u8 fc] 5))
         have e3 := X3.out.cell 0 (v := .int .i64 o.q) (by rw [← HOV.out]; rfl)
         clear b2 B1 X1 B2 X2))
    refine (Wr.rput2_any _ _).mono ?_; rintro e w4 ⟨a4, cap4, rfl, i4, b4⟩
    rw [HL2.out]
    have I4 := Lib.hid i4
    have O4 := Lib.hid (O3.out.below b4)
    have B4 := Lib.hid (grow_from B3.out b4 (by have := S2.out; simp; omega))
    clear i4 b4 e3 O3 B3 X3
    go_wp2_with ((with_reducible show wpList _ _ _ (⟨some 22, _, _, _, _, _⟩ :: _) _ _); refine wpList_appendI rfl (.tmp 18) (.tmp 21) _ rfl .u8 (w.heap.size + 1) 5 1 Try.underlying28 Wd.byteInfo _ [90, (fc : Int)] a4 2 cap4 (put2 o.q) rfl rfl HL2.out O4.out I4.out (by rw [HL2.out]; simp [maxLen]) (by rw [HL2.out]; simp) _ B4.out (Nat.le_of_eq Z0.out.symm) ?_
                 intro v5 w5 O5' B5'; have O5 := Lib.hid O5'; have B5 := Lib.hid B5'; clear O5' B5' O4 B4 I4)
    have HL4 := Lib.hid (show ([90, (fc : Int)] ++ put2 o.q).length = 4 by rw [List.length_append, HL2.out]; rfl)
    generalize [90, (fc : Int)] ++ put2 o.q = l4 at *
    generalize w.alloc (.cells ov.toArray 27) = W0 at *
    clear CF CR
    go_loopg [5, 6] 8 (fun gg s5 s6 wr => ∃ i : Nat, i + gg = 8 ∧ s6 = .int .i64 i ∧ Hid (OwnI .u8 (w.heap.size + 1) 5 wr s5 (l4 ++ fours (o.v.take i))) ∧ Hid (Below (w.heap.size + 1) W0 wr))
    case atStart => exact ⟨0, by omega, rfl, Lib.hid (by rw [show l4 ++ fours (o.v.take 0) = l4 by simp [fours]]; exact O5.out), B5⟩
    case round =>
      obtain ⟨i, hi, rfl, OR, BR⟩ := hrel
      by_cases hlt : i < 8
      · have hii : (i : Int) < 8 := by omega
        have HNF := Lib.hid (show l4 ++ fours (o.v.take (i + 1)) = (l4 ++ fours (o.v.take i)) ++ put4 (o.v.getD i 0) by rw [Wd.fours_next _ _ (by rw [HK.out.v]; exact hlt), List.append_assoc])
        have HI4 := Lib.hid (Wd.put4_len (Wd.in4_at HV4.out (show i < o.v.length by rw [HK.out.v]; exact hlt)))
        have HLN := Lib.hid (show (l4 ++ fours (o.v.take i)).length ≤ 40 by
          have := Wd.fours_le (o.v.take i)
          rw [List.length_take, HK.out.v] at this
          rw [List.length_append, HL4.out]; omega)
        have cv := VRow.cell (show VRow wr w.heap.size 27 (ouc o) by rw [HOV.out]; exact HX.out.below BR.out (Nat.lt_succ_self _)) (1 + i) (ouc_v HK.out i hlt)
        generalize l4 ++ fours (o.v.take i) = li at *
        generalize o.v.getD i 0 = xv at *
        go_wp2_with fail
        refine (Wr.rput4_any _ _).mono ?_; rintro e w7 ⟨a7, cap7, rfl, i7, b7⟩
        rw [HI4.out]
        have hbs : w.heap.size + 1 ≤ wr.heap.size := by have := BR.out.size; rw [Z0.out] at this; exact this
        have I7 := Lib.hid i7
        have O7 := Lib.hid (OR.out.below b7)
        have B7 := Lib.hid (grow_from BR.out b7 hbs)
        clear i7 b7 cv OR
        go_wp2_with ((with_reducible show wpList _ _ _ (⟨some 33, _, _, _, _, _⟩ :: _) _ _); refine wpList_appendI rfl (.tmp 27) (.tmp 32) _ rfl .u8 (w.heap.size + 1) 5 1 Try.underlying28 Wd.byteInfo _ li a7 4 cap7 (put4 xv) rfl rfl HI4.out O7.out I7.out (by rw [HI4.out]; have := HLN.out; unfold maxLen; omega) (by rw [HI4.out]; have := HLN.out; omega) W0 B7.out (Nat.le_of_eq Z0.out.symm) ?_
                     intro v8 w8 O8' B8'; have O8 := Lib.hid O8'; have B8 := Lib.hid B8'; clear O8' B8' O7 B7 I7)
        go_roundg (gk - 1)
        case rel => exact ⟨i + 1, by omega, by go_num, by rw [HNF.out]; exact O8, B8⟩
        case measure => omega
      · obtain rfl : i = 8 := by omega
        have O9 := Lib.hid (show OwnI .u8 (w.heap.size + 1) 5 wr u5 (l4 ++ fours o.v) by have := OR.out; rwa [List.take_of_length_le (by rw [HK.out.v]; omega)] at this)
        have HL5 := Lib.hid (show (l4 ++ fours o.v).length = 36 by rw [List.length_append, HL4.out, Wd.fours_len _ HV4.out, HK.out.v])
        generalize l4 ++ fours o.v = l5 at *
        clear OR O5 B5
        go_wp2_with fail
        go_loopg [5, 7] 8 (fun gg s5 s7 wx => ∃ i : Nat, i + gg = 8 ∧ s7 = .int .i64 i ∧ Hid (OwnI .u8 (w.heap.size + 1) 5 wx s5 (l5 ++ wds (o.s.take i))) ∧ Hid (Below (w.heap.size + 1) W0 wx))
        case atStart => exact ⟨0, by omega, rfl, Lib.hid (by rw [show l5 ++ wds (o.s.take 0) = l5 by simp [wds]]; exact O9.out), BR⟩
        case round =>
          clear O9 BR
          rename World => wx
          obtain ⟨i, hi, rfl, OR, BR⟩ := hrel
          by_cases hlt : i < 8
          · have hii : (i : Int) < 8 := by omega
            have HNF := Lib.hid (show l5 ++ wds (o.s.take (i + 1)) = (l5 ++ wds (o.s.take i)) ++ put2 (wrd (o.s.getD i zer)) by rw [wds_next _ _ (by rw [HK.out.s]; exact hlt), List.append_assoc])
            have HRG := Lib.hid (at_rgt HSR.out (i := i) (by rw [HK.out.s]; exact hlt))
            have HI2 := Lib.hid (Fm.put2_len (wrd_in2 HRG.out))
            have HLN := Lib.hid (show (l5 ++ wds (o.s.take i)).length ≤ 60 by
              rw [List.length_append, HL5.out, wds_len (List.all_eq_true.2 fun y hy => List.all_eq_true.1 HSR.out y (List.mem_of_mem_take hy)), List.length_take]; omega)
            have HRS := Lib.hid (range_st (show VRow wx w.heap.size 27 (ouc o) by rw [HOV.out]; exact HX.out.below BR.out (Nat.lt_succ_self _)) HK.out i hlt)
            have CW := Ss.rword_any (o.s.getD i zer) wx
            unfold stv at CW
            change Calls _ _ #[.agg (str (o.s.getD i zer)).toArray] _ _ at CW
            rw [wdv_yes HRG.out] at CW
            generalize l5 ++ wds (o.s.take i) = li at *
            generalize o.s.getD i zer = s at *
            generalize Ss.wde s = we at *
            generalize wrd s = ws at *
            go_wp2_with ((with_reducible show wpList _ _ _ (⟨some 42, _, _, _, _, _⟩ :: _) _ _); refine wpList_load_mid rfl _ _ rfl w.heap.size (9 + i * 4) rfl (str s) _ HRS.out Try.underlying24 rfl Ss.sizeS ?_)
            refine CW.mono ?_; rintro e w7 ⟨rfl, b7⟩
            have hbs : w.heap.size + 1 ≤ wx.heap.size := by have := BR.out.size; rw [Z0.out] at this; exact this
            have O7 := Lib.hid (OR.out.below b7)
            have B7 := Lib.hid (grow_from BR.out b7 hbs)
            have S7 := Lib.hid (Nat.le_trans hbs b7.size)
            clear b7 OR BR CW
            go_wp2_with fail
            refine (Wr.rput2_any _ _).mono ?_; rintro e w8 ⟨a8, cap8, rfl, i8, b8⟩
            rw [HI2.out]
            have I8 := Lib.hid i8
            have O8 := Lib.hid (O7.out.below b8)
            have B8 := Lib.hid (grow_from B7.out b8 S7.out)
            clear i8 b8 O7 B7
            go_wp2_with ((with_reducible show wpList _ _ _ (⟨some 49, _, _, _, _, _⟩ :: _) _ _); refine wpList_appendI rfl (.tmp 46) (.tmp 48) _ rfl .u8 (w.heap.size + 1) 5 1 Try.underlying28 Wd.byteInfo _ li a8 2 cap8 (put2 ws) rfl rfl HI2.out O8.out I8.out (by rw [HI2.out]; have := HLN.out; unfold maxLen; omega) (by rw [HI2.out]; have := HLN.out; omega) W0 B8.out (Nat.le_of_eq Z0.out.symm) ?_
                         intro v9 w9 O9' B9'; have O9 := Lib.hid O9'; have B9 := Lib.hid B9'; clear O9' B9' O8 B8 I8)
            go_roundg (gk - 1)
            case rel => exact ⟨i + 1, by omega, by go_num, by rw [HNF.out]; exact O9, B9⟩
            case measure => omega
          · obtain rfl : i = 8 := by omega
            have O9' := OR.out
            rw [List.take_of_length_le (by rw [HK.out.s]; omega), HH.out] at O9'
            clear OR
            obtain ⟨a9, cap9, rfl, i9⟩ := O9'.form
            clear O9'
            have I9 := Lib.hid i9
            clear i9
            rw [HHL.out]
            have hbs : w.heap.size + 1 ≤ wx.heap.size := by have := BR.out.size; rw [Z0.out] at this; exact this
            go_wp2_with fail
            refine (CS _ _ _ I9.out).mono ?_; rintro e w7 ⟨a7, cap7, rfl, i7, b7⟩
            have I7 := Lib.hid i7
            have B7 := Lib.hid (grow_from BR.out b7 hbs)
            clear i7 b7
            go_wp2
            go_ret2
            rw [HE.out, HN.out]
            exact ⟨a7, cap7, rfl, I7.out, HB.out.trans (B7.out.mono (Nat.le_succ _))⟩
end Ot
end Go.Proofs.Ytpgcoagjlkdmbaa

namespace Go.Proofs.Ytpgcoagjlkdmbaa
set_option maxRecDepth 100000
open Go.ChangeShapes Go.WideShapes Go.ChangeAt Go.RowKit Go.Deep
namespace Ot
open Ss (St str zer stv prs isw)
open Cr (Bytes opens opened)

set_option maxRecDepth 100000 in
set_option maxHeartbeats 6400000 in
theorem rdec_any (a : Option Addr) (cap : Nat) (l : List Int) (w : World) (hl : l.length ≤ 1000000) (hcap : l.length ≤ cap) (hy : Bytes l) (hb : IntsAt .u8 w a l) :
    Calls Try.prog 10 #[.slice a l.length cap] w (RetD w l) := by
  obtain ⟨b0, r0, v0⟩ := two_new w
  have B0 := Lib.hid b0
  have R0 := Lib.hid r0
  have V0 := Lib.hid v0
  have HB := Lib.hid (hb.below b0)
  have CO := fun W h => Cr.ropen_cap a cap l W hl hcap hy h
  clear b0 r0 v0 hb
  cases ho : opens l
  · rw [retD_no (iso_sum ho)]
    rw [ho, Cr.opened_no ho] at CO
    clear ho hy hcap
    generalize l.length = n at *
    go_enter Try.func10, Try.ntmps10
    go_wp2_with fail
    change Calls _ _ _ ((w.alloc (.cells (ouc zou).toArray 27)).alloc (.cells (ouc zou).toArray 27)) _
    generalize (w.alloc (.cells (ouc zou).toArray 27)).alloc (.cells (ouc zou).toArray 27) = W0 at *
    refine (CO _ HB.out).mono ?_; rintro e w1 ⟨a1, cap1, rfl, -, -, b1⟩
    have R1 := Lib.hid (VRow.below R0.out b1 R0.out.lt)
    have V1 := Lib.hid (VRow.below V0.out b1 V0.out.lt)
    have B1 := Lib.hid (grow B0.out b1)
    clear b1 CO
    go_wp2_with (first
      | ((with_reducible show wpList _ _ _ (⟨some 34, _, _, _, _, _⟩ :: _) _ _); refine VB.loaded rfl _ rfl (w.heap.size + 1) rfl V1.out Try.underlying27 rfl (sizeO ok_zou) ?_)
      | ((with_reducible show wpList _ _ _ (⟨none, .store _ (.tmp 2) _, _, _, _, _⟩ :: _) _ _); refine VB.store rfl _ _ rfl w.heap.size (ouc zou) rfl rfl R1.out (sizeO ok_zou) rfl (ouc_all _) ?_))
    refine bodyPost_ret (v := .tuple #[.agg (ouc zou).toArray, .int .i64 3]) ?_ rfl ⟨rfl, Below.put B1.out (Nat.le_refl _) _⟩
    exact (VB.ret2 (cs := ouc zou) rfl rfl (aggO _) (sizeO ok_zou) (R1.out.put (ouc zou))).trans rfl
  · rw [ho, Cr.opened_yes ho] at CO
    by_cases h52 : (l.take (l.length - 2)).length = 52
    · have h54 := take_len52 h52
      rw [h54, show 54 - 2 = 52 from rfl] at CO
      rw [h54]
      have hx52 : (l.take 52).length = 52 := by rw [List.length_take, h54]; rfl
      have H54 := Lib.hid h54
      have HO := Lib.hid ho
      have HXL := Lib.hid hx52
      have HYX := Lib.hid (hy.take 52)
      have H0 := Lib.hid (getD_take (l := l) (n := 52) (i := 0) (by omega))
      have H1 := Lib.hid (getD_take (l := l) (n := 52) (i := 1) (by omega))
      have hbyte := hy.getD 1
      clear ho hcap h52 h54 hx52 hl hy
      by_cases h90 : l.getD 0 0 = 90
      · exact rdec_main a cap l w H54.out h90 HO.out HXL.out HYX.out H0.out H1.out hbyte CO HB.out
      · rw [retD_no (iso_sync h90)]
        generalize l.getD 0 0 = x0 at *
        have dn : (x0 != 90) = true := by simpa using h90
        generalize l.take 52 = x at *
        go_enter Try.func10, Try.ntmps10
        go_wp2_with fail
        change Calls _ _ _ ((w.alloc (.cells (ouc zou).toArray 27)).alloc (.cells (ouc zou).toArray 27)) _
        generalize (w.alloc (.cells (ouc zou).toArray 27)).alloc (.cells (ouc zou).toArray 27) = W0 at *
        refine (CO _ HB.out).mono ?_; rintro e w1 ⟨a1, cap1, rfl, i1, m1, b1⟩
        obtain ⟨bb, oo, rfl⟩ := ints_some i1 (by rw [HXL.out]; omega)
        rw [HXL.out]
        have c0 : w1.cell? ⟨bb, oo, none⟩ = some (.int .u8 x0) := by
          rcases i1 with h | ⟨b', off', h1, hc⟩
          · have := HXL.out; rw [h] at this; simp at this
          · cases h1; have := hc 0 (by rw [HXL.out]; omega); rw [H0.out] at this; exact this
        have R1 := Lib.hid (VRow.below R0.out b1 R0.out.lt)
        have V1 := Lib.hid (VRow.below V0.out b1 V0.out.lt)
        have B1 := Lib.hid (grow B0.out b1)
        clear b1 CO i1 m1 h90
        go_wp2_with (first
          | ((with_reducible show wpList _ _ _ (⟨some 34, _, _, _, _, _⟩ :: _) _ _); refine VB.loaded rfl _ rfl (w.heap.size + 1) rfl V1.out Try.underlying27 rfl (sizeO ok_zou) ?_)
          | ((with_reducible show wpList _ _ _ (⟨none, .store _ (.tmp 2) _, _, _, _, _⟩ :: _) _ _); refine VB.store rfl _ _ rfl w.heap.size (ouc zou) rfl rfl R1.out (sizeO ok_zou) rfl (ouc_all _) ?_))
        refine bodyPost_ret (v := .tuple #[.agg (ouc zou).toArray, .int .i64 3]) ?_ rfl ⟨rfl, Below.put B1.out (Nat.le_refl _) _⟩
        exact (VB.ret2 (cs := ouc zou) rfl rfl (aggO _) (sizeO ok_zou) (R1.out.put (ouc zou))).trans rfl
    · have h2 : 2 ≤ l.length := ((Cr.opens_iff l).1 ho).1
      rw [retD_no (iso_len (fun h => h52 (by rw [List.length_take, h]; rfl)))]
      have hle : (l.take (l.length - 2)).length ≤ 1000000 := by rw [List.length_take]; omega
      clear ho hy hcap
      generalize l.take (l.length - 2) = x at *
      generalize l.length = n at *
      have d52 : ((x.length : Int) != 52) = true := by simp; omega
      go_enter Try.func10, Try.ntmps10
      go_wp2_with fail
      change Calls _ _ _ ((w.alloc (.cells (ouc zou).toArray 27)).alloc (.cells (ouc zou).toArray 27)) _
      generalize (w.alloc (.cells (ouc zou).toArray 27)).alloc (.cells (ouc zou).toArray 27) = W0 at *
      refine (CO _ HB.out).mono ?_; rintro e w1 ⟨a1, cap1, rfl, -, -, b1⟩
      have R1 := Lib.hid (VRow.below R0.out b1 R0.out.lt)
      have V1 := Lib.hid (VRow.below V0.out b1 V0.out.lt)
      have B1 := Lib.hid (grow B0.out b1)
      clear b1 CO h52
      go_wp2_with (first
        | ((with_reducible show wpList _ _ _ (⟨some 34, _, _, _, _, _⟩ :: _) _ _); refine VB.loaded rfl _ rfl (w.heap.size + 1) rfl V1.out Try.underlying27 rfl (sizeO ok_zou) ?_)
        | ((with_reducible show wpList _ _ _ (⟨none, .store _ (.tmp 2) _, _, _, _, _⟩ :: _) _ _); refine VB.store rfl _ _ rfl w.heap.size (ouc zou) rfl rfl R1.out (sizeO ok_zou) rfl (ouc_all _) ?_))
      refine bodyPost_ret (v := .tuple #[.agg (ouc zou).toArray, .int .i64 3]) ?_ rfl ⟨rfl, Below.put B1.out (Nat.le_refl _) _⟩
      exact (VB.ret2 (cs := ouc zou) rfl rfl (aggO _) (sizeO ok_zou) (R1.out.put (ouc zou))).trans rfl
end Ot
end Go.Proofs.Ytpgcoagjlkdmbaa
