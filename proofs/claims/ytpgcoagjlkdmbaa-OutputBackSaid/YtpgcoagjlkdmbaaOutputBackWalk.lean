/-
  OutputBack, walked: any output that may be comes back from its bytes; with one byte changed these are none's; any bytes that are one's are its. Its conditions: what the kinds hold, how the bytes lie.
-/
import Derived.Test.YtpgcoagjlkdmbaaOutputTellsWalk
import Derived.Test.YtpgcoagjlkdmbaaAppend
namespace Go.Proofs.Ytpgcoagjlkdmbaa
set_option maxRecDepth 100000
open Go.ChangeShapes Go.WideShapes Go.ChangeAt Go.RowKit Go.Deep
namespace Ot
open Ss (St str zer stv)
open Cr (Bytes bytes_wf)

/-- What lies about while the law goes on: the output's box, the change's, the bytes. -/
structure Bg (w W : World) (ov : List Value) (p d : Int) (a : Option Addr) (l : List Int) : Prop where
  box : VRow W w.heap.size 27 ov
  chg : VRow W (w.heap.size + 1) 40 [.int .u8 p, .int .u8 d]
  bytes : IntsAt .u8 W a l
  below : Below w.heap.size w W
theorem Bg.on {w W W' : World} {ov : List Value} {p d : Int} {a : Option Addr} {l : List Int} (h : Bg w W ov p d a l) (b : Below W.heap.size W W') : Bg w W' ov p d a l :=
  ⟨h.box.below b h.box.lt, h.chg.below b h.chg.lt, h.bytes.below b, grow h.below b⟩
theorem bg_start (ov : List Value) (p d : Int) (a : Option Addr) (l : List Int) (w : World) (hb : IntsAt .u8 w a l) :
    Bg w ((w.alloc (.cells ov.toArray 27)).alloc (.cells #[.int .u8 p, .int .u8 d] 40)) ov p d a l := by
  have b : Below w.heap.size w ((w.alloc (.cells ov.toArray 27)).alloc (.cells #[.int .u8 p, .int .u8 d] 40)) := ((Below.refl w.heap.size w).alloc (Nat.le_refl _) _).alloc (by simp) _
  have c := VRow.new (w.alloc (.cells ov.toArray 27)) [.int .u8 p, .int .u8 d] 40
  rw [show (w.alloc (.cells ov.toArray 27)).heap.size = w.heap.size + 1 by simp] at c
  exact ⟨(VRow.new w ov _).alloc _, c, hb.below b, b⟩
theorem u8_in {x : Int} (h : (Lit.int .u8 x).wf = true) : 0 ≤ x ∧ x < 256 := by
  simp only [Lit.wf, Bool.and_eq_true, decide_eq_true_eq] at h
  have hmin : IntKind.u8.min = 0 := rfl
  have hmax : IntKind.u8.max = 255 := rfl
  omega
theorem bad_as {bs : List Int} {k : Nat} {d p : Int} (hp : bs.getD k 0 = p) : bs.set k ((p + d) % 256) = Fm.bad bs k d := by unfold Fm.bad Cr.plus; rw [hp]

set_option maxRecDepth 100000 in
set_option maxHeartbeats 6400000 in
theorem back_any {o : Ou} (k : Ok o) (a : Option Addr) (cap : Nat) (l : List Int) (p d : Int) (w : World) (wp : (Lit.int .u8 p).wf = true) (wd : (Lit.int .u8 d).wf = true) (cc : l.length ≤ cap) (f : ∀ n ∈ l, (Lit.int .u8 n).wf = true) (hb : IntsAt .u8 w a l) :
    Calls Try.prog 4 #[.agg (ouc o).toArray, .slice a l.length cap, .agg #[.int .u8 p, .int .u8 d]] w fun e w' => e = .returned (.bool true) ∧ Below w.heap.size w w' := by
  have AL := fun W => alive_any W
  have G0 := Lib.hid (bg_start (ouc o) p d a l w hb)
  have hp := u8_in wp
  have hd := u8_in wd
  have HU := Lib.hid (Try.underlying27)
  have NZ := Lib.hid (sizeO k)
  have NO := Lib.hid (sizeO ok_zou)
  by_cases h300 : 300 < l.length
  · have d0 : decide (300 < (l.length : Int)) = true := by simp; omega
    clear hb f cc h300 k hp hd NZ NO HU
    generalize l.length = n at *
    generalize ouc o = ov at *
    go_enter Try.func4, Try.ntmps4
    go_wp2_with fail
    refine (AL _).mono ?_; rintro e w5 ⟨rfl, b5⟩
    go_wp2
    go_ret
    exact ⟨rfl, (G0.out.on b5).below⟩
  · have d0 : decide (300 < (l.length : Int)) = false := by simp; omega
    have hy := bytes_wf f
    have CE := fun W => enc_any k W
    have RA := fun W => right_any k W
    have DE := Lib.hid (fun W h => dec_any a cap l W (by omega) cc hy h)
    have kd := dec_ok hy
    have ND := Lib.hid (sizeO kd)
    have H41 := Lib.hid (show (ouc zou).length = (ouc (dec l)).length by rw [ouc_len ok_zou, ouc_len kd])
    have HALL := Lib.hid (ouc_all (dec l))
    have LO := Lib.hid (fun X => lay_out (dec l) X)
    have LZ := Lib.hid (fun X => lay_out zou X)
    have EQZ : ∀ W, (Op.equalIn 10000 27 (.agg (ouc zou).toArray) (.agg #[.int .i64 0, .int .i64 0, .int .i64 0, .int .i64 0, .int .i64 0, .int .i64 0, .int .i64 0, .int .i64 0, .int .i64 0, .int .i64 0, .int .i64 0, .int .i64 0, .bool false, .int .i64 0, .int .i64 0, .int .i64 0, .bool false, .int .i64 0, .int .i64 0, .int .i64 0, .bool false, .int .i64 0, .int .i64 0, .int .i64 0, .bool false, .int .i64 0, .int .i64 0, .int .i64 0, .bool false, .int .i64 0, .int .i64 0, .int .i64 0, .bool false, .int .i64 0, .int .i64 0, .int .i64 0, .bool false, .int .i64 0, .int .i64 0, .int .i64 0, .bool false])).run Try.prog W = .ok true W := fun W => eq_self ok_zou W
    have CED := Lib.hid (fun (h : iso l = true) W => (show Calls Try.prog 6 #[.agg (ouc (dec l)).toArray] W (RetCE W l 0) from by
      have q := enc_any kd W
      obtain ⟨h1, -, h3⟩ := back h hy
      rwa [h3, encE_yes h1] at q))
    have SS := Lib.hid (fun W a3 a4 k3 k4 h h' => Cr.rsame_self a3 a4 k3 k4 l W (by omega) h h')
    have DZ := Lib.hid (fun h => dec_no (b := l) h)
    have EY := Lib.hid (fun h => decE_yes (b := l) h)
    have EN := Lib.hid (fun h => decE_no (b := l) h)
    clear hb f h300 hy kd cc
    unfold RetD at DE
    generalize dec l = q at *
    generalize decE l = r at *
    generalize iso l = il at *
    generalize hn : l.length = n at *
    cases hr : orgt o
    · rw [encE_no hr, enc_no hr] at CE
      rw [hr] at RA
      clear hr k
      generalize ouc o = ov at *
      go_enter Try.func4, Try.ntmps4
      go_wp2_with ((with_reducible show wpList _ _ _ (⟨some 24, _, _, _, _, _⟩ :: _) _ _); refine VB.loaded rfl _ rfl w.heap.size rfl G0.out.box HU.out rfl NZ.out ?_)
      refine (CE _).mono ?_; rintro e w1 ⟨a1, k1, rfl, -, -, b1⟩
      have GA := Lib.hid (G0.out.on b1)
      clear b1 CE G0
      go_wp2_with ((with_reducible show wpList _ _ _ (⟨some 30, _, _, _, _, _⟩ :: _) _ _); refine VB.loaded rfl _ rfl w.heap.size rfl GA.out.box HU.out rfl NZ.out ?_)
      refine (RA _).mono ?_; rintro e w2 ⟨rfl, b2⟩
      have GB := Lib.hid (GA.out.on b2)
      clear b2 RA GA
      cases il
      · have hz := DZ.out rfl
        have hr := EN.out rfl
        subst hz
        subst hr
        clear CED SS DZ EY EN
        go_wp2_with fail
        refine (DE.out _ GB.out.bytes).mono ?_; rintro e x1 ⟨rfl, b1⟩
        have G1 := Lib.hid (GB.out.on b1)
        have N1 := Lib.hid (VRow.new x1 (ouc zou) 27)
        have Q1 := Lib.hid (LZ.out x1)
        have G2 := Lib.hid (G1.out.on Q1.out.1)
        have P2 := Lib.hid Q1.out.2
        clear b1 DE
        go_wp2_with ((with_reducible show wpList _ _ _ (⟨none, .store _ (.tmp 14) _, _, _, _, _⟩ :: _) _ _); refine VB.store rfl _ _ rfl x1.heap.size (ouc zou) rfl rfl N1.out NO.out rfl (ouc_all _) ?_; change wpList _ _ _ _ _ ((x1.alloc (.cells (ouc zou).toArray 27)).setRow x1.heap.size (ouc zou).toArray); generalize (x1.alloc (.cells (ouc zou).toArray 27)).setRow x1.heap.size (ouc zou).toArray = x2 at *)
        clear N1 Q1 G1
        generalize x1.heap.size = g1 at *
        refine (AL _).mono ?_; rintro e x3 ⟨rfl, b3⟩
        have G3 := Lib.hid (G2.out.on b3)
        have P3 := Lib.hid (P2.out.below b3 P2.out.lt)
        clear b3 G2 P2 AL
        go_wp2_with ((with_reducible show wpList _ _ _ (⟨some 92, _, _, _, _, _⟩ :: _) _ _); refine loadedW rfl _ rfl g1 rfl P3.out HU.out rfl NO.out ?_)
        go_ret
        exact ⟨rfl, G3.out.below⟩
      · have hr := EY.out rfl
        subst hr
        have CE2 := CED.out rfl
        clear CED DZ EY EN
        go_wp2_with fail
        refine (DE.out _ GB.out.bytes).mono ?_; rintro e x1 ⟨rfl, b1⟩
        have G1 := Lib.hid (GB.out.on b1)
        have N1 := Lib.hid (VRow.new x1 (ouc zou) 27)
        have Q1 := Lib.hid (LO.out x1)
        have G2 := Lib.hid (G1.out.on Q1.out.1)
        have P2 := Lib.hid Q1.out.2
        clear b1 DE
        go_wp2_with (first
          | ((with_reducible show wpList _ _ _ (⟨none, .store _ (.tmp 14) _, _, _, _, _⟩ :: _) _ _); refine VB.store rfl _ _ rfl x1.heap.size (ouc q) rfl rfl N1.out ND.out H41.out HALL.out ?_; change wpList _ _ _ _ _ ((x1.alloc (.cells (ouc zou).toArray 27)).setRow x1.heap.size (ouc q).toArray); generalize (x1.alloc (.cells (ouc zou).toArray 27)).setRow x1.heap.size (ouc q).toArray = x2 at *)
          | ((with_reducible show wpList _ _ _ (⟨some 97, _, _, _, _, _⟩ :: _) _ _); refine VB.loaded rfl _ rfl x1.heap.size rfl P2.out HU.out rfl ND.out ?_))
        clear N1 Q1 G1 P2
        refine (CE2 _).mono ?_; rintro e x3 ⟨a3, k3, rfl, i3, -, b3⟩
        have G3 := Lib.hid (G2.out.on b3)
        have I3 := Lib.hid i3
        clear b3 i3 G2 CE2
        go_wp2_with fail
        have SS3 := SS.out _ a3 a k3 cap I3.out G3.out.bytes
        refine SS3.mono ?_; rintro e x4 ⟨rfl, b4⟩
        have G4 := Lib.hid (G3.out.on b4)
        clear b4 SS3 SS G3 I3
        go_wp2_with fail
        refine (AL _).mono ?_; rintro e x5 ⟨rfl, b5⟩
        have G5 := Lib.hid (G4.out.on b5)
        go_wp2
        go_ret
        exact ⟨rfl, G5.out.below⟩
    · rw [encE_yes hr] at CE
      rw [hr] at RA
      have HL := Lib.hid (enc_len hr k)
      have HY := Lib.hid (enc_bytes k)
      have HA1 := Lib.hid (show ([] : List Int).length + (enc o).length ≤ maxLen by unfold maxLen; rw [HL.out]; simp)
      have HA2 := Lib.hid (show (([] : List Int).length + (enc o).length) * 1 ≤ 140737488355328 by rw [HL.out]; simp)
      have EQO := fun W => eq_self k W
      have DC := fun W a1 k1 (hc : 54 ≤ k1) h => (show Calls Try.prog 9 #[.slice a1 54 k1] W fun e w' => e = .returned (.tuple #[.agg (ouc o).toArray, .int .i64 0]) ∧ Below W.heap.size W w' from by
        have q := dec_any a1 k1 (enc o) W (by rw [HL.out]; omega) (by rw [HL.out]; exact hc) HY.out h
        unfold RetD at q
        rwa [enc_dec hr k, decE_yes (enc_iso hr k), HL.out] at q)
      obtain ⟨j, hj⟩ : ∃ j : Nat, p % 54 = j := ⟨(p % 54).toNat, by omega⟩
      have hj54 : j < 54 := by omega
      have ki1 : (j : Int) < 54 := by omega
      have DB := Lib.hid (fun W a1 k1 (hc : 54 ≤ k1) h => dec_any a1 k1 (Fm.bad (enc o) j d) W (by rw [Fm.bad_len, HL.out]; omega) (by rw [Fm.bad_len, HL.out]; exact hc) (Fm.bad_bytes HY.out j d) h)
      have HBI := Lib.hid (fun hd1 => bad_iso hr k j hj54 d hd1)
      have HOZ := Lib.hid (show (ouc zou).length = (ouc o).length by rw [ouc_len ok_zou, ouc_len k])
      have HAO := Lib.hid (ouc_all o)
      have LX := Lib.hid (fun X => lay_out o X)
      have kb := dec_ok (Fm.bad_bytes HY.out j d)
      have NB := Lib.hid (sizeO kb)
      have HB41 := Lib.hid (show (ouc zou).length = (ouc (dec (Fm.bad (enc o) j d))).length by rw [ouc_len ok_zou, ouc_len kb])
      have HBALL := Lib.hid (ouc_all (dec (Fm.bad (enc o) j d)))
      have LB := Lib.hid (fun X => lay_out (dec (Fm.bad (enc o) j d)) X)
      have HB3 := Lib.hid (fun hd1 => decE_no (HBI.out hd1))
      unfold RetD at DB
      rw [show (Fm.bad (enc o) j d).length = 54 by rw [Fm.bad_len, HL.out]] at DB
      clear HBI kb
      generalize dec (Fm.bad (enc o) j d) = qb at *
      generalize decE (Fm.bad (enc o) j d) = rb at *
      clear hr k
      generalize hbs : enc o = bs at *
      generalize ouc o = ov at *
      go_enter Try.func4, Try.ntmps4
      go_wp2_with ((with_reducible show wpList _ _ _ (⟨some 24, _, _, _, _, _⟩ :: _) _ _); refine VB.loaded rfl _ rfl w.heap.size rfl G0.out.box HU.out rfl NZ.out ?_)
      refine (CE _).mono ?_; rintro e w1 ⟨a1, k1, rfl, i1, m1, b1⟩
      rw [HL.out] at m1 ⊢
      have GA := Lib.hid (G0.out.on b1)
      have I1 := Lib.hid i1
      clear b1 i1 CE G0
      go_wp2_with ((with_reducible show wpList _ _ _ (⟨some 30, _, _, _, _, _⟩ :: _) _ _); refine VB.loaded rfl _ rfl w.heap.size rfl GA.out.box HU.out rfl NZ.out ?_)
      refine (RA _).mono ?_; rintro e w2 ⟨rfl, b2⟩
      have GB := Lib.hid (GA.out.on b2)
      have I2 := Lib.hid (I1.out.below b2)
      clear b2 RA GA I1
      go_wp2_with fail
      refine (DC _ _ _ m1 I2.out).mono ?_; rintro e w3 ⟨rfl, b3⟩
      have GC := Lib.hid (GB.out.on b3)
      have I3 := Lib.hid (I2.out.below b3)
      have N3 := Lib.hid (VRow.new w3 (ouc zou) 27)
      have Q3 := Lib.hid (LX.out w3)
      clear b3 DC GB I2
      have GD := Lib.hid (GC.out.on Q3.out.1)
      have I4 := Lib.hid (I3.out.below Q3.out.1)
      have P4 := Lib.hid Q3.out.2
      clear GC I3
      go_wp2_with (first
        | ((with_reducible show wpList _ _ _ (⟨none, .store _ (.tmp 9) _, _, _, _, _⟩ :: _) _ _); refine VB.store rfl _ _ rfl w3.heap.size ov rfl rfl N3.out NZ.out HOZ.out HAO.out ?_; change wpList _ _ _ _ _ ((w3.alloc (.cells (ouc zou).toArray 27)).setRow w3.heap.size ov.toArray); generalize (w3.alloc (.cells (ouc zou).toArray 27)).setRow w3.heap.size ov.toArray = w4 at *)
        | ((with_reducible show wpList _ _ _ (⟨some 43, _, _, _, _, _⟩ :: _) _ _); refine loadedW rfl _ rfl w3.heap.size rfl P4.out HU.out rfl NZ.out ?_)
        | ((with_reducible show wpList _ _ _ (⟨some 44, _, _, _, _, _⟩ :: _) _ _); refine loadedW rfl _ rfl w.heap.size rfl GD.out.box HU.out rfl NZ.out ?_)
        | ((with_reducible show wpList _ _ _ (⟨some 54, _, _, _, _, _⟩ :: _) _ _); refine wpList_appendI rfl (.tmp 52) (.tmp 53) _ rfl .u8 w4.heap.size 5 1 Try.underlying28 Wd.byteInfo _ [] a1 54 k1 bs rfl rfl HL.out (OwnI.lit0 (Nat.le_refl _)) (I4.out.below ((Below.refl _ _).alloc (Nat.le_refl _) _)) HA1.out HA2.out w4 ((Below.refl _ _).alloc (Nat.le_refl _) _) (Nat.le_refl _) ?_
           intro v8 W8 O8' B8'; rw [List.nil_append] at O8'; have O8 := Lib.hid O8'; have B8 := Lib.hid B8'; clear O8' B8'))
      obtain ⟨g, cp, rfl, hg, hcp, hgl⟩ := O8.out.row (by rw [HL.out]; omega)
      have c8a := O8.out.cell j (by rw [HL.out]; omega)
      obtain ⟨q0, hq0⟩ : ∃ q0, bs.getD j 0 = q0 := ⟨_, rfl⟩
      rw [hq0] at c8a
      have f8a := O8.out.frozen j
      have G8 := Lib.hid (GD.out.on B8.out)
      have y0 := G8.out.chg.cell 0 (v := .int .u8 p) rfl
      have y1 := G8.out.chg.cell 1 (v := .int .u8 d) rfl
      have hne := G8.out.chg.lt
      rw [HL.out]
      have O9' := O8.out.stored j ((q0 + d) % 256)
      rw [bad_as hq0] at O9'
      have B9 := Lib.hid (B8.out.setCell (p := ⟨g, j, none⟩) hg (.int .u8 ((q0 + d) % 256)))
      obtain ⟨a9, c9, hv9, i9⟩ := O9'.form
      injection hv9 with h1 h2 h3
      rw [← h1] at i9
      have I9 := Lib.hid (show IntsAt .u8 (W8.setCell ⟨g, j, none⟩ (.int .u8 ((q0 + d) % 256))).drew (some ⟨g, 0, none⟩) (Fm.bad bs j d) from i9)
      have G9 := Lib.hid (GD.out.on (show Below w4.heap.size w4 (W8.setCell ⟨g, j, none⟩ (.int .u8 ((q0 + d) % 256))).drew from B9.out.drew))
      have HCP := Lib.hid (show 54 ≤ cp by rw [HL.out] at hcp; exact hcp)
      clear I4 P4 GD EQO N3 Q3 h1 h2 h3 i9 O9' O8 B8 B9 hcp
      go_region
      clear y0 y1 c8a f8a G8 hne
      generalize (W8.setCell ⟨g, j, none⟩ (.int .u8 ((q0 + d) % 256))).drew = W9 at *
      go_wp2_with fail
      refine (DB.out _ _ _ HCP.out I9.out).mono ?_; rintro e w10 ⟨rfl, b10⟩
      have GE := Lib.hid (G9.out.on b10)
      have N10 := Lib.hid (VRow.new w10 (ouc zou) 27)
      have Q10 := Lib.hid (LB.out w10)
      have GF := Lib.hid (GE.out.on Q10.out.1)
      have GY := Lib.hid (GF.out.chg.cell 1 (v := .int .u8 d) rfl)
      clear b10 DB G9 I9 GE
      have wy := GY.out
      by_cases hd0 : d = 0
      · subst hd0
        clear HB3
        go_wp2_with ((with_reducible show wpList _ _ _ (⟨none, .store _ (.tmp 12) _, _, _, _, _⟩ :: _) _ _); refine VB.store rfl _ _ rfl w10.heap.size (ouc qb) rfl rfl N10.out NB.out HB41.out HBALL.out ?_; change wpList _ _ _ _ _ ((w10.alloc (.cells (ouc zou).toArray 27)).setRow w10.heap.size (ouc qb).toArray); generalize (w10.alloc (.cells (ouc zou).toArray 27)).setRow w10.heap.size (ouc qb).toArray = w11 at *)
        cases il
        · have hz := DZ.out rfl
          have hr := EN.out rfl
          subst hz
          subst hr
          clear CED SS DZ EY EN
          go_wp2_with fail
          refine (DE.out _ GF.out.bytes).mono ?_; rintro e x1 ⟨rfl, b1⟩
          have G1 := Lib.hid (GF.out.on b1)
          have N1 := Lib.hid (VRow.new x1 (ouc zou) 27)
          have Q1 := Lib.hid (LZ.out x1)
          have G2 := Lib.hid (G1.out.on Q1.out.1)
          have P2 := Lib.hid Q1.out.2
          clear b1 DE
          go_wp2_with ((with_reducible show wpList _ _ _ (⟨none, .store _ (.tmp 14) _, _, _, _, _⟩ :: _) _ _); refine VB.store rfl _ _ rfl x1.heap.size (ouc zou) rfl rfl N1.out NO.out rfl (ouc_all _) ?_; change wpList _ _ _ _ _ ((x1.alloc (.cells (ouc zou).toArray 27)).setRow x1.heap.size (ouc zou).toArray); generalize (x1.alloc (.cells (ouc zou).toArray 27)).setRow x1.heap.size (ouc zou).toArray = x2 at *)
          clear N1 Q1 G1
          generalize x1.heap.size = g1 at *
          refine (AL _).mono ?_; rintro e x3 ⟨rfl, b3⟩
          have G3 := Lib.hid (G2.out.on b3)
          have P3 := Lib.hid (P2.out.below b3 P2.out.lt)
          clear b3 G2 P2 AL
          go_wp2_with ((with_reducible show wpList _ _ _ (⟨some 92, _, _, _, _, _⟩ :: _) _ _); refine loadedW rfl _ rfl g1 rfl P3.out HU.out rfl NO.out ?_)
          go_ret
          exact ⟨rfl, G3.out.below⟩
        · have hr := EY.out rfl
          subst hr
          have CE2 := CED.out rfl
          clear CED DZ EY EN
          go_wp2_with fail
          refine (DE.out _ GF.out.bytes).mono ?_; rintro e x1 ⟨rfl, b1⟩
          have G1 := Lib.hid (GF.out.on b1)
          have N1 := Lib.hid (VRow.new x1 (ouc zou) 27)
          have Q1 := Lib.hid (LO.out x1)
          have G2 := Lib.hid (G1.out.on Q1.out.1)
          have P2 := Lib.hid Q1.out.2
          clear b1 DE
          go_wp2_with (first
            | ((with_reducible show wpList _ _ _ (⟨none, .store _ (.tmp 14) _, _, _, _, _⟩ :: _) _ _); refine VB.store rfl _ _ rfl x1.heap.size (ouc q) rfl rfl N1.out ND.out H41.out HALL.out ?_; change wpList _ _ _ _ _ ((x1.alloc (.cells (ouc zou).toArray 27)).setRow x1.heap.size (ouc q).toArray); generalize (x1.alloc (.cells (ouc zou).toArray 27)).setRow x1.heap.size (ouc q).toArray = x2 at *)
            | ((with_reducible show wpList _ _ _ (⟨some 97, _, _, _, _, _⟩ :: _) _ _); refine VB.loaded rfl _ rfl x1.heap.size rfl P2.out HU.out rfl ND.out ?_))
          clear N1 Q1 G1 P2
          refine (CE2 _).mono ?_; rintro e x3 ⟨a3, k3, rfl, i3, -, b3⟩
          have G3 := Lib.hid (G2.out.on b3)
          have I3 := Lib.hid i3
          clear b3 i3 G2 CE2
          go_wp2_with fail
          have SS3 := SS.out _ a3 a k3 cap I3.out G3.out.bytes
          refine SS3.mono ?_; rintro e x4 ⟨rfl, b4⟩
          have G4 := Lib.hid (G3.out.on b4)
          clear b4 SS3 SS G3 I3
          go_wp2_with fail
          refine (AL _).mono ?_; rintro e x5 ⟨rfl, b5⟩
          have G5 := Lib.hid (G4.out.on b5)
          go_wp2
          go_ret
          exact ⟨rfl, G5.out.below⟩
      · have dd : (d != 0) = true := by simpa using hd0
        have h3 := HB3.out ⟨by omega, by omega⟩
        subst h3
        go_wp2_with ((with_reducible show wpList _ _ _ (⟨none, .store _ (.tmp 12) _, _, _, _, _⟩ :: _) _ _); refine VB.store rfl _ _ rfl w10.heap.size (ouc qb) rfl rfl N10.out NB.out HB41.out HBALL.out ?_; change wpList _ _ _ _ _ ((w10.alloc (.cells (ouc zou).toArray 27)).setRow w10.heap.size (ouc qb).toArray); generalize (w10.alloc (.cells (ouc zou).toArray 27)).setRow w10.heap.size (ouc qb).toArray = w11 at *)
        cases il
        · have hz := DZ.out rfl
          have hr := EN.out rfl
          subst hz
          subst hr
          clear CED SS DZ EY EN
          go_wp2_with fail
          refine (DE.out _ GF.out.bytes).mono ?_; rintro e x1 ⟨rfl, b1⟩
          have G1 := Lib.hid (GF.out.on b1)
          have N1 := Lib.hid (VRow.new x1 (ouc zou) 27)
          have Q1 := Lib.hid (LZ.out x1)
          have G2 := Lib.hid (G1.out.on Q1.out.1)
          have P2 := Lib.hid Q1.out.2
          clear b1 DE
          go_wp2_with ((with_reducible show wpList _ _ _ (⟨none, .store _ (.tmp 14) _, _, _, _, _⟩ :: _) _ _); refine VB.store rfl _ _ rfl x1.heap.size (ouc zou) rfl rfl N1.out NO.out rfl (ouc_all _) ?_; change wpList _ _ _ _ _ ((x1.alloc (.cells (ouc zou).toArray 27)).setRow x1.heap.size (ouc zou).toArray); generalize (x1.alloc (.cells (ouc zou).toArray 27)).setRow x1.heap.size (ouc zou).toArray = x2 at *)
          clear N1 Q1 G1
          generalize x1.heap.size = g1 at *
          refine (AL _).mono ?_; rintro e x3 ⟨rfl, b3⟩
          have G3 := Lib.hid (G2.out.on b3)
          have P3 := Lib.hid (P2.out.below b3 P2.out.lt)
          clear b3 G2 P2 AL
          go_wp2_with ((with_reducible show wpList _ _ _ (⟨some 92, _, _, _, _, _⟩ :: _) _ _); refine loadedW rfl _ rfl g1 rfl P3.out HU.out rfl NO.out ?_)
          go_ret
          exact ⟨rfl, G3.out.below⟩
        · have hr := EY.out rfl
          subst hr
          have CE2 := CED.out rfl
          clear CED DZ EY EN
          go_wp2_with fail
          refine (DE.out _ GF.out.bytes).mono ?_; rintro e x1 ⟨rfl, b1⟩
          have G1 := Lib.hid (GF.out.on b1)
          have N1 := Lib.hid (VRow.new x1 (ouc zou) 27)
          have Q1 := Lib.hid (LO.out x1)
          have G2 := Lib.hid (G1.out.on Q1.out.1)
          have P2 := Lib.hid Q1.out.2
          clear b1 DE
          go_wp2_with (first
            | ((with_reducible show wpList _ _ _ (⟨none, .store _ (.tmp 14) _, _, _, _, _⟩ :: _) _ _); refine VB.store rfl _ _ rfl x1.heap.size (ouc q) rfl rfl N1.out ND.out H41.out HALL.out ?_; change wpList _ _ _ _ _ ((x1.alloc (.cells (ouc zou).toArray 27)).setRow x1.heap.size (ouc q).toArray); generalize (x1.alloc (.cells (ouc zou).toArray 27)).setRow x1.heap.size (ouc q).toArray = x2 at *)
            | ((with_reducible show wpList _ _ _ (⟨some 97, _, _, _, _, _⟩ :: _) _ _); refine VB.loaded rfl _ rfl x1.heap.size rfl P2.out HU.out rfl ND.out ?_))
          clear N1 Q1 G1 P2
          refine (CE2 _).mono ?_; rintro e x3 ⟨a3, k3, rfl, i3, -, b3⟩
          have G3 := Lib.hid (G2.out.on b3)
          have I3 := Lib.hid i3
          clear b3 i3 G2 CE2
          go_wp2_with fail
          have SS3 := SS.out _ a3 a k3 cap I3.out G3.out.bytes
          refine SS3.mono ?_; rintro e x4 ⟨rfl, b4⟩
          have G4 := Lib.hid (G3.out.on b4)
          clear b4 SS3 SS G3 I3
          go_wp2_with fail
          refine (AL _).mono ?_; rintro e x5 ⟨rfl, b5⟩
          have G5 := Lib.hid (G4.out.on b5)
          go_wp2
          go_ret
          exact ⟨rfl, G5.out.below⟩
end Ot
namespace outputBack
open Ot Ss
theorem walk (x0 : Int) (x1 : Int) (x2 : Int) (x3 : Int) (x4 : Int) (x5 : Int) (x6 : Int) (x7 : Int) (x8 : Int) (x9 : Int) (x10 : Int) (x11 : Int) (x12 : Bool) (x13 : Int) (x14 : Int) (x15 : Int) (x16 : Bool) (x17 : Int) (x18 : Int) (x19 : Int) (x20 : Bool) (x21 : Int) (x22 : Int) (x23 : Int) (x24 : Bool) (x25 : Int) (x26 : Int) (x27 : Int) (x28 : Bool) (x29 : Int) (x30 : Int) (x31 : Int) (x32 : Bool) (x33 : Int) (x34 : Int) (x35 : Int) (x36 : Bool) (x37 : Int) (x38 : Int) (x39 : Int) (x40 : Bool) (a : Option Addr) (cap : Nat) (l : List Int) (p d : Int) (w : World) (_u0 : (Lit.int .i64 x0).wf = true) (_u1 : (Lit.int .i64 x1).wf = true) (_u2 : (Lit.int .i64 x2).wf = true) (_u3 : (Lit.int .i64 x3).wf = true) (_u4 : (Lit.int .i64 x4).wf = true) (_u5 : (Lit.int .i64 x5).wf = true) (_u6 : (Lit.int .i64 x6).wf = true) (_u7 : (Lit.int .i64 x7).wf = true) (_u8 : (Lit.int .i64 x8).wf = true) (_u9 : (Lit.int .i64 x9).wf = true) (_u10 : (Lit.int .i64 x10).wf = true) (_u11 : (Lit.int .i64 x11).wf = true) (_u13 : (Lit.int .i64 x13).wf = true) (_u14 : (Lit.int .i64 x14).wf = true) (_u15 : (Lit.int .i64 x15).wf = true) (_u17 : (Lit.int .i64 x17).wf = true) (_u18 : (Lit.int .i64 x18).wf = true) (_u19 : (Lit.int .i64 x19).wf = true) (_u21 : (Lit.int .i64 x21).wf = true) (_u22 : (Lit.int .i64 x22).wf = true) (_u23 : (Lit.int .i64 x23).wf = true) (_u25 : (Lit.int .i64 x25).wf = true) (_u26 : (Lit.int .i64 x26).wf = true) (_u27 : (Lit.int .i64 x27).wf = true) (_u29 : (Lit.int .i64 x29).wf = true) (_u30 : (Lit.int .i64 x30).wf = true) (_u31 : (Lit.int .i64 x31).wf = true) (_u33 : (Lit.int .i64 x33).wf = true) (_u34 : (Lit.int .i64 x34).wf = true) (_u35 : (Lit.int .i64 x35).wf = true) (_u37 : (Lit.int .i64 x37).wf = true) (_u38 : (Lit.int .i64 x38).wf = true) (_u39 : (Lit.int .i64 x39).wf = true) (_c : l.length ≤ maxLen) (m : l.length ≤ cap ∧ cap ≤ maxLen) (_z : cap * 1 ≤ 140737488351232) (f : ∀ n ∈ l, (Lit.int .u8 n).wf = true) (b : IntsAt .u8 w a l) (wp : (Lit.int .u8 p).wf = true) (wd : (Lit.int .u8 d).wf = true) :
    Calls Try.prog 4 #[.agg #[.int .i64 x0, .int .i64 x1, .int .i64 x2, .int .i64 x3, .int .i64 x4, .int .i64 x5, .int .i64 x6, .int .i64 x7, .int .i64 x8, .int .i64 x9, .int .i64 x10, .int .i64 x11, .bool x12, .int .i64 x13, .int .i64 x14, .int .i64 x15, .bool x16, .int .i64 x17, .int .i64 x18, .int .i64 x19, .bool x20, .int .i64 x21, .int .i64 x22, .int .i64 x23, .bool x24, .int .i64 x25, .int .i64 x26, .int .i64 x27, .bool x28, .int .i64 x29, .int .i64 x30, .int .i64 x31, .bool x32, .int .i64 x33, .int .i64 x34, .int .i64 x35, .bool x36, .int .i64 x37, .int .i64 x38, .int .i64 x39, .bool x40], .slice a l.length cap, .agg #[.int .u8 p, .int .u8 d]] w fun e w' => e = .returned (.bool true) ∧ Below w.heap.size w w' :=
  back_any (o := ⟨x0, [x1, x2, x3, x4, x5, x6, x7, x8], [⟨x9, x10, x11, x12⟩, ⟨x13, x14, x15, x16⟩, ⟨x17, x18, x19, x20⟩, ⟨x21, x22, x23, x24⟩, ⟨x25, x26, x27, x28⟩, ⟨x29, x30, x31, x32⟩, ⟨x33, x34, x35, x36⟩, ⟨x37, x38, x39, x40⟩]⟩) ⟨rfl, rfl⟩ a cap l p d w wp wd m.1 f b
end outputBack
end Go.Proofs.Ytpgcoagjlkdmbaa
