/-
  The law's live question for layer 20: the program answers it as it must. A contract by walking the Go text. Conditions: that the table of trips lies in memory as the text lays it.
-/
import Derived.Test.YtpoededbmdffpaaGreatDoorFusionLive
namespace Go.Proofs.YtpoededbmdffpaaGreatDoor
set_option maxRecDepth 100000
open Go.ChangeShapes Go.WideShapes Go.ChangeAt Go.RowKit Go.Deep
namespace Fu
open Cf (G CA)
open Sg (NN Si Face lav)
open Ot (ouc zou)
open Ss (str)
set_option maxRecDepth 100000 in
set_option maxHeartbeats 6400000 in
theorem alive_any (F : Face) (w : World) (hT : Tp.TabAt w) (hg : 0 < w.heap.size) : Calls Tryz.prog 7 #[] w fun e w' => e = .returned (.bool true) ∧ Below w.heap.size w w' := by
  have C1 := fun W => small_any W
  have C2 := fun W (h : 0 < W.heap.size) => new_yes F cS W rfl cS_right h
  have C3 := fun W => new_no (List.replicate 21 0) W rfl c0_right
  change ∀ W, Calls _ _ #[.agg #[.int .i64 0, .int .i64 0, .int .i64 0, .int .i64 0, .int .i64 0, .int .i64 0, .int .i64 0, .int .i64 0, .int .i64 0, .int .i64 0, .int .i64 0, .int .i64 0, .int .i64 0, .int .i64 0, .int .i64 0, .int .i64 0, .int .i64 0, .int .i64 0, .int .i64 0, .int .i64 0, .int .i64 0]] _ _ at C3
  have S10 := Lib.hid (fun W => slot_any 0 7 10 W (by decide) (by decide))
  have S11 := Lib.hid (fun W => slot_any 1 65535 12 W (by decide) (by decide))
  have S12 := Lib.hid (fun W => slot_any 2 3 99 W (by decide) (by decide))
  have S20 := Lib.hid (fun W => slot_any 0 8 10 W (by decide) (by decide))
  have S21 := Lib.hid (fun W => slot_any 1 0 12 W (by decide) (by decide))
  have HT := Lib.hid hT
  have HG := Lib.hid hg
  have HM0 := Lib.hid (show begin cS = m0 from rfl)
  have HO0 := Lib.hid (show Ok cS m0 from ok_begin cS_right)
  have L1 := @live_1 F w
  have L2 := @live_2 F w
  have LN := @live_notes F w
  have LS := @live_state F w
  have LH := @live_shut F w
  have LL := @live_latched F w
  have LR := @live_rejects F w
  have LC := @live_cycles F w
  have LO := @live_lost F w
  have E7 := eq7
  have HOO := Lib.hid (show Ot.Ok oS from ⟨rfl, rfl⟩)
  have HO1 := Lib.hid (show (ouc oS)[0]? = some (.int .i64 1) ∧ (ouc oS)[8]? = some (.int .i64 12) ∧ ∀ j v, ([.int .i64 3, .int .i64 4, .int .i64 (-1), .bool false] : List Value)[j]? = some v → (ouc oS)[9 + j]? = some v from ⟨rfl, rfl, fun j v hv => by
    match j, hv with
    | 0, hv => exact hv
    | 1, hv => exact hv
    | 2, hv => exact hv
    | 3, hv => exact hv
    | j + 4, hv => simp at hv⟩)
  rw [HM0.out] at C2
  generalize oS = oo at *
  generalize m2 = M2 at *
  generalize m1 = M1 at *
  generalize m0 = M0 at *
  generalize cS = cc at *
  generalize Fm.enc 0 7 (List.replicate 8 10) = e10 at *
  generalize Fm.enc 1 65535 (List.replicate 8 12) = e11 at *
  generalize Fm.enc 2 3 (List.replicate 8 99) = e12 at *
  generalize Fm.enc 0 8 (List.replicate 8 10) = e20 at *
  generalize Fm.enc 1 0 (List.replicate 8 12) = e21 at *
  clear hT hg
  go_enter Tryz.func7, Tryz.ntmps7
  go_upto_region 2 with (first
    | (go_at_call 30; refine (C1 _).mono ?_; rintro e w1 ⟨rfl, b1⟩; have B1 := Lib.hid b1; clear b1)
    | (go_at_call 8; refine (C2 w1 (Nat.lt_of_lt_of_le HG.out B1.out.size)).mono ?_; rintro e w2 ⟨P, rfl, l2, b2, n2⟩; have B2 := Lib.hid (grow B1.out b2); have H2 := Lib.hid (show Hd F w w2 P cc M0 from ⟨l2, grow B1.out b2, fun b hb => Nat.le_trans B1.out.size (n2 b hb), HT.out.below B2.out, HO0.out⟩); clear l2 b2 n2))
  unfold ptr
  go_upto_region 5 with (go_at_call 8; refine (C3 w2).mono ?_; rintro e w3 ⟨rfl, b3⟩; have H3 := Lib.hid (H2.out.on b3); clear b3)
  clear H2 B2 B1 C1 C2 C3
  go_wp2_with fail
  refine (S10.out _).mono ?_; rintro e w4 ⟨a0, k0, rfl, i0, m0, b4⟩
  have H4 := Lib.hid (H3.out.on b4)
  have I4 := Lib.hid i0
  have M4 := Lib.hid m0
  clear i0 m0 b4 H3
  go_wp2_with fail
  refine (S11.out _).mono ?_; rintro e w5 ⟨a1, k1, rfl, i0, m0, b5⟩
  have H5 := Lib.hid (H4.out.on b5)
  have J5 := Lib.hid (I4.out.below b5)
  have I5 := Lib.hid i0
  have M5 := Lib.hid m0
  clear i0 m0 b5 H4 I4
  go_wp2_with fail
  refine (S12.out _).mono ?_; rintro e w6 ⟨a2, k2, rfl, i0, m0, b6⟩
  have H6 := Lib.hid (H5.out.on b6)
  have J6 := Lib.hid (J5.out.below b6)
  have K6 := Lib.hid (I5.out.below b6)
  have I6 := Lib.hid i0
  have M6 := Lib.hid m0
  clear i0 m0 b6 H5 J5 I5
  go_wp2_with ((with_reducible show wpList _ _ _ (⟨some 27, _, _, _, _, _⟩ :: _) _ _); refine Rg.wpList_buildTo rfl _ _ rfl #[.bool true, .slice a0 38 k0, .bool true, .slice a1 38 k1, .bool true, .slice a2 38 k2, .bool false, .slice none 0 0] (by kernel_rfl) ?_)
  refine (L1 H6.out J6.out K6.out I6.out M4.out M5.out M6.out).mono ?_; rintro e w7 ⟨P7, a7, c7, o7, rfl, h7, f7⟩
  have H7 := Lib.hid h7
  have F7 := Lib.hid f7.symm
  clear h7 f7 H6 J6 K6 I6 M4 M5 M6 S10 S11
  rw [F7.out]
  clear F7
  go_wp2_with fail
  refine (S20.out _).mono ?_; rintro e w4 ⟨a0, k0, rfl, i0, m0, b4⟩
  have H4 := Lib.hid (H7.out.on b4)
  have I4 := Lib.hid i0
  have M4 := Lib.hid m0
  clear i0 m0 b4 H7
  go_wp2_with fail
  refine (S21.out _).mono ?_; rintro e w5 ⟨a1, k1, rfl, i0, m0, b5⟩
  have H5 := Lib.hid (H4.out.on b5)
  have J5 := Lib.hid (I4.out.below b5)
  have I5 := Lib.hid i0
  have M5 := Lib.hid m0
  clear i0 m0 b5 H4 I4
  go_wp2_with fail
  refine (S12.out _).mono ?_; rintro e w6 ⟨a2, k2, rfl, i0, m0, b6⟩
  have H6 := Lib.hid (H5.out.on b6)
  have J6 := Lib.hid (J5.out.below b6)
  have K6 := Lib.hid (I5.out.below b6)
  have I6 := Lib.hid i0
  have M6 := Lib.hid m0
  clear i0 m0 b6 H5 J5 I5
  go_wp2_with ((with_reducible show wpList _ _ _ (⟨some 34, _, _, _, _, _⟩ :: _) _ _); refine Rg.wpList_buildTo rfl _ _ rfl #[.bool true, .slice a0 38 k0, .bool true, .slice a1 38 k1, .bool true, .slice a2 38 k2, .bool false, .slice none 0 0] (by kernel_rfl) ?_)
  refine (L2 H6.out J6.out K6.out I6.out M4.out M5.out M6.out).mono ?_; rintro e w8 ⟨P8, a8, c8, rfl, h8, f8⟩
  have H8 := Lib.hid h8
  have F8 := Lib.hid f8.symm
  clear h8 f8 H6 J6 K6 I6 M4 M5 M6 S20 S21 S12 L1 L2
  rw [F8.out]
  clear F8
  go_upto_region 7 with (first
    | ((with_reducible show wpList _ _ _ (⟨_, .alloc 40, _, _, _, _⟩ :: _) _ _); refine wpList_lay rfl _ rfl (ouc zou) (fun _ => by kernel_rfl) ?_)
    | ((with_reducible show wpList _ _ _ (⟨none, .store _ (.tmp 5) _, _, _, _, _⟩ :: _) _ _); refine VB.store rfl _ _ rfl w8.heap.size (ouc oo) rfl rfl (VRow.new w8 (ouc zou) 40) (Ot.sizeO HOO.out) (by rw [Ot.ouc_len Ot.ok_zou, Ot.ouc_len HOO.out]) (Ot.ouc_all _) ?_))
  have hb9 := Below.put ((Below.refl w8.heap.size w8).alloc (Nat.le_refl _) (.cells (ouc zou).toArray 40)) (Nat.le_refl _) (ouc oo).toArray
  have H9 := Lib.hid (H8.out.on hb9)
  have V9 := Lib.hid ((VRow.new w8 (ouc zou) 40).put (ouc oo))
  clear hb9 H8
  generalize (w8.alloc (.cells (ouc zou).toArray 40)).setRow w8.heap.size (ouc oo).toArray = w9 at *
  generalize w8.heap.size = ob at *
  go_wp2_with fail
  refine (LN H9.out).mono ?_; rintro e w10 ⟨nb, no, nc, rfl, r10, b10⟩
  have H10 := Lib.hid (H9.out.on b10)
  have V10 := Lib.hid (onB V9.out b10)
  have R10 := Lib.hid r10
  clear r10 b10 H9 V9 LN
  go_upto_region 10 with fail
  go_wp2_with fail
  refine (LS H10.out).mono ?_; rintro e w11 ⟨st, rfl, hl, ho, b11⟩
  have H11 := Lib.hid (H10.out.on b11)
  have V11 := Lib.hid (onB V10.out b11)
  have R11 := Lib.hid (fun j v hv => show w11.cell? ⟨nb, no + j, none⟩ = some v from (b11.cell (p := ⟨nb, no + j, none⟩) (cell_lt (R10.out j v hv))).trans (R10.out j v hv))
  have hb12 := Below.put ((Below.refl w11.heap.size w11).alloc (Nat.le_refl _) (.cells (lav Lc.zer).toArray 54)) (Nat.le_refl _) (Value.bool true :: st).toArray
  have H12 := Lib.hid (H11.out.on hb12)
  have V12 := Lib.hid (onB V11.out hb12)
  have R12 := Lib.hid (show ∀ j v, ([.int .i64 1, .int .i64 2, .int .i64 0, .int .i64 0, .int .i64 1] : List Value)[j]? = some v → ((w11.alloc (.cells (lav Lc.zer).toArray 54)).setRow w11.heap.size (Value.bool true :: st).toArray).cell? ⟨nb, no + j, none⟩ = some v from fun j v hv => (hb12.cell (p := ⟨nb, no + j, none⟩) (cell_lt (R11.out j v hv))).trans (R11.out j v hv))
  have VS := Lib.hid ((VRow.new w11 (lav Lc.zer) 54).put (Value.bool true :: st))
  have SS := Lib.hid (show (Tryz.prog.info? 54).map (·.size) = some (Value.bool true :: st).length by rw [List.length_cons, hl]; kernel_rfl)
  have SL := Lib.hid (show (lav Lc.zer).length = (Value.bool true :: st).length by rw [List.length_cons, hl]; rfl)
  have SO := Lib.hid (show (Value.bool true :: st).toArray.all (·.oneCell') = true from all_oneCell_toArray (fun v hv => by
    rcases List.mem_cons.1 hv with rfl | hv
    · rfl
    · exact ho v hv))
  have SN := Lib.hid (show (Tryz.prog.info? 86).map (·.size) = some 5 by kernel_rfl)
  have RS := Lib.hid (show ∀ W, VRow W ob 40 (ouc oo) → W.rangeAt ob 9 [.int .i64 3, .int .i64 4, .int .i64 (-1), .bool false] from fun W V j v hv => V.cell (9 + j) (HO1.out.2.2 j v hv))
  have c0 := V12.out.cell 0 HO1.out.1
  have c8 := V12.out.cell 8 HO1.out.2.1
  have c9 := V12.out.cell 9 (HO1.out.2.2 0 _ rfl)
  have c10 := V12.out.cell 10 (HO1.out.2.2 1 _ rfl)
  have c11 := V12.out.cell 11 (HO1.out.2.2 2 _ rfl)
  have c12 := V12.out.cell 12 (HO1.out.2.2 3 _ rfl)
  have d0 := R12.out 0 _ rfl
  have d1 := R12.out 1 _ rfl
  have d2 := R12.out 2 _ rfl
  have d3 := R12.out 3 _ rfl
  have d4 := R12.out 4 _ rfl
  rw [Nat.add_zero] at d0
  clear hb12 H10 V10 R10 b11 hl ho LS H11 V11 R11 RS SN V12 R12
  generalize hsb : w11.heap.size = sb at *
  go_wp2_with (first
    | ((with_reducible show wpList _ _ _ (⟨_, .alloc 54, _, _, _, _⟩ :: _) _ _); refine wpList_lay rfl _ rfl (lav Lc.zer) (fun _ => by kernel_rfl) ?_)
    | ((with_reducible show wpList _ _ _ (⟨none, .store _ (.tmp 9) _, _, _, _, _⟩ :: _) _ _); refine VB.store rfl _ _ rfl w11.heap.size (Value.bool true :: st) rfl rfl (VRow.new w11 (lav Lc.zer) 54) SS.out SL.out SO.out ?_; rw [hsb]; generalize (w11.alloc (.cells (lav Lc.zer).toArray 54)).setRow sb (Value.bool true :: st).toArray = w12 at *)
    | (go_at_call 19; refine (LH H12.out).mono ?_; rintro e w13 ⟨rfl, b13⟩; have H13 := Lib.hid (H12.out.on b13); have VS13 := Lib.hid (onB VS.out b13); clear b13)
    | (go_at_call 21; refine (LL H13.out).mono ?_; rintro e w14 ⟨rfl, b14⟩; have H14 := Lib.hid (H13.out.on b14); have VS14 := Lib.hid (onB VS13.out b14); clear b14)
    | (go_at_call 22; refine (LR H14.out).mono ?_; rintro e w15 ⟨rfl, b15⟩; have H15 := Lib.hid (H14.out.on b15); have VS15 := Lib.hid (onB VS14.out b15); have cs := VS15.out.cell 0 (v := .bool true) rfl; clear b15)
    | (go_at_call 18; refine (LC H15.out).mono ?_; rintro e w16 ⟨rfl, rfl⟩)
    | (go_at_call 20; refine (LO H15.out).mono ?_; rintro e w17 ⟨rfl, rfl⟩))
  go_ret
  exact ⟨rfl, H15.out.below⟩
end Fu
end Go.Proofs.YtpoededbmdffpaaGreatDoor
