/-
  What Decode of rudderref19 tells: a contract by walking the Go text. Conditions: how the bytes lie.
-/
import Derived.Test.YtpgcoagjlkdmbaaOutputDecode
import Derived.Test.YtpgcoagjlkdmbaaOutputRef
import Derived.Test.YtpgcoagjlkdmbaaStatusRefParse
namespace Go.Proofs.Ytpgcoagjlkdmbaa
set_option maxRecDepth 100000
open Go.ChangeShapes Go.WideShapes Go.ChangeAt Go.RowKit Go.Deep
namespace Ot
open Ss (St str zer stv prs isw)
open Wd (get2v get2b get4v get4b nums)
open Cr (Bytes opens opened)

/-- The values' bytes. -/
def yv (x : List Int) : List Int := (x.drop 4).take 32
/-- What has been put in, behind so many rounds. -/
def hlf (x : List Int) (i : Nat) : Ou := ⟨oq x, nums ((yv x).take (4 * i)) ++ List.replicate (8 - i) 0, sts x i ++ List.replicate (8 - i) zer⟩
theorem yv_len {x : List Int} (h : x.length = 52) : (yv x).length = 32 := by unfold yv; rw [List.length_take, List.length_drop]; omega
theorem nums_i {x : List Int} (h : x.length = 52) (i : Nat) (hi : i ≤ 8) : (nums ((yv x).take (4 * i))).length = i := Wd.nums_len i _ (by rw [List.length_take, yv_len h]; omega)
theorem hlf_ok {x : List Int} (h : x.length = 52) (i : Nat) (hi : i ≤ 8) : Ok (hlf x i) :=
  ⟨by show (nums ((yv x).take (4 * i)) ++ List.replicate (8 - i) 0).length = 8; rw [List.length_append, nums_i h i hi, List.length_replicate]; omega, by show (sts x i ++ List.replicate (8 - i) zer).length = 8; rw [List.length_append, sts_len, List.length_replicate]; omega⟩
theorem hlf_zero (x : List Int) : hlf x 0 = { zou with q := oq x } := by unfold hlf zou; simp [sts, Wd.nums]
theorem hlf_all {x : List Int} (h : x.length = 52) : hlf x 8 = parts x := by
  unfold hlf parts ov
  rw [List.take_of_length_le (by rw [yv_len h]; omega)]
  simp [yv]
def nv (x : List Int) (i : Nat) : Int := get4v ((x.drop (4 + 4 * i)).take 4)
theorem nv_eq {x : List Int} (i : Nat) (hi : i < 8) : nv x i = get4v (((yv x).drop (4 * i)).take 4) := by
  unfold nv yv
  rw [List.drop_take, List.take_take, List.drop_drop, show min 4 (32 - 4 * i) = 4 by omega]
theorem hlf_next {x : List Int} (h : x.length = 52) (i : Nat) (hi : i < 8) : ({ ({ hlf x i with v := (hlf x i).v.set i (nv x i) } : Ou) with s := (hlf x i).s.set i (prs (wd x i)) } : Ou) = hlf x (i + 1) := by
  unfold hlf
  simp only
  congr 1
  · rw [nv_eq i hi, Wd.nums_next _ _ (by rw [yv_len h]; omega), List.set_append_right _ _ (by rw [nums_i h i (by omega)]; exact Nat.le_refl _), nums_i h i (by omega), Nat.sub_self, show 8 - i = (8 - (i + 1)) + 1 by omega, List.replicate_succ, List.set_cons_zero, List.append_assoc]
    rfl
  · rw [sts_next, List.set_append_right _ _ (by rw [sts_len]; exact Nat.le_refl _), sts_len, Nat.sub_self, show 8 - i = (8 - (i + 1)) + 1 by omega, List.replicate_succ, List.set_cons_zero, List.append_assoc]
    rfl
theorem set_q (o : Ou) (x : Int) : (ouc o).set 0 (.int .i64 x) = ouc { o with q := x } := by unfold ouc; rfl
theorem take_len52 {l : List Int} (h : (l.take (l.length - 2)).length = 52) : l.length = 54 := by
  rw [List.length_take] at h; omega
theorem getD_take {l : List Int} {n i : Nat} (h : i < n) : (l.take n).getD i 0 = l.getD i 0 := by simp [List.getD_eq_getElem?_getD, List.getElem?_take_of_lt h]

/-- Both boxes: the result's, and the variable's. -/
theorem two_new (w : World) : let W := (w.alloc (.cells (ouc zou).toArray 27)).alloc (.cells (ouc zou).toArray 27)
    Below w.heap.size w W ∧ VRow W w.heap.size 27 (ouc zou) ∧ VRow W (w.heap.size + 1) 27 (ouc zou) := by
  have h := VRow.new (w.alloc (.cells (ouc zou).toArray 27)) (ouc zou) 27
  rw [World.size_alloc] at h
  exact ⟨((Below.refl w.heap.size w).alloc (Nat.le_refl _) _).alloc (by simp) _, (VRow.new w (ouc zou) 27).alloc _, h⟩

theorem ouc_kind {o : Ou} {v : Value} (h : v ∈ ouc o) : ∀ n, v ≠ .int .u8 n := by
  intro n e
  subst e
  unfold ouc at h
  rcases List.mem_cons.1 h with h | h
  · cases h
  · rcases List.mem_append.1 h with h | h
    · unfold cellsI at h
      obtain ⟨y, _, e⟩ := List.mem_map.1 h
      cases e
    · obtain ⟨s, _, h⟩ := List.mem_flatMap.1 h
      simp [str] at h
/-- Bytes lie in no output. -/
theorem apart {W : World} {b off g : Nat} {x : List Int} {t : TypeId} {o : Ou} (h : IntsAt .u8 W (some ⟨b, off, none⟩) x) (hl : 0 < x.length) (hr : VRow W g t (ouc o)) : b ≠ g := by
  rintro rfl
  rcases h with rfl | ⟨b', off', h1, hc⟩
  · simp at hl
  · cases h1
    have h2 := hc 0 hl
    rw [cell_of_row W b (off + 0) _ t (0, 0) hr] at h2
    have h3 : (ouc o)[off + 0]? = some (.int .u8 (x.getD 0 0)) := by simpa using h2
    exact ouc_kind (List.mem_of_getElem? h3) _ rfl
set_option maxRecDepth 100000 in
set_option maxHeartbeats 6400000 in
theorem rdec_main (a : Option Addr) (cap : Nat) (l : List Int) (w : World) (h54 : l.length = 54) (h90 : l.getD 0 0 = 90) (ho : opens l = true) (hxl : (l.take 52).length = 52) (hyx : Bytes (l.take 52)) (h0 : (l.take 52).getD 0 0 = l.getD 0 0) (h1 : (l.take 52).getD 1 0 = l.getD 1 0) (hbyte : 0 ≤ l.getD 1 0 ∧ l.getD 1 0 < 256)
    (CO : ∀ W, IntsAt .u8 W a l → Calls Try.prog 27 #[.slice a 54 cap] W (Cr.RetIBC .u8 W (l.take 52) true)) (hb : IntsAt .u8 ((w.alloc (.cells (ouc zou).toArray 27)).alloc (.cells (ouc zou).toArray 27)) a l) :
    Calls Try.prog 10 #[.slice a 54 cap] w (RetD w l) := by
  obtain ⟨b0, r0, v0⟩ := two_new w
  have B0 := Lib.hid b0
  have R0 := Lib.hid r0
  have V0 := Lib.hid v0
  have HB := Lib.hid hb
  have H54 := Lib.hid h54
  have HO := Lib.hid ho
  have HXL := Lib.hid hxl
  have HYX := Lib.hid hyx
  have H0 := Lib.hid h0
  have H1 := Lib.hid h1
  clear b0 r0 v0 hb h54 ho hxl hyx h0 h1
  rw [h90] at H0
  have HYES := Lib.hid (fun (hw : woks (l.take 52) 8 = true) (h : (fl (parts (l.take 52)).s : Int) = l.getD 1 0) => (iso_iff l).2 ⟨H54.out, h90, HO.out, hw, h⟩)
  have HNO := Lib.hid (fun (h : (fl (parts (l.take 52)).s : Int) ≠ l.getD 1 0) => iso_fail h)
  have HNW := Lib.hid (fun h => iso_words (l := l) h)
  have HRD := Lib.hid (fun h => retD_yes (w := w) (l := l) h)
  have HRN := Lib.hid (fun h => retD_no (w := w) (l := l) h)
  clear h90 H54 HO
  obtain ⟨x, hx⟩ : ∃ x, l.take 52 = x := ⟨_, rfl⟩
  rw [hx] at CO HXL HYX H0 H1 HYES HNO HNW HRD
  obtain ⟨y1, hy1⟩ : ∃ y1, l.getD 1 0 = y1 := ⟨_, rfl⟩
  rw [hy1] at H1 HYES HNO hbyte
  obtain ⟨PD, hPD⟩ : ∃ PD, RetD w l = PD := ⟨_, rfl⟩
  rw [hPD] at HRD HRN ⊢
  obtain ⟨IS, hIS⟩ : ∃ IS, iso l = IS := ⟨_, rfl⟩
  rw [hIS] at HYES HNO HNW HRD HRN
  clear hx hy1 hPD hIS
  go_enter Try.func10, Try.ntmps10
  go_wp2_with fail
  change Calls _ _ _ ((w.alloc (.cells (ouc zou).toArray 27)).alloc (.cells (ouc zou).toArray 27)) _
  generalize (w.alloc (.cells (ouc zou).toArray 27)).alloc (.cells (ouc zou).toArray 27) = W0 at *
  refine (CO _ HB.out).mono ?_; rintro e w1 ⟨a1, cap1, rfl, i1, m1, b1⟩
  obtain ⟨bb, oo, rfl⟩ := ints_some i1 (by rw [HXL.out]; omega)
  rw [HXL.out] at m1 ⊢
  have c0 : w1.cell? ⟨bb, oo, none⟩ = some (.int .u8 90) := by
    rcases i1 with h | ⟨b', off', h1, hc⟩
    · have := HXL.out; rw [h] at this; simp at this
    · cases h1; have := hc 0 (by rw [HXL.out]; omega); rw [H0.out] at this; exact this
  have R1 := Lib.hid (VRow.below R0.out b1 R0.out.lt)
  have V1 := Lib.hid (VRow.below V0.out b1 V0.out.lt)
  have B1 := Lib.hid (grow B0.out b1)
  have I1 := Lib.hid i1
  clear b1 CO i1 B0 R0 V0 HB
  have l2 : ((x.drop 2).take 2).length = 2 := by rw [List.length_take, List.length_drop, HXL.out]; rfl
  have hbb := V1.out.lt
  have C2 := Wr.rget2_any (some ⟨bb, oo + 2, none⟩) (cap1 - 2) ((x.drop 2).take 2) w1 (by omega) ((HYX.out.drop _).take _) (by
    rcases I1.out with h | ⟨b', off', h1, hc⟩
    · have := HXL.out; rw [h] at this; simp at this
    · cases h1; exact (intsAt_drop 2 hc).take 2)
  rw [l2, show get2v ((x.drop 2).take 2) = oq x from rfl] at C2
  generalize get2b ((x.drop 2).take 2) = gb at *
  clear l2
  go_wp2_with fail
  refine C2.mono ?_; rintro e w2 ⟨rfl, b2⟩
  have R2 := Lib.hid (VRow.below R1.out b2 R1.out.lt)
  have V2 := Lib.hid (VRow.below V1.out b2 V1.out.lt)
  have B2 := Lib.hid (grow B1.out b2)
  have I2 := Lib.hid (I1.out.below b2)
  have e0 := V2.out.cell 0 (v := .int .i64 0) rfl
  have f0 := V2.out.frozen 0
  clear b2 C2 R1 V1 B1 I1 c0
  go_wp2_with fail
  have V3 := Lib.hid (show VRow (w2.setCell ⟨w.heap.size + 1, 0, none⟩ (.int .i64 (oq x))) (w.heap.size + 1) 27 (ouc (hlf x 0)) by have := V2.out.set 0 (.int .i64 (oq x)); rw [set_q] at this; rw [hlf_zero]; exact this)
  have hb1 := apart I2.out (by rw [HXL.out]; omega) V2.out
  have hb2 := apart I2.out (by rw [HXL.out]; omega) R2.out
  have bt : But (· = w.heap.size + 1) w2 (w2.setCell ⟨w.heap.size + 1, 0, none⟩ (.int .i64 (oq x))) := But.setCell (p := ⟨w.heap.size + 1, 0, none⟩) (But.refl (· = w.heap.size + 1) w2) (Or.inl rfl) _
  have R3 := Lib.hid (VRow.but R2.out bt (fun (e : w.heap.size = w.heap.size + 1) => by omega))
  have I3 := Lib.hid (I2.out.but bt (fun ad e (q : ad.block = w.heap.size + 1) => by cases e; exact hb1 q))
  have B3 := Lib.hid (But.below B2.out bt B2.out.size (fun i (e : i = w.heap.size + 1) => by omega))
  have HB1 := Lib.hid hb1
  clear bt hb1 hb2 R2 V2 B2 I2 e0 f0 hbb
  generalize w2.setCell ⟨w.heap.size + 1, 0, none⟩ (.int .i64 (oq x)) = w3 at *
  go_loopg [9] 8 (fun gg s9 wr => ∃ i : Nat, i + gg = 8 ∧ s9 = .int .i64 i ∧ Hid (woks x i = true) ∧ Hid (VRow wr (w.heap.size + 1) 27 (ouc (hlf x i)) ∧ VRow wr w.heap.size 27 (ouc zou)) ∧ Hid (IntsAt .u8 wr (some ⟨bb, oo, none⟩) x ∧ Below w.heap.size w wr))
  case atStart => exact ⟨0, by omega, rfl, Lib.hid rfl, Lib.hid ⟨V3.out, R3.out⟩, Lib.hid ⟨I3.out, B3.out⟩⟩
  case round =>
    clear V3 R3 I3 B3
    obtain ⟨i, hi, rfl, HW, HVR, HIB⟩ := hrel
    by_cases hlt : i < 8
    · have hii : (i : Int) < 8 := by omega
      have cut : ∀ {W : World} (_ : IntsAt .u8 W (some ⟨bb, oo, none⟩) x) (k n : Nat), IntsAt .u8 W (some ⟨bb, oo + k, none⟩) ((x.drop k).take n) := fun {W} h k n => by
        rcases h with h | ⟨b', off', h1, hc⟩
        · have := HXL.out; rw [h] at this; simp at this
        · cases h1; exact (intsAt_drop k hc).take n
      have l4 : ((x.drop (4 + 4 * i)).take 4).length = 4 := by rw [List.length_take, List.length_drop, HXL.out]; omega
      have l2 : ((x.drop (36 + 2 * i)).take 2).length = 2 := by rw [List.length_take, List.length_drop, HXL.out]; omega
      have C4 := Wr.rget4_any (some ⟨bb, oo + (4 + 4 * i), none⟩) (cap1 - (4 + 4 * i)) ((x.drop (4 + 4 * i)).take 4) wr (by omega) ((HYX.out.drop _).take _) (cut HIB.out.1 _ _)
      have C2 := Wr.rget2_any (some ⟨bb, oo + (36 + 2 * i), none⟩) (cap1 - (36 + 2 * i)) ((x.drop (36 + 2 * i)).take 2) wr (by omega) ((HYX.out.drop _).take _) (cut HIB.out.1 _ _)
      rw [l4, show get4v ((x.drop (4 + 4 * i)).take 4) = nv x i from rfl] at C4
      rw [l2, show get2v ((x.drop (36 + 2 * i)).take 2) = wd x i from rfl] at C2
      have CP := fun W => Ss.rparse_any (wd x i) W
      have HWN := Lib.hid (woks_next x i)
      have HNX := Lib.hid (hlf_next HXL.out i hlt)
      have HKH := Lib.hid (hlf_ok HXL.out i (by omega))
      have HNO := Lib.hid (fun h => woks_no (x := x) (n := 8) (i := i) h hlt)
      have hbw := cell_lt ((HVR.out.1).cell 0 (v := .int .i64 (oq x)) rfl)
      clear cut l4 l2
      generalize get4b ((x.drop (4 + 4 * i)).take 4) = gb4 at *
      generalize get2b ((x.drop (36 + 2 * i)).take 2) = gb2 at *
      generalize nv x i = n4 at *
      go_wp2_with fail
      rw [show 8 + 4 * i - (4 + 4 * i) = 4 by omega]
      refine C4.mono ?_; rintro e w4 ⟨rfl, rfl⟩
      go_wp2_with fail
      rw [show 38 + 2 * i - (36 + 2 * i) = 2 by omega]
      refine C2.mono ?_; rintro e w5 ⟨rfl, b5⟩
      go_wp2_with fail
      cases hw : isw (wd x i)
      · have CP5 := CP w5
        rw [Ss.retP_no hw] at CP5
        have HF := Lib.hid (HRN.out (HNW.out (HNO.out hw)))
        clear hw CP
        generalize wd x i = wv at *
        unfold stv at CP5
        change Calls _ _ _ _ fun e w' => e = .returned (.tuple #[.agg (str zer).toArray, .int .i64 3]) ∧ _ at CP5
        refine CP5.mono ?_; rintro e w6 ⟨rfl, b6⟩
        have R6 := Lib.hid (VRow.below (VRow.below HVR.out.2 b5 HVR.out.2.lt) b6 (VRow.below HVR.out.2 b5 HVR.out.2.lt).lt)
        have B6 := Lib.hid (grow (grow HIB.out.2 b5) b6)
        have RN := Lib.hid (VRow.new w6 (str zer) 24)
        have Q := Lib.hid (lay_st w6 zer)
        have R7 := Lib.hid (row_grown R6.out Q.out.1)
        have B7 := Lib.hid (below_grown B6.out Q.out.1 B6.out.size)
        clear b5 b6 CP5 C2 C4 HVR HIB R6 B6
        go_wp2_with (first
          | ((with_reducible show wpList _ _ _ (⟨none, .store _ (.tmp 14) _, _, _, _, _⟩ :: _) _ _); refine VB.store rfl _ _ rfl w6.heap.size (str zer) rfl rfl RN.out Ss.sizeS rfl (Ss.str_one zer) ?_; generalize (w6.alloc (.cells #[.int .i64 0, .int .i64 0, .int .i64 0, .bool false] 24)).setRow w6.heap.size (str zer).toArray = w7 at *)
          | ((with_reducible show wpList _ _ _ (⟨some 78, _, _, _, _, _⟩ :: _) _ _); refine wpList_buildTo rfl _ _ rfl (ouc zou).toArray (by kernel_rfl) ?_)
          | ((with_reducible show wpList _ _ _ (⟨none, .store _ (.tmp 2) _, _, _, _, _⟩ :: _) _ _); refine VB.store rfl _ _ rfl w.heap.size (ouc zou) rfl rfl R7.out (sizeO ok_zou) rfl (ouc_all _) ?_))
        refine bodyPost_ret (v := .tuple #[.agg (ouc zou).toArray, .int .i64 3]) ?_ rfl ?_
        · exact (VB.ret2 (cs := ouc zou) rfl rfl (aggO _) (sizeO ok_zou) (R7.out.put (ouc zou))).trans rfl
        · rw [HF.out]
          exact ⟨rfl, Below.put B7.out (Nat.le_refl _) _⟩
      · have CP5 := CP w5
        unfold Ss.RetP at CP5
        rw [show Ss.pre (wd x i) = 0 by unfold Ss.pre; rw [hw]; rfl] at CP5
        have HWT := Lib.hid hw
        clear hw CP HNO
        generalize wd x i = wv at *
        generalize prs wv = s at *
        unfold stv at CP5
        change Calls _ _ _ _ fun e w' => e = .returned (.tuple #[.agg (str s).toArray, .int .i64 0]) ∧ _ at CP5
        refine CP5.mono ?_; rintro e w6 ⟨rfl, b6⟩
        have b56 := grow b5 b6
        have R6 := Lib.hid (VRow.below HVR.out.2 b56 HVR.out.2.lt)
        have V6 := Lib.hid (VRow.below HVR.out.1 b56 HVR.out.1.lt)
        have I6 := Lib.hid (HIB.out.1.below b56)
        have B6 := Lib.hid (grow HIB.out.2 b56)
        have RN := Lib.hid (VRow.new w6 (str zer) 24)
        have Q := Lib.hid (lay_st w6 s)
        have hg1 : w.heap.size + 1 < w6.heap.size := V6.out.lt
        have R7 := Lib.hid (row_grown R6.out Q.out.1)
        have V7 := Lib.hid (row_grown V6.out Q.out.1)
        have I7 := Lib.hid (I6.out.below (below_grown (Below.refl _ w6) Q.out.1 (Nat.le_refl _)))
        have B7 := Lib.hid (below_grown B6.out Q.out.1 B6.out.size)
        have ev := V7.out.cell (1 + i) (ouc_v HKH.out i hlt)
        have fv := V7.out.frozen (1 + i)
        clear b5 b6 b56 CP5 C2 C4 HVR HIB R6 V6 I6 B6
        have bt : ∀ W : World, But (· = w.heap.size + 1) W (W.setCell ⟨w.heap.size + 1, 1 + i, none⟩ (.int .i64 n4)) := fun W => But.setCell (p := ⟨w.heap.size + 1, 1 + i, none⟩) (But.refl (· = w.heap.size + 1) W) (Or.inl rfl) _
        have V8 := Lib.hid (V7.out.set (1 + i) (.int .i64 n4))
        have S8 := Lib.hid (VRow.setOther Q.out.2 (p := ⟨w.heap.size + 1, 1 + i, none⟩) (show w6.heap.size ≠ w.heap.size + 1 by omega) (.int .i64 n4))
        rw [set_v HKH.out i hlt] at V8
        have KH8 := Lib.hid (HKH.out.sv i n4)
        have BT := Lib.hid bt
        clear bt
        go_wp2_with (first
          | ((with_reducible show wpList _ _ _ (⟨none, .store _ (.tmp 14) _, _, _, _, _⟩ :: _) _ _); refine VB.store rfl _ _ rfl w6.heap.size (str s) rfl rfl RN.out Ss.sizeS rfl (Ss.str_one s) ?_; generalize (w6.alloc (.cells #[.int .i64 0, .int .i64 0, .int .i64 0, .bool false] 24)).setRow w6.heap.size (str s).toArray = w7 at *)
          | ((with_reducible show wpList _ _ _ (⟨some 84, _, _, _, _, _⟩ :: _) _ _); refine VB.loaded rfl _ rfl w6.heap.size rfl S8.out Try.underlying24 rfl Ss.sizeS ?_)
          | ((with_reducible show wpList _ _ _ (⟨none, .store _ (.tmp 86) _, _, _, _, _⟩ :: _) _ _); refine wpList_store_mid rfl _ _ _ rfl (w.heap.size + 1) (9 + i * 4) (str s).toArray rfl rfl (there_st V8.out KH8.out i hlt) Ss.sizeS (Ss.str_one s) ?_))
        have V9 := Lib.hid (VRow.setCells (str s) (9 + i * 4) _ _ V8.out (by rw [ouc_len KH8.out, str_len]; omega))
        rw [set_s KH8.out i hlt, HNX.out] at V9
        have b9 := Lib.hid (but_setCells (BT.out w7) (Or.inl rfl) (9 + i * 4) (str s))
        go_roundg (gk - 1)
        case rel => exact ⟨i + 1, by omega, by go_num, Lib.hid (by rw [HWN.out, HW.out, HWT.out]; rfl), Lib.hid ⟨V9.out, VRow.but R7.out b9.out (fun (e : w.heap.size = w.heap.size + 1) => by omega)⟩, Lib.hid ⟨I7.out.but b9.out (fun ad e (q : ad.block = w.heap.size + 1) => by cases e; exact HB1.out q), But.below B7.out b9.out B7.out.size (fun k (e : k = w.heap.size + 1) => by omega)⟩⟩
        case measure => omega
    · obtain rfl : i = 8 := by omega
      rw [hlf_all HXL.out] at HVR
      have KP := Lib.hid (parts_ok HXL.out)
      have CFL := fun W => rfailed_any KP.out W
      have hfl : fl (parts x).s ≤ 8 := by have := fl_le (parts x).s; rw [KP.out.s] at this; exact this
      have NK := Lib.hid (sizeO KP.out)
      have H41 := Lib.hid (show (ouc zou).length = (ouc (parts x)).length by rw [ouc_len ok_zou, ouc_len KP.out])
      have HALL := Lib.hid (ouc_all (parts x))
      have HYS := Lib.hid (HYES.out HW.out)
      clear HYES HNW HW
      generalize fl (parts x).s = fn at *
      generalize parts x = px at *
      have k1 : wr.cell? ⟨bb, oo + 1, none⟩ = some (.int .u8 y1) := by
        rcases HIB.out.1 with h | ⟨b', off', h1, hc⟩
        · have := HXL.out; rw [h] at this; simp at this
        · cases h1; have := hc 1 (by rw [HXL.out]; omega); rw [H1.out] at this; exact this
      have k2 := cell_regrown k1
      have cF := reg_call (w := wr) (fun W _ => CFL W)
      have HRG := Lib.hid (show ∀ W', (∃ p : Regrown, W' = Sort.grow (redrawn wr p.d) p.os) → W'.rangeAt (w.heap.size + 1) 0 (ouc px) from by rintro W' ⟨p, rfl⟩; exact row_range (HVR.out.1.below (below_regrown wr p.d p.os) HVR.out.1.lt))
      have wy : IntKind.i64.wrap y1 = y1 := IntWalk.i64_in _ (by omega)
      clear k1 CFL
      by_cases hf : (fn : Int) = y1
      · have HF := Lib.hid (HRD.out (HYS.out hf))
        have hf' : (y1 != (fn : Int)) = false := by simp [hf]
        clear hf
        go_wp2_with fail
        refine wp_region_quiet_below (by kernel_rfl) (by kernel_rfl) ?_
        repeat (first
          | (with_reducible show wpQuiet _ _ _ _ (⟨some 91, _, _, _, _, _⟩ :: _) _
             refine wpQuiet_loadR rfl _ rfl (w.heap.size + 1) 0 (ouc px) rfl HRG.out _ Try.underlying27 rfl NK.out ?_
             simp only [Act.put, List.setIfInBounds_toArray, List.set_cons_succ, List.set_cons_zero])
          | go_big_quiet_step (exact cF _ _))
        refine wpQuiet_nil ?_
        intro _ hw'
        obtain ⟨⟨dq, osq⟩, hw''⟩ := hw'
        subst hw''
        have R4 := Lib.hid (VRow.below HVR.out.2 (below_regrown wr dq osq) HVR.out.2.lt)
        have N4 := Lib.hid (VRow.below HVR.out.1 (below_regrown wr dq osq) HVR.out.1.lt)
        have B4 := Lib.hid (grow HIB.out.2 (below_regrown wr dq osq))
        show Exit.then _ _ .normal _ (Sort.grow (redrawn wr dq) osq)
        generalize Sort.grow (redrawn wr dq) osq = W4 at *
        clear k2 cF HRG wy
        go_wp2_with (first
          | ((with_reducible show wpList _ _ _ (⟨some 95, _, _, _, _, _⟩ :: _) _ _); refine VB.loaded rfl _ rfl (w.heap.size + 1) rfl N4.out Try.underlying27 rfl NK.out ?_)
          | ((with_reducible show wpList _ _ _ (⟨none, .store _ (.tmp 2) _, _, _, _, _⟩ :: _) _ _); refine VB.store rfl _ _ rfl w.heap.size (ouc px) rfl rfl R4.out NK.out H41.out HALL.out ?_))
        refine bodyPost_ret (v := .tuple #[.agg (ouc px).toArray, .int .i64 0]) ?_ rfl ?_
        · exact (VB.ret2 (cs := ouc px) rfl rfl (aggO _) NK.out (R4.out.put (ouc px))).trans rfl
        · rw [HF.out]
          exact ⟨rfl, Below.put B4.out (Nat.le_refl _) _⟩
      · have HF := Lib.hid (HRN.out (HNO.out hf))
        have hf' : (y1 != (fn : Int)) = true := by simp; exact fun h => hf h.symm
        clear hf
        go_wp2_with fail
        refine wp_region_quiet_below (by kernel_rfl) (by kernel_rfl) ?_
        repeat (first
          | (with_reducible show wpQuiet _ _ _ _ (⟨some 91, _, _, _, _, _⟩ :: _) _
             refine wpQuiet_loadR rfl _ rfl (w.heap.size + 1) 0 (ouc px) rfl HRG.out _ Try.underlying27 rfl NK.out ?_
             simp only [Act.put, List.setIfInBounds_toArray, List.set_cons_succ, List.set_cons_zero])
          | go_big_quiet_step (exact cF _ _))
        refine wpQuiet_nil ?_
        intro _ hw'
        obtain ⟨⟨dq, osq⟩, hw''⟩ := hw'
        subst hw''
        have R4 := Lib.hid (VRow.below HVR.out.2 (below_regrown wr dq osq) HVR.out.2.lt)
        have B4 := Lib.hid (grow HIB.out.2 (below_regrown wr dq osq))
        show Exit.then _ _ .normal _ (Sort.grow (redrawn wr dq) osq)
        generalize Sort.grow (redrawn wr dq) osq = W4 at *
        clear k2 cF HRG wy
        go_wp2_with (first
          | ((with_reducible show wpList _ _ _ (⟨some 94, _, _, _, _, _⟩ :: _) _ _); refine wpList_buildTo rfl _ _ rfl (ouc zou).toArray (by kernel_rfl) ?_)
          | ((with_reducible show wpList _ _ _ (⟨none, .store _ (.tmp 2) _, _, _, _, _⟩ :: _) _ _); refine VB.store rfl _ _ rfl w.heap.size (ouc zou) rfl rfl R4.out (sizeO ok_zou) rfl (ouc_all _) ?_))
        refine bodyPost_ret (v := .tuple #[.agg (ouc zou).toArray, .int .i64 3]) ?_ rfl ?_
        · exact (VB.ret2 (cs := ouc zou) rfl rfl (aggO _) (sizeO ok_zou) (R4.out.put (ouc zou))).trans rfl
        · rw [HF.out]
          exact ⟨rfl, Below.put B4.out (Nat.le_refl _) _⟩
end Ot
end Go.Proofs.Ytpgcoagjlkdmbaa
