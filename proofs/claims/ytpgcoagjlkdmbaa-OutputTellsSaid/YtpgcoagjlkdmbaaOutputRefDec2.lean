/-
  What Decode of rudderref19 tells, whatever the bytes are: a contract by walking the Go text. Conditions: how the bytes lie.
-/
import Derived.Test.YtpgcoagjlkdmbaaOutputRefDec
namespace Go.Proofs.Ytpgcoagjlkdmbaa
set_option maxRecDepth 100000
open Go.ChangeShapes Go.WideShapes Go.ChangeAt Go.RowKit Go.Deep
namespace Ot
open Ss (St str zer stv prs isw)
open Cr (Bytes opens opened)

set_option maxRecDepth 100000 in
set_option maxHeartbeats 6400000 in
theorem rdec_any (a : Option Addr) (cap : Nat) (l : List Int) (w : World) (hl : l.length ≤ 1000000) (hcap : l.length ≤ cap) (hy : Bytes l) (hb : IntsAt .u8 w a l) :
    Calls Try.prog 10 #[.slice a l.length cap] w (RetD w l) := by
  obtain ⟨b0, r0, v0⟩ := two_new w
  have B0 := Lib.hid b0
  have R0 := Lib.hid r0
  have V0 := Lib.hid v0
  have HB := Lib.hid (hb.below b0)
  have CO := fun W h => Cr.ropen_cap a cap l W hl hcap hy h
  clear b0 r0 v0 hb
  cases ho : opens l
  · rw [retD_no (iso_sum ho)]
    rw [ho, Cr.opened_no ho] at CO
    clear ho hy hcap
    generalize l.length = n at *
    go_enter Try.func10, Try.ntmps10
    go_wp2_with fail
    change Calls _ _ _ ((w.alloc (.cells (ouc zou).toArray 27)).alloc (.cells (ouc zou).toArray 27)) _
    generalize (w.alloc (.cells (ouc zou).toArray 27)).alloc (.cells (ouc zou).toArray 27) = W0 at *
    refine (CO _ HB.out).mono ?_; rintro e w1 ⟨a1, cap1, rfl, -, -, b1⟩
    have R1 := Lib.hid (VRow.below R0.out b1 R0.out.lt)
    have V1 := Lib.hid (VRow.below V0.out b1 V0.out.lt)
    have B1 := Lib.hid (grow B0.out b1)
    clear b1 CO
    go_wp2_with (first
      | ((with_reducible show wpList _ _ _ (⟨some 34, _, _, _, _, _⟩ :: _) _ _); refine VB.loaded rfl _ rfl (w.heap.size + 1) rfl V1.out Try.underlying27 rfl (sizeO ok_zou) ?_)
      | ((with_reducible show wpList _ _ _ (⟨none, .store _ (.tmp 2) _, _, _, _, _⟩ :: _) _ _); refine VB.store rfl _ _ rfl w.heap.size (ouc zou) rfl rfl R1.out (sizeO ok_zou) rfl (ouc_all _) ?_))
    refine bodyPost_ret (v := .tuple #[.agg (ouc zou).toArray, .int .i64 3]) ?_ rfl ⟨rfl, Below.put B1.out (Nat.le_refl _) _⟩
    exact (VB.ret2 (cs := ouc zou) rfl rfl (aggO _) (sizeO ok_zou) (R1.out.put (ouc zou))).trans rfl
  · rw [ho, Cr.opened_yes ho] at CO
    by_cases h52 : (l.take (l.length - 2)).length = 52
    · have h54 := take_len52 h52
      rw [h54, show 54 - 2 = 52 from rfl] at CO
      rw [h54]
      have hx52 : (l.take 52).length = 52 := by rw [List.length_take, h54]; rfl
      have H54 := Lib.hid h54
      have HO := Lib.hid ho
      have HXL := Lib.hid hx52
      have HYX := Lib.hid (hy.take 52)
      have H0 := Lib.hid (getD_take (l := l) (n := 52) (i := 0) (by omega))
      have H1 := Lib.hid (getD_take (l := l) (n := 52) (i := 1) (by omega))
      have hbyte := hy.getD 1
      clear ho hcap h52 h54 hx52 hl hy
      by_cases h90 : l.getD 0 0 = 90
      · exact rdec_main a cap l w H54.out h90 HO.out HXL.out HYX.out H0.out H1.out hbyte CO HB.out
      · rw [retD_no (iso_sync h90)]
        generalize l.getD 0 0 = x0 at *
        have dn : (x0 != 90) = true := by simpa using h90
        generalize l.take 52 = x at *
        go_enter Try.func10, Try.ntmps10
        go_wp2_with fail
        change Calls _ _ _ ((w.alloc (.cells (ouc zou).toArray 27)).alloc (.cells (ouc zou).toArray 27)) _
        generalize (w.alloc (.cells (ouc zou).toArray 27)).alloc (.cells (ouc zou).toArray 27) = W0 at *
        refine (CO _ HB.out).mono ?_; rintro e w1 ⟨a1, cap1, rfl, i1, m1, b1⟩
        obtain ⟨bb, oo, rfl⟩ := ints_some i1 (by rw [HXL.out]; omega)
        rw [HXL.out]
        have c0 : w1.cell? ⟨bb, oo, none⟩ = some (.int .u8 x0) := by
          rcases i1 with h | ⟨b', off', h1, hc⟩
          · have := HXL.out; rw [h] at this; simp at this
          · cases h1; have := hc 0 (by rw [HXL.out]; omega); rw [H0.out] at this; exact this
        have R1 := Lib.hid (VRow.below R0.out b1 R0.out.lt)
        have V1 := Lib.hid (VRow.below V0.out b1 V0.out.lt)
        have B1 := Lib.hid (grow B0.out b1)
        clear b1 CO i1 m1 h90
        go_wp2_with (first
          | ((with_reducible show wpList _ _ _ (⟨some 34, _, _, _, _, _⟩ :: _) _ _); refine VB.loaded rfl _ rfl (w.heap.size + 1) rfl V1.out Try.underlying27 rfl (sizeO ok_zou) ?_)
          | ((with_reducible show wpList _ _ _ (⟨none, .store _ (.tmp 2) _, _, _, _, _⟩ :: _) _ _); refine VB.store rfl _ _ rfl w.heap.size (ouc zou) rfl rfl R1.out (sizeO ok_zou) rfl (ouc_all _) ?_))
        refine bodyPost_ret (v := .tuple #[.agg (ouc zou).toArray, .int .i64 3]) ?_ rfl ⟨rfl, Below.put B1.out (Nat.le_refl _) _⟩
        exact (VB.ret2 (cs := ouc zou) rfl rfl (aggO _) (sizeO ok_zou) (R1.out.put (ouc zou))).trans rfl
    · have h2 : 2 ≤ l.length := ((Cr.opens_iff l).1 ho).1
      rw [retD_no (iso_len (fun h => h52 (by rw [List.length_take, h]; rfl)))]
      have hle : (l.take (l.length - 2)).length ≤ 1000000 := by rw [List.length_take]; omega
      clear ho hy hcap
      generalize l.take (l.length - 2) = x at *
      generalize l.length = n at *
      have d52 : ((x.length : Int) != 52) = true := by simp; omega
      go_enter Try.func10, Try.ntmps10
      go_wp2_with fail
      change Calls _ _ _ ((w.alloc (.cells (ouc zou).toArray 27)).alloc (.cells (ouc zou).toArray 27)) _
      generalize (w.alloc (.cells (ouc zou).toArray 27)).alloc (.cells (ouc zou).toArray 27) = W0 at *
      refine (CO _ HB.out).mono ?_; rintro e w1 ⟨a1, cap1, rfl, -, -, b1⟩
      have R1 := Lib.hid (VRow.below R0.out b1 R0.out.lt)
      have V1 := Lib.hid (VRow.below V0.out b1 V0.out.lt)
      have B1 := Lib.hid (grow B0.out b1)
      clear b1 CO h52
      go_wp2_with (first
        | ((with_reducible show wpList _ _ _ (⟨some 34, _, _, _, _, _⟩ :: _) _ _); refine VB.loaded rfl _ rfl (w.heap.size + 1) rfl V1.out Try.underlying27 rfl (sizeO ok_zou) ?_)
        | ((with_reducible show wpList _ _ _ (⟨none, .store _ (.tmp 2) _, _, _, _, _⟩ :: _) _ _); refine VB.store rfl _ _ rfl w.heap.size (ouc zou) rfl rfl R1.out (sizeO ok_zou) rfl (ouc_all _) ?_))
      refine bodyPost_ret (v := .tuple #[.agg (ouc zou).toArray, .int .i64 3]) ?_ rfl ⟨rfl, Below.put B1.out (Nat.le_refl _) _⟩
      exact (VB.ret2 (cs := ouc zou) rfl rfl (aggO _) (sizeO ok_zou) (R1.out.put (ouc zou))).trans rfl
end Ot
end Go.Proofs.Ytpgcoagjlkdmbaa
