/-
  The output that the law's live question asks after: the contract of its maker, by walking the Go text. No conditions.
  The law's live question for layer 19: the program answers it as it must. Contracts by walking the Go text. No conditions.
-/
import Derived.Test.YtpgcoagjlkdmbaaOutputRefDec
import Derived.Test.YtpgcoagjlkdmbaaOutputEq
import Derived.Test.YtpgcoagjlkdmbaaJOutputRefEnc2
import Derived.Test.YtpgcoagjlkdmbaaOutputEncode
import Derived.Test.YtpgcoagjlkdmbaaOutputDecode
import Derived.Test.YtpgcoagjlkdmbaaOutputReads
import Derived.Test.YtpgcoagjlkdmbaaOutputRight
namespace Go.Proofs.Ytpgcoagjlkdmbaa
set_option maxRecDepth 100000
open Go.ChangeShapes Go.WideShapes Go.ChangeAt Go.RowKit Go.Deep
namespace Ot
open Ss (St str zer stv)
open Cr (Bytes)

/-- The first i channels of it laid. -/
def smf (i : Nat) : Ou := ⟨515, (List.range 8).map fun j => if j < i then (j : Int) - 4 else 0, (List.range 8).map fun j => if j < i then ⟨7 - (j : Int), 0, -1, (j : Int) == 7⟩ else zer⟩
theorem smf_ok (i : Nat) : Ok (smf i) := ⟨by simp [smf], by simp [smf]⟩
theorem smf_next (i : Nat) (h : i < 8) : ({ ({ smf i with v := (smf i).v.set i ((i : Int) - 4) } : Ou) with s := (smf i).s.set i ⟨7 - (i : Int), 0, -1, (i : Int) == 7⟩ } : Ou) = smf (i + 1) := by
  have : i = 0 ∨ i = 1 ∨ i = 2 ∨ i = 3 ∨ i = 4 ∨ i = 5 ∨ i = 6 ∨ i = 7 := by omega
  rcases this with rfl | rfl | rfl | rfl | rfl | rfl | rfl | rfl <;> rfl
theorem smf_one (i : Nat) : (str ⟨7 - (i : Int), 0, -1, (i : Int) == 7⟩) = [.int .i64 (7 - (i : Int)), .int .i64 0, .int .i64 (-1), .bool ((i : Int) == 7)] := rfl

set_option maxRecDepth 100000 in
set_option maxHeartbeats 3200000 in
theorem some_any (w : World) : Calls Try.prog 15 #[] w fun e w' => e = .returned (.agg (ouc (smf 8)).toArray) ∧ Below w.heap.size w w' := by
  obtain ⟨b0, r0, v0⟩ := two_new w
  have B0 := Lib.hid b0
  have R0 := Lib.hid r0
  have V0 := Lib.hid v0
  have KZ := Lib.hid (smf_ok 0)
  clear b0 r0 v0
  go_enter Try.func15, Try.ntmps15
  go_wp2_with (first
    | ((with_reducible show wpList _ _ _ (⟨some 3, _, _, _, _, _⟩ :: _) _ _); refine wpList_buildTo rfl _ _ rfl (ouc (smf 0)).toArray (by kernel_rfl) ?_)
    | ((with_reducible show wpList _ _ _ (⟨none, .store _ (.tmp 1) _, _, _, _, _⟩ :: _) _ _); change wpList _ _ _ _ _ ((w.alloc (.cells (ouc zou).toArray 27)).alloc (.cells (ouc zou).toArray 27)); refine VB.store rfl _ _ rfl (w.heap.size + 1) (ouc (smf 0)) (by first | rfl | simp) rfl V0.out (sizeO (smf_ok 0)) rfl (ouc_all _) ?_))
  have V1 := Lib.hid (V0.out.put (ouc (smf 0)))
  have R1 := Lib.hid (R0.out.putOther (show w.heap.size ≠ w.heap.size + 1 by omega) (ouc (smf 0)).toArray)
  have B1 := Lib.hid (Below.put B0.out (by omega : w.heap.size ≤ w.heap.size + 1) (ouc (smf 0)).toArray)
  generalize ((w.alloc (.cells (ouc zou).toArray 27)).alloc (.cells (ouc zou).toArray 27)).setRow (w.heap.size + 1) (ouc (smf 0)).toArray = W1 at *
  clear V0 R0 B0
  go_loopg [2] 8 (fun gg s2 wr => ∃ i : Nat, i + gg = 8 ∧ s2 = .int .i64 i ∧ Hid (VRow wr (w.heap.size + 1) 27 (ouc (smf i)) ∧ VRow wr w.heap.size 27 (ouc zou)) ∧ Hid (Below w.heap.size w wr))
  case atStart => exact ⟨0, by omega, rfl, Lib.hid ⟨V1.out, R1.out⟩, Lib.hid B1.out⟩
  case round =>
    clear V1 R1 B1
    obtain ⟨i, hi, rfl, HV, HB⟩ := hrel
    by_cases hlt : i < 8
    · have hii : (i : Int) < 8 := by omega
      have HNX := Lib.hid (smf_next i hlt)
      have ev := HV.out.1.cell (1 + i) (ouc_v (smf_ok i) i hlt)
      have fv := HV.out.1.frozen (1 + i)
      have bt : But (· = w.heap.size + 1) wr (wr.setCell ⟨w.heap.size + 1, 1 + i, none⟩ (.int .i64 ((i : Int) - 4))) := But.setCell (p := ⟨w.heap.size + 1, 1 + i, none⟩) (But.refl (· = w.heap.size + 1) wr) (Or.inl rfl) _
      have V8 := Lib.hid (HV.out.1.set (1 + i) (.int .i64 ((i : Int) - 4)))
      rw [set_v (smf_ok i) i hlt] at V8
      have KH8 := Lib.hid ((smf_ok i).sv i ((i : Int) - 4))
      have BT := Lib.hid bt
      clear bt
      go_wp2_with (first
        | ((with_reducible show wpList _ _ _ (⟨none, .store _ (.tmp 20) _, _, _, _, _⟩ :: _) _ _); refine wpList_store_mid rfl _ _ _ rfl (w.heap.size + 1) (9 + i * 4) (str ⟨7 - (i : Int), 0, -1, (i : Int) == 7⟩).toArray rfl rfl (there_st V8.out KH8.out i hlt) Ss.sizeS (Ss.str_one _) ?_))
      have V9 := Lib.hid (VRow.setCells (str ⟨7 - (i : Int), 0, -1, (i : Int) == 7⟩) (9 + i * 4) _ _ V8.out (by rw [ouc_len KH8.out, str_len]; omega))
      rw [set_s KH8.out i hlt, HNX.out] at V9
      have b9 := Lib.hid (but_setCells BT.out (Or.inl rfl) (9 + i * 4) (str ⟨7 - (i : Int), 0, -1, (i : Int) == 7⟩))
      go_roundg (gk - 1)
      case rel => exact ⟨i + 1, by omega, by go_num, Lib.hid ⟨V9.out, VRow.but HV.out.2 b9.out (fun (e : w.heap.size = w.heap.size + 1) => by omega)⟩, Lib.hid (But.below HB.out b9.out HB.out.size (fun k (e : k = w.heap.size + 1) => by omega))⟩
      case measure => omega
    · obtain rfl : i = 8 := by omega
      have R4 := Lib.hid HV.out.2
      go_wp2_with (first
        | ((with_reducible show wpList _ _ _ (⟨some 21, _, _, _, _, _⟩ :: _) _ _); refine VB.loaded rfl _ rfl (w.heap.size + 1) rfl HV.out.1 Try.underlying27 rfl (sizeO (smf_ok 8)) ?_)
        | ((with_reducible show wpList _ _ _ (⟨none, .store _ (.tmp 0) _, _, _, _, _⟩ :: _) _ _); refine VB.store rfl _ _ rfl w.heap.size (ouc (smf 8)) rfl rfl R4.out (sizeO (smf_ok 8)) rfl (ouc_all _) ?_))
      refine bodyPost_ret (v := .agg (ouc (smf 8)).toArray) ?_ rfl ⟨rfl, Below.put HB.out (Nat.le_refl _) _⟩
      exact (VB.ret1 (cs := ouc (smf 8)) rfl rfl (aggO _) (sizeO (smf_ok 8)) (R4.out.put (ouc (smf 8)))).trans rfl
end Ot
end Go.Proofs.Ytpgcoagjlkdmbaa

namespace Go.Proofs.Ytpgcoagjlkdmbaa
set_option maxRecDepth 100000
open Go.ChangeShapes Go.WideShapes Go.ChangeAt Go.RowKit Go.Deep
namespace Ot
open Ss (St str zer stv)
open Cr (Bytes)

theorem enc_any {o : Ou} (k : Ok o) (w : World) : Calls Try.prog 6 #[.agg (ouc o).toArray] w (RetCE w (enc o) (encE o)) := by
  cases h : orgt o
  · exact enc_no_any k w h
  · exact enc_yes_any k w h
theorem loadedW {P : Program} {ops : Array Oper} {rest : List Oper} {o : Oper} {a : Act} {w : World} {Q : Exit → Act → World → Prop} {t tt : TypeId} {cs : List Value} (hw : Region.wanted o (yielded ops a.tmps) = true) (x : Operand) (ho : o.op = .load t x)
    (g : Nat) (hx : a.eval x = .pointer (some ⟨g, 0, none⟩)) (hr : VRow w g tt cs) {d : TypeDesc} (hu : P.underlying t = some d) (hd : (match d with | .struct _ | .array _ _ => true | _ => false) = true) (hi : (P.info? t).map (·.size) = some cs.length)
    (h : wpList P ops Q rest (a.put o.dst (.agg cs.toArray)) w) : wpList P ops Q (o :: rest) a w := by
  unfold wpList
  rw [if_pos hw]
  exact .inl (wp_load_row t x ho g hx tt cs.toArray (0, 0) d hr hu hd (by simpa using hi) h)
theorem intsAt_some {k : IntKind} {w : World} {a : Option Addr} {l : List Int} (h : IntsAt k w a l) (hp : 0 < l.length) : ∃ b off, a = some ⟨b, off, none⟩ ∧ IntsAt k w (some ⟨b, off, none⟩) l := by
  rcases h with rfl | ⟨b, off, rfl, hc⟩
  · simp at hp
  · exact ⟨b, off, rfl, Or.inr ⟨b, off, rfl, hc⟩⟩
theorem ints_cell {k : IntKind} {w : World} {b off : Nat} {l : List Int} (h : IntsAt k w (some ⟨b, off, none⟩) l) (i : Nat) (hi : i < l.length) : w.cell? ⟨b, off + i, none⟩ = some (.int k (l.getD i 0)) := by
  rcases h with rfl | ⟨b', off', he, hc⟩
  · simp at hi
  · cases he; exact hc i hi
theorem lay_out (o : Ou) (w : World) : Below w.heap.size w ((w.alloc (.cells (ouc zou).toArray 27)).setRow w.heap.size (ouc o).toArray) ∧ VRow ((w.alloc (.cells (ouc zou).toArray 27)).setRow w.heap.size (ouc o).toArray) w.heap.size 27 (ouc o) :=
  ⟨Below.put ((Below.refl _ w).alloc (Nat.le_refl _) _) (Nat.le_refl _) _, (VRow.new w (ouc zou) _).put (ouc o)⟩

set_option maxRecDepth 100000 in
set_option maxHeartbeats 3200000 in
theorem alive_any (w : World) : Calls Try.prog 5 #[] w fun e w' => e = .returned (.bool true) ∧ Below w.heap.size w w' := by
  have k := smf_ok 8
  have hr : orgt (smf 8) = true := by decide +kernel
  have hz : orgt zou = false := by decide +kernel
  have hlen := enc_len hr k
  have hfl : (fl (smf 8).s) = 1 := by decide +kernel
  have hx : ((enc (smf 8)).getD 0 0 = 90 ∧ (enc (smf 8)).getD 1 0 = 1 ∧ (enc (smf 8)).getD 2 0 = 2 ∧ (enc (smf 8)).getD 3 0 = 3 ∧ (enc (smf 8)).getD 7 0 = 252) ∧ (enc (smf 8)).getD 36 0 = 7 ∧ (enc (smf 8)).getD 37 0 = 7 ∧ (enc (smf 8)).getD 50 0 = 15 ∧ (enc (smf 8)).getD 51 0 = 0 := by decide +kernel
  have hy : Bytes (enc (smf 8)) := enc_bytes k
  have C1 := fun W => enc_any k W
  rw [encE_yes hr] at C1
  have C3 := fun W => enc_any ok_zou W
  rw [encE_no hz, enc_no hz] at C3
  have CS := fun W => some_any W
  have CR := fun W => right_any k W
  rw [hr] at CR
  have CF := fun W => failed_any k W
  rw [hfl] at CF
  have D1 : ∀ a cap W, 54 ≤ cap → IntsAt .u8 W a (enc (smf 8)) → Calls Try.prog 9 #[.slice a (enc (smf 8)).length cap] W fun e w' => e = .returned (.tuple #[.agg (ouc (smf 8)).toArray, .int .i64 0]) ∧ Below W.heap.size W w' := fun a cap W hc h => (dec_any a cap (enc (smf 8)) W (by omega) (by omega) hy h).mono fun e w' q => by
    unfold RetD at q
    rwa [enc_dec hr k, decE_yes (enc_iso hr k)] at q
  have D2 : ∀ a cap W, 54 ≤ cap → IntsAt .u8 W a (enc (smf 8)) → Calls Try.prog 9 #[.slice a 53 cap] W fun e w' => e = .returned (.tuple #[.agg (ouc zou).toArray, .int .i64 3]) ∧ Below W.heap.size W w' := fun a cap W hc h => by
    have hl : ((enc (smf 8)).take 53).length = 53 := by rw [List.length_take, hlen]; rfl
    have q := dec_any a cap ((enc (smf 8)).take 53) W (by omega) (by omega) (hy.take _) (h.take 53)
    rw [hl, retD_no (iso_len (by omega))] at q
    exact q
  have EQ := fun W => eq_self k W
  have NZ := Lib.hid (sizeO k)
  have H41 := Lib.hid (show (ouc zou).length = (ouc (smf 8)).length by rw [ouc_len ok_zou, ouc_len k])
  have HALL := Lib.hid (ouc_all (smf 8))
  have K := Lib.hid (show True ∧ _ from ⟨trivial, hx⟩)
  have LO := Lib.hid (fun X => lay_out (smf 8) X)
  have LZ := Lib.hid (fun X => lay_out zou X)
  rw [hlen] at D1
  clear hr hz hy hx hfl k
  generalize enc (smf 8) = L at *
  generalize smf 8 = S at *
  go_enter Try.func5, Try.ntmps5
  go_wp2_with fail
  refine (CS _).mono ?_; rintro e w1 ⟨rfl, b1⟩
  have B1 := Lib.hid b1
  clear b1
  go_wp2_with fail
  refine (C1 _).mono ?_; rintro e w2 ⟨a2, cap2, rfl, i2, m2, b2⟩
  rw [hlen] at m2 ⊢
  have B2 := Lib.hid (grow B1.out b2)
  have I2 := Lib.hid i2
  clear b2 i2 B1 C1
  go_wp2_with fail
  refine (D1 _ _ _ m2 I2.out).mono ?_; rintro e w3 ⟨rfl, b3⟩
  have B3 := Lib.hid (grow B2.out b3)
  have I3 := Lib.hid (I2.out.below b3)
  have N3 := Lib.hid (VRow.new w3 (ouc zou) 27)
  have Q3 := Lib.hid (LO.out w3)
  clear b3 B2 I2 D1
  go_wp2_with (first
    | ((with_reducible show wpList _ _ _ (⟨none, .store _ (.tmp 3) _, _, _, _, _⟩ :: _) _ _); refine VB.store rfl _ _ rfl w3.heap.size (ouc S) rfl rfl N3.out NZ.out H41.out HALL.out ?_; change wpList _ _ _ _ _ ((w3.alloc (.cells (ouc zou).toArray 27)).setRow w3.heap.size (ouc S).toArray))
    | ((with_reducible show wpList _ _ _ (⟨some 20, _, _, _, _, _⟩ :: _) _ _); refine wpList_buildTo rfl _ _ rfl (ouc zou).toArray (by kernel_rfl) ?_))
  have B4 := Lib.hid (grow B3.out Q3.out.1)
  have I4 := Lib.hid (I3.out.below Q3.out.1)
  have V4 := Lib.hid Q3.out.2
  have hge := B3.out.size
  clear B3 I3 N3 Q3
  generalize (w3.alloc (.cells (ouc zou).toArray 27)).setRow w3.heap.size (ouc S).toArray = W4 at *
  generalize w3.heap.size = g at *
  refine (C3 _).mono ?_; rintro e w5 ⟨a5, cap5, rfl, -, -, b5⟩
  have B5 := Lib.hid (grow B4.out b5)
  have I5 := Lib.hid (I4.out.below b5)
  have V5 := Lib.hid (VRow.below V4.out b5 V4.out.lt)
  clear b5 C3 B4 I4 V4
  go_wp2_with fail
  refine (D2 _ _ _ m2 I5.out).mono ?_; rintro e w6 ⟨rfl, b6⟩
  have B6 := Lib.hid (grow B5.out b6)
  have I6 := Lib.hid (I5.out.below b6)
  have V6 := Lib.hid (VRow.below V5.out b6 V5.out.lt)
  have N6 := Lib.hid (VRow.new w6 (ouc zou) 27)
  have Q6 := Lib.hid (LZ.out w6)
  have hne := V6.out.lt
  clear b6 D2 B5 I5 V5
  go_wp2_with ((with_reducible show wpList _ _ _ (⟨none, .store _ (.tmp 7) _, _, _, _, _⟩ :: _) _ _); refine VB.store rfl _ _ rfl w6.heap.size (ouc zou) rfl rfl N6.out (sizeO ok_zou) rfl (ouc_all _) ?_; change wpList _ _ _ _ _ ((w6.alloc (.cells (ouc zou).toArray 27)).setRow w6.heap.size (ouc zou).toArray); generalize (w6.alloc (.cells (ouc zou).toArray 27)).setRow w6.heap.size (ouc zou).toArray = W7 at *)
  have B7 := Lib.hid (grow B6.out Q6.out.1)
  have I7 := Lib.hid (I6.out.below Q6.out.1)
  have V7 := Lib.hid (VRow.below V6.out Q6.out.1 V6.out.lt)
  clear B6 I6 V6 N6 Q6
  obtain ⟨bb, off, rfl, i8⟩ := intsAt_some I7.out (by rw [hlen]; omega)
  obtain ⟨-, ⟨x0, x1, x2, x3, x7⟩, x36, x37, x50, x51⟩ := K.out
  have t0 := ints_cell i8 0 (by omega)
  have t1 := ints_cell i8 1 (by omega)
  have t2 := ints_cell i8 2 (by omega)
  have t3 := ints_cell i8 3 (by omega)
  have t7 := ints_cell i8 7 (by omega)
  have t36 := ints_cell i8 36 (by omega)
  have t37 := ints_cell i8 37 (by omega)
  have t50 := ints_cell i8 50 (by omega)
  have t51 := ints_cell i8 51 (by omega)
  rw [x0, Nat.add_zero] at t0
  rw [x1] at t1
  rw [x2] at t2
  rw [x3] at t3
  rw [x7] at t7
  rw [x36] at t36
  rw [x37] at t37
  rw [x50] at t50
  rw [x51] at t51
  clear x0 x1 x2 x3 x7 x36 x37 x50 x51 i8 I7 K
  replace t0 := cell_regrown t0
  replace t1 := cell_regrown t1
  replace t2 := cell_regrown t2
  replace t3 := cell_regrown t3
  replace t7 := cell_regrown t7
  replace t36 := cell_regrown t36
  replace t37 := cell_regrown t37
  replace t50 := cell_regrown t50
  replace t51 := cell_regrown t51
  have cS := reg_call (w := W7) (fun W _ => CS W)
  have cR := reg_call (w := W7) (fun W _ => CR W)
  have cF := reg_call (w := W7) (fun W _ => CF W)
  have HRG := Lib.hid (show ∀ W', (∃ p : Regrown, W' = Sort.grow (redrawn W7 p.d) p.os) → W'.rangeAt g 0 (ouc S) from by rintro W' ⟨p, rfl⟩; exact row_range (V7.out.below (below_regrown W7 p.d p.os) V7.out.lt))
  have HU := Lib.hid (Try.underlying27)
  clear CS CR CF V7
  simp only [List.append_eq, List.cons_append, List.nil_append]
  refine wp_region_quiet_below (by kernel_rfl) (by kernel_rfl) ?_
  repeat (first
    | (with_reducible show wpQuiet _ _ _ _ (⟨some 93, _, _, _, _, _⟩ :: _) _
       refine wpQuiet_loadR rfl _ rfl g 0 (ouc S) rfl HRG.out _ HU.out rfl NZ.out ?_
       simp only [Act.put, List.setIfInBounds_toArray, List.set_cons_succ, List.set_cons_zero])
    | (with_reducible show wpQuiet _ _ _ _ (⟨some 110, _, _, _, _, _⟩ :: _) _
       refine wpQuiet_loadR rfl _ rfl g 0 (ouc S) rfl HRG.out _ HU.out rfl NZ.out ?_
       simp only [Act.put, List.setIfInBounds_toArray, List.set_cons_succ, List.set_cons_zero])
    | (with_reducible show wpQuiet _ _ _ _ (⟨some 115, _, _, _, _, _⟩ :: _) _
       refine wpQuiet_loadR rfl _ rfl g 0 (ouc S) rfl HRG.out _ HU.out rfl NZ.out ?_
       simp only [Act.put, List.setIfInBounds_toArray, List.set_cons_succ, List.set_cons_zero])
    | go_big_quiet_step (first | exact cS _ _ | exact cR _ _ | exact cF _ _))
  refine wpQuiet_nil ?_
  intro _ hw'
  obtain ⟨⟨dq, osq⟩, hw''⟩ := hw'
  subst hw''
  go_wp2
  go_ret
  exact ⟨rfl, grow B7.out (below_regrown W7 dq osq)⟩
end Ot
end Go.Proofs.Ytpgcoagjlkdmbaa
