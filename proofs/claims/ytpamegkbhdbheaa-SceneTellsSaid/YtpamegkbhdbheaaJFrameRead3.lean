/-
  What read of package frame does: its contract by walking the Go text. Conditions: 36 bytes, and where they lie.
  What PutAll of package word returns: a contract by walking the Go text (a range over the iterator fours). Conditions: where the numbers lie, and how many they are.
  What Encode of package frame does: its contract by walking the Go text. No conditions.
-/
import Derived.Test.YtpamegkbhdbheaaJSceneClone4
import Derived.Test.YtpamegkbhdbheaaJWordFours2
import Derived.Test.YtpamegkbhdbheaaJCrcStep3
namespace Go.Proofs.Ytpamegkbhdbheaa
set_option maxRecDepth 100000
open Go.ChangeShapes Go.WideShapes Go.ChangeAt Go.RowKit Go.Deep
namespace Fm
open Wd
open Cr (Bytes)

theorem agg9 (w : World) : (isAgg 52).run Try.prog w = .ok true w := by simp [isAgg, run_underlying Try.underlying52]
theorem size9 : (Try.prog.info? 52).map (·.size) = some 9 := by kernel_rfl
theorem nine_row (w : World) (t : TypeId) : IRow .i64 (w.alloc (.cells (cellsI .i64 (List.replicate 9 0)).toArray t)) w.heap.size t (List.replicate 9 0) := heap_alloc_new w _
theorem stored9 {w : World} {g : Nat} {t : TypeId} (s v0 v1 v2 v3 v4 v5 v6 v7 : Int) (h : IRow .i64 w g t (List.replicate 9 0)) : IRow .i64 (((((((((w.setCell ⟨g, 0, none⟩ (.int .i64 s)).setCell ⟨g, 1, none⟩ (.int .i64 v0)).setCell ⟨g, 2, none⟩ (.int .i64 v1)).setCell ⟨g, 3, none⟩ (.int .i64 v2)).setCell ⟨g, 4, none⟩ (.int .i64 v3)).setCell ⟨g, 5, none⟩ (.int .i64 v4)).setCell ⟨g, 6, none⟩ (.int .i64 v5)).setCell ⟨g, 7, none⟩ (.int .i64 v6)).setCell ⟨g, 8, none⟩ (.int .i64 v7)) g t [s, v0, v1, v2, v3, v4, v5, v6, v7] :=
  (((((((((h.set 0 s).set 1 v0).set 2 v1).set 3 v2).set 4 v3).set 5 v4).set 6 v5).set 7 v6).set 8 v7)
theorem stored9_below {B : Nat} {a w : World} {g : Nat} (s v0 v1 v2 v3 v4 v5 v6 v7 : Int) (h : Below B a w) (hg : B ≤ g) : Below B a (((((((((w.setCell ⟨g, 0, none⟩ (.int .i64 s)).setCell ⟨g, 1, none⟩ (.int .i64 v0)).setCell ⟨g, 2, none⟩ (.int .i64 v1)).setCell ⟨g, 3, none⟩ (.int .i64 v2)).setCell ⟨g, 4, none⟩ (.int .i64 v3)).setCell ⟨g, 5, none⟩ (.int .i64 v4)).setCell ⟨g, 6, none⟩ (.int .i64 v5)).setCell ⟨g, 7, none⟩ (.int .i64 v6)).setCell ⟨g, 8, none⟩ (.int .i64 v7)) :=
  (((((((((h.setCell (p := ⟨g, 0, none⟩) hg _).setCell (p := ⟨g, 1, none⟩) hg _).setCell (p := ⟨g, 2, none⟩) hg _).setCell (p := ⟨g, 3, none⟩) hg _).setCell (p := ⟨g, 4, none⟩) hg _).setCell (p := ⟨g, 5, none⟩) hg _).setCell (p := ⟨g, 6, none⟩) hg _).setCell (p := ⟨g, 7, none⟩) hg _).setCell (p := ⟨g, 8, none⟩) hg _)
theorem row9 {w : World} {g : Nat} {t : TypeId} {s v0 v1 v2 v3 v4 v5 v6 v7 : Int} (h : IRow .i64 w g t [s, v0, v1, v2, v3, v4, v5, v6, v7]) : (w.cell? ⟨g, 0, none⟩ = some (.int .i64 s) ∧ w.cell? ⟨g, 1, none⟩ = some (.int .i64 v0) ∧ w.cell? ⟨g, 2, none⟩ = some (.int .i64 v1) ∧ w.cell? ⟨g, 3, none⟩ = some (.int .i64 v2) ∧ w.cell? ⟨g, 4, none⟩ = some (.int .i64 v3) ∧ w.cell? ⟨g, 5, none⟩ = some (.int .i64 v4) ∧ w.cell? ⟨g, 6, none⟩ = some (.int .i64 v5) ∧ w.cell? ⟨g, 7, none⟩ = some (.int .i64 v6) ∧ w.cell? ⟨g, 8, none⟩ = some (.int .i64 v7)) :=
  ⟨h.cell 0 (by simp), h.cell 1 (by simp), h.cell 2 (by simp), h.cell 3 (by simp), h.cell 4 (by simp), h.cell 5 (by simp), h.cell 6 (by simp), h.cell 7 (by simp), h.cell 8 (by simp)⟩
theorem row9_frozen {w : World} {g : Nat} {t : TypeId} {l : List Int} (h : IRow .i64 w g t l) : w.frozen? ⟨g, 0, none⟩ = false ∧ w.frozen? ⟨g, 1, none⟩ = false ∧ w.frozen? ⟨g, 2, none⟩ = false ∧ w.frozen? ⟨g, 3, none⟩ = false ∧ w.frozen? ⟨g, 4, none⟩ = false ∧ w.frozen? ⟨g, 5, none⟩ = false ∧ w.frozen? ⟨g, 6, none⟩ = false ∧ w.frozen? ⟨g, 7, none⟩ = false ∧ w.frozen? ⟨g, 8, none⟩ = false :=
  ⟨h.frozen 0, h.frozen 1, h.frozen 2, h.frozen 3, h.frozen 4, h.frozen 5, h.frozen 6, h.frozen 7, h.frozen 8⟩
theorem getAll_eight {l : List Int} (h : l.length = 32) : (getAll l).length = 8 ∧ getAll l = nums l := by
  have e : getAll l = nums l := by unfold getAll; rw [if_pos (by omega)]
  exact ⟨by rw [e]; exact nums_len 8 l (by omega), e⟩
theorem intsAt_piece {k : IntKind} {w : World} {a : Option Addr} {l : List Int} (i n : Nat) (h : IntsAt k w a l) (hp : 0 < l.length) : ∃ b off, a = some ⟨b, off, none⟩ ∧ IntsAt k w (some ⟨b, off + i, none⟩) ((l.drop i).take n) := by
  rcases h with rfl | ⟨b, off, rfl, hc⟩
  · simp at hp
  · exact ⟨b, off, rfl, (intsAt_drop i hc).take n⟩

set_option maxHeartbeats 800000 in
theorem read_any (b off cap : Nat) (l : List Int) (w : World) (hl : l.length = 36) (hcap : 36 ≤ cap) (hy : Bytes l) (hb : IntsAt .u8 w (some ⟨b, off, none⟩) l) :
    Calls Try.prog 35 #[.slice (some ⟨b, off, none⟩) 36 cap] w fun e w' => e = .returned (.agg (cellsI .i64 (get2v ((l.drop 2).take 2) :: nums (l.drop 4))).toArray) ∧ Below w.heap.size w w' := by
  have hc : ∀ i, i < l.length → w.cell? ⟨b, off + i, none⟩ = some (.int .u8 (l.getD i 0)) := by
    rcases hb with rfl | ⟨b', off', he, hc⟩
    · simp at hl
    · cases he; exact hc
  have hbl : b < w.heap.size := cell_lt (hc 0 (by omega))
  have I2 := Lib.hid (((intsAt_drop 2 hc).take 2).below ((Below.refl w.heap.size w).alloc (Nat.le_refl _) (.cells (cellsI .i64 (List.replicate 9 0)).toArray 52)))
  have I4 := Lib.hid ((intsAt_drop 4 hc).below ((Below.refl w.heap.size w).alloc (Nat.le_refl _) (.cells (cellsI .i64 (List.replicate 9 0)).toArray 52)))
  have y2 : Bytes ((l.drop 2).take 2) := (hy.drop _).take _
  have y4 : Bytes (l.drop 4) := hy.drop _
  have l2 : ((l.drop 2).take 2).length = 2 := by rw [List.length_take, List.length_drop]; omega
  have l4 : (l.drop 4).length = 32 := by rw [List.length_drop]; omega
  obtain ⟨g8, ge⟩ := getAll_eight l4
  have C2 := fun W cp h => get2_any (some ⟨b, off + 2, none⟩) cp ((l.drop 2).take 2) W (by omega) y2 h
  have C4 := fun W cp (hcp : 32 ≤ cp) h => getAll_any (some ⟨b, off + 4, none⟩) cp (l.drop 4) W (by omega) (by omega) y4 h
  rw [l2] at C2
  rw [l4, ge] at C4
  rw [ge] at g8
  clear hc hb hy y2 y4 ge
  generalize get2v ((l.drop 2).take 2) = s at *
  generalize (l.drop 2).take 2 = q2 at *
  generalize get2b q2 = bb at *
  generalize getAllb (l.drop 4) = bb4 at *
  generalize hnum : nums (l.drop 4) = vs at *
  generalize l.drop 4 = q4 at *
  obtain ⟨v0, v1, v2, v3, v4, v5, v6, v7, rfl⟩ := eight vs g8
  have HO := Lib.hid (nine_row w 52)
  have BA := Lib.hid ((Below.refl w.heap.size w).alloc (Nat.le_refl _) (.cells (cellsI .i64 (List.replicate 9 0)).toArray 52))
  go_enter Try.func35, Try.ntmps35
  go_wp2_with (first
    | (go_at_call 52; refine (C2 _ _ I2.out).mono ?_; rintro e w1 ⟨rfl, rfl⟩)
    | (go_at_call 53; refine (C4 _ _ (by omega) I4.out).mono ?_; rintro e w2 ⟨a2, cap2, rfl, i2, b2⟩; have R0 := Lib.hid (HO.out.below b2 (by simp)); have B2 := Lib.hid (BA.out.trans (b2.mono (by simp))); have CL := Lib.hid (laid_any a2 cap2 v0 v1 v2 v3 v4 v5 v6 v7 w2 i2); clear b2 i2)
    | (go_at_call 54; refine CL.out.mono ?_; rintro e w3 ⟨rfl, b3⟩; have R3 := Lib.hid (R0.out.below b3 (by have := B2.out.size; have := R0.out.lt; omega)); have B3 := Lib.hid (grow B2.out b3); clear b3 R0
       obtain ⟨z0, z1, z2, z3, z4, z5, z6, z7, z8⟩ := row9 (show IRow .i64 w3 w.heap.size 52 [0, 0, 0, 0, 0, 0, 0, 0, 0] from R3.out)
       obtain ⟨q0, q1, q2, q3, q4, q5, q6, q7, q8⟩ := row9_frozen R3.out))
  have R4 := stored9 s v0 v1 v2 v3 v4 v5 v6 v7 R3.out
  have B4 := stored9_below (g := w.heap.size) s v0 v1 v2 v3 v4 v5 v6 v7 B3.out (Nat.le_refl _)
  refine bodyPost_ret (v := .agg #[.int .i64 s, .int .i64 v0, .int .i64 v1, .int .i64 v2, .int .i64 v3, .int .i64 v4, .int .i64 v5, .int .i64 v6, .int .i64 v7]) ?_ rfl ⟨rfl, B4⟩
  exact Agg.ret_row (l := [s, v0, v1, v2, v3, v4, v5, v6, v7]) rfl rfl (agg9 _) size9 R4
end Fm
end Go.Proofs.Ytpamegkbhdbheaa

namespace Go.Proofs.Ytpamegkbhdbheaa
set_option maxRecDepth 100000
open Go.ChangeShapes Go.WideShapes Go.ChangeAt Go.RowKit Go.Deep Go.Shelf
namespace Wd
open Cr (Bytes)
attribute [local go_sem] Oper.semAt_some

theorem take_all_next (l : List Int) (k : Nat) (h : k < l.length) : (l.take (k + 1)).all in4 = ((l.take k).all in4 && in4 (l.getD k 0)) := by
  rw [List.take_succ_eq_append_getElem h, List.all_append]; simp [List.getD_eq_getElem?_getD, h]

set_option maxHeartbeats 800000 in
theorem putAll_no_any (a : Option Addr) (cap : Nat) (l : List Int) (w : World) (hl : l.length ≤ 9223372036854775807) (hb : IntsAt .i64 w a l) (hno : l.all in4 = false) :
    Calls Try.prog 58 #[.slice a l.length cap] w (RetC .u8 w (putAll l)) := by
  have HF := Lib.hid (putAll_no hno)
  have HN := Lib.hid hno
  have HB := Lib.hid (hb.below ((Below.refl _ w).alloc (Nat.le_refl _) (.cells #[.slice a l.length cap] 80)))
  have HW := Lib.hid ((Below.refl _ w).alloc (Nat.le_refl _) (.cells #[.slice a l.length cap] 80))
  clear hb hno
  go_enter Try.func58, Try.ntmps58
  go_wp2
  generalize w.alloc (.cells #[.slice a l.length cap] 80) = w0 at *
  go_loopg [10] l.length (fun gg s10 wr => ∃ k : Nat, k + gg = l.length ∧ s10 = .int .i64 k ∧ Hid ((l.take k).all in4 = true) ∧ w0 = wr)
  case atStart => exact ⟨0, by omega, rfl, Lib.hid rfl, rfl⟩
  case round =>
    obtain ⟨k, hkg, rfl, HT, rfl⟩ := hrel
    by_cases hk : k < l.length
    · rcases HB.out with hnil | ⟨b, off, rfl, hc⟩
      · rw [hnil] at hk; simp at hk
      have hki : (k : Int) < (l.length : Int) := by omega
      have hcx := hc k hk
      have HX := Lib.hid (take_all_next l k hk)
      generalize l.getD k 0 = x at *
      clear hc
      have C := told_any x w0
      cases hx : in4 x
      · rw [hx] at C
        go_wp2_with (go_at_call 70; refine C.mono ?_; rintro e w2 ⟨rfl, rfl⟩)
        go_ret
        exact retC_nil HF.out HW.out
      · rw [hx] at C
        go_wp2_with (go_at_call 70; refine C.mono ?_; rintro e w2 ⟨rfl, rfl⟩)
        go_roundg (gk - 1)
        case rel => exact ⟨k + 1, by omega, by go_num, Lib.hid (by rw [HX.out, HT.out, hx]; rfl), rfl⟩
        case measure => omega
    · exfalso
      have := HT.out
      rw [List.take_of_length_le (by omega), HN.out] at this
      cases this

set_option maxRecDepth 100000 in
set_option maxHeartbeats 2000000 in
theorem putAll_yes_any (a : Option Addr) (cap N : Nat) (l : List Int) (w : World) (hl : l.length = N) (hN : N ≤ 100000000) (hb : IntsAt .i64 w a l) (hall : l.all in4 = true) :
    Calls Try.prog 58 #[.slice a N cap] w (RetC .u8 w (putAll l)) := by
  have e4 : ((4 * N : Nat) : Int) / 4 = (N : Int) := by omega
  have HA := Lib.hid hall
  have HB := Lib.hid hb
  clear hb hall
  obtain ⟨i0, hi0, hz0, hz1, hz2⟩ := info_parts byteInfo
  refine (callsIn_wide (n := 5)).1 ?_
  refine callsIn_of_wp_marks Try.func58 rfl trivial ?_ rfl
  simp only [Try.ntmps58, List.size_toArray, List.length_cons, List.length_nil, Nat.reduceAdd, Nat.reduceSub, Array.replicate_succ, Array.replicate_zero, List.push_toArray, List.append_toArray, List.nil_append, List.cons_append]
  gi_wp2
  have bX := Boxed.new w 80 (.slice a N cap)
  have hB0 := (Below.refl w.heap.size w).alloc (Nat.le_refl _) (.cells #[.slice a N cap] 80)
  have hsz : (w.alloc (.cells #[.slice a N cap] 80)).heap.size = w.heap.size + 1 := by simp
  generalize w.alloc (.cells #[.slice a N cap] 80) = w0 at *
  gi_loopw [10] (fun i wr => ∃ k : Nat, k ≤ N ∧ i = .int .i64 k ∧ w0 = wr) (fun i _ => N - (intOf i).toNat)
  case atStart => exact ⟨0, by omega, rfl, rfl⟩
  case round =>
    obtain ⟨k, hkN, rfl, rfl⟩ := hrel
    by_cases hk : k < N
    · rcases HB.out.below hB0 with hnil | ⟨b, off, rfl, hc⟩
      · rw [hnil] at hl; simp at hl; omega
      have hki : (k : Int) < (N : Int) := by omega
      have hcx := hc k (by omega)
      have C := told_any (l.getD k 0) w0
      rw [in4_at HA.out (by omega)] at C
      generalize l.getD k 0 = x at *
      clear hc
      gi_wp2_with (refine ⟨trivial, ?_⟩; gi_at_call 70; refine (callsIn_wide.2 C).mono ?_; rintro e w2 ⟨rfl, rfl⟩)
      go_roundw
      case rel => exact ⟨k + 1, by omega, by go_num, by trivial⟩
      case measure => simp [intOf]; omega
    · obtain rfl : k = N := by omega
      have hbc := bX.cell
      gi_wp2_with (first
        | (gi_at_make; refine wpListIn_make_full _ rfl _ _ _ rfl w0.heap.size 5 i0 (.int .u8 0) 1 Try.underlying42 hi0 hz0 hz1 .i64 .i64 _ _ (4 * k) rfl rfl (by omega) (by omega) (by rw [hz2]; omega) (by unfold maxLen; omega) (Nat.le_refl _) ?_; intro w1 own1 grown1
           have R1 := Lib.hid (IRow.of_own own1 (zeros_cells8 _)); have G1 := Lib.hid grown1; clear own1 grown1)
        | (refine ⟨trivial, ?_⟩; gi_at_call 64; refine (callsIn_wide.2 (fours_any _ _ _ _)).mono ?_; rintro e w2 ⟨rfl, rfl⟩))
      have hR1 := R1.out
      rw [hsz] at hR1
      have hlt1 : w.heap.size + 1 < w1.heap.size := hR1.lt
      have bX1 : Boxed w1 w.heap.size 80 (.slice a k cap) := bX.kept G1.out (by simp)
      have hB1 : Below w.heap.size w w1 := hB0.grown G1.out hB0.size (by simp)
      have bS := Boxed.new w1 42 (.slice (some ⟨w.heap.size + 1, 0, none⟩) (4 * k) (4 * k))
      have bX2 := bX1.alloc (.cells #[.slice (some ⟨w.heap.size + 1, 0, none⟩) (4 * k) (4 * k)] 42)
      have hR2 := hR1.alloc (.cells #[.slice (some ⟨w.heap.size + 1, 0, none⟩) (4 * k) (4 * k)] 42)
      have hB2 := hB1.alloc (by omega) (.cells #[.slice (some ⟨w.heap.size + 1, 0, none⟩) (4 * k) (4 * k)] 42)
      have hsz2 : (w1.alloc (.cells #[.slice (some ⟨w.heap.size + 1, 0, none⟩) (4 * k) (4 * k)] 42)).heap.size = w1.heap.size + 1 := by simp
      clear hR1 R1 G1 bX1 hB1 bX hB0 hsz hbc
      generalize w1.alloc (.cells #[.slice (some ⟨w.heap.size + 1, 0, none⟩) (4 * k) (4 * k)] 42) = W0 at *
      refine wpIn_rangeFunc_ownG rfl (by omega) (gf := 74) (lb := #[.pointer (some ⟨w1.heap.size, 0, none⟩)]) rfl trivial (enters_of Try.func74 (by kernel_rfl) rfl)
        (fours_stops _ (by omega) w1.heap.size (w.heap.size + 1) 0 (4 * k) k (some ⟨w.heap.size + 1, 0, none⟩) (fun _ => rfl) (by omega) (Nat.le_refl _) W0 (by omega) bS.cell) KeepAt.trans (KeepAt.put (by omega)) (Below.refl _ _) (fun _ => rfl)
        (fun pre W => (IRow .u8 W (w.heap.size + 1) 5 (fillB l (pre.map Fin.val)) ∧ (Boxed W w.heap.size 80 (.slice a k cap) ∧ Boxed W w1.heap.size 42 (.slice (some ⟨w.heap.size + 1, 0, none⟩) (4 * k) (4 * k)))) ∧ Below w.heap.size w W)
        (fun _ _ _ => False)
        (OwnFrom.and (OwnFrom.and (Own.from (irow_own _ _ _ _) _) (OwnFrom.and (Own.from (boxed_own _ _ _) _) (Own.from (boxed_own _ _ _) _))) (ownFrom_below (Nat.le_refl _) (by omega)))
        (fun _ _ _ _ _ hs _ _ => hs)
        ⟨⟨by simpa [fillB, hl] using hR2, bX2, bS⟩, hB2⟩
        (fun x => { tmps := #[.slice a k cap, .pointer (some ⟨w.heap.size, 0, none⟩), u2, undef, u4, .slice (some ⟨w.heap.size + 1, 0, none⟩) (4 * k) (4 * k), .int .i64 (x.val : Int), .slice (some ⟨w.heap.size + 1, 0 + 4 * x.val, none⟩) 4 4, .slice a k cap, .int .i64 k, .int .i64 k, .bool false, u12, u13, u14, u15, u16, u17, .slice a k cap, .int .i64 k, .int .i64 (4 * k), .slice (some ⟨w.heap.size + 1, 0, none⟩) (4 * k) (4 * k), .slice (some ⟨w.heap.size + 1, 0, none⟩) (4 * k) (4 * k), .func (.func 74) #[] #[.pointer (some ⟨w1.heap.size, 0, none⟩)], .int .i64 (x.val : Int), .slice (some ⟨w.heap.size + 1, 0 + 4 * x.val, none⟩) 4 4, undef, undef, undef, undef, undef, undef, undef], defers := [] }) ?assign ?body ?done ?stop
      case assign =>
        intro l x W K hK
        dsimp only [encs]
        gi_wp2
        simpa using hK
      case body =>
        rintro lp pre x W ⟨⟨hR, hBx, hBy⟩, hB⟩ _
        have hx := x.isLt
        obtain ⟨i, hi⟩ : ∃ i, i = x.val := ⟨_, rfl⟩
        have HS := Lib.hid (show fillB l ((pre ++ [x]).map Fin.val) = splice (fillB l (pre.map Fin.val)) (4 * x.val) (put4 (l.getD x.val 0)) by rw [List.map_append]; exact fillB_snoc l (pre.map Fin.val) x.val)
        have hL := fillB_len HA.out (pre.map Fin.val) (fun j hj => by obtain ⟨y, _, rfl⟩ := List.mem_map.1 hj; have := y.isLt; omega)
        rw [← hi] at hx HS ⊢
        have hbc := hBx.cell
        have hxi : (i : Int) < (k : Int) := by omega
        rcases HB.out.below hB with hnil | ⟨b, off, rfl, hc⟩
        · rw [hnil] at hl; simp at hl; omega
        have hcx := hc i (by omega)
        have h4 := in4_at HA.out (show i < l.length by omega)
        have C := write_any (w.heap.size + 1) (4 * i) 4 4 (fillB l (pre.map Fin.val)) 5 (l.getD i 0) W (by omega) hR (by omega)
        rw [wbytes_4 h4, ← HS.out] at C
        have HBx := Lib.hid hBx
        have HBy := Lib.hid hBy
        have HBB := Lib.hid hB
        have HC := Lib.hid (fun o (ho : W.heap[w.heap.size + 1]? = some o) => show o.isCells = true by rw [show W.heap[w.heap.size + 1]? = _ from hR] at ho; cases ho; rfl)
        clear hR hBx hBy hB hi hc HS hL h4
        generalize l.getD i 0 = y at *
        gi_wp2_with (refine ⟨trivial, ?_⟩; gi_at_call 69; refine (CallsIn.inRound lp (callsIn_wide.2 C)).mono ?_; rintro e w3 ⟨rfl, r3, g3⟩; have R3 := Lib.hid r3; have G3 := Lib.hid g3; clear r3 g3)
        exact ⟨(KeepsOthers.of_grownBy G3.out (fun j o ej hj => by cases ej; exact HC.out o hj)).from _, G3.out.block w1.heap.size HBy.out.lt (by simp; omega), ⟨R3.out, HBx.out.kept G3.out (by simp), HBy.out.kept G3.out (by simp; omega)⟩, HBB.out.grown G3.out HBB.out.size (fun k e => by cases e; omega)⟩
      case done =>
        rintro D ys W hD hys ⟨⟨hR, hBx⟩, hB⟩ hK
        gi_wp2
        refine ⟨by simp, .inl ⟨_, _, rfl, run_takeDeferred hK, ?_⟩⟩
        have hall := fillB_all HA.out
        rw [hl] at hall
        have hlen : (putAll l).length = 4 * k := by rw [← hall]; have := fillB_len HA.out (List.range k) (fun j hj => by have := List.mem_range.1 hj; omega); omega
        have R' : IRow .u8 (W.putObj D (.deferred none)) (w.heap.size + 1) 5 (putAll l) := by
          rw [hys, hall] at hR
          exact (World.putObj_heap_other (by omega)).trans hR
        refine ⟨_, results_tmp rfl _ _ _, ?_⟩
        exact retC_mk rfl hlen (Nat.le_refl _) R'.ints (hB.trans (belowK_b (w := w) (Nat.le_refl _) W D _ _ (by omega) hK rfl rfl))
      case stop =>
        rintro D c pre W _ _ h _
        exact h.elim

theorem putAll_any (a : Option Addr) (cap : Nat) (l : List Int) (w : World) (hl : l.length ≤ 100000000) (hb : IntsAt .i64 w a l) :
    Calls Try.prog 58 #[.slice a l.length cap] w (RetC .u8 w (putAll l)) := by
  cases h : l.all in4
  · exact putAll_no_any a cap l w (by omega) hb h
  · exact putAll_yes_any a cap l.length l w rfl hl hb h
end Wd
end Go.Proofs.Ytpamegkbhdbheaa

namespace Go.Proofs.Ytpamegkbhdbheaa
set_option maxRecDepth 100000
open Go.ChangeShapes Go.WideShapes Go.ChangeAt Go.RowKit Go.Deep
namespace Fm
open Wd
open Cr (Bytes)

/-- What Encode hands back: bytes, and an error's number. -/
def RetCE (w : World) (l : List Int) (x : Int) (e : Ending) (w' : World) : Prop :=
  ∃ a cap, e = .returned (.tuple #[.slice a l.length cap, .int .i64 x]) ∧ IntsAt .u8 w' a l ∧ l.length ≤ cap ∧ Below w.heap.size w w'
theorem retCE_nil {w w' : World} {l : List Int} {x : Int} (he : l = []) (hx : x = 1) (h : Below w.heap.size w w') : RetCE w l x (.returned (.tuple #[.slice none 0 0, .int .i64 1])) w' := by
  subst he; subst hx; exact ⟨none, 0, rfl, Or.inl rfl, Nat.le_refl _, h⟩
theorem retCE_mk {w w' : World} {a : Option Addr} {l l' : List Int} {n cap : Nat} {x : Int} (he : l' = l) (hn : l'.length = n) (hx : x = 0) (hc : n ≤ cap) (hi : IntsAt .u8 w' a l') (hb : Below w.heap.size w w') :
    RetCE w l x (.returned (.tuple #[.slice a n cap, .int .i64 0])) w' := by subst he; subst hn; subst hx; exact ⟨a, cap, rfl, hi, hc, hb⟩
theorem ownLit2 {k : IntKind} {base : Nat} {w : World} {te : TypeId} (x y : Int) (hb : base ≤ w.heap.size) : OwnI k base te (w.alloc (.cells #[.int k x, .int k y] te)) (.slice (some ⟨w.heap.size, 0, none⟩) 2 2) [x, y] :=
  World.ownsRow_lit w #[.int k x, .int k y] 2 hb (by decide) rfl

theorem box_row (s v0 v1 v2 v3 v4 v5 v6 v7 : Int) (w : World) : IRow .i64 (w.alloc (.cells #[.int .i64 s, .int .i64 v0, .int .i64 v1, .int .i64 v2, .int .i64 v3, .int .i64 v4, .int .i64 v5, .int .i64 v6, .int .i64 v7] 52)) w.heap.size 52 [s, v0, v1, v2, v3, v4, v5, v6, v7] := heap_alloc_new w _
theorem box_vals {W : World} {g : Nat} {t : TypeId} {s v0 v1 v2 v3 v4 v5 v6 v7 : Int} (h : IRow .i64 W g t [s, v0, v1, v2, v3, v4, v5, v6, v7]) : IntsAt .i64 W (some ⟨g, 1, none⟩) [v0, v1, v2, v3, v4, v5, v6, v7] := by
  rcases h.ints with h0 | ⟨b, off, he, hc⟩
  · cases h0
  · cases he; exact intsAt_drop (l := [s, v0, v1, v2, v3, v4, v5, v6, v7]) 1 hc

set_option maxHeartbeats 1600000 in
theorem enc_yes_any (c s v0 v1 v2 v3 v4 v5 v6 v7 : Int) (w : World) (hr : right s [v0, v1, v2, v3, v4, v5, v6, v7] = true) (hk : chan c = true) :
    Calls Try.prog 39 #[.int .i64 c, .agg #[.int .i64 s, .int .i64 v0, .int .i64 v1, .int .i64 v2, .int .i64 v3, .int .i64 v4, .int .i64 v5, .int .i64 v6, .int .i64 v7]] w (RetCE w (enc c s [v0, v1, v2, v3, v4, v5, v6, v7]) (encE c s [v0, v1, v2, v3, v4, v5, v6, v7])) := by
  have BA := Lib.hid ((Below.refl w.heap.size w).alloc (Nat.le_refl _) (.cells #[.int .i64 s, .int .i64 v0, .int .i64 v1, .int .i64 v2, .int .i64 v3, .int .i64 v4, .int .i64 v5, .int .i64 v6, .int .i64 v7] 52))
  have HBX := Lib.hid (box_row s v0 v1 v2 v3 v4 v5 v6 v7 w)
  have CR := right_any s v0 v1 v2 v3 v4 v5 v6 v7 (w.alloc (.cells #[.int .i64 s, .int .i64 v0, .int .i64 v1, .int .i64 v2, .int .i64 v3, .int .i64 v4, .int .i64 v5, .int .i64 v6, .int .i64 v7] 52))
  rw [hr] at CR
  have CP := fun W => put2_any s W
  have CA := fun W h => putAll_any (some ⟨w.heap.size, 1, none⟩) 8 [v0, v1, v2, v3, v4, v5, v6, v7] W (by simp) h
  obtain ⟨ha, h2⟩ := (right_iff s [v0, v1, v2, v3, v4, v5, v6, v7]).1 hr
  have l2 := put2_len h2
  have l4 : (putAll [v0, v1, v2, v3, v4, v5, v6, v7]).length = 32 := by rw [putAll_yes ha, fours_len _ ha]; rfl
  have HH := Lib.hid (show ([165, c] ++ put2 s) ++ putAll [v0, v1, v2, v3, v4, v5, v6, v7] = head c s [v0, v1, v2, v3, v4, v5, v6, v7] by unfold head; rw [putAll_yes ha, List.append_assoc])
  have HL := head_len (c := c) hr (show [v0, v1, v2, v3, v4, v5, v6, v7].length = 8 from rfl)
  have HY := Lib.hid (head_bytes (s := s) (vs := [v0, v1, v2, v3, v4, v5, v6, v7]) hk)
  have HE := Lib.hid (enc_yes hr hk)
  have HZ := Lib.hid (encE_yes hr hk)
  obtain ⟨k1, k2⟩ := (chan_iff c).1 hk
  have d1 : decide (c < 0) = false := by simp; omega
  have d2 : decide (4 ≤ c) = false := by simp; omega
  have hsz : w.heap.size + 1 = (w.alloc (.cells #[.int .i64 s, .int .i64 v0, .int .i64 v1, .int .i64 v2, .int .i64 v3, .int .i64 v4, .int .i64 v5, .int .i64 v6, .int .i64 v7] 52)).heap.size := by simp
  have CS := fun W a cap h => Cr.seal_cap a cap (head c s [v0, v1, v2, v3, v4, v5, v6, v7]) W (by omega) HY.out h
  rw [HL] at CS
  clear hr hk ha h2
  generalize put2 s = p2 at *
  generalize putAll [v0, v1, v2, v3, v4, v5, v6, v7] = p4 at *
  generalize Cr.sealed (head c s [v0, v1, v2, v3, v4, v5, v6, v7]) = sl at *
  generalize head c s [v0, v1, v2, v3, v4, v5, v6, v7] = hd at *
  go_enter Try.func39, Try.ntmps39
  go_wp2_with (first
    | (go_at_call 56; refine CR.mono ?_; rintro e w1 ⟨rfl, b1⟩
       have R1 := Lib.hid (HBX.out.below b1 (by simp))
       have B1 := Lib.hid (b1.mono (Nat.le_of_eq hsz))
       have hs1 : w.heap.size + 1 ≤ w1.heap.size := by have := b1.size; simp at this; omega
       have R2 := Lib.hid (R1.out.alloc (.cells #[.int .u8 165, .int .u8 c] 5))
       have c2 : (w1.alloc (.cells #[.int .u8 165, .int .u8 c] 5)).cell? ⟨w.heap.size, 0, none⟩ = some (.int .i64 s) := R2.out.cell 0 (by simp)
       have O2 := Lib.hid (ownLit2 (k := .u8) (te := 5) (w := w1) 165 c hs1)
       have B2 := Lib.hid (B1.out.alloc hs1 (.cells #[.int .u8 165, .int .u8 c] 5))
       clear b1 B1)
    | (go_at_call 57; refine (CP _).mono ?_; rintro e w3 ⟨a3, cap3, rfl, i3, b3⟩
       have I3 := Lib.hid i3
       have hs2 : w.heap.size + 1 ≤ (w1.alloc (.cells #[.int .u8 165, .int .u8 c] 5)).heap.size := by simp; omega
       have O3 := Lib.hid (O2.out.below b3)
       have B3 := Lib.hid (grow_from B2.out b3 hs2)
       clear i3 b3 B2 O2)
    | ((with_reducible show wpList _ _ _ (⟨some 25, _, _, _, _, _⟩ :: _) _ _); (refine wpList_appendI rfl (.tmp 21) (.tmp 24) _ rfl .u8 (w.heap.size + 1) 5 1 Try.underlying42 Wd.byteInfo _ [165, c] a3 2 cap3 p2 rfl rfl l2 O3.out I3.out (by simp [l2, maxLen]) (by simp [l2]) _ B3.out (Nat.le_of_eq hsz) ?_)
       intro v4 w4 O4' B4'; have O4 := Lib.hid O4'; have B4 := Lib.hid B4'; clear O4' B4' O3 I3 B3
       have hs4 : w.heap.size + 1 ≤ w4.heap.size := by have := B4.out.size; simp at this; omega
       have R4 := Lib.hid (HBX.out.below B4.out (Nat.lt_succ_self _))
       have CA4 := Lib.hid (CA w4 (box_vals R4.out)))
    | (go_at_call 58; refine CA4.out.mono ?_; rintro e w5 ⟨a5, cap5, rfl, i5, m5, b5⟩
       have I5 := Lib.hid i5
       have O5 := Lib.hid (O4.out.below b5)
       have B5 := Lib.hid (grow_from B4.out b5 hs4)
       clear i5 m5 b5 B4 O4 CA4)
    | ((with_reducible show wpList _ _ _ (⟨some 30, _, _, _, _, _⟩ :: _) _ _); refine wpList_appendI rfl (.tmp 26) (.tmp 29) _ rfl .u8 (w.heap.size + 1) 5 1 Try.underlying42 Wd.byteInfo v4 ([165, c] ++ p2) a5 32 cap5 p4 rfl rfl l4 O5.out I5.out (by simp [l2, l4, maxLen]) (by simp [l2, l4]) _ B5.out (Nat.le_of_eq hsz) ?_
       intro v6 w6 O6' B6'; rw [HH.out] at O6'; obtain ⟨a6, cap6, rfl, i6⟩ := O6'.form; have I6 := Lib.hid i6; have B6 := Lib.hid B6'; clear O6' B6' i6 O5 I5 B5
       rw [HL]
       have hs6 : w.heap.size + 1 ≤ w6.heap.size := by have := B6.out.size; simp at this; omega)
    | (go_at_call 59; refine (CS _ _ _ I6.out).mono ?_; rintro e w7 ⟨a7, cap7, rfl, i7, m7, b7⟩
       have I7 := Lib.hid i7
       have B7 := Lib.hid (BA.out.trans ((grow_from B6.out b7 hs6).mono (Nat.le_succ _)))
       clear i7 b7))
  go_ret2
  exact retCE_mk HE.out.symm rfl HZ.out m7 I7.out B7.out

theorem enc_no_any (c s v0 v1 v2 v3 v4 v5 v6 v7 : Int) (w : World) (hn : ¬ (right s [v0, v1, v2, v3, v4, v5, v6, v7] = true ∧ chan c = true)) :
    Calls Try.prog 39 #[.int .i64 c, .agg #[.int .i64 s, .int .i64 v0, .int .i64 v1, .int .i64 v2, .int .i64 v3, .int .i64 v4, .int .i64 v5, .int .i64 v6, .int .i64 v7]] w (RetCE w (enc c s [v0, v1, v2, v3, v4, v5, v6, v7]) (encE c s [v0, v1, v2, v3, v4, v5, v6, v7])) := by
  have BA := Lib.hid ((Below.refl w.heap.size w).alloc (Nat.le_refl _) (.cells #[.int .i64 s, .int .i64 v0, .int .i64 v1, .int .i64 v2, .int .i64 v3, .int .i64 v4, .int .i64 v5, .int .i64 v6, .int .i64 v7] 52))
  have HE := Lib.hid (enc_no hn)
  have HZ := Lib.hid (encE_no hn)
  have CR := right_any s v0 v1 v2 v3 v4 v5 v6 v7 (w.alloc (.cells #[.int .i64 s, .int .i64 v0, .int .i64 v1, .int .i64 v2, .int .i64 v3, .int .i64 v4, .int .i64 v5, .int .i64 v6, .int .i64 v7] 52))
  by_cases hk : chan c = true
  · have hr : right s [v0, v1, v2, v3, v4, v5, v6, v7] = false := by
      cases e : right s [v0, v1, v2, v3, v4, v5, v6, v7]
      · rfl
      · exact absurd ⟨e, hk⟩ hn
    rw [hr] at CR
    obtain ⟨k1, k2⟩ := (chan_iff c).1 hk
    have d1 : decide (c < 0) = false := by simp; omega
    have d2 : decide (4 ≤ c) = false := by simp; omega
    clear hn hk hr
    go_enter Try.func39, Try.ntmps39
    go_wp2_with (go_at_call 56; refine CR.mono ?_; rintro e w1 ⟨rfl, b1⟩
                 have B1 := Lib.hid (grow_from BA.out b1 (by simp)); clear b1)
    go_ret2
    exact retCE_nil HE.out HZ.out B1.out
  · have hc : c < 0 ∨ 4 ≤ c := by
      rw [chan_iff] at hk; omega
    clear hn hk CR
    by_cases h1 : c < 0
    · have d1 : decide (c < 0) = true := by simpa using h1
      go_enter Try.func39, Try.ntmps39
      go_wp2
      go_ret2
      exact retCE_nil HE.out HZ.out BA.out
    · have d1 : decide (c < 0) = false := by simpa using h1
      have d2 : decide (4 ≤ c) = true := by simp; omega
      go_enter Try.func39, Try.ntmps39
      go_wp2
      go_ret2
      exact retCE_nil HE.out HZ.out BA.out
theorem enc_any (c s v0 v1 v2 v3 v4 v5 v6 v7 : Int) (w : World) : Calls Try.prog 39 #[.int .i64 c, .agg #[.int .i64 s, .int .i64 v0, .int .i64 v1, .int .i64 v2, .int .i64 v3, .int .i64 v4, .int .i64 v5, .int .i64 v6, .int .i64 v7]] w (RetCE w (enc c s [v0, v1, v2, v3, v4, v5, v6, v7]) (encE c s [v0, v1, v2, v3, v4, v5, v6, v7])) := by
  by_cases h : right s [v0, v1, v2, v3, v4, v5, v6, v7] = true ∧ chan c = true
  · exact enc_yes_any c s v0 v1 v2 v3 v4 v5 v6 v7 w h.1 h.2
  · exact enc_no_any c s v0 v1 v2 v3 v4 v5 v6 v7 w h
end Fm
end Go.Proofs.Ytpamegkbhdbheaa
