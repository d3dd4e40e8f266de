/-
  What PutAll of package word returns: a contract by walking the Go text (a range over the iterator fours). Conditions: where the numbers lie, and how many they are.
-/
import Derived.Test.YtpamegkbhdbheaaJWordFours2
namespace Go.Proofs.Ytpamegkbhdbheaa
set_option maxRecDepth 100000
open Go.ChangeShapes Go.WideShapes Go.ChangeAt Go.RowKit Go.Deep Go.Shelf
namespace Wd
open Cr (Bytes)
attribute [local go_sem] Oper.semAt_some

theorem take_all_next (l : List Int) (k : Nat) (h : k < l.length) : (l.take (k + 1)).all in4 = ((l.take k).all in4 && in4 (l.getD k 0)) := by
  rw [List.take_succ_eq_append_getElem h, List.all_append]; simp [List.getD_eq_getElem?_getD, h]

set_option maxHeartbeats 800000 in
theorem putAll_no_any (a : Option Addr) (cap : Nat) (l : List Int) (w : World) (hl : l.length ≤ 9223372036854775807) (hb : IntsAt .i64 w a l) (hno : l.all in4 = false) :
    Calls Try.prog 58 #[.slice a l.length cap] w (RetC .u8 w (putAll l)) := by
  have HF := Lib.hid (putAll_no hno)
  have HN := Lib.hid hno
  have HB := Lib.hid (hb.below ((Below.refl _ w).alloc (Nat.le_refl _) (.cells #[.slice a l.length cap] 80)))
  have HW := Lib.hid ((Below.refl _ w).alloc (Nat.le_refl _) (.cells #[.slice a l.length cap] 80))
  clear hb hno
  go_enter Try.func58, Try.ntmps58
  go_wp2
  generalize w.alloc (.cells #[.slice a l.length cap] 80) = w0 at *
  go_loopg [10] l.length (fun gg s10 wr => ∃ k : Nat, k + gg = l.length ∧ s10 = .int .i64 k ∧ Hid ((l.take k).all in4 = true) ∧ w0 = wr)
  case atStart => exact ⟨0, by omega, rfl, Lib.hid rfl, rfl⟩
  case round =>
    obtain ⟨k, hkg, rfl, HT, rfl⟩ := hrel
    by_cases hk : k < l.length
    · rcases HB.out with hnil | ⟨b, off, rfl, hc⟩
      · rw [hnil] at hk; simp at hk
      have hki : (k : Int) < (l.length : Int) := by omega
      have hcx := hc k hk
      have HX := Lib.hid (take_all_next l k hk)
      generalize l.getD k 0 = x at *
      clear hc
      have C := told_any x w0
      cases hx : in4 x
      · rw [hx] at C
        go_wp2_with (go_at_call 70; refine C.mono ?_; rintro e w2 ⟨rfl, rfl⟩)
        go_ret
        exact retC_nil HF.out HW.out
      · rw [hx] at C
        go_wp2_with (go_at_call 70; refine C.mono ?_; rintro e w2 ⟨rfl, rfl⟩)
        go_roundg (gk - 1)
        case rel => exact ⟨k + 1, by omega, by go_num, Lib.hid (by rw [HX.out, HT.out, hx]; rfl), rfl⟩
        case measure => omega
    · exfalso
      have := HT.out
      rw [List.take_of_length_le (by omega), HN.out] at this
      cases this

set_option maxRecDepth 100000 in
set_option maxHeartbeats 2000000 in
theorem putAll_yes_any (a : Option Addr) (cap N : Nat) (l : List Int) (w : World) (hl : l.length = N) (hN : N ≤ 100000000) (hb : IntsAt .i64 w a l) (hall : l.all in4 = true) :
    Calls Try.prog 58 #[.slice a N cap] w (RetC .u8 w (putAll l)) := by
  have e4 : ((4 * N : Nat) : Int) / 4 = (N : Int) := by omega
  have HA := Lib.hid hall
  have HB := Lib.hid hb
  clear hb hall
  obtain ⟨i0, hi0, hz0, hz1, hz2⟩ := info_parts byteInfo
  refine (callsIn_wide (n := 5)).1 ?_
  refine callsIn_of_wp_marks Try.func58 rfl trivial ?_ rfl
  simp only [Try.ntmps58, List.size_toArray, List.length_cons, List.length_nil, Nat.reduceAdd, Nat.reduceSub, Array.replicate_succ, Array.replicate_zero, List.push_toArray, List.append_toArray, List.nil_append, List.cons_append]
  gi_wp2
  have bX := Boxed.new w 80 (.slice a N cap)
  have hB0 := (Below.refl w.heap.size w).alloc (Nat.le_refl _) (.cells #[.slice a N cap] 80)
  have hsz : (w.alloc (.cells #[.slice a N cap] 80)).heap.size = w.heap.size + 1 := by simp
  generalize w.alloc (.cells #[.slice a N cap] 80) = w0 at *
  gi_loopw [10] (fun i wr => ∃ k : Nat, k ≤ N ∧ i = .int .i64 k ∧ w0 = wr) (fun i _ => N - (intOf i).toNat)
  case atStart => exact ⟨0, by omega, rfl, rfl⟩
  case round =>
    obtain ⟨k, hkN, rfl, rfl⟩ := hrel
    by_cases hk : k < N
    · rcases HB.out.below hB0 with hnil | ⟨b, off, rfl, hc⟩
      · rw [hnil] at hl; simp at hl; omega
      have hki : (k : Int) < (N : Int) := by omega
      have hcx := hc k (by omega)
      have C := told_any (l.getD k 0) w0
      rw [in4_at HA.out (by omega)] at C
      generalize l.getD k 0 = x at *
      clear hc
      gi_wp2_with (refine ⟨trivial, ?_⟩; gi_at_call 70; refine (callsIn_wide.2 C).mono ?_; rintro e w2 ⟨rfl, rfl⟩)
      go_roundw
      case rel => exact ⟨k + 1, by omega, by go_num, by trivial⟩
      case measure => simp [intOf]; omega
    · obtain rfl : k = N := by omega
      have hbc := bX.cell
      gi_wp2_with (first
        | (gi_at_make; refine wpListIn_make_full _ rfl _ _ _ rfl w0.heap.size 5 i0 (.int .u8 0) 1 Try.underlying42 hi0 hz0 hz1 .i64 .i64 _ _ (4 * k) rfl rfl (by omega) (by omega) (by rw [hz2]; omega) (by unfold maxLen; omega) (Nat.le_refl _) ?_; intro w1 own1 grown1
           have R1 := Lib.hid (IRow.of_own own1 (zeros_cells8 _)); have G1 := Lib.hid grown1; clear own1 grown1)
        | (refine ⟨trivial, ?_⟩; gi_at_call 64; refine (callsIn_wide.2 (fours_any _ _ _ _)).mono ?_; rintro e w2 ⟨rfl, rfl⟩))
      have hR1 := R1.out
      rw [hsz] at hR1
      have hlt1 : w.heap.size + 1 < w1.heap.size := hR1.lt
      have bX1 : Boxed w1 w.heap.size 80 (.slice a k cap) := bX.kept G1.out (by simp)
      have hB1 : Below w.heap.size w w1 := hB0.grown G1.out hB0.size (by simp)
      have bS := Boxed.new w1 42 (.slice (some ⟨w.heap.size + 1, 0, none⟩) (4 * k) (4 * k))
      have bX2 := bX1.alloc (.cells #[.slice (some ⟨w.heap.size + 1, 0, none⟩) (4 * k) (4 * k)] 42)
      have hR2 := hR1.alloc (.cells #[.slice (some ⟨w.heap.size + 1, 0, none⟩) (4 * k) (4 * k)] 42)
      have hB2 := hB1.alloc (by omega) (.cells #[.slice (some ⟨w.heap.size + 1, 0, none⟩) (4 * k) (4 * k)] 42)
      have hsz2 : (w1.alloc (.cells #[.slice (some ⟨w.heap.size + 1, 0, none⟩) (4 * k) (4 * k)] 42)).heap.size = w1.heap.size + 1 := by simp
      clear hR1 R1 G1 bX1 hB1 bX hB0 hsz hbc
      generalize w1.alloc (.cells #[.slice (some ⟨w.heap.size + 1, 0, none⟩) (4 * k) (4 * k)] 42) = W0 at *
      refine wpIn_rangeFunc_ownG rfl (by omega) (gf := 74) (lb := #[.pointer (some ⟨w1.heap.size, 0, none⟩)]) rfl trivial (enters_of Try.func74 (by kernel_rfl) rfl)
        (fours_stops _ (by omega) w1.heap.size (w.heap.size + 1) 0 (4 * k) k (some ⟨w.heap.size + 1, 0, none⟩) (fun _ => rfl) (by omega) (Nat.le_refl _) W0 (by omega) bS.cell) KeepAt.trans (KeepAt.put (by omega)) (Below.refl _ _) (fun _ => rfl)
        (fun pre W => (IRow .u8 W (w.heap.size + 1) 5 (fillB l (pre.map Fin.val)) ∧ (Boxed W w.heap.size 80 (.slice a k cap) ∧ Boxed W w1.heap.size 42 (.slice (some ⟨w.heap.size + 1, 0, none⟩) (4 * k) (4 * k)))) ∧ Below w.heap.size w W)
        (fun _ _ _ => False)
        (OwnFrom.and (OwnFrom.and (Own.from (irow_own _ _ _ _) _) (OwnFrom.and (Own.from (boxed_own _ _ _) _) (Own.from (boxed_own _ _ _) _))) (ownFrom_below (Nat.le_refl _) (by omega)))
        (fun _ _ _ _ _ hs _ _ => hs)
        ⟨⟨by simpa [fillB, hl] using hR2, bX2, bS⟩, hB2⟩
        (fun x => { tmps := #[.slice a k cap, .pointer (some ⟨w.heap.size, 0, none⟩), u2, undef, u4, .slice (some ⟨w.heap.size + 1, 0, none⟩) (4 * k) (4 * k), .int .i64 (x.val : Int), .slice (some ⟨w.heap.size + 1, 0 + 4 * x.val, none⟩) 4 4, .slice a k cap, .int .i64 k, .int .i64 k, .bool false, u12, u13, u14, u15, u16, u17, .slice a k cap, .int .i64 k, .int .i64 (4 * k), .slice (some ⟨w.heap.size + 1, 0, none⟩) (4 * k) (4 * k), .slice (some ⟨w.heap.size + 1, 0, none⟩) (4 * k) (4 * k), .func (.func 74) #[] #[.pointer (some ⟨w1.heap.size, 0, none⟩)], .int .i64 (x.val : Int), .slice (some ⟨w.heap.size + 1, 0 + 4 * x.val, none⟩) 4 4, undef, undef, undef, undef, undef, undef, undef], defers := [] }) ?assign ?body ?done ?stop
      case assign =>
        intro l x W K hK
        dsimp only [encs]
        gi_wp2
        simpa using hK
      case body =>
        rintro lp pre x W ⟨⟨hR, hBx, hBy⟩, hB⟩ _
        have hx := x.isLt
        obtain ⟨i, hi⟩ : ∃ i, i = x.val := ⟨_, rfl⟩
        have HS := Lib.hid (show fillB l ((pre ++ [x]).map Fin.val) = splice (fillB l (pre.map Fin.val)) (4 * x.val) (put4 (l.getD x.val 0)) by rw [List.map_append]; exact fillB_snoc l (pre.map Fin.val) x.val)
        have hL := fillB_len HA.out (pre.map Fin.val) (fun j hj => by obtain ⟨y, _, rfl⟩ := List.mem_map.1 hj; have := y.isLt; omega)
        rw [← hi] at hx HS ⊢
        have hbc := hBx.cell
        have hxi : (i : Int) < (k : Int) := by omega
        rcases HB.out.below hB with hnil | ⟨b, off, rfl, hc⟩
        · rw [hnil] at hl; simp at hl; omega
        have hcx := hc i (by omega)
        have h4 := in4_at HA.out (show i < l.length by omega)
        have C := write_any (w.heap.size + 1) (4 * i) 4 4 (fillB l (pre.map Fin.val)) 5 (l.getD i 0) W (by omega) hR (by omega)
        rw [wbytes_4 h4, ← HS.out] at C
        have HBx := Lib.hid hBx
        have HBy := Lib.hid hBy
        have HBB := Lib.hid hB
        have HC := Lib.hid (fun o (ho : W.heap[w.heap.size + 1]? = some o) => show o.isCells = true by rw [show W.heap[w.heap.size + 1]? = _ from hR] at ho; cases ho; rfl)
        clear hR hBx hBy hB hi hc HS hL h4
        generalize l.getD i 0 = y at *
        gi_wp2_with (refine ⟨trivial, ?_⟩; gi_at_call 69; refine (CallsIn.inRound lp (callsIn_wide.2 C)).mono ?_; rintro e w3 ⟨rfl, r3, g3⟩; have R3 := Lib.hid r3; have G3 := Lib.hid g3; clear r3 g3)
        exact ⟨(KeepsOthers.of_grownBy G3.out (fun j o ej hj => by cases ej; exact HC.out o hj)).from _, G3.out.block w1.heap.size HBy.out.lt (by simp; omega), ⟨R3.out, HBx.out.kept G3.out (by simp), HBy.out.kept G3.out (by simp; omega)⟩, HBB.out.grown G3.out HBB.out.size (fun k e => by cases e; omega)⟩
      case done =>
        rintro D ys W hD hys ⟨⟨hR, hBx⟩, hB⟩ hK
        gi_wp2
        refine ⟨by simp, .inl ⟨_, _, rfl, run_takeDeferred hK, ?_⟩⟩
        have hall := fillB_all HA.out
        rw [hl] at hall
        have hlen : (putAll l).length = 4 * k := by rw [← hall]; have := fillB_len HA.out (List.range k) (fun j hj => by have := List.mem_range.1 hj; omega); omega
        have R' : IRow .u8 (W.putObj D (.deferred none)) (w.heap.size + 1) 5 (putAll l) := by
          rw [hys, hall] at hR
          exact (World.putObj_heap_other (by omega)).trans hR
        refine ⟨_, results_tmp rfl _ _ _, ?_⟩
        exact retC_mk rfl hlen (Nat.le_refl _) R'.ints (hB.trans (belowK_b (w := w) (Nat.le_refl _) W D _ _ (by omega) hK rfl rfl))
      case stop =>
        rintro D c pre W _ _ h _
        exact h.elim

theorem putAll_any (a : Option Addr) (cap : Nat) (l : List Int) (w : World) (hl : l.length ≤ 100000000) (hb : IntsAt .i64 w a l) :
    Calls Try.prog 58 #[.slice a l.length cap] w (RetC .u8 w (putAll l)) := by
  cases h : l.all in4
  · exact putAll_no_any a cap l w (by omega) hb h
  · exact putAll_yes_any a cap l.length l w rfl hl hb h
end Wd
end Go.Proofs.Ytpamegkbhdbheaa
