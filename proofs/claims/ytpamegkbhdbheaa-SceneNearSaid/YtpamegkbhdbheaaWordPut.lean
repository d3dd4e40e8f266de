/-
  What write, Put2 and Put4 of package word do: contracts by walking the Go text. Conditions of write: a row of bytes that is known whole, and the piece of it.
-/
import Derived.Test.YtpamegkbhdbheaaJWordStep2
import Derived.Maps.AppendAt
import Derived.OwnWalk
namespace Go.Proofs.Ytpamegkbhdbheaa
set_option maxRecDepth 100000
open Go.ChangeShapes Go.WideShapes Go.ChangeAt Go.RowKit Go.Deep
namespace Wd
open Cr (Bytes)

theorem byteInfo : (Try.prog.info? 5).map (fun i => (i.zero, i.size, i.bytes)) = some (some (.int .u8 0), 1, 1) := by kernel_rfl
theorem intInfo : (Try.prog.info? 3).map (fun i => (i.zero, i.size, i.bytes)) = some (some (.int .i64 0), 1, 8) := by kernel_rfl
theorem zeros_cells8 (n : Nat) : (madeCells (Value.int .u8 0).cells (n * 1)).toList = cellsI .u8 (List.replicate n 0) := by
  have : (Value.int .u8 0).cells = #[Value.int .u8 0] := rfl
  rw [this, toList_madeCells_one]; simp [cellsI]
theorem grown_set (W : World) (g i : Nat) (v : Value) : W.grownBy (W.setCell ⟨g, i, none⟩ v) (some g) :=
  ⟨rfl, rfl, rfl, by simp, fun k _ hk => heap_setCell_other W ⟨g, i, none⟩ k v (fun e => hk (by simp [e]))⟩

set_option maxHeartbeats 800000 in
/-- A number's bytes are written into a piece of a row. -/
theorem write_any (g off m cap : Nat) (cur : List Int) (t : TypeId) (n : Int) (w : World) (hm : 0 < m ∧ m ≤ 4) (hg : IRow .u8 w g t cur) (hf : off + m ≤ cur.length) :
    Calls Try.prog 69 #[.slice (some ⟨g, off, none⟩) m cap, .int .i64 n] w fun e w' => e = .returned (.tuple #[]) ∧ IRow .u8 w' g t (splice cur off (wbytes n m)) ∧ w.grownBy w' (some g) := by
  have HG := Lib.hid hg
  clear hg
  go_enter Try.func69, Try.ntmps69
  go_wp2
  go_loopg [11] m (fun gg s11 wr => ∃ k : Nat, k + gg = m ∧ s11 = .int .i64 k ∧ Hid (IRow .u8 wr g t (splice cur off ((wbytes n m).take k))) ∧ Hid (w.grownBy wr (some g)))
  case atStart => exact ⟨0, by omega, rfl, Lib.hid (by rw [List.take_zero, splice_nil]; exact HG.out), Lib.hid (World.grownBy.refl w _)⟩
  case round =>
    obtain ⟨k, hkg, rfl, R, B⟩ := hrel
    by_cases hk : k < m
    · have hT : ((wbytes n m).take k).length = k := by rw [List.length_take, wbytes_len]; omega
      have hL : (splice cur off ((wbytes n m).take k)).length = cur.length := splice_len _ _ _ (by rw [hT]; omega)
      have hcl := R.out.cell (off + k) (by omega)
      have hfz := R.out.frozen (off + k)
      have HX := Lib.hid (wbytes_next n m k hk)
      have HS := Lib.hid (splice_next cur off ((wbytes n m).take k) (byteAt n (8 * (m - 1 - k))) (by rw [hT]; omega))
      rw [hT] at HS
      have hki : (k : Int) < (m : Int) := by omega
      generalize (splice cur off ((wbytes n m).take k)).getD (off + k) 0 = old at *
      go_wp2
      go_roundg (gk - 1)
      case rel => exact ⟨k + 1, by omega, by go_num, Lib.hid (by rw [HX.out, ← HS.out]; exact R.out.set (off + k) _), Lib.hid (B.out.trans (grown_set _ _ _ _))⟩
      case measure => omega
    · obtain rfl : k = m := by omega
      go_wp2
      go_end0
      have := R.out
      rw [List.take_of_length_le (by rw [wbytes_len]; omega)] at this
      exact ⟨rfl, this, B.out⟩

set_option maxHeartbeats 800000 in
theorem put2_any (n : Int) (w : World) :
    Calls Try.prog 57 #[.int .i64 n] w (RetI .u8 w (put2 n)) := by
  have C := counted_any n w
  obtain ⟨i0, hi0, hz0, hz1, hz2⟩ := info_parts byteInfo
  cases h : in2 n
  · rw [h] at C
    have HF := Lib.hid (put2_no h)
    go_enter Try.func57, Try.ntmps57
    go_wp2_with fail
    refine C.mono ?_; rintro e w1 ⟨rfl, rfl⟩
    go_wp2
    go_ret
    exact retI_nil HF.out (Below.refl _ _)
  · rw [h] at C
    have HF := Lib.hid (wbytes_2 h)
    have D := fun W (hr : IRow .u8 W w.heap.size 5 (List.replicate 2 0)) => write_any w.heap.size 0 2 2 (List.replicate 2 0) 5 n W (by omega) hr (by simp)
    go_enter Try.func57, Try.ntmps57
    go_wp2_with fail
    refine C.mono ?_; rintro e w1 ⟨rfl, rfl⟩
    go_wp2_with (first
      | (at_make; refine wpList_make_full _ rfl _ _ _ rfl w.heap.size 5 i0 (.int .u8 0) 1 Try.underlying42 hi0 hz0 hz1 .i64 .i64 _ _ 2 rfl rfl (by omega) (by omega) (by rw [hz2]; omega) (by unfold maxLen; omega) (Nat.le_refl _) ?_; intro w2 own1 grown1
         have R1 := Lib.hid (IRow.of_own own1 (zeros_cells8 _)); have B1 := Lib.hid ((Below.refl w.heap.size w).grown grown1 (Nat.le_refl _) (by simp)); clear own1 grown1)
      | (go_at_call 69; refine (D _ R1.out).mono ?_; rintro e w3 ⟨rfl, r3, b3⟩; have R3 := Lib.hid r3; have B3 := Lib.hid b3; clear r3 b3))
    go_ret
    have R4 := R3.out
    rw [splice_whole _ _ (by rw [wbytes_len]; simp), HF.out] at R4
    have hlen := wbytes_len n 2
    rw [HF.out] at hlen
    exact retI_mk rfl hlen R4.ints (B1.out.grown B3.out B1.out.size (fun k e => by cases e; exact Nat.le_refl _))

end Wd
end Go.Proofs.Ytpamegkbhdbheaa
