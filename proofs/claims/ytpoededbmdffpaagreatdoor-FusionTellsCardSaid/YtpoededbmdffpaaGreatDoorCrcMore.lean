/-
  What More and Sum of package crc return, for every argument: contracts by walking the Go text. Their conditions: where the bytes lie.
-/
import Derived.Test.YtpoededbmdffpaaGreatDoorCrcStep
namespace Go.Proofs.YtpoededbmdffpaaGreatDoor
set_option maxRecDepth 100000
open Go.ChangeShapes Go.WideShapes Go.ChangeAt Go.RowKit Go.Deep
namespace Cr
theorem ret_int {k : IntKind} {n m : Int} (h : n = m) : Ending.returned (.int k n) = .returned (.int k m) := by rw [h]
set_option maxHeartbeats 800000 in
theorem more_any (a : Option Addr) (cap : Nat) (l : List Int) (s : Int) (w : World) (hl : l.length ≤ 9223372036854775807) (hy : Bytes l) (hb : IntsAt .u8 w a l) :
    Calls Tryz.prog 149 #[.int .i64 s, .slice a l.length cap] w fun e w' => e = .returned (.int .i64 (moreI s l)) ∧ Below w.heap.size w w' := by
  by_cases hin : 0 ≤ s ∧ s ≤ 65535
  · obtain ⟨n, rfl⟩ := Int.eq_ofNat_of_zero_le hin.1
    have hn : n < 65536 := by omega
    have HM := Lib.hid (moreI_in n l hn)
    have HY := Lib.hid hy
    have HB := Lib.hid hb
    clear hy hb
    have d1 : decide ((n : Int) < 0) = false := by simp
    have d2 : decide (65535 < (n : Int)) = false := by simp; omega
    go_enter Tryz.func149, Tryz.ntmps149
    go_wp2
    go_loopg [17] l.length (fun gg s17 wr => ∃ k : Nat, k + gg = l.length ∧ s17 = .int .i64 k ∧ Hid (IRow .i64 wr w.heap.size 3 [((upto n l k : Nat) : Int)]) ∧ Hid (Below w.heap.size w wr))
    case atStart => exact ⟨0, by omega, rfl, Lib.hid (by rw [upto_0]; exact heap_alloc_new w _), Lib.hid ((Below.refl _ w).alloc (Nat.le_refl _) _)⟩
    case round =>
      obtain ⟨k, hkg, rfl, R, B⟩ := hrel
      by_cases hk : k < l.length
      · rcases HB.out with hnil | ⟨b, off, rfl, hc⟩
        · rw [hnil] at hk; simp at hk
        have hki : (k : Int) < (l.length : Int) := by omega
        have hcx := (B.out.cell (p := ⟨b, off + k, none⟩) (cell_lt (hc k hk))).trans (hc k hk)
        have hg := HY.out.getD k
        have HU := Lib.hid (upto_succ n l k hk)
        obtain ⟨c, hcc⟩ := Int.eq_ofNat_of_zero_le hg.1
        rw [hcc] at hcx hg HU
        have C := step_any w.heap.size (upto n l k) c wr (upto_lt _ _ _ hn) (by omega) R.out
        clear hc hcc
        go_wp2_with (go_at_call 188; refine C.mono ?_; rintro e w2 ⟨rfl, r2, b2⟩; have R2 := Lib.hid r2; have B2 := Lib.hid b2; clear r2 b2)
        go_roundg (gk - 1)
        case rel => exact ⟨k + 1, by omega, by go_num, Lib.hid (by rw [HU.out]; exact R2.out), Lib.hid (B.out.trans B2.out)⟩
        case measure => omega
      · obtain rfl : k = l.length := by omega
        have hcl : wr.cell? ⟨w.heap.size, 0, none⟩ = some (.int .i64 ((upto n l l.length : Nat) : Int)) := R.out.cell 0 (by simp)
        go_wp2
        go_ret
        exact ⟨ret_int (by rw [HM.out, ← upto_all]), B.out⟩
  · have HM := Lib.hid (moreI_out s l hin)
    clear hy hb
    by_cases h0 : s < 0
    · have d1 : decide (s < 0) = true := by simpa using h0
      go_enter Tryz.func149, Tryz.ntmps149
      go_wp2
      go_ret
      exact ⟨ret_int HM.out.symm, (Below.refl _ w).alloc (Nat.le_refl _) _⟩
    · have d1 : decide (s < 0) = false := by simpa using h0
      have d2 : decide (65535 < s) = true := by simp; omega
      go_enter Tryz.func149, Tryz.ntmps149
      go_wp2
      go_ret
      exact ⟨ret_int HM.out.symm, (Below.refl _ w).alloc (Nat.le_refl _) _⟩
theorem moreI_sum (l : List Int) : moreI 65535 l = (sum l : Nat) := moreI_in 65535 l (by omega)
theorem sum_any (a : Option Addr) (cap : Nat) (l : List Int) (w : World) (hl : l.length ≤ 9223372036854775807) (hy : Bytes l) (hb : IntsAt .u8 w a l) :
    Calls Tryz.prog 102 #[.slice a l.length cap] w fun e w' => e = .returned (.int .i64 ((sum l : Nat) : Int)) ∧ Below w.heap.size w w' := by
  have C := more_any a cap l 65535 w hl hy hb
  rw [moreI_sum] at C
  go_enter Tryz.func102, Tryz.ntmps102
  go_wp2_with fail
  refine C.mono ?_; rintro e w1 ⟨rfl, b1⟩
  go_wp2
  go_ret
  exact ⟨rfl, b1⟩
end Cr
end Go.Proofs.YtpoededbmdffpaaGreatDoor
