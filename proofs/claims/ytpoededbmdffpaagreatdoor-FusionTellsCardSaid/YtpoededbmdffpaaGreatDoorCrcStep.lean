/-
  What the closure inside More of package crc does, for every sum of 16 bits and every byte: a contract by walking the Go text. Its conditions: where the sum lies.
-/
import Derived.Test.YtpoededbmdffpaaGreatDoorCrcMath2
import Derived.Test.YtpoededbmdffpaaGreatDoorRow
import Derived.Deep.LoopGhost
import Derived.IntWalk
import Derived.WalkSmall
import Derived.Laws.BitsAll
namespace Go.Proofs.YtpoededbmdffpaaGreatDoor
set_option maxRecDepth 100000
open Go.ChangeShapes Go.WideShapes Go.ChangeAt Go.RowKit Go.Deep
namespace Cr
set_option maxHeartbeats 800000 in
theorem step_any (g s c : Nat) (w : World) (hs : s < 65536) (hc : c < 256) (hg : IRow .i64 w g 3 [(s : Int)]) :
    Calls Tryz.prog 188 #[.int .u8 c, .pointer (some ⟨g, 0, none⟩)] w fun e w' => e = .returned (.tuple #[]) ∧ IRow .i64 w' g 3 [((feed s c : Nat) : Int)] ∧ Below g w w' := by
  have hcell : w.cell? ⟨g, 0, none⟩ = some (.int .i64 (s : Int)) := hg.cell 0 (by simp)
  have hfr := hg.frozen 0
  go_enter Tryz.func188, Tryz.ntmps188
  go_wp2
  go_loopg [9] 8 (fun gg s9 wr => ∃ k : Nat, k + gg = 8 ∧ s9 = .int .i64 k ∧ Hid (IRow .i64 wr g 3 [((bits k (s ^^^ (256 * c)) : Nat) : Int)]) ∧ Hid (Below g w wr))
  case atStart =>
    have R0 := hg.set 0 (((s ^^^ (256 * c) : Nat) : Int))
    rw [xor_byte s c hs hc]
    exact ⟨0, by omega, rfl, Lib.hid R0, Lib.hid ((Below.refl g w).setCell (Nat.le_refl _) _)⟩
  case round =>
    obtain ⟨k, hkg, rfl, R, B⟩ := hrel
    have hx := bits_lt k (s ^^^ (256 * c)) (xor_lt hs (by omega))
    have hcl : wr.cell? ⟨g, 0, none⟩ = some (.int .i64 ((bits k (s ^^^ (256 * c)) : Nat) : Int)) := R.out.cell 0 (by simp)
    have hfz := R.out.frozen 0
    have HX := Lib.hid (bits_succ k (s ^^^ (256 * c)))
    by_cases hk : k < 8
    · generalize hX : bits k (s ^^^ (256 * c)) = x at *
      clear hX
      by_cases ht : 32768 ≤ x
      · have d := top_yes hx ht
        have E := Lib.hid (step_yes hx ht)
        go_wp2
        go_roundg (gk - 1)
        case rel => exact ⟨k + 1, by omega, by go_num, Lib.hid (by rw [HX.out, ← E.out]; exact (R.out.set 0 _).set 0 _), Lib.hid ((B.out.setCell (Nat.le_refl _) _).setCell (Nat.le_refl _) _)⟩
        case measure => omega
      · have d := top_no hx ht
        have E := Lib.hid (step_no hx ht)
        go_wp2
        go_roundg (gk - 1)
        case rel => exact ⟨k + 1, by omega, by go_num, Lib.hid (by rw [HX.out, ← E.out]; exact R.out.set 0 _), Lib.hid (B.out.setCell (Nat.le_refl _) _)⟩
        case measure => omega
    · obtain rfl : k = 8 := by omega
      go_wp2
      go_end0
      exact ⟨rfl, by rw [feed_def]; exact R.out, B.out⟩
end Cr
end Go.Proofs.YtpoededbmdffpaaGreatDoor
