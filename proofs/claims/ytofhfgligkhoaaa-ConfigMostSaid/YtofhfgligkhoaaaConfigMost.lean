/-
  What Most of package config does: its contract by walking the Go text. No conditions.
-/
import Derived.Test.YtofhfgligkhoaaaConfigCovers
namespace Go.Proofs.Ytofhfgligkhoaaa
open Go.ChangeShapes Go.WideShapes Go.ChangeAt Go.RowKit Go.Deep
namespace Cf

/-- The steps: 2^30 down to 1, and 0 at the end. -/
def pw : Nat → Int
  | 0 => 0
  | n + 1 => 2 ^ n
theorem pw_half (g : Nat) : ((2 : Int) ^ g) / 2 = pw g := by
  cases g with
  | zero => rfl
  | succ n => rw [Int.pow_succ, Int.mul_ediv_cancel _ (by decide)]; rfl
theorem two_pos (g : Nat) : 1 ≤ (2 : Int) ^ g := by
  induction g with
  | zero => decide
  | succ n ih => rw [Int.pow_succ]; omega
theorem two_le (g : Nat) (h : g ≤ 30) : (2 : Int) ^ g ≤ 1073741824 := by
  have h1 : (2 : Nat) ^ g ≤ 2 ^ 30 := Nat.pow_le_pow_right (by decide) h
  have h2 : ((2 ^ g : Nat) : Int) ≤ ((2 ^ 30 : Nat) : Int) := Int.ofNat_le.2 h1
  simpa using h2

set_option maxHeartbeats 3200000 in
theorem most_any (c : List Int) (r : Int) (w : World) (hc : c.length = 21) :
    Calls Try.prog 15 #[.agg (CA c), .int .i64 r] w fun en w' => en = .returned (.int .i64 (room c r)) ∧ Below w.heap.size w w' := by
  have B0 := Lib.hid (Box.new w c)
  have b0 := Lib.hid ((Below.refl w.heap.size w).alloc (Nat.le_refl _) (.cells (CA c) 24))
  have CO := fun (e : Int) (he : 0 ≤ e) W => (covers_any c e r W hc).mono fun en w' q => (show en = .returned (.bool (decide (e ≤ room c r))) ∧ Below W.heap.size W w' from ⟨by rw [q.1, cov_room c e r he], q.2⟩)
  have hM := room_in c r
  generalize room c r = M at *
  go_enter Try.func15, Try.ntmps15
  go_wp2_with fail
  generalize w.alloc (.cells (CA c) 24) = W0 at *
  go_loopg [5, 6] 31 (fun gg s5 s6 wx => ∃ m : Int, s5 = .int .i64 m ∧ s6 = .int .i64 (pw gg) ∧ gg ≤ 31 ∧ -1 ≤ m ∧ m ≤ M ∧ Hid (M < m + 2 ^ gg) ∧ Hid (Box wx w.heap.size c) ∧ Hid (Below w.heap.size w wx))
  case atStart => exact ⟨-1, rfl, rfl, by omega, by omega, hM.1, Lib.hid (by have := hM.2; omega), B0, b0⟩
  case round =>
    obtain ⟨m, rfl, rfl, hg, hm1, hm2, HM, HB, Hb⟩ := hrel
    cases gk with
    | zero =>
      have hm : m = M := by have := HM.out; omega
      subst hm
      rw [show pw 0 = 0 from rfl]
      go_wp2_with fail
      go_ret
      exact ⟨rfl, Hb.out⟩
    | succ g =>
      have HP := Lib.hid (pw_half g)
      have hs1 := two_pos g
      have hs2 := two_le g (by omega)
      have HM2 := Lib.hid (show M < m + 2 * 2 ^ g by have := HM.out; rw [Int.pow_succ] at this; omega)
      rw [show pw (g + 1) = 2 ^ g from rfl]
      clear HM
      generalize hq : (2 : Int) ^ g = s at *
      have HQ := Lib.hid hq
      clear hq
      have C0 := CO (m + s) (by omega)
      by_cases hlt : m + s ≤ M
      · rw [show decide (m + s ≤ M) = true by simpa using hlt] at C0
        go_wp2_with (with_reducible show wpList _ _ _ (⟨some 11, _, _, _, _, _⟩ :: _) _ _; refine wpList_loadW rfl _ rfl w.heap.size c rfl HB.out hc ?_)
        refine (C0 _).mono ?_; rintro en w1 ⟨rfl, b1⟩
        go_wp2_with fail
        go_roundg g
        case rel => exact ⟨m + s, rfl, by rw [← HP.out], by omega, by omega, hlt, Lib.hid (by rw [HQ.out]; have := HM2.out; omega), Lib.hid (HB.out.on b1), Lib.hid (grow Hb.out b1)⟩
        case measure => omega
      · rw [show decide (m + s ≤ M) = false by simpa using hlt] at C0
        go_wp2_with (with_reducible show wpList _ _ _ (⟨some 11, _, _, _, _, _⟩ :: _) _ _; refine wpList_loadW rfl _ rfl w.heap.size c rfl HB.out hc ?_)
        refine (C0 _).mono ?_; rintro en w1 ⟨rfl, b1⟩
        go_wp2_with fail
        go_roundg g
        case rel => exact ⟨m, rfl, by rw [← HP.out], by omega, by omega, hm2, Lib.hid (by rw [HQ.out]; omega), Lib.hid (HB.out.on b1), Lib.hid (grow Hb.out b1)⟩
        case measure => omega
end Cf
end Go.Proofs.Ytofhfgligkhoaaa
