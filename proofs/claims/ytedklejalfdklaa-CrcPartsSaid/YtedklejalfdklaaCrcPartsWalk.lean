/-
  The walk of the law CrcParts: for all bytes and every cut it returns true, and writes nothing that was there. No conditions.
-/
import Derived.Test.YtedklejalfdklaaCrcAlive
namespace Go.Proofs.Ytedklejalfdklaa
open Go.ChangeShapes Go.WideShapes Go.ChangeAt Go.RowKit Go.Deep
namespace crcParts
open Cr

theorem cut_in (c n : Nat) : c % (n + 1) ≤ n := by have := Nat.mod_lt c (show 0 < n + 1 by omega); omega
theorem more_parts (l : List Int) (k : Nat) : moreI ((sum (l.take k) : Nat) : Int) (l.drop k) = ((sum l : Nat) : Int) := by
  rw [moreI_in _ _ (sum_lt _), sum_parts]

set_option maxHeartbeats 1600000 in
theorem walk (a : Option Addr) (cap : Nat) (l : List Int) (c : Int) (w : World) (m0 : l.length ≤ maxLen) (c0 : l.length ≤ cap ∧ cap ≤ maxLen) (_z : cap * 1 ≤ 140737488351232) (f0 : ∀ n ∈ l, (Lit.int .u8 n).wf = true) (hb : IntsAt .u8 w a l) (w1 : (Lit.int .u16 c).wf = true) :
    Calls Try.prog 4 #[.slice a l.length cap, .int .u16 c] w fun e w' => e = .returned (.bool true) ∧ Below w.heap.size w w' := by
  unfold maxLen at m0 c0
  obtain ⟨c1, c2⟩ := c0
  have hc16 : 0 ≤ c ∧ c ≤ 65535 := by
    simp only [Lit.wf, Bool.and_eq_true, decide_eq_true_eq] at w1
    have hmin : IntKind.u16.min = 0 := rfl
    have hmax : IntKind.u16.max = 65535 := rfl
    omega
  clear w1
  by_cases h300 : 300 < l.length
  · go_enter Try.func4, Try.ntmps4
    go_wp2_with fail
    refine (alive_any _).mono ?_; rintro e w5 ⟨rfl, b5⟩
    go_wp2
    go_ret
    exact ⟨rfl, b5⟩
  · have d0 : decide (300 < (l.length : Int)) = false := by simp; omega
    have hy := bytes_wf f0
    have HB := Lib.hid hb
    have t5 := fun W (h : IntsAt .u8 W a l) => sum_any a cap l W (by omega) hy h
    obtain ⟨k, hk⟩ : ∃ k : Nat, c % ((l.length : Int) + 1) = k := ⟨(c % ((l.length : Int) + 1)).toNat, by have := Int.emod_nonneg c (show (l.length : Int) + 1 ≠ 0 by omega); omega⟩
    have hkl : k ≤ l.length := by have := Int.emod_lt_of_pos c (show 0 < (l.length : Int) + 1 by omega); omega
    have hT : (l.take k).length = k := by rw [List.length_take]; omega
    have hD : (l.drop k).length = l.length - k := by rw [List.length_drop]
    have HM := Lib.hid (more_parts l k)
    have hS := sum_lt l
    have t6 := fun W (h : IntsAt .u8 W a (l.take k)) => sum_any a cap (l.take k) W (by omega) (hy.take k) h
    rw [hT] at t6
    have t7 := fun W a' cap' (h : IntsAt .u8 W a' (l.drop k)) => more_any a' cap' (l.drop k) ((sum (l.take k) : Nat) : Int) W (by omega) (hy.drop k) h
    rw [more_parts, hD] at t7
    have HY := Lib.hid hy
    clear hb f0 hy
    generalize sum (l.take k) = S2 at *
    generalize sum l = S at *
    go_enter Try.func4, Try.ntmps4
    go_wp2_with fail
    refine (t5 _ HB.out).mono ?_; rintro e w1 ⟨rfl, b1⟩
    have g1 := Lib.hid b1; clear b1 t5
    go_wp2_with fail
    have q0 : decide (0 ≤ (S : Int)) = true := by simp
    have q1 : decide ((S : Int) ≤ 65535) = true := by simp; omega
    have e1 : (k : Int) ≤ (cap : Int) := by omega
    have e2 : 0 ≤ (k : Int) := by omega
    have e3 : (k : Int) ≤ (l.length : Int) := by omega
    have cA := reg_call (w := w1) (fun W _ => alive_any W)
    have I1 := HB.out.below g1.out
    have cS := reg_call (w := w1) (fun W hW => t6 W ((I1.below hW).take k))
    by_cases hlt : k < l.length
    · rcases I1 with hno | ⟨b, off, rfl, hc⟩
      · rw [hno] at hlt; simp at hlt
      have e4 : ¬ cap = k := by omega
      have cM := reg_call (w := w1) (fun W hW => t7 W (some ⟨b, off + k, none⟩) (cap - k) ((intsAt_drop k hc).below hW))
      clear t6 t7 hc HM HY hT hD hkl hlt hk
      refine wp_region_quiet_below (by kernel_rfl) (by kernel_rfl) ?_
      repeat (go_big_quiet_step (first | exact cA _ _ | exact cS _ _ | exact cM _ _))
      refine wpQuiet_nil ?_
      intro _ hw'
      obtain ⟨⟨dq, osq⟩, hw''⟩ := hw'
      subst hw''
      go_wp2
      go_ret
      exact ⟨rfl, grow g1.out (below_regrown w1 dq osq)⟩
    · have hkk : k = l.length := by omega
      have cM := fun a' cap' => reg_call (w := w1) (fun W _ => t7 W a' cap' (Or.inl (by rw [hkk]; exact List.drop_length)))
      have z : l.length - k = 0 := by omega
      rw [z] at cM
      clear t6 t7 HM HY hT hD hkl hlt hk I1
      subst hkk
      rcases a with _ | ad
      · refine wp_region_quiet_below (by kernel_rfl) (by kernel_rfl) ?_
        repeat (go_big_quiet_step (first | exact cA _ _ | exact cS _ _ | exact cM _ _ _ _))
        refine wpQuiet_nil ?_
        intro _ hw'
        obtain ⟨⟨dq, osq⟩, hw''⟩ := hw'
        subst hw''
        go_wp2
        go_ret
        exact ⟨rfl, grow g1.out (below_regrown w1 dq osq)⟩
      · by_cases hcp : cap = l.length
        · subst hcp
          refine wp_region_quiet_below (by kernel_rfl) (by kernel_rfl) ?_
          repeat (go_big_quiet_step (first | exact cA _ _ | exact cS _ _ | exact cM _ _ _ _))
          refine wpQuiet_nil ?_
          intro _ hw'
          obtain ⟨⟨dq, osq⟩, hw''⟩ := hw'
          subst hw''
          go_wp2
          go_ret
          exact ⟨rfl, grow g1.out (below_regrown w1 dq osq)⟩
        · refine wp_region_quiet_below (by kernel_rfl) (by kernel_rfl) ?_
          repeat (go_big_quiet_step (first | exact cA _ _ | exact cS _ _ | exact cM _ _ _ _))
          refine wpQuiet_nil ?_
          intro _ hw'
          obtain ⟨⟨dq, osq⟩, hw''⟩ := hw'
          subst hw''
          go_wp2
          go_ret
          exact ⟨rfl, grow g1.out (below_regrown w1 dq osq)⟩
end crcParts
end Go.Proofs.Ytedklejalfdklaa
