/-
  The walk of the law FixBetween: for all ints it returns true, and writes nothing that was there. No conditions.
-/
import Derived.Test.YtbdncfonmomchaaFixRef
namespace Go.Proofs.Ytbdncfonmomchaa.fixBetween
open Go.ChangeShapes Go.WideShapes Go.ChangeAt Go.RowKit
open Fx

def ab (a b : Int) : Int := if a < b then b - a else a - b
theorem ab_eq (a b v : Int) (h : (a ≤ b ∧ v = b - a) ∨ (b ≤ a ∧ v = a - b)) : ab a b = v := by
  unfold ab; split <;> omega
theorem apart_ab (a b v : Int) (h1 : -1099511627776 ≤ a ∧ a ≤ 1099511627776) (h2 : -1099511627776 ≤ b ∧ b ≤ 1099511627776) (h : (a ≤ b ∧ v = b - a) ∨ (b ≤ a ∧ v = a - b)) : Hid (apart a b = v) := by
  have := ab_eq a b v h
  unfold ab at this
  unfold apart; rw [if_pos ⟨(sm_iff _).2 h1, (sm_iff _).2 h2⟩]; exact this
theorem wi_lo (n lo hi : Int) (h : n < lo) : within n lo hi = lo := by unfold within; rw [if_pos (Or.inr h)]
theorem wi_hi (n lo hi : Int) (h : lo ≤ hi) (h2 : hi < n) : within n lo hi = hi := by unfold within; rw [if_neg (by omega), if_pos h2]
theorem wi_in (n lo hi : Int) (h : lo ≤ n) (h2 : n ≤ hi) : within n lo hi = n := by unfold within; rw [if_neg (by omega), if_neg (by omega)]
theorem clamp_at (n lo hi v : Int) (h0 : -1099511627776 ≤ n ∧ n ≤ 1099511627776) (h1 : -1099511627776 ≤ lo ∧ lo ≤ 1099511627776) (h2 : -1099511627776 ≤ hi ∧ hi ≤ 1099511627776) (h : within n lo hi = v) : Hid (clamp n lo hi = v) := by
  unfold clamp; rw [if_pos ⟨(sm_iff _).2 h0, (sm_iff _).2 h1, (sm_iff _).2 h2⟩]; exact h
theorem near_at (n to b v : Int) (h0 : -1099511627776 ≤ n ∧ n ≤ 1099511627776) (h1 : -1099511627776 ≤ to ∧ to ≤ 1099511627776) (h2 : 0 ≤ b ∧ b ≤ 1099511627776) (h : within to (n - b) (n + b) = v) : Hid (near n to b = v) := by
  unfold near; rw [if_pos ⟨(sm_iff _).2 h0, (sm_iff _).2 h1, (sm_iff _).2 (by omega)⟩, if_neg (by omega)]; exact h

theorem vals (a0 a1 a2 : Int) (z0 : -1099511627776 ≤ a0 ∧ a0 ≤ 1099511627776) (z1 : -1099511627776 ≤ a1 ∧ a1 ≤ 1099511627776) (z2 : -1099511627776 ≤ a2 ∧ a2 ≤ 1099511627776) (h : a1 ≤ a2) :
    ∃ c : Int, Hid (clamp a0 a1 a2 = c) ∧ Hid (clamp c a1 a2 = c) ∧ ((a1 ≤ a0 ∧ a0 ≤ a2 ∧ c = a0) ∨ (a0 < a1 ∧ c = a1) ∨ (a2 < a0 ∧ c = a2)) := by
  by_cases g1 : a0 < a1
  · exact ⟨a1, clamp_at _ _ _ _ z0 z1 z2 (wi_lo _ _ _ g1), clamp_at _ _ _ _ z1 z1 z2 (wi_in _ _ _ (by omega) h), by omega⟩
  · by_cases g2 : a2 < a0
    · exact ⟨a2, clamp_at _ _ _ _ z0 z1 z2 (wi_hi _ _ _ h g2), clamp_at _ _ _ _ z2 z1 z2 (wi_in _ _ _ h (by omega)), by omega⟩
    · exact ⟨a0, clamp_at _ _ _ _ z0 z1 z2 (wi_in _ _ _ (by omega) (by omega)), clamp_at _ _ _ _ z0 z1 z2 (wi_in _ _ _ (by omega) (by omega)), by omega⟩
theorem moves (a0 a1 b : Int) (z0 : -1099511627776 ≤ a0 ∧ a0 ≤ 1099511627776) (z1 : -1099511627776 ≤ a1 ∧ a1 ≤ 1099511627776) (z2 : 0 ≤ b ∧ b ≤ 1099511627776) :
    ∃ m far mv : Int, Hid (near a0 a1 b = m) ∧ Hid (apart a0 a1 = far) ∧ Hid (apart a0 m = mv) ∧ Hid (apart a1 a0 = far) ∧ Hid (apart m a1 = far - mv) ∧
      ((a0 ≤ a1 ∧ a1 - a0 ≤ b ∧ m = a1 ∧ far = a1 - a0 ∧ mv = a1 - a0) ∨ (a0 ≤ a1 ∧ b < a1 - a0 ∧ m = a0 + b ∧ far = a1 - a0 ∧ mv = b) ∨
       (a1 < a0 ∧ a0 - a1 ≤ b ∧ m = a1 ∧ far = a0 - a1 ∧ mv = a0 - a1) ∨ (a1 < a0 ∧ b < a0 - a1 ∧ m = a0 - b ∧ far = a0 - a1 ∧ mv = b)) := by
  by_cases g1 : a0 ≤ a1
  · by_cases g2 : a1 - a0 ≤ b
    · exact ⟨a1, a1 - a0, a1 - a0, near_at _ _ _ _ z0 z1 z2 (wi_in _ _ _ (by omega) (by omega)), apart_ab _ _ _ z0 z1 (by omega), apart_ab _ _ _ z0 z1 (by omega), apart_ab _ _ _ z1 z0 (by omega), apart_ab _ _ _ z1 z1 (by omega), by omega⟩
    · exact ⟨a0 + b, a1 - a0, b, near_at _ _ _ _ z0 z1 z2 (wi_hi _ _ _ (by omega) (by omega)), apart_ab _ _ _ z0 z1 (by omega), apart_ab _ _ _ z0 (by omega) (by omega), apart_ab _ _ _ z1 z0 (by omega), apart_ab _ _ _ (by omega) z1 (by omega), by omega⟩
  · by_cases g2 : a0 - a1 ≤ b
    · exact ⟨a1, a0 - a1, a0 - a1, near_at _ _ _ _ z0 z1 z2 (wi_in _ _ _ (by omega) (by omega)), apart_ab _ _ _ z0 z1 (by omega), apart_ab _ _ _ z0 z1 (by omega), apart_ab _ _ _ z1 z0 (by omega), apart_ab _ _ _ z1 z1 (by omega), by omega⟩
    · exact ⟨a0 - b, a0 - a1, b, near_at _ _ _ _ z0 z1 z2 (wi_lo _ _ _ (by omega)), apart_ab _ _ _ z0 z1 (by omega), apart_ab _ _ _ z0 (by omega) (by omega), apart_ab _ _ _ z1 z0 (by omega), apart_ab _ _ _ (by omega) z1 (by omega), by omega⟩

set_option maxHeartbeats 1600000 in
theorem wide (a0 a1 a2 : Int) (w : World) (hs : (sm a0 && sm a1 && sm a2) = true)
    (z0 : -1099511627776 ≤ a0 ∧ a0 ≤ 1099511627776) (z1 : -1099511627776 ≤ a1 ∧ a1 ≤ 1099511627776) (z2 : -1099511627776 ≤ a2 ∧ a2 ≤ 1099511627776)
    (h1 : a1 ≤ a2) (hby : 1099511627776 < a2 - a1) :
    Calls Try.prog 6 #[.int .i64 a0, .int .i64 a1, .int .i64 a2] w fun e w' => e = .returned (.bool true) ∧ Below w.heap.size w w' := by
  obtain ⟨c, HC, HC2, hc⟩ := vals a0 a1 a2 z0 z1 z2 h1
  have d1 : decide (a2 < a1) = false := by simp; omega
  have c1 : decide (c < a1) = false := by simp; omega
  have c2 : decide (a2 < c) = false := by simp; omega
  rcases hc with ⟨g1, g2, hc⟩ | ⟨g1, hc⟩ | ⟨g1, hc⟩
  · have e1 : decide (a0 < a1) = false := by simp; omega
    have e2 : decide (a2 < a0) = false := by simp; omega
    have e3 : (c != a0) = false := by simp; omega
    clear hc
    go_enter Try.func6, Try.ntmps6
    go_wp2_with fail
    refine (rall3 _ _ _ _ _).mono ?_; rintro e w' ⟨rfl, rfl⟩
    rw [hs]
    go_wp2_with fail
    refine (clamp_any _ _ _ _).mono ?_; rintro e w' ⟨rfl, rfl⟩
    rw [HC.out]
    go_wp2_with fail
    refine (clamp_any _ _ _ _).mono ?_; rintro e w' ⟨rfl, rfl⟩
    rw [HC2.out]
    go_wp2_with fail
    refine (alive_any _).mono ?_; rintro e w5 ⟨rfl, b5⟩
    go_wp2_with fail
    go_ret
    exact ⟨rfl, grow (by go_grown) b5⟩
  · have e1 : decide (a1 ≤ a0) = false := by simp; omega
    have e2 : decide (a2 < a0) = false := by simp; omega
    have e3 : (c != a1) = false := by simp; omega
    clear hc
    go_enter Try.func6, Try.ntmps6
    go_wp2_with fail
    refine (rall3 _ _ _ _ _).mono ?_; rintro e w' ⟨rfl, rfl⟩
    rw [hs]
    go_wp2_with fail
    refine (clamp_any _ _ _ _).mono ?_; rintro e w' ⟨rfl, rfl⟩
    rw [HC.out]
    go_wp2_with fail
    refine (clamp_any _ _ _ _).mono ?_; rintro e w' ⟨rfl, rfl⟩
    rw [HC2.out]
    go_wp2_with fail
    refine (alive_any _).mono ?_; rintro e w5 ⟨rfl, b5⟩
    go_wp2_with fail
    go_ret
    exact ⟨rfl, grow (by go_grown) b5⟩
  · have e1 : decide (a0 < a1) = false := by simp; omega
    have e2 : decide (a0 ≤ a2) = false := by simp; omega
    have e3 : (c != a2) = false := by simp; omega
    clear hc
    go_enter Try.func6, Try.ntmps6
    go_wp2_with fail
    refine (rall3 _ _ _ _ _).mono ?_; rintro e w' ⟨rfl, rfl⟩
    rw [hs]
    go_wp2_with fail
    refine (clamp_any _ _ _ _).mono ?_; rintro e w' ⟨rfl, rfl⟩
    rw [HC.out]
    go_wp2_with fail
    refine (clamp_any _ _ _ _).mono ?_; rintro e w' ⟨rfl, rfl⟩
    rw [HC2.out]
    go_wp2_with fail
    refine (alive_any _).mono ?_; rintro e w5 ⟨rfl, b5⟩
    go_wp2_with fail
    go_ret
    exact ⟨rfl, grow (by go_grown) b5⟩

set_option maxHeartbeats 3200000 in
theorem narrow (a0 a1 a2 : Int) (w : World) (hs : (sm a0 && sm a1 && sm a2) = true)
    (z0 : -1099511627776 ≤ a0 ∧ a0 ≤ 1099511627776) (z1 : -1099511627776 ≤ a1 ∧ a1 ≤ 1099511627776) (z2 : -1099511627776 ≤ a2 ∧ a2 ≤ 1099511627776)
    (h1 : a1 ≤ a2) (hby : a2 - a1 ≤ 1099511627776) :
    Calls Try.prog 6 #[.int .i64 a0, .int .i64 a1, .int .i64 a2] w fun e w' => e = .returned (.bool true) ∧ Below w.heap.size w w' := by
  obtain ⟨c, HC, HC2, hc⟩ := vals a0 a1 a2 z0 z1 z2 h1
  obtain ⟨m, far, mv, HM, HF, HV, HF2, HL, hm⟩ := moves a0 a1 (a2 - a1) z0 z1 (by omega)
  have d1 : decide (a2 < a1) = false := by simp; omega
  have c1 : decide (c < a1) = false := by simp; omega
  have c2 : decide (a2 < c) = false := by simp; omega
  have d2 : decide (1099511627776 < a2 - a1) = false := by simp; omega
  have c3 : decide (m < (if a1 < a0 then a1 else a0)) = false := by simp; split <;> omega
  have c4 : decide ((if a1 < a0 then a0 else a1) < m) = false := by simp; split <;> omega
  rcases hc with ⟨g1, g2, hc⟩ | ⟨g1, hc⟩ | ⟨g1, hc⟩
  all_goals rcases hm with ⟨g3, g4, hm, hf, hv⟩ | ⟨g3, g4, hm, hf, hv⟩ | ⟨g3, g4, hm, hf, hv⟩ | ⟨g3, g4, hm, hf, hv⟩
  all_goals try (exfalso; omega)
  all_goals
    have i1 := hm.symm
    have i3 := hf.symm
    have i5 := hv.symm
    have i7 := hc.symm
    clear hm hf hv hc c3 c4
    subst i1
    subst i3
    subst i5
    subst i7
    go_enter Try.func6, Try.ntmps6
    go_wp2_with fail
    refine (rall3 _ _ _ _ _).mono ?_; rintro e w' ⟨rfl, rfl⟩
    rw [hs]
    go_wp2_with fail
    refine (clamp_any _ _ _ _).mono ?_; rintro e w' ⟨rfl, rfl⟩
    rw [HC.out]
    go_wp2_with fail
    refine (clamp_any _ _ _ _).mono ?_; rintro e w' ⟨rfl, rfl⟩
    rw [HC2.out]
    go_wp2_with fail
    refine (near_any _ _ _ _).mono ?_; rintro e w' ⟨rfl, rfl⟩
    rw [HM.out]
    go_wp2_with fail
    refine (apart_any _ _ _).mono ?_; rintro e w' ⟨rfl, rfl⟩
    rw [HF.out]
    go_wp2_with fail
    refine (apart_any _ _ _).mono ?_; rintro e w' ⟨rfl, rfl⟩
    rw [HV.out]
    go_wp2_with fail
    refine (apart_any _ _ _).mono ?_; rintro e w' ⟨rfl, rfl⟩
    rw [HF2.out]
    go_wp2_with fail
    refine (alive_any _).mono ?_; rintro e w5 ⟨rfl, b5⟩
    go_wp2_with fail
    refine (apart_any _ _ _).mono ?_; rintro e w' ⟨rfl, rfl⟩
    rw [HL.out]
    go_wp2_with fail
    go_ret
    exact ⟨rfl, grow (by go_grown) b5⟩

set_option maxHeartbeats 1600000 in
theorem walk (a0 a1 a2 : Int) (w : World) (_w0 : (Lit.int .i64 a0).wf = true) (_w1 : (Lit.int .i64 a1).wf = true) (_w2 : (Lit.int .i64 a2).wf = true) :
    Calls Try.prog 6 #[.int .i64 a0, .int .i64 a1, .int .i64 a2] w fun e w' => e = .returned (.bool true) ∧ Below w.heap.size w w' := by
  cases hs : (sm a0 && sm a1 && sm a2)
  · go_enter Try.func6, Try.ntmps6
    go_wp2_with fail
    refine (rall3 _ _ _ _ _).mono ?_; rintro e w' ⟨rfl, rfl⟩
    rw [hs]
    go_wp2_with fail
    refine (alive_any _).mono ?_; rintro e w5 ⟨rfl, b5⟩
    go_wp2_with fail
    go_ret
    exact ⟨rfl, grow (by go_grown) b5⟩
  · have hs' : sm a0 = true ∧ sm a1 = true ∧ sm a2 = true := by simpa [and_assoc] using hs
    obtain ⟨s0, s1, s2⟩ := hs'
    have z0 := sm_bd s0
    have z1 := sm_bd s1
    have z2 := sm_bd s2
    by_cases h1 : a2 < a1
    · clear s0 s1 s2
      go_enter Try.func6, Try.ntmps6
      go_wp2_with fail
      refine (rall3 _ _ _ _ _).mono ?_; rintro e w' ⟨rfl, rfl⟩
      rw [hs]
      go_wp2_with fail
      refine (alive_any _).mono ?_; rintro e w5 ⟨rfl, b5⟩
      go_wp2_with fail
      go_ret
      exact ⟨rfl, grow (by go_grown) b5⟩
    · by_cases h2 : a2 - a1 ≤ 1099511627776
      · exact narrow a0 a1 a2 w hs z0 z1 z2 (by omega) h2
      · exact wide a0 a1 a2 w hs z0 z1 z2 (by omega) (by omega)
end Go.Proofs.Ytbdncfonmomchaa.fixBetween
