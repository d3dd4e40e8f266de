/-
  When are two lists one? What Ints of rudderref02 and Same of rudderref03 return: contracts by walking the Go text. No conditions beyond where the lists lie.
-/
import Derived.Test.YtpamegkbhdbheaaJKept3
import Derived.BigQuiet
import Derived.IntWalk
namespace Go.Proofs.Ytpamegkbhdbheaa
set_option maxRecDepth 100000
open Go.ChangeShapes Go.WideShapes Go.ChangeAt Go.RowKit Go.Deep
namespace Sm

theorem ret_bool {a b : Bool} (h : a = b) : Ending.returned (.bool a) = .returned (.bool b) := by rw [h]
theorem take_snoc (l : List Int) (k : Nat) (h : k < l.length) : l.take (k + 1) = l.take k ++ [l.getD k 0] := by
  rw [List.take_succ_eq_append_getElem h]; simp [List.getD_eq_getElem?_getD, h]
/-- Are two lists one? -/
def same (l r : List Int) : Bool := decide (l = r)
theorem same_self (l : List Int) : same l l = true := by unfold same; simp
theorem same_iff (l r : List Int) : same l r = true ↔ l = r := by unfold same; simp
theorem same_no {l r : List Int} (h : l ≠ r) : same l r = false := by unfold same; simpa using h
theorem same_step (l r : List Int) (k : Nat) (h : k < l.length) (h2 : k < r.length) (e : l.take k = r.take k) (hx : l.getD k 0 = r.getD k 0) : l.take (k + 1) = r.take (k + 1) := by
  rw [take_snoc l k h, take_snoc r k h2, e, hx]
theorem same_part (l r : List Int) (k : Nat) (hx : ¬ l.getD k 0 = r.getD k 0) : same l r = false := same_no (fun e => hx (by rw [e]))

set_option maxHeartbeats 400000 in
theorem rsame_any (a b : Option Addr) (ca cb : Nat) (l r : List Int) (w : World) (hl : l.length ≤ 9223372036854775807) (_hr : r.length ≤ 9223372036854775807) (ha : IntsAt .u8 w a l) (hb : IntsAt .u8 w b r) :
    Calls Try.prog 30 #[.slice a l.length ca, .slice b r.length cb] w fun e w' => e = .returned (.bool (same l r)) ∧ Below w.heap.size w w' := by
  by_cases hlen : l.length = r.length
  · have HL := Lib.hid hlen
    have h1 : l.length ≤ r.length := by omega
    have h2 : r.length ≤ l.length := by omega
    clear hlen
    have HA := Lib.hid ha
    have HB := Lib.hid hb
    clear ha hb
    have d0 : ((l.length : Int) != (r.length : Int)) = false := by rw [HL.out]; simp
    have d00 : ((l.length : Int) == (r.length : Int)) = true := by rw [HL.out]; simp
    go_enter Try.func30, Try.ntmps30
    go_wp2
    go_loopw [5] (fun i wx => ∃ k : Nat, k ≤ l.length ∧ i = .int .i64 k ∧ Hid (l.take k = r.take k) ∧ Hid (∃ n, wx = w.drewN n)) (fun i _ => l.length - (intOf i).toNat)
    case atStart => exact ⟨0, by omega, rfl, Lib.hid rfl, Lib.hid ⟨0, rfl⟩⟩
    case round =>
      obtain ⟨k, hk, rfl, HT, HW⟩ := hrel
      by_cases hlt : k < l.length
      · rcases HA.out with hnil | ⟨b1, o1, rfl, hc1⟩
        · rw [hnil] at hlt; simp at hlt
        rcases HB.out with hnil | ⟨b2, o2, rfl, hc2⟩
        · rw [hnil] at h1; simp at h1; rw [h1] at hlt; simp at hlt
        have hl1 : wr.cell? ⟨b1, o1 + k, none⟩ = some (.int .u8 (l.getD k 0)) := by obtain ⟨n, rfl⟩ := HW.out; exact hc1 k hlt
        have hl2 : wr.cell? ⟨b2, o2 + k, none⟩ = some (.int .u8 (r.getD k 0)) := by obtain ⟨n, rfl⟩ := HW.out; exact hc2 k (by omega)
        have hk1 : (k : Int) < (l.length : Int) := by omega
        have hk2 : (k : Int) < (r.length : Int) := by omega
        have hk3 : k < r.length := by omega
        clear hc1 hc2
        have HP := Lib.hid (same_part l r k)
        have HS := Lib.hid (same_step l r k hlt hk3 HT.out)
        generalize l.getD k 0 = x at *
        generalize r.getD k 0 = y at *
        by_cases hxy : x = y
        · subst hxy
          go_wp2
          go_quiet (fail)
          go_wp2
          go_roundw
          case rel => exact ⟨k + 1, by omega, by go_num, Lib.hid (HS.out trivial), by obtain ⟨n, rfl⟩ := HW.out; exact Lib.hid ⟨_, World.drewN_drewN _ _ _⟩⟩
          case measure => simp [intOf]; omega
        · have d1 : (x != y) = true := by simpa using hxy
          have d2 : (x == y) = false := by simpa using hxy
          go_wp2
          go_quiet (fail)
          go_wp2
          go_ret
          exact ⟨ret_bool (HP.out hxy).symm, by obtain ⟨n, rfl⟩ := HW.out; exact below_drewN (below_drewN (Below.refl _ _) _) _⟩
      · have : k = l.length := by omega
        subst this
        go_wp2
        go_ret
        exact ⟨ret_bool (by have := HT.out; rw [List.take_of_length_le (Nat.le_refl _), List.take_of_length_le h2] at this; rw [this, same_self]), by obtain ⟨n, rfl⟩ := HW.out; exact below_drewN (Below.refl _ _) _⟩
  · have HF := Lib.hid (same_no (l := l) (r := r) (fun e => hlen (by rw [e])))
    have d0 : ((l.length : Int) != (r.length : Int)) = true := by simp; omega
    have d00 : ((l.length : Int) == (r.length : Int)) = false := by simp; omega
    go_enter Try.func30, Try.ntmps30
    go_wp2
    go_ret
    exact ⟨ret_bool HF.out.symm, Below.refl _ _⟩

end Sm
end Go.Proofs.Ytpamegkbhdbheaa
