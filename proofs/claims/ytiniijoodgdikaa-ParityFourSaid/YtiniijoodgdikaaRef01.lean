/-
  What Small and All of the document's answers for layer 1 (package rudderref01) return: contracts by walking the Go text. No conditions beyond the numbers' kinds and where the list lies.
-/
import Derived.Test.YtiniijoodgdikaaRow
import Derived.Test.YtiniijoodgdikaaFixMath
import Derived.ProofKit
import Derived.OpenShut
import Derived.Handy
namespace Go.Proofs.Ytiniijoodgdikaa
open Go.ChangeShapes Go.WideShapes Go.ChangeAt Go.RowKit Go.Deep
namespace Fx

set_option maxHeartbeats 400000 in
theorem rsmall_any (n : Int) (w : World) :
    Calls Try.prog 24 #[.int .i64 n] w fun e w' => e = .returned (.bool (sm n)) ∧ w = w' := by
  by_cases h1 : -1099511627776 ≤ n
  · by_cases h2 : n ≤ 1099511627776
    · have HF := Lib.hid ((sm_iff n).2 ⟨h1, h2⟩)
      go_enter Try.func24, Try.ntmps24
      go_wp2
      go_ret
      exact ⟨ret_bool HF.out.symm, rfl⟩
    · have HF := Lib.hid ((sm_false n).2 (by omega))
      have hd : decide (n ≤ 1099511627776) = false := by simpa using h2
      go_enter Try.func24, Try.ntmps24
      go_wp2
      go_ret
      exact ⟨ret_bool HF.out.symm, rfl⟩
  · have HF := Lib.hid ((sm_false n).2 (by omega))
    have hd : decide (-1099511627776 ≤ n) = false := by simpa using h1
    go_enter Try.func24, Try.ntmps24
    go_wp2
    go_ret
    exact ⟨ret_bool HF.out.symm, rfl⟩

theorem all_take_succ (l : List Int) (k : Nat) (h : k < l.length) : (l.take (k + 1)).all sm = ((l.take k).all sm && sm (l.getD k 0)) := by
  rw [List.take_succ_eq_append_getElem h, List.all_append]; simp [List.getD_eq_getElem?_getD, h]
theorem all_of_not (l : List Int) (k : Nat) (h : k < l.length) (e : sm (l.getD k 0) = false) : l.all sm = false := by
  rw [List.all_eq_false]
  refine ⟨l[k], List.getElem_mem h, ?_⟩
  simp [List.getD_eq_getElem?_getD, h] at e
  simp [e]

set_option maxHeartbeats 400000 in
theorem rall_any (a : Option Addr) (cap : Nat) (l : List Int) (w : World) (hl : l.length ≤ 9223372036854775807) (hb : IntsAt .i64 w a l) :
    Calls Try.prog 23 #[.slice a l.length cap] w fun e w' => e = .returned (.bool (l.all sm)) ∧ w = w' := by
  have HB := Lib.hid hb
  clear hb
  go_enter Try.func23, Try.ntmps23
  go_wp2
  go_loop [3] (fun i => ∃ k : Nat, k ≤ l.length ∧ i = .int .i64 k ∧ (l.take k).all sm = true) (fun i => l.length - (intOf i).toNat)
  case atStart => exact ⟨0, by omega, rfl, rfl⟩
  case round =>
    obtain ⟨k, hk, rfl, hall⟩ := hrel
    have HA := Lib.hid hall
    clear hall
    by_cases hlt : k < l.length
    · rcases HB.out with hnil | ⟨b, off, rfl, hc⟩
      · rw [hnil] at hlt; simp at hlt
      have hcell := hc k hlt
      clear hc
      have HT := Lib.hid (all_take_succ l k hlt)
      have HN := Lib.hid (all_of_not l k hlt)
      generalize l.getD k 0 = x at *
      cases hx : sm x
      · go_wp2_with (first | (go_at_call 24; refine (rsmall_any _ _).mono ?_; rintro e w' ⟨rfl, rfl⟩))
        go_ret
        exact ⟨ret_bool (by rw [HN.out hx]), rfl⟩
      · go_wp2_with (first | (go_at_call 24; refine (rsmall_any _ _).mono ?_; rintro e w' ⟨rfl, rfl⟩))
        go_round
        case rel => exact ⟨k + 1, by omega, by go_num, by rw [HT.out, HA.out, hx]; rfl⟩
        case measure => simp [intOf]; omega
    · have : k = l.length := by omega
      subst this
      go_wp2
      go_ret
      exact ⟨ret_bool (by have := HA.out; rw [List.take_of_length_le (Nat.le_refl _)] at this; exact this.symm), rfl⟩
end Fx
end Go.Proofs.Ytiniijoodgdikaa
