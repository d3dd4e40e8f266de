/-
  What within, told, numbered, truthful and near of package scene do: their contracts by walking the Go text. Conditions: how the scene lies; that its configuration covers; that there is such a point.
-/
import Derived.Test.YtpamegkbhdbheaaSceneLie
import Derived.Test.YtpamegkbhdbheaaFixWalks
namespace Go.Proofs.Ytpamegkbhdbheaa
set_option maxRecDepth 100000
open Go.ChangeShapes Go.WideShapes Go.ChangeAt Go.RowKit Go.Deep
namespace Sc
open Cf (G CA)

theorem within_any (n l h : Int) (w : World) :
    Calls Try.prog 27 #[.int .i64 n, .int .i64 l, .int .i64 h] w fun e w' => e = .returned (.bool (decide (l ≤ n) && decide (n ≤ h))) ∧ w = w' := by
  cases d1 : decide (l ≤ n) <;> cases d2 : decide (n ≤ h)
  all_goals
    go_enter Try.func27, Try.ntmps27
    go_wp2
    go_ret
    exact ⟨rfl, rfl⟩

theorem told_any (p : Pt) (k n : Nat) (x : Int) (w : World) (h8 : p.t.length = 8) (h32 : p.o.length = 32) (hk : k < 4) (hn : n < 8) (hx : p.t.getD n 0 + p.o.getD (k * 8 + n) 0 = x) (hb : -9223372036854775808 ≤ x ∧ x ≤ 9223372036854775807) :
    Calls Try.prog 24 #[.agg (ptv p).toArray, .int .i64 k, .int .i64 n] w fun e w' => e = .returned (.int .i64 x) ∧ Below w.heap.size w w' := by
  have V := VRow.new w (ptv p) 59
  have B0 := Lib.hid (below_new w (ptv p).toArray 59)
  have c1 := V.cell n (ptv_t h8 h32 n hn)
  have c2 := V.cell (8 + (k * 8 + n)) (ptv_o h8 h32 (k * 8 + n) (by omega))
  rw [← Nat.add_assoc] at c2
  have k4 : (k : Int) < 4 := by omega
  have n8 : (n : Int) < 8 := by omega
  generalize p.t.getD n 0 = A at *
  generalize p.o.getD (k * 8 + n) 0 = C at *
  have hw : IntKind.i64.wrap x = x := IntWalk.i64_in _ (by omega)
  clear V h8 h32 hk hn hb
  go_enter Try.func24, Try.ntmps24
  go_upto_region 1 with fail
  generalize w.alloc (.cells (ptv p).toArray 59) = w0 at *
  go_quiet (fail)
  go_wp2
  go_ret
  exact ⟨rfl, below_drewN B0.out _⟩
section
variable (s : Sn) (a : Option Addr) (cap : Nat) (w : World) (L : Lens s) (hp : PsAt w a s.ps)
include L hp
set_option maxHeartbeats 1600000 in
theorem numbered_any (C : Cv s) :
    Calls Try.prog 28 #[.agg (scv s a cap).toArray] w fun e w' => e = .returned (.bool (num s)) ∧ Below w.heap.size w w' := by
  have X0 := Lib.hid (At.new (cap := cap) L hp)
  have B0 := Lib.hid (below_new w (scv s a cap).toArray 27)
  have HC := Lib.hid C
  have c0 := X0.out.c 0 (by omega)
  rw [C.eq] at c0
  have h4 : (NN s : Int) ≤ 4 := by have := C.nn; omega
  have h0 : 0 ≤ (NN s : Int) := by omega
  have HN := Lib.hid (show ∀ k, k < NN s → num1 s k = false → num s = false from fun k hk h => all_range_no hk h)
  have HY := Lib.hid (show (∀ k, k < NN s → num1 s k = true) → num s = true from fun h => all_range.2 h)
  clear C L hp
  generalize NN s = m at *
  generalize num s = ans at *
  go_enter Try.func28, Try.ntmps28
  go_upto_region 1 with fail
  generalize w.alloc (.cells (scv s a cap).toArray 27) = w0 at *
  go_wp2_with fail
  go_loopg [4, 11] m (fun gg _ s11 wr => ∃ k : Nat, k + gg = m ∧ s11 = .int .i64 k ∧ w0 = wr ∧ Hid (∀ j, j < k → num1 s j = true))
  case atStart => exact ⟨0, by omega, rfl, rfl, Lib.hid (fun j hj => by omega)⟩
  case round =>
    obtain ⟨k, hk, rfl, rfl, HA⟩ := hrel
    have HK := Lib.hid hk
    clear hk
    by_cases hlt : k < m
    · have hli : (k : Int) < m := by omega
      have ck := X0.out.q k (by omega)
      have HV := Lib.hid (show num1 s k = (decide (0 ≤ qv s k) && decide (qv s k ≤ 65535)) from rfl)
      generalize qv s k = x at *
      cases hv : (decide (0 ≤ x) && decide (x ≤ 65535))
      · have HF := Lib.hid (HN.out k hlt (HV.out.trans hv))
        have CW := fun W => within_any x 0 65535 W
        rw [hv] at CW
        clear hlt hv
        go_wp2_with fail
        refine (CW _).mono ?_; rintro e w1 ⟨rfl, rfl⟩
        go_wp2_with fail
        go_ret
        exact ⟨ret_bool HF.out.symm, B0.out⟩
      · have HT := Lib.hid (show ∀ j, j < k + 1 → num1 s j = true from fun j hj => by
          rcases Nat.lt_succ_iff_lt_or_eq.1 hj with h | rfl
          · exact HA.out j h
          · exact HV.out.trans hv)
        have CW := fun W => within_any x 0 65535 W
        rw [hv] at CW
        clear hlt hv
        go_wp2_with fail
        refine (CW _).mono ?_; rintro e w1 ⟨rfl, rfl⟩
        go_wp2_with fail
        go_roundg (gk - 1)
        case rel => exact ⟨k + 1, by have := HK.out; omega, by go_num, rfl, HT⟩
        case measure => have := HK.out; omega
    · obtain rfl : k = m := by have := HK.out; omega
      have HF := Lib.hid (HY.out HA.out)
      go_wp2_with fail
      go_ret
      exact ⟨ret_bool HF.out.symm, B0.out⟩
end
end Sc
end Go.Proofs.Ytpamegkbhdbheaa
