/-
  The live question of layer 8 is answered with true: a contract by walking the Go text. No conditions.
-/
import Derived.Test.YtchbnaaglichkaaJumpCome
import Derived.Test.YtchbnaaglichkaaKept
namespace Go.Proofs.Ytchbnaaglichkaa
open Go.ChangeShapes Go.WideShapes Go.ChangeAt Go.RowKit Go.Deep
namespace Jp
open Kp

/-- What Come tells, its words named. -/
theorem come_is (g : Nat) (lo hi step last : Int) (has : Bool) (n : Int) (w : World) (x e' l' : Int) (h' : Bool) (hx : ct lo hi step last has n = x) (he : ce n = e') (hll : cl last n = l') (hh : ch has n = h')
    (hl : has = true → val last = true) (hs : 0 ≤ step) (hT : VRow w g 43 (wat lo hi step last has)) :
    Calls Try.prog 11 #[.pointer (some ⟨g, 0, none⟩), .int .i64 n] w fun e w' => e = .returned (.tuple #[.int .i64 x, .int .i64 e']) ∧ VRow w' g 43 (wat lo hi step l' h') ∧ Only g w w' := by
  subst hx he hll hh
  exact come_any g lo hi step last has n w hT hl hs

set_option maxHeartbeats 3200000 in
theorem alive_any (w : World) :
    Calls Try.prog 5 #[] w fun e w' => e = .returned (.bool true) ∧ Below w.heap.size w w' := by
  have C1 := Lib.hid (new_yes (-10) 10 4 w (by decide))
  have C2 := Lib.hid (fun g W h => come_is g (-10) 10 4 0 false 0 W 0 0 0 true (by decide) (by decide) (by decide) (by decide) (by decide) (by decide) h)
  have C3 := Lib.hid (fun g W h => come_is g (-10) 10 4 0 true 5 W 4 0 5 true (by decide) (by decide) (by decide) (by decide) (by decide) (by decide) h)
  have C4 := Lib.hid (fun g W h => come_is g (-10) 10 4 5 true 11 W 6 0 11 true (by decide) (by decide) (by decide) (by decide) (by decide) (by decide) h)
  have C5 := Lib.hid (fun g W h => miss_any g (-10) 10 4 11 true W h)
  have C6 := Lib.hid (fun g W h => last_any g (-10) 10 4 0 false W h)
  have C7 := Lib.hid (fun g W h => come_is g (-10) 10 4 0 false (-10) W 0 0 (-10) true (by decide) (by decide) (by decide) (by decide) (by decide) (by decide) h)
  have C8 := Lib.hid (fun g W h => last_any g (-10) 10 4 (-10) true W h)
  have C9 := Lib.hid (fun g W h => come_is g (-10) 10 4 (-10) true 2147483648 W 0 1 (-10) true (by decide) (by decide) (by decide) (by decide) (by decide) (by decide) h)
  have C10 := Lib.hid (fun W => new_no 1 0 0 W (by decide))
  go_enter Try.func5, Try.ntmps5
  go_wp2_with fail
  refine C1.out.mono ?_; rintro e w1 ⟨rfl, hw1⟩
  have K1 := Lib.hid (hw1 ▸ kept_new w w (wat (-10) 10 4 0 false) 43 (Below.refl _ _))
  clear hw1 C1
  generalize w.heap.size = g at K1 ⊢
  go_wp2_with fail
  refine (C2.out _ _ K1.out.row).mono ?_; rintro e w2 ⟨rfl, t2, o2⟩
  have K2 := Lib.hid (K1.out.take o2 t2); clear K1 t2 o2 C2
  go_wp2_with fail
  refine (C3.out _ _ K2.out.row).mono ?_; rintro e w3 ⟨rfl, t3, o3⟩
  have K3 := Lib.hid (K2.out.take o3 t3); clear K2 t3 o3 C3
  go_wp2_with fail
  refine (C4.out _ _ K3.out.row).mono ?_; rintro e w4 ⟨rfl, t4, o4⟩
  have K4 := Lib.hid (K3.out.take o4 t4); clear K3 t4 o4 C4
  go_wp2_with fail
  refine (C5.out _ _ K4.out.row).mono ?_; rintro e w5 ⟨rfl, t5, o5⟩
  have K5 := Lib.hid (K4.out.take o5 t5); clear K4 t5 o5 C5
  go_wp2_with fail
  refine (C6.out _ _ K5.out.row).mono ?_; rintro e w6 ⟨rfl, b6⟩
  have K6 := Lib.hid (K5.out.on b6); clear K5 b6 C6
  go_wp2_with fail
  refine (C7.out _ _ K6.out.row).mono ?_; rintro e w7 ⟨rfl, t7, o7⟩
  have K7 := Lib.hid (K6.out.take o7 t7); clear K6 t7 o7 C7
  go_wp2_with fail
  refine (C8.out _ _ K7.out.row).mono ?_; rintro e w8 ⟨rfl, b8⟩
  have K8 := Lib.hid (K7.out.on b8); clear K7 b8 C8
  go_wp2_with fail
  refine (C9.out _ _ K8.out.row).mono ?_; rintro e w9 ⟨rfl, t9, o9⟩
  have K9 := Lib.hid (K8.out.take o9 t9); clear K8 t9 o9 C9
  go_wp2_with fail
  refine (C10.out _).mono ?_; rintro e w10 ⟨rfl, rfl⟩
  go_wp2
  go_ret
  exact ⟨rfl, K9.out.below⟩
end Jp
end Go.Proofs.Ytchbnaaglichkaa
