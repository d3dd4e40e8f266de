/-
  The live question of layer 10 is answered with true: a contract by walking the Go text. No conditions.
-/
import Derived.Test.YtnkjedgllfddmaaDriftCome
import Derived.Test.YtnkjedgllfddmaaKept
namespace Go.Proofs.Ytnkjedgllfddmaa
open Go.ChangeShapes Go.WideShapes Go.ChangeAt Go.RowKit Go.Deep
namespace Dr
open Kp

/-- What Come tells, its words named. -/
theorem come_is (g : Nat) (lag bound level d : Int) (w : World) (x : Bool) (e' l' : Int) (hx : co lag bound level d = x) (he : ce d = e') (hll : nx lag level d = l')
    (hl : -4294967296 ≤ level ∧ level ≤ 4294967296) (hm : may lag bound = true) (hT : VRow w g 43 (fil lag bound level)) :
    Calls Try.prog 9 #[.pointer (some ⟨g, 0, none⟩), .int .i64 d] w fun e w' => e = .returned (.tuple #[.bool x, .int .i64 e']) ∧ VRow w' g 43 (fil lag bound l') ∧ Only g w w' := by
  subst hx he hll
  exact come_any g lag bound level d w hT hl hm

set_option maxHeartbeats 3200000 in
theorem alive_any (w : World) :
    Calls Try.prog 5 #[] w fun e w' => e = .returned (.bool true) ∧ Below w.heap.size w w' := by
  have hm : may 1 5 = true := by decide
  have C1 := Lib.hid (new_yes 1 5 w hm)
  have C2 := Lib.hid (fun g W h => come_is g 1 5 0 10 W false 0 5 (by decide +kernel) (by decide) (by decide +kernel) (by decide) hm h)
  have C3 := Lib.hid (fun g W h => level_any g 1 5 5 W h)
  have C4 := Lib.hid (fun g W h => come_is g 1 5 5 10 W true 0 7 (by decide +kernel) (by decide) (by decide +kernel) (by decide) hm h)
  have C5 := Lib.hid (fun g W h => level_any g 1 5 7 W h)
  have C6 := Lib.hid (fun g W h => clear_any g 1 5 7 W h)
  have C7 := Lib.hid (fun g W h => come_is g 1 5 0 (-1) W false 0 (-1) (by decide +kernel) (by decide) (by decide +kernel) (by decide) hm h)
  have C8 := Lib.hid (fun g W h => level_any g 1 5 (-1) W h)
  have C9 := Lib.hid (fun g W h => come_is g 1 5 (-1) 4294967297 W false 1 (-1) (by decide +kernel) (by decide) (by decide +kernel) (by decide) hm h)
  have C10 := Lib.hid (fun W => new_no 9 0 W (by decide))
  clear hm
  go_enter Try.func5, Try.ntmps5
  go_wp2_with fail
  refine C1.out.mono ?_; rintro e w1 ⟨rfl, hw1⟩
  have K1 := Lib.hid (hw1 ▸ kept_new w w (fil 1 5 0) 43 (Below.refl _ _))
  clear hw1 C1
  generalize w.heap.size = g at K1 ⊢
  go_wp2_with fail
  refine (C2.out _ _ K1.out.row).mono ?_; rintro e w2 ⟨rfl, t2, o2⟩
  have K2 := Lib.hid (K1.out.take o2 t2); clear K1 t2 o2 C2
  go_wp2_with fail
  refine (C3.out _ _ K2.out.row).mono ?_; rintro e w3 ⟨rfl, rfl⟩
  go_wp2_with fail
  refine (C4.out _ _ K2.out.row).mono ?_; rintro e w4 ⟨rfl, t4, o4⟩
  have K4 := Lib.hid (K2.out.take o4 t4); clear K2 t4 o4 C4
  go_wp2_with fail
  refine (C5.out _ _ K4.out.row).mono ?_; rintro e w5 ⟨rfl, rfl⟩
  go_wp2_with fail
  refine (C6.out _ _ K4.out.row).mono ?_; rintro e w6 ⟨rfl, t6, o6⟩
  have K6 := Lib.hid (K4.out.take o6 t6); clear K4 t6 o6 C6
  go_wp2_with fail
  refine (C7.out _ _ K6.out.row).mono ?_; rintro e w7 ⟨rfl, t7, o7⟩
  have K7 := Lib.hid (K6.out.take o7 t7); clear K6 t7 o7 C7
  go_wp2_with fail
  refine (C8.out _ _ K7.out.row).mono ?_; rintro e w8 ⟨rfl, rfl⟩
  go_wp2_with fail
  refine (C9.out _ _ K7.out.row).mono ?_; rintro e w9 ⟨rfl, t9, o9⟩
  have K9 := Lib.hid (K7.out.take o9 t9); clear K7 t9 o9 C9
  go_wp2_with fail
  refine (C10.out _).mono ?_; rintro e w10 ⟨rfl, rfl⟩
  go_wp2
  go_ret
  exact ⟨rfl, K9.out.below⟩
end Dr
end Go.Proofs.Ytnkjedgllfddmaa
