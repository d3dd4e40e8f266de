/-
  The live question of layer 11 is answered with true: a contract by walking the Go text. No conditions.
-/
import Derived.Test.YtblhjjfnneihiaaEqualLearn
import Derived.Test.YtblhjjfnneihiaaKept
namespace Go.Proofs.Ytblhjjfnneihiaa
open Go.ChangeShapes Go.WideShapes Go.ChangeAt Go.RowKit Go.Deep
namespace Ql
open Kp

/-- What Learn tells, its words named. -/
theorem learn_is (g : Nat) (auth gain offset n vote : Int) (w : World) (e' o' : Int) (he : ce n vote = e') (hx : nx auth gain offset n vote = o')
    (ho : -auth ≤ offset ∧ offset ≤ auth) (hm : may auth gain = true) (hT : VRow w g 42 (tri auth gain offset)) :
    Calls Try.prog 8 #[.pointer (some ⟨g, 0, none⟩), .int .i64 n, .int .i64 vote] w fun e w' => e = .returned (.int .i64 e') ∧ VRow w' g 42 (tri auth gain o') ∧ Only g w w' := by
  subst he hx
  exact learn_any g auth gain offset n vote w hT hm ho
theorem even_is (g : Nat) (auth gain offset n : Int) (w : World) (x e' : Int) (hx : ev offset n = x) (he : ee n = e') (ho : -2147483647 ≤ offset ∧ offset ≤ 2147483647) (hT : VRow w g 42 (tri auth gain offset)) :
    Calls Try.prog 10 #[.pointer (some ⟨g, 0, none⟩), .int .i64 n] w fun e w' => e = .returned (.tuple #[.int .i64 x, .int .i64 e']) ∧ Below w.heap.size w w' := by
  subst hx he
  exact even_any g auth gain offset n w hT ho

set_option maxHeartbeats 3200000 in
theorem alive_any (w : World) :
    Calls Try.prog 5 #[] w fun e w' => e = .returned (.bool true) ∧ Below w.heap.size w w' := by
  have hm : may 6 1 = true := by decide
  have C1 := Lib.hid (new_yes 6 1 w hm)
  have C2 := Lib.hid (fun g W h => learn_is g 6 1 0 20 10 W 0 5 (by decide) (by decide +kernel) (by decide) hm h)
  have C3 := Lib.hid (fun g W h => offset_any g 6 1 5 W h)
  have C4 := Lib.hid (fun g W h => even_is g 6 1 5 20 W 15 0 (by decide) (by decide) (by decide) h)
  have C5 := Lib.hid (fun g W h => learn_is g 6 1 5 40 10 W 0 6 (by decide) (by decide +kernel) (by decide) hm h)
  have C6 := Lib.hid (fun g W h => offset_any g 6 1 6 W h)
  have C7 := Lib.hid (fun g W h => learn_is g 6 1 6 (-60) 10 W 0 (-6) (by decide) (by decide +kernel) (by decide) hm h)
  have C8 := Lib.hid (fun g W h => offset_any g 6 1 (-6) W h)
  have C9 := Lib.hid (fun g W h => learn_is g 6 1 (-6) 0 2147483648 W 1 (-6) (by decide) (by decide +kernel) (by decide) hm h)
  have C10 := Lib.hid (fun g W h => even_is g 6 1 (-6) (-2147483649) W 0 1 (by decide) (by decide) (by decide) h)
  have C11 := Lib.hid (fun W => new_no (-1) 0 W (by decide))
  clear hm
  go_enter Try.func5, Try.ntmps5
  go_wp2_with fail
  refine C1.out.mono ?_; rintro e w1 ⟨g, rfl, k1⟩
  have K1 := Lib.hid k1
  clear k1 C1
  go_wp2_with fail
  refine (C2.out _ _ K1.out.row).mono ?_; rintro e w2 ⟨rfl, t2, o2⟩
  have K2 := Lib.hid (K1.out.take o2 t2); clear K1 t2 o2 C2
  go_wp2_with fail
  refine (C3.out _ _ K2.out.row).mono ?_; rintro e w3 ⟨rfl, rfl⟩
  go_wp2_with fail
  refine (C4.out _ _ K2.out.row).mono ?_; rintro e w4 ⟨rfl, b4⟩
  have K4 := Lib.hid (K2.out.on b4); clear K2 b4 C4
  go_wp2_with fail
  refine (C5.out _ _ K4.out.row).mono ?_; rintro e w5 ⟨rfl, t5, o5⟩
  have K5 := Lib.hid (K4.out.take o5 t5); clear K4 t5 o5 C5
  go_wp2_with fail
  refine (C6.out _ _ K5.out.row).mono ?_; rintro e w6 ⟨rfl, rfl⟩
  go_wp2_with fail
  refine (C7.out _ _ K5.out.row).mono ?_; rintro e w7 ⟨rfl, t7, o7⟩
  have K7 := Lib.hid (K5.out.take o7 t7); clear K5 t7 o7 C7
  go_wp2_with fail
  refine (C8.out _ _ K7.out.row).mono ?_; rintro e w8 ⟨rfl, rfl⟩
  go_wp2_with fail
  refine (C9.out _ _ K7.out.row).mono ?_; rintro e w9 ⟨rfl, t9, o9⟩
  have K9 := Lib.hid (K7.out.take o9 t9); clear K7 t9 o9 C9
  go_wp2_with fail
  refine (C10.out _ _ K9.out.row).mono ?_; rintro e w10 ⟨rfl, b10⟩
  have K10 := Lib.hid (K9.out.on b10); clear K9 b10 C10
  go_wp2_with fail
  refine (C11.out _).mono ?_; rintro e w11 ⟨rfl, b11⟩
  have K11 := Lib.hid (K10.out.on b11); clear K10 b11 C11
  go_wp2
  go_ret
  exact ⟨rfl, K11.out.below⟩
end Ql
end Go.Proofs.Ytblhjjfnneihiaa
