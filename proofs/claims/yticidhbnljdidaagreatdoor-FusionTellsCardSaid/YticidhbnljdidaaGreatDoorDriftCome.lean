/-
 What Come of package drift does: its contract by walking the Go text. Conditions: where the filter lies; that its level may be one.
-/
import Derived.Test.YticidhbnljdidaaGreatDoorJJumpWalks3
namespace Go.Proofs.YticidhbnljdidaaGreatDoor
set_option maxRecDepth 100000
open Go.ChangeShapes Go.WideShapes Go.ChangeAt Go.RowKit Go.Deep
namespace Dr
open Fx (ret_bool)
set_option maxHeartbeats 3200000 in
theorem come_yes (g : Nat) (lag bound level d : Int) (w : World) (hT : VRow w g 270 (fil lag bound level)) (hl : -4294967296 ≤ level ∧ level ≤ 4294967296) (hm : may lag bound = true) (hd : dif d = true) :
 Calls Tryz.prog 164 #[.pointer (some ⟨g,0,none⟩),.int .i64 d] w fun e w' => e = .returned (.tuple #[.bool (ov bound (nx lag level d)),.int .i64 0]) ∧ VRow w' g 270 (fil lag bound (nx lag level d)) ∧ Only g w w' := by
 obtain ⟨m1,m2,m3,m4⟩ := (may_iff _ _).1 hm
 have hn := nx_level (d := d) hl m1 m2
 have hd' := (dif_iff d).1 hd
 have HX := Lib.hid (nx_yes (lag := lag) (level := level) hd)
 have O4 := fun W => over_any bound (nx lag level d) W hn m3
 generalize nx lag level d = x at *
 have d1 : decide (d < -4294967296) = false := by simp; omega
 have d2 : decide (4294967296 < d) = false := by simp; omega
 have CS := fun W => Fx.shift_any (d - level) lag W
 generalize Fx.shift (d - level) lag = s at *
 obtain rfl : s = x - level := by have := HX.out; omega
 have T := Lib.hid hT
 have c1 := hT.cell 1 (v := .int .i64 lag) rfl
 have c2 := hT.cell 2 (v := .int .i64 level) rfl
 have f2 := hT.frozen 2
 have n1 : -9223372036854775808 ≤ d - level := by omega
 have n2 : d - level ≤ 9223372036854775807 := by omega
 have n3 : level + (x - level) = x := by omega
 clear hT hm hd hd' HX m1 m2 m3 m4
 go_enter Tryz.func164,Tryz.ntmps164
 go_wp2_with fail
 refine Tail.wp_region_quiet_tail 18 (by kernel_rfl) (by kernel_rfl) ?_
 simp only [List.take_succ_cons,List.take_zero,List.drop_succ_cons,List.drop_zero]
 repeat (first | go_big_quiet_step (fail) | (go_big_quiet_want; go_big_quiet_op; refine ⟨_,(CS _).mono (fun e w' q => ⟨q.1,q.2.symm⟩),?_⟩; go_big_quiet_on))
 refine wpQuiet_nil ?_
 have T2 := Lib.hid (show VRow ((w.setCell ⟨g,2,none⟩ (.int .i64 x)).drew) g 270 (fil lag bound x) from T.out.set 2 (.int .i64 x))
 have O2 := Lib.hid (show But (· = g) w ((w.setCell ⟨g,2,none⟩ (.int .i64 x)).drew) from ((But.refl (· = g) w).setCell (p := ⟨g,2,none⟩) (Or.inl rfl) _).drew)
 clear CS
 go_wp2_with fail
 clear c1 c2 f2
 generalize (w.setCell ⟨g,2,none⟩ (.int .i64 x)).drew = W2 at *
 have c0 := cell_regrown (T2.out.cell 0 (v := .int .i64 bound) rfl)
 have c2 := cell_regrown (T2.out.cell 2 (v := .int .i64 x) rfl)
 have cO := reg_call (w := W2) (fun W _ => O4 W)
 refine wp_region_quiet_below (by kernel_rfl) (by kernel_rfl) ?_
 repeat (go_big_quiet_step (exact cO _ _))
 refine wpQuiet_nil ?_
 intro _ hw'
 obtain ⟨⟨dq,osq⟩,hw''⟩ := hw'
 subst hw''
 go_wp2
 go_ret2
 have b := below_regrown W2 dq osq
 exact ⟨rfl,T2.out.below b T2.out.lt,O2.out.grow b⟩
end Dr
end Go.Proofs.YticidhbnljdidaaGreatDoor
