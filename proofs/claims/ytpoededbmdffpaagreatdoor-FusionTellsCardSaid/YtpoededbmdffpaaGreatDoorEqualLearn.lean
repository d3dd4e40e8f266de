/-
  What Learn of package equal does: its contract by walking the Go text. Conditions: where the trim lies; that its offset may be one.
-/
import Derived.Test.YtpoededbmdffpaaGreatDoorEqualWalks
namespace Go.Proofs.YtpoededbmdffpaaGreatDoor
set_option maxRecDepth 100000
open Go.ChangeShapes Go.WideShapes Go.ChangeAt Go.RowKit Go.Deep
namespace Ql
open Fx (ret_bool)
open Jp (val val_iff val_no out)
theorem learn_no (g : Nat) (n vote : Int) (w : World) (hb : both n vote = false) :
    Calls Tryz.prog 171 #[.pointer (some ⟨g, 0, none⟩), .int .i64 n, .int .i64 vote] w fun e w' => e = .returned (.int .i64 1) ∧ Below w.heap.size w w' := by
  have B := Lib.hid (Below.refl w.heap.size w)
  go_enter Tryz.func171, Tryz.ntmps171
  go_wp2_with (go_at_call 155; refine (outside_2 _ _ _ _ true _ (lit2 _ _ _ _) hb).mono ?_; rintro e w1 ⟨rfl, b1⟩; have B := Lib.hid (grow_alloc B.out b1); clear b1)
  go_ret
  exact ⟨rfl, by have := B.out; assumption⟩
set_option maxHeartbeats 3200000 in
theorem learn_yes (g : Nat) (auth gain offset n vote : Int) (w : World) (hT : VRow w g 273 (tri auth gain offset)) (hm : may auth gain = true) (ho : -auth ≤ offset ∧ offset ≤ auth) (hb : both n vote = true) :
    Calls Tryz.prog 171 #[.pointer (some ⟨g, 0, none⟩), .int .i64 n, .int .i64 vote] w fun e w' => e = .returned (.int .i64 0) ∧ VRow w' g 273 (tri auth gain (nx auth gain offset n vote)) ∧ Only g w w' := by
  obtain ⟨m1, m2, m3, m4⟩ := (may_iff _ _).1 hm
  obtain ⟨v1, v2⟩ := (both_iff _ _).1 hb
  have hv1 := (val_iff _).1 v1
  have hv2 := (val_iff _).1 v2
  have hst := step_bd ⟨m3, m4⟩ (show -2147483647 ≤ offset ∧ offset ≤ 2147483647 by omega) hb
  have hx := nx_yes (auth := auth) (gain := gain) (offset := offset) hb
  rw [← lim_clamp m1 m2 (by omega)] at hx
  generalize nx auth gain offset n vote = x at *
  have CS := fun W => Fx.shift_any (n - vote - offset) gain W
  generalize Fx.shift (n - vote - offset) gain = s at *
  have n1 : -9223372036854775808 ≤ n - vote := by omega
  have n2 : n - vote ≤ 9223372036854775807 := by omega
  have n3 : -9223372036854775808 ≤ n - vote - offset := by omega
  have n4 : n - vote - offset ≤ 9223372036854775807 := by omega
  have n5 : -9223372036854775808 ≤ offset + s := by omega
  have n6 : offset + s ≤ 9223372036854775807 := by omega
  have CC := fun W => Fx.clamp_any (offset + s) (-auth) auth W
  rw [← hx] at CC
  have n7 : -9223372036854775808 ≤ -auth := by omega
  have n8 : -auth ≤ 9223372036854775807 := by omega
  have B := Lib.hid (Below.refl w.heap.size w)
  have T := Lib.hid hT
  clear hT hm ho v1 v2 hv1 hv2 hst hx m1 m2 m3 m4
  go_enter Tryz.func171, Tryz.ntmps171
  go_wp2_with (go_at_call 155; refine (outside_2 _ _ _ _ false _ (lit2 _ _ _ _) hb).mono ?_; rintro e w1 ⟨rfl, b1⟩; have B := Lib.hid (grow_alloc B.out b1); have T1 := Lib.hid (T.out.below B.out T.out.lt); have c2 := T1.out.cell 2 (v := .int .i64 offset) rfl; have c1 := T1.out.cell 1 (v := .int .i64 gain) rfl; clear b1)
  go_quiet (exact Calls.quiet_of_same ((CS _).mono fun e w' q => ⟨q.1, q.2.symm⟩))
  have B2 := Lib.hid (below_drewN B.out nq)
  have T2 := Lib.hid (T1.out.drewN nq)
  clear c1 c2 CS B T1
  generalize w1.drewN nq = W2 at *
  have c0 := T2.out.cell 0 (v := .int .i64 auth) rfl
  have f2 := T2.out.frozen 2
  have c2 := T2.out.cell 2 (v := .int .i64 offset) rfl
  go_wp2_with fail
  refine Tail.wp_region_quiet_tail 14 (by kernel_rfl) (by kernel_rfl) ?_
  simp only [List.take_succ_cons, List.take_zero, List.drop_succ_cons, List.drop_zero]
  repeat (first | go_big_quiet_step (fail) | (go_big_quiet_want; go_big_quiet_op; refine ⟨_, (CC _).mono (fun e w' q => ⟨q.1, q.2.symm⟩), ?_⟩; go_big_quiet_on))
  refine wpQuiet_nil ?_
  clear CC
  go_wp2_with fail
  go_ret
  exact ⟨rfl, T2.out.set 2 (.int .i64 x), ((show But (· = g) w W2 from But.of_below B2.out).setCell (p := ⟨g, 2, none⟩) (Or.inl rfl) _).drew⟩
/-- Whatever comes. -/
theorem learn_any (g : Nat) (auth gain offset n vote : Int) (w : World) (hT : VRow w g 273 (tri auth gain offset)) (hm : may auth gain = true) (ho : -auth ≤ offset ∧ offset ≤ auth) :
    Calls Tryz.prog 171 #[.pointer (some ⟨g, 0, none⟩), .int .i64 n, .int .i64 vote] w fun e w' => e = .returned (.int .i64 (ce n vote)) ∧ VRow w' g 273 (tri auth gain (nx auth gain offset n vote)) ∧ Only g w w' := by
  cases hb : both n vote
  · rw [ce_no hb, nx_no hb]
    refine (learn_no g n vote w hb).mono ?_
    rintro e w' ⟨rfl, b⟩
    exact ⟨rfl, hT.below b hT.lt, But.of_below b⟩
  · rw [ce_yes hb]
    exact learn_yes g auth gain offset n vote w hT hm ho hb
end Ql
end Go.Proofs.YtpoededbmdffpaaGreatDoor
