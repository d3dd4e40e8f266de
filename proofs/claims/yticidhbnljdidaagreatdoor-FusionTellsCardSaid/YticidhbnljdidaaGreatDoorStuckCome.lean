/-
 What Come of package stuck does: its contract by walking the Go text. Conditions: where the room and the watch lie.
-/
import Derived.Test.YticidhbnljdidaaGreatDoorJJumpCome7
import Derived.Lib.QuietBelow
namespace Go.Proofs.YticidhbnljdidaaGreatDoor
set_option maxRecDepth 100000
open Go.ChangeShapes Go.WideShapes Go.ChangeAt Go.RowKit Go.Deep
namespace Sk
open Fx (ret_bool)
open Jp (val)
set_option maxHeartbeats 1600000 in
theorem come_on (g r P : Nat) (bound last run n : Int) (V : List Int) (w : World) (hn : val n = true) (hR : Room w r P bound V) (hT : VRow w g 275 (wt r last run)) (hne : r ≠ g) (h0 : 0 ≤ run) (_h1 : run ≤ (P : Int) + 1) (hq : n = last) (hm : run + 1 < (P : Int) + 1) :
 Calls Tryz.prog 160 #[.pointer (some ⟨g,0,none⟩),.int .i64 n] w fun e w' => e = .returned (.tuple #[.bool false,.int .i64 0]) ∧ VRow w' g 275 (wt r n (run + 1)) ∧ Only g w w' := by
 have VA := fun W => value_any n W
 rw [hn] at VA
 have hle := hR.le
 have c0 := hT.cell 0 (v := .pointer (some ⟨r,0,none⟩)) rfl
 have c1 := hT.cell 1 (v := .int .i64 last) rfl
 have c2 := hT.cell 2 (v := .int .i64 run) rfl
 have f1 := hT.frozen 1
 have f2 := hT.frozen 2
 have rw_ := hR.win
 subst hq
 have d1 : (n != n) = false := by simp
 have T := Lib.hid hT
 have R := Lib.hid hR
 have O := Lib.hid (But.refl (· = g) w)
 clear hn hT hR
 go_enter Tryz.func160,Tryz.ntmps160
 go_wp2_with (go_at_call 195; (refine (VA _).mono ?_; rintro e w' ⟨rfl,rfl⟩))
 clear VA
 refine Tail.wp_region_quiet_tail 16 (by kernel_rfl) (by kernel_rfl) ?_
 simp only [List.take_succ_cons,List.take_zero,List.drop_succ_cons,List.drop_zero]
 repeat (go_big_quiet_step (fail))
 refine wpQuiet_nil ?_
 have T2 := Lib.hid (show VRow ((w.setCell ⟨g,2,none⟩ (.int .i64 (run + 1))).drew) g 275 (wt r n (run + 1)) from T.out.set 2 (.int .i64 (run + 1)))
 have O2 := Lib.hid (show But (· = g) w ((w.setCell ⟨g,2,none⟩ (.int .i64 (run + 1))).drew) from (O.out.setCell (p := ⟨g,2,none⟩) (Or.inl rfl) _).drew)
 have R2 := Lib.hid (show Room ((w.setCell ⟨g,2,none⟩ (.int .i64 (run + 1))).drew) r P bound V from (R.out.only ((But.refl (· = g) w).setCell (p := ⟨g,2,none⟩) (Or.inl rfl) _) hne).drew)
 go_wp2_with fail
 clear c0 c1 c2 f1 f2 rw_ d1
 generalize (w.setCell ⟨g,2,none⟩ (.int .i64 (run + 1))).drew = W2 at *
 have c0 := T2.out.cell 0 (v := .pointer (some ⟨r,0,none⟩)) rfl
 have c2 := T2.out.cell 2 (v := .int .i64 (run + 1)) rfl
 have rw_ := R2.out.win
 have d2 : (((run + 1) : Int) == (P : Int) + 1) = false := by simp; omega
 go_quiet (fail)
 go_wp2
 go_ret2
 exact ⟨rfl,T2.out.drewN _,O2.out.drewN _⟩
set_option maxHeartbeats 1600000 in
theorem come_full (g r P : Nat) (bound last run n : Int) (V : List Int) (w : World) (hn : val n = true) (hR : Room w r P bound V) (hT : VRow w g 275 (wt r last run)) (hne : r ≠ g) (h0 : 0 ≤ run) (h1 : run ≤ (P : Int) + 1) (hq : n = last) (hm : run = (P : Int)) :
 Calls Tryz.prog 160 #[.pointer (some ⟨g,0,none⟩),.int .i64 n] w fun e w' => e = .returned (.tuple #[.bool (moved P bound V),.int .i64 0]) ∧ VRow w' g 275 (wt r n ((P : Int) + 1)) ∧ Only g w w' := by
 have VA := fun W => value_any n W
 rw [hn] at VA
 have hle := hR.le
 have c0 := hT.cell 0 (v := .pointer (some ⟨r,0,none⟩)) rfl
 have c1 := hT.cell 1 (v := .int .i64 last) rfl
 have c2 := hT.cell 2 (v := .int .i64 run) rfl
 have f1 := hT.frozen 1
 have f2 := hT.frozen 2
 have rw_ := hR.win
 subst hq
 subst hm
 have d1 : (n != n) = false := by simp
 have T := Lib.hid hT
 have R := Lib.hid hR
 have O := Lib.hid (But.refl (· = g) w)
 clear hn hT hR
 go_enter Tryz.func160,Tryz.ntmps160
 go_wp2_with (go_at_call 195; (refine (VA _).mono ?_; rintro e w' ⟨rfl,rfl⟩))
 clear VA
 refine Tail.wp_region_quiet_tail 16 (by kernel_rfl) (by kernel_rfl) ?_
 simp only [List.take_succ_cons,List.take_zero,List.drop_succ_cons,List.drop_zero]
 repeat (go_big_quiet_step (fail))
 refine wpQuiet_nil ?_
 have T2 := Lib.hid (show VRow ((w.setCell ⟨g,2,none⟩ (.int .i64 ((P : Int) + 1))).drew) g 275 (wt r n ((P : Int) + 1)) from T.out.set 2 (.int .i64 ((P : Int) + 1)))
 have O2 := Lib.hid (show But (· = g) w ((w.setCell ⟨g,2,none⟩ (.int .i64 ((P : Int) + 1))).drew) from (O.out.setCell (p := ⟨g,2,none⟩) (Or.inl rfl) _).drew)
 have R2 := Lib.hid (show Room ((w.setCell ⟨g,2,none⟩ (.int .i64 ((P : Int) + 1))).drew) r P bound V from (R.out.only ((But.refl (· = g) w).setCell (p := ⟨g,2,none⟩) (Or.inl rfl) _) hne).drew)
 go_wp2_with fail
 clear c0 c1 c2 f1 f2 rw_ d1
 generalize (w.setCell ⟨g,2,none⟩ (.int .i64 ((P : Int) + 1))).drew = W2 at *
 have c0 := T2.out.cell 0 (v := .pointer (some ⟨r,0,none⟩)) rfl
 have c2 := T2.out.cell 2 (v := .int .i64 ((P : Int) + 1)) rfl
 have rw_ := R2.out.win
 have d2 : ((((P : Int) + 1) : Int) == (P : Int) + 1) = true := by simp
 have k0 := cell_regrown c0
 have k2 := cell_regrown c2
 have kw := cell_regrown rw_
 have cM := reg_call (w := W2) (fun W hW => moved_any r P bound V W (R2.out.below hW R2.out.lt))
 clear c0 c2 rw_
 refine wp_region_quiet_below (by kernel_rfl) (by kernel_rfl) ?_
 repeat (go_big_quiet_step (exact cM _ _))
 refine wpQuiet_nil ?_
 intro _ hw'
 obtain ⟨⟨dq,osq⟩,hw''⟩ := hw'
 subst hw''
 go_wp2
 go_ret2
 have b := below_regrown W2 dq osq
 exact ⟨rfl,T2.out.below b T2.out.lt,O2.out.grow b⟩
set_option maxHeartbeats 1600000 in
theorem come_past (g r P : Nat) (bound last run n : Int) (V : List Int) (w : World) (hn : val n = true) (hR : Room w r P bound V) (hT : VRow w g 275 (wt r last run)) (hne : r ≠ g) (h0 : 0 ≤ run) (h1 : run ≤ (P : Int) + 1) (hq : n = last) (hm : run = (P : Int) + 1) :
 Calls Tryz.prog 160 #[.pointer (some ⟨g,0,none⟩),.int .i64 n] w fun e w' => e = .returned (.tuple #[.bool (moved P bound V),.int .i64 0]) ∧ VRow w' g 275 (wt r n ((P : Int) + 1)) ∧ Only g w w' := by
 have VA := fun W => value_any n W
 rw [hn] at VA
 have hle := hR.le
 have c0 := hT.cell 0 (v := .pointer (some ⟨r,0,none⟩)) rfl
 have c1 := hT.cell 1 (v := .int .i64 last) rfl
 have c2 := hT.cell 2 (v := .int .i64 run) rfl
 have f1 := hT.frozen 1
 have f2 := hT.frozen 2
 have rw_ := hR.win
 subst hq
 subst hm
 have d1 : (n != n) = false := by simp
 have T := Lib.hid hT
 have R := Lib.hid hR
 have O := Lib.hid (But.refl (· = g) w)
 clear hn hT hR
 go_enter Tryz.func160,Tryz.ntmps160
 go_wp2_with (go_at_call 195; (refine (VA _).mono ?_; rintro e w' ⟨rfl,rfl⟩))
 clear VA
 refine Tail.wp_region_quiet_tail 16 (by kernel_rfl) (by kernel_rfl) ?_
 simp only [List.take_succ_cons,List.take_zero,List.drop_succ_cons,List.drop_zero]
 repeat (go_big_quiet_step (fail))
 refine wpQuiet_nil ?_
 have T2 := Lib.hid (show VRow ((w.setCell ⟨g,2,none⟩ (.int .i64 ((P : Int) + 1))).drew) g 275 (wt r n ((P : Int) + 1)) from T.out.set 2 (.int .i64 ((P : Int) + 1)))
 have O2 := Lib.hid (show But (· = g) w ((w.setCell ⟨g,2,none⟩ (.int .i64 ((P : Int) + 1))).drew) from (O.out.setCell (p := ⟨g,2,none⟩) (Or.inl rfl) _).drew)
 have R2 := Lib.hid (show Room ((w.setCell ⟨g,2,none⟩ (.int .i64 ((P : Int) + 1))).drew) r P bound V from (R.out.only ((But.refl (· = g) w).setCell (p := ⟨g,2,none⟩) (Or.inl rfl) _) hne).drew)
 go_wp2_with fail
 clear c0 c1 c2 f1 f2 rw_ d1
 generalize (w.setCell ⟨g,2,none⟩ (.int .i64 ((P : Int) + 1))).drew = W2 at *
 have c0 := T2.out.cell 0 (v := .pointer (some ⟨r,0,none⟩)) rfl
 have c2 := T2.out.cell 2 (v := .int .i64 ((P : Int) + 1)) rfl
 have rw_ := R2.out.win
 have d2 : ((((P : Int) + 1) : Int) == (P : Int) + 1) = true := by simp
 have k0 := cell_regrown c0
 have k2 := cell_regrown c2
 have kw := cell_regrown rw_
 have cM := reg_call (w := W2) (fun W hW => moved_any r P bound V W (R2.out.below hW R2.out.lt))
 clear c0 c2 rw_
 refine wp_region_quiet_below (by kernel_rfl) (by kernel_rfl) ?_
 repeat (go_big_quiet_step (exact cM _ _))
 refine wpQuiet_nil ?_
 intro _ hw'
 obtain ⟨⟨dq,osq⟩,hw''⟩ := hw'
 subst hw''
 go_wp2
 go_ret2
 have b := below_regrown W2 dq osq
 exact ⟨rfl,T2.out.below b T2.out.lt,O2.out.grow b⟩
set_option maxHeartbeats 1600000 in
theorem come_anew (g r P : Nat) (bound last run n : Int) (V : List Int) (w : World) (hn : val n = true) (hR : Room w r P bound V) (hT : VRow w g 275 (wt r last run)) (hne : r ≠ g) (_h0 : 0 ≤ run) (_h1 : run ≤ (P : Int) + 1) (hq : n ≠ last) :
 Calls Tryz.prog 160 #[.pointer (some ⟨g,0,none⟩),.int .i64 n] w fun e w' => e = .returned (.tuple #[.bool false,.int .i64 0]) ∧ VRow w' g 275 (wt r n (1)) ∧ Only g w w' := by
 have VA := fun W => value_any n W
 rw [hn] at VA
 have hle := hR.le
 have c0 := hT.cell 0 (v := .pointer (some ⟨r,0,none⟩)) rfl
 have c1 := hT.cell 1 (v := .int .i64 last) rfl
 have c2 := hT.cell 2 (v := .int .i64 run) rfl
 have f1 := hT.frozen 1
 have f2 := hT.frozen 2
 have rw_ := hR.win
 have d1 : (n != last) = true := by simpa using hq
 have T := Lib.hid (show VRow ((w.setCell ⟨g,1,none⟩ (.int .i64 n)).setCell ⟨g,2,none⟩ (.int .i64 0)) g 275 (wt r n 0) from (hT.set 1 (.int .i64 n)).set 2 (.int .i64 0))
 have O := Lib.hid (show But (· = g) w ((w.setCell ⟨g,1,none⟩ (.int .i64 n)).setCell ⟨g,2,none⟩ (.int .i64 0)) from ((But.refl (· = g) w).setCell (p := ⟨g,1,none⟩) (Or.inl rfl) _).setCell (p := ⟨g,2,none⟩) (Or.inl rfl) _)
 have R := Lib.hid (hR.only O.out hne)
 clear hn hT hR
 go_enter Tryz.func160,Tryz.ntmps160
 go_wp2_with (go_at_call 195; (refine (VA _).mono ?_; rintro e w' ⟨rfl,rfl⟩))
 clear VA c0 c1 c2 f1 f2 rw_
 generalize (w.setCell ⟨g,1,none⟩ (.int .i64 n)).setCell ⟨g,2,none⟩ (.int .i64 0) = W at *
 have c0 := T.out.cell 0 (v := .pointer (some ⟨r,0,none⟩)) rfl
 have c2 := T.out.cell 2 (v := .int .i64 0) rfl
 have f2 := T.out.frozen 2
 have rw_ := R.out.win
 refine Tail.wp_region_quiet_tail 16 (by kernel_rfl) (by kernel_rfl) ?_
 simp only [List.take_succ_cons,List.take_zero,List.drop_succ_cons,List.drop_zero]
 repeat (go_big_quiet_step (fail))
 refine wpQuiet_nil ?_
 have T2 := Lib.hid (show VRow ((W.setCell ⟨g,2,none⟩ (.int .i64 (1))).drew) g 275 (wt r n (1)) from T.out.set 2 (.int .i64 (1)))
 have O2 := Lib.hid (show But (· = g) w ((W.setCell ⟨g,2,none⟩ (.int .i64 (1))).drew) from (O.out.setCell (p := ⟨g,2,none⟩) (Or.inl rfl) _).drew)
 have R2 := Lib.hid (show Room ((W.setCell ⟨g,2,none⟩ (.int .i64 (1))).drew) r P bound V from (R.out.only ((But.refl (· = g) W).setCell (p := ⟨g,2,none⟩) (Or.inl rfl) _) hne).drew)
 go_wp2_with fail
 clear c0 c2 f2 rw_ d1
 generalize (W.setCell ⟨g,2,none⟩ (.int .i64 (1))).drew = W2 at *
 have c0 := T2.out.cell 0 (v := .pointer (some ⟨r,0,none⟩)) rfl
 have c2 := T2.out.cell 2 (v := .int .i64 (1)) rfl
 have rw_ := R2.out.win
 have d2 : (((1) : Int) == (P : Int) + 1) = false := by simp; omega
 go_quiet (fail)
 go_wp2
 go_ret2
 exact ⟨rfl,T2.out.drewN _,O2.out.drewN _⟩
def froz (P : Nat) (bound : Int) (V : List Int) (last run n : Int) : Bool := decide (Sk.run ((P : Int) + 1) last run n = (P : Int) + 1) && moved P bound V
theorem run_same {win r n : Int} : Sk.run win n r n = min (r + 1) win := by unfold Sk.run; rw [if_pos rfl]
theorem run_other {win last r n : Int} (h : n ≠ last) : Sk.run win last r n = min 1 win := by unfold Sk.run; rw [if_neg h]; rfl
theorem come_yes (g r P : Nat) (bound last run n : Int) (V : List Int) (w : World) (hn : val n = true) (hR : Room w r P bound V) (hT : VRow w g 275 (wt r last run)) (hne : r ≠ g) (h0 : 0 ≤ run) (h1 : run ≤ (P : Int) + 1) :
 Calls Tryz.prog 160 #[.pointer (some ⟨g,0,none⟩),.int .i64 n] w fun e w' => e = .returned (.tuple #[.bool (froz P bound V last run n),.int .i64 0]) ∧ VRow w' g 275 (wt r n (Sk.run ((P : Int) + 1) last run n)) ∧ Only g w w' := by
 have hle := hR.le
 by_cases hq : n = last
 · subst hq
   unfold froz
   rw [run_same]
   rcases (show run + 1 < (P : Int) + 1 ∨ run = P ∨ run = (P : Int) + 1 by omega) with h | h | h
   · rw [show min (run + 1) ((P : Int) + 1) = run + 1 by omega,show decide (run + 1 = (P : Int) + 1) = false by simp; omega,Bool.false_and]
     exact come_on g r P bound n run n V w hn hR hT hne h0 h1 rfl h
   · rw [show min (run + 1) ((P : Int) + 1) = (P : Int) + 1 by omega,show decide ((P : Int) + 1 = (P : Int) + 1) = true by simp,Bool.true_and]
     exact come_full g r P bound n run n V w hn hR hT hne h0 h1 rfl h
   · rw [show min (run + 1) ((P : Int) + 1) = (P : Int) + 1 by omega,show decide ((P : Int) + 1 = (P : Int) + 1) = true by simp,Bool.true_and]
     exact come_past g r P bound n run n V w hn hR hT hne h0 h1 rfl h
 · unfold froz
   rw [run_other hq,show min 1 ((P : Int) + 1) = 1 by omega,show decide (1 = (P : Int) + 1) = false by simp; omega,Bool.false_and]
   exact come_anew g r P bound last run n V w hn hR hT hne h0 h1 hq
end Sk
end Go.Proofs.YticidhbnljdidaaGreatDoor
