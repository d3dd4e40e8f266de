/-
 What Next of package latch tells: a contract by walking the Go text. No conditions.
-/
import Derived.Test.YticidhbnljdidaaGreatDoorJStuckVote5
import Derived.Test.YticidhbnljdidaaGreatDoorJSignalBound10
import Derived.Test.YticidhbnljdidaaGreatDoorJLate3
namespace Go.Proofs.YticidhbnljdidaaGreatDoor
set_option maxRecDepth 100000
open Go.ChangeShapes Go.WideShapes Go.ChangeAt Go.RowKit Go.Deep
namespace Lc
theorem behind_any {L C B : Int} {s : St} (h : fne L C B s = true) (t : Bool) :
 ∃ T f,mde s.la s.ou = .iface T (.agg #[]) ∧ (∀ d W,(method (d + 1) T (.agg #[]) "rudder/latch.behind").run Tryz.prog W = .ok (f,.agg #[]) W) ∧
   (∀ W,(callFunc f #[.agg #[],rlv L C B,stv s,.bool t]).run Tryz.prog W = .ok (.enter f #[.agg #[],rlv L C B,stv s,.bool t]) W) ∧
   ∀ w,Calls Tryz.prog f #[.agg #[],rlv L C B,stv s,.bool t] w (RetS w L C B s t) := by
 obtain ⟨hR,hf⟩ := fne_right h
 obtain ⟨h1,h2,h3,h4,h5,h6⟩ := hR
 cases fin_iff.1 hf with
 | out => exact ⟨_,_,rfl,m_out_behind,fun W => by kernel_rfl,fun w => out_behind L C B t w⟩
 | @latched c b hc hb => exact ⟨_,_,rfl,m_latched_behind,fun W => by kernel_rfl,fun w => latched_behind L C B c b t w hc (by omega) (by omega)⟩
 | @«in» s b hs hb => exact ⟨_,_,rfl,m_in_behind,fun W => by kernel_rfl,fun w => in_behind L C B s b t w hs (by omega)⟩
def nxs (L C B : Int) (s : St) (t : Bool) : St := if fne L C B s then ste L C B s t else zer
def nxw (L C B : Int) (s : St) (t : Bool) : Int := if fne L C B s then wha L C B s t else 0
def nxe (L C B : Int) (s : St) : Int := if fne L C B s then 0 else 1
def RetN (w : World) (L C B : Int) (s : St) (t : Bool) (e : Ending) (w' : World) : Prop := e = .returned (.tuple #[stv (nxs L C B s t),.int .i64 (nxw L C B s t),.int .i64 (nxe L C B s)]) ∧ Below w.heap.size w w'
structure TwoR (w W : World) (t u : TypeId) (L C B : Int) : Prop where
 below : Below w.heap.size w W
 rule : VRow W w.heap.size t (rlr L C B)
 res : VRow W (w.heap.size + 1) u (str zer)
theorem TwoR.on {w W W' : World} {t u : TypeId} {L C B : Int} (h : TwoR w W t u L C B) (b : Below W.heap.size W W') : TwoR w W' t u L C B := ⟨grow h.below b,h.rule.below b h.rule.lt,h.res.below b h.res.lt⟩
structure Three (w W : World) (t u : TypeId) (L C B : Int) (s r : St) : Prop where
 below : Below w.heap.size w W
 rule : VRow W w.heap.size t (rlr L C B)
 state : VRow W (w.heap.size + 1) u (str s)
 res : VRow W (w.heap.size + 1 + 1) u (str r)
theorem three_new (w : World) (L C B : Int) (s : St) (t u : TypeId) : Three w (((w.alloc (.cells #[.int .i64 L,.int .i64 C,.int .i64 B] t)).alloc (.cells #[.bool s.la,.bool s.ou,.int .i64 s.st,.int .i64 s.cl,.int .i64 s.bk] u)).alloc (.cells #[.bool false,.bool false,.int .i64 0,.int .i64 0,.int .i64 0] u)) t u L C B s zer := by
 have T := two_new w L C B s t u
 have N := VRow.new ((w.alloc (.cells #[.int .i64 L,.int .i64 C,.int .i64 B] t)).alloc (.cells #[.bool s.la,.bool s.ou,.int .i64 s.st,.int .i64 s.cl,.int .i64 s.bk] u)) (str zer) u
 rw [show ((w.alloc (.cells #[.int .i64 L,.int .i64 C,.int .i64 B] t)).alloc (.cells #[.bool s.la,.bool s.ou,.int .i64 s.st,.int .i64 s.cl,.int .i64 s.bk] u)).heap.size = w.heap.size + 1 + 1 by simp] at N
 exact ⟨T.below.alloc T.below.size _,T.rule.alloc _,T.state.alloc _,N⟩
theorem Three.on {w W W' : World} {t u : TypeId} {L C B : Int} {s r : St} (h : Three w W t u L C B s r) (b : Below W.heap.size W W') : Three w W' t u L C B s r :=
 ⟨grow h.below b,h.rule.below b h.rule.lt,h.state.below b h.state.lt,h.res.below b h.res.lt⟩
theorem str_one (s : St) : (str s).toArray.all (·.oneCell') = true := by simp [str,Value.oneCell']
theorem sizeS : (Tryz.prog.info? 54).map (·.size) = some 5 := by kernel_rfl
theorem aggS (w : World) : (isAgg 54).run Tryz.prog w = .ok true w := by simp [isAgg,run_underlying Tryz.underlying54]
theorem allocS (W : World) : (Instr.alloc 54 true (.tuple #[])).run Tryz.prog W = .ok (.pointer (some ⟨W.heap.size,0,none⟩)) (W.alloc (.cells (str zer).toArray 54)) := by kernel_rfl
set_option maxHeartbeats 1600000 in
theorem next_no (L C B : Int) (s : St) (t : Bool) (w : World) (h : fne L C B s = false) :
 Calls Tryz.prog 173 #[rlv L C B,stv s,.bool t] w (RetN w L C B s t) := by
 have HF := Lib.hid (show RetN w L C B s t = fun e w' => e = .returned (.tuple #[stv zer,.int .i64 0,.int .i64 1]) ∧ Below w.heap.size w w' by unfold RetN nxs nxw nxe; rw [h]; rfl)
 have C1 := fun W => fine_any L C B s W
 rw [h] at C1
 rw [HF.out]
 have T := Lib.hid (three_new w L C B s 285 54)
 clear h HF
 unfold rlv stv at *
 go_enter Tryz.func173,Tryz.ntmps173
 go_wp2_with (first
  | (go_at_call 208; refine (C1 _).mono ?_; rintro e w1 ⟨rfl,b1⟩; have T1 := Lib.hid (T.out.on b1); clear b1)
  | ((with_reducible show wpList _ _ _ (⟨none,.store _ (.tmp 6) _,_,_,_,_⟩ :: _) _ _); refine VB.store rfl _ _ rfl (w.heap.size + 1 + 1) (str zer) rfl rfl T1.out.res sizeS rfl (str_one zer) ?_))
 refine bodyPost_ret (v := .tuple #[.agg (str zer).toArray,.int .i64 0,.int .i64 1]) ?_ rfl ⟨rfl,Below.put T1.out.below (by omega) _⟩
 exact (VB.ret3 (cs := str zer) rfl rfl (aggS _) sizeS (T1.out.res.put (str zer))).trans rfl
set_option maxHeartbeats 3200000 in
theorem next_yes (L C B : Int) (s : St) (t : Bool) (w : World) (h : fne L C B s = true) :
 Calls Tryz.prog 173 #[rlv L C B,stv s,.bool t] w (RetN w L C B s t) := by
 have HF := Lib.hid (show RetN w L C B s t = fun e w' => e = .returned (.tuple #[stv (ste L C B s t),.int .i64 (wha L C B s t),.int .i64 0]) ∧ Below w.heap.size w w' by unfold RetN nxs nxw nxe; rw [h]; rfl)
 obtain ⟨T,f,e1,m1,m2,CB⟩ := behind_any h t
 have C1 := fun W => fine_any L C B s W
 rw [h] at C1
 rw [HF.out]
 have CM := fun W => modeOf_any s.la s.ou s.st s.cl s.bk W
 rw [e1] at CM
 unfold RetS at CB
 have TH := Lib.hid (three_new w L C B s 285 54)
 generalize ste L C B s t = r at *
 generalize wha L C B s t = x at *
 clear h HF e1
 unfold rlv stv at *
 go_enter Tryz.func173,Tryz.ntmps173
 go_wp2_with (go_at_call 208; refine (C1 _).mono ?_; rintro e w1 ⟨rfl,b1⟩; have T1 := Lib.hid (TH.out.on b1); clear b1)
 clear C1
 refine Lt.wp_region_box (aF := ?_) 11 10 27 9 23 54 (str zer) (str r) [true,true,true,true,true,true,true,true,true,false,false] [false,false,false,false,false,false,false,false,false,true,false] (by kernel_rfl) (by kernel_rfl) (by kernel_rfl) rfl (by decide) rfl rfl ?_ sizeS rfl (str_one r) ?_ ?_ ?_
 case refine_3 =>
  intro W bW
  have T2 := T1.out.on bW
  obtain ⟨c0,c1,c2⟩ := rl_cells T2.rule
  replace c0 := cell_regrown c0
  replace c1 := cell_regrown c1
  replace c2 := cell_regrown c2
  obtain ⟨q0,q1,q2,q3,q4⟩ := st_cells T2.state
  replace q0 := cell_regrown q0
  replace q1 := cell_regrown q1
  replace q2 := cell_regrown q2
  replace q3 := cell_regrown q3
  replace q4 := cell_regrown q4
  have cM := reg_call (w := W) (fun W _ => CM W)
  have cB := reg_call (w := W) (fun W _ => CB W)
  simp only [List.take_succ_cons,List.take_zero,Lt.sel]
  repeat (go_big_quiet_step (first | exact cM _ _ | exact cB _ _))
  exact rfl
 case refine_2 => exact allocS
 case refine_4 => exact rfl
 intro g W k
 have T2 := Lib.hid (T1.out.on k.below)
 have K2 := Lib.hid k
 simp only [List.drop_succ_cons,List.drop_zero,Act.put,List.setIfInBounds_toArray,List.set_cons_succ,List.set_cons_zero]
 clear T1 CM CB
 go_wp2_with (first
  | ((with_reducible show wpList _ _ _ (⟨some 25,_,_,_,_,_⟩ :: _) _ _); refine VB.loaded (cs := str r) rfl _ rfl g rfl K2.out.row Tryz.underlying54 rfl sizeS ?_)
  | ((with_reducible show wpList _ _ _ (⟨none,.store _ (.tmp 6) _,_,_,_,_⟩ :: _) _ _); refine VB.store rfl _ _ rfl (w.heap.size + 1 + 1) (str r) rfl rfl T2.out.res sizeS rfl (str_one r) ?_))
 refine bodyPost_ret (v := .tuple #[.agg (str r).toArray,.int .i64 x,.int .i64 0]) ?_ rfl ⟨rfl,Below.put T2.out.below (by omega) _⟩
 exact (VB.ret3 (cs := str r) rfl rfl (aggS _) sizeS (T2.out.res.put (str r))).trans rfl
theorem next_any (L C B : Int) (s : St) (t : Bool) (w : World) : Calls Tryz.prog 173 #[rlv L C B,stv s,.bool t] w (RetN w L C B s t) := by
 cases h : fne L C B s
 · exact next_no L C B s t w h
 · exact next_yes L C B s t w h
end Lc
end Go.Proofs.YticidhbnljdidaaGreatDoor
