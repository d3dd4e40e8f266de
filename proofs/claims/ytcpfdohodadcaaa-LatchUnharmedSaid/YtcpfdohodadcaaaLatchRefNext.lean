/-
  What Next of rudderref15 tells: a contract by walking the Go text (made by gen/gen_latchref.py). No conditions.
-/
import Derived.Test.YtcpfdohodadcaaaLatchRef
namespace Go.Proofs.Ytcpfdohodadcaaa
open Go.ChangeShapes Go.WideShapes Go.ChangeAt Go.RowKit Go.Deep
namespace Lc
theorem sizeSr : (Try.prog.info? 29).map (·.size) = some 5 := by kernel_rfl
theorem aggSr (w : World) : (isAgg 29).run Try.prog w = .ok true w := by simp [isAgg, run_underlying Try.underlying29]
theorem allocSr (W : World) : (Instr.alloc 29 true (.tuple #[])).run Try.prog W = .ok (.pointer (some ⟨W.heap.size, 0, none⟩)) (W.alloc (.cells (str zer).toArray 29)) := by kernel_rfl

set_option maxHeartbeats 1600000 in
theorem rnext_no (L C B : Int) (s : St) (t : Bool) (w : World) (h : fne L C B s = false) :
    Calls Try.prog 8 #[rlv L C B, stv s, .bool t] w (RetN w L C B s t) := by
  have HF := Lib.hid (show RetN w L C B s t = fun e w' => e = .returned (.tuple #[stv zer, .int .i64 0, .int .i64 1]) ∧ Below w.heap.size w w' by unfold RetN nxs nxw nxe; rw [h]; rfl)
  have C1 := fun W => rfine_any L C B s W
  rw [h] at C1
  rw [HF.out]
  have T := Lib.hid (three_new w L C B s 32 29)
  clear h HF
  unfold rlv stv at *
  go_enter Try.func8, Try.ntmps8
  go_wp2_with (first
    | (go_at_call 15; refine (C1 _).mono ?_; rintro e w1 ⟨rfl, b1⟩; have T1 := Lib.hid (T.out.on b1); clear b1)
    | ((with_reducible show wpList _ _ _ (⟨none, .store _ (.tmp 6) _, _, _, _, _⟩ :: _) _ _); refine VB.store rfl _ _ rfl (w.heap.size + 1 + 1) (str zer) rfl rfl T1.out.res sizeSr rfl (str_one zer) ?_))
  refine bodyPost_ret (v := .tuple #[.agg (str zer).toArray, .int .i64 0, .int .i64 1]) ?_ rfl ⟨rfl, Below.put T1.out.below (by omega) _⟩
  exact (VB.ret3 (cs := str zer) rfl rfl (aggSr _) sizeSr (T1.out.res.put (str zer))).trans rfl

set_option maxHeartbeats 1600000 in
theorem rnext_out (L C B : Int) (t : Bool) (w : World) (h : fne L C B ⟨true, true, L, 0, B⟩ = true) (hR : Rt L C B) :
    Calls Try.prog 8 #[rlv L C B, stv ⟨true, true, L, 0, B⟩, .bool t] w fun e w' => e = .returned (.tuple #[stv ⟨true, true, L, 0, B⟩, .int .i64 0, .int .i64 0]) ∧ Below w.heap.size w w' := by
  obtain ⟨h1, h2, h3, h4, h5, h6⟩ := hR
  have C1 := fun W => rfine_any L C B ⟨true, true, L, 0, B⟩ W
  rw [h] at C1
  clear h
  have TH := Lib.hid (three_new w L C B ⟨true, true, L, 0, B⟩ 32 29)
  unfold rlv stv at *
  go_enter Try.func8, Try.ntmps8
  go_wp2_with (first
    | (go_at_call 15; refine (C1 _).mono ?_; rintro e w1 ⟨rfl, bq⟩; have T1 := Lib.hid (TH.out.on bq); clear bq C1
       have HS := Lib.hid (show VRow w1 (w.heap.size + 1) 29 (str ⟨true, true, L, 0, B⟩) from T1.out.state)
       have HQ := Lib.hid (show VRow w1 (w.heap.size + 1 + 1) 29 (str zer) from T1.out.res)
       have HW := Lib.hid (show Below w.heap.size w w1 from T1.out.below)
       obtain ⟨c0, c1, c2⟩ := rl_cells T1.out.rule; obtain ⟨q0, q1, q2, q3, q4⟩ := st_cells T1.out.state
       have f0 := T1.out.state.frozen 0; have f1 := T1.out.state.frozen 1; have f2 := T1.out.state.frozen 2; have f3 := T1.out.state.frozen 3)
    | ((with_reducible show wpList _ _ _ (⟨some 18, _, _, _, _, _⟩ :: _) _ _); refine VB.loaded (cs := str ⟨true, true, L, 0, B⟩) rfl _ rfl (w.heap.size + 1) rfl HS.out Try.underlying29 rfl sizeSr ?_)
    | ((with_reducible show wpList _ _ _ (⟨none, .store _ (.tmp 6) _, _, _, _, _⟩ :: _) _ _); refine VB.store rfl _ _ rfl (w.heap.size + 1 + 1) (str ⟨true, true, L, 0, B⟩) rfl rfl HQ.out sizeSr rfl (str_one _) ?_))
  refine bodyPost_ret (v := .tuple #[.agg (str ⟨true, true, L, 0, B⟩).toArray, .int .i64 0, .int .i64 0]) ?_ rfl ⟨rfl, Below.put HW.out (by omega) _⟩
  exact (VB.ret3 (cs := str ⟨true, true, L, 0, B⟩) rfl rfl (aggSr _) sizeSr (HQ.out.put (str ⟨true, true, L, 0, B⟩))).trans rfl

set_option maxHeartbeats 1600000 in
theorem rnext_latT (L C B : Int) (c b : Int) (w : World) (h : fne L C B ⟨true, false, L, c, b⟩ = true) (hR : Rt L C B) (hc : 0 ≤ c ∧ c < C) (hb : 0 ≤ b ∧ b < B) :
    Calls Try.prog 8 #[rlv L C B, stv ⟨true, false, L, c, b⟩, .bool true] w fun e w' => e = .returned (.tuple #[stv ⟨true, false, L, 0, b⟩, .int .i64 0, .int .i64 0]) ∧ Below w.heap.size w w' := by
  obtain ⟨h1, h2, h3, h4, h5, h6⟩ := hR
  have _u := hc
  have _v := hb
  have C1 := fun W => rfine_any L C B ⟨true, false, L, c, b⟩ W
  rw [h] at C1
  clear h
  have TH := Lib.hid (three_new w L C B ⟨true, false, L, c, b⟩ 32 29)
  unfold rlv stv at *
  go_enter Try.func8, Try.ntmps8
  go_wp2_with (first
    | (go_at_call 15; refine (C1 _).mono ?_; rintro e w1 ⟨rfl, bq⟩; have T1 := Lib.hid (TH.out.on bq); clear bq C1
       have HS := Lib.hid (show VRow (w1.setCell ⟨w.heap.size + 1, 3, none⟩ (.int .i64 0)) (w.heap.size + 1) 29 (str ⟨true, false, L, 0, b⟩) from (VRow.set T1.out.state 3 (.int .i64 0)))
       have HQ := Lib.hid (show VRow (w1.setCell ⟨w.heap.size + 1, 3, none⟩ (.int .i64 0)) (w.heap.size + 1 + 1) 29 (str zer) from (VRow.setOther T1.out.res (by show w.heap.size + 1 + 1 ≠ w.heap.size + 1; omega) (.int .i64 0)))
       have HW := Lib.hid (show Below w.heap.size w (w1.setCell ⟨w.heap.size + 1, 3, none⟩ (.int .i64 0)) from (Below.setCell T1.out.below (by show w.heap.size ≤ w.heap.size + 1; omega) (.int .i64 0)))
       obtain ⟨c0, c1, c2⟩ := rl_cells T1.out.rule; obtain ⟨q0, q1, q2, q3, q4⟩ := st_cells T1.out.state
       have f0 := T1.out.state.frozen 0; have f1 := T1.out.state.frozen 1; have f2 := T1.out.state.frozen 2; have f3 := T1.out.state.frozen 3)
    | ((with_reducible show wpList _ _ _ (⟨some 25, _, _, _, _, _⟩ :: _) _ _); refine VB.loaded (cs := str ⟨true, false, L, 0, b⟩) rfl _ rfl (w.heap.size + 1) rfl HS.out Try.underlying29 rfl sizeSr ?_)
    | ((with_reducible show wpList _ _ _ (⟨none, .store _ (.tmp 6) _, _, _, _, _⟩ :: _) _ _); refine VB.store rfl _ _ rfl (w.heap.size + 1 + 1) (str ⟨true, false, L, 0, b⟩) rfl rfl HQ.out sizeSr rfl (str_one _) ?_))
  refine bodyPost_ret (v := .tuple #[.agg (str ⟨true, false, L, 0, b⟩).toArray, .int .i64 0, .int .i64 0]) ?_ rfl ⟨rfl, Below.put HW.out (by omega) _⟩
  exact (VB.ret3 (cs := str ⟨true, false, L, 0, b⟩) rfl rfl (aggSr _) sizeSr (HQ.out.put (str ⟨true, false, L, 0, b⟩))).trans rfl

set_option maxHeartbeats 1600000 in
theorem rnext_latC (L C B : Int) (c b : Int) (w : World) (h : fne L C B ⟨true, false, L, c, b⟩ = true) (hR : Rt L C B) (hc : 0 ≤ c ∧ c < C) (hb : 0 ≤ b ∧ b < B) (d : c + 1 < C) :
    Calls Try.prog 8 #[rlv L C B, stv ⟨true, false, L, c, b⟩, .bool false] w fun e w' => e = .returned (.tuple #[stv ⟨true, false, L, c + 1, b⟩, .int .i64 0, .int .i64 0]) ∧ Below w.heap.size w w' := by
  obtain ⟨h1, h2, h3, h4, h5, h6⟩ := hR
  have _u := hc
  have _v := hb
  have C1 := fun W => rfine_any L C B ⟨true, false, L, c, b⟩ W
  rw [h] at C1
  clear h
  have TH := Lib.hid (three_new w L C B ⟨true, false, L, c, b⟩ 32 29)
  unfold rlv stv at *
  go_enter Try.func8, Try.ntmps8
  go_wp2_with (first
    | (go_at_call 15; refine (C1 _).mono ?_; rintro e w1 ⟨rfl, bq⟩; have T1 := Lib.hid (TH.out.on bq); clear bq C1
       have HS := Lib.hid (show VRow (w1.setCell ⟨w.heap.size + 1, 3, none⟩ (.int .i64 (c + 1))) (w.heap.size + 1) 29 (str ⟨true, false, L, c + 1, b⟩) from (VRow.set T1.out.state 3 (.int .i64 (c + 1))))
       have HQ := Lib.hid (show VRow (w1.setCell ⟨w.heap.size + 1, 3, none⟩ (.int .i64 (c + 1))) (w.heap.size + 1 + 1) 29 (str zer) from (VRow.setOther T1.out.res (by show w.heap.size + 1 + 1 ≠ w.heap.size + 1; omega) (.int .i64 (c + 1))))
       have HW := Lib.hid (show Below w.heap.size w (w1.setCell ⟨w.heap.size + 1, 3, none⟩ (.int .i64 (c + 1))) from (Below.setCell T1.out.below (by show w.heap.size ≤ w.heap.size + 1; omega) (.int .i64 (c + 1))))
       obtain ⟨c0, c1, c2⟩ := rl_cells T1.out.rule; obtain ⟨q0, q1, q2, q3, q4⟩ := st_cells T1.out.state
       have f0 := T1.out.state.frozen 0; have f1 := T1.out.state.frozen 1; have f2 := T1.out.state.frozen 2; have f3 := T1.out.state.frozen 3)
    | ((with_reducible show wpList _ _ _ (⟨some 41, _, _, _, _, _⟩ :: _) _ _); refine VB.loaded (cs := str ⟨true, false, L, c + 1, b⟩) rfl _ rfl (w.heap.size + 1) rfl HS.out Try.underlying29 rfl sizeSr ?_)
    | ((with_reducible show wpList _ _ _ (⟨none, .store _ (.tmp 6) _, _, _, _, _⟩ :: _) _ _); refine VB.store rfl _ _ rfl (w.heap.size + 1 + 1) (str ⟨true, false, L, c + 1, b⟩) rfl rfl HQ.out sizeSr rfl (str_one _) ?_))
  refine bodyPost_ret (v := .tuple #[.agg (str ⟨true, false, L, c + 1, b⟩).toArray, .int .i64 0, .int .i64 0]) ?_ rfl ⟨rfl, Below.put HW.out (by omega) _⟩
  exact (VB.ret3 (cs := str ⟨true, false, L, c + 1, b⟩) rfl rfl (aggSr _) sizeSr (HQ.out.put (str ⟨true, false, L, c + 1, b⟩))).trans rfl

set_option maxHeartbeats 1600000 in
theorem rnext_latD (L C B : Int) (c b : Int) (w : World) (h : fne L C B ⟨true, false, L, c, b⟩ = true) (hR : Rt L C B) (hc : 0 ≤ c ∧ c < C) (hb : 0 ≤ b ∧ b < B) (d : c + 1 = C) :
    Calls Try.prog 8 #[rlv L C B, stv ⟨true, false, L, c, b⟩, .bool false] w fun e w' => e = .returned (.tuple #[stv ⟨false, false, 0, 0, b + 1⟩, .int .i64 2, .int .i64 0]) ∧ Below w.heap.size w w' := by
  obtain ⟨h1, h2, h3, h4, h5, h6⟩ := hR
  subst d
  have _u := hc
  have _v := hb
  have C1 := fun W => rfine_any L (c + 1) B ⟨true, false, L, c, b⟩ W
  rw [h] at C1
  clear h
  have TH := Lib.hid (three_new w L (c + 1) B ⟨true, false, L, c, b⟩ 32 29)
  unfold rlv stv at *
  go_enter Try.func8, Try.ntmps8
  go_wp2_with (first
    | (go_at_call 15; refine (C1 _).mono ?_; rintro e w1 ⟨rfl, bq⟩; have T1 := Lib.hid (TH.out.on bq); clear bq C1
       have HS := Lib.hid (show VRow (w1.setCell ⟨w.heap.size + 1, 3, none⟩ (.int .i64 (c + 1))) (w.heap.size + 1) 29 (str ⟨true, false, L, c + 1, b⟩) from (VRow.set T1.out.state 3 (.int .i64 (c + 1))))
       have HQ := Lib.hid (show VRow (w1.setCell ⟨w.heap.size + 1, 3, none⟩ (.int .i64 (c + 1))) (w.heap.size + 1 + 1) 29 (str zer) from (VRow.setOther T1.out.res (by show w.heap.size + 1 + 1 ≠ w.heap.size + 1; omega) (.int .i64 (c + 1))))
       have HW := Lib.hid (show Below w.heap.size w (w1.setCell ⟨w.heap.size + 1, 3, none⟩ (.int .i64 (c + 1))) from (Below.setCell T1.out.below (by show w.heap.size ≤ w.heap.size + 1; omega) (.int .i64 (c + 1))))
       obtain ⟨c0, c1, c2⟩ := rl_cells T1.out.rule; obtain ⟨q0, q1, q2, q3, q4⟩ := st_cells T1.out.state
       have f0 := T1.out.state.frozen 0; have f1 := T1.out.state.frozen 1; have f2 := T1.out.state.frozen 2; have f3 := T1.out.state.frozen 3)
    | ((with_reducible show wpList _ _ _ (⟨none, .store _ (.tmp 6) _, _, _, _, _⟩ :: _) _ _); refine VB.store rfl _ _ rfl (w.heap.size + 1 + 1) (str ⟨false, false, 0, 0, b + 1⟩) rfl rfl HQ.out sizeSr rfl (str_one _) ?_))
  refine bodyPost_ret (v := .tuple #[.agg (str ⟨false, false, 0, 0, b + 1⟩).toArray, .int .i64 2, .int .i64 0]) ?_ rfl ⟨rfl, Below.put HW.out (by omega) _⟩
  exact (VB.ret3 (cs := str ⟨false, false, 0, 0, b + 1⟩) rfl rfl (aggSr _) sizeSr (HQ.out.put (str ⟨false, false, 0, 0, b + 1⟩))).trans rfl

set_option maxHeartbeats 1600000 in
theorem rnext_inN (L C B : Int) (s b : Int) (w : World) (h : fne L C B ⟨false, false, s, 0, b⟩ = true) (hR : Rt L C B) (hs : 0 ≤ s ∧ s < L) (hb : 0 ≤ b ∧ b ≤ B) :
    Calls Try.prog 8 #[rlv L C B, stv ⟨false, false, s, 0, b⟩, .bool false] w fun e w' => e = .returned (.tuple #[stv ⟨false, false, 0, 0, b⟩, .int .i64 0, .int .i64 0]) ∧ Below w.heap.size w w' := by
  obtain ⟨h1, h2, h3, h4, h5, h6⟩ := hR
  have _u := hs
  have _v := hb
  have C1 := fun W => rfine_any L C B ⟨false, false, s, 0, b⟩ W
  rw [h] at C1
  clear h
  have TH := Lib.hid (three_new w L C B ⟨false, false, s, 0, b⟩ 32 29)
  unfold rlv stv at *
  go_enter Try.func8, Try.ntmps8
  go_wp2_with (first
    | (go_at_call 15; refine (C1 _).mono ?_; rintro e w1 ⟨rfl, bq⟩; have T1 := Lib.hid (TH.out.on bq); clear bq C1
       have HS := Lib.hid (show VRow (w1.setCell ⟨w.heap.size + 1, 2, none⟩ (.int .i64 0)) (w.heap.size + 1) 29 (str ⟨false, false, 0, 0, b⟩) from (VRow.set T1.out.state 2 (.int .i64 0)))
       have HQ := Lib.hid (show VRow (w1.setCell ⟨w.heap.size + 1, 2, none⟩ (.int .i64 0)) (w.heap.size + 1 + 1) 29 (str zer) from (VRow.setOther T1.out.res (by show w.heap.size + 1 + 1 ≠ w.heap.size + 1; omega) (.int .i64 0)))
       have HW := Lib.hid (show Below w.heap.size w (w1.setCell ⟨w.heap.size + 1, 2, none⟩ (.int .i64 0)) from (Below.setCell T1.out.below (by show w.heap.size ≤ w.heap.size + 1; omega) (.int .i64 0)))
       obtain ⟨c0, c1, c2⟩ := rl_cells T1.out.rule; obtain ⟨q0, q1, q2, q3, q4⟩ := st_cells T1.out.state
       have f0 := T1.out.state.frozen 0; have f1 := T1.out.state.frozen 1; have f2 := T1.out.state.frozen 2; have f3 := T1.out.state.frozen 3)
    | ((with_reducible show wpList _ _ _ (⟨some 45, _, _, _, _, _⟩ :: _) _ _); refine VB.loaded (cs := str ⟨false, false, 0, 0, b⟩) rfl _ rfl (w.heap.size + 1) rfl HS.out Try.underlying29 rfl sizeSr ?_)
    | ((with_reducible show wpList _ _ _ (⟨none, .store _ (.tmp 6) _, _, _, _, _⟩ :: _) _ _); refine VB.store rfl _ _ rfl (w.heap.size + 1 + 1) (str ⟨false, false, 0, 0, b⟩) rfl rfl HQ.out sizeSr rfl (str_one _) ?_))
  refine bodyPost_ret (v := .tuple #[.agg (str ⟨false, false, 0, 0, b⟩).toArray, .int .i64 0, .int .i64 0]) ?_ rfl ⟨rfl, Below.put HW.out (by omega) _⟩
  exact (VB.ret3 (cs := str ⟨false, false, 0, 0, b⟩) rfl rfl (aggSr _) sizeSr (HQ.out.put (str ⟨false, false, 0, 0, b⟩))).trans rfl

set_option maxHeartbeats 1600000 in
theorem rnext_inF (L C B : Int) (s b : Int) (w : World) (h : fne L C B ⟨false, false, s, 0, b⟩ = true) (hR : Rt L C B) (hs : 0 ≤ s ∧ s < L) (hb : 0 ≤ b ∧ b ≤ B) (d : s + 1 < L) :
    Calls Try.prog 8 #[rlv L C B, stv ⟨false, false, s, 0, b⟩, .bool true] w fun e w' => e = .returned (.tuple #[stv ⟨false, false, s + 1, 0, b⟩, .int .i64 0, .int .i64 0]) ∧ Below w.heap.size w w' := by
  obtain ⟨h1, h2, h3, h4, h5, h6⟩ := hR
  have _u := hs
  have _v := hb
  have C1 := fun W => rfine_any L C B ⟨false, false, s, 0, b⟩ W
  rw [h] at C1
  clear h
  have TH := Lib.hid (three_new w L C B ⟨false, false, s, 0, b⟩ 32 29)
  unfold rlv stv at *
  go_enter Try.func8, Try.ntmps8
  go_wp2_with (first
    | (go_at_call 15; refine (C1 _).mono ?_; rintro e w1 ⟨rfl, bq⟩; have T1 := Lib.hid (TH.out.on bq); clear bq C1
       have HS := Lib.hid (show VRow (w1.setCell ⟨w.heap.size + 1, 2, none⟩ (.int .i64 (s + 1))) (w.heap.size + 1) 29 (str ⟨false, false, s + 1, 0, b⟩) from (VRow.set T1.out.state 2 (.int .i64 (s + 1))))
       have HQ := Lib.hid (show VRow (w1.setCell ⟨w.heap.size + 1, 2, none⟩ (.int .i64 (s + 1))) (w.heap.size + 1 + 1) 29 (str zer) from (VRow.setOther T1.out.res (by show w.heap.size + 1 + 1 ≠ w.heap.size + 1; omega) (.int .i64 (s + 1))))
       have HW := Lib.hid (show Below w.heap.size w (w1.setCell ⟨w.heap.size + 1, 2, none⟩ (.int .i64 (s + 1))) from (Below.setCell T1.out.below (by show w.heap.size ≤ w.heap.size + 1; omega) (.int .i64 (s + 1))))
       obtain ⟨c0, c1, c2⟩ := rl_cells T1.out.rule; obtain ⟨q0, q1, q2, q3, q4⟩ := st_cells T1.out.state
       have f0 := T1.out.state.frozen 0; have f1 := T1.out.state.frozen 1; have f2 := T1.out.state.frozen 2; have f3 := T1.out.state.frozen 3)
    | ((with_reducible show wpList _ _ _ (⟨some 55, _, _, _, _, _⟩ :: _) _ _); refine VB.loaded (cs := str ⟨false, false, s + 1, 0, b⟩) rfl _ rfl (w.heap.size + 1) rfl HS.out Try.underlying29 rfl sizeSr ?_)
    | ((with_reducible show wpList _ _ _ (⟨none, .store _ (.tmp 6) _, _, _, _, _⟩ :: _) _ _); refine VB.store rfl _ _ rfl (w.heap.size + 1 + 1) (str ⟨false, false, s + 1, 0, b⟩) rfl rfl HQ.out sizeSr rfl (str_one _) ?_))
  refine bodyPost_ret (v := .tuple #[.agg (str ⟨false, false, s + 1, 0, b⟩).toArray, .int .i64 0, .int .i64 0]) ?_ rfl ⟨rfl, Below.put HW.out (by omega) _⟩
  exact (VB.ret3 (cs := str ⟨false, false, s + 1, 0, b⟩) rfl rfl (aggSr _) sizeSr (HQ.out.put (str ⟨false, false, s + 1, 0, b⟩))).trans rfl

set_option maxHeartbeats 1600000 in
theorem rnext_inG (L C B : Int) (s b : Int) (w : World) (h : fne L C B ⟨false, false, s, 0, b⟩ = true) (hR : Rt L C B) (hs : 0 ≤ s ∧ s < L) (hb : 0 ≤ b ∧ b ≤ B) (d : s + 1 = L ∧ b = B) :
    Calls Try.prog 8 #[rlv L C B, stv ⟨false, false, s, 0, b⟩, .bool true] w fun e w' => e = .returned (.tuple #[stv ⟨true, true, s + 1, 0, b⟩, .int .i64 3, .int .i64 0]) ∧ Below w.heap.size w w' := by
  obtain ⟨h1, h2, h3, h4, h5, h6⟩ := hR
  obtain ⟨rfl, rfl⟩ := d
  have _u := hs
  have _v := hb
  have C1 := fun W => rfine_any (s + 1) C b ⟨false, false, s, 0, b⟩ W
  rw [h] at C1
  clear h
  have TH := Lib.hid (three_new w (s + 1) C b ⟨false, false, s, 0, b⟩ 32 29)
  unfold rlv stv at *
  go_enter Try.func8, Try.ntmps8
  go_wp2_with (first
    | (go_at_call 15; refine (C1 _).mono ?_; rintro e w1 ⟨rfl, bq⟩; have T1 := Lib.hid (TH.out.on bq); clear bq C1
       have HS := Lib.hid (show VRow (((w1.setCell ⟨w.heap.size + 1, 2, none⟩ (.int .i64 (s + 1))).setCell ⟨w.heap.size + 1, 0, none⟩ (.bool true)).setCell ⟨w.heap.size + 1, 1, none⟩ (.bool true)) (w.heap.size + 1) 29 (str ⟨true, true, s + 1, 0, b⟩) from (VRow.set (VRow.set (VRow.set T1.out.state 2 (.int .i64 (s + 1))) 0 (.bool true)) 1 (.bool true)))
       have HQ := Lib.hid (show VRow (((w1.setCell ⟨w.heap.size + 1, 2, none⟩ (.int .i64 (s + 1))).setCell ⟨w.heap.size + 1, 0, none⟩ (.bool true)).setCell ⟨w.heap.size + 1, 1, none⟩ (.bool true)) (w.heap.size + 1 + 1) 29 (str zer) from (VRow.setOther (VRow.setOther (VRow.setOther T1.out.res (by show w.heap.size + 1 + 1 ≠ w.heap.size + 1; omega) (.int .i64 (s + 1))) (by show w.heap.size + 1 + 1 ≠ w.heap.size + 1; omega) (.bool true)) (by show w.heap.size + 1 + 1 ≠ w.heap.size + 1; omega) (.bool true)))
       have HW := Lib.hid (show Below w.heap.size w (((w1.setCell ⟨w.heap.size + 1, 2, none⟩ (.int .i64 (s + 1))).setCell ⟨w.heap.size + 1, 0, none⟩ (.bool true)).setCell ⟨w.heap.size + 1, 1, none⟩ (.bool true)) from (Below.setCell (Below.setCell (Below.setCell T1.out.below (by show w.heap.size ≤ w.heap.size + 1; omega) (.int .i64 (s + 1))) (by show w.heap.size ≤ w.heap.size + 1; omega) (.bool true)) (by show w.heap.size ≤ w.heap.size + 1; omega) (.bool true)))
       obtain ⟨c0, c1, c2⟩ := rl_cells T1.out.rule; obtain ⟨q0, q1, q2, q3, q4⟩ := st_cells T1.out.state
       have f0 := T1.out.state.frozen 0; have f1 := T1.out.state.frozen 1; have f2 := T1.out.state.frozen 2; have f3 := T1.out.state.frozen 3)
    | ((with_reducible show wpList _ _ _ (⟨some 63, _, _, _, _, _⟩ :: _) _ _); refine VB.loaded (cs := str ⟨true, true, s + 1, 0, b⟩) rfl _ rfl (w.heap.size + 1) rfl HS.out Try.underlying29 rfl sizeSr ?_)
    | ((with_reducible show wpList _ _ _ (⟨none, .store _ (.tmp 6) _, _, _, _, _⟩ :: _) _ _); refine VB.store rfl _ _ rfl (w.heap.size + 1 + 1) (str ⟨true, true, s + 1, 0, b⟩) rfl rfl HQ.out sizeSr rfl (str_one _) ?_))
  refine bodyPost_ret (v := .tuple #[.agg (str ⟨true, true, s + 1, 0, b⟩).toArray, .int .i64 3, .int .i64 0]) ?_ rfl ⟨rfl, Below.put HW.out (by omega) _⟩
  exact (VB.ret3 (cs := str ⟨true, true, s + 1, 0, b⟩) rfl rfl (aggSr _) sizeSr (HQ.out.put (str ⟨true, true, s + 1, 0, b⟩))).trans rfl

set_option maxHeartbeats 1600000 in
theorem rnext_inH (L C B : Int) (s b : Int) (w : World) (h : fne L C B ⟨false, false, s, 0, b⟩ = true) (hR : Rt L C B) (hs : 0 ≤ s ∧ s < L) (hb : 0 ≤ b ∧ b ≤ B) (d : s + 1 = L ∧ b < B) :
    Calls Try.prog 8 #[rlv L C B, stv ⟨false, false, s, 0, b⟩, .bool true] w fun e w' => e = .returned (.tuple #[stv ⟨true, false, s + 1, 0, b⟩, .int .i64 1, .int .i64 0]) ∧ Below w.heap.size w w' := by
  obtain ⟨h1, h2, h3, h4, h5, h6⟩ := hR
  obtain ⟨rfl, d⟩ := d
  have _u := hs
  have _v := hb
  have C1 := fun W => rfine_any (s + 1) C B ⟨false, false, s, 0, b⟩ W
  rw [h] at C1
  clear h
  have TH := Lib.hid (three_new w (s + 1) C B ⟨false, false, s, 0, b⟩ 32 29)
  unfold rlv stv at *
  go_enter Try.func8, Try.ntmps8
  go_wp2_with (first
    | (go_at_call 15; refine (C1 _).mono ?_; rintro e w1 ⟨rfl, bq⟩; have T1 := Lib.hid (TH.out.on bq); clear bq C1
       have HS := Lib.hid (show VRow ((w1.setCell ⟨w.heap.size + 1, 2, none⟩ (.int .i64 (s + 1))).setCell ⟨w.heap.size + 1, 0, none⟩ (.bool true)) (w.heap.size + 1) 29 (str ⟨true, false, s + 1, 0, b⟩) from (VRow.set (VRow.set T1.out.state 2 (.int .i64 (s + 1))) 0 (.bool true)))
       have HQ := Lib.hid (show VRow ((w1.setCell ⟨w.heap.size + 1, 2, none⟩ (.int .i64 (s + 1))).setCell ⟨w.heap.size + 1, 0, none⟩ (.bool true)) (w.heap.size + 1 + 1) 29 (str zer) from (VRow.setOther (VRow.setOther T1.out.res (by show w.heap.size + 1 + 1 ≠ w.heap.size + 1; omega) (.int .i64 (s + 1))) (by show w.heap.size + 1 + 1 ≠ w.heap.size + 1; omega) (.bool true)))
       have HW := Lib.hid (show Below w.heap.size w ((w1.setCell ⟨w.heap.size + 1, 2, none⟩ (.int .i64 (s + 1))).setCell ⟨w.heap.size + 1, 0, none⟩ (.bool true)) from (Below.setCell (Below.setCell T1.out.below (by show w.heap.size ≤ w.heap.size + 1; omega) (.int .i64 (s + 1))) (by show w.heap.size ≤ w.heap.size + 1; omega) (.bool true)))
       obtain ⟨c0, c1, c2⟩ := rl_cells T1.out.rule; obtain ⟨q0, q1, q2, q3, q4⟩ := st_cells T1.out.state
       have f0 := T1.out.state.frozen 0; have f1 := T1.out.state.frozen 1; have f2 := T1.out.state.frozen 2; have f3 := T1.out.state.frozen 3)
    | ((with_reducible show wpList _ _ _ (⟨some 64, _, _, _, _, _⟩ :: _) _ _); refine VB.loaded (cs := str ⟨true, false, s + 1, 0, b⟩) rfl _ rfl (w.heap.size + 1) rfl HS.out Try.underlying29 rfl sizeSr ?_)
    | ((with_reducible show wpList _ _ _ (⟨none, .store _ (.tmp 6) _, _, _, _, _⟩ :: _) _ _); refine VB.store rfl _ _ rfl (w.heap.size + 1 + 1) (str ⟨true, false, s + 1, 0, b⟩) rfl rfl HQ.out sizeSr rfl (str_one _) ?_))
  refine bodyPost_ret (v := .tuple #[.agg (str ⟨true, false, s + 1, 0, b⟩).toArray, .int .i64 1, .int .i64 0]) ?_ rfl ⟨rfl, Below.put HW.out (by omega) _⟩
  exact (VB.ret3 (cs := str ⟨true, false, s + 1, 0, b⟩) rfl rfl (aggSr _) sizeSr (HQ.out.put (str ⟨true, false, s + 1, 0, b⟩))).trans rfl


theorem rnext_any (L C B : Int) (s : St) (t : Bool) (w : World) : Calls Try.prog 8 #[rlv L C B, stv s, .bool t] w (RetN w L C B s t) := by
  cases h : fne L C B s
  · exact rnext_no L C B s t w h
  · obtain ⟨hR, hf⟩ := fne_right h
    have HF : RetN w L C B s t = fun e w' => e = .returned (.tuple #[stv (ste L C B s t), .int .i64 (wha L C B s t), .int .i64 0]) ∧ Below w.heap.size w w' := by unfold RetN nxs nxw nxe; rw [h]; rfl
    rw [HF]
    clear HF
    cases fin_iff.1 hf with
    | out =>
      have e1 : ste L C B ⟨true, true, L, 0, B⟩ t = ⟨true, true, L, 0, B⟩ := by simp [ste]
      have e2 : wha L C B ⟨true, true, L, 0, B⟩ t = 0 := by simp [wha]
      rw [e1, e2]
      exact rnext_out L C B t w h hR
    | @latched c b hc hb =>
      cases t
      · by_cases d : c + 1 < C
        · have e1 : ste L C B ⟨true, false, L, c, b⟩ false = ⟨true, false, L, c + 1, b⟩ := by simp [ste, d]
          have e2 : wha L C B ⟨true, false, L, c, b⟩ false = 0 := by simp [wha, d]
          rw [e1, e2]
          exact rnext_latC L C B c b w h hR hc hb d
        · have e1 : ste L C B ⟨true, false, L, c, b⟩ false = ⟨false, false, 0, 0, b + 1⟩ := by simp [ste, d]
          have e2 : wha L C B ⟨true, false, L, c, b⟩ false = 2 := by simp [wha, d]
          rw [e1, e2]
          exact rnext_latD L C B c b w h hR hc hb (by omega)
      · have e1 : ste L C B ⟨true, false, L, c, b⟩ true = ⟨true, false, L, 0, b⟩ := by simp [ste]
        have e2 : wha L C B ⟨true, false, L, c, b⟩ true = 0 := by simp [wha]
        rw [e1, e2]
        exact rnext_latT L C B c b w h hR hc hb
    | @«in» s b hs hb =>
      cases t
      · have e1 : ste L C B ⟨false, false, s, 0, b⟩ false = ⟨false, false, 0, 0, b⟩ := by simp [ste]
        have e2 : wha L C B ⟨false, false, s, 0, b⟩ false = 0 := by simp [wha]
        rw [e1, e2]
        exact rnext_inN L C B s b w h hR hs hb
      · by_cases d : s + 1 < L
        · have e1 : ste L C B ⟨false, false, s, 0, b⟩ true = ⟨false, false, s + 1, 0, b⟩ := by simp [ste, d]
          have e2 : wha L C B ⟨false, false, s, 0, b⟩ true = 0 := by simp [wha, d]
          rw [e1, e2]
          exact rnext_inF L C B s b w h hR hs hb d
        · by_cases p : b < B
          · have e1 : ste L C B ⟨false, false, s, 0, b⟩ true = ⟨true, false, s + 1, 0, b⟩ := by simp [ste, d, p]
            have e2 : wha L C B ⟨false, false, s, 0, b⟩ true = 1 := by simp [wha, d, p]
            rw [e1, e2]
            exact rnext_inH L C B s b w h hR hs hb ⟨by omega, p⟩
          · have e1 : ste L C B ⟨false, false, s, 0, b⟩ true = ⟨true, true, s + 1, 0, b⟩ := by simp [ste, d, p]
            have e2 : wha L C B ⟨false, false, s, 0, b⟩ true = 3 := by simp [wha, d, p]
            rw [e1, e2]
            exact rnext_inG L C B s b w h hR hs hb ⟨by omega, by omega⟩
end Lc
end Go.Proofs.Ytcpfdohodadcaaa
