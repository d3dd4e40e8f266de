/-
  What Next of package latch tells: a contract by walking the Go text. No conditions.
  What Right, Fine and Next of rudderref15 tell: contracts by walking the Go text. No conditions.
  What Next of rudderref15 tells: a contract by walking the Go text (made by gen/gen_latchref.py). No conditions.
-/
import Derived.Test.YtacclmfbkiadbaaGreatJEqualRef5
import Derived.Test.YtacclmfbkiadbaaGreatJLatchMath8
import Derived.Test.YtacclmfbkiadbaaGreatJSetWrites2
namespace Go.Proofs.YtacclmfbkiadbaaGreat
set_option maxRecDepth 100000
open Go.ChangeShapes Go.WideShapes Go.ChangeAt Go.RowKit Go.Deep
namespace Lc
/-- What a mode does, whichever it is: its value, its method, what it hands back. -/
theorem behind_any {L C B : Int} {s : St} (h : fne L C B s = true) (t : Bool) :
    ∃ T f, mde s.la s.ou = .iface T (.agg #[]) ∧ (∀ d W, (method (d + 1) T (.agg #[]) "rudder/latch.behind").run Tryz.prog W = .ok (f, .agg #[]) W) ∧
      (∀ W, (callFunc f #[.agg #[], rlv L C B, stv s, .bool t]).run Tryz.prog W = .ok (.enter f #[.agg #[], rlv L C B, stv s, .bool t]) W) ∧
      ∀ w, Calls Tryz.prog f #[.agg #[], rlv L C B, stv s, .bool t] w (RetS w L C B s t) := by
  obtain ⟨hR, hf⟩ := fne_right h
  obtain ⟨h1, h2, h3, h4, h5, h6⟩ := hR
  cases fin_iff.1 hf with
  | out => exact ⟨_, _, rfl, m_out_behind, fun W => by kernel_rfl, fun w => out_behind L C B t w⟩
  | @latched c b hc hb => exact ⟨_, _, rfl, m_latched_behind, fun W => by kernel_rfl, fun w => latched_behind L C B c b t w hc (by omega) (by omega)⟩
  | @«in» s b hs hb => exact ⟨_, _, rfl, m_in_behind, fun W => by kernel_rfl, fun w => in_behind L C B s b t w hs (by omega)⟩
def nxs (L C B : Int) (s : St) (t : Bool) : St := if fne L C B s then ste L C B s t else zer
def nxw (L C B : Int) (s : St) (t : Bool) : Int := if fne L C B s then wha L C B s t else 0
def nxe (L C B : Int) (s : St) : Int := if fne L C B s then 0 else 1
/-- What Next hands back. -/
def RetN (w : World) (L C B : Int) (s : St) (t : Bool) (e : Ending) (w' : World) : Prop := e = .returned (.tuple #[stv (nxs L C B s t), .int .i64 (nxw L C B s t), .int .i64 (nxe L C B s)]) ∧ Below w.heap.size w w'
/-- Two boxes: the rule's, the result's. -/
structure TwoR (w W : World) (t u : TypeId) (L C B : Int) : Prop where
  below : Below w.heap.size w W
  rule : VRow W w.heap.size t (rlr L C B)
  res : VRow W (w.heap.size + 1) u (str zer)
theorem TwoR.on {w W W' : World} {t u : TypeId} {L C B : Int} (h : TwoR w W t u L C B) (b : Below W.heap.size W W') : TwoR w W' t u L C B := ⟨grow h.below b, h.rule.below b h.rule.lt, h.res.below b h.res.lt⟩
/-- Three boxes: the rule's, the state's, the result's. -/
structure Three (w W : World) (t u : TypeId) (L C B : Int) (s r : St) : Prop where
  below : Below w.heap.size w W
  rule : VRow W w.heap.size t (rlr L C B)
  state : VRow W (w.heap.size + 1) u (str s)
  res : VRow W (w.heap.size + 1 + 1) u (str r)
theorem three_new (w : World) (L C B : Int) (s : St) (t u : TypeId) : Three w (((w.alloc (.cells #[.int .i64 L, .int .i64 C, .int .i64 B] t)).alloc (.cells #[.bool s.la, .bool s.ou, .int .i64 s.st, .int .i64 s.cl, .int .i64 s.bk] u)).alloc (.cells #[.bool false, .bool false, .int .i64 0, .int .i64 0, .int .i64 0] u)) t u L C B s zer := by
  have T := two_new w L C B s t u
  have N := VRow.new ((w.alloc (.cells #[.int .i64 L, .int .i64 C, .int .i64 B] t)).alloc (.cells #[.bool s.la, .bool s.ou, .int .i64 s.st, .int .i64 s.cl, .int .i64 s.bk] u)) (str zer) u
  rw [show ((w.alloc (.cells #[.int .i64 L, .int .i64 C, .int .i64 B] t)).alloc (.cells #[.bool s.la, .bool s.ou, .int .i64 s.st, .int .i64 s.cl, .int .i64 s.bk] u)).heap.size = w.heap.size + 1 + 1 by simp] at N
  exact ⟨T.below.alloc T.below.size _, T.rule.alloc _, T.state.alloc _, N⟩
theorem Three.on {w W W' : World} {t u : TypeId} {L C B : Int} {s r : St} (h : Three w W t u L C B s r) (b : Below W.heap.size W W') : Three w W' t u L C B s r :=
  ⟨grow h.below b, h.rule.below b h.rule.lt, h.state.below b h.state.lt, h.res.below b h.res.lt⟩
theorem str_one (s : St) : (str s).toArray.all (·.oneCell') = true := by simp [str, Value.oneCell']
theorem sizeS : (Tryz.prog.info? 62).map (·.size) = some 5 := by kernel_rfl
theorem aggS (w : World) : (isAgg 62).run Tryz.prog w = .ok true w := by simp [isAgg, run_underlying Tryz.underlying62]
theorem allocS (W : World) : (Instr.alloc 62 true (.tuple #[])).run Tryz.prog W = .ok (.pointer (some ⟨W.heap.size, 0, none⟩)) (W.alloc (.cells (str zer).toArray 62)) := by kernel_rfl
set_option maxHeartbeats 1600000 in
theorem next_no (L C B : Int) (s : St) (t : Bool) (w : World) (h : fne L C B s = false) :
    Calls Tryz.prog 69 #[rlv L C B, stv s, .bool t] w (RetN w L C B s t) := by
  have HF := Lib.hid (show RetN w L C B s t = fun e w' => e = .returned (.tuple #[stv zer, .int .i64 0, .int .i64 1]) ∧ Below w.heap.size w w' by unfold RetN nxs nxw nxe; rw [h]; rfl)
  have C1 := fun W => fine_any L C B s W
  rw [h] at C1
  rw [HF.out]
  have T := Lib.hid (three_new w L C B s 137 62)
  clear h HF
  unfold rlv stv at *
  go_enter Tryz.func69, Tryz.ntmps69
  go_wp2_with (first
    | (go_at_call 108; refine (C1 _).mono ?_; rintro e w1 ⟨rfl, b1⟩; have T1 := Lib.hid (T.out.on b1); clear b1)
    | ((with_reducible show wpList _ _ _ (⟨none, .store _ (.tmp 6) _, _, _, _, _⟩ :: _) _ _); refine VB.store rfl _ _ rfl (w.heap.size + 1 + 1) (str zer) rfl rfl T1.out.res sizeS rfl (str_one zer) ?_))
  refine bodyPost_ret (v := .tuple #[.agg (str zer).toArray, .int .i64 0, .int .i64 1]) ?_ rfl ⟨rfl, Below.put T1.out.below (by omega) _⟩
  exact (VB.ret3 (cs := str zer) rfl rfl (aggS _) sizeS (T1.out.res.put (str zer))).trans rfl
set_option maxHeartbeats 3200000 in
theorem next_yes (L C B : Int) (s : St) (t : Bool) (w : World) (h : fne L C B s = true) :
    Calls Tryz.prog 69 #[rlv L C B, stv s, .bool t] w (RetN w L C B s t) := by
  have HF := Lib.hid (show RetN w L C B s t = fun e w' => e = .returned (.tuple #[stv (ste L C B s t), .int .i64 (wha L C B s t), .int .i64 0]) ∧ Below w.heap.size w w' by unfold RetN nxs nxw nxe; rw [h]; rfl)
  obtain ⟨T, f, e1, m1, m2, CB⟩ := behind_any h t
  have C1 := fun W => fine_any L C B s W
  rw [h] at C1
  rw [HF.out]
  have CM := fun W => modeOf_any s.la s.ou s.st s.cl s.bk W
  rw [e1] at CM
  unfold RetS at CB
  have TH := Lib.hid (three_new w L C B s 137 62)
  generalize ste L C B s t = r at *
  generalize wha L C B s t = x at *
  clear h HF e1
  unfold rlv stv at *
  go_enter Tryz.func69, Tryz.ntmps69
  go_wp2_with (go_at_call 108; refine (C1 _).mono ?_; rintro e w1 ⟨rfl, b1⟩; have T1 := Lib.hid (TH.out.on b1); clear b1)
  clear C1
  refine Lt.wp_region_box (aF := ?_) 11 10 27 9 23 62 (str zer) (str r) [true, true, true, true, true, true, true, true, true, false, false] [false, false, false, false, false, false, false, false, false, true, false] (by kernel_rfl) (by kernel_rfl) (by kernel_rfl) rfl (by decide) rfl rfl ?_ sizeS rfl (str_one r) ?_ ?_ ?_
  case refine_3 =>
    intro W bW
    have T2 := T1.out.on bW
    obtain ⟨c0, c1, c2⟩ := rl_cells T2.rule
    replace c0 := cell_regrown c0
    replace c1 := cell_regrown c1
    replace c2 := cell_regrown c2
    obtain ⟨q0, q1, q2, q3, q4⟩ := st_cells T2.state
    replace q0 := cell_regrown q0
    replace q1 := cell_regrown q1
    replace q2 := cell_regrown q2
    replace q3 := cell_regrown q3
    replace q4 := cell_regrown q4
    have cM := reg_call (w := W) (fun W _ => CM W)
    have cB := reg_call (w := W) (fun W _ => CB W)
    simp only [List.take_succ_cons, List.take_zero, Lt.sel]
    repeat (go_big_quiet_step (first | exact cM _ _ | exact cB _ _))
    exact rfl
  case refine_2 => exact allocS
  case refine_4 => exact rfl
  intro g W k
  have T2 := Lib.hid (T1.out.on k.below)
  have K2 := Lib.hid k
  simp only [List.drop_succ_cons, List.drop_zero, Act.put, List.setIfInBounds_toArray, List.set_cons_succ, List.set_cons_zero]
  clear T1 CM CB
  go_wp2_with (first
    | ((with_reducible show wpList _ _ _ (⟨some 25, _, _, _, _, _⟩ :: _) _ _); refine VB.loaded (cs := str r) rfl _ rfl g rfl K2.out.row Tryz.underlying62 rfl sizeS ?_)
    | ((with_reducible show wpList _ _ _ (⟨none, .store _ (.tmp 6) _, _, _, _, _⟩ :: _) _ _); refine VB.store rfl _ _ rfl (w.heap.size + 1 + 1) (str r) rfl rfl T2.out.res sizeS rfl (str_one r) ?_))
  refine bodyPost_ret (v := .tuple #[.agg (str r).toArray, .int .i64 x, .int .i64 0]) ?_ rfl ⟨rfl, Below.put T2.out.below (by omega) _⟩
  exact (VB.ret3 (cs := str r) rfl rfl (aggS _) sizeS (T2.out.res.put (str r))).trans rfl
theorem next_any (L C B : Int) (s : St) (t : Bool) (w : World) : Calls Tryz.prog 69 #[rlv L C B, stv s, .bool t] w (RetN w L C B s t) := by
  cases h : fne L C B s
  · exact next_no L C B s t w h
  · exact next_yes L C B s t w h
end Lc
end Go.Proofs.YtacclmfbkiadbaaGreat

namespace Go.Proofs.YtacclmfbkiadbaaGreat
set_option maxRecDepth 100000
open Go.ChangeShapes Go.WideShapes Go.ChangeAt Go.RowKit Go.Deep
namespace Lc
theorem rgt_ways (L C B : Int) :
    (decide (1 ≤ L) = false ∧ rgt L C B = false) ∨ (decide (1 ≤ L) = true ∧ decide (L ≤ 100) = false ∧ rgt L C B = false) ∨
    (decide (1 ≤ L) = true ∧ decide (L ≤ 100) = true ∧ decide (1 ≤ C) = false ∧ rgt L C B = false) ∨ (decide (1 ≤ L) = true ∧ decide (L ≤ 100) = true ∧ decide (1 ≤ C) = true ∧ decide (C ≤ 1000) = false ∧ rgt L C B = false) ∨
    (decide (1 ≤ L) = true ∧ decide (L ≤ 100) = true ∧ decide (1 ≤ C) = true ∧ decide (C ≤ 1000) = true ∧ decide (0 ≤ B) = false ∧ rgt L C B = false) ∨
    (decide (1 ≤ L) = true ∧ decide (L ≤ 100) = true ∧ decide (1 ≤ C) = true ∧ decide (C ≤ 1000) = true ∧ decide (0 ≤ B) = true ∧ decide (B ≤ 10) = false ∧ rgt L C B = false) ∨
    (decide (1 ≤ L) = true ∧ decide (L ≤ 100) = true ∧ decide (1 ≤ C) = true ∧ decide (C ≤ 1000) = true ∧ decide (0 ≤ B) = true ∧ decide (B ≤ 10) = true ∧ rgt L C B = true) := by
  unfold rgt inb
  cases decide (1 ≤ L) <;> cases decide (L ≤ 100) <;> cases decide (1 ≤ C) <;> cases decide (C ≤ 1000) <;> cases decide (0 ≤ B) <;> cases decide (B ≤ 10) <;> simp
set_option maxHeartbeats 800000 in
theorem rright_any (L C B : Int) (w : World) :
    Calls Tryz.prog 135 #[rlv L C B] w fun e w' => e = .returned (.bool (rgt L C B)) ∧ Below w.heap.size w w' := by
  have BB := Lib.hid ((Below.refl w.heap.size w).alloc (Nat.le_refl _) (.cells #[.int .i64 L, .int .i64 C, .int .i64 B] 145))
  unfold rlv
  rcases rgt_ways L C B with ⟨d1, hz⟩ | ⟨d1, d2, hz⟩ | ⟨d1, d2, d3, hz⟩ | ⟨d1, d2, d3, d4, hz⟩ | ⟨d1, d2, d3, d4, d5, hz⟩ | ⟨d1, d2, d3, d4, d5, d6, hz⟩ | ⟨d1, d2, d3, d4, d5, d6, hz⟩
  all_goals
    have HF := Lib.hid hz
    clear hz
    go_enter Tryz.func135, Tryz.ntmps135
    go_wp2
    go_ret
    exact ⟨ret_bool HF.out.symm, BB.out⟩
/-- A state that may not be, by its numbers alone; else what is left to be asked. -/
theorem fin_early {L C B : Int} (h : Rt L C B) {s : St} (e : s.bk < 0 ∨ B < s.bk ∨ s.cl < 0 ∨ s.st < 0) : fin L C B s = false := by
  obtain ⟨h1, h2, h3, h4, h5, h6⟩ := h
  cases q : fin L C B s with
  | false => rfl
  | true =>
    exfalso
    cases fin_iff.1 q <;> dsimp only at e <;> omega
theorem fin_late {L C B : Int} {s : St} (e1 : ¬ s.bk < 0) (e2 : ¬ B < s.bk) (e3 : ¬ s.cl < 0) (e4 : ¬ s.st < 0) :
    fin L C B s = if s.ou then s.la && s.st == L && s.cl == 0 && s.bk == B else if s.la then s.st == L && decide (s.cl < C) && decide (s.bk < B) else decide (s.st < L) && s.cl == 0 := by
  unfold fin inb
  by_cases ho : s.ou = true
  · rw [if_pos ho, if_pos ho]
  · rw [if_neg ho, if_neg ho]
    by_cases hl : s.la = true
    · rw [if_pos hl, if_pos hl]
      rw [show decide (0 ≤ s.cl) = true by simpa using e3, show decide (0 ≤ s.bk) = true by simpa using e1, show decide (s.cl ≤ C - 1) = decide (s.cl < C) from decide_eq_decide.2 ⟨fun _ => by omega, fun _ => by omega⟩, show decide (s.bk ≤ B - 1) = decide (s.bk < B) from decide_eq_decide.2 ⟨fun _ => by omega, fun _ => by omega⟩]
      simp
    · rw [if_neg hl, if_neg hl]
      rw [show decide (0 ≤ s.st) = true by simpa using e4, show decide (0 ≤ s.bk) = true by simpa using e1, show decide (s.st ≤ L - 1) = decide (s.st < L) from decide_eq_decide.2 ⟨fun _ => by omega, fun _ => by omega⟩, show decide (s.bk ≤ B) = true by simpa using e2]
      simp
theorem Two.on {w W W' : World} {t u : TypeId} {L C B : Int} {s : St} (h : Two w W t u L C B s) (b : Below W.heap.size W W') : Two w W' t u L C B s := ⟨grow h.below b, h.rule.below b h.rule.lt, h.state.below b h.state.lt⟩
set_option maxHeartbeats 3200000 in
theorem rfine_any (L C B : Int) (s : St) (w : World) :
    Calls Tryz.prog 117 #[rlv L C B, stv s] w fun e w' => e = .returned (.bool (fne L C B s)) ∧ Below w.heap.size w w' := by
  have C1 := fun W => rright_any L C B W
  have TH := Lib.hid (two_new w L C B s 145 58)
  obtain ⟨la, ou, st, cl, bk⟩ := s
  have key : ∃ x, fne L C B ⟨la, ou, st, cl, bk⟩ = x ∧
      ((rgt L C B = false ∧ x = false) ∨ (rgt L C B = true ∧ ((decide (bk < 0) = true ∧ x = false) ∨ (decide (bk < 0) = false ∧ decide (B < bk) = true ∧ x = false) ∨ (decide (bk < 0) = false ∧ decide (B < bk) = false ∧ decide (cl < 0) = true ∧ x = false) ∨
        (decide (bk < 0) = false ∧ decide (B < bk) = false ∧ decide (cl < 0) = false ∧ decide (st < 0) = true ∧ x = false) ∨
        (decide (bk < 0) = false ∧ decide (B < bk) = false ∧ decide (cl < 0) = false ∧ decide (st < 0) = false ∧ ((ou = true ∧ la = false ∧ x = false) ∨ (ou = true ∧ la = true ∧ (st == L) = false ∧ x = false) ∨ (ou = true ∧ la = true ∧ (st == L) = true ∧ (cl == 0) = false ∧ x = false) ∨ (ou = true ∧ la = true ∧ (st == L) = true ∧ (cl == 0) = true ∧ x = (bk == B)) ∨
          (ou = false ∧ la = true ∧ (st == L) = false ∧ x = false) ∨ (ou = false ∧ la = true ∧ (st == L) = true ∧ decide (cl < C) = false ∧ x = false) ∨ (ou = false ∧ la = true ∧ (st == L) = true ∧ decide (cl < C) = true ∧ x = decide (bk < B)) ∨
          (ou = false ∧ la = false ∧ decide (st < L) = false ∧ x = false) ∨ (ou = false ∧ la = false ∧ decide (st < L) = true ∧ x = (cl == 0))))))) := by
    refine ⟨_, rfl, ?_⟩
    unfold fne
    cases hr : rgt L C B
    · exact .inl ⟨rfl, rfl⟩
    · refine .inr ⟨rfl, ?_⟩
      rw [Bool.true_and]
      have hR := rgt_iff.1 hr
      by_cases e1 : bk < 0
      · exact .inl ⟨by simpa using e1, fin_early hR (.inl e1)⟩
      · by_cases e2 : B < bk
        · exact .inr (.inl ⟨by simpa using e1, by simpa using e2, fin_early hR (.inr (.inl e2))⟩)
        · by_cases e3 : cl < 0
          · exact .inr (.inr (.inl ⟨by simpa using e1, by simpa using e2, by simpa using e3, fin_early hR (.inr (.inr (.inl e3)))⟩))
          · by_cases e4 : st < 0
            · exact .inr (.inr (.inr (.inl ⟨by simpa using e1, by simpa using e2, by simpa using e3, by simpa using e4, fin_early hR (.inr (.inr (.inr e4)))⟩)))
            · refine .inr (.inr (.inr (.inr ⟨by simpa using e1, by simpa using e2, by simpa using e3, by simpa using e4, ?_⟩)))
              rw [fin_late e1 e2 e3 e4]
              dsimp only
              cases ou <;> cases la <;> cases (st == L) <;> cases (cl == 0) <;> cases decide (cl < C) <;> cases decide (st < L) <;> simp
  obtain ⟨x, hx, key⟩ := key
  rw [hx]
  clear hx
  unfold rlv stv
  unfold rlv at C1
  dsimp only at *
  rcases key with ⟨hr, rfl⟩ | ⟨hr, ⟨d1, rfl⟩ | ⟨d1, d2, rfl⟩ | ⟨d1, d2, d3, rfl⟩ | ⟨d1, d2, d3, d4, rfl⟩ | ⟨d1, d2, d3, d4, ⟨rfl, rfl, rfl⟩ | ⟨rfl, rfl, d5, rfl⟩ | ⟨rfl, rfl, d5, d6, rfl⟩ | ⟨rfl, rfl, d5, d6, rfl⟩ | ⟨rfl, rfl, d5, rfl⟩ | ⟨rfl, rfl, d5, d6, rfl⟩ | ⟨rfl, rfl, d5, d6, rfl⟩ | ⟨rfl, rfl, d5, rfl⟩ | ⟨rfl, rfl, d5, rfl⟩⟩⟩
  all_goals
    rw [hr] at C1
    clear hr
    go_enter Tryz.func117, Tryz.ntmps117
    go_wp2_with (go_at_call 135; refine (C1 _).mono ?_; rintro e w1 ⟨rfl, b1⟩; have T1 := Lib.hid (TH.out.on b1); clear b1; obtain ⟨c0, c1, c2⟩ := rl_cells T1.out.rule; obtain ⟨q0, q1, q2, q3, q4⟩ := st_cells T1.out.state)
    go_ret
    exact ⟨rfl, T1.out.below⟩
end Lc
end Go.Proofs.YtacclmfbkiadbaaGreat

namespace Go.Proofs.YtacclmfbkiadbaaGreat
set_option maxRecDepth 100000
open Go.ChangeShapes Go.WideShapes Go.ChangeAt Go.RowKit Go.Deep
namespace Lc
theorem sizeSr : (Tryz.prog.info? 58).map (·.size) = some 5 := by kernel_rfl
theorem aggSr (w : World) : (isAgg 58).run Tryz.prog w = .ok true w := by simp [isAgg, run_underlying Tryz.underlying58]
set_option maxHeartbeats 1600000 in
theorem rnext_no (L C B : Int) (s : St) (t : Bool) (w : World) (h : fne L C B s = false) :
    Calls Tryz.prog 82 #[rlv L C B, stv s, .bool t] w (RetN w L C B s t) := by
  have HF := Lib.hid (show RetN w L C B s t = fun e w' => e = .returned (.tuple #[stv zer, .int .i64 0, .int .i64 1]) ∧ Below w.heap.size w w' by unfold RetN nxs nxw nxe; rw [h]; rfl)
  have C1 := fun W => rfine_any L C B s W
  rw [h] at C1
  rw [HF.out]
  have T := Lib.hid (three_new w L C B s 145 58)
  clear h HF
  unfold rlv stv at *
  go_enter Tryz.func82, Tryz.ntmps82
  go_wp2_with (first
    | (go_at_call 117; refine (C1 _).mono ?_; rintro e w1 ⟨rfl, b1⟩; have T1 := Lib.hid (T.out.on b1); clear b1)
    | ((with_reducible show wpList _ _ _ (⟨none, .store _ (.tmp 6) _, _, _, _, _⟩ :: _) _ _); refine VB.store rfl _ _ rfl (w.heap.size + 1 + 1) (str zer) rfl rfl T1.out.res sizeSr rfl (str_one zer) ?_))
  refine bodyPost_ret (v := .tuple #[.agg (str zer).toArray, .int .i64 0, .int .i64 1]) ?_ rfl ⟨rfl, Below.put T1.out.below (by omega) _⟩
  exact (VB.ret3 (cs := str zer) rfl rfl (aggSr _) sizeSr (T1.out.res.put (str zer))).trans rfl
set_option maxHeartbeats 1600000 in
theorem rnext_out (L C B : Int) (t : Bool) (w : World) (h : fne L C B ⟨true, true, L, 0, B⟩ = true) (hR : Rt L C B) :
    Calls Tryz.prog 82 #[rlv L C B, stv ⟨true, true, L, 0, B⟩, .bool t] w fun e w' => e = .returned (.tuple #[stv ⟨true, true, L, 0, B⟩, .int .i64 0, .int .i64 0]) ∧ Below w.heap.size w w' := by
  obtain ⟨h1, h2, h3, h4, h5, h6⟩ := hR
  have C1 := fun W => rfine_any L C B ⟨true, true, L, 0, B⟩ W
  rw [h] at C1
  clear h
  have TH := Lib.hid (three_new w L C B ⟨true, true, L, 0, B⟩ 145 58)
  unfold rlv stv at *
  go_enter Tryz.func82, Tryz.ntmps82
  go_wp2_with (first
    | (go_at_call 117; refine (C1 _).mono ?_; rintro e w1 ⟨rfl, bq⟩; have T1 := Lib.hid (TH.out.on bq); clear bq C1
       have HS := Lib.hid (show VRow w1 (w.heap.size + 1) 58 (str ⟨true, true, L, 0, B⟩) from T1.out.state)
       have HQ := Lib.hid (show VRow w1 (w.heap.size + 1 + 1) 58 (str zer) from T1.out.res)
       have HW := Lib.hid (show Below w.heap.size w w1 from T1.out.below)
       obtain ⟨c0, c1, c2⟩ := rl_cells T1.out.rule; obtain ⟨q0, q1, q2, q3, q4⟩ := st_cells T1.out.state
       have f0 := T1.out.state.frozen 0; have f1 := T1.out.state.frozen 1; have f2 := T1.out.state.frozen 2; have f3 := T1.out.state.frozen 3)
    | ((with_reducible show wpList _ _ _ (⟨some 18, _, _, _, _, _⟩ :: _) _ _); refine VB.loaded (cs := str ⟨true, true, L, 0, B⟩) rfl _ rfl (w.heap.size + 1) rfl HS.out Tryz.underlying58 rfl sizeSr ?_)
    | ((with_reducible show wpList _ _ _ (⟨none, .store _ (.tmp 6) _, _, _, _, _⟩ :: _) _ _); refine VB.store rfl _ _ rfl (w.heap.size + 1 + 1) (str ⟨true, true, L, 0, B⟩) rfl rfl HQ.out sizeSr rfl (str_one _) ?_))
  refine bodyPost_ret (v := .tuple #[.agg (str ⟨true, true, L, 0, B⟩).toArray, .int .i64 0, .int .i64 0]) ?_ rfl ⟨rfl, Below.put HW.out (by omega) _⟩
  exact (VB.ret3 (cs := str ⟨true, true, L, 0, B⟩) rfl rfl (aggSr _) sizeSr (HQ.out.put (str ⟨true, true, L, 0, B⟩))).trans rfl
set_option maxHeartbeats 1600000 in
theorem rnext_latT (L C B : Int) (c b : Int) (w : World) (h : fne L C B ⟨true, false, L, c, b⟩ = true) (hR : Rt L C B) (hc : 0 ≤ c ∧ c < C) (hb : 0 ≤ b ∧ b < B) :
    Calls Tryz.prog 82 #[rlv L C B, stv ⟨true, false, L, c, b⟩, .bool true] w fun e w' => e = .returned (.tuple #[stv ⟨true, false, L, 0, b⟩, .int .i64 0, .int .i64 0]) ∧ Below w.heap.size w w' := by
  obtain ⟨h1, h2, h3, h4, h5, h6⟩ := hR
  have _u := hc
  have _v := hb
  have C1 := fun W => rfine_any L C B ⟨true, false, L, c, b⟩ W
  rw [h] at C1
  clear h
  have TH := Lib.hid (three_new w L C B ⟨true, false, L, c, b⟩ 145 58)
  unfold rlv stv at *
  go_enter Tryz.func82, Tryz.ntmps82
  go_wp2_with (first
    | (go_at_call 117; refine (C1 _).mono ?_; rintro e w1 ⟨rfl, bq⟩; have T1 := Lib.hid (TH.out.on bq); clear bq C1
       have HS := Lib.hid (show VRow (w1.setCell ⟨w.heap.size + 1, 3, none⟩ (.int .i64 0)) (w.heap.size + 1) 58 (str ⟨true, false, L, 0, b⟩) from (VRow.set T1.out.state 3 (.int .i64 0)))
       have HQ := Lib.hid (show VRow (w1.setCell ⟨w.heap.size + 1, 3, none⟩ (.int .i64 0)) (w.heap.size + 1 + 1) 58 (str zer) from (VRow.setOther T1.out.res (by show w.heap.size + 1 + 1 ≠ w.heap.size + 1; omega) (.int .i64 0)))
       have HW := Lib.hid (show Below w.heap.size w (w1.setCell ⟨w.heap.size + 1, 3, none⟩ (.int .i64 0)) from (Below.setCell T1.out.below (by show w.heap.size ≤ w.heap.size + 1; omega) (.int .i64 0)))
       obtain ⟨c0, c1, c2⟩ := rl_cells T1.out.rule; obtain ⟨q0, q1, q2, q3, q4⟩ := st_cells T1.out.state
       have f0 := T1.out.state.frozen 0; have f1 := T1.out.state.frozen 1; have f2 := T1.out.state.frozen 2; have f3 := T1.out.state.frozen 3)
    | ((with_reducible show wpList _ _ _ (⟨some 25, _, _, _, _, _⟩ :: _) _ _); refine VB.loaded (cs := str ⟨true, false, L, 0, b⟩) rfl _ rfl (w.heap.size + 1) rfl HS.out Tryz.underlying58 rfl sizeSr ?_)
    | ((with_reducible show wpList _ _ _ (⟨none, .store _ (.tmp 6) _, _, _, _, _⟩ :: _) _ _); refine VB.store rfl _ _ rfl (w.heap.size + 1 + 1) (str ⟨true, false, L, 0, b⟩) rfl rfl HQ.out sizeSr rfl (str_one _) ?_))
  refine bodyPost_ret (v := .tuple #[.agg (str ⟨true, false, L, 0, b⟩).toArray, .int .i64 0, .int .i64 0]) ?_ rfl ⟨rfl, Below.put HW.out (by omega) _⟩
  exact (VB.ret3 (cs := str ⟨true, false, L, 0, b⟩) rfl rfl (aggSr _) sizeSr (HQ.out.put (str ⟨true, false, L, 0, b⟩))).trans rfl
set_option maxHeartbeats 1600000 in
theorem rnext_latC (L C B : Int) (c b : Int) (w : World) (h : fne L C B ⟨true, false, L, c, b⟩ = true) (hR : Rt L C B) (hc : 0 ≤ c ∧ c < C) (hb : 0 ≤ b ∧ b < B) (d : c + 1 < C) :
    Calls Tryz.prog 82 #[rlv L C B, stv ⟨true, false, L, c, b⟩, .bool false] w fun e w' => e = .returned (.tuple #[stv ⟨true, false, L, c + 1, b⟩, .int .i64 0, .int .i64 0]) ∧ Below w.heap.size w w' := by
  obtain ⟨h1, h2, h3, h4, h5, h6⟩ := hR
  have _u := hc
  have _v := hb
  have C1 := fun W => rfine_any L C B ⟨true, false, L, c, b⟩ W
  rw [h] at C1
  clear h
  have TH := Lib.hid (three_new w L C B ⟨true, false, L, c, b⟩ 145 58)
  unfold rlv stv at *
  go_enter Tryz.func82, Tryz.ntmps82
  go_wp2_with (first
    | (go_at_call 117; refine (C1 _).mono ?_; rintro e w1 ⟨rfl, bq⟩; have T1 := Lib.hid (TH.out.on bq); clear bq C1
       have HS := Lib.hid (show VRow (w1.setCell ⟨w.heap.size + 1, 3, none⟩ (.int .i64 (c + 1))) (w.heap.size + 1) 58 (str ⟨true, false, L, c + 1, b⟩) from (VRow.set T1.out.state 3 (.int .i64 (c + 1))))
       have HQ := Lib.hid (show VRow (w1.setCell ⟨w.heap.size + 1, 3, none⟩ (.int .i64 (c + 1))) (w.heap.size + 1 + 1) 58 (str zer) from (VRow.setOther T1.out.res (by show w.heap.size + 1 + 1 ≠ w.heap.size + 1; omega) (.int .i64 (c + 1))))
       have HW := Lib.hid (show Below w.heap.size w (w1.setCell ⟨w.heap.size + 1, 3, none⟩ (.int .i64 (c + 1))) from (Below.setCell T1.out.below (by show w.heap.size ≤ w.heap.size + 1; omega) (.int .i64 (c + 1))))
       obtain ⟨c0, c1, c2⟩ := rl_cells T1.out.rule; obtain ⟨q0, q1, q2, q3, q4⟩ := st_cells T1.out.state
       have f0 := T1.out.state.frozen 0; have f1 := T1.out.state.frozen 1; have f2 := T1.out.state.frozen 2; have f3 := T1.out.state.frozen 3)
    | ((with_reducible show wpList _ _ _ (⟨some 41, _, _, _, _, _⟩ :: _) _ _); refine VB.loaded (cs := str ⟨true, false, L, c + 1, b⟩) rfl _ rfl (w.heap.size + 1) rfl HS.out Tryz.underlying58 rfl sizeSr ?_)
    | ((with_reducible show wpList _ _ _ (⟨none, .store _ (.tmp 6) _, _, _, _, _⟩ :: _) _ _); refine VB.store rfl _ _ rfl (w.heap.size + 1 + 1) (str ⟨true, false, L, c + 1, b⟩) rfl rfl HQ.out sizeSr rfl (str_one _) ?_))
  refine bodyPost_ret (v := .tuple #[.agg (str ⟨true, false, L, c + 1, b⟩).toArray, .int .i64 0, .int .i64 0]) ?_ rfl ⟨rfl, Below.put HW.out (by omega) _⟩
  exact (VB.ret3 (cs := str ⟨true, false, L, c + 1, b⟩) rfl rfl (aggSr _) sizeSr (HQ.out.put (str ⟨true, false, L, c + 1, b⟩))).trans rfl
set_option maxHeartbeats 1600000 in
theorem rnext_latD (L C B : Int) (c b : Int) (w : World) (h : fne L C B ⟨true, false, L, c, b⟩ = true) (hR : Rt L C B) (hc : 0 ≤ c ∧ c < C) (hb : 0 ≤ b ∧ b < B) (d : c + 1 = C) :
    Calls Tryz.prog 82 #[rlv L C B, stv ⟨true, false, L, c, b⟩, .bool false] w fun e w' => e = .returned (.tuple #[stv ⟨false, false, 0, 0, b + 1⟩, .int .i64 2, .int .i64 0]) ∧ Below w.heap.size w w' := by
  obtain ⟨h1, h2, h3, h4, h5, h6⟩ := hR
  subst d
  have _u := hc
  have _v := hb
  have C1 := fun W => rfine_any L (c + 1) B ⟨true, false, L, c, b⟩ W
  rw [h] at C1
  clear h
  have TH := Lib.hid (three_new w L (c + 1) B ⟨true, false, L, c, b⟩ 145 58)
  unfold rlv stv at *
  go_enter Tryz.func82, Tryz.ntmps82
  go_wp2_with (first
    | (go_at_call 117; refine (C1 _).mono ?_; rintro e w1 ⟨rfl, bq⟩; have T1 := Lib.hid (TH.out.on bq); clear bq C1
       have HS := Lib.hid (show VRow (w1.setCell ⟨w.heap.size + 1, 3, none⟩ (.int .i64 (c + 1))) (w.heap.size + 1) 58 (str ⟨true, false, L, c + 1, b⟩) from (VRow.set T1.out.state 3 (.int .i64 (c + 1))))
       have HQ := Lib.hid (show VRow (w1.setCell ⟨w.heap.size + 1, 3, none⟩ (.int .i64 (c + 1))) (w.heap.size + 1 + 1) 58 (str zer) from (VRow.setOther T1.out.res (by show w.heap.size + 1 + 1 ≠ w.heap.size + 1; omega) (.int .i64 (c + 1))))
       have HW := Lib.hid (show Below w.heap.size w (w1.setCell ⟨w.heap.size + 1, 3, none⟩ (.int .i64 (c + 1))) from (Below.setCell T1.out.below (by show w.heap.size ≤ w.heap.size + 1; omega) (.int .i64 (c + 1))))
       obtain ⟨c0, c1, c2⟩ := rl_cells T1.out.rule; obtain ⟨q0, q1, q2, q3, q4⟩ := st_cells T1.out.state
       have f0 := T1.out.state.frozen 0; have f1 := T1.out.state.frozen 1; have f2 := T1.out.state.frozen 2; have f3 := T1.out.state.frozen 3)
    | ((with_reducible show wpList _ _ _ (⟨none, .store _ (.tmp 6) _, _, _, _, _⟩ :: _) _ _); refine VB.store rfl _ _ rfl (w.heap.size + 1 + 1) (str ⟨false, false, 0, 0, b + 1⟩) rfl rfl HQ.out sizeSr rfl (str_one _) ?_))
  refine bodyPost_ret (v := .tuple #[.agg (str ⟨false, false, 0, 0, b + 1⟩).toArray, .int .i64 2, .int .i64 0]) ?_ rfl ⟨rfl, Below.put HW.out (by omega) _⟩
  exact (VB.ret3 (cs := str ⟨false, false, 0, 0, b + 1⟩) rfl rfl (aggSr _) sizeSr (HQ.out.put (str ⟨false, false, 0, 0, b + 1⟩))).trans rfl
set_option maxHeartbeats 1600000 in
theorem rnext_inN (L C B : Int) (s b : Int) (w : World) (h : fne L C B ⟨false, false, s, 0, b⟩ = true) (hR : Rt L C B) (hs : 0 ≤ s ∧ s < L) (hb : 0 ≤ b ∧ b ≤ B) :
    Calls Tryz.prog 82 #[rlv L C B, stv ⟨false, false, s, 0, b⟩, .bool false] w fun e w' => e = .returned (.tuple #[stv ⟨false, false, 0, 0, b⟩, .int .i64 0, .int .i64 0]) ∧ Below w.heap.size w w' := by
  obtain ⟨h1, h2, h3, h4, h5, h6⟩ := hR
  have _u := hs
  have _v := hb
  have C1 := fun W => rfine_any L C B ⟨false, false, s, 0, b⟩ W
  rw [h] at C1
  clear h
  have TH := Lib.hid (three_new w L C B ⟨false, false, s, 0, b⟩ 145 58)
  unfold rlv stv at *
  go_enter Tryz.func82, Tryz.ntmps82
  go_wp2_with (first
    | (go_at_call 117; refine (C1 _).mono ?_; rintro e w1 ⟨rfl, bq⟩; have T1 := Lib.hid (TH.out.on bq); clear bq C1
       have HS := Lib.hid (show VRow (w1.setCell ⟨w.heap.size + 1, 2, none⟩ (.int .i64 0)) (w.heap.size + 1) 58 (str ⟨false, false, 0, 0, b⟩) from (VRow.set T1.out.state 2 (.int .i64 0)))
       have HQ := Lib.hid (show VRow (w1.setCell ⟨w.heap.size + 1, 2, none⟩ (.int .i64 0)) (w.heap.size + 1 + 1) 58 (str zer) from (VRow.setOther T1.out.res (by show w.heap.size + 1 + 1 ≠ w.heap.size + 1; omega) (.int .i64 0)))
       have HW := Lib.hid (show Below w.heap.size w (w1.setCell ⟨w.heap.size + 1, 2, none⟩ (.int .i64 0)) from (Below.setCell T1.out.below (by show w.heap.size ≤ w.heap.size + 1; omega) (.int .i64 0)))
       obtain ⟨c0, c1, c2⟩ := rl_cells T1.out.rule; obtain ⟨q0, q1, q2, q3, q4⟩ := st_cells T1.out.state
       have f0 := T1.out.state.frozen 0; have f1 := T1.out.state.frozen 1; have f2 := T1.out.state.frozen 2; have f3 := T1.out.state.frozen 3)
    | ((with_reducible show wpList _ _ _ (⟨some 45, _, _, _, _, _⟩ :: _) _ _); refine VB.loaded (cs := str ⟨false, false, 0, 0, b⟩) rfl _ rfl (w.heap.size + 1) rfl HS.out Tryz.underlying58 rfl sizeSr ?_)
    | ((with_reducible show wpList _ _ _ (⟨none, .store _ (.tmp 6) _, _, _, _, _⟩ :: _) _ _); refine VB.store rfl _ _ rfl (w.heap.size + 1 + 1) (str ⟨false, false, 0, 0, b⟩) rfl rfl HQ.out sizeSr rfl (str_one _) ?_))
  refine bodyPost_ret (v := .tuple #[.agg (str ⟨false, false, 0, 0, b⟩).toArray, .int .i64 0, .int .i64 0]) ?_ rfl ⟨rfl, Below.put HW.out (by omega) _⟩
  exact (VB.ret3 (cs := str ⟨false, false, 0, 0, b⟩) rfl rfl (aggSr _) sizeSr (HQ.out.put (str ⟨false, false, 0, 0, b⟩))).trans rfl
set_option maxHeartbeats 1600000 in
theorem rnext_inF (L C B : Int) (s b : Int) (w : World) (h : fne L C B ⟨false, false, s, 0, b⟩ = true) (hR : Rt L C B) (hs : 0 ≤ s ∧ s < L) (hb : 0 ≤ b ∧ b ≤ B) (d : s + 1 < L) :
    Calls Tryz.prog 82 #[rlv L C B, stv ⟨false, false, s, 0, b⟩, .bool true] w fun e w' => e = .returned (.tuple #[stv ⟨false, false, s + 1, 0, b⟩, .int .i64 0, .int .i64 0]) ∧ Below w.heap.size w w' := by
  obtain ⟨h1, h2, h3, h4, h5, h6⟩ := hR
  have _u := hs
  have _v := hb
  have C1 := fun W => rfine_any L C B ⟨false, false, s, 0, b⟩ W
  rw [h] at C1
  clear h
  have TH := Lib.hid (three_new w L C B ⟨false, false, s, 0, b⟩ 145 58)
  unfold rlv stv at *
  go_enter Tryz.func82, Tryz.ntmps82
  go_wp2_with (first
    | (go_at_call 117; refine (C1 _).mono ?_; rintro e w1 ⟨rfl, bq⟩; have T1 := Lib.hid (TH.out.on bq); clear bq C1
       have HS := Lib.hid (show VRow (w1.setCell ⟨w.heap.size + 1, 2, none⟩ (.int .i64 (s + 1))) (w.heap.size + 1) 58 (str ⟨false, false, s + 1, 0, b⟩) from (VRow.set T1.out.state 2 (.int .i64 (s + 1))))
       have HQ := Lib.hid (show VRow (w1.setCell ⟨w.heap.size + 1, 2, none⟩ (.int .i64 (s + 1))) (w.heap.size + 1 + 1) 58 (str zer) from (VRow.setOther T1.out.res (by show w.heap.size + 1 + 1 ≠ w.heap.size + 1; omega) (.int .i64 (s + 1))))
       have HW := Lib.hid (show Below w.heap.size w (w1.setCell ⟨w.heap.size + 1, 2, none⟩ (.int .i64 (s + 1))) from (Below.setCell T1.out.below (by show w.heap.size ≤ w.heap.size + 1; omega) (.int .i64 (s + 1))))
       obtain ⟨c0, c1, c2⟩ := rl_cells T1.out.rule; obtain ⟨q0, q1, q2, q3, q4⟩ := st_cells T1.out.state
       have f0 := T1.out.state.frozen 0; have f1 := T1.out.state.frozen 1; have f2 := T1.out.state.frozen 2; have f3 := T1.out.state.frozen 3)
    | ((with_reducible show wpList _ _ _ (⟨some 55, _, _, _, _, _⟩ :: _) _ _); refine VB.loaded (cs := str ⟨false, false, s + 1, 0, b⟩) rfl _ rfl (w.heap.size + 1) rfl HS.out Tryz.underlying58 rfl sizeSr ?_)
    | ((with_reducible show wpList _ _ _ (⟨none, .store _ (.tmp 6) _, _, _, _, _⟩ :: _) _ _); refine VB.store rfl _ _ rfl (w.heap.size + 1 + 1) (str ⟨false, false, s + 1, 0, b⟩) rfl rfl HQ.out sizeSr rfl (str_one _) ?_))
  refine bodyPost_ret (v := .tuple #[.agg (str ⟨false, false, s + 1, 0, b⟩).toArray, .int .i64 0, .int .i64 0]) ?_ rfl ⟨rfl, Below.put HW.out (by omega) _⟩
  exact (VB.ret3 (cs := str ⟨false, false, s + 1, 0, b⟩) rfl rfl (aggSr _) sizeSr (HQ.out.put (str ⟨false, false, s + 1, 0, b⟩))).trans rfl
set_option maxHeartbeats 1600000 in
theorem rnext_inG (L C B : Int) (s b : Int) (w : World) (h : fne L C B ⟨false, false, s, 0, b⟩ = true) (hR : Rt L C B) (hs : 0 ≤ s ∧ s < L) (hb : 0 ≤ b ∧ b ≤ B) (d : s + 1 = L ∧ b = B) :
    Calls Tryz.prog 82 #[rlv L C B, stv ⟨false, false, s, 0, b⟩, .bool true] w fun e w' => e = .returned (.tuple #[stv ⟨true, true, s + 1, 0, b⟩, .int .i64 3, .int .i64 0]) ∧ Below w.heap.size w w' := by
  obtain ⟨h1, h2, h3, h4, h5, h6⟩ := hR
  obtain ⟨rfl, rfl⟩ := d
  have _u := hs
  have _v := hb
  have C1 := fun W => rfine_any (s + 1) C b ⟨false, false, s, 0, b⟩ W
  rw [h] at C1
  clear h
  have TH := Lib.hid (three_new w (s + 1) C b ⟨false, false, s, 0, b⟩ 145 58)
  unfold rlv stv at *
  go_enter Tryz.func82, Tryz.ntmps82
  go_wp2_with (first
    | (go_at_call 117; refine (C1 _).mono ?_; rintro e w1 ⟨rfl, bq⟩; have T1 := Lib.hid (TH.out.on bq); clear bq C1
       have HS := Lib.hid (show VRow (((w1.setCell ⟨w.heap.size + 1, 2, none⟩ (.int .i64 (s + 1))).setCell ⟨w.heap.size + 1, 0, none⟩ (.bool true)).setCell ⟨w.heap.size + 1, 1, none⟩ (.bool true)) (w.heap.size + 1) 58 (str ⟨true, true, s + 1, 0, b⟩) from (VRow.set (VRow.set (VRow.set T1.out.state 2 (.int .i64 (s + 1))) 0 (.bool true)) 1 (.bool true)))
       have HQ := Lib.hid (show VRow (((w1.setCell ⟨w.heap.size + 1, 2, none⟩ (.int .i64 (s + 1))).setCell ⟨w.heap.size + 1, 0, none⟩ (.bool true)).setCell ⟨w.heap.size + 1, 1, none⟩ (.bool true)) (w.heap.size + 1 + 1) 58 (str zer) from (VRow.setOther (VRow.setOther (VRow.setOther T1.out.res (by show w.heap.size + 1 + 1 ≠ w.heap.size + 1; omega) (.int .i64 (s + 1))) (by show w.heap.size + 1 + 1 ≠ w.heap.size + 1; omega) (.bool true)) (by show w.heap.size + 1 + 1 ≠ w.heap.size + 1; omega) (.bool true)))
       have HW := Lib.hid (show Below w.heap.size w (((w1.setCell ⟨w.heap.size + 1, 2, none⟩ (.int .i64 (s + 1))).setCell ⟨w.heap.size + 1, 0, none⟩ (.bool true)).setCell ⟨w.heap.size + 1, 1, none⟩ (.bool true)) from (Below.setCell (Below.setCell (Below.setCell T1.out.below (by show w.heap.size ≤ w.heap.size + 1; omega) (.int .i64 (s + 1))) (by show w.heap.size ≤ w.heap.size + 1; omega) (.bool true)) (by show w.heap.size ≤ w.heap.size + 1; omega) (.bool true)))
       obtain ⟨c0, c1, c2⟩ := rl_cells T1.out.rule; obtain ⟨q0, q1, q2, q3, q4⟩ := st_cells T1.out.state
       have f0 := T1.out.state.frozen 0; have f1 := T1.out.state.frozen 1; have f2 := T1.out.state.frozen 2; have f3 := T1.out.state.frozen 3)
    | ((with_reducible show wpList _ _ _ (⟨some 63, _, _, _, _, _⟩ :: _) _ _); refine VB.loaded (cs := str ⟨true, true, s + 1, 0, b⟩) rfl _ rfl (w.heap.size + 1) rfl HS.out Tryz.underlying58 rfl sizeSr ?_)
    | ((with_reducible show wpList _ _ _ (⟨none, .store _ (.tmp 6) _, _, _, _, _⟩ :: _) _ _); refine VB.store rfl _ _ rfl (w.heap.size + 1 + 1) (str ⟨true, true, s + 1, 0, b⟩) rfl rfl HQ.out sizeSr rfl (str_one _) ?_))
  refine bodyPost_ret (v := .tuple #[.agg (str ⟨true, true, s + 1, 0, b⟩).toArray, .int .i64 3, .int .i64 0]) ?_ rfl ⟨rfl, Below.put HW.out (by omega) _⟩
  exact (VB.ret3 (cs := str ⟨true, true, s + 1, 0, b⟩) rfl rfl (aggSr _) sizeSr (HQ.out.put (str ⟨true, true, s + 1, 0, b⟩))).trans rfl
set_option maxHeartbeats 1600000 in
theorem rnext_inH (L C B : Int) (s b : Int) (w : World) (h : fne L C B ⟨false, false, s, 0, b⟩ = true) (hR : Rt L C B) (hs : 0 ≤ s ∧ s < L) (hb : 0 ≤ b ∧ b ≤ B) (d : s + 1 = L ∧ b < B) :
    Calls Tryz.prog 82 #[rlv L C B, stv ⟨false, false, s, 0, b⟩, .bool true] w fun e w' => e = .returned (.tuple #[stv ⟨true, false, s + 1, 0, b⟩, .int .i64 1, .int .i64 0]) ∧ Below w.heap.size w w' := by
  obtain ⟨h1, h2, h3, h4, h5, h6⟩ := hR
  obtain ⟨rfl, d⟩ := d
  have _u := hs
  have _v := hb
  have C1 := fun W => rfine_any (s + 1) C B ⟨false, false, s, 0, b⟩ W
  rw [h] at C1
  clear h
  have TH := Lib.hid (three_new w (s + 1) C B ⟨false, false, s, 0, b⟩ 145 58)
  unfold rlv stv at *
  go_enter Tryz.func82, Tryz.ntmps82
  go_wp2_with (first
    | (go_at_call 117; refine (C1 _).mono ?_; rintro e w1 ⟨rfl, bq⟩; have T1 := Lib.hid (TH.out.on bq); clear bq C1
       have HS := Lib.hid (show VRow ((w1.setCell ⟨w.heap.size + 1, 2, none⟩ (.int .i64 (s + 1))).setCell ⟨w.heap.size + 1, 0, none⟩ (.bool true)) (w.heap.size + 1) 58 (str ⟨true, false, s + 1, 0, b⟩) from (VRow.set (VRow.set T1.out.state 2 (.int .i64 (s + 1))) 0 (.bool true)))
       have HQ := Lib.hid (show VRow ((w1.setCell ⟨w.heap.size + 1, 2, none⟩ (.int .i64 (s + 1))).setCell ⟨w.heap.size + 1, 0, none⟩ (.bool true)) (w.heap.size + 1 + 1) 58 (str zer) from (VRow.setOther (VRow.setOther T1.out.res (by show w.heap.size + 1 + 1 ≠ w.heap.size + 1; omega) (.int .i64 (s + 1))) (by show w.heap.size + 1 + 1 ≠ w.heap.size + 1; omega) (.bool true)))
       have HW := Lib.hid (show Below w.heap.size w ((w1.setCell ⟨w.heap.size + 1, 2, none⟩ (.int .i64 (s + 1))).setCell ⟨w.heap.size + 1, 0, none⟩ (.bool true)) from (Below.setCell (Below.setCell T1.out.below (by show w.heap.size ≤ w.heap.size + 1; omega) (.int .i64 (s + 1))) (by show w.heap.size ≤ w.heap.size + 1; omega) (.bool true)))
       obtain ⟨c0, c1, c2⟩ := rl_cells T1.out.rule; obtain ⟨q0, q1, q2, q3, q4⟩ := st_cells T1.out.state
       have f0 := T1.out.state.frozen 0; have f1 := T1.out.state.frozen 1; have f2 := T1.out.state.frozen 2; have f3 := T1.out.state.frozen 3)
    | ((with_reducible show wpList _ _ _ (⟨some 64, _, _, _, _, _⟩ :: _) _ _); refine VB.loaded (cs := str ⟨true, false, s + 1, 0, b⟩) rfl _ rfl (w.heap.size + 1) rfl HS.out Tryz.underlying58 rfl sizeSr ?_)
    | ((with_reducible show wpList _ _ _ (⟨none, .store _ (.tmp 6) _, _, _, _, _⟩ :: _) _ _); refine VB.store rfl _ _ rfl (w.heap.size + 1 + 1) (str ⟨true, false, s + 1, 0, b⟩) rfl rfl HQ.out sizeSr rfl (str_one _) ?_))
  refine bodyPost_ret (v := .tuple #[.agg (str ⟨true, false, s + 1, 0, b⟩).toArray, .int .i64 1, .int .i64 0]) ?_ rfl ⟨rfl, Below.put HW.out (by omega) _⟩
  exact (VB.ret3 (cs := str ⟨true, false, s + 1, 0, b⟩) rfl rfl (aggSr _) sizeSr (HQ.out.put (str ⟨true, false, s + 1, 0, b⟩))).trans rfl
theorem rnext_any (L C B : Int) (s : St) (t : Bool) (w : World) : Calls Tryz.prog 82 #[rlv L C B, stv s, .bool t] w (RetN w L C B s t) := by
  cases h : fne L C B s
  · exact rnext_no L C B s t w h
  · obtain ⟨hR, hf⟩ := fne_right h
    have HF : RetN w L C B s t = fun e w' => e = .returned (.tuple #[stv (ste L C B s t), .int .i64 (wha L C B s t), .int .i64 0]) ∧ Below w.heap.size w w' := by unfold RetN nxs nxw nxe; rw [h]; rfl
    rw [HF]
    clear HF
    cases fin_iff.1 hf with
    | out =>
      have e1 : ste L C B ⟨true, true, L, 0, B⟩ t = ⟨true, true, L, 0, B⟩ := by simp [ste]
      have e2 : wha L C B ⟨true, true, L, 0, B⟩ t = 0 := by simp [wha]
      rw [e1, e2]
      exact rnext_out L C B t w h hR
    | @latched c b hc hb =>
      cases t
      · by_cases d : c + 1 < C
        · have e1 : ste L C B ⟨true, false, L, c, b⟩ false = ⟨true, false, L, c + 1, b⟩ := by simp [ste, d]
          have e2 : wha L C B ⟨true, false, L, c, b⟩ false = 0 := by simp [wha, d]
          rw [e1, e2]
          exact rnext_latC L C B c b w h hR hc hb d
        · have e1 : ste L C B ⟨true, false, L, c, b⟩ false = ⟨false, false, 0, 0, b + 1⟩ := by simp [ste, d]
          have e2 : wha L C B ⟨true, false, L, c, b⟩ false = 2 := by simp [wha, d]
          rw [e1, e2]
          exact rnext_latD L C B c b w h hR hc hb (by omega)
      · have e1 : ste L C B ⟨true, false, L, c, b⟩ true = ⟨true, false, L, 0, b⟩ := by simp [ste]
        have e2 : wha L C B ⟨true, false, L, c, b⟩ true = 0 := by simp [wha]
        rw [e1, e2]
        exact rnext_latT L C B c b w h hR hc hb
    | @«in» s b hs hb =>
      cases t
      · have e1 : ste L C B ⟨false, false, s, 0, b⟩ false = ⟨false, false, 0, 0, b⟩ := by simp [ste]
        have e2 : wha L C B ⟨false, false, s, 0, b⟩ false = 0 := by simp [wha]
        rw [e1, e2]
        exact rnext_inN L C B s b w h hR hs hb
      · by_cases d : s + 1 < L
        · have e1 : ste L C B ⟨false, false, s, 0, b⟩ true = ⟨false, false, s + 1, 0, b⟩ := by simp [ste, d]
          have e2 : wha L C B ⟨false, false, s, 0, b⟩ true = 0 := by simp [wha, d]
          rw [e1, e2]
          exact rnext_inF L C B s b w h hR hs hb d
        · by_cases p : b < B
          · have e1 : ste L C B ⟨false, false, s, 0, b⟩ true = ⟨true, false, s + 1, 0, b⟩ := by simp [ste, d, p]
            have e2 : wha L C B ⟨false, false, s, 0, b⟩ true = 1 := by simp [wha, d, p]
            rw [e1, e2]
            exact rnext_inH L C B s b w h hR hs hb ⟨by omega, p⟩
          · have e1 : ste L C B ⟨false, false, s, 0, b⟩ true = ⟨true, true, s + 1, 0, b⟩ := by simp [ste, d, p]
            have e2 : wha L C B ⟨false, false, s, 0, b⟩ true = 3 := by simp [wha, d, p]
            rw [e1, e2]
            exact rnext_inG L C B s b w h hR hs hb ⟨by omega, by omega⟩
end Lc
end Go.Proofs.YtacclmfbkiadbaaGreat
