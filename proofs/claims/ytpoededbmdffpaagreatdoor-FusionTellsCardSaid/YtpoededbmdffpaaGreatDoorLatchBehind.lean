/-
  What the three modes of package latch do in a cycle, what Fine and Next tell: contracts by walking the Go text. No conditions but that the state may be, where a mode is asked for the state behind a cycle.
-/
import Derived.Test.YtpoededbmdffpaaGreatDoorLatchModes
namespace Go.Proofs.YtpoededbmdffpaaGreatDoor
set_option maxRecDepth 100000
open Go.ChangeShapes Go.WideShapes Go.ChangeAt Go.RowKit Go.Deep
namespace Lc
/-- A rule, and a state, as values. -/
def rlv (L C B : Int) : Value := .agg #[.int .i64 L, .int .i64 C, .int .i64 B]
def stv (s : St) : Value := .agg #[.bool s.la, .bool s.ou, .int .i64 s.st, .int .i64 s.cl, .int .i64 s.bk]
theorem boxes4 (w : World) (a b c d : Obj) : Below w.heap.size w ((((w.alloc a).alloc b).alloc c).alloc d) := (boxes w a b c).alloc (by simp; omega) d
/-- What a cycle hands back. -/
def RetS (w : World) (L C B : Int) (s : St) (t : Bool) (e : Ending) (w' : World) : Prop := e = .returned (.tuple #[stv (ste L C B s t), .int .i64 (wha L C B s t)]) ∧ Below w.heap.size w w'
theorem out_behind (L C B : Int) (t : Bool) (w : World) :
    Calls Tryz.prog 260 #[.agg #[], rlv L C B, stv ⟨true, true, L, 0, B⟩, .bool t] w (RetS w L C B ⟨true, true, L, 0, B⟩ t) := by
  unfold rlv stv
  go_enter Tryz.func260, Tryz.ntmps260
  go_wp2
  go_returns
  exact ⟨rfl, boxes4 _ _ _ _ _⟩
set_option maxHeartbeats 800000 in
theorem latched_behind (L C B c b : Int) (t : Bool) (w : World) (hc : 0 ≤ c ∧ c < C) (hC : C ≤ 1000) (hb : 0 ≤ b ∧ b ≤ 10) :
    Calls Tryz.prog 262 #[.agg #[], rlv L C B, stv ⟨true, false, L, c, b⟩, .bool t] w (RetS w L C B ⟨true, false, L, c, b⟩ t) := by
  unfold rlv stv RetS
  cases t
  · by_cases d : c + 1 < C
    · have e1 : ste L C B ⟨true, false, L, c, b⟩ false = ⟨true, false, L, c + 1, b⟩ := by simp [ste, d]
      have e2 : wha L C B ⟨true, false, L, c, b⟩ false = 0 := by simp [wha, d]
      rw [e1, e2]
      clear e1 e2
      go_enter Tryz.func262, Tryz.ntmps262
      go_wp2
      go_returns
      exact ⟨rfl, boxes4 _ _ _ _ _⟩
    · have e1 : ste L C B ⟨true, false, L, c, b⟩ false = ⟨false, false, 0, 0, b + 1⟩ := by simp [ste, d]
      have e2 : wha L C B ⟨true, false, L, c, b⟩ false = 2 := by simp [wha, d]
      rw [e1, e2]
      clear e1 e2
      go_enter Tryz.func262, Tryz.ntmps262
      go_wp2
      go_returns
      exact ⟨rfl, boxes4 _ _ _ _ _⟩
  · have e1 : ste L C B ⟨true, false, L, c, b⟩ true = ⟨true, false, L, 0, b⟩ := by simp [ste]
    have e2 : wha L C B ⟨true, false, L, c, b⟩ true = 0 := by simp [wha]
    rw [e1, e2]
    clear e1 e2
    go_enter Tryz.func262, Tryz.ntmps262
    go_wp2
    go_returns
    exact ⟨rfl, boxes4 _ _ _ _ _⟩
set_option maxHeartbeats 800000 in
theorem in_behind (L C B s b : Int) (t : Bool) (w : World) (hs : 0 ≤ s ∧ s < L) (hL : L ≤ 100) :
    Calls Tryz.prog 264 #[.agg #[], rlv L C B, stv ⟨false, false, s, 0, b⟩, .bool t] w (RetS w L C B ⟨false, false, s, 0, b⟩ t) := by
  unfold rlv stv RetS
  cases t
  · have e1 : ste L C B ⟨false, false, s, 0, b⟩ false = ⟨false, false, 0, 0, b⟩ := by simp [ste]
    have e2 : wha L C B ⟨false, false, s, 0, b⟩ false = 0 := by simp [wha]
    rw [e1, e2]
    clear e1 e2
    go_enter Tryz.func264, Tryz.ntmps264
    go_wp2
    go_returns
    exact ⟨rfl, boxes4 _ _ _ _ _⟩
  · by_cases d : s + 1 < L
    · have e1 : ste L C B ⟨false, false, s, 0, b⟩ true = ⟨false, false, s + 1, 0, b⟩ := by simp [ste, d]
      have e2 : wha L C B ⟨false, false, s, 0, b⟩ true = 0 := by simp [wha, d]
      rw [e1, e2]
      clear e1 e2
      go_enter Tryz.func264, Tryz.ntmps264
      go_wp2
      go_returns
      exact ⟨rfl, boxes4 _ _ _ _ _⟩
    · by_cases p : b < B
      · have e1 : ste L C B ⟨false, false, s, 0, b⟩ true = ⟨true, false, s + 1, 0, b⟩ := by simp [ste, d, p]
        have e2 : wha L C B ⟨false, false, s, 0, b⟩ true = 1 := by simp [wha, d, p]
        rw [e1, e2]
        clear e1 e2
        go_enter Tryz.func264, Tryz.ntmps264
        go_wp2
        go_returns
        exact ⟨rfl, boxes4 _ _ _ _ _⟩
      · have e1 : ste L C B ⟨false, false, s, 0, b⟩ true = ⟨true, true, s + 1, 0, b⟩ := by simp [ste, d, p]
        have e2 : wha L C B ⟨false, false, s, 0, b⟩ true = 3 := by simp [wha, d, p]
        rw [e1, e2]
        clear e1 e2
        go_enter Tryz.func264, Tryz.ntmps264
        go_wp2
        go_returns
        exact ⟨rfl, boxes4 _ _ _ _ _⟩
end Lc
end Go.Proofs.YtpoededbmdffpaaGreatDoor
