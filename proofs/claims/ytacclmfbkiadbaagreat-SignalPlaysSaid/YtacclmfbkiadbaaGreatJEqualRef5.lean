/-
  What the document's answers for layer 11 (package rudderref11) return: contracts by walking the Go text. Conditions: that the offset may be one.
  What the calls of package latch return, but Run: contracts by walking the Go text. No conditions.
  What the three modes of package latch tell of a state, and do in a cycle: contracts by walking the Go text. Conditions: the numbers are small.
  What the three modes of package latch do in a cycle, what Fine and Next tell: contracts by walking the Go text. No conditions but that the state may be, where a mode is asked for the state behind a cycle.
  What Fine of package latch tells: a contract by walking the Go text. No conditions.
-/
import Derived.Test.YtacclmfbkiadbaaGreatJStuckMath6
import Derived.Test.YtacclmfbkiadbaaGreatJFixRefs3
import Derived.Test.YtacclmfbkiadbaaGreatJJumpRight6
import Derived.Test.YtacclmfbkiadbaaGreatJLatchMath8
import Derived.Test.YtacclmfbkiadbaaGreatJTail5
import Derived.Handy
import Derived.RegionTactic
import Derived.BigQuiet
namespace Go.Proofs.YtacclmfbkiadbaaGreat
set_option maxRecDepth 100000
open Go.ChangeShapes Go.WideShapes Go.ChangeAt Go.RowKit Go.Deep
namespace Ql
open Fx (ret_bool)
open Jp (val val_iff val_no)
set_option maxHeartbeats 1600000 in
theorem rlearn_no (auth gain offset n vote : Int) (w : World) (hb : both n vote = false) :
    Calls Tryz.prog 81 #[.int .i64 auth, .int .i64 gain, .int .i64 offset, .int .i64 n, .int .i64 vote] w fun e w' => e = .returned (.tuple #[.int .i64 offset, .int .i64 1]) ∧ w = w' := by
  have CV := fun W => Jp.rright_any n W
  have CW := fun W => Jp.rright_any vote W
  unfold both at hb
  cases hn : val n
  · rw [hn] at CV
    clear hb hn
    generalize val vote = Y at *
    go_enter Tryz.func81, Tryz.ntmps81
    go_wp2_with fail
    refine (CV _).mono ?_; rintro e w' ⟨rfl, rfl⟩
    go_wp2_with fail
    refine (CW _).mono ?_; rintro e w' ⟨rfl, rfl⟩
    go_wp2_with fail
    go_ret2
    exact ⟨rfl, rfl⟩
  · have hv : val vote = false := by rw [hn] at hb; simpa using hb
    rw [hn] at CV
    rw [hv] at CW
    clear hb hn hv
    go_enter Tryz.func81, Tryz.ntmps81
    go_wp2_with fail
    refine (CV _).mono ?_; rintro e w' ⟨rfl, rfl⟩
    go_wp2_with fail
    refine (CW _).mono ?_; rintro e w' ⟨rfl, rfl⟩
    go_wp2_with fail
    go_ret2
    exact ⟨rfl, rfl⟩
set_option maxHeartbeats 3200000 in
theorem rlearn_yes (auth gain offset n vote : Int) (w : World) (hm : may auth gain = true) (ho : -auth ≤ offset ∧ offset ≤ auth) (hb : both n vote = true) :
    Calls Tryz.prog 81 #[.int .i64 auth, .int .i64 gain, .int .i64 offset, .int .i64 n, .int .i64 vote] w fun e w' => e = .returned (.tuple #[.int .i64 (nx auth gain offset n vote), .int .i64 0]) ∧ Below w.heap.size w w' := by
  obtain ⟨m1, m2, m3, m4⟩ := (may_iff _ _).1 hm
  obtain ⟨v1, v2⟩ := (both_iff _ _).1 hb
  have CV := fun W => Jp.rright_any n W
  have CW := fun W => Jp.rright_any vote W
  rw [v1] at CV
  rw [v2] at CW
  have hv1 := (val_iff _).1 v1
  have hv2 := (val_iff _).1 v2
  have hst := step_bd ⟨m3, m4⟩ (show -2147483647 ≤ offset ∧ offset ≤ 2147483647 by omega) hb
  have hx := nx_yes (auth := auth) (gain := gain) (offset := offset) hb
  have CS := fun W => Fx.rshift_any (n - vote - offset) gain W
  generalize nx auth gain offset n vote = x at *
  generalize Fx.shift (n - vote - offset) gain = s at *
  have n1 : -9223372036854775808 ≤ n - vote := by omega
  have n2 : n - vote ≤ 9223372036854775807 := by omega
  have n3 : -9223372036854775808 ≤ n - vote - offset := by omega
  have n4 : n - vote - offset ≤ 9223372036854775807 := by omega
  have n5 : -9223372036854775808 ≤ offset + s := by omega
  have n6 : offset + s ≤ 9223372036854775807 := by omega
  have n7 : -9223372036854775808 ≤ -auth := by omega
  have n8 : -auth ≤ 9223372036854775807 := by omega
  unfold lim at hx
  clear hm ho hb v1 v2 hv1 hv2 hst m1 m2 m3 m4
  by_cases q1 : auth < offset + s
  · rw [if_pos q1] at hx
    subst hx
    go_enter Tryz.func81, Tryz.ntmps81
    go_wp2_with fail
    refine (CV _).mono ?_; rintro e w' ⟨rfl, rfl⟩
    go_wp2_with fail
    refine (CW _).mono ?_; rintro e w' ⟨rfl, rfl⟩
    go_wp2_with fail
    refine (CS _).mono ?_; rintro e w' ⟨rfl, b1⟩
    go_wp2_with fail
    go_ret2
    exact ⟨rfl, b1⟩
  · have e1 : decide (auth < offset + s) = false := by simpa using q1
    rw [if_neg q1] at hx
    clear q1
    by_cases q2 : offset + s < -auth
    · rw [if_pos q2] at hx
      subst hx
      go_enter Tryz.func81, Tryz.ntmps81
      go_wp2_with fail
      refine (CV _).mono ?_; rintro e w' ⟨rfl, rfl⟩
      go_wp2_with fail
      refine (CW _).mono ?_; rintro e w' ⟨rfl, rfl⟩
      go_wp2_with fail
      refine (CS _).mono ?_; rintro e w' ⟨rfl, b1⟩
      go_wp2_with fail
      go_ret2
      exact ⟨rfl, b1⟩
    · have e2 : decide (offset + s < -auth) = false := by simpa using q2
      rw [if_neg q2] at hx
      subst hx
      clear q2
      go_enter Tryz.func81, Tryz.ntmps81
      go_wp2_with fail
      refine (CV _).mono ?_; rintro e w' ⟨rfl, rfl⟩
      go_wp2_with fail
      refine (CW _).mono ?_; rintro e w' ⟨rfl, rfl⟩
      go_wp2_with fail
      refine (CS _).mono ?_; rintro e w' ⟨rfl, b1⟩
      go_wp2_with fail
      go_ret2
      exact ⟨rfl, b1⟩
theorem rlearn_any (auth gain offset n vote : Int) (w : World) (hm : may auth gain = true) (ho : -auth ≤ offset ∧ offset ≤ auth) :
    Calls Tryz.prog 81 #[.int .i64 auth, .int .i64 gain, .int .i64 offset, .int .i64 n, .int .i64 vote] w fun e w' => e = .returned (.tuple #[.int .i64 (nx auth gain offset n vote), .int .i64 (ce n vote)]) ∧ Below w.heap.size w w' := by
  cases hb : both n vote
  · rw [ce_no hb, nx_no hb]
    refine (rlearn_no auth gain offset n vote w hb).mono ?_
    rintro e w' ⟨rfl, rfl⟩
    exact ⟨rfl, Below.refl _ _⟩
  · rw [ce_yes hb]
    exact rlearn_yes auth gain offset n vote w hm ho hb
end Ql
end Go.Proofs.YtacclmfbkiadbaaGreat

namespace Go.Proofs.YtacclmfbkiadbaaGreat
set_option maxRecDepth 100000
open Go.ChangeShapes Go.WideShapes Go.ChangeAt Go.RowKit Go.Deep
namespace Lc
theorem ret_bool {a b : Bool} (h : a = b) : Ending.returned (.bool a) = .returned (.bool b) := by rw [h]
theorem within_any (n lo hi : Int) (w : World) :
    Calls Tryz.prog 139 #[.int .i64 n, .int .i64 lo, .int .i64 hi] w fun e w' => e = .returned (.bool (inb n lo hi)) ∧ w = w' := by
  have HF := Lib.hid (show inb n lo hi = (decide (lo ≤ n) && decide (n ≤ hi)) from rfl)
  generalize inb n lo hi = X at *
  cases d : decide (lo ≤ n)
  · rw [d, Bool.false_and] at HF
    go_enter Tryz.func139, Tryz.ntmps139
    go_wp2
    go_ret
    exact ⟨ret_bool HF.out.symm, rfl⟩
  · rw [d, Bool.true_and] at HF
    go_enter Tryz.func139, Tryz.ntmps139
    go_wp2
    go_ret
    exact ⟨ret_bool HF.out.symm, rfl⟩
theorem within_eq (n lo hi : Int) (x : Bool) (w : World) (h : inb n lo hi = x) :
    Calls Tryz.prog 139 #[.int .i64 n, .int .i64 lo, .int .i64 hi] w fun e w' => e = .returned (.bool x) ∧ w = w' := by subst h; exact within_any n lo hi w
set_option maxHeartbeats 800000 in
theorem right_any (L C B : Int) (w : World) :
    Calls Tryz.prog 131 #[.agg #[.int .i64 L, .int .i64 C, .int .i64 B]] w fun e w' => e = .returned (.bool (rgt L C B)) ∧ Below w.heap.size w w' := by
  have HF := Lib.hid (show rgt L C B = (inb L 1 100 && inb C 1 1000 && inb B 0 10) from rfl)
  have BB := Lib.hid ((Below.refl w.heap.size w).alloc (Nat.le_refl _) (.cells #[.int .i64 L, .int .i64 C, .int .i64 B] 137))
  generalize rgt L C B = r at *
  cases d1 : inb L 1 100 <;> cases d2 : inb C 1 1000 <;> cases d3 : inb B 0 10
  all_goals
    rw [d1, d2, d3] at HF
    have D1 := Lib.hid d1
    have D2 := Lib.hid d2
    have D3 := Lib.hid d3
    clear d1 d2 d3
    go_enter Tryz.func131, Tryz.ntmps131
    go_wp2_with (go_at_call 139; refine (within_eq _ _ _ _ _ (by first | exact D1.out | exact D2.out | exact D3.out)).mono ?_; rintro e w' ⟨rfl, rfl⟩)
    go_ret
    exact ⟨ret_bool HF.out.symm, BB.out⟩
/-- Which one of the three it is. -/
def mde (la ou : Bool) : Value := if ou then .iface 192 (.agg #[]) else if la then .iface 193 (.agg #[]) else .iface 194 (.agg #[])
theorem modeOf_any (la ou : Bool) (st cl bk : Int) (w : World) :
    Calls Tryz.prog 109 #[.agg #[.bool la, .bool ou, .int .i64 st, .int .i64 cl, .int .i64 bk]] w fun e w' => e = .returned (mde la ou) ∧ Below w.heap.size w w' := by
  have BB := Lib.hid ((Below.refl w.heap.size w).alloc (Nat.le_refl _) (.cells #[.bool la, .bool ou, .int .i64 st, .int .i64 cl, .int .i64 bk] 62))
  cases ou <;> cases la
  all_goals
    go_enter Tryz.func109, Tryz.ntmps109
    go_wp2
    go_ret
    exact ⟨rfl, BB.out⟩
end Lc
end Go.Proofs.YtacclmfbkiadbaaGreat

namespace Go.Proofs.YtacclmfbkiadbaaGreat
set_option maxRecDepth 100000
open Go.ChangeShapes Go.WideShapes Go.ChangeAt Go.RowKit Go.Deep
namespace Lc
/-- Three boxes, laid by a call. -/
theorem boxes (w : World) (a b c : Obj) : Below w.heap.size w (((w.alloc a).alloc b).alloc c) := (((Below.refl w.heap.size w).alloc (Nat.le_refl _) a).alloc (by simp) b).alloc (by simp; omega) c
set_option maxHeartbeats 800000 in
theorem out_fine (L C B : Int) (la ou : Bool) (st cl bk : Int) (w : World) :
    Calls Tryz.prog 158 #[.agg #[], .agg #[.int .i64 L, .int .i64 C, .int .i64 B], .agg #[.bool la, .bool ou, .int .i64 st, .int .i64 cl, .int .i64 bk]] w fun e w' => e = .returned (.bool (la && st == L && cl == 0 && bk == B)) ∧ Below w.heap.size w w' := by
  have BB := Lib.hid (boxes w (.cells #[] 192) (.cells #[.int .i64 L, .int .i64 C, .int .i64 B] 137) (.cells #[.bool la, .bool ou, .int .i64 st, .int .i64 cl, .int .i64 bk] 62))
  cases la <;> cases d1 : (st == L) <;> cases d2 : (cl == 0)
  all_goals
    go_enter Tryz.func158, Tryz.ntmps158
    go_wp2
    go_ret
    exact ⟨rfl, BB.out⟩
set_option maxHeartbeats 800000 in
theorem latched_fine (L C B : Int) (la ou : Bool) (st cl bk : Int) (w : World) (hR : Rt L C B) :
    Calls Tryz.prog 160 #[.agg #[], .agg #[.int .i64 L, .int .i64 C, .int .i64 B], .agg #[.bool la, .bool ou, .int .i64 st, .int .i64 cl, .int .i64 bk]] w fun e w' => e = .returned (.bool (st == L && inb cl 0 (C - 1) && inb bk 0 (B - 1))) ∧ Below w.heap.size w w' := by
  have BB := Lib.hid (boxes w (.cells #[] 193) (.cells #[.int .i64 L, .int .i64 C, .int .i64 B] 137) (.cells #[.bool la, .bool ou, .int .i64 st, .int .i64 cl, .int .i64 bk] 62))
  obtain ⟨h1, h2, h3, h4, h5, h6⟩ := hR
  cases d1 : (st == L) <;> cases d2 : inb cl 0 (C - 1) <;> cases d3 : inb bk 0 (B - 1)
  all_goals
    have D2 := Lib.hid d2
    have D3 := Lib.hid d3
    clear d2 d3
    go_enter Tryz.func160, Tryz.ntmps160
    go_wp2_with (go_at_call 139; refine (within_eq _ _ _ _ _ (by first | exact D2.out | exact D3.out)).mono ?_; rintro e w' ⟨rfl, rfl⟩)
    go_ret
    exact ⟨rfl, BB.out⟩
set_option maxHeartbeats 800000 in
theorem in_fine (L C B : Int) (la ou : Bool) (st cl bk : Int) (w : World) (hR : Rt L C B) :
    Calls Tryz.prog 162 #[.agg #[], .agg #[.int .i64 L, .int .i64 C, .int .i64 B], .agg #[.bool la, .bool ou, .int .i64 st, .int .i64 cl, .int .i64 bk]] w fun e w' => e = .returned (.bool (inb st 0 (L - 1) && cl == 0 && inb bk 0 B)) ∧ Below w.heap.size w w' := by
  have BB := Lib.hid (boxes w (.cells #[] 194) (.cells #[.int .i64 L, .int .i64 C, .int .i64 B] 137) (.cells #[.bool la, .bool ou, .int .i64 st, .int .i64 cl, .int .i64 bk] 62))
  obtain ⟨h1, h2, h3, h4, h5, h6⟩ := hR
  cases d1 : (cl == 0) <;> cases d2 : inb st 0 (L - 1) <;> cases d3 : inb bk 0 B
  all_goals
    have D2 := Lib.hid d2
    have D3 := Lib.hid d3
    clear d2 d3
    go_enter Tryz.func162, Tryz.ntmps162
    go_wp2_with (go_at_call 139; refine (within_eq _ _ _ _ _ (by first | exact D2.out | exact D3.out)).mono ?_; rintro e w' ⟨rfl, rfl⟩)
    go_ret
    exact ⟨rfl, BB.out⟩
end Lc
end Go.Proofs.YtacclmfbkiadbaaGreat

namespace Go.Proofs.YtacclmfbkiadbaaGreat
set_option maxRecDepth 100000
open Go.ChangeShapes Go.WideShapes Go.ChangeAt Go.RowKit Go.Deep
namespace Lc
/-- A rule, and a state, as values. -/
def rlv (L C B : Int) : Value := .agg #[.int .i64 L, .int .i64 C, .int .i64 B]
def stv (s : St) : Value := .agg #[.bool s.la, .bool s.ou, .int .i64 s.st, .int .i64 s.cl, .int .i64 s.bk]
theorem boxes4 (w : World) (a b c d : Obj) : Below w.heap.size w ((((w.alloc a).alloc b).alloc c).alloc d) := (boxes w a b c).alloc (by simp; omega) d
/-- What a cycle hands back. -/
def RetS (w : World) (L C B : Int) (s : St) (t : Bool) (e : Ending) (w' : World) : Prop := e = .returned (.tuple #[stv (ste L C B s t), .int .i64 (wha L C B s t)]) ∧ Below w.heap.size w w'
theorem out_behind (L C B : Int) (t : Bool) (w : World) :
    Calls Tryz.prog 157 #[.agg #[], rlv L C B, stv ⟨true, true, L, 0, B⟩, .bool t] w (RetS w L C B ⟨true, true, L, 0, B⟩ t) := by
  unfold rlv stv
  go_enter Tryz.func157, Tryz.ntmps157
  go_wp2
  go_returns
  exact ⟨rfl, boxes4 _ _ _ _ _⟩
set_option maxHeartbeats 800000 in
theorem latched_behind (L C B c b : Int) (t : Bool) (w : World) (hc : 0 ≤ c ∧ c < C) (hC : C ≤ 1000) (hb : 0 ≤ b ∧ b ≤ 10) :
    Calls Tryz.prog 159 #[.agg #[], rlv L C B, stv ⟨true, false, L, c, b⟩, .bool t] w (RetS w L C B ⟨true, false, L, c, b⟩ t) := by
  unfold rlv stv RetS
  cases t
  · by_cases d : c + 1 < C
    · have e1 : ste L C B ⟨true, false, L, c, b⟩ false = ⟨true, false, L, c + 1, b⟩ := by simp [ste, d]
      have e2 : wha L C B ⟨true, false, L, c, b⟩ false = 0 := by simp [wha, d]
      rw [e1, e2]
      clear e1 e2
      go_enter Tryz.func159, Tryz.ntmps159
      go_wp2
      go_returns
      exact ⟨rfl, boxes4 _ _ _ _ _⟩
    · have e1 : ste L C B ⟨true, false, L, c, b⟩ false = ⟨false, false, 0, 0, b + 1⟩ := by simp [ste, d]
      have e2 : wha L C B ⟨true, false, L, c, b⟩ false = 2 := by simp [wha, d]
      rw [e1, e2]
      clear e1 e2
      go_enter Tryz.func159, Tryz.ntmps159
      go_wp2
      go_returns
      exact ⟨rfl, boxes4 _ _ _ _ _⟩
  · have e1 : ste L C B ⟨true, false, L, c, b⟩ true = ⟨true, false, L, 0, b⟩ := by simp [ste]
    have e2 : wha L C B ⟨true, false, L, c, b⟩ true = 0 := by simp [wha]
    rw [e1, e2]
    clear e1 e2
    go_enter Tryz.func159, Tryz.ntmps159
    go_wp2
    go_returns
    exact ⟨rfl, boxes4 _ _ _ _ _⟩
set_option maxHeartbeats 800000 in
theorem in_behind (L C B s b : Int) (t : Bool) (w : World) (hs : 0 ≤ s ∧ s < L) (hL : L ≤ 100) :
    Calls Tryz.prog 161 #[.agg #[], rlv L C B, stv ⟨false, false, s, 0, b⟩, .bool t] w (RetS w L C B ⟨false, false, s, 0, b⟩ t) := by
  unfold rlv stv RetS
  cases t
  · have e1 : ste L C B ⟨false, false, s, 0, b⟩ false = ⟨false, false, 0, 0, b⟩ := by simp [ste]
    have e2 : wha L C B ⟨false, false, s, 0, b⟩ false = 0 := by simp [wha]
    rw [e1, e2]
    clear e1 e2
    go_enter Tryz.func161, Tryz.ntmps161
    go_wp2
    go_returns
    exact ⟨rfl, boxes4 _ _ _ _ _⟩
  · by_cases d : s + 1 < L
    · have e1 : ste L C B ⟨false, false, s, 0, b⟩ true = ⟨false, false, s + 1, 0, b⟩ := by simp [ste, d]
      have e2 : wha L C B ⟨false, false, s, 0, b⟩ true = 0 := by simp [wha, d]
      rw [e1, e2]
      clear e1 e2
      go_enter Tryz.func161, Tryz.ntmps161
      go_wp2
      go_returns
      exact ⟨rfl, boxes4 _ _ _ _ _⟩
    · by_cases p : b < B
      · have e1 : ste L C B ⟨false, false, s, 0, b⟩ true = ⟨true, false, s + 1, 0, b⟩ := by simp [ste, d, p]
        have e2 : wha L C B ⟨false, false, s, 0, b⟩ true = 1 := by simp [wha, d, p]
        rw [e1, e2]
        clear e1 e2
        go_enter Tryz.func161, Tryz.ntmps161
        go_wp2
        go_returns
        exact ⟨rfl, boxes4 _ _ _ _ _⟩
      · have e1 : ste L C B ⟨false, false, s, 0, b⟩ true = ⟨true, true, s + 1, 0, b⟩ := by simp [ste, d, p]
        have e2 : wha L C B ⟨false, false, s, 0, b⟩ true = 3 := by simp [wha, d, p]
        rw [e1, e2]
        clear e1 e2
        go_enter Tryz.func161, Tryz.ntmps161
        go_wp2
        go_returns
        exact ⟨rfl, boxes4 _ _ _ _ _⟩
end Lc
end Go.Proofs.YtacclmfbkiadbaaGreat

namespace Go.Proofs.YtacclmfbkiadbaaGreat
set_option maxRecDepth 100000
open Go.ChangeShapes Go.WideShapes Go.ChangeAt Go.RowKit Go.Deep
namespace Lc
/-- A rule, and a state, as they lie in a box. -/
def rlr (L C B : Int) : List Value := [.int .i64 L, .int .i64 C, .int .i64 B]
def str (s : St) : List Value := [.bool s.la, .bool s.ou, .int .i64 s.st, .int .i64 s.cl, .int .i64 s.bk]
theorem rl_cells {w : World} {g : Nat} {t : TypeId} {L C B : Int} (h : VRow w g t (rlr L C B)) : w.cell? ⟨g, 0, none⟩ = some (.int .i64 L) ∧ w.cell? ⟨g, 1, none⟩ = some (.int .i64 C) ∧ w.cell? ⟨g, 2, none⟩ = some (.int .i64 B) :=
  ⟨h.cell 0 rfl, h.cell 1 rfl, h.cell 2 rfl⟩
theorem st_cells {w : World} {g : Nat} {t : TypeId} {s : St} (h : VRow w g t (str s)) : w.cell? ⟨g, 0, none⟩ = some (.bool s.la) ∧ w.cell? ⟨g, 1, none⟩ = some (.bool s.ou) ∧ w.cell? ⟨g, 2, none⟩ = some (.int .i64 s.st) ∧ w.cell? ⟨g, 3, none⟩ = some (.int .i64 s.cl) ∧ w.cell? ⟨g, 4, none⟩ = some (.int .i64 s.bk) :=
  ⟨h.cell 0 rfl, h.cell 1 rfl, h.cell 2 rfl, h.cell 3 rfl, h.cell 4 rfl⟩
/-- Two boxes: the rule's, the state's. -/
structure Two (w W : World) (t u : TypeId) (L C B : Int) (s : St) : Prop where
  below : Below w.heap.size w W
  rule : VRow W w.heap.size t (rlr L C B)
  state : VRow W (w.heap.size + 1) u (str s)
theorem two_new (w : World) (L C B : Int) (s : St) (t u : TypeId) : Two w ((w.alloc (.cells #[.int .i64 L, .int .i64 C, .int .i64 B] t)).alloc (.cells #[.bool s.la, .bool s.ou, .int .i64 s.st, .int .i64 s.cl, .int .i64 s.bk] u)) t u L C B s := by
  refine ⟨((Below.refl w.heap.size w).alloc (Nat.le_refl _) _).alloc (by simp) _, (VRow.new w (rlr L C B) t).alloc _, ?_⟩
  have := VRow.new (w.alloc (.cells (rlr L C B).toArray t)) (str s) u
  rwa [show (w.alloc (.cells (rlr L C B).toArray t)).heap.size = w.heap.size + 1 by simp] at this
set_option maxHeartbeats 1600000 in
theorem fine_no (L C B : Int) (s : St) (w : World) (h : rgt L C B = false) :
    Calls Tryz.prog 108 #[rlv L C B, stv s] w fun e w' => e = .returned (.bool (fne L C B s)) ∧ Below w.heap.size w w' := by
  have e1 : fne L C B s = false := by unfold fne; rw [h]; rfl
  have C1 := fun W => right_any L C B W
  rw [h] at C1
  rw [e1]
  have T := Lib.hid (two_new w L C B s 137 62)
  clear h e1
  unfold rlv stv
  go_enter Tryz.func108, Tryz.ntmps108
  go_wp2
  generalize ((w.alloc (.cells #[.int .i64 L, .int .i64 C, .int .i64 B] 137)).alloc (.cells #[.bool s.la, .bool s.ou, .int .i64 s.st, .int .i64 s.cl, .int .i64 s.bk] 62)) = W0 at *
  obtain ⟨c0, c1, c2⟩ := rl_cells T.out.rule
  replace c0 := cell_regrown c0
  replace c1 := cell_regrown c1
  replace c2 := cell_regrown c2
  have cR := reg_call (w := W0) (fun W _ => C1 W)
  clear C1
  refine wp_region_quiet_below (by kernel_rfl) (by kernel_rfl) ?_
  repeat (go_big_quiet_step (exact cR _ _))
  refine wpQuiet_nil ?_
  intro _ hw'
  obtain ⟨⟨dq, osq⟩, hw''⟩ := hw'
  subst hw''
  go_wp2
  go_returns
  exact ⟨rfl, grow T.out.below (below_regrown W0 dq osq)⟩
/-! ### Which method is called -/
theorem m_in_fine (d : Nat) (W : World) : (method (d + 1) 194 (.agg #[]) "rudder/latch.fine").run Tryz.prog W = .ok (162, .agg #[]) W := by kernel_rfl
theorem m_latched_fine (d : Nat) (W : World) : (method (d + 1) 193 (.agg #[]) "rudder/latch.fine").run Tryz.prog W = .ok (160, .agg #[]) W := by kernel_rfl
theorem m_out_fine (d : Nat) (W : World) : (method (d + 1) 192 (.agg #[]) "rudder/latch.fine").run Tryz.prog W = .ok (158, .agg #[]) W := by kernel_rfl
theorem m_in_behind (d : Nat) (W : World) : (method (d + 1) 194 (.agg #[]) "rudder/latch.behind").run Tryz.prog W = .ok (161, .agg #[]) W := by kernel_rfl
theorem m_latched_behind (d : Nat) (W : World) : (method (d + 1) 193 (.agg #[]) "rudder/latch.behind").run Tryz.prog W = .ok (159, .agg #[]) W := by kernel_rfl
theorem m_out_behind (d : Nat) (W : World) : (method (d + 1) 192 (.agg #[]) "rudder/latch.behind").run Tryz.prog W = .ok (157, .agg #[]) W := by kernel_rfl
set_option maxHeartbeats 3200000 in
theorem fine_yes (L C B : Int) (s : St) (w : World) (h : rgt L C B = true) :
    Calls Tryz.prog 108 #[rlv L C B, stv s] w fun e w' => e = .returned (.bool (fne L C B s)) ∧ Below w.heap.size w w' := by
  have e1 : fne L C B s = fin L C B s := by unfold fne; rw [h]; rfl
  have hR := rgt_iff.1 h
  have C1 := fun W => right_any L C B W
  rw [h] at C1
  rw [e1]
  have T := Lib.hid (two_new w L C B s 137 62)
  clear h e1
  obtain ⟨la, ou, st, cl, bk⟩ := s
  unfold rlv stv
  dsimp only at *
  cases ou
  · cases la
    · have CM := fun W => modeOf_any false false st cl bk W
      have CF := fun W => in_fine L C B false false st cl bk W hR
      have m1 := m_in_fine
      have HF := Lib.hid (show (inb st 0 (L - 1) && cl == 0 && inb bk 0 B) = fin L C B ⟨false, false, st, cl, bk⟩ from rfl)
      generalize fin L C B ⟨false, false, st, cl, bk⟩ = x at *
      rw [HF.out] at CF
      clear hR HF
      go_enter Tryz.func108, Tryz.ntmps108
      go_wp2
      generalize ((w.alloc (.cells #[.int .i64 L, .int .i64 C, .int .i64 B] 137)).alloc (.cells #[.bool false, .bool false, .int .i64 st, .int .i64 cl, .int .i64 bk] 62)) = W0 at *
      obtain ⟨c0, c1, c2⟩ := rl_cells T.out.rule
      replace c0 := cell_regrown c0
      replace c1 := cell_regrown c1
      replace c2 := cell_regrown c2
      obtain ⟨q0, q1, q2, q3, q4⟩ := st_cells T.out.state
      replace q0 := cell_regrown q0
      replace q1 := cell_regrown q1
      replace q2 := cell_regrown q2
      replace q3 := cell_regrown q3
      replace q4 := cell_regrown q4
      have cR := reg_call (w := W0) (fun W _ => C1 W)
      have cM := reg_call (w := W0) (v := .iface 194 (.agg #[])) (fun W _ => CM W)
      have cF := reg_call (w := W0) (fun W _ => CF W)
      clear C1 CM CF
      refine wp_region_quiet_below (by kernel_rfl) (by kernel_rfl) ?_
      repeat (go_big_quiet_step (first | exact cR _ _ | exact cM _ _ | exact cF _ _))
      refine wpQuiet_nil ?_
      intro _ hw'
      obtain ⟨⟨dq, osq⟩, hw''⟩ := hw'
      subst hw''
      go_wp2
      go_returns
      exact ⟨rfl, grow T.out.below (below_regrown W0 dq osq)⟩
    · have CM := fun W => modeOf_any true false st cl bk W
      have CF := fun W => latched_fine L C B true false st cl bk W hR
      have m1 := m_latched_fine
      have HF := Lib.hid (show (st == L && inb cl 0 (C - 1) && inb bk 0 (B - 1)) = fin L C B ⟨true, false, st, cl, bk⟩ from rfl)
      generalize fin L C B ⟨true, false, st, cl, bk⟩ = x at *
      rw [HF.out] at CF
      clear hR HF
      go_enter Tryz.func108, Tryz.ntmps108
      go_wp2
      generalize ((w.alloc (.cells #[.int .i64 L, .int .i64 C, .int .i64 B] 137)).alloc (.cells #[.bool true, .bool false, .int .i64 st, .int .i64 cl, .int .i64 bk] 62)) = W0 at *
      obtain ⟨c0, c1, c2⟩ := rl_cells T.out.rule
      replace c0 := cell_regrown c0
      replace c1 := cell_regrown c1
      replace c2 := cell_regrown c2
      obtain ⟨q0, q1, q2, q3, q4⟩ := st_cells T.out.state
      replace q0 := cell_regrown q0
      replace q1 := cell_regrown q1
      replace q2 := cell_regrown q2
      replace q3 := cell_regrown q3
      replace q4 := cell_regrown q4
      have cR := reg_call (w := W0) (fun W _ => C1 W)
      have cM := reg_call (w := W0) (v := .iface 193 (.agg #[])) (fun W _ => CM W)
      have cF := reg_call (w := W0) (fun W _ => CF W)
      clear C1 CM CF
      refine wp_region_quiet_below (by kernel_rfl) (by kernel_rfl) ?_
      repeat (go_big_quiet_step (first | exact cR _ _ | exact cM _ _ | exact cF _ _))
      refine wpQuiet_nil ?_
      intro _ hw'
      obtain ⟨⟨dq, osq⟩, hw''⟩ := hw'
      subst hw''
      go_wp2
      go_returns
      exact ⟨rfl, grow T.out.below (below_regrown W0 dq osq)⟩
  · have CM := fun W => modeOf_any la true st cl bk W
    have CF := fun W => out_fine L C B la true st cl bk W
    have m1 := m_out_fine
    have HF := Lib.hid (show (la && st == L && cl == 0 && bk == B) = fin L C B ⟨la, true, st, cl, bk⟩ from rfl)
    generalize fin L C B ⟨la, true, st, cl, bk⟩ = x at *
    rw [HF.out] at CF
    clear hR HF
    go_enter Tryz.func108, Tryz.ntmps108
    go_wp2
    generalize ((w.alloc (.cells #[.int .i64 L, .int .i64 C, .int .i64 B] 137)).alloc (.cells #[.bool la, .bool true, .int .i64 st, .int .i64 cl, .int .i64 bk] 62)) = W0 at *
    obtain ⟨c0, c1, c2⟩ := rl_cells T.out.rule
    replace c0 := cell_regrown c0
    replace c1 := cell_regrown c1
    replace c2 := cell_regrown c2
    obtain ⟨q0, q1, q2, q3, q4⟩ := st_cells T.out.state
    replace q0 := cell_regrown q0
    replace q1 := cell_regrown q1
    replace q2 := cell_regrown q2
    replace q3 := cell_regrown q3
    replace q4 := cell_regrown q4
    have cR := reg_call (w := W0) (fun W _ => C1 W)
    have cM := reg_call (w := W0) (v := .iface 192 (.agg #[])) (fun W _ => CM W)
    have cF := reg_call (w := W0) (fun W _ => CF W)
    clear C1 CM CF
    refine wp_region_quiet_below (by kernel_rfl) (by kernel_rfl) ?_
    repeat (go_big_quiet_step (first | exact cR _ _ | exact cM _ _ | exact cF _ _))
    refine wpQuiet_nil ?_
    intro _ hw'
    obtain ⟨⟨dq, osq⟩, hw''⟩ := hw'
    subst hw''
    go_wp2
    go_returns
    exact ⟨rfl, grow T.out.below (below_regrown W0 dq osq)⟩
theorem fine_any (L C B : Int) (s : St) (w : World) :
    Calls Tryz.prog 108 #[rlv L C B, stv s] w fun e w' => e = .returned (.bool (fne L C B s)) ∧ Below w.heap.size w w' := by
  cases h : rgt L C B
  · exact fine_no L C B s w h
  · exact fine_yes L C B s w h
end Lc
end Go.Proofs.YtacclmfbkiadbaaGreat
