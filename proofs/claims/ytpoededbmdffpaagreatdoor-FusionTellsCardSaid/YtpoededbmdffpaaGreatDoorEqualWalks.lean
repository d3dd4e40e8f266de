/-
  What the calls of package equal do, but Learn: their contracts by walking the Go text. Conditions: where the trim, and what a closure captured, lie; that its offset may be one.
-/
import Derived.Test.YtpoededbmdffpaaGreatDoorEqualMath
import Derived.Test.YtpoededbmdffpaaGreatDoorFixWalks
import Derived.Test.YtpoededbmdffpaaGreatDoorTail
import Derived.Test.YtpoededbmdffpaaGreatDoorKept
import Derived.Deep.LoopGhost
import Derived.RegionTactic
import Derived.StillTailTactics
import Derived.BigQuiet
import Derived.Lib.QuietBelow
namespace Go.Proofs.YtpoededbmdffpaaGreatDoor
set_option maxRecDepth 100000
open Go.ChangeShapes Go.WideShapes Go.ChangeAt Go.RowKit Go.Deep
namespace Ql
open Fx (ret_bool)
open Jp (val val_iff val_no out)
/-- A block of one number, or two, laid. -/
theorem lit1 (W : World) (x : Int) (t : TypeId) : IRow .i64 (W.alloc (.cells #[.int .i64 x] t)) W.heap.size t [x] := heap_alloc_new W _
theorem lit2 (W : World) (x y : Int) (t : TypeId) : IRow .i64 (W.alloc (.cells #[.int .i64 x, .int .i64 y] t)) W.heap.size t [x, y] := heap_alloc_new W _
/-- The closure: is a number outside? -/
theorem clo_any (lo hi n : Int) (p q : Nat) (w : World) (hp : w.cell? ⟨p, 0, none⟩ = some (.int .i64 lo)) (hq : w.cell? ⟨q, 0, none⟩ = some (.int .i64 hi)) :
    Calls Tryz.prog 190 #[.int .i64 n, .pointer (some ⟨p, 0, none⟩), .pointer (some ⟨q, 0, none⟩)] w fun e w' => e = .returned (.bool (out lo hi n)) ∧ w = w' := by
  have HF := Lib.hid (show out lo hi n = (decide (n < lo) || decide (hi < n)) from rfl)
  generalize out lo hi n = X at *
  cases d : decide (n < lo)
  · rw [d, Bool.false_or] at HF
    go_enter Tryz.func190, Tryz.ntmps190
    go_wp2
    go_ret
    exact ⟨ret_bool HF.out.symm, rfl⟩
  · rw [d, Bool.true_or] at HF
    go_enter Tryz.func190, Tryz.ntmps190
    go_wp2
    go_ret
    exact ⟨ret_bool HF.out.symm, rfl⟩
theorem any_at {f : Int → Bool} {l : List Int} {k : Nat} (hk : k < l.length) (h : f (l.getD k 0) = true) : l.any f = true := by
  rw [List.any_eq_true]
  exact ⟨l.getD k 0, by rw [List.getD_eq_getElem?_getD, List.getElem?_eq_getElem hk]; exact List.getElem_mem hk, h⟩
theorem any_none {f : Int → Bool} {l : List Int} (h : ∀ j, j < l.length → f (l.getD j 0) = false) : l.any f = false := by
  rw [List.any_eq_false]
  intro x hx
  obtain ⟨j, hj, rfl⟩ := List.getElem_of_mem hx
  have := h j hj
  rw [List.getD_eq_getElem?_getD, List.getElem?_eq_getElem hj] at this
  simpa using this
set_option maxHeartbeats 1600000 in
theorem index_any (lo hi : Int) (p q : Nat) (a : Option Addr) (cap : Nat) (l : List Int) (w : World) (hl : l.length ≤ 9223372036854775807) (hb : IntsAt .i64 w a l)
    (hp : w.cell? ⟨p, 0, none⟩ = some (.int .i64 lo)) (hq : w.cell? ⟨q, 0, none⟩ = some (.int .i64 hi)) :
    Calls Tryz.prog 217 #[.slice a l.length cap, .func (.func 190) #[] #[.pointer (some ⟨p, 0, none⟩), .pointer (some ⟨q, 0, none⟩)]] w
      fun e w' => (∃ r, e = .returned (.int .i64 r) ∧ decide (0 ≤ r) = l.any (out lo hi)) ∧ w = w' := by
  have CC := fun n => clo_any lo hi n p q w hp hq
  have HS := Lib.hid hb
  clear hp hq hb
  generalize hn : l.length = m at *
  have HN := Lib.hid hn
  clear hn
  go_enter Tryz.func217, Tryz.ntmps217
  go_wp2_with fail
  go_loopg [8] m (fun gg s8 wr => ∃ (k : Nat), k + gg = m ∧ s8 = .int .i64 k ∧ (∀ j, j < k → out lo hi (l.getD j 0) = false) ∧ w = wr)
  case atStart => exact ⟨0, by omega, rfl, fun _ h => absurd h (Nat.not_lt_zero _), rfl⟩
  case round =>
    obtain ⟨k, hk, rfl, hj, rfl⟩ := hrel
    have HJ := Lib.hid hj
    clear hj
    by_cases hlt : k < m
    · have hli : (k : Int) < m := by omega
      have hkl : k < l.length := by have := HN.out; omega
      obtain ⟨b, off, rfl, hc⟩ : ∃ b off, a = some ⟨b, off, none⟩ ∧ ∀ i, i < l.length → w.cell? ⟨b, off + i, none⟩ = some (.int .i64 (l.getD i 0)) := by
        rcases HS.out with h | h
        · rw [h] at hkl; simp at hkl
        · exact h
      have c0 := hc k hkl
      have CX := CC (l.getD k 0)
      clear hc CC
      cases hx : out lo hi (l.getD k 0)
      · rw [hx] at CX
        have HJ2 := Lib.hid (show ∀ j, j < k + 1 → out lo hi (l.getD j 0) = false from fun j hj => by
          rcases Nat.lt_succ_iff_lt_or_eq.1 hj with h | rfl
          · exact HJ.out j h
          · exact hx)
        clear hx HJ
        generalize l.getD k 0 = x at *
        go_wp2_with (go_at_call 190; refine CX.mono ?_; rintro e w' ⟨rfl, rfl⟩)
        go_roundg (gk - 1)
        case rel => exact ⟨k + 1, by omega, by go_num, HJ2.out, rfl⟩
        case measure => omega
      · rw [hx] at CX
        have HA := Lib.hid (any_at hkl hx)
        generalize l.getD k 0 = x at *
        go_wp2_with (go_at_call 190; refine CX.mono ?_; rintro e w' ⟨rfl, rfl⟩)
        go_ret
        exact ⟨⟨_, rfl, by rw [HA.out]; simp⟩, rfl⟩
    · obtain rfl : k = m := by omega
      have HA := Lib.hid (any_none (f := out lo hi) (l := l) (fun j hj => HJ.out j (by have := HN.out; omega)))
      go_wp2_with fail
      go_ret
      exact ⟨⟨_, rfl, by rw [HA.out]; rfl⟩, rfl⟩
theorem contains_any (lo hi : Int) (p q : Nat) (a : Option Addr) (cap : Nat) (l : List Int) (w : World) (hl : l.length ≤ 9223372036854775807) (hb : IntsAt .i64 w a l)
    (hp : w.cell? ⟨p, 0, none⟩ = some (.int .i64 lo)) (hq : w.cell? ⟨q, 0, none⟩ = some (.int .i64 hi)) :
    Calls Tryz.prog 189 #[.slice a l.length cap, .func (.func 190) #[] #[.pointer (some ⟨p, 0, none⟩), .pointer (some ⟨q, 0, none⟩)]] w
      fun e w' => e = .returned (.bool (l.any (out lo hi))) ∧ w = w' := by
  have CI := index_any lo hi p q a cap l w hl hb hp hq
  generalize l.any (out lo hi) = X at *
  clear hl hb hp hq
  generalize l.length = m at *
  go_enter Tryz.func189, Tryz.ntmps189
  go_wp2_with (go_at_call 217; refine CI.mono ?_; rintro e w' ⟨⟨r, rfl, hr⟩, rfl⟩)
  go_ret
  exact ⟨rfl, rfl⟩
set_option maxHeartbeats 800000 in
theorem outside_any (lo hi : Int) (a : Option Addr) (cap : Nat) (l : List Int) (w : World) (hl : l.length ≤ 9223372036854775807) (hb : IntsAt .i64 w a l) :
    Calls Tryz.prog 155 #[.int .i64 lo, .int .i64 hi, .slice a l.length cap] w fun e w' => e = .returned (.bool (l.any (out lo hi))) ∧ Below w.heap.size w w' := by
  have B1 := (Below.refl w.heap.size w).alloc (Nat.le_refl _) (.cells #[.int .i64 lo] 3)
  have B2 := Lib.hid (B1.alloc (by simp) (.cells #[.int .i64 hi] 3))
  have R1 := (show IRow .i64 (w.alloc (.cells #[.int .i64 lo] 3)) w.heap.size 3 [lo] from heap_alloc_new w _).alloc (.cells #[.int .i64 hi] 3)
  have R2 := (show IRow .i64 ((w.alloc (.cells #[.int .i64 lo] 3)).alloc (.cells #[.int .i64 hi] 3)) (w.heap.size + 1) 3 [hi] from by
    have h := lit1 (w.alloc (.cells #[.int .i64 lo] 3)) hi 3
    rw [show (w.alloc (.cells #[.int .i64 lo] 3)).heap.size = w.heap.size + 1 by simp] at h
    exact h)
  have CI := contains_any lo hi w.heap.size (w.heap.size + 1) a cap l _ hl (hb.below B2.out) (R1.cell 0 (by simp)) (R2.cell 0 (by simp))
  clear B1 R1 R2 hl hb
  generalize l.any (out lo hi) = X at *
  generalize l.length = m at *
  go_enter Tryz.func155, Tryz.ntmps155
  go_wp2_with (go_at_call 189; refine CI.mono ?_; rintro e w' ⟨rfl, rfl⟩)
  go_ret
  exact ⟨rfl, B2.out⟩
theorem outside_1 (lo hi n : Int) (b : Nat) (t : TypeId) (x : Bool) (w : World) (hb : IRow .i64 w b t [n]) (hx : out lo hi n = x) :
    Calls Tryz.prog 155 #[.int .i64 lo, .int .i64 hi, .slice (some ⟨b, 0, none⟩) 1 1] w fun e w' => e = .returned (.bool x) ∧ Below w.heap.size w w' := by
  have h := outside_any lo hi (some ⟨b, 0, none⟩) 1 [n] w (by simp) hb.ints
  rw [one_out, hx] at h
  exact h
theorem outside_2 (n vote : Int) (b : Nat) (t : TypeId) (x : Bool) (w : World) (hb : IRow .i64 w b t [n, vote]) (hx : both n vote = !x) :
    Calls Tryz.prog 155 #[.int .i64 (-2147483648), .int .i64 2147483647, .slice (some ⟨b, 0, none⟩) 2 2] w fun e w' => e = .returned (.bool x) ∧ Below w.heap.size w w' := by
  have h := outside_any (-2147483648) 2147483647 (some ⟨b, 0, none⟩) 2 [n, vote] w (by simp) hb.ints
  rw [both_outs, hx, Bool.not_not] at h
  exact h
set_option maxHeartbeats 1600000 in
theorem new_no (auth gain : Int) (w : World) (h : may auth gain = false) :
    Calls Tryz.prog 112 #[.int .i64 auth, .int .i64 gain] w fun e w' => e = .returned (.tuple #[.pointer none, .int .i64 1]) ∧ Below w.heap.size w w' := by
  rw [may_outs] at h
  have B := Lib.hid (Below.refl w.heap.size w)
  cases d1 : out 0 2147483647 auth
  · have d2 : out 0 8 gain = true := by rw [d1] at h; simpa using h
    clear h
    go_enter Tryz.func112, Tryz.ntmps112
    go_wp2_with (go_at_call 155; refine (outside_1 _ _ _ _ _ _ _ (lit1 _ _ _) (by first | exact d1 | exact d2)).mono ?_; rintro e w1 ⟨rfl, b1⟩; have B := Lib.hid (grow_alloc B.out b1); clear b1)
    go_ret2
    exact ⟨rfl, by have := B.out; assumption⟩
  · clear h
    go_enter Tryz.func112, Tryz.ntmps112
    go_wp2_with (go_at_call 155; refine (outside_1 _ _ _ _ _ _ _ (lit1 _ _ _) d1).mono ?_; rintro e w1 ⟨rfl, b1⟩; have B := Lib.hid (grow_alloc B.out b1); clear b1)
    go_ret2
    exact ⟨rfl, by have := B.out; assumption⟩
set_option maxHeartbeats 1600000 in
theorem new_yes (auth gain : Int) (w : World) (h : may auth gain = true) :
    Calls Tryz.prog 112 #[.int .i64 auth, .int .i64 gain] w fun e w' => ∃ g, e = .returned (.tuple #[.pointer (some ⟨g, 0, none⟩), .int .i64 0]) ∧ Kp.Kept w w' g 273 (tri auth gain 0) := by
  rw [may_outs] at h
  have B := Lib.hid (Below.refl w.heap.size w)
  have d1 : out 0 2147483647 auth = false := by revert h; cases out 0 2147483647 auth <;> simp
  have d2 : out 0 8 gain = false := by revert h; cases out 0 8 gain <;> simp
  clear h
  go_enter Tryz.func112, Tryz.ntmps112
  go_wp2_with (go_at_call 155; refine (outside_1 _ _ _ _ _ _ _ (lit1 _ _ _) (by first | exact d1 | exact d2)).mono ?_; rintro e w1 ⟨rfl, b1⟩; have B := Lib.hid (grow_alloc B.out b1); clear b1)
  go_ret2
  exact ⟨_, rfl, Kp.kept_new w _ (tri auth gain 0) 273 (by have := B.out; assumption)⟩
theorem even_no (g : Nat) (n : Int) (w : World) (hn : val n = false) :
    Calls Tryz.prog 204 #[.pointer (some ⟨g, 0, none⟩), .int .i64 n] w fun e w' => e = .returned (.tuple #[.int .i64 0, .int .i64 1]) ∧ Below w.heap.size w w' := by
  have B := Lib.hid (Below.refl w.heap.size w)
  have d1 : out (-2147483648) 2147483647 n = true := by rw [val_out, hn]; rfl
  clear hn
  go_enter Tryz.func204, Tryz.ntmps204
  go_wp2_with (go_at_call 155; refine (outside_1 _ _ _ _ _ _ _ (lit1 _ _ _) d1).mono ?_; rintro e w1 ⟨rfl, b1⟩; have B := Lib.hid (grow_alloc B.out b1); clear b1)
  go_ret2
  exact ⟨rfl, by have := B.out; assumption⟩
set_option maxHeartbeats 800000 in
theorem even_yes (g : Nat) (auth gain offset n : Int) (w : World) (hT : VRow w g 273 (tri auth gain offset)) (ho : -2147483647 ≤ offset ∧ offset ≤ 2147483647) (hn : val n = true) :
    Calls Tryz.prog 204 #[.pointer (some ⟨g, 0, none⟩), .int .i64 n] w fun e w' => e = .returned (.tuple #[.int .i64 (n - offset), .int .i64 0]) ∧ Below w.heap.size w w' := by
  have B := Lib.hid (Below.refl w.heap.size w)
  have T := Lib.hid hT
  have d1 : out (-2147483648) 2147483647 n = false := by rw [val_out, hn]; rfl
  have hv := (val_iff n).1 hn
  have n1 : -9223372036854775808 ≤ n - offset := by omega
  have n2 : n - offset ≤ 9223372036854775807 := by omega
  clear hn hT hv ho
  go_enter Tryz.func204, Tryz.ntmps204
  go_wp2_with (go_at_call 155; refine (outside_1 _ _ _ _ _ _ _ (lit1 _ _ _) d1).mono ?_; rintro e w1 ⟨rfl, b1⟩; have B := Lib.hid (grow_alloc B.out b1); have c2 := (T.out.below B.out T.out.lt).cell 2 (v := .int .i64 offset) rfl; clear b1)
  go_ret2
  exact ⟨rfl, by have := B.out; assumption⟩
theorem even_any (g : Nat) (auth gain offset n : Int) (w : World) (hT : VRow w g 273 (tri auth gain offset)) (ho : -2147483647 ≤ offset ∧ offset ≤ 2147483647) :
    Calls Tryz.prog 204 #[.pointer (some ⟨g, 0, none⟩), .int .i64 n] w fun e w' => e = .returned (.tuple #[.int .i64 (ev offset n), .int .i64 (ee n)]) ∧ Below w.heap.size w w' := by
  cases hn : val n
  · rw [ev_no hn, ee_no hn]; exact even_no g n w hn
  · rw [ev_yes hn, ee_yes hn]; exact even_yes g auth gain offset n w hT ho hn
end Ql
end Go.Proofs.YtpoededbmdffpaaGreatDoor
