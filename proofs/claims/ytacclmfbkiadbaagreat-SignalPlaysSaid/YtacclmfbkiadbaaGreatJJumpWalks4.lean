/-
  What the calls of package jump do: their contracts by walking the Go text. Conditions: where the watch lies; that a value that came may be one.
  What the small calls of package stuck do: their contracts by walking the Go text. Conditions: where the room and the watch lie.
  What the calls of package drift do: their contracts by walking the Go text. Conditions: where the filter lies; that its level may be one.
  What the calls of package equal do, but Learn: their contracts by walking the Go text. Conditions: where the trim, and what a closure captured, lie; that its offset may be one.
-/
import Derived.Test.YtacclmfbkiadbaaGreatJAgg5
import Derived.Test.YtacclmfbkiadbaaGreatJFixWalks3
import Derived.RegionTactic
import Derived.StillTailTactics
import Derived.BigQuiet
import Derived.Test.YtacclmfbkiadbaaGreatJStuckMath6
import Derived.Test.YtacclmfbkiadbaaGreatJTail5
import Derived.ProofKit
import Derived.Handy
import Derived.Lib.QuietBelow
import Derived.Test.YtacclmfbkiadbaaGreatJLatchMath8
import Derived.Deep.LoopGhost
namespace Go.Proofs.YtacclmfbkiadbaaGreat
set_option maxRecDepth 100000
open Go.ChangeShapes Go.WideShapes Go.ChangeAt Go.RowKit Go.Deep
namespace Jp
open Fx (ret_bool)
theorem value_any (n : Int) (w : World) :
    Calls Tryz.prog 86 #[.int .i64 n] w fun e w' => e = .returned (.bool (val n)) ∧ w = w' := by
  have HF := Lib.hid (show val n = (decide (-2147483648 ≤ n) && decide (n ≤ 2147483647)) from rfl)
  by_cases h1 : -2147483648 ≤ n
  · rw [show decide (-2147483648 ≤ n) = true by simpa using h1, Bool.true_and] at HF
    go_enter Tryz.func86, Tryz.ntmps86
    go_wp2
    go_ret
    exact ⟨ret_bool HF.out.symm, rfl⟩
  · have d1 : decide (-2147483648 ≤ n) = false := by simpa using h1
    rw [d1, Bool.false_and] at HF
    go_enter Tryz.func86, Tryz.ntmps86
    go_wp2
    go_ret
    exact ⟨ret_bool HF.out.symm, rfl⟩
set_option maxHeartbeats 800000 in
theorem new_yes (lo hi step : Int) (w : World) (h : may lo hi step = true) :
    Calls Tryz.prog 46 #[.int .i64 lo, .int .i64 hi, .int .i64 step] w fun e w' => e = .returned (.tuple #[.pointer (some ⟨w.heap.size, 0, none⟩), .int .i64 0]) ∧ w' = w.alloc (.cells (wat lo hi step 0 false).toArray 157) := by
  obtain ⟨h1, h2, h3, h4, h5⟩ := (may_iff _ _ _).1 h
  have d3 : decide (hi < lo) = false := by simpa using h3
  have d4 : decide (step < 0) = false := by simpa using h4
  have d5 : decide (2147483647 < step) = false := by simpa using h5
  clear h h3 h4 h5
  go_enter Tryz.func46, Tryz.ntmps46
  go_wp2_with (go_at_call 86; refine (value_any _ _).mono ?_; rintro e w' ⟨rfl, rfl⟩)
  go_ret2
  exact ⟨rfl, rfl⟩
theorem tell_any (g : Nat) (s t : Int) (b : Bool) (w : World) (hs : 0 ≤ s ∧ s ≤ 1000) (ht : 0 ≤ t ∧ t ≤ 1000) (hg : IRow .i64 w g 3 [s]) :
    Calls Tryz.prog 94 #[.int .i64 t, .bool b, .pointer (some ⟨g, 0, none⟩)] w fun e w' => e = .returned (.tuple #[]) ∧ IRow .i64 w' g 3 [s + if b = true then t else 0] ∧ Below g w w' := by
  have hcell : w.cell? ⟨g, 0, none⟩ = some (.int .i64 s) := hg.cell 0 (by simp)
  have hfr := hg.frozen 0
  have G := Lib.hid hg
  have d1 : s + t ≤ 9223372036854775807 := by omega
  have d2 : -9223372036854775808 ≤ s + t := by omega
  clear hg
  cases b
  · go_enter Tryz.func94, Tryz.ntmps94
    go_wp2
    go_end0
    exact ⟨rfl, G.out, Below.refl _ _⟩
  · go_enter Tryz.func94, Tryz.ntmps94
    go_wp2
    go_end0
    exact ⟨rfl, G.out.set 0 _, (Below.refl g w).setCell (Nat.le_refl _) _⟩
set_option maxHeartbeats 3200000 in
theorem new_no (lo hi step : Int) (w : World) (h : may lo hi step = false) :
    Calls Tryz.prog 46 #[.int .i64 lo, .int .i64 hi, .int .i64 step] w fun e w' => e = .returned (.tuple #[.pointer none, .int .i64 1]) ∧ w = w' := by
  unfold may at h
  cases h1 : val lo
  · clear h
    go_enter Tryz.func46, Tryz.ntmps46
    go_wp2_with (go_at_call 86; refine (value_any _ _).mono ?_; rintro e w' ⟨rfl, rfl⟩)
    go_ret2
    exact ⟨rfl, rfl⟩
  · cases h2 : val hi
    · clear h
      go_enter Tryz.func46, Tryz.ntmps46
      go_wp2_with (go_at_call 86; refine (value_any _ _).mono ?_; rintro e w' ⟨rfl, rfl⟩)
      go_ret2
      exact ⟨rfl, rfl⟩
    · rw [h1, h2, Bool.true_and, Bool.true_and] at h
      cases d3 : decide (hi < lo)
      · rw [show decide (lo ≤ hi) = true by simpa using d3, Bool.true_and] at h
        cases d4 : decide (step < 0)
        · have d5 : decide (2147483647 < step) = true := by
            rw [show decide (0 ≤ step) = true by simpa using d4, Bool.true_and] at h
            simpa using h
          clear h
          go_enter Tryz.func46, Tryz.ntmps46
          go_wp2_with (go_at_call 86; refine (value_any _ _).mono ?_; rintro e w' ⟨rfl, rfl⟩)
          go_ret2
          exact ⟨rfl, rfl⟩
        · clear h
          go_enter Tryz.func46, Tryz.ntmps46
          go_wp2_with (go_at_call 86; refine (value_any _ _).mono ?_; rintro e w' ⟨rfl, rfl⟩)
          go_ret2
          exact ⟨rfl, rfl⟩
      · clear h
        go_enter Tryz.func46, Tryz.ntmps46
        go_wp2_with (go_at_call 86; refine (value_any _ _).mono ?_; rintro e w' ⟨rfl, rfl⟩)
        go_ret2
        exact ⟨rfl, rfl⟩
theorem miss_any (g : Nat) (lo hi step last : Int) (has : Bool) (w : World) (hT : VRow w g 157 (wat lo hi step last has)) :
    Calls Tryz.prog 92 #[.pointer (some ⟨g, 0, none⟩)] w fun e w' => e = .returned (.tuple #[]) ∧ VRow w' g 157 (wat lo hi step 0 false) ∧ Only g w w' := by
  have T := Lib.hid hT
  have c3 := hT.cell 3 (v := .int .i64 last) rfl
  have c4 := hT.cell 4 (v := .bool has) rfl
  have f3 := hT.frozen 3
  have f4 := hT.frozen 4
  clear hT
  go_enter Tryz.func92, Tryz.ntmps92
  go_wp2
  go_end0
  exact ⟨rfl, (T.out.set 3 (.int .i64 0)).set 4 (.bool false), ((But.refl (· = g) w).setCell (p := ⟨g, 3, none⟩) (Or.inl rfl) _).setCell (p := ⟨g, 4, none⟩) (Or.inl rfl) _⟩
end Jp
end Go.Proofs.YtacclmfbkiadbaaGreat

namespace Go.Proofs.YtacclmfbkiadbaaGreat
set_option maxRecDepth 100000
open Go.ChangeShapes Go.WideShapes Go.ChangeAt Go.RowKit Go.Deep
namespace Sk
open Fx (ret_bool)
open Jp (val)
theorem value_any (n : Int) (w : World) :
    Calls Tryz.prog 95 #[.int .i64 n] w fun e w' => e = .returned (.bool (val n)) ∧ w = w' := by
  have HF := Lib.hid (show val n = (decide (-2147483648 ≤ n) && decide (n ≤ 2147483647)) from rfl)
  by_cases h1 : -2147483648 ≤ n
  · rw [show decide (-2147483648 ≤ n) = true by simpa using h1, Bool.true_and] at HF
    go_enter Tryz.func95, Tryz.ntmps95
    go_wp2
    go_ret
    exact ⟨ret_bool HF.out.symm, rfl⟩
  · have d1 : decide (-2147483648 ≤ n) = false := by simpa using h1
    rw [d1, Bool.false_and] at HF
    go_enter Tryz.func95, Tryz.ntmps95
    go_wp2
    go_ret
    exact ⟨ret_bool HF.out.symm, rfl⟩
/-- A room, as it lies, with its votes. -/
def Room (w : World) (g P : Nat) (bound : Int) (V : List Int) : Prop :=
  ∃ ring next, Ring P ring next V ∧ IRow .i64 w g 109 (room ((P : Int) + 1) bound ring (next : Int) (V.length : Int))
section
variable {w w' : World} {g P j : Nat} {bound : Int} {V : List Int}
theorem Room.lt (h : Room w g P bound V) : g < w.heap.size := by obtain ⟨_, _, _, r⟩ := h; exact r.lt
theorem Room.below {B : Nat} (h : Room w g P bound V) (hb : Below B w w') (hg : g < B) : Room w' g P bound V := by obtain ⟨a, b, c, r⟩ := h; exact ⟨a, b, c, r.below hb hg⟩
theorem Room.only (h : Room w g P bound V) (hb : Only j w w') (hg : g ≠ j) : Room w' g P bound V := by obtain ⟨a, b, c, r⟩ := h; exact ⟨a, b, c, r.only hb hg⟩
theorem Room.alloc (h : Room w g P bound V) (o : Obj) : Room (w.alloc o) g P bound V := by obtain ⟨a, b, c, r⟩ := h; exact ⟨a, b, c, r.alloc o⟩
theorem Room.drewN (h : Room w g P bound V) (n : Nat) : Room (w.drewN n) g P bound V := h
theorem Room.drew (h : Room w g P bound V) : Room w.drew g P bound V := h
theorem Room.le (h : Room w g P bound V) : V.length ≤ P ∧ 1 ≤ P ∧ P ≤ 15 := by obtain ⟨_, _, c, _⟩ := h; exact ⟨c.le, c.p1, c.p15⟩
theorem Room.block (h : Room w g P bound V) (hb : w'.heap[g]? = w.heap[g]?) : Room w' g P bound V := by obtain ⟨a, b, c, r⟩ := h; exact ⟨a, b, c, hb.trans r⟩
theorem Room.win (h : Room w g P bound V) : w.cell? ⟨g, 0, none⟩ = some (.int .i64 ((P : Int) + 1)) := by
  obtain ⟨a, b, c, r⟩ := h; have := r.cell 0 (by rw [room_len c.len]; omega); exact this
theorem Room.bnd (h : Room w g P bound V) : w.cell? ⟨g, 1, none⟩ = some (.int .i64 bound) := by
  obtain ⟨a, b, c, r⟩ := h; have := r.cell 1 (by rw [room_len c.len]; omega); exact this
theorem Room.count (h : Room w g P bound V) : w.cell? ⟨g, 18, none⟩ = some (.int .i64 (V.length : Int)) := by
  obtain ⟨a, b, c, r⟩ := h; have := r.cell 18 (by rw [room_len c.len]; omega); rw [room_count c.len] at this; exact this
end
set_option maxHeartbeats 800000 in
theorem new_yes (P : Nat) (bound : Int) (w : World) (h1 : 1 ≤ P) (h2 : P ≤ 15) (h3 : 0 ≤ bound) (h4 : bound ≤ 2147483647) :
    Calls Tryz.prog 20 #[.int .i64 ((P : Int) + 1), .int .i64 bound] w fun e w' => e = .returned (.tuple #[.pointer (some ⟨w.heap.size, 0, none⟩), .int .i64 0]) ∧
      w' = w.alloc (.cells (cellsI .i64 (room ((P : Int) + 1) bound (List.replicate 15 0) 0 0)).toArray 109) := by
  have d1 : decide ((P : Int) + 1 < 2) = false := by simp; omega
  have d2 : decide (16 < (P : Int) + 1) = false := by simp; omega
  have d3 : decide (bound < 0) = false := by simpa using h3
  have d4 : decide (2147483647 < bound) = false := by simpa using h4
  clear h1 h2 h3 h4
  go_enter Tryz.func20, Tryz.ntmps20
  go_wp2
  go_ret2
  exact ⟨rfl, rfl⟩
set_option maxHeartbeats 1600000 in
theorem new_no (window bound : Int) (w : World) (h : may window bound = false) :
    Calls Tryz.prog 20 #[.int .i64 window, .int .i64 bound] w fun e w' => e = .returned (.tuple #[.pointer none, .int .i64 1]) ∧ w = w' := by
  unfold may at h
  cases d1 : decide (window < 2)
  · rw [show decide (2 ≤ window) = true by simpa using d1, Bool.true_and] at h
    cases d2 : decide (16 < window)
    · rw [show decide (window ≤ 16) = true by simpa using d2, Bool.true_and] at h
      cases d3 : decide (bound < 0)
      · have d4 : decide (2147483647 < bound) = true := by
          rw [show decide (0 ≤ bound) = true by simpa using d3, Bool.true_and] at h
          simpa using h
        clear h
        go_enter Tryz.func20, Tryz.ntmps20
        go_wp2
        go_ret2
        exact ⟨rfl, rfl⟩
      · clear h
        go_enter Tryz.func20, Tryz.ntmps20
        go_wp2
        go_ret2
        exact ⟨rfl, rfl⟩
    · clear h
      go_enter Tryz.func20, Tryz.ntmps20
      go_wp2
      go_ret2
      exact ⟨rfl, rfl⟩
  · clear h
    go_enter Tryz.func20, Tryz.ntmps20
    go_wp2
    go_ret2
    exact ⟨rfl, rfl⟩
theorem places_cell (g P : Nat) (w : World) (h2 : P ≤ 15) (hc : w.cell? ⟨g, 0, none⟩ = some (.int .i64 ((P : Int) + 1))) :
    Calls Tryz.prog 107 #[.pointer (some ⟨g, 0, none⟩)] w fun e w' => e = .returned (.int .i64 (P : Int)) ∧ w = w' := by
  go_enter Tryz.func107, Tryz.ntmps107
  go_wp2
  go_ret
  exact ⟨by first | rfl | (congr 2; omega), rfl⟩
/-- The cells of a watch. -/
def wt (r : Nat) (last run : Int) : List Value := [.pointer (some ⟨r, 0, none⟩), .int .i64 last, .int .i64 run]
theorem watch_any (g : Nat) (w : World) :
    Calls Tryz.prog 49 #[.pointer (some ⟨g, 0, none⟩)] w fun e w' => e = .returned (.pointer (some ⟨w.heap.size, 0, none⟩)) ∧ w' = w.alloc (.cells (wt g 0 0).toArray 164) := by
  go_enter Tryz.func49, Tryz.ntmps49
  go_wp2
  go_ret
  exact ⟨rfl, rfl⟩
theorem miss_any (g r : Nat) (last run : Int) (w : World) (hT : VRow w g 164 (wt r last run)) :
    Calls Tryz.prog 93 #[.pointer (some ⟨g, 0, none⟩)] w fun e w' => e = .returned (.tuple #[]) ∧ VRow w' g 164 (wt r last 0) ∧ Only g w w' := by
  have T := Lib.hid hT
  have c2 := hT.cell 2 (v := .int .i64 run) rfl
  have f2 := hT.frozen 2
  clear hT
  go_enter Tryz.func93, Tryz.ntmps93
  go_wp2
  go_end0
  exact ⟨rfl, T.out.set 2 (.int .i64 0), (But.refl (· = g) w).setCell (p := ⟨g, 2, none⟩) (Or.inl rfl) _⟩
end Sk
end Go.Proofs.YtacclmfbkiadbaaGreat

namespace Go.Proofs.YtacclmfbkiadbaaGreat
set_option maxRecDepth 100000
open Go.ChangeShapes Go.WideShapes Go.ChangeAt Go.RowKit Go.Deep
namespace Dr
open Fx (ret_bool)
set_option maxHeartbeats 800000 in
theorem new_yes (lag bound : Int) (w : World) (h : may lag bound = true) :
    Calls Tryz.prog 47 #[.int .i64 lag, .int .i64 bound] w fun e w' => e = .returned (.tuple #[.pointer (some ⟨w.heap.size, 0, none⟩), .int .i64 0]) ∧ w' = w.alloc (.cells (fil lag bound 0).toArray 161) := by
  obtain ⟨h1, h2, h3, h4⟩ := (may_iff _ _).1 h
  have d1 : decide (lag < 0) = false := by simpa using h1
  have d2 : decide (8 < lag) = false := by simpa using h2
  have d3 : decide (bound < 0) = false := by simpa using h3
  have d4 : decide (2147483647 < bound) = false := by simpa using h4
  clear h h1 h2 h3 h4
  go_enter Tryz.func47, Tryz.ntmps47
  go_wp2
  go_ret2
  exact ⟨rfl, rfl⟩
set_option maxHeartbeats 1600000 in
theorem new_no (lag bound : Int) (w : World) (h : may lag bound = false) :
    Calls Tryz.prog 47 #[.int .i64 lag, .int .i64 bound] w fun e w' => e = .returned (.tuple #[.pointer none, .int .i64 1]) ∧ w = w' := by
  unfold may at h
  cases d1 : decide (lag < 0)
  · cases d2 : decide (8 < lag)
    · cases d3 : decide (bound < 0)
      · have d4 : decide (2147483647 < bound) = true := by simp at d1 d2 d3 h ⊢; omega
        clear h
        go_enter Tryz.func47, Tryz.ntmps47
        go_wp2
        go_ret2
        exact ⟨rfl, rfl⟩
      · clear h
        go_enter Tryz.func47, Tryz.ntmps47
        go_wp2
        go_ret2
        exact ⟨rfl, rfl⟩
    · clear h
      go_enter Tryz.func47, Tryz.ntmps47
      go_wp2
      go_ret2
      exact ⟨rfl, rfl⟩
  · clear h
    go_enter Tryz.func47, Tryz.ntmps47
    go_wp2
    go_ret2
    exact ⟨rfl, rfl⟩
set_option maxHeartbeats 800000 in
theorem over_any (bound level : Int) (w : World) (hl : -4294967296 ≤ level ∧ level ≤ 4294967296) (h0 : 0 ≤ bound) :
    Calls Tryz.prog 99 #[.agg #[.int .i64 bound], .int .i64 level] w fun e w' => e = .returned (.bool (ov bound level)) ∧ Below w.heap.size w w' := by
  have HO := Lib.hid (ov_apart hl h0)
  have CA := fun W => Fx.apart_any level 0 W
  generalize Fx.apart level 0 = x at *
  have B0 := Lib.hid ((Below.refl w.heap.size w).alloc (Nat.le_refl _) (.cells #[.int .i64 bound] 159))
  have R0 := Lib.hid (show IRow .i64 (w.alloc (.cells #[.int .i64 bound] 159)) w.heap.size 159 [bound] from heap_alloc_new w _)
  have c0 := R0.out.cell 0 (by simp)
  clear hl h0
  go_enter Tryz.func99, Tryz.ntmps99
  go_wp2_with fail
  go_quiet (exact Calls.quiet_of_same ((CA _).mono fun e w' q => ⟨q.1, q.2.symm⟩))
  go_wp2
  go_ret
  exact ⟨ret_bool (by rw [HO.out]), below_drewN B0.out _⟩
end Dr
end Go.Proofs.YtacclmfbkiadbaaGreat

namespace Go.Proofs.YtacclmfbkiadbaaGreat
set_option maxRecDepth 100000
open Go.ChangeShapes Go.WideShapes Go.ChangeAt Go.RowKit Go.Deep
namespace Ql
open Fx (ret_bool)
open Jp (val val_iff val_no out)
/-- A block of one number, or two, laid. -/
theorem lit1 (W : World) (x : Int) (t : TypeId) : IRow .i64 (W.alloc (.cells #[.int .i64 x] t)) W.heap.size t [x] := heap_alloc_new W _
theorem lit2 (W : World) (x y : Int) (t : TypeId) : IRow .i64 (W.alloc (.cells #[.int .i64 x, .int .i64 y] t)) W.heap.size t [x, y] := heap_alloc_new W _
/-- The closure: is a number outside? -/
theorem clo_any (lo hi n : Int) (p q : Nat) (w : World) (hp : w.cell? ⟨p, 0, none⟩ = some (.int .i64 lo)) (hq : w.cell? ⟨q, 0, none⟩ = some (.int .i64 hi)) :
    Calls Tryz.prog 121 #[.int .i64 n, .pointer (some ⟨p, 0, none⟩), .pointer (some ⟨q, 0, none⟩)] w fun e w' => e = .returned (.bool (out lo hi n)) ∧ w = w' := by
  have HF := Lib.hid (show out lo hi n = (decide (n < lo) || decide (hi < n)) from rfl)
  generalize out lo hi n = X at *
  cases d : decide (n < lo)
  · rw [d, Bool.false_or] at HF
    go_enter Tryz.func121, Tryz.ntmps121
    go_wp2
    go_ret
    exact ⟨ret_bool HF.out.symm, rfl⟩
  · rw [d, Bool.true_or] at HF
    go_enter Tryz.func121, Tryz.ntmps121
    go_wp2
    go_ret
    exact ⟨ret_bool HF.out.symm, rfl⟩
theorem any_at {f : Int → Bool} {l : List Int} {k : Nat} (hk : k < l.length) (h : f (l.getD k 0) = true) : l.any f = true := by
  rw [List.any_eq_true]
  exact ⟨l.getD k 0, by rw [List.getD_eq_getElem?_getD, List.getElem?_eq_getElem hk]; exact List.getElem_mem hk, h⟩
theorem any_none {f : Int → Bool} {l : List Int} (h : ∀ j, j < l.length → f (l.getD j 0) = false) : l.any f = false := by
  rw [List.any_eq_false]
  intro x hx
  obtain ⟨j, hj, rfl⟩ := List.getElem_of_mem hx
  have := h j hj
  rw [List.getD_eq_getElem?_getD, List.getElem?_eq_getElem hj] at this
  simpa using this
set_option maxHeartbeats 1600000 in
theorem index_any (lo hi : Int) (p q : Nat) (a : Option Addr) (cap : Nat) (l : List Int) (w : World) (hl : l.length ≤ 9223372036854775807) (hb : IntsAt .i64 w a l)
    (hp : w.cell? ⟨p, 0, none⟩ = some (.int .i64 lo)) (hq : w.cell? ⟨q, 0, none⟩ = some (.int .i64 hi)) :
    Calls Tryz.prog 136 #[.slice a l.length cap, .func (.func 121) #[] #[.pointer (some ⟨p, 0, none⟩), .pointer (some ⟨q, 0, none⟩)]] w
      fun e w' => (∃ r, e = .returned (.int .i64 r) ∧ decide (0 ≤ r) = l.any (out lo hi)) ∧ w = w' := by
  have CC := fun n => clo_any lo hi n p q w hp hq
  have HS := Lib.hid hb
  clear hp hq hb
  generalize hn : l.length = m at *
  have HN := Lib.hid hn
  clear hn
  go_enter Tryz.func136, Tryz.ntmps136
  go_wp2_with fail
  go_loopg [8] m (fun gg s8 wr => ∃ (k : Nat), k + gg = m ∧ s8 = .int .i64 k ∧ (∀ j, j < k → out lo hi (l.getD j 0) = false) ∧ w = wr)
  case atStart => exact ⟨0, by omega, rfl, fun _ h => absurd h (Nat.not_lt_zero _), rfl⟩
  case round =>
    obtain ⟨k, hk, rfl, hj, rfl⟩ := hrel
    have HJ := Lib.hid hj
    clear hj
    by_cases hlt : k < m
    · have hli : (k : Int) < m := by omega
      have hkl : k < l.length := by have := HN.out; omega
      obtain ⟨b, off, rfl, hc⟩ : ∃ b off, a = some ⟨b, off, none⟩ ∧ ∀ i, i < l.length → w.cell? ⟨b, off + i, none⟩ = some (.int .i64 (l.getD i 0)) := by
        rcases HS.out with h | h
        · rw [h] at hkl; simp at hkl
        · exact h
      have c0 := hc k hkl
      have CX := CC (l.getD k 0)
      clear hc CC
      cases hx : out lo hi (l.getD k 0)
      · rw [hx] at CX
        have HJ2 := Lib.hid (show ∀ j, j < k + 1 → out lo hi (l.getD j 0) = false from fun j hj => by
          rcases Nat.lt_succ_iff_lt_or_eq.1 hj with h | rfl
          · exact HJ.out j h
          · exact hx)
        clear hx HJ
        generalize l.getD k 0 = x at *
        go_wp2_with (go_at_call 121; refine CX.mono ?_; rintro e w' ⟨rfl, rfl⟩)
        go_roundg (gk - 1)
        case rel => exact ⟨k + 1, by omega, by go_num, HJ2.out, rfl⟩
        case measure => omega
      · rw [hx] at CX
        have HA := Lib.hid (any_at hkl hx)
        generalize l.getD k 0 = x at *
        go_wp2_with (go_at_call 121; refine CX.mono ?_; rintro e w' ⟨rfl, rfl⟩)
        go_ret
        exact ⟨⟨_, rfl, by rw [HA.out]; simp⟩, rfl⟩
    · obtain rfl : k = m := by omega
      have HA := Lib.hid (any_none (f := out lo hi) (l := l) (fun j hj => HJ.out j (by have := HN.out; omega)))
      go_wp2_with fail
      go_ret
      exact ⟨⟨_, rfl, by rw [HA.out]; rfl⟩, rfl⟩
theorem contains_any (lo hi : Int) (p q : Nat) (a : Option Addr) (cap : Nat) (l : List Int) (w : World) (hl : l.length ≤ 9223372036854775807) (hb : IntsAt .i64 w a l)
    (hp : w.cell? ⟨p, 0, none⟩ = some (.int .i64 lo)) (hq : w.cell? ⟨q, 0, none⟩ = some (.int .i64 hi)) :
    Calls Tryz.prog 120 #[.slice a l.length cap, .func (.func 121) #[] #[.pointer (some ⟨p, 0, none⟩), .pointer (some ⟨q, 0, none⟩)]] w
      fun e w' => e = .returned (.bool (l.any (out lo hi))) ∧ w = w' := by
  have CI := index_any lo hi p q a cap l w hl hb hp hq
  generalize l.any (out lo hi) = X at *
  clear hl hb hp hq
  generalize l.length = m at *
  go_enter Tryz.func120, Tryz.ntmps120
  go_wp2_with (go_at_call 136; refine CI.mono ?_; rintro e w' ⟨⟨r, rfl, hr⟩, rfl⟩)
  go_ret
  exact ⟨rfl, rfl⟩
set_option maxHeartbeats 800000 in
theorem outside_any (lo hi : Int) (a : Option Addr) (cap : Nat) (l : List Int) (w : World) (hl : l.length ≤ 9223372036854775807) (hb : IntsAt .i64 w a l) :
    Calls Tryz.prog 87 #[.int .i64 lo, .int .i64 hi, .slice a l.length cap] w fun e w' => e = .returned (.bool (l.any (out lo hi))) ∧ Below w.heap.size w w' := by
  have B1 := (Below.refl w.heap.size w).alloc (Nat.le_refl _) (.cells #[.int .i64 lo] 3)
  have B2 := Lib.hid (B1.alloc (by simp) (.cells #[.int .i64 hi] 3))
  have R1 := (show IRow .i64 (w.alloc (.cells #[.int .i64 lo] 3)) w.heap.size 3 [lo] from heap_alloc_new w _).alloc (.cells #[.int .i64 hi] 3)
  have R2 := (show IRow .i64 ((w.alloc (.cells #[.int .i64 lo] 3)).alloc (.cells #[.int .i64 hi] 3)) (w.heap.size + 1) 3 [hi] from by
    have h := lit1 (w.alloc (.cells #[.int .i64 lo] 3)) hi 3
    rw [show (w.alloc (.cells #[.int .i64 lo] 3)).heap.size = w.heap.size + 1 by simp] at h
    exact h)
  have CI := contains_any lo hi w.heap.size (w.heap.size + 1) a cap l _ hl (hb.below B2.out) (R1.cell 0 (by simp)) (R2.cell 0 (by simp))
  clear B1 R1 R2 hl hb
  generalize l.any (out lo hi) = X at *
  generalize l.length = m at *
  go_enter Tryz.func87, Tryz.ntmps87
  go_wp2_with (go_at_call 120; refine CI.mono ?_; rintro e w' ⟨rfl, rfl⟩)
  go_ret
  exact ⟨rfl, B2.out⟩
theorem outside_1 (lo hi n : Int) (b : Nat) (t : TypeId) (x : Bool) (w : World) (hb : IRow .i64 w b t [n]) (hx : out lo hi n = x) :
    Calls Tryz.prog 87 #[.int .i64 lo, .int .i64 hi, .slice (some ⟨b, 0, none⟩) 1 1] w fun e w' => e = .returned (.bool x) ∧ Below w.heap.size w w' := by
  have h := outside_any lo hi (some ⟨b, 0, none⟩) 1 [n] w (by simp) hb.ints
  rw [one_out, hx] at h
  exact h
theorem outside_2 (n vote : Int) (b : Nat) (t : TypeId) (x : Bool) (w : World) (hb : IRow .i64 w b t [n, vote]) (hx : both n vote = !x) :
    Calls Tryz.prog 87 #[.int .i64 (-2147483648), .int .i64 2147483647, .slice (some ⟨b, 0, none⟩) 2 2] w fun e w' => e = .returned (.bool x) ∧ Below w.heap.size w w' := by
  have h := outside_any (-2147483648) 2147483647 (some ⟨b, 0, none⟩) 2 [n, vote] w (by simp) hb.ints
  rw [both_outs, hx, Bool.not_not] at h
  exact h
theorem offset_any (g : Nat) (auth gain offset : Int) (w : World) (hT : VRow w g 151 (tri auth gain offset)) :
    Calls Tryz.prog 44 #[.pointer (some ⟨g, 0, none⟩)] w fun e w' => e = .returned (.int .i64 offset) ∧ w = w' := by
  have c2 := hT.cell 2 (v := .int .i64 offset) rfl
  clear hT
  go_enter Tryz.func44, Tryz.ntmps44
  go_wp2
  go_ret
  exact ⟨rfl, rfl⟩
theorem offset_nil (w : World) : Calls Tryz.prog 44 #[.pointer none] w fun e w' => e = .returned (.int .i64 0) ∧ w = w' := by
  go_enter Tryz.func44, Tryz.ntmps44
  go_wp2
  go_ret
  exact ⟨rfl, rfl⟩
set_option maxHeartbeats 1600000 in
theorem new_no (auth gain : Int) (w : World) (h : may auth gain = false) :
    Calls Tryz.prog 48 #[.int .i64 auth, .int .i64 gain] w fun e w' => e = .returned (.tuple #[.pointer none, .int .i64 1]) ∧ Below w.heap.size w w' := by
  rw [may_outs] at h
  have B := Lib.hid (Below.refl w.heap.size w)
  cases d1 : out 0 2147483647 auth
  · have d2 : out 0 8 gain = true := by rw [d1] at h; simpa using h
    clear h
    go_enter Tryz.func48, Tryz.ntmps48
    go_wp2_with (go_at_call 87; refine (outside_1 _ _ _ _ _ _ _ (lit1 _ _ _) (by first | exact d1 | exact d2)).mono ?_; rintro e w1 ⟨rfl, b1⟩; have B := Lib.hid (grow_alloc B.out b1); clear b1)
    go_ret2
    exact ⟨rfl, by have := B.out; assumption⟩
  · clear h
    go_enter Tryz.func48, Tryz.ntmps48
    go_wp2_with (go_at_call 87; refine (outside_1 _ _ _ _ _ _ _ (lit1 _ _ _) d1).mono ?_; rintro e w1 ⟨rfl, b1⟩; have B := Lib.hid (grow_alloc B.out b1); clear b1)
    go_ret2
    exact ⟨rfl, by have := B.out; assumption⟩
set_option maxHeartbeats 1600000 in
theorem new_yes (auth gain : Int) (w : World) (h : may auth gain = true) :
    Calls Tryz.prog 48 #[.int .i64 auth, .int .i64 gain] w fun e w' => ∃ g, e = .returned (.tuple #[.pointer (some ⟨g, 0, none⟩), .int .i64 0]) ∧ Kp.Kept w w' g 151 (tri auth gain 0) := by
  rw [may_outs] at h
  have B := Lib.hid (Below.refl w.heap.size w)
  have d1 : out 0 2147483647 auth = false := by revert h; cases out 0 2147483647 auth <;> simp
  have d2 : out 0 8 gain = false := by revert h; cases out 0 8 gain <;> simp
  clear h
  go_enter Tryz.func48, Tryz.ntmps48
  go_wp2_with (go_at_call 87; refine (outside_1 _ _ _ _ _ _ _ (lit1 _ _ _) (by first | exact d1 | exact d2)).mono ?_; rintro e w1 ⟨rfl, b1⟩; have B := Lib.hid (grow_alloc B.out b1); clear b1)
  go_ret2
  exact ⟨_, rfl, Kp.kept_new w _ (tri auth gain 0) 151 (by have := B.out; assumption)⟩
theorem even_no (g : Nat) (n : Int) (w : World) (hn : val n = false) :
    Calls Tryz.prog 104 #[.pointer (some ⟨g, 0, none⟩), .int .i64 n] w fun e w' => e = .returned (.tuple #[.int .i64 0, .int .i64 1]) ∧ Below w.heap.size w w' := by
  have B := Lib.hid (Below.refl w.heap.size w)
  have d1 : out (-2147483648) 2147483647 n = true := by rw [val_out, hn]; rfl
  clear hn
  go_enter Tryz.func104, Tryz.ntmps104
  go_wp2_with (go_at_call 87; refine (outside_1 _ _ _ _ _ _ _ (lit1 _ _ _) d1).mono ?_; rintro e w1 ⟨rfl, b1⟩; have B := Lib.hid (grow_alloc B.out b1); clear b1)
  go_ret2
  exact ⟨rfl, by have := B.out; assumption⟩
set_option maxHeartbeats 800000 in
theorem even_yes (g : Nat) (auth gain offset n : Int) (w : World) (hT : VRow w g 151 (tri auth gain offset)) (ho : -2147483647 ≤ offset ∧ offset ≤ 2147483647) (hn : val n = true) :
    Calls Tryz.prog 104 #[.pointer (some ⟨g, 0, none⟩), .int .i64 n] w fun e w' => e = .returned (.tuple #[.int .i64 (n - offset), .int .i64 0]) ∧ Below w.heap.size w w' := by
  have B := Lib.hid (Below.refl w.heap.size w)
  have T := Lib.hid hT
  have d1 : out (-2147483648) 2147483647 n = false := by rw [val_out, hn]; rfl
  have hv := (val_iff n).1 hn
  have n1 : -9223372036854775808 ≤ n - offset := by omega
  have n2 : n - offset ≤ 9223372036854775807 := by omega
  clear hn hT hv ho
  go_enter Tryz.func104, Tryz.ntmps104
  go_wp2_with (go_at_call 87; refine (outside_1 _ _ _ _ _ _ _ (lit1 _ _ _) d1).mono ?_; rintro e w1 ⟨rfl, b1⟩; have B := Lib.hid (grow_alloc B.out b1); have c2 := (T.out.below B.out T.out.lt).cell 2 (v := .int .i64 offset) rfl; clear b1)
  go_ret2
  exact ⟨rfl, by have := B.out; assumption⟩
theorem even_any (g : Nat) (auth gain offset n : Int) (w : World) (hT : VRow w g 151 (tri auth gain offset)) (ho : -2147483647 ≤ offset ∧ offset ≤ 2147483647) :
    Calls Tryz.prog 104 #[.pointer (some ⟨g, 0, none⟩), .int .i64 n] w fun e w' => e = .returned (.tuple #[.int .i64 (ev offset n), .int .i64 (ee n)]) ∧ Below w.heap.size w w' := by
  cases hn : val n
  · rw [ev_no hn, ee_no hn]; exact even_no g n w hn
  · rw [ev_yes hn, ee_yes hn]; exact even_yes g auth gain offset n w hT ho hn
end Ql
end Go.Proofs.YtacclmfbkiadbaaGreat
