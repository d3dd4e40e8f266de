/-
  What Come of package jump does: its contract by walking the Go text. Conditions: where the watch lies; that a value that came may be one.
  The iterator of package stuck (fromOldest: the votes, the oldest one first): its contract, for every loop body that leaves the iterator's own variable and the room as they are. Conditions: where the room lies.
  What the calls of package order return, for every argument: contracts by walking the Go text. No conditions beyond the numbers' kinds and where the list lies.
  What Votes of package stuck returns: a contract by walking the Go text (a range over the iterator fromOldest). Conditions: where the room lies.
-/
import Derived.Test.YtacclmfbkiadbaaGreatJJumpWalks4
import Derived.Test.YtacclmfbkiadbaaGreatJTail5
import Derived.RangeFuncNested
import Derived.RangeFuncBound
import Derived.RangeFuncCalls
import Derived.RangeFuncLeaves
import Derived.Shelf.Abstract
import Derived.Shelf.RegionOpen
import Derived.OwnWalkIn
import Derived.TacticsInMore
import Derived.LoopNIn
import Derived.LoopIn
import Derived.Test.YtacclmfbkiadbaaGreatJFixMath3
import Derived.Test.YtacclmfbkiadbaaGreatJAgg5
import Derived.ProofKit
import Derived.OpenShut
import Derived.Handy
import Derived.Deep.LoopGhost
import Derived.Deep.RegionLaw
import Derived.Deep.QuietTactic
import Derived.BigQuiet
import Derived.BigRegion
import Derived.Maps.AppendAt
namespace Go.Proofs.YtacclmfbkiadbaaGreat
set_option maxRecDepth 100000
open Go.ChangeShapes Go.WideShapes Go.ChangeAt Go.RowKit Go.Deep
namespace Jp
open Fx (ret_bool)
/-- What the closure leaves, named. -/
theorem tell_to (g : Nat) (s t x : Int) (b : Bool) (w : World) (hs : 0 ≤ s ∧ s ≤ 1000) (ht : 0 ≤ t ∧ t ≤ 1000) (hx : (s + if b = true then t else 0) = x) (hg : IRow .i64 w g 3 [s]) :
    Calls Tryz.prog 94 #[.int .i64 t, .bool b, .pointer (some ⟨g, 0, none⟩)] w fun e w' => e = .returned (.tuple #[]) ∧ IRow .i64 w' g 3 [x] ∧ Below g w w' := hx ▸ tell_any g s t b w hs ht hg
/-- Behind both stores into the watch. -/
theorem come_end {w w2 : World} {g : Nat} {lo hi step last : Int} {has : Bool} (n : Int) (T : VRow w2 g 157 (wat lo hi step last has)) (b : Below w.heap.size w w2) :
    VRow ((w2.setCell ⟨g, 3, none⟩ (.int .i64 n)).setCell ⟨g, 4, none⟩ (.bool true)) g 157 (wat lo hi step n true) ∧ Only g w ((w2.setCell ⟨g, 3, none⟩ (.int .i64 n)).setCell ⟨g, 4, none⟩ (.bool true)) :=
  ⟨(T.set 3 (.int .i64 n)).set 4 (.bool true), ((show But (· = g) w w2 from But.of_below b).setCell (p := ⟨g, 3, none⟩) (Or.inl rfl) _).setCell (p := ⟨g, 4, none⟩) (Or.inl rfl) _⟩
set_option maxHeartbeats 3200000 in
theorem come_yes (g : Nat) (lo hi step last : Int) (has : Bool) (n : Int) (w : World) (hT : VRow w g 157 (wat lo hi step last has)) (hl : has = true → val last = true) (hs : 0 ≤ step) (hn : val n = true) :
    Calls Tryz.prog 54 #[.pointer (some ⟨g, 0, none⟩), .int .i64 n] w fun e w' => e = .returned (.tuple #[.int .i64 (trips lo hi step last has n), .int .i64 0]) ∧ VRow w' g 157 (wat lo hi step n true) ∧ Only g w w' := by
  have V := fun W => value_any n W
  rw [hn] at V
  have T := Lib.hid hT
  have c0 := (hT.alloc (.cells #[.int .i64 0] 3)).cell 0 (v := .int .i64 lo) rfl
  have c1 := (hT.alloc (.cells #[.int .i64 0] 3)).cell 1 (v := .int .i64 hi) rfl
  have R0 := Lib.hid (show IRow .i64 (w.alloc (.cells #[.int .i64 0] 3)) w.heap.size 3 [0] from heap_alloc_new w _)
  have B0 := Lib.hid ((Below.refl w.heap.size w).alloc (Nat.le_refl _) (.cells #[.int .i64 0] 3))
  have ng : w.heap.size ≠ g := by have := hT.lt; omega
  obtain ⟨S, hS⟩ : ∃ S, (if out lo hi n = true then (2 : Int) else 0) = S := ⟨_, rfl⟩
  have hSb : 0 ≤ S ∧ S ≤ 1000 := by rw [← hS]; split <;> decide
  have hF := fun (h : has = true) (hL : val last = true) => far_apart hn hL hs
  have hX : trips lo hi step last has n = S + if far step last has n = true then 4 else 0 := by unfold trips; rw [hS]
  generalize trips lo hi step last has n = x at *
  have CA := fun W => Fx.apart_any n last W
  generalize Fx.apart n last = D at *
  clear hT hn hs
  by_cases d : n < lo
  · cases has
    · have C1 := fun W h => tell_to w.heap.size 0 2 S true W (by omega) (by omega) (by rw [← hS]; unfold out; simp [d]) h
      have C2 := fun W h => tell_to w.heap.size S 4 x false W hSb (by omega) (by rw [hX, far_none]) h
      clear hS hSb hF hX hl
      go_enter Tryz.func54, Tryz.ntmps54
      go_wp2_with (first | (go_at_call 86; (refine (V _).mono ?_; rintro e w' ⟨rfl, rfl⟩)) | (go_at_call 94; refine (C1 _ R0.out).mono ?_; rintro e w1 ⟨rfl, r1, b1⟩))
      have T1 := Lib.hid ((T.out.alloc (.cells #[.int .i64 0] 3)).below b1 T.out.lt)
      have R1 := Lib.hid r1
      have B1 := Lib.hid (B0.out.trans b1)
      have c2 := T1.out.cell 2 (v := .int .i64 step) rfl
      have c3 := T1.out.cell 3 (v := .int .i64 last) rfl
      have c4 := T1.out.cell 4 (v := .bool false) rfl
      clear c0 c1 r1 b1 C1 B0 R0 V
      refine Tail.wp_region_quiet_tail 18 (by kernel_rfl) (by kernel_rfl) ?_
      simp only [List.take_succ_cons, List.take_zero, List.drop_succ_cons, List.drop_zero]
      repeat (first | go_big_quiet_step (fail) | (go_big_quiet_want; go_big_quiet_op; refine ⟨_, (CA _).mono (fun e w' q => ⟨q.1, q.2.symm⟩), ?_⟩; go_big_quiet_on))
      refine wpQuiet_nil ?_
      clear c2 c3 c4 CA
      go_wp2_with (go_at_call 94; refine (C2 _ R1.out.drew).mono ?_; rintro e w2 ⟨rfl, r2, b2⟩; have T2 := Lib.hid (T1.out.drew.below b2 T.out.lt); have B2 := Lib.hid (B1.out.drew.trans b2); have c3 := T2.out.cell 3 (v := .int .i64 last) rfl; have c4 := T2.out.cell 4 (v := .bool false) rfl; have f3 := T2.out.frozen 3; have f4 := T2.out.frozen 4; have z := r2.cell 0 (by simp); rw [show ([x] : List Int).getD 0 0 = x from rfl] at z)
      go_ret2
      exact ⟨rfl, come_end n T2.out B2.out⟩
    · have C1 := fun W h => tell_to w.heap.size 0 2 S true W (by omega) (by omega) (by rw [← hS]; unfold out; simp [d]) h
      have C2 := fun W h => tell_to w.heap.size S 4 x (decide (step < D)) W hSb (by omega) (by rw [hX, hF rfl (hl rfl)]) h
      clear hS hSb hF hX hl
      go_enter Tryz.func54, Tryz.ntmps54
      go_wp2_with (first | (go_at_call 86; (refine (V _).mono ?_; rintro e w' ⟨rfl, rfl⟩)) | (go_at_call 94; refine (C1 _ R0.out).mono ?_; rintro e w1 ⟨rfl, r1, b1⟩))
      have T1 := Lib.hid ((T.out.alloc (.cells #[.int .i64 0] 3)).below b1 T.out.lt)
      have R1 := Lib.hid r1
      have B1 := Lib.hid (B0.out.trans b1)
      have c2 := T1.out.cell 2 (v := .int .i64 step) rfl
      have c3 := T1.out.cell 3 (v := .int .i64 last) rfl
      have c4 := T1.out.cell 4 (v := .bool true) rfl
      clear c0 c1 r1 b1 C1 B0 R0 V
      refine Tail.wp_region_quiet_tail 18 (by kernel_rfl) (by kernel_rfl) ?_
      simp only [List.take_succ_cons, List.take_zero, List.drop_succ_cons, List.drop_zero]
      repeat (first | go_big_quiet_step (fail) | (go_big_quiet_want; go_big_quiet_op; refine ⟨_, (CA _).mono (fun e w' q => ⟨q.1, q.2.symm⟩), ?_⟩; go_big_quiet_on))
      refine wpQuiet_nil ?_
      clear c2 c3 c4 CA
      go_wp2_with (go_at_call 94; refine (C2 _ R1.out.drew).mono ?_; rintro e w2 ⟨rfl, r2, b2⟩; have T2 := Lib.hid (T1.out.drew.below b2 T.out.lt); have B2 := Lib.hid (B1.out.drew.trans b2); have c3 := T2.out.cell 3 (v := .int .i64 last) rfl; have c4 := T2.out.cell 4 (v := .bool true) rfl; have f3 := T2.out.frozen 3; have f4 := T2.out.frozen 4; have z := r2.cell 0 (by simp); rw [show ([x] : List Int).getD 0 0 = x from rfl] at z)
      go_ret2
      exact ⟨rfl, come_end n T2.out B2.out⟩
  · have dd : decide (n < lo) = false := by simpa using d
    cases has
    · have C1 := fun W h => tell_to w.heap.size 0 2 S (decide (hi < n)) W (by omega) (by omega) (by rw [← hS]; unfold out; simp [d]) h
      have C2 := fun W h => tell_to w.heap.size S 4 x false W hSb (by omega) (by rw [hX, far_none]) h
      clear d hS hSb hF hX hl
      go_enter Tryz.func54, Tryz.ntmps54
      go_wp2_with (first | (go_at_call 86; (refine (V _).mono ?_; rintro e w' ⟨rfl, rfl⟩)) | (go_at_call 94; refine (C1 _ R0.out).mono ?_; rintro e w1 ⟨rfl, r1, b1⟩))
      have T1 := Lib.hid ((T.out.alloc (.cells #[.int .i64 0] 3)).below b1 T.out.lt)
      have R1 := Lib.hid r1
      have B1 := Lib.hid (B0.out.trans b1)
      have c2 := T1.out.cell 2 (v := .int .i64 step) rfl
      have c3 := T1.out.cell 3 (v := .int .i64 last) rfl
      have c4 := T1.out.cell 4 (v := .bool false) rfl
      clear c0 c1 r1 b1 C1 B0 R0 V
      refine Tail.wp_region_quiet_tail 18 (by kernel_rfl) (by kernel_rfl) ?_
      simp only [List.take_succ_cons, List.take_zero, List.drop_succ_cons, List.drop_zero]
      repeat (first | go_big_quiet_step (fail) | (go_big_quiet_want; go_big_quiet_op; refine ⟨_, (CA _).mono (fun e w' q => ⟨q.1, q.2.symm⟩), ?_⟩; go_big_quiet_on))
      refine wpQuiet_nil ?_
      clear c2 c3 c4 CA
      go_wp2_with (go_at_call 94; refine (C2 _ R1.out.drew).mono ?_; rintro e w2 ⟨rfl, r2, b2⟩; have T2 := Lib.hid (T1.out.drew.below b2 T.out.lt); have B2 := Lib.hid (B1.out.drew.trans b2); have c3 := T2.out.cell 3 (v := .int .i64 last) rfl; have c4 := T2.out.cell 4 (v := .bool false) rfl; have f3 := T2.out.frozen 3; have f4 := T2.out.frozen 4; have z := r2.cell 0 (by simp); rw [show ([x] : List Int).getD 0 0 = x from rfl] at z)
      go_ret2
      exact ⟨rfl, come_end n T2.out B2.out⟩
    · have C1 := fun W h => tell_to w.heap.size 0 2 S (decide (hi < n)) W (by omega) (by omega) (by rw [← hS]; unfold out; simp [d]) h
      have C2 := fun W h => tell_to w.heap.size S 4 x (decide (step < D)) W hSb (by omega) (by rw [hX, hF rfl (hl rfl)]) h
      clear d hS hSb hF hX hl
      go_enter Tryz.func54, Tryz.ntmps54
      go_wp2_with (first | (go_at_call 86; (refine (V _).mono ?_; rintro e w' ⟨rfl, rfl⟩)) | (go_at_call 94; refine (C1 _ R0.out).mono ?_; rintro e w1 ⟨rfl, r1, b1⟩))
      have T1 := Lib.hid ((T.out.alloc (.cells #[.int .i64 0] 3)).below b1 T.out.lt)
      have R1 := Lib.hid r1
      have B1 := Lib.hid (B0.out.trans b1)
      have c2 := T1.out.cell 2 (v := .int .i64 step) rfl
      have c3 := T1.out.cell 3 (v := .int .i64 last) rfl
      have c4 := T1.out.cell 4 (v := .bool true) rfl
      clear c0 c1 r1 b1 C1 B0 R0 V
      refine Tail.wp_region_quiet_tail 18 (by kernel_rfl) (by kernel_rfl) ?_
      simp only [List.take_succ_cons, List.take_zero, List.drop_succ_cons, List.drop_zero]
      repeat (first | go_big_quiet_step (fail) | (go_big_quiet_want; go_big_quiet_op; refine ⟨_, (CA _).mono (fun e w' q => ⟨q.1, q.2.symm⟩), ?_⟩; go_big_quiet_on))
      refine wpQuiet_nil ?_
      clear c2 c3 c4 CA
      go_wp2_with (go_at_call 94; refine (C2 _ R1.out.drew).mono ?_; rintro e w2 ⟨rfl, r2, b2⟩; have T2 := Lib.hid (T1.out.drew.below b2 T.out.lt); have B2 := Lib.hid (B1.out.drew.trans b2); have c3 := T2.out.cell 3 (v := .int .i64 last) rfl; have c4 := T2.out.cell 4 (v := .bool true) rfl; have f3 := T2.out.frozen 3; have f4 := T2.out.frozen 4; have z := r2.cell 0 (by simp); rw [show ([x] : List Int).getD 0 0 = x from rfl] at z)
      go_ret2
      exact ⟨rfl, come_end n T2.out B2.out⟩
end Jp
end Go.Proofs.YtacclmfbkiadbaaGreat

namespace Go.Proofs.YtacclmfbkiadbaaGreat
set_option maxRecDepth 100000
open Go.ChangeShapes Go.WideShapes Go.ChangeAt Go.RowKit Go.Deep Go.Shelf
namespace Sk
attribute [local go_sem] Oper.semAt_some
/-- The wide fence asks nothing. -/
theorem asked_wide (P : Program) (o : Oper) (a : Act) (C : World → Prop) : Oper.askedIn Fence.wide P o a C := fun _ _ _ _ => trivial
/-- What the iterator hands over: the vote with that number. -/
def vat (V : List Int) (x : Fin V.length) : Int := V.getD x.val 0
def encv (V : List Int) (x : Fin V.length) : Array Value := #[.int .i64 (vat V x)]
theorem vat_all (V : List Int) (ys : List (Fin V.length)) (h : ys.map Fin.val = List.range V.length) : ys.map (vat V) = V := by
  rw [show ys.map (vat V) = (ys.map Fin.val).map (fun i => V.getD i 0) by rw [List.map_map]; rfl, h]
  apply List.ext_getElem
  · simp
  · intro i h1 h2
    simp at h1
    simp [List.getD_eq_getElem?_getD, h1]
/-- What a round keeps: the iterator's own variable, and the room. -/
def KeepTwo (B g : Nat) (W W' : World) : Prop := W'.heap[B]? = W.heap[B]? ∧ W'.heap[g]? = W.heap[g]?
theorem KeepTwo.refl (B g : Nat) (W : World) : KeepTwo B g W W := ⟨rfl, rfl⟩
theorem KeepTwo.trans {B g : Nat} {X Y Z : World} (h : KeepTwo B g X Y) (k : KeepTwo B g Y Z) : KeepTwo B g X Z := ⟨k.1.trans h.1, k.2.trans h.2⟩
theorem KeepTwo.put {B g : Nat} {w : World} (hB : B < w.heap.size) (hg : g < w.heap.size) (W : World) (l : Nat) (o o' : Obj) (hl : w.heap.size ≤ l) (_ : W.heap[l]? = some o) (_ : o.isCells = false) (_ : o.isWalk = false) : KeepTwo B g W (W.putObj l o') :=
  ⟨World.putObj_heap_other (by omega), World.putObj_heap_other (by omega)⟩
theorem KeepTwo.box {B g : Nat} {W W' : World} {v : Value} (h : KeepTwo B g W W') (hc : W.cell? ⟨B, 0, none⟩ = some v) : W'.cell? ⟨B, 0, none⟩ = some v := (World.cell?_of_block (a := ⟨B, 0, none⟩) h.1).trans hc
theorem grown_drewN (W : World) (n : Nat) (row : Option Nat) : W.grownBy (W.drewN n) row := ⟨rfl, rfl, rfl, Nat.le_refl _, fun _ _ _ => rfl⟩
set_option maxRecDepth 100000 in
set_option maxHeartbeats 2000000 in
theorem from1_in (n : Nat) (hn : 1 ≤ n) (l Bs g P : Nat) (bound : Int) (V : List Int) (J Jx : List (Fin V.length) → World → Prop) (B : Nat) (hJ : AbidesFrom B J)
    (hY : ∀ pre x W, J pre W → pre.length < V.length → YieldAt Fence.wide (n - 1) Tryz.prog l (encv V x) W fun e W' =>
      (e = .returned (.bool true) ∧ J (pre ++ [x]) W' ∧ KeepTwo Bs g W W') ∨ (e = .returned (.bool false) ∧ Jx (pre ++ [x]) W'))
    (W : World) (hBs : W.cell? ⟨Bs, 0, none⟩ = some (.pointer (some ⟨g, 0, none⟩))) (hR : Room W g P bound V) (h0 : J [] W) :
    CallsIn Fence.wide n Tryz.prog 140 #[.func (.yield l) #[] #[], .pointer (some ⟨Bs, 0, none⟩)] W fun e W' => (∃ v, e = .returned v) ∧
      ((∃ ys : List (Fin V.length), ys.map Fin.val = List.range V.length ∧ J ys W') ∨ (∃ pre, True ∧ Jx pre W')) := by
  have c18 := hR.count
  have hle := hR.le
  have HR := Lib.hid hR
  clear hR
  obtain ⟨N, hN⟩ : ∃ N, N = V.length := ⟨_, rfl⟩
  refine callsIn_of_wp Tryz.func140 rfl trivial ?_ rfl
  simp only [Tryz.ntmps140, List.size_toArray, List.length_cons, List.length_nil, Nat.reduceAdd, Nat.reduceSub, Array.replicate_succ, Array.replicate_zero, List.push_toArray, List.append_toArray, List.nil_append, List.cons_append]
  gi_wp2
  gi_loopw [9] (fun i wr => ∃ (k : Nat) (pre : List (Fin V.length)), k ≤ V.length ∧ i = .int .i64 k ∧ pre.map Fin.val = List.range k ∧ J pre wr ∧ KeepTwo Bs g W wr)
    (fun i _ => V.length - (intOf i).toNat)
  case atStart => exact ⟨0, [], Nat.zero_le _, rfl, rfl, h0, KeepTwo.refl _ _ _⟩
  case round =>
    obtain ⟨k, pre, hk, rfl, hpre, hJs, hnx⟩ := hrel
    have hlenp : pre.length = k := by have := congrArg List.length hpre; simpa using this
    by_cases hlt : k < V.length
    · have hbx := hnx.box hBs
      have HR2 := HR.out.block hnx.2
      obtain ⟨ring, next, hr, R⟩ := HR2
      have e0 := (R.cell 0 (by rw [room_len hr.len]; omega) : _ = some (Value.int IntKind.i64 ((P : Int) + 1)))
      have e17 := R.cell 17 (by rw [room_len hr.len]; omega)
      rw [room_next hr.len] at e17
      have e18 := R.cell 18 (by rw [room_len hr.len]; omega)
      rw [room_count hr.len] at e18
      have sl := spot_lt hr.nx hlt hr.le
      have ek := R.cell (2 + spot P next V.length k) (by rw [room_len hr.len]; have := hr.p15; omega)
      rw [room_ring _ (by have := hr.p15; omega) hr.len, hr.at_ k hlt] at ek
      have ST := spot_tmod hr.nx hlt hr.le
      have p15 := hr.p15
      have hnx' := hr.nx
      generalize spot P next V.length k = s at *
      have hki : (k : Int) < (V.length : Int) := by omega
      have s15 : (s : Int) < 15 := by omega
      clear hr R
      have CP := fun (r m : Nat) => (callsIn_wide (n := r)).2 ((places_cell g P (wr.drewN m) p15 e0).mono (fun e w' q => (show e = .returned (.int .i64 (P : Int)) ∧ ∃ m', w' = wr.drewN m' from ⟨q.1, m, q.2.symm⟩)))
      have HY := fun m => hY pre ⟨k, hlt⟩ (wr.drewN m) (hJ _ _ _ none hJs (grown_drewN wr m _) (fun r e => by cases e)) (by omega)
      dsimp only [encv, vat] at HY
      generalize V.getD k 0 = x at *
      gi_wp2
      refine wpIn_region_quiet_lit rfl (by kernel_rfl) (by kernel_rfl) ?_
      repeat (first
        | gi_big_quiet_step (fail)
        | (refine wpQuietIn_step (asked_wide _ _ _ _) (fun K hK => ?_); go_simp; refine ⟨_, fun _ => CP _ _, hK _ ?_⟩; clear hK K))
      refine wpQuietIn_nil ?_
      intro _ hw'
      obtain ⟨nq, hw''⟩ := hw'
      subst hw''
      obtain ⟨fn, tmps, assign, body, hy, hYR⟩ := HY nq
      gi_wp2
      refine hYR.mono ?_
      rintro e W3 (⟨rfl, hJ3, hk3⟩ | ⟨rfl, hJx3⟩)
      · gi_wp2
        go_roundw
        case rel => exact ⟨k + 1, pre ++ [⟨k, hlt⟩], by omega, by simp, by rw [List.map_append, hpre, List.range_succ]; rfl, hJ3, hnx.trans hk3⟩
        case measure => simp [intOf]; omega
      · gi_wp2
        refine bodyPost_ret (results_none rfl _ _ _) rfl ?_
        exact ⟨⟨_, rfl⟩, .inr ⟨_, trivial, hJx3⟩⟩
    · obtain rfl : k = V.length := by omega
      gi_wp2
      go_end0
      exact ⟨⟨_, rfl⟩, .inl ⟨pre, hpre, hJs⟩⟩
/-- The iterator's value keeps its contract in every world that has grown out of this one. -/
theorem from_stops (n : Nat) (hn : 1 ≤ n) (Bs g P : Nat) (bound : Int) (V : List Int) (w : World) (hB : Bs < w.heap.size) (hc : w.cell? ⟨Bs, 0, none⟩ = some (.pointer (some ⟨g, 0, none⟩))) (hR : Room w g P bound V) :
    SeqStopsK Fence.wide n Tryz.prog 140 #[.pointer (some ⟨Bs, 0, none⟩)] (encv V) (KeepTwo Bs g) (fun ys => ys.map Fin.val = List.range V.length) (fun _ => True) V.length w := fun l J Jx W hW hJ _ hY h0 =>
  from1_in n hn l Bs g P bound V J Jx _ hJ hY W ((hW.cell (p := ⟨Bs, 0, none⟩) hB).trans hc) (hR.below hW hR.lt) h0
/-- fromOldest itself: the room's pointer is laid in a box; the function value has the box. -/
theorem from_any (g : Nat) (w : World) :
    Calls Tryz.prog 137 #[.pointer (some ⟨g, 0, none⟩)] w fun e w' => e = .returned (.func (.func 140) #[] #[.pointer (some ⟨w.heap.size, 0, none⟩)]) ∧ w' = w.alloc (.cells #[.pointer (some ⟨g, 0, none⟩)] 69) := by
  go_enter Tryz.func137, Tryz.ntmps137
  go_wp2
  go_ret
  exact ⟨rfl, rfl⟩
end Sk
end Go.Proofs.YtacclmfbkiadbaaGreat

namespace Go.Proofs.YtacclmfbkiadbaaGreat
set_option maxRecDepth 100000
open Go.ChangeShapes Go.WideShapes Go.ChangeAt Go.RowKit Go.Deep
namespace Od
open Fx
theorem intInfo : (Tryz.prog.info? 3).map (fun i => (i.zero, i.size, i.bytes)) = some (some (.int .i64 0), 1, 8) := by kernel_rfl
theorem intSize : (Tryz.prog.info? 3).map (·.size) = some 1 := by kernel_rfl
theorem all_not (l : List Int) (k : Nat) (h : k < l.length) (e : ¬ (-1099511627776 ≤ l.getD k 0 ∧ l.getD k 0 ≤ 1099511627776)) : ok l = false := by
  rw [ok_false]
  intro ⟨_, ha⟩
  rw [List.all_eq_true] at ha
  have := ha l[k] (List.getElem_mem h)
  rw [getD_at l k h] at e
  exact e ((sm_iff _).1 this)
theorem all_step (l : List Int) (k : Nat) (h : k < l.length) (h0 : (l.take k).all sm = true) (e : -1099511627776 ≤ l.getD k 0 ∧ l.getD k 0 ≤ 1099511627776) : (l.take (k + 1)).all sm = true := by
  rw [take_snoc l k h, List.all_append, h0]; simpa [sm] using e
set_option maxHeartbeats 400000 in
theorem told_any (a : Option Addr) (cap : Nat) (l : List Int) (w : World) (hl : l.length ≤ 9223372036854775807) (hb : IntsAt .i64 w a l) :
    Calls Tryz.prog 124 #[.slice a l.length cap] w fun e w' => e = .returned (.bool (ok l)) ∧ w = w' := by
  by_cases h16 : 16 < l.length
  · have HF := Lib.hid ((ok_false l).2 (by omega))
    go_enter Tryz.func124, Tryz.ntmps124
    go_wp2
    go_ret
    exact ⟨ret_bool HF.out.symm, rfl⟩
  · have HB := Lib.hid hb
    clear hb
    go_enter Tryz.func124, Tryz.ntmps124
    go_wp2
    go_loop [10] (fun i => ∃ k : Nat, k ≤ l.length ∧ i = .int .i64 k ∧ (l.take k).all sm = true) (fun i => l.length - (intOf i).toNat)
    case atStart => exact ⟨0, by omega, rfl, rfl⟩
    case round =>
      obtain ⟨k, hk, rfl, hall⟩ := hrel
      have HA := Lib.hid hall
      clear hall
      by_cases hlt : k < l.length
      · rcases HB.out with hnil | ⟨b, off, rfl, hc⟩
        · rw [hnil] at hlt; simp at hlt
        have hcell := hc k hlt
        clear hc
        have HT := Lib.hid (all_step l k hlt HA.out)
        have HN := Lib.hid (all_not l k hlt)
        generalize l.getD k 0 = x at *
        by_cases h1 : x < -1099511627776
        · go_wp2
          go_ret
          exact ⟨ret_bool (by rw [HN.out (by omega)]), rfl⟩
        · have d1 : decide (x < -1099511627776) = false := by simpa using h1
          by_cases h2 : 1099511627776 < x
          · go_wp2
            go_ret
            exact ⟨ret_bool (by rw [HN.out (by omega)]), rfl⟩
          · have d2 : decide (1099511627776 < x) = false := by simpa using h2
            go_wp2
            go_round
            case rel => exact ⟨k + 1, by omega, by go_num, HT.out (by omega)⟩
            case measure => simp [intOf]; omega
      · have : k = l.length := by omega
        subst this
        go_wp2
        go_ret
        exact ⟨ret_bool (by have := HA.out; rw [List.take_of_length_le (Nat.le_refl _)] at this; exact ((ok_iff l).2 ⟨by omega, this⟩).symm), rfl⟩
theorem swapped {w : World} {g : Nat} {t : TypeId} {c : List Int} {k : Nat} (h : IRow .i64 w g t c) :
    IRow .i64 ((w.setCell ⟨g, k - 1, none⟩ (.int .i64 (c.getD k 0))).setCell ⟨g, k, none⟩ (.int .i64 (c.getD (k - 1) 0))) g t (swap c k) := (h.set (k - 1) _).set k _
set_option maxHeartbeats 800000 in
theorem sort_any (a : Option Addr) (cap : Nat) (l : List Int) (w : World) (hl : l.length ≤ 9223372036854775807) (hb : IntsAt .i64 w a l) :
    Calls Tryz.prog 97 #[.slice a l.length cap] w (RetI .i64 w (osort l)) := by
  cases hok : ok l
  · have HF := Lib.hid (show osort l = [] by unfold osort; rw [hok]; rfl)
    go_enter Tryz.func97, Tryz.ntmps97
    go_wp2
    go_step3
    go_wp2_with (first | (go_at_call 124; refine (told_any _ _ _ _ hl hb).mono ?_; rintro e w' ⟨rfl, rfl⟩))
    rw [Exit.noGoto_ret]
    go_ret
    exact retI_nil HF.out (Below.refl _ _)
  · have HF := Lib.hid (show osort l = srt l by unfold osort; rw [if_pos hok])
    have h16 := ok_len hok
    have HB := Lib.hid hb
    obtain ⟨i0, hi0, hz0, hz1, hz2⟩ := info_parts intInfo
    go_enter Tryz.func97, Tryz.ntmps97
    go_wp2
    go_step3
    go_wp2_with (first
      | (go_at_call 124; refine (told_any _ _ _ _ hl hb).mono ?_; rintro e w' ⟨rfl, rfl⟩)
      | (at_make; refine wpList_make_full _ rfl _ _ _ rfl w.heap.size 3 i0 (.int .i64 0) 1 Tryz.underlying55 hi0 hz0 hz1 .i64 .i64 _ _ l.length rfl rfl rfl rfl (by rw [hz2]; omega) (by unfold maxLen; omega) (Nat.le_refl _) ?_; intro w1 own1 grown1
         have R1 := Lib.hid (IRow.of_own own1 (zeros_cellsI _)); have B1 := Lib.hid ((Below.refl w.heap.size w).grown grown1 (Nat.le_refl _) (by simp)); clear own1 grown1)
      | (refine wpList_copyI (o := ⟨some 13, _, _, _, _, _⟩) rfl (.tmp 11) (.tmp 12) _ rfl 3 Tryz.underlying55 intSize .i64 w.heap.size 0 (List.replicate l.length 0) l 3 _ _ _ _ _ _ rfl rfl R1.out (by simp) (fun _ => rfl) (HB.out.below B1.out) (by simp) w.heap.size w B1.out (Nat.le_refl _) ?_
         intro w2 R2' B2'; have R2 := Lib.hid (show IRow _ _ _ _ l from (splice_whole (List.replicate l.length 0) l (by simp)) ▸ R2'.out); have B2 := Lib.hid B2'; clear R2' B2'))
    clear hb
    go_simp
    go_step3
    go_wp2
    go_loopg [4] (inv l) (fun g _ wr => ∃ c : List Int, c.Perm l ∧ inv c ≤ g ∧ Hid (IRow .i64 wr w.heap.size 3 c) ∧ Hid (Below w.heap.size w wr))
    case atStart => exact ⟨l, List.Perm.refl _, Nat.le_refl _, R2, B2⟩
    case round =>
      obtain ⟨c, hp, hg, R3, B3⟩ := hrel
      have hcl := hp.length_eq
      have HL := Lib.hid hcl
      have hl1 : c.length ≤ l.length := by omega
      have hl2 : l.length ≤ c.length := by omega
      clear hcl
      go_wp2
      go_loopg [4] l.length (fun gg s4 wx => ∃ j : Nat, s4 = .int .i64 ((j : Int) + 1) ∧ j + gg = l.length ∧ Hid (Up (c.take (j + 1))) ∧ Hid (IRow .i64 wx w.heap.size 3 c) ∧ Hid (Below w.heap.size w wx))
      case atStart => exact ⟨0, rfl, by omega, Lib.hid (up_one c), R3, B3⟩
      case round =>
        obtain ⟨j, rfl, hjg, U4, R4, B4⟩ := hrel
        have hj1 : j ≤ l.length := by omega
        by_cases hlt : j + 1 < l.length
        · have hc1 := R4.out.cell j (by omega)
          have hc2 := R4.out.cell (j + 1) (by omega)
          have hf1 := R4.out.frozen j
          have hf2 := R4.out.frozen (j + 1)
          have HS := Lib.hid (swap_inv c (j + 1) (by omega) (by omega))
          have HP := Lib.hid (swap_perm c (j + 1) (by omega) (by omega))
          have HW := Lib.hid (swapped R4.out (k := j + 1))
          have HU := Lib.hid (up_take c (j + 1) (by omega) (by omega) U4.out)
          simp only [Nat.add_sub_cancel] at HS HP HW HU
          generalize c.getD j 0 = x at *
          generalize c.getD (j + 1) 0 = y at *
          have hi1 : (j : Int) + 1 < (l.length : Int) := by omega
          have hjl : (j : Int) < (l.length : Int) := by omega
          by_cases hxy : y < x
          · have d1 : decide (y < x) = true := by simpa using hxy
            go_wp2
            go_quiet (fail)
            go_wp2
            go_region
            go_wp2
            go_roundg (inv (swap c (j + 1)))
            case rel => exact ⟨swap c (j + 1), HP.out.trans hp, Nat.le_refl _, HW.out, ((below_drewN B4.out _).setCell (Nat.le_refl _) _).setCell (Nat.le_refl _) _⟩
            case measure => have := HS.out hxy; omega
          · have d1 : decide (y < x) = false := by simpa using hxy
            go_wp2
            go_quiet (fail)
            go_wp2
            go_roundg (gk - 1)
            case rel => exact ⟨j + 1, by go_num, by omega, Lib.hid (HU.out (by omega)), R4.out.drewN _, below_drewN B4.out _⟩
            case measure => omega
        · go_wp2
          rw [Exit.noGoto_ret]
          go_ret
          exact retI_mk (srt_of hp (by have := U4.out; rwa [List.take_of_length_le (by omega)] at this) |>.trans HF.out.symm) (by omega) R4.out.ints B4.out
end Od
end Go.Proofs.YtacclmfbkiadbaaGreat

namespace Go.Proofs.YtacclmfbkiadbaaGreat
set_option maxRecDepth 100000
open Go.ChangeShapes Go.WideShapes Go.ChangeAt Go.RowKit Go.Deep Go.Shelf
namespace Sk
attribute [local go_sem] Oper.semAt_some
theorem box_kept {W w1 : World} {n₀ B Bs size k : Nat} {t e : TypeId} {u v v' : Value} {xs : List Value} {tmp : Obj} (hBs : Boxed W Bs t u) (ht : t ≠ e) (hrow : W.ownsRow n₀ e size v k xs) (hgrow : (W.alloc tmp).grownBy w1 v.ownBlock) (ne : Bs ≠ B) :
    Boxed (w1.setCell ⟨B, 0, none⟩ v') Bs t u :=
  (heap_setCell_other w1 ⟨B, 0, none⟩ Bs v' ne).trans ((hBs.alloc tmp).kept hgrow (hBs.not_row ht hrow))
set_option maxRecDepth 100000 in
set_option maxHeartbeats 2000000 in
theorem votes_any (g P : Nat) (bound : Int) (V : List Int) (w : World) (hR : Room w g P bound V) :
    Calls Tryz.prog 123 #[.pointer (some ⟨g, 0, none⟩)] w (RetI .i64 w V) := by
  have hle := hR.le
  have hlt := hR.lt
  have HR := Lib.hid hR
  clear hR
  obtain ⟨i0, hi0, hz0, hz1, hz2⟩ := info_parts Od.intInfo
  refine (callsIn_wide (n := 5)).1 ?_
  refine callsIn_of_wp_marks Tryz.func123 rfl trivial ?_ rfl
  simp only [Tryz.ntmps123, List.size_toArray, List.length_cons, List.length_nil, Nat.reduceAdd, Nat.reduceSub, Array.replicate_succ, Array.replicate_zero, List.push_toArray, List.append_toArray, List.nil_append, List.cons_append]
  gi_wp2_with (refine ⟨trivial, ?_⟩; gi_at_call 137; refine (callsIn_wide.2 (from_any _ _)).mono ?_; rintro e w2 ⟨rfl, rfl⟩)
  have bL := (Boxed.new w 55 (.slice none 0 0)).alloc (.cells #[.pointer (some ⟨g, 0, none⟩)] 69)
  have bS := Boxed.new (w.alloc (.cells #[.slice none 0 0] 55)) 69 (.pointer (some ⟨g, 0, none⟩))
  rw [World.size_alloc] at bS
  have hR0 := (HR.out.alloc (.cells #[.slice none 0 0] 55)).alloc (.cells #[.pointer (some ⟨g, 0, none⟩)] 69)
  have hB0 := ((Below.refl w.heap.size w).alloc (Nat.le_refl _) (.cells #[.slice none 0 0] 55)).alloc (by simp) (.cells #[.pointer (some ⟨g, 0, none⟩)] 69)
  have hsz : ((w.alloc (.cells #[.slice none 0 0] 55)).alloc (.cells #[.pointer (some ⟨g, 0, none⟩)] 69)).heap.size = w.heap.size + 2 := by simp
  generalize (w.alloc (.cells #[.slice none 0 0] 55)).alloc (.cells #[.pointer (some ⟨g, 0, none⟩)] 69) = W0 at *
  refine wpIn_rangeFunc_ownG rfl (by omega) (gf := 140) (lb := #[.pointer (some ⟨w.heap.size + 1, 0, none⟩)]) rfl trivial (enters_of Tryz.func140 (by kernel_rfl) rfl)
    (from_stops _ (by omega) (w.heap.size + 1) g P bound V W0 (by omega) bS.cell hR0) KeepTwo.trans (KeepTwo.put (by omega) (by omega)) (Below.refl _ _) (fun _ => rfl)
    (fun pre W => ((∃ v, Boxed W w.heap.size 55 v ∧ W.ownsRow w.heap.size 3 1 v (pre.map (vat V)).length (cellsI .i64 (pre.map (vat V))) ∧ True) ∧ Boxed W (w.heap.size + 1) 69 (.pointer (some ⟨g, 0, none⟩))) ∧ Below w.heap.size w W)
    (fun _ _ _ => False)
    (OwnFrom.and (OwnFrom.and (Own.from (holdsRow_own w.heap.size w.heap.size 55 3 1 (fun pre : List (Fin V.length) => (pre.map (vat V)).length) (fun pre => cellsI .i64 (pre.map (vat V))) (fun _ _ => True)) _) (Own.from (boxed_own _ _ _) _)) (ownFrom_below (Nat.le_refl _) (by omega)))
    (fun _ _ _ _ _ hs _ _ => hs)
    ⟨⟨⟨_, bL, World.ownsRow_nil _ _ _ _, trivial⟩, bS⟩, hB0⟩
    (fun x => { tmps := #[.pointer (some ⟨g, 0, none⟩), undef, .slice none 0 0, .pointer (some ⟨w.heap.size, 0, none⟩), .int .i64 (vat V x), .pointer (some ⟨g, 0, none⟩), .bool false, .pointer (some ⟨g, 0, none⟩), .func (.func 140) #[] #[.pointer (some ⟨w.heap.size + 1, 0, none⟩)], .int .i64 (vat V x), undef, undef, undef, undef, undef], defers := [] }) ?assign ?body ?done ?stop
  case assign =>
    intro l x W K hK
    dsimp only [encv]
    gi_wp2
    exact hK
  case body =>
    rintro lp pre x W ⟨⟨⟨v, hbx, hrow, _⟩, hBs⟩, hB⟩ hpl
    have HM := Lib.hid (show (pre ++ [x]).map (vat V) = pre.map (vat V) ++ [vat V x] by simp)
    have hl15 : (pre.map (vat V)).length ≤ 15 := by rw [List.length_map]; omega
    generalize vat V x = y at *
    generalize pre.map (vat V) = ls at *
    have hbc := hbx.cell
    gi_wp2_with (gi_at_builtin; (refine wpListIn_append_own _ rfl _ _ 55 rfl w.heap.size 3 i0 (.int .i64 0) 1 8 Tryz.underlying55 hi0 hz0 hz1 hz2 rfl (by decide) _ _ _ rfl (hrow.alloc _) ⟨W.heap.size, 0, none⟩ 1 1 [.int .i64 y] rfl rfl (cell_one_new _ _ _) (by simp [Value.oneCell']) (by unfold maxLen; omega) (by omega) (by have := hB.size; simp; omega) ?_; intro v' w1 hown' hgrow _; obtain ⟨g', cap', rfl⟩ := ownsRow_succ hown'; obtain ⟨hv1, hv2, hr2, hk2, hb2⟩ := hbx.appended (by decide) hrow hB.size (Nat.le_refl _) hown' hgrow; have hs2 := box_kept (B := w.heap.size) (v' := (.slice (some ⟨g', 0, none⟩) (ls.length + 1) cap')) hBs (by decide) hrow hgrow (by omega); have hc1 := hv1.cell; have hf1 := hv1.frozen))
    refine ⟨hk2.from _, ⟨hs2.trans hBs.symm, hb2.block g hlt⟩, ⟨⟨_, hv2, ?_, trivial⟩, hs2⟩, hB.trans hb2⟩
    rw [HM.out, cellsI_app, List.length_append]
    exact hr2
  case done =>
    rintro D ys W hD hys ⟨⟨⟨v, hbx, hrow, _⟩, hBs⟩, hB⟩ hK
    have hrow2 := ownsRow_putObj hrow (.deferred none) hK rfl
    rw [vat_all V ys hys] at hrow hrow2
    obtain ⟨a, cap, rfl, _⟩ := OwnI.form (show OwnI .i64 _ _ _ v V from hrow)
    obtain ⟨a', cap', he, hi⟩ := OwnI.form (show OwnI .i64 _ _ _ _ V from hrow2)
    cases he
    have hbc := hbx.cell
    gi_wp2
    refine ⟨by simp, .inl ⟨_, _, rfl, run_takeDeferred hK, ?_⟩⟩
    refine ⟨_, results_tmp rfl _ _ _, ?_⟩
    exact retI_mk rfl rfl hi (hB.trans (belowK_b (w := w) (Nat.le_refl _) W D _ _ (by omega) hK rfl rfl))
  case stop =>
    rintro D c pre W _ _ h _
    exact h.elim
end Sk
end Go.Proofs.YtacclmfbkiadbaaGreat
