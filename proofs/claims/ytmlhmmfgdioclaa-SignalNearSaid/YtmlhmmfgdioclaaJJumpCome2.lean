/-
  What Come of package jump does: its contract by walking the Go text. Conditions: where the watch lies; that a value that came may be one.
  The iterator of package stuck (fromOldest: the votes, the oldest one first): its contract, for every loop body that leaves the iterator's own variable and the room as they are. Conditions: where the room lies.
-/
import Derived.Test.YtmlhmmfgdioclaaJJumpWalks4
import Derived.Test.YtmlhmmfgdioclaaJTail3
import Derived.RangeFuncNested
import Derived.RangeFuncBound
import Derived.RangeFuncCalls
import Derived.RangeFuncLeaves
import Derived.Shelf.Abstract
import Derived.Shelf.RegionOpen
import Derived.OwnWalkIn
import Derived.TacticsInMore
import Derived.LoopNIn
import Derived.LoopIn
namespace Go.Proofs.Ytmlhmmfgdioclaa
set_option maxRecDepth 100000
open Go.ChangeShapes Go.WideShapes Go.ChangeAt Go.RowKit Go.Deep
namespace Jp
open Fx (ret_bool)

/-- What the closure leaves, named. -/
theorem tell_to (g : Nat) (s t x : Int) (b : Bool) (w : World) (hs : 0 ≤ s ∧ s ≤ 1000) (ht : 0 ≤ t ∧ t ≤ 1000) (hx : (s + if b = true then t else 0) = x) (hg : IRow .i64 w g 3 [s]) :
    Calls Try.prog 62 #[.int .i64 t, .bool b, .pointer (some ⟨g, 0, none⟩)] w fun e w' => e = .returned (.tuple #[]) ∧ IRow .i64 w' g 3 [x] ∧ Below g w w' := hx ▸ tell_any g s t b w hs ht hg

/-- Behind both stores into the watch. -/
theorem come_end {w w2 : World} {g : Nat} {lo hi step last : Int} {has : Bool} (n : Int) (T : VRow w2 g 115 (wat lo hi step last has)) (b : Below w.heap.size w w2) :
    VRow ((w2.setCell ⟨g, 3, none⟩ (.int .i64 n)).setCell ⟨g, 4, none⟩ (.bool true)) g 115 (wat lo hi step n true) ∧ Only g w ((w2.setCell ⟨g, 3, none⟩ (.int .i64 n)).setCell ⟨g, 4, none⟩ (.bool true)) :=
  ⟨(T.set 3 (.int .i64 n)).set 4 (.bool true), ((show But (· = g) w w2 from But.of_below b).setCell (p := ⟨g, 3, none⟩) (Or.inl rfl) _).setCell (p := ⟨g, 4, none⟩) (Or.inl rfl) _⟩

set_option maxHeartbeats 3200000 in
theorem come_yes (g : Nat) (lo hi step last : Int) (has : Bool) (n : Int) (w : World) (hT : VRow w g 115 (wat lo hi step last has)) (hl : has = true → val last = true) (hs : 0 ≤ step) (hn : val n = true) :
    Calls Try.prog 38 #[.pointer (some ⟨g, 0, none⟩), .int .i64 n] w fun e w' => e = .returned (.tuple #[.int .i64 (trips lo hi step last has n), .int .i64 0]) ∧ VRow w' g 115 (wat lo hi step n true) ∧ Only g w w' := by
  have V := fun W => value_any n W
  rw [hn] at V
  have T := Lib.hid hT
  have c0 := (hT.alloc (.cells #[.int .i64 0] 3)).cell 0 (v := .int .i64 lo) rfl
  have c1 := (hT.alloc (.cells #[.int .i64 0] 3)).cell 1 (v := .int .i64 hi) rfl
  have R0 := Lib.hid (show IRow .i64 (w.alloc (.cells #[.int .i64 0] 3)) w.heap.size 3 [0] from heap_alloc_new w _)
  have B0 := Lib.hid ((Below.refl w.heap.size w).alloc (Nat.le_refl _) (.cells #[.int .i64 0] 3))
  have ng : w.heap.size ≠ g := by have := hT.lt; omega
  obtain ⟨S, hS⟩ : ∃ S, (if out lo hi n = true then (2 : Int) else 0) = S := ⟨_, rfl⟩
  have hSb : 0 ≤ S ∧ S ≤ 1000 := by rw [← hS]; split <;> decide
  have hF := fun (h : has = true) (hL : val last = true) => far_apart hn hL hs
  have hX : trips lo hi step last has n = S + if far step last has n = true then 4 else 0 := by unfold trips; rw [hS]
  generalize trips lo hi step last has n = x at *
  have CA := fun W => Fx.apart_any n last W
  generalize Fx.apart n last = D at *
  clear hT hn hs
  by_cases d : n < lo
  · cases has
    · have C1 := fun W h => tell_to w.heap.size 0 2 S true W (by omega) (by omega) (by rw [← hS]; unfold out; simp [d]) h
      have C2 := fun W h => tell_to w.heap.size S 4 x false W hSb (by omega) (by rw [hX, far_none]) h
      clear hS hSb hF hX hl
      go_enter Try.func38, Try.ntmps38
      go_wp2_with (first | (go_at_call 55; (refine (V _).mono ?_; rintro e w' ⟨rfl, rfl⟩)) | (go_at_call 62; refine (C1 _ R0.out).mono ?_; rintro e w1 ⟨rfl, r1, b1⟩))
      have T1 := Lib.hid ((T.out.alloc (.cells #[.int .i64 0] 3)).below b1 T.out.lt)
      have R1 := Lib.hid r1
      have B1 := Lib.hid (B0.out.trans b1)
      have c2 := T1.out.cell 2 (v := .int .i64 step) rfl
      have c3 := T1.out.cell 3 (v := .int .i64 last) rfl
      have c4 := T1.out.cell 4 (v := .bool false) rfl
      clear c0 c1 r1 b1 C1 B0 R0 V
      refine Tail.wp_region_quiet_tail 18 (by kernel_rfl) (by kernel_rfl) ?_
      simp only [List.take_succ_cons, List.take_zero, List.drop_succ_cons, List.drop_zero]
      repeat (first | go_big_quiet_step (fail) | (go_big_quiet_want; go_big_quiet_op; refine ⟨_, (CA _).mono (fun e w' q => ⟨q.1, q.2.symm⟩), ?_⟩; go_big_quiet_on))
      refine wpQuiet_nil ?_
      clear c2 c3 c4 CA
      go_wp2_with (go_at_call 62; refine (C2 _ R1.out.drew).mono ?_; rintro e w2 ⟨rfl, r2, b2⟩; have T2 := Lib.hid (T1.out.drew.below b2 T.out.lt); have B2 := Lib.hid (B1.out.drew.trans b2); have c3 := T2.out.cell 3 (v := .int .i64 last) rfl; have c4 := T2.out.cell 4 (v := .bool false) rfl; have f3 := T2.out.frozen 3; have f4 := T2.out.frozen 4; have z := r2.cell 0 (by simp); rw [show ([x] : List Int).getD 0 0 = x from rfl] at z)
      go_ret2
      exact ⟨rfl, come_end n T2.out B2.out⟩
    · have C1 := fun W h => tell_to w.heap.size 0 2 S true W (by omega) (by omega) (by rw [← hS]; unfold out; simp [d]) h
      have C2 := fun W h => tell_to w.heap.size S 4 x (decide (step < D)) W hSb (by omega) (by rw [hX, hF rfl (hl rfl)]) h
      clear hS hSb hF hX hl
      go_enter Try.func38, Try.ntmps38
      go_wp2_with (first | (go_at_call 55; (refine (V _).mono ?_; rintro e w' ⟨rfl, rfl⟩)) | (go_at_call 62; refine (C1 _ R0.out).mono ?_; rintro e w1 ⟨rfl, r1, b1⟩))
      have T1 := Lib.hid ((T.out.alloc (.cells #[.int .i64 0] 3)).below b1 T.out.lt)
      have R1 := Lib.hid r1
      have B1 := Lib.hid (B0.out.trans b1)
      have c2 := T1.out.cell 2 (v := .int .i64 step) rfl
      have c3 := T1.out.cell 3 (v := .int .i64 last) rfl
      have c4 := T1.out.cell 4 (v := .bool true) rfl
      clear c0 c1 r1 b1 C1 B0 R0 V
      refine Tail.wp_region_quiet_tail 18 (by kernel_rfl) (by kernel_rfl) ?_
      simp only [List.take_succ_cons, List.take_zero, List.drop_succ_cons, List.drop_zero]
      repeat (first | go_big_quiet_step (fail) | (go_big_quiet_want; go_big_quiet_op; refine ⟨_, (CA _).mono (fun e w' q => ⟨q.1, q.2.symm⟩), ?_⟩; go_big_quiet_on))
      refine wpQuiet_nil ?_
      clear c2 c3 c4 CA
      go_wp2_with (go_at_call 62; refine (C2 _ R1.out.drew).mono ?_; rintro e w2 ⟨rfl, r2, b2⟩; have T2 := Lib.hid (T1.out.drew.below b2 T.out.lt); have B2 := Lib.hid (B1.out.drew.trans b2); have c3 := T2.out.cell 3 (v := .int .i64 last) rfl; have c4 := T2.out.cell 4 (v := .bool true) rfl; have f3 := T2.out.frozen 3; have f4 := T2.out.frozen 4; have z := r2.cell 0 (by simp); rw [show ([x] : List Int).getD 0 0 = x from rfl] at z)
      go_ret2
      exact ⟨rfl, come_end n T2.out B2.out⟩
  · have dd : decide (n < lo) = false := by simpa using d
    cases has
    · have C1 := fun W h => tell_to w.heap.size 0 2 S (decide (hi < n)) W (by omega) (by omega) (by rw [← hS]; unfold out; simp [d]) h
      have C2 := fun W h => tell_to w.heap.size S 4 x false W hSb (by omega) (by rw [hX, far_none]) h
      clear d hS hSb hF hX hl
      go_enter Try.func38, Try.ntmps38
      go_wp2_with (first | (go_at_call 55; (refine (V _).mono ?_; rintro e w' ⟨rfl, rfl⟩)) | (go_at_call 62; refine (C1 _ R0.out).mono ?_; rintro e w1 ⟨rfl, r1, b1⟩))
      have T1 := Lib.hid ((T.out.alloc (.cells #[.int .i64 0] 3)).below b1 T.out.lt)
      have R1 := Lib.hid r1
      have B1 := Lib.hid (B0.out.trans b1)
      have c2 := T1.out.cell 2 (v := .int .i64 step) rfl
      have c3 := T1.out.cell 3 (v := .int .i64 last) rfl
      have c4 := T1.out.cell 4 (v := .bool false) rfl
      clear c0 c1 r1 b1 C1 B0 R0 V
      refine Tail.wp_region_quiet_tail 18 (by kernel_rfl) (by kernel_rfl) ?_
      simp only [List.take_succ_cons, List.take_zero, List.drop_succ_cons, List.drop_zero]
      repeat (first | go_big_quiet_step (fail) | (go_big_quiet_want; go_big_quiet_op; refine ⟨_, (CA _).mono (fun e w' q => ⟨q.1, q.2.symm⟩), ?_⟩; go_big_quiet_on))
      refine wpQuiet_nil ?_
      clear c2 c3 c4 CA
      go_wp2_with (go_at_call 62; refine (C2 _ R1.out.drew).mono ?_; rintro e w2 ⟨rfl, r2, b2⟩; have T2 := Lib.hid (T1.out.drew.below b2 T.out.lt); have B2 := Lib.hid (B1.out.drew.trans b2); have c3 := T2.out.cell 3 (v := .int .i64 last) rfl; have c4 := T2.out.cell 4 (v := .bool false) rfl; have f3 := T2.out.frozen 3; have f4 := T2.out.frozen 4; have z := r2.cell 0 (by simp); rw [show ([x] : List Int).getD 0 0 = x from rfl] at z)
      go_ret2
      exact ⟨rfl, come_end n T2.out B2.out⟩
    · have C1 := fun W h => tell_to w.heap.size 0 2 S (decide (hi < n)) W (by omega) (by omega) (by rw [← hS]; unfold out; simp [d]) h
      have C2 := fun W h => tell_to w.heap.size S 4 x (decide (step < D)) W hSb (by omega) (by rw [hX, hF rfl (hl rfl)]) h
      clear d hS hSb hF hX hl
      go_enter Try.func38, Try.ntmps38
      go_wp2_with (first | (go_at_call 55; (refine (V _).mono ?_; rintro e w' ⟨rfl, rfl⟩)) | (go_at_call 62; refine (C1 _ R0.out).mono ?_; rintro e w1 ⟨rfl, r1, b1⟩))
      have T1 := Lib.hid ((T.out.alloc (.cells #[.int .i64 0] 3)).below b1 T.out.lt)
      have R1 := Lib.hid r1
      have B1 := Lib.hid (B0.out.trans b1)
      have c2 := T1.out.cell 2 (v := .int .i64 step) rfl
      have c3 := T1.out.cell 3 (v := .int .i64 last) rfl
      have c4 := T1.out.cell 4 (v := .bool true) rfl
      clear c0 c1 r1 b1 C1 B0 R0 V
      refine Tail.wp_region_quiet_tail 18 (by kernel_rfl) (by kernel_rfl) ?_
      simp only [List.take_succ_cons, List.take_zero, List.drop_succ_cons, List.drop_zero]
      repeat (first | go_big_quiet_step (fail) | (go_big_quiet_want; go_big_quiet_op; refine ⟨_, (CA _).mono (fun e w' q => ⟨q.1, q.2.symm⟩), ?_⟩; go_big_quiet_on))
      refine wpQuiet_nil ?_
      clear c2 c3 c4 CA
      go_wp2_with (go_at_call 62; refine (C2 _ R1.out.drew).mono ?_; rintro e w2 ⟨rfl, r2, b2⟩; have T2 := Lib.hid (T1.out.drew.below b2 T.out.lt); have B2 := Lib.hid (B1.out.drew.trans b2); have c3 := T2.out.cell 3 (v := .int .i64 last) rfl; have c4 := T2.out.cell 4 (v := .bool true) rfl; have f3 := T2.out.frozen 3; have f4 := T2.out.frozen 4; have z := r2.cell 0 (by simp); rw [show ([x] : List Int).getD 0 0 = x from rfl] at z)
      go_ret2
      exact ⟨rfl, come_end n T2.out B2.out⟩

/-- Whatever comes. -/
theorem come_any (g : Nat) (lo hi step last : Int) (has : Bool) (n : Int) (w : World) (hT : VRow w g 115 (wat lo hi step last has)) (hl : has = true → val last = true) (hs : 0 ≤ step) :
    Calls Try.prog 38 #[.pointer (some ⟨g, 0, none⟩), .int .i64 n] w fun e w' => e = .returned (.tuple #[.int .i64 (ct lo hi step last has n), .int .i64 (ce n)]) ∧ VRow w' g 115 (wat lo hi step (cl last n) (ch has n)) ∧ Only g w w' := by
  cases hn : val n
  · rw [ct_no hn, ce_no hn, cl_no hn, ch_no hn]
    refine (come_no g n w hn).mono ?_
    rintro e w' ⟨rfl, rfl⟩
    exact ⟨rfl, hT, But.refl _ _⟩
  · rw [ct_yes hn, ce_yes hn, cl_yes hn, ch_yes hn]
    exact come_yes g lo hi step last has n w hT hl hs hn
end Jp
end Go.Proofs.Ytmlhmmfgdioclaa

namespace Go.Proofs.Ytmlhmmfgdioclaa
set_option maxRecDepth 100000
open Go.ChangeShapes Go.WideShapes Go.ChangeAt Go.RowKit Go.Deep Go.Shelf
namespace Sk
attribute [local go_sem] Oper.semAt_some
/-- The wide fence asks nothing. -/
theorem asked_wide (P : Program) (o : Oper) (a : Act) (C : World → Prop) : Oper.askedIn Fence.wide P o a C := fun _ _ _ _ => trivial

/-- What the iterator hands over: the vote with that number. -/
def vat (V : List Int) (x : Fin V.length) : Int := V.getD x.val 0
def encv (V : List Int) (x : Fin V.length) : Array Value := #[.int .i64 (vat V x)]
theorem vat_all (V : List Int) (ys : List (Fin V.length)) (h : ys.map Fin.val = List.range V.length) : ys.map (vat V) = V := by
  rw [show ys.map (vat V) = (ys.map Fin.val).map (fun i => V.getD i 0) by rw [List.map_map]; rfl, h]
  apply List.ext_getElem
  · simp
  · intro i h1 h2
    simp at h1
    simp [List.getD_eq_getElem?_getD, h1]
/-- What a round keeps: the iterator's own variable, and the room. -/
def KeepTwo (B g : Nat) (W W' : World) : Prop := W'.heap[B]? = W.heap[B]? ∧ W'.heap[g]? = W.heap[g]?
theorem KeepTwo.refl (B g : Nat) (W : World) : KeepTwo B g W W := ⟨rfl, rfl⟩
theorem KeepTwo.trans {B g : Nat} {X Y Z : World} (h : KeepTwo B g X Y) (k : KeepTwo B g Y Z) : KeepTwo B g X Z := ⟨k.1.trans h.1, k.2.trans h.2⟩
theorem KeepTwo.put {B g : Nat} {w : World} (hB : B < w.heap.size) (hg : g < w.heap.size) (W : World) (l : Nat) (o o' : Obj) (hl : w.heap.size ≤ l) (_ : W.heap[l]? = some o) (_ : o.isCells = false) (_ : o.isWalk = false) : KeepTwo B g W (W.putObj l o') :=
  ⟨World.putObj_heap_other (by omega), World.putObj_heap_other (by omega)⟩
theorem KeepTwo.box {B g : Nat} {W W' : World} {v : Value} (h : KeepTwo B g W W') (hc : W.cell? ⟨B, 0, none⟩ = some v) : W'.cell? ⟨B, 0, none⟩ = some v := (World.cell?_of_block (a := ⟨B, 0, none⟩) h.1).trans hc

theorem places_in (g P : Nat) (w : World) (h2 : P ≤ 15) (hc : w.cell? ⟨g, 0, none⟩ = some (.int .i64 ((P : Int) + 1))) {F : Fence} {n : Nat} (hF : F = Fence.wide) :
    CallsIn F n Try.prog 75 #[.pointer (some ⟨g, 0, none⟩)] w fun e w' => e = .returned (.int .i64 (P : Int)) ∧ w = w' := by
  subst hF
  exact callsIn_wide.2 (places_cell g P w h2 hc)

theorem grown_drewN (W : World) (n : Nat) (row : Option Nat) : W.grownBy (W.drewN n) row := ⟨rfl, rfl, rfl, Nat.le_refl _, fun _ _ _ => rfl⟩

set_option maxRecDepth 100000 in
set_option maxHeartbeats 2000000 in
theorem from1_in (n : Nat) (hn : 1 ≤ n) (l Bs g P : Nat) (bound : Int) (V : List Int) (J Jx : List (Fin V.length) → World → Prop) (B : Nat) (hJ : AbidesFrom B J)
    (hY : ∀ pre x W, J pre W → pre.length < V.length → YieldAt Fence.wide (n - 1) Try.prog l (encv V x) W fun e W' =>
      (e = .returned (.bool true) ∧ J (pre ++ [x]) W' ∧ KeepTwo Bs g W W') ∨ (e = .returned (.bool false) ∧ Jx (pre ++ [x]) W'))
    (W : World) (hBs : W.cell? ⟨Bs, 0, none⟩ = some (.pointer (some ⟨g, 0, none⟩))) (hR : Room W g P bound V) (h0 : J [] W) :
    CallsIn Fence.wide n Try.prog 94 #[.func (.yield l) #[] #[], .pointer (some ⟨Bs, 0, none⟩)] W fun e W' => (∃ v, e = .returned v) ∧
      ((∃ ys : List (Fin V.length), ys.map Fin.val = List.range V.length ∧ J ys W') ∨ (∃ pre, True ∧ Jx pre W')) := by
  have c18 := hR.count
  have hle := hR.le
  have HR := Lib.hid hR
  clear hR
  obtain ⟨N, hN⟩ : ∃ N, N = V.length := ⟨_, rfl⟩
  refine callsIn_of_wp Try.func94 rfl trivial ?_ rfl
  simp only [Try.ntmps94, List.size_toArray, List.length_cons, List.length_nil, Nat.reduceAdd, Nat.reduceSub, Array.replicate_succ, Array.replicate_zero, List.push_toArray, List.append_toArray, List.nil_append, List.cons_append]
  gi_wp2
  gi_loopw [9] (fun i wr => ∃ (k : Nat) (pre : List (Fin V.length)), k ≤ V.length ∧ i = .int .i64 k ∧ pre.map Fin.val = List.range k ∧ J pre wr ∧ KeepTwo Bs g W wr)
    (fun i _ => V.length - (intOf i).toNat)
  case atStart => exact ⟨0, [], Nat.zero_le _, rfl, rfl, h0, KeepTwo.refl _ _ _⟩
  case round =>
    obtain ⟨k, pre, hk, rfl, hpre, hJs, hnx⟩ := hrel
    have hlenp : pre.length = k := by have := congrArg List.length hpre; simpa using this
    by_cases hlt : k < V.length
    · have hbx := hnx.box hBs
      have HR2 := HR.out.block hnx.2
      obtain ⟨ring, next, hr, R⟩ := HR2
      have e0 := (R.cell 0 (by rw [room_len hr.len]; omega) : _ = some (Value.int IntKind.i64 ((P : Int) + 1)))
      have e17 := R.cell 17 (by rw [room_len hr.len]; omega)
      rw [room_next hr.len] at e17
      have e18 := R.cell 18 (by rw [room_len hr.len]; omega)
      rw [room_count hr.len] at e18
      have sl := spot_lt hr.nx hlt hr.le
      have ek := R.cell (2 + spot P next V.length k) (by rw [room_len hr.len]; have := hr.p15; omega)
      rw [room_ring _ (by have := hr.p15; omega) hr.len, hr.at_ k hlt] at ek
      have ST := spot_tmod hr.nx hlt hr.le
      have p15 := hr.p15
      have hnx' := hr.nx
      generalize spot P next V.length k = s at *
      have hki : (k : Int) < (V.length : Int) := by omega
      have s15 : (s : Int) < 15 := by omega
      clear hr R
      have CP := fun (r m : Nat) => (callsIn_wide (n := r)).2 ((places_cell g P (wr.drewN m) p15 e0).mono (fun e w' q => (show e = .returned (.int .i64 (P : Int)) ∧ ∃ m', w' = wr.drewN m' from ⟨q.1, m, q.2.symm⟩)))
      have HY := fun m => hY pre ⟨k, hlt⟩ (wr.drewN m) (hJ _ _ _ none hJs (grown_drewN wr m _) (fun r e => by cases e)) (by omega)
      dsimp only [encv, vat] at HY
      generalize V.getD k 0 = x at *
      gi_wp2
      refine wpIn_region_quiet_lit rfl (by kernel_rfl) (by kernel_rfl) ?_
      repeat (first
        | gi_big_quiet_step (fail)
        | (refine wpQuietIn_step (asked_wide _ _ _ _) (fun K hK => ?_); go_simp; refine ⟨_, fun _ => CP _ _, hK _ ?_⟩; clear hK K))
      refine wpQuietIn_nil ?_
      intro _ hw'
      obtain ⟨nq, hw''⟩ := hw'
      subst hw''
      obtain ⟨fn, tmps, assign, body, hy, hYR⟩ := HY nq
      gi_wp2
      refine hYR.mono ?_
      rintro e W3 (⟨rfl, hJ3, hk3⟩ | ⟨rfl, hJx3⟩)
      · gi_wp2
        go_roundw
        case rel => exact ⟨k + 1, pre ++ [⟨k, hlt⟩], by omega, by simp, by rw [List.map_append, hpre, List.range_succ]; rfl, hJ3, hnx.trans hk3⟩
        case measure => simp [intOf]; omega
      · gi_wp2
        refine bodyPost_ret (results_none rfl _ _ _) rfl ?_
        exact ⟨⟨_, rfl⟩, .inr ⟨_, trivial, hJx3⟩⟩
    · obtain rfl : k = V.length := by omega
      gi_wp2
      go_end0
      exact ⟨⟨_, rfl⟩, .inl ⟨pre, hpre, hJs⟩⟩
/-- The iterator's value keeps its contract in every world that has grown out of this one. -/
theorem from_stops (n : Nat) (hn : 1 ≤ n) (Bs g P : Nat) (bound : Int) (V : List Int) (w : World) (hB : Bs < w.heap.size) (hc : w.cell? ⟨Bs, 0, none⟩ = some (.pointer (some ⟨g, 0, none⟩))) (hR : Room w g P bound V) :
    SeqStopsK Fence.wide n Try.prog 94 #[.pointer (some ⟨Bs, 0, none⟩)] (encv V) (KeepTwo Bs g) (fun ys => ys.map Fin.val = List.range V.length) (fun _ => True) V.length w := fun l J Jx W hW hJ _ hY h0 =>
  from1_in n hn l Bs g P bound V J Jx _ hJ hY W ((hW.cell (p := ⟨Bs, 0, none⟩) hB).trans hc) (hR.below hW hR.lt) h0

/-- fromOldest itself: the room's pointer is laid in a box; the function value has the box. -/
theorem from_any (g : Nat) (w : World) :
    Calls Try.prog 91 #[.pointer (some ⟨g, 0, none⟩)] w fun e w' => e = .returned (.func (.func 94) #[] #[.pointer (some ⟨w.heap.size, 0, none⟩)]) ∧ w' = w.alloc (.cells #[.pointer (some ⟨g, 0, none⟩)] 45) := by
  go_enter Try.func91, Try.ntmps91
  go_wp2
  go_ret
  exact ⟨rfl, rfl⟩
end Sk
end Go.Proofs.Ytmlhmmfgdioclaa
