/-
 What Come of package jump does: its contract by walking the Go text. Conditions: where the watch lies; that a value that came may be one.
 The iterator of package stuck (fromOldest: the votes, the oldest one first): its contract, for every loop body that leaves the iterator's own variable and the room as they are. Conditions: where the room lies.
 What the calls of package order return, for every argument: contracts by walking the Go text. No conditions beyond the numbers' kinds and where the list lies.
 What Votes of package stuck returns: a contract by walking the Go text (a range over the iterator fromOldest). Conditions: where the room lies.
 What Mid, Spread and Without of package order return, for every argument: contracts by walking the Go text. No conditions beyond the numbers' kinds and where the list lies.
 As Flow, for a region whose guarded operations are all carried out: whatever order is drawn, at the end every place holds a thing of its kind. No function of the program is walked here. No conditions beyond those said.
 What Moved of package stuck tells: its contract by walking the Go text. Conditions: where the room lies.
-/
import Derived.Test.YticidhbnljdidaaGreatDoorJJumpWalks3
import Derived.Test.YticidhbnljdidaaGreatDoorTail
import Derived.RangeFuncNested
import Derived.RangeFuncBound
import Derived.RangeFuncCalls
import Derived.RangeFuncLeaves
import Derived.Shelf.Abstract
import Derived.Shelf.RegionOpen
import Derived.OwnWalkIn
import Derived.TacticsInMore
import Derived.LoopNIn
import Derived.LoopIn
import Derived.Test.YticidhbnljdidaaGreatDoorJOpen2
import Derived.Test.YticidhbnljdidaaGreatDoorJAgg8
import Derived.ProofKit
import Derived.OpenShut
import Derived.Handy
import Derived.Deep.LoopGhost
import Derived.Deep.RegionLaw
import Derived.Deep.QuietTactic
import Derived.BigQuiet
import Derived.BigRegion
import Derived.Maps.AppendAt
import Derived.IntWalk
import Derived.Orders
import Derived.OrdersHeld
namespace Go.Proofs.YticidhbnljdidaaGreatDoor
set_option maxRecDepth 100000
open Go.ChangeShapes Go.WideShapes Go.ChangeAt Go.RowKit Go.Deep
namespace Jp
open Fx (ret_bool)
theorem tell_to (g : Nat) (s t x : Int) (b : Bool) (w : World) (hs : 0 ≤ s ∧ s ≤ 1000) (ht : 0 ≤ t ∧ t ≤ 1000) (hx : (s + if b = true then t else 0) = x) (hg : IRow .i64 w g 3 [s]) :
 Calls Tryz.prog 194 #[.int .i64 t,.bool b,.pointer (some ⟨g,0,none⟩)] w fun e w' => e = .returned (.tuple #[]) ∧ IRow .i64 w' g 3 [x] ∧ Below g w w' := hx ▸ tell_any g s t b w hs ht hg
theorem come_end {w w2 : World} {g : Nat} {lo hi step last : Int} {has : Bool} (n : Int) (T : VRow w2 g 266 (wat lo hi step last has)) (b : Below w.heap.size w w2) :
 VRow ((w2.setCell ⟨g,3,none⟩ (.int .i64 n)).setCell ⟨g,4,none⟩ (.bool true)) g 266 (wat lo hi step n true) ∧ Only g w ((w2.setCell ⟨g,3,none⟩ (.int .i64 n)).setCell ⟨g,4,none⟩ (.bool true)) :=
 ⟨(T.set 3 (.int .i64 n)).set 4 (.bool true),((show But (· = g) w w2 from But.of_below b).setCell (p := ⟨g,3,none⟩) (Or.inl rfl) _).setCell (p := ⟨g,4,none⟩) (Or.inl rfl) _⟩
set_option maxHeartbeats 3200000 in
theorem come_yes (g : Nat) (lo hi step last : Int) (has : Bool) (n : Int) (w : World) (hT : VRow w g 266 (wat lo hi step last has)) (hl : has = true → val last = true) (hs : 0 ≤ step) (hn : val n = true) :
 Calls Tryz.prog 159 #[.pointer (some ⟨g,0,none⟩),.int .i64 n] w fun e w' => e = .returned (.tuple #[.int .i64 (trips lo hi step last has n),.int .i64 0]) ∧ VRow w' g 266 (wat lo hi step n true) ∧ Only g w w' := by
 have V := fun W => value_any n W
 rw [hn] at V
 have T := Lib.hid hT
 have c0 := (hT.alloc (.cells #[.int .i64 0] 3)).cell 0 (v := .int .i64 lo) rfl
 have c1 := (hT.alloc (.cells #[.int .i64 0] 3)).cell 1 (v := .int .i64 hi) rfl
 have R0 := Lib.hid (show IRow .i64 (w.alloc (.cells #[.int .i64 0] 3)) w.heap.size 3 [0] from heap_alloc_new w _)
 have B0 := Lib.hid ((Below.refl w.heap.size w).alloc (Nat.le_refl _) (.cells #[.int .i64 0] 3))
 have ng : w.heap.size ≠ g := by have := hT.lt; omega
 obtain ⟨S,hS⟩ : ∃ S,(if out lo hi n = true then (2 : Int) else 0) = S := ⟨_,rfl⟩
 have hSb : 0 ≤ S ∧ S ≤ 1000 := by rw [← hS]; split <;> decide
 have hF := fun (h : has = true) (hL : val last = true) => far_apart hn hL hs
 have hX : trips lo hi step last has n = S + if far step last has n = true then 4 else 0 := by unfold trips; rw [hS]
 generalize trips lo hi step last has n = x at *
 have CA := fun W => Fx.apart_any n last W
 generalize Fx.apart n last = D at *
 clear hT hn hs
 by_cases d : n < lo
 · cases has
   · have C1 := fun W h => tell_to w.heap.size 0 2 S true W (by omega) (by omega) (by rw [← hS]; unfold out; simp [d]) h
     have C2 := fun W h => tell_to w.heap.size S 4 x false W hSb (by omega) (by rw [hX,far_none]) h
     clear hS hSb hF hX hl
     go_enter Tryz.func159,Tryz.ntmps159
     go_wp2_with (first | (go_at_call 154; (refine (V _).mono ?_; rintro e w' ⟨rfl,rfl⟩)) | (go_at_call 194; refine (C1 _ R0.out).mono ?_; rintro e w1 ⟨rfl,r1,b1⟩))
     have T1 := Lib.hid ((T.out.alloc (.cells #[.int .i64 0] 3)).below b1 T.out.lt)
     have R1 := Lib.hid r1
     have B1 := Lib.hid (B0.out.trans b1)
     have c2 := T1.out.cell 2 (v := .int .i64 step) rfl
     have c3 := T1.out.cell 3 (v := .int .i64 last) rfl
     have c4 := T1.out.cell 4 (v := .bool false) rfl
     clear c0 c1 r1 b1 C1 B0 R0 V
     refine Tail.wp_region_quiet_tail 18 (by kernel_rfl) (by kernel_rfl) ?_
     simp only [List.take_succ_cons,List.take_zero,List.drop_succ_cons,List.drop_zero]
     repeat (first | go_big_quiet_step (fail) | (go_big_quiet_want; go_big_quiet_op; refine ⟨_,(CA _).mono (fun e w' q => ⟨q.1,q.2.symm⟩),?_⟩; go_big_quiet_on))
     refine wpQuiet_nil ?_
     clear c2 c3 c4 CA
     go_wp2_with (go_at_call 194; refine (C2 _ R1.out.drew).mono ?_; rintro e w2 ⟨rfl,r2,b2⟩; have T2 := Lib.hid (T1.out.drew.below b2 T.out.lt); have B2 := Lib.hid (B1.out.drew.trans b2); have c3 := T2.out.cell 3 (v := .int .i64 last) rfl; have c4 := T2.out.cell 4 (v := .bool false) rfl; have f3 := T2.out.frozen 3; have f4 := T2.out.frozen 4; have z := r2.cell 0 (by simp); rw [show ([x] : List Int).getD 0 0 = x from rfl] at z)
     go_ret2
     exact ⟨rfl,come_end n T2.out B2.out⟩
   · have C1 := fun W h => tell_to w.heap.size 0 2 S true W (by omega) (by omega) (by rw [← hS]; unfold out; simp [d]) h
     have C2 := fun W h => tell_to w.heap.size S 4 x (decide (step < D)) W hSb (by omega) (by rw [hX,hF rfl (hl rfl)]) h
     clear hS hSb hF hX hl
     go_enter Tryz.func159,Tryz.ntmps159
     go_wp2_with (first | (go_at_call 154; (refine (V _).mono ?_; rintro e w' ⟨rfl,rfl⟩)) | (go_at_call 194; refine (C1 _ R0.out).mono ?_; rintro e w1 ⟨rfl,r1,b1⟩))
     have T1 := Lib.hid ((T.out.alloc (.cells #[.int .i64 0] 3)).below b1 T.out.lt)
     have R1 := Lib.hid r1
     have B1 := Lib.hid (B0.out.trans b1)
     have c2 := T1.out.cell 2 (v := .int .i64 step) rfl
     have c3 := T1.out.cell 3 (v := .int .i64 last) rfl
     have c4 := T1.out.cell 4 (v := .bool true) rfl
     clear c0 c1 r1 b1 C1 B0 R0 V
     refine Tail.wp_region_quiet_tail 18 (by kernel_rfl) (by kernel_rfl) ?_
     simp only [List.take_succ_cons,List.take_zero,List.drop_succ_cons,List.drop_zero]
     repeat (first | go_big_quiet_step (fail) | (go_big_quiet_want; go_big_quiet_op; refine ⟨_,(CA _).mono (fun e w' q => ⟨q.1,q.2.symm⟩),?_⟩; go_big_quiet_on))
     refine wpQuiet_nil ?_
     clear c2 c3 c4 CA
     go_wp2_with (go_at_call 194; refine (C2 _ R1.out.drew).mono ?_; rintro e w2 ⟨rfl,r2,b2⟩; have T2 := Lib.hid (T1.out.drew.below b2 T.out.lt); have B2 := Lib.hid (B1.out.drew.trans b2); have c3 := T2.out.cell 3 (v := .int .i64 last) rfl; have c4 := T2.out.cell 4 (v := .bool true) rfl; have f3 := T2.out.frozen 3; have f4 := T2.out.frozen 4; have z := r2.cell 0 (by simp); rw [show ([x] : List Int).getD 0 0 = x from rfl] at z)
     go_ret2
     exact ⟨rfl,come_end n T2.out B2.out⟩
 · have dd : decide (n < lo) = false := by simpa using d
   cases has
   · have C1 := fun W h => tell_to w.heap.size 0 2 S (decide (hi < n)) W (by omega) (by omega) (by rw [← hS]; unfold out; simp [d]) h
     have C2 := fun W h => tell_to w.heap.size S 4 x false W hSb (by omega) (by rw [hX,far_none]) h
     clear d hS hSb hF hX hl
     go_enter Tryz.func159,Tryz.ntmps159
     go_wp2_with (first | (go_at_call 154; (refine (V _).mono ?_; rintro e w' ⟨rfl,rfl⟩)) | (go_at_call 194; refine (C1 _ R0.out).mono ?_; rintro e w1 ⟨rfl,r1,b1⟩))
     have T1 := Lib.hid ((T.out.alloc (.cells #[.int .i64 0] 3)).below b1 T.out.lt)
     have R1 := Lib.hid r1
     have B1 := Lib.hid (B0.out.trans b1)
     have c2 := T1.out.cell 2 (v := .int .i64 step) rfl
     have c3 := T1.out.cell 3 (v := .int .i64 last) rfl
     have c4 := T1.out.cell 4 (v := .bool false) rfl
     clear c0 c1 r1 b1 C1 B0 R0 V
     refine Tail.wp_region_quiet_tail 18 (by kernel_rfl) (by kernel_rfl) ?_
     simp only [List.take_succ_cons,List.take_zero,List.drop_succ_cons,List.drop_zero]
     repeat (first | go_big_quiet_step (fail) | (go_big_quiet_want; go_big_quiet_op; refine ⟨_,(CA _).mono (fun e w' q => ⟨q.1,q.2.symm⟩),?_⟩; go_big_quiet_on))
     refine wpQuiet_nil ?_
     clear c2 c3 c4 CA
     go_wp2_with (go_at_call 194; refine (C2 _ R1.out.drew).mono ?_; rintro e w2 ⟨rfl,r2,b2⟩; have T2 := Lib.hid (T1.out.drew.below b2 T.out.lt); have B2 := Lib.hid (B1.out.drew.trans b2); have c3 := T2.out.cell 3 (v := .int .i64 last) rfl; have c4 := T2.out.cell 4 (v := .bool false) rfl; have f3 := T2.out.frozen 3; have f4 := T2.out.frozen 4; have z := r2.cell 0 (by simp); rw [show ([x] : List Int).getD 0 0 = x from rfl] at z)
     go_ret2
     exact ⟨rfl,come_end n T2.out B2.out⟩
   · have C1 := fun W h => tell_to w.heap.size 0 2 S (decide (hi < n)) W (by omega) (by omega) (by rw [← hS]; unfold out; simp [d]) h
     have C2 := fun W h => tell_to w.heap.size S 4 x (decide (step < D)) W hSb (by omega) (by rw [hX,hF rfl (hl rfl)]) h
     clear d hS hSb hF hX hl
     go_enter Tryz.func159,Tryz.ntmps159
     go_wp2_with (first | (go_at_call 154; (refine (V _).mono ?_; rintro e w' ⟨rfl,rfl⟩)) | (go_at_call 194; refine (C1 _ R0.out).mono ?_; rintro e w1 ⟨rfl,r1,b1⟩))
     have T1 := Lib.hid ((T.out.alloc (.cells #[.int .i64 0] 3)).below b1 T.out.lt)
     have R1 := Lib.hid r1
     have B1 := Lib.hid (B0.out.trans b1)
     have c2 := T1.out.cell 2 (v := .int .i64 step) rfl
     have c3 := T1.out.cell 3 (v := .int .i64 last) rfl
     have c4 := T1.out.cell 4 (v := .bool true) rfl
     clear c0 c1 r1 b1 C1 B0 R0 V
     refine Tail.wp_region_quiet_tail 18 (by kernel_rfl) (by kernel_rfl) ?_
     simp only [List.take_succ_cons,List.take_zero,List.drop_succ_cons,List.drop_zero]
     repeat (first | go_big_quiet_step (fail) | (go_big_quiet_want; go_big_quiet_op; refine ⟨_,(CA _).mono (fun e w' q => ⟨q.1,q.2.symm⟩),?_⟩; go_big_quiet_on))
     refine wpQuiet_nil ?_
     clear c2 c3 c4 CA
     go_wp2_with (go_at_call 194; refine (C2 _ R1.out.drew).mono ?_; rintro e w2 ⟨rfl,r2,b2⟩; have T2 := Lib.hid (T1.out.drew.below b2 T.out.lt); have B2 := Lib.hid (B1.out.drew.trans b2); have c3 := T2.out.cell 3 (v := .int .i64 last) rfl; have c4 := T2.out.cell 4 (v := .bool true) rfl; have f3 := T2.out.frozen 3; have f4 := T2.out.frozen 4; have z := r2.cell 0 (by simp); rw [show ([x] : List Int).getD 0 0 = x from rfl] at z)
     go_ret2
     exact ⟨rfl,come_end n T2.out B2.out⟩
end Jp
open Go.ChangeShapes Go.WideShapes Go.ChangeAt Go.RowKit Go.Deep Go.Shelf
namespace Sk
attribute [local go_sem] Oper.semAt_some
theorem asked_wide (P : Program) (o : Oper) (a : Act) (C : World → Prop) : Oper.askedIn Fence.wide P o a C := fun _ _ _ _ => trivial
def vat (V : List Int) (x : Fin V.length) : Int := V.getD x.val 0
def encv (V : List Int) (x : Fin V.length) : Array Value := #[.int .i64 (vat V x)]
theorem vat_all (V : List Int) (ys : List (Fin V.length)) (h : ys.map Fin.val = List.range V.length) : ys.map (vat V) = V := by
 rw [show ys.map (vat V) = (ys.map Fin.val).map (fun i => V.getD i 0) by rw [List.map_map]; rfl,h]
 apply List.ext_getElem
 · simp
 · intro i h1 h2
   simp at h1
   simp [List.getD_eq_getElem?_getD,h1]
def KeepTwo (B g : Nat) (W W' : World) : Prop := W'.heap[B]? = W.heap[B]? ∧ W'.heap[g]? = W.heap[g]?
theorem KeepTwo.refl (B g : Nat) (W : World) : KeepTwo B g W W := ⟨rfl,rfl⟩
theorem KeepTwo.trans {B g : Nat} {X Y Z : World} (h : KeepTwo B g X Y) (k : KeepTwo B g Y Z) : KeepTwo B g X Z := ⟨k.1.trans h.1,k.2.trans h.2⟩
theorem KeepTwo.put {B g : Nat} {w : World} (hB : B < w.heap.size) (hg : g < w.heap.size) (W : World) (l : Nat) (o o' : Obj) (hl : w.heap.size ≤ l) (_ : W.heap[l]? = some o) (_ : o.isCells = false) (_ : o.isWalk = false) : KeepTwo B g W (W.putObj l o') :=
 ⟨World.putObj_heap_other (by omega),World.putObj_heap_other (by omega)⟩
theorem KeepTwo.box {B g : Nat} {W W' : World} {v : Value} (h : KeepTwo B g W W') (hc : W.cell? ⟨B,0,none⟩ = some v) : W'.cell? ⟨B,0,none⟩ = some v := (World.cell?_of_block (a := ⟨B,0,none⟩) h.1).trans hc
theorem grown_drewN (W : World) (n : Nat) (row : Option Nat) : W.grownBy (W.drewN n) row := ⟨rfl,rfl,rfl,Nat.le_refl _,fun _ _ _ => rfl⟩
set_option maxRecDepth 100000 in
set_option maxHeartbeats 2000000 in
theorem from1_in (n : Nat) (hn : 1 ≤ n) (l Bs g P : Nat) (bound : Int) (V : List Int) (J Jx : List (Fin V.length) → World → Prop) (B : Nat) (hJ : AbidesFrom B J)
 (hY : ∀ pre x W,J pre W → pre.length < V.length → YieldAt Fence.wide (n - 1) Tryz.prog l (encv V x) W fun e W' =>
  (e = .returned (.bool true) ∧ J (pre ++ [x]) W' ∧ KeepTwo Bs g W W') ∨ (e = .returned (.bool false) ∧ Jx (pre ++ [x]) W'))
 (W : World) (hBs : W.cell? ⟨Bs,0,none⟩ = some (.pointer (some ⟨g,0,none⟩))) (hR : Room W g P bound V) (h0 : J [] W) :
 CallsIn Fence.wide n Tryz.prog 237 #[.func (.yield l) #[] #[],.pointer (some ⟨Bs,0,none⟩)] W fun e W' => (∃ v,e = .returned v) ∧
  ((∃ ys : List (Fin V.length),ys.map Fin.val = List.range V.length ∧ J ys W') ∨ (∃ pre,True ∧ Jx pre W')) := by
 have c18 := hR.count
 have hle := hR.le
 have HR := Lib.hid hR
 clear hR
 obtain ⟨N,hN⟩ : ∃ N,N = V.length := ⟨_,rfl⟩
 refine callsIn_of_wp Tryz.func237 rfl trivial ?_ rfl
 simp only [Tryz.ntmps237,List.size_toArray,List.length_cons,List.length_nil,Nat.reduceAdd,Nat.reduceSub,Array.replicate_succ,Array.replicate_zero,List.push_toArray,List.append_toArray,List.nil_append,List.cons_append]
 gi_wp2
 gi_loopw [9] (fun i wr => ∃ (k : Nat) (pre : List (Fin V.length)),k ≤ V.length ∧ i = .int .i64 k ∧ pre.map Fin.val = List.range k ∧ J pre wr ∧ KeepTwo Bs g W wr)
  (fun i _ => V.length - (intOf i).toNat)
 case atStart => exact ⟨0,[],Nat.zero_le _,rfl,rfl,h0,KeepTwo.refl _ _ _⟩
 case round =>
  obtain ⟨k,pre,hk,rfl,hpre,hJs,hnx⟩ := hrel
  have hlenp : pre.length = k := by have := congrArg List.length hpre; simpa using this
  by_cases hlt : k < V.length
  · have hbx := hnx.box hBs
    have HR2 := HR.out.block hnx.2
    obtain ⟨ring,next,hr,R⟩ := HR2
    have e0 := (R.cell 0 (by rw [room_len hr.len]; omega) : _ = some (Value.int IntKind.i64 ((P : Int) + 1)))
    have e17 := R.cell 17 (by rw [room_len hr.len]; omega)
    rw [room_next hr.len] at e17
    have e18 := R.cell 18 (by rw [room_len hr.len]; omega)
    rw [room_count hr.len] at e18
    have sl := spot_lt hr.nx hlt hr.le
    have ek := R.cell (2 + spot P next V.length k) (by rw [room_len hr.len]; have := hr.p15; omega)
    rw [room_ring _ (by have := hr.p15; omega) hr.len,hr.at_ k hlt] at ek
    have ST := spot_tmod hr.nx hlt hr.le
    have p15 := hr.p15
    have hnx' := hr.nx
    generalize spot P next V.length k = s at *
    have hki : (k : Int) < (V.length : Int) := by omega
    have s15 : (s : Int) < 15 := by omega
    clear hr R
    have CP := fun (r m : Nat) => (callsIn_wide (n := r)).2 ((places_cell g P (wr.drewN m) p15 e0).mono (fun e w' q => (show e = .returned (.int .i64 (P : Int)) ∧ ∃ m',w' = wr.drewN m' from ⟨q.1,m,q.2.symm⟩)))
    have HY := fun m => hY pre ⟨k,hlt⟩ (wr.drewN m) (hJ _ _ _ none hJs (grown_drewN wr m _) (fun r e => by cases e)) (by omega)
    dsimp only [encv,vat] at HY
    generalize V.getD k 0 = x at *
    gi_wp2
    refine wpIn_region_quiet_lit rfl (by kernel_rfl) (by kernel_rfl) ?_
    repeat (first
     | gi_big_quiet_step (fail)
     | (refine wpQuietIn_step (asked_wide _ _ _ _) (fun K hK => ?_); go_simp; refine ⟨_,fun _ => CP _ _,hK _ ?_⟩; clear hK K))
    refine wpQuietIn_nil ?_
    intro _ hw'
    obtain ⟨nq,hw''⟩ := hw'
    subst hw''
    obtain ⟨fn,tmps,assign,body,hy,hYR⟩ := HY nq
    gi_wp2
    refine hYR.mono ?_
    rintro e W3 (⟨rfl,hJ3,hk3⟩ | ⟨rfl,hJx3⟩)
    · gi_wp2
      go_roundw
      case rel => exact ⟨k + 1,pre ++ [⟨k,hlt⟩],by omega,by simp,by rw [List.map_append,hpre,List.range_succ]; rfl,hJ3,hnx.trans hk3⟩
      case measure => simp [intOf]; omega
    · gi_wp2
      refine bodyPost_ret (results_none rfl _ _ _) rfl ?_
      exact ⟨⟨_,rfl⟩,.inr ⟨_,trivial,hJx3⟩⟩
  · obtain rfl : k = V.length := by omega
    gi_wp2
    go_end0
    exact ⟨⟨_,rfl⟩,.inl ⟨pre,hpre,hJs⟩⟩
theorem from_stops (n : Nat) (hn : 1 ≤ n) (Bs g P : Nat) (bound : Int) (V : List Int) (w : World) (hB : Bs < w.heap.size) (hc : w.cell? ⟨Bs,0,none⟩ = some (.pointer (some ⟨g,0,none⟩))) (hR : Room w g P bound V) :
 SeqStopsK Fence.wide n Tryz.prog 237 #[.pointer (some ⟨Bs,0,none⟩)] (encv V) (KeepTwo Bs g) (fun ys => ys.map Fin.val = List.range V.length) (fun _ => True) V.length w := fun l J Jx W hW hJ _ hY h0 =>
 from1_in n hn l Bs g P bound V J Jx _ hJ hY W ((hW.cell (p := ⟨Bs,0,none⟩) hB).trans hc) (hR.below hW hR.lt) h0
theorem from_any (g : Nat) (w : World) :
 Calls Tryz.prog 231 #[.pointer (some ⟨g,0,none⟩)] w fun e w' => e = .returned (.func (.func 237) #[] #[.pointer (some ⟨w.heap.size,0,none⟩)]) ∧ w' = w.alloc (.cells #[.pointer (some ⟨g,0,none⟩)] 171) := by
 go_enter Tryz.func231,Tryz.ntmps231
 go_wp2
 go_ret
 exact ⟨rfl,rfl⟩
end Sk
namespace Od
open Fx
theorem intInfo : (Tryz.prog.info? 3).map (fun i => (i.zero,i.size,i.bytes)) = some (some (.int .i64 0),1,8) := by kernel_rfl
theorem intSize : (Tryz.prog.info? 3).map (·.size) = some 1 := by kernel_rfl
theorem all_not (l : List Int) (k : Nat) (h : k < l.length) (e : ¬ (-1099511627776 ≤ l.getD k 0 ∧ l.getD k 0 ≤ 1099511627776)) : ok l = false := by
 rw [ok_false]
 intro ⟨_,ha⟩
 rw [List.all_eq_true] at ha
 have := ha l[k] (List.getElem_mem h)
 rw [getD_at l k h] at e
 exact e ((sm_iff _).1 this)
theorem all_step (l : List Int) (k : Nat) (h : k < l.length) (h0 : (l.take k).all sm = true) (e : -1099511627776 ≤ l.getD k 0 ∧ l.getD k 0 ≤ 1099511627776) : (l.take (k + 1)).all sm = true := by
 rw [take_snoc l k h,List.all_append,h0]; simpa [sm] using e
set_option maxHeartbeats 400000 in
theorem told_any (a : Option Addr) (cap : Nat) (l : List Int) (w : World) (hl : l.length ≤ 9223372036854775807) (hb : IntsAt .i64 w a l) :
 Calls Tryz.prog 220 #[.slice a l.length cap] w fun e w' => e = .returned (.bool (ok l)) ∧ w = w' := by
 by_cases h16 : 16 < l.length
 · have HF := Lib.hid ((ok_false l).2 (by omega))
   go_enter Tryz.func220,Tryz.ntmps220
   go_wp2
   go_ret
   exact ⟨ret_bool HF.out.symm,rfl⟩
 · have HB := Lib.hid hb
   clear hb
   go_enter Tryz.func220,Tryz.ntmps220
   go_wp2
   go_loop [10] (fun i => ∃ k : Nat,k ≤ l.length ∧ i = .int .i64 k ∧ (l.take k).all sm = true) (fun i => l.length - (intOf i).toNat)
   case atStart => exact ⟨0,by omega,rfl,rfl⟩
   case round =>
    obtain ⟨k,hk,rfl,hall⟩ := hrel
    have HA := Lib.hid hall
    clear hall
    by_cases hlt : k < l.length
    · rcases HB.out with hnil | ⟨b,off,rfl,hc⟩
      · rw [hnil] at hlt; simp at hlt
      have hcell := hc k hlt
      clear hc
      have HT := Lib.hid (all_step l k hlt HA.out)
      have HN := Lib.hid (all_not l k hlt)
      generalize l.getD k 0 = x at *
      by_cases h1 : x < -1099511627776
      · go_wp2
        go_ret
        exact ⟨ret_bool (by rw [HN.out (by omega)]),rfl⟩
      · have d1 : decide (x < -1099511627776) = false := by simpa using h1
        by_cases h2 : 1099511627776 < x
        · go_wp2
          go_ret
          exact ⟨ret_bool (by rw [HN.out (by omega)]),rfl⟩
        · have d2 : decide (1099511627776 < x) = false := by simpa using h2
          go_wp2
          go_round
          case rel => exact ⟨k + 1,by omega,by go_num,HT.out (by omega)⟩
          case measure => simp [intOf]; omega
    · have : k = l.length := by omega
      subst this
      go_wp2
      go_ret
      exact ⟨ret_bool (by have := HA.out; rw [List.take_of_length_le (Nat.le_refl _)] at this; exact ((ok_iff l).2 ⟨by omega,this⟩).symm),rfl⟩
theorem swapped {w : World} {g : Nat} {t : TypeId} {c : List Int} {k : Nat} (h : IRow .i64 w g t c) :
 IRow .i64 ((w.setCell ⟨g,k - 1,none⟩ (.int .i64 (c.getD k 0))).setCell ⟨g,k,none⟩ (.int .i64 (c.getD (k - 1) 0))) g t (swap c k) := (h.set (k - 1) _).set k _
set_option maxHeartbeats 800000 in
theorem sort_any (a : Option Addr) (cap : Nat) (l : List Int) (w : World) (hl : l.length ≤ 9223372036854775807) (hb : IntsAt .i64 w a l) :
 Calls Tryz.prog 197 #[.slice a l.length cap] w (RetI .i64 w (osort l)) := by
 cases hok : ok l
 · have HF := Lib.hid (show osort l = [] by unfold osort; rw [hok]; rfl)
   go_enter Tryz.func197,Tryz.ntmps197
   go_wp2
   go_step3
   go_wp2_with (first | (go_at_call 220; refine (told_any _ _ _ _ hl hb).mono ?_; rintro e w' ⟨rfl,rfl⟩))
   rw [Exit.noGoto_ret]
   go_ret
   exact retI_nil HF.out (Below.refl _ _)
 · have HF := Lib.hid (show osort l = srt l by unfold osort; rw [if_pos hok])
   have h16 := ok_len hok
   have HB := Lib.hid hb
   obtain ⟨i0,hi0,hz0,hz1,hz2⟩ := info_parts intInfo
   go_enter Tryz.func197,Tryz.ntmps197
   go_wp2
   go_step3
   go_wp2_with (first
    | (go_at_call 220; refine (told_any _ _ _ _ hl hb).mono ?_; rintro e w' ⟨rfl,rfl⟩)
    | (at_make; refine wpList_make_full _ rfl _ _ _ rfl w.heap.size 3 i0 (.int .i64 0) 1 Tryz.underlying144 hi0 hz0 hz1 .i64 .i64 _ _ l.length rfl rfl rfl rfl (by rw [hz2]; omega) (by unfold maxLen; omega) (Nat.le_refl _) ?_; intro w1 own1 grown1
       have R1 := Lib.hid (IRow.of_own own1 (zeros_cellsI _)); have B1 := Lib.hid ((Below.refl w.heap.size w).grown grown1 (Nat.le_refl _) (by simp)); clear own1 grown1)
    | (refine wpList_copyI (o := ⟨some 13,_,_,_,_,_⟩) rfl (.tmp 11) (.tmp 12) _ rfl 3 Tryz.underlying144 intSize .i64 w.heap.size 0 (List.replicate l.length 0) l 3 _ _ _ _ _ _ rfl rfl R1.out (by simp) (fun _ => rfl) (HB.out.below B1.out) (by simp) w.heap.size w B1.out (Nat.le_refl _) ?_
       intro w2 R2' B2'; have R2 := Lib.hid (show IRow _ _ _ _ l from (splice_whole (List.replicate l.length 0) l (by simp)) ▸ R2'.out); have B2 := Lib.hid B2'; clear R2' B2'))
   clear hb
   go_simp
   go_step3
   go_wp2
   go_loopg [4] (inv l) (fun g _ wr => ∃ c : List Int,c.Perm l ∧ inv c ≤ g ∧ Hid (IRow .i64 wr w.heap.size 3 c) ∧ Hid (Below w.heap.size w wr))
   case atStart => exact ⟨l,List.Perm.refl _,Nat.le_refl _,R2,B2⟩
   case round =>
    obtain ⟨c,hp,hg,R3,B3⟩ := hrel
    have hcl := hp.length_eq
    have HL := Lib.hid hcl
    have hl1 : c.length ≤ l.length := by omega
    have hl2 : l.length ≤ c.length := by omega
    clear hcl
    go_wp2
    go_loopg [4] l.length (fun gg s4 wx => ∃ j : Nat,s4 = .int .i64 ((j : Int) + 1) ∧ j + gg = l.length ∧ Hid (Up (c.take (j + 1))) ∧ Hid (IRow .i64 wx w.heap.size 3 c) ∧ Hid (Below w.heap.size w wx))
    case atStart => exact ⟨0,rfl,by omega,Lib.hid (up_one c),R3,B3⟩
    case round =>
     obtain ⟨j,rfl,hjg,U4,R4,B4⟩ := hrel
     have hj1 : j ≤ l.length := by omega
     by_cases hlt : j + 1 < l.length
     · have hc1 := R4.out.cell j (by omega)
       have hc2 := R4.out.cell (j + 1) (by omega)
       have hf1 := R4.out.frozen j
       have hf2 := R4.out.frozen (j + 1)
       have HS := Lib.hid (swap_inv c (j + 1) (by omega) (by omega))
       have HP := Lib.hid (swap_perm c (j + 1) (by omega) (by omega))
       have HW := Lib.hid (swapped R4.out (k := j + 1))
       have HU := Lib.hid (up_take c (j + 1) (by omega) (by omega) U4.out)
       simp only [Nat.add_sub_cancel] at HS HP HW HU
       generalize c.getD j 0 = x at *
       generalize c.getD (j + 1) 0 = y at *
       have hi1 : (j : Int) + 1 < (l.length : Int) := by omega
       have hjl : (j : Int) < (l.length : Int) := by omega
       by_cases hxy : y < x
       · have d1 : decide (y < x) = true := by simpa using hxy
         go_wp2
         go_quiet (fail)
         go_wp2
         go_region
         go_wp2
         go_roundg (inv (swap c (j + 1)))
         case rel => exact ⟨swap c (j + 1),HP.out.trans hp,Nat.le_refl _,HW.out,((below_drewN B4.out _).setCell (Nat.le_refl _) _).setCell (Nat.le_refl _) _⟩
         case measure => have := HS.out hxy; omega
       · have d1 : decide (y < x) = false := by simpa using hxy
         go_wp2
         go_quiet (fail)
         go_wp2
         go_roundg (gk - 1)
         case rel => exact ⟨j + 1,by go_num,by omega,Lib.hid (HU.out (by omega)),R4.out.drewN _,below_drewN B4.out _⟩
         case measure => omega
     · go_wp2
       rw [Exit.noGoto_ret]
       go_ret
       exact retI_mk (srt_of hp (by have := U4.out; rwa [List.take_of_length_le (by omega)] at this) |>.trans HF.out.symm) (by omega) R4.out.ints B4.out
end Od
namespace Sk
attribute [local go_sem] Oper.semAt_some
theorem box_kept {W w1 : World} {n₀ B Bs size k : Nat} {t e : TypeId} {u v v' : Value} {xs : List Value} {tmp : Obj} (hBs : Boxed W Bs t u) (ht : t ≠ e) (hrow : W.ownsRow n₀ e size v k xs) (hgrow : (W.alloc tmp).grownBy w1 v.ownBlock) (ne : Bs ≠ B) :
 Boxed (w1.setCell ⟨B,0,none⟩ v') Bs t u :=
 (heap_setCell_other w1 ⟨B,0,none⟩ Bs v' ne).trans ((hBs.alloc tmp).kept hgrow (hBs.not_row ht hrow))
set_option maxRecDepth 100000 in
set_option maxHeartbeats 2000000 in
theorem votes_any (g P : Nat) (bound : Int) (V : List Int) (w : World) (hR : Room w g P bound V) :
 Calls Tryz.prog 219 #[.pointer (some ⟨g,0,none⟩)] w (RetI .i64 w V) := by
 have hle := hR.le
 have hlt := hR.lt
 have HR := Lib.hid hR
 clear hR
 obtain ⟨i0,hi0,hz0,hz1,hz2⟩ := info_parts Od.intInfo
 refine (callsIn_wide (n := 5)).1 ?_
 refine callsIn_of_wp_marks Tryz.func219 rfl trivial ?_ rfl
 simp only [Tryz.ntmps219,List.size_toArray,List.length_cons,List.length_nil,Nat.reduceAdd,Nat.reduceSub,Array.replicate_succ,Array.replicate_zero,List.push_toArray,List.append_toArray,List.nil_append,List.cons_append]
 gi_wp2_with (refine ⟨trivial,?_⟩; gi_at_call 231; refine (callsIn_wide.2 (from_any _ _)).mono ?_; rintro e w2 ⟨rfl,rfl⟩)
 have bL := (Boxed.new w 144 (.slice none 0 0)).alloc (.cells #[.pointer (some ⟨g,0,none⟩)] 171)
 have bS := Boxed.new (w.alloc (.cells #[.slice none 0 0] 144)) 171 (.pointer (some ⟨g,0,none⟩))
 rw [World.size_alloc] at bS
 have hR0 := (HR.out.alloc (.cells #[.slice none 0 0] 144)).alloc (.cells #[.pointer (some ⟨g,0,none⟩)] 171)
 have hB0 := ((Below.refl w.heap.size w).alloc (Nat.le_refl _) (.cells #[.slice none 0 0] 144)).alloc (by simp) (.cells #[.pointer (some ⟨g,0,none⟩)] 171)
 have hsz : ((w.alloc (.cells #[.slice none 0 0] 144)).alloc (.cells #[.pointer (some ⟨g,0,none⟩)] 171)).heap.size = w.heap.size + 2 := by simp
 generalize (w.alloc (.cells #[.slice none 0 0] 144)).alloc (.cells #[.pointer (some ⟨g,0,none⟩)] 171) = W0 at *
 refine wpIn_rangeFunc_ownG rfl (by omega) (gf := 237) (lb := #[.pointer (some ⟨w.heap.size + 1,0,none⟩)]) rfl trivial (enters_of Tryz.func237 (by kernel_rfl) rfl)
  (from_stops _ (by omega) (w.heap.size + 1) g P bound V W0 (by omega) bS.cell hR0) KeepTwo.trans (KeepTwo.put (by omega) (by omega)) (Below.refl _ _) (fun _ => rfl)
  (fun pre W => ((∃ v,Boxed W w.heap.size 144 v ∧ W.ownsRow w.heap.size 3 1 v (pre.map (vat V)).length (cellsI .i64 (pre.map (vat V))) ∧ True) ∧ Boxed W (w.heap.size + 1) 171 (.pointer (some ⟨g,0,none⟩))) ∧ Below w.heap.size w W)
  (fun _ _ _ => False)
  (OwnFrom.and (OwnFrom.and (Own.from (holdsRow_own w.heap.size w.heap.size 144 3 1 (fun pre : List (Fin V.length) => (pre.map (vat V)).length) (fun pre => cellsI .i64 (pre.map (vat V))) (fun _ _ => True)) _) (Own.from (boxed_own _ _ _) _)) (ownFrom_below (Nat.le_refl _) (by omega)))
  (fun _ _ _ _ _ hs _ _ => hs)
  ⟨⟨⟨_,bL,World.ownsRow_nil _ _ _ _,trivial⟩,bS⟩,hB0⟩
  (fun x => { tmps := #[.pointer (some ⟨g,0,none⟩),undef,.slice none 0 0,.pointer (some ⟨w.heap.size,0,none⟩),.int .i64 (vat V x),.pointer (some ⟨g,0,none⟩),.bool false,.pointer (some ⟨g,0,none⟩),.func (.func 237) #[] #[.pointer (some ⟨w.heap.size + 1,0,none⟩)],.int .i64 (vat V x),undef,undef,undef,undef,undef],defers := [] }) ?assign ?body ?done ?stop
 case assign =>
  intro l x W K hK
  dsimp only [encv]
  gi_wp2
  exact hK
 case body =>
  rintro lp pre x W ⟨⟨⟨v,hbx,hrow,_⟩,hBs⟩,hB⟩ hpl
  have HM := Lib.hid (show (pre ++ [x]).map (vat V) = pre.map (vat V) ++ [vat V x] by simp)
  have hl15 : (pre.map (vat V)).length ≤ 15 := by rw [List.length_map]; omega
  generalize vat V x = y at *
  generalize pre.map (vat V) = ls at *
  have hbc := hbx.cell
  gi_wp2_with (gi_at_builtin; (refine wpListIn_append_own _ rfl _ _ 144 rfl w.heap.size 3 i0 (.int .i64 0) 1 8 Tryz.underlying144 hi0 hz0 hz1 hz2 rfl (by decide) _ _ _ rfl (hrow.alloc _) ⟨W.heap.size,0,none⟩ 1 1 [.int .i64 y] rfl rfl (cell_one_new _ _ _) (by simp [Value.oneCell']) (by unfold maxLen; omega) (by omega) (by have := hB.size; simp; omega) ?_; intro v' w1 hown' hgrow _; obtain ⟨g',cap',rfl⟩ := ownsRow_succ hown'; obtain ⟨hv1,hv2,hr2,hk2,hb2⟩ := hbx.appended (by decide) hrow hB.size (Nat.le_refl _) hown' hgrow; have hs2 := box_kept (B := w.heap.size) (v' := (.slice (some ⟨g',0,none⟩) (ls.length + 1) cap')) hBs (by decide) hrow hgrow (by omega); have hc1 := hv1.cell; have hf1 := hv1.frozen))
  refine ⟨hk2.from _,⟨hs2.trans hBs.symm,hb2.block g hlt⟩,⟨⟨_,hv2,?_,trivial⟩,hs2⟩,hB.trans hb2⟩
  rw [HM.out,cellsI_app,List.length_append]
  exact hr2
 case done =>
  rintro D ys W hD hys ⟨⟨⟨v,hbx,hrow,_⟩,hBs⟩,hB⟩ hK
  have hrow2 := ownsRow_putObj hrow (.deferred none) hK rfl
  rw [vat_all V ys hys] at hrow hrow2
  obtain ⟨a,cap,rfl,_⟩ := OwnI.form (show OwnI .i64 _ _ _ v V from hrow)
  obtain ⟨a',cap',he,hi⟩ := OwnI.form (show OwnI .i64 _ _ _ _ V from hrow2)
  cases he
  have hbc := hbx.cell
  gi_wp2
  refine ⟨by simp,.inl ⟨_,_,rfl,run_takeDeferred hK,?_⟩⟩
  refine ⟨_,results_tmp rfl _ _ _,?_⟩
  exact retI_mk rfl rfl hi (hB.trans (belowK_b (w := w) (Nat.le_refl _) W D _ _ (by omega) hK rfl rfl))
 case stop =>
  rintro D c pre W _ _ h _
  exact h.elim
end Sk
namespace Od
open Fx
set_option maxHeartbeats 1000000 in
theorem mid_any (a : Option Addr) (cap : Nat) (l : List Int) (w : World) (hl : l.length ≤ 9223372036854775807) (hb : IntsAt .i64 w a l) :
 Calls Tryz.prog 162 #[.slice a l.length cap] w fun e w' => e = .returned (.tuple #[.int .i64 (midv l),.bool (midb l)]) ∧ Below w.heap.size w w' := by
 by_cases h4 : 4 < l.length
 · have HF := Lib.hid (midb_no (l := l) (Or.inr (Or.inr h4)))
   go_enter Tryz.func162,Tryz.ntmps162
   go_wp2
   go_ret2
   exact ⟨ret_mid (midv_no HF.out).symm HF.out.symm,Below.refl _ _⟩
 · obtain ⟨s,hs⟩ : ∃ s,osort l = s := ⟨_,rfl⟩
   by_cases hn : ok l = true ∧ 1 ≤ l.length
   · obtain ⟨hok,h1⟩ := hn
     have HV := Lib.hid (midv_yes hok h1 (by omega) hs)
     have HM := Lib.hid (midb_yes hok h1 (by omega))
     have hlen := osort_len_ok hok
     have hsm := fun x (hx : x ∈ s) => osort_sm hok hs hx
     rw [hs] at hlen
     have C := sort_any a cap l w hl hb
     rw [hs] at C
     clear hs
     rcases four (s := s) (by omega) (by omega) with ⟨x,rfl⟩ | ⟨x,y,rfl⟩ | ⟨x,y,z,rfl⟩ | ⟨x,y,z,u,rfl⟩
     · have q0 := hsm x (by simp)
       clear hsm hlen
       go_enter Tryz.func162,Tryz.ntmps162
       go_wp2_with fail
       refine C.mono ?_; rintro e w1 ⟨a1,c1,rfl,i1,b1⟩
       rcases i1 with hno | ⟨b,off,rfl,hc⟩
       · cases hno
       have c0 : w1.cell? ⟨b,off,none⟩ = some (.int .i64 x) := hc 0 (by simp)
       clear hc
       go_wp2
       go_quiet (fail)
       go_wp2
       go_ret2
       exact ⟨ret_mid (by rw [HV.out]; simp [midOf]; try omega) HM.out.symm,below_drewN b1 _⟩
     · have q0 := hsm x (by simp)
       have q1 := hsm y (by simp)
       clear hsm hlen
       go_enter Tryz.func162,Tryz.ntmps162
       go_wp2_with fail
       refine C.mono ?_; rintro e w1 ⟨a1,c1,rfl,i1,b1⟩
       rcases i1 with hno | ⟨b,off,rfl,hc⟩
       · cases hno
       have c0 : w1.cell? ⟨b,off,none⟩ = some (.int .i64 x) := hc 0 (by simp)
       have c1 : w1.cell? ⟨b,off + 1,none⟩ = some (.int .i64 y) := hc 1 (by simp)
       clear hc
       go_wp2
       go_quiet (fail)
       go_wp2
       go_ret2
       exact ⟨ret_mid (by rw [HV.out]; simp [midOf]; try omega) HM.out.symm,below_drewN b1 _⟩
     · have q0 := hsm x (by simp)
       have q1 := hsm y (by simp)
       have q2 := hsm z (by simp)
       clear hsm hlen
       go_enter Tryz.func162,Tryz.ntmps162
       go_wp2_with fail
       refine C.mono ?_; rintro e w1 ⟨a1,c1,rfl,i1,b1⟩
       rcases i1 with hno | ⟨b,off,rfl,hc⟩
       · cases hno
       have c1 : w1.cell? ⟨b,off + 1,none⟩ = some (.int .i64 y) := hc 1 (by simp)
       clear hc
       go_wp2
       go_quiet (fail)
       go_wp2
       go_ret2
       exact ⟨ret_mid (by rw [HV.out]; simp [midOf]; try omega) HM.out.symm,below_drewN b1 _⟩
     · have q0 := hsm x (by simp)
       have q1 := hsm y (by simp)
       have q2 := hsm z (by simp)
       clear hsm hlen
       go_enter Tryz.func162,Tryz.ntmps162
       go_wp2_with fail
       refine C.mono ?_; rintro e w1 ⟨a1,c1,rfl,i1,b1⟩
       rcases i1 with hno | ⟨b,off,rfl,hc⟩
       · cases hno
       have c1 : w1.cell? ⟨b,off + 1,none⟩ = some (.int .i64 y) := hc 1 (by simp)
       have c2 : w1.cell? ⟨b,off + 2,none⟩ = some (.int .i64 z) := hc 2 (by simp)
       clear hc
       go_wp2
       go_quiet (fail)
       go_wp2
       go_ret2
       exact ⟨ret_mid (by rw [HV.out]; simp [midOf]; try omega) HM.out.symm,below_drewN b1 _⟩
   · have HF := Lib.hid (midb_no (l := l) (by cases h : ok l; exact Or.inl rfl; exact Or.inr (Or.inl (by simp [h] at hn; simp [hn]))))
     have C := sort_any a cap l w hl hb
     have hnil : osort l = [] := by
      unfold osort
      split
      · rename_i h; apply List.eq_nil_of_length_eq_zero; rw [srt_len]; have : ¬ 1 ≤ l.length := fun h1 => hn ⟨h,h1⟩; omega
      · rfl
     rw [hnil] at C
     clear hnil hs
     go_enter Tryz.func162,Tryz.ntmps162
     go_wp2_with fail
     refine C.mono ?_; rintro e w1 ⟨a1,c1,rfl,i1,b1⟩
     go_wp2
     go_ret2
     exact ⟨ret_mid (midv_no HF.out).symm HF.out.symm,b1⟩
set_option maxHeartbeats 400000 in
theorem spread_any (a : Option Addr) (cap : Nat) (l : List Int) (w : World) (hl : l.length ≤ 9223372036854775807) (hb : IntsAt .i64 w a l) :
 Calls Tryz.prog 218 #[.slice a l.length cap] w fun e w' => e = .returned (.int .i64 (spread l)) ∧ Below w.heap.size w w' := by
 have C := sort_any a cap l w hl hb
 by_cases h1 : 1 ≤ (osort l).length
 · obtain ⟨hok,hv⟩ := spread_yes h1
   have hlen := osort_len_ok hok
   have h16 := ok_len hok
   have q0 := osort_sm hok rfl (show (osort l).getD 0 0 ∈ osort l by rw [getD_at _ _ h1]; exact List.getElem_mem _)
   have q1 := osort_sm hok rfl (show (osort l).getD ((osort l).length - 1) 0 ∈ osort l by rw [getD_at _ _ (by omega)]; exact List.getElem_mem _)
   unfold spreadOf at hv
   have HV := Lib.hid hv
   clear hv
   have hs16 : (osort l).length ≤ 16 := by omega
   clear hlen
   generalize osort l = s at *
   go_enter Tryz.func218,Tryz.ntmps218
   go_wp2_with fail
   refine C.mono ?_; rintro e w1 ⟨a1,c1,rfl,i1,b1⟩
   rcases i1 with hno | ⟨b,off,rfl,hc⟩
   · subst hno; simp at h1
   obtain ⟨m,hm⟩ : ∃ m,s.length = m + 1 := ⟨s.length - 1,by omega⟩
   have m15 : m ≤ 15 := by omega
   have c0 := hc 0 (by omega)
   have c9 := hc m (by omega)
   clear hc hs16 h1
   rw [hm] at HV q1 ⊢
   simp only [Nat.add_sub_cancel,Nat.add_zero] at c0 HV q1
   clear hm
   generalize s.getD 0 0 = x at *
   generalize s.getD m 0 = y at *
   have wm : IntKind.i64.wrap (m : Int) = m := IntWalk.i64_in _ (by omega)
   have m1 : (m : Int) < ((m + 1 : Nat) : Int) := by omega
   have m2 : (m : Int) < (m : Int) + 1 := by omega
   have m3 : 0 ≤ (m : Int) := by omega
   go_wp2
   go_quiet (fail)
   go_wp2
   go_ret
   exact ⟨ret_int HV.out.symm,below_drewN b1 _⟩
 · have hnil : osort l = [] := List.eq_nil_of_length_eq_zero (by omega)
   have HF := Lib.hid (spread_no hnil)
   rw [hnil] at C
   clear hnil
   go_enter Tryz.func218,Tryz.ntmps218
   go_wp2_with fail
   refine C.mono ?_; rintro e w1 ⟨a1,c1,rfl,i1,b1⟩
   go_wp2
   go_ret
   exact ⟨ret_int HF.out.symm,b1⟩
end Od
namespace FlowG
def looks (o : Oper) : List Tmp := o.op.operands.toList.filterMap fun | .tmp t => some t | _ => none
def fits (ops : Array Oper) (init : List Tmp) (n i : Nat) (o : Oper) : Bool :=
 (match o.guard with | none => true | some (j,_) => o.after.any fun e => Region.binds .any e && e.on == j) && (match o.dst with | some d => decide (d < n) && !init.contains d | none => false) &&
 ((looks o).all fun t => init.contains t || o.after.any fun e => Region.binds .any e && ((ops[e.on]?).bind (·.dst) == some t)) &&
 (o.after.all fun e => !Region.binds .any e || decide (e.on < i))
def flowB (ops : Array Oper) (init : List Tmp) (n : Nat) : Bool :=
 (ops.toList.zipIdx.all fun q => fits ops init n q.2 q.1) && decide ((ops.toList.map (·.dst)).Nodup)
section
variable {P : Program} {Q : Exit → Act → World → Prop} {ops : Array Oper}
def Step (P : Program) (Val : Tmp → Value → World → Prop) (Q : Exit → Act → World → Prop) (o : Oper) : Prop :=
 ∀ a w,(∀ t ∈ looks o,Val t (a.tmps.getD t undef) w) → o.wp P a w (fun a' w' => ∃ v,a' = a.put o.dst v ∧ Below w.heap.size w w' ∧ ∀ d,o.dst = some d → Val d v w') Q
def Guards (ops : Array Oper) (Val : Tmp → Value → World → Prop) : Prop :=
 ∀ o ∈ ops.toList,∀ j b,o.guard = some (j,b) → ∃ p d,ops[j]? = some p ∧ p.dst = some d ∧ ∀ v w,Val d v w → v = .bool b
structure Inv (ops : Array Oper) (Val : Tmp → Value → World → Prop) (init : List Tmp) (n : Nat) (w0 : World) (a0 : Act) (listed : Array Bool) (a : Act) (w : World) : Prop where
 size : listed.size = ops.size
 frame : a.tmps.size = n
 defers : a.defers = a0.defers
 below : Below w0.heap.size w0 w
 start : ∀ t ∈ init,Val t (a.tmps.getD t undef) w
 old : ∀ t,(∀ (i : Nat) o,ops[i]? = some o → o.dst ≠ some t) → a.tmps.getD t undef = a0.tmps.getD t undef
 vals : ∀ (i : Nat) o d,ops[i]? = some o → listed.getD i true = true → o.dst = some d → Val d (a.tmps.getD d undef) w
theorem flow_at {init : List Tmp} {n : Nat} (hB : flowB ops init n = true) {i : Nat} {o : Oper} (hi : ops[i]? = some o) : fits ops init n i o = true := by
 unfold flowB at hB
 rw [Bool.and_eq_true] at hB
 refine List.all_eq_true.1 hB.1 (o,i) ?_
 rw [List.mem_zipIdx_iff_getElem?]
 simpa using hi
theorem flow_dst {init : List Tmp} {n : Nat} (hB : flowB ops init n = true) {i : Nat} {o : Oper} (hi : ops[i]? = some o) : ∃ d,o.dst = some d ∧ d < n ∧ d ∉ init := by
 have h := flow_at hB hi
 unfold fits at h
 simp only [Bool.and_eq_true] at h
 obtain ⟨⟨⟨h1,h2⟩,_⟩,_⟩ := h
 cases hd : o.dst with
 | none => simp [hd] at h2
 | some d => simp [hd] at h2; exact ⟨d,rfl,h2.1,h2.2⟩
theorem flow_one {init : List Tmp} {n : Nat} (hB : flowB ops init n = true) {i j : Nat} {o p : Oper} (hi : ops[i]? = some o) (hj : ops[j]? = some p) (h : o.dst = p.dst) : i = j := by
 unfold flowB at hB
 rw [Bool.and_eq_true] at hB
 have hn : (ops.toList.map (·.dst)).Nodup := of_decide_eq_true hB.2
 have hi' : i < ops.size := by
  rcases Nat.lt_or_ge i ops.size with q | q
  · exact q
  · rw [Array.getElem?_eq_none q] at hi; cases hi
 exact (List.getElem?_inj (l := ops.toList.map (·.dst)) (by simpa using hi') hn).1 (by simp [hi,hj,h])
theorem all_listed {init : List Tmp} {n : Nat} (hB : flowB ops init n = true) {listed : Array Bool} (hs : listed.size = ops.size) (hr : Region.ready .any ops listed = []) :
 ∀ i,i < ops.size → listed.getD i true = true := by
 intro i
 induction i using Nat.strongRecOn with
 | _ i ih =>
   intro hi
   cases hl : listed.getD i true with
   | true => rfl
   | false =>
     have hm : i ∈ Region.ready .any ops listed := mem_ready.2 ⟨hl,ops[i],by simp [hi],fun e he hb => by
      have h := flow_at hB (i := i) (o := ops[i]) (by simp [hi])
      unfold fits at h
      simp only [Bool.and_eq_true] at h
      have := Array.all_eq_true_iff_forall_mem.1 h.2 e he
      simp [hb] at this
      have q := ih e.on this (by omega)
      have hlt : e.on < listed.size := by omega
      simpa [hlt] using q⟩
     rw [hr] at hm; cases hm
theorem step_inv {Val : Tmp → Value → World → Prop} {init : List Tmp} {n : Nat} {w0 : World} {a0 : Act} (hB : flowB ops init n = true)
 (hst : ∀ t v w w',Val t v w → Below w.heap.size w w' → Val t v w') (hgu : Guards ops Val) (hstep : ∀ o ∈ ops.toList,Step P Val Q o)
 {listed : Array Bool} {a : Act} {w : World} (I : Inv ops Val init n w0 a0 listed a w) {i : Nat} (hr : i ∈ Region.ready .any ops listed) :
 wpOp P ops Q i (fun a' w' => Inv ops Val init n w0 a0 (listed.setIfInBounds i true) a' w') a w := by
 obtain ⟨hun,o,ho,hall⟩ := mem_ready.1 hr
 obtain ⟨d,hd,hdn,hdi⟩ := flow_dst hB ho
 have hf := flow_at hB ho
 unfold fits at hf
 simp only [Bool.and_eq_true] at hf
 have hlk : ∀ t ∈ looks o,Val t (a.tmps.getD t undef) w := by
  intro t ht
  have h := List.all_eq_true.1 hf.1.2 t ht
  rw [Bool.or_eq_true] at h
  rcases h with h | h
  · exact I.start t (by simpa using h)
  · rw [Array.any_eq_true'] at h
    obtain ⟨e,he,h⟩ := h
    rw [Bool.and_eq_true,beq_iff_eq] at h
    have hl := hall e he h.1
    cases hp : ops[e.on]? with
    | none => rw [hp] at h; simp at h
    | some p =>
      rw [hp] at h
      have hlt : e.on < listed.size := by
       rcases Nat.lt_or_ge e.on listed.size with q | q
       · exact q
       · simp [Array.getElem?_eq_none q] at hl
      exact I.vals e.on p t hp (by simpa [hlt] using hl) (by simpa using h.2)
 have hmem : o ∈ ops.toList := by
  have := Array.mem_of_getElem? ho
  simpa using this
 have hs := hstep o hmem a w hlk
 have hw : Region.wanted o (yielded ops a.tmps) = true := by
  cases hgd : o.guard with
  | none => simp [Region.wanted,hgd]
  | some q =>
    obtain ⟨j,b⟩ := q
    obtain ⟨p,dj,hp,hpd,hb⟩ := hgu o hmem j b hgd
    have hwait := hf.1.1.1
    rw [hgd] at hwait
    simp only at hwait
    rw [Array.any_eq_true'] at hwait
    obtain ⟨e,he,hwait⟩ := hwait
    rw [Bool.and_eq_true,beq_iff_eq] at hwait
    have hl := hall e he hwait.1
    rw [hwait.2] at hl
    have hlt : j < listed.size := by
     rcases Nat.lt_or_ge j listed.size with q | q
     · exact q
     · simp [Array.getElem?_eq_none q] at hl
    have hv := hb _ _ (I.vals j p dj hp (by simpa [hlt] using hl) hpd)
    have hdj : dj < a.tmps.size := by
     obtain ⟨d',h1,h2,_⟩ := flow_dst hB hp
     rw [hpd] at h1; cases h1
     rw [I.frame]; exact h2
    have hv2 : a.tmps[dj]? = some (.bool b) := by
     rw [Array.getD_eq_getD_getElem?] at hv
     rw [Array.getElem?_eq_getElem hdj] at hv ⊢
     exact congrArg some hv
    simp [Region.wanted,hgd,yielded,hp,hpd,hv2]
 unfold wpOp
 simp only [ho]
 rw [if_pos hw]
 refine .inl (Oper.wp_mono ?_ hs)
 rintro a' w' ⟨v,rfl,hb,hv⟩
 have hv := hv d hd
 have hget : ∀ t,t ≠ d → (a.put o.dst v).tmps.getD t undef = a.tmps.getD t undef := by
  intro t ht
  simp [Act.put,hd,Array.getElem?_setIfInBounds_ne (Ne.symm ht)]
 have hset : (a.put o.dst v).tmps.getD d undef = v := by
  simp [Act.put,hd,I.frame,hdn]
 refine ⟨by simpa using I.size,by simpa [Act.put,hd] using I.frame,by simpa [Act.put,hd] using I.defers,grow I.below hb,?_,?_,?_⟩
 · intro t ht
   rw [hget t (fun e => hdi (e ▸ ht))]
   exact hst _ _ _ _ (I.start t ht) hb
 · intro t ht
   rw [hget t (fun e => ht i o ho (e ▸ hd))]
   exact I.old t ht
 · intro j p x hp hl hx
   by_cases hij : j = i
   · subst hij
     rw [ho] at hp; cases hp
     rw [hd] at hx; cases hx
     rw [hset]; exact hv
   · rw [hget x (fun e => hij (flow_one hB hp ho (by rw [hx,hd,e])))]
     refine hst _ _ _ _ (I.vals j p x hp ?_ hx) hb
     rwa [getD_set_ne true (Ne.symm hij)] at hl
theorem flow_any {Val : Tmp → Value → World → Prop} {init : List Tmp} {n : Nat} {w0 : World} {a0 : Act} (hB : flowB ops init n = true)
 (hst : ∀ t v w w',Val t v w → Below w.heap.size w w' → Val t v w') (hgu : Guards ops Val) (hstep : ∀ o ∈ ops.toList,Step P Val Q o)
 (hend : ∀ listed a w,Inv ops Val init n w0 a0 listed a w → (∀ i,i < ops.size → listed.getD i true = true) → Q .normal a w) :
 ∀ (fuel : Nat) (listed : Array Bool) (a : Act) (w : World),Inv ops Val init n w0 a0 listed a w → listed.toList.count false ≤ fuel → wpAny P .any ops Q fuel listed a w
 | 0,listed,a,w,I,hc => by
   have hr : Region.ready .any ops listed = [] := by
    rw [List.eq_nil_iff_forall_not_mem]
    intro i hi
    have h1 := (mem_ready.1 hi).1
    have : false ∈ listed.toList := by
     rcases Nat.lt_or_ge i listed.size with q | q
     · simp [q] at h1
       rw [← h1]; simp
     · simp [Array.getElem?_eq_none q] at h1
    have := List.count_pos_iff.2 this
    omega
   exact ⟨hr,hend _ _ _ I (all_listed hB I.size hr)⟩
 | fuel + 1,listed,a,w,I,hc => by
   refine ⟨fun hr => hend _ _ _ I (all_listed hB I.size hr),fun i hi => ?_⟩
   refine wpOp_mono (fun a' w' I' => flow_any hB hst hgu hstep hend fuel _ a' w' I' ?_) (step_inv hB hst hgu hstep I hi)
   have h1 := (mem_ready.1 hi).1
   have q : i < listed.size := by
    rcases Nat.lt_or_ge i listed.size with q | q
    · exact q
    · simp [Array.getElem?_eq_none q] at h1
   simp [q] at h1
   rw [Array.toList_setIfInBounds,List.count_set (by simpa using q)]
   have hp : 0 < listed.toList.count false := List.count_pos_iff.2 (by rw [← h1]; simp)
   have hp' : listed.toList.count false - 1 ≤ fuel := by omega
   simpa [h1] using hp'
theorem wp_region_flow {id : Nat} {a : Act} {w : World} (Val : Tmp → Value → World → Prop) (init : List Tmp) (n : Nat) (hm : P.follows .mixedOrders = true) (hB : flowB ops init n = true)
 (hst : ∀ t v w w',Val t v w → Below w.heap.size w w' → Val t v w') (hn : a.tmps.size = n) (hinit : ∀ t ∈ init,Val t (a.tmps.getD t undef) w) (hgu : Guards ops Val) (hstep : ∀ o ∈ ops.toList,Step P Val Q o)
 (hend : ∀ a' w',Below w.heap.size w w' → a'.tmps.size = n → a'.defers = a.defers → (∀ t,(∀ (i : Nat) o,ops[i]? = some o → o.dst ≠ some t) → a'.tmps.getD t undef = a.tmps.getD t undef) →
  (∀ (i : Nat) o d,ops[i]? = some o → o.dst = some d → Val d (a'.tmps.getD d undef) w') → Q .normal a' w') : (Code.region id ops true).wp P Q a w := by
 have b0 : Below w.heap.size w { w with drawn := w.drawn + 1 } := ⟨rfl,rfl,rfl,Nat.le_refl _,fun _ _ => rfl⟩
 refine wp_region_any hm (flow_any (Val := Val) (init := init) (n := n) (w0 := w) (a0 := a) hB hst hgu hstep ?_ _ _ _ _ ⟨by simp,hn,rfl,b0,fun t ht => hst _ _ _ _ (hinit t ht) b0,fun _ _ => rfl,?_⟩ ?_)
 · intro listed a' w' I hl
   refine hend a' w' I.below I.frame I.defers I.old fun i o d hi hd => I.vals i o d hi (hl i ?_) hd
   rcases Nat.lt_or_ge i ops.size with q | q
   · exact q
   · rw [Array.getElem?_eq_none q] at hi; cases hi
 · intro i o d hi hl
   rcases Nat.lt_or_ge i ops.size with q | q
   · simp [q] at hl
   · rw [Array.getElem?_eq_none q] at hi; cases hi
 · simp
end
end FlowG
namespace Sk
open Fx (ret_bool)
theorem moved_no (g P : Nat) (bound : Int) (V : List Int) (w : World) (hR : Room w g P bound V) (hn : V.length ≠ P) :
 Calls Tryz.prog 196 #[.pointer (some ⟨g,0,none⟩)] w fun e w' => e = .returned (.bool false) ∧ Below w.heap.size w w' := by
 have c18 := hR.count
 have c0 := hR.win
 have hle := hR.le
 have CP := fun m => places_cell g P (w.drewN m) hle.2.2 c0
 have d : ((V.length : Int) == (P : Int)) = false := by simp; omega
 clear hR c0
 go_enter Tryz.func196,Tryz.ntmps196
 go_wp2
 go_quiet (exact Calls.quiet_of_same ((CP _).mono fun e w' q => ⟨q.1,q.2.symm⟩))
 go_wp2
 go_ret
 exact ⟨rfl,below_drewN (Below.refl _ w) _⟩
inductive Kd
 | ptr (j : Nat)
 | num (n : Int)
 | bool (b : Bool)
 | votes
 | any
def sk (P : Nat) (bound : Int) (V : List Int) (t : Nat) : Kd :=
 [.ptr 0,.any,.bool (decide (bound < Od.spread V)),.ptr 0,.bool true,.bool true,.ptr 0,.ptr 0,.ptr 18,.num V.length,.ptr 0,.num P,.bool true,.bool true,.bool true,.ptr 0,.votes,.num (Od.spread V),.ptr 0,.ptr 0,.ptr 1,.num bound,.bool (decide (bound < Od.spread V)),.bool (decide (bound < Od.spread V))].getD t .any
def Is (g : Nat) (V : List Int) : Kd → Value → World → Prop
 | .ptr j,v,_ => v = .pointer (some ⟨g,j,none⟩)
 | .num n,v,_ => v = .int .i64 n
 | .bool b,v,_ => v = .bool b
 | .votes,v,w => ∃ a cap,v = .slice a V.length cap ∧ IntsAt .i64 w a V
 | .any,_,_ => True
def MV (g P : Nat) (bound : Int) (V : List Int) (t : Tmp) (v : Value) (w : World) : Prop := Room w g P bound V ∧ Is g V (sk P bound V t) v w
theorem MV.on {g P : Nat} {bound : Int} {V : List Int} {t : Tmp} {v : Value} {w w' : World} (h : MV g P bound V t v w) (hb : Below w.heap.size w w') : MV g P bound V t v w' := by
 refine ⟨h.1.below hb h.1.lt,?_⟩
 have h2 := h.2
 generalize sk P bound V t = k at *
 cases k with
 | ptr j => exact h2
 | num n => exact h2
 | bool b => exact h2
 | votes => obtain ⟨a,cap,e,i⟩ := h2; exact ⟨a,cap,e,i.below hb⟩
 | any => trivial
section
variable {g P : Nat} {bound : Int} {V : List Int} {Q : Exit → Act → World → Prop} {d t u : Tmp} {ty : TypeId} {pos : String} {after : Array Edge} {gd : Option (Nat × Bool)}
open FlowG
theorem step_move (h : sk P bound V d = sk P bound V t) : Step Tryz.prog (MV g P bound V) Q ⟨some d,.move (.tmp t),ty,pos,after,gd⟩ := by
 intro a w hl
 have h1 := hl t (List.Mem.head _)
 refine ⟨_,rfl,Below.refl _ _,fun d' hd' => ?_⟩
 cases hd'
 exact ⟨h1.1,by rw [h]; exact h1.2⟩
theorem step_assign (h : sk P bound V d = sk P bound V t) : Step Tryz.prog (MV g P bound V) Q ⟨some d,.assign (.tmp t),ty,pos,after,gd⟩ := by
 intro a w hl
 have h1 := hl t (List.Mem.head _)
 refine ⟨_,rfl,Below.refl _ _,fun d' hd' => ?_⟩
 cases hd'
 exact ⟨h1.1,by rw [h]; exact h1.2⟩
theorem MV.at {k : Kd} {v : Value} {w : World} (h : MV g P bound V t v w) (hk : sk P bound V t = k) : Room w g P bound V ∧ Is g V k v w := ⟨h.1,hk ▸ h.2⟩
theorem step_nil {j : Nat} (ht : sk P bound V t = .ptr j) (hd : sk P bound V d = .ptr j) : Step Tryz.prog (MV g P bound V) Q ⟨some d,.nilCheck (.tmp t),ty,pos,after,gd⟩ := by
 intro a w hl
 obtain ⟨hr,e⟩ := (hl t (List.Mem.head _)).at ht
 have e1 : a.eval (.tmp t) = .pointer (some ⟨g,j,none⟩) := e
 have HR := Lib.hid hr
 unfold Oper.wp execOp
 simp only [e1]
 go_simp
 exact ⟨_,rfl,Below.refl _ _,HR.out,by rw [hd]; rfl⟩
theorem step_addr1 (ht : sk P bound V t = .ptr 0) (hd : sk P bound V d = .ptr 1) : Step Tryz.prog (MV g P bound V) Q ⟨some d,.fieldAddr 222 (.tmp t) 1,ty,pos,after,gd⟩ := by
 intro a w hl
 obtain ⟨hr,e⟩ := (hl t (List.Mem.head _)).at ht
 have e1 : a.eval (.tmp t) = .pointer (some ⟨g,0,none⟩) := e
 have HR := Lib.hid hr
 unfold Oper.wp execOp
 simp only [e1]
 go_simp
 exact ⟨_,rfl,Below.refl _ _,HR.out,by rw [hd]; rfl⟩
theorem step_addr4 (ht : sk P bound V t = .ptr 0) (hd : sk P bound V d = .ptr 18) : Step Tryz.prog (MV g P bound V) Q ⟨some d,.fieldAddr 222 (.tmp t) 4,ty,pos,after,gd⟩ := by
 intro a w hl
 obtain ⟨hr,e⟩ := (hl t (List.Mem.head _)).at ht
 have e1 : a.eval (.tmp t) = .pointer (some ⟨g,0,none⟩) := e
 have HR := Lib.hid hr
 unfold Oper.wp execOp
 simp only [e1]
 go_simp
 exact ⟨_,rfl,Below.refl _ _,HR.out,by rw [hd]; rfl⟩
theorem step_load {j : Nat} {n : Int} (ht : sk P bound V t = .ptr j) (hd : sk P bound V d = .num n) (hc : ∀ w,Room w g P bound V → w.cell? ⟨g,j,none⟩ = some (.int .i64 n)) : Step Tryz.prog (MV g P bound V) Q ⟨some d,.load 3 (.tmp t),ty,pos,after,gd⟩ := by
 intro a w hl
 obtain ⟨hr,e⟩ := (hl t (List.Mem.head _)).at ht
 have e1 : a.eval (.tmp t) = .pointer (some ⟨g,j,none⟩) := e
 have hcell := hc w hr
 have HR := Lib.hid hr
 clear hc
 unfold Oper.wp execOp
 simp only [e1]
 go_simp
 exact ⟨_,rfl,Below.refl _ _,HR.out,by rw [hd]; rfl⟩
theorem step_pick {b : Bool} (ht : sk P bound V t = .bool true) (hu : sk P bound V u = .bool b) (hd : sk P bound V d = .bool b) : Step Tryz.prog (MV g P bound V) Q ⟨some d,.pick (.tmp t) (.tmp u) (.const (.bool false)),ty,pos,after,gd⟩ := by
 intro a w hl
 obtain ⟨hr,e⟩ := (hl t (List.Mem.head _)).at ht
 obtain ⟨_,e'⟩ := (hl u (List.Mem.tail _ (List.Mem.head _))).at hu
 have e1 : a.eval (.tmp t) = .bool true := e
 have e2 : a.eval (.tmp u) = .bool b := e'
 have HR := Lib.hid hr
 unfold Oper.wp execOp
 simp only [e1,e2]
 go_simp
 exact ⟨_,rfl,Below.refl _ _,HR.out,by rw [hd]; rfl⟩
theorem step_neq (ht : sk P bound V t = .ptr 0) (hd : sk P bound V d = .bool true) : Step Tryz.prog (MV g P bound V) Q ⟨some d,.binOp .neq 171 (.tmp t) (.const (.pointer none)) 171,ty,pos,after,gd⟩ := by
 intro a w hl
 obtain ⟨hr,e⟩ := (hl t (List.Mem.head _)).at ht
 have e1 : a.eval (.tmp t) = .pointer (some ⟨g,0,none⟩) := e
 have HR := Lib.hid hr
 unfold Oper.wp execOp
 simp only [e1]
 go_simp
 exact ⟨_,rfl,Below.refl _ _,HR.out,by rw [hd]; rfl⟩
theorem step_eql {x y : Int} (ht : sk P bound V t = .num x) (hu : sk P bound V u = .num y) (hxy : x = y) (hd : sk P bound V d = .bool true) : Step Tryz.prog (MV g P bound V) Q ⟨some d,.binOp .eql 3 (.tmp t) (.tmp u) 3,ty,pos,after,gd⟩ := by
 intro a w hl
 obtain ⟨hr,e⟩ := (hl t (List.Mem.head _)).at ht
 obtain ⟨_,e'⟩ := (hl u (List.Mem.tail _ (List.Mem.head _))).at hu
 subst hxy
 have e1 : a.eval (.tmp t) = .int .i64 x := e
 have e2 : a.eval (.tmp u) = .int .i64 x := e'
 have HR := Lib.hid hr
 unfold Oper.wp execOp
 simp only [e1,e2]
 go_simp
 exact ⟨_,rfl,Below.refl _ _,HR.out,by rw [hd]; rfl⟩
theorem step_gtr {x y : Int} (ht : sk P bound V t = .num x) (hu : sk P bound V u = .num y) (hd : sk P bound V d = .bool (decide (y < x))) : Step Tryz.prog (MV g P bound V) Q ⟨some d,.binOp .gtr 3 (.tmp t) (.tmp u) 3,ty,pos,after,gd⟩ := by
 intro a w hl
 obtain ⟨hr,e⟩ := (hl t (List.Mem.head _)).at ht
 obtain ⟨_,e'⟩ := (hl u (List.Mem.tail _ (List.Mem.head _))).at hu
 have e1 : a.eval (.tmp t) = .int .i64 x := e
 have e2 : a.eval (.tmp u) = .int .i64 y := e'
 have HR := Lib.hid hr
 unfold Oper.wp execOp
 simp only [e1,e2]
 go_simp
 exact ⟨_,rfl,Below.refl _ _,HR.out,by rw [hd]; rfl⟩
theorem step_call {f : FuncId} {at_ : TypeId} (hf : ∀ v w,(callFunc f #[v]).run Tryz.prog w = .ok (.enter f #[v]) w) (h : ∀ (v : Value) w,MV g P bound V t v w → Calls Tryz.prog f #[v] w fun e w' => ∃ r,e = .returned r ∧ Below w.heap.size w w' ∧ Is g V (sk P bound V d) r w') :
 Step Tryz.prog (MV g P bound V) Q ⟨some d,.call { callee := .value (.func f),args := #[.tmp t],argTypes := #[at_] },ty,pos,after,gd⟩ := by
 intro a w hl
 have hm : t ∈ looks ⟨some d,.call { callee := .value (.func f),args := #[.tmp t],argTypes := #[at_] },ty,pos,after,gd⟩ := by
  simp only [looks,List.mem_filterMap]
  exact ⟨.tmp t,(show Operand.tmp t ∈ [Operand.func f,.tmp t] by simp),rfl⟩
 obtain ⟨v,e1⟩ : ∃ v,a.eval (.tmp t) = v := ⟨_,rfl⟩
 have h1 : MV g P bound V t v w := e1 ▸ hl t hm
 have C := h v w h1
 have HR := Lib.hid h1.1
 clear h hl h1 hm
 unfold Oper.wp execOp
 simp only [resolve,e1,List.map_toArray,List.map_cons,List.map_nil]
 go_simp
 refine C.mono ?_
 rintro e w' ⟨r,rfl,hb,hi⟩
 exact ⟨_,rfl,hb,HR.out.below hb HR.out.lt,hi⟩
theorem step_places (ht : sk P bound V t = .ptr 0) (hd : sk P bound V d = .num P) : Step Tryz.prog (MV g P bound V) Q ⟨some d,.call { callee := .value (.func 207),args := #[.tmp t],argTypes := #[171] },ty,pos,after,gd⟩ :=
 step_call (fun _ _ => by go_simp) fun v w h => by
  obtain ⟨hr,e⟩ := h.at ht
  obtain rfl : v = .pointer (some ⟨g,0,none⟩) := e
  refine (places_cell g P w hr.le.2.2 hr.win).mono ?_
  rintro e w' ⟨rfl,rfl⟩
  exact ⟨_,rfl,Below.refl _ _,by rw [hd]; rfl⟩
theorem step_votes (ht : sk P bound V t = .ptr 0) (hd : sk P bound V d = .votes) : Step Tryz.prog (MV g P bound V) Q ⟨some d,.call { callee := .value (.func 219),args := #[.tmp t],argTypes := #[171] },ty,pos,after,gd⟩ :=
 step_call (fun _ _ => by go_simp) fun v w h => by
  obtain ⟨hr,e⟩ := h.at ht
  obtain rfl : v = .pointer (some ⟨g,0,none⟩) := e
  refine (votes_any g P bound V w hr).mono ?_
  rintro e w' ⟨a,cap,rfl,hi,hb⟩
  exact ⟨_,rfl,hb,by rw [hd]; exact ⟨a,cap,rfl,hi⟩⟩
theorem step_spread (ht : sk P bound V t = .votes) (hd : sk P bound V d = .num (Od.spread V)) : Step Tryz.prog (MV g P bound V) Q ⟨some d,.call { callee := .value (.func 218),args := #[.tmp t],argTypes := #[144] },ty,pos,after,gd⟩ :=
 step_call (fun _ _ => by go_simp) fun v w h => by
  obtain ⟨hr,a,cap,rfl,hi⟩ := h.at ht
  have := hr.le
  refine (Od.spread_any a cap V w (by omega) hi).mono ?_
  rintro e w' ⟨rfl,hb⟩
  exact ⟨_,rfl,hb,by rw [hd]; rfl⟩
theorem forall_cons {α : Type} {p : α → Prop} {x : α} {l : List α} (h : p x) (k : ∀ o ∈ l,p o) : ∀ o ∈ x :: l,p o := by
 intro o ho
 rcases List.mem_cons.1 ho with rfl | ho
 · exact h
 · exact k o ho
end
set_option maxHeartbeats 3200000 in
theorem moved_yes (g P : Nat) (bound : Int) (V : List Int) (w : World) (hR : Room w g P bound V) (hn : V.length = P) :
 Calls Tryz.prog 196 #[.pointer (some ⟨g,0,none⟩)] w fun e w' => e = .returned (.bool (decide (bound < Od.spread V))) ∧ Below w.heap.size w w' := by
 have HR := Lib.hid hR
 clear hR
 go_enter Tryz.func196,Tryz.ntmps196
 go_wp2
 rename_i Q' K hK
 refine FlowG.wp_region_flow (MV g P bound V) [0] 24 (by kernel_rfl) (by kernel_rfl) (fun t v w w' h hb => h.on hb) rfl ?_ ?_ ?_ ?_
 · intro t ht
   obtain rfl : t = 0 := by simpa using ht
   exact ⟨HR.out,rfl⟩
 · repeat (refine forall_cons ?_ ?_; focus first
    | (intro j b h; cases h; done)
    | (intro j b h; cases h; exact ⟨_,_,rfl,rfl,fun v w q => q.2⟩))
   intro o ho; cases ho
 · refine forall_cons (step_move rfl) ?_
   refine forall_cons (step_neq rfl rfl) ?_
   refine forall_cons (step_move rfl) ?_
   refine forall_cons (step_move rfl) ?_
   refine forall_cons (step_nil rfl rfl) ?_
   refine forall_cons (step_addr4 rfl rfl) ?_
   refine forall_cons (step_load rfl rfl (fun w h => h.count)) ?_
   refine forall_cons (step_move rfl) ?_
   refine forall_cons (step_places rfl rfl) ?_
   refine forall_cons (step_eql rfl rfl (by omega) rfl) ?_
   refine forall_cons (step_pick rfl rfl rfl) ?_
   refine forall_cons (step_move rfl) ?_
   refine forall_cons (step_move rfl) ?_
   refine forall_cons (step_votes rfl rfl) ?_
   refine forall_cons (step_spread rfl rfl) ?_
   refine forall_cons (step_move rfl) ?_
   refine forall_cons (step_nil rfl rfl) ?_
   refine forall_cons (step_addr1 rfl rfl) ?_
   refine forall_cons (step_load rfl rfl (fun w h => h.bnd)) ?_
   refine forall_cons (step_gtr rfl rfl rfl) ?_
   refine forall_cons (step_pick rfl rfl rfl) ?_
   refine forall_cons (step_assign rfl) ?_
   intro o ho; cases ho
 · intro a' w' hb hs hdf hold hv
   have e2 := (hv 21 _ 2 rfl rfl).2
   refine hK _ _ (wp_ret (bodyPost_ret (v := .bool (decide (bound < Od.spread V))) ((results_tmp rfl _ _ _).trans (by rw [show a'.tmps.getD 2 undef = _ from e2])) hdf ⟨rfl,hb⟩))
theorem moved_any (g P : Nat) (bound : Int) (V : List Int) (w : World) (hR : Room w g P bound V) :
 Calls Tryz.prog 196 #[.pointer (some ⟨g,0,none⟩)] w fun e w' => e = .returned (.bool (moved P bound V)) ∧ Below w.heap.size w w' := by
 by_cases hn : V.length = P
 · rw [show moved P bound V = decide (bound < Od.spread V) by unfold moved; simp [hn]]
   exact moved_yes g P bound V w hR hn
 · rw [show moved P bound V = false by unfold moved; simp [hn]]
   exact moved_no g P bound V w hR hn
end Sk
end Go.Proofs.YticidhbnljdidaaGreatDoor
