/-
  The iterator of package stuck (fromOldest: the votes, the oldest one first): its contract, for every loop body that leaves the iterator's own variable and the room as they are. Conditions: where the room lies.
-/
import Derived.Test.YtpoededbmdffpaaGreatDoorStuckWalks
import Derived.RangeFuncNested
import Derived.RangeFuncBound
import Derived.RangeFuncCalls
import Derived.RangeFuncLeaves
import Derived.Shelf.Abstract
import Derived.Shelf.RegionOpen
import Derived.OwnWalkIn
import Derived.TacticsInMore
import Derived.LoopNIn
import Derived.LoopIn
namespace Go.Proofs.YtpoededbmdffpaaGreatDoor
set_option maxRecDepth 100000
open Go.ChangeShapes Go.WideShapes Go.ChangeAt Go.RowKit Go.Deep Go.Shelf
namespace Sk
attribute [local go_sem] Oper.semAt_some
/-- The wide fence asks nothing. -/
theorem asked_wide (P : Program) (o : Oper) (a : Act) (C : World → Prop) : Oper.askedIn Fence.wide P o a C := fun _ _ _ _ => trivial
/-- What the iterator hands over: the vote with that number. -/
def vat (V : List Int) (x : Fin V.length) : Int := V.getD x.val 0
def encv (V : List Int) (x : Fin V.length) : Array Value := #[.int .i64 (vat V x)]
theorem vat_all (V : List Int) (ys : List (Fin V.length)) (h : ys.map Fin.val = List.range V.length) : ys.map (vat V) = V := by
  rw [show ys.map (vat V) = (ys.map Fin.val).map (fun i => V.getD i 0) by rw [List.map_map]; rfl, h]
  apply List.ext_getElem
  · simp
  · intro i h1 h2
    simp at h1
    simp [List.getD_eq_getElem?_getD, h1]
/-- What a round keeps: the iterator's own variable, and the room. -/
def KeepTwo (B g : Nat) (W W' : World) : Prop := W'.heap[B]? = W.heap[B]? ∧ W'.heap[g]? = W.heap[g]?
theorem KeepTwo.refl (B g : Nat) (W : World) : KeepTwo B g W W := ⟨rfl, rfl⟩
theorem KeepTwo.trans {B g : Nat} {X Y Z : World} (h : KeepTwo B g X Y) (k : KeepTwo B g Y Z) : KeepTwo B g X Z := ⟨k.1.trans h.1, k.2.trans h.2⟩
theorem KeepTwo.put {B g : Nat} {w : World} (hB : B < w.heap.size) (hg : g < w.heap.size) (W : World) (l : Nat) (o o' : Obj) (hl : w.heap.size ≤ l) (_ : W.heap[l]? = some o) (_ : o.isCells = false) (_ : o.isWalk = false) : KeepTwo B g W (W.putObj l o') :=
  ⟨World.putObj_heap_other (by omega), World.putObj_heap_other (by omega)⟩
theorem KeepTwo.box {B g : Nat} {W W' : World} {v : Value} (h : KeepTwo B g W W') (hc : W.cell? ⟨B, 0, none⟩ = some v) : W'.cell? ⟨B, 0, none⟩ = some v := (World.cell?_of_block (a := ⟨B, 0, none⟩) h.1).trans hc
theorem grown_drewN (W : World) (n : Nat) (row : Option Nat) : W.grownBy (W.drewN n) row := ⟨rfl, rfl, rfl, Nat.le_refl _, fun _ _ _ => rfl⟩
set_option maxRecDepth 100000 in
set_option maxHeartbeats 2000000 in
theorem from1_in (n : Nat) (hn : 1 ≤ n) (l Bs g P : Nat) (bound : Int) (V : List Int) (J Jx : List (Fin V.length) → World → Prop) (B : Nat) (hJ : AbidesFrom B J)
    (hY : ∀ pre x W, J pre W → pre.length < V.length → YieldAt Fence.wide (n - 1) Tryz.prog l (encv V x) W fun e W' =>
      (e = .returned (.bool true) ∧ J (pre ++ [x]) W' ∧ KeepTwo Bs g W W') ∨ (e = .returned (.bool false) ∧ Jx (pre ++ [x]) W'))
    (W : World) (hBs : W.cell? ⟨Bs, 0, none⟩ = some (.pointer (some ⟨g, 0, none⟩))) (hR : Room W g P bound V) (h0 : J [] W) :
    CallsIn Fence.wide n Tryz.prog 237 #[.func (.yield l) #[] #[], .pointer (some ⟨Bs, 0, none⟩)] W fun e W' => (∃ v, e = .returned v) ∧
      ((∃ ys : List (Fin V.length), ys.map Fin.val = List.range V.length ∧ J ys W') ∨ (∃ pre, True ∧ Jx pre W')) := by
  have c18 := hR.count
  have hle := hR.le
  have HR := Lib.hid hR
  clear hR
  obtain ⟨N, hN⟩ : ∃ N, N = V.length := ⟨_, rfl⟩
  refine callsIn_of_wp Tryz.func237 rfl trivial ?_ rfl
  simp only [Tryz.ntmps237, List.size_toArray, List.length_cons, List.length_nil, Nat.reduceAdd, Nat.reduceSub, Array.replicate_succ, Array.replicate_zero, List.push_toArray, List.append_toArray, List.nil_append, List.cons_append]
  gi_wp2
  gi_loopw [9] (fun i wr => ∃ (k : Nat) (pre : List (Fin V.length)), k ≤ V.length ∧ i = .int .i64 k ∧ pre.map Fin.val = List.range k ∧ J pre wr ∧ KeepTwo Bs g W wr)
    (fun i _ => V.length - (intOf i).toNat)
  case atStart => exact ⟨0, [], Nat.zero_le _, rfl, rfl, h0, KeepTwo.refl _ _ _⟩
  case round =>
    obtain ⟨k, pre, hk, rfl, hpre, hJs, hnx⟩ := hrel
    have hlenp : pre.length = k := by have := congrArg List.length hpre; simpa using this
    by_cases hlt : k < V.length
    · have hbx := hnx.box hBs
      have HR2 := HR.out.block hnx.2
      obtain ⟨ring, next, hr, R⟩ := HR2
      have e0 := (R.cell 0 (by rw [room_len hr.len]; omega) : _ = some (Value.int IntKind.i64 ((P : Int) + 1)))
      have e17 := R.cell 17 (by rw [room_len hr.len]; omega)
      rw [room_next hr.len] at e17
      have e18 := R.cell 18 (by rw [room_len hr.len]; omega)
      rw [room_count hr.len] at e18
      have sl := spot_lt hr.nx hlt hr.le
      have ek := R.cell (2 + spot P next V.length k) (by rw [room_len hr.len]; have := hr.p15; omega)
      rw [room_ring _ (by have := hr.p15; omega) hr.len, hr.at_ k hlt] at ek
      have ST := spot_tmod hr.nx hlt hr.le
      have p15 := hr.p15
      have hnx' := hr.nx
      generalize spot P next V.length k = s at *
      have hki : (k : Int) < (V.length : Int) := by omega
      have s15 : (s : Int) < 15 := by omega
      clear hr R
      have CP := fun (r m : Nat) => (callsIn_wide (n := r)).2 ((places_cell g P (wr.drewN m) p15 e0).mono (fun e w' q => (show e = .returned (.int .i64 (P : Int)) ∧ ∃ m', w' = wr.drewN m' from ⟨q.1, m, q.2.symm⟩)))
      have HY := fun m => hY pre ⟨k, hlt⟩ (wr.drewN m) (hJ _ _ _ none hJs (grown_drewN wr m _) (fun r e => by cases e)) (by omega)
      dsimp only [encv, vat] at HY
      generalize V.getD k 0 = x at *
      gi_wp2
      refine wpIn_region_quiet_lit rfl (by kernel_rfl) (by kernel_rfl) ?_
      repeat (first
        | gi_big_quiet_step (fail)
        | (refine wpQuietIn_step (asked_wide _ _ _ _) (fun K hK => ?_); go_simp; refine ⟨_, fun _ => CP _ _, hK _ ?_⟩; clear hK K))
      refine wpQuietIn_nil ?_
      intro _ hw'
      obtain ⟨nq, hw''⟩ := hw'
      subst hw''
      obtain ⟨fn, tmps, assign, body, hy, hYR⟩ := HY nq
      gi_wp2
      refine hYR.mono ?_
      rintro e W3 (⟨rfl, hJ3, hk3⟩ | ⟨rfl, hJx3⟩)
      · gi_wp2
        go_roundw
        case rel => exact ⟨k + 1, pre ++ [⟨k, hlt⟩], by omega, by simp, by rw [List.map_append, hpre, List.range_succ]; rfl, hJ3, hnx.trans hk3⟩
        case measure => simp [intOf]; omega
      · gi_wp2
        refine bodyPost_ret (results_none rfl _ _ _) rfl ?_
        exact ⟨⟨_, rfl⟩, .inr ⟨_, trivial, hJx3⟩⟩
    · obtain rfl : k = V.length := by omega
      gi_wp2
      go_end0
      exact ⟨⟨_, rfl⟩, .inl ⟨pre, hpre, hJs⟩⟩
/-- The iterator's value keeps its contract in every world that has grown out of this one. -/
theorem from_stops (n : Nat) (hn : 1 ≤ n) (Bs g P : Nat) (bound : Int) (V : List Int) (w : World) (hB : Bs < w.heap.size) (hc : w.cell? ⟨Bs, 0, none⟩ = some (.pointer (some ⟨g, 0, none⟩))) (hR : Room w g P bound V) :
    SeqStopsK Fence.wide n Tryz.prog 237 #[.pointer (some ⟨Bs, 0, none⟩)] (encv V) (KeepTwo Bs g) (fun ys => ys.map Fin.val = List.range V.length) (fun _ => True) V.length w := fun l J Jx W hW hJ _ hY h0 =>
  from1_in n hn l Bs g P bound V J Jx _ hJ hY W ((hW.cell (p := ⟨Bs, 0, none⟩) hB).trans hc) (hR.below hW hR.lt) h0
/-- fromOldest itself: the room's pointer is laid in a box; the function value has the box. -/
theorem from_any (g : Nat) (w : World) :
    Calls Tryz.prog 231 #[.pointer (some ⟨g, 0, none⟩)] w fun e w' => e = .returned (.func (.func 237) #[] #[.pointer (some ⟨w.heap.size, 0, none⟩)]) ∧ w' = w.alloc (.cells #[.pointer (some ⟨g, 0, none⟩)] 171) := by
  go_enter Tryz.func231, Tryz.ntmps231
  go_wp2
  go_ret
  exact ⟨rfl, rfl⟩
end Sk
end Go.Proofs.YtpoededbmdffpaaGreatDoor
