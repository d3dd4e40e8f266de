/-
  The iterator of package word (fours: bytes gone through four by four, cut with three indices): its contract, for every loop body that leaves the iterator's own variable as it is. Conditions: how many bytes there are.
-/
import Derived.Test.YtpoededbmdffpaaGreatDoorWordPut
import Derived.RangeFuncNested
import Derived.RangeFuncBound
import Derived.RangeFuncCalls
import Derived.RangeFuncLeaves
import Derived.Shelf.Abstract
import Derived.Shelf.RegionOpen
import Derived.OwnWalkIn
import Derived.TacticsInMore
import Derived.LoopNIn
import Derived.LoopIn
namespace Go.Proofs.YtpoededbmdffpaaGreatDoor
set_option maxRecDepth 100000
open Go.ChangeShapes Go.WideShapes Go.ChangeAt Go.RowKit Go.Deep Go.Shelf
namespace Wd
open Cr (Bytes)
attribute [local go_sem] Oper.semAt_some
/-- What the iterator hands over: a number, and the piece with that number. -/
def encs (b off N : Nat) (x : Fin N) : Array Value := #[.int .i64 (x.val : Int), .slice (some ⟨b, off + 4 * x.val, none⟩) 4 4]
/-- What a round keeps: the iterator's own variable. -/
def KeepAt (B : Nat) (W W' : World) : Prop := W'.heap[B]? = W.heap[B]?
theorem KeepAt.refl (B : Nat) (W : World) : KeepAt B W W := rfl
theorem KeepAt.trans {B : Nat} {X Y Z : World} (h : KeepAt B X Y) (k : KeepAt B Y Z) : KeepAt B X Z := Eq.trans (show Z.heap[B]? = Y.heap[B]? from k) h
theorem KeepAt.put {B : Nat} {w : World} (hB : B < w.heap.size) (W : World) (l : Nat) (o o' : Obj) (hl : w.heap.size ≤ l) (_ : W.heap[l]? = some o) (_ : o.isCells = false) (_ : o.isWalk = false) : KeepAt B W (W.putObj l o') :=
  World.putObj_heap_other (by omega)
theorem KeepAt.cell {B : Nat} {W W' : World} {v : Value} (h : KeepAt B W W') (hc : W.cell? ⟨B, 0, none⟩ = some v) : W'.cell? ⟨B, 0, none⟩ = some v := (World.cell?_of_block (a := ⟨B, 0, none⟩) h).trans hc
set_option maxRecDepth 100000 in
set_option maxHeartbeats 2000000 in
theorem fours1_in (n : Nat) (hn : 1 ≤ n) (l Bs b off cap N : Nat) (a : Option Addr) (ha : 0 < N → a = some ⟨b, off, none⟩) (hN : N ≤ 35184372088000) (hcap : 4 * N ≤ cap) (J Jx : List (Fin N) → World → Prop)
    (hY : ∀ pre x W, J pre W → pre.length < N → YieldAt Fence.wide (n - 1) Tryz.prog l (encs b off N x) W fun e W' =>
      (e = .returned (.bool true) ∧ J (pre ++ [x]) W' ∧ KeepAt Bs W W') ∨ (e = .returned (.bool false) ∧ Jx (pre ++ [x]) W'))
    (W : World) (hBs : W.cell? ⟨Bs, 0, none⟩ = some (.slice a (4 * N) cap)) (h0 : J [] W) :
    CallsIn Fence.wide n Tryz.prog 178 #[.func (.yield l) #[] #[], .pointer (some ⟨Bs, 0, none⟩)] W fun e W' => (∃ v, e = .returned v) ∧
      ((∃ ys : List (Fin N), ys.map Fin.val = List.range N ∧ J ys W') ∨ (∃ pre, True ∧ Jx pre W')) := by
  have e4 : ((4 * N : Nat) : Int) / 4 = (N : Int) := by omega
  refine callsIn_of_wp Tryz.func178 rfl trivial ?_ rfl
  simp only [Tryz.ntmps178, List.size_toArray, List.length_cons, List.length_nil, Nat.reduceAdd, Nat.reduceSub, Array.replicate_succ, Array.replicate_zero, List.push_toArray, List.append_toArray, List.nil_append, List.cons_append]
  gi_wp2
  gi_loopw [9] (fun i wr => ∃ (k : Nat) (pre : List (Fin N)), k ≤ N ∧ i = .int .i64 k ∧ pre.map Fin.val = List.range k ∧ J pre wr ∧ KeepAt Bs W wr)
    (fun i _ => N - (intOf i).toNat)
  case atStart => exact ⟨0, [], Nat.zero_le _, rfl, rfl, h0, KeepAt.refl _ _⟩
  case round =>
    obtain ⟨k, pre, hk, rfl, hpre, hJs, hnx⟩ := hrel
    have hlenp : pre.length = k := by have := congrArg List.length hpre; simpa using this
    by_cases hlt : k < N
    · obtain ⟨fn, tmps, assign, body, hy, hR⟩ := hY pre ⟨k, hlt⟩ wr hJs (by omega)
      dsimp only [encs] at hy
      have hbx := hnx.cell hBs
      rw [ha (by omega)] at hbx
      have hki : (k : Int) < (N : Int) := by omega
      rw [show (Value.slice (some ⟨b, off + 4 * k, none⟩) 4 4) = Value.slice (some ⟨b, off + 4 * k, none⟩) (4 * (k + 1) - 4 * k) (4 * (k + 1) - 4 * k) by rw [show 4 * (k + 1) - 4 * k = 4 by omega]] at hy
      gi_wp2
      refine hR.mono ?_
      rintro e W3 (⟨rfl, hJ3, hk3⟩ | ⟨rfl, hJx3⟩)
      · gi_wp2
        go_roundw
        case rel => exact ⟨k + 1, pre ++ [⟨k, hlt⟩], by omega, by simp, by rw [List.map_append, hpre, List.range_succ]; rfl, hJ3, hnx.trans hk3⟩
        case measure => simp [intOf]; omega
      · gi_wp2
        refine bodyPost_ret (results_none rfl _ _ _) rfl ?_
        exact ⟨⟨_, rfl⟩, .inr ⟨_, trivial, hJx3⟩⟩
    · obtain rfl : k = N := by omega
      gi_wp2
      go_end0
      exact ⟨⟨_, rfl⟩, .inl ⟨pre, hpre, hJs⟩⟩
/-- The iterator's value keeps its contract in every world that has grown out of this one. -/
theorem fours_stops (n : Nat) (hn : 1 ≤ n) (Bs b off cap N : Nat) (a : Option Addr) (ha : 0 < N → a = some ⟨b, off, none⟩) (hN : N ≤ 35184372088000) (hcap : 4 * N ≤ cap) (w : World) (hB : Bs < w.heap.size) (hc : w.cell? ⟨Bs, 0, none⟩ = some (.slice a (4 * N) cap)) :
    SeqStopsK Fence.wide n Tryz.prog 178 #[.pointer (some ⟨Bs, 0, none⟩)] (encs b off N) (KeepAt Bs) (fun ys => ys.map Fin.val = List.range N) (fun _ => True) N w := fun l J Jx W hW _ _ hY h0 =>
  fours1_in n hn l Bs b off cap N a ha hN hcap J Jx hY W ((hW.cell (p := ⟨Bs, 0, none⟩) hB).trans hc) h0
/-- fours itself: the slice's value is laid in a box; the function value has the box. -/
theorem fours_any (a : Option Addr) (len cap : Nat) (w : World) :
    Calls Tryz.prog 127 #[.slice a len cap] w fun e w' => e = .returned (.func (.func 178) #[] #[.pointer (some ⟨w.heap.size, 0, none⟩)]) ∧ w' = w.alloc (.cells #[.slice a len cap] 41) := by
  go_enter Tryz.func127, Tryz.ntmps127
  go_wp2
  go_ret
  exact ⟨rfl, rfl⟩
end Wd
end Go.Proofs.YtpoededbmdffpaaGreatDoor
