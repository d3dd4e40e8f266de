/-
  The iterator of places of package judge (points, and signals, both rising): a contract by walking the Go text, for every loop body. Conditions: how many points there are.
-/
import Derived.Test.YtchnnpaebggfdaaJJudgeMem2
import Derived.Test.YtchnnpaebggfdaaJTripSeq4
import Derived.Test.YtchnnpaebggfdaaRounds
import Derived.RegionTactic
import Derived.BigQuiet
import Derived.RangeFuncNested
import Derived.RangeFuncBound
import Derived.RangeFuncCalls
import Derived.RangeFuncLeaves
import Derived.Shelf.Abstract
import Derived.Shelf.RegionOpen
import Derived.OwnWalkIn
import Derived.TacticsInMore
import Derived.LoopNIn
import Derived.LoopIn
namespace Go.Proofs.Ytchnnpaebggfdaa
set_option maxRecDepth 100000
open Go.ChangeShapes Go.WideShapes Go.ChangeAt Go.RowKit Go.Deep Go.Shelf
namespace Jd
open Rf
attribute [local go_sem] Oper.semAt_some
def encp (m : Nat) (x : Fin (8 * m)) : Array Value := #[.int .i64 ((x.val / 8 : Nat) : Int), .int .i64 ((x.val % 8 : Nat) : Int)]
theorem range_snoc {m k : Nat} {pre : List (Fin m)} (h : pre.map Fin.val = List.range k) (hk : k < m) : (pre ++ [(⟨k, hk⟩ : Fin m)]).map Fin.val = List.range (k + 1) := by
  rw [List.map_append, h, List.range_succ]; rfl
set_option maxRecDepth 100000 in
set_option maxHeartbeats 1600000 in
theorem places_goes (n : Nat) (hn : 1 ≤ n) (B m l : Nat) (hm : m ≤ 10000) (V : World) (hB : V.cell? ⟨B, 0, none⟩ = some (.int .i64 m)) :
    Goes Fence.wide n Try.prog 47 #[.pointer (some ⟨B, 0, none⟩)] (encp m) (fun _ _ => True) (fun xs => xs.map Fin.val = List.range (8 * m)) (fun _ => True) (8 * m) (fun pre x => pre.map Fin.val = List.range x.val) l V := by
  intro J Jx _ _ hY h0
  refine callsIn_of_wp Try.func47 rfl trivial ?_ rfl
  simp only [Try.ntmps47, List.size_toArray, List.length_cons, List.length_nil, Nat.reduceAdd, Nat.reduceSub, Array.replicate_succ, Array.replicate_zero, List.push_toArray, List.append_toArray, List.nil_append, List.cons_append]
  gi_wp2
  clear hB
  gi_loopw [6, 9] (fun s6 _ wr => ∃ (i : Nat) (pre : List (Fin (8 * m))), i ≤ m ∧ s6 = .int .i64 i ∧ pre.map Fin.val = List.range (8 * i) ∧ J pre wr)
    (fun s6 _ _ => m - (intOf s6).toNat)
  case atStart => exact ⟨0, [], Nat.zero_le _, rfl, rfl, h0⟩
  case round =>
    obtain ⟨i, pre, hi, rfl, hpre, hJs⟩ := hrel
    by_cases hlt : i < m
    · have hli : (i : Int) < (m : Int) := by omega
      gi_wp2
      gi_loopw [9] (fun s9 wr => ∃ (k : Nat) (pre : List (Fin (8 * m))), k ≤ 8 ∧ s9 = .int .i64 k ∧ pre.map Fin.val = List.range (8 * i + k) ∧ J pre wr)
        (fun s9 _ => 8 - (intOf s9).toNat)
      case atStart => exact ⟨0, pre, Nat.zero_le _, rfl, hpre, hJs⟩
      case round =>
        clear hpre hJs
        obtain ⟨k, pre, hk, rfl, hpre, hJs⟩ := hrel
        have hlenp : pre.length = 8 * i + k := by have := congrArg List.length hpre; simpa using this
        by_cases hl8 : k < 8
        · have hki : (k : Int) < 8 := by omega
          have hp : 8 * i + k < 8 * m := by omega
          obtain ⟨fn, tmps, assign, body, hy, hYR⟩ := hY pre ⟨8 * i + k, hp⟩ wr hJs (by omega) hpre
          dsimp only [encp] at hy
          rw [show (8 * i + k) / 8 = i by omega, show (8 * i + k) % 8 = k by omega] at hy
          have HS := Lib.hid (range_snoc hpre hp)
          clear hpre
          gi_wp2
          refine hYR.mono ?_
          rintro e W3 (⟨rfl, hJ3, -⟩ | ⟨rfl, hJx3, -⟩)
          · gi_wp2
            go_roundw
            case rel => exact ⟨k + 1, pre ++ [⟨8 * i + k, hp⟩], by omega, by simp, by rw [HS.out, Nat.add_assoc], hJ3⟩
            case measure => simp [intOf]; omega
          · gi_wp2
            refine bodyPost_ret (results_none rfl _ _ _) rfl ?_
            exact ⟨⟨_, rfl⟩, .inr ⟨_, trivial, hJx3⟩⟩
        · obtain rfl : k = 8 := by omega
          have HP := Lib.hid hpre
          clear hpre
          gi_wp2
          go_roundw
          case rel => exact ⟨i + 1, pre, by omega, by simp, by rw [HP.out, Nat.mul_add], hJs⟩
          case measure => simp [intOf]; omega
    · obtain rfl : i = m := by omega
      gi_wp2
      go_end0
      exact ⟨⟨_, rfl⟩, .inl ⟨pre, hpre, hJs⟩⟩
end Jd
end Go.Proofs.Ytchnnpaebggfdaa
