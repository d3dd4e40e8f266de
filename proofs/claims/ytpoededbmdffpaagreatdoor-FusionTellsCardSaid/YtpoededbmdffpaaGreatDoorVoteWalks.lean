/-
  What the calls of package vote return, but Vote, and the iterator weighted: contracts by walking the Go text. Conditions: where the lists lie.
-/
import Derived.Test.YtpoededbmdffpaaGreatDoorVoteMath
import Derived.Test.YtpoededbmdffpaaGreatDoorFixWalks
import Derived.Test.YtpoededbmdffpaaGreatDoorRow
import Derived.Test.YtpoededbmdffpaaGreatDoorRounds
import Derived.RegionTactic
import Derived.BigQuiet
import Derived.RangeFuncNested
import Derived.RangeFuncBound
import Derived.RangeFuncCalls
import Derived.RangeFuncLeaves
import Derived.Shelf.Abstract
import Derived.Shelf.RegionOpen
import Derived.OwnWalkIn
import Derived.TacticsInMore
import Derived.LoopNIn
import Derived.LoopIn
namespace Go.Proofs.YtpoededbmdffpaaGreatDoor
set_option maxRecDepth 100000
open Go.ChangeShapes Go.WideShapes Go.ChangeAt Go.RowKit Go.Deep Go.Shelf
namespace Vo
open Fx Od
attribute [local go_sem] Oper.semAt_some
theorem vwithin_any (n lo hi : Int) (w : World) :
    Calls Tryz.prog 221 #[.int .i64 n, .int .i64 lo, .int .i64 hi] w fun e w' => e = .returned (.bool (inr lo hi n)) ∧ w = w' := by
  have HF := Lib.hid (show inr lo hi n = (decide (lo ≤ n) && decide (n ≤ hi)) from rfl)
  generalize inr lo hi n = X at *
  cases d : decide (lo ≤ n)
  · rw [d, Bool.false_and] at HF
    go_enter Tryz.func221, Tryz.ntmps221
    go_wp2
    go_ret
    exact ⟨ret_bool HF.out.symm, rfl⟩
  · rw [d, Bool.true_and] at HF
    go_enter Tryz.func221, Tryz.ntmps221
    go_wp2
    go_ret
    exact ⟨ret_bool HF.out.symm, rfl⟩
theorem vwithin_eq (n lo hi : Int) (x : Bool) (w : World) (h : inr lo hi n = x) :
    Calls Tryz.prog 221 #[.int .i64 n, .int .i64 lo, .int .i64 hi] w fun e w' => e = .returned (.bool x) ∧ w = w' := by subst h; exact vwithin_any n lo hi w
set_option maxHeartbeats 800000 in
theorem vright_any (lo hi clip : Int) (w : World) :
    Calls Tryz.prog 200 #[.agg #[.int .i64 lo, .int .i64 hi, .int .i64 clip]] w fun e w' => e = .returned (.bool (rmay lo hi clip)) ∧ Below w.heap.size w w' := by
  have HF := Lib.hid (show rmay lo hi clip = (inr (-2147483648) 2147483647 lo && inr lo 2147483647 hi && inr 0 2147483647 clip) from rfl)
  have B := Lib.hid ((Below.refl w.heap.size w).alloc (Nat.le_refl _) (.cells #[.int .i64 lo, .int .i64 hi, .int .i64 clip] 281))
  generalize rmay lo hi clip = r at *
  cases d1 : inr (-2147483648) 2147483647 lo <;> cases d2 : inr lo 2147483647 hi <;> cases d3 : inr 0 2147483647 clip
  all_goals
    rw [d1, d2, d3] at HF
    have D1 := Lib.hid d1
    have D2 := Lib.hid d2
    have D3 := Lib.hid d3
    clear d1 d2 d3
    go_enter Tryz.func200, Tryz.ntmps200
    go_wp2_with (go_at_call 221; refine (vwithin_eq _ _ _ _ _ (by first | exact D1.out | exact D2.out | exact D3.out)).mono ?_; rintro e w' ⟨rfl, rfl⟩)
    go_ret
    exact ⟨ret_bool HF.out.symm, B.out⟩
/-! ### The iterator: values, each with its weight -/
def encp (V U : List Int) (x : Fin V.length) : Array Value := #[.int .i64 (V.getD x.val 0), .int .i64 (U.getD x.val 0)]
/-- What a round keeps: the iterator's two boxes, and all that lay ahead of n. -/
def Stay (n B : Nat) (W W' : World) : Prop := (∀ k, k < n → W'.heap[k]? = W.heap[k]?) ∧ W'.heap[B]? = W.heap[B]? ∧ W'.heap[B + 1]? = W.heap[B + 1]?
theorem Stay.refl (n B : Nat) (W : World) : Stay n B W W := ⟨fun _ _ => rfl, rfl, rfl⟩
theorem Stay.trans {n B : Nat} {X Y Z : World} (h : Stay n B X Y) (k : Stay n B Y Z) : Stay n B X Z := ⟨fun i hi => (k.1 i hi).trans (h.1 i hi), k.2.1.trans h.2.1, k.2.2.trans h.2.2⟩
theorem Stay.put {n B : Nat} {w : World} (hn : n ≤ w.heap.size) (hB : B + 1 < w.heap.size) (W : World) (l : Nat) (o o' : Obj) (hl : w.heap.size ≤ l) (_ : W.heap[l]? = some o) (_ : o.isCells = false) (_ : o.isWalk = false) : Stay n B W (W.putObj l o') :=
  ⟨fun k hk => World.putObj_heap_other (by omega), World.putObj_heap_other (by omega), World.putObj_heap_other (by omega)⟩
theorem Stay.box {n B : Nat} {W W' : World} {v : Value} (h : Stay n B W W') (hc : W.cell? ⟨B, 0, none⟩ = some v) : W'.cell? ⟨B, 0, none⟩ = some v := (World.cell?_of_block (a := ⟨B, 0, none⟩) h.2.1).trans hc
theorem Stay.box1 {n B : Nat} {W W' : World} {v : Value} (h : Stay n B W W') (hc : W.cell? ⟨B + 1, 0, none⟩ = some v) : W'.cell? ⟨B + 1, 0, none⟩ = some v := (World.cell?_of_block (a := ⟨B + 1, 0, none⟩) h.2.2).trans hc
/-- A list that lies ahead of n. -/
def At (n : Nat) (w : World) (a : Option Addr) (l : List Int) : Prop :=
  l = [] ∨ ∃ b off, a = some ⟨b, off, none⟩ ∧ b < n ∧ ∀ i, i < l.length → w.cell? ⟨b, off + i, none⟩ = some (.int .i64 (l.getD i 0))
theorem At.of {w : World} {a : Option Addr} {l : List Int} (h : IntsAt .i64 w a l) : At w.heap.size w a l := by
  rcases h with rfl | ⟨b, off, rfl, hc⟩
  · exact Or.inl rfl
  · by_cases h0 : 0 < l.length
    · exact Or.inr ⟨b, off, rfl, cell_lt (hc 0 h0), hc⟩
    · exact Or.inl (List.eq_nil_of_length_eq_zero (by omega))
theorem At.keep {n : Nat} {w W : World} {a : Option Addr} {l : List Int} (h : At n w a l) (hk : ∀ k, k < n → W.heap[k]? = w.heap[k]?) : At n W a l := by
  rcases h with rfl | ⟨b, off, rfl, hb, hc⟩
  · exact Or.inl rfl
  · exact Or.inr ⟨b, off, rfl, hb, fun i hi => (World.cell?_of_block (a := ⟨b, off + i, none⟩) (hk b hb)).trans (hc i hi)⟩
theorem At.below {n : Nat} {w W : World} {a : Option Addr} {l : List Int} (h : At n w a l) (hb : Below n w W) : At n W a l := h.keep (fun k hk => hb.block k hk)
theorem At.get {n : Nat} {w : World} {a : Option Addr} {l : List Int} (h : At n w a l) {k : Nat} (hk : k < l.length) : ∃ b off, a = some ⟨b, off, none⟩ ∧ w.cell? ⟨b, off + k, none⟩ = some (.int .i64 (l.getD k 0)) := by
  rcases h with rfl | ⟨b, off, rfl, _, hc⟩
  · simp at hk
  · exact ⟨b, off, rfl, hc k hk⟩
set_option maxRecDepth 100000 in
set_option maxHeartbeats 2000000 in
theorem weighted1_in (n : Nat) (hn : 1 ≤ n) (l B n₀ ca cb : Nat) (a b : Option Addr) (V U : List Int) (hl : V.length ≤ 4) (hVU : V.length = U.length) (J Jx : List (Fin V.length) → World → Prop)
    (hY : ∀ pre x W, J pre W → pre.length < V.length → YieldAt Fence.wide (n - 1) Tryz.prog l (encp V U x) W fun e W' =>
      (e = .returned (.bool true) ∧ J (pre ++ [x]) W' ∧ Stay n₀ B W W') ∨ (e = .returned (.bool false) ∧ Jx (pre ++ [x]) W'))
    (W : World) (hB1 : W.cell? ⟨B, 0, none⟩ = some (.slice a V.length ca)) (hB2 : W.cell? ⟨B + 1, 0, none⟩ = some (.slice b U.length cb)) (hV : At n₀ W a V) (hU : At n₀ W b U) (h0 : J [] W) :
    CallsIn Fence.wide n Tryz.prog 232 #[.func (.yield l) #[] #[], .pointer (some ⟨B, 0, none⟩), .pointer (some ⟨B + 1, 0, none⟩)] W fun e W' => (∃ v, e = .returned v) ∧
      ((∃ ys : List (Fin V.length), ys.map Fin.val = List.range V.length ∧ J ys W') ∨ (∃ pre, True ∧ Jx pre W')) := by
  have HV := Lib.hid hV
  have HU := Lib.hid hU
  clear hV hU
  refine callsIn_of_wp Tryz.func232 rfl trivial ?_ rfl
  simp only [Tryz.ntmps232, List.size_toArray, List.length_cons, List.length_nil, Nat.reduceAdd, Nat.reduceSub, Array.replicate_succ, Array.replicate_zero, List.push_toArray, List.append_toArray, List.nil_append, List.cons_append]
  gi_wp2
  gi_loopw [8] (fun i wr => ∃ (k : Nat) (pre : List (Fin V.length)), k ≤ V.length ∧ i = .int .i64 k ∧ pre.map Fin.val = List.range k ∧ J pre wr ∧ Stay n₀ B W wr)
    (fun i _ => V.length - (intOf i).toNat)
  case atStart => exact ⟨0, [], Nat.zero_le _, rfl, rfl, h0, Stay.refl _ _ _⟩
  case round =>
    obtain ⟨k, pre, hk, rfl, hpre, hJs, hnx⟩ := hrel
    have hlenp : pre.length = k := by have := congrArg List.length hpre; simpa using this
    by_cases hlt : k < V.length
    · obtain ⟨fn, tmps, assign, body, hy, hYR⟩ := hY pre ⟨k, hlt⟩ wr hJs (by omega)
      dsimp only [encp] at hy
      have hbx := hnx.box hB1
      have hbx1 := hnx.box1 hB2
      obtain ⟨b1, o1, rfl, e1⟩ := (HV.out.keep hnx.1).get hlt
      obtain ⟨b2, o2, rfl, e2⟩ := (HU.out.keep hnx.1).get (show k < U.length by omega)
      have hki : (k : Int) < (V.length : Int) := by omega
      have hki2 : (k : Int) < (U.length : Int) := by omega
      have hk2 : k < U.length := by omega
      generalize V.getD k 0 = x at *
      generalize U.getD k 0 = y at *
      gi_wp2
      refine hYR.mono ?_
      rintro e W3 (⟨rfl, hJ3, hk3⟩ | ⟨rfl, hJx3⟩)
      · gi_wp2
        go_roundw
        case rel => exact ⟨k + 1, pre ++ [⟨k, hlt⟩], by omega, by simp, by rw [List.map_append, hpre, List.range_succ]; rfl, hJ3, hnx.trans hk3⟩
        case measure => simp [intOf]; omega
      · gi_wp2
        refine bodyPost_ret (results_none rfl _ _ _) rfl ?_
        exact ⟨⟨_, rfl⟩, .inr ⟨_, trivial, hJx3⟩⟩
    · obtain rfl : k = V.length := by omega
      gi_wp2
      go_end0
      exact ⟨⟨_, rfl⟩, .inl ⟨pre, hpre, hJs⟩⟩
/-- The iterator's value keeps its contract in every world that has grown out of this one. -/
theorem weighted_stops (n : Nat) (hn : 1 ≤ n) (B n₀ ca cb : Nat) (a b : Option Addr) (V U : List Int) (hl : V.length ≤ 4) (hVU : V.length = U.length) (w : World) (hn₀ : n₀ ≤ w.heap.size) (hB : B + 1 < w.heap.size)
    (hB1 : w.cell? ⟨B, 0, none⟩ = some (.slice a V.length ca)) (hB2 : w.cell? ⟨B + 1, 0, none⟩ = some (.slice b U.length cb)) (hV : At n₀ w a V) (hU : At n₀ w b U) :
    SeqStopsK Fence.wide n Tryz.prog 232 #[.pointer (some ⟨B, 0, none⟩), .pointer (some ⟨B + 1, 0, none⟩)] (encp V U) (Stay n₀ B) (fun ys => ys.map Fin.val = List.range V.length) (fun _ => True) V.length w := fun l J Jx W hW _ _ hY h0 =>
  weighted1_in n hn l B n₀ ca cb a b V U hl hVU J Jx hY W ((hW.cell (p := ⟨B, 0, none⟩) (show B < w.heap.size by omega)).trans hB1) ((hW.cell (p := ⟨B + 1, 0, none⟩) hB).trans hB2) (hV.below (hW.mono hn₀)) (hU.below (hW.mono hn₀)) h0
/-- weighted itself: both lists' values are laid in boxes; the function value has the boxes. -/
theorem weighted_any (a b : Option Addr) (la lb ca cb : Nat) (w : World) :
    Calls Tryz.prog 222 #[.slice a la ca, .slice b lb cb] w fun e w' => e = .returned (.func (.func 232) #[] #[.pointer (some ⟨w.heap.size, 0, none⟩), .pointer (some ⟨w.heap.size + 1, 0, none⟩)]) ∧
      w' = (w.alloc (.cells #[.slice a la ca] 144)).alloc (.cells #[.slice b lb cb] 144) := by
  go_enter Tryz.func222, Tryz.ntmps222
  go_wp2
  go_ret
  exact ⟨rfl, rfl⟩
end Vo
end Go.Proofs.YtpoededbmdffpaaGreatDoor
