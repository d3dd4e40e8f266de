/-
  What the calls of package vote return, but Vote, and the iterator weighted: contracts by walking the Go text. Conditions: where the lists lie.
  What fit of package vote returns: a contract by walking the Go text (a range over the iterator weighted). Conditions: where the lists lie.
-/
import Derived.Test.YtmlhmmfgdioclaaJOrderMidMath3
import Derived.Test.YtmlhmmfgdioclaaFixWalks
import Derived.Test.YtmlhmmfgdioclaaJOpen2
import Derived.Test.YtmlhmmfgdioclaaJLateRun2
import Derived.RegionTactic
import Derived.BigQuiet
import Derived.RangeFuncNested
import Derived.RangeFuncBound
import Derived.RangeFuncCalls
import Derived.RangeFuncLeaves
import Derived.Shelf.Abstract
import Derived.Shelf.RegionOpen
import Derived.OwnWalkIn
import Derived.TacticsInMore
import Derived.LoopNIn
import Derived.LoopIn
namespace Go.Proofs.Ytmlhmmfgdioclaa
set_option maxRecDepth 100000
open Go.ChangeShapes Go.WideShapes Go.ChangeAt Go.RowKit Go.Deep Go.Shelf
namespace Vo
open Fx Od
attribute [local go_sem] Oper.semAt_some

theorem vwithin_any (n lo hi : Int) (w : World) :
    Calls Try.prog 83 #[.int .i64 n, .int .i64 lo, .int .i64 hi] w fun e w' => e = .returned (.bool (inr lo hi n)) ∧ w = w' := by
  have HF := Lib.hid (show inr lo hi n = (decide (lo ≤ n) && decide (n ≤ hi)) from rfl)
  generalize inr lo hi n = X at *
  cases d : decide (lo ≤ n)
  · rw [d, Bool.false_and] at HF
    go_enter Try.func83, Try.ntmps83
    go_wp2
    go_ret
    exact ⟨ret_bool HF.out.symm, rfl⟩
  · rw [d, Bool.true_and] at HF
    go_enter Try.func83, Try.ntmps83
    go_wp2
    go_ret
    exact ⟨ret_bool HF.out.symm, rfl⟩

theorem vwithin_eq (n lo hi : Int) (x : Bool) (w : World) (h : inr lo hi n = x) :
    Calls Try.prog 83 #[.int .i64 n, .int .i64 lo, .int .i64 hi] w fun e w' => e = .returned (.bool x) ∧ w = w' := by subst h; exact vwithin_any n lo hi w

set_option maxHeartbeats 800000 in
theorem vright_any (lo hi clip : Int) (w : World) :
    Calls Try.prog 68 #[.agg #[.int .i64 lo, .int .i64 hi, .int .i64 clip]] w fun e w' => e = .returned (.bool (rmay lo hi clip)) ∧ Below w.heap.size w w' := by
  have HF := Lib.hid (show rmay lo hi clip = (inr (-2147483648) 2147483647 lo && inr lo 2147483647 hi && inr 0 2147483647 clip) from rfl)
  have B := Lib.hid ((Below.refl w.heap.size w).alloc (Nat.le_refl _) (.cells #[.int .i64 lo, .int .i64 hi, .int .i64 clip] 104))
  generalize rmay lo hi clip = r at *
  cases d1 : inr (-2147483648) 2147483647 lo <;> cases d2 : inr lo 2147483647 hi <;> cases d3 : inr 0 2147483647 clip
  all_goals
    rw [d1, d2, d3] at HF
    have D1 := Lib.hid d1
    have D2 := Lib.hid d2
    have D3 := Lib.hid d3
    clear d1 d2 d3
    go_enter Try.func68, Try.ntmps68
    go_wp2_with (go_at_call 83; refine (vwithin_eq _ _ _ _ _ (by first | exact D1.out | exact D2.out | exact D3.out)).mono ?_; rintro e w' ⟨rfl, rfl⟩)
    go_ret
    exact ⟨ret_bool HF.out.symm, B.out⟩

/-! ### The iterator: values, each with its weight -/
def encp (V U : List Int) (x : Fin V.length) : Array Value := #[.int .i64 (V.getD x.val 0), .int .i64 (U.getD x.val 0)]
/-- What a round keeps: the iterator's two boxes, and all that lay ahead of n. -/
def Stay (n B : Nat) (W W' : World) : Prop := (∀ k, k < n → W'.heap[k]? = W.heap[k]?) ∧ W'.heap[B]? = W.heap[B]? ∧ W'.heap[B + 1]? = W.heap[B + 1]?
theorem Stay.refl (n B : Nat) (W : World) : Stay n B W W := ⟨fun _ _ => rfl, rfl, rfl⟩
theorem Stay.trans {n B : Nat} {X Y Z : World} (h : Stay n B X Y) (k : Stay n B Y Z) : Stay n B X Z := ⟨fun i hi => (k.1 i hi).trans (h.1 i hi), k.2.1.trans h.2.1, k.2.2.trans h.2.2⟩
theorem Stay.put {n B : Nat} {w : World} (hn : n ≤ w.heap.size) (hB : B + 1 < w.heap.size) (W : World) (l : Nat) (o o' : Obj) (hl : w.heap.size ≤ l) (_ : W.heap[l]? = some o) (_ : o.isCells = false) (_ : o.isWalk = false) : Stay n B W (W.putObj l o') :=
  ⟨fun k hk => World.putObj_heap_other (by omega), World.putObj_heap_other (by omega), World.putObj_heap_other (by omega)⟩
theorem Stay.box {n B : Nat} {W W' : World} {v : Value} (h : Stay n B W W') (hc : W.cell? ⟨B, 0, none⟩ = some v) : W'.cell? ⟨B, 0, none⟩ = some v := (World.cell?_of_block (a := ⟨B, 0, none⟩) h.2.1).trans hc
theorem Stay.box1 {n B : Nat} {W W' : World} {v : Value} (h : Stay n B W W') (hc : W.cell? ⟨B + 1, 0, none⟩ = some v) : W'.cell? ⟨B + 1, 0, none⟩ = some v := (World.cell?_of_block (a := ⟨B + 1, 0, none⟩) h.2.2).trans hc
/-- A list that lies ahead of n. -/
def At (n : Nat) (w : World) (a : Option Addr) (l : List Int) : Prop :=
  l = [] ∨ ∃ b off, a = some ⟨b, off, none⟩ ∧ b < n ∧ ∀ i, i < l.length → w.cell? ⟨b, off + i, none⟩ = some (.int .i64 (l.getD i 0))
theorem At.of {w : World} {a : Option Addr} {l : List Int} (h : IntsAt .i64 w a l) : At w.heap.size w a l := by
  rcases h with rfl | ⟨b, off, rfl, hc⟩
  · exact Or.inl rfl
  · by_cases h0 : 0 < l.length
    · exact Or.inr ⟨b, off, rfl, cell_lt (hc 0 h0), hc⟩
    · exact Or.inl (List.eq_nil_of_length_eq_zero (by omega))
theorem At.keep {n : Nat} {w W : World} {a : Option Addr} {l : List Int} (h : At n w a l) (hk : ∀ k, k < n → W.heap[k]? = w.heap[k]?) : At n W a l := by
  rcases h with rfl | ⟨b, off, rfl, hb, hc⟩
  · exact Or.inl rfl
  · exact Or.inr ⟨b, off, rfl, hb, fun i hi => (World.cell?_of_block (a := ⟨b, off + i, none⟩) (hk b hb)).trans (hc i hi)⟩
theorem At.below {n : Nat} {w W : World} {a : Option Addr} {l : List Int} (h : At n w a l) (hb : Below n w W) : At n W a l := h.keep (fun k hk => hb.block k hk)
theorem At.get {n : Nat} {w : World} {a : Option Addr} {l : List Int} (h : At n w a l) {k : Nat} (hk : k < l.length) : ∃ b off, a = some ⟨b, off, none⟩ ∧ w.cell? ⟨b, off + k, none⟩ = some (.int .i64 (l.getD k 0)) := by
  rcases h with rfl | ⟨b, off, rfl, _, hc⟩
  · simp at hk
  · exact ⟨b, off, rfl, hc k hk⟩

set_option maxRecDepth 100000 in
set_option maxHeartbeats 2000000 in
theorem weighted1_in (n : Nat) (hn : 1 ≤ n) (l B n₀ ca cb : Nat) (a b : Option Addr) (V U : List Int) (hl : V.length ≤ 4) (hVU : V.length = U.length) (J Jx : List (Fin V.length) → World → Prop)
    (hY : ∀ pre x W, J pre W → pre.length < V.length → YieldAt Fence.wide (n - 1) Try.prog l (encp V U x) W fun e W' =>
      (e = .returned (.bool true) ∧ J (pre ++ [x]) W' ∧ Stay n₀ B W W') ∨ (e = .returned (.bool false) ∧ Jx (pre ++ [x]) W'))
    (W : World) (hB1 : W.cell? ⟨B, 0, none⟩ = some (.slice a V.length ca)) (hB2 : W.cell? ⟨B + 1, 0, none⟩ = some (.slice b U.length cb)) (hV : At n₀ W a V) (hU : At n₀ W b U) (h0 : J [] W) :
    CallsIn Fence.wide n Try.prog 92 #[.func (.yield l) #[] #[], .pointer (some ⟨B, 0, none⟩), .pointer (some ⟨B + 1, 0, none⟩)] W fun e W' => (∃ v, e = .returned v) ∧
      ((∃ ys : List (Fin V.length), ys.map Fin.val = List.range V.length ∧ J ys W') ∨ (∃ pre, True ∧ Jx pre W')) := by
  have HV := Lib.hid hV
  have HU := Lib.hid hU
  clear hV hU
  refine callsIn_of_wp Try.func92 rfl trivial ?_ rfl
  simp only [Try.ntmps92, List.size_toArray, List.length_cons, List.length_nil, Nat.reduceAdd, Nat.reduceSub, Array.replicate_succ, Array.replicate_zero, List.push_toArray, List.append_toArray, List.nil_append, List.cons_append]
  gi_wp2
  gi_loopw [8] (fun i wr => ∃ (k : Nat) (pre : List (Fin V.length)), k ≤ V.length ∧ i = .int .i64 k ∧ pre.map Fin.val = List.range k ∧ J pre wr ∧ Stay n₀ B W wr)
    (fun i _ => V.length - (intOf i).toNat)
  case atStart => exact ⟨0, [], Nat.zero_le _, rfl, rfl, h0, Stay.refl _ _ _⟩
  case round =>
    obtain ⟨k, pre, hk, rfl, hpre, hJs, hnx⟩ := hrel
    have hlenp : pre.length = k := by have := congrArg List.length hpre; simpa using this
    by_cases hlt : k < V.length
    · obtain ⟨fn, tmps, assign, body, hy, hYR⟩ := hY pre ⟨k, hlt⟩ wr hJs (by omega)
      dsimp only [encp] at hy
      have hbx := hnx.box hB1
      have hbx1 := hnx.box1 hB2
      obtain ⟨b1, o1, rfl, e1⟩ := (HV.out.keep hnx.1).get hlt
      obtain ⟨b2, o2, rfl, e2⟩ := (HU.out.keep hnx.1).get (show k < U.length by omega)
      have hki : (k : Int) < (V.length : Int) := by omega
      have hki2 : (k : Int) < (U.length : Int) := by omega
      have hk2 : k < U.length := by omega
      generalize V.getD k 0 = x at *
      generalize U.getD k 0 = y at *
      gi_wp2
      refine hYR.mono ?_
      rintro e W3 (⟨rfl, hJ3, hk3⟩ | ⟨rfl, hJx3⟩)
      · gi_wp2
        go_roundw
        case rel => exact ⟨k + 1, pre ++ [⟨k, hlt⟩], by omega, by simp, by rw [List.map_append, hpre, List.range_succ]; rfl, hJ3, hnx.trans hk3⟩
        case measure => simp [intOf]; omega
      · gi_wp2
        refine bodyPost_ret (results_none rfl _ _ _) rfl ?_
        exact ⟨⟨_, rfl⟩, .inr ⟨_, trivial, hJx3⟩⟩
    · obtain rfl : k = V.length := by omega
      gi_wp2
      go_end0
      exact ⟨⟨_, rfl⟩, .inl ⟨pre, hpre, hJs⟩⟩
/-- The iterator's value keeps its contract in every world that has grown out of this one. -/
theorem weighted_stops (n : Nat) (hn : 1 ≤ n) (B n₀ ca cb : Nat) (a b : Option Addr) (V U : List Int) (hl : V.length ≤ 4) (hVU : V.length = U.length) (w : World) (hn₀ : n₀ ≤ w.heap.size) (hB : B + 1 < w.heap.size)
    (hB1 : w.cell? ⟨B, 0, none⟩ = some (.slice a V.length ca)) (hB2 : w.cell? ⟨B + 1, 0, none⟩ = some (.slice b U.length cb)) (hV : At n₀ w a V) (hU : At n₀ w b U) :
    SeqStopsK Fence.wide n Try.prog 92 #[.pointer (some ⟨B, 0, none⟩), .pointer (some ⟨B + 1, 0, none⟩)] (encp V U) (Stay n₀ B) (fun ys => ys.map Fin.val = List.range V.length) (fun _ => True) V.length w := fun l J Jx W hW _ _ hY h0 =>
  weighted1_in n hn l B n₀ ca cb a b V U hl hVU J Jx hY W ((hW.cell (p := ⟨B, 0, none⟩) (show B < w.heap.size by omega)).trans hB1) ((hW.cell (p := ⟨B + 1, 0, none⟩) hB).trans hB2) (hV.below (hW.mono hn₀)) (hU.below (hW.mono hn₀)) h0

/-- weighted itself: both lists' values are laid in boxes; the function value has the boxes. -/
theorem weighted_any (a b : Option Addr) (la lb ca cb : Nat) (w : World) :
    Calls Try.prog 84 #[.slice a la ca, .slice b lb cb] w fun e w' => e = .returned (.func (.func 92) #[] #[.pointer (some ⟨w.heap.size, 0, none⟩), .pointer (some ⟨w.heap.size + 1, 0, none⟩)]) ∧
      w' = (w.alloc (.cells #[.slice a la ca] 89)).alloc (.cells #[.slice b lb cb] 89) := by
  go_enter Try.func84, Try.ntmps84
  go_wp2
  go_ret
  exact ⟨rfl, rfl⟩
end Vo
end Go.Proofs.Ytmlhmmfgdioclaa

namespace Go.Proofs.Ytmlhmmfgdioclaa
set_option maxRecDepth 100000
open Go.ChangeShapes Go.WideShapes Go.ChangeAt Go.RowKit Go.Deep Go.Shelf
namespace Vo
open Fx Od
attribute [local go_sem] Oper.semAt_some

set_option maxRecDepth 100000 in
set_option maxHeartbeats 2000000 in
theorem fit_len (a b : Option Addr) (ca cb : Nat) (V U : List Int) (w : World) (hne : ¬ V.length = U.length) :
    Calls Try.prog 69 #[.slice a V.length ca, .slice b U.length cb] w fun e w' => e = .returned (.bool (fits V U)) ∧ Below w.heap.size w w' := by
  have HF := Lib.hid (fits_len hne)
  have d0 : ((V.length : Int) != (U.length : Int)) = true := by simp; omega
  have hc := (Boxed.new w 4 (.bool false)).cell
  refine (callsIn_wide (n := 5)).1 ?_
  refine callsIn_of_wp_marks Try.func69 rfl trivial ?_ rfl
  simp only [Try.ntmps69, List.size_toArray, List.length_cons, List.length_nil, Nat.reduceAdd, Nat.reduceSub, Array.replicate_succ, Array.replicate_zero, List.push_toArray, List.append_toArray, List.nil_append, List.cons_append]
  gi_wp2
  exact ⟨.bool false, by simp [results, Try.f69, go_sem, hc], ret_bool HF.out.symm, (Below.refl w.heap.size w).alloc (Nat.le_refl _) _⟩

theorem okk_all {V U : List Int} {ys : List (Fin V.length)} (h : ys.map Fin.val = List.range V.length) (hy : ∀ y ∈ ys, okp (V.getD y.val 0) (U.getD y.val 0) = true) : okk V U V.length = true :=
  okk_of fun k hk => by
    have : k ∈ ys.map Fin.val := by rw [h]; exact List.mem_range.2 hk
    obtain ⟨y, hm, rfl⟩ := List.mem_map.1 this
    exact hy y hm

set_option maxRecDepth 100000 in
set_option maxHeartbeats 2000000 in
theorem fit_eq (a b : Option Addr) (ca cb : Nat) (V U : List Int) (w : World) (hl : V.length ≤ 4) (he : V.length = U.length) (hV : IntsAt .i64 w a V) (hU : IntsAt .i64 w b U) :
    Calls Try.prog 69 #[.slice a V.length ca, .slice b U.length cb] w fun e w' => e = .returned (.bool (fits V U)) ∧ Below w.heap.size w w' := by
  have HF := Lib.hid (fits_eq he)
  have HV := Lib.hid (At.of hV)
  have HU := Lib.hid (At.of hU)
  clear hV hU
  have d0 : ((V.length : Int) != (U.length : Int)) = false := by simp; omega
  have HE := Lib.hid he
  clear he
  refine (callsIn_wide (n := 5)).1 ?_
  refine callsIn_of_wp_marks Try.func69 rfl trivial ?_ rfl
  simp only [Try.ntmps69, List.size_toArray, List.length_cons, List.length_nil, Nat.reduceAdd, Nat.reduceSub, Array.replicate_succ, Array.replicate_zero, List.push_toArray, List.append_toArray, List.nil_append, List.cons_append]
  gi_wp2_with (refine ⟨trivial, ?_⟩; gi_at_call 84; refine (callsIn_wide.2 (weighted_any _ _ _ _ _ _ _)).mono ?_; rintro e w2 ⟨rfl, rfl⟩)
  have bR := ((Boxed.new w 4 (.bool false)).alloc (.cells #[.slice a V.length ca] 89)).alloc (.cells #[.slice b U.length cb] 89)
  have b1 := (Boxed.new (w.alloc (.cells #[.bool false] 4)) 89 (.slice a V.length ca)).alloc (.cells #[.slice b U.length cb] 89)
  have b2 := Boxed.new ((w.alloc (.cells #[.bool false] 4)).alloc (.cells #[.slice a V.length ca] 89)) 89 (.slice b U.length cb)
  rw [World.size_alloc] at b1
  rw [World.size_alloc, World.size_alloc] at b2
  have hB0 := (((Below.refl w.heap.size w).alloc (Nat.le_refl _) (.cells #[.bool false] 4)).alloc (by simp) (.cells #[.slice a V.length ca] 89)).alloc (by simp; omega) (.cells #[.slice b U.length cb] 89)
  have hsz : (((w.alloc (.cells #[.bool false] 4)).alloc (.cells #[.slice a V.length ca] 89)).alloc (.cells #[.slice b U.length cb] 89)).heap.size = w.heap.size + 3 := by simp
  generalize ((w.alloc (.cells #[.bool false] 4)).alloc (.cells #[.slice a V.length ca] 89)).alloc (.cells #[.slice b U.length cb] 89) = W0 at *
  refine wpIn_rangeFunc_ownG rfl (by omega) (gf := 92) (lb := #[.pointer (some ⟨w.heap.size + 1, 0, none⟩), .pointer (some ⟨w.heap.size + 1 + 1, 0, none⟩)]) rfl trivial (enters_of Try.func92 (by kernel_rfl) rfl)
    (weighted_stops _ (by omega) (w.heap.size + 1) w.heap.size ca cb a b V U hl HE.out W0 (by omega) (by omega) b1.cell b2.cell (HV.out.below hB0) (HU.out.below hB0)) Stay.trans (Stay.put (by omega) (by omega)) (Below.refl _ _) (fun _ => rfl)
    (fun pre W => ((∀ y ∈ pre, okp (V.getD y.val 0) (U.getD y.val 0) = true) ∧ Boxed W w.heap.size 4 (.bool false)) ∧ Below w.heap.size w W)
    (fun c _ W => (((c = .ret) ∧ okk V U V.length = false) ∧ Boxed W w.heap.size 4 (.bool false)) ∧ Below w.heap.size w W)
    (OwnFrom.and (OwnFrom.and (ownFrom_pure _ _) (Own.from (boxed_own _ _ _) _)) (ownFrom_below (Nat.le_refl _) (by omega)))
    (fun c => OwnFrom.and (OwnFrom.and (ownFrom_pure _ _) (Own.from (boxed_own _ _ _) _)) (ownFrom_below (Nat.le_refl _) (by omega)))
    ⟨⟨by simp, bR⟩, hB0⟩
    (fun x => { tmps := #[.slice a V.length ca, .slice b U.length cb, undef, undef, .pointer (some ⟨w.heap.size, 0, none⟩), .int .i64 (V.getD x.val 0), .int .i64 (U.getD x.val 0), .slice a V.length ca, .int .i64 V.length, .slice b U.length cb, .int .i64 U.length, .bool false, .slice a V.length ca, .slice b U.length cb, .func (.func 92) #[] #[.pointer (some ⟨w.heap.size + 1, 0, none⟩), .pointer (some ⟨w.heap.size + 1 + 1, 0, none⟩)], .int .i64 (V.getD x.val 0), .int .i64 (U.getD x.val 0), undef, undef, undef, undef, undef, undef, undef, undef], defers := [] }) ?assign ?body ?done ?stop
  case assign =>
    intro l x W K hK
    dsimp only [encp]
    generalize V.getD x.val 0 = vx at *
    generalize U.getD x.val 0 = ux at *
    gi_wp2
    exact hK
  case body =>
    rintro lp pre x W ⟨⟨hp, hbx⟩, hB⟩ _
    have HP := Lib.hid hp
    have HX := Lib.hid (fun h => okk_no (V := V) (U := U) x.isLt h)
    have HY := Lib.hid (fun (h : okp (V.getD x.val 0) (U.getD x.val 0) = true) y (hy : y ∈ pre ++ [x]) => (show okp (V.getD y.val 0) (U.getD y.val 0) = true from by
      rcases List.mem_append.1 hy with q | q
      · exact hp y q
      · rw [List.mem_singleton.1 q]; exact h))
    have HO := Lib.hid (show okp (V.getD x.val 0) (U.getD x.val 0) = (inr (-4294967296) 4294967296 (V.getD x.val 0) && inr 1 16 (U.getD x.val 0)) from rfl)
    have hbc := hbx.cell
    have hbf := hbx.frozen
    have HBx := Lib.hid hbx
    have HB := Lib.hid hB
    clear hp hbx hB
    generalize okp (V.getD x.val 0) (U.getD x.val 0) = ok at *
    generalize V.getD x.val 0 = vx at *
    generalize U.getD x.val 0 = ux at *
    cases d1 : inr (-4294967296) 4294967296 vx <;> cases d2 : inr 1 16 ux
    all_goals
      rw [d1, d2] at HO
      have D1 := Lib.hid d1
      have D2 := Lib.hid d2
      clear d1 d2
      gi_wp2_with (first | (refine ⟨trivial, ?_⟩; gi_at_call 83; refine (CallsIn.inRound lp (callsIn_wide.2 (vwithin_eq _ _ _ _ _ (by first | exact D1.out | exact D2.out)))).mono ?_; rintro e w' ⟨rfl, rfl⟩) | (refine ⟨trivial, ?_⟩))
      first
        | exact ⟨KeepsFrom.refl _ _, Stay.refl _ _ _, ⟨HY.out HO.out, HBx.out⟩, HB.out⟩
        | exact ⟨(KeepsOthers.setCell _ _ _).from _, ⟨⟨rfl, HX.out HO.out⟩, HBx.out.set _⟩, HB.out.setCell (p := ⟨w.heap.size, 0, none⟩) (Nat.le_refl _) _⟩
  case done =>
    rintro D ys W hD hys ⟨⟨hp, hbx⟩, hB⟩ hK
    have HT := Lib.hid (okk_all hys hp)
    have hbc := hbx.cell
    have hbf := hbx.frozen
    gi_wp2
    have hK' := (KeepsOthers.setCell W ⟨w.heap.size, 0, none⟩ (.bool true)).same D _ hK rfl
    refine ⟨by simp, .inl ⟨_, _, rfl, run_takeDeferred hK', ?_⟩⟩
    have hc := (((hbx.set (.bool true)).kept (grownBy_putObj' _ D (.deferred none)) (by simp; omega))).cell
    exact ⟨.bool true, by simp [results, Try.f69, go_sem, hc], ret_bool (by rw [HF.out, HT.out]),
      (hB.setCell (p := ⟨w.heap.size, 0, none⟩) (Nat.le_refl _) _).trans (belowK_b (w := w) (Nat.le_refl _) _ D _ _ (by omega) hK' rfl rfl)⟩
  case stop =>
    rintro D c pre W hD _ ⟨⟨⟨rfl, hno⟩, hbx⟩, hB⟩ hK
    gi_wp2
    refine ⟨by simp, .inl ⟨_, _, rfl, run_takeDeferred hK, ?_⟩⟩
    have hc := (hbx.kept (grownBy_putObj' _ D (.deferred none)) (by simp; omega)).cell
    exact ⟨.bool false, by simp [results, Try.f69, go_sem, hc], ret_bool (by rw [HF.out, hno]),
      hB.trans (belowK_b (w := w) (Nat.le_refl _) W D _ _ (by omega) hK rfl rfl)⟩
end Vo
end Go.Proofs.Ytmlhmmfgdioclaa
