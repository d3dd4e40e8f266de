/-
  The iterator of package word (fours: bytes gone through four by four, cut with three indices): its contract, for every loop body that leaves the iterator's own variable as it is. Conditions: how many bytes there are.
  What GetAll of package word returns: a contract by walking the Go text (a range over the iterator fours). Conditions: where the bytes lie, and how many they are.
  What read of package frame does: its contract by walking the Go text. Conditions: 36 bytes, and where they lie.
-/
import Derived.Test.YtchnnpaebggfdaaJFrameHead3
import Derived.RangeFuncNested
import Derived.RangeFuncBound
import Derived.RangeFuncCalls
import Derived.RangeFuncLeaves
import Derived.Shelf.Abstract
import Derived.Shelf.RegionOpen
import Derived.OwnWalkIn
import Derived.TacticsInMore
import Derived.LoopNIn
import Derived.LoopIn
namespace Go.Proofs.Ytchnnpaebggfdaa
set_option maxRecDepth 100000
open Go.ChangeShapes Go.WideShapes Go.ChangeAt Go.RowKit Go.Deep Go.Shelf
namespace Wd
open Cr (Bytes)
attribute [local go_sem] Oper.semAt_some
/-- What the iterator hands over: a number, and the piece with that number. -/
def encs (b off N : Nat) (x : Fin N) : Array Value := #[.int .i64 (x.val : Int), .slice (some ⟨b, off + 4 * x.val, none⟩) 4 4]
/-- What a round keeps: the iterator's own variable. -/
def KeepAt (B : Nat) (W W' : World) : Prop := W'.heap[B]? = W.heap[B]?
theorem KeepAt.refl (B : Nat) (W : World) : KeepAt B W W := rfl
theorem KeepAt.trans {B : Nat} {X Y Z : World} (h : KeepAt B X Y) (k : KeepAt B Y Z) : KeepAt B X Z := Eq.trans (show Z.heap[B]? = Y.heap[B]? from k) h
theorem KeepAt.put {B : Nat} {w : World} (hB : B < w.heap.size) (W : World) (l : Nat) (o o' : Obj) (hl : w.heap.size ≤ l) (_ : W.heap[l]? = some o) (_ : o.isCells = false) (_ : o.isWalk = false) : KeepAt B W (W.putObj l o') :=
  World.putObj_heap_other (by omega)
theorem KeepAt.cell {B : Nat} {W W' : World} {v : Value} (h : KeepAt B W W') (hc : W.cell? ⟨B, 0, none⟩ = some v) : W'.cell? ⟨B, 0, none⟩ = some v := (World.cell?_of_block (a := ⟨B, 0, none⟩) h).trans hc
set_option maxRecDepth 100000 in
set_option maxHeartbeats 2000000 in
theorem fours1_in (n : Nat) (hn : 1 ≤ n) (l Bs b off cap N : Nat) (a : Option Addr) (ha : 0 < N → a = some ⟨b, off, none⟩) (hN : N ≤ 35184372088000) (hcap : 4 * N ≤ cap) (J Jx : List (Fin N) → World → Prop)
    (hY : ∀ pre x W, J pre W → pre.length < N → YieldAt Fence.wide (n - 1) Try.prog l (encs b off N x) W fun e W' =>
      (e = .returned (.bool true) ∧ J (pre ++ [x]) W' ∧ KeepAt Bs W W') ∨ (e = .returned (.bool false) ∧ Jx (pre ++ [x]) W'))
    (W : World) (hBs : W.cell? ⟨Bs, 0, none⟩ = some (.slice a (4 * N) cap)) (h0 : J [] W) :
    CallsIn Fence.wide n Try.prog 77 #[.func (.yield l) #[] #[], .pointer (some ⟨Bs, 0, none⟩)] W fun e W' => (∃ v, e = .returned v) ∧
      ((∃ ys : List (Fin N), ys.map Fin.val = List.range N ∧ J ys W') ∨ (∃ pre, True ∧ Jx pre W')) := by
  have e4 : ((4 * N : Nat) : Int) / 4 = (N : Int) := by omega
  refine callsIn_of_wp Try.func77 rfl trivial ?_ rfl
  simp only [Try.ntmps77, List.size_toArray, List.length_cons, List.length_nil, Nat.reduceAdd, Nat.reduceSub, Array.replicate_succ, Array.replicate_zero, List.push_toArray, List.append_toArray, List.nil_append, List.cons_append]
  gi_wp2
  gi_loopw [9] (fun i wr => ∃ (k : Nat) (pre : List (Fin N)), k ≤ N ∧ i = .int .i64 k ∧ pre.map Fin.val = List.range k ∧ J pre wr ∧ KeepAt Bs W wr)
    (fun i _ => N - (intOf i).toNat)
  case atStart => exact ⟨0, [], Nat.zero_le _, rfl, rfl, h0, KeepAt.refl _ _⟩
  case round =>
    obtain ⟨k, pre, hk, rfl, hpre, hJs, hnx⟩ := hrel
    have hlenp : pre.length = k := by have := congrArg List.length hpre; simpa using this
    by_cases hlt : k < N
    · obtain ⟨fn, tmps, assign, body, hy, hR⟩ := hY pre ⟨k, hlt⟩ wr hJs (by omega)
      dsimp only [encs] at hy
      have hbx := hnx.cell hBs
      rw [ha (by omega)] at hbx
      have hki : (k : Int) < (N : Int) := by omega
      rw [show (Value.slice (some ⟨b, off + 4 * k, none⟩) 4 4) = Value.slice (some ⟨b, off + 4 * k, none⟩) (4 * (k + 1) - 4 * k) (4 * (k + 1) - 4 * k) by rw [show 4 * (k + 1) - 4 * k = 4 by omega]] at hy
      gi_wp2
      refine hR.mono ?_
      rintro e W3 (⟨rfl, hJ3, hk3⟩ | ⟨rfl, hJx3⟩)
      · gi_wp2
        go_roundw
        case rel => exact ⟨k + 1, pre ++ [⟨k, hlt⟩], by omega, by simp, by rw [List.map_append, hpre, List.range_succ]; rfl, hJ3, hnx.trans hk3⟩
        case measure => simp [intOf]; omega
      · gi_wp2
        refine bodyPost_ret (results_none rfl _ _ _) rfl ?_
        exact ⟨⟨_, rfl⟩, .inr ⟨_, trivial, hJx3⟩⟩
    · obtain rfl : k = N := by omega
      gi_wp2
      go_end0
      exact ⟨⟨_, rfl⟩, .inl ⟨pre, hpre, hJs⟩⟩
/-- The iterator's value keeps its contract in every world that has grown out of this one. -/
theorem fours_stops (n : Nat) (hn : 1 ≤ n) (Bs b off cap N : Nat) (a : Option Addr) (ha : 0 < N → a = some ⟨b, off, none⟩) (hN : N ≤ 35184372088000) (hcap : 4 * N ≤ cap) (w : World) (hB : Bs < w.heap.size) (hc : w.cell? ⟨Bs, 0, none⟩ = some (.slice a (4 * N) cap)) :
    SeqStopsK Fence.wide n Try.prog 77 #[.pointer (some ⟨Bs, 0, none⟩)] (encs b off N) (KeepAt Bs) (fun ys => ys.map Fin.val = List.range N) (fun _ => True) N w := fun l J Jx W hW _ _ hY h0 =>
  fours1_in n hn l Bs b off cap N a ha hN hcap J Jx hY W ((hW.cell (p := ⟨Bs, 0, none⟩) hB).trans hc) h0
/-- fours itself: the slice's value is laid in a box; the function value has the box. -/
theorem fours_any (a : Option Addr) (len cap : Nat) (w : World) :
    Calls Try.prog 72 #[.slice a len cap] w fun e w' => e = .returned (.func (.func 77) #[] #[.pointer (some ⟨w.heap.size, 0, none⟩)]) ∧ w' = w.alloc (.cells #[.slice a len cap] 59) := by
  go_enter Try.func72, Try.ntmps72
  go_wp2
  go_ret
  exact ⟨rfl, rfl⟩
end Wd
end Go.Proofs.Ytchnnpaebggfdaa

namespace Go.Proofs.Ytchnnpaebggfdaa
set_option maxRecDepth 100000
open Go.ChangeShapes Go.WideShapes Go.ChangeAt Go.RowKit Go.Deep Go.Shelf
namespace Wd
open Cr (Bytes)
attribute [local go_sem] Oper.semAt_some
/-- make(..) of a whole row, inside a fence. -/
theorem wpListIn_make_full {F : Fence} {m : Nat} {P : Program} (w : World) {ops : Array Oper} {rest : List Oper} {o : Oper} {a : Act} {Q : Exit → Act → World → Prop}
    (hg : o.guard = none) (l c : Operand) (t : TypeId) (hop : o.op = Op.makeSlice t l c)
    (base : Nat) (e : TypeId) (i : TypeInfo) (z : Value) (size : Nat) (h1 : P.underlying t = some (.slice e)) (h2 : P.info? e = some i) (h3 : i.zero = some z) (h4 : i.size = size)
    (kl kc : IntKind) (L C : Int) (n : Nat) (hl : a.eval l = .int kl L) (hc : a.eval c = .int kc C) (hL : L = (n : Int)) (hC : C = (n : Int)) (b2 : i.bytes * n ≤ 281474976710656) (b3 : n ≤ maxLen) (b4 : base ≤ w.heap.size)
    (hK : ∀ w', w'.ownsRow base e size (.slice (some ⟨w.heap.size, 0, none⟩) n n) n (madeCells z.cells (n * size)).toList → w.grownBy w' none → wpListIn F m P ops Q rest (a.put o.dst (.slice (some ⟨w.heap.size, 0, none⟩) n n)) w') :
    wpListIn F m P ops Q (o :: rest) a w := by
  refine wpListIn_plain hg fun K hK' => ?_
  obtain ⟨w', hrun, r1, r2⟩ := run_make_full (P := P) w base t e i z size h1 h2 h3 h4 kl kc n b2 b3 b4
  subst hL
  subst hC
  unfold Oper.wpIn
  refine ⟨?_, ?_⟩
  · simp [Oper.about, hop]
  · rw [Oper.semAt_plain F _ _ (by rw [hop]; intro c hc'; cases hc')]
    simp [execOp, hop, hl, hc, hrun, Result.andThen]
    exact hK' _ _ (hK w' r1 r2)
/-- What GetAll hands back: a list, and whether there is one. -/
def RetIB (k : IntKind) (w : World) (l : List Int) (b : Bool) (e : Ending) (w' : World) : Prop :=
  ∃ a cap, e = .returned (.tuple #[.slice a l.length cap, .bool b]) ∧ IntsAt k w' a l ∧ Below w.heap.size w w'
theorem retIB_nil {k : IntKind} {w w' : World} {l : List Int} {b : Bool} (he : l = []) (hb : b = false) (h : Below w.heap.size w w') : RetIB k w l b (.returned (.tuple #[.slice none 0 0, .bool false])) w' := by
  subst he; subst hb; exact ⟨none, 0, rfl, Or.inl rfl, h⟩
theorem retIB_mk {k : IntKind} {w w' : World} {a : Option Addr} {l l' : List Int} {n cap : Nat} {b b' : Bool} (he : l' = l) (hn : l'.length = n) (hq : b' = b) (hi : IntsAt k w' a l') (hb : Below w.heap.size w w') :
    RetIB k w l b (.returned (.tuple #[.slice a n cap, .bool b'])) w' := by subst he; subst hn; subst hq; exact ⟨a, cap, rfl, hi, hb⟩
theorem zeros_cells64 (n : Nat) : (madeCells (Value.int .i64 0).cells (n * 1)).toList = cellsI .i64 (List.replicate n 0) := by
  have : (Value.int .i64 0).cells = #[Value.int .i64 0] := rfl
  rw [this, toList_madeCells_one]; simp [cellsI]
/-- A row that is known whole speaks of cells alone. -/
theorem irow_own {β : Type} (k : IntKind) (g : Nat) (t : TypeId) (f : β → List Int) : Own (fun s W => IRow k W g t (f s)) := fun s X Y row hs hg hrow =>
  (hg.block g hs.lt (fun e' => by obtain ⟨o, ho, hc⟩ := hrow g e'.symm; rw [show X.heap[g]? = _ from hs] at ho; cases ho; cases hc)).trans hs
set_option maxRecDepth 100000 in
set_option maxHeartbeats 2000000 in
theorem getAll_yes_any (a : Option Addr) (cap N : Nat) (l : List Int) (w : World) (hl : l.length = 4 * N) (hN : N ≤ 100000000) (hcap : 4 * N ≤ cap) (hy : Bytes l) (hb : IntsAt .u8 w a l) :
    Calls Try.prog 63 #[.slice a (4 * N) cap] w (RetIB .i64 w (getAll l) (getAllb l)) := by
  obtain ⟨b, off, ha⟩ : ∃ b off, 0 < N → a = some ⟨b, off, none⟩ := by
    rcases hb with rfl | ⟨b, off, rfl, _⟩
    · exact ⟨0, 0, fun h => by simp at hl; omega⟩
    · exact ⟨b, off, fun _ => rfl⟩
  have e4 : ((4 * N : Nat) : Int) / 4 = (N : Int) := by omega
  have e5 : ((4 * N : Nat) : Int) % 4 = 0 := by omega
  have HB := Lib.hid hb
  have HY := Lib.hid hy
  clear hb hy
  obtain ⟨i0, hi0, hz0, hz1, hz2⟩ := info_parts intInfo
  refine (callsIn_wide (n := 5)).1 ?_
  refine callsIn_of_wp_marks Try.func63 rfl trivial ?_ rfl
  simp only [Try.ntmps63, List.size_toArray, List.length_cons, List.length_nil, Nat.reduceAdd, Nat.reduceSub, Array.replicate_succ, Array.replicate_zero, List.push_toArray, List.append_toArray, List.nil_append, List.cons_append]
  gi_wp2_with (first
    | (gi_at_make; refine wpListIn_make_full _ rfl _ _ _ rfl w.heap.size 3 i0 (.int .i64 0) 1 Try.underlying110 hi0 hz0 hz1 .i64 .i64 _ _ N rfl rfl (by omega) (by omega) (by rw [hz2]; omega) (by unfold maxLen; omega) (Nat.le_refl _) ?_; intro w1 own1 grown1
       have R1 := Lib.hid (IRow.of_own own1 (zeros_cells64 _)); have B1 := Lib.hid ((Below.refl w.heap.size w).grown grown1 (Nat.le_refl _) (by simp)); clear own1 grown1)
    | (refine ⟨trivial, ?_⟩; gi_at_call 72; refine (callsIn_wide.2 (fours_any _ _ _ _)).mono ?_; rintro e w2 ⟨rfl, rfl⟩))
  have hlt1 : w.heap.size < w1.heap.size := R1.out.lt
  have bL := (Boxed.new w1 110 (.slice (some ⟨w.heap.size, 0, none⟩) N N)).alloc (.cells #[.slice a (4 * N) cap] 59)
  have bS := Boxed.new (w1.alloc (.cells #[.slice (some ⟨w.heap.size, 0, none⟩) N N] 110)) 59 (.slice a (4 * N) cap)
  rw [World.size_alloc] at bS
  have hR0 := (R1.out.alloc (.cells #[.slice (some ⟨w.heap.size, 0, none⟩) N N] 110)).alloc (.cells #[.slice a (4 * N) cap] 59)
  have hB0 := (B1.out.alloc (by omega) (.cells #[.slice (some ⟨w.heap.size, 0, none⟩) N N] 110)).alloc (by simp; omega) (.cells #[.slice a (4 * N) cap] 59)
  have hsz : ((w1.alloc (.cells #[.slice (some ⟨w.heap.size, 0, none⟩) N N] 110)).alloc (.cells #[.slice a (4 * N) cap] 59)).heap.size = w1.heap.size + 2 := by simp
  clear R1 B1
  generalize (w1.alloc (.cells #[.slice (some ⟨w.heap.size, 0, none⟩) N N] 110)).alloc (.cells #[.slice a (4 * N) cap] 59) = W0 at *
  refine wpIn_rangeFunc_ownG rfl (by omega) (gf := 77) (lb := #[.pointer (some ⟨w1.heap.size + 1, 0, none⟩)]) rfl trivial (enters_of Try.func77 (by kernel_rfl) rfl)
    (fours_stops _ (by omega) (w1.heap.size + 1) b off cap N a ha (by omega) hcap W0 (by omega) bS.cell) KeepAt.trans (KeepAt.put (by omega)) (Below.refl _ _) (fun _ => rfl)
    (fun pre W => (IRow .i64 W w.heap.size 3 (fillI l N (pre.map Fin.val)) ∧ Boxed W w1.heap.size 110 (.slice (some ⟨w.heap.size, 0, none⟩) N N)) ∧ Below w.heap.size w W)
    (fun _ _ _ => False)
    (OwnFrom.and (OwnFrom.and (Own.from (irow_own _ _ _ _) _) (Own.from (boxed_own _ _ _) _)) (ownFrom_below (Nat.le_refl _) (by omega)))
    (fun _ _ _ _ _ hs _ _ => hs)
    ⟨⟨by simpa [fillI] using hR0, bL⟩, hB0⟩
    (fun x => { tmps := #[.slice a (4 * N) cap, undef, .slice none 0 0, .bool false, .pointer (some ⟨w1.heap.size, 0, none⟩), .int .i64 (x.val : Int), .slice (some ⟨b, off + 4 * x.val, none⟩) 4 4, .slice a (4 * N) cap, .int .i64 (4 * N), .int .i64 0, .bool false, .slice a (4 * N) cap, .int .i64 (4 * N), .int .i64 N, .slice (some ⟨w.heap.size, 0, none⟩) N N, .slice a (4 * N) cap, .func (.func 77) #[] #[.pointer (some ⟨w1.heap.size + 1, 0, none⟩)], .int .i64 (x.val : Int), .slice (some ⟨b, off + 4 * x.val, none⟩) 4 4, undef, undef, undef, undef, undef, undef], defers := [] }) ?assign ?body ?done ?stop
  case assign =>
    intro l x W K hK
    dsimp only [encs]
    gi_wp2
    exact hK
  case body =>
    rintro lp pre x W ⟨⟨hR, hBx⟩, hB⟩ _
    have hx := x.isLt
    obtain ⟨i, hi⟩ : ∃ i, i = x.val := ⟨_, rfl⟩
    rw [← hi] at hx
    have HS := Lib.hid (show fillI l N ((pre ++ [x]).map Fin.val) = (fillI l N (pre.map Fin.val)).set x.val (get4v ((l.drop (4 * x.val)).take 4)) by rw [List.map_append]; exact fillI_snoc l N (pre.map Fin.val) x.val)
    rw [← hi] at HS ⊢
    have hbc := hBx.cell
    have hcl := hR.cell i (by rw [fillI_len]; exact hx)
    have hfz := hR.frozen i
    have hP : IntsAt .u8 W (some ⟨b, off + 4 * i, none⟩) ((l.drop (4 * i)).take 4) := by
      rcases HB.out.below hB with h0 | ⟨b', off', h1, hc⟩
      · rw [h0] at hl; simp at hl; omega
      · rw [ha (by omega)] at h1
        cases h1
        exact (intsAt_drop (4 * i) hc).take 4
    have C := fun W' (h : IntsAt .u8 W' (some ⟨b, off + 4 * i, none⟩) ((l.drop (4 * i)).take 4)) => readFour_any (some ⟨b, off + 4 * i, none⟩) 4 ((l.drop (4 * i)).take 4) W' (piece_len hl hx) (piece_bytes HY.out i) h
    have HP := Lib.hid hP
    have HR := Lib.hid hR
    have HBx := Lib.hid hBx
    have HBB := Lib.hid hB
    clear hP hR hBx hB hi
    generalize (fillI l N (pre.map Fin.val)).getD i 0 = old at *
    generalize hV : get4v ((l.drop (4 * i)).take 4) = V at *
    have hmx : Try.prog.follows .mixedOrders = true := by kernel_rfl
    gi_wp2
    gi_region_with_o (refine ⟨trivial, ?_⟩; gi_at_call 73; refine (CallsIn.inRound lp (callsIn_wide.2 (C _ (IntsAt.drew HP.out)))).mono ?_; rintro e w' ⟨rfl, rfl⟩)
    all_goals gi_wp2
    all_goals exact ⟨((KeepsOthers.setCell _ _ _).trans (KeepsOthers.drew _)).from _, heap_setCell_other W ⟨w.heap.size, i, none⟩ (w1.heap.size + 1) (.int .i64 V) (show w1.heap.size + 1 ≠ w.heap.size by omega),
      ⟨by rw [HS.out]; exact (HR.out.set i V).drew, (heap_setCell_other W ⟨w.heap.size, i, none⟩ w1.heap.size (.int .i64 V) (show w1.heap.size ≠ w.heap.size by omega)).trans HBx.out⟩, below_drewN (HBB.out.setCell (p := ⟨w.heap.size, i, none⟩) (Nat.le_refl _) (.int .i64 V)) 1⟩
  case done =>
    rintro D ys W hD hys ⟨⟨hR, hBx⟩, hB⟩ hK
    have hbc := hBx.cell
    gi_wp2
    refine ⟨by simp, .inl ⟨_, _, rfl, run_takeDeferred hK, ?_⟩⟩
    have R' : IRow .i64 (W.putObj D (.deferred none)) w.heap.size 3 (getAll l) := by
      rw [hys, fillI_all l N hl] at hR
      exact (World.putObj_heap_other (by omega)).trans hR
    have hlen : (getAll l).length = N := by rw [← fillI_all l N hl]; exact fillI_len _ _ _
    refine ⟨_, results_tmp2 rfl _ _ _, ?_⟩
    exact retIB_mk rfl hlen ((getAllb_iff l).2 (by omega)).symm R'.ints (hB.trans (belowK_b (w := w) (Nat.le_refl _) W D _ _ (by omega) hK rfl rfl))
  case stop =>
    rintro D c pre W _ _ h _
    exact h.elim
theorem getAll_any (a : Option Addr) (cap : Nat) (l : List Int) (w : World) (hl : l.length ≤ 100000000) (hcap : l.length ≤ cap) (hy : Bytes l) (hb : IntsAt .u8 w a l) :
    Calls Try.prog 63 #[.slice a l.length cap] w (RetIB .i64 w (getAll l) (getAllb l)) := by
  by_cases h : l.length % 4 = 0
  · obtain ⟨N, hN⟩ : ∃ N, l.length = 4 * N := ⟨l.length / 4, by omega⟩
    rw [hN]
    exact getAll_yes_any a cap N l w hN (by omega) (by omega) hy hb
  · have HF := Lib.hid (getAll_no h)
    have HG := Lib.hid (show getAllb l = false by cases e : getAllb l; rfl; exact absurd ((getAllb_iff l).1 e) h)
    have d : ((l.length : Int) % 4 != 0) = true := by simp; omega
    have d2 : ((l.length : Int) % 4 == 0) = false := by simp; omega
    clear hy hb
    go_enter Try.func63, Try.ntmps63
    go_wp2
    go_ret2
    exact retIB_nil HF.out HG.out (Below.refl _ _)
end Wd
end Go.Proofs.Ytchnnpaebggfdaa

namespace Go.Proofs.Ytchnnpaebggfdaa
set_option maxRecDepth 100000
open Go.ChangeShapes Go.WideShapes Go.ChangeAt Go.RowKit Go.Deep
namespace Fm
open Wd
open Cr (Bytes)
theorem agg9 (w : World) : (isAgg 92).run Try.prog w = .ok true w := by simp [isAgg, run_underlying Try.underlying92]
theorem size9 : (Try.prog.info? 92).map (·.size) = some 9 := by kernel_rfl
theorem nine_row (w : World) (t : TypeId) : IRow .i64 (w.alloc (.cells (cellsI .i64 (List.replicate 9 0)).toArray t)) w.heap.size t (List.replicate 9 0) := heap_alloc_new w _
theorem stored9 {w : World} {g : Nat} {t : TypeId} (s v0 v1 v2 v3 v4 v5 v6 v7 : Int) (h : IRow .i64 w g t (List.replicate 9 0)) : IRow .i64 (((((((((w.setCell ⟨g, 0, none⟩ (.int .i64 s)).setCell ⟨g, 1, none⟩ (.int .i64 v0)).setCell ⟨g, 2, none⟩ (.int .i64 v1)).setCell ⟨g, 3, none⟩ (.int .i64 v2)).setCell ⟨g, 4, none⟩ (.int .i64 v3)).setCell ⟨g, 5, none⟩ (.int .i64 v4)).setCell ⟨g, 6, none⟩ (.int .i64 v5)).setCell ⟨g, 7, none⟩ (.int .i64 v6)).setCell ⟨g, 8, none⟩ (.int .i64 v7)) g t [s, v0, v1, v2, v3, v4, v5, v6, v7] :=
  (((((((((h.set 0 s).set 1 v0).set 2 v1).set 3 v2).set 4 v3).set 5 v4).set 6 v5).set 7 v6).set 8 v7)
theorem stored9_below {B : Nat} {a w : World} {g : Nat} (s v0 v1 v2 v3 v4 v5 v6 v7 : Int) (h : Below B a w) (hg : B ≤ g) : Below B a (((((((((w.setCell ⟨g, 0, none⟩ (.int .i64 s)).setCell ⟨g, 1, none⟩ (.int .i64 v0)).setCell ⟨g, 2, none⟩ (.int .i64 v1)).setCell ⟨g, 3, none⟩ (.int .i64 v2)).setCell ⟨g, 4, none⟩ (.int .i64 v3)).setCell ⟨g, 5, none⟩ (.int .i64 v4)).setCell ⟨g, 6, none⟩ (.int .i64 v5)).setCell ⟨g, 7, none⟩ (.int .i64 v6)).setCell ⟨g, 8, none⟩ (.int .i64 v7)) :=
  (((((((((h.setCell (p := ⟨g, 0, none⟩) hg _).setCell (p := ⟨g, 1, none⟩) hg _).setCell (p := ⟨g, 2, none⟩) hg _).setCell (p := ⟨g, 3, none⟩) hg _).setCell (p := ⟨g, 4, none⟩) hg _).setCell (p := ⟨g, 5, none⟩) hg _).setCell (p := ⟨g, 6, none⟩) hg _).setCell (p := ⟨g, 7, none⟩) hg _).setCell (p := ⟨g, 8, none⟩) hg _)
theorem row9 {w : World} {g : Nat} {t : TypeId} {s v0 v1 v2 v3 v4 v5 v6 v7 : Int} (h : IRow .i64 w g t [s, v0, v1, v2, v3, v4, v5, v6, v7]) : (w.cell? ⟨g, 0, none⟩ = some (.int .i64 s) ∧ w.cell? ⟨g, 1, none⟩ = some (.int .i64 v0) ∧ w.cell? ⟨g, 2, none⟩ = some (.int .i64 v1) ∧ w.cell? ⟨g, 3, none⟩ = some (.int .i64 v2) ∧ w.cell? ⟨g, 4, none⟩ = some (.int .i64 v3) ∧ w.cell? ⟨g, 5, none⟩ = some (.int .i64 v4) ∧ w.cell? ⟨g, 6, none⟩ = some (.int .i64 v5) ∧ w.cell? ⟨g, 7, none⟩ = some (.int .i64 v6) ∧ w.cell? ⟨g, 8, none⟩ = some (.int .i64 v7)) :=
  ⟨h.cell 0 (by simp), h.cell 1 (by simp), h.cell 2 (by simp), h.cell 3 (by simp), h.cell 4 (by simp), h.cell 5 (by simp), h.cell 6 (by simp), h.cell 7 (by simp), h.cell 8 (by simp)⟩
theorem row9_frozen {w : World} {g : Nat} {t : TypeId} {l : List Int} (h : IRow .i64 w g t l) : w.frozen? ⟨g, 0, none⟩ = false ∧ w.frozen? ⟨g, 1, none⟩ = false ∧ w.frozen? ⟨g, 2, none⟩ = false ∧ w.frozen? ⟨g, 3, none⟩ = false ∧ w.frozen? ⟨g, 4, none⟩ = false ∧ w.frozen? ⟨g, 5, none⟩ = false ∧ w.frozen? ⟨g, 6, none⟩ = false ∧ w.frozen? ⟨g, 7, none⟩ = false ∧ w.frozen? ⟨g, 8, none⟩ = false :=
  ⟨h.frozen 0, h.frozen 1, h.frozen 2, h.frozen 3, h.frozen 4, h.frozen 5, h.frozen 6, h.frozen 7, h.frozen 8⟩
theorem getAll_eight {l : List Int} (h : l.length = 32) : (getAll l).length = 8 ∧ getAll l = nums l := by
  have e : getAll l = nums l := by unfold getAll; rw [if_pos (by omega)]
  exact ⟨by rw [e]; exact nums_len 8 l (by omega), e⟩
set_option maxHeartbeats 800000 in
theorem read_any (b off cap : Nat) (l : List Int) (w : World) (hl : l.length = 36) (hcap : 36 ≤ cap) (hy : Bytes l) (hb : IntsAt .u8 w (some ⟨b, off, none⟩) l) :
    Calls Try.prog 52 #[.slice (some ⟨b, off, none⟩) 36 cap] w fun e w' => e = .returned (.agg (cellsI .i64 (get2v ((l.drop 2).take 2) :: nums (l.drop 4))).toArray) ∧ Below w.heap.size w w' := by
  have hc : ∀ i, i < l.length → w.cell? ⟨b, off + i, none⟩ = some (.int .u8 (l.getD i 0)) := by
    rcases hb with rfl | ⟨b', off', he, hc⟩
    · simp at hl
    · cases he; exact hc
  have hbl : b < w.heap.size := cell_lt (hc 0 (by omega))
  have I2 := Lib.hid (((intsAt_drop 2 hc).take 2).below ((Below.refl w.heap.size w).alloc (Nat.le_refl _) (.cells (cellsI .i64 (List.replicate 9 0)).toArray 92)))
  have I4 := Lib.hid ((intsAt_drop 4 hc).below ((Below.refl w.heap.size w).alloc (Nat.le_refl _) (.cells (cellsI .i64 (List.replicate 9 0)).toArray 92)))
  have y2 : Bytes ((l.drop 2).take 2) := (hy.drop _).take _
  have y4 : Bytes (l.drop 4) := hy.drop _
  have l2 : ((l.drop 2).take 2).length = 2 := by rw [List.length_take, List.length_drop]; omega
  have l4 : (l.drop 4).length = 32 := by rw [List.length_drop]; omega
  obtain ⟨g8, ge⟩ := getAll_eight l4
  have C2 := fun W cp h => get2_any (some ⟨b, off + 2, none⟩) cp ((l.drop 2).take 2) W (by omega) y2 h
  have C4 := fun W cp (hcp : 32 ≤ cp) h => getAll_any (some ⟨b, off + 4, none⟩) cp (l.drop 4) W (by omega) (by omega) y4 h
  rw [l2] at C2
  rw [l4, ge] at C4
  rw [ge] at g8
  clear hc hb hy y2 y4 ge
  generalize get2v ((l.drop 2).take 2) = s at *
  generalize (l.drop 2).take 2 = q2 at *
  generalize get2b q2 = bb at *
  generalize getAllb (l.drop 4) = bb4 at *
  generalize hnum : nums (l.drop 4) = vs at *
  generalize l.drop 4 = q4 at *
  obtain ⟨v0, v1, v2, v3, v4, v5, v6, v7, rfl⟩ := eight vs g8
  have HO := Lib.hid (nine_row w 92)
  have BA := Lib.hid ((Below.refl w.heap.size w).alloc (Nat.le_refl _) (.cells (cellsI .i64 (List.replicate 9 0)).toArray 92))
  go_enter Try.func52, Try.ntmps52
  go_wp2_with (first
    | (go_at_call 62; refine (C2 _ _ I2.out).mono ?_; rintro e w1 ⟨rfl, rfl⟩)
    | (go_at_call 63; refine (C4 _ _ (by omega) I4.out).mono ?_; rintro e w2 ⟨a2, cap2, rfl, i2, b2⟩; have R0 := Lib.hid (HO.out.below b2 (by simp)); have B2 := Lib.hid (BA.out.trans (b2.mono (by simp))); have CL := Lib.hid (laid_any a2 cap2 v0 v1 v2 v3 v4 v5 v6 v7 w2 i2); clear b2 i2)
    | (go_at_call 64; refine CL.out.mono ?_; rintro e w3 ⟨rfl, b3⟩; have R3 := Lib.hid (R0.out.below b3 (by have := B2.out.size; have := R0.out.lt; omega)); have B3 := Lib.hid (grow B2.out b3); clear b3 R0
       obtain ⟨z0, z1, z2, z3, z4, z5, z6, z7, z8⟩ := row9 (show IRow .i64 w3 w.heap.size 92 [0, 0, 0, 0, 0, 0, 0, 0, 0] from R3.out)
       obtain ⟨q0, q1, q2, q3, q4, q5, q6, q7, q8⟩ := row9_frozen R3.out))
  have R4 := stored9 s v0 v1 v2 v3 v4 v5 v6 v7 R3.out
  have B4 := stored9_below (g := w.heap.size) s v0 v1 v2 v3 v4 v5 v6 v7 B3.out (Nat.le_refl _)
  refine bodyPost_ret (v := .agg #[.int .i64 s, .int .i64 v0, .int .i64 v1, .int .i64 v2, .int .i64 v3, .int .i64 v4, .int .i64 v5, .int .i64 v6, .int .i64 v7]) ?_ rfl ⟨rfl, B4⟩
  exact Agg.ret_row (l := [s, v0, v1, v2, v3, v4, v5, v6, v7]) rfl rfl (agg9 _) size9 R4
end Fm
end Go.Proofs.Ytchnnpaebggfdaa
