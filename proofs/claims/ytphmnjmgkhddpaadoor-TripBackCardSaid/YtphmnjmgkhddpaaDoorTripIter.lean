/-
  strings.SplitSeq at the separator '+': its iterator hands over the pieces one by one, to every loop body that leaves the iterator's own three variables as they are. Conditions: none but that.
-/
import Derived.Test.YtphmnjmgkhddpaaDoorTripSeq
import Derived.Test.YtphmnjmgkhddpaaDoorTripMath
import Derived.Test.YtphmnjmgkhddpaaDoorStrShelf
import Derived.Shelf.Abstract
import Derived.Shelf.RegionOpen
import Derived.OwnWalkIn
import Derived.TacticsInMore
import Derived.LoopNIn
import Derived.LoopIn
namespace Go.Proofs.YtphmnjmgkhddpaaDoor
open Go.ChangeShapes Go.WideShapes Go.ChangeAt Go.RowKit Go.Deep Go.Shelf
namespace Tp
attribute [local go_sem] Oper.semAt_some

/-- A text's bytes. -/
def tl (s : ByteArray) : List UInt8 := s.data.toList
def encp (s : ByteArray) : Array Value := #[.string s]
/-- What a round leaves as it is: the three blocks from B on. -/
def Keep (B : Nat) (W W' : World) : Prop := ∀ k, B ≤ k → k < B + 3 → W'.heap[k]? = W.heap[k]?
theorem Keep.refl (B : Nat) (W : World) : Keep B W W := fun _ _ _ => rfl
theorem Keep.trans {B : Nat} {X Y Z : World} (h : Keep B X Y) (k : Keep B Y Z) : Keep B X Z := fun i h1 h2 => (k i h1 h2).trans (h i h1 h2)
theorem Keep.box {B i : Nat} {W W' : World} {t : TypeId} {v : Value} (h : Keep B W W') (hi : i < 3) (b : Boxed W (B + i) t v) : Boxed W' (B + i) t v := (h (B + i) (by omega) (by omega)).trans b
theorem Keep.put {B : Nat} {w : World} (hB : B + 3 ≤ w.heap.size) (X : World) (l : Nat) (o : Obj) (hl : w.heap.size ≤ l) : Keep B X (X.putObj l o) := fun _ _ _ => World.putObj_heap_other (by omega)
theorem Keep.allocs {B : Nat} {w : World} (hB : B + 3 ≤ w.heap.size) (o o' : Obj) : Keep B w ((w.alloc o).alloc o') := fun k _ h2 => by
  have b := ((Below.refl w.heap.size w).alloc (Nat.le_refl _) o).alloc (by simp) o'
  exact b.block k (by omega)

/-- How much is left, in the iterator's own variable. -/
def left (B : Nat) (W : World) : Nat := match W.cell? ⟨B, 0, none⟩ with
  | some (.string s) => s.size
  | _ => 0
theorem left_eq {B : Nat} {W : World} {t : TypeId} {s : ByteArray} (h : Boxed W B t (.string s)) : left B W = s.size := by unfold left; rw [h.cell]

theorem extract_size (r : ByteArray) (m : Nat) : (r.extract m r.size).size = r.size - m := by simp
theorem tl_take (r : ByteArray) (m : Nat) (_ : m ≤ r.size) : tl (r.extract 0 m) = (tl r).take m := by
  unfold tl; simp
theorem tl_drop (r : ByteArray) (m : Nat) : tl (r.extract m r.size) = (tl r).drop m := by
  unfold tl
  have e : r.size = r.data.toList.length := rfl
  simp
  rw [List.take_of_length_le (by rw [List.length_drop, e]; omega)]

set_option maxRecDepth 100000 in
set_option maxHeartbeats 2000000 in
theorem seq1_in (n : Nat) (hn : 2 ≤ n) (l B : Nat) (s : ByteArray) (hs : s.size ≤ 9223372036854775807) (J Jx : List ByteArray → World → Prop) (W : World)
    (hJ : ∀ pre X v, J pre X → J pre (X.setCell ⟨B, 0, none⟩ v))
    (hY : ∀ pre x X, J pre X → pre.length < (pcs (tl s)).length → YieldAt Fence.wide (n - 1) Tryd.prog l (encp x) X fun e X' =>
      (e = .returned (.bool true) ∧ J (pre ++ [x]) X' ∧ Keep B X X') ∨ (e = .returned (.bool false) ∧ Jx (pre ++ [x]) X'))
    (b0 : Boxed W B 9 (.string s)) (b1 : Boxed W (B + 1) 9 (.string ⟨#[43]⟩)) (b2 : Boxed W (B + 1 + 1) 3 (.int .i64 0)) (h0 : J [] W) :
    CallsIn Fence.wide n Tryd.prog 26 #[.func (.yield l) #[] #[], .pointer (some ⟨B + 1, 0, none⟩), .pointer (some ⟨B, 0, none⟩), .pointer (some ⟨B + 1 + 1, 0, none⟩)] W fun e W' => (∃ v, e = .returned v) ∧
      ((∃ xs, xs.map tl = pcs (tl s) ∧ J xs W') ∨ (∃ pre, pre.map tl <+: pcs (tl s) ∧ Jx pre W')) := by
  have hn1 : 1 ≤ n := by omega
  have c1 := b1.cell
  refine callsIn_of_wp Tryd.func26 rfl trivial ?_ rfl
  simp only [Tryd.ntmps26, List.size_toArray, List.length_cons, List.length_nil, Nat.reduceAdd, Nat.reduceSub, Array.replicate_succ, Array.replicate_zero, List.push_toArray, List.append_toArray, List.nil_append, List.cons_append]
  gi_wp2
  gi_loopw [7] (fun _ wr => ∃ (pre : List ByteArray) (r : ByteArray), r.size ≤ s.size ∧ pre.map tl ++ pcs (tl r) = pcs (tl s) ∧ J pre wr ∧ Boxed wr B 9 (.string r) ∧ Boxed wr (B + 1) 9 (.string ⟨#[43]⟩) ∧ Boxed wr (B + 1 + 1) 3 (.int .i64 0))
    (fun _ wr => left B wr)
  case atStart => exact ⟨[], s, Nat.le_refl _, rfl, h0, b0, b1, b2⟩
  case round =>
    obtain ⟨pre, r, hrs, hp, hj, e0, e1, e2⟩ := hrel
    have x0 := e0.cell
    have x1 := e1.cell
    have x2 := e2.cell
    have f0 := e0.frozen
    have hlen : pre.length < (pcs (tl s)).length := by
      have := congrArg List.length hp
      have h2 := List.length_pos_iff.2 (pcs_ne (tl r))
      simp at this; omega
    have CI := Sh.strings_Index_one r 43 wr
    have hge := Lib.indexByte_ge (tl r) 43
    by_cases hm : Lib.indexByte (tl r) 43 = -1
    · have hl := pcs_none _ hm
      have CI : Calls Tryd.prog 28 #[.string r, .string ⟨#[43]⟩] wr fun e w' => e = .returned (.int .i64 (-1)) ∧ w' = wr := by
        have := CI; unfold tl at hm; rw [hm] at this; exact this
      obtain ⟨fn, tmps, assign, body, hy, hYR⟩ := hY pre r wr hj hlen
      dsimp only [encp] at hy
      gi_wp2_with (refine ⟨trivial, ?_⟩; gi_at_call 28; refine (callsIn_wide.2 CI).mono ?_; rintro e w2 ⟨rfl, rfl⟩)
      refine hYR.mono ?_
      rintro e W3 (⟨rfl, hj3, _⟩ | ⟨rfl, hx3⟩)
      · gi_wp2
        go_end0
        exact ⟨⟨_, rfl⟩, .inl ⟨pre ++ [r], by rw [List.map_append, ← hp, hl]; rfl, hj3⟩⟩
      · gi_wp2
        go_end0
        exact ⟨⟨_, rfl⟩, .inr ⟨pre ++ [r], by rw [List.map_append, ← hp, hl]; exact List.prefix_rfl, hx3⟩⟩
    · obtain ⟨m, hk⟩ : ∃ m : Nat, Lib.indexByte (tl r) 43 = m := ⟨(Lib.indexByte (tl r) 43).toNat, by omega⟩
      obtain ⟨hl1, hl2⟩ := pcs_some _ _ hk
      have CI : Calls Tryd.prog 28 #[.string r, .string ⟨#[43]⟩] wr fun e w' => e = .returned (.int .i64 (m : Int)) ∧ w' = wr := by
        have := CI; unfold tl at hk; rw [hk] at this; exact this
      have hmr : m < r.size := hl1
      have hmi : (m : Int) < r.size := by omega
      have hw0 : wrap64 (m : Int) = m := by unfold wrap64; omega
      have hw1 : wrap64 ((m : Int) + 1) = m + 1 := by unfold wrap64; omega
      obtain ⟨fn, tmps, assign, body, hy, hYR⟩ := hY pre (r.extract 0 m) wr hj hlen
      dsimp only [encp] at hy
      gi_wp2_with (refine ⟨trivial, ?_⟩; gi_at_call 28; refine (callsIn_wide.2 CI).mono ?_; rintro e w2 ⟨rfl, rfl⟩)
      refine hYR.mono ?_
      rintro e W3 (⟨rfl, hj3, hk3⟩ | ⟨rfl, hx3⟩)
      · have y0 : Boxed W3 B 9 (.string r) := hk3.box (i := 0) (by omega) e0
        have y1 : Boxed W3 (B + 1) 9 (.string ⟨#[43]⟩) := hk3.box (i := 1) (by omega) e1
        have y2 : Boxed W3 (B + 1 + 1) 3 (.int .i64 0) := hk3.box (i := 2) (by omega) e2
        have z0 := y0.cell
        have z1 := y1.cell
        have z2 := y2.cell
        have g0 := y0.frozen
        gi_wp2
        go_roundw
        case rel => exact ⟨pre ++ [r.extract 0 m], r.extract (m + 1) r.size, by rw [extract_size]; omega, by rw [List.map_append, List.append_assoc, ← hp, hl2, List.map_cons, List.map_nil, tl_take r m (by omega), tl_drop r (m + 1)]; rfl, hJ _ _ _ hj3, y0.set _, y1.other (by omega) _, y2.other (by omega) _⟩
        case measure =>
          rw [left_eq e0, left_eq (y0.set _), extract_size]; omega
      · gi_wp2
        refine bodyPost_ret (results_none rfl _ _ _) rfl ?_
        exact ⟨⟨_, rfl⟩, .inr ⟨pre ++ [r.extract 0 m], ⟨pcs ((tl r).drop (m + 1)), by rw [List.map_append, List.append_assoc, ← hp, hl2, List.map_cons, List.map_nil, tl_take r m (by omega)]; rfl⟩, hx3⟩⟩

/-- The iterator's value, at the world in which its three variables lie. -/
theorem seq_sets (n : Nat) (hn : 2 ≤ n) (B : Nat) (s : ByteArray) (hs : s.size ≤ 9223372036854775807) (w : World) (b0 : Boxed w B 9 (.string s)) (b1 : Boxed w (B + 1) 9 (.string ⟨#[43]⟩)) (b2 : Boxed w (B + 1 + 1) 3 (.int .i64 0)) :
    Sq.Sets Fence.wide n Tryd.prog 26 #[.pointer (some ⟨B + 1, 0, none⟩), .pointer (some ⟨B, 0, none⟩), .pointer (some ⟨B + 1 + 1, 0, none⟩)] encp B (Keep B) (fun xs => xs.map tl = pcs (tl s)) (fun pre => pre.map tl <+: pcs (tl s)) (pcs (tl s)).length w :=
  fun l J Jx W hW hJ hY h0 => seq1_in n hn l B s hs J Jx W hJ hY (hW.box (i := 0) (by omega) b0) (hW.box (i := 1) (by omega) b1) (hW.box (i := 2) (by omega) b2) h0

theorem split1_any (s : ByteArray) (w : World) :
    Calls Tryd.prog 21 #[.string s, .string ⟨#[43]⟩, .int .i64 0] w fun e w' => e = .returned (.func (.func 26) #[] #[.pointer (some ⟨w.heap.size + 1, 0, none⟩), .pointer (some ⟨w.heap.size, 0, none⟩), .pointer (some ⟨w.heap.size + 1 + 1, 0, none⟩)]) ∧
      w' = ((w.alloc (.cells #[.string s] 9)).alloc (.cells #[.string ⟨#[43]⟩] 9)).alloc (.cells #[.int .i64 0] 3) := by
  go_enter Tryd.func21, Tryd.ntmps21
  go_wp2
  go_ret
  exact ⟨rfl, rfl⟩
theorem split_any (s : ByteArray) (w : World) :
    Calls Tryd.prog 14 #[.string s, .string ⟨#[43]⟩] w fun e w' => e = .returned (.func (.func 26) #[] #[.pointer (some ⟨w.heap.size + 1, 0, none⟩), .pointer (some ⟨w.heap.size, 0, none⟩), .pointer (some ⟨w.heap.size + 1 + 1, 0, none⟩)]) ∧
      w' = ((w.alloc (.cells #[.string s] 9)).alloc (.cells #[.string ⟨#[43]⟩] 9)).alloc (.cells #[.int .i64 0] 3) := by
  go_enter Tryd.func14, Tryd.ntmps14
  go_wp2_with (go_at_call 21; refine (split1_any _ _).mono ?_; rintro e w' ⟨rfl, rfl⟩)
  go_ret
  exact ⟨rfl, rfl⟩
end Tp
end Go.Proofs.YtphmnjmgkhddpaaDoor
