/-
  Plain mathematics for layer 9 (stuck): a ring of votes in an array, the votes of the last cycles, a run. No Go text is reached here. No conditions.
-/
import Derived.Test.YtpoededbmdffpaaGreatDoorJumpMath
import Derived.Test.YtpoededbmdffpaaGreatDoorOrderMath
import Derived.Test.YtpoededbmdffpaaGreatDoorAppend
namespace Go.Proofs.YtpoededbmdffpaaGreatDoor
set_option maxRecDepth 100000
open Go.RowKit
namespace Sk
/-- May there be such a room? -/
def may (window bound : Int) : Bool := decide (2 ≤ window) && decide (window ≤ 16) && decide (0 ≤ bound) && decide (bound ≤ 2147483647)
theorem may_iff (w b : Int) : may w b = true ↔ 2 ≤ w ∧ w ≤ 16 ∧ 0 ≤ b ∧ b ≤ 2147483647 := by unfold may; simp [and_assoc]
/-- The place of the i-th of n votes in a ring of P places, the next one of which is laid at next. -/
def spot (P next n i : Nat) : Nat := if next + (P - n) + i < P then next + (P - n) + i else next + (P - n) + i - P
def up (P next : Nat) : Nat := if next + 1 = P then 0 else next + 1
/-- The last P of a list. -/
def lastN (P : Nat) (l : List Int) : List Int := l.drop (l.length - P)
theorem lastN_len (P : Nat) (l : List Int) : (lastN P l).length = min P l.length := by unfold lastN; rw [List.length_drop]; omega
theorem lastN_le (P : Nat) (l : List Int) : (lastN P l).length ≤ P := by rw [lastN_len]; omega
theorem lastN_short {P : Nat} {l : List Int} (h : l.length ≤ P) : lastN P l = l := by unfold lastN; rw [show l.length - P = 0 by omega]; rfl
theorem drop_snoc (l : List Int) (x : Int) (k : Nat) (h : k ≤ l.length) : (l ++ [x]).drop k = l.drop k ++ [x] := by
  rw [List.drop_append, show k - l.length = 0 by omega]; rfl
theorem lastN_snoc {P : Nat} (h1 : 1 ≤ P) (l : List Int) (x : Int) : lastN P (lastN P l ++ [x]) = lastN P (l ++ [x]) := by
  by_cases h : l.length < P
  · rw [lastN_short (show l.length ≤ P by omega)]
  · have e1 : (lastN P l).length = P := by rw [lastN_len]; omega
    unfold lastN at e1 ⊢
    rw [List.length_append, e1, List.length_append]
    simp only [List.length_cons, List.length_nil]
    rw [drop_snoc _ _ _ (by omega), drop_snoc _ _ _ (by omega), List.drop_drop]
    congr 2; omega
theorem lastN_one {P : Nat} {V : List Int} (h : V.length < P) (x : Int) : lastN P (V ++ [x]) = V ++ [x] := lastN_short (by simp; omega)
theorem lastN_full {P : Nat} {V : List Int} (h : V.length = P) (x : Int) : lastN P (V ++ [x]) = (V ++ [x]).drop 1 := by
  unfold lastN; congr 1; simp; omega
/-- The ring holds the votes V. -/
structure Ring (P : Nat) (ring : List Int) (next : Nat) (V : List Int) : Prop where
  p1 : 1 ≤ P
  p15 : P ≤ 15
  len : ring.length = 15
  nx : next < P
  le : V.length ≤ P
  at_ : ∀ i, i < V.length → ring.getD (spot P next V.length i) 0 = V.getD i 0
theorem spot_lt {P next n i : Nat} (h1 : next < P) (h2 : i < n) (h3 : n ≤ P) : spot P next n i < P := by unfold spot; split <;> omega
theorem up_lt {P next : Nat} (h : next < P) : up P next < P := by unfold up; split <;> omega
theorem getD_set_ne {l : List Int} {i j : Nat} (x : Int) (h : i ≠ j) : (l.set i x).getD j 0 = l.getD j 0 := by
  simp [List.getD_eq_getElem?_getD, List.getElem?_set_ne h]
theorem getD_set_eq {l : List Int} {i : Nat} (x : Int) (h : i < l.length) : (l.set i x).getD i 0 = x := by
  simp [List.getD_eq_getElem?_getD, h]
theorem getD_app_lt {l r : List Int} {i : Nat} (h : i < l.length) : (l ++ r).getD i 0 = l.getD i 0 := by
  simp [List.getD_eq_getElem?_getD, List.getElem?_append_left h]
theorem getD_app_end (l : List Int) (x : Int) : (l ++ [x]).getD l.length 0 = x := by
  simp [List.getD_eq_getElem?_getD]
theorem getD_drop (l : List Int) (k i : Nat) : (l.drop k).getD i 0 = l.getD (k + i) 0 := by
  simp [List.getD_eq_getElem?_getD]
/-- A vote comes. -/
theorem Ring.vote {P : Nat} {ring : List Int} {next : Nat} {V : List Int} (h : Ring P ring next V) (x : Int) : Ring P (ring.set next x) (up P next) (lastN P (V ++ [x])) := by
  have p1 := h.p1
  have p15 := h.p15
  have hl := h.len
  have nx := h.nx
  have le := h.le
  refine ⟨p1, p15, by simpa using hl, up_lt nx, lastN_le _ _, ?_⟩
  by_cases hlt : V.length < P
  · rw [lastN_one hlt]
    intro i hi
    rw [List.length_append] at hi ⊢
    simp only [List.length_cons, List.length_nil] at hi ⊢
    by_cases hie : i = V.length
    · subst hie
      rw [show spot P (up P next) (V.length + (0 + 1)) V.length = next by unfold spot up; split <;> split <;> omega, getD_set_eq x (by omega), getD_app_end]
    · have e : spot P (up P next) (V.length + (0 + 1)) i = spot P next V.length i := by unfold spot up; split <;> split <;> split <;> omega
      have ne : next ≠ spot P next V.length i := by unfold spot; split <;> omega
      rw [e, getD_set_ne x ne, getD_app_lt (by omega)]
      exact h.at_ i (by omega)
  · have hP : V.length = P := by omega
    rw [lastN_full hP]
    intro i hi
    have e0 : ((V ++ [x]).drop 1).length = P := by simp; omega
    rw [e0] at hi ⊢
    rw [getD_drop]
    by_cases hie : i + 1 = P
    · rw [show spot P (up P next) P i = next by unfold spot up; split <;> split <;> omega, getD_set_eq x (by omega), show 1 + i = V.length by omega, getD_app_end]
    · have e : spot P (up P next) P i = spot P next P (1 + i) := by unfold spot up; split <;> split <;> split <;> omega
      have ne : next ≠ spot P next P (1 + i) := by unfold spot; split <;> omega
      rw [e, getD_set_ne x ne, getD_app_lt (by omega)]
      have := h.at_ (1 + i) (by omega)
      rw [hP] at this
      exact this
theorem Ring.new {P : Nat} (h1 : 1 ≤ P) (h2 : P ≤ 15) : Ring P (List.replicate 15 0) 0 [] := ⟨h1, h2, by simp, by omega, Nat.zero_le _, fun i hi => by simp at hi⟩
/-- The numbers of a room, as they lie. -/
def room (win bound : Int) (ring : List Int) (next n : Int) : List Int := win :: bound :: (ring ++ [next, n])
section
variable {win bound next n : Int} {ring : List Int}
theorem room_len (h : ring.length = 15) : (room win bound ring next n).length = 19 := by simp [room, h]
theorem room_ring (k : Nat) (hk : k < 15) (h : ring.length = 15) : (room win bound ring next n).getD (2 + k) 0 = ring.getD k 0 := by
  unfold room
  rw [Nat.add_comm 2 k]
  simp [List.getD_eq_getElem?_getD, List.getElem?_append_left (show k < ring.length by omega)]
theorem room_next (h : ring.length = 15) : (room win bound ring next n).getD 17 0 = next := by
  unfold room
  rw [List.getD_eq_getElem?_getD, show 17 = (15 + 1) + 1 from rfl, List.getElem?_cons_succ, List.getElem?_cons_succ, List.getElem?_append_right (by omega), h]; rfl
theorem room_count (h : ring.length = 15) : (room win bound ring next n).getD 18 0 = n := by
  unfold room
  rw [List.getD_eq_getElem?_getD, show 18 = (16 + 1) + 1 from rfl, List.getElem?_cons_succ, List.getElem?_cons_succ, List.getElem?_append_right (by omega), h]; rfl
theorem room_set_ring (k : Nat) (hk : k < 15) (h : ring.length = 15) (x : Int) : (room win bound ring next n).set (2 + k) x = room win bound (ring.set k x) next n := by
  unfold room
  rw [Nat.add_comm 2 k, List.set_cons_succ, List.set_cons_succ, List.set_append_left _ _ (by omega)]
theorem room_set_next (h : ring.length = 15) (x : Int) : (room win bound ring next n).set 17 x = room win bound ring x n := by
  unfold room
  rw [show 17 = (15 + 1) + 1 from rfl, List.set_cons_succ, List.set_cons_succ, List.set_append_right _ _ (by omega), h]; rfl
theorem room_set_count (h : ring.length = 15) (x : Int) : (room win bound ring next n).set 18 x = room win bound ring next x := by
  unfold room
  rw [show 18 = (16 + 1) + 1 from rfl, List.set_cons_succ, List.set_cons_succ, List.set_append_right _ _ (by omega), h]; rfl
end
/-- The remainders of the program are these places. -/
theorem up_tmod {P next : Nat} (h : next < P) : ((next : Int) + 1).tmod (P : Int) = (up P next : Int) := by
  rw [show ((next : Int) + 1) = ((next + 1 : Nat) : Int) by omega, ← Int.ofNat_tmod]
  unfold up
  split
  · rename_i e; rw [e, Nat.mod_self]
  · rw [Nat.mod_eq_of_lt (by omega)]
theorem spot_tmod {P next n i : Nat} (h : next < P) (hi : i < n) (hn : n ≤ P) : ((next : Int) - n + i + P).tmod (P : Int) = (spot P next n i : Int) := by
  rw [show ((next : Int) - n + i + P) = ((next + (P - n) + i : Nat) : Int) by omega, ← Int.ofNat_tmod]
  unfold spot
  split
  · rw [Nat.mod_eq_of_lt (by omega)]
  · rw [Nat.mod_eq_sub_mod (by omega), Nat.mod_eq_of_lt (by omega)]
/-- Have the votes moved? -/
def moved (P : Nat) (bound : Int) (V : List Int) : Bool := decide (V.length = P) && decide (bound < Od.spread V)
/-- The run behind a value. -/
def run (win last r n : Int) : Int := min ((if n = last then r else 0) + 1) win
end Sk
end Go.Proofs.YtpoededbmdffpaaGreatDoor
