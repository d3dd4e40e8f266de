/-
  Plain mathematics for layer 9 (stuck): a ring of votes in an array, the votes of the last cycles, a run. No Go text is reached here. No conditions.
  What package drift tells, as functions of numbers; how a level comes to a difference that stays. No Go text is reached here. No conditions.
  What package equal tells, as functions of numbers. No Go text is reached here. No conditions.
  Plain mathematics for the law OrderMidst: where the mid of one to four numbers lies. No Go text is reached here. No conditions.
  What package vote tells, as functions of numbers and lists. No Go text is reached here. No conditions.
  Plain mathematics for layer 13 (parity): residues, and which value is the suspect one. No Go text is reached here. No conditions.
-/
import Derived.Test.YtacclmfbkiadbaaGreatJAgg5
import Derived.Test.YtacclmfbkiadbaaGreatJFixMath3
namespace Go.Proofs.YtacclmfbkiadbaaGreat
set_option maxRecDepth 100000
open Go.RowKit
namespace Sk
/-- May there be such a room? -/
def may (window bound : Int) : Bool := decide (2 ≤ window) && decide (window ≤ 16) && decide (0 ≤ bound) && decide (bound ≤ 2147483647)
theorem may_iff (w b : Int) : may w b = true ↔ 2 ≤ w ∧ w ≤ 16 ∧ 0 ≤ b ∧ b ≤ 2147483647 := by unfold may; simp [and_assoc]
/-- The place of the i-th of n votes in a ring of P places, the next one of which is laid at next. -/
def spot (P next n i : Nat) : Nat := if next + (P - n) + i < P then next + (P - n) + i else next + (P - n) + i - P
def up (P next : Nat) : Nat := if next + 1 = P then 0 else next + 1
/-- The last P of a list. -/
def lastN (P : Nat) (l : List Int) : List Int := l.drop (l.length - P)
theorem lastN_len (P : Nat) (l : List Int) : (lastN P l).length = min P l.length := by unfold lastN; rw [List.length_drop]; omega
theorem lastN_le (P : Nat) (l : List Int) : (lastN P l).length ≤ P := by rw [lastN_len]; omega
theorem lastN_short {P : Nat} {l : List Int} (h : l.length ≤ P) : lastN P l = l := by unfold lastN; rw [show l.length - P = 0 by omega]; rfl
theorem drop_snoc (l : List Int) (x : Int) (k : Nat) (h : k ≤ l.length) : (l ++ [x]).drop k = l.drop k ++ [x] := by
  rw [List.drop_append, show k - l.length = 0 by omega]; rfl
theorem lastN_snoc {P : Nat} (h1 : 1 ≤ P) (l : List Int) (x : Int) : lastN P (lastN P l ++ [x]) = lastN P (l ++ [x]) := by
  by_cases h : l.length < P
  · rw [lastN_short (show l.length ≤ P by omega)]
  · have e1 : (lastN P l).length = P := by rw [lastN_len]; omega
    unfold lastN at e1 ⊢
    rw [List.length_append, e1, List.length_append]
    simp only [List.length_cons, List.length_nil]
    rw [drop_snoc _ _ _ (by omega), drop_snoc _ _ _ (by omega), List.drop_drop]
    congr 2; omega
theorem lastN_one {P : Nat} {V : List Int} (h : V.length < P) (x : Int) : lastN P (V ++ [x]) = V ++ [x] := lastN_short (by simp; omega)
theorem lastN_full {P : Nat} {V : List Int} (h : V.length = P) (x : Int) : lastN P (V ++ [x]) = (V ++ [x]).drop 1 := by
  unfold lastN; congr 1; simp; omega
/-- The ring holds the votes V. -/
structure Ring (P : Nat) (ring : List Int) (next : Nat) (V : List Int) : Prop where
  p1 : 1 ≤ P
  p15 : P ≤ 15
  len : ring.length = 15
  nx : next < P
  le : V.length ≤ P
  at_ : ∀ i, i < V.length → ring.getD (spot P next V.length i) 0 = V.getD i 0
theorem spot_lt {P next n i : Nat} (h1 : next < P) (h2 : i < n) (h3 : n ≤ P) : spot P next n i < P := by unfold spot; split <;> omega
theorem up_lt {P next : Nat} (h : next < P) : up P next < P := by unfold up; split <;> omega
theorem getD_set_ne {l : List Int} {i j : Nat} (x : Int) (h : i ≠ j) : (l.set i x).getD j 0 = l.getD j 0 := by
  simp [List.getD_eq_getElem?_getD, List.getElem?_set_ne h]
theorem getD_set_eq {l : List Int} {i : Nat} (x : Int) (h : i < l.length) : (l.set i x).getD i 0 = x := by
  simp [List.getD_eq_getElem?_getD, h]
theorem getD_app_lt {l r : List Int} {i : Nat} (h : i < l.length) : (l ++ r).getD i 0 = l.getD i 0 := by
  simp [List.getD_eq_getElem?_getD, List.getElem?_append_left h]
theorem getD_app_end (l : List Int) (x : Int) : (l ++ [x]).getD l.length 0 = x := by
  simp [List.getD_eq_getElem?_getD]
theorem getD_drop (l : List Int) (k i : Nat) : (l.drop k).getD i 0 = l.getD (k + i) 0 := by
  simp [List.getD_eq_getElem?_getD]
/-- A vote comes. -/
theorem Ring.vote {P : Nat} {ring : List Int} {next : Nat} {V : List Int} (h : Ring P ring next V) (x : Int) : Ring P (ring.set next x) (up P next) (lastN P (V ++ [x])) := by
  have p1 := h.p1
  have p15 := h.p15
  have hl := h.len
  have nx := h.nx
  have le := h.le
  refine ⟨p1, p15, by simpa using hl, up_lt nx, lastN_le _ _, ?_⟩
  by_cases hlt : V.length < P
  · rw [lastN_one hlt]
    intro i hi
    rw [List.length_append] at hi ⊢
    simp only [List.length_cons, List.length_nil] at hi ⊢
    by_cases hie : i = V.length
    · subst hie
      rw [show spot P (up P next) (V.length + (0 + 1)) V.length = next by unfold spot up; split <;> split <;> omega, getD_set_eq x (by omega), getD_app_end]
    · have e : spot P (up P next) (V.length + (0 + 1)) i = spot P next V.length i := by unfold spot up; split <;> split <;> split <;> omega
      have ne : next ≠ spot P next V.length i := by unfold spot; split <;> omega
      rw [e, getD_set_ne x ne, getD_app_lt (by omega)]
      exact h.at_ i (by omega)
  · have hP : V.length = P := by omega
    rw [lastN_full hP]
    intro i hi
    have e0 : ((V ++ [x]).drop 1).length = P := by simp; omega
    rw [e0] at hi ⊢
    rw [getD_drop]
    by_cases hie : i + 1 = P
    · rw [show spot P (up P next) P i = next by unfold spot up; split <;> split <;> omega, getD_set_eq x (by omega), show 1 + i = V.length by omega, getD_app_end]
    · have e : spot P (up P next) P i = spot P next P (1 + i) := by unfold spot up; split <;> split <;> split <;> omega
      have ne : next ≠ spot P next P (1 + i) := by unfold spot; split <;> omega
      rw [e, getD_set_ne x ne, getD_app_lt (by omega)]
      have := h.at_ (1 + i) (by omega)
      rw [hP] at this
      exact this
theorem Ring.new {P : Nat} (h1 : 1 ≤ P) (h2 : P ≤ 15) : Ring P (List.replicate 15 0) 0 [] := ⟨h1, h2, by simp, by omega, Nat.zero_le _, fun i hi => by simp at hi⟩
/-- The numbers of a room, as they lie. -/
def room (win bound : Int) (ring : List Int) (next n : Int) : List Int := win :: bound :: (ring ++ [next, n])
section
variable {win bound next n : Int} {ring : List Int}
theorem room_len (h : ring.length = 15) : (room win bound ring next n).length = 19 := by simp [room, h]
theorem room_ring (k : Nat) (hk : k < 15) (h : ring.length = 15) : (room win bound ring next n).getD (2 + k) 0 = ring.getD k 0 := by
  unfold room
  rw [Nat.add_comm 2 k]
  simp [List.getD_eq_getElem?_getD, List.getElem?_append_left (show k < ring.length by omega)]
theorem room_next (h : ring.length = 15) : (room win bound ring next n).getD 17 0 = next := by
  unfold room
  rw [List.getD_eq_getElem?_getD, show 17 = (15 + 1) + 1 from rfl, List.getElem?_cons_succ, List.getElem?_cons_succ, List.getElem?_append_right (by omega), h]; rfl
theorem room_count (h : ring.length = 15) : (room win bound ring next n).getD 18 0 = n := by
  unfold room
  rw [List.getD_eq_getElem?_getD, show 18 = (16 + 1) + 1 from rfl, List.getElem?_cons_succ, List.getElem?_cons_succ, List.getElem?_append_right (by omega), h]; rfl
theorem room_set_ring (k : Nat) (hk : k < 15) (h : ring.length = 15) (x : Int) : (room win bound ring next n).set (2 + k) x = room win bound (ring.set k x) next n := by
  unfold room
  rw [Nat.add_comm 2 k, List.set_cons_succ, List.set_cons_succ, List.set_append_left _ _ (by omega)]
theorem room_set_next (h : ring.length = 15) (x : Int) : (room win bound ring next n).set 17 x = room win bound ring x n := by
  unfold room
  rw [show 17 = (15 + 1) + 1 from rfl, List.set_cons_succ, List.set_cons_succ, List.set_append_right _ _ (by omega), h]; rfl
theorem room_set_count (h : ring.length = 15) (x : Int) : (room win bound ring next n).set 18 x = room win bound ring next x := by
  unfold room
  rw [show 18 = (16 + 1) + 1 from rfl, List.set_cons_succ, List.set_cons_succ, List.set_append_right _ _ (by omega), h]; rfl
end
/-- The remainders of the program are these places. -/
theorem up_tmod {P next : Nat} (h : next < P) : ((next : Int) + 1).tmod (P : Int) = (up P next : Int) := by
  rw [show ((next : Int) + 1) = ((next + 1 : Nat) : Int) by omega, ← Int.ofNat_tmod]
  unfold up
  split
  · rename_i e; rw [e, Nat.mod_self]
  · rw [Nat.mod_eq_of_lt (by omega)]
theorem spot_tmod {P next n i : Nat} (h : next < P) (hi : i < n) (hn : n ≤ P) : ((next : Int) - n + i + P).tmod (P : Int) = (spot P next n i : Int) := by
  rw [show ((next : Int) - n + i + P) = ((next + (P - n) + i : Nat) : Int) by omega, ← Int.ofNat_tmod]
  unfold spot
  split
  · rw [Nat.mod_eq_of_lt (by omega)]
  · rw [Nat.mod_eq_sub_mod (by omega), Nat.mod_eq_of_lt (by omega)]
/-- Have the votes moved? -/
def moved (P : Nat) (bound : Int) (V : List Int) : Bool := decide (V.length = P) && decide (bound < Od.spread V)
/-- The run behind a value. -/
def run (win last r n : Int) : Int := min ((if n = last then r else 0) + 1) win
end Sk
end Go.Proofs.YtacclmfbkiadbaaGreat

namespace Go.Proofs.YtacclmfbkiadbaaGreat
set_option maxRecDepth 100000
namespace Dr
open Fx
/-- May a number be a difference? -/
def dif (d : Int) : Bool := decide (-4294967296 ≤ d) && decide (d ≤ 4294967296)
/-- May there be such a filter? -/
def may (lag bound : Int) : Bool := decide (0 ≤ lag) && decide (lag ≤ 8) && decide (0 ≤ bound) && decide (bound ≤ 2147483647)
/-- The level behind a difference. -/
def nx (lag level d : Int) : Int := if dif d = true then level + shift (d - level) lag else level
def ce (d : Int) : Int := if dif d = true then 0 else 1
/-- Is a level over a bound? -/
def ov (bound level : Int) : Bool := decide (bound < level) || decide (level < -bound)
/-- The cells of a filter. -/
def fil (lag bound level : Int) : List Value := [.int .i64 bound, .int .i64 lag, .int .i64 level]
theorem dif_iff (d : Int) : dif d = true ↔ -4294967296 ≤ d ∧ d ≤ 4294967296 := by unfold dif; simp
theorem may_iff (lag bound : Int) : may lag bound = true ↔ 0 ≤ lag ∧ lag ≤ 8 ∧ 0 ≤ bound ∧ bound ≤ 2147483647 := by
  unfold may; simp only [Bool.and_eq_true, decide_eq_true_eq, and_assoc]
theorem ce_yes {d : Int} (h : dif d = true) : ce d = 0 := if_pos h
theorem ce_no {d : Int} (h : dif d = false) : ce d = 1 := if_neg (by rw [h]; decide)
theorem nx_yes {lag level d : Int} (h : dif d = true) : nx lag level d = level + shift (d - level) lag := if_pos h
theorem nx_no {lag level d : Int} (h : dif d = false) : nx lag level d = level := if_neg (by rw [h]; decide)
/-- A quotient lies between 0 and what is divided. -/
theorem div_between (n b : Int) (hb : 1 ≤ b) : (0 ≤ n → 0 ≤ n / b ∧ n / b ≤ n) ∧ (n < 0 → n ≤ n / b ∧ n / b ≤ -1) := by
  refine ⟨fun h => div_bd n b hb h, fun h => ?_⟩
  rw [div_up n b hb]
  have h1 : (0 : Int) ≤ b - 1 - n := by omega
  have h2 := Int.ediv_nonneg h1 (show 0 ≤ b by omega)
  have h3 : 1 ≤ (b - 1 - n) / b := (Int.le_ediv_iff_mul_le (by omega)).2 (by omega)
  have h4 : (b - 1 - n) / b < -n + 1 := by
    refine (Int.ediv_lt_iff_lt_mul (by omega)).2 ?_
    have : (-n + 1) * b = -n * (b - 1) + -n + b := by rw [Int.add_mul, Int.mul_sub]; omega
    have h5 : 0 ≤ -n * (b - 1) := Int.mul_nonneg (by omega) (by omega)
    omega
  omega
theorem shift_small {n lag : Int} (hn : -8589934592 ≤ n ∧ n ≤ 8589934592) (h0 : 0 ≤ lag) (h8 : lag ≤ 8) : shift n lag = n / 2 ^ lag.toNat := by
  unfold shift; rw [if_pos ⟨(sm_iff n).2 (by omega), h0, by omega⟩]
/-- The level behind a difference lies between what it was, and the difference. -/
theorem nx_between {lag level d : Int} (hl : -4294967296 ≤ level ∧ level ≤ 4294967296) (hd : dif d = true) (h0 : 0 ≤ lag) (h8 : lag ≤ 8) :
    (level ≤ d → level ≤ nx lag level d ∧ nx lag level d ≤ d) ∧ (d < level → d ≤ nx lag level d ∧ nx lag level d ≤ level - 1) := by
  have hd' := (dif_iff d).1 hd
  rw [nx_yes hd, shift_small (by omega) h0 h8]
  have h := div_between (d - level) (2 ^ lag.toNat) (pow_pos2 _)
  exact ⟨fun q => by have := h.1 (by omega); omega, fun q => by have := h.2 (by omega); omega⟩
theorem nx_level {lag level d : Int} (hl : -4294967296 ≤ level ∧ level ≤ 4294967296) (h0 : 0 ≤ lag) (h8 : lag ≤ 8) : -4294967296 ≤ nx lag level d ∧ nx lag level d ≤ 4294967296 := by
  cases hd : dif d
  · rw [nx_no hd]; exact hl
  · have h := nx_between hl hd h0 h8
    have hd' := (dif_iff d).1 hd
    by_cases q : level ≤ d
    · have := h.1 q; omega
    · have := h.2 (by omega); omega
theorem apart_zero {level : Int} (hl : -4294967296 ≤ level ∧ level ≤ 4294967296) : apart level 0 = if level < 0 then 0 - level else level - 0 := by
  unfold apart; rw [if_pos ⟨(sm_iff _).2 (by omega), (sm_iff _).2 (by omega)⟩]
theorem ov_apart {bound level : Int} (hl : -4294967296 ≤ level ∧ level ≤ 4294967296) (h0 : 0 ≤ bound) : ov bound level = decide (bound < apart level 0) := by
  rw [apart_zero hl]
  unfold ov
  split
  · rw [show decide (bound < level) = false by simp; omega, Bool.false_or]
    exact decide_eq_decide.2 (by omega)
  · rw [show decide (level < -bound) = false by simp; omega, Bool.or_false]
    exact decide_eq_decide.2 (by omega)
end Dr
end Go.Proofs.YtacclmfbkiadbaaGreat

namespace Go.Proofs.YtacclmfbkiadbaaGreat
set_option maxRecDepth 100000
namespace Ql
open Fx
open Jp (val val_iff val_no out)
/-- May there be such a trim? -/
def may (auth gain : Int) : Bool := decide (0 ≤ auth) && decide (auth ≤ 2147483647) && decide (0 ≤ gain) && decide (gain ≤ 8)
/-- Are both values? -/
def both (n vote : Int) : Bool := val n && val vote
/-- A number, at most so far from 0. -/
def lim (a x : Int) : Int := if a < x then a else if x < -a then -a else x
/-- The offset behind a value, and a vote. -/
def nx (auth gain offset n vote : Int) : Int := if both n vote = true then lim auth (offset + shift (n - vote - offset) gain) else offset
def ce (n vote : Int) : Int := if both n vote = true then 0 else 1
/-- What is even of a value. -/
def ev (offset n : Int) : Int := if val n = true then n - offset else 0
def ee (n : Int) : Int := if val n = true then 0 else 1
/-- The cells of a trim. -/
def tri (auth gain offset : Int) : List Value := [.int .i64 auth, .int .i64 gain, .int .i64 offset]
theorem may_iff (auth gain : Int) : may auth gain = true ↔ 0 ≤ auth ∧ auth ≤ 2147483647 ∧ 0 ≤ gain ∧ gain ≤ 8 := by
  unfold may; simp only [Bool.and_eq_true, decide_eq_true_eq, and_assoc]
theorem may_outs (auth gain : Int) : may auth gain = (!out 0 2147483647 auth && !out 0 8 gain) := by
  rw [Bool.eq_iff_iff, may_iff]
  unfold out
  first | (simp; done) | (simp; omega)
theorem val_out (n : Int) : out (-2147483648) 2147483647 n = !val n := by
  unfold out val
  rw [Bool.eq_iff_iff]
  first | (simp; done) | (simp; omega)
theorem both_iff (n vote : Int) : both n vote = true ↔ val n = true ∧ val vote = true := by unfold both; simp
theorem both_outs (n vote : Int) : [n, vote].any (out (-2147483648) 2147483647) = !both n vote := by
  unfold both
  simp [val_out]
theorem one_out (lo hi n : Int) : [n].any (out lo hi) = out lo hi n := by simp
theorem nx_yes {auth gain offset n vote : Int} (h : both n vote = true) : nx auth gain offset n vote = lim auth (offset + shift (n - vote - offset) gain) := if_pos h
theorem nx_no {auth gain offset n vote : Int} (h : both n vote = false) : nx auth gain offset n vote = offset := if_neg (by rw [h]; decide)
theorem ce_yes {n vote : Int} (h : both n vote = true) : ce n vote = 0 := if_pos h
theorem ce_no {n vote : Int} (h : both n vote = false) : ce n vote = 1 := if_neg (by rw [h]; decide)
theorem ev_yes {offset n : Int} (h : val n = true) : ev offset n = n - offset := if_pos h
theorem ev_no {offset n : Int} (h : val n = false) : ev offset n = 0 := if_neg (by rw [h]; decide)
theorem ee_yes {n : Int} (h : val n = true) : ee n = 0 := if_pos h
theorem ee_no {n : Int} (h : val n = false) : ee n = 1 := if_neg (by rw [h]; decide)
theorem lim_bd {a : Int} (h : 0 ≤ a) (x : Int) : -a ≤ lim a x ∧ lim a x ≤ a := by
  unfold lim; split
  · omega
  · split <;> omega
theorem lim_cases (a x : Int) : lim a x = a ∨ lim a x = -a ∨ lim a x = x := by
  unfold lim; split
  · exact Or.inl rfl
  · split
    · exact Or.inr (Or.inl rfl)
    · exact Or.inr (Or.inr rfl)
/-- The program's words of it: a number clamped. -/
theorem lim_clamp {a x : Int} (h0 : 0 ≤ a) (h1 : a ≤ 2147483647) (hx : -8589934592 ≤ x ∧ x ≤ 8589934592) : clamp x (-a) a = lim a x := by
  unfold clamp
  rw [if_pos ⟨(sm_iff _).2 (by omega), (sm_iff _).2 (by omega), (sm_iff _).2 (by omega)⟩]
  unfold within lim
  split
  · rw [if_neg (by omega)]
    split
    · rfl
    · omega
  · split
    · rfl
    · rw [if_neg (by omega)]
theorem nx_bd {auth offset : Int} (gain n vote : Int) (h : 0 ≤ auth) (ho : -auth ≤ offset ∧ offset ≤ auth) : -auth ≤ nx auth gain offset n vote ∧ nx auth gain offset n vote ≤ auth := by
  cases hb : both n vote
  · rw [nx_no hb]; exact ho
  · rw [nx_yes hb]; exact lim_bd h _
/-- How far a value is from the vote, less the offset: shifted, it lies between 0 and it. -/
theorem step_between {gain offset n vote : Int} (hg : 0 ≤ gain ∧ gain ≤ 8) (ho : -2147483647 ≤ offset ∧ offset ≤ 2147483647) (hb : both n vote = true) :
    (offset ≤ n - vote → offset ≤ offset + shift (n - vote - offset) gain ∧ offset + shift (n - vote - offset) gain ≤ n - vote) ∧
    (n - vote < offset → n - vote ≤ offset + shift (n - vote - offset) gain ∧ offset + shift (n - vote - offset) gain ≤ offset) := by
  obtain ⟨h1, h2⟩ := (both_iff _ _).1 hb
  have v1 := (val_iff _).1 h1
  have v2 := (val_iff _).1 h2
  rw [Dr.shift_small (by omega) hg.1 hg.2]
  have h := Dr.div_between (n - vote - offset) (2 ^ gain.toNat) (pow_pos2 _)
  exact ⟨fun q => by have := h.1 (by omega); omega, fun q => by have := h.2 (by omega); omega⟩
theorem step_bd {gain offset n vote : Int} (hg : 0 ≤ gain ∧ gain ≤ 8) (ho : -2147483647 ≤ offset ∧ offset ≤ 2147483647) (hb : both n vote = true) :
    -4294967295 ≤ offset + shift (n - vote - offset) gain ∧ offset + shift (n - vote - offset) gain ≤ 4294967295 := by
  obtain ⟨h1, h2⟩ := (both_iff _ _).1 hb
  have v1 := (val_iff _).1 h1
  have v2 := (val_iff _).1 h2
  have h := step_between hg ho hb
  by_cases q : offset ≤ n - vote
  · have := h.1 q; omega
  · have := h.2 (by omega); omega
/-- The offset moves towards how far value and vote are apart, or to its bound. -/
theorem nx_between {auth gain offset n vote : Int} (hg : 0 ≤ gain ∧ gain ≤ 8) (ho : -2147483647 ≤ offset ∧ offset ≤ 2147483647) (hb : both n vote = true) :
    (nx auth gain offset n vote = auth ∨ nx auth gain offset n vote = -auth ∨ (min offset (n - vote) ≤ nx auth gain offset n vote ∧ nx auth gain offset n vote ≤ max offset (n - vote))) := by
  rw [nx_yes hb]
  have h := step_between hg ho hb
  rcases lim_cases auth (offset + shift (n - vote - offset) gain) with q | q | q
  · exact Or.inl q
  · exact Or.inr (Or.inl q)
  · refine Or.inr (Or.inr ?_)
    rw [q]
    by_cases r : offset ≤ n - vote
    · have := h.1 r; omega
    · have := h.2 (by omega); omega
end Ql
end Go.Proofs.YtacclmfbkiadbaaGreat

namespace Go.Proofs.YtacclmfbkiadbaaGreat
set_option maxRecDepth 100000
open Go.RowKit
namespace Od
open Fx
theorem midOf_in {s : List Int} (hu : Up s) (h1 : 1 ≤ s.length) (h4 : s.length ≤ 4) : s.getD 0 0 ≤ midOf s ∧ midOf s ≤ s.getD (s.length - 1) 0 := by
  have a1 := up_getD hu (i := 0) (j := (s.length - 1) / 2) (by omega) (by omega)
  have a2 := up_getD hu (i := (s.length - 1) / 2) (j := s.length / 2) (by omega) (by omega)
  have a3 := up_getD hu (i := s.length / 2) (j := s.length - 1) (by omega) (by omega)
  unfold midOf; omega
theorem mid_in {l : List Int} (hk : ok l = true) (h1 : 1 ≤ l.length) (h4 : l.length ≤ 4) : (srt l).getD 0 0 ≤ midv l ∧ midv l ≤ (srt l).getD (l.length - 1) 0 := by
  have := midOf_in (srt_up l) (by rw [srt_len]; exact h1) (by rw [srt_len]; exact h4)
  rw [srt_len] at this
  unfold midv; rw [if_pos (midb_yes hk h1 h4)]; exact this
end Od
end Go.Proofs.YtacclmfbkiadbaaGreat

namespace Go.Proofs.YtacclmfbkiadbaaGreat
set_option maxRecDepth 100000
open Go.RowKit
namespace Vo
open Fx Od
/-- Is a number between two? -/
def inr (a b n : Int) : Bool := decide (a ≤ n) && decide (n ≤ b)
/-- May there be such a rule? -/
def rmay (lo hi clip : Int) : Bool := inr (-2147483648) 2147483647 lo && inr lo 2147483647 hi && inr 0 2147483647 clip
/-- May there be such a value, with such a weight? -/
def okp (x u : Int) : Bool := inr (-4294967296) 4294967296 x && inr 1 16 u
/-- The first so many may be. -/
def okk (V U : List Int) : Nat → Bool
  | 0 => true
  | k + 1 => okk V U k && okp (V.getD k 0) (U.getD k 0)
def fits (V U : List Int) : Bool := decide (V.length = U.length) && okk V U V.length
/-- A value, at most so far from the mid. -/
def cl (mid clip x : Int) : Int := within x (mid - clip) (mid + clip)
def sumk (mid clip : Int) (V U : List Int) : Nat → Int
  | 0 => 0
  | k + 1 => sumk mid clip V U k + U.getD k 0 * cl mid clip (V.getD k 0)
def allk (U : List Int) : Nat → Int
  | 0 => 0
  | k + 1 => allk U k + U.getD k 0
def meanv (mid clip : Int) (V U : List Int) : Int := sumk mid clip V U V.length / allk U V.length
/-- Is there a vote? And which? -/
def votb (lo hi clip : Int) (V U : List Int) : Bool := midb V && rmay lo hi clip && fits V U
def votv (lo hi clip : Int) (V U : List Int) : Int := if votb lo hi clip V U = true then within (meanv (midv V) clip V U) lo hi else 0
theorem inr_iff (a b n : Int) : inr a b n = true ↔ a ≤ n ∧ n ≤ b := by unfold inr; simp
theorem rmay_iff (lo hi clip : Int) : rmay lo hi clip = true ↔ (-2147483648 ≤ lo ∧ lo ≤ 2147483647) ∧ (lo ≤ hi ∧ hi ≤ 2147483647) ∧ 0 ≤ clip ∧ clip ≤ 2147483647 := by
  unfold rmay; simp only [Bool.and_eq_true, inr_iff, and_assoc]
theorem okp_iff (x u : Int) : okp x u = true ↔ (-4294967296 ≤ x ∧ x ≤ 4294967296) ∧ 1 ≤ u ∧ u ≤ 16 := by
  unfold okp; simp only [Bool.and_eq_true, inr_iff]
theorem okk_at {V U : List Int} {n : Nat} (h : okk V U n = true) : ∀ k, k < n → okp (V.getD k 0) (U.getD k 0) = true := by
  induction n with
  | zero => intro k hk; omega
  | succ n ih =>
    intro k hk
    unfold okk at h
    rw [Bool.and_eq_true] at h
    rcases Nat.lt_succ_iff_lt_or_eq.1 hk with q | rfl
    · exact ih h.1 k q
    · exact h.2
theorem okk_of {V U : List Int} {n : Nat} (h : ∀ k, k < n → okp (V.getD k 0) (U.getD k 0) = true) : okk V U n = true := by
  induction n with
  | zero => rfl
  | succ n ih =>
    unfold okk
    rw [ih (fun k hk => h k (by omega)), h n (by omega)]; rfl
theorem okk_no {V U : List Int} {k n : Nat} (hk : k < n) (h : okp (V.getD k 0) (U.getD k 0) = false) : okk V U n = false := by
  cases e : okk V U n
  · rfl
  · rw [okk_at e k hk] at h; cases h
theorem fits_iff (V U : List Int) : fits V U = true ↔ V.length = U.length ∧ okk V U V.length = true := by unfold fits; simp
theorem fits_len {V U : List Int} (h : ¬ V.length = U.length) : fits V U = false := by unfold fits; simp [h]
theorem fits_eq {V U : List Int} (h : V.length = U.length) : fits V U = okk V U V.length := by unfold fits; simp [h]
theorem within_bd {n lo hi : Int} (h : lo ≤ hi) : lo ≤ within n lo hi ∧ within n lo hi ≤ hi := by
  unfold within; split
  · omega
  · split <;> omega
theorem within_mm2 (n lo hi : Int) (h : lo ≤ hi) : within n lo hi = min (max n lo) hi := by
  unfold within; split
  · omega
  · split <;> omega
theorem clamp_small {n lo hi : Int} (h1 : sm n = true) (h2 : sm lo = true) (h3 : sm hi = true) : clamp n lo hi = within n lo hi := by
  unfold clamp; rw [if_pos ⟨h1, h2, h3⟩]
theorem floor_small {n b : Int} (h1 : sm n = true) (h2 : sm b = true) (h3 : 1 ≤ b) : floor n b = n / b := by
  unfold floor; rw [if_pos ⟨h1, h2, h3⟩]
/-- What is so far known of a vote's parts. -/
structure Mid (mid clip : Int) (V U : List Int) : Prop where
  m1 : -4294967296 ≤ mid
  m2 : mid ≤ 4294967296
  c1 : 0 ≤ clip
  c2 : clip ≤ 2147483647
  len : V.length = U.length
  n1 : 1 ≤ V.length
  n4 : V.length ≤ 4
  ok : ∀ k, k < V.length → okp (V.getD k 0) (U.getD k 0) = true
theorem Mid.x {mid clip : Int} {V U : List Int} (M : Mid mid clip V U) {k : Nat} (h : k < V.length) : -4294967296 ≤ V.getD k 0 ∧ V.getD k 0 ≤ 4294967296 := ((okp_iff _ _).1 (M.ok k h)).1
theorem Mid.u {mid clip : Int} {V U : List Int} (M : Mid mid clip V U) {k : Nat} (h : k < V.length) : 1 ≤ U.getD k 0 ∧ U.getD k 0 ≤ 16 := ((okp_iff _ _).1 (M.ok k h)).2
theorem cl_bd {mid clip : Int} (h : 0 ≤ clip) (x : Int) : mid - clip ≤ cl mid clip x ∧ cl mid clip x ≤ mid + clip := within_bd (by omega)
theorem cl_clamp {mid clip : Int} {V U : List Int} (M : Mid mid clip V U) {k : Nat} (h : k < V.length) : clamp (V.getD k 0) (mid - clip) (mid + clip) = cl mid clip (V.getD k 0) := by
  have := M.x h; have := M.m1; have := M.m2; have := M.c1; have := M.c2
  exact clamp_small ((sm_iff _).2 (by omega)) ((sm_iff _).2 (by omega)) ((sm_iff _).2 (by omega))
theorem allk_bd {mid clip : Int} {V U : List Int} (M : Mid mid clip V U) : ∀ k, k ≤ V.length → (k : Int) ≤ allk U k ∧ allk U k ≤ 16 * k := by
  intro k
  induction k with
  | zero => intro _; simp [allk]
  | succ k ih =>
    intro hk
    have := ih (by omega)
    have := M.u (show k < V.length by omega)
    simp only [allk]; omega
theorem mul_bd {u x a b : Int} (h0 : 0 ≤ u) (h1 : a ≤ x) (h2 : x ≤ b) : u * a ≤ u * x ∧ u * x ≤ u * b := ⟨Int.mul_le_mul_of_nonneg_left h1 h0, Int.mul_le_mul_of_nonneg_left h2 h0⟩
/-- The sum lies between the weights times either bound. -/
theorem sumk_bd {mid clip a b : Int} {V U : List Int} (M : Mid mid clip V U) (h : ∀ k, k < V.length → a ≤ cl mid clip (V.getD k 0) ∧ cl mid clip (V.getD k 0) ≤ b) :
    ∀ k, k ≤ V.length → allk U k * a ≤ sumk mid clip V U k ∧ sumk mid clip V U k ≤ allk U k * b := by
  intro k
  induction k with
  | zero => intro _; simp [allk, sumk]
  | succ k ih =>
    intro hk
    have h1 := ih (by omega)
    have h2 := M.u (show k < V.length by omega)
    have h3 := h k (by omega)
    have h4 := mul_bd (u := U.getD k 0) (by omega) h3.1 h3.2
    simp only [allk, sumk, Int.add_mul]
    generalize U.getD k 0 * cl mid clip (V.getD k 0) = p at *
    omega
theorem sumk_sm {mid clip : Int} {V U : List Int} (M : Mid mid clip V U) {k : Nat} (hk : k ≤ V.length) : -412316860416 ≤ sumk mid clip V U k ∧ sumk mid clip V U k ≤ 412316860416 := by
  have h := sumk_bd (a := -6442450944) (b := 6442450944) M (fun j hj => by
    have := cl_bd (mid := mid) M.c1 (V.getD j 0); have := M.m1; have := M.m2; have := M.c2; omega) k hk
  have h2 := allk_bd M k hk
  have := M.n4
  omega
theorem part_sm {mid clip : Int} {V U : List Int} (M : Mid mid clip V U) {k : Nat} (hk : k < V.length) : -103079215104 ≤ U.getD k 0 * cl mid clip (V.getD k 0) ∧ U.getD k 0 * cl mid clip (V.getD k 0) ≤ 103079215104 := by
  have h1 := cl_bd (mid := mid) M.c1 (V.getD k 0)
  have h2 := M.u hk
  have := M.m1; have := M.m2; have := M.c2
  have h4 := mul_bd (u := U.getD k 0) (a := -6442450944) (b := 6442450944) (x := cl mid clip (V.getD k 0)) (by omega) (by omega) (by omega)
  omega
theorem mean_floor {mid clip : Int} {V U : List Int} (M : Mid mid clip V U) : floor (sumk mid clip V U V.length) (allk U V.length) = meanv mid clip V U := by
  have h1 := sumk_sm M (Nat.le_refl _)
  have h2 := allk_bd M V.length (Nat.le_refl _)
  have := M.n1; have := M.n4
  exact floor_small ((sm_iff _).2 (by omega)) ((sm_iff _).2 (by omega)) (by omega)
/-- The mean lies between whatever all clamped values lie between. -/
theorem mean_bd {mid clip a b : Int} {V U : List Int} (M : Mid mid clip V U) (h : ∀ k, k < V.length → a ≤ cl mid clip (V.getD k 0) ∧ cl mid clip (V.getD k 0) ≤ b) : a ≤ meanv mid clip V U ∧ meanv mid clip V U ≤ b := by
  have h1 := sumk_bd M h V.length (Nat.le_refl _)
  have h2 := allk_bd M V.length (Nat.le_refl _)
  have := M.n1
  unfold meanv
  generalize sumk mid clip V U V.length = s at *
  generalize allk U V.length = t at *
  have ht : 0 < t := by omega
  refine ⟨(Int.le_ediv_iff_mul_le ht).2 (by rw [Int.mul_comm]; exact h1.1), ?_⟩
  have : s / t < b + 1 := (Int.ediv_lt_iff_lt_mul ht).2 (by rw [Int.add_mul, Int.mul_comm b t]; omega)
  omega
theorem mean_near {mid clip : Int} {V U : List Int} (M : Mid mid clip V U) : mid - clip ≤ meanv mid clip V U ∧ meanv mid clip V U ≤ mid + clip := mean_bd M (fun _ _ => cl_bd M.c1 _)
theorem mean_sm {mid clip : Int} {V U : List Int} (M : Mid mid clip V U) : sm (meanv mid clip V U) = true := by
  have h := mean_near M; have := M.m1; have := M.m2; have := M.c2
  exact (sm_iff _).2 (by omega)
theorem mean_clamp {mid clip lo hi : Int} {V U : List Int} (M : Mid mid clip V U) (h : rmay lo hi clip = true) : clamp (meanv mid clip V U) lo hi = within (meanv mid clip V U) lo hi := by
  have := (rmay_iff _ _ _).1 h
  exact clamp_small (mean_sm M) ((sm_iff _).2 (by omega)) ((sm_iff _).2 (by omega))
theorem srt_bd {l : List Int} {a b : Int} (h1 : 1 ≤ l.length) (h : ∀ k, k < l.length → a ≤ l.getD k 0 ∧ l.getD k 0 ≤ b) : a ≤ (srt l).getD 0 0 ∧ (srt l).getD (l.length - 1) 0 ≤ b := by
  have hl := srt_len l
  have q : ∀ j, j < l.length → a ≤ (srt l).getD j 0 ∧ (srt l).getD j 0 ≤ b := by
    intro j hj
    have hm : (srt l).getD j 0 ∈ l := (srt_perm l).mem_iff.1 (by rw [getD_at _ j (by omega)]; exact List.getElem_mem _)
    obtain ⟨i, hi, e⟩ := List.getElem_of_mem hm
    rw [← e, ← getD_at _ _ hi]
    exact h i hi
  exact ⟨(q 0 (by omega)).1, (q _ (by omega)).2⟩
theorem midb_iff {l : List Int} : midb l = true ↔ ok l = true ∧ 1 ≤ l.length ∧ l.length ≤ 4 := by unfold midb; simp [and_assoc]
theorem ok_of {l : List Int} (h1 : l.length ≤ 16) (h : ∀ k, k < l.length → -4294967296 ≤ l.getD k 0 ∧ l.getD k 0 ≤ 4294967296) : ok l = true := by
  rw [ok_iff]
  refine ⟨h1, List.all_eq_true.2 fun x hx => ?_⟩
  obtain ⟨i, hi, rfl⟩ := List.getElem_of_mem hx
  have := h i hi
  rw [getD_at _ _ hi] at this
  exact (sm_iff _).2 (by omega)
/-- Whatever makes a vote makes its parts. -/
theorem mid_of {clip : Int} {V U : List Int} (hm : midb V = true) (hc : 0 ≤ clip ∧ clip ≤ 2147483647) (hf : fits V U = true) : Mid (midv V) clip V U := by
  obtain ⟨hk, h1, h4⟩ := midb_iff.1 hm
  obtain ⟨hl, ho⟩ := (fits_iff _ _).1 hf
  have ho := okk_at ho
  have h := mid_in hk h1 h4
  have q := srt_bd (a := -4294967296) (b := 4294967296) h1 (fun k hk => ((okp_iff _ _).1 (ho k hk)).1)
  exact ⟨by omega, by omega, hc.1, hc.2, hl, h1, h4, ho⟩
theorem votb_iff {lo hi clip : Int} {V U : List Int} : votb lo hi clip V U = true ↔ midb V = true ∧ rmay lo hi clip = true ∧ fits V U = true := by unfold votb; simp [and_assoc]
theorem votb_mid {lo hi clip : Int} {V U : List Int} (h : votb lo hi clip V U = true) : Mid (midv V) clip V U := by
  obtain ⟨h1, h2, h3⟩ := votb_iff.1 h
  have := (rmay_iff _ _ _).1 h2
  exact mid_of h1 this.2.2 h3
theorem votv_yes {lo hi clip : Int} {V U : List Int} (h : votb lo hi clip V U = true) : votv lo hi clip V U = within (meanv (midv V) clip V U) lo hi := if_pos h
theorem votv_no {lo hi clip : Int} {V U : List Int} (h : votb lo hi clip V U = false) : votv lo hi clip V U = 0 := if_neg (by rw [h]; decide)
/-- The document's words of when there is a vote. -/
theorem votb_doc (lo hi clip : Int) (V U : List Int) : votb lo hi clip V U = (rmay lo hi clip && (decide (1 ≤ V.length) && (decide (V.length ≤ 4) && (decide (U.length = V.length) && okk V U V.length)))) := by
  rw [Bool.eq_iff_iff, votb_iff]
  simp only [Bool.and_eq_true, decide_eq_true_eq]
  constructor
  · rintro ⟨h1, h2, h3⟩
    obtain ⟨_, a, b⟩ := midb_iff.1 h1
    obtain ⟨c, d⟩ := (fits_iff _ _).1 h3
    exact ⟨h2, a, b, c.symm, d⟩
  · rintro ⟨h2, a, b, c, d⟩
    have ho := okk_at d
    exact ⟨midb_iff.2 ⟨ok_of (by omega) (fun k hk => ((okp_iff _ _).1 (ho k hk)).1), a, b⟩, h2, (fits_iff _ _).2 ⟨c.symm, d⟩⟩
/-! ### Near the mid -/
theorem vote_in {lo hi clip : Int} {V U : List Int} (h : votb lo hi clip V U = true) : lo ≤ votv lo hi clip V U ∧ votv lo hi clip V U ≤ hi := by
  have := (rmay_iff _ _ _).1 (votb_iff.1 h).2.1
  rw [votv_yes h]; exact within_bd this.2.1.1
/-! ### Bounded faults -/
theorem three {l : List Int} (h : l.length = 3) : ∃ x y z, l = [x, y, z] := by
  match l, h with
  | [x, y, z], _ => exact ⟨x, y, z, rfl⟩
end Vo
end Go.Proofs.YtacclmfbkiadbaaGreat

namespace Go.Proofs.YtacclmfbkiadbaaGreat
set_option maxRecDepth 100000
open Go.RowKit
namespace Pa
open Fx Od
def fr (n : Int) : Bool := decide (-4294967296 ≤ n ∧ n ≤ 4294967296)
def fit (l : List Int) : Bool := decide (2 ≤ l.length) && decide (l.length ≤ 4) && l.all fr
def resAt (l : List Int) (k : Nat) : Int := l.getD k 0 - midv (without l (k : Int))
def resTo (l : List Int) (k : Nat) : List Int := (List.range k).map (resAt l)
def res (l : List Int) : List Int := if fit l = true then resTo l l.length else []
/-- Is a residue more than the bound from 0? -/
def off (b x : Int) : Bool := decide (b < x ∨ x < -b)
def offs (b : Int) (r : List Int) : Nat → Nat
  | 0 => 0
  | k + 1 => offs b r k + (off b (r.getD k 0)).toNat
def last (b : Int) (r : List Int) : Nat → Int
  | 0 => -1
  | k + 1 => if off b (r.getD k 0) = true then (k : Int) else last b r k
def susOf (b : Int) (r : List Int) : Int := if offs b r r.length = 1 then last b r r.length else -1
def sus (l : List Int) (b : Int) : Int := if b < 0 then -1 else susOf b (res l)
theorem fit_iff (l : List Int) : fit l = true ↔ 2 ≤ l.length ∧ l.length ≤ 4 ∧ l.all fr = true := by unfold fit; simp [and_assoc]
theorem fit_no {l : List Int} (h : ¬ (2 ≤ l.length ∧ l.length ≤ 4 ∧ l.all fr = true)) : fit l = false := by cases h2 : fit l; rfl; exact absurd ((fit_iff l).1 h2) h
theorem fit_short {l : List Int} (h : l.length < 2 ∨ 4 < l.length) : fit l = false := fit_no (by omega)
theorem fr_iff (n : Int) : fr n = true ↔ -4294967296 ≤ n ∧ n ≤ 4294967296 := by unfold fr; simp
theorem all_fr {l : List Int} (h : l.all fr = true) {k : Nat} (hk : k < l.length) : -4294967296 ≤ l.getD k 0 ∧ l.getD k 0 ≤ 4294967296 := by
  rw [getD_at l k hk]; rw [List.all_eq_true] at h; exact (fr_iff _).1 (h _ (List.getElem_mem hk))
theorem fit_not (l : List Int) (k : Nat) (h : k < l.length) (e : ¬ (-4294967296 ≤ l.getD k 0 ∧ l.getD k 0 ≤ 4294967296)) : fit l = false :=
  fit_no (fun q => e (all_fr q.2.2 h))
theorem fr_step (l : List Int) (k : Nat) (h : k < l.length) (h0 : (l.take k).all fr = true) (e : -4294967296 ≤ l.getD k 0 ∧ l.getD k 0 ≤ 4294967296) : (l.take (k + 1)).all fr = true := by
  rw [take_snoc l k h, List.all_append, h0]; simpa [fr] using e
theorem fit_end {l : List Int} (h2 : 2 ≤ l.length) (h4 : l.length ≤ 4) (h : (l.take l.length).all fr = true) : fit l = true := by
  rw [List.take_of_length_le (Nat.le_refl _)] at h; exact (fit_iff l).2 ⟨h2, h4, h⟩
theorem fit_ok {l : List Int} (h : fit l = true) : ok l = true := by
  have q := (fit_iff l).1 h
  refine (ok_iff l).2 ⟨by omega, List.all_eq_true.2 fun x hx => ?_⟩
  have := (fr_iff x).1 (List.all_eq_true.1 q.2.2 x hx)
  exact (sm_iff x).2 (by omega)
/-! ### the others, and their mid -/
theorem others_sub {l : List Int} {i : Int} {x : Int} (h : x ∈ without l i) : x ∈ l := by
  unfold without at h
  split at h
  · unfold wo at h
    split at h
    · exact List.mem_of_mem_eraseIdx h
    · exact h
  · simp at h
theorem others_len {l : List Int} (h : ok l = true) {k : Nat} (hk : k < l.length) : (without l (k : Int)).length = l.length - 1 := by
  rw [without_yes _ h, wo_at, List.length_append, List.length_take, List.length_drop]; omega
theorem others_ok {l : List Int} (h : ok l = true) (i : Int) : ok (without l i) = true := by
  have q := (ok_iff l).1 h
  refine (ok_iff _).2 ⟨?_, List.all_eq_true.2 fun x hx => ok_mem h (others_sub hx)⟩
  rw [without_yes _ h]; have := wo_le l i; omega
/-- A mid lies where its numbers do. -/
theorem mid_bd {l : List Int} {a b : Int} (hk : ok l = true) (h1 : 1 ≤ l.length) (h4 : l.length ≤ 4) (h : ∀ x ∈ l, a ≤ x ∧ x ≤ b) : a ≤ midv l ∧ midv l ≤ b := by
  have q := mid_in hk h1 h4
  have m1 := h _ ((srt_perm l).mem_iff.1 (show (srt l).getD 0 0 ∈ srt l by rw [getD_at _ _ (by rw [srt_len]; exact h1)]; exact List.getElem_mem _))
  have m2 := h _ ((srt_perm l).mem_iff.1 (show (srt l).getD (l.length - 1) 0 ∈ srt l by rw [getD_at _ _ (by rw [srt_len]; omega)]; exact List.getElem_mem _))
  omega
theorem others_mid {l : List Int} (h : fit l = true) {k : Nat} (hk : k < l.length) : -4294967296 ≤ midv (without l (k : Int)) ∧ midv (without l (k : Int)) ≤ 4294967296 := by
  have q := (fit_iff l).1 h
  have e := others_len (fit_ok h) hk
  refine mid_bd (others_ok (fit_ok h) _) (by omega) (by omega) fun x hx => (fr_iff x).1 (List.all_eq_true.1 q.2.2 x (others_sub hx))
theorem resTo_snoc (l : List Int) (k : Nat) : resTo l (k + 1) = resTo l k ++ [resAt l k] := by unfold resTo; rw [List.range_succ, List.map_append]; rfl
theorem resTo_len (l : List Int) (k : Nat) : (resTo l k).length = k := by unfold resTo; simp
theorem resTo_get (l : List Int) {k j : Nat} (h : j < k) : (resTo l k).getD j 0 = resAt l j := by unfold resTo; simp [List.getD_eq_getElem?_getD, h]
theorem res_yes {l : List Int} (h : fit l = true) : res l = resTo l l.length := if_pos h
theorem res_no {l : List Int} (h : fit l = false) : res l = [] := by unfold res; rw [h]; rfl
theorem res_le (l : List Int) : (res l).length ≤ 4 := by
  cases h : fit l
  · rw [res_no h]; simp
  · rw [res_yes h, resTo_len]; have := (fit_iff l).1 h; omega
theorem res_bd (l : List Int) {k : Nat} (hk : k < (res l).length) : -8589934592 ≤ (res l).getD k 0 ∧ (res l).getD k 0 ≤ 8589934592 := by
  cases h : fit l
  · rw [res_no h] at hk; simp at hk
  · rw [res_yes h] at hk ⊢
    rw [resTo_len] at hk
    rw [resTo_get l hk]
    have a := all_fr ((fit_iff l).1 h).2.2 hk
    have b := others_mid h hk
    unfold resAt; omega
/-- The row that is made first, and filled one by one. -/
def fill (l : List Int) (k : Nat) : List Int := resTo l k ++ List.replicate (l.length - k) 0
theorem fill_len {l : List Int} {k : Nat} (h : k ≤ l.length) : (fill l k).length = l.length := by unfold fill; rw [List.length_append, resTo_len, List.length_replicate]; omega
theorem fill_zero (l : List Int) : fill l 0 = List.replicate l.length 0 := by unfold fill resTo; simp
theorem fill_all (l : List Int) : fill l l.length = resTo l l.length := by unfold fill; simp
theorem fill_set {l : List Int} {k : Nat} (h : k < l.length) : (fill l k).set k (resAt l k) = fill l (k + 1) := by
  unfold fill
  rw [resTo_snoc, List.set_append, if_neg (by rw [resTo_len]; omega), resTo_len, Nat.sub_self, show l.length - k = (l.length - (k + 1)) + 1 by omega, List.replicate_succ, List.set_cons_zero, List.append_assoc, List.singleton_append]
/-! ### who is off -/
theorem offs_mono (b : Int) (r : List Int) (k j : Nat) (h : k ≤ j) : offs b r k ≤ offs b r j := by
  induction j with
  | zero => rw [show k = 0 by omega]; exact Nat.le_refl _
  | succ j ih =>
    by_cases e : k = j + 1
    · rw [e]; exact Nat.le_refl _
    · have := ih (by omega); rw [offs]; omega
theorem offs_le (b : Int) (r : List Int) (k : Nat) : offs b r k ≤ k := by
  induction k with
  | zero => exact Nat.le_refl _
  | succ k ih => rw [offs]; have := Bool.toNat_le (off b (r.getD k 0)); omega
theorem last_none {b : Int} {r : List Int} {k : Nat} (h : offs b r k = 0) : last b r k = -1 := by
  induction k with
  | zero => rfl
  | succ k ih =>
    rw [offs] at h
    cases hb : off b (r.getD k 0)
    · rw [last, hb]; rw [hb] at h; exact ih h
    · rw [hb] at h; simp at h
theorem last_some {b : Int} {r : List Int} {k : Nat} (h : 1 ≤ offs b r k) : 0 ≤ last b r k ∧ last b r k < (k : Int) := by
  induction k with
  | zero => rw [offs] at h; omega
  | succ k ih =>
    rw [offs] at h
    cases hb : off b (r.getD k 0)
    · rw [last, hb]; rw [hb] at h; have := ih (by simpa using h); simp; omega
    · rw [last, hb]; simp; omega
theorem susOf_two {b : Int} {r : List Int} {k : Nat} (hk : k ≤ r.length) (h : 2 ≤ offs b r k) : susOf b r = -1 := by
  have := offs_mono b r k r.length hk
  unfold susOf; rw [if_neg (by omega)]
theorem susOf_last {b : Int} {r : List Int} (h : offs b r r.length ≤ 1) : susOf b r = last b r r.length := by
  unfold susOf
  split
  · rfl
  · rw [last_none (by omega)]
theorem last_bd (b : Int) (r : List Int) (k : Nat) : -1 ≤ last b r k ∧ last b r k < k := by
  by_cases h : 1 ≤ offs b r k
  · have := last_some h; omega
  · rw [last_none (by omega)]; omega
/-- A residue's distance from 0 is its sign's. -/
theorem off_apart {b x : Int} (hx : -8589934592 ≤ x ∧ x ≤ 8589934592) : decide (apart x 0 ≤ b) = !off b x := by
  unfold apart off
  rw [if_pos ⟨(sm_iff x).2 (by omega), rfl⟩, ← decide_not]
  refine decide_eq_decide.2 ?_
  split <;> omega
theorem offs_yes {b : Int} {r : List Int} {k : Nat} (h : off b (r.getD k 0) = true) : offs b r (k + 1) = offs b r k + 1 := by rw [offs, h]; rfl
theorem offs_no {b : Int} {r : List Int} {k : Nat} (h : off b (r.getD k 0) = false) : offs b r (k + 1) = offs b r k := by rw [offs, h]; rfl
theorem last_yes {b : Int} {r : List Int} {k : Nat} (h : off b (r.getD k 0) = true) : last b r (k + 1) = (k : Int) := by rw [last, if_pos h]
theorem last_no {b : Int} {r : List Int} {k : Nat} (h : off b (r.getD k 0) = false) : last b r (k + 1) = last b r k := by rw [last, h]; rfl
/-! ### one of four -/
end Pa
end Go.Proofs.YtacclmfbkiadbaaGreat
