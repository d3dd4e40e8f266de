/-
  append of a whole list of numbers onto a row that the call itself made, in a plain region and in one that draws its order. No function of the program is walked here. No conditions.
  Plain mathematics for layer 9 (stuck): a ring of votes in an array, the votes of the last cycles, a run. No Go text is reached here. No conditions.
  What package drift tells, as functions of numbers; how a level comes to a difference that stays. No Go text is reached here. No conditions.
  What package equal tells, as functions of numbers. No Go text is reached here. No conditions.
-/
import Derived.Test.YtmlhmmfgdioclaaJOpen2
import Derived.Deep.RegionLaw
import Derived.Test.YtmlhmmfgdioclaaJAgg3
import Derived.Test.YtmlhmmfgdioclaaOrderMath
import Derived.Test.YtmlhmmfgdioclaaFixMath
namespace Go.Proofs.Ytmlhmmfgdioclaa
set_option maxRecDepth 100000
open Go.ChangeShapes Go.WideShapes Go.ChangeAt Go.RowKit Go.Deep

section
variable {k : IntKind} {base : Nat} {t : TypeId} {w w' : World} {v : Value} {l : List Int}
theorem OwnI.form2 (h : OwnI k base t w v l) : ∃ a cap, v = .slice a l.length cap ∧ IntsAt k w a l ∧ l.length ≤ cap ∧ cap ≤ maxLen := by
  obtain ⟨a, cap, rfl, hi⟩ := h.form
  refine ⟨a, cap, rfl, hi, ?_⟩
  rcases h with ⟨_, ⟨h0, h1⟩ | ⟨g, cap', cur, hv, _, _, hc, hm, _⟩⟩
  · injection h0 with _ _ h3; omega
  · injection hv with _ _ h3; omega
theorem OwnI.lit0 {te : TypeId} (hb : base ≤ w.heap.size) : OwnI k base te (w.alloc (.cells #[] te)) (.slice (some ⟨w.heap.size, 0, none⟩) 0 0) [] :=
  World.ownsRow_lit w #[] 0 hb (by simp) rfl
/-- A row of the call's own that holds something: where it lies, what is read there, what is stored there. -/
theorem OwnI.row (h : OwnI k base t w v l) (hp : 0 < l.length) : ∃ g cap, v = .slice (some ⟨g, 0, none⟩) l.length cap ∧ base ≤ g ∧ l.length ≤ cap ∧ g < w.heap.size := by
  rcases h with ⟨_, ⟨_, h1⟩ | ⟨g, cap, cur, hv, hb, hh, hc, _⟩⟩
  · omega
  · refine ⟨g, cap, hv, hb, hc, ?_⟩
    rcases Nat.lt_or_ge g w.heap.size with hlt | hge
    · exact hlt
    · rw [Array.getElem?_eq_none hge] at hh; cases hh
theorem OwnI.cell {g cap : Nat} (h : OwnI k base t w (.slice (some ⟨g, 0, none⟩) l.length cap) l) (j : Nat) (hj : j < l.length) : w.cell? ⟨g, j, none⟩ = some (.int k (l.getD j 0)) := by
  rw [World.ownsRow.cellAt h j (by omega)]; exact cellsI_get k l j hj
theorem OwnI.frozen {g cap : Nat} (h : OwnI k base t w (.slice (some ⟨g, 0, none⟩) l.length cap) l) (j : Nat) : w.frozen? ⟨g, j, none⟩ = false := World.ownsRow.frozenAt h j
theorem OwnI.stored {g cap : Nat} (h : OwnI k base t w (.slice (some ⟨g, 0, none⟩) l.length cap) l) (j : Nat) (x : Int) : OwnI k base t (w.setCell ⟨g, j, none⟩ (.int k x)) (.slice (some ⟨g, 0, none⟩) l.length cap) (l.set j x) := by
  have := (World.ownsRow.stored h j (.int k x)).1
  unfold OwnI; rw [cellsI_set, List.length_set]; exact this
theorem OwnI.drew (h : OwnI k base t w v l) : OwnI k base t w.drew v l := h
end

section
variable {P : Program}
theorem run_appendI {w : World} (k : IntKind) (base : Nat) (t ty e : TypeId) (bytes : Nat) (ht : P.underlying t = some (.slice e)) (hi : (P.info? e).map (fun i => (i.zero, i.size, i.bytes)) = some (some (.int k 0), 1, bytes))
    (v : Value) (l : List Int) (a : Option Addr) (c : Nat) (r : List Int) (hown : OwnI k base e w v l) (hr : IntsAt k w a r)
    (h63 : l.length + r.length ≤ maxLen) (hbytes : (l.length + r.length) * bytes ≤ 140737488355328) (w0 : World) (hb : Below base w0 w) (hbase : base ≤ w0.heap.size) :
    ∃ v' w', (Builtin.append_ #[t, t] ty #[v, .slice a r.length c]).run P w = .ok v' w' ∧ OwnI k base e w' v' (l ++ r) ∧ Below base w0 w' := by
  obtain ⟨i0, hi0, hz0, hz1, hz2⟩ := info_parts hi
  have hsz := hb.size
  rcases a with _ | ad
  · have h0 : r = [] := by
      rcases hr with h0 | ⟨_, _, h0, _⟩
      · exact h0
      · cases h0
    subst h0
    refine ⟨v, w, ?_, by rw [List.append_nil]; exact hown, hb⟩
    rcases hown.2 with ⟨rfl, h0⟩ | ⟨g, cap, cur, rfl, _, _, hnc, _⟩
    · simp [Builtin.append_, run_underlying ht, sizeOf, typeInfo, hi0, Builtin.lenOf, Builtin.firstCells]
    · simp [Builtin.append_, run_underlying ht, sizeOf, typeInfo, hi0, Builtin.lenOf, Builtin.firstCells, hnc, storeCells]
  · have hcells : ∀ j u, (cellsI k r)[j]? = some u → w.cell? (ad.add j) = some u := by
      intro j u hj
      rcases Nat.eq_zero_or_pos r.length with h0 | h0
      · rw [List.eq_nil_of_length_eq_zero h0] at hj; simp [cellsI] at hj
      · obtain ⟨ad', he, hc⟩ := hr.source h0
        injection he with he; subst he
        exact hc j u hj
    obtain ⟨v', w', h1, h2, h3, _⟩ := run_append_own (P := P) (w := w) base t ty e i0 _ 1 bytes ht hi0 hz0 hz1 hz2 rfl (by omega) v l.length (cellsI k l) hown ad r.length c (cellsI k r) (by rw [cellsI_len]; omega) hcells (cellsI_one k r) h63 hbytes (by omega)
    refine ⟨v', w', h1, ?_, hb.grown h3 (by omega) (fun j hj => hown.blk j hj)⟩
    unfold OwnI; rw [cellsI_app, List.length_append]; exact h2

theorem wpList_appendI {w : World} {ops : Array Oper} {rest : List Oper} {o : Oper} {a : Act} {Q : Exit → Act → World → Prop} (hgd : o.guard = none) (s x : Operand) (t : TypeId)
    (ho : o.op = .call { callee := .builtin .append, args := #[s, x], argTypes := #[t, t] })
    (k : IntKind) (base : Nat) (e : TypeId) (bytes : Nat) (ht : P.underlying t = some (.slice e)) (hi : (P.info? e).map (fun i => (i.zero, i.size, i.bytes)) = some (some (.int k 0), 1, bytes))
    (v : Value) (l : List Int) (ad : Option Addr) (n c : Nat) (r : List Int) (hs : a.eval s = v) (hx : a.eval x = .slice ad n c) (hnl : r.length = n) (hown : OwnI k base e w v l) (hr : IntsAt k w ad r)
    (h63 : l.length + r.length ≤ maxLen) (hbytes : (l.length + r.length) * bytes ≤ 140737488355328) (w0 : World) (hb : Below base w0 w) (hbase : base ≤ w0.heap.size)
    (h : ∀ v' w', OwnI k base e w' v' (l ++ r) → Below base w0 w' → wpList P ops Q rest (a.put o.dst v') w') : wpList P ops Q (o :: rest) a w := by
  subst hnl
  refine wpList_plain hgd fun K hK => ?_
  obtain ⟨v', w', hrun, h1, h2⟩ := run_appendI (P := P) (w := w) k base t o.type e bytes ht hi v l ad c r hown hr h63 hbytes w0 hb hbase
  unfold Oper.wp
  simp [execOp, ho, resolve, invoke, builtin, hs, hx, hrun, Result.andThen]
  exact hK _ _ (h v' w' h1 h2)

theorem step_appendI {ops : Array Oper} {o : Oper} {a : Act} {w : World} {K : Act → World → Prop} {Q : Exit → Act → World → Prop} {E : Prop} (hgd : o.guard = none) (s x : Operand) (t : TypeId)
    (ho : o.op = .call { callee := .builtin .append, args := #[s, x], argTypes := #[t, t] })
    (k : IntKind) (base : Nat) (e : TypeId) (bytes : Nat) (ht : P.underlying t = some (.slice e)) (hi : (P.info? e).map (fun i => (i.zero, i.size, i.bytes)) = some (some (.int k 0), 1, bytes))
    (v : Value) (l : List Int) (ad : Option Addr) (n c : Nat) (r : List Int) (hs : a.eval s = v) (hx : a.eval x = .slice ad n c) (hnl : r.length = n) (hown : OwnI k base e w v l) (hr : IntsAt k w ad r)
    (h63 : l.length + r.length ≤ maxLen) (hbytes : (l.length + r.length) * bytes ≤ 140737488355328) (w0 : World) (hb : Below base w0 w) (hbase : base ≤ w0.heap.size)
    (h : ∀ v' w', OwnI k base e w' v' (l ++ r) → Below base w0 w' → K (a.put o.dst v') w') :
    if Region.wanted o (yielded ops a.tmps) = true then Oper.wp P o a w K Q else E := by
  subst hnl
  have hw : Region.wanted o (yielded ops a.tmps) = true := by simp [Region.wanted, hgd]
  rw [if_pos hw]
  obtain ⟨v', w', hrun, h1, h2⟩ := run_appendI (P := P) (w := w) k base t o.type e bytes ht hi v l ad c r hown hr h63 hbytes w0 hb hbase
  unfold Oper.wp
  simp [execOp, ho, resolve, invoke, builtin, hs, hx, hrun, Result.andThen]
  exact h v' w' h1 h2
end
/-- One number, just laid in memory. -/
theorem laid1 {k : IntKind} (w : World) (t : TypeId) (x : Int) : IntsAt k (w.alloc (.cells #[.int k x] t)) (some ⟨w.heap.size, 0, none⟩) [x] :=
  IRow.ints (t := t) (heap_alloc_new w _)
end Go.Proofs.Ytmlhmmfgdioclaa

namespace Go.Proofs.Ytmlhmmfgdioclaa
set_option maxRecDepth 100000
open Go.RowKit
namespace Sk

/-- May there be such a room? -/
def may (window bound : Int) : Bool := decide (2 ≤ window) && decide (window ≤ 16) && decide (0 ≤ bound) && decide (bound ≤ 2147483647)
theorem may_iff (w b : Int) : may w b = true ↔ 2 ≤ w ∧ w ≤ 16 ∧ 0 ≤ b ∧ b ≤ 2147483647 := by unfold may; simp [and_assoc]

/-- The place of the i-th of n votes in a ring of P places, the next one of which is laid at next. -/
def spot (P next n i : Nat) : Nat := if next + (P - n) + i < P then next + (P - n) + i else next + (P - n) + i - P
def up (P next : Nat) : Nat := if next + 1 = P then 0 else next + 1
/-- The last P of a list. -/
def lastN (P : Nat) (l : List Int) : List Int := l.drop (l.length - P)

theorem lastN_len (P : Nat) (l : List Int) : (lastN P l).length = min P l.length := by unfold lastN; rw [List.length_drop]; omega
theorem lastN_le (P : Nat) (l : List Int) : (lastN P l).length ≤ P := by rw [lastN_len]; omega
theorem lastN_short {P : Nat} {l : List Int} (h : l.length ≤ P) : lastN P l = l := by unfold lastN; rw [show l.length - P = 0 by omega]; rfl
theorem drop_snoc (l : List Int) (x : Int) (k : Nat) (h : k ≤ l.length) : (l ++ [x]).drop k = l.drop k ++ [x] := by
  rw [List.drop_append, show k - l.length = 0 by omega]; rfl
theorem lastN_snoc {P : Nat} (h1 : 1 ≤ P) (l : List Int) (x : Int) : lastN P (lastN P l ++ [x]) = lastN P (l ++ [x]) := by
  by_cases h : l.length < P
  · rw [lastN_short (show l.length ≤ P by omega)]
  · have e1 : (lastN P l).length = P := by rw [lastN_len]; omega
    unfold lastN at e1 ⊢
    rw [List.length_append, e1, List.length_append]
    simp only [List.length_cons, List.length_nil]
    rw [drop_snoc _ _ _ (by omega), drop_snoc _ _ _ (by omega), List.drop_drop]
    congr 2; omega
theorem lastN_one {P : Nat} {V : List Int} (h : V.length < P) (x : Int) : lastN P (V ++ [x]) = V ++ [x] := lastN_short (by simp; omega)
theorem lastN_full {P : Nat} {V : List Int} (h : V.length = P) (x : Int) : lastN P (V ++ [x]) = (V ++ [x]).drop 1 := by
  unfold lastN; congr 1; simp; omega

/-- The ring holds the votes V. -/
structure Ring (P : Nat) (ring : List Int) (next : Nat) (V : List Int) : Prop where
  p1 : 1 ≤ P
  p15 : P ≤ 15
  len : ring.length = 15
  nx : next < P
  le : V.length ≤ P
  at_ : ∀ i, i < V.length → ring.getD (spot P next V.length i) 0 = V.getD i 0

theorem spot_lt {P next n i : Nat} (h1 : next < P) (h2 : i < n) (h3 : n ≤ P) : spot P next n i < P := by unfold spot; split <;> omega
theorem up_lt {P next : Nat} (h : next < P) : up P next < P := by unfold up; split <;> omega
theorem getD_set_ne {l : List Int} {i j : Nat} (x : Int) (h : i ≠ j) : (l.set i x).getD j 0 = l.getD j 0 := by
  simp [List.getD_eq_getElem?_getD, List.getElem?_set_ne h]
theorem getD_set_eq {l : List Int} {i : Nat} (x : Int) (h : i < l.length) : (l.set i x).getD i 0 = x := by
  simp [List.getD_eq_getElem?_getD, h]
theorem getD_app_lt {l r : List Int} {i : Nat} (h : i < l.length) : (l ++ r).getD i 0 = l.getD i 0 := by
  simp [List.getD_eq_getElem?_getD, List.getElem?_append_left h]
theorem getD_app_end (l : List Int) (x : Int) : (l ++ [x]).getD l.length 0 = x := by
  simp [List.getD_eq_getElem?_getD]
theorem getD_drop (l : List Int) (k i : Nat) : (l.drop k).getD i 0 = l.getD (k + i) 0 := by
  simp [List.getD_eq_getElem?_getD]

/-- A vote comes. -/
theorem Ring.vote {P : Nat} {ring : List Int} {next : Nat} {V : List Int} (h : Ring P ring next V) (x : Int) : Ring P (ring.set next x) (up P next) (lastN P (V ++ [x])) := by
  have p1 := h.p1
  have p15 := h.p15
  have hl := h.len
  have nx := h.nx
  have le := h.le
  refine ⟨p1, p15, by simpa using hl, up_lt nx, lastN_le _ _, ?_⟩
  by_cases hlt : V.length < P
  · rw [lastN_one hlt]
    intro i hi
    rw [List.length_append] at hi ⊢
    simp only [List.length_cons, List.length_nil] at hi ⊢
    by_cases hie : i = V.length
    · subst hie
      rw [show spot P (up P next) (V.length + (0 + 1)) V.length = next by unfold spot up; split <;> split <;> omega, getD_set_eq x (by omega), getD_app_end]
    · have e : spot P (up P next) (V.length + (0 + 1)) i = spot P next V.length i := by unfold spot up; split <;> split <;> split <;> omega
      have ne : next ≠ spot P next V.length i := by unfold spot; split <;> omega
      rw [e, getD_set_ne x ne, getD_app_lt (by omega)]
      exact h.at_ i (by omega)
  · have hP : V.length = P := by omega
    rw [lastN_full hP]
    intro i hi
    have e0 : ((V ++ [x]).drop 1).length = P := by simp; omega
    rw [e0] at hi ⊢
    rw [getD_drop]
    by_cases hie : i + 1 = P
    · rw [show spot P (up P next) P i = next by unfold spot up; split <;> split <;> omega, getD_set_eq x (by omega), show 1 + i = V.length by omega, getD_app_end]
    · have e : spot P (up P next) P i = spot P next P (1 + i) := by unfold spot up; split <;> split <;> split <;> omega
      have ne : next ≠ spot P next P (1 + i) := by unfold spot; split <;> omega
      rw [e, getD_set_ne x ne, getD_app_lt (by omega)]
      have := h.at_ (1 + i) (by omega)
      rw [hP] at this
      exact this
theorem Ring.new {P : Nat} (h1 : 1 ≤ P) (h2 : P ≤ 15) : Ring P (List.replicate 15 0) 0 [] := ⟨h1, h2, by simp, by omega, Nat.zero_le _, fun i hi => by simp at hi⟩

/-- The numbers of a room, as they lie. -/
def room (win bound : Int) (ring : List Int) (next n : Int) : List Int := win :: bound :: (ring ++ [next, n])
section
variable {win bound next n : Int} {ring : List Int}
theorem room_len (h : ring.length = 15) : (room win bound ring next n).length = 19 := by simp [room, h]
theorem room_ring (k : Nat) (hk : k < 15) (h : ring.length = 15) : (room win bound ring next n).getD (2 + k) 0 = ring.getD k 0 := by
  unfold room
  rw [Nat.add_comm 2 k]
  simp [List.getD_eq_getElem?_getD, List.getElem?_append_left (show k < ring.length by omega)]
theorem room_next (h : ring.length = 15) : (room win bound ring next n).getD 17 0 = next := by
  unfold room
  rw [List.getD_eq_getElem?_getD, show 17 = (15 + 1) + 1 from rfl, List.getElem?_cons_succ, List.getElem?_cons_succ, List.getElem?_append_right (by omega), h]; rfl
theorem room_count (h : ring.length = 15) : (room win bound ring next n).getD 18 0 = n := by
  unfold room
  rw [List.getD_eq_getElem?_getD, show 18 = (16 + 1) + 1 from rfl, List.getElem?_cons_succ, List.getElem?_cons_succ, List.getElem?_append_right (by omega), h]; rfl
theorem room_set_ring (k : Nat) (hk : k < 15) (h : ring.length = 15) (x : Int) : (room win bound ring next n).set (2 + k) x = room win bound (ring.set k x) next n := by
  unfold room
  rw [Nat.add_comm 2 k, List.set_cons_succ, List.set_cons_succ, List.set_append_left _ _ (by omega)]
theorem room_set_next (h : ring.length = 15) (x : Int) : (room win bound ring next n).set 17 x = room win bound ring x n := by
  unfold room
  rw [show 17 = (15 + 1) + 1 from rfl, List.set_cons_succ, List.set_cons_succ, List.set_append_right _ _ (by omega), h]; rfl
theorem room_set_count (h : ring.length = 15) (x : Int) : (room win bound ring next n).set 18 x = room win bound ring next x := by
  unfold room
  rw [show 18 = (16 + 1) + 1 from rfl, List.set_cons_succ, List.set_cons_succ, List.set_append_right _ _ (by omega), h]; rfl
end

/-- The remainders of the program are these places. -/
theorem up_tmod {P next : Nat} (h : next < P) : ((next : Int) + 1).tmod (P : Int) = (up P next : Int) := by
  rw [show ((next : Int) + 1) = ((next + 1 : Nat) : Int) by omega, ← Int.ofNat_tmod]
  unfold up
  split
  · rename_i e; rw [e, Nat.mod_self]
  · rw [Nat.mod_eq_of_lt (by omega)]
theorem spot_tmod {P next n i : Nat} (h : next < P) (hi : i < n) (hn : n ≤ P) : ((next : Int) - n + i + P).tmod (P : Int) = (spot P next n i : Int) := by
  rw [show ((next : Int) - n + i + P) = ((next + (P - n) + i : Nat) : Int) by omega, ← Int.ofNat_tmod]
  unfold spot
  split
  · rw [Nat.mod_eq_of_lt (by omega)]
  · rw [Nat.mod_eq_sub_mod (by omega), Nat.mod_eq_of_lt (by omega)]

/-- Have the votes moved? -/
def moved (P : Nat) (bound : Int) (V : List Int) : Bool := decide (V.length = P) && decide (bound < Od.spread V)
/-- The run behind a value. -/
def run (win last r n : Int) : Int := min ((if n = last then r else 0) + 1) win
end Sk
end Go.Proofs.Ytmlhmmfgdioclaa

namespace Go.Proofs.Ytmlhmmfgdioclaa
set_option maxRecDepth 100000
namespace Dr
open Fx

/-- May a number be a difference? -/
def dif (d : Int) : Bool := decide (-4294967296 ≤ d) && decide (d ≤ 4294967296)
/-- May there be such a filter? -/
def may (lag bound : Int) : Bool := decide (0 ≤ lag) && decide (lag ≤ 8) && decide (0 ≤ bound) && decide (bound ≤ 2147483647)
/-- The level behind a difference. -/
def nx (lag level d : Int) : Int := if dif d = true then level + shift (d - level) lag else level
def ce (d : Int) : Int := if dif d = true then 0 else 1
/-- Is a level over a bound? -/
def ov (bound level : Int) : Bool := decide (bound < level) || decide (level < -bound)
def co (lag bound level d : Int) : Bool := dif d && ov bound (nx lag level d)
/-- The cells of a filter. -/
def fil (lag bound level : Int) : List Value := [.int .i64 bound, .int .i64 lag, .int .i64 level]

theorem dif_iff (d : Int) : dif d = true ↔ -4294967296 ≤ d ∧ d ≤ 4294967296 := by unfold dif; simp
theorem dif_no (d : Int) : dif d = false ↔ d < -4294967296 ∨ 4294967296 < d := by unfold dif; simp; omega
theorem may_iff (lag bound : Int) : may lag bound = true ↔ 0 ≤ lag ∧ lag ≤ 8 ∧ 0 ≤ bound ∧ bound ≤ 2147483647 := by
  unfold may; simp only [Bool.and_eq_true, decide_eq_true_eq, and_assoc]
theorem ce_yes {d : Int} (h : dif d = true) : ce d = 0 := if_pos h
theorem ce_no {d : Int} (h : dif d = false) : ce d = 1 := if_neg (by rw [h]; decide)
theorem nx_yes {lag level d : Int} (h : dif d = true) : nx lag level d = level + shift (d - level) lag := if_pos h
theorem nx_no {lag level d : Int} (h : dif d = false) : nx lag level d = level := if_neg (by rw [h]; decide)
theorem co_yes {lag bound level d : Int} (h : dif d = true) : co lag bound level d = ov bound (nx lag level d) := by unfold co; rw [h, Bool.true_and]
theorem co_no {lag bound level d : Int} (h : dif d = false) : co lag bound level d = false := by unfold co; rw [h, Bool.false_and]

/-- A quotient lies between 0 and what is divided. -/
theorem div_between (n b : Int) (hb : 1 ≤ b) : (0 ≤ n → 0 ≤ n / b ∧ n / b ≤ n) ∧ (n < 0 → n ≤ n / b ∧ n / b ≤ -1) := by
  refine ⟨fun h => div_bd n b hb h, fun h => ?_⟩
  rw [div_up n b hb]
  have h1 : (0 : Int) ≤ b - 1 - n := by omega
  have h2 := Int.ediv_nonneg h1 (show 0 ≤ b by omega)
  have h3 : 1 ≤ (b - 1 - n) / b := (Int.le_ediv_iff_mul_le (by omega)).2 (by omega)
  have h4 : (b - 1 - n) / b < -n + 1 := by
    refine (Int.ediv_lt_iff_lt_mul (by omega)).2 ?_
    have : (-n + 1) * b = -n * (b - 1) + -n + b := by rw [Int.add_mul, Int.mul_sub]; omega
    have h5 : 0 ≤ -n * (b - 1) := Int.mul_nonneg (by omega) (by omega)
    omega
  omega
theorem shift_small {n lag : Int} (hn : -8589934592 ≤ n ∧ n ≤ 8589934592) (h0 : 0 ≤ lag) (h8 : lag ≤ 8) : shift n lag = n / 2 ^ lag.toNat := by
  unfold shift; rw [if_pos ⟨(sm_iff n).2 (by omega), h0, by omega⟩]
/-- The level behind a difference lies between what it was, and the difference. -/
theorem nx_between {lag level d : Int} (hl : -4294967296 ≤ level ∧ level ≤ 4294967296) (hd : dif d = true) (h0 : 0 ≤ lag) (h8 : lag ≤ 8) :
    (level ≤ d → level ≤ nx lag level d ∧ nx lag level d ≤ d) ∧ (d < level → d ≤ nx lag level d ∧ nx lag level d ≤ level - 1) := by
  have hd' := (dif_iff d).1 hd
  rw [nx_yes hd, shift_small (by omega) h0 h8]
  have h := div_between (d - level) (2 ^ lag.toNat) (pow_pos2 _)
  exact ⟨fun q => by have := h.1 (by omega); omega, fun q => by have := h.2 (by omega); omega⟩
theorem nx_level {lag level d : Int} (hl : -4294967296 ≤ level ∧ level ≤ 4294967296) (h0 : 0 ≤ lag) (h8 : lag ≤ 8) : -4294967296 ≤ nx lag level d ∧ nx lag level d ≤ 4294967296 := by
  cases hd : dif d
  · rw [nx_no hd]; exact hl
  · have h := nx_between hl hd h0 h8
    have hd' := (dif_iff d).1 hd
    by_cases q : level ≤ d
    · have := h.1 q; omega
    · have := h.2 (by omega); omega
theorem nx_zero {level d : Int} (hl : -4294967296 ≤ level ∧ level ≤ 4294967296) (hd : dif d = true) : nx 0 level d = d := by
  have hd' := (dif_iff d).1 hd
  rw [nx_yes hd, shift_small (by omega) (by decide) (by decide)]
  rw [show ((0 : Int).toNat) = 0 from rfl, show ((2 : Int) ^ 0) = 1 from rfl, Int.ediv_one]; omega
theorem apart_zero {level : Int} (hl : -4294967296 ≤ level ∧ level ≤ 4294967296) : apart level 0 = if level < 0 then 0 - level else level - 0 := by
  unfold apart; rw [if_pos ⟨(sm_iff _).2 (by omega), (sm_iff _).2 (by omega)⟩]
theorem ov_apart {bound level : Int} (hl : -4294967296 ≤ level ∧ level ≤ 4294967296) (h0 : 0 ≤ bound) : ov bound level = decide (bound < apart level 0) := by
  rw [apart_zero hl]
  unfold ov
  split
  · rw [show decide (bound < level) = false by simp; omega, Bool.false_or]
    exact decide_eq_decide.2 (by omega)
  · rw [show decide (level < -bound) = false by simp; omega, Bool.or_false]
    exact decide_eq_decide.2 (by omega)
end Dr
end Go.Proofs.Ytmlhmmfgdioclaa

namespace Go.Proofs.Ytmlhmmfgdioclaa
set_option maxRecDepth 100000
namespace Ql
open Fx
open Jp (val val_iff val_no out)

/-- May there be such a trim? -/
def may (auth gain : Int) : Bool := decide (0 ≤ auth) && decide (auth ≤ 2147483647) && decide (0 ≤ gain) && decide (gain ≤ 8)
/-- Are both values? -/
def both (n vote : Int) : Bool := val n && val vote
/-- A number, at most so far from 0. -/
def lim (a x : Int) : Int := if a < x then a else if x < -a then -a else x
/-- The offset behind a value, and a vote. -/
def nx (auth gain offset n vote : Int) : Int := if both n vote = true then lim auth (offset + shift (n - vote - offset) gain) else offset
def ce (n vote : Int) : Int := if both n vote = true then 0 else 1
/-- What is even of a value. -/
def ev (offset n : Int) : Int := if val n = true then n - offset else 0
def ee (n : Int) : Int := if val n = true then 0 else 1
/-- The cells of a trim. -/
def tri (auth gain offset : Int) : List Value := [.int .i64 auth, .int .i64 gain, .int .i64 offset]

theorem may_iff (auth gain : Int) : may auth gain = true ↔ 0 ≤ auth ∧ auth ≤ 2147483647 ∧ 0 ≤ gain ∧ gain ≤ 8 := by
  unfold may; simp only [Bool.and_eq_true, decide_eq_true_eq, and_assoc]
theorem may_outs (auth gain : Int) : may auth gain = (!out 0 2147483647 auth && !out 0 8 gain) := by
  rw [Bool.eq_iff_iff, may_iff]
  unfold out
  first | (simp; done) | (simp; omega)
theorem val_out (n : Int) : out (-2147483648) 2147483647 n = !val n := by
  unfold out val
  rw [Bool.eq_iff_iff]
  first | (simp; done) | (simp; omega)
theorem both_iff (n vote : Int) : both n vote = true ↔ val n = true ∧ val vote = true := by unfold both; simp
theorem both_outs (n vote : Int) : [n, vote].any (out (-2147483648) 2147483647) = !both n vote := by
  unfold both
  simp [val_out]
theorem one_out (lo hi n : Int) : [n].any (out lo hi) = out lo hi n := by simp
theorem nx_yes {auth gain offset n vote : Int} (h : both n vote = true) : nx auth gain offset n vote = lim auth (offset + shift (n - vote - offset) gain) := if_pos h
theorem nx_no {auth gain offset n vote : Int} (h : both n vote = false) : nx auth gain offset n vote = offset := if_neg (by rw [h]; decide)
theorem ce_yes {n vote : Int} (h : both n vote = true) : ce n vote = 0 := if_pos h
theorem ce_no {n vote : Int} (h : both n vote = false) : ce n vote = 1 := if_neg (by rw [h]; decide)
theorem ev_yes {offset n : Int} (h : val n = true) : ev offset n = n - offset := if_pos h
theorem ev_no {offset n : Int} (h : val n = false) : ev offset n = 0 := if_neg (by rw [h]; decide)
theorem ee_yes {n : Int} (h : val n = true) : ee n = 0 := if_pos h
theorem ee_no {n : Int} (h : val n = false) : ee n = 1 := if_neg (by rw [h]; decide)
theorem lim_bd {a : Int} (h : 0 ≤ a) (x : Int) : -a ≤ lim a x ∧ lim a x ≤ a := by
  unfold lim; split
  · omega
  · split <;> omega
theorem lim_cases (a x : Int) : lim a x = a ∨ lim a x = -a ∨ lim a x = x := by
  unfold lim; split
  · exact Or.inl rfl
  · split
    · exact Or.inr (Or.inl rfl)
    · exact Or.inr (Or.inr rfl)
theorem lim_max {a : Int} (h : 0 ≤ a) (x : Int) : lim a x = max (-a) (min a x) := by
  unfold lim; split
  · omega
  · split <;> omega
/-- The program's words of it: a number clamped. -/
theorem lim_clamp {a x : Int} (h0 : 0 ≤ a) (h1 : a ≤ 2147483647) (hx : -8589934592 ≤ x ∧ x ≤ 8589934592) : clamp x (-a) a = lim a x := by
  unfold clamp
  rw [if_pos ⟨(sm_iff _).2 (by omega), (sm_iff _).2 (by omega), (sm_iff _).2 (by omega)⟩]
  unfold within lim
  split
  · rw [if_neg (by omega)]
    split
    · rfl
    · omega
  · split
    · rfl
    · rw [if_neg (by omega)]
theorem nx_bd {auth offset : Int} (gain n vote : Int) (h : 0 ≤ auth) (ho : -auth ≤ offset ∧ offset ≤ auth) : -auth ≤ nx auth gain offset n vote ∧ nx auth gain offset n vote ≤ auth := by
  cases hb : both n vote
  · rw [nx_no hb]; exact ho
  · rw [nx_yes hb]; exact lim_bd h _
/-- How far a value is from the vote, less the offset: shifted, it lies between 0 and it. -/
theorem step_between {gain offset n vote : Int} (hg : 0 ≤ gain ∧ gain ≤ 8) (ho : -2147483647 ≤ offset ∧ offset ≤ 2147483647) (hb : both n vote = true) :
    (offset ≤ n - vote → offset ≤ offset + shift (n - vote - offset) gain ∧ offset + shift (n - vote - offset) gain ≤ n - vote) ∧
    (n - vote < offset → n - vote ≤ offset + shift (n - vote - offset) gain ∧ offset + shift (n - vote - offset) gain ≤ offset) := by
  obtain ⟨h1, h2⟩ := (both_iff _ _).1 hb
  have v1 := (val_iff _).1 h1
  have v2 := (val_iff _).1 h2
  rw [Dr.shift_small (by omega) hg.1 hg.2]
  have h := Dr.div_between (n - vote - offset) (2 ^ gain.toNat) (pow_pos2 _)
  exact ⟨fun q => by have := h.1 (by omega); omega, fun q => by have := h.2 (by omega); omega⟩
theorem step_bd {gain offset n vote : Int} (hg : 0 ≤ gain ∧ gain ≤ 8) (ho : -2147483647 ≤ offset ∧ offset ≤ 2147483647) (hb : both n vote = true) :
    -4294967295 ≤ offset + shift (n - vote - offset) gain ∧ offset + shift (n - vote - offset) gain ≤ 4294967295 := by
  obtain ⟨h1, h2⟩ := (both_iff _ _).1 hb
  have v1 := (val_iff _).1 h1
  have v2 := (val_iff _).1 h2
  have h := step_between hg ho hb
  by_cases q : offset ≤ n - vote
  · have := h.1 q; omega
  · have := h.2 (by omega); omega
/-- The offset moves towards how far value and vote are apart, or to its bound. -/
theorem nx_between {auth gain offset n vote : Int} (hg : 0 ≤ gain ∧ gain ≤ 8) (ho : -2147483647 ≤ offset ∧ offset ≤ 2147483647) (hb : both n vote = true) :
    (nx auth gain offset n vote = auth ∨ nx auth gain offset n vote = -auth ∨ (min offset (n - vote) ≤ nx auth gain offset n vote ∧ nx auth gain offset n vote ≤ max offset (n - vote))) := by
  rw [nx_yes hb]
  have h := step_between hg ho hb
  rcases lim_cases auth (offset + shift (n - vote - offset) gain) with q | q | q
  · exact Or.inl q
  · exact Or.inr (Or.inl q)
  · refine Or.inr (Or.inr ?_)
    rw [q]
    by_cases r : offset ≤ n - vote
    · have := h.1 r; omega
    · have := h.2 (by omega); omega
/-- With a gain of 0 it is how far they are apart, within the authority. -/
theorem nx_zero {auth offset n vote : Int} (h0 : 0 ≤ auth) (ho : -2147483647 ≤ offset ∧ offset ≤ 2147483647) (hb : both n vote = true) : nx auth 0 offset n vote = max (-auth) (min auth (n - vote)) := by
  obtain ⟨h1, h2⟩ := (both_iff _ _).1 hb
  have v1 := (val_iff _).1 h1
  have v2 := (val_iff _).1 h2
  rw [nx_yes hb, Dr.shift_small (by omega) (by decide) (by decide), show ((0 : Int).toNat) = 0 from rfl, show ((2 : Int) ^ 0) = 1 from rfl, Int.ediv_one, lim_max h0]
  rw [show offset + (n - vote - offset) = n - vote by omega]
end Ql
end Go.Proofs.Ytmlhmmfgdioclaa
