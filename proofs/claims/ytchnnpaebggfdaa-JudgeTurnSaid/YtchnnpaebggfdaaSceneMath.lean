/-
  Plain mathematics for layer 22 (scene): a scene, its fault, what its channels send, the range of a signal, and whether the odd one is far off. No Go text is reached here. No conditions.
-/
import Derived.Test.YtchnnpaebggfdaaJConfigRows3
import Derived.Test.YtchnnpaebggfdaaJCrcMath23
namespace Go.Proofs.Ytchnnpaebggfdaa
set_option maxRecDepth 100000
open Go.ChangeShapes Go.WideShapes Go.ChangeAt Go.RowKit Go.Deep
namespace Sc
open Cf (G CA)
/-- A point: truths, how far each channel is off (eight numbers a channel), a slot, and where its bytes lie. -/
structure Pt where
  t : List Int
  o : List Int
  is : Bool
  a : Option Addr
  cap : Nat
  l : List Int
def noPt : Pt := ⟨[], [], false, none, 0, []⟩
structure Sn where
  c : List Int
  e : Int
  r : Int
  odd : Int
  q : List Int
  ps : List Pt
def NN (s : Sn) : Nat := (G s.c 0).toNat
def pt (s : Sn) (i : Nat) : Pt := s.ps.getD i noPt
def tv (s : Sn) (i n : Nat) : Int := (pt s i).t.getD n 0
def ov (s : Sn) (i k n : Nat) : Int := (pt s i).o.getD (k * 8 + n) 0
def qv (s : Sn) (k : Nat) : Int := s.q.getD k 0
def inT (s : Sn) (x : Int) : Bool := decide (G s.c 1 + s.e ≤ x) && decide (x ≤ G s.c 2 - s.e)
/-- One truth; a point's truths; how far one is off; a channel; a point. -/
def tok1 (s : Sn) (i n : Nat) : Bool := inT s (tv s i n) && (decide (i = 0) || (decide (tv s i n - tv s (i - 1) n ≤ s.r) && decide (tv s (i - 1) n - tv s i n ≤ s.r)))
def tok (s : Sn) (i : Nat) : Bool := (List.range 8).all (tok1 s i)
def nok2 (s : Sn) (i k n : Nat) : Bool := decide (-s.e ≤ ov s i k n) && decide (ov s i k n ≤ s.e)
def nok1 (s : Sn) (i k : Nat) : Bool := decide ((k : Int) = s.odd) || (List.range 8).all (nok2 s i k)
def nok (s : Sn) (i : Nat) : Bool := (List.range (NN s)).all (nok1 s i)
def num1 (s : Sn) (k : Nat) : Bool := decide (0 ≤ qv s k) && decide (qv s k ≤ 65535)
def num (s : Sn) : Bool := (List.range (NN s)).all (num1 s)
def odk (s : Sn) : Bool := decide (-1 ≤ s.odd) && decide (s.odd ≤ G s.c 0 - 1)
def fv (s : Sn) (i : Nat) : ByteArray := if (List.range i).all (nok s) = true then ⟨#[]⟩ else ⟨#[111, 102, 102]⟩
def pf (s : Sn) : ByteArray := if (List.range s.ps.length).all (tok s) = true then fv s s.ps.length else ⟨#[116, 114, 117, 116, 104]⟩
def cv (s : Sn) : Bool := Cf.cov s.c s.e s.r
def fault (s : Sn) : ByteArray :=
  if cv s = false then ⟨#[99, 111, 118, 101, 114]⟩ else if odk s = false then ⟨#[111, 100, 100]⟩ else if num s = false then ⟨#[110, 117, 109, 98, 101, 114]⟩ else if 10000 < s.ps.length then ⟨#[112, 111, 105, 110, 116, 115]⟩ else pf s
def val (s : Sn) (i k n : Nat) : Int := tv s i n + ov s i k n
/-- The frame's number, its values, its bytes. -/
def sq (s : Sn) (i k : Nat) : Int := (qv s k + i) % 65536
def vs (s : Sn) (i k : Nat) : List Int := (List.range 8).map (val s i k)
/-- The least, and the greatest value of the first m channels but the odd one. -/
def lo (b : Int) (s : Sn) (i n : Nat) : Nat → Int
  | 0 => b
  | m + 1 => if (m : Int) = s.odd then lo b s i n m else min (lo b s i n m) (val s i m n)
def hi (b : Int) (s : Sn) (i n : Nat) : Nat → Int
  | 0 => b
  | m + 1 => if (m : Int) = s.odd then hi b s i n m else max (hi b s i n m) (val s i m n)
def bound (s : Sn) : Int := G s.c 9 + s.e + 2 * G s.c 10 + G s.c 12
/-- Is the odd one far off? (f: the frame of its slot.) -/
def dst (s : Sn) (i n : Nat) : Int := (Fm.dec s.odd (pt s i).is (pt s i).l).getD (1 + n) 0 - tv s i n
def rj (s : Sn) (i : Nat) : Int := Fm.rej s.odd (pt s i).is (pt s i).l
def far (s : Sn) (i n : Nat) : Bool := decide (0 ≤ s.odd) && (decide (rj s i ≠ 0) || decide (bound s < dst s i n ∨ dst s i n < -bound s))
/-- Is there such a point, and signal? -/
def has (s : Sn) (i n : Int) : Bool := (decide (0 ≤ i) && decide (i ≤ (s.ps.length : Int) - 1)) && ((decide (0 ≤ n) && decide (n ≤ 7)) && decide (fault s = ⟨#[]⟩))
/-- A scene that is right. -/
structure Ok (s : Sn) : Prop where
  cov : cv s = true
  odd : -1 ≤ s.odd ∧ s.odd ≤ G s.c 0 - 1
  num : ∀ k, k < NN s → 0 ≤ qv s k ∧ qv s k ≤ 65535
  few : s.ps.length ≤ 10000
  tru : ∀ i, i < s.ps.length → tok s i = true
  off : ∀ i, i < s.ps.length → nok s i = true
theorem all_range {p : Nat → Bool} {m : Nat} : (List.range m).all p = true ↔ ∀ i, i < m → p i = true := by
  rw [List.all_eq_true]; simp [List.mem_range]
theorem all_range_no {p : Nat → Bool} {m i : Nat} (h : i < m) (hp : p i = false) : (List.range m).all p = false := by
  rw [← Bool.not_eq_true, all_range]; exact fun q => by rw [q i h] at hp; cases hp
theorem fault_ok {s : Sn} : fault s = ⟨#[]⟩ ↔ Ok s := by
  have ne : ∀ (x : UInt8) (l : List UInt8), ¬ ((⟨⟨x :: l⟩⟩ : ByteArray) = ⟨#[]⟩) := by
    intro x l h; injection h with h; simp at h
  unfold fault
  constructor
  · intro h
    split at h
    · exact absurd h (ne _ _)
    · rename_i h1
      split at h
      · exact absurd h (ne _ _)
      · rename_i h2
        split at h
        · exact absurd h (ne _ _)
        · rename_i h3
          split at h
          · exact absurd h (ne _ _)
          · rename_i h4
            unfold pf at h
            split at h
            · rename_i h5
              unfold fv at h
              split at h
              · rename_i h6
                have h2' : odk s = true := by simpa using h2
                have h3' : num s = true := by simpa using h3
                unfold odk at h2'
                unfold num at h3'
                rw [all_range] at h3' h5 h6
                simp only [Bool.and_eq_true, decide_eq_true_eq] at h2'
                exact ⟨by simpa using h1, h2', fun k hk => by have := h3' k hk; unfold num1 at this; simpa using this, by omega, h5, h6⟩
              · exact absurd h (ne _ _)
            · exact absurd h (ne _ _)
  · intro H
    have h2 : odk s = true := by unfold odk; have := H.odd; simp; omega
    have h3 : num s = true := by unfold num; rw [all_range]; intro k hk; have := H.num k hk; unfold num1; simp; omega
    have h5 : (List.range s.ps.length).all (tok s) = true := all_range.2 H.tru
    have h6 : (List.range s.ps.length).all (nok s) = true := all_range.2 H.off
    rw [if_neg (by rw [H.cov]; decide), if_neg (by rw [h2]; decide), if_neg (by rw [h3]; decide), if_neg (by have := H.few; omega)]
    unfold pf fv
    rw [if_pos h5, if_pos h6]
/-- What a configuration that covers says of its numbers. -/
structure Cv (s : Sn) : Prop where
  n : G s.c 0 = 3 ∨ G s.c 0 = 4
  nn : NN s = 3 ∨ NN s = 4
  eq : G s.c 0 = NN s
  lo : -2147483648 ≤ G s.c 1
  hi : G s.c 2 ≤ 2147483647
  e : 0 ≤ s.e ∧ s.e ≤ 1073741824
  r : 0 ≤ s.r ∧ s.r ≤ 1073741824
  w : G s.c 1 + s.e ≤ G s.c 2 - s.e
  m : 0 ≤ G s.c 9 ∧ G s.c 9 ≤ 2147483647
  a : 0 ≤ G s.c 10 ∧ G s.c 10 ≤ 2147483647
  p : 0 ≤ G s.c 12 ∧ G s.c 12 ≤ 2147483647
theorem cv_of {s : Sn} (h : cv s = true) : Cv s := by
  unfold cv Cf.cov at h
  have h := of_decide_eq_true h
  obtain ⟨⟨h1, h2, h3, h4⟩, hR, h5, h6, h7, h8, h9⟩ := (show (0 ≤ s.e ∧ s.e ≤ 1073741824 ∧ 0 ≤ s.r ∧ s.r ≤ 1073741824) ∧ Cf.Right s.c ∧ _ ∧ _ ∧ _ ∧ _ ∧ _ from h)
  unfold Cf.Right at hR
  have hn : NN s = 3 ∨ NN s = 4 := by unfold NN; omega
  refine ⟨by omega, hn, by unfold NN; omega, by omega, by omega, by omega, by omega, ?_, by omega, by omega, by omega⟩
  omega
theorem tok_1 {s : Sn} {i n : Nat} (h : tok s i = true) (hn : n < 8) : G s.c 1 + s.e ≤ tv s i n ∧ tv s i n ≤ G s.c 2 - s.e := by
  have := (all_range.1 h) n hn
  unfold tok1 inT at this
  simp only [Bool.and_eq_true, decide_eq_true_eq] at this
  exact this.1
theorem nok_1 {s : Sn} {i k n : Nat} (h : nok s i = true) (hk : k < NN s) (hn : n < 8) (ho : ¬ (k : Int) = s.odd) : -s.e ≤ ov s i k n ∧ ov s i k n ≤ s.e := by
  have := (all_range.1 h) k hk
  unfold nok1 at this
  rw [Bool.or_eq_true, decide_eq_true_eq] at this
  have := (all_range.1 (this.resolve_left ho)) n hn
  unfold nok2 at this
  simpa using this
section
variable {s : Sn} (H : Ok s) {i k n : Nat} (hi : i < s.ps.length)
include H hi
theorem Ok.near (hk : k < NN s) (hn : n < 8) (ho : ¬ (k : Int) = s.odd) : tv s i n - s.e ≤ val s i k n ∧ val s i k n ≤ tv s i n + s.e := by
  have := nok_1 (H.off i hi) hk hn ho
  unfold val; omega
theorem Ok.truth (hn : n < 8) : G s.c 1 + s.e ≤ tv s i n ∧ tv s i n ≤ G s.c 2 - s.e := tok_1 (H.tru i hi) hn
theorem Ok.within (hk : k < NN s) (hn : n < 8) (ho : ¬ (k : Int) = s.odd) : G s.c 1 ≤ val s i k n ∧ val s i k n ≤ G s.c 2 := by
  have h1 := H.near hi hk hn ho
  have h2 := H.truth hi hn
  omega
theorem Ok.right (hk : k < NN s) (ho : ¬ (k : Int) = s.odd) : Fm.right (sq s i k) (vs s i k) = true ∧ Fm.chan k = true := by
  have C := cv_of H.cov
  refine ⟨(Fm.right_iff _ _).2 ⟨?_, ?_⟩, (Fm.chan_iff _).2 (by have := C.nn; omega)⟩
  · rw [List.all_eq_true]
    intro x hx
    unfold vs at hx
    rw [List.mem_map] at hx
    obtain ⟨n, hn, rfl⟩ := hx
    have := H.within hi hk (List.mem_range.1 hn) ho
    have c1 := C.lo
    have c2 := C.hi
    exact (Wd.in4_iff _).2 (by omega)
  · refine (Wd.in2_iff _).2 ?_
    unfold sq
    have := Int.emod_nonneg (qv s k + i) (b := 65536) (by decide)
    have := Int.emod_lt_of_pos (qv s k + i) (b := 65536) (by decide)
    omega
end
section
variable {s : Sn} {i n : Nat} {x y b : Int}
theorem lo_each {k m : Nat} (hk : k < m) (ho : ¬ (k : Int) = s.odd) : lo b s i n m ≤ val s i k n := by
  induction m with
  | zero => omega
  | succ m ih =>
    unfold lo
    rcases Nat.lt_succ_iff_lt_or_eq.1 hk with h | rfl
    · have := ih h
      split <;> omega
    · rw [if_neg ho]; omega
theorem hi_each {k m : Nat} (hk : k < m) (ho : ¬ (k : Int) = s.odd) : val s i k n ≤ hi b s i n m := by
  induction m with
  | zero => omega
  | succ m ih =>
    unfold hi
    rcases Nat.lt_succ_iff_lt_or_eq.1 hk with h | rfl
    · have := ih h
      split <;> omega
    · rw [if_neg ho]; omega
theorem lo_above {m : Nat} (hb : x ≤ b) (h : ∀ k, k < m → ¬ (k : Int) = s.odd → x ≤ val s i k n) : x ≤ lo b s i n m := by
  induction m with
  | zero => exact hb
  | succ m ih =>
    have := ih (fun k hk => h k (by omega))
    unfold lo
    split
    · exact this
    · rename_i ho; have := h m (Nat.lt_succ_self _) ho; omega
theorem hi_below {m : Nat} (hb : b ≤ x) (h : ∀ k, k < m → ¬ (k : Int) = s.odd → val s i k n ≤ x) : hi b s i n m ≤ x := by
  induction m with
  | zero => exact hb
  | succ m ih =>
    have := ih (fun k hk => h k (by omega))
    unfold hi
    split
    · exact this
    · rename_i ho; have := h m (Nat.lt_succ_self _) ho; omega
theorem lo_none {m : Nat} (h : ∀ k, k < m → (k : Int) = s.odd) : lo b s i n m = b := by
  induction m with
  | zero => rfl
  | succ m ih =>
    unfold lo
    rw [if_pos (h m (Nat.lt_succ_self _))]
    exact ih (fun k hk => h k (by omega))
theorem hi_none {m : Nat} (h : ∀ k, k < m → (k : Int) = s.odd) : hi b s i n m = b := by
  induction m with
  | zero => rfl
  | succ m ih =>
    unfold hi
    rw [if_pos (h m (Nat.lt_succ_self _))]
    exact ih (fun k hk => h k (by omega))
theorem lo_base {b b' : Int} {m : Nat} (h : ∃ k, k < m ∧ ¬ (k : Int) = s.odd) (h1 : ∀ k, k < m → ¬ (k : Int) = s.odd → val s i k n ≤ b ∧ val s i k n ≤ b') : lo b s i n m = lo b' s i n m := by
  induction m with
  | zero => obtain ⟨k, hk, _⟩ := h; omega
  | succ m ih =>
    have g := fun k (hk : k < m) => h1 k (by omega)
    by_cases hm : (m : Int) = s.odd
    · unfold lo
      rw [if_pos hm, if_pos hm]
      obtain ⟨k, hk, ho⟩ := h
      rcases Nat.lt_succ_iff_lt_or_eq.1 hk with h' | rfl
      · exact ih ⟨k, h', ho⟩ g
      · exact absurd hm ho
    · unfold lo
      rw [if_neg hm, if_neg hm]
      by_cases hx : ∃ j, j < m ∧ ¬ (j : Int) = s.odd
      · rw [ih hx g]
      · have hall : ∀ j, j < m → (j : Int) = s.odd := fun j hj => by
          by_cases h : (j : Int) = s.odd
          · exact h
          · exact absurd ⟨j, hj, h⟩ hx
        rw [lo_none hall, lo_none hall]
        have := h1 m (Nat.lt_succ_self _) hm
        omega
theorem hi_base {b b' : Int} {m : Nat} (h : ∃ k, k < m ∧ ¬ (k : Int) = s.odd) (h1 : ∀ k, k < m → ¬ (k : Int) = s.odd → b ≤ val s i k n ∧ b' ≤ val s i k n) : hi b s i n m = hi b' s i n m := by
  induction m with
  | zero => obtain ⟨k, hk, _⟩ := h; omega
  | succ m ih =>
    have g := fun k (hk : k < m) => h1 k (by omega)
    by_cases hm : (m : Int) = s.odd
    · unfold hi
      rw [if_pos hm, if_pos hm]
      obtain ⟨k, hk, ho⟩ := h
      rcases Nat.lt_succ_iff_lt_or_eq.1 hk with h' | rfl
      · exact ih ⟨k, h', ho⟩ g
      · exact absurd hm ho
    · unfold hi
      rw [if_neg hm, if_neg hm]
      by_cases hx : ∃ j, j < m ∧ ¬ (j : Int) = s.odd
      · rw [ih hx g]
      · have hall : ∀ j, j < m → (j : Int) = s.odd := fun j hj => by
          by_cases h : (j : Int) = s.odd
          · exact h
          · exact absurd ⟨j, hj, h⟩ hx
        rw [hi_none hall, hi_none hall]
        have := h1 m (Nat.lt_succ_self _) hm
        omega
theorem some_in {s : Sn} (C : Cv s) : ∃ k, k < NN s ∧ ¬ (k : Int) = s.odd := by
  have := C.nn
  by_cases h : ((0 : Nat) : Int) = s.odd
  · exact ⟨1, by omega, by omega⟩
  · exact ⟨0, by omega, h⟩
end
end Sc
end Go.Proofs.Ytchnnpaebggfdaa
