/-
  What a latch does, as functions of numbers: a rule, a state, a cycle, a run. No function of the program is walked here. No conditions.
-/
import Derived.Test.YtpoededbmdffpaaGreatDoorChecked
import Derived.Test.YtpoededbmdffpaaGreatDoorBlk
namespace Go.Proofs.YtpoededbmdffpaaGreatDoor
set_option maxRecDepth 100000
open Go.ChangeShapes Go.WideShapes Go.ChangeAt Go.RowKit Go.Deep
namespace Lc
/-- Is a number from lo to hi? -/
def inb (n lo hi : Int) : Bool := decide (lo ≤ n) && decide (n ≤ hi)
theorem inb_iff {n lo hi : Int} : inb n lo hi = true ↔ lo ≤ n ∧ n ≤ hi := by unfold inb; simp
/-- May a rule be? -/
def rgt (L C B : Int) : Bool := inb L 1 100 && inb C 1 1000 && inb B 0 10
structure Rt (L C B : Int) : Prop where
  l1 : 1 ≤ L
  l2 : L ≤ 100
  c1 : 1 ≤ C
  c2 : C ≤ 1000
  b1 : 0 ≤ B
  b2 : B ≤ 10
theorem rgt_iff {L C B : Int} : rgt L C B = true ↔ Rt L C B := by
  unfold rgt
  rw [Bool.and_eq_true, Bool.and_eq_true, inb_iff, inb_iff, inb_iff]
  exact ⟨fun h => ⟨h.1.1.1, h.1.1.2, h.1.2.1, h.1.2.2, h.2.1, h.2.2⟩, fun h => ⟨⟨⟨h.l1, h.l2⟩, h.c1, h.c2⟩, h.b1, h.b2⟩⟩
/-- How it is. -/
structure St where
  la : Bool
  ou : Bool
  st : Int
  cl : Int
  bk : Int
def zer : St := ⟨false, false, 0, 0, 0⟩
/-- May a state be, by a rule that may be? -/
def fin (L C B : Int) (s : St) : Bool :=
  if s.ou then s.la && s.st == L && s.cl == 0 && s.bk == B
  else if s.la then s.st == L && inb s.cl 0 (C - 1) && inb s.bk 0 (B - 1)
  else inb s.st 0 (L - 1) && s.cl == 0 && inb s.bk 0 B
def fne (L C B : Int) (s : St) : Bool := rgt L C B && fin L C B s
theorem fne_right {L C B : Int} {s : St} (h : fne L C B s = true) : Rt L C B ∧ fin L C B s = true := by
  unfold fne at h; rw [Bool.and_eq_true] at h; exact ⟨rgt_iff.1 h.1, h.2⟩
/-- The state behind a cycle, and what happened in it. -/
def ste (L C B : Int) (s : St) (t : Bool) : St :=
  if s.ou then s
  else if s.la then (if t then { s with cl := 0 } else if s.cl + 1 < C then { s with cl := s.cl + 1 } else ⟨false, false, 0, 0, s.bk + 1⟩)
  else if t then (if s.st + 1 < L then { s with st := s.st + 1 } else if s.bk < B then { s with st := s.st + 1, la := true } else { s with st := s.st + 1, la := true, ou := true })
  else ⟨false, false, 0, 0, s.bk⟩
def wha (L C B : Int) (s : St) (t : Bool) : Int :=
  if s.ou then 0
  else if s.la then (if t then 0 else if s.cl + 1 < C then 0 else 2)
  else if t then (if s.st + 1 < L then 0 else if s.bk < B then 1 else 3)
  else 0
/-- A state that may be, in words. -/
inductive Fin (L C B : Int) : St → Prop
  | out : Fin L C B ⟨true, true, L, 0, B⟩
  | latched {c b : Int} (hc : 0 ≤ c ∧ c < C) (hb : 0 ≤ b ∧ b < B) : Fin L C B ⟨true, false, L, c, b⟩
  | in {s b : Int} (hs : 0 ≤ s ∧ s < L) (hb : 0 ≤ b ∧ b ≤ B) : Fin L C B ⟨false, false, s, 0, b⟩
theorem fin_iff {L C B : Int} {s : St} : fin L C B s = true ↔ Fin L C B s := by
  obtain ⟨la, ou, st, cl, bk⟩ := s
  constructor
  · intro h
    cases ou <;> cases la <;> simp [fin, inb] at h
    · obtain ⟨⟨⟨h1, h2⟩, rfl⟩, h3, h4⟩ := h
      exact .in (by omega) (by omega)
    · obtain ⟨⟨rfl, h1, h2⟩, h3, h4⟩ := h
      exact .latched (by omega) (by omega)
    · obtain ⟨⟨rfl, rfl⟩, rfl⟩ := h
      exact .out
  · intro h
    cases h with
    | out => simp [fin]
    | latched hc hb => simp [fin, inb]; omega
    | «in» hs hb => simp [fin, inb]; omega
theorem fin_zer {L C B : Int} (h : Rt L C B) : Fin L C B zer := .in ⟨Int.le_refl _, by have := h.l1; omega⟩ ⟨Int.le_refl _, h.b1⟩
theorem fin_ste {L C B : Int} (h : Rt L C B) {s : St} (hf : Fin L C B s) (t : Bool) : Fin L C B (ste L C B s t) := by
  have hl := h.l1
  have hc := h.c1
  cases hf with
  | out => exact .out
  | @latched c b hc' hb =>
    cases t
    · by_cases q : c + 1 < C
      · simp only [ste, Bool.false_eq_true, if_false, if_true, q]; exact .latched (by omega) hb
      · simp only [ste, Bool.false_eq_true, if_false, if_true, q]; exact .in (by omega) (by omega)
    · exact .latched (by omega) hb
  | @«in» s b hs hb =>
    cases t
    · exact .in (by omega) hb
    · by_cases q : s + 1 < L
      · simp only [ste, Bool.false_eq_true, if_false, if_true, q]; exact .in (by omega) hb
      · have e : s + 1 = L := by omega
        by_cases p : b < B
        · simp only [ste, Bool.false_eq_true, if_false, if_true, p, e, Int.lt_irrefl]; exact .latched (by omega) (by omega)
        · have e' : b = B := by omega
          simp only [ste, Bool.false_eq_true, if_false, if_true, e', e, Int.lt_irrefl]; exact .out
/-- The numbers of a state that may be are small. -/
structure Sm (s : St) : Prop where
  st : 0 ≤ s.st ∧ s.st ≤ 100
  cl : 0 ≤ s.cl ∧ s.cl ≤ 1000
  bk : 0 ≤ s.bk ∧ s.bk ≤ 10
/-! ### A run -/
end Lc
end Go.Proofs.YtpoededbmdffpaaGreatDoor
