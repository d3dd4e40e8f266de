/-
  What is told of a signal, as mathematics: whether a status may be, its word, the status of a word, its mode, its text. No function of the program is walked here. No conditions.
-/
import Derived.Test.YtpoededbmdffpaaGreatDoorFixMath
import Derived.Lib.Join
namespace Go.Proofs.YtpoededbmdffpaaGreatDoor
set_option maxRecDepth 100000
open Go.RowKit
namespace Ss
open Fx
structure St where
  i : Int
  l : Int
  s : Int
  f : Bool
/-- A mask of channels? -/
def mk (n : Int) : Bool := decide (0 ≤ n ∧ n < 16)
def rgt (s : St) : Bool := mk s.i && mk s.l && (s.f == (s.i == 0)) && (s.s == -1 || has s.i s.s)
def sw (s : Int) : Int := if s = -1 then 7 else s
def fw (f : Bool) : Int := if f then 2048 else 0
def wrd (s : St) : Int := s.i + s.l * 16 + sw s.s * 256 + fw s.f
def wdv (s : St) : Int := if rgt s then wrd s else 0
def wde (s : St) : Int := if rgt s then 0 else 1
def zer : St := ⟨0, 0, 0, false⟩
def sp (q : Int) : Int := if q = 7 then -1 else q
def parts (n : Int) : St := ⟨n.tmod 16, (n.tmod 256).tdiv 16, sp ((n.tmod 2048).tdiv 256), n.tdiv 2048 == 1⟩
/-- Is a number the word of what its parts tell? -/
def isw (n : Int) : Bool := rgt (parts n) && (wrd (parts n) == n)
def prs (n : Int) : St := if isw n then parts n else zer
def pre (n : Int) : Int := if isw n then 0 else 3
def nms : List (List UInt8) := [[104, 111, 108, 100], [115, 105, 110, 103, 108, 101], [100, 117, 112, 108, 101, 120], [116, 114, 105, 112, 108, 101], [113, 117, 97, 100]]
def nm (k : Nat) : List UInt8 := nms.getD k []
def md (m : Int) : List UInt8 := nm (count m).toNat
/-- The channels of a mask, of the first k. -/
def tx (m : Int) (k : Nat) : List UInt8 := ((List.range k).filter fun i : Nat => has m (i : Int)).map fun i => UInt8.ofNat (48 + i)
theorem mk_iff (n : Int) : mk n = true ↔ 0 ≤ n ∧ n < 16 := by unfold mk; simp
theorem tab_has : ((List.range 16).all fun m => (List.range 16).all fun i => !has (m : Int) (i : Int) || decide (i < 4)) = true := by decide +kernel
theorem has_lt {m i : Int} (h : mk m = true) (hh : has m i = true) : 0 ≤ i ∧ i < 4 := by
  have hm := (mk_iff m).1 h
  by_cases hi : 0 ≤ m ∧ m < 65536 ∧ 0 ≤ i ∧ i < 16
  · have := List.all_eq_true.1 (List.all_eq_true.1 tab_has m.toNat (List.mem_range.2 (by omega))) i.toNat (List.mem_range.2 (by omega))
    rw [show ((m.toNat : Nat) : Int) = m by omega, show ((i.toNat : Nat) : Int) = i by omega, hh] at this
    simp at this
    omega
  · rw [has_out m i hi] at hh; cases hh
theorem rgt_bd {s : St} (h : rgt s = true) : (0 ≤ s.i ∧ s.i < 16) ∧ (0 ≤ s.l ∧ s.l < 16) ∧ (-1 ≤ s.s ∧ s.s < 4) ∧ s.f = (s.i == 0) ∧ (s.s = -1 ∨ has s.i s.s = true) := by
  unfold rgt at h
  simp only [Bool.and_eq_true, Bool.or_eq_true] at h
  obtain ⟨⟨⟨h1, h2⟩, h3⟩, h4⟩ := h
  have e3 : s.f = (s.i == 0) := by simpa using h3
  have e4 : s.s = -1 ∨ has s.i s.s = true := by simpa using h4
  refine ⟨(mk_iff _).1 h1, (mk_iff _).1 h2, ?_, e3, e4⟩
  rcases e4 with e | e
  · omega
  · have := has_lt h1 e; omega
theorem wrd_bd {s : St} (h : rgt s = true) : 0 ≤ wrd s ∧ wrd s < 4096 := by
  obtain ⟨a, b, c, _, _⟩ := rgt_bd h
  unfold wrd sw fw
  split <;> split <;> omega
/-- A status that may be is that of its word. -/
theorem back {s : St} (h : rgt s = true) : parts (wrd s) = s := by
  have hb := wrd_bd h
  obtain ⟨a, b, c, d, e⟩ := rgt_bd h
  unfold parts
  obtain ⟨i, l, q, f⟩ := s
  simp only at *
  have e1 : (wrd ⟨i, l, q, f⟩).tmod 16 = i := by
    rw [Int.tmod_eq_emod_of_nonneg hb.1]
    unfold wrd sw fw; simp only
    split <;> split <;> omega
  have e2 : ((wrd ⟨i, l, q, f⟩).tmod 256).tdiv 16 = l := by
    rw [Int.tmod_eq_emod_of_nonneg hb.1, Int.tdiv_eq_ediv_of_nonneg (by omega)]
    unfold wrd sw fw; simp only
    split <;> split <;> omega
  have e3 : sp (((wrd ⟨i, l, q, f⟩).tmod 2048).tdiv 256) = q := by
    rw [Int.tmod_eq_emod_of_nonneg hb.1, Int.tdiv_eq_ediv_of_nonneg (by omega)]
    unfold sp wrd sw fw; simp only
    split <;> split <;> split <;> omega
  have e4 : ((wrd ⟨i, l, q, f⟩).tdiv 2048 == 1) = f := by
    rw [Int.tdiv_eq_ediv_of_nonneg hb.1]
    unfold wrd sw fw; simp only
    cases f
    · simp; split <;> omega
    · simp; split <;> omega
  rw [e1, e2, e3, e4]
theorem isw_wrd {s : St} (h : rgt s = true) : isw (wrd s) = true := by
  unfold isw; rw [back h, h]; simp
theorem prs_wrd {s : St} (h : rgt s = true) : prs (wrd s) = s := by unfold prs; rw [if_pos (isw_wrd h), back h]
theorem rgt_prs {n : Int} (h : isw n = true) : rgt (prs n) = true ∧ wrd (prs n) = n := by
  unfold prs; rw [if_pos h]
  unfold isw at h
  simpa using h
end Ss
end Go.Proofs.YtpoededbmdffpaaGreatDoor
