/-
  Plain mathematics for layer 6 (fresh): what a track tells of a slot, and what it holds behind it. No Go text is reached here. No conditions.
-/
import Derived.Test.YtpoededbmdffpaaGreatDoorFrameMath
namespace Go.Proofs.YtpoededbmdffpaaGreatDoor
set_option maxRecDepth 100000
open Go.RowKit
namespace Fh
open Wd Fm
open Cr (Bytes)
/-- What is told of a slot: its reject, its frame; the last number behind it, and whether there is one. -/
def jr (c last : Int) (has is : Bool) (l : List Int) : Int := if rej c is l = 0 then (if has = true ∧ fseq l ≠ next last then 6 else 0) else rej c is l
def jf (c last : Int) (has is : Bool) (l : List Int) : List Int := if jr c last has is l = 0 then dec c is l else List.replicate 9 0
def jl (c last : Int) (is : Bool) (l : List Int) : Int := if rej c is l = 0 then fseq l else last
def jh (c : Int) (has is : Bool) (l : List Int) : Bool := if rej c is l = 0 then true else has
theorem rej_range (c : Int) (is : Bool) (l : List Int) : 0 ≤ rej c is l ∧ rej c is l ≤ 5 := by
  unfold rej
  repeat' split
  all_goals omega
theorem jr_range (c last : Int) (has is : Bool) (l : List Int) : 0 ≤ jr c last has is l ∧ jr c last has is l ≤ 6 := by
  have := rej_range c is l
  unfold jr
  repeat' split
  all_goals omega
section
variable {c last : Int} {has is : Bool} {l : List Int}
theorem jr_no (h : rej c is l ≠ 0) : jr c last has is l = rej c is l := by unfold jr; rw [if_neg h]
theorem jf_no (h : rej c is l ≠ 0) : jf c last has is l = List.replicate 9 0 := by unfold jf; rw [jr_no h, if_neg h]
theorem jl_no (h : rej c is l ≠ 0) : jl c last is l = last := by unfold jl; rw [if_neg h]
theorem jh_no (h : rej c is l ≠ 0) : jh c has is l = has := by unfold jh; rw [if_neg h]
theorem jl_yes (h : rej c is l = 0) : jl c last is l = fseq l := by unfold jl; rw [if_pos h]
theorem jh_yes (h : rej c is l = 0) : jh c has is l = true := by unfold jh; rw [if_pos h]
theorem jr_stale (h : rej c is l = 0) (hh : has = true) (hs : fseq l ≠ next last) : jr c last has is l = 6 := by unfold jr; rw [if_pos h, if_pos ⟨hh, hs⟩]
theorem jf_stale (h : rej c is l = 0) (hh : has = true) (hs : fseq l ≠ next last) : jf c last has is l = List.replicate 9 0 := by unfold jf; rw [jr_stale h hh hs, if_neg (by decide)]
theorem jr_fine (h : rej c is l = 0) (hs : has = false ∨ fseq l = next last) : jr c last has is l = 0 := by
  unfold jr; rw [if_pos h, if_neg]; rintro ⟨h1, h2⟩; rcases hs with hs | hs
  · rw [hs] at h1; cases h1
  · exact h2 hs
theorem jf_fine (h : rej c is l = 0) (hs : has = false ∨ fseq l = next last) : jf c last has is l = fseq l :: fvals l := by unfold jf; rw [jr_fine h hs, if_pos rfl, dec_yes h]
end
/-- One is counted of a reject. -/
def one (n : List Int) (r : Nat) : List Int := n.set r (n.getD r 0 + 1)
end Fh
end Go.Proofs.YtpoededbmdffpaaGreatDoor
