/-
  Trips as texts, in numbers and lists: names, texts, what a text's pieces come to, what is in a mask. Nothing of a program here. No conditions.
-/
import Derived.Test.YtpoededbmdffpaaGreatDoorFixMath
import Derived.Lib.Join
import Derived.Lib.Bytealg
namespace Go.Proofs.YtpoededbmdffpaaGreatDoor
set_option maxRecDepth 100000
namespace Tp
open Fx
/-- The names, in their order. -/
def nms : List (List UInt8) := [[102, 114, 97, 109, 101], [114, 97, 110, 103, 101], [115, 112, 105, 107, 101], [115, 116, 117, 99, 107], [100, 114, 105, 102, 116], [109, 105, 115]]
def nm (i : Nat) : List UInt8 := nms.getD i []
def bitOf (m i : Nat) : Bool := m / 2 ^ i % 2 == 1
/-- The names of the first k trips that are in a mask. -/
def parts (m k : Nat) : List (List UInt8) := ((List.range k).filter (bitOf m)).map nm
def tx (m : Nat) : List UInt8 := if m = 0 then [45] else Lib.join (parts m 6) [43]
/-- The text of a number. -/
def txt (m : Int) : List UInt8 := if 0 ≤ m ∧ m ≤ 63 then tx m.toNat else []
def inn (m b : Int) : Bool := decide (0 ≤ m ∧ m ≤ 63) && (List.range 6).any fun i => b == 2 ^ i && bitOf m.toNat i
def num : Option Nat → Int
  | some m => m
  | none => 0
/-! Pieces. -/
/-- What lies between the '+'. -/
def pcs : List UInt8 → List (List UInt8)
  | [] => [[]]
  | b :: t => if b = 43 then [] :: pcs t else match pcs t with
    | p :: r => (b :: p) :: r
    | [] => [[b]]
/-! What the pieces come to. -/
/-- The first name from i on that a piece is. -/
def fnd (p : List UInt8) (i : Nat) : Option Nat := (List.range 6).find? fun j => decide (i ≤ j) && decide (nm j = p)
def stp : Option (Nat × Nat) → List UInt8 → Option (Nat × Nat)
  | none, _ => none
  | some (m, i), p => match fnd p i with
    | some j => some (m + 2 ^ j, j + 1)
    | none => none
def run (l : List (List UInt8)) : Option (Nat × Nat) := l.foldl stp (some (0, 0))
def prs (s : List UInt8) : Option Nat := if s = [45] then some 0 else (run (pcs s)).map (·.1)
/-! In a mask. -/
theorem tab_in : ((List.range 64).all fun m => (List.range 64).all fun b => ((count b == 1 && (Nat.land m b == b)) == (List.range 6).any fun i => (b == 2 ^ i) && bitOf m i)) = true := by decide +kernel
theorem bit_small {b : Int} (h : count b = 1) : 0 ≤ b ∧ b < 65536 := by
  by_cases c : 0 ≤ b ∧ b < 65536
  · exact c
  · have : ∀ k, countTo b k = 0 := by
      intro k
      induction k with
      | zero => rfl
      | succ k ih => unfold countTo; rw [ih, has_out _ _ (by omega)]; rfl
    have e : count b = ((0 : Nat) : Int) := congrArg (fun q : Nat => (q : Int)) (this 16)
    rw [e] at h
    exact absurd h (by decide)
theorem in_eq {m b : Int} (h0 : 0 ≤ m) (h1 : m ≤ 63) (h : count b = 1) : (Go.bits .and .i64 m b == b) = inn m b := by
  obtain ⟨b0, b1⟩ := bit_small h
  obtain ⟨m, rfl⟩ : ∃ k : Nat, m = k := ⟨m.toNat, by omega⟩
  obtain ⟨b, rfl⟩ : ∃ k : Nat, b = k := ⟨b.toNat, by omega⟩
  rw [and_i64_nat m b (by omega) (by omega)]
  unfold inn
  have e1 : decide (0 ≤ (m : Int) ∧ (m : Int) ≤ 63) = true := by simp; omega
  rw [e1, Bool.true_and]
  have hl : Nat.land m b ≤ m := Nat.and_le_left
  by_cases hb : b < 64
  · have h2 := List.all_eq_true.1 tab_in m (List.mem_range.2 (by omega))
    have h3 := List.all_eq_true.1 h2 b (List.mem_range.2 hb)
    have h4 : (count (b : Int) == 1) = true := by rw [h]; rfl
    rw [h4, Bool.true_and] at h3
    have h5 := eq_of_beq h3
    have e2 : ((((m &&& b : Nat) : Int)) == (b : Int)) = (Nat.land m b == b) := by
      rw [Bool.eq_iff_iff]; simp; exact Int.ofNat_inj
    have hf : (fun i : Nat => (b == 2 ^ i) && bitOf m i) = fun i : Nat => ((b : Int) == 2 ^ i) && bitOf ((m : Int)).toNat i := by
      funext i
      have e3 : (b == 2 ^ i) = ((b : Int) == 2 ^ i) := by
        rw [Bool.eq_iff_iff, beq_iff_eq, beq_iff_eq]
        exact ⟨fun q => by rw [q]; simp, fun q => by exact_mod_cast q⟩
      rw [e3, Int.toNat_natCast]
    rw [e2, h5, hf]
  · have e2 : ((((m &&& b : Nat) : Int)) == (b : Int)) = false := by
      simp
      have : m &&& b ≤ m := Nat.and_le_left
      omega
    rw [e2]
    symm
    rw [List.any_eq_false]
    intro i hi
    have hi' : i < 6 := by simpa using hi
    have : (2 : Int) ^ i ≤ 2 ^ 5 := pow_mono2 i 5 (by omega)
    have hne : ((b : Int) == 2 ^ i) = false := by simp; omega
    simp [hne]
theorem in_out {m b : Int} (h : ¬ (0 ≤ m ∧ m ≤ 63)) : inn m b = false := by
  unfold inn
  rw [show decide (0 ≤ m ∧ m ≤ 63) = false by simpa using h, Bool.false_and]
theorem in_no {m b : Int} (h : count b ≠ 1) : inn m b = false := by
  unfold inn
  rw [Bool.and_eq_false_iff]
  right
  rw [List.any_eq_false]
  intro i hi
  have hi' : i < 6 := by simpa using hi
  have hb : b ≠ 2 ^ i := by
    intro e
    have : i ∈ [0, 1, 2, 3, 4, 5] := by simp; omega
    simp only [List.mem_cons, List.mem_nil_iff, or_false] at this
    subst e
    rcases this with rfl | rfl | rfl | rfl | rfl | rfl <;> exact absurd (by decide +kernel) h
  simp [hb]
/-- In a mask, of the trip with that place. -/
theorem in_pow {m i : Nat} (hm : m < 64) (hi : i < 6) : inn (m : Int) (2 ^ i) = bitOf m i := by
  unfold inn
  rw [show decide (0 ≤ (m : Int) ∧ (m : Int) ≤ 63) = true by simp; omega, Bool.true_and, Int.toNat_natCast]
  have : i ∈ [0, 1, 2, 3, 4, 5] := by simp; omega
  simp only [List.mem_cons, List.mem_nil_iff, or_false] at this
  rcases this with rfl | rfl | rfl | rfl | rfl | rfl <;> simp [List.range, List.range.loop]
end Tp
end Go.Proofs.YtpoededbmdffpaaGreatDoor
