/-
  The walk of the law OrderMidst: for every list and every two numbers it returns true, and writes nothing that was there. Its conditions: the list's bytes are within the reach.
-/
import Derived.Test.YtkfcgdhicmmklaaOrderMidstB
namespace Go.Proofs.Ytkfcgdhicmmklaa
open Go.ChangeShapes Go.WideShapes Go.ChangeAt Go.RowKit Go.Deep
namespace orderMidst
open Fx Od

theorem u8_bd {n : Int} (h : (Lit.int .u8 n).wf = true) : ∃ t : Nat, n = (t : Int) ∧ t < 256 := by
  have h1 : IntKind.u8.min = 0 := rfl
  have h2 : IntKind.u8.max = 255 := rfl
  simp only [Lit.wf, Bool.and_eq_true, decide_eq_true_eq] at h
  exact ⟨n.toNat, by omega, by omega⟩

theorem walk (a : Option Addr) (cap : Nat) (l : List Int) (odd turn : Int) (w : World) (_m0 : l.length ≤ maxLen) (c0 : l.length ≤ cap ∧ cap ≤ maxLen) (z : cap * 8 ≤ 140737488351232) (_f : ∀ n ∈ l, (Lit.int .i64 n).wf = true) (hb : IntsAt .i64 w a l)
    (_w1 : (Lit.int .i64 odd).wf = true) (w2 : (Lit.int .u8 turn).wf = true) :
    Calls Try.prog 5 #[.slice a l.length cap, .int .i64 odd, .int .u8 turn] w fun e w' => e = .returned (.bool true) ∧ Below w.heap.size w w' := by
  by_cases h : ok (l ++ [odd]) = false ∨ l.length < 1 ∨ 4 < l.length
  · exact walkA a cap l odd turn w c0.1 z hb h
  · obtain ⟨t, rfl, ht⟩ := u8_bd w2
    have hok : ok (l ++ [odd]) = true := by cases hk : ok (l ++ [odd]); exact absurd (Or.inl hk) h; rfl
    have h1 : ¬ l.length < 1 := fun q => h (Or.inr (Or.inl q))
    have h4 : ¬ 4 < l.length := fun q => h (Or.inr (Or.inr q))
    rcases hb with hno | ⟨b, off, rfl, hc⟩
    · rw [hno] at h1; exact absurd (by simp) h1
    · rcases (show l.length = 1 ∨ l.length = 2 ∨ l.length = 3 ∨ l.length = 4 by omega) with e | e | e | e
      · have := main1 b off cap l odd t w e c0.1 z hc hok ht; rw [e]; exact this
      · have := main2 b off cap l odd t w e c0.1 z hc hok ht; rw [e]; exact this
      · have := main3 b off cap l odd t w e c0.1 z hc hok ht; rw [e]; exact this
      · have := main4 b off cap l odd t w e c0.1 z hc hok ht; rw [e]; exact this
end orderMidst
end Go.Proofs.Ytkfcgdhicmmklaa
