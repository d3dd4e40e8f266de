/-
  Plain mathematics for the law OrderMidst: where the mid of one to four numbers lies. No Go text is reached here. No conditions.
-/
import Derived.Test.YtpoededbmdffpaaGreatDoorOrderMath
namespace Go.Proofs.YtpoededbmdffpaaGreatDoor
set_option maxRecDepth 100000
open Go.RowKit
namespace Od
open Fx
theorem midOf_in {s : List Int} (hu : Up s) (h1 : 1 ≤ s.length) (h4 : s.length ≤ 4) : s.getD 0 0 ≤ midOf s ∧ midOf s ≤ s.getD (s.length - 1) 0 := by
  have a1 := up_getD hu (i := 0) (j := (s.length - 1) / 2) (by omega) (by omega)
  have a2 := up_getD hu (i := (s.length - 1) / 2) (j := s.length / 2) (by omega) (by omega)
  have a3 := up_getD hu (i := s.length / 2) (j := s.length - 1) (by omega) (by omega)
  unfold midOf; omega
theorem mid_in {l : List Int} (hk : ok l = true) (h1 : 1 ≤ l.length) (h4 : l.length ≤ 4) : (srt l).getD 0 0 ≤ midv l ∧ midv l ≤ (srt l).getD (l.length - 1) 0 := by
  have := midOf_in (srt_up l) (by rw [srt_len]; exact h1) (by rw [srt_len]; exact h4)
  rw [srt_len] at this
  unfold midv; rw [if_pos (midb_yes hk h1 h4)]; exact this
end Od
end Go.Proofs.YtpoededbmdffpaaGreatDoor
