/-
  Package-level variables that the text lays, where they lie in memory: a table of strings. No function of the program is walked here. No conditions.
-/
import Derived.Test.YtpoededbmdffpaaGreatDoorOpen
import Derived.LaidMore
import Derived.MakeChecks
namespace Go.Proofs.YtpoededbmdffpaaGreatDoor
set_option maxRecDepth 100000
open Go.ChangeShapes Go.WideShapes Go.ChangeAt Go.RowKit Go.Deep
namespace La
/-- One listed variable of those that the condition speaks of. -/
theorem one {P : Program} {W : World} {n : String} {d : DataW Unit} : ∀ (l : List (String × DataW Unit)) (ps : List MemPlace), DataW.LaidVars P W l ps → (n, d) ∈ l →
    ∃ g t cs fuel p, P.globalNamed n = some g ∧ (P.globals[g]?).map (·.type) = some t ∧ W.var? P n = some cs ∧ DataW.trod (fun _ => ()) P W 0 (fun _ => true) false fuel t cs.toList = some (d, p)
  | [], _, _, h => by cases h
  | (m, e) :: r, ps, hl, h => by
    obtain ⟨g, t, cs, fuel, p, q, h1, h2, h3, h4, h5, _⟩ := hl
    rcases List.mem_cons.1 h with heq | h'
    · cases heq; exact ⟨g, t, cs, fuel, p, h1, h2, h3, h4⟩
    · exact one r q h5 h'
end La
end Go.Proofs.YtpoededbmdffpaaGreatDoor
