/-
  The package as a law of layer 18 meets it: how a signal lies, and the contracts of all that a law calls. No function of the program is walked here. No conditions beyond those said.
-/
import Derived.Test.YtpoededbmdffpaaGreatDoorSignalStep
import Derived.Test.YtpoededbmdffpaaGreatDoorSignalNew
import Derived.Test.YtpoededbmdffpaaGreatDoorSignalState
import Derived.Test.YtpoededbmdffpaaGreatDoorSignalFace
namespace Go.Proofs.YtpoededbmdffpaaGreatDoor
set_option maxRecDepth 100000
open Go.ChangeShapes Go.WideShapes Go.ChangeAt Go.RowKit Go.Deep Go.Shelf
namespace Sg
open Cf (G CA)
/-- The face of the package. -/
def faced : Face where
  At W S g c s := ∃ b, Lie W b c s ∧ S = In b c ∧ g = b 0 ∧ c.length = 21
  lt := by
    rintro W S g c s ⟨b, H, rfl, rfl, hc⟩ j hj
    exact H.lt hj
  keep := by
    rintro W W' S T g c s ⟨b, H, rfl, rfl, hc⟩ B hT
    exact ⟨b, H.keep B hT, rfl, rfl, hc⟩
  new_yes := fun c w hc hR => (new_yes c w hc hR).mono fun e w' q => by
    obtain ⟨b, e1, h1, h2, h3⟩ := q
    exact ⟨⟨b 0, In b c, e1, ⟨b, h1, rfl, rfl, hc⟩, h2⟩, h3⟩
  new_no := fun c w hc hR => new_no c w hc hR
  step_yes := by
    rintro W S g c s r sh ⟨b, H, rfl, rfl, hc⟩ hR hO hr _
    refine (step_yes hc hR hr.1 hO H (okb_iff.2 hr)).mono fun e w' q => ?_
    exact ⟨q.1, In b c, ⟨b, q.2.1, rfl, rfl, hc⟩, q.2.2, fun j hj => .inl hj⟩
  step_no := by
    rintro W S g c s r sh ⟨b, H, rfl, rfl, hc⟩ hR hO hr
    refine step_no hc hR H ?_
    cases h : okb c r sh
    · rfl
    · exact absurd (okb_iff.1 h) hr
  latched := by
    rintro W S g c s ⟨b, H, rfl, rfl, hc⟩ hR
    exact latched_any hc hR H
  state_yes := by
    rintro W S g c s k ⟨b, H, rfl, rfl, hc⟩ hR hk
    exact state_yes hc H k hk
  state_no := by
    rintro W S g c s k ⟨b, H, rfl, rfl, hc⟩ hR hk
    exact state_no hc H k hk
end Sg
end Go.Proofs.YtpoededbmdffpaaGreatDoor
