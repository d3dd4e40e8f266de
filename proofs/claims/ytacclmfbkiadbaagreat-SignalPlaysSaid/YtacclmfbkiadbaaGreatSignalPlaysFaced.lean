/-
  The law 'SignalPlays' over the package as it is. No conditions beyond what its arguments are.
-/
import Derived.Test.YtacclmfbkiadbaaGreatJSignalNearWalk4
import Derived.Test.YtacclmfbkiadbaaGreatJSignalPlaysEq3
import Derived.Test.YtacclmfbkiadbaaGreatJSignalSmall2
import Derived.Test.YtacclmfbkiadbaaGreatJSignalSteps6
namespace Go.Proofs.YtacclmfbkiadbaaGreat
set_option maxRecDepth 100000
open Go.ChangeShapes Go.WideShapes Go.ChangeAt Go.RowKit Go.Deep
namespace signalPlays
theorem walk (l0 : List Int) (a1 : Option Addr) (cap1 : Nat) (l1 : List (List Value)) (W : World) (n0 : l0.length = 21) (_ : ∀ n ∈ l0, (Lit.int .i64 n).wf = true) (_ : l1.length ≤ cap1) (b1 : Mn.ManyAt W a1 Sg.cyKs l1) :
    Calls Tryz.prog 3 #[.agg (cellsI .i64 l0).toArray, .slice a1 l1.length cap1] W
      fun e w' => e = .returned (.bool true) ∧ Below W.heap.size W w' := by
  have h := Sg.plays_any Sg.faced (Sg.alive_any Sg.faced) l0 a1 (l1.map Sg.cycOf) cap1 W n0 (Sg.cycs_of b1)
  rw [List.length_map] at h
  exact h
end signalPlays
end Go.Proofs.YtacclmfbkiadbaaGreat
