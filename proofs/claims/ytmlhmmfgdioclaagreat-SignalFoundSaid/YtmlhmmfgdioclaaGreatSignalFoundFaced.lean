/-
  The law 'SignalFound' over the package as it is. No conditions beyond what its arguments are.
-/
import Derived.Test.YtmlhmmfgdioclaaGreatSignalFoundWalk
import Derived.Test.YtmlhmmfgdioclaaGreatJSignalSmall2
import Derived.Test.YtmlhmmfgdioclaaGreatJSignalMake3
import Derived.Test.YtmlhmmfgdioclaaGreatJRowsIn2
namespace Go.Proofs.YtmlhmmfgdioclaaGreat
set_option maxRecDepth 100000
open Go.ChangeShapes Go.WideShapes Go.ChangeAt Go.RowKit Go.Deep
open Cf (CA)
namespace signalFound
theorem walk (l0 : List Int) (x1_0 x1_1 x1_2 : Int) (a1_3 : Option Addr) (cap1_3 : Nat) (l1_3 : List (List Value)) (W : World) (n0 : l0.length = 21) (_ : ∀ n ∈ l0, (Lit.int .i64 n).wf = true) (_ : (Lit.int .i64 x1_0).wf = true) (_ : (Lit.int .i64 x1_1).wf = true) (_ : (Lit.int .i64 x1_2).wf = true) (_ : l1_3.length ≤ cap1_3) (b1_3 : Mn.ManyAt W a1_3 Sg.ptKs l1_3) :
    Calls Tryz.prog 5 #[.agg (cellsI .i64 l0).toArray, .agg #[.int .i64 x1_0, .int .i64 x1_1, .int .i64 x1_2, .slice a1_3 l1_3.length cap1_3]] W
      fun e w' => e = .returned (.bool true) ∧ Below W.heap.size W w' := by
  obtain ⟨h1, h2⟩ := Sg.pts_of b1_3
  have h := Sg.SignalFound.found_out Sg.faced (Sg.alive_any Sg.faced) l0 x1_0 x1_1 x1_2 a1_3 (l1_3.map Sg.ptOf) cap1_3 W n0 h1 h2
  rw [List.length_map] at h
  exact h
end signalFound
end Go.Proofs.YtmlhmmfgdioclaaGreat
