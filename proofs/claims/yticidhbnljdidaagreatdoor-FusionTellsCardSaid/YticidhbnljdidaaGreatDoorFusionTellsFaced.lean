/-
 The law 'FusionTells' over the packages as they are; the row's list of variables says where the table of trips is. No conditions beyond what its arguments are.
-/
import Derived.Test.YticidhbnljdidaaGreatDoorFusionTellsWalk
import Derived.Test.YticidhbnljdidaaGreatDoorJSignalStep2
import Derived.Test.YticidhbnljdidaaGreatDoorJLaid2
import Derived.Test.YticidhbnljdidaaGreatDoorJTripWalks4
import Derived.Test.YticidhbnljdidaaGreatDoorRows
namespace Go.Proofs.YticidhbnljdidaaGreatDoor
set_option maxRecDepth 100000
open Go.ChangeShapes Go.WideShapes Go.ChangeAt Go.RowKit Go.Deep
namespace Fu
def tabs : List (Int × List UInt8) := [(1,[102,114,97,109,101]),(2,[114,97,110,103,101]),(4,[115,112,105,107,101]),(8,[115,116,117,99,107]),(16,[100,114,105,102,116]),(32,[109,105,115])]
theorem tab_laid {W : World} (h : laidMetH Tryz.prog [("rudder/trip.trips",Rows.laid_rudder_trip_trips)] W) : Tp.TabAt W := fun i hi => by
 refine La.pairs (g := 0) (n := 6) (t := 321) (e := 320) (tn := 3) (ts := 9) tabs h (by kernel_rfl) (List.Mem.head _) (by kernel_rfl) (by kernel_rfl)
  Tryz.underlying321 Tryz.underlying320 ⟨rfl,rfl⟩ ⟨rfl,rfl⟩ (by kernel_rfl) (by kernel_rfl) (by kernel_rfl) Tryz.underlying3 Tryz.underlying9 i hi (2 ^ i) (Tp.nm i) ?_
 have : i ∈ [0,1,2,3,4,5] := by simp; omega
 simp only [List.mem_cons,List.mem_nil_iff,or_false] at this
 rcases this with rfl | rfl | rfl | rfl | rfl | rfl <;> rfl
theorem tab_lt {W : World} (h : Tp.TabAt W) : 0 < W.heap.size := cell_lt (h 0 (by omega)).1
end Fu
namespace fusionTells
open Fu
theorem walk (l0 : List Int) (a1 : Option Addr) (cap1 : Nat) (l1 : List CyA) (W : World) (n0 : l0.length = 21) (_ : ∀ n ∈ l0,(Lit.int .i64 n).wf = true) (c1 : l1.length ≤ cap1) (b1 : CysAt W a1 l1) (hT : Tp.TabAt W) :
 Calls Tryz.prog 4 #[.agg (cellsI .i64 l0).toArray,.slice a1 l1.length cap1] W
  fun e w' => e = .returned (.bool true) ∧ Below W.heap.size W w' :=
 tells_any Sg.faced (fun W h hg => alive_any Sg.faced W h hg) l0 a1 l1 cap1 W n0 c1 b1 hT (tab_lt hT)
end fusionTells
end Go.Proofs.YticidhbnljdidaaGreatDoor
