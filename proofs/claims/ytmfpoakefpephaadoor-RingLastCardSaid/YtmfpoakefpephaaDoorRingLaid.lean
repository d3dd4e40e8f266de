/-
  The tables of trips, of kinds, and of powers of ten, as the text lays them, in memory. No function of the program is walked here. No conditions.
-/
import Derived.Test.YtmfpoakefpephaaDoorPairs
import Derived.Test.YtmfpoakefpephaaDoorRingText
import Derived.Test.YtmfpoakefpephaaDoorRows
namespace Go.Proofs.YtmfpoakefpephaaDoor
open Go.ChangeShapes Go.WideShapes Go.ChangeAt Go.RowKit Go.Deep
namespace Rg
def tabs : List (Int × List UInt8) := [(1, [102, 114, 97, 109, 101]), (2, [114, 97, 110, 103, 101]), (4, [115, 112, 105, 107, 101]), (8, [115, 116, 117, 99, 107]), (16, [100, 114, 105, 102, 116]), (32, [109, 105, 115])]
def kns : List (List UInt8) := [[108, 97, 116, 99, 104, 101, 100], [98, 97, 99, 107], [111, 117, 116]]
/-- A row's list of variables, whatever it is, in which the three are. -/
theorem tabs_in {laid : List (String × DataW Unit)} {W : World} (h : laidMetH Tryd.prog laid W) (hp : (laid.all fun x => x.2.handleName?.isNone) = true)
    (m1 : ("rudder/trip.trips", Rows.laid_rudder_trip_trips) ∈ laid) (m2 : ("rudder/ring.kinds", Rows.laid_rudder_ring_kinds) ∈ laid) (m3 : ("internal/strconv.uint64pow10", Rows.laid_internal_strconv_uint64pow10) ∈ laid) : Tabs W := by
  refine ⟨fun i hi => ?_, fun i hi => ?_, ?_⟩
  · refine La.pairs (g := 1) (n := 6) (t := 58) (e := 57) (tn := 3) (ts := 9) tabs h hp m1 (by kernel_rfl) (by kernel_rfl)
      Tryd.underlying58 Tryd.underlying57 ⟨rfl, rfl⟩ ⟨rfl, rfl⟩ (by kernel_rfl) (by kernel_rfl) (by kernel_rfl) Tryd.underlying3 Tryd.underlying9 i hi (2 ^ i) (Tp.nm i) ?_
    have : i ∈ [0, 1, 2, 3, 4, 5] := by simp; omega
    simp only [List.mem_cons, List.mem_nil_iff, or_false] at this
    rcases this with rfl | rfl | rfl | rfl | rfl | rfl <;> rfl
  · have := La.table (g := 0) (n := 3) (t := 45) (e := 9) kns h hp m2 (by kernel_rfl) (by kernel_rfl) Tryd.underlying45 Tryd.underlying9 (by kernel_rfl) i hi
    rw [this]
    have : i ∈ [0, 1, 2] := by simp; omega
    simp only [List.mem_cons, List.mem_nil_iff, or_false] at this
    rcases this with rfl | rfl | rfl <;> rfl
  · exact La.tab (g := 3) (n := 20) (t := 73) (e := 67) h hp (show (_, Lib.tabData .u64 Lib.pow10Tab) ∈ laid from (show Rows.laid_internal_strconv_uint64pow10 = Lib.tabData .u64 Lib.pow10Tab by kernel_rfl) ▸ m3) tens_named (by kernel_rfl)
      Tryd.underlying73 Tryd.underlying67 (by kernel_rfl) (by kernel_rfl)
/-- This layer's rows list these. -/
theorem tabs_laid {W : World} (h : laidMetH Tryd.prog [("math/bits.deBruijn32tab", Rows.laid_math_bits_deBruijn32tab), ("math/bits.deBruijn64tab", Rows.laid_math_bits_deBruijn64tab), ("internal/strconv.uint64pow10", Rows.laid_internal_strconv_uint64pow10), ("rudder/trip.trips", Rows.laid_rudder_trip_trips), ("rudder/ring.kinds", Rows.laid_rudder_ring_kinds)] W) : Tabs W :=
  tabs_in h (by kernel_rfl) (List.Mem.tail _ (List.Mem.tail _ (List.Mem.tail _ (List.Mem.head _)))) (List.Mem.tail _ (List.Mem.tail _ (List.Mem.tail _ (List.Mem.tail _ (List.Mem.head _))))) (List.Mem.tail _ (List.Mem.tail _ (List.Mem.head _)))
end Rg
end Go.Proofs.YtmfpoakefpephaaDoor
