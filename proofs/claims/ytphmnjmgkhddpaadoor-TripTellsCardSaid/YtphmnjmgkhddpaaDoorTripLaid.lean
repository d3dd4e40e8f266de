/-
  The table of trips, as the text lays it, in memory; an argument's part that is a list of bools. No function of the program is walked here. No conditions.
-/
import Derived.Test.YtphmnjmgkhddpaaDoorLaid
import Derived.Test.YtphmnjmgkhddpaaDoorFlat
import Derived.Test.YtphmnjmgkhddpaaDoorTripText
import Derived.Test.YtphmnjmgkhddpaaDoorRows
import Derived.ChangeSame
namespace Go.Proofs.YtphmnjmgkhddpaaDoor
open Go.ChangeShapes Go.WideShapes Go.ChangeAt Go.RowKit Go.Deep
namespace La
/-- A table of rows of a number and a text: its cells. -/
theorem pairs {P : Program} {W : World} {name : String} {g n : Nat} {t e tn ts : TypeId} {f0 f1 : Field} {laid : List (String × DataW Unit)} (ss : List (Int × List UInt8)) (hL : laidMetH P laid W) (hp : (laid.all fun x => x.2.handleName?.isNone) = true)
    (hm : (name, .agg (ss.map fun s => .agg [.lit (.int .i64 s.1), .lit (.string s.2)])) ∈ laid) (hg : P.globalNamed name = some g) (ht : (P.globals[g]?).map (·.type) = some t) (hu : P.underlying t = some (.array n e)) (he : P.underlying e = some (.struct #[f0, f1]))
    (h0 : f0.type = tn ∧ f0.offset = 0) (h1 : f1.type = ts ∧ f1.offset = 1) (hc : P.cellsOf e = 2) (hcn : P.cellsOf tn = 1) (hcs : P.cellsOf ts = 1) (hn : P.underlying tn = some (.int .i64)) (hs : P.underlying ts = some .string) (i : Nat) (hi : i < n) (z : Int) (l : List UInt8) (hz : ss[i]? = some (z, l)) :
    W.cell? ⟨g, 2 * i, none⟩ = some (.int .i64 z) ∧ W.cell? ⟨g, 2 * i + 1, none⟩ = some (.string ⟨l.toArray⟩) := by
  rw [MakeChecks.laidMetH_plain _ _ _ hp] at hL
  obtain ⟨ps, hv, _⟩ := hL
  obtain ⟨g', t', cs, fuel, p, q1, q2, q3, q4⟩ := one laid ps hv hm
  obtain rfl := Option.some.inj (hg.symm.trans q1)
  obtain rfl := Option.some.inj (ht.symm.trans q2)
  obtain ⟨xs, m, rfl, hx, hlen, hn', hel⟩ := DataW.trod_array hu q4
  have hxi : i < xs.length := by omega
  have h := hel i hi
  rw [hc, List.getElem?_eq_getElem hxi] at h
  obtain ⟨y0, y1, m', hy, hl, k0, k1⟩ := trod_struct2 he h
  rw [h0.1, h0.2, hcn] at k0
  rw [h1.1, h1.2, hcs] at k1
  obtain ⟨a, e1, e2, _⟩ := DataW.trod_int hn k0
  obtain ⟨b, e3, e4, _⟩ := DataW.trod_string hs k1
  simp only [Prod.mk.injEq, DataW.agg.injEq] at hx
  have hxx := congrArg (fun r => r[i]?) hx.1
  simp only [List.getElem?_map, List.getElem?_eq_getElem hxi, Option.map_some, hy, e2, e4, hz] at hxx
  simp only [Option.some.injEq, DataW.agg.injEq, List.cons.injEq, DataW.lit.injEq, Lit.int.injEq, Lit.string.injEq, true_and, and_true] at hxx
  obtain ⟨x1, x2⟩ := hxx
  have c0 := World.var?_cell hg q3 (2 * i)
  have c1 := World.var?_cell hg q3 (2 * i + 1)
  have g0 : cs[2 * i]? = some (.int .i64 a) := by
    have := congrArg (fun r => r[0]?) e1
    simp only [List.getElem?_take, List.getElem?_drop] at this
    rw [Nat.mul_comm] at this
    simpa using this
  have g1 : cs[2 * i + 1]? = some (.string b) := by
    have := congrArg (fun r => r[0]?) e3
    simp only [List.getElem?_take, List.getElem?_drop] at this
    rw [Nat.mul_comm] at this
    simpa using this
  rw [c0, c1, g0, g1]
  refine ⟨by rw [x1], ?_⟩
  have : b = ⟨l.toArray⟩ := by rw [x2]
  rw [this]
end La
namespace Fl
section
variable {H : Type} {enc : TypeId × Value → H} {P : Program} {w : World} {held : Bool}
theorem Reads.bools {t e : TypeId} {v : Value} (hu : P.underlying t = some (.slice e)) (he : P.underlying e = some .bool) (hc : P.cellsOf e = 1) (h : Reads enc P w 0 (fun _ => true) held t v) :
    ∃ (a : Option Addr) (cap : Nat) (l : List Bool), v = .slice a l.length cap ∧ l.length ≤ maxLen ∧ BoolsAt w a l := by
  obtain ⟨m, y, hf⟩ := h
  rcases open_bools hu he hc hf with ⟨hcs, _⟩ | ⟨x, l, c, B, hcs, _, hl, hm, _, hcell⟩
  · simp at hcs
    exact ⟨none, 0, [], by simpa using hcs, by simp, Or.inl rfl⟩
  · simp at hcs
    refine ⟨some x, c, (List.range l).map B, by simpa using hcs, by simp; omega, ?_⟩
    by_cases h0 : l = 0
    · exact Or.inl (by simp [h0])
    · have c0 := hcell 0 (by omega)
      obtain ⟨b, off, spot⟩ := x
      have hs : spot = none := by simpa [Addr.add] using World.cell?_spot c0
      subst hs
      refine Or.inr ⟨b, off, rfl, fun i hi => ?_⟩
      simp at hi
      have := hcell i (by omega)
      rw [add_plain] at this
      rw [this]; simp [List.getD_eq_getElem?_getD, hi]
end
end Fl
namespace Tp
def tabs : List (Int × List UInt8) := [(1, [102, 114, 97, 109, 101]), (2, [114, 97, 110, 103, 101]), (4, [115, 112, 105, 107, 101]), (8, [115, 116, 117, 99, 107]), (16, [100, 114, 105, 102, 116]), (32, [109, 105, 115])]
/-- The row's list of variables says where the table is. -/
theorem tab_laid {W : World} (h : laidMetH Tryd.prog [("unicode/utf8.acceptRanges", Rows.laid_unicode_utf8_acceptRanges), ("rudder/trip.trips", Rows.laid_rudder_trip_trips), ("unicode/utf8.first", Rows.laid_unicode_utf8_first)] W) : TabAt W := fun i hi => by
  refine La.pairs (g := 0) (n := 6) (t := 40) (e := 39) (tn := 3) (ts := 9) tabs h (by kernel_rfl) (List.Mem.tail _ (List.Mem.head _)) (by kernel_rfl) (by kernel_rfl)
    Tryd.underlying40 Tryd.underlying39 ⟨rfl, rfl⟩ ⟨rfl, rfl⟩ (by kernel_rfl) (by kernel_rfl) (by kernel_rfl) Tryd.underlying3 Tryd.underlying9 i hi (2 ^ i) (nm i) ?_
  have : i ∈ [0, 1, 2, 3, 4, 5] := by simp; omega
  simp only [List.mem_cons, List.mem_nil_iff, or_false] at this
  rcases this with rfl | rfl | rfl | rfl | rfl | rfl <;> rfl
end Tp
end Go.Proofs.YtphmnjmgkhddpaaDoor
