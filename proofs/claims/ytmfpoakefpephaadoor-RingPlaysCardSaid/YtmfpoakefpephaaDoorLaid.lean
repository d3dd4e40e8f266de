/-
  Package-level variables that the text lays, where they lie in memory: a table of strings. No function of the program is walked here. No conditions.
-/
import Derived.Test.YtmfpoakefpephaaDoorOpen
import Derived.LaidMore
import Derived.MakeChecks
namespace Go.Proofs.YtmfpoakefpephaaDoor
open Go.ChangeShapes Go.WideShapes Go.ChangeAt Go.RowKit Go.Deep
namespace La
/-- One listed variable of those that the condition speaks of. -/
theorem one {P : Program} {W : World} {n : String} {d : DataW Unit} : ∀ (l : List (String × DataW Unit)) (ps : List MemPlace), DataW.LaidVars P W l ps → (n, d) ∈ l →
    ∃ g t cs fuel p, P.globalNamed n = some g ∧ (P.globals[g]?).map (·.type) = some t ∧ W.var? P n = some cs ∧ DataW.trod (fun _ => ()) P W 0 (fun _ => true) false fuel t cs.toList = some (d, p)
  | [], _, _, h => by cases h
  | (m, e) :: r, ps, hl, h => by
    obtain ⟨g, t, cs, fuel, p, q, h1, h2, h3, h4, h5, _⟩ := hl
    rcases List.mem_cons.1 h with heq | h'
    · cases heq; exact ⟨g, t, cs, fuel, p, h1, h2, h3, h4⟩
    · exact one r q h5 h'
/-- A table of strings: its cells. -/
theorem table {P : Program} {W : World} {name : String} {g n : Nat} {t e : TypeId} {laid : List (String × DataW Unit)} (ss : List (List UInt8)) (hL : laidMetH P laid W) (hp : (laid.all fun x => x.2.handleName?.isNone) = true)
    (hm : (name, .agg (ss.map fun s => .lit (.string s))) ∈ laid) (hg : P.globalNamed name = some g) (ht : (P.globals[g]?).map (·.type) = some t) (hu : P.underlying t = some (.array n e)) (he : P.underlying e = some .string) (hc : P.cellsOf e = 1) (i : Nat) (hi : i < n) :
    W.cell? ⟨g, i, none⟩ = some (.string ⟨(ss.getD i []).toArray⟩) := by
  rw [MakeChecks.laidMetH_plain _ _ _ hp] at hL
  obtain ⟨ps, hv, _⟩ := hL
  obtain ⟨g', t', cs, fuel, p, h1, h2, h3, h4⟩ := one laid ps hv hm
  obtain rfl := Option.some.inj (hg.symm.trans h1)
  obtain rfl := Option.some.inj (ht.symm.trans h2)
  obtain ⟨xs, m, rfl, hx, hlen, hn, hel⟩ := DataW.trod_array hu h4
  have hxi : i < xs.length := by omega
  have h := hel i hi
  rw [hc, List.getElem?_eq_getElem hxi] at h
  obtain ⟨s, hs, hy, _⟩ := DataW.trod_string he h
  simp only [Prod.mk.injEq, DataW.agg.injEq] at hx
  have hxx := congrArg (fun l => l[i]?) hx.1
  simp only [List.getElem?_map, List.getElem?_eq_getElem hxi, Option.map_some, hy] at hxx
  have hsi : i < ss.length := by
    rcases Nat.lt_or_ge i ss.length with h' | h'
    · exact h'
    · rw [List.getElem?_eq_none h'] at hxx; cases hxx
  rw [List.getElem?_eq_getElem hsi] at hxx
  simp only [Option.map_some, Option.some.injEq, DataW.lit.injEq, Lit.string.injEq] at hxx
  have hc2 := World.var?_cell hg h3 i
  rw [hc2]
  have : cs[i]? = some (.string s) := by
    have := congrArg (fun l => l[0]?) hs
    simp only [List.getElem?_take, List.getElem?_drop] at this
    simpa using this
  rw [this]
  have e : s = ⟨(ss.getD i []).toArray⟩ := by
    rw [List.getD_eq_getElem?_getD, List.getElem?_eq_getElem hsi, Option.getD_some, hxx]
  rw [e]
end La
end Go.Proofs.YtmfpoakefpephaaDoor
