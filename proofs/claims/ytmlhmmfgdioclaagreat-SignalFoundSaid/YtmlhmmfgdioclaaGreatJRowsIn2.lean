/-
  How a slice of structs of numbers and booleans is opened that lies in a struct handed in by value. No Go text is reached here. No conditions.
  How a law's points, as they are handed in, are points. No Go text is reached here. No conditions.
-/
import Derived.Test.YtmlhmmfgdioclaaGreatJFlat3
import Derived.Test.YtmlhmmfgdioclaaGreatJSignalBegun4
namespace Go.Proofs.YtmlhmmfgdioclaaGreat
set_option maxRecDepth 100000
open Go.ChangeShapes Go.WideShapes Go.ChangeAt Go.RowKit Go.Deep
namespace Fl
section
variable {H : Type} {enc : TypeId × Value → H} {P : Program} {w : World}
theorem read_rows {t e : TypeId} {n base : Nat} {ts : List TypeId} {v : Value} {spare : Nat → Bool} {held : Bool} (ht : P.underlying t = some (.slice e)) (hf : flat P n e = some ts) (hc : P.cellsOf e = ts.length) (hp : 0 < ts.length)
    (h : Reads enc P w base spare held t v) :
    ∃ (a : Option Addr) (len cap : Nat), v = .slice a len cap ∧ len ≤ cap ∧ cap ≤ maxLen ∧ (len = 0 ∨ ∃ b off, a = some ⟨b, off, none⟩ ∧ ∀ i, i < len → ∃ cs : List Value, cs.length = ts.length ∧
      (∀ j, j < ts.length → w.cell? ⟨b, off + i * ts.length + j, none⟩ = cs[j]?) ∧ Leaves enc P w base spare held cs 0 ts) := by
  obtain ⟨fuel, y, hx⟩ := h
  rcases Go.Deep.open_slice ht hx with ⟨hcs, _⟩ | ⟨x, len, cap, m, n', D, Pl, hcs, _, hl, hm, hmm, _, hi⟩
  · simp at hcs
    subst hcs
    exact ⟨none, 0, 0, rfl, Nat.le_refl _, Nat.zero_le _, Or.inl rfl⟩
  · simp at hcs
    subst hcs
    refine ⟨some x, len, cap, rfl, hl, hm, ?_⟩
    have hlm : len ≤ m := by rw [hmm]; split <;> omega
    by_cases h0 : len = 0
    · exact Or.inl h0
    · right
      have sp : x.spot = none := by
        obtain ⟨cs, h1, _⟩ := hi 0 (by omega)
        rw [hc] at h1
        obtain ⟨_, hlen, hcell⟩ := World.cells?_some h1
        have := hcell 0 hp
        rw [List.getElem?_eq_getElem (by omega)] at this
        have := World.cell?_spot this
        simpa [Addr.add] using this
      obtain ⟨b, off, spot⟩ := x
      have sp' : spot = none := sp
      subst sp'
      refine ⟨b, off, rfl, fun i hil => ?_⟩
      obtain ⟨cs, h1, h2⟩ := hi i (by omega)
      rw [hc] at h1
      obtain ⟨_, hlen, hcell⟩ := World.cells?_some h1
      refine ⟨cs, hlen, fun j hj => ?_, trod_flat n _ _ _ _ _ hf h2⟩
      have := hcell j hj
      rw [add_plain, add_plain] at this
      exact this
end
end Fl
namespace Mn
theorem readMany {H : Type} {enc : TypeId × Value → H} {P : Program} {w : World} {t e : TypeId} {ts : List TypeId} {n : Nat} {v : Value} {held : Bool} (ks : List Kd) (ht : P.underlying t = some (.slice e)) (hf : Fl.flat P n e = some ts) (hc : P.cellsOf e = ts.length)
    (hp : 0 < ts.length) (hk : ts.map P.underlying = ks.map fun k => some k.type) (h : Fl.Reads enc P w 0 (fun _ => true) held t v) :
    ∃ (a : Option Addr) (cap : Nat) (rs : List (List Value)), v = .slice a rs.length cap ∧ rs.length ≤ cap ∧ cap ≤ maxLen ∧ ManyAt w a ks rs := by
  have hlk : ts.length = ks.length := by simpa using congrArg List.length hk
  obtain ⟨a, len, cap, rfl, hl, hm, h0⟩ := Fl.read_rows ht hf hc hp h
  rcases h0 with rfl | ⟨b, off, rfl, hi⟩
  · exact ⟨a, cap, [], rfl, Nat.zero_le _, hm, Or.inl rfl⟩
  · have each : ∀ i, i < len → ∃ r : List Value, RowOk w b (off + i * ks.length) ks r := by
      intro i hil
      obtain ⟨cs, hlen, hcell, lv⟩ := hi i hil
      rw [← hlk]
      refine ⟨cs, by omega, fun j hj => hcell j (by omega), fun j k v hkj hvj => ?_⟩
      have hj : j < ts.length := by
        rcases Nat.lt_or_ge j ts.length with q | q
        · exact q
        · rw [List.getElem?_eq_none (by omega)] at hkj; cases hkj
      obtain ⟨v', hv', rd⟩ := lv j ts[j] (List.getElem?_eq_getElem hj)
      rw [Nat.zero_add, hvj] at hv'
      cases hv'
      have hu : P.underlying ts[j] = some k.type := by
        have := congrArg (fun l : List (Option TypeDesc) => l[j]?) hk
        simpa [List.getElem?_map, List.getElem?_eq_getElem hj, hkj] using this
      cases k with
      | bool => exact rd.bool hu
      | int k => exact rd.int hu
    obtain ⟨f, hfi⟩ := choose_lt each
    refine ⟨_, cap, (List.range len).map f, by simp, by simpa using hl, hm, Or.inr ⟨b, off, rfl, fun i s hs => ?_⟩⟩
    rw [List.getElem?_map] at hs
    by_cases hil : i < len
    · rw [List.getElem?_range hil] at hs
      simp at hs
      subst hs
      exact hfi i hil
    · rw [List.getElem?_eq_none (by simp; omega)] at hs
      cases hs
end Mn
end Go.Proofs.YtmlhmmfgdioclaaGreat

namespace Go.Proofs.YtmlhmmfgdioclaaGreat
set_option maxRecDepth 100000
open Go.ChangeShapes Go.WideShapes Go.ChangeAt Go.RowKit Go.Deep
namespace Sg

def ptKs : List Mn.Kd := [.int .i16, .int .i16, .int .i16, .int .i16, .int .i16, .bool, .int .i64]
def vint : Value → Int
  | .int _ n => n
  | _ => 0
def vbool : Value → Bool
  | .bool x => x
  | _ => false
def ptOf (r : List Value) : Pt := ⟨vint (r.getD 0 undef), vint (r.getD 1 undef), vint (r.getD 2 undef), vint (r.getD 3 undef), vint (r.getD 4 undef), vbool (r.getD 5 undef), vint (r.getD 6 undef)⟩
theorem pt_row {w : World} {b off : Nat} {r : List Value} (h : Mn.RowOk w b off ptKs r) : r = ptv (ptOf r) ∧ Pok (ptOf r) := by
  have hl := h.len
  match r, hl with
  | [x0, x1, x2, x3, x4, x5, x6], _ =>
    obtain ⟨n0, rfl, u0⟩ := h.fits 0 _ _ rfl rfl
    obtain ⟨n1, rfl, u1⟩ := h.fits 1 _ _ rfl rfl
    obtain ⟨n2, rfl, u2⟩ := h.fits 2 _ _ rfl rfl
    obtain ⟨n3, rfl, u3⟩ := h.fits 3 _ _ rfl rfl
    obtain ⟨n4, rfl, u4⟩ := h.fits 4 _ _ rfl rfl
    obtain ⟨n5, rfl⟩ := h.fits 5 _ _ rfl rfl
    obtain ⟨n6, rfl, u6⟩ := h.fits 6 _ _ rfl rfl
    exact ⟨rfl, Mn.i16_in u0, Mn.i16_in u1, Mn.i16_in u2, Mn.i16_in u3, Mn.i16_in u4⟩
theorem pts_of {w : World} {a : Option Addr} {rs : List (List Value)} (h : Mn.ManyAt w a ptKs rs) : PtsAt w a (rs.map ptOf) ∧ ∀ p ∈ rs.map ptOf, Pok p := by
  rcases h with rfl | ⟨b, off, rfl, hs⟩
  · exact ⟨fun h => by simp at h, fun p hp => by simp at hp⟩
  · refine ⟨fun _ => ⟨b, off, rfl, fun i p hi j v hv => ?_⟩, fun p hp => ?_⟩
    · rw [List.getElem?_map] at hi
      cases hr : rs[i]? with
      | none => rw [hr] at hi; cases hi
      | some r =>
        rw [hr] at hi
        simp at hi
        subst hi
        have R := hs i r hr
        have hj : j < 7 := by
          rcases Nat.lt_or_ge j 7 with q | q
          · exact q
          · rw [List.getElem?_eq_none (by simpa [ptv] using q)] at hv; cases hv
        have hc := R.cell j (by simpa [ptKs] using hj)
        rw [(pt_row R).1] at hc
        exact hc.trans hv
    · obtain ⟨r, hr, rfl⟩ := List.mem_map.1 hp
      obtain ⟨i, hi⟩ := List.mem_iff_getElem?.1 hr
      exact (pt_row (hs i r hi)).2
end Sg
end Go.Proofs.YtmlhmmfgdioclaaGreat
