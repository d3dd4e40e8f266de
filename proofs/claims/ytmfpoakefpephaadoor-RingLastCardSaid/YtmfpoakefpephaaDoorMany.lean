/-
  How an argument that is a slice of structs of numbers and booleans is opened: its elements, each of them a list of cells. No Go text is reached here. No conditions.
-/
import Derived.Test.YtmfpoakefpephaaDoorFlat
import Derived.Test.YtmfpoakefpephaaDoorSlots
namespace Go.Proofs.YtmfpoakefpephaaDoor
open Go.ChangeShapes Go.WideShapes Go.ChangeAt Go.RowKit Go.Deep
namespace Mn
/-- What a cell may be. -/
inductive Kd
  | bool
  | int (k : IntKind)
def Kd.type : Kd → TypeDesc
  | .bool => .bool
  | .int k => .int k
def Kd.fits : Kd → Value → Prop
  | .bool, v => ∃ x, v = .bool x
  | .int k, v => ∃ x, v = .int k x ∧ (Lit.int k x).wf = true
/-- An element, as it lies in memory. -/
structure RowOk (w : World) (b off : Nat) (ks : List Kd) (r : List Value) : Prop where
  len : r.length = ks.length
  cell : ∀ j, j < ks.length → w.cell? ⟨b, off + j, none⟩ = r[j]?
  fits : ∀ (j : Nat) k v, ks[j]? = some k → r[j]? = some v → k.fits v
def ManyAt (w : World) (a : Option Addr) (ks : List Kd) (rs : List (List Value)) : Prop := rs = [] ∨ ∃ b off, a = some ⟨b, off, none⟩ ∧ ∀ (i : Nat) r, rs[i]? = some r → RowOk w b (off + i * ks.length) ks r
theorem RowOk.below {w w' : World} {b off : Nat} {ks : List Kd} {r : List Value} (h : RowOk w b off ks r) (hb : Below w.heap.size w w') : RowOk w' b off ks r := by
  refine ⟨h.len, fun j hj => ?_, h.fits⟩
  have hc := h.cell j hj
  obtain ⟨v, hv⟩ : ∃ v, r[j]? = some v := ⟨_, List.getElem?_eq_getElem (by have := h.len; omega)⟩
  rw [hv] at hc ⊢
  exact (hb.cell (p := ⟨b, off + j, none⟩) (cell_lt hc)).trans hc
theorem ManyAt.below {w w' : World} {a : Option Addr} {ks : List Kd} {rs : List (List Value)} (h : ManyAt w a ks rs) (hb : Below w.heap.size w w') : ManyAt w' a ks rs := by
  rcases h with rfl | ⟨b, off, rfl, hs⟩
  · exact Or.inl rfl
  · exact Or.inr ⟨b, off, rfl, fun i s hi => (hs i s hi).below hb⟩
theorem ManyAt.some {w : World} {a : Option Addr} {ks : List Kd} {rs : List (List Value)} (h : ManyAt w a ks rs) (hp : 0 < rs.length) : ∃ b off, a = some ⟨b, off, none⟩ ∧ ∀ (i : Nat) r, rs[i]? = some r → RowOk w b (off + i * ks.length) ks r := by
  rcases h with rfl | h
  · simp at hp
  · exact h
theorem RowOk.two {w : World} {b off : Nat} {k1 k2 : Kd} {r : List Value} (h : RowOk w b off [k1, k2] r) : ∃ x y, r = [x, y] ∧ w.cell? ⟨b, off, none⟩ = some x ∧ w.cell? ⟨b, off + 1, none⟩ = some y ∧ k1.fits x ∧ k2.fits y := by
  have hl := h.len
  match r, hl with
  | [x, y], _ => exact ⟨x, y, rfl, h.cell 0 (by simp), h.cell 1 (by simp), h.fits 0 _ _ rfl rfl, h.fits 1 _ _ rfl rfl⟩
theorem RowOk.three {w : World} {b off : Nat} {k1 k2 k3 : Kd} {r : List Value} (h : RowOk w b off [k1, k2, k3] r) : ∃ x y z, r = [x, y, z] ∧ w.cell? ⟨b, off, none⟩ = some x ∧ w.cell? ⟨b, off + 1, none⟩ = some y ∧ w.cell? ⟨b, off + 2, none⟩ = some z ∧ k1.fits x ∧ k2.fits y ∧ k3.fits z := by
  have hl := h.len
  match r, hl with
  | [x, y, z], _ => exact ⟨x, y, z, rfl, h.cell 0 (by simp), h.cell 1 (by simp), h.cell 2 (by simp), h.fits 0 _ _ rfl rfl, h.fits 1 _ _ rfl rfl, h.fits 2 _ _ rfl rfl⟩
/-- A slice of such structs, as an argument. -/
theorem openMany {H : Type} {enc : TypeId × Value → H} {P : Program} {w : World} {t e : TypeId} {ts : List TypeId} {n b0 : Nat} {r : Reach} {v : Value} {d : DataW H} {p : List MemPlace} {held : Bool} (ks : List Kd) (ht : P.underlying t = some (.slice e)) (hf : Fl.flat P n e = some ts) (hc : P.cellsOf e = ts.length)
    (hp : 0 < ts.length) (hk : ts.map P.underlying = ks.map fun k => some k.type) (hv : Value.okWide P w r b0 t v) (h : DataW.Trod enc P w 0 (fun _ => true) held t v d p) :
    ∃ (a : Option Addr) (cap : Nat) (rs : List (List Value)), v = .slice a rs.length cap ∧ rs.length ≤ cap ∧ cap ≤ maxLen ∧ ManyAt w a ks rs := by
  have hlk : ts.length = ks.length := by simpa using congrArg List.length hk
  obtain ⟨a, len, cap, rfl, hl, hm, h0⟩ := Fl.open_rows ht hf hc hp hv h
  rcases h0 with rfl | ⟨b, off, rfl, hi⟩
  · exact ⟨a, cap, [], rfl, Nat.zero_le _, hm, Or.inl rfl⟩
  · have each : ∀ i, i < len → ∃ r : List Value, RowOk w b (off + i * ks.length) ks r := by
      intro i hil
      obtain ⟨cs, hlen, hcell, lv⟩ := hi i hil
      rw [← hlk]
      refine ⟨cs, by omega, fun j hj => hcell j (by omega), fun j k v hkj hvj => ?_⟩
      have hj : j < ts.length := by
        rcases Nat.lt_or_ge j ts.length with q | q
        · exact q
        · rw [List.getElem?_eq_none (by omega)] at hkj; cases hkj
      obtain ⟨v', hv', rd⟩ := lv j ts[j] (List.getElem?_eq_getElem hj)
      rw [Nat.zero_add, hvj] at hv'
      cases hv'
      have hu : P.underlying ts[j] = some k.type := by
        have := congrArg (fun l : List (Option TypeDesc) => l[j]?) hk
        simpa [List.getElem?_map, List.getElem?_eq_getElem hj, hkj] using this
      cases k with
      | bool => exact rd.bool hu
      | int k => exact rd.int hu
    obtain ⟨f, hfi⟩ := choose_lt each
    refine ⟨_, cap, (List.range len).map f, by simp, by simpa using hl, hm, Or.inr ⟨b, off, rfl, fun i s hs => ?_⟩⟩
    rw [List.getElem?_map] at hs
    by_cases hil : i < len
    · rw [List.getElem?_range hil] at hs
      simp at hs
      subst hs
      exact hfi i hil
    · rw [List.getElem?_eq_none (by simp; omega)] at hs
      cases hs
/-! ### What the kinds hold -/
theorem u8_in {x : Int} (h : (Lit.int .u8 x).wf = true) : 0 ≤ x ∧ x ≤ 255 := by
  simp [Lit.wf] at h
  have hmin : IntKind.u8.min = 0 := rfl
  have hmax : IntKind.u8.max = 255 := rfl
  omega
theorem u16_in {x : Int} (h : (Lit.int .u16 x).wf = true) : 0 ≤ x ∧ x ≤ 65535 := by
  simp [Lit.wf] at h
  have hmin : IntKind.u16.min = 0 := rfl
  have hmax : IntKind.u16.max = 65535 := rfl
  omega
theorem u32_in {x : Int} (h : (Lit.int .u32 x).wf = true) : 0 ≤ x ∧ x ≤ 4294967295 := by
  simp [Lit.wf] at h
  have hmin : IntKind.u32.min = 0 := rfl
  have hmax : IntKind.u32.max = 4294967295 := rfl
  omega
theorem i8_in {x : Int} (h : (Lit.int .i8 x).wf = true) : -128 ≤ x ∧ x ≤ 127 := by
  simp [Lit.wf] at h
  have hmin : IntKind.i8.min = -128 := rfl
  have hmax : IntKind.i8.max = 127 := rfl
  omega
theorem i16_in {x : Int} (h : (Lit.int .i16 x).wf = true) : -32768 ≤ x ∧ x ≤ 32767 := by
  simp [Lit.wf] at h
  have hmin : IntKind.i16.min = -32768 := rfl
  have hmax : IntKind.i16.max = 32767 := rfl
  omega
theorem i32_in {x : Int} (h : (Lit.int .i32 x).wf = true) : -2147483648 ≤ x ∧ x ≤ 2147483647 := by
  simp [Lit.wf] at h
  have hmin : IntKind.i32.min = -2147483648 := rfl
  have hmax : IntKind.i32.max = 2147483647 := rfl
  omega
theorem i64_in {x : Int} (h : (Lit.int .i64 x).wf = true) : -9223372036854775808 ≤ x ∧ x ≤ 9223372036854775807 := by
  simp [Lit.wf] at h
  have hmin : IntKind.i64.min = -9223372036854775808 := rfl
  have hmax : IntKind.i64.max = 9223372036854775807 := rfl
  omega
end Mn
end Go.Proofs.YtmfpoakefpephaaDoor
