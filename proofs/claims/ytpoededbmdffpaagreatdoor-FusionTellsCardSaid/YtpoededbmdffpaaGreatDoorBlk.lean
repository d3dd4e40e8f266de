/-
  Blocks of cells of whatever kinds, known whole: loaded, stored, kept; and worlds in which only some blocks were written. No function of the program is walked here. No conditions.
-/
import Derived.Test.YtpoededbmdffpaaGreatDoorAgg
namespace Go.Proofs.YtpoededbmdffpaaGreatDoor
set_option maxRecDepth 100000
open Go.ChangeShapes Go.WideShapes Go.ChangeAt Go.RowKit Go.Deep
/-- A block that is known whole: just these cells. -/
def VRow (w : World) (g : Nat) (t : TypeId) (cs : List Value) : Prop := w.heap[g]? = some (.cells cs.toArray t (0, 0))
/-- Of what was there, only blocks of S may have been written. -/
structure But (S : Nat → Prop) (w w' : World) : Prop where
  os : w'.os = w.os
  tape : w'.tape = w.tape
  output : w'.output = w.output
  size : w.heap.size ≤ w'.heap.size
  block : ∀ k, k < w.heap.size → ¬ S k → w'.heap[k]? = w.heap[k]?
/-- Only the block g may have been written. -/
def Only (g : Nat) (w w' : World) : Prop := But (· = g) w w'
section
variable {S S' : Nat → Prop} {w w' w'' : World} {g j : Nat} {t : TypeId} {cs : List Value}
theorem VRow.new (w : World) (cs : List Value) (t : TypeId) : VRow (w.alloc (.cells cs.toArray t)) w.heap.size t cs := heap_alloc_new w _
theorem VRow.lt (h : VRow w g t cs) : g < w.heap.size := by
  rcases Nat.lt_or_ge g w.heap.size with hlt | hge
  · exact hlt
  · unfold VRow at h; rw [Array.getElem?_eq_none hge] at h; cases h
theorem VRow.cell (h : VRow w g t cs) (i : Nat) {v : Value} (hi : cs[i]? = some v) : w.cell? ⟨g, i, none⟩ = some v := by
  rw [cell_of_row w g i _ t (0, 0) h]; simpa using hi
theorem VRow.frozen (h : VRow w g t cs) (i : Nat) : w.frozen? ⟨g, i, none⟩ = false := by
  unfold VRow at h; simp [World.frozen?, h]
theorem VRow.drew (h : VRow w g t cs) : VRow w.drew g t cs := h
theorem VRow.drewN (h : VRow w g t cs) (n : Nat) : VRow (w.drewN n) g t cs := h
theorem VRow.alloc (h : VRow w g t cs) (o : Obj) : VRow (w.alloc o) g t cs := (Below.heap_alloc w o g h.lt).trans h
theorem VRow.set (h : VRow w g t cs) (i : Nat) (x : Value) : VRow (w.setCell ⟨g, i, none⟩ x) g t (cs.set i x) := by
  unfold VRow at h ⊢
  simp [World.setCell, Array.getElem?_modify, h]
theorem VRow.setOther (h : VRow w g t cs) {p : Addr} (hp : g ≠ p.block) (x : Value) : VRow (w.setCell p x) g t cs := (Below.heap_setCell w p x g hp).trans h
theorem VRow.below {B : Nat} (h : VRow w g t cs) (hb : Below B w w') (hg : g < B) : VRow w' g t cs := (hb.block g hg).trans h
theorem VRow.but (h : VRow w g t cs) (hb : But S w w') (hg : ¬ S g) : VRow w' g t cs := (hb.block g h.lt hg).trans h
theorem VRow.only (h : VRow w g t cs) (hb : Only j w w') (hg : g ≠ j) : VRow w' g t cs := VRow.but h hb hg
theorem VRow.irow {k : IntKind} {l : List Int} (h : VRow w g t (cellsI k l)) : IRow k w g t l := h
theorem IRow.vrow {k : IntKind} {l : List Int} (h : IRow k w g t l) : VRow w g t (cellsI k l) := h
theorem IRow.but {k : IntKind} {l : List Int} (h : IRow k w g t l) (hb : But S w w') (hg : ¬ S g) : IRow k w' g t l := (hb.block g h.lt hg).trans h
theorem IRow.only {k : IntKind} {l : List Int} (h : IRow k w g t l) (hb : Only j w w') (hg : g ≠ j) : IRow k w' g t l := IRow.but h hb hg
theorem But.refl (S : Nat → Prop) (w : World) : But S w w := ⟨rfl, rfl, rfl, Nat.le_refl _, fun _ _ _ => rfl⟩
theorem But.trans (h : But S w w') (k : But S w' w'') : But S w w'' :=
  ⟨k.os.trans h.os, k.tape.trans h.tape, k.output.trans h.output, Nat.le_trans h.size k.size, fun i hi hs => (k.block i (Nat.lt_of_lt_of_le hi h.size) hs).trans (h.block i hi hs)⟩
theorem But.mono (h : But S w w') (hs : ∀ k, S k → S' k) : But S' w w' := ⟨h.os, h.tape, h.output, h.size, fun k hk hn => h.block k hk (fun q => hn (hs k q))⟩
theorem But.of_below (h : Below w.heap.size w w') : But S w w' := ⟨h.os, h.tape, h.output, h.size, fun k hk _ => h.block k hk⟩
theorem But.drew (h : But S w w') : But S w w'.drew := ⟨h.os, h.tape, h.output, h.size, h.block⟩
theorem But.drewN (h : But S w w') (n : Nat) : But S w (w'.drewN n) := ⟨h.os, h.tape, h.output, h.size, h.block⟩
theorem But.alloc (h : But S w w') (o : Obj) : But S w (w'.alloc o) :=
  ⟨h.os, h.tape, h.output, by have := h.size; simp; omega, fun k hk hs => (Below.heap_alloc w' o k (Nat.lt_of_lt_of_le hk h.size)).trans (h.block k hk hs)⟩
theorem But.setCell (h : But S w w') {p : Addr} (hp : S p.block ∨ w.heap.size ≤ p.block) (v : Value) : But S w (w'.setCell p v) :=
  ⟨h.os, h.tape, h.output, by simpa [World.setCell] using h.size, fun k hk hs => (Below.heap_setCell w' p v k (fun e => by
    rcases hp with hp | hp
    · exact hs (e ▸ hp)
    · omega)).trans (h.block k hk hs)⟩
theorem But.call (h : But S w w') (k : But S' w' w'') (hs : ∀ i, S' i → S i ∨ w.heap.size ≤ i) : But S w w'' :=
  ⟨k.os.trans h.os, k.tape.trans h.tape, k.output.trans h.output, Nat.le_trans h.size k.size, fun i hi hn => (k.block i (Nat.lt_of_lt_of_le hi h.size) (fun q => by
    rcases hs i q with q | q
    · exact hn q
    · omega)).trans (h.block i hi hn)⟩
theorem But.grow (h : But S w w') (k : Below w'.heap.size w' w'') : But S w w'' := h.trans (But.of_below k)
theorem But.below {B : Nat} {a : World} (h : Below B a w) (k : But S w w') (hB : B ≤ w.heap.size) (hs : ∀ i, S i → B ≤ i) : Below B a w' :=
  ⟨k.os.trans h.os, k.tape.trans h.tape, k.output.trans h.output, Nat.le_trans h.size k.size, fun i hi => (k.block i (Nat.lt_of_lt_of_le hi hB) (fun q => by have := hs i q; omega)).trans (h.block i hi)⟩
/-- A callee that writes only the block g, met behind a world that grew. -/
theorem Only.below {B : Nat} {a : World} (k : Only g w w') (h : Below B a w) (hB : B ≤ w.heap.size) (hg : B ≤ g) : Below B a w' := But.below h k hB (fun i hi => by rw [hi]; exact hg)
theorem IntsAt.but {k : IntKind} {a : Option Addr} {l : List Int} (h : IntsAt k w a l) (hb : But S w w') (hs : ∀ ad, a = some ad → ¬ S ad.block) : IntsAt k w' a l := by
  rcases h with rfl | ⟨b, off, rfl, hc⟩
  · exact Or.inl rfl
  · refine Or.inr ⟨b, off, rfl, fun i hi => ?_⟩
    have := hc i hi
    rw [← this]
    exact World.cell?_of_block (w := w) (a := ⟨b, off + i, none⟩) (hb.block b (cell_lt this) (hs _ rfl))
end
end Go.Proofs.YtpoededbmdffpaaGreatDoor
