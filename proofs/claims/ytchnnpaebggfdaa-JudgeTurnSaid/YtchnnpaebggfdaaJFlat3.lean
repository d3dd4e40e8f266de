/-
  How an argument that is a struct or an array by value, of whatever parts, is opened: its cells one by one, each of them read as its own type says. No Go text is reached here. No conditions.
  How an argument that is a slice of structs is opened: its cells one by one; slices of slots. No Go text is reached here. No conditions.
  As Flat and Slots, with what each datum weighs: an argument's cells one by one, each of them read as its own type says, and no heavier than the whole. No Go text is reached here. No conditions.
-/
import Derived.Test.YtchnnpaebggfdaaJOpen2
import Derived.ChangeSame
import Derived.ChangeArms
import Derived.Deep.Slices
import Derived.SizedLaws
namespace Go.Proofs.Ytchnnpaebggfdaa
set_option maxRecDepth 100000
open Go.ChangeShapes Go.WideShapes Go.ChangeAt Go.RowKit Go.Deep
namespace Fl
/-- The types of a type's cells, one by one (structs and arrays taken apart). -/
def fields (flat : TypeId → Option (List TypeId)) (P : Program) : List Field → Nat → Option (List TypeId)
  | [], _ => some []
  | f :: fs, o => if f.offset = o then (flat f.type).bind fun ts => if P.cellsOf f.type = ts.length then (fields flat P fs (o + ts.length)).map (ts ++ ·) else none else none
def flat (P : Program) : Nat → TypeId → Option (List TypeId)
  | 0, _ => none
  | n + 1, t => match P.underlying t with
    | some (.struct fs) => fields (flat P n) P fs.toList 0
    | some (.array N e) => (flat P n e).bind fun ts => if P.cellsOf e = ts.length then some (List.replicate N ts).flatten else none
    | some _ => some [t]
    | none => none
section
variable {H : Type} {enc : TypeId × Value → H} {P : Program} {w : World} {base : Nat} {spare : Nat → Bool} {held : Bool}
/-- One cell reads as its type says. -/
def Reads (enc : TypeId × Value → H) (P : Program) (w : World) (base : Nat) (spare : Nat → Bool) (held : Bool) (t : TypeId) (v : Value) : Prop := ∃ m y, DataW.trod enc P w base spare held m t [v] = some y
/-- The cells from o on read as these types say. -/
def Leaves (enc : TypeId × Value → H) (P : Program) (w : World) (base : Nat) (spare : Nat → Bool) (held : Bool) (cs : List Value) (o : Nat) (ts : List TypeId) : Prop :=
  ∀ (i : Nat) (t : TypeId), ts[i]? = some t → ∃ v, cs[o + i]? = some v ∧ Reads enc P w base spare held t v
theorem mapM_get {α β : Type} {f : α → Option β} {l : List α} {xs : List β} (h : l.mapM f = some xs) : ∀ a ∈ l, ∃ y, f a = some y := by
  induction l generalizing xs with
  | nil => intro a ha; cases ha
  | cons b t ih =>
    rw [List.mapM_cons] at h
    cases hb : f b with
    | none => rw [hb] at h; cases h
    | some y =>
      rw [hb] at h
      cases ht : t.mapM f with
      | none => rw [ht] at h; cases h
      | some ys =>
        intro a ha
        rcases List.mem_cons.1 ha with rfl | ha
        · exact ⟨y, hb⟩
        · exact ih ht a ha
theorem one_cell {m : Nat} {t : TypeId} {cs : List Value} {x : DataW H × List MemPlace} (hs : ∀ fs, P.underlying t ≠ some (.struct fs)) (ha : ∀ N e, P.underlying t ≠ some (.array N e))
    (h : DataW.trod enc P w base spare held m t cs = some x) : ∃ v, cs = [v] := by
  cases m with
  | zero => simp [DataW.trod] at h
  | succ n =>
    unfold DataW.trod at h
    split at h
    all_goals first
      | exact ⟨_, rfl⟩
      | (rename_i hu; exact absurd hu (hs _))
      | (rename_i hu; exact absurd hu (ha _ _))
      | cases h
theorem Leaves.app {cs : List Value} {o : Nat} {ts us : List TypeId} (h : Leaves enc P w base spare held cs o ts) (k : Leaves enc P w base spare held cs (o + ts.length) us) : Leaves enc P w base spare held cs o (ts ++ us) := by
  intro i t hi
  by_cases hlt : i < ts.length
  · rw [List.getElem?_append_left hlt] at hi; exact h i t hi
  · rw [List.getElem?_append_right (by omega)] at hi
    obtain ⟨v, hv, hr⟩ := k (i - ts.length) t hi
    exact ⟨v, by rw [← hv]; congr 1; omega, hr⟩
/-- A piece's cells are the whole's. -/
theorem Leaves.piece {cs : List Value} {o k : Nat} {ts : List TypeId} (h : Leaves enc P w base spare held ((cs.drop o).take k) 0 ts) : Leaves enc P w base spare held cs o ts := by
  intro i t hi
  obtain ⟨v, hv, hr⟩ := h i t hi
  refine ⟨v, ?_, hr⟩
  rw [Nat.zero_add, List.getElem?_take] at hv
  split at hv
  · rw [List.getElem?_drop] at hv; exact hv
  · cases hv
theorem fields_leaves {fl : TypeId → Option (List TypeId)} {cs : List Value} (hfl : ∀ (t : TypeId) (ts : List TypeId) (m : Nat) (cs : List Value) (x : DataW H × List MemPlace), fl t = some ts → DataW.trod enc P w base spare held m t cs = some x → Leaves enc P w base spare held cs 0 ts) :
    ∀ (fs : List Field) (o : Nat) (ts : List TypeId), fields fl P fs o = some ts → (∀ f ∈ fs, ∃ m y, DataW.trod enc P w base spare held m f.type ((cs.drop f.offset).take (P.cellsOf f.type)) = some y) → Leaves enc P w base spare held cs o ts := by
  intro fs
  induction fs with
  | nil => intro o ts h _; cases h; intro i t hi; simp at hi
  | cons f fs ih =>
    intro o ts h hr
    unfold fields at h
    split at h
    · rename_i ho
      cases hf : fl f.type with
      | none => rw [hf] at h; cases h
      | some us =>
        rw [hf] at h
        simp only [Option.bind_some] at h
        split at h
        · cases hv : fields fl P fs (o + us.length) with
          | none => rw [hv] at h; cases h
          | some vs =>
            rw [hv] at h
            simp only [Option.map_some, Option.some.injEq] at h
            subst h
            obtain ⟨m, y, hy⟩ := hr f (List.mem_cons_self ..)
            rw [ho] at hy
            exact Leaves.app (Leaves.piece (hfl _ _ _ _ _ hf hy)) (ih _ _ hv (fun g hg => hr g (List.mem_cons_of_mem _ hg)))
        · cases h
    · cases h
theorem array_leaves {cs : List Value} {ts : List TypeId} (N : Nat) (h : ∀ i, i < N → Leaves enc P w base spare held cs (i * ts.length) ts) : ∀ o, o ≤ N → Leaves enc P w base spare held cs ((N - o) * ts.length) (List.replicate o ts).flatten := by
  intro o
  induction o with
  | zero => intro _ i t hi; simp at hi
  | succ o ih =>
    intro ho
    rw [List.replicate_succ, List.flatten_cons]
    refine Leaves.app (h _ (by omega)) ?_
    have := ih (by omega)
    rw [show (N - (o + 1)) * ts.length + ts.length = (N - o) * ts.length by rw [show N - o = (N - (o + 1)) + 1 by omega, Nat.add_mul, Nat.one_mul]]
    exact this
/-- Whatever reads as a type says, reads cell by cell as the types of its cells say. -/
theorem trod_flat (n : Nat) : ∀ (t : TypeId) (ts : List TypeId) (m : Nat) (cs : List Value) (x : DataW H × List MemPlace), flat P n t = some ts → DataW.trod enc P w base spare held m t cs = some x → Leaves enc P w base spare held cs 0 ts := by
  induction n with
  | zero => intro t ts m cs x h; cases h
  | succ n ih =>
    intro t ts m cs x h hx
    unfold flat at h
    split at h
    · rename_i fs hu
      obtain ⟨xs, n', _, _, hlen, hxl, hf⟩ := DataW.trod_struct hu hx
      refine fields_leaves ih _ _ _ h (fun f hfm => ?_)
      obtain ⟨i, hi, rfl⟩ := List.getElem_of_mem hfm
      have hi' : i < fs.size := by simpa using hi
      have := hf i fs[i] (Array.getElem?_eq_getElem hi')
      rw [List.getElem?_eq_getElem (show i < xs.length by omega)] at this
      exact ⟨n', _, by simpa using this⟩
    · rename_i N e hu
      cases he : flat P n e with
      | none => rw [he] at h; cases h
      | some us =>
        rw [he] at h
        simp only [Option.bind_some] at h
        split at h
        · rename_i hc
          cases h
          cases m with
          | zero => simp [DataW.trod] at hx
          | succ m =>
            unfold DataW.trod at hx
            rw [hu] at hx
            simp only at hx
            split at hx
            · cases hm : (List.range N).mapM (fun i => DataW.trod enc P w base spare held m e ((cs.drop (i * P.cellsOf e)).take (P.cellsOf e))) with
              | none => rw [hm] at hx; cases hx
              | some xs =>
                have := array_leaves (enc := enc) (P := P) (w := w) (base := base) (spare := spare) (held := held) (cs := cs) (ts := us) N (fun i hi => by
                  obtain ⟨y, hy⟩ := mapM_get hm i (List.mem_range.2 hi)
                  have := ih _ _ _ _ _ he hy
                  rw [hc] at this
                  exact Leaves.piece this) N (Nat.le_refl _)
                rwa [Nat.sub_self, Nat.zero_mul] at this
            · cases hx
        · cases h
    · rename_i u hs ha hu
      cases h
      obtain ⟨v, rfl⟩ := one_cell (fun fs hq => by rw [hu] at hq; cases hq; exact hs fs rfl) (fun N e hq => by rw [hu] at hq; cases hq; exact ha N e rfl) hx
      intro i t' hi
      match i, hi with
      | 0, hi =>
        simp at hi
        subst hi
        exact ⟨v, rfl, m, x, hx⟩
    · cases h
/-- A struct or an array, by value: its cells. -/
theorem open_agg {t : TypeId} {n b0 : Nat} {r : Reach} {ts : List TypeId} {v : Value} {d : DataW H} {p : List MemPlace} (hf : flat P n t = some ts) (hc : P.cellsOf t = ts.length)
    (hu : (∃ fs, P.underlying t = some (.struct fs)) ∨ (∃ N e, P.underlying t = some (.array N e))) (hv : Value.okWide P w r b0 t v) (h : DataW.Trod enc P w base spare held t v d p) :
    ∃ cs : List Value, v = .agg cs.toArray ∧ cs.length = ts.length ∧ Leaves enc P w base spare held cs 0 ts := by
  obtain ⟨cs, rfl, hsz⟩ : ∃ cs, v = .agg cs ∧ cs.size = P.cellsOf t := by
    rcases hu with ⟨fs, hu⟩ | ⟨N, e, hu⟩ <;> (simp only [Value.okWide, hu] at hv; obtain ⟨cs, h1, h2, _⟩ := hv; exact ⟨cs, h1, h2⟩)
  obtain ⟨fuel, hx⟩ := h
  exact ⟨cs.toList, rfl, by rw [Array.length_toList]; omega, trod_flat n _ _ _ _ _ hf hx⟩
/-- One of the cells. -/
theorem Leaves.pick {cs : List Value} {ts : List TypeId} (h : Leaves enc P w base spare held cs 0 ts) (i : Nat) {t : TypeId} {v : Value} (ht : ts[i]? = some t) (hv : cs[i]? = some v) : Reads enc P w base spare held t v := by
  obtain ⟨x, h1, h2⟩ := h i t ht
  rw [Nat.zero_add, hv] at h1
  cases h1
  exact h2
/-- One cell, as its type says. -/
theorem Reads.int {t : TypeId} {k : IntKind} {v : Value} (hu : P.underlying t = some (.int k)) (h : Reads enc P w base spare held t v) : ∃ n, v = .int k n ∧ (Lit.int k n).wf = true := by
  obtain ⟨m, y, hy⟩ := h
  obtain ⟨x0, e0, _, w0⟩ := DataW.trod_int hu hy
  simp at e0
  exact ⟨x0, e0, w0⟩
theorem Reads.bool {t : TypeId} {v : Value} (hu : P.underlying t = some .bool) (h : Reads enc P w base spare held t v) : ∃ b, v = .bool b := by
  obtain ⟨m, y, hy⟩ := h
  cases m with
  | zero => simp [DataW.trod] at hy
  | succ m =>
    unfold DataW.trod at hy
    rw [hu] at hy
    split at hy <;> simp_all
theorem Reads.ints {t e : TypeId} {k : IntKind} {v : Value} (hu : P.underlying t = some (.slice e)) (he : P.underlying e = some (.int k)) (hc : P.cellsOf e = 1) (h : Reads enc P w 0 (fun _ => true) held t v) :
    ∃ (a : Option Addr) (cap : Nat) (l : List Int), v = .slice a l.length cap ∧ l.length ≤ cap ∧ cap ≤ maxLen ∧ (∀ n ∈ l, (Lit.int k n).wf = true) ∧ IntsAt k w a l := by
  obtain ⟨m, y, hf⟩ := h
  rcases open_ints hu he hc hf with ⟨hcs, _⟩ | ⟨x, len, cap, zs, hcs, _, hl, hm, hz, hd, hcell, hwz⟩
  · simp at hcs
    exact ⟨none, 0, [], by simpa using hcs, by simp, by simp, by simp, Or.inl rfl⟩
  · simp at hcs
    simp at hz
    have el : (zs.take len).length = len := by simp; omega
    refine ⟨some x, cap, zs.take len, by rw [el]; exact hcs, by rw [el]; omega, by omega, fun n hn => hwz n (List.mem_of_mem_take hn), ?_⟩
    by_cases h0 : len = 0
    · exact Or.inl (by simp [h0])
    · have c0 := hcell 0 (by omega)
      obtain ⟨b, off, spot⟩ := x
      have hs : spot = none := by simpa [Addr.add] using World.cell?_spot c0
      subst hs
      refine Or.inr ⟨b, off, rfl, fun i hi => ?_⟩
      rw [el] at hi
      have := hcell i (by omega)
      rw [add_plain] at this
      rw [this]; simp only [List.getD_eq_getElem?_getD, List.getElem?_take_of_lt hi]
/-- A struct of two cells. -/
theorem Leaves.two {cs : List Value} {t u : TypeId} (hl : cs.length = [t, u].length) (h : Leaves enc P w base spare held cs 0 [t, u]) : ∃ x y, cs = [x, y] ∧ Reads enc P w base spare held t x ∧ Reads enc P w base spare held u y := by
  match cs, hl with
  | [x, y], _ =>
    obtain ⟨v, hv, hr⟩ := h 0 t rfl
    obtain ⟨v', hv', hr'⟩ := h 1 u rfl
    simp at hv hv'
    subst hv; subst hv'
    exact ⟨x, y, rfl, hr, hr'⟩
/-- A struct or an array of numbers alone. -/
theorem Leaves.ints {k : IntKind} {cs : List Value} {ts : List TypeId} (hl : cs.length = ts.length) (hu : ∀ t ∈ ts, P.underlying t = some (.int k)) (h : Leaves enc P w base spare held cs 0 ts) :
    ∃ l : List Int, cs = cellsI k l ∧ l.length = ts.length ∧ ∀ n ∈ l, (Lit.int k n).wf = true := by
  have key : ∀ c ∈ cs, ∃ n, c = .int k n ∧ (Lit.int k n).wf = true := by
    intro c hc
    obtain ⟨i, hi, rfl⟩ := List.getElem_of_mem hc
    obtain ⟨v, hv, hr⟩ := h i ts[i] (List.getElem?_eq_getElem (by omega))
    rw [Nat.zero_add, List.getElem?_eq_getElem hi] at hv
    cases hv
    exact hr.int (hu _ (List.getElem_mem _))
  have all : ∀ cs : List Value, (∀ c ∈ cs, ∃ n, c = .int k n ∧ (Lit.int k n).wf = true) → ∃ l : List Int, cs = cellsI k l ∧ ∀ n ∈ l, (Lit.int k n).wf = true := by
    intro cs
    induction cs with
    | nil => intro _; exact ⟨[], rfl, by simp⟩
    | cons c t ih =>
      intro hq
      obtain ⟨l, hl, hw⟩ := ih (fun x hx => hq x (List.mem_cons_of_mem _ hx))
      obtain ⟨n, rfl, hn⟩ := hq c (List.mem_cons_self ..)
      refine ⟨n :: l, by rw [hl]; rfl, ?_⟩
      intro m hm
      rcases List.mem_cons.1 hm with rfl | hm
      · exact hn
      · exact hw m hm
  obtain ⟨l, rfl, hw⟩ := all cs key
  exact ⟨l, rfl, by rw [cellsI_len] at hl; exact hl, hw⟩
end
end Fl
end Go.Proofs.Ytchnnpaebggfdaa

namespace Go.Proofs.Ytchnnpaebggfdaa
set_option maxRecDepth 100000
open Go.ChangeShapes Go.WideShapes Go.ChangeAt Go.RowKit Go.Deep
namespace Fl
section
variable {H : Type} {enc : TypeId × Value → H} {P : Program} {w : World}
/-- A slice of elements that are taken apart into cells. -/
theorem open_rows {t e : TypeId} {n b0 base : Nat} {r : Reach} {ts : List TypeId} {v : Value} {d : DataW H} {p : List MemPlace} {spare : Nat → Bool} {held : Bool} (ht : P.underlying t = some (.slice e)) (hf : flat P n e = some ts) (hc : P.cellsOf e = ts.length) (hp : 0 < ts.length)
    (hv : Value.okWide P w r b0 t v) (h : DataW.Trod enc P w base spare held t v d p) :
    ∃ (a : Option Addr) (len cap : Nat), v = .slice a len cap ∧ len ≤ cap ∧ cap ≤ maxLen ∧ (len = 0 ∨ ∃ b off, a = some ⟨b, off, none⟩ ∧ ∀ i, i < len → ∃ cs : List Value, cs.length = ts.length ∧
      (∀ j, j < ts.length → w.cell? ⟨b, off + i * ts.length + j, none⟩ = cs[j]?) ∧ Leaves enc P w base spare held cs 0 ts) := by
  obtain ⟨a, len, cap, rfl⟩ := okWide_slice ht hv
  obtain ⟨fuel, hx⟩ := h
  rcases Go.Deep.open_slice ht hx with ⟨hcs, _⟩ | ⟨x, len', cap', m, n', D, Pl, hcs, _, hl, hm, hmm, _, hi⟩
  · simp [Value.cells] at hcs
    obtain ⟨rfl, rfl, rfl⟩ := hcs
    exact ⟨none, 0, 0, rfl, Nat.le_refl _, Nat.zero_le _, Or.inl rfl⟩
  · simp [Value.cells] at hcs
    obtain ⟨rfl, rfl, rfl⟩ := hcs
    refine ⟨some x, len, cap, rfl, hl, hm, ?_⟩
    have hlm : len ≤ m := by rw [hmm]; split <;> omega
    by_cases h0 : len = 0
    · exact Or.inl h0
    · right
      have sp : x.spot = none := by
        obtain ⟨cs, h1, _⟩ := hi 0 (by omega)
        rw [hc] at h1
        obtain ⟨_, hlen, hcell⟩ := World.cells?_some h1
        have := hcell 0 hp
        rw [List.getElem?_eq_getElem (by omega)] at this
        have := World.cell?_spot this
        simpa [Addr.add] using this
      obtain ⟨b, off, spot⟩ := x
      have sp' : spot = none := sp
      subst sp'
      refine ⟨b, off, rfl, fun i hil => ?_⟩
      obtain ⟨cs, h1, h2⟩ := hi i (by omega)
      rw [hc] at h1
      obtain ⟨_, hlen, hcell⟩ := World.cells?_some h1
      refine ⟨cs, hlen, fun j hj => ?_, trod_flat n _ _ _ _ _ hf h2⟩
      have := hcell j hj
      rw [add_plain, add_plain] at this
      exact this
end
end Fl
/-- A slot, as it lies in memory. -/
structure SlotV where
  is : Bool
  a : Option Addr
  cap : Nat
  l : List Int
instance : Inhabited SlotV := ⟨⟨false, none, 0, []⟩⟩
structure SlotOk (w : World) (b off : Nat) (s : SlotV) : Prop where
  c0 : w.cell? ⟨b, off, none⟩ = some (.bool s.is)
  c1 : w.cell? ⟨b, off + 1, none⟩ = some (.slice s.a s.l.length s.cap)
  le : s.l.length ≤ s.cap
  cap : s.cap ≤ maxLen
  wf : ∀ n ∈ s.l, (Lit.int .u8 n).wf = true
  bytes : IntsAt .u8 w s.a s.l
def SlotsAt (w : World) (a : Option Addr) (ss : List SlotV) : Prop := ss = [] ∨ ∃ b off, a = some ⟨b, off, none⟩ ∧ ∀ i s, ss[i]? = some s → SlotOk w b (off + i * 2) s
theorem SlotOk.below {w w' : World} {b off : Nat} {s : SlotV} (h : SlotOk w b off s) (hb : Below w.heap.size w w') : SlotOk w' b off s :=
  ⟨(hb.cell (p := ⟨b, off, none⟩) (cell_lt h.c0)).trans h.c0, (hb.cell (p := ⟨b, off + 1, none⟩) (cell_lt h.c1)).trans h.c1, h.le, h.cap, h.wf, h.bytes.below hb⟩
theorem SlotsAt.below {w w' : World} {a : Option Addr} {ss : List SlotV} (h : SlotsAt w a ss) (hb : Below w.heap.size w w') : SlotsAt w' a ss := by
  rcases h with rfl | ⟨b, off, rfl, hs⟩
  · exact Or.inl rfl
  · exact Or.inr ⟨b, off, rfl, fun i s hi => (hs i s hi).below hb⟩
theorem SlotsAt.some {w : World} {a : Option Addr} {ss : List SlotV} (h : SlotsAt w a ss) (hp : 0 < ss.length) : ∃ b off, a = some ⟨b, off, none⟩ ∧ ∀ i s, ss[i]? = some s → SlotOk w b (off + i * 2) s := by
  rcases h with rfl | h
  · simp at hp
  · exact h
end Go.Proofs.Ytchnnpaebggfdaa

namespace Go.Proofs.Ytchnnpaebggfdaa
set_option maxRecDepth 100000
open Go.ChangeShapes Go.WideShapes Go.ChangeAt Go.RowKit Go.Deep
namespace Fl
theorem weights_mem_all {H : Type} {P : Program} {e : TypeId} : ∀ {ds : List (DataW H)} {j : Nat} {d : DataW H}, ds[j]? = some d → ∀ n ∈ d.weights P e, n ∈ DataW.weightsAll P e ds
  | d0 :: ds, 0, d, hd, n, hn => by
    simp only [List.getElem?_cons_zero, Option.some.injEq] at hd
    subst hd
    simp only [DataW.weightsAll, List.mem_append]
    exact Or.inl hn
  | d0 :: ds, j + 1, d, hd, n, hn => by
    simp only [List.getElem?_cons_succ] at hd
    simp only [DataW.weightsAll, List.mem_append]
    exact Or.inr (weights_mem_all hd n hn)
  | [], _, _, hd, _, _ => by simp at hd
theorem mapM_at {α β : Type} {f : α → Option β} : ∀ {l : List α} {xs : List β}, l.mapM f = some xs → ∀ (i : Nat) a, l[i]? = some a → f a = xs[i]?
  | [], xs, h, i, a, ha => by simp at ha
  | b :: t, xs, h, i, a, ha => by
    rw [List.mapM_cons] at h
    cases hb : f b with
    | none => rw [hb] at h; cases h
    | some y =>
      rw [hb] at h
      cases ht : t.mapM f with
      | none => rw [ht] at h; cases h
      | some ys =>
        rw [ht] at h
        cases h
        cases i with
        | zero => simp at ha; subst ha; simpa using hb
        | succ i => simp at ha; simpa using mapM_at ht i a ha
section
variable {H : Type} {enc : TypeId × Value → H} {P : Program} {w : World} {base : Nat} {spare : Nat → Bool} {held : Bool} {S : Nat → Prop}
def ReadsW (enc : TypeId × Value → H) (P : Program) (w : World) (base : Nat) (spare : Nat → Bool) (held : Bool) (S : Nat → Prop) (t : TypeId) (v : Value) : Prop := ∃ m y, DataW.trod enc P w base spare held m t [v] = some y ∧ ∀ k ∈ y.1.weights P t, S k
def LeavesW (enc : TypeId × Value → H) (P : Program) (w : World) (base : Nat) (spare : Nat → Bool) (held : Bool) (S : Nat → Prop) (cs : List Value) (o : Nat) (ts : List TypeId) : Prop :=
  ∀ (i : Nat) (t : TypeId), ts[i]? = some t → ∃ v, cs[o + i]? = some v ∧ ReadsW enc P w base spare held S t v
theorem ReadsW.plain {t : TypeId} {v : Value} (h : ReadsW enc P w base spare held S t v) : Reads enc P w base spare held t v := by
  obtain ⟨m, y, hy, _⟩ := h
  exact ⟨m, y, hy⟩
theorem LeavesW.app {cs : List Value} {o : Nat} {ts us : List TypeId} (h : LeavesW enc P w base spare held S cs o ts) (k : LeavesW enc P w base spare held S cs (o + ts.length) us) : LeavesW enc P w base spare held S cs o (ts ++ us) := by
  intro i t hi
  by_cases hlt : i < ts.length
  · rw [List.getElem?_append_left hlt] at hi; exact h i t hi
  · rw [List.getElem?_append_right (by omega)] at hi
    obtain ⟨v, hv, hr⟩ := k (i - ts.length) t hi
    exact ⟨v, by rw [← hv]; congr 1; omega, hr⟩
theorem LeavesW.piece {cs : List Value} {o k : Nat} {ts : List TypeId} (h : LeavesW enc P w base spare held S ((cs.drop o).take k) 0 ts) : LeavesW enc P w base spare held S cs o ts := by
  intro i t hi
  obtain ⟨v, hv, hr⟩ := h i t hi
  refine ⟨v, ?_, hr⟩
  rw [Nat.zero_add, List.getElem?_take] at hv
  split at hv
  · rw [List.getElem?_drop] at hv; exact hv
  · cases hv
theorem fields_leavesW {fl : TypeId → Option (List TypeId)} {cs : List Value} (hfl : ∀ (t : TypeId) (ts : List TypeId) (m : Nat) (cs : List Value) (x : DataW H × List MemPlace), fl t = some ts → DataW.trod enc P w base spare held m t cs = some x → (∀ k ∈ x.1.weights P t, S k) → LeavesW enc P w base spare held S cs 0 ts) :
    ∀ (fs : List Field) (o : Nat) (ts : List TypeId), fields fl P fs o = some ts → (∀ f ∈ fs, ∃ m y, DataW.trod enc P w base spare held m f.type ((cs.drop f.offset).take (P.cellsOf f.type)) = some y ∧ ∀ k ∈ y.1.weights P f.type, S k) → LeavesW enc P w base spare held S cs o ts := by
  intro fs
  induction fs with
  | nil => intro o ts h _; cases h; intro i t hi; simp at hi
  | cons f fs ih =>
    intro o ts h hr
    unfold fields at h
    split at h
    · rename_i ho
      cases hf : fl f.type with
      | none => rw [hf] at h; cases h
      | some us =>
        rw [hf] at h
        simp only [Option.bind_some] at h
        split at h
        · cases hv : fields fl P fs (o + us.length) with
          | none => rw [hv] at h; cases h
          | some vs =>
            rw [hv] at h
            simp only [Option.map_some, Option.some.injEq] at h
            subst h
            obtain ⟨m, y, hy, hk⟩ := hr f (List.mem_cons_self ..)
            rw [ho] at hy
            exact LeavesW.app (LeavesW.piece (hfl _ _ _ _ _ hf hy hk)) (ih _ _ hv (fun g hg => hr g (List.mem_cons_of_mem _ hg)))
        · cases h
    · cases h
theorem array_leavesW {cs : List Value} {ts : List TypeId} (N : Nat) (h : ∀ i, i < N → LeavesW enc P w base spare held S cs (i * ts.length) ts) : ∀ o, o ≤ N → LeavesW enc P w base spare held S cs ((N - o) * ts.length) (List.replicate o ts).flatten := by
  intro o
  induction o with
  | zero => intro _ i t hi; simp at hi
  | succ o ih =>
    intro ho
    rw [List.replicate_succ, List.flatten_cons]
    refine LeavesW.app (h _ (by omega)) ?_
    have := ih (by omega)
    rw [show (N - (o + 1)) * ts.length + ts.length = (N - o) * ts.length by rw [show N - o = (N - (o + 1)) + 1 by omega, Nat.add_mul, Nat.one_mul]]
    exact this
theorem trod_flatW (n : Nat) : ∀ (t : TypeId) (ts : List TypeId) (m : Nat) (cs : List Value) (x : DataW H × List MemPlace), flat P n t = some ts → DataW.trod enc P w base spare held m t cs = some x → (∀ k ∈ x.1.weights P t, S k) → LeavesW enc P w base spare held S cs 0 ts := by
  induction n with
  | zero => intro t ts m cs x h; cases h
  | succ n ih =>
    intro t ts m cs x h hx hk
    unfold flat at h
    split at h
    · rename_i fs hu
      obtain ⟨xs, n', _, rfl, hlen, hxl, hf⟩ := DataW.trod_struct hu hx
      refine fields_leavesW ih _ _ _ h (fun f hfm => ?_)
      obtain ⟨i, hi, rfl⟩ := List.getElem_of_mem hfm
      have hi' : i < fs.size := by simpa using hi
      have := hf i fs[i] (Array.getElem?_eq_getElem hi')
      rw [List.getElem?_eq_getElem (show i < xs.length by omega)] at this
      refine ⟨n', _, by simpa using this, fun k hk' => hk k ?_⟩
      have h1 : (fs.toList.map (·.type))[i]? = some (fs.toList[i]).type := by rw [List.getElem?_map, List.getElem?_eq_getElem hi]; rfl
      have h2 : (xs.map (·.1))[i]? = some (xs[i]'(by omega)).1 := by rw [List.getElem?_map, List.getElem?_eq_getElem (show i < xs.length by omega)]; rfl
      simp only [DataW.weights, hu]
      exact DataW.weights_mem_each h1 h2 k hk'
    · rename_i N e hu
      cases he : flat P n e with
      | none => rw [he] at h; cases h
      | some us =>
        rw [he] at h
        simp only [Option.bind_some] at h
        split at h
        · rename_i hc
          cases h
          cases m with
          | zero => simp [DataW.trod] at hx
          | succ m =>
            unfold DataW.trod at hx
            rw [hu] at hx
            simp only at hx
            split at hx
            · cases hm : (List.range N).mapM (fun i => DataW.trod enc P w base spare held m e ((cs.drop (i * P.cellsOf e)).take (P.cellsOf e))) with
              | none => rw [hm] at hx; cases hx
              | some xs =>
                rw [hm] at hx
                simp only [Option.map_some, Option.some.injEq] at hx
                subst hx
                have := array_leavesW (enc := enc) (P := P) (w := w) (base := base) (spare := spare) (held := held) (S := S) (cs := cs) (ts := us) N (fun i hi => by
                  have hy := mapM_at hm i i (List.getElem?_range hi)
                  obtain ⟨y, hy'⟩ := mapM_get hm i (List.mem_range.2 hi)
                  rw [hy'] at hy
                  have hw : ∀ k ∈ y.1.weights P e, S k := fun k hk' => hk k (by
                    simp only [DataW.weights, hu]
                    exact weights_mem_all (j := i) (by rw [List.getElem?_map, ← hy]; rfl) k hk')
                  have := ih _ _ _ _ _ he hy' hw
                  rw [hc] at this
                  exact LeavesW.piece this) N (Nat.le_refl _)
                rwa [Nat.sub_self, Nat.zero_mul] at this
            · cases hx
        · cases h
    · rename_i u hs ha hu
      cases h
      obtain ⟨v, rfl⟩ := one_cell (fun fs hq => by rw [hu] at hq; cases hq; exact hs fs rfl) (fun N e hq => by rw [hu] at hq; cases hq; exact ha N e rfl) hx
      intro i t' hi
      match i, hi with
      | 0, hi =>
        simp at hi
        subst hi
        exact ⟨v, rfl, m, x, hx, hk⟩
    · cases h
/-- Numbers first, then others. -/
theorem LeavesW.ints_then {k : IntKind} {cs : List Value} {t : TypeId} {n : Nat} {us : List TypeId} (hu : P.underlying t = some (.int k)) (h : LeavesW enc P w base spare held S cs 0 (List.replicate n t ++ us)) :
    ∃ l : List Int, l.length = n ∧ cs = cellsI k l ++ cs.drop n ∧ LeavesW enc P w base spare held S (cs.drop n) 0 us := by
  have each : ∀ i, i < n → ∃ x : Int, cs[i]? = some (.int k x) := by
    intro i hi
    obtain ⟨v, hv, hr⟩ := h i t (by rw [List.getElem?_append_left (by simpa using hi)]; simp [hi])
    obtain ⟨x, rfl, _⟩ := hr.plain.int hu
    exact ⟨x, by rw [Nat.zero_add] at hv; exact hv⟩
  obtain ⟨f, hf⟩ := choose_lt each
  refine ⟨(List.range n).map f, by simp, ?_, fun i t' hi => ?_⟩
  · refine List.ext_getElem? fun i => ?_
    by_cases hi : i < n
    · rw [List.getElem?_append_left (by simpa [cellsI] using hi), cellsI_get k _ i (by simpa using hi), hf i hi]
      simp [List.getD_eq_getElem?_getD, hi]
    · rw [List.getElem?_append_right (by simp [cellsI]; omega), List.getElem?_drop]
      congr 1
      simp [cellsI]
      omega
  · obtain ⟨v, hv, hr⟩ := h (n + i) t' (by rw [List.getElem?_append_right (by simp)]; simpa using hi)
    exact ⟨v, by rw [Nat.zero_add, List.getElem?_drop]; rw [Nat.zero_add] at hv; exact hv, hr⟩
/-- Bytes, and how many there may be. -/
theorem ReadsW.ints {t e : TypeId} {k : IntKind} {v : Value} {B : Nat} (hu : P.underlying t = some (.slice e)) (he : P.underlying e = some (.int k)) (hc : P.cellsOf e = 1) (hb : P.bytesOf e = 1) (h : ReadsW enc P w 0 (fun _ => true) held (· ≤ B) t v) :
    ∃ (a : Option Addr) (cap : Nat) (l : List Int), v = .slice a l.length cap ∧ l.length ≤ cap ∧ cap ≤ maxLen ∧ (∀ n ∈ l, (Lit.int k n).wf = true) ∧ IntsAt k w a l ∧ cap ≤ B ∧ (a = none → cap = 0) := by
  have h' := h
  obtain ⟨a, cap, l, rfl, h1, h2, h3, h4⟩ := h.plain.ints hu he hc
  refine ⟨a, cap, l, rfl, h1, h2, h3, h4, ?_⟩
  obtain ⟨m, y, hf, hk⟩ := h'
  rcases open_ints hu he hc hf with ⟨hcs, _⟩ | ⟨x, len, cap', zs, hcs, _, hl, hm, hz, hd, _, _⟩
  · simp at hcs
    obtain ⟨rfl, -, rfl⟩ := hcs
    exact ⟨Nat.zero_le _, fun _ => rfl⟩
  · simp at hcs
    obtain ⟨rfl, rfl, rfl⟩ := hcs
    simp at hz
    refine ⟨?_, fun e => (by cases e)⟩
    have := hk (((lits (H := H) k (zs.take l.length)).length + (lits (H := H) k (zs.drop l.length)).length) * P.bytesOf e) (by
      rw [hd]
      simp only [DataW.weights, hu]
      exact List.mem_cons_self ..)
    rw [hb] at this
    simp [lits] at this
    omega
/-- A slice of elements that are taken apart into cells. -/
theorem open_rowsW {t e : TypeId} {n base : Nat} {ts : List TypeId} {v : Value} {spare : Nat → Bool} {held : Bool} (ht : P.underlying t = some (.slice e)) (hf : flat P n e = some ts) (hc : P.cellsOf e = ts.length) (hp : 0 < ts.length)
    (h : ReadsW enc P w base spare held S t v) :
    ∃ (a : Option Addr) (len cap : Nat), v = .slice a len cap ∧ len ≤ cap ∧ cap ≤ maxLen ∧ (len = 0 ∨ ∃ b off, a = some ⟨b, off, none⟩ ∧ ∀ i, i < len → ∃ cs : List Value, cs.length = ts.length ∧
      (∀ j, j < ts.length → w.cell? ⟨b, off + i * ts.length + j, none⟩ = cs[j]?) ∧ LeavesW enc P w base spare held S cs 0 ts) := by
  obtain ⟨fuel, y, hx, hk⟩ := h
  rcases Go.Deep.open_slice ht hx with ⟨hcs, _⟩ | ⟨x, len, cap, m, n', D, Pl, hcs, _, hl, hm, hmm, hd, hi⟩
  · simp at hcs
    exact ⟨none, 0, 0, hcs, Nat.le_refl _, Nat.zero_le _, Or.inl rfl⟩
  · simp at hcs
    refine ⟨some x, len, cap, hcs, hl, hm, ?_⟩
    have hlm : len ≤ m := by rw [hmm]; split <;> omega
    by_cases h0 : len = 0
    · exact Or.inl h0
    · right
      have sp : x.spot = none := by
        obtain ⟨cs, h1, _⟩ := hi 0 (by omega)
        rw [hc] at h1
        obtain ⟨_, hlen, hcell⟩ := World.cells?_some h1
        have := hcell 0 hp
        rw [List.getElem?_eq_getElem (by omega)] at this
        have := World.cell?_spot this
        simpa [Addr.add] using this
      obtain ⟨b, off, spot⟩ := x
      have sp' : spot = none := sp
      subst sp'
      refine ⟨b, off, rfl, fun i hil => ?_⟩
      obtain ⟨cs, h1, h2⟩ := hi i (by omega)
      rw [hc] at h1
      obtain ⟨_, hlen, hcell⟩ := World.cells?_some h1
      refine ⟨cs, hlen, fun j hj => ?_, trod_flatW n _ _ _ _ _ hf h2 (fun k hk' => hk k ?_)⟩
      · have := hcell j hj
        rw [add_plain, add_plain] at this
        exact this
      · rw [hd]
        simp only [DataW.weights, ht]
        refine List.mem_cons_of_mem _ (List.mem_append.2 (Or.inl ?_))
        exact weights_mem_all (j := i) (by rw [List.getElem?_map, List.getElem?_range hil]; rfl) k hk'
/-- A struct, by value: its cells. -/
theorem open_aggW {t : TypeId} {n b0 : Nat} {r : Reach} {ts : List TypeId} {v : Value} {d : DataW H} {p : List MemPlace} (hf : flat P n t = some ts) (hc : P.cellsOf t = ts.length)
    (hu : ∃ fs, P.underlying t = some (.struct fs)) (hv : Value.okWide P w r b0 t v) (h : DataW.Trod enc P w base spare held t v d p) (hk : ∀ k ∈ d.weights P t, S k) :
    ∃ cs : List Value, v = .agg cs.toArray ∧ cs.length = ts.length ∧ LeavesW enc P w base spare held S cs 0 ts := by
  obtain ⟨cs, rfl, hsz⟩ : ∃ cs, v = .agg cs ∧ cs.size = P.cellsOf t := by
    obtain ⟨fs, hu⟩ := hu
    simp only [Value.okWide, hu] at hv; obtain ⟨cs, h1, h2, _⟩ := hv; exact ⟨cs, h1, h2⟩
  obtain ⟨fuel, hx⟩ := h
  exact ⟨cs.toList, rfl, by rw [Array.length_toList]; omega, trod_flatW n _ _ _ _ _ hf hx hk⟩
end
end Fl
end Go.Proofs.Ytchnnpaebggfdaa
