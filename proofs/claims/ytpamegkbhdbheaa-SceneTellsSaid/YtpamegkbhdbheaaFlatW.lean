/-
  As Flat and Slots, with what each datum weighs: an argument's cells one by one, each of them read as its own type says, and no heavier than the whole. No Go text is reached here. No conditions.
-/
import Derived.Test.YtpamegkbhdbheaaJFlat2
import Derived.SizedLaws
namespace Go.Proofs.Ytpamegkbhdbheaa
set_option maxRecDepth 100000
open Go.ChangeShapes Go.WideShapes Go.ChangeAt Go.RowKit Go.Deep
namespace Fl
theorem weights_mem_all {H : Type} {P : Program} {e : TypeId} : ∀ {ds : List (DataW H)} {j : Nat} {d : DataW H}, ds[j]? = some d → ∀ n ∈ d.weights P e, n ∈ DataW.weightsAll P e ds
  | d0 :: ds, 0, d, hd, n, hn => by
    simp only [List.getElem?_cons_zero, Option.some.injEq] at hd
    subst hd
    simp only [DataW.weightsAll, List.mem_append]
    exact Or.inl hn
  | d0 :: ds, j + 1, d, hd, n, hn => by
    simp only [List.getElem?_cons_succ] at hd
    simp only [DataW.weightsAll, List.mem_append]
    exact Or.inr (weights_mem_all hd n hn)
  | [], _, _, hd, _, _ => by simp at hd
theorem mapM_at {α β : Type} {f : α → Option β} : ∀ {l : List α} {xs : List β}, l.mapM f = some xs → ∀ (i : Nat) a, l[i]? = some a → f a = xs[i]?
  | [], xs, h, i, a, ha => by simp at ha
  | b :: t, xs, h, i, a, ha => by
    rw [List.mapM_cons] at h
    cases hb : f b with
    | none => rw [hb] at h; cases h
    | some y =>
      rw [hb] at h
      cases ht : t.mapM f with
      | none => rw [ht] at h; cases h
      | some ys =>
        rw [ht] at h
        cases h
        cases i with
        | zero => simp at ha; subst ha; simpa using hb
        | succ i => simp at ha; simpa using mapM_at ht i a ha
section
variable {H : Type} {enc : TypeId × Value → H} {P : Program} {w : World} {base : Nat} {spare : Nat → Bool} {held : Bool} {S : Nat → Prop}
def ReadsW (enc : TypeId × Value → H) (P : Program) (w : World) (base : Nat) (spare : Nat → Bool) (held : Bool) (S : Nat → Prop) (t : TypeId) (v : Value) : Prop := ∃ m y, DataW.trod enc P w base spare held m t [v] = some y ∧ ∀ k ∈ y.1.weights P t, S k
def LeavesW (enc : TypeId × Value → H) (P : Program) (w : World) (base : Nat) (spare : Nat → Bool) (held : Bool) (S : Nat → Prop) (cs : List Value) (o : Nat) (ts : List TypeId) : Prop :=
  ∀ (i : Nat) (t : TypeId), ts[i]? = some t → ∃ v, cs[o + i]? = some v ∧ ReadsW enc P w base spare held S t v
theorem ReadsW.plain {t : TypeId} {v : Value} (h : ReadsW enc P w base spare held S t v) : Reads enc P w base spare held t v := by
  obtain ⟨m, y, hy, _⟩ := h
  exact ⟨m, y, hy⟩
theorem LeavesW.app {cs : List Value} {o : Nat} {ts us : List TypeId} (h : LeavesW enc P w base spare held S cs o ts) (k : LeavesW enc P w base spare held S cs (o + ts.length) us) : LeavesW enc P w base spare held S cs o (ts ++ us) := by
  intro i t hi
  by_cases hlt : i < ts.length
  · rw [List.getElem?_append_left hlt] at hi; exact h i t hi
  · rw [List.getElem?_append_right (by omega)] at hi
    obtain ⟨v, hv, hr⟩ := k (i - ts.length) t hi
    exact ⟨v, by rw [← hv]; congr 1; omega, hr⟩
theorem LeavesW.piece {cs : List Value} {o k : Nat} {ts : List TypeId} (h : LeavesW enc P w base spare held S ((cs.drop o).take k) 0 ts) : LeavesW enc P w base spare held S cs o ts := by
  intro i t hi
  obtain ⟨v, hv, hr⟩ := h i t hi
  refine ⟨v, ?_, hr⟩
  rw [Nat.zero_add, List.getElem?_take] at hv
  split at hv
  · rw [List.getElem?_drop] at hv; exact hv
  · cases hv
theorem fields_leavesW {fl : TypeId → Option (List TypeId)} {cs : List Value} (hfl : ∀ (t : TypeId) (ts : List TypeId) (m : Nat) (cs : List Value) (x : DataW H × List MemPlace), fl t = some ts → DataW.trod enc P w base spare held m t cs = some x → (∀ k ∈ x.1.weights P t, S k) → LeavesW enc P w base spare held S cs 0 ts) :
    ∀ (fs : List Field) (o : Nat) (ts : List TypeId), fields fl P fs o = some ts → (∀ f ∈ fs, ∃ m y, DataW.trod enc P w base spare held m f.type ((cs.drop f.offset).take (P.cellsOf f.type)) = some y ∧ ∀ k ∈ y.1.weights P f.type, S k) → LeavesW enc P w base spare held S cs o ts := by
  intro fs
  induction fs with
  | nil => intro o ts h _; cases h; intro i t hi; simp at hi
  | cons f fs ih =>
    intro o ts h hr
    unfold fields at h
    split at h
    · rename_i ho
      cases hf : fl f.type with
      | none => rw [hf] at h; cases h
      | some us =>
        rw [hf] at h
        simp only [Option.bind_some] at h
        split at h
        · cases hv : fields fl P fs (o + us.length) with
          | none => rw [hv] at h; cases h
          | some vs =>
            rw [hv] at h
            simp only [Option.map_some, Option.some.injEq] at h
            subst h
            obtain ⟨m, y, hy, hk⟩ := hr f (List.mem_cons_self ..)
            rw [ho] at hy
            exact LeavesW.app (LeavesW.piece (hfl _ _ _ _ _ hf hy hk)) (ih _ _ hv (fun g hg => hr g (List.mem_cons_of_mem _ hg)))
        · cases h
    · cases h
theorem array_leavesW {cs : List Value} {ts : List TypeId} (N : Nat) (h : ∀ i, i < N → LeavesW enc P w base spare held S cs (i * ts.length) ts) : ∀ o, o ≤ N → LeavesW enc P w base spare held S cs ((N - o) * ts.length) (List.replicate o ts).flatten := by
  intro o
  induction o with
  | zero => intro _ i t hi; simp at hi
  | succ o ih =>
    intro ho
    rw [List.replicate_succ, List.flatten_cons]
    refine LeavesW.app (h _ (by omega)) ?_
    have := ih (by omega)
    rw [show (N - (o + 1)) * ts.length + ts.length = (N - o) * ts.length by rw [show N - o = (N - (o + 1)) + 1 by omega, Nat.add_mul, Nat.one_mul]]
    exact this
theorem trod_flatW (n : Nat) : ∀ (t : TypeId) (ts : List TypeId) (m : Nat) (cs : List Value) (x : DataW H × List MemPlace), flat P n t = some ts → DataW.trod enc P w base spare held m t cs = some x → (∀ k ∈ x.1.weights P t, S k) → LeavesW enc P w base spare held S cs 0 ts := by
  induction n with
  | zero => intro t ts m cs x h; cases h
  | succ n ih =>
    intro t ts m cs x h hx hk
    unfold flat at h
    split at h
    · rename_i fs hu
      obtain ⟨xs, n', _, rfl, hlen, hxl, hf⟩ := DataW.trod_struct hu hx
      refine fields_leavesW ih _ _ _ h (fun f hfm => ?_)
      obtain ⟨i, hi, rfl⟩ := List.getElem_of_mem hfm
      have hi' : i < fs.size := by simpa using hi
      have := hf i fs[i] (Array.getElem?_eq_getElem hi')
      rw [List.getElem?_eq_getElem (show i < xs.length by omega)] at this
      refine ⟨n', _, by simpa using this, fun k hk' => hk k ?_⟩
      have h1 : (fs.toList.map (·.type))[i]? = some (fs.toList[i]).type := by rw [List.getElem?_map, List.getElem?_eq_getElem hi]; rfl
      have h2 : (xs.map (·.1))[i]? = some (xs[i]'(by omega)).1 := by rw [List.getElem?_map, List.getElem?_eq_getElem (show i < xs.length by omega)]; rfl
      simp only [DataW.weights, hu]
      exact DataW.weights_mem_each h1 h2 k hk'
    · rename_i N e hu
      cases he : flat P n e with
      | none => rw [he] at h; cases h
      | some us =>
        rw [he] at h
        simp only [Option.bind_some] at h
        split at h
        · rename_i hc
          cases h
          cases m with
          | zero => simp [DataW.trod] at hx
          | succ m =>
            unfold DataW.trod at hx
            rw [hu] at hx
            simp only at hx
            split at hx
            · cases hm : (List.range N).mapM (fun i => DataW.trod enc P w base spare held m e ((cs.drop (i * P.cellsOf e)).take (P.cellsOf e))) with
              | none => rw [hm] at hx; cases hx
              | some xs =>
                rw [hm] at hx
                simp only [Option.map_some, Option.some.injEq] at hx
                subst hx
                have := array_leavesW (enc := enc) (P := P) (w := w) (base := base) (spare := spare) (held := held) (S := S) (cs := cs) (ts := us) N (fun i hi => by
                  have hy := mapM_at hm i i (List.getElem?_range hi)
                  obtain ⟨y, hy'⟩ := mapM_get hm i (List.mem_range.2 hi)
                  rw [hy'] at hy
                  have hw : ∀ k ∈ y.1.weights P e, S k := fun k hk' => hk k (by
                    simp only [DataW.weights, hu]
                    exact weights_mem_all (j := i) (by rw [List.getElem?_map, ← hy]; rfl) k hk')
                  have := ih _ _ _ _ _ he hy' hw
                  rw [hc] at this
                  exact LeavesW.piece this) N (Nat.le_refl _)
                rwa [Nat.sub_self, Nat.zero_mul] at this
            · cases hx
        · cases h
    · rename_i u hs ha hu
      cases h
      obtain ⟨v, rfl⟩ := one_cell (fun fs hq => by rw [hu] at hq; cases hq; exact hs fs rfl) (fun N e hq => by rw [hu] at hq; cases hq; exact ha N e rfl) hx
      intro i t' hi
      match i, hi with
      | 0, hi =>
        simp at hi
        subst hi
        exact ⟨v, rfl, m, x, hx, hk⟩
    · cases h
/-- Numbers first, then others. -/
theorem LeavesW.ints_then {k : IntKind} {cs : List Value} {t : TypeId} {n : Nat} {us : List TypeId} (hu : P.underlying t = some (.int k)) (h : LeavesW enc P w base spare held S cs 0 (List.replicate n t ++ us)) :
    ∃ l : List Int, l.length = n ∧ cs = cellsI k l ++ cs.drop n ∧ LeavesW enc P w base spare held S (cs.drop n) 0 us := by
  have each : ∀ i, i < n → ∃ x : Int, cs[i]? = some (.int k x) := by
    intro i hi
    obtain ⟨v, hv, hr⟩ := h i t (by rw [List.getElem?_append_left (by simpa using hi)]; simp [hi])
    obtain ⟨x, rfl, _⟩ := hr.plain.int hu
    exact ⟨x, by rw [Nat.zero_add] at hv; exact hv⟩
  obtain ⟨f, hf⟩ := choose_lt each
  refine ⟨(List.range n).map f, by simp, ?_, fun i t' hi => ?_⟩
  · refine List.ext_getElem? fun i => ?_
    by_cases hi : i < n
    · rw [List.getElem?_append_left (by simpa [cellsI] using hi), cellsI_get k _ i (by simpa using hi), hf i hi]
      simp [List.getD_eq_getElem?_getD, hi]
    · rw [List.getElem?_append_right (by simp [cellsI]; omega), List.getElem?_drop]
      congr 1
      simp [cellsI]
      omega
  · obtain ⟨v, hv, hr⟩ := h (n + i) t' (by rw [List.getElem?_append_right (by simp)]; simpa using hi)
    exact ⟨v, by rw [Nat.zero_add, List.getElem?_drop]; rw [Nat.zero_add] at hv; exact hv, hr⟩
/-- Bytes, and how many there may be. -/
theorem ReadsW.ints {t e : TypeId} {k : IntKind} {v : Value} {B : Nat} (hu : P.underlying t = some (.slice e)) (he : P.underlying e = some (.int k)) (hc : P.cellsOf e = 1) (hb : P.bytesOf e = 1) (h : ReadsW enc P w 0 (fun _ => true) held (· ≤ B) t v) :
    ∃ (a : Option Addr) (cap : Nat) (l : List Int), v = .slice a l.length cap ∧ l.length ≤ cap ∧ cap ≤ maxLen ∧ (∀ n ∈ l, (Lit.int k n).wf = true) ∧ IntsAt k w a l ∧ cap ≤ B ∧ (a = none → cap = 0) := by
  have h' := h
  obtain ⟨a, cap, l, rfl, h1, h2, h3, h4⟩ := h.plain.ints hu he hc
  refine ⟨a, cap, l, rfl, h1, h2, h3, h4, ?_⟩
  obtain ⟨m, y, hf, hk⟩ := h'
  rcases open_ints hu he hc hf with ⟨hcs, _⟩ | ⟨x, len, cap', zs, hcs, _, hl, hm, hz, hd, _, _⟩
  · simp at hcs
    obtain ⟨rfl, -, rfl⟩ := hcs
    exact ⟨Nat.zero_le _, fun _ => rfl⟩
  · simp at hcs
    obtain ⟨rfl, rfl, rfl⟩ := hcs
    simp at hz
    refine ⟨?_, fun e => (by cases e)⟩
    have := hk (((lits (H := H) k (zs.take l.length)).length + (lits (H := H) k (zs.drop l.length)).length) * P.bytesOf e) (by
      rw [hd]
      simp only [DataW.weights, hu]
      exact List.mem_cons_self ..)
    rw [hb] at this
    simp [lits] at this
    omega
/-- A slice of elements that are taken apart into cells. -/
theorem open_rowsW {t e : TypeId} {n base : Nat} {ts : List TypeId} {v : Value} {spare : Nat → Bool} {held : Bool} (ht : P.underlying t = some (.slice e)) (hf : flat P n e = some ts) (hc : P.cellsOf e = ts.length) (hp : 0 < ts.length)
    (h : ReadsW enc P w base spare held S t v) :
    ∃ (a : Option Addr) (len cap : Nat), v = .slice a len cap ∧ len ≤ cap ∧ cap ≤ maxLen ∧ (len = 0 ∨ ∃ b off, a = some ⟨b, off, none⟩ ∧ ∀ i, i < len → ∃ cs : List Value, cs.length = ts.length ∧
      (∀ j, j < ts.length → w.cell? ⟨b, off + i * ts.length + j, none⟩ = cs[j]?) ∧ LeavesW enc P w base spare held S cs 0 ts) := by
  obtain ⟨fuel, y, hx, hk⟩ := h
  rcases Go.Deep.open_slice ht hx with ⟨hcs, _⟩ | ⟨x, len, cap, m, n', D, Pl, hcs, _, hl, hm, hmm, hd, hi⟩
  · simp at hcs
    exact ⟨none, 0, 0, hcs, Nat.le_refl _, Nat.zero_le _, Or.inl rfl⟩
  · simp at hcs
    refine ⟨some x, len, cap, hcs, hl, hm, ?_⟩
    have hlm : len ≤ m := by rw [hmm]; split <;> omega
    by_cases h0 : len = 0
    · exact Or.inl h0
    · right
      have sp : x.spot = none := by
        obtain ⟨cs, h1, _⟩ := hi 0 (by omega)
        rw [hc] at h1
        obtain ⟨_, hlen, hcell⟩ := World.cells?_some h1
        have := hcell 0 hp
        rw [List.getElem?_eq_getElem (by omega)] at this
        have := World.cell?_spot this
        simpa [Addr.add] using this
      obtain ⟨b, off, spot⟩ := x
      have sp' : spot = none := sp
      subst sp'
      refine ⟨b, off, rfl, fun i hil => ?_⟩
      obtain ⟨cs, h1, h2⟩ := hi i (by omega)
      rw [hc] at h1
      obtain ⟨_, hlen, hcell⟩ := World.cells?_some h1
      refine ⟨cs, hlen, fun j hj => ?_, trod_flatW n _ _ _ _ _ hf h2 (fun k hk' => hk k ?_)⟩
      · have := hcell j hj
        rw [add_plain, add_plain] at this
        exact this
      · rw [hd]
        simp only [DataW.weights, ht]
        refine List.mem_cons_of_mem _ (List.mem_append.2 (Or.inl ?_))
        exact weights_mem_all (j := i) (by rw [List.getElem?_map, List.getElem?_range hil]; rfl) k hk'
/-- A struct, by value: its cells. -/
theorem open_aggW {t : TypeId} {n b0 : Nat} {r : Reach} {ts : List TypeId} {v : Value} {d : DataW H} {p : List MemPlace} (hf : flat P n t = some ts) (hc : P.cellsOf t = ts.length)
    (hu : ∃ fs, P.underlying t = some (.struct fs)) (hv : Value.okWide P w r b0 t v) (h : DataW.Trod enc P w base spare held t v d p) (hk : ∀ k ∈ d.weights P t, S k) :
    ∃ cs : List Value, v = .agg cs.toArray ∧ cs.length = ts.length ∧ LeavesW enc P w base spare held S cs 0 ts := by
  obtain ⟨cs, rfl, hsz⟩ : ∃ cs, v = .agg cs ∧ cs.size = P.cellsOf t := by
    obtain ⟨fs, hu⟩ := hu
    simp only [Value.okWide, hu] at hv; obtain ⟨cs, h1, h2, _⟩ := hv; exact ⟨cs, h1, h2⟩
  obtain ⟨fuel, hx⟩ := h
  exact ⟨cs.toList, rfl, by rw [Array.length_toList]; omega, trod_flatW n _ _ _ _ _ hf hx hk⟩
end
end Fl
end Go.Proofs.Ytpamegkbhdbheaa
