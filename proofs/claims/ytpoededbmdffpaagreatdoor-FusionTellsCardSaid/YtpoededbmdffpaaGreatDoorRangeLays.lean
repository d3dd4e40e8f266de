/-
  A range over a function whose loop variable lies in a box of its own: the round begins with making it. No function of the program is walked here. No conditions beyond those said.
-/
import Derived.Test.YtpoededbmdffpaaGreatDoorSignalRange
namespace Go.Proofs.YtpoededbmdffpaaGreatDoor
set_option maxRecDepth 100000
open Go.ChangeShapes Go.WideShapes Go.ChangeAt Go.RowKit Go.Deep
namespace Rf
variable {F : Fence} {n : Nat} {P : Program}
set_option maxHeartbeats 800000 in
theorem range_lays {α : Type} {g : Operand} {ps : Array Tmp} {assign body : Code} {Q : Exit → Act → World → Prop} {a : Act} {w : World}
    (hro : F.round = none) (h1 : 1 ≤ n) {gf : Nat} {lb : Array Value} (hg : a.eval g = .func (.func gf) #[] lb) (hF : F.fn gf) (eg : ∀ args w, (callFunc gf args).run P w = .ok (.enter gf args) w)
    {encs : α → Array Value} {Kp : World → World → Prop} {S Sp : List α → Prop} {N : Nat} {G : List α → α → Prop} (hseq : ∀ V, Below w.heap.size w V → V.heap.size = w.heap.size + 2 → Goes F (n - 1) P gf lb encs Kp S Sp N G (w.heap.size + 1) V)
    (hKt : ∀ {X Y Z : World}, Kp X Y → Kp Y Z → Kp X Z) (hKb : ∀ (X : World) (k : Nat) (o o' : Obj), w.heap.size ≤ k → k < w.heap.size + 2 → X.heap[k]? = some o → o.isCells = false → Kp X (X.putObj k o')) (hps : ∀ x, (encs x).size = ps.size)
    (I : List α → World → Prop) (Ix : Code → List α → World → Prop) (hI : OwnFrom w.heap.size I) (hIx : ∀ c, OwnFrom w.heap.size (Ix c)) (h0 : I [] w) (Ib : List α → α → Act → World → Prop)
    (hIb : ∀ pre x a' (A B : World) row, Ib pre x a' A → A.grownBy B row → (∀ r, row = some r → w.heap.size ≤ r ∧ ∃ o : Obj, A.heap[r]? = some o ∧ o.isCells = false) → Ib pre x a' B)
    (hassign : ∀ (l : Nat) (pre : List α) (x : α) (W : World), I pre W → pre.length < N → G pre x → ∃ a' W', W.grownBy W' none ∧ Kp W W' ∧ Ib pre x a' W' ∧ ∀ K : Act → World → Prop, K a' W' →
      assign.wpIn (F.inRound l) (n - 1 - 1) P (Exit.then K (fun _ _ _ => False)) { tmps := (ps.zip (encs x)).foldl (fun t (p, v) => t.setIfInBounds p v) a.tmps, defers := [] } W)
    (hbody : ∀ (l : Nat) (pre : List α) (x : α) (a' : Act) (W : World), Ib pre x a' W → pre.length < N → G pre x → body.wpIn (F.inRound l) (n - 1 - 1) P (post w.heap.size Kp I Ix (pre ++ [x]) W) a' W)
    (hdone : ∀ (D : Nat) (xs : List α) (W : World), w.heap.size ≤ D → S xs → I xs W → W.heap[D]? = some (.deferred (some [])) → Q .normal { a with defers := { target := .collected D, args := #[] } :: a.defers } W)
    (hstop : ∀ (D : Nat) (c : Code) (pre : List α) (W : World), w.heap.size ≤ D → Sp pre → Ix c pre W → W.heap[D]? = some (.deferred (some [])) → c.wpIn F n P Q { a with defers := { target := .collected D, args := #[] } :: a.defers } W) :
    (Code.rangeFunc g ps assign body).wpIn F n P Q a w := by
  refine wpIn_rangeFunc fun fn hfn => ?_
  rw [hro]
  obtain ⟨D, hD⟩ : ∃ D, D = w.heap.size := ⟨_, rfl⟩
  obtain ⟨rec, hrec⟩ : ∃ rec : LoopState → Option Code → Loop, rec = fun st pe => { state := st, pending := pe, fn, tmps := a.tmps, params := ps, assign, body, defers := D } := ⟨_, rfl⟩
  have eq1 (st : LoopState) (pe : Option Code) : rec st pe = { state := st, pending := pe, fn, tmps := a.tmps, params := ps, assign, body, defers := D } := by rw [hrec]
  obtain ⟨V, hV⟩ : ∃ V, V = (w.alloc (.deferred (some []))).alloc (.loop (rec .ready none)) := ⟨_, rfl⟩
  have vL : V.heap[D + 1]? = some (.loop (rec .ready none)) := by
    rw [hV, hD, show w.heap.size + 1 = (w.alloc (.deferred (some []))).heap.size by simp]; exact World.alloc_heap_new _ _
  have vD : V.heap[D]? = some (.deferred (some [])) := by
    rw [hV, hD]; exact (Below.heap_alloc _ _ _ (by simp)).trans (World.alloc_heap_new w _)
  have vI : I [] V := by rw [hV]; exact hI.alloc _ (hI.alloc _ h0)
  have vB : Below w.heap.size w V := by rw [hV]; exact ((Below.refl _ w).alloc (Nat.le_refl _) _).alloc (by simp) _
  have vS : V.heap.size = w.heap.size + 2 := by rw [hV]; simp
  refine ⟨D + 1, [{ target := .collected D, args := #[] }], V, { target := .fn (.func gf) lb, args := #[.func (.yield (D + 1)) #[] #[]] }, V, gf, #[.func (.yield (D + 1)) #[] #[]] ++ lb, V, ?_, ?_, ?_, ?_, fun _ => h1, ?_⟩
  · have := run_enterLoop_outer (P := P) (w := w) fn a.tmps ps assign body
    rw [hV, eq1, hD]; exact this
  · simp only [resolve, hg]
    simp [go_sem]
  · intro f hf
    simp [Target.leads] at hf
    subst hf; exact hF
  · simp [invoke, go_sem, eg]
  have put (X : World) (l k : Nat) (o : Obj) (hk : k ≠ l) : (X.putObj l o).heap[k]? = X.heap[k]? := World.putObj_heap_other hk
  have kept {A B : World} {row : Option Nat} {k : Nat} {o : Obj} (hg : A.grownBy B row) (hr : ∀ r, row = some r → V.heap.size ≤ r ∧ ∃ o : Obj, A.heap[r]? = some o ∧ o.isCells = false) (hk : k < D + 2) (h : A.heap[k]? = some o) : B.heap[k]? = some o :=
    (hg.block k (Array.getElem?_eq_some_iff.1 h).1 (fun e => by have := (hr k e.symm).1; omega)).trans h
  have low {A : World} {row : Option Nat} (hr : ∀ r, row = some r → V.heap.size ≤ r ∧ ∃ o : Obj, A.heap[r]? = some o ∧ o.isCells = false) : ∀ r, row = some r → w.heap.size ≤ r ∧ ∃ o : Obj, A.heap[r]? = some o ∧ o.isCells = false :=
    fun r e => ⟨by have := (hr r e).1; omega, (hr r e).2⟩
  have hs := hseq V vB vS
  rw [← hD] at hs
  refine (hs (fun pre X => I pre X ∧ X.heap[D + 1]? = some (.loop (rec .ready none)) ∧ X.heap[D]? = some (.deferred (some [])))
    (fun pre X => ∃ c, Ix c pre X ∧ X.heap[D + 1]? = some (.loop (rec .done (some c))) ∧ X.heap[D]? = some (.deferred (some [])))
    (fun s A B row hs hg hr => ⟨hI s A B row hs.1 hg (low hr), kept hg hr (by omega) hs.2.1, kept hg hr (by omega) hs.2.2⟩)
    (fun s A B row hs hg hr => by
      obtain ⟨c, hc, hl, hk⟩ := hs
      exact ⟨c, hIx c s A B row hc hg (low hr), kept hg hr (by omega) hl, kept hg hr (by omega) hk⟩) ?_ ⟨vI, vL, vD⟩).mono ?_
  · -- a round
    rintro pre x X ⟨hi, hl, hd⟩ hlen hG
    have hy := run_yield (P := P) (args := encs x) hl (by rw [eq1]; exact hps x)
    simp only [eq1] at hy
    obtain ⟨a', X', g1, kp1, hib, hcont⟩ := hassign (D + 1) pre x X hi hlen hG
    have hl' : X'.heap[D + 1]? = some (.loop (rec .ready none)) := (g1.block _ (Array.getElem?_eq_some_iff.1 hl).1 (by simp)).trans hl
    have hd' : X'.heap[D]? = some (.deferred (some [])) := (g1.block _ (Array.getElem?_eq_some_iff.1 hd).1 (by simp)).trans hd
    refine ⟨fn, _, assign, body, hy, roundIn_of_wpIn hfn (hcont _ ⟨_, run_beginRound hl' (by rw [eq1]), ?_⟩)⟩
    obtain ⟨X1, hX1⟩ : ∃ X1, X1 = X'.putObj (D + 1) (.loop { rec .ready none with state := .busy }) := ⟨_, rfl⟩
    rw [← hX1]
    have l1 : X1.heap[D + 1]? = some (.loop { rec .ready none with state := .busy }) := by rw [hX1]; exact Sq.turned (W := X') hl'
    have d1 : X1.heap[D]? = some (.deferred (some [])) := by rw [hX1]; exact (put _ _ _ _ (by omega)).trans hd'
    have k1 : Kp X X1 := by rw [hX1]; exact hKt kp1 (hKb _ _ _ _ (by omega) (by omega) hl' rfl)
    have i1 : Ib pre x a' X1 := by rw [hX1]; exact hIb _ _ _ _ _ _ hib (grownBy_putObj' _ _ _) (fun r e => by cases e; exact ⟨by omega, _, hl', rfl⟩)
    refine wpIn_mono (hbody _ pre x a' X1 i1 hlen hG) ?_
    have fin (j : Option Code) (Y : World) (h : KeepsFrom w.heap.size X1 Y) : (Instr.endRound (D + 1) j).run P Y = .ok (.bool j.isNone) (Y.putObj (D + 1) (.loop (rec (if j.isNone then .ready else .done) j))) ∧
        Y.heap[D + 1]? = some (.loop { rec .ready none with state := .busy }) ∧ (Y.putObj (D + 1) (.loop (rec (if j.isNone then .ready else .done) j))).heap[D + 1]? = some (.loop (rec (if j.isNone then .ready else .done) j)) ∧
        (Y.putObj (D + 1) (.loop (rec (if j.isNone then .ready else .done) j))).heap[D]? = some (.deferred (some [])) := by
      have y1 := h.same _ _ (by omega) l1 rfl
      have y2 := run_endRound (P := P) j y1
      simp only [eq1] at y2 ⊢
      simp only [eq1] at y1
      exact ⟨y2, y1, Sq.turned (W := Y) y1, (put _ _ _ _ (by omega)).trans (h.same _ _ (by omega) d1 rfl)⟩
    have stop (c : Code) (Y : World) (h : KeepsFrom w.heap.size X1 Y) (hk : Kp X1 Y) (hx : Ix c (pre ++ [x]) Y) : ∃ v Z, (Instr.endRound (D + 1) (some c)).run P Y = .ok v Z ∧
        ((Ending.returned v = .returned (.bool true) ∧ (I (pre ++ [x]) Z ∧ Z.heap[D + 1]? = some (.loop (rec .ready none)) ∧ Z.heap[D]? = some (.deferred (some []))) ∧ Kp X Z) ∨
          (Ending.returned v = .returned (.bool false) ∧ (∃ c', Ix c' (pre ++ [x]) Z ∧ Z.heap[D + 1]? = some (.loop (rec .done (some c'))) ∧ Z.heap[D]? = some (.deferred (some []))) ∧ Kp X Z)) := by
      obtain ⟨f1, f2, f3, f4⟩ := fin (some c) Y h
      exact ⟨_, _, f1, .inr ⟨rfl, ⟨c, (hIx c).putObj _ hx (by omega) f2 rfl, f3, f4⟩, hKt (hKt k1 hk) (hKb _ _ _ _ (by omega) (by omega) f2 rfl)⟩⟩
    rintro e b Y hp
    cases e with
    | normal =>
      obtain ⟨p1, p2, p3⟩ := hp
      obtain ⟨f1, f2, f3, f4⟩ := fin none Y p1
      exact ⟨_, _, f1, .inl ⟨rfl, ⟨hI.putObj _ p3 (by omega) f2 rfl, f3, f4⟩, hKt (hKt k1 p2) (hKb _ _ _ _ (by omega) (by omega) f2 rfl)⟩⟩
    | ret => exact stop _ _ hp.1 hp.2.1 hp.2.2
    | exit id => exact stop _ _ hp.1 hp.2.1 hp.2.2
    | goto t => exact stop _ _ hp.1 hp.2.1 hp.2.2
    | panic ch => exact hp.elim
    | outgrown => exact hp.elim
  · -- behind the iterator
    rintro e X ⟨⟨v, rfl⟩, ⟨xs, hx, hi, hl, hd⟩ | ⟨pre, hp, c, hi, hl, hd⟩⟩
    · have := run_endLoop (P := P) hl (by rw [eq1]; simp)
      simp only [eq1] at this
      refine ⟨none, _, this, ?_⟩
      have := hdone D xs _ (by omega) hx (hI.putObj (.loop { rec .ready none with state := .exhausted }) hi (by omega) hl rfl) ((put _ _ _ _ (by omega)).trans hd)
      simpa only [eq1, List.cons_append, List.nil_append] using this
    · have := run_endLoop (P := P) hl (by rw [eq1]; simp)
      simp only [eq1] at this
      refine ⟨some c, _, this, ?_⟩
      have := hstop D c pre _ (by omega) hp ((hIx c).putObj (.loop { rec .done (some c) with state := .exhausted }) hi (by omega) hl rfl) ((put _ _ _ _ (by omega)).trans hd)
      simpa only [eq1, List.cons_append, List.nil_append] using this
end Rf
end Go.Proofs.YtpoededbmdffpaaGreatDoor
