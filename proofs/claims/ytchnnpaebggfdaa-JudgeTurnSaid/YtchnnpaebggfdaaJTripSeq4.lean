/-
  A range over a function whose iterator keeps what is still to come in a cell of its own, and writes it between two rounds. No function of the program is walked here. No conditions beyond those said.
  A range over a function whose iterator may run ranges of its own, and call the loop's body within their rounds. No function of the program is walked here. No conditions beyond those said.
  A range over a function whose loop variable lies in a box of its own: the round begins with making it. No function of the program is walked here. No conditions beyond those said.
  A range over a function whose iterator writes cells of its own between two rounds, and tells each round that the world has grown to a size. The round may begin with making a box. No function of the program is walked here. No conditions beyond those said.
-/
import Derived.RangeFuncNested
import Derived.RangeFuncWrites
import Derived.RangeFuncBound
import Derived.RangeFuncCalls
import Derived.RangeFuncLeaves
import Derived.Below
import Derived.Test.YtchnnpaebggfdaaJAgg4
namespace Go.Proofs.Ytchnnpaebggfdaa
set_option maxRecDepth 100000
open Go.ChangeShapes Go.WideShapes Go.ChangeAt Go.RowKit Go.Deep
namespace Sq
variable {F : Fence} {n : Nat} {P : Program}
theorem turned {W : World} {k : Nat} {o o' : Obj} (h : W.heap[k]? = some o) : (W.putObj k o').heap[k]? = some o' := World.putObj_heap_same (Array.getElem?_eq_some_iff.1 h).1
end Sq
end Go.Proofs.Ytchnnpaebggfdaa

namespace Go.Proofs.Ytchnnpaebggfdaa
set_option maxRecDepth 100000
open Go.ChangeShapes Go.WideShapes Go.ChangeAt Go.RowKit Go.Deep
namespace Rf
variable {F : Fence} {n : Nat} {P : Program}
/-- What such an iterator asks of the loop's body, and what it does: it is called in the world V, the loop's record lies in block l. Kp: what a round must leave as it is, however it is left; G: what the iterator says of what comes. -/
def Goes {α : Type} (F : Fence) (n : Nat) (P : Program) (g : Nat) (lb : Array Value) (encs : α → Array Value) (Kp : World → World → Prop) (S Sp : List α → Prop) (N : Nat) (G : List α → α → Prop) (l : Nat) (V : World) : Prop :=
  ∀ (J Jx : List α → World → Prop), OwnFrom V.heap.size J → OwnFrom V.heap.size Jx →
    (∀ pre x X, J pre X → pre.length < N → G pre x → YieldAt F (n - 1) P l (encs x) X fun e X' =>
      (e = .returned (.bool true) ∧ J (pre ++ [x]) X' ∧ Kp X X') ∨ (e = .returned (.bool false) ∧ Jx (pre ++ [x]) X' ∧ Kp X X')) →
    J [] V → CallsIn F n P g (#[.func (.yield l) #[] #[]] ++ lb) V fun e W' => (∃ v, e = .returned v) ∧ ((∃ xs, S xs ∧ J xs W') ∨ ∃ pre, Sp pre ∧ Jx pre W')
/-- How the body of a round may be left. -/
def post {α : Type} (B : Nat) (Kp : World → World → Prop) (I : List α → World → Prop) (Ix : Code → List α → World → Prop) (xs : List α) (W : World) : Exit → Act → World → Prop
  | .normal, _, W' => KeepsFrom B W W' ∧ Kp W W' ∧ I xs W'
  | .ret, _, W' => KeepsFrom B W W' ∧ Kp W W' ∧ Ix .ret xs W'
  | .exit id, _, W' => KeepsFrom B W W' ∧ Kp W W' ∧ Ix (.exit id) xs W'
  | .goto t, _, W' => KeepsFrom B W W' ∧ Kp W W' ∧ Ix (.goto t) xs W'
  | .panic _, _, _ => False
  | .outgrown, _, _ => False
set_option maxHeartbeats 800000 in
theorem range_goes {α : Type} {g : Operand} {ps : Array Tmp} {assign body : Code} {Q : Exit → Act → World → Prop} {a : Act} {w : World}
    (hro : F.round = none) (h1 : 1 ≤ n) {gf : Nat} {lb : Array Value} (hg : a.eval g = .func (.func gf) #[] lb) (hF : F.fn gf) (eg : ∀ args w, (callFunc gf args).run P w = .ok (.enter gf args) w)
    {encs : α → Array Value} {Kp : World → World → Prop} {S Sp : List α → Prop} {N : Nat} {G : List α → α → Prop} (hseq : ∀ V, Below w.heap.size w V → V.heap.size = w.heap.size + 2 → Goes F (n - 1) P gf lb encs Kp S Sp N G (w.heap.size + 1) V)
    (hKt : ∀ {X Y Z : World}, Kp X Y → Kp Y Z → Kp X Z) (hKb : ∀ (X : World) (k : Nat) (o o' : Obj), w.heap.size ≤ k → k < w.heap.size + 2 → X.heap[k]? = some o → o.isCells = false → Kp X (X.putObj k o')) (hps : ∀ x, (encs x).size = ps.size)
    (I : List α → World → Prop) (Ix : Code → List α → World → Prop) (hI : OwnFrom w.heap.size I) (hIx : ∀ c, OwnFrom w.heap.size (Ix c)) (h0 : I [] w) (a₁ : α → Act)
    (hassign : ∀ (l : Nat) (x : α) (W : World) (K : Act → World → Prop), K (a₁ x) W →
      assign.wpIn (F.inRound l) (n - 1 - 1) P (Exit.then K (fun _ _ _ => False)) { tmps := (ps.zip (encs x)).foldl (fun t (p, v) => t.setIfInBounds p v) a.tmps, defers := [] } W)
    (hbody : ∀ (l : Nat) (pre : List α) (x : α) (W : World), I pre W → pre.length < N → G pre x → body.wpIn (F.inRound l) (n - 1 - 1) P (post w.heap.size Kp I Ix (pre ++ [x]) W) (a₁ x) W)
    (hdone : ∀ (D : Nat) (xs : List α) (W : World), w.heap.size ≤ D → S xs → I xs W → W.heap[D]? = some (.deferred (some [])) → Q .normal { a with defers := { target := .collected D, args := #[] } :: a.defers } W)
    (hstop : ∀ (D : Nat) (c : Code) (pre : List α) (W : World), w.heap.size ≤ D → Sp pre → Ix c pre W → W.heap[D]? = some (.deferred (some [])) → c.wpIn F n P Q { a with defers := { target := .collected D, args := #[] } :: a.defers } W) :
    (Code.rangeFunc g ps assign body).wpIn F n P Q a w := by
  refine wpIn_rangeFunc fun fn hfn => ?_
  rw [hro]
  obtain ⟨D, hD⟩ : ∃ D, D = w.heap.size := ⟨_, rfl⟩
  obtain ⟨rec, hrec⟩ : ∃ rec : LoopState → Option Code → Loop, rec = fun st pe => { state := st, pending := pe, fn, tmps := a.tmps, params := ps, assign, body, defers := D } := ⟨_, rfl⟩
  have eq1 (st : LoopState) (pe : Option Code) : rec st pe = { state := st, pending := pe, fn, tmps := a.tmps, params := ps, assign, body, defers := D } := by rw [hrec]
  obtain ⟨V, hV⟩ : ∃ V, V = (w.alloc (.deferred (some []))).alloc (.loop (rec .ready none)) := ⟨_, rfl⟩
  have vL : V.heap[D + 1]? = some (.loop (rec .ready none)) := by
    rw [hV, hD, show w.heap.size + 1 = (w.alloc (.deferred (some []))).heap.size by simp]; exact World.alloc_heap_new _ _
  have vD : V.heap[D]? = some (.deferred (some [])) := by
    rw [hV, hD]; exact (Below.heap_alloc _ _ _ (by simp)).trans (World.alloc_heap_new w _)
  have vI : I [] V := by rw [hV]; exact hI.alloc _ (hI.alloc _ h0)
  have vB : Below w.heap.size w V := by rw [hV]; exact ((Below.refl _ w).alloc (Nat.le_refl _) _).alloc (by simp) _
  have vS : V.heap.size = w.heap.size + 2 := by rw [hV]; simp
  refine ⟨D + 1, [{ target := .collected D, args := #[] }], V, { target := .fn (.func gf) lb, args := #[.func (.yield (D + 1)) #[] #[]] }, V, gf, #[.func (.yield (D + 1)) #[] #[]] ++ lb, V, ?_, ?_, ?_, ?_, fun _ => h1, ?_⟩
  · have := run_enterLoop_outer (P := P) (w := w) fn a.tmps ps assign body
    rw [hV, eq1, hD]; exact this
  · simp only [resolve, hg]
    simp [go_sem]
  · intro f hf
    simp [Target.leads] at hf
    subst hf; exact hF
  · simp [invoke, go_sem, eg]
  have put (X : World) (l k : Nat) (o : Obj) (hk : k ≠ l) : (X.putObj l o).heap[k]? = X.heap[k]? := World.putObj_heap_other hk
  have kept {A B : World} {row : Option Nat} {k : Nat} {o : Obj} (hg : A.grownBy B row) (hr : ∀ r, row = some r → V.heap.size ≤ r ∧ ∃ o : Obj, A.heap[r]? = some o ∧ o.isCells = false) (hk : k < D + 2) (h : A.heap[k]? = some o) : B.heap[k]? = some o :=
    (hg.block k (Array.getElem?_eq_some_iff.1 h).1 (fun e => by have := (hr k e.symm).1; omega)).trans h
  have low {A : World} {row : Option Nat} (hr : ∀ r, row = some r → V.heap.size ≤ r ∧ ∃ o : Obj, A.heap[r]? = some o ∧ o.isCells = false) : ∀ r, row = some r → w.heap.size ≤ r ∧ ∃ o : Obj, A.heap[r]? = some o ∧ o.isCells = false :=
    fun r e => ⟨by have := (hr r e).1; omega, (hr r e).2⟩
  have hs := hseq V vB vS
  rw [← hD] at hs
  refine (hs (fun pre X => I pre X ∧ X.heap[D + 1]? = some (.loop (rec .ready none)) ∧ X.heap[D]? = some (.deferred (some [])))
    (fun pre X => ∃ c, Ix c pre X ∧ X.heap[D + 1]? = some (.loop (rec .done (some c))) ∧ X.heap[D]? = some (.deferred (some [])))
    (fun s A B row hs hg hr => ⟨hI s A B row hs.1 hg (low hr), kept hg hr (by omega) hs.2.1, kept hg hr (by omega) hs.2.2⟩)
    (fun s A B row hs hg hr => by
      obtain ⟨c, hc, hl, hk⟩ := hs
      exact ⟨c, hIx c s A B row hc hg (low hr), kept hg hr (by omega) hl, kept hg hr (by omega) hk⟩) ?_ ⟨vI, vL, vD⟩).mono ?_
  · -- a round
    rintro pre x X ⟨hi, hl, hd⟩ hlen hG
    have hy := run_yield (P := P) (args := encs x) hl (by rw [eq1]; exact hps x)
    simp only [eq1] at hy
    refine ⟨fn, _, assign, body, hy, roundIn_of_wpIn hfn (hassign _ x X _ ⟨_, run_beginRound hl (by rw [eq1]), ?_⟩)⟩
    obtain ⟨X1, hX1⟩ : ∃ X1, X1 = X.putObj (D + 1) (.loop { rec .ready none with state := .busy }) := ⟨_, rfl⟩
    rw [← hX1]
    have l1 : X1.heap[D + 1]? = some (.loop { rec .ready none with state := .busy }) := by rw [hX1]; exact Sq.turned (W := X) hl
    have d1 : X1.heap[D]? = some (.deferred (some [])) := by rw [hX1]; exact (put _ _ _ _ (by omega)).trans hd
    have k1 : Kp X X1 := by rw [hX1]; exact hKb _ _ _ _ (by omega) (by omega) hl rfl
    have i1 : I pre X1 := by rw [hX1]; exact hI.putObj _ hi (by omega) hl rfl
    refine wpIn_mono (hbody _ pre x X1 i1 hlen hG) ?_
    have fin (j : Option Code) (Y : World) (h : KeepsFrom w.heap.size X1 Y) : (Instr.endRound (D + 1) j).run P Y = .ok (.bool j.isNone) (Y.putObj (D + 1) (.loop (rec (if j.isNone then .ready else .done) j))) ∧
        Y.heap[D + 1]? = some (.loop { rec .ready none with state := .busy }) ∧ (Y.putObj (D + 1) (.loop (rec (if j.isNone then .ready else .done) j))).heap[D + 1]? = some (.loop (rec (if j.isNone then .ready else .done) j)) ∧
        (Y.putObj (D + 1) (.loop (rec (if j.isNone then .ready else .done) j))).heap[D]? = some (.deferred (some [])) := by
      have y1 := h.same _ _ (by omega) l1 rfl
      have y2 := run_endRound (P := P) j y1
      simp only [eq1] at y2 ⊢
      simp only [eq1] at y1
      exact ⟨y2, y1, Sq.turned (W := Y) y1, (put _ _ _ _ (by omega)).trans (h.same _ _ (by omega) d1 rfl)⟩
    have stop (c : Code) (Y : World) (h : KeepsFrom w.heap.size X1 Y) (hk : Kp X1 Y) (hx : Ix c (pre ++ [x]) Y) : ∃ v Z, (Instr.endRound (D + 1) (some c)).run P Y = .ok v Z ∧
        ((Ending.returned v = .returned (.bool true) ∧ (I (pre ++ [x]) Z ∧ Z.heap[D + 1]? = some (.loop (rec .ready none)) ∧ Z.heap[D]? = some (.deferred (some []))) ∧ Kp X Z) ∨
          (Ending.returned v = .returned (.bool false) ∧ (∃ c', Ix c' (pre ++ [x]) Z ∧ Z.heap[D + 1]? = some (.loop (rec .done (some c'))) ∧ Z.heap[D]? = some (.deferred (some []))) ∧ Kp X Z)) := by
      obtain ⟨f1, f2, f3, f4⟩ := fin (some c) Y h
      exact ⟨_, _, f1, .inr ⟨rfl, ⟨c, (hIx c).putObj _ hx (by omega) f2 rfl, f3, f4⟩, hKt (hKt k1 hk) (hKb _ _ _ _ (by omega) (by omega) f2 rfl)⟩⟩
    rintro e b Y hp
    cases e with
    | normal =>
      obtain ⟨p1, p2, p3⟩ := hp
      obtain ⟨f1, f2, f3, f4⟩ := fin none Y p1
      exact ⟨_, _, f1, .inl ⟨rfl, ⟨hI.putObj _ p3 (by omega) f2 rfl, f3, f4⟩, hKt (hKt k1 p2) (hKb _ _ _ _ (by omega) (by omega) f2 rfl)⟩⟩
    | ret => exact stop _ _ hp.1 hp.2.1 hp.2.2
    | exit id => exact stop _ _ hp.1 hp.2.1 hp.2.2
    | goto t => exact stop _ _ hp.1 hp.2.1 hp.2.2
    | panic ch => exact hp.elim
    | outgrown => exact hp.elim
  · -- behind the iterator
    rintro e X ⟨⟨v, rfl⟩, ⟨xs, hx, hi, hl, hd⟩ | ⟨pre, hp, c, hi, hl, hd⟩⟩
    · have := run_endLoop (P := P) hl (by rw [eq1]; simp)
      simp only [eq1] at this
      refine ⟨none, _, this, ?_⟩
      have := hdone D xs _ (by omega) hx (hI.putObj (.loop { rec .ready none with state := .exhausted }) hi (by omega) hl rfl) ((put _ _ _ _ (by omega)).trans hd)
      simpa only [eq1, List.cons_append, List.nil_append] using this
    · have := run_endLoop (P := P) hl (by rw [eq1]; simp)
      simp only [eq1] at this
      refine ⟨some c, _, this, ?_⟩
      have := hstop D c pre _ (by omega) hp ((hIx c).putObj (.loop { rec .done (some c) with state := .exhausted }) hi (by omega) hl rfl) ((put _ _ _ _ (by omega)).trans hd)
      simpa only [eq1, List.cons_append, List.nil_append] using this
/-! What a round leaves as it is: some cells, and whatever is no cells from B on. -/
def Kc (D : Addr → Prop) (B : Nat) (X Y : World) : Prop := (∀ p v, D p → X.cell? p = some v → Y.cell? p = some v) ∧ KeepsFrom B X Y
theorem Kc.trans {D : Addr → Prop} {B : Nat} {X Y Z : World} (h : Kc D B X Y) (k : Kc D B Y Z) : Kc D B X Z := ⟨fun p v hp q => k.1 p v hp (h.1 p v hp q), h.2.trans k.2⟩
theorem Kc.refl (D : Addr → Prop) (B : Nat) (X : World) : Kc D B X X := ⟨fun _ _ _ h => h, KeepsFrom.refl _ _⟩
theorem cells_of_cell {X : World} {p : Addr} {v : Value} (h : X.cell? p = some v) {o : Obj} (ho : X.heap[p.block]? = some o) : o.isCells = true := by
  unfold World.cell? at h
  rw [ho] at h
  cases o <;> simp_all [Obj.isCells]
theorem cell_blk {X : World} {p : Addr} {v : Value} (h : X.cell? p = some v) : p.block < X.heap.size := by
  rcases Nat.lt_or_ge p.block X.heap.size with q | q
  · exact q
  · unfold World.cell? at h
    rw [Array.getElem?_eq_none q] at h
    simp at h
theorem cell_turned {X Y : World} {S : Nat → Prop} (B : But S X Y) (hS : ∀ k, S k → ∃ o : Obj, X.heap[k]? = some o ∧ o.isCells = false) {p : Addr} {v : Value} (h : X.cell? p = some v) : Y.cell? p = some v :=
  (World.cell?_of_block (w := X) (a := p) (B.block p.block (cell_blk h) (fun q => by
    obtain ⟨o, h1, h2⟩ := hS _ q
    rw [cells_of_cell h h1] at h2; cases h2))).trans h
theorem but_grown {A B : World} {row : Option Nat} (hg : A.grownBy B row) : But (fun k => row = some k) A B :=
  ⟨hg.os, hg.tape, hg.output, hg.size, fun k hk hn => hg.block k hk (fun e => hn e.symm)⟩
theorem Kc.put {D : Addr → Prop} {B : Nat} {X : World} {k : Nat} {o o' : Obj} (hB : k < B) (h : X.heap[k]? = some o) (ho : o.isCells = false) : Kc D B X (X.putObj k o') :=
  ⟨fun p v _ q => cell_turned (but_grown (grownBy_putObj' X k o')) (fun j e => by cases e; exact ⟨o, h, ho⟩) q, KeepsFrom.of_grownBy (grownBy_putObj' X k o') (fun j e => by cases e; exact hB)⟩
theorem KeepsFrom.mono {B B' : Nat} {X Y : World} (h : KeepsFrom B X Y) (hB : B ≤ B') : KeepsFrom B' X Y := ⟨h.size, fun k o hk => h.same k o (by omega)⟩
/-- What lies in blocks of cells alone abides the turn of what is no cells. -/
theorem own_but {β : Type} {n₀ : Nat} {I : β → World → Prop} (h : ∀ s A B S, I s A → But S A B → (∀ k, S k → n₀ ≤ k ∧ ∃ o : Obj, A.heap[k]? = some o ∧ o.isCells = false) → I s B) : OwnFrom n₀ I :=
  fun s A B _ hs hg hr => h s A B _ hs (but_grown hg) (fun k e => hr k e)
theorem OwnFrom.mono {β : Type} {n₀ n₁ : Nat} {I : β → World → Prop} (h : OwnFrom n₀ I) (hn : n₀ ≤ n₁) : OwnFrom n₁ I :=
  fun s A B row hs hg hr => h s A B row hs hg (fun k e => ⟨by have := (hr k e).1; omega, (hr k e).2⟩)
theorem box_turned {X Y : World} {S : Nat → Prop} (B : But S X Y) (hS : ∀ k, S k → ∃ o : Obj, X.heap[k]? = some o ∧ o.isCells = false) {g : Nat} {t : TypeId} {cs : List Value} (h : VRow X g t cs) : VRow Y g t cs :=
  h.but B fun q => by
    obtain ⟨o, h1, h2⟩ := hS _ q
    unfold VRow at h; rw [h] at h1; cases h1; cases h2
theorem own_row {β : Type} (n₀ : Nat) (g : Nat) (t : TypeId) (cs : β → List Value) : OwnFrom n₀ fun s (W : World) => VRow W g t (cs s) :=
  own_but fun _ _ _ _ hs B hS => box_turned B (fun k q => (hS k q).2) hs
end Rf
end Go.Proofs.Ytchnnpaebggfdaa

namespace Go.Proofs.Ytchnnpaebggfdaa
set_option maxRecDepth 100000
open Go.ChangeShapes Go.WideShapes Go.ChangeAt Go.RowKit Go.Deep
namespace Rf
variable {F : Fence} {n : Nat} {P : Program}
end Rf
end Go.Proofs.Ytchnnpaebggfdaa

namespace Go.Proofs.Ytchnnpaebggfdaa
set_option maxRecDepth 100000
open Go.ChangeShapes Go.WideShapes Go.ChangeAt Go.RowKit Go.Deep
namespace Rf
variable {F : Fence} {n : Nat} {P : Program}
/-- It abides the turn of a block from B on that is no cells, or lies below M. -/
def OwnTo {β : Type} (B M : Nat) (I : β → World → Prop) : Prop :=
  ∀ s (W W' : World) row, I s W → W.grownBy W' row → (∀ r, row = some r → B ≤ r ∧ (r < M ∨ ∃ o : Obj, W.heap[r]? = some o ∧ o.isCells = false)) → I s W'
section
variable {β : Type} {B M : Nat} {I I' : β → World → Prop}
theorem OwnTo.from (h : OwnTo B M I) : OwnFrom B I := fun s W W' row hs hg hr => h s W W' row hs hg (fun r e => ⟨(hr r e).1, Or.inr (hr r e).2⟩)
theorem OwnTo.and (h : OwnTo B M I) (h' : OwnTo B M I') : OwnTo B M (fun s W => I s W ∧ I' s W) := fun s W W' row hs hg hr => ⟨h s W W' row hs.1 hg hr, h' s W W' row hs.2 hg hr⟩
theorem OwnTo.mono {B' : Nat} (h : OwnTo B M I) (hB : B ≤ B') : OwnTo B' M I := fun s W W' row hs hg hr => h s W W' row hs hg (fun r e => ⟨by have := (hr r e).1; omega, (hr r e).2⟩)
theorem ownTo_false : OwnTo B M (fun (_ : β) (_ : World) => False) := fun _ _ _ _ hs _ _ => hs
theorem ownTo_pure (p : β → Prop) : OwnTo B M (fun s (_ : World) => p s) := fun _ _ _ _ hs _ _ => hs
theorem ownTo_below {w₀ : World} {n₀ : Nat} (hn : n₀ ≤ w₀.heap.size) (hB : n₀ ≤ B) : OwnTo B M (fun (_ : β) W => Below n₀ w₀ W) :=
  fun _ _ _ _ hs hg hr => hs.grown hg (Nat.le_trans hn hs.size) (fun k e => by have := (hr k e).1; omega)
theorem row_to {g : Nat} {t : TypeId} {cs : List Value} {W W' : World} {row : Option Nat} (h : VRow W g t cs) (hg : W.grownBy W' row) (hne : g < B ∨ M ≤ g) (hr : ∀ r, row = some r → B ≤ r ∧ (r < M ∨ ∃ o : Obj, W.heap[r]? = some o ∧ o.isCells = false)) : VRow W' g t cs :=
  (hg.block g h.lt (fun e => by
    obtain ⟨h1, h2 | ⟨o, h2, h3⟩⟩ := hr g e.symm
    · omega
    · unfold VRow at h; rw [h] at h2; cases h2; cases h3)).trans h
theorem ownTo_row (g : Nat) (t : TypeId) (cs : β → List Value) (hne : g < B ∨ M ≤ g) : OwnTo B M (fun s (W : World) => VRow W g t (cs s)) := fun _ _ _ _ hs hg hr => row_to hs hg hne hr
theorem owns_to {base sz k : Nat} {te : TypeId} {v : Value} {xs : List Value} {W W' : World} {row : Option Nat} (h : W.ownsRow base te sz v k xs) (hb : M ≤ base) (hg : W.grownBy W' row) (hr : ∀ r, row = some r → B ≤ r ∧ (r < M ∨ ∃ o : Obj, W.heap[r]? = some o ∧ o.isCells = false)) : W'.ownsRow base te sz v k xs := by
  refine World.ownsRow.kept h hg ?_
  rcases h.2 with ⟨rfl, -⟩ | ⟨g, cap, cur, rfl, hbg, hh, -⟩
  · exact .inl rfl
  · refine .inr fun e => ?_
    obtain ⟨h1, h2 | ⟨o, h2, h3⟩⟩ := hr g (by simpa [Value.ownBlock] using e.symm)
    · omega
    · rw [hh] at h2; cases h2; cases h3
end
/-- What such an iterator asks of the loop's body, and what it does. -/
def GoesM {α : Type} (F : Fence) (n : Nat) (P : Program) (g : Nat) (lb : Array Value) (encs : α → Array Value) (Kp : World → World → Prop) (S Sp : List α → Prop) (N : Nat) (G : List α → α → Prop) (M : Nat) (l : Nat) (V : World) : Prop :=
  ∀ (J Jx : List α → World → Prop), OwnTo V.heap.size M J → OwnTo V.heap.size M Jx →
    (∀ pre x X, J pre X → pre.length < N → G pre x → M ≤ X.heap.size → YieldAt F (n - 1) P l (encs x) X fun e X' =>
      (e = .returned (.bool true) ∧ J (pre ++ [x]) X' ∧ Kp X X') ∨ (e = .returned (.bool false) ∧ Jx (pre ++ [x]) X' ∧ Kp X X')) →
    J [] V → CallsIn F n P g (#[.func (.yield l) #[] #[]] ++ lb) V fun e W' => (∃ v, e = .returned v) ∧ ((∃ xs, S xs ∧ J xs W') ∨ ∃ pre, Sp pre ∧ Jx pre W')
set_option maxHeartbeats 800000 in
theorem range_m {α : Type} {g : Operand} {ps : Array Tmp} {assign body : Code} {Q : Exit → Act → World → Prop} {a : Act} {w : World}
    (hro : F.round = none) (h1 : 1 ≤ n) {gf : Nat} {lb : Array Value} (hg : a.eval g = .func (.func gf) #[] lb) (hF : F.fn gf) (eg : ∀ args w, (callFunc gf args).run P w = .ok (.enter gf args) w)
    {encs : α → Array Value} {Kp : World → World → Prop} {S Sp : List α → Prop} {N : Nat} {G : List α → α → Prop} {M : Nat} (hseq : ∀ V, Below w.heap.size w V → V.heap.size = w.heap.size + 2 → GoesM F (n - 1) P gf lb encs Kp S Sp N G M (w.heap.size + 1) V)
    (hKt : ∀ {X Y Z : World}, Kp X Y → Kp Y Z → Kp X Z) (hKb : ∀ (X : World) (k : Nat) (o o' : Obj), w.heap.size ≤ k → k < w.heap.size + 2 → X.heap[k]? = some o → o.isCells = false → Kp X (X.putObj k o')) (hps : ∀ x, (encs x).size = ps.size)
    (I : List α → World → Prop) (Ix : Code → List α → World → Prop) (hI2 : OwnTo (w.heap.size + 2) M I) (hI : OwnFrom w.heap.size I) (hIx2 : ∀ c, OwnTo (w.heap.size + 2) M (Ix c)) (hIx : ∀ c, OwnFrom w.heap.size (Ix c)) (h0 : I [] w) (Ib : List α → α → Act → World → Prop)
    (hIb : ∀ pre x a' (A B : World) row, Ib pre x a' A → A.grownBy B row → (∀ r, row = some r → w.heap.size ≤ r ∧ ∃ o : Obj, A.heap[r]? = some o ∧ o.isCells = false) → Ib pre x a' B)
    (hassign : ∀ (l : Nat) (pre : List α) (x : α) (W : World), I pre W → pre.length < N → G pre x → M ≤ W.heap.size → ∃ a' W', W.grownBy W' none ∧ Kp W W' ∧ Ib pre x a' W' ∧ ∀ K : Act → World → Prop, K a' W' →
      assign.wpIn (F.inRound l) (n - 1 - 1) P (Exit.then K (fun _ _ _ => False)) { tmps := (ps.zip (encs x)).foldl (fun t (p, v) => t.setIfInBounds p v) a.tmps, defers := [] } W)
    (hbody : ∀ (l : Nat) (pre : List α) (x : α) (a' : Act) (W : World), Ib pre x a' W → pre.length < N → G pre x → M ≤ W.heap.size → body.wpIn (F.inRound l) (n - 1 - 1) P (post w.heap.size Kp I Ix (pre ++ [x]) W) a' W)
    (hdone : ∀ (D : Nat) (xs : List α) (W : World), w.heap.size ≤ D → S xs → I xs W → W.heap[D]? = some (.deferred (some [])) → Q .normal { a with defers := { target := .collected D, args := #[] } :: a.defers } W)
    (hstop : ∀ (D : Nat) (c : Code) (pre : List α) (W : World), w.heap.size ≤ D → Sp pre → Ix c pre W → W.heap[D]? = some (.deferred (some [])) → c.wpIn F n P Q { a with defers := { target := .collected D, args := #[] } :: a.defers } W) :
    (Code.rangeFunc g ps assign body).wpIn F n P Q a w := by
  refine wpIn_rangeFunc fun fn hfn => ?_
  rw [hro]
  obtain ⟨D, hD⟩ : ∃ D, D = w.heap.size := ⟨_, rfl⟩
  obtain ⟨rec, hrec⟩ : ∃ rec : LoopState → Option Code → Loop, rec = fun st pe => { state := st, pending := pe, fn, tmps := a.tmps, params := ps, assign, body, defers := D } := ⟨_, rfl⟩
  have eq1 (st : LoopState) (pe : Option Code) : rec st pe = { state := st, pending := pe, fn, tmps := a.tmps, params := ps, assign, body, defers := D } := by rw [hrec]
  obtain ⟨V, hV⟩ : ∃ V, V = (w.alloc (.deferred (some []))).alloc (.loop (rec .ready none)) := ⟨_, rfl⟩
  have vL : V.heap[D + 1]? = some (.loop (rec .ready none)) := by
    rw [hV, hD, show w.heap.size + 1 = (w.alloc (.deferred (some []))).heap.size by simp]; exact World.alloc_heap_new _ _
  have vD : V.heap[D]? = some (.deferred (some [])) := by
    rw [hV, hD]; exact (Below.heap_alloc _ _ _ (by simp)).trans (World.alloc_heap_new w _)
  have vI : I [] V := by rw [hV]; exact hI.alloc _ (hI.alloc _ h0)
  have vB : Below w.heap.size w V := by rw [hV]; exact ((Below.refl _ w).alloc (Nat.le_refl _) _).alloc (by simp) _
  have vS : V.heap.size = w.heap.size + 2 := by rw [hV]; simp
  refine ⟨D + 1, [{ target := .collected D, args := #[] }], V, { target := .fn (.func gf) lb, args := #[.func (.yield (D + 1)) #[] #[]] }, V, gf, #[.func (.yield (D + 1)) #[] #[]] ++ lb, V, ?_, ?_, ?_, ?_, fun _ => h1, ?_⟩
  · have := run_enterLoop_outer (P := P) (w := w) fn a.tmps ps assign body
    rw [hV, eq1, hD]; exact this
  · simp only [resolve, hg]
    simp [go_sem]
  · intro f hf
    simp [Target.leads] at hf
    subst hf; exact hF
  · simp [invoke, go_sem, eg]
  have put (X : World) (l k : Nat) (o : Obj) (hk : k ≠ l) : (X.putObj l o).heap[k]? = X.heap[k]? := World.putObj_heap_other hk
  have kept {A B : World} {row : Option Nat} {k : Nat} {o : Obj} (hg : A.grownBy B row) (hr : ∀ r, row = some r → V.heap.size ≤ r ∧ (r < M ∨ ∃ o : Obj, A.heap[r]? = some o ∧ o.isCells = false)) (hk : k < D + 2) (h : A.heap[k]? = some o) : B.heap[k]? = some o :=
    (hg.block k (Array.getElem?_eq_some_iff.1 h).1 (fun e => by have := (hr k e.symm).1; omega)).trans h
  have low {A : World} {row : Option Nat} (hr : ∀ r, row = some r → V.heap.size ≤ r ∧ (r < M ∨ ∃ o : Obj, A.heap[r]? = some o ∧ o.isCells = false)) : ∀ r, row = some r → w.heap.size + 2 ≤ r ∧ (r < M ∨ ∃ o : Obj, A.heap[r]? = some o ∧ o.isCells = false) :=
    fun r e => ⟨by have := (hr r e).1; omega, (hr r e).2⟩
  have hs := hseq V vB vS
  rw [← hD] at hs
  refine (hs (fun pre X => I pre X ∧ X.heap[D + 1]? = some (.loop (rec .ready none)) ∧ X.heap[D]? = some (.deferred (some [])))
    (fun pre X => ∃ c, Ix c pre X ∧ X.heap[D + 1]? = some (.loop (rec .done (some c))) ∧ X.heap[D]? = some (.deferred (some [])))
    (fun s A B row hs hg hr => ⟨hI2 s A B row hs.1 hg (low hr), kept hg hr (by omega) hs.2.1, kept hg hr (by omega) hs.2.2⟩)
    (fun s A B row hs hg hr => by
      obtain ⟨c, hc, hl, hk⟩ := hs
      exact ⟨c, hIx2 c s A B row hc hg (low hr), kept hg hr (by omega) hl, kept hg hr (by omega) hk⟩) ?_ ⟨vI, vL, vD⟩).mono ?_
  · -- a round
    rintro pre x X ⟨hi, hl, hd⟩ hlen hG hM
    have hy := run_yield (P := P) (args := encs x) hl (by rw [eq1]; exact hps x)
    simp only [eq1] at hy
    obtain ⟨a', X', g1, kp1, hib, hcont⟩ := hassign (D + 1) pre x X hi hlen hG hM
    have hl' : X'.heap[D + 1]? = some (.loop (rec .ready none)) := (g1.block _ (Array.getElem?_eq_some_iff.1 hl).1 (by simp)).trans hl
    have hd' : X'.heap[D]? = some (.deferred (some [])) := (g1.block _ (Array.getElem?_eq_some_iff.1 hd).1 (by simp)).trans hd
    refine ⟨fn, _, assign, body, hy, roundIn_of_wpIn hfn (hcont _ ⟨_, run_beginRound hl' (by rw [eq1]), ?_⟩)⟩
    obtain ⟨X1, hX1⟩ : ∃ X1, X1 = X'.putObj (D + 1) (.loop { rec .ready none with state := .busy }) := ⟨_, rfl⟩
    rw [← hX1]
    have l1 : X1.heap[D + 1]? = some (.loop { rec .ready none with state := .busy }) := by rw [hX1]; exact Sq.turned (W := X') hl'
    have d1 : X1.heap[D]? = some (.deferred (some [])) := by rw [hX1]; exact (put _ _ _ _ (by omega)).trans hd'
    have k1 : Kp X X1 := by rw [hX1]; exact hKt kp1 (hKb _ _ _ _ (by omega) (by omega) hl' rfl)
    have i1 : Ib pre x a' X1 := by rw [hX1]; exact hIb _ _ _ _ _ _ hib (grownBy_putObj' _ _ _) (fun r e => by cases e; exact ⟨by omega, _, hl', rfl⟩)
    refine wpIn_mono (hbody _ pre x a' X1 i1 hlen hG (by have h1 := g1.size; have h2 : X1.heap.size = X'.heap.size := (by rw [hX1]; simp [World.putObj]); omega)) ?_
    have fin (j : Option Code) (Y : World) (h : KeepsFrom w.heap.size X1 Y) : (Instr.endRound (D + 1) j).run P Y = .ok (.bool j.isNone) (Y.putObj (D + 1) (.loop (rec (if j.isNone then .ready else .done) j))) ∧
        Y.heap[D + 1]? = some (.loop { rec .ready none with state := .busy }) ∧ (Y.putObj (D + 1) (.loop (rec (if j.isNone then .ready else .done) j))).heap[D + 1]? = some (.loop (rec (if j.isNone then .ready else .done) j)) ∧
        (Y.putObj (D + 1) (.loop (rec (if j.isNone then .ready else .done) j))).heap[D]? = some (.deferred (some [])) := by
      have y1 := h.same _ _ (by omega) l1 rfl
      have y2 := run_endRound (P := P) j y1
      simp only [eq1] at y2 ⊢
      simp only [eq1] at y1
      exact ⟨y2, y1, Sq.turned (W := Y) y1, (put _ _ _ _ (by omega)).trans (h.same _ _ (by omega) d1 rfl)⟩
    have stop (c : Code) (Y : World) (h : KeepsFrom w.heap.size X1 Y) (hk : Kp X1 Y) (hx : Ix c (pre ++ [x]) Y) : ∃ v Z, (Instr.endRound (D + 1) (some c)).run P Y = .ok v Z ∧
        ((Ending.returned v = .returned (.bool true) ∧ (I (pre ++ [x]) Z ∧ Z.heap[D + 1]? = some (.loop (rec .ready none)) ∧ Z.heap[D]? = some (.deferred (some []))) ∧ Kp X Z) ∨
          (Ending.returned v = .returned (.bool false) ∧ (∃ c', Ix c' (pre ++ [x]) Z ∧ Z.heap[D + 1]? = some (.loop (rec .done (some c'))) ∧ Z.heap[D]? = some (.deferred (some []))) ∧ Kp X Z)) := by
      obtain ⟨f1, f2, f3, f4⟩ := fin (some c) Y h
      exact ⟨_, _, f1, .inr ⟨rfl, ⟨c, (hIx c).putObj _ hx (by omega) f2 rfl, f3, f4⟩, hKt (hKt k1 hk) (hKb _ _ _ _ (by omega) (by omega) f2 rfl)⟩⟩
    rintro e b Y hp
    cases e with
    | normal =>
      obtain ⟨p1, p2, p3⟩ := hp
      obtain ⟨f1, f2, f3, f4⟩ := fin none Y p1
      exact ⟨_, _, f1, .inl ⟨rfl, ⟨hI.putObj _ p3 (by omega) f2 rfl, f3, f4⟩, hKt (hKt k1 p2) (hKb _ _ _ _ (by omega) (by omega) f2 rfl)⟩⟩
    | ret => exact stop _ _ hp.1 hp.2.1 hp.2.2
    | exit id => exact stop _ _ hp.1 hp.2.1 hp.2.2
    | goto t => exact stop _ _ hp.1 hp.2.1 hp.2.2
    | panic ch => exact hp.elim
    | outgrown => exact hp.elim
  · -- behind the iterator
    rintro e X ⟨⟨v, rfl⟩, ⟨xs, hx, hi, hl, hd⟩ | ⟨pre, hp, c, hi, hl, hd⟩⟩
    · have := run_endLoop (P := P) hl (by rw [eq1]; simp)
      simp only [eq1] at this
      refine ⟨none, _, this, ?_⟩
      have := hdone D xs _ (by omega) hx (hI.putObj (.loop { rec .ready none with state := .exhausted }) hi (by omega) hl rfl) ((put _ _ _ _ (by omega)).trans hd)
      simpa only [eq1, List.cons_append, List.nil_append] using this
    · have := run_endLoop (P := P) hl (by rw [eq1]; simp)
      simp only [eq1] at this
      refine ⟨some c, _, this, ?_⟩
      have := hstop D c pre _ (by omega) hp ((hIx c).putObj (.loop { rec .done (some c) with state := .exhausted }) hi (by omega) hl rfl) ((put _ _ _ _ (by omega)).trans hd)
      simpa only [eq1, List.cons_append, List.nil_append] using this
end Rf
end Go.Proofs.Ytchnnpaebggfdaa
