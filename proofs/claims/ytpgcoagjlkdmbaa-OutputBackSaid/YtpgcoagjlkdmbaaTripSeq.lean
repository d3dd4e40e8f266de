/-
  A range over a function whose iterator keeps what is still to come in a cell of its own, and writes it between two rounds. No function of the program is walked here. No conditions beyond those said.
-/
import Derived.RangeFuncNested
import Derived.RangeFuncWrites
import Derived.RangeFuncBound
import Derived.RangeFuncCalls
import Derived.RangeFuncLeaves
import Derived.Below
import Derived.Test.YtpgcoagjlkdmbaaJAgg2
namespace Go.Proofs.Ytpgcoagjlkdmbaa
set_option maxRecDepth 100000
open Go.ChangeShapes Go.WideShapes Go.ChangeAt Go.RowKit Go.Deep
namespace Sq
variable {F : Fence} {n : Nat} {P : Program}

/-- What such an iterator asks of the loop's body, and what it does. B: the block of its cell; Kp: what a round must leave as it is. -/
def Sets {α : Type} (F : Fence) (n : Nat) (P : Program) (g : Nat) (lb : Array Value) (encs : α → Array Value) (B : Nat) (Kp : World → World → Prop) (S Sp : List α → Prop) (N : Nat) (w : World) : Prop :=
  ∀ (l : Nat) (J Jx : List α → World → Prop) (W : World), Kp w W → (∀ pre X v, J pre X → J pre (X.setCell ⟨B, 0, none⟩ v)) →
    (∀ pre x X, J pre X → pre.length < N → YieldAt F (n - 1) P l (encs x) X fun e X' =>
      (e = .returned (.bool true) ∧ J (pre ++ [x]) X' ∧ Kp X X') ∨ (e = .returned (.bool false) ∧ Jx (pre ++ [x]) X')) →
    J [] W → CallsIn F n P g (#[.func (.yield l) #[] #[]] ++ lb) W fun e W' => (∃ v, e = .returned v) ∧ ((∃ xs, S xs ∧ J xs W') ∨ ∃ pre, Sp pre ∧ Jx pre W')

theorem turned {W : World} {k : Nat} {o o' : Obj} (h : W.heap[k]? = some o) : (W.putObj k o').heap[k]? = some o' := World.putObj_heap_same (Array.getElem?_eq_some_iff.1 h).1

set_option maxHeartbeats 800000 in
theorem range_sets {α : Type} {g : Operand} {ps : Array Tmp} {assign body : Code} {Q : Exit → Act → World → Prop} {a : Act} {w : World}
    (hro : F.round = none) (h1 : 1 ≤ n) {gf : Nat} {lb : Array Value} (hg : a.eval g = .func (.func gf) #[] lb) (hF : F.fn gf) (eg : ∀ args w, (callFunc gf args).run P w = .ok (.enter gf args) w)
    {encs : α → Array Value} {B : Nat} {Kp : World → World → Prop} {S Sp : List α → Prop} {N : Nat} (hB : B < w.heap.size) (hseq : Sets F (n - 1) P gf lb encs B Kp S Sp N w)
    (hKt : ∀ {X Y Z : World}, Kp X Y → Kp Y Z → Kp X Z) (hKa : ∀ o o', Kp w ((w.alloc o).alloc o')) (hKb : ∀ (X : World) (l : Nat) (o : Obj), w.heap.size ≤ l → Kp X (X.putObj l o)) (hps : ∀ x, (encs x).size = ps.size)
    (I : List α → World → Prop) (Ix : Code → List α → World → Prop) (hI : OwnFrom w.heap.size I) (hIx : ∀ c, OwnFrom w.heap.size (Ix c)) (hs : ∀ pre X v, I pre X → I pre (X.setCell ⟨B, 0, none⟩ v)) (h0 : I [] w) (a₁ : α → Act)
    (hassign : ∀ (l : Nat) (x : α) (W : World) (K : Act → World → Prop), K (a₁ x) W →
      assign.wpIn (F.inRound l) (n - 1 - 1) P (Exit.then K (fun _ _ _ => False)) { tmps := (ps.zip (encs x)).foldl (fun t (p, v) => t.setIfInBounds p v) a.tmps, defers := [] } W)
    (hbody : ∀ (l : Nat) (pre : List α) (x : α) (W : World), I pre W → pre.length < N → body.wpIn (F.inRound l) (n - 1 - 1) P (ownPostG w.heap.size Kp I Ix (pre ++ [x]) W) (a₁ x) W)
    (hdone : ∀ (D : Nat) (xs : List α) (W : World), w.heap.size ≤ D → S xs → I xs W → W.heap[D]? = some (.deferred (some [])) → Q .normal { a with defers := { target := .collected D, args := #[] } :: a.defers } W)
    (hstop : ∀ (D : Nat) (c : Code) (pre : List α) (W : World), w.heap.size ≤ D → Sp pre → Ix c pre W → W.heap[D]? = some (.deferred (some [])) → c.wpIn F n P Q { a with defers := { target := .collected D, args := #[] } :: a.defers } W) :
    (Code.rangeFunc g ps assign body).wpIn F n P Q a w := by
  refine wpIn_rangeFunc fun fn hfn => ?_
  rw [hro]
  -- the loop's record, at block L; the rounds' deferred calls, at block D
  obtain ⟨D, hD⟩ : ∃ D, D = w.heap.size := ⟨_, rfl⟩
  obtain ⟨rec, hrec⟩ : ∃ rec : LoopState → Option Code → Loop, rec = fun st pe => { state := st, pending := pe, fn, tmps := a.tmps, params := ps, assign, body, defers := D } := ⟨_, rfl⟩
  have eq1 (st : LoopState) (pe : Option Code) : rec st pe = { state := st, pending := pe, fn, tmps := a.tmps, params := ps, assign, body, defers := D } := by rw [hrec]
  obtain ⟨V, hV⟩ : ∃ V, V = (w.alloc (.deferred (some []))).alloc (.loop (rec .ready none)) := ⟨_, rfl⟩
  have vL : V.heap[D + 1]? = some (.loop (rec .ready none)) := by
    rw [hV, hD, show w.heap.size + 1 = (w.alloc (.deferred (some []))).heap.size by simp]; exact World.alloc_heap_new _ _
  have vD : V.heap[D]? = some (.deferred (some [])) := by
    rw [hV, hD]; exact (Below.heap_alloc _ _ _ (by simp)).trans (World.alloc_heap_new w _)
  have vI : I [] V := by rw [hV]; exact hI.alloc _ (hI.alloc _ h0)
  refine ⟨D + 1, [{ target := .collected D, args := #[] }], V, { target := .fn (.func gf) lb, args := #[.func (.yield (D + 1)) #[] #[]] }, V, gf, #[.func (.yield (D + 1)) #[] #[]] ++ lb, V, ?_, ?_, ?_, ?_, fun _ => h1, ?_⟩
  · have := run_enterLoop_outer (P := P) (w := w) fn a.tmps ps assign body
    rw [hV, eq1, hD]; exact this
  · simp only [resolve, hg]
    simp [go_sem]
  · intro f hf
    simp [Target.leads] at hf
    subst hf; exact hF
  · simp [invoke, go_sem, eg]
  have other (X : World) (k : Nat) (v : Value) (hk : D ≤ k) : (X.setCell ⟨B, 0, none⟩ v).heap[k]? = X.heap[k]? := heap_setCell_other X ⟨B, 0, none⟩ k v (by show k ≠ B; omega)
  have put (X : World) (l k : Nat) (o : Obj) (hk : k ≠ l) : (X.putObj l o).heap[k]? = X.heap[k]? := World.putObj_heap_other hk
  refine (hseq (D + 1) (fun pre X => I pre X ∧ X.heap[D + 1]? = some (.loop (rec .ready none)) ∧ X.heap[D]? = some (.deferred (some [])))
    (fun pre X => ∃ c, Ix c pre X ∧ X.heap[D + 1]? = some (.loop (rec .done (some c))) ∧ X.heap[D]? = some (.deferred (some []))) V (by rw [hV]; exact hKa _ _)
    (fun pre X v h => ⟨hs pre X v h.1, (other X _ v (by omega)).trans h.2.1, (other X _ v (by omega)).trans h.2.2⟩) ?_ ⟨vI, vL, vD⟩).mono ?_
  · -- a round
    rintro pre x X ⟨hi, hl, hd⟩ hlen
    have hy := run_yield (P := P) (args := encs x) hl (by rw [eq1]; exact hps x)
    simp only [eq1] at hy
    refine ⟨fn, _, assign, body, hy, roundIn_of_wpIn hfn (hassign _ x X _ ⟨_, run_beginRound hl (by rw [eq1]), ?_⟩)⟩
    obtain ⟨X1, hX1⟩ : ∃ X1, X1 = X.putObj (D + 1) (.loop { rec .ready none with state := .busy }) := ⟨_, rfl⟩
    rw [← hX1]
    have l1 : X1.heap[D + 1]? = some (.loop { rec .ready none with state := .busy }) := by rw [hX1]; exact turned (W := X) hl
    have d1 : X1.heap[D]? = some (.deferred (some [])) := by rw [hX1]; exact (put _ _ _ _ (by omega)).trans hd
    have k1 : Kp X X1 := by rw [hX1]; exact hKb _ _ _ (by omega)
    have i1 : I pre X1 := by rw [hX1]; exact hI.putObj _ hi (by omega) hl rfl
    refine wpIn_mono (hbody _ pre x X1 i1 hlen) ?_
    have fin (j : Option Code) (Y : World) (h : KeepsFrom w.heap.size X1 Y) : (Instr.endRound (D + 1) j).run P Y = .ok (.bool j.isNone) (Y.putObj (D + 1) (.loop (rec (if j.isNone then .ready else .done) j))) ∧
        Y.heap[D + 1]? = some (.loop { rec .ready none with state := .busy }) ∧ (Y.putObj (D + 1) (.loop (rec (if j.isNone then .ready else .done) j))).heap[D + 1]? = some (.loop (rec (if j.isNone then .ready else .done) j)) ∧
        (Y.putObj (D + 1) (.loop (rec (if j.isNone then .ready else .done) j))).heap[D]? = some (.deferred (some [])) := by
      have y1 := h.same _ _ (by omega) l1 rfl
      have y2 := run_endRound (P := P) j y1
      simp only [eq1] at y2 ⊢
      simp only [eq1] at y1
      exact ⟨y2, y1, turned (W := Y) y1, (put _ _ _ _ (by omega)).trans (h.same _ _ (by omega) d1 rfl)⟩
    have stop (c : Code) (Y : World) (h : KeepsFrom w.heap.size X1 Y) (hx : Ix c (pre ++ [x]) Y) : ∃ v Z, (Instr.endRound (D + 1) (some c)).run P Y = .ok v Z ∧
        ((Ending.returned v = .returned (.bool true) ∧ (I (pre ++ [x]) Z ∧ Z.heap[D + 1]? = some (.loop (rec .ready none)) ∧ Z.heap[D]? = some (.deferred (some []))) ∧ Kp X Z) ∨
          (Ending.returned v = .returned (.bool false) ∧ ∃ c', Ix c' (pre ++ [x]) Z ∧ Z.heap[D + 1]? = some (.loop (rec .done (some c'))) ∧ Z.heap[D]? = some (.deferred (some [])))) := by
      obtain ⟨f1, f2, f3, f4⟩ := fin (some c) Y h
      exact ⟨_, _, f1, .inr ⟨rfl, c, (hIx c).putObj _ hx (by omega) f2 rfl, f3, f4⟩⟩
    rintro e b Y hp
    cases e with
    | normal =>
      obtain ⟨p1, p2, p3⟩ := hp
      obtain ⟨f1, f2, f3, f4⟩ := fin none Y p1
      exact ⟨_, _, f1, .inl ⟨rfl, ⟨hI.putObj _ p3 (by omega) f2 rfl, f3, f4⟩, hKt (hKt k1 p2) (hKb _ _ _ (by omega))⟩⟩
    | ret => exact stop _ _ hp.1 hp.2
    | exit id => exact stop _ _ hp.1 hp.2
    | goto t => exact stop _ _ hp.1 hp.2
    | panic ch => exact hp.elim
    | outgrown => exact hp.elim
  · -- behind the iterator
    rintro e X ⟨⟨v, rfl⟩, ⟨xs, hx, hi, hl, hd⟩ | ⟨pre, hp, c, hi, hl, hd⟩⟩
    · have := run_endLoop (P := P) hl (by rw [eq1]; simp)
      simp only [eq1] at this
      refine ⟨none, _, this, ?_⟩
      have := hdone D xs _ (by omega) hx (hI.putObj (.loop { rec .ready none with state := .exhausted }) hi (by omega) hl rfl) ((put _ _ _ _ (by omega)).trans hd)
      simpa only [eq1, List.cons_append, List.nil_append] using this
    · have := run_endLoop (P := P) hl (by rw [eq1]; simp)
      simp only [eq1] at this
      refine ⟨some c, _, this, ?_⟩
      have := hstop D c pre _ (by omega) hp ((hIx c).putObj (.loop { rec .done (some c) with state := .exhausted }) hi (by omega) hl rfl) ((put _ _ _ _ (by omega)).trans hd)
      simpa only [eq1, List.cons_append, List.nil_append] using this
end Sq
end Go.Proofs.Ytpgcoagjlkdmbaa
