/-
  A region that draws its order and ends with what all else goes ahead of: the head only reads, and is walked once, in the order of the text; the tail may write. No function of the program is walked here. No conditions.
  A region that draws its order and ends with what all else goes ahead of: the head reads and calls, and what it calls may lay new blocks (whatever class of worlds is given); it is walked once, in the order of the text; the tail may write. No function of the program is walked here. No conditions.
-/
import Derived.Test.YtpamegkbhdbheaaJAgg4
import Derived.StillTail
import Derived.BigQuiet
import Derived.Lib.QuietBelow
namespace Go.Proofs.Ytpamegkbhdbheaa
set_option maxRecDepth 100000
open Go.ChangeShapes Go.WideShapes Go.ChangeAt Go.RowKit Go.Deep
namespace Tail
section
variable {P : Program} {ops : Array Oper} {w : World}
/-- What is quiet where there is but one world, is still. -/
theorem still_of_quiet {o : Oper} {a : Act} {K K' : Act → Prop} (hk : ∀ a, K a → K' a) (h : o.quiet P a (fun w' => w' = w) K) : o.still P a w K' := by
  obtain ⟨v, h1, h2⟩ := h
  have h3 := h1 w rfl
  unfold Oper.quietAt at h3
  unfold Oper.still
  generalize (execOp a.eval o).run P w = r at *
  cases r with
  | ok n w' =>
    cases n <;> simp only [Oper.quietUpon] at h3 <;> simp only [Oper.stillUpon]
    case value u => exact ⟨h3.1, h3.2 ▸ hk _ h2⟩
    case skip => exact ⟨h3.1, h3.2 ▸ hk _ h2⟩
    case enter f args => exact ⟨h3.1, v, h3.2, hk _ h2⟩
  | halt x w' => simp only [Oper.quietUpon] at h3
theorem wpStill_of_quiet {Q : Act → Prop} : ∀ (l : List Oper) (a : Act), wpQuiet P ops (fun w' => w' = w) Q l a → wpStill P ops w Q l a
  | [], _, h => h
  | o :: l, a, h => by
    unfold wpQuiet at h
    unfold wpStill
    split
    · rename_i hw
      rw [if_pos hw] at h
      exact still_of_quiet (fun a' h' => wpStill_of_quiet l a' h') h
    · rename_i hw
      rw [if_neg hw] at h
      exact wpStill_of_quiet l _ h
theorem wp_region_quiet_tail {id : Nat} {Q : Exit → Act → World → Prop} {a : Act} {l : List Oper} (n : Nat) (hm : P.follows .mixedOrders = true) (hB : Region.lexTailB .any l.toArray n = true)
    (h : wpQuiet P l.toArray (fun w' => w' = w.drew) (fun a' => wpList P l.toArray Q (l.drop n) a' w.drew) (l.take n) a) : (Code.region id l.toArray true).wp P Q a w :=
  wp_region_still_tail n hm hB (wpStill_of_quiet _ _ h)
end
end Tail
end Go.Proofs.Ytpamegkbhdbheaa

namespace Go.Proofs.Ytpamegkbhdbheaa
set_option maxRecDepth 100000
open Go.ChangeShapes Go.WideShapes Go.ChangeAt Go.RowKit Go.Deep
namespace TailC
section
variable {P : Program} {md : Region.Mode} {C : World → Prop}

/-- The head's own operations wait for earlier ones alone, and are guarded by earlier ones alone. -/
def lowB (md : Region.Mode) (hd : List Oper) : Bool :=
  hd.zipIdx.all fun q => (q.1.after.all fun e => !Region.binds md e || decide (e.on < q.2)) && (match q.1.guard with | some (g, _) => decide (g < q.2) | none => true)
def headTailB (md : Region.Mode) (l : List Oper) (n : Nat) : Bool :=
  Region.lexB md (l.take n).toArray && decide (n < l.length) && Region.sinkB md l.toArray n && Region.chainB md l.toArray n && lowB md (l.take n) &&
  Region.seqB md l.toArray (l.length - n) n (List.replicate n true ++ List.replicate (l.length - n) false).toArray

/-- More turns than are needed do no harm. -/
theorem any_more {ops : Array Oper} {Q : Exit → Act → World → Prop} : ∀ (f : Nat) (listed : Array Bool) (a : Act) (w : World), wpAny P md ops Q f listed a w → wpAny P md ops Q (f + 1) listed a w
  | 0, _, _, _, h => ⟨fun _ => h.2, fun i hi => by rw [h.1] at hi; cases hi⟩
  | f + 1, _, _, _, h => ⟨h.1, fun i hi => wpOp_mono (fun a' w' h' => any_more f _ a' w' h') (h.2 i hi)⟩
theorem any_more_by {ops : Array Oper} {Q : Exit → Act → World → Prop} {f : Nat} {listed : Array Bool} {a : Act} {w : World} (h : wpAny P md ops Q f listed a w) : ∀ k, wpAny P md ops Q (k + f) listed a w
  | 0 => by rwa [Nat.zero_add]
  | k + 1 => by rw [show k + 1 + f = (k + f) + 1 by omega]; exact any_more _ _ _ _ (any_more_by h k)

variable {l : List Oper} {n : Nat}
theorem hd_at {i : Nat} (hi : i < n) : (l.take n).toArray[i]? = l.toArray[i]? := by simp [List.getElem?_take_of_lt hi]
theorem hd_lt {i : Nat} {o : Oper} (h : (l.take n).toArray[i]? = some o) : i < n := by
  rcases Nat.lt_or_ge i n with q | q
  · exact q
  · simp [List.getElem?_take, Nat.not_lt.2 q] at h
theorem low_at (h : lowB md (l.take n) = true) {i : Nat} {o : Oper} (ho : (l.take n).toArray[i]? = some o) :
    (∀ e ∈ o.after, Region.binds md e = true → e.on < i) ∧ ∀ g b, o.guard = some (g, b) → g < i := by
  have h1 := List.all_eq_true.1 h (o, i) (by rw [List.mem_zipIdx_iff_getElem?]; simpa using ho)
  simp only [Bool.and_eq_true] at h1
  refine ⟨fun e he hb => ?_, fun g b hg => ?_⟩
  · have := Array.all_eq_true_iff_forall_mem.1 h1.1 e he
    simpa [hb] using this
  · have := h1.2
    rw [hg] at this
    simpa using this

theorem wanted_hd (h : lowB md (l.take n) = true) {i : Nat} {o : Oper} (ho : (l.take n).toArray[i]? = some o) (tmps : Array Value) :
    Region.wanted o (yielded (l.take n).toArray tmps) = Region.wanted o (yielded l.toArray tmps) := by
  have hi := hd_lt ho
  have hg := (low_at h ho).2
  unfold Region.wanted
  split
  · rfl
  · rename_i g b hq
    unfold yielded
    rw [hd_at (show g < n by have := hg g b hq; omega)]

/-- The two lists of what has been carried out say the same of the head. -/
def Same (n : Nat) (hl listed : Array Bool) : Prop := hl.size = n ∧ ∀ j x, j < n → hl.getD j x = listed.getD j x
theorem Same.set {hl listed : Array Bool} (h : Same n hl listed) (hs : n ≤ listed.size) (i : Nat) : Same n (hl.setIfInBounds i true) (listed.setIfInBounds i true) := by
  refine ⟨by simp [h.1], fun j x hj => ?_⟩
  by_cases hij : i = j
  · subst hij
    have h1 : i < hl.size := by rw [h.1]; exact hj
    have h2 : i < listed.size := by omega
    simp [h1, h2]
  · rw [getD_set_ne x hij, getD_set_ne x hij]; exact h.2 j x hj

theorem ready_to (hlow : lowB md (l.take n) = true) {hl listed : Array Bool} (h : Same n hl listed) {i : Nat} (hi : i < n) (hr : i ∈ Region.ready md l.toArray listed) : i ∈ Region.ready md (l.take n).toArray hl := by
  obtain ⟨h1, o, ho, h2⟩ := mem_ready.1 hr
  have ho' : (l.take n).toArray[i]? = some o := (hd_at hi).trans ho
  exact mem_ready.2 ⟨by rw [h.2 i true hi]; exact h1, o, ho', fun e he hb => by rw [h.2 e.on false (by have := (low_at hlow ho').1 e he hb; omega)]; exact h2 e he hb⟩
theorem ready_of (hlow : lowB md (l.take n) = true) {hl listed : Array Bool} (h : Same n hl listed) {i : Nat} (hi : i < n) (hr : i ∈ Region.ready md (l.take n).toArray hl) : i ∈ Region.ready md l.toArray listed := by
  obtain ⟨h1, o, ho, h2⟩ := mem_ready.1 hr
  exact mem_ready.2 ⟨by rw [← h.2 i true hi]; exact h1, o, (hd_at hi).symm.trans ho, fun e he hb => by rw [← h.2 e.on false (by have := (low_at hlow ho).1 e he hb; omega)]; exact h2 e he hb⟩

/-- As long as something of the head is left, something of it is ready. -/
theorem some_ready (hlow : lowB md (l.take n) = true) (hn : n < l.length) {hl : Array Bool} (hs : hl.size = n) : ∀ i, i < n → hl.getD i true = false → Region.ready md (l.take n).toArray hl ≠ [] := by
  intro i
  induction i using Nat.strongRecOn with
  | _ i ih =>
    intro hi hun
    obtain ⟨o, ho⟩ : ∃ o, (l.take n).toArray[i]? = some o := ⟨l[i]'(by omega), by rw [hd_at hi]; simp⟩
    by_cases hall : ∀ e ∈ o.after, Region.binds md e = true → hl.getD e.on false = true
    · intro h0
      have := mem_ready.2 ⟨hun, o, ho, hall⟩
      rw [h0] at this; cases this
    · obtain ⟨e, h1⟩ := Classical.not_forall.1 hall
      obtain ⟨he, h2⟩ := Classical.not_forall.1 h1
      obtain ⟨hb, hne⟩ := Classical.not_forall.1 h2
      have hlt := (low_at hlow ho).1 e he hb
      refine ih e.on hlt (by omega) (getD_in (by omega) ?_)
      simpa using hne

theorem op_of_head (hlow : lowB md (l.take n) = true) {i : Nat} {Q' : Exit → Act → World → Prop} {K : Act → Prop} {K' : Act → World → Prop} {a : Act} {w : World} (hi : i < n) (hw : C w) (h : ∀ a w', C w' → K a → K' a w')
    (hh : qOp P (l.take n).toArray C i K a) : wpOp P l.toArray Q' i K' a w := by
  have h1 := wpOp_of_qOp (Q' := Q') hw h hh
  unfold wpOp at h1 ⊢
  rw [← hd_at hi]
  split
  · rename_i ho; simp only [ho] at h1; exact h1
  · rename_i o ho
    simp only [ho] at h1
    rw [← wanted_hd hlow ho]
    exact h1

theorem any_of_head {Q : Act → Prop} {Q' : Exit → Act → World → Prop} (hS : Region.sinkB md l.toArray n = true) (hCh : Region.chainB md l.toArray n = true) (hn : n < l.length) (hlow : lowB md (l.take n) = true)
    (hseq : Region.seqB md l.toArray (l.length - n) n (List.replicate n true ++ List.replicate (l.length - n) false).toArray = true) (hQ : ∀ a w, C w → Q a → wpList P l.toArray Q' (l.drop n) a w) :
    ∀ (f : Nat) (hl listed : Array Bool) (a : Act) (w : World), Same n hl listed → HeadInv md l.toArray n listed → C w → wpAnyQ P md (l.take n).toArray C Q f hl a → wpAny P md l.toArray Q' (f + (l.length - n)) listed a w := by
  have hsz : l.toArray.size = l.length := by simp
  have done : ∀ (hl listed : Array Bool) (a : Act) (w : World), Same n hl listed → HeadInv md l.toArray n listed → C w → Region.ready md (l.take n).toArray hl = [] → Q a → wpAny P md l.toArray Q' (l.length - n) listed a w := by
    intro hl listed a w hsm inv hw h0 hq
    have hall : ∀ i, i < n → listed.getD i true = true := fun i hi => by
      cases q : listed.getD i true with
      | true => rfl
      | false => exact absurd h0 (some_ready hlow hn hsm.1 i hi (by rw [hsm.2 i true hi]; exact q))
    have hls : listed.size = l.length := inv.size.trans hsz
    have he : listed = (List.replicate n true ++ List.replicate (l.length - n) false).toArray := by
      apply Array.ext_getElem?
      intro i
      by_cases h1 : i < l.length
      · have hx : listed[i]? = some (listed.getD i true) := by
          rw [Array.getElem?_eq_getElem (by omega)]; simp [hls, h1]
        rw [hx]
        by_cases h2 : i < n
        · rw [hall i h2]; simp [List.getElem?_append, h2]
        · rw [inv.tail i (by omega) (by omega)]; simp [List.getElem?_append, h2, List.getElem?_replicate]; omega
      · rw [Array.getElem?_eq_none (by omega)]; simp; omega
    rw [he]
    have := wpAny_of_seq (md := md) (Q' := Q') (l.drop n) n (List.replicate n true ++ List.replicate (l.length - n) false).toArray a w (fun j => by simp [List.getElem?_drop]) (by rw [List.length_drop]; exact hseq) (hQ a w hw hq)
    rwa [List.length_drop] at this
  intro f
  induction f with
  | zero =>
    intro hl listed a w hsm inv hw h
    rw [Nat.zero_add]
    exact done hl listed a w hsm inv hw h.1 h.2
  | succ f ih =>
    intro hl listed a w hsm inv hw h
    by_cases h0 : Region.ready md (l.take n).toArray hl = []
    · exact any_more_by (done hl listed a w hsm inv hw h0 (h.1 h0)) (f + 1)
    · obtain ⟨i0, hi0⟩ := List.exists_mem_of_ne_nil _ h0
      obtain ⟨hun0, o0, ho0, _⟩ := mem_ready.1 hi0
      have hi0n := hd_lt ho0
      rw [show f + 1 + (l.length - n) = (f + (l.length - n)) + 1 by omega]
      refine ⟨fun hr => ?_, fun i hi => ?_⟩
      · have := ready_of hlow hsm hi0n hi0
        rw [hr] at this; cases this
      · have hin : i < n := by
          rcases Nat.lt_or_ge i n with q | q
          · exact q
          · exact absurd hi (tail_waits hS hCh (by omega) inv _ i0 rfl hi0n (by rw [← hsm.2 i0 true hi0n]; exact hun0) i q)
        exact op_of_head hlow hin hw (fun a' w' hw' h' => ih _ _ a' w' (hsm.set (by rw [inv.size, hsz]; omega) i) (inv.set hi hin) hw' h') (h.2 i (ready_to hlow hsm hin hi))

theorem quiet_hd (hlow : lowB md (l.take n) = true) {Q : Act → Prop} : ∀ (r : List Oper) (k : Nat) (a : Act), (∀ j, r[j]? = (l.take n)[k + j]?) → wpQuiet P l.toArray C Q r a → wpQuiet P (l.take n).toArray C Q r a
  | [], _, _, _, h => h
  | o :: r, k, a, hr, h => by
    have h0 : (l.take n).toArray[k]? = some o := by simpa using (hr 0).symm
    have hr' : ∀ j, r[j]? = (l.take n)[k + 1 + j]? := fun j => by have := hr (j + 1); simpa [Nat.add_assoc, Nat.add_comm 1 j] using this
    unfold wpQuiet at h ⊢
    rw [wanted_hd hlow h0]
    split
    · rename_i hw
      rw [if_pos hw] at h
      exact Oper.quiet_mono (fun a' h' => quiet_hd hlow r (k + 1) a' hr' h') h
    · rename_i hw
      rw [if_neg hw] at h
      exact quiet_hd hlow r (k + 1) _ hr' h

theorem wp_region_class_tail {id : Nat} {Q : Exit → Act → World → Prop} {a : Act} {w : World} (n : Nat) (hm : P.follows .mixedOrders = true) (hB : headTailB .any l n = true) (hC : C { w with drawn := w.drawn + 1 })
    (h : wpQuiet P l.toArray C (fun a' => ∀ w', C w' → wpList P l.toArray Q (l.drop n) a' w') (l.take n) a) : (Code.region id l.toArray true).wp P Q a w := by
  simp only [headTailB, Bool.and_eq_true, decide_eq_true_eq] at hB
  obtain ⟨⟨⟨⟨⟨hlex, hn⟩, hS⟩, hCh⟩, hlow⟩, hseq⟩ := hB
  simp only [Region.lexB, Bool.and_eq_true] at hlex
  have htl : (l.take n).length = n := by rw [List.length_take]; omega
  have inv0 : HeadInv .any l.toArray n (Array.replicate l.toArray.size false) :=
    ⟨by simp, fun j oj _ hl => (by rw [getD_replicate_false] at hl; cases hl), fun t _ ht => getD_in (by simpa using ht) (getD_replicate_false _ _)⟩
  have hsm : Same n (Array.replicate n false) (Array.replicate l.toArray.size false) := ⟨by simp, fun j x hj => by
    have : j < l.length := by omega
    simp [hj, this]⟩
  have H := wpAnyQ_lex (C := C) (md := .any) hlex.1 (l.take n) 0 (Array.replicate (l.take n).toArray.size false) a (by simp) (by simpa using hlex.2) (quiet_hd hlow (l.take n) 0 a (by simp) h)
  rw [htl, show (l.take n).toArray.size = n by simp [htl]] at H
  have := any_of_head (Q' := Q) hS hCh hn hlow hseq (fun a' w' hw' hq => hq w' hw') n (Array.replicate n false) (Array.replicate l.toArray.size false) a { w with drawn := w.drawn + 1 } hsm inv0 hC H
  refine wp_region_any hm ?_
  rw [show n + (l.length - n) = l.toArray.size by simp; omega] at this
  exact this

/-- The class of worlds in which nothing that was there was written. -/
theorem wp_region_below_tail {id : Nat} {Q : Exit → Act → World → Prop} {a : Act} {w : World} (n : Nat) (hm : P.follows .mixedOrders = true) (hB : headTailB .any l n = true)
    (h : wpQuiet P l.toArray (fun w' => ∃ p : Regrown, w' = Sort.grow (redrawn w p.d) p.os) (fun a' => ∀ w', (∃ p : Regrown, w' = Sort.grow (redrawn w p.d) p.os) → wpList P l.toArray Q (l.drop n) a' w') (l.take n) a) : (Code.region id l.toArray true).wp P Q a w :=
  wp_region_class_tail (C := fun w' => ∃ p : Regrown, w' = Sort.grow (redrawn w p.d) p.os) n hm hB ⟨⟨w.drawn + 1, #[]⟩, by rw [Sort.grow_empty]; rfl⟩ h
end
end TailC
end Go.Proofs.Ytpamegkbhdbheaa
