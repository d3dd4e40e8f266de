/-
 A region that draws its order and ends with what all else goes ahead of: the head reads and calls, and what it calls may lay new blocks (whatever class of worlds is given); it is walked once, in the order of the text; the tail may write. No function of the program is walked here. No conditions.
-/
import Derived.Test.YticidhbnljdidaaGreatDoorTail
import Derived.Lib.QuietBelow
namespace Go.Proofs.YticidhbnljdidaaGreatDoor
set_option maxRecDepth 100000
open Go.ChangeShapes Go.WideShapes Go.ChangeAt Go.RowKit Go.Deep
namespace TailC
section
variable {P : Program} {md : Region.Mode} {C : World → Prop}
def lowB (md : Region.Mode) (hd : List Oper) : Bool :=
 hd.zipIdx.all fun q => (q.1.after.all fun e => !Region.binds md e || decide (e.on < q.2)) && (match q.1.guard with | some (g,_) => decide (g < q.2) | none => true)
theorem any_more {ops : Array Oper} {Q : Exit → Act → World → Prop} : ∀ (f : Nat) (listed : Array Bool) (a : Act) (w : World),wpAny P md ops Q f listed a w → wpAny P md ops Q (f + 1) listed a w
 | 0,_,_,_,h => ⟨fun _ => h.2,fun i hi => by rw [h.1] at hi; cases hi⟩
 | f + 1,_,_,_,h => ⟨h.1,fun i hi => wpOp_mono (fun a' w' h' => any_more f _ a' w' h') (h.2 i hi)⟩
theorem any_more_by {ops : Array Oper} {Q : Exit → Act → World → Prop} {f : Nat} {listed : Array Bool} {a : Act} {w : World} (h : wpAny P md ops Q f listed a w) : ∀ k,wpAny P md ops Q (k + f) listed a w
 | 0 => by rwa [Nat.zero_add]
 | k + 1 => by rw [show k + 1 + f = (k + f) + 1 by omega]; exact any_more _ _ _ _ (any_more_by h k)
variable {l : List Oper} {n : Nat}
theorem hd_at {i : Nat} (hi : i < n) : (l.take n).toArray[i]? = l.toArray[i]? := by simp [List.getElem?_take_of_lt hi]
theorem hd_lt {i : Nat} {o : Oper} (h : (l.take n).toArray[i]? = some o) : i < n := by
 rcases Nat.lt_or_ge i n with q | q
 · exact q
 · simp [List.getElem?_take,Nat.not_lt.2 q] at h
theorem low_at (h : lowB md (l.take n) = true) {i : Nat} {o : Oper} (ho : (l.take n).toArray[i]? = some o) :
 (∀ e ∈ o.after,Region.binds md e = true → e.on < i) ∧ ∀ g b,o.guard = some (g,b) → g < i := by
 have h1 := List.all_eq_true.1 h (o,i) (by rw [List.mem_zipIdx_iff_getElem?]; simpa using ho)
 simp only [Bool.and_eq_true] at h1
 refine ⟨fun e he hb => ?_,fun g b hg => ?_⟩
 · have := Array.all_eq_true_iff_forall_mem.1 h1.1 e he
   simpa [hb] using this
 · have := h1.2
   rw [hg] at this
   simpa using this
theorem wanted_hd (h : lowB md (l.take n) = true) {i : Nat} {o : Oper} (ho : (l.take n).toArray[i]? = some o) (tmps : Array Value) :
 Region.wanted o (yielded (l.take n).toArray tmps) = Region.wanted o (yielded l.toArray tmps) := by
 have hi := hd_lt ho
 have hg := (low_at h ho).2
 unfold Region.wanted
 split
 · rfl
 · rename_i g b hq
   unfold yielded
   rw [hd_at (show g < n by have := hg g b hq; omega)]
def Same (n : Nat) (hl listed : Array Bool) : Prop := hl.size = n ∧ ∀ j x,j < n → hl.getD j x = listed.getD j x
theorem Same.set {hl listed : Array Bool} (h : Same n hl listed) (hs : n ≤ listed.size) (i : Nat) : Same n (hl.setIfInBounds i true) (listed.setIfInBounds i true) := by
 refine ⟨by simp [h.1],fun j x hj => ?_⟩
 by_cases hij : i = j
 · subst hij
   have h1 : i < hl.size := by rw [h.1]; exact hj
   have h2 : i < listed.size := by omega
   simp [h1,h2]
 · rw [getD_set_ne x hij,getD_set_ne x hij]; exact h.2 j x hj
theorem ready_to (hlow : lowB md (l.take n) = true) {hl listed : Array Bool} (h : Same n hl listed) {i : Nat} (hi : i < n) (hr : i ∈ Region.ready md l.toArray listed) : i ∈ Region.ready md (l.take n).toArray hl := by
 obtain ⟨h1,o,ho,h2⟩ := mem_ready.1 hr
 have ho' : (l.take n).toArray[i]? = some o := (hd_at hi).trans ho
 exact mem_ready.2 ⟨by rw [h.2 i true hi]; exact h1,o,ho',fun e he hb => by rw [h.2 e.on false (by have := (low_at hlow ho').1 e he hb; omega)]; exact h2 e he hb⟩
theorem ready_of (hlow : lowB md (l.take n) = true) {hl listed : Array Bool} (h : Same n hl listed) {i : Nat} (hi : i < n) (hr : i ∈ Region.ready md (l.take n).toArray hl) : i ∈ Region.ready md l.toArray listed := by
 obtain ⟨h1,o,ho,h2⟩ := mem_ready.1 hr
 exact mem_ready.2 ⟨by rw [← h.2 i true hi]; exact h1,o,(hd_at hi).symm.trans ho,fun e he hb => by rw [← h.2 e.on false (by have := (low_at hlow ho).1 e he hb; omega)]; exact h2 e he hb⟩
theorem some_ready (hlow : lowB md (l.take n) = true) (hn : n < l.length) {hl : Array Bool} (hs : hl.size = n) : ∀ i,i < n → hl.getD i true = false → Region.ready md (l.take n).toArray hl ≠ [] := by
 intro i
 induction i using Nat.strongRecOn with
 | _ i ih =>
   intro hi hun
   obtain ⟨o,ho⟩ : ∃ o,(l.take n).toArray[i]? = some o := ⟨l[i]'(by omega),by rw [hd_at hi]; simp⟩
   by_cases hall : ∀ e ∈ o.after,Region.binds md e = true → hl.getD e.on false = true
   · intro h0
     have := mem_ready.2 ⟨hun,o,ho,hall⟩
     rw [h0] at this; cases this
   · obtain ⟨e,h1⟩ := Classical.not_forall.1 hall
     obtain ⟨he,h2⟩ := Classical.not_forall.1 h1
     obtain ⟨hb,hne⟩ := Classical.not_forall.1 h2
     have hlt := (low_at hlow ho).1 e he hb
     refine ih e.on hlt (by omega) (getD_in (by omega) ?_)
     simpa using hne
end
end TailC
end Go.Proofs.YticidhbnljdidaaGreatDoor
