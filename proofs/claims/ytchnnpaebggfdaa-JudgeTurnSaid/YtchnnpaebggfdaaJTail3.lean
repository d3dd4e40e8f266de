/-
  A region that draws its order and ends with what all else goes ahead of: the head only reads, and is walked once, in the order of the text; the tail may write. No function of the program is walked here. No conditions.
  A region that draws its order and ends with what all else goes ahead of: the head reads and calls, and what it calls may lay new blocks (whatever class of worlds is given); it is walked once, in the order of the text; the tail may write. No function of the program is walked here. No conditions.
  A region that draws its order and holds ONE store, or what else is done once to what the call itself holds ('x, y := f(g(), h())', x a struct in a box: the box is laid at any time, the store waits for all but what is taken out of the result later): whatever order is drawn, each place holds its own thing at the end. Behind the store only what looks at no memory may come up; then, one behind the other, the rest. No function of the program is walked here. No conditions beyond those said.
-/
import Derived.Test.YtchnnpaebggfdaaJAgg4
import Derived.StillTail
import Derived.BigQuiet
import Derived.Lib.QuietBelow
namespace Go.Proofs.Ytchnnpaebggfdaa
set_option maxRecDepth 100000
open Go.ChangeShapes Go.WideShapes Go.ChangeAt Go.RowKit Go.Deep
namespace Tail
section
variable {P : Program} {ops : Array Oper} {w : World}
/-- What is quiet where there is but one world, is still. -/
theorem still_of_quiet {o : Oper} {a : Act} {K K' : Act → Prop} (hk : ∀ a, K a → K' a) (h : o.quiet P a (fun w' => w' = w) K) : o.still P a w K' := by
  obtain ⟨v, h1, h2⟩ := h
  have h3 := h1 w rfl
  unfold Oper.quietAt at h3
  unfold Oper.still
  generalize (execOp a.eval o).run P w = r at *
  cases r with
  | ok n w' =>
    cases n <;> simp only [Oper.quietUpon] at h3 <;> simp only [Oper.stillUpon]
    case value u => exact ⟨h3.1, h3.2 ▸ hk _ h2⟩
    case skip => exact ⟨h3.1, h3.2 ▸ hk _ h2⟩
    case enter f args => exact ⟨h3.1, v, h3.2, hk _ h2⟩
  | halt x w' => simp only [Oper.quietUpon] at h3
theorem wpStill_of_quiet {Q : Act → Prop} : ∀ (l : List Oper) (a : Act), wpQuiet P ops (fun w' => w' = w) Q l a → wpStill P ops w Q l a
  | [], _, h => h
  | o :: l, a, h => by
    unfold wpQuiet at h
    unfold wpStill
    split
    · rename_i hw
      rw [if_pos hw] at h
      exact still_of_quiet (fun a' h' => wpStill_of_quiet l a' h') h
    · rename_i hw
      rw [if_neg hw] at h
      exact wpStill_of_quiet l _ h
theorem wp_region_quiet_tail {id : Nat} {Q : Exit → Act → World → Prop} {a : Act} {l : List Oper} (n : Nat) (hm : P.follows .mixedOrders = true) (hB : Region.lexTailB .any l.toArray n = true)
    (h : wpQuiet P l.toArray (fun w' => w' = w.drew) (fun a' => wpList P l.toArray Q (l.drop n) a' w.drew) (l.take n) a) : (Code.region id l.toArray true).wp P Q a w :=
  wp_region_still_tail n hm hB (wpStill_of_quiet _ _ h)
end
end Tail
end Go.Proofs.Ytchnnpaebggfdaa

namespace Go.Proofs.Ytchnnpaebggfdaa
set_option maxRecDepth 100000
open Go.ChangeShapes Go.WideShapes Go.ChangeAt Go.RowKit Go.Deep
namespace TailC
section
variable {P : Program} {md : Region.Mode} {C : World → Prop}
/-- The head's own operations wait for earlier ones alone, and are guarded by earlier ones alone. -/
def lowB (md : Region.Mode) (hd : List Oper) : Bool :=
  hd.zipIdx.all fun q => (q.1.after.all fun e => !Region.binds md e || decide (e.on < q.2)) && (match q.1.guard with | some (g, _) => decide (g < q.2) | none => true)
/-- More turns than are needed do no harm. -/
theorem any_more {ops : Array Oper} {Q : Exit → Act → World → Prop} : ∀ (f : Nat) (listed : Array Bool) (a : Act) (w : World), wpAny P md ops Q f listed a w → wpAny P md ops Q (f + 1) listed a w
  | 0, _, _, _, h => ⟨fun _ => h.2, fun i hi => by rw [h.1] at hi; cases hi⟩
  | f + 1, _, _, _, h => ⟨h.1, fun i hi => wpOp_mono (fun a' w' h' => any_more f _ a' w' h') (h.2 i hi)⟩
theorem any_more_by {ops : Array Oper} {Q : Exit → Act → World → Prop} {f : Nat} {listed : Array Bool} {a : Act} {w : World} (h : wpAny P md ops Q f listed a w) : ∀ k, wpAny P md ops Q (k + f) listed a w
  | 0 => by rwa [Nat.zero_add]
  | k + 1 => by rw [show k + 1 + f = (k + f) + 1 by omega]; exact any_more _ _ _ _ (any_more_by h k)
variable {l : List Oper} {n : Nat}
theorem hd_at {i : Nat} (hi : i < n) : (l.take n).toArray[i]? = l.toArray[i]? := by simp [List.getElem?_take_of_lt hi]
theorem hd_lt {i : Nat} {o : Oper} (h : (l.take n).toArray[i]? = some o) : i < n := by
  rcases Nat.lt_or_ge i n with q | q
  · exact q
  · simp [List.getElem?_take, Nat.not_lt.2 q] at h
theorem low_at (h : lowB md (l.take n) = true) {i : Nat} {o : Oper} (ho : (l.take n).toArray[i]? = some o) :
    (∀ e ∈ o.after, Region.binds md e = true → e.on < i) ∧ ∀ g b, o.guard = some (g, b) → g < i := by
  have h1 := List.all_eq_true.1 h (o, i) (by rw [List.mem_zipIdx_iff_getElem?]; simpa using ho)
  simp only [Bool.and_eq_true] at h1
  refine ⟨fun e he hb => ?_, fun g b hg => ?_⟩
  · have := Array.all_eq_true_iff_forall_mem.1 h1.1 e he
    simpa [hb] using this
  · have := h1.2
    rw [hg] at this
    simpa using this
theorem wanted_hd (h : lowB md (l.take n) = true) {i : Nat} {o : Oper} (ho : (l.take n).toArray[i]? = some o) (tmps : Array Value) :
    Region.wanted o (yielded (l.take n).toArray tmps) = Region.wanted o (yielded l.toArray tmps) := by
  have hi := hd_lt ho
  have hg := (low_at h ho).2
  unfold Region.wanted
  split
  · rfl
  · rename_i g b hq
    unfold yielded
    rw [hd_at (show g < n by have := hg g b hq; omega)]
/-- The two lists of what has been carried out say the same of the head. -/
def Same (n : Nat) (hl listed : Array Bool) : Prop := hl.size = n ∧ ∀ j x, j < n → hl.getD j x = listed.getD j x
theorem Same.set {hl listed : Array Bool} (h : Same n hl listed) (hs : n ≤ listed.size) (i : Nat) : Same n (hl.setIfInBounds i true) (listed.setIfInBounds i true) := by
  refine ⟨by simp [h.1], fun j x hj => ?_⟩
  by_cases hij : i = j
  · subst hij
    have h1 : i < hl.size := by rw [h.1]; exact hj
    have h2 : i < listed.size := by omega
    simp [h1, h2]
  · rw [getD_set_ne x hij, getD_set_ne x hij]; exact h.2 j x hj
theorem ready_to (hlow : lowB md (l.take n) = true) {hl listed : Array Bool} (h : Same n hl listed) {i : Nat} (hi : i < n) (hr : i ∈ Region.ready md l.toArray listed) : i ∈ Region.ready md (l.take n).toArray hl := by
  obtain ⟨h1, o, ho, h2⟩ := mem_ready.1 hr
  have ho' : (l.take n).toArray[i]? = some o := (hd_at hi).trans ho
  exact mem_ready.2 ⟨by rw [h.2 i true hi]; exact h1, o, ho', fun e he hb => by rw [h.2 e.on false (by have := (low_at hlow ho').1 e he hb; omega)]; exact h2 e he hb⟩
theorem ready_of (hlow : lowB md (l.take n) = true) {hl listed : Array Bool} (h : Same n hl listed) {i : Nat} (hi : i < n) (hr : i ∈ Region.ready md (l.take n).toArray hl) : i ∈ Region.ready md l.toArray listed := by
  obtain ⟨h1, o, ho, h2⟩ := mem_ready.1 hr
  exact mem_ready.2 ⟨by rw [← h.2 i true hi]; exact h1, o, (hd_at hi).symm.trans ho, fun e he hb => by rw [← h.2 e.on false (by have := (low_at hlow ho).1 e he hb; omega)]; exact h2 e he hb⟩
/-- As long as something of the head is left, something of it is ready. -/
theorem some_ready (hlow : lowB md (l.take n) = true) (hn : n < l.length) {hl : Array Bool} (hs : hl.size = n) : ∀ i, i < n → hl.getD i true = false → Region.ready md (l.take n).toArray hl ≠ [] := by
  intro i
  induction i using Nat.strongRecOn with
  | _ i ih =>
    intro hi hun
    obtain ⟨o, ho⟩ : ∃ o, (l.take n).toArray[i]? = some o := ⟨l[i]'(by omega), by rw [hd_at hi]; simp⟩
    by_cases hall : ∀ e ∈ o.after, Region.binds md e = true → hl.getD e.on false = true
    · intro h0
      have := mem_ready.2 ⟨hun, o, ho, hall⟩
      rw [h0] at this; cases this
    · obtain ⟨e, h1⟩ := Classical.not_forall.1 hall
      obtain ⟨he, h2⟩ := Classical.not_forall.1 h1
      obtain ⟨hb, hne⟩ := Classical.not_forall.1 h2
      have hlt := (low_at hlow ho).1 e he hb
      refine ih e.on hlt (by omega) (getD_in (by omega) ?_)
      simpa using hne
end
end TailC
end Go.Proofs.Ytchnnpaebggfdaa

namespace Go.Proofs.Ytchnnpaebggfdaa
set_option maxRecDepth 100000
open Go.ChangeShapes Go.WideShapes Go.ChangeAt Go.RowKit Go.Deep
namespace Lt
open Flow (looks)
/-- What looks at no memory. -/
def pureB (o : Oper) : Bool := match o.op with | .move _ | .assign _ | .extract _ _ => true | _ => false
def dsts (hd : List Oper) : List Tmp := hd.filterMap (·.dst)
def waits (st : Oper) (i : Nat) : Bool := st.after.any fun e => Region.binds .any e && e.on == i
/-- What is asked of operation i of the head. -/
def fits (hd : List Oper) (st : Oper) (s N : Nat) (NC : List Tmp) (i : Nat) (o : Oper) : Bool :=
  o.guard.isNone &&
  ((o.after.all fun e => !Region.binds .any e || decide (e.on < i)) &&
  ((match o.dst with | some d => decide (i ≠ s) && decide (d < N) | none => decide (i = s)) &&
  (((looks o).all fun t => !(dsts hd).contains t || o.after.any fun e => Region.binds .any e && ((hd[e.on]?).bind (·.dst) == some t)) &&
  (decide (i = s) || (waits st i || ((pureB o && (looks o).all fun t => !NC.contains t) && (match o.dst with | some d => !NC.contains d | none => false)))))))
def lateB (l : List Oper) (n s N : Nat) (NC : List Tmp) : Bool :=
  match (l.take n)[s]? with
  | none => false
  | some st => ((l.take n).zipIdx.all fun q => fits (l.take n) st s N NC q.2 q.1) && (decide ((dsts (l.take n)).Nodup) && ((NC.all fun t => (dsts (l.take n)).contains t) && (decide (n ≤ l.length) && (Region.noSelect l.toArray &&
    ((decide (n = l.length) || (Region.sinkB .any l.toArray n && Region.chainB .any l.toArray n)) && Region.seqB .any l.toArray (l.length - n) n (List.replicate n true ++ List.replicate (l.length - n) false).toArray)))))
section
variable {P : Program} {Q : Exit → Act → World → Prop} {hd : List Oper} {st : Oper} {s N : Nat} {NC : List Tmp} {VN : Tmp → Value → World → Prop} {Post : List Value → World → Prop} {w0 : World} {a0 aF : Act}
def got (a : Act) (t : Tmp) : Value := a.tmps.getD t undef
def Val (NC : List Tmp) (VN : Tmp → Value → World → Prop) (aF : Act) (t : Tmp) (v : Value) (w : World) : Prop := (t ∈ NC → VN t v w) ∧ (t ∉ NC → v = got aF t)
/-- One operation's duty, ahead of the store. -/
def Pre (P : Program) (NC : List Tmp) (VN : Tmp → Value → World → Prop) (w0 : World) (aF : Act) (Q : Exit → Act → World → Prop) (o : Oper) : Prop :=
  ∀ a w, Below w0.heap.size w0 w → (∀ t ∈ looks o, Val NC VN aF t (got a t) w) → o.wp P a w (fun a' w' => ∃ v, a' = a.put o.dst v ∧ Below w.heap.size w w' ∧ ∀ d, o.dst = some d → Val NC VN aF d v w') Q
/-- Behind it. -/
def Behind (P : Program) (aF : Act) (Q : Exit → Act → World → Prop) (o : Oper) : Prop :=
  ∀ a w, (∀ t ∈ looks o, got a t = got aF t) → o.wp P a w (fun a' w' => w' = w ∧ ∃ v, a' = a.put o.dst v ∧ ∀ d, o.dst = some d → v = got aF d) Q
/-- The store. -/
def Store (P : Program) (NC : List Tmp) (VN : Tmp → Value → World → Prop) (Post : List Value → World → Prop) (w0 : World) (aF : Act) (Q : Exit → Act → World → Prop) (o : Oper) : Prop :=
  ∀ a w, Below w0.heap.size w0 w → (∀ t ∈ NC, VN t (got a t) w) → (∀ t ∈ looks o, Val NC VN aF t (got a t) w) → o.wp P a w (fun a' w' => a' = a ∧ Post (NC.map (got a)) w') Q
structure Inv (hd : List Oper) (st : Oper) (s N : Nat) (NC : List Tmp) (VN : Tmp → Value → World → Prop) (Post : List Value → World → Prop) (w0 : World) (a0 aF : Act) (hl : Array Bool) (a : Act) (w : World) : Prop where
  size : hl.size = hd.length
  frame : a.tmps.size = N
  defers : a.defers = a0.defers
  old : ∀ t, t ∉ dsts hd → got a t = got a0 t
  const : ∀ (i : Nat) o d, hd[i]? = some o → hl.getD i false = true → o.dst = some d → d ∉ NC → got a d = got aF d
  pre : hl.getD s false = false → Below w0.heap.size w0 w ∧ ∀ (i : Nat) o d, hd[i]? = some o → hl.getD i false = true → o.dst = some d → d ∈ NC → VN d (got a d) w
  post : hl.getD s false = true → Post (NC.map (got a)) w
  closed : hl.getD s false = true → ∀ i, waits st i = true → hl.getD i false = true
theorem got_put {a : Act} {d t : Tmp} {v : Value} (h : t ≠ d) : got (a.put (some d) v) t = got a t := by
  simp [got, Act.put, Array.getElem?_setIfInBounds_ne (Ne.symm h)]
theorem got_set {a : Act} {d : Tmp} {v : Value} (h : d < a.tmps.size) : got (a.put (some d) v) d = v := by
  simp [got, Act.put, h]
theorem mem_dsts {o : Oper} {i : Nat} {d : Tmp} (h : hd[i]? = some o) (hdd : o.dst = some d) : d ∈ dsts hd := List.mem_filterMap.2 ⟨o, List.mem_of_getElem? h, hdd⟩
theorem dst_one (hn : (dsts hd).Nodup) : ∀ {i j : Nat} {o p : Oper} {d : Tmp}, hd[i]? = some o → hd[j]? = some p → o.dst = some d → p.dst = some d → i = j := by
  induction hd with
  | nil => intro i j o p d h; simp at h
  | cons x xs ih =>
    intro i j o p d h1 h2 h3 h4
    have hn' : (dsts xs).Nodup := by
      unfold dsts at hn ⊢
      rw [List.filterMap_cons] at hn
      split at hn
      · exact hn
      · exact (List.nodup_cons.1 hn).2
    have no : ∀ (k : Nat) (q : Oper), x.dst = some d → xs[k]? = some q → q.dst = some d → False := by
      intro k q hx hq hqd
      unfold dsts at hn
      rw [List.filterMap_cons, hx] at hn
      exact (List.nodup_cons.1 hn).1 (List.mem_filterMap.2 ⟨q, List.mem_of_getElem? hq, hqd⟩)
    cases i with
    | zero =>
      cases j with
      | zero => rfl
      | succ j =>
        simp at h1 h2
        exact (no j p (h1 ▸ h3) h2 h4).elim
    | succ i =>
      cases j with
      | zero =>
        simp at h1 h2
        exact (no i o (h2 ▸ h4) h1 h3).elim
      | succ j =>
        simp at h1 h2
        rw [ih hn' h1 h2 h3 h4]
theorem set_false {hl : Array Bool} {i j : Nat} (h : (hl.setIfInBounds i true).getD j false = true) (hne : j ≠ i) : hl.getD j false = true := by rwa [getD_set_ne false (Ne.symm hne)] at h
structure Ok (hd : List Oper) (st : Oper) (s N : Nat) (NC : List Tmp) : Prop where
  at_s : hd[s]? = some st
  fit : ∀ (i : Nat) o, hd[i]? = some o → fits hd st s N NC i o = true
  one : (dsts hd).Nodup
  nc : ∀ t ∈ NC, t ∈ dsts hd
theorem step_inv (O : Ok hd st s N NC) (hNC : ∀ t v w w', VN t v w → Below w.heap.size w w' → VN t v w') (hF : ∀ t, t ∉ dsts hd → got aF t = got a0 t)
    (hpre : ∀ (i : Nat) o, hd[i]? = some o → i ≠ s → Pre P NC VN w0 aF Q o) (hbeh : ∀ (i : Nat) o, hd[i]? = some o → i ≠ s → waits st i = false → Behind P aF Q o) (hst : Store P NC VN Post w0 aF Q st)
    {hl : Array Bool} {a : Act} {w : World} (I : Inv hd st s N NC VN Post w0 a0 aF hl a w) {i : Nat} (hr : i ∈ Region.ready .any hd.toArray hl) :
    wpOp P hd.toArray Q i (fun a' w' => Inv hd st s N NC VN Post w0 a0 aF (hl.setIfInBounds i true) a' w') a w := by
  obtain ⟨hun, o, ho, hall⟩ := mem_ready.1 hr
  have ho' : hd[i]? = some o := by simpa using ho
  have hi : i < hd.length := (List.getElem?_eq_some_iff.1 ho').1
  have hil : i < hl.size := by rw [I.size]; exact hi
  have hf := O.fit i o ho'
  unfold fits at hf
  simp only [Bool.and_eq_true] at hf
  obtain ⟨hg, hlow, hds, hlk, hlate⟩ := hf
  have hg : o.guard = none := by simpa using hg
  -- what it looks at
  have seen : ∀ t ∈ looks o, t ∉ dsts hd ∨ ∃ (j : Nat) (p : Oper), hd[j]? = some p ∧ p.dst = some t ∧ hl.getD j false = true := by
    intro t ht
    have h := List.all_eq_true.1 hlk t ht
    rw [Bool.or_eq_true] at h
    rcases h with h | h
    · left; simpa using h
    · right
      rw [Array.any_eq_true'] at h
      obtain ⟨e, he, h⟩ := h
      rw [Bool.and_eq_true, beq_iff_eq] at h
      have hl' := hall e he h.1
      cases hp : hd[e.on]? with
      | none => rw [hp] at h; simp at h
      | some p => rw [hp] at h; exact ⟨e.on, p, hp, by simpa using h.2, hl'⟩
  have cst : ∀ t, t ∉ NC → (t ∉ dsts hd ∨ ∃ (j : Nat) (p : Oper), hd[j]? = some p ∧ p.dst = some t ∧ hl.getD j false = true) → got a t = got aF t := by
    intro t hn h
    rcases h with h | ⟨j, p, h1, h2, h3⟩
    · rw [I.old t h, hF t h]
    · exact I.const j p t h1 h3 h2 hn
  have self : ∀ j, (hl.setIfInBounds i true).getD j false = true → j = i ∨ hl.getD j false = true := fun j h => by
    by_cases q : j = i
    · exact .inl q
    · exact .inr (set_false h q)
  unfold wpOp
  simp only [ho]
  rw [if_pos (show Region.wanted o (yielded hd.toArray a.tmps) = true by simp [Region.wanted, hg])]
  by_cases his : i = s
  · -- the store
    subst his
    have : o = st := by have := O.at_s; rw [ho'] at this; exact Option.some.inj this
    subst this
    have hdn : o.dst = none := by
      cases hd' : o.dst with
      | none => rfl
      | some d => rw [hd'] at hds; simp at hds
    have hsf : hl.getD i false = false := getD_both hun
    obtain ⟨hb, hv⟩ := I.pre hsf
    have hvn : ∀ t ∈ NC, VN t (got a t) w := by
      intro t ht
      obtain ⟨p, hp, hpd⟩ := List.mem_filterMap.1 (O.nc t ht)
      obtain ⟨j, hj⟩ := List.mem_iff_getElem?.1 hp
      have hfj := O.fit j p hj
      unfold fits at hfj
      simp only [Bool.and_eq_true] at hfj
      obtain ⟨_, _, h3, _, h5⟩ := hfj
      rw [hpd] at h3 h5
      simp only [Bool.and_eq_true, decide_eq_true_eq] at h3
      have : waits o j = true := by
        simp only [Bool.or_eq_true, decide_eq_true_eq, Bool.and_eq_true] at h5
        rcases h5 with h5 | h5 | h5
        · exact absurd h5 h3.1
        · exact h5
        · have := h5.2; simp [ht] at this
      unfold waits at this
      rw [Array.any_eq_true'] at this
      obtain ⟨e, he, h⟩ := this
      rw [Bool.and_eq_true, beq_iff_eq] at h
      exact hv j p t hj (h.2 ▸ hall e he h.1) hpd ht
    refine .inl (Oper.wp_mono ?_ (hst a w hb hvn fun t ht => ⟨fun hn => hvn t hn, fun hn => cst t hn (seen t ht)⟩))
    rintro a' w' ⟨rfl, hp⟩
    refine ⟨by simpa using I.size, I.frame, I.defers, I.old, fun j p d h1 h2 h3 h4 => ?_, fun h => ?_, fun _ => hp, fun _ j hj => ?_⟩
    · rcases self j h2 with rfl | h2
      · rw [ho'] at h1; cases h1; rw [hdn] at h3; cases h3
      · exact I.const j p d h1 h2 h3 h4
    · simp [hil] at h
    · unfold waits at hj
      rw [Array.any_eq_true'] at hj
      obtain ⟨e, he, h⟩ := hj
      rw [Bool.and_eq_true, beq_iff_eq] at h
      exact getD_set_true (h.2 ▸ hall e he h.1)
  · obtain ⟨d, hdd, hdN⟩ : ∃ d, o.dst = some d ∧ d < N := by
      cases hd' : o.dst with
      | none => rw [hd'] at hds; simp [his] at hds
      | some d => rw [hd'] at hds; simp at hds; exact ⟨d, rfl, hds.2⟩
    have hne : ∀ (j : Nat) p x, hd[j]? = some p → p.dst = some x → j ≠ i → x ≠ d := fun j p x h1 h2 h3 e => h3 (dst_one O.one h1 ho' (e ▸ h2) hdd)
    have hsd : (hl.setIfInBounds i true).getD s false = hl.getD s false := getD_set_ne false his
    cases hsf : hl.getD s false with
    | false =>
      obtain ⟨hb, hv⟩ := I.pre hsf
      refine .inl (Oper.wp_mono ?_ (hpre i o ho' his a w hb fun t ht => ⟨fun hn => ?_, fun hn => cst t hn (seen t ht)⟩))
      · rintro a' w' ⟨v, rfl, hb', hval⟩
        have hval := hval d hdd
        rw [hdd]
        refine ⟨by simpa using I.size, by simpa [Act.put] using I.frame, I.defers, fun t ht => ?_, fun j p x h1 h2 h3 h4 => ?_, fun _ => ⟨grow hb hb', fun j p x h1 h2 h3 h4 => ?_⟩, fun h => ?_, fun h => ?_⟩
        · rw [got_put (fun e => ht (by rw [e]; exact mem_dsts ho' hdd))]; exact I.old t ht
        · by_cases q : j = i
          · subst q; rw [ho'] at h1; cases h1; rw [hdd] at h3; cases h3
            rw [got_set (by rw [I.frame]; exact hdN)]; exact hval.2 h4
          · rw [got_put (hne j p x h1 h3 q)]; exact I.const j p x h1 (set_false h2 q) h3 h4
        · by_cases q : j = i
          · subst q; rw [ho'] at h1; cases h1; rw [hdd] at h3; cases h3
            rw [got_set (by rw [I.frame]; exact hdN)]; exact hval.1 h4
          · rw [got_put (hne j p x h1 h3 q)]; exact hNC _ _ _ _ (hv j p x h1 (set_false h2 q) h3 h4) hb'
        · rw [hsd, hsf] at h; cases h
        · rw [hsd, hsf] at h; cases h
      · rcases seen t ht with h | ⟨j, p, h1, h2, h3⟩
        · exact absurd (O.nc t hn) h
        · exact hv j p t h1 h3 h2 hn
    | true =>
      have hw : waits st i = false := by
        cases q : waits st i with
        | false => rfl
        | true => have := I.closed hsf i q; rw [getD_both hun] at this; cases this
      simp only [hw, his, decide_false, Bool.false_or, Bool.and_eq_true] at hlate
      obtain ⟨⟨_, h2⟩, h3⟩ := hlate
      rw [hdd] at h3
      have hdn : d ∉ NC := by simpa using h3
      refine .inl (Oper.wp_mono ?_ (hbeh i o ho' his hw a w fun t ht => cst t ?_ (seen t ht)))
      · rintro a' w' ⟨rfl, v, rfl, hv⟩
        have hv := hv d hdd
        rw [hdd]
        have same : NC.map (got (a.put (some d) v)) = NC.map (got a) := List.map_congr_left fun t ht => got_put (fun e => hdn (e ▸ ht))
        refine ⟨by simpa using I.size, by simpa [Act.put] using I.frame, I.defers, fun t ht => ?_, fun j p x h1 h2 h3 h4 => ?_, fun h => ?_, fun _ => ?_, fun _ j hj => getD_set_true (I.closed hsf j hj)⟩
        · rw [got_put (fun e => ht (by rw [e]; exact mem_dsts ho' hdd))]; exact I.old t ht
        · by_cases q : j = i
          · subst q; rw [ho'] at h1; cases h1; rw [hdd] at h3; cases h3
            rw [got_set (by rw [I.frame]; exact hdN)]; exact hv
          · rw [got_put (hne j p x h1 h3 q)]; exact I.const j p x h1 (set_false h2 q) h3 h4
        · rw [hsd, hsf] at h; cases h
        · rw [same]; exact I.post hsf
      · have := List.all_eq_true.1 h2 t ht
        simpa using this
/-! ### Whatever order is drawn -/
theorem any_late {l : List Oper} {n : Nat} (hdl : hd = l.take n) (hn : n ≤ l.length) (O : Ok hd st s N NC) (hNC : ∀ t v w w', VN t v w → Below w.heap.size w w' → VN t v w') (hF : ∀ t, t ∉ dsts hd → got aF t = got a0 t)
    (hpre : ∀ (i : Nat) o, hd[i]? = some o → i ≠ s → Pre P NC VN w0 aF Q o) (hbeh : ∀ (i : Nat) o, hd[i]? = some o → i ≠ s → waits st i = false → Behind P aF Q o) (hst : Store P NC VN Post w0 aF Q st)
    (hlow : TailC.lowB .any (l.take n) = true) (htl : n = l.length ∨ (Region.sinkB .any l.toArray n = true ∧ Region.chainB .any l.toArray n = true))
    (hseq : Region.seqB .any l.toArray (l.length - n) n (List.replicate n true ++ List.replicate (l.length - n) false).toArray = true)
    (hend : ∀ hl a w, Inv hd st s N NC VN Post w0 a0 aF hl a w → (∀ i, i < n → hl.getD i false = true) → wpList P l.toArray Q (l.drop n) a w) :
    ∀ (f : Nat) (hl listed : Array Bool) (a : Act) (w : World), TailC.Same n hl listed → HeadInv .any l.toArray n listed → Inv hd st s N NC VN Post w0 a0 aF hl a w → hl.toList.count false ≤ f → wpAny P .any l.toArray Q (f + (l.length - n)) listed a w := by
  have hsz : l.toArray.size = l.length := by simp
  have done : ∀ (hl listed : Array Bool) (a : Act) (w : World), TailC.Same n hl listed → HeadInv .any l.toArray n listed → Inv hd st s N NC VN Post w0 a0 aF hl a w → (∀ i, i < n → hl.getD i true = true) → wpAny P .any l.toArray Q (l.length - n) listed a w := by
    intro hl listed a w hsm inv I hall
    have hls : listed.size = l.length := inv.size.trans hsz
    have he : listed = (List.replicate n true ++ List.replicate (l.length - n) false).toArray := by
      apply Array.ext_getElem?
      intro i
      by_cases h1 : i < l.length
      · have hx : listed[i]? = some (listed.getD i true) := by
          rw [Array.getElem?_eq_getElem (by omega)]; simp [hls, h1]
        rw [hx]
        by_cases h2 : i < n
        · rw [← hsm.2 i true h2, hall i h2]; simp [List.getElem?_append, h2]
        · rw [inv.tail i (by omega) (by omega)]; simp [List.getElem?_append, h2, List.getElem?_replicate]; omega
      · rw [Array.getElem?_eq_none (by omega)]; simp; omega
    rw [he]
    have := wpAny_of_seq (md := .any) (Q' := Q) (l.drop n) n (List.replicate n true ++ List.replicate (l.length - n) false).toArray a w (fun j => by simp [List.getElem?_drop]) (by rw [List.length_drop]; exact hseq) (hend hl a w I fun i hi => by
      have := hall i hi
      have hlt : i < hl.size := by rw [hsm.1]; exact hi
      simpa [hlt] using this)
    rwa [List.length_drop] at this
  intro f
  induction f with
  | zero =>
    intro hl listed a w hsm inv I hc
    rw [Nat.zero_add]
    refine done hl listed a w hsm inv I fun i hi => ?_
    cases q : hl.getD i true with
    | true => rfl
    | false =>
      have hlt : i < hl.size := by rw [hsm.1]; exact hi
      simp [hlt] at q
      have : false ∈ hl.toList := by rw [← q]; simp
      have := List.count_pos_iff.2 this
      omega
  | succ f ih =>
    intro hl listed a w hsm inv I hc
    by_cases hall : ∀ i, i < n → hl.getD i true = true
    · exact TailC.any_more_by (done hl listed a w hsm inv I hall) (f + 1)
    · obtain ⟨i0, h1⟩ := Classical.not_forall.1 hall
      obtain ⟨hi0, h2⟩ := Classical.not_forall.1 h1
      have h2 : hl.getD i0 true = false := by simpa using h2
      have hnl : n < l.length ∨ n = l.length := by omega
      have hready : ∀ i ∈ Region.ready .any l.toArray listed, i < n := by
        intro i hi
        rcases htl with e | ⟨hS, hCh⟩
        · obtain ⟨_, o, ho, _⟩ := mem_ready.1 hi
          have := (Array.getElem?_eq_some_iff.1 ho).1
          omega
        · rcases Nat.lt_or_ge i n with q | q
          · exact q
          · have hi2 : i < l.toArray.size := by
              obtain ⟨_, o, ho, _⟩ := mem_ready.1 hi
              exact (Array.getElem?_eq_some_iff.1 ho).1
            exact absurd hi (tail_waits hS hCh (by omega) inv _ i0 rfl hi0 (by rw [← hsm.2 i0 true hi0]; exact h2) i q)
      rw [show f + 1 + (l.length - n) = (f + (l.length - n)) + 1 by omega]
      refine ⟨fun hr => ?_, fun i hi => ?_⟩
      · -- something is ready
        have hne : Region.ready .any (l.take n).toArray hl ≠ [] := by
          rcases hnl with q | q
          · exact TailC.some_ready hlow q hsm.1 i0 hi0 h2
          · intro h0
            have hsm' : TailC.Same n hl listed := hsm
            -- the whole list: the least one that is left is ready
            have : ∀ i, i < n → hl.getD i true = false → False := by
              intro i
              induction i using Nat.strongRecOn with
              | _ i ih' =>
                intro hi hun
                obtain ⟨o, ho⟩ : ∃ o, (l.take n).toArray[i]? = some o := ⟨l[i]'(by omega), by rw [TailC.hd_at hi]; simp⟩
                by_cases hw : ∀ e ∈ o.after, Region.binds .any e = true → hl.getD e.on false = true
                · have := mem_ready.2 ⟨hun, o, ho, hw⟩
                  rw [h0] at this; cases this
                · obtain ⟨e, h1⟩ := Classical.not_forall.1 hw
                  obtain ⟨he, h2⟩ := Classical.not_forall.1 h1
                  obtain ⟨hb, hne⟩ := Classical.not_forall.1 h2
                  have hlt := (TailC.low_at hlow ho).1 e he hb
                  exact ih' e.on hlt (by omega) (getD_in (by rw [hsm'.1]; omega) (by simpa using hne))
            exact this i0 hi0 h2
        obtain ⟨i1, hi1⟩ := List.exists_mem_of_ne_nil _ hne
        obtain ⟨_, o1, ho1, _⟩ := mem_ready.1 hi1
        have := TailC.ready_of hlow hsm (TailC.hd_lt ho1) hi1
        rw [hr] at this; cases this
      · have hin := hready i hi
        have hr' := TailC.ready_to hlow hsm hin hi
        have h3 := step_inv O hNC hF hpre hbeh hst I (i := i) (by rw [hdl]; exact hr')
        have hun := (mem_ready.1 hr').1
        have hlt : i < hl.size := by rw [hsm.1]; exact hin
        simp [hlt] at hun
        have hcount : (hl.setIfInBounds i true).toList.count false ≤ f := by
          rw [Array.toList_setIfInBounds, List.count_set (by simpa using hlt)]
          have hp : 0 < hl.toList.count false := List.count_pos_iff.2 (by rw [← hun]; simp)
          have hp' : hl.toList.count false - 1 ≤ f := by omega
          simpa [hun] using hp'
        have h4 := wpOp_mono (fun a' w' I' => ih _ (listed.setIfInBounds i true) a' w' (hsm.set (by rw [inv.size, hsz]; omega) i) (inv.set hi hin) I' hcount) h3
        unfold wpOp at h4 ⊢
        rw [← TailC.hd_at hin]
        rw [hdl] at h4
        split
        · rename_i ho; simp only [ho] at h4; exact h4
        · rename_i o ho
          simp only [ho] at h4
          rw [← TailC.wanted_hd hlow ho]
          exact h4
end
end Lt
end Go.Proofs.Ytchnnpaebggfdaa
