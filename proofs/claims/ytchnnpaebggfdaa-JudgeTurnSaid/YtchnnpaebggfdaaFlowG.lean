/-
  As Flow, for a region whose guarded operations are all carried out: whatever order is drawn, at the end every place holds a thing of its kind. No function of the program is walked here. No conditions beyond those said.
-/
import Derived.Test.YtchnnpaebggfdaaJAgg4
import Derived.Orders
import Derived.OrdersHeld
namespace Go.Proofs.Ytchnnpaebggfdaa
set_option maxRecDepth 100000
open Go.ChangeShapes Go.WideShapes Go.ChangeAt Go.RowKit Go.Deep
namespace FlowG
/-- The places that an operation looks at. -/
def looks (o : Oper) : List Tmp := o.op.operands.toList.filterMap fun | .tmp t => some t | _ => none
/-- What is asked of an operation: it waits for what guards it, it has a place below n that is none of those at the start, and what it looks at is one of these or comes from one that it waits for; it waits for earlier ones alone. -/
def fits (ops : Array Oper) (init : List Tmp) (n i : Nat) (o : Oper) : Bool :=
  (match o.guard with | none => true | some (j, _) => o.after.any fun e => Region.binds .any e && e.on == j) && (match o.dst with | some d => decide (d < n) && !init.contains d | none => false) &&
  ((looks o).all fun t => init.contains t || o.after.any fun e => Region.binds .any e && ((ops[e.on]?).bind (·.dst) == some t)) &&
  (o.after.all fun e => !Region.binds .any e || decide (e.on < i))
def flowB (ops : Array Oper) (init : List Tmp) (n : Nat) : Bool :=
  (ops.toList.zipIdx.all fun q => fits ops init n q.2 q.1) && decide ((ops.toList.map (·.dst)).Nodup)
section
variable {P : Program} {Q : Exit → Act → World → Prop} {ops : Array Oper}
/-- One operation's duty. -/
def Step (P : Program) (Val : Tmp → Value → World → Prop) (Q : Exit → Act → World → Prop) (o : Oper) : Prop :=
  ∀ a w, (∀ t ∈ looks o, Val t (a.tmps.getD t undef) w) → o.wp P a w (fun a' w' => ∃ v, a' = a.put o.dst v ∧ Below w.heap.size w w' ∧ ∀ d, o.dst = some d → Val d v w') Q
/-- Each guard says yes. -/
def Guards (ops : Array Oper) (Val : Tmp → Value → World → Prop) : Prop :=
  ∀ o ∈ ops.toList, ∀ j b, o.guard = some (j, b) → ∃ p d, ops[j]? = some p ∧ p.dst = some d ∧ ∀ v w, Val d v w → v = .bool b
structure Inv (ops : Array Oper) (Val : Tmp → Value → World → Prop) (init : List Tmp) (n : Nat) (w0 : World) (a0 : Act) (listed : Array Bool) (a : Act) (w : World) : Prop where
  size : listed.size = ops.size
  frame : a.tmps.size = n
  defers : a.defers = a0.defers
  below : Below w0.heap.size w0 w
  start : ∀ t ∈ init, Val t (a.tmps.getD t undef) w
  old : ∀ t, (∀ (i : Nat) o, ops[i]? = some o → o.dst ≠ some t) → a.tmps.getD t undef = a0.tmps.getD t undef
  vals : ∀ (i : Nat) o d, ops[i]? = some o → listed.getD i true = true → o.dst = some d → Val d (a.tmps.getD d undef) w
theorem flow_at {init : List Tmp} {n : Nat} (hB : flowB ops init n = true) {i : Nat} {o : Oper} (hi : ops[i]? = some o) : fits ops init n i o = true := by
  unfold flowB at hB
  rw [Bool.and_eq_true] at hB
  refine List.all_eq_true.1 hB.1 (o, i) ?_
  rw [List.mem_zipIdx_iff_getElem?]
  simpa using hi
theorem flow_dst {init : List Tmp} {n : Nat} (hB : flowB ops init n = true) {i : Nat} {o : Oper} (hi : ops[i]? = some o) : ∃ d, o.dst = some d ∧ d < n ∧ d ∉ init := by
  have h := flow_at hB hi
  unfold fits at h
  simp only [Bool.and_eq_true] at h
  obtain ⟨⟨⟨h1, h2⟩, _⟩, _⟩ := h
  cases hd : o.dst with
  | none => simp [hd] at h2
  | some d => simp [hd] at h2; exact ⟨d, rfl, h2.1, h2.2⟩
theorem flow_one {init : List Tmp} {n : Nat} (hB : flowB ops init n = true) {i j : Nat} {o p : Oper} (hi : ops[i]? = some o) (hj : ops[j]? = some p) (h : o.dst = p.dst) : i = j := by
  unfold flowB at hB
  rw [Bool.and_eq_true] at hB
  have hn : (ops.toList.map (·.dst)).Nodup := of_decide_eq_true hB.2
  have hi' : i < ops.size := by
    rcases Nat.lt_or_ge i ops.size with q | q
    · exact q
    · rw [Array.getElem?_eq_none q] at hi; cases hi
  exact (List.getElem?_inj (l := ops.toList.map (·.dst)) (by simpa using hi') hn).1 (by simp [hi, hj, h])
theorem all_listed {init : List Tmp} {n : Nat} (hB : flowB ops init n = true) {listed : Array Bool} (hs : listed.size = ops.size) (hr : Region.ready .any ops listed = []) :
    ∀ i, i < ops.size → listed.getD i true = true := by
  intro i
  induction i using Nat.strongRecOn with
  | _ i ih =>
    intro hi
    cases hl : listed.getD i true with
    | true => rfl
    | false =>
      have hm : i ∈ Region.ready .any ops listed := mem_ready.2 ⟨hl, ops[i], by simp [hi], fun e he hb => by
        have h := flow_at hB (i := i) (o := ops[i]) (by simp [hi])
        unfold fits at h
        simp only [Bool.and_eq_true] at h
        have := Array.all_eq_true_iff_forall_mem.1 h.2 e he
        simp [hb] at this
        have q := ih e.on this (by omega)
        have hlt : e.on < listed.size := by omega
        simpa [hlt] using q⟩
      rw [hr] at hm; cases hm
theorem step_inv {Val : Tmp → Value → World → Prop} {init : List Tmp} {n : Nat} {w0 : World} {a0 : Act} (hB : flowB ops init n = true)
    (hst : ∀ t v w w', Val t v w → Below w.heap.size w w' → Val t v w') (hgu : Guards ops Val) (hstep : ∀ o ∈ ops.toList, Step P Val Q o)
    {listed : Array Bool} {a : Act} {w : World} (I : Inv ops Val init n w0 a0 listed a w) {i : Nat} (hr : i ∈ Region.ready .any ops listed) :
    wpOp P ops Q i (fun a' w' => Inv ops Val init n w0 a0 (listed.setIfInBounds i true) a' w') a w := by
  obtain ⟨hun, o, ho, hall⟩ := mem_ready.1 hr
  obtain ⟨d, hd, hdn, hdi⟩ := flow_dst hB ho
  have hf := flow_at hB ho
  unfold fits at hf
  simp only [Bool.and_eq_true] at hf
  have hlk : ∀ t ∈ looks o, Val t (a.tmps.getD t undef) w := by
    intro t ht
    have h := List.all_eq_true.1 hf.1.2 t ht
    rw [Bool.or_eq_true] at h
    rcases h with h | h
    · exact I.start t (by simpa using h)
    · rw [Array.any_eq_true'] at h
      obtain ⟨e, he, h⟩ := h
      rw [Bool.and_eq_true, beq_iff_eq] at h
      have hl := hall e he h.1
      cases hp : ops[e.on]? with
      | none => rw [hp] at h; simp at h
      | some p =>
        rw [hp] at h
        have hlt : e.on < listed.size := by
          rcases Nat.lt_or_ge e.on listed.size with q | q
          · exact q
          · simp [Array.getElem?_eq_none q] at hl
        exact I.vals e.on p t hp (by simpa [hlt] using hl) (by simpa using h.2)
  have hmem : o ∈ ops.toList := by
    have := Array.mem_of_getElem? ho
    simpa using this
  have hs := hstep o hmem a w hlk
  have hw : Region.wanted o (yielded ops a.tmps) = true := by
    cases hgd : o.guard with
    | none => simp [Region.wanted, hgd]
    | some q =>
      obtain ⟨j, b⟩ := q
      obtain ⟨p, dj, hp, hpd, hb⟩ := hgu o hmem j b hgd
      have hwait := hf.1.1.1
      rw [hgd] at hwait
      simp only at hwait
      rw [Array.any_eq_true'] at hwait
      obtain ⟨e, he, hwait⟩ := hwait
      rw [Bool.and_eq_true, beq_iff_eq] at hwait
      have hl := hall e he hwait.1
      rw [hwait.2] at hl
      have hlt : j < listed.size := by
        rcases Nat.lt_or_ge j listed.size with q | q
        · exact q
        · simp [Array.getElem?_eq_none q] at hl
      have hv := hb _ _ (I.vals j p dj hp (by simpa [hlt] using hl) hpd)
      have hdj : dj < a.tmps.size := by
        obtain ⟨d', h1, h2, _⟩ := flow_dst hB hp
        rw [hpd] at h1; cases h1
        rw [I.frame]; exact h2
      have hv2 : a.tmps[dj]? = some (.bool b) := by
        rw [Array.getD_eq_getD_getElem?] at hv
        rw [Array.getElem?_eq_getElem hdj] at hv ⊢
        exact congrArg some hv
      simp [Region.wanted, hgd, yielded, hp, hpd, hv2]
  unfold wpOp
  simp only [ho]
  rw [if_pos hw]
  refine .inl (Oper.wp_mono ?_ hs)
  rintro a' w' ⟨v, rfl, hb, hv⟩
  have hv := hv d hd
  have hget : ∀ t, t ≠ d → (a.put o.dst v).tmps.getD t undef = a.tmps.getD t undef := by
    intro t ht
    simp [Act.put, hd, Array.getElem?_setIfInBounds_ne (Ne.symm ht)]
  have hset : (a.put o.dst v).tmps.getD d undef = v := by
    simp [Act.put, hd, I.frame, hdn]
  refine ⟨by simpa using I.size, by simpa [Act.put, hd] using I.frame, by simpa [Act.put, hd] using I.defers, grow I.below hb, ?_, ?_, ?_⟩
  · intro t ht
    rw [hget t (fun e => hdi (e ▸ ht))]
    exact hst _ _ _ _ (I.start t ht) hb
  · intro t ht
    rw [hget t (fun e => ht i o ho (e ▸ hd))]
    exact I.old t ht
  · intro j p x hp hl hx
    by_cases hij : j = i
    · subst hij
      rw [ho] at hp; cases hp
      rw [hd] at hx; cases hx
      rw [hset]; exact hv
    · rw [hget x (fun e => hij (flow_one hB hp ho (by rw [hx, hd, e])))]
      refine hst _ _ _ _ (I.vals j p x hp ?_ hx) hb
      rwa [getD_set_ne true (Ne.symm hij)] at hl
theorem flow_any {Val : Tmp → Value → World → Prop} {init : List Tmp} {n : Nat} {w0 : World} {a0 : Act} (hB : flowB ops init n = true)
    (hst : ∀ t v w w', Val t v w → Below w.heap.size w w' → Val t v w') (hgu : Guards ops Val) (hstep : ∀ o ∈ ops.toList, Step P Val Q o)
    (hend : ∀ listed a w, Inv ops Val init n w0 a0 listed a w → (∀ i, i < ops.size → listed.getD i true = true) → Q .normal a w) :
    ∀ (fuel : Nat) (listed : Array Bool) (a : Act) (w : World), Inv ops Val init n w0 a0 listed a w → listed.toList.count false ≤ fuel → wpAny P .any ops Q fuel listed a w
  | 0, listed, a, w, I, hc => by
    have hr : Region.ready .any ops listed = [] := by
      rw [List.eq_nil_iff_forall_not_mem]
      intro i hi
      have h1 := (mem_ready.1 hi).1
      have : false ∈ listed.toList := by
        rcases Nat.lt_or_ge i listed.size with q | q
        · simp [q] at h1
          rw [← h1]; simp
        · simp [Array.getElem?_eq_none q] at h1
      have := List.count_pos_iff.2 this
      omega
    exact ⟨hr, hend _ _ _ I (all_listed hB I.size hr)⟩
  | fuel + 1, listed, a, w, I, hc => by
    refine ⟨fun hr => hend _ _ _ I (all_listed hB I.size hr), fun i hi => ?_⟩
    refine wpOp_mono (fun a' w' I' => flow_any hB hst hgu hstep hend fuel _ a' w' I' ?_) (step_inv hB hst hgu hstep I hi)
    have h1 := (mem_ready.1 hi).1
    have q : i < listed.size := by
      rcases Nat.lt_or_ge i listed.size with q | q
      · exact q
      · simp [Array.getElem?_eq_none q] at h1
    simp [q] at h1
    rw [Array.toList_setIfInBounds, List.count_set (by simpa using q)]
    have hp : 0 < listed.toList.count false := List.count_pos_iff.2 (by rw [← h1]; simp)
    have hp' : listed.toList.count false - 1 ≤ fuel := by omega
    simpa [h1] using hp'
/-- Whatever order is drawn: at the end each place holds a thing of its kind. -/
theorem wp_region_flow {id : Nat} {a : Act} {w : World} (Val : Tmp → Value → World → Prop) (init : List Tmp) (n : Nat) (hm : P.follows .mixedOrders = true) (hB : flowB ops init n = true)
    (hst : ∀ t v w w', Val t v w → Below w.heap.size w w' → Val t v w') (hn : a.tmps.size = n) (hinit : ∀ t ∈ init, Val t (a.tmps.getD t undef) w) (hgu : Guards ops Val) (hstep : ∀ o ∈ ops.toList, Step P Val Q o)
    (hend : ∀ a' w', Below w.heap.size w w' → a'.tmps.size = n → a'.defers = a.defers → (∀ t, (∀ (i : Nat) o, ops[i]? = some o → o.dst ≠ some t) → a'.tmps.getD t undef = a.tmps.getD t undef) →
      (∀ (i : Nat) o d, ops[i]? = some o → o.dst = some d → Val d (a'.tmps.getD d undef) w') → Q .normal a' w') : (Code.region id ops true).wp P Q a w := by
  have b0 : Below w.heap.size w { w with drawn := w.drawn + 1 } := ⟨rfl, rfl, rfl, Nat.le_refl _, fun _ _ => rfl⟩
  refine wp_region_any hm (flow_any (Val := Val) (init := init) (n := n) (w0 := w) (a0 := a) hB hst hgu hstep ?_ _ _ _ _ ⟨by simp, hn, rfl, b0, fun t ht => hst _ _ _ _ (hinit t ht) b0, fun _ _ => rfl, ?_⟩ ?_)
  · intro listed a' w' I hl
    refine hend a' w' I.below I.frame I.defers I.old fun i o d hi hd => I.vals i o d hi (hl i ?_) hd
    rcases Nat.lt_or_ge i ops.size with q | q
    · exact q
    · rw [Array.getElem?_eq_none q] at hi; cases hi
  · intro i o d hi hl
    rcases Nat.lt_or_ge i ops.size with q | q
    · simp [q] at hl
    · rw [Array.getElem?_eq_none q] at hi; cases hi
  · simp
end
end FlowG
end Go.Proofs.Ytchnnpaebggfdaa
