/-
  A region that draws its order and writes several times, each write waiting for the one ahead: whatever order is drawn, each place holds its own value at the end, and the writes come in their order. What only reads and calls is walked once, in the order of the text, in whatever world there may be; outside of rounds of a range over a function, and within one. No function of the program is walked here. No conditions beyond those said.
-/
import Derived.Test.YtpamegkbhdbheaaJLateRun2
namespace Go.Proofs.Ytpamegkbhdbheaa
set_option maxRecDepth 100000
open Go.ChangeShapes Go.WideShapes Go.ChangeAt Go.RowKit Go.Deep
namespace Wr
open Lt
open Flow (looks)

/-- What is asked of operation i. -/
def fitsW (l : List Oper) (ss : List Nat) (N : Nat) (NC : List Tmp) (i : Nat) (o : Oper) : Bool :=
  o.guard.isNone && ((o.after.all fun e => !Region.binds .any e || decide (e.on < i)) && ((match o.dst with | some d => decide (d < N) | none => ss.contains i) &&
  ((looks o).all fun t => !(dsts l).contains t || o.after.any fun e => Region.binds .any e && ((l[e.on]?).bind (·.dst) == some t)) &&
  (ss.contains i || (((looks o).all fun t => !NC.contains t) && (match o.dst with | some d => !NC.contains d | none => false)))))
/-- Each write waits for the one ahead. -/
def chainW (l : List Oper) : List Nat → Bool
  | s :: s' :: r => (match l[s']? with | some o => waits o s | none => false) && chainW l (s' :: r)
  | _ => true
def wdsts (l : List Oper) (ss : List Nat) : List Tmp := ss.filterMap fun s => (l[s]?).bind (·.dst)
def writesB (l : List Oper) (ss : List Nat) (N : Nat) (NC : List Tmp) (m : List Bool) : Bool :=
  (l.zipIdx.all fun q => fitsW l ss N NC q.2 q.1) && (decide (dsts l).Nodup && (decide ss.Nodup && (chainW l ss && ((ss.all fun s => decide (s < l.length)) && (((List.range l.length).all fun i => ss.contains i || m.getD i false) && (lexOk N (sel m l) &&
    (Region.noSelect l.toArray && ((wdsts l ss).all fun d => !(dsts (sel m l)).contains d))))))))

section
variable {P : Program} {Q : Exit → Act → World → Prop} {l : List Oper} {ss : List Nat} {N : Nat} {NC : List Tmp} {m0 : List Bool} {a0 a1 aF : Act} {M : Nat → List Value → World → Prop}

theorem waits_iff {o : Oper} {s : Nat} (h : waits o s = true) : ∃ e ∈ o.after, Region.binds .any e = true ∧ e.on = s := by
  unfold waits at h
  rw [Array.any_eq_true'] at h
  obtain ⟨e, he, h⟩ := h
  rw [Bool.and_eq_true, beq_iff_eq] at h
  exact ⟨e, he, h⟩
theorem chain_at : ∀ (ss : List Nat), chainW l ss = true → ∀ k s s', ss[k]? = some s → ss[k + 1]? = some s' → ∃ o, l[s']? = some o ∧ waits o s = true
  | [], _, k, _, _, h, _ => by simp at h
  | [x], _, k, _, _, _, h => by simp at h
  | x :: y :: r, h, 0, s, s', h1, h2 => by
    simp at h1 h2
    subst h1; subst h2
    unfold chainW at h
    rw [Bool.and_eq_true] at h
    cases q : l[y]? with
    | none => rw [q] at h; cases h.1
    | some o => rw [q] at h; exact ⟨o, rfl, h.1⟩
  | x :: y :: r, h, k + 1, s, s', h1, h2 => by
    unfold chainW at h
    rw [Bool.and_eq_true] at h
    exact chain_at (y :: r) h.2 k s s' (by simpa using h1) (by simpa using h2)

structure Inv (l : List Oper) (ss : List Nat) (N : Nat) (NC : List Tmp) (M : Nat → List Value → World → Prop) (a0 aF : Act) (hl : Array Bool) (a : Act) (w : World) : Prop where
  size : hl.size = l.length
  frame : a.tmps.size = N
  defers : a.defers = a0.defers
  old : ∀ t, t ∉ dsts l → got a t = got a0 t
  const : ∀ (i : Nat) o d, l[i]? = some o → hl.getD i false = true → o.dst = some d → d ∉ NC → got a d = got aF d
  phase : ∃ k, k ≤ ss.length ∧ M k (NC.map (got a)) w ∧ ∀ (j s : Nat), ss[j]? = some s → (hl.getD s false = true ↔ j < k)
  closed : ∀ s o, s ∈ ss → l[s]? = some o → hl.getD s false = true → ∀ i, waits o i = true → hl.getD i false = true

/-- Another frame that looks the same to it. -/
theorem wp_swap {o : Oper} {a aF : Act} {w : World} {R : Value → World → Prop} (hx : execOp a.eval o = execOp aF.eval o) (hd : ∀ d, o.dst = some d → d < aF.tmps.size)
    (h : o.wp P aF w (fun a' w' => ∃ v, a' = aF.put o.dst v ∧ R v w') (fun _ _ _ => False)) : o.wp P a w (fun a' w' => ∃ v, a' = a.put o.dst v ∧ R v w') Q := by
  unfold Oper.wp at h ⊢
  rw [hx]
  have back : ∀ v w', (∃ v', aF.put o.dst v = aF.put o.dst v' ∧ R v' w') → ∃ v', a.put o.dst v = a.put o.dst v' ∧ R v' w' := by
    rintro v w' ⟨v', e, r⟩
    cases hq : o.dst with
    | none => exact ⟨v', rfl, r⟩
    | some d =>
      rw [hq] at e
      have h1 : got (aF.put (some d) v) d = got (aF.put (some d) v') d := by rw [e]
      rw [got_set (hd d hq), got_set (hd d hq)] at h1
      subst h1
      exact ⟨v, rfl, r⟩
  have no : ¬ LetsOut (fun (_ : Exit) (_ : Act) (_ : World) => False) := by rintro ⟨_, _, h⟩; exact h
  generalize (execOp aF.eval o).run P w = r at *
  cases r with
  | ok n w' =>
    cases n with
    | value v => exact back v w' h
    | skip => exact back _ w' h
    | defer d =>
      obtain ⟨v', e, r⟩ := h
      have := congrArg Act.defers e
      cases hq : o.dst <;> (rw [hq] at this; simp [Act.put] at this)
    | enter f args =>
      refine Calls.mono h ?_
      rintro (v | ch | _) w2 q
      · exact back v w2 q
      · exact q.elim
      · exact (no q).elim
    | row rw args => exact fun c cs => let ⟨v, w2, q, s⟩ := h c cs; ⟨v, w2, back v w2 q, s⟩
    | _ => exact h.elim
  | halt x w' => cases x <;> exact h.elim
/-- What never panics may be followed by whatever one likes. -/
theorem wp_noQ {o : Oper} {a : Act} {w : World} {K : Act → World → Prop} (h : o.wp P a w K (fun _ _ _ => False)) : o.wp P a w K Q := by
  unfold Oper.wp at h ⊢
  have no : ¬ LetsOut (fun (_ : Exit) (_ : Act) (_ : World) => False) := by rintro ⟨_, _, h⟩; exact h
  generalize (execOp a.eval o).run P w = r at *
  cases r with
  | ok n w' =>
    cases n with
    | enter f args =>
      refine Calls.mono h ?_
      rintro (v | ch | _) w2 q
      · exact q
      · exact q.elim
      · exact (no q).elim
    | _ => exact h
  | halt x w' => cases x <;> exact h.elim

structure Fit (l : List Oper) (ss : List Nat) (N : Nat) (NC : List Tmp) (m : List Bool) : Prop where
  fit : ∀ (i : Nat) o, l[i]? = some o → fitsW l ss N NC i o = true
  one : (dsts l).Nodup
  once : ss.Nodup
  chain : ∀ k s s', ss[k]? = some s → ss[k + 1]? = some s' → ∃ o, l[s']? = some o ∧ waits o s = true
  lt : ∀ s ∈ ss, s < l.length
  cov : ∀ i, i < l.length → i ∉ ss → m.getD i false = true
  lex : lexOk N (sel m l) = true
  nosel : ∀ o ∈ l, ∀ cs b, o.op ≠ .select cs b
  wd : ∀ d ∈ wdsts l ss, d ∉ dsts (sel m l)
theorem fit_of {m : List Bool} (h : writesB l ss N NC m = true) : Fit l ss N NC m := by
  unfold writesB at h
  simp only [Bool.and_eq_true] at h
  obtain ⟨h1, h2, h3, h4, h5, h6, h7, h8, h9⟩ := h
  refine ⟨fun i o ho => List.all_eq_true.1 h1 (o, i) (by rw [List.mem_zipIdx_iff_getElem?]; simpa using ho), of_decide_eq_true h2, of_decide_eq_true h3, chain_at ss h4, fun s hs => by have := List.all_eq_true.1 h5 s hs; simpa using this, fun i hi hn => ?_, h7, fun o ho cs b => ?_, fun d hd => by have := List.all_eq_true.1 h9 d hd; simpa using this⟩
  · have := List.all_eq_true.1 h6 i (List.mem_range.2 hi)
    simpa [hn] using this
  · obtain ⟨j, hj⟩ := List.mem_iff_getElem?.1 ho
    exact Region.noSelect_spec h8 j o cs b (by simpa using hj)

theorem any_writes {m : List Bool} (O : Fit l ss N NC m) (hF : ∀ t, t ∉ dsts l → got aF t = got a0 t) (hfs : aF.tmps.size = N) (hfd : aF.defers = a0.defers)
    (hW : ∀ d ∈ wdsts l ss, d ∉ NC → got aF d = got a1 d) (hMg : ∀ k vs W W', M k vs W → Cl W W' → M k vs W')
    (K0 : Nat) (hq : ∀ k vs W, k ≤ ss.length → M k vs W → ∀ (i : Nat) o, l[i]? = some o → i ∉ ss → (K0 < k → ∀ s p, ss[K0]? = some s → l[s]? = some p → waits p i = false) → ∀ d, o.dst = some d → ∀ w2, Cl W w2 → o.quietAt P aF (Cl W) w2 (got aF d))
    (hw : ∀ (k s : Nat) o, ss[k]? = some s → l[s]? = some o → ∀ a W, a.tmps.size = N → M k (NC.map (got a)) W → (∀ t ∈ looks o, t ∉ NC → got a t = got aF t) →
      o.wp P a W (fun a' W' => ∃ v, a' = a.put o.dst v ∧ (∀ d, o.dst = some d → d ∉ NC → v = got a1 d) ∧ M (k + 1) (NC.map (got a')) W') (fun _ _ _ => False))
    (hend : ∀ vs W, vs.length = NC.length → M ss.length vs W → Q .normal (putAll aF NC vs) W) :
    ∀ (f : Nat) (hl : Array Bool) (a : Act) (w : World), Inv l ss N NC M a0 aF hl a w → hl.toList.count false ≤ f → wpAny P .any l.toArray Q f hl a w := by
  have low : ∀ (i : Nat) o, l[i]? = some o → ∀ e ∈ o.after, Region.binds .any e = true → e.on < i := fun i o ho e he hb => by
    have h := O.fit i o ho
    unfold fitsW at h
    simp only [Bool.and_eq_true] at h
    have := Array.all_eq_true_iff_forall_mem.1 h.2.1 e he
    simpa [hb] using this
  have done : ∀ (hl : Array Bool) (a : Act) (w : World), Inv l ss N NC M a0 aF hl a w → (∀ i, i < l.length → hl.getD i false = true) → Q .normal a w := by
    intro hl a w I hall
    obtain ⟨k, hkl, hM, hk⟩ := I.phase
    have e : putAll aF NC (NC.map (got a)) = a := by
      refine putAll_eq (N := N) I.frame NC aF hfs (by rw [hfd, I.defers]) fun t ht => ?_
      by_cases q : t ∈ dsts l
      · obtain ⟨o, ho, hod⟩ := List.mem_filterMap.1 q
        obtain ⟨j, hj⟩ := List.mem_iff_getElem?.1 ho
        exact (I.const j o t hj (hall j (List.getElem?_eq_some_iff.1 hj).1) hod ht).symm
      · rw [I.old t q, hF t q]
    have hks : k ≥ ss.length := by
      rcases Nat.lt_or_ge k ss.length with q | q
      · have := (hk k _ (List.getElem?_eq_getElem q)).1 (hall _ (O.lt _ (List.getElem_mem q)))
        omega
      · exact q
    have := hend (NC.map (got a)) w (by simp) (by rwa [show ss.length = k by omega])
    rwa [e] at this
  -- the least one that is left is ready
  have some_ready : ∀ (hl : Array Bool), hl.size = l.length → Region.ready .any l.toArray hl = [] → ∀ i, i < l.length → hl.getD i false = true := by
    intro hl hs h0 i
    induction i using Nat.strongRecOn with
    | _ i ih =>
      intro hi
      cases q : hl.getD i false with
      | true => rfl
      | false =>
        have hun : hl.getD i true = false := by
          have hlt : i < hl.size := by omega
          simpa [hlt] using q
        have := (show i ∈ Region.ready .any l.toArray hl from mem_ready.2 ⟨hun, l[i], (by rw [List.getElem?_toArray]; exact List.getElem?_eq_getElem hi), fun e he hb => ih e.on (low i _ (List.getElem?_eq_getElem hi) e he hb) (by have := low i _ (List.getElem?_eq_getElem hi) e he hb; omega)⟩)
        rw [h0] at this; cases this
  intro f
  induction f with
  | zero =>
    intro hl a w I hc
    have hall : ∀ i, i < l.length → hl.getD i false = true := fun i hi => by
      cases q : hl.getD i false with
      | true => rfl
      | false =>
        have hlt : i < hl.size := by rw [I.size]; exact hi
        simp [hlt] at q
        have : false ∈ hl.toList := by rw [← q]; simp
        have := List.count_pos_iff.2 this
        omega
    refine ⟨?_, done hl a w I hall⟩
    cases hr : Region.ready .any l.toArray hl with
    | nil => rfl
    | cons i r =>
      obtain ⟨hun, o, ho, -⟩ := mem_ready.1 (show i ∈ Region.ready .any l.toArray hl by rw [hr]; exact List.mem_cons_self)
      have hi : i < l.length := by simpa using (Array.getElem?_eq_some_iff.1 ho).1
      have h1 := hall i hi
      rw [getD_both hun] at h1; cases h1
  | succ f ih =>
    intro hl a w I hc
    refine ⟨fun hr => done hl a w I (some_ready hl I.size hr), fun i hr => ?_⟩
    obtain ⟨hun, o, ho, hall⟩ := mem_ready.1 hr
    have ho' : l[i]? = some o := by simpa using ho
    have hi : i < l.length := (List.getElem?_eq_some_iff.1 ho').1
    have hil : i < hl.size := by rw [I.size]; exact hi
    have hsf : hl.getD i false = false := getD_both hun
    have hf := O.fit i o ho'
    unfold fitsW at hf
    simp only [Bool.and_eq_true] at hf
    obtain ⟨hg, -, ⟨hds, hlk⟩, hnc⟩ := hf
    have hg : o.guard = none := by simpa using hg
    have hcount : (hl.setIfInBounds i true).toList.count false ≤ f := by
      rw [Array.toList_setIfInBounds, List.count_set (by simpa using hil)]
      have hun' : hl[i] = false := by simpa [hil] using hun
      have hp : 0 < hl.toList.count false := List.count_pos_iff.2 (by rw [← hun']; simp)
      have hp' : hl.toList.count false - 1 ≤ f := by omega
      simpa [hun'] using hp'
    have cst : ∀ t ∈ looks o, t ∉ NC → got a t = got aF t := by
      intro t ht hn
      have h := List.all_eq_true.1 hlk t ht
      rw [Bool.or_eq_true] at h
      rcases h with h | h
      · have h : t ∉ dsts l := by simpa using h
        rw [I.old t h, hF t h]
      · rw [Array.any_eq_true'] at h
        obtain ⟨e, he, h⟩ := h
        rw [Bool.and_eq_true, beq_iff_eq] at h
        have hl' := hall e he h.1
        cases hp : l[e.on]? with
        | none => rw [hp] at h; simp at h
        | some p => rw [hp] at h; exact I.const e.on p t hp hl' (by simpa using h.2) hn
    have self : ∀ j, (hl.setIfInBounds i true).getD j false = true → j = i ∨ hl.getD j false = true := fun j h => by
      by_cases q : j = i
      · exact .inl q
      · exact .inr (set_false h q)
    -- what the frame is behind it
    have next : ∀ (v : Value) (w' : World), (∀ d, o.dst = some d → d ∉ NC → v = got aF d) → (∃ k, k ≤ ss.length ∧ M k (NC.map (got (a.put o.dst v))) w' ∧ ∀ (j s : Nat), ss[j]? = some s → ((hl.setIfInBounds i true).getD s false = true ↔ j < k)) →
        (∀ s p, s ∈ ss → l[s]? = some p → (hl.setIfInBounds i true).getD s false = true → ∀ j, waits p j = true → (hl.setIfInBounds i true).getD j false = true) →
        Inv l ss N NC M a0 aF (hl.setIfInBounds i true) (a.put o.dst v) w' := by
      intro v w' hv hp hcl
      cases hd : o.dst with
      | none =>
        rw [hd] at hp
        refine ⟨by simpa using I.size, I.frame, I.defers, I.old, fun j p d h1 h2 h3 h4 => ?_, hp, hcl⟩
        rcases self j h2 with rfl | h2
        · rw [ho'] at h1; cases h1; rw [hd] at h3; cases h3
        · exact I.const j p d h1 h2 h3 h4
      | some d =>
        rw [hd] at hp
        have hdN : d < N := by rw [hd] at hds; simpa using hds
        refine ⟨by simpa using I.size, by simpa [Act.put] using I.frame, I.defers, fun t ht => ?_, fun j p x h1 h2 h3 h4 => ?_, hp, hcl⟩
        · rw [got_put (fun e => ht (by rw [e]; exact mem_dsts ho' hd))]; exact I.old t ht
        · by_cases q : j = i
          · subst q; rw [ho'] at h1; cases h1; rw [hd] at h3; cases h3
            rw [got_set (by rw [I.frame]; exact hdN)]; exact hv d hd h4
          · rw [got_put (fun e => q (dst_one O.one h1 ho' (by rw [← e]; exact h3) hd))]; exact I.const j p x h1 (set_false h2 q) h3 h4
    have hcl : ∀ s p, s ∈ ss → l[s]? = some p → (hl.setIfInBounds i true).getD s false = true → ∀ j, waits p j = true → (hl.setIfInBounds i true).getD j false = true := fun s p hs hp h j hj => by
      rcases self s h with rfl | h
      · rw [ho'] at hp; cases hp
        obtain ⟨e, he, hb, hon⟩ := waits_iff hj
        exact getD_set_true (hon ▸ hall e he hb)
      · exact getD_set_true (I.closed s p hs hp h j hj)
    obtain ⟨k, hkl, hM, hk⟩ := I.phase
    unfold wpOp
    simp only [ho]
    rw [if_pos (show Region.wanted o (yielded l.toArray a.tmps) = true by simp [Region.wanted, hg])]
    refine .inl ?_
    by_cases his : i ∈ ss
    · -- a write: the next one
      obtain ⟨j, hj⟩ := List.mem_iff_getElem?.1 his
      have hjl : j < ss.length := (List.getElem?_eq_some_iff.1 hj).1
      have hkj : k = j := by
        have h1 : ¬ j < k := fun q => by have := (hk j i hj).2 q; rw [hsf] at this; cases this
        rcases Nat.lt_or_ge k j with q | q
        · obtain ⟨s0, hs0⟩ : ∃ s0, ss[j - 1]? = some s0 := ⟨_, List.getElem?_eq_getElem (show j - 1 < ss.length by omega)⟩
          obtain ⟨o2, ho2, hw2⟩ := O.chain (j - 1) s0 i hs0 (by rw [show j - 1 + 1 = j by omega]; exact hj)
          rw [ho'] at ho2; cases ho2
          obtain ⟨e, he, hb, hon⟩ := waits_iff hw2
          have := (hk (j - 1) s0 hs0).1 (hon ▸ hall e he hb)
          omega
        · omega
      subst hkj
      refine Oper.wp_mono ?_ (wp_noQ (hw k i o hj ho' a w I.frame hM cst))
      rintro a' w' ⟨v, rfl, hv, hM'⟩
      refine ih _ _ _ (next v w' (fun d hd hn => ?_) ⟨k + 1, by omega, hM', fun j s hs => ?_⟩ hcl) hcount
      · rw [hv d hd hn]
        exact (hW d (List.mem_filterMap.2 ⟨i, his, by rw [ho']; exact hd⟩) hn).symm
      · by_cases q : s = i
        · subst q
          have hjk : j = k := by
            exact (List.getElem?_inj (List.getElem?_eq_some_iff.1 hs).1 O.once).1 (hs.trans hj.symm)
          subst hjk
          simp [hil]
        · rw [getD_set_ne false (Ne.symm q), hk j s hs]
          have : j ≠ k := fun e => q (by rw [e, hj] at hs; cases hs; rfl)
          omega
    · -- it only reads
      have hnc : (∀ t ∈ looks o, t ∉ NC) ∧ ∃ d, o.dst = some d ∧ d ∉ NC := by
        simp only [Bool.or_eq_true, Bool.and_eq_true] at hnc
        rcases hnc with h | ⟨h1, h2⟩
        · exact absurd (by simpa using h) his
        · refine ⟨fun t ht => by have := List.all_eq_true.1 h1 t ht; simpa using this, ?_⟩
          cases hd : o.dst with
          | none => rw [hd] at h2; cases h2
          | some d => rw [hd] at h2; exact ⟨d, rfl, by simpa using h2⟩
      obtain ⟨c1, d, hd, c2⟩ := hnc
      have hx : execOp a.eval o = execOp aF.eval o := execOp_congr o (O.nosel o (List.mem_of_getElem? ho')) (looks_eval fun t ht => cst t ht (c1 t ht))
      refine Oper.wp_of_quiet (C := Cl w) (K := fun a'' => a'' = a.put o.dst (got aF d)) (Cl.of (Below.refl _ _)) ?_ ⟨got aF d, fun w2 h2 => ?_, rfl⟩
      · rintro a' w' hc' rfl
        have same : NC.map (got (a.put o.dst (got aF d))) = NC.map (got a) := by
          rw [hd]; exact List.map_congr_left fun t ht => got_put (fun e => c2 (e ▸ ht))
        refine ih _ _ _ (next (got aF d) w' (fun d' hd' _ => by rw [hd] at hd'; cases hd'; rfl) ⟨k, hkl, by rw [same]; exact hMg k _ w w' hM hc', fun j s hs => ?_⟩ hcl) hcount
        rw [getD_set_ne false (fun e => his (by rw [e]; exact List.mem_of_getElem? hs)), hk j s hs]
      · have := hq k _ w hkl hM i o ho' his (fun hK s p hs hp => by
          cases q : waits p i with
          | false => rfl
          | true =>
            have := I.closed s p (List.mem_of_getElem? hs) hp ((hk K0 s hs).2 hK) i q
            rw [hsf] at this; cases this) d hd w2 h2
        unfold Oper.quietAt at this ⊢
        rw [hx]
        exact this

/-- Behind write K0 only what m2 names may still come up. -/
def lateK (l : List Oper) (ss : List Nat) (K0 N : Nat) (m2 : List Bool) : Bool :=
  lexOk N (sel m2 l) && ((List.range l.length).all fun i => ss.contains i || (m2.getD i false || (ss[K0]?).any fun s => (l[s]?).any fun p => waits p i))
theorem lateK_of {K0 : Nat} {m2 : List Bool} (h : lateK l ss K0 N m2 = true) : lexOk N (sel m2 l) = true ∧ ∀ (i : Nat) o, l[i]? = some o → i ∉ ss → (∀ s p, ss[K0]? = some s → l[s]? = some p → waits p i = false) → m2.getD i false = true := by
  unfold lateK at h
  rw [Bool.and_eq_true] at h
  refine ⟨h.1, fun i o ho hi hf => ?_⟩
  have := List.all_eq_true.1 h.2 i (List.mem_range.2 (List.getElem?_eq_some_iff.1 ho).1)
  simp only [Bool.or_eq_true] at this
  rcases this with q | q | q
  · exact absurd (by simpa using q) hi
  · exact q
  · cases hs : ss[K0]? with
    | none => rw [hs] at q; cases q
    | some s =>
      rw [hs] at q
      cases hp : l[s]? with
      | none => simp [hp] at q
      | some p => simp [hp] at q; rw [hf s p hs hp] at q; cases q
/-- Where all may come up at any time. -/
theorem lateK_all (h : lexOk N (sel m0 l) = true) (hc : ∀ i, i < l.length → i ∉ ss → m0.getD i false = true) : lateK l ss ss.length N m0 = true := by
  unfold lateK
  rw [Bool.and_eq_true]
  refine ⟨h, List.all_eq_true.2 fun i hi => ?_⟩
  by_cases q : i ∈ ss
  · simp [q]
  · rw [hc i (List.mem_range.1 hi) q]; simp
/-- The law, in a form to be used: a1 is the frame at the start with the writes' results (but those of NC) already in their places; aF is what the walk leaves. -/
theorem any_region2 {a w} (NC : List Tmp) (ss : List Nat) (N K0 : Nat) (m m2 : List Bool) (M : Nat → List Value → World → Prop) (C : World → Prop) (a1 : Act) {aF : Act} (hB : writesB l ss N NC m = true)
    (ha : a.tmps.size = N) (ha1 : a1.tmps.size = N ∧ a1.defers = a.defers) (hold : ∀ t, t ∉ wdsts l ss → got a1 t = got a t)
    (hK : lateK l ss K0 N m2 = true) (hMC : ∀ k vs W, k ≤ K0 → M k vs W → C W) (hMg : ∀ k vs W W', M k vs W → Cl W W' → M k vs W') (h0 : M 0 (NC.map (got a)) w)
    (hq : ∀ W, C W → wpQuiet P l.toArray (Cl W) (fun a' => a' = aF) (sel m l) a1)
    (hq2 : ∀ k vs W, K0 < k → k ≤ ss.length → M k vs W → wpQuiet P l.toArray (Cl W) (fun a' => a' = aF) (sel m2 l) aF)
    (hw : ∀ (k s : Nat) o, ss[k]? = some s → l[s]? = some o → ∀ a W, a.tmps.size = N → M k (NC.map (got a)) W → (∀ t ∈ looks o, t ∉ NC → got a t = got aF t) →
      o.wp P a W (fun a' W' => ∃ v, a' = a.put o.dst v ∧ (∀ d, o.dst = some d → d ∉ NC → v = got a1 d) ∧ M (k + 1) (NC.map (got a')) W') (fun _ _ _ => False))
    (hend : ∀ vs W, vs.length = NC.length → M ss.length vs W → Q .normal (putAll aF NC vs) W) : wpAny P .any l.toArray Q l.toArray.size (Array.replicate l.toArray.size false) a w := by
  have O := fit_of hB
  have facts : ∀ W, C W → _ := fun W hW => lex_facts (sel m l) a1 (fun o ho => O.nosel o (sel_sub m _ o ho)) O.lex ha1.1 (hq W hW)
  obtain ⟨f1, f2, f3, -⟩ := facts w (hMC 0 _ _ (by omega) h0)
  refine any_writes (a0 := a) (a1 := a1) O (fun t ht => ?_) f1 (by rw [f2, ha1.2]) (fun d hd _ => f3 d (O.wd d hd)) hMg K0 (fun k vs W hkl hM i o ho his hfree d hd w2 h2 => ?_) hw hend _ _ a w ?_ (by simp)
  · rw [f3 t (fun q => ht (dsts_sub m l t q)), hold t fun q => ht ?_]
    obtain ⟨s, hs, h⟩ := List.mem_filterMap.1 q
    cases hp : l[s]? with
    | none => rw [hp] at h; cases h
    | some p => rw [hp] at h; exact mem_dsts hp h
  · rcases Nat.lt_or_ge K0 k with hlt | hge
    · obtain ⟨l1, l2⟩ := lateK_of hK
      have hm2 := l2 i o ho his fun s p hs hp => hfree hlt s p hs hp
      exact (lex_facts (sel m2 l) aF (fun o ho => O.nosel o (sel_sub m2 _ o ho)) l1 f1 (hq2 k vs W hlt hkl hM)).2.2.2 o (mem_sel m2 l i o ho hm2) d hd w2 h2
    · exact (facts W (hMC k _ _ hge hM)).2.2.2 o (mem_sel m l i o ho (O.cov i (List.getElem?_eq_some_iff.1 ho).1 his)) d hd w2 h2
  · exact ⟨by simp, ha, rfl, fun _ _ => rfl, fun i o d _ h => (by rw [getD_replicate_false] at h; cases h), ⟨0, by omega, h0, fun j s _ => ⟨fun h => (by rw [getD_replicate_false] at h; cases h), fun h => by omega⟩⟩, fun s p _ _ h => (by rw [getD_replicate_false] at h; cases h)⟩
theorem any_region {a w} (NC : List Tmp) (ss : List Nat) (N : Nat) (m : List Bool) (M : Nat → List Value → World → Prop) (C : World → Prop) (a1 : Act) {aF : Act} (hB : writesB l ss N NC m = true)
    (ha : a.tmps.size = N) (ha1 : a1.tmps.size = N ∧ a1.defers = a.defers) (hold : ∀ t, t ∉ wdsts l ss → got a1 t = got a t)
    (hMC : ∀ k vs W, M k vs W → C W) (hMg : ∀ k vs W W', M k vs W → Cl W W' → M k vs W') (h0 : M 0 (NC.map (got a)) w)
    (hq : ∀ W, C W → wpQuiet P l.toArray (Cl W) (fun a' => a' = aF) (sel m l) a1)
    (hw : ∀ (k s : Nat) o, ss[k]? = some s → l[s]? = some o → ∀ a W, a.tmps.size = N → M k (NC.map (got a)) W → (∀ t ∈ looks o, t ∉ NC → got a t = got aF t) →
      o.wp P a W (fun a' W' => ∃ v, a' = a.put o.dst v ∧ (∀ d, o.dst = some d → d ∉ NC → v = got a1 d) ∧ M (k + 1) (NC.map (got a')) W') (fun _ _ _ => False))
    (hend : ∀ vs W, vs.length = NC.length → M ss.length vs W → Q .normal (putAll aF NC vs) W) : wpAny P .any l.toArray Q l.toArray.size (Array.replicate l.toArray.size false) a w :=
  any_region2 NC ss N ss.length m m M C a1 hB ha ha1 hold (lateK_all (fit_of hB).lex (fit_of hB).cov) (fun k vs W _ => hMC k vs W) hMg h0 hq (fun k _ _ h1 h2 => by omega) hw hend
theorem wp_region_writes {id : Nat} {a w} (NC : List Tmp) (ss : List Nat) (N : Nat) (m : List Bool) (M : Nat → List Value → World → Prop) (C : World → Prop) (a1 : Act) {aF : Act} (hm : P.follows .mixedOrders = true) (hB : writesB l ss N NC m = true)
    (ha : a.tmps.size = N) (ha1 : a1.tmps.size = N ∧ a1.defers = a.defers) (hold : ∀ t, t ∉ wdsts l ss → got a1 t = got a t)
    (hMC : ∀ k vs W, M k vs W → C W) (hMg : ∀ k vs W W', M k vs W → Cl W W' → M k vs W') (h0 : M 0 (NC.map (got a)) w)
    (hq : ∀ W, C W → wpQuiet P l.toArray (Cl W) (fun a' => a' = aF) (sel m l) a1)
    (hw : ∀ (k s : Nat) o, ss[k]? = some s → l[s]? = some o → ∀ a W, a.tmps.size = N → M k (NC.map (got a)) W → (∀ t ∈ looks o, t ∉ NC → got a t = got aF t) →
      o.wp P a W (fun a' W' => ∃ v, a' = a.put o.dst v ∧ (∀ d, o.dst = some d → d ∉ NC → v = got a1 d) ∧ M (k + 1) (NC.map (got a')) W') (fun _ _ _ => False))
    (hend : ∀ vs W, vs.length = NC.length → M ss.length vs W → Q .normal (putAll aF NC vs) W) : (Code.region id l.toArray true).wp P Q a w :=
  wp_region_any hm (any_region NC ss N m M C a1 hB ha ha1 hold hMC hMg (hMg _ _ w _ h0 (Cl.of (Below.refl _ w).drew)) hq hw hend)
theorem wpIn_region_writes {lp mm : Nat} {id : Nat} {a w} (NC : List Tmp) (ss : List Nat) (N : Nat) (m : List Bool) (M : Nat → List Value → World → Prop) (C : World → Prop) (a1 : Act) {aF : Act} (hm : P.follows .mixedOrders = true) (hB : writesB l ss N NC m = true) (hc : Rn.calm l = true) (hL : ¬ LetsOut Q)
    (ha : a.tmps.size = N) (ha1 : a1.tmps.size = N ∧ a1.defers = a.defers) (hold : ∀ t, t ∉ wdsts l ss → got a1 t = got a t)
    (hMC : ∀ k vs W, M k vs W → C W) (hMg : ∀ k vs W W', M k vs W → Cl W W' → M k vs W') (h0 : M 0 (NC.map (got a)) w)
    (hq : ∀ W, C W → wpQuiet P l.toArray (Cl W) (fun a' => a' = aF) (sel m l) a1)
    (hw : ∀ (k s : Nat) o, ss[k]? = some s → l[s]? = some o → ∀ a W, a.tmps.size = N → M k (NC.map (got a)) W → (∀ t ∈ looks o, t ∉ NC → got a t = got aF t) →
      o.wp P a W (fun a' W' => ∃ v, a' = a.put o.dst v ∧ (∀ d, o.dst = some d → d ∉ NC → v = got a1 d) ∧ M (k + 1) (NC.map (got a')) W') (fun _ _ _ => False))
    (hend : ∀ vs W, vs.length = NC.length → M ss.length vs W → Q .normal (putAll aF NC vs) W) : (Code.region id l.toArray true).wpIn (Fence.wide.inRound lp) mm P Q a w :=
  wpIn_region_any hm (Rn.any_in (Rn.calm_of hc) hL _ _ _ _ (any_region NC ss N m M C a1 hB ha ha1 hold hMC hMg (hMg _ _ w _ h0 (Cl.of (Below.refl _ w).drew)) hq hw hend))

theorem wp_region_writes2 {id : Nat} {a w} (NC : List Tmp) (ss : List Nat) (N K0 : Nat) (m m2 : List Bool) (M : Nat → List Value → World → Prop) (C : World → Prop) (a1 : Act) {aF : Act} (hm : P.follows .mixedOrders = true) (hB : writesB l ss N NC m = true) (hK : lateK l ss K0 N m2 = true) 
    (ha : a.tmps.size = N) (ha1 : a1.tmps.size = N ∧ a1.defers = a.defers) (hold : ∀ t, t ∉ wdsts l ss → got a1 t = got a t)
    (hMC : ∀ k vs W, k ≤ K0 → M k vs W → C W) (hMg : ∀ k vs W W', M k vs W → Cl W W' → M k vs W') (h0 : M 0 (NC.map (got a)) w)
    (hq : ∀ W, C W → wpQuiet P l.toArray (fun w' => ∃ p : Regrown, w' = Sort.grow (redrawn W p.d) p.os) (fun a' => a' = aF) (sel m l) a1)
    (hq2 : ∀ k vs W, K0 < k → k ≤ ss.length → M k vs W → wpQuiet P l.toArray (fun w' => ∃ p : Regrown, w' = Sort.grow (redrawn W p.d) p.os) (fun a' => a' = aF) (sel m2 l) aF)
    (hw : ∀ (k s : Nat) o, ss[k]? = some s → l[s]? = some o → ∀ a W, a.tmps.size = N → M k (NC.map (got a)) W → (∀ t ∈ looks o, t ∉ NC → got a t = got aF t) →
      o.wp P a W (fun a' W' => ∃ v, a' = a.put o.dst v ∧ (∀ d, o.dst = some d → d ∉ NC → v = got a1 d) ∧ M (k + 1) (NC.map (got a')) W') (fun _ _ _ => False))
    (hend : ∀ vs W, vs.length = NC.length → M ss.length vs W → Q .normal (putAll aF NC vs) W) : (Code.region id l.toArray true).wp P Q a w :=
  wp_region_any hm (any_region2 NC ss N K0 m m2 M C a1 hB ha ha1 hold hK hMC hMg (hMg _ _ w _ h0 (Cl.of (Below.refl _ w).drew)) hq hq2 hw hend)
theorem wpIn_region_writes2 {lp mm : Nat} {id : Nat} {a w} (NC : List Tmp) (ss : List Nat) (N K0 : Nat) (m m2 : List Bool) (M : Nat → List Value → World → Prop) (C : World → Prop) (a1 : Act) {aF : Act} (hm : P.follows .mixedOrders = true) (hB : writesB l ss N NC m = true) (hK : lateK l ss K0 N m2 = true) (hc : Rn.calm l = true) (hL : ¬ LetsOut Q)
    (ha : a.tmps.size = N) (ha1 : a1.tmps.size = N ∧ a1.defers = a.defers) (hold : ∀ t, t ∉ wdsts l ss → got a1 t = got a t)
    (hMC : ∀ k vs W, k ≤ K0 → M k vs W → C W) (hMg : ∀ k vs W W', M k vs W → Cl W W' → M k vs W') (h0 : M 0 (NC.map (got a)) w)
    (hq : ∀ W, C W → wpQuiet P l.toArray (fun w' => ∃ p : Regrown, w' = Sort.grow (redrawn W p.d) p.os) (fun a' => a' = aF) (sel m l) a1)
    (hq2 : ∀ k vs W, K0 < k → k ≤ ss.length → M k vs W → wpQuiet P l.toArray (fun w' => ∃ p : Regrown, w' = Sort.grow (redrawn W p.d) p.os) (fun a' => a' = aF) (sel m2 l) aF)
    (hw : ∀ (k s : Nat) o, ss[k]? = some s → l[s]? = some o → ∀ a W, a.tmps.size = N → M k (NC.map (got a)) W → (∀ t ∈ looks o, t ∉ NC → got a t = got aF t) →
      o.wp P a W (fun a' W' => ∃ v, a' = a.put o.dst v ∧ (∀ d, o.dst = some d → d ∉ NC → v = got a1 d) ∧ M (k + 1) (NC.map (got a')) W') (fun _ _ _ => False))
    (hend : ∀ vs W, vs.length = NC.length → M ss.length vs W → Q .normal (putAll aF NC vs) W) : (Code.region id l.toArray true).wpIn (Fence.wide.inRound lp) mm P Q a w :=
  wpIn_region_any hm (Rn.any_in (Rn.calm_of hc) hL _ _ _ _ (any_region2 NC ss N K0 m m2 M C a1 hB ha ha1 hold hK hMC hMg (hMg _ _ w _ h0 (Cl.of (Below.refl _ w).drew)) hq hq2 hw hend))
/-- Where no place is told apart: the writes' duties at the last frame. -/
theorem duty_at {a1 aF : Act} {Mw : Nat → World → Prop} (hB : writesB l ss N [] m0 = true) (hfs : aF.tmps.size = N)
    (hw : ∀ (k s : Nat) o, ss[k]? = some s → l[s]? = some o → ∀ W, Mw k W → o.wp P aF W (fun a' W' => ∃ v, a' = aF.put o.dst v ∧ (∀ d, o.dst = some d → v = got a1 d) ∧ Mw (k + 1) W') (fun _ _ _ => False)) :
    ∀ (k s : Nat) o, ss[k]? = some s → l[s]? = some o → ∀ a W, a.tmps.size = N → Mw k W → (∀ t ∈ looks o, t ∉ ([] : List Tmp) → got a t = got aF t) →
      o.wp P a W (fun a' W' => ∃ v, a' = a.put o.dst v ∧ (∀ d, o.dst = some d → d ∉ ([] : List Tmp) → v = got a1 d) ∧ Mw (k + 1) W') (fun _ _ _ => False) := fun k s o hs ho a W _ hM hl => by
  have O := fit_of hB
  have hd : ∀ d, o.dst = some d → d < aF.tmps.size := fun d h => by
    have := O.fit s o ho
    unfold fitsW at this
    simp only [Bool.and_eq_true] at this
    have := this.2.2.1.1
    rw [h] at this
    rw [hfs]; simpa using this
  refine Oper.wp_mono ?_ (wp_swap (R := fun v W' => (∀ d, o.dst = some d → v = got a1 d) ∧ Mw (k + 1) W') (execOp_congr o (O.nosel o (List.mem_of_getElem? ho)) (looks_eval fun t ht => hl t ht (by simp))) hd (hw k s o hs ho W hM))
  rintro a' W' ⟨v, h1, h2, h3⟩
  exact ⟨v, h1, fun d hd _ => h2 d hd, h3⟩
theorem size_at {a1 aF : Act} {C : World → Prop} {w : World} (hB : writesB l ss N NC m0 = true) (ha1 : a1.tmps.size = N) (h0 : C w) (hq : ∀ W, C W → wpQuiet P l.toArray (Cl W) (fun a' => a' = aF) (sel m0 l) a1) : aF.tmps.size = N :=
  have O := fit_of hB
  (lex_facts (sel m0 l) a1 (fun o ho => O.nosel o (sel_sub m0 _ o ho)) O.lex ha1 (hq w h0)).1
theorem wp_region_writes0 {id : Nat} {a w} (ss : List Nat) (N : Nat) (m : List Bool) (M : Nat → World → Prop) (C : World → Prop) (a1 : Act) {aF : Act} (hm : P.follows .mixedOrders = true) (hB : writesB l ss N [] m = true)
    (ha : a.tmps.size = N) (ha1 : a1.tmps.size = N ∧ a1.defers = a.defers) (hold : ∀ t, t ∉ wdsts l ss → got a1 t = got a t)
    (hMC : ∀ k W, M k W → C W) (hMg : ∀ k W W', M k W → Cl W W' → M k W') (h0 : M 0 w)
    (hq : ∀ W, C W → wpQuiet P l.toArray (Cl W) (fun a' => a' = aF) (sel m l) a1)
    (hw : ∀ (k s : Nat) o, ss[k]? = some s → l[s]? = some o → ∀ W, M k W → o.wp P aF W (fun a' W' => ∃ v, a' = aF.put o.dst v ∧ (∀ d, o.dst = some d → v = got a1 d) ∧ M (k + 1) W') (fun _ _ _ => False))
    (hend : ∀ W, M ss.length W → Q .normal aF W) : (Code.region id l.toArray true).wp P Q a w :=
  wp_region_writes [] ss N m (fun k _ W => M k W) C a1 hm hB ha ha1 hold (fun k _ W => hMC k W) (fun k _ W W' => hMg k W W') h0 hq (duty_at hB (size_at hB ha1.1 (hMC _ _ h0) hq) hw) (fun vs W h hM => by
    obtain rfl : vs = [] := List.length_eq_zero_iff.1 h
    exact hend W hM)
theorem wpIn_region_writes0 {lp mm : Nat} {id : Nat} {a w} (ss : List Nat) (N : Nat) (m : List Bool) (M : Nat → World → Prop) (C : World → Prop) (a1 : Act) {aF : Act} (hm : P.follows .mixedOrders = true) (hB : writesB l ss N [] m = true) (hc : Rn.calm l = true) (hL : ¬ LetsOut Q)
    (ha : a.tmps.size = N) (ha1 : a1.tmps.size = N ∧ a1.defers = a.defers) (hold : ∀ t, t ∉ wdsts l ss → got a1 t = got a t)
    (hMC : ∀ k W, M k W → C W) (hMg : ∀ k W W', M k W → Cl W W' → M k W') (h0 : M 0 w)
    (hq : ∀ W, C W → wpQuiet P l.toArray (Cl W) (fun a' => a' = aF) (sel m l) a1)
    (hw : ∀ (k s : Nat) o, ss[k]? = some s → l[s]? = some o → ∀ W, M k W → o.wp P aF W (fun a' W' => ∃ v, a' = aF.put o.dst v ∧ (∀ d, o.dst = some d → v = got a1 d) ∧ M (k + 1) W') (fun _ _ _ => False))
    (hend : ∀ W, M ss.length W → Q .normal aF W) : (Code.region id l.toArray true).wpIn (Fence.wide.inRound lp) mm P Q a w :=
  wpIn_region_writes [] ss N m (fun k _ W => M k W) C a1 hm hB hc hL ha ha1 hold (fun k _ W => hMC k W) (fun k _ W W' => hMg k W W') h0 hq (duty_at hB (size_at hB ha1.1 (hMC _ _ h0) hq) hw) (fun vs W h hM => by
    obtain rfl : vs = [] := List.length_eq_zero_iff.1 h
    exact hend W hM)

theorem hold1 {a : Act} {d : Tmp} {v : Value} (h : wdsts l ss = [d]) : ∀ t, t ∉ wdsts l ss → got (a.put (some d) v) t = got a t := fun t ht => got_put fun e => ht (by rw [h, e]; simp)
theorem hold0 {a : Act} : ∀ t, t ∉ wdsts l ss → got a t = got a t := fun _ _ => rfl
/-- A call of a Go function, by its contract. -/
theorem wp_fn {o : Oper} {a : Act} {W : World} {K : Act → World → Prop} {f : FuncId} {args : Array Value} {R : Ending → World → Prop} (hx : (execOp a.eval o).run P W = .ok (.enter f args) W) (h : Calls P f args W R)
    (hR : ∀ e W', R e W' → ∃ v, e = .returned v ∧ K (a.put o.dst v) W') : o.wp P a W K Q := by
  unfold Oper.wp
  rw [hx]
  refine Calls.mono h ?_
  intro e W' q
  obtain ⟨v, rfl, hk⟩ := hR e W' q
  exact hk
theorem wp_w0 {id : Nat} {a w} (ss : List Nat) (N : Nat) (m : List Bool) (M : Nat → World → Prop) (C : World → Prop) {aF : Act} (hm : P.follows .mixedOrders = true) (hB : writesB l ss N [] m = true) (hwd : wdsts l ss = []) 
    (ha : a.tmps.size = N) (hMC : ∀ k W, M k W → C W) (hMg : ∀ k W W', M k W → Cl W W' → M k W') (h0 : M 0 w) (hq : ∀ W, C W → wpQuiet P l.toArray (fun w' => ∃ p : Regrown, w' = Sort.grow (redrawn W p.d) p.os) (fun a' => a' = aF) (sel m l) a)
    (hw : ∀ (k s : Nat) o, ss[k]? = some s → l[s]? = some o → ∀ W, M k W → o.wp P aF W (fun a' W' => ∃ v', a' = aF.put o.dst v' ∧ True ∧ M (k + 1) W') (fun _ _ _ => False))
    (hend : ∀ W, M ss.length W → Q .normal aF W) : (Code.region id l.toArray true).wp P Q a w :=
  wp_region_writes0 ss N m M C a hm hB ha ⟨ha, rfl⟩ hold0 hMC hMg h0 hq (fun k s o hs ho W hM => Oper.wp_mono (fun _ _ q => by
    obtain ⟨v', h1, h2, h3⟩ := q
    refine ⟨v', h1, fun x hx => ?_, h3⟩
    have hm : x ∈ wdsts l ss := List.mem_filterMap.2 ⟨s, List.mem_of_getElem? hs, by rw [ho]; exact hx⟩
    rw [hwd] at hm
    cases hm) (hw k s o hs ho W hM)) hend
theorem wp_w1 {id : Nat} {a w} (ss : List Nat) (N : Nat) (m : List Bool) (d : Tmp) (v : Value) (M : Nat → World → Prop) (C : World → Prop) {aF : Act} (hm : P.follows .mixedOrders = true) (hB : writesB l ss N [] m = true) (hwd : wdsts l ss = [d]) 
    (ha : a.tmps.size = N) (hMC : ∀ k W, M k W → C W) (hMg : ∀ k W W', M k W → Cl W W' → M k W') (h0 : M 0 w) (hq : ∀ W, C W → wpQuiet P l.toArray (fun w' => ∃ p : Regrown, w' = Sort.grow (redrawn W p.d) p.os) (fun a' => a' = aF) (sel m l) (a.put (some d) v))
    (hw : ∀ (k s : Nat) o, ss[k]? = some s → l[s]? = some o → ∀ W, M k W → o.wp P aF W (fun a' W' => ∃ v', a' = aF.put o.dst v' ∧ (∀ x, o.dst = some x → x = d → v' = v) ∧ M (k + 1) W') (fun _ _ _ => False))
    (hend : ∀ W, M ss.length W → Q .normal aF W) : (Code.region id l.toArray true).wp P Q a w :=
  wp_region_writes0 ss N m M C (a.put (some d) v) hm hB ha ⟨by simpa [Act.put] using ha, rfl⟩ (hold1 hwd) hMC hMg h0 hq (fun k s o hs ho W hM => Oper.wp_mono (fun _ _ q => by
    obtain ⟨v', h1, h2, h3⟩ := q
    refine ⟨v', h1, fun x hx => ?_, h3⟩
    have hm : x ∈ wdsts l ss := List.mem_filterMap.2 ⟨s, List.mem_of_getElem? hs, by rw [ho]; exact hx⟩
    rw [hwd] at hm
    obtain rfl := List.mem_singleton.1 hm
    have hd : x < a.tmps.size := by
      have := (fit_of hB).fit s o ho
      unfold fitsW at this
      simp only [Bool.and_eq_true] at this
      have := this.2.2.1.1
      rw [hx] at this
      rw [ha]; simpa using this
    rw [h2 x hx rfl, got_set hd]) (hw k s o hs ho W hM)) hend
theorem wpIn_w0 {lp mm : Nat} {id : Nat} {a w} (ss : List Nat) (N : Nat) (m : List Bool) (M : Nat → World → Prop) (C : World → Prop) {aF : Act} (hm : P.follows .mixedOrders = true) (hB : writesB l ss N [] m = true) (hwd : wdsts l ss = []) (hc : Rn.calm l = true) (hL : ¬ LetsOut Q) 
    (ha : a.tmps.size = N) (hMC : ∀ k W, M k W → C W) (hMg : ∀ k W W', M k W → Cl W W' → M k W') (h0 : M 0 w) (hq : ∀ W, C W → wpQuiet P l.toArray (fun w' => ∃ p : Regrown, w' = Sort.grow (redrawn W p.d) p.os) (fun a' => a' = aF) (sel m l) a)
    (hw : ∀ (k s : Nat) o, ss[k]? = some s → l[s]? = some o → ∀ W, M k W → o.wp P aF W (fun a' W' => ∃ v', a' = aF.put o.dst v' ∧ True ∧ M (k + 1) W') (fun _ _ _ => False))
    (hend : ∀ W, M ss.length W → Q .normal aF W) : (Code.region id l.toArray true).wpIn (Fence.wide.inRound lp) mm P Q a w :=
  wpIn_region_writes0 ss N m M C a hm hB hc hL ha ⟨ha, rfl⟩ hold0 hMC hMg h0 hq (fun k s o hs ho W hM => Oper.wp_mono (fun _ _ q => by
    obtain ⟨v', h1, h2, h3⟩ := q
    refine ⟨v', h1, fun x hx => ?_, h3⟩
    have hm : x ∈ wdsts l ss := List.mem_filterMap.2 ⟨s, List.mem_of_getElem? hs, by rw [ho]; exact hx⟩
    rw [hwd] at hm
    cases hm) (hw k s o hs ho W hM)) hend
theorem wpIn_w1 {lp mm : Nat} {id : Nat} {a w} (ss : List Nat) (N : Nat) (m : List Bool) (d : Tmp) (v : Value) (M : Nat → World → Prop) (C : World → Prop) {aF : Act} (hm : P.follows .mixedOrders = true) (hB : writesB l ss N [] m = true) (hwd : wdsts l ss = [d]) (hc : Rn.calm l = true) (hL : ¬ LetsOut Q) 
    (ha : a.tmps.size = N) (hMC : ∀ k W, M k W → C W) (hMg : ∀ k W W', M k W → Cl W W' → M k W') (h0 : M 0 w) (hq : ∀ W, C W → wpQuiet P l.toArray (fun w' => ∃ p : Regrown, w' = Sort.grow (redrawn W p.d) p.os) (fun a' => a' = aF) (sel m l) (a.put (some d) v))
    (hw : ∀ (k s : Nat) o, ss[k]? = some s → l[s]? = some o → ∀ W, M k W → o.wp P aF W (fun a' W' => ∃ v', a' = aF.put o.dst v' ∧ (∀ x, o.dst = some x → x = d → v' = v) ∧ M (k + 1) W') (fun _ _ _ => False))
    (hend : ∀ W, M ss.length W → Q .normal aF W) : (Code.region id l.toArray true).wpIn (Fence.wide.inRound lp) mm P Q a w :=
  wpIn_region_writes0 ss N m M C (a.put (some d) v) hm hB hc hL ha ⟨by simpa [Act.put] using ha, rfl⟩ (hold1 hwd) hMC hMg h0 hq (fun k s o hs ho W hM => Oper.wp_mono (fun _ _ q => by
    obtain ⟨v', h1, h2, h3⟩ := q
    refine ⟨v', h1, fun x hx => ?_, h3⟩
    have hm : x ∈ wdsts l ss := List.mem_filterMap.2 ⟨s, List.mem_of_getElem? hs, by rw [ho]; exact hx⟩
    rw [hwd] at hm
    obtain rfl := List.mem_singleton.1 hm
    have hd : x < a.tmps.size := by
      have := (fit_of hB).fit s o ho
      unfold fitsW at this
      simp only [Bool.and_eq_true] at this
      have := this.2.2.1.1
      rw [hx] at this
      rw [ha]; simpa using this
    rw [h2 x hx rfl, got_set hd]) (hw k s o hs ho W hM)) hend

theorem got_putAll_not : ∀ (NC : List Tmp) (vs : List Value) (a : Act) (t : Tmp), t ∉ NC → got (putAll a NC vs) t = got a t
  | [], _, _, _, _ => rfl
  | _ :: _, [], _, _, _ => rfl
  | x :: NC, v :: vs, a, t, h => by
    have := got_putAll_not NC vs (a.put (some x) v) t (fun q => h (List.mem_cons_of_mem _ q))
    rw [got_put (fun e => h (by rw [e]; exact List.mem_cons_self))] at this
    exact this
theorem size_putAll : ∀ (NC : List Tmp) (vs : List Value) (a : Act), (putAll a NC vs).tmps.size = a.tmps.size
  | [], _, _ => rfl
  | _ :: _, [], _ => rfl
  | x :: NC, v :: vs, a => by
    exact (size_putAll NC vs (a.put (some x) v)).trans (by simp [Act.put])
theorem got_putAll (b : Act) : ∀ (NC : List Tmp) (a : Act), NC.Nodup → (∀ t ∈ NC, t < a.tmps.size) → ∀ t ∈ NC, got (putAll a NC (NC.map (got b))) t = got b t
  | x :: NC, a, hn, hs, t, ht => by
    have hn := List.nodup_cons.1 hn
    have e : putAll a (x :: NC) ((x :: NC).map (got b)) = putAll (a.put (some x) (got b x)) NC (NC.map (got b)) := rfl
    rw [e]
    by_cases q : t ∈ NC
    · exact got_putAll b NC _ hn.2 (fun u hu => by have := hs u (List.mem_cons_of_mem _ hu); simpa [Act.put] using this) t q
    · obtain rfl : t = x := by
        rcases List.mem_cons.1 ht with h | h
        · exact h
        · exact absurd h q
      rw [got_putAll_not _ _ _ _ q, got_set (hs t List.mem_cons_self)]
/-- The writes' duties at the last frame, what is told apart in its places. -/
theorem duty_nc {a1 aF : Act} (hB : writesB l ss N NC m0 = true) (hNC : NC.Nodup ∧ ∀ t ∈ NC, t < N) (hfs : aF.tmps.size = N)
    (hw : ∀ (k s : Nat) o, ss[k]? = some s → l[s]? = some o → ∀ vs W, vs.length = NC.length → M k vs W →
      o.wp P (putAll aF NC vs) W (fun a' W' => ∃ v, a' = (putAll aF NC vs).put o.dst v ∧ (∀ d, o.dst = some d → d ∉ NC → v = got a1 d) ∧ M (k + 1) (NC.map (got a')) W') (fun _ _ _ => False)) :
    ∀ (k s : Nat) o, ss[k]? = some s → l[s]? = some o → ∀ a W, a.tmps.size = N → M k (NC.map (got a)) W → (∀ t ∈ looks o, t ∉ NC → got a t = got aF t) →
      o.wp P a W (fun a' W' => ∃ v, a' = a.put o.dst v ∧ (∀ d, o.dst = some d → d ∉ NC → v = got a1 d) ∧ M (k + 1) (NC.map (got a')) W') (fun _ _ _ => False) := fun k s o hs ho a W ha hM hl => by
  have O := fit_of hB
  have hd : ∀ d, o.dst = some d → d < N := fun d h => by
    have := O.fit s o ho
    unfold fitsW at this
    simp only [Bool.and_eq_true] at this
    have := this.2.2.1.1
    rw [h] at this
    simpa using this
  have hin : ∀ t ∈ NC, got (putAll aF NC (NC.map (got a))) t = got a t := got_putAll a NC aF hNC.1 (fun t ht => by rw [hfs]; exact hNC.2 t ht)
  have same : ∀ v, NC.map (got (a.put o.dst v)) = NC.map (got ((putAll aF NC (NC.map (got a))).put o.dst v)) := fun v => by
    cases hq : o.dst with
    | none => exact List.map_congr_left fun t ht => (hin t ht).symm
    | some d =>
      refine List.map_congr_left fun t ht => ?_
      by_cases e : t = d
      · subst e
        rw [got_set (by rw [ha]; exact hd t hq), got_set (by rw [size_putAll, hfs]; exact hd t hq)]
      · rw [got_put e, got_put e, hin t ht]
  refine Oper.wp_mono ?_ (wp_swap (aF := putAll aF NC (NC.map (got a))) (R := fun v W' => (∀ d, o.dst = some d → d ∉ NC → v = got a1 d) ∧ M (k + 1) (NC.map (got ((putAll aF NC (NC.map (got a))).put o.dst v))) W') (execOp_congr o (O.nosel o (List.mem_of_getElem? ho)) (looks_eval fun t ht => ?_)) (fun d h => by rw [size_putAll, hfs]; exact hd d h) (Oper.wp_mono ?_ (hw k s o hs ho (NC.map (got a)) W (by simp) hM)))
  · rintro a' W' ⟨v, rfl, h2, h3⟩
    exact ⟨v, rfl, h2, by rw [same v]; exact h3⟩
  · by_cases q : t ∈ NC
    · exact (hin t q).symm
    · rw [got_putAll_not _ _ _ _ q]; exact hl t ht q
  · rintro a' W' ⟨v, rfl, h2, h3⟩
    exact ⟨v, rfl, h2, h3⟩
theorem wp_writes {id : Nat} {a w} (NC : List Tmp) (ss : List Nat) (N K0 : Nat) (m m2 : List Bool) (ds : List (Tmp × Value)) (M : Nat → List Value → World → Prop) (C : World → Prop) {aF : Act} (hm : P.follows .mixedOrders = true) (hB : writesB l ss N NC m = true) (hK : lateK l ss K0 N m2 = true) (hNC : (decide NC.Nodup && (NC.all fun t => decide (t < N))) = true) (hds : ds.map (·.1) = wdsts l ss) 
    (ha : a.tmps.size = N) (hMC : ∀ k vs W, k ≤ K0 → M k vs W → C W) (hMg : ∀ k vs W W', M k vs W → Cl W W' → M k vs W') (h0 : ∀ vs, vs.length = NC.length → M 0 vs w)
    (hq : ∀ W, C W → wpQuiet P l.toArray (fun w' => ∃ p : Regrown, w' = Sort.grow (redrawn W p.d) p.os) (fun a' => a' = aF) (sel m l) (putAll a (ds.map (·.1)) (ds.map (·.2))))
    (hq2 : ∀ k vs W, K0 < k → k ≤ ss.length → M k vs W → wpQuiet P l.toArray (fun w' => ∃ p : Regrown, w' = Sort.grow (redrawn W p.d) p.os) (fun a' => a' = aF) (sel m2 l) aF)
    (hw : ∀ (k s : Nat) o, ss[k]? = some s → l[s]? = some o → ∀ vs W, vs.length = NC.length → M k vs W →
      o.wp P (putAll aF NC vs) W (fun a' W' => ∃ v, a' = (putAll aF NC vs).put o.dst v ∧ (∀ d, o.dst = some d → d ∉ NC → v = got (putAll a (ds.map (·.1)) (ds.map (·.2))) d) ∧ M (k + 1) (NC.map (got a')) W') (fun _ _ _ => False))
    (hend : ∀ vs W, vs.length = NC.length → M ss.length vs W → Q .normal (putAll aF NC vs) W) : (Code.region id l.toArray true).wp P Q a w := by
  have hn : NC.Nodup ∧ ∀ t ∈ NC, t < N := by
    rw [Bool.and_eq_true] at hNC
    exact ⟨of_decide_eq_true hNC.1, fun t ht => by have := List.all_eq_true.1 hNC.2 t ht; simpa using this⟩
  have ha1 : (putAll a (ds.map (·.1)) (ds.map (·.2))).tmps.size = N := by rw [size_putAll, ha]
  have hd1 : ∀ (NC : List Tmp) (vs : List Value) (a : Act), (putAll a NC vs).defers = a.defers := fun NC => by
    induction NC with
    | nil => intro vs a; rfl
    | cons x NC ih =>
      intro vs a
      cases vs with
      | nil => rfl
      | cons v vs =>
        have := ih vs (a.put (some x) v)
        exact this
  have hfs : aF.tmps.size = N := size_at hB ha1 (hMC 0 _ _ (by omega) (h0 (NC.map (got a)) (by simp))) hq
  exact wp_region_writes2 NC ss N K0 m m2 M C _ hm hB hK ha ⟨ha1, hd1 _ _ _⟩ (fun t ht => got_putAll_not _ _ _ _ (by rw [hds]; exact ht)) hMC hMg (h0 _ (by simp)) hq hq2 (duty_nc hB hn hfs hw) hend
theorem wpIn_writes {lp mm : Nat} {id : Nat} {a w} (NC : List Tmp) (ss : List Nat) (N K0 : Nat) (m m2 : List Bool) (ds : List (Tmp × Value)) (M : Nat → List Value → World → Prop) (C : World → Prop) {aF : Act} (hm : P.follows .mixedOrders = true) (hB : writesB l ss N NC m = true) (hK : lateK l ss K0 N m2 = true) (hNC : (decide NC.Nodup && (NC.all fun t => decide (t < N))) = true) (hds : ds.map (·.1) = wdsts l ss) (hc : Rn.calm l = true) (hL : ¬ LetsOut Q)
    (ha : a.tmps.size = N) (hMC : ∀ k vs W, k ≤ K0 → M k vs W → C W) (hMg : ∀ k vs W W', M k vs W → Cl W W' → M k vs W') (h0 : ∀ vs, vs.length = NC.length → M 0 vs w)
    (hq : ∀ W, C W → wpQuiet P l.toArray (fun w' => ∃ p : Regrown, w' = Sort.grow (redrawn W p.d) p.os) (fun a' => a' = aF) (sel m l) (putAll a (ds.map (·.1)) (ds.map (·.2))))
    (hq2 : ∀ k vs W, K0 < k → k ≤ ss.length → M k vs W → wpQuiet P l.toArray (fun w' => ∃ p : Regrown, w' = Sort.grow (redrawn W p.d) p.os) (fun a' => a' = aF) (sel m2 l) aF)
    (hw : ∀ (k s : Nat) o, ss[k]? = some s → l[s]? = some o → ∀ vs W, vs.length = NC.length → M k vs W →
      o.wp P (putAll aF NC vs) W (fun a' W' => ∃ v, a' = (putAll aF NC vs).put o.dst v ∧ (∀ d, o.dst = some d → d ∉ NC → v = got (putAll a (ds.map (·.1)) (ds.map (·.2))) d) ∧ M (k + 1) (NC.map (got a')) W') (fun _ _ _ => False))
    (hend : ∀ vs W, vs.length = NC.length → M ss.length vs W → Q .normal (putAll aF NC vs) W) : (Code.region id l.toArray true).wpIn (Fence.wide.inRound lp) mm P Q a w := by
  have hn : NC.Nodup ∧ ∀ t ∈ NC, t < N := by
    rw [Bool.and_eq_true] at hNC
    exact ⟨of_decide_eq_true hNC.1, fun t ht => by have := List.all_eq_true.1 hNC.2 t ht; simpa using this⟩
  have ha1 : (putAll a (ds.map (·.1)) (ds.map (·.2))).tmps.size = N := by rw [size_putAll, ha]
  have hd1 : ∀ (NC : List Tmp) (vs : List Value) (a : Act), (putAll a NC vs).defers = a.defers := fun NC => by
    induction NC with
    | nil => intro vs a; rfl
    | cons x NC ih =>
      intro vs a
      cases vs with
      | nil => rfl
      | cons v vs =>
        have := ih vs (a.put (some x) v)
        exact this
  have hfs : aF.tmps.size = N := size_at hB ha1 (hMC 0 _ _ (by omega) (h0 (NC.map (got a)) (by simp))) hq
  exact wpIn_region_writes2 NC ss N K0 m m2 M C _ hm hB hK hc hL ha ⟨ha1, hd1 _ _ _⟩ (fun t ht => got_putAll_not _ _ _ _ (by rw [hds]; exact ht)) hMC hMg (h0 _ (by simp)) hq hq2 (duty_nc hB hn hfs hw) hend
end
end Wr
end Go.Proofs.Ytpamegkbhdbheaa
