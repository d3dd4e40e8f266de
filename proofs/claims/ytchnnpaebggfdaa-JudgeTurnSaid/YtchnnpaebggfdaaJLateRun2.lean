/-
  The law of a region with one store, put to use: what only reads and calls is walked once, in the order of the text. No function of the program is walked here. No conditions beyond those said.
  The law of a region with one store, as it is used where all that is told apart is the box: the box is laid, the struct is stored into it. No function of the program is walked here. No conditions beyond those said.
-/
import Derived.Test.YtchnnpaebggfdaaJTail3
import Derived.Test.YtchnnpaebggfdaaJJudgeMath3
namespace Go.Proofs.Ytchnnpaebggfdaa
set_option maxRecDepth 100000
open Go.ChangeShapes Go.WideShapes Go.ChangeAt Go.RowKit Go.Deep
namespace Lt
open Flow (looks)
/-- The operations that a row of marks names. -/
def sel : List Bool → List Oper → List Oper
  | true :: m, o :: l => o :: sel m l
  | false :: m, _ :: l => sel m l
  | _, _ => []
theorem mem_sel : ∀ (m : List Bool) (l : List Oper) (i : Nat) (o : Oper), l[i]? = some o → m.getD i false = true → o ∈ sel m l
  | [], _, i, _, _, h => by simp at h
  | _ :: _, [], i, _, h, _ => by simp at h
  | true :: m, x :: l, 0, o, h, _ => by simp at h; subst h; exact List.mem_cons_self
  | false :: m, x :: l, 0, o, _, h => by simp at h
  | true :: m, x :: l, i + 1, o, h, hm => List.mem_cons_of_mem _ (mem_sel m l i o (by simpa using h) (by simpa using hm))
  | false :: m, x :: l, i + 1, o, h, hm => mem_sel m l i o (by simpa using h) (by simpa using hm)
theorem sel_sub : ∀ (m : List Bool) (l : List Oper) (o : Oper), o ∈ sel m l → o ∈ l
  | [], _, o, h => by simp [sel] at h
  | _ :: _, [], o, h => by simp [sel] at h
  | true :: m, x :: l, o, h => by
    rcases List.mem_cons.1 (show o ∈ x :: sel m l from h) with rfl | h
    · exact List.mem_cons_self
    · exact List.mem_cons_of_mem _ (sel_sub m l o h)
  | false :: m, x :: l, o, h => List.mem_cons_of_mem _ (sel_sub m l o h)
theorem dsts_sub (m : List Bool) (l : List Oper) (t : Tmp) (h : t ∈ dsts (sel m l)) : t ∈ dsts l := by
  obtain ⟨o, ho, hd⟩ := List.mem_filterMap.1 h
  exact List.mem_filterMap.2 ⟨o, sel_sub m l o ho, hd⟩
/-- What is walked in the order of the text: nothing guards it; each writes a place that nothing later writes, and that neither it nor an earlier one looks at. -/
def lexOk (N : Nat) : List Oper → Bool
  | [] => true
  | o :: r => o.guard.isNone && ((match o.dst with | some d => decide (d < N) && !(dsts r).contains d | none => false) && (((looks o).all fun t => !(dsts (o :: r)).contains t) && lexOk N r))
section
variable {P : Program} {Q : Exit → Act → World → Prop} {C : World → Prop}
theorem looks_eval {o : Oper} {a b : Act} (h : ∀ t ∈ looks o, got a t = got b t) : ∀ x ∈ o.op.operands, a.eval x = b.eval x := by
  intro x hx
  cases x with
  | tmp t => exact h t (List.mem_filterMap.2 ⟨.tmp t, by simpa using hx, rfl⟩)
  | _ => rfl
theorem dsts_cons {o : Oper} {r : List Oper} {d : Tmp} (h : o.dst = some d) : dsts (o :: r) = d :: dsts r := by unfold dsts; rw [List.filterMap_cons, h]
theorem lex_facts {ops : Array Oper} {N : Nat} {aF : Act}   : ∀ (r : List Oper) (a : Act), (∀ o ∈ r, ∀ cs b, o.op ≠ .select cs b) → lexOk N r = true → a.tmps.size = N → wpQuiet P ops C (fun a' => a' = aF) r a →
    aF.tmps.size = N ∧ aF.defers = a.defers ∧ (∀ t, t ∉ dsts r → got aF t = got a t) ∧ ∀ o ∈ r, ∀ d, o.dst = some d → ∀ w, C w → o.quietAt P aF C w (got aF d)
  | [], a, _, _, hs, h => by
    have h : a = aF := h
    subst h
    exact ⟨hs, rfl, fun _ _ => rfl, fun o ho => by cases ho⟩
  | o :: r, a, hsel, hB, hs, h => by
    unfold lexOk at hB
    simp only [Bool.and_eq_true] at hB
    obtain ⟨hg, hd, hlk, hr⟩ := hB
    have hg : o.guard = none := by simpa using hg
    obtain ⟨d, hdd, hdN, hdr⟩ : ∃ d, o.dst = some d ∧ d < N ∧ d ∉ dsts r := by
      cases hq : o.dst with
      | none => rw [hq] at hd; simp at hd
      | some d => rw [hq] at hd; simp at hd; exact ⟨d, rfl, hd.1, hd.2⟩
    unfold wpQuiet at h
    rw [if_pos (show Region.wanted o (yielded ops a.tmps) = true by simp [Region.wanted, hg])] at h
    obtain ⟨v, h1, h2⟩ := h
    rw [hdd] at h2
    obtain ⟨i1, i2, i3, i4⟩ := lex_facts r (a.put (some d) v) (fun p hp => hsel p (List.mem_cons_of_mem _ hp)) hr (by simpa [Act.put] using hs) h2
    have hv : got aF d = v := by rw [i3 d hdr, got_set (by rw [hs]; exact hdN)]
    have keep : ∀ t, t ∉ dsts (o :: r) → got aF t = got a t := fun t ht => by
      rw [dsts_cons hdd] at ht
      rw [i3 t (fun q => ht (List.mem_cons_of_mem _ q)), got_put (fun e => ht (by rw [e]; exact List.mem_cons_self))]
    refine ⟨i1, i2, keep, fun p hp x hx w hw => ?_⟩
    rcases List.mem_cons.1 hp with rfl | hp
    · rw [hdd] at hx; cases hx
      rw [hv]
      have := h1 w hw
      unfold Oper.quietAt at this ⊢
      rw [execOp_congr p (hsel p List.mem_cons_self) (looks_eval fun t ht => ?_)]
      · exact this
      · have := List.all_eq_true.1 hlk t ht
        exact keep t (by simpa using this)
    · exact i4 p hp x hx w hw
theorem pure_any {o : Oper} {aF : Act} {w : World} {v : Value} (hp : pureB o = true) (h : o.quietAt P aF C w v) (w' : World) : (execOp aF.eval o).run P w' = .ok (.value v) w' := by
  obtain ⟨dst, op, type, pos, after, guard⟩ := o
  unfold Oper.quietAt at h
  cases op <;> simp only [pureB, Bool.false_eq_true] at hp
  case move x => simp only [execOp] at h ⊢; simp [Oper.quietUpon] at h ⊢; exact h
  case assign x => simp only [execOp] at h ⊢; simp [Oper.quietUpon] at h ⊢; exact h
  case extract x i =>
    simp only [execOp] at h ⊢
    cases hx : aF.eval x <;> simp [Instr.extract, hx, Oper.quietUpon] at h ⊢
    rename_i vs
    cases hv : vs[i]? <;> simp [hv] at h ⊢
    exact h
/-- The class of worlds in which nothing that was there was written. -/
def Cl (W : World) : World → Prop := fun w' => ∃ p : Regrown, w' = Sort.grow (redrawn W p.d) p.os
theorem Cl.of {W w' : World} (h : Below W.heap.size W w') : Cl W w' := regrown_of_below h
theorem Cl.to {W w' : World} (h : Cl W w') : Below W.heap.size W w' := by obtain ⟨p, rfl⟩ := h; exact below_regrown W p.d p.os
/-- The places of NC filled. -/
def putAll (a : Act) (NC : List Tmp) (vs : List Value) : Act := (NC.zip vs).foldl (fun a p => a.put (some p.1) p.2) a
theorem putAll_eq {N : Nat} {b : Act} (hb : b.tmps.size = N) : ∀ (NC : List Tmp) (a : Act), a.tmps.size = N → a.defers = b.defers → (∀ t, t ∉ NC → got a t = got b t) → putAll a NC (NC.map (got b)) = b
  | [], a, ha, hd, h => by
    obtain ⟨ta, da⟩ := a
    obtain ⟨tb, db⟩ := b
    simp only [putAll, List.map_nil, List.zip_nil_right, List.foldl_nil]
    have hd : da = db := hd
    subst hd
    congr 1
    apply Array.ext_getElem?
    intro i
    have ha : ta.size = N := ha
    have hb : tb.size = N := hb
    by_cases q : i < N
    · have := h i (by simp)
      simp only [got] at this
      simp [ha, hb, q] at this ⊢
      exact this
    · rw [Array.getElem?_eq_none (by omega), Array.getElem?_eq_none (by omega)]
  | t :: NC, a, ha, hd, h => by
    have : putAll a (t :: NC) ((t :: NC).map (got b)) = putAll (a.put (some t) (got b t)) NC (NC.map (got b)) := rfl
    rw [this]
    refine putAll_eq hb NC _ (by simpa [Act.put] using ha) hd fun u hu => ?_
    by_cases e : u = t
    · subst e
      by_cases q : u < a.tmps.size
      · exact got_set q
      · have q' : ¬ u < b.tmps.size := by rw [hb, ← ha]; exact q
        have h1 : got b u = undef := by simp [got, q']
        rw [h1]; simp [got, Act.put, q]
    · rw [got_put e]; exact h u (by simp [e, hu])
variable {l : List Oper} {s N : Nat} {NC : List Tmp} {VN : Tmp → Value → World → Prop} {Post : List Value → World → Prop} {a a1 : Act} {w : World}
/-- What is asked of the marks: m names what is walked, mB what is told apart; the store is neither; what is walked looks at no place of NC and writes none. -/
def markB (l : List Oper) (n s N : Nat) (NC : List Tmp) (m mB : List Bool) : Bool :=
  decide (m.length = n) && ((List.range n).all (fun i => decide (i = s) || (m.getD i false || mB.getD i false)) &&
  (((sel m (l.take n)).all fun o => ((looks o).all fun t => !NC.contains t) && (match o.dst with | some d => !NC.contains d | none => false)) && (lexOk N (sel m (l.take n)) && ((l.take n).zipIdx.all fun q => m.getD q.2 false || (decide (q.2 = s) || ((l.take n)[s]?).any fun st => waits st q.2)))))
/-- The law. a1: the frame at the start, with what is told apart already in its places; aF: what the walk leaves. -/
theorem wp_region_late {id : Nat} (n s N : Nat) (NC : List Tmp) (m mB : List Bool) (VN : Tmp → Value → World → Prop) (Post : List Value → World → Prop) (a1 : Act) {aF : Act} (hm : P.follows .mixedOrders = true) (hB : lateB l n s N NC = true) (hK : markB l n s N NC m mB = true)
    (ha : a.tmps.size = N) (ha1 : a1.tmps.size = N ∧ a1.defers = a.defers) (hold : ∀ t, t ∉ dsts (sel mB (l.take n)) → got a1 t = got a t)
    (hNC : ∀ t v w w', VN t v w → Below w.heap.size w w' → VN t v w')
    (hq : ∀ W, Below w.heap.size w W → wpQuiet P l.toArray (Cl W) (fun a' => a' = aF) (sel m (l.take n)) a1)
    (hpre : ∀ o ∈ sel mB (l.take n), Pre P NC VN w aF Q o) (hst : ∀ st, (l.take n)[s]? = some st → Store P NC VN Post w aF Q st)
    (hend : ∀ vs w', vs.length = NC.length → Post vs w' → wpList P l.toArray Q (l.drop n) (putAll aF NC vs) w') : (Code.region id l.toArray true).wp P Q a w := by
  unfold lateB at hB
  cases hs : (l.take n)[s]? with
  | none => rw [hs] at hB; cases hB
  | some st =>
    rw [hs] at hB
    simp only [Bool.and_eq_true] at hB
    obtain ⟨hfit, hone, hnc, hn, hnos, htl, hseq⟩ := hB
    have hn : n ≤ l.length := of_decide_eq_true hn
    have hfit' : ∀ (i : Nat) o, (l.take n)[i]? = some o → fits (l.take n) st s N NC i o = true := fun i o h => List.all_eq_true.1 hfit (o, i) (by rw [List.mem_zipIdx_iff_getElem?]; simpa using h)
    have O : Ok (l.take n) st s N NC := ⟨hs, hfit', of_decide_eq_true hone, fun t ht => by have := List.all_eq_true.1 hnc t ht; simpa using this⟩
    have hl : (l.take n).length = n := by rw [List.length_take]; omega
    have hlow : TailC.lowB .any (l.take n) = true := by
      unfold TailC.lowB
      rw [List.all_eq_true]
      intro q hq
      have h := List.all_eq_true.1 hfit q hq
      unfold fits at h
      simp only [Bool.and_eq_true] at h
      rw [Bool.and_eq_true]
      refine ⟨h.2.1, ?_⟩
      have : q.1.guard = none := by simpa using h.1
      rw [this]
    have htl : n = l.length ∨ (Region.sinkB .any l.toArray n = true ∧ Region.chainB .any l.toArray n = true) := by simpa using htl
    unfold markB at hK
    simp only [Bool.and_eq_true, decide_eq_true_eq] at hK
    obtain ⟨hml, hcov, hcl, hlex, hfl⟩ := hK
    have hselect : ∀ o ∈ l.take n, ∀ cs b, o.op ≠ .select cs b := fun o ho cs b => by
      obtain ⟨j, hj⟩ := List.mem_iff_getElem?.1 (List.mem_of_mem_take ho)
      exact Region.noSelect_spec hnos j o cs b (by simpa using hj)
    have facts : ∀ W, Below w.heap.size w W → aF.tmps.size = N ∧ aF.defers = a1.defers ∧ (∀ t, t ∉ dsts (sel m (l.take n)) → got aF t = got a1 t) ∧ ∀ o ∈ sel m (l.take n), ∀ d, o.dst = some d → ∀ w', Cl W w' → o.quietAt P aF (Cl W) w' (got aF d) :=
      fun W hW => lex_facts (sel m (l.take n)) a1 (fun o ho => hselect o (sel_sub m _ o ho)) hlex ha1.1 (hq W hW)
    obtain ⟨f1, f2, f3, _⟩ := facts w (Below.refl _ _)
    have hF : ∀ t, t ∉ dsts (l.take n) → got aF t = got a t := fun t ht => by
      rw [f3 t (fun q => ht (dsts_sub m _ t q)), hold t (fun q => ht (dsts_sub mB _ t q))]
    have dst_of : ∀ (i : Nat) o, (l.take n)[i]? = some o → i ≠ s → ∃ d, o.dst = some d := fun i o ho his => by
      have h := hfit' i o ho
      unfold fits at h
      simp only [Bool.and_eq_true] at h
      cases hd : o.dst with
      | none => have := h.2.2.1; rw [hd] at this; simp [his] at this
      | some d => exact ⟨d, rfl⟩
    have lt_n : ∀ (i : Nat) o, (l.take n)[i]? = some o → i < n := fun i o ho => by have := (List.getElem?_eq_some_iff.1 ho).1; omega
    have clear_of : ∀ o ∈ sel m (l.take n), (∀ t ∈ looks o, t ∉ NC) ∧ ∀ d, o.dst = some d → d ∉ NC := fun o ho => by
      have h := List.all_eq_true.1 hcl o ho
      rw [Bool.and_eq_true] at h
      refine ⟨fun t ht => by have := List.all_eq_true.1 h.1 t ht; simpa using this, fun d hd => ?_⟩
      have := h.2; rw [hd] at this; simpa using this
    refine wp_region_any hm ?_
    have inv0 : HeadInv .any l.toArray n (Array.replicate l.toArray.size false) :=
      ⟨by simp, fun j oj _ hl => (by rw [getD_replicate_false] at hl; cases hl), fun t _ ht => getD_in (by simpa using ht) (getD_replicate_false _ _)⟩
    have hsm : TailC.Same n (Array.replicate n false) (Array.replicate l.toArray.size false) := ⟨by simp, fun j x hj => by
      have : j < l.length := by omega
      simp [hj, this]⟩
    have none_yet : ∀ i, (Array.replicate n false).getD i false = false := fun i => getD_replicate_false _ _
    have := any_late (P := P) (Q := Q) (VN := VN) (Post := Post) (w0 := w) (a0 := a) (aF := aF) (l := l) rfl hn O hNC hF ?_ ?_ (hst st hs) hlow htl hseq ?_ n (Array.replicate n false) (Array.replicate l.toArray.size false) a { w with drawn := w.drawn + 1 } hsm inv0 ?_ (by simp)
    · rw [show n + (l.length - n) = l.toArray.size by simp; omega] at this
      exact this
    · -- ahead of the store
      intro i o ho his
      obtain ⟨d, hd⟩ := dst_of i o ho his
      by_cases hmi : m.getD i false = true
      · have hmem := mem_sel m _ i o ho hmi
        obtain ⟨c1, c2⟩ := clear_of o hmem
        intro a' w' hb hl'
        have same : ∀ t ∈ looks o, got a' t = got aF t := fun t ht => (hl' t ht).2 (c1 t ht)
        have hx : execOp a'.eval o = execOp aF.eval o := execOp_congr o (hselect o (List.mem_of_getElem? ho)) (looks_eval same)
        refine Oper.wp_of_quiet (C := Cl w') (K := fun a'' => a'' = a'.put o.dst (got aF d)) (Cl.of (Below.refl _ _)) ?_ ⟨got aF d, fun w2 h2 => ?_, rfl⟩
        · rintro a'' w2 h2 rfl
          exact ⟨_, rfl, Cl.to h2, fun d' hd' => by rw [hd] at hd'; cases hd'; exact ⟨fun hn => absurd hn (c2 d hd), fun _ => rfl⟩⟩
        · have := (facts w' hb).2.2.2 o hmem d hd w2 h2
          unfold Oper.quietAt at this ⊢
          rw [hx]; exact this
      · have h := List.all_eq_true.1 hcov i (List.mem_range.2 (lt_n i o ho))
        have : mB.getD i false = true := by
          simp only [Bool.or_eq_true, decide_eq_true_eq] at h
          rcases h with h | h | h
          · exact absurd h his
          · exact absurd h hmi
          · exact h
        exact hpre o (mem_sel mB _ i o ho this)
    · -- behind it
      intro i o ho his hw
      obtain ⟨d, hd⟩ := dst_of i o ho his
      have h := List.all_eq_true.1 hfl (o, i) (by rw [List.mem_zipIdx_iff_getElem?]; simpa using ho)
      rw [hs] at h
      simp only [Bool.or_eq_true, decide_eq_true_eq, Option.any_some, hw, his, Bool.false_eq_true, or_false] at h
      have hmem := mem_sel m _ i o ho h
      have hf := hfit' i o ho
      unfold fits at hf
      simp only [Bool.and_eq_true, Bool.or_eq_true, decide_eq_true_eq, his, hw, Bool.false_eq_true, false_or] at hf
      have hp := hf.2.2.2.2.1.1
      intro a' w' hl'
      have hx : execOp a'.eval o = execOp aF.eval o := execOp_congr o (hselect o (List.mem_of_getElem? ho)) (looks_eval hl')
      have := pure_any hp ((facts w (Below.refl _ _)).2.2.2 o hmem d hd w (Cl.of (Below.refl _ _))) w'
      unfold Oper.wp
      rw [hx, this]
      exact ⟨rfl, _, rfl, fun d' hd' => by rw [hd] at hd'; cases hd'; rfl⟩
    · -- the end
      intro hl' a' w' I hall
      have e : putAll aF NC (NC.map (got a')) = a' := by
        refine putAll_eq (N := N) I.frame NC aF f1 (by rw [f2, ha1.2, I.defers]) fun t ht => ?_
        by_cases q : t ∈ dsts (l.take n)
        · obtain ⟨o, ho, hod⟩ := List.mem_filterMap.1 q
          obtain ⟨j, hj⟩ := List.mem_iff_getElem?.1 ho
          exact (I.const j o t hj (hall j (lt_n j o hj)) hod ht).symm
        · rw [I.old t q, hF t q]
      have := hend (NC.map (got a')) w' (by simp) (I.post (hall s (lt_n s st hs)))
      rwa [e] at this
    · have no : ∀ i, (Array.replicate n false).getD i false = true → False := fun i h => by rw [none_yet] at h; cases h
      exact ⟨by simp [hl], ha, rfl, fun _ _ => rfl, fun i o d _ h => (no i h).elim, fun _ => ⟨⟨rfl, rfl, rfl, Nat.le_refl _, fun _ _ => rfl⟩, fun i o d _ h => (no i h).elim⟩, fun h => (no s h).elim, fun h => (no s h).elim⟩
end
end Lt
end Go.Proofs.Ytchnnpaebggfdaa

namespace Go.Proofs.Ytchnnpaebggfdaa
set_option maxRecDepth 100000
open Go.ChangeShapes Go.WideShapes Go.ChangeAt Go.RowKit Go.Deep
namespace Lt
open Flow (looks)
section
variable {P : Program} {Q : Exit → Act → World → Prop} {l : List Oper} {a aF : Act} {w : World} {NC : List Tmp} {VN : Tmp → Value → World → Prop}
/-- The box, laid. -/
theorem pre_alloc {d : Tmp} {t ty : TypeId} {pos : String} {after : Array Edge} {cs : List Value} (hd : d ∈ NC)
    (ht : ∀ W, (Instr.alloc t true (.tuple #[])).run P W = .ok (.pointer (some ⟨W.heap.size, 0, none⟩)) (W.alloc (.cells cs.toArray t)))
    (hv : ∀ v W, (∃ g, v = .pointer (some ⟨g, 0, none⟩) ∧ Kp.Kept w W g t cs) → VN d v W) : Pre P NC VN w aF Q ⟨some d, .alloc t, ty, pos, after, none⟩ := by
  intro a W hb _
  have e : (execOp a.eval ⟨some d, .alloc t, ty, pos, after, none⟩).run P W = .ok (.value (.pointer (some ⟨W.heap.size, 0, none⟩))) (W.alloc (.cells cs.toArray t)) := by
    simp only [execOp, Sem.run_bind, ht, Result.andThen, Sem.run_pure]
  unfold Oper.wp
  rw [e]
  refine ⟨_, rfl, (Below.refl _ _).alloc (Nat.le_refl _) _, fun d' hd' => ?_⟩
  cases hd'
  exact ⟨fun _ => hv _ _ ⟨_, rfl, Kp.kept_new w W cs t hb⟩, fun hn => absurd hd hn⟩
/-- The struct, stored into it. -/
theorem store_box {d x : Tmp} {t ty : TypeId} {pos : String} {after : Array Edge} {cs cs' : List Value} {Post : List Value → World → Prop} (hd : d ∈ NC) (hx : x ∉ NC) (hF : got aF x = .agg cs'.toArray)
    (hi : (P.info? t).map (·.size) = some cs'.length) (hl : cs.length = cs'.length) (h1 : cs'.toArray.all (·.oneCell') = true)
    (hv : ∀ v W, VN d v W → ∃ g, v = .pointer (some ⟨g, 0, none⟩) ∧ Kp.Kept w W g t cs)
    (hp : ∀ a g W, got a d = .pointer (some ⟨g, 0, none⟩) → Kp.Kept w W g t cs' → (∃ W0, (∀ t ∈ NC, VN t (got a t) W0) ∧ W = W0.setRow g cs'.toArray) → Post (NC.map (got a)) W) : Store P NC VN Post w aF Q ⟨none, .store t (.tmp d) (.tmp x), ty, pos, after, none⟩ := by
  intro a W hb hn hlk
  obtain ⟨g, e, k⟩ := hv _ _ (hn d hd)
  have e2 : a.eval (.tmp x) = .agg cs'.toArray := ((hlk x (by simp [looks, Op.operands])).2 hx).trans hF
  refine wp_store_row t (.tmp d) (.tmp x) rfl g cs'.toArray e e2 t cs.toArray k.row (by simpa using hi) (by simpa using hl) h1 ?_
  exact ⟨rfl, hp a g _ e ⟨Below.put k.below k.ge _, k.row.put _, k.ge⟩ ⟨W, hn, rfl⟩⟩
/-- The law where the box is all that is told apart. -/
theorem wp_region_box {id : Nat} (n s N : Nat) (d x : Tmp) (t : TypeId) (cs cs' : List Value) (m mB : List Bool) (hm : P.follows .mixedOrders = true) (hB : lateB l n s N [d] = true) (hK : markB l n s N [d] m mB = true)
    (ha : a.tmps.size = N) (hxd : x ≠ d) {ty1 ty2 : TypeId} {pos1 pos2 : String} {af1 af2 : Array Edge} (hal : sel mB (l.take n) = [⟨some d, .alloc t, ty1, pos1, af1, none⟩]) (hst : (l.take n)[s]? = some ⟨none, .store t (.tmp d) (.tmp x), ty2, pos2, af2, none⟩)
    (ht : ∀ W, (Instr.alloc t true (.tuple #[])).run P W = .ok (.pointer (some ⟨W.heap.size, 0, none⟩)) (W.alloc (.cells cs.toArray t)))
    (hi : (P.info? t).map (·.size) = some cs'.length) (hl : cs.length = cs'.length) (h1 : cs'.toArray.all (·.oneCell') = true)
    (hq : ∀ W, Below w.heap.size w W → wpQuiet P l.toArray (fun w' => ∃ p : Regrown, w' = Sort.grow (redrawn W p.d) p.os) (fun a' => a' = aF) (sel m (l.take n)) a)
    (hF : got aF x = .agg cs'.toArray)
    (hend : ∀ g W, Kp.Kept w W g t cs' → wpList P l.toArray Q (l.drop n) (aF.put (some d) (.pointer (some ⟨g, 0, none⟩))) W) : (Code.region id l.toArray true).wp P Q a w := by
  refine wp_region_late n s N [d] m mB (fun _ v W => ∃ g, v = .pointer (some ⟨g, 0, none⟩) ∧ Kp.Kept w W g t cs) (fun vs W => ∃ g, vs = [.pointer (some ⟨g, 0, none⟩)] ∧ Kp.Kept w W g t cs') a hm hB hK ha ⟨ha, rfl⟩ (fun _ _ => rfl) ?_ hq ?_ ?_ ?_
  · rintro _ v W W' ⟨g, e, k⟩ b
    exact ⟨g, e, k.on b⟩
  · rw [hal]
    intro o ho
    obtain rfl := List.mem_singleton.1 ho
    exact pre_alloc (List.mem_singleton.2 rfl) ht fun _ _ h => h
  · intro st hs
    rw [hst] at hs
    obtain rfl := Option.some.inj hs
    exact store_box (List.mem_singleton.2 rfl) (fun q => hxd (List.mem_singleton.1 q)) hF hi hl h1 (fun _ _ h => h) fun a g W e k _ => ⟨g, by simp [e], k⟩
  · rintro vs W _ ⟨g, rfl, k⟩
    exact hend g W k
end
end Lt
end Go.Proofs.Ytchnnpaebggfdaa
