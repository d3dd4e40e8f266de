/-
  A region that draws its order, within a round of a range over a function: what holds of it outside of rounds holds there, where none of its operations is a defer statement. No function of the program is walked here. No conditions beyond those said.
  A region that draws its order and writes several times, each write waiting for the one ahead: whatever order is drawn, each place holds its own value at the end, and the writes come in their order. What only reads and calls is walked once, in the order of the text, in whatever world there may be; outside of rounds of a range over a function, and within one. No function of the program is walked here. No conditions beyond those said.
  A region that draws its order and writes several times, where not each write waits for the one ahead: whatever order is drawn, each place holds its own value at the end. The phases are told by which writes were carried out. No function of the program is walked here. No conditions beyond those said.
  A region that draws its order, makes two boxes and stores a value into each. No function of the program is walked here. No conditions beyond those said.
-/
import Derived.Test.YtchnnpaebggfdaaJTail3
import Derived.OrdersIn
import Derived.RangeFuncCalls
import Derived.TacticsIn
import Derived.Test.YtchnnpaebggfdaaJLateRun2
namespace Go.Proofs.Ytchnnpaebggfdaa
set_option maxRecDepth 100000
open Go.ChangeShapes Go.WideShapes Go.ChangeAt Go.RowKit Go.Deep
namespace Rn
section
variable {P : Program} {ops : Array Oper} {Q : Exit → Act → World → Prop} {md : Region.Mode}
theorem rows_wide {n l : Nat} {row : String} {args : Array Value} {w : World} {R : Value → World → Prop} (h : Rows P row args w R) : RowsIn (Fence.wide.inRound l) n P row args w R :=
  fun c cs _ => let ⟨v, w', r, s⟩ := h c cs; ⟨v, w', r, stepsIn_wide.2 s⟩
theorem oper_in {n l : Nat} {o : Oper} {a : Act} {w : World} {K : Act → World → Prop} (hd : ∀ c, o.op ≠ .defer c) (h : o.wp P a w K Q) : o.wpIn (Fence.wide.inRound l) n P a w K Q := by
  unfold Oper.wp at h
  unfold Oper.wpIn
  refine ⟨fun _ _ => trivial, ?_⟩
  rw [show Oper.semAt (Fence.wide.inRound l).round a.eval o = execOp a.eval o from Oper.semAt_some l _ _ hd]
  generalize (execOp a.eval o).run P w = r at *
  cases r with
  | ok x w' =>
    cases x <;> simp only [Oper.upon] at h <;> simp only [Oper.uponIn]
    all_goals first
      | exact h
      | exact ⟨fun q => (by cases q), CallsIn.inRound l (callsIn_wide.2 h)⟩
      | exact ⟨fun q => (by cases q), rows_wide h⟩
  | halt x w' => cases x <;> simp only [Oper.upon] at h <;> simp only [Oper.uponIn] <;> exact h
theorem op_in {n l i : Nat} {K : Act → World → Prop} {a : Act} {w : World} (hd : ∀ o ∈ ops, ∀ c, o.op ≠ .defer c) (hL : ¬ LetsOut Q) (h : wpOp P ops Q i K a w) : wpOpIn (Fence.wide.inRound l) n P ops Q i K a w := by
  unfold wpOp at h
  unfold wpOpIn
  cases ho : ops[i]? with
  | none => simpa [ho] using h
  | some o =>
    simp only [ho] at h ⊢
    split
    · rename_i hw
      rw [if_pos hw] at h
      rcases h with h | h
      · exact oper_in (hd o (Array.mem_of_getElem? ho)) h
      · exact absurd h.2 hL
    · rename_i hw
      rw [if_neg hw] at h
      exact ⟨fun _ _ => trivial, h⟩
theorem any_in {n l : Nat} (hd : ∀ o ∈ ops, ∀ c, o.op ≠ .defer c) (hL : ¬ LetsOut Q) : ∀ (fuel : Nat) (listed : Array Bool) (a : Act) (w : World), wpAny P md ops Q fuel listed a w → wpAnyIn (Fence.wide.inRound l) n P md ops Q fuel listed a w
  | 0, _, _, _, h => h
  | fuel + 1, _, _, _, h => ⟨h.1, fun i hi => op_in hd hL (wpOp_mono (fun a' w' q => any_in hd hL fuel _ a' w' q) (h.2 i hi))⟩
/-- Is none of them a defer statement? -/
def calm (ops : List Oper) : Bool := ops.all fun o => match o.op with | .defer _ => false | _ => true
theorem calm_of {ops : List Oper} (h : calm ops = true) : ∀ o ∈ ops.toArray, ∀ c, o.op ≠ .defer c := by
  intro o ho c hc
  have := List.all_eq_true.1 h o (by simpa using ho)
  rw [hc] at this; cases this
/-- Out of rounds, as Tail's law; here within one: the head only reads, and is walked once; the tail may write. -/
theorem wpIn_region_quiet_tail {m lp : Nat} {id : Nat} {a : Act} {w : World} {l : List Oper} (n : Nat) (hm : P.follows .mixedOrders = true) (hB : Region.lexTailB .any l.toArray n = true) (hc : calm l = true) (hL : ¬ LetsOut Q)
    (h : wpQuiet P l.toArray (fun w' => w' = w.drew) (fun a' => wpList P l.toArray Q (l.drop n) a' w.drew) (l.take n) a) : (Code.region id l.toArray true).wpIn (Fence.wide.inRound lp) m P Q a w := by
  refine wpIn_region_any hm (any_in (calm_of hc) hL _ _ _ _ ?_)
  have h := Tail.wpStill_of_quiet _ _ h
  simp only [Region.lexTailB, Bool.and_eq_true, decide_eq_true_eq] at hB
  obtain ⟨⟨⟨⟨b1, b2⟩, b3⟩, b4⟩, b5⟩ := hB
  have k1 : n < l.length := by simpa using b2
  have k2 : (l.take n).length = n := by simp; omega
  have k3 : (l.drop n).length = l.toArray.size - n := by simp
  have start : HeadInv .any l.toArray n (Array.replicate l.toArray.size false) :=
    ⟨by simp, fun j oj _ q => (by rw [getD_replicate_false] at q; cases q), fun t _ q => getD_in (by simpa using q) (getD_replicate_false _ _)⟩
  have H := wpAnyL_lex (md := .any) (g := l.toArray.size - n) b1 b3 b4 b2 (l.take n) 0 _ a (fun j q => by
    rw [k2] at q; simp [q]) (by simpa using k2) start (by rw [k2]; exact b5) h
  have G := wpAny_of_head (Q' := Q) (g := l.toArray.size - n) (fun listed a' q => by
    have z := wpAny_of_seq (md := .any) (Q' := Q) (l.drop n) n listed a' w.drew (fun j => by simp [List.getElem?_drop]) (by rw [k3]; exact q.1) q.2
    rwa [k3] at z) _ _ _ H
  rw [k2, show n + (l.toArray.size - n) = l.toArray.size by omega] at G
  exact G
end
end Rn
end Go.Proofs.Ytchnnpaebggfdaa

namespace Go.Proofs.Ytchnnpaebggfdaa
set_option maxRecDepth 100000
open Go.ChangeShapes Go.WideShapes Go.ChangeAt Go.RowKit Go.Deep
namespace Wr
open Lt
open Flow (looks)
/-- What is asked of operation i. -/
def fitsW (l : List Oper) (ss : List Nat) (N : Nat) (NC : List Tmp) (i : Nat) (o : Oper) : Bool :=
  o.guard.isNone && ((o.after.all fun e => !Region.binds .any e || decide (e.on < i)) && ((match o.dst with | some d => decide (d < N) | none => ss.contains i) &&
  ((looks o).all fun t => !(dsts l).contains t || o.after.any fun e => Region.binds .any e && ((l[e.on]?).bind (·.dst) == some t)) &&
  (ss.contains i || (((looks o).all fun t => !NC.contains t) && (match o.dst with | some d => !NC.contains d | none => false)))))
def wdsts (l : List Oper) (ss : List Nat) : List Tmp := ss.filterMap fun s => (l[s]?).bind (·.dst)
section
variable {P : Program} {Q : Exit → Act → World → Prop} {l : List Oper} {ss : List Nat} {N : Nat} {NC : List Tmp} {m0 : List Bool} {a0 a1 aF : Act} {M : Nat → List Value → World → Prop}
theorem waits_iff {o : Oper} {s : Nat} (h : waits o s = true) : ∃ e ∈ o.after, Region.binds .any e = true ∧ e.on = s := by
  unfold waits at h
  rw [Array.any_eq_true'] at h
  obtain ⟨e, he, h⟩ := h
  rw [Bool.and_eq_true, beq_iff_eq] at h
  exact ⟨e, he, h⟩
structure Inv (l : List Oper) (ss : List Nat) (N : Nat) (NC : List Tmp) (M : Nat → List Value → World → Prop) (a0 aF : Act) (hl : Array Bool) (a : Act) (w : World) : Prop where
  size : hl.size = l.length
  frame : a.tmps.size = N
  defers : a.defers = a0.defers
  old : ∀ t, t ∉ dsts l → got a t = got a0 t
  const : ∀ (i : Nat) o d, l[i]? = some o → hl.getD i false = true → o.dst = some d → d ∉ NC → got a d = got aF d
  phase : ∃ k, k ≤ ss.length ∧ M k (NC.map (got a)) w ∧ ∀ (j s : Nat), ss[j]? = some s → (hl.getD s false = true ↔ j < k)
  closed : ∀ s o, s ∈ ss → l[s]? = some o → hl.getD s false = true → ∀ i, waits o i = true → hl.getD i false = true
/-- Another frame that looks the same to it. -/
theorem wp_swap {o : Oper} {a aF : Act} {w : World} {R : Value → World → Prop} (hx : execOp a.eval o = execOp aF.eval o) (hd : ∀ d, o.dst = some d → d < aF.tmps.size)
    (h : o.wp P aF w (fun a' w' => ∃ v, a' = aF.put o.dst v ∧ R v w') (fun _ _ _ => False)) : o.wp P a w (fun a' w' => ∃ v, a' = a.put o.dst v ∧ R v w') Q := by
  unfold Oper.wp at h ⊢
  rw [hx]
  have back : ∀ v w', (∃ v', aF.put o.dst v = aF.put o.dst v' ∧ R v' w') → ∃ v', a.put o.dst v = a.put o.dst v' ∧ R v' w' := by
    rintro v w' ⟨v', e, r⟩
    cases hq : o.dst with
    | none => exact ⟨v', rfl, r⟩
    | some d =>
      rw [hq] at e
      have h1 : got (aF.put (some d) v) d = got (aF.put (some d) v') d := by rw [e]
      rw [got_set (hd d hq), got_set (hd d hq)] at h1
      subst h1
      exact ⟨v, rfl, r⟩
  have no : ¬ LetsOut (fun (_ : Exit) (_ : Act) (_ : World) => False) := by rintro ⟨_, _, h⟩; exact h
  generalize (execOp aF.eval o).run P w = r at *
  cases r with
  | ok n w' =>
    cases n with
    | value v => exact back v w' h
    | skip => exact back _ w' h
    | defer d =>
      obtain ⟨v', e, r⟩ := h
      have := congrArg Act.defers e
      cases hq : o.dst <;> (rw [hq] at this; simp [Act.put] at this)
    | enter f args =>
      refine Calls.mono h ?_
      rintro (v | ch | _) w2 q
      · exact back v w2 q
      · exact q.elim
      · exact (no q).elim
    | row rw args => exact fun c cs => let ⟨v, w2, q, s⟩ := h c cs; ⟨v, w2, back v w2 q, s⟩
    | _ => exact h.elim
  | halt x w' => cases x <;> exact h.elim
/-- What never panics may be followed by whatever one likes. -/
theorem wp_noQ {o : Oper} {a : Act} {w : World} {K : Act → World → Prop} (h : o.wp P a w K (fun _ _ _ => False)) : o.wp P a w K Q := by
  unfold Oper.wp at h ⊢
  have no : ¬ LetsOut (fun (_ : Exit) (_ : Act) (_ : World) => False) := by rintro ⟨_, _, h⟩; exact h
  generalize (execOp a.eval o).run P w = r at *
  cases r with
  | ok n w' =>
    cases n with
    | enter f args =>
      refine Calls.mono h ?_
      rintro (v | ch | _) w2 q
      · exact q
      · exact q.elim
      · exact (no q).elim
    | _ => exact h
  | halt x w' => cases x <;> exact h.elim
theorem got_putAll_not : ∀ (NC : List Tmp) (vs : List Value) (a : Act) (t : Tmp), t ∉ NC → got (putAll a NC vs) t = got a t
  | [], _, _, _, _ => rfl
  | _ :: _, [], _, _, _ => rfl
  | x :: NC, v :: vs, a, t, h => by
    have := got_putAll_not NC vs (a.put (some x) v) t (fun q => h (List.mem_cons_of_mem _ q))
    rw [got_put (fun e => h (by rw [e]; exact List.mem_cons_self))] at this
    exact this
theorem size_putAll : ∀ (NC : List Tmp) (vs : List Value) (a : Act), (putAll a NC vs).tmps.size = a.tmps.size
  | [], _, _ => rfl
  | _ :: _, [], _ => rfl
  | x :: NC, v :: vs, a => by
    exact (size_putAll NC vs (a.put (some x) v)).trans (by simp [Act.put])
theorem got_putAll (b : Act) : ∀ (NC : List Tmp) (a : Act), NC.Nodup → (∀ t ∈ NC, t < a.tmps.size) → ∀ t ∈ NC, got (putAll a NC (NC.map (got b))) t = got b t
  | x :: NC, a, hn, hs, t, ht => by
    have hn := List.nodup_cons.1 hn
    have e : putAll a (x :: NC) ((x :: NC).map (got b)) = putAll (a.put (some x) (got b x)) NC (NC.map (got b)) := rfl
    rw [e]
    by_cases q : t ∈ NC
    · exact got_putAll b NC _ hn.2 (fun u hu => by have := hs u (List.mem_cons_of_mem _ hu); simpa [Act.put] using this) t q
    · obtain rfl : t = x := by
        rcases List.mem_cons.1 ht with h | h
        · exact h
        · exact absurd h q
      rw [got_putAll_not _ _ _ _ q, got_set (hs t List.mem_cons_self)]
end
end Wr
end Go.Proofs.Ytchnnpaebggfdaa

namespace Go.Proofs.Ytchnnpaebggfdaa
set_option maxRecDepth 100000
open Go.ChangeShapes Go.WideShapes Go.ChangeAt Go.RowKit Go.Deep
namespace Ws
open Lt Wr
open Flow (looks)
def setsB (l : List Oper) (ss : List Nat) (N : Nat) (NC : List Tmp) (m : List Bool) : Bool :=
  (l.zipIdx.all fun q => fitsW l ss N NC q.2 q.1) && (decide (dsts l).Nodup && (decide ss.Nodup && ((ss.all fun s => decide (s < l.length)) && (((List.range l.length).all fun i => ss.contains i || m.getD i false) && (lexOk N (sel m l) &&
    (Region.noSelect l.toArray && ((wdsts l ss).all fun d => !(dsts (sel m l)).contains d)))))))
section
variable {P : Program} {Q : Exit → Act → World → Prop} {l : List Oper} {ss : List Nat} {N : Nat} {NC : List Tmp} {m0 : List Bool} {a0 a1 aF : Act} {M : List Bool → List Value → World → Prop}
structure InvS (l : List Oper) (ss : List Nat) (N : Nat) (NC : List Tmp) (M : List Bool → List Value → World → Prop) (a0 aF : Act) (hl : Array Bool) (a : Act) (w : World) : Prop where
  size : hl.size = l.length
  frame : a.tmps.size = N
  defers : a.defers = a0.defers
  old : ∀ t, t ∉ dsts l → got a t = got a0 t
  const : ∀ (i : Nat) o d, l[i]? = some o → hl.getD i false = true → o.dst = some d → d ∉ NC → got a d = got aF d
  phase : ∃ bs : List Bool, bs.length = ss.length ∧ M bs (NC.map (got a)) w ∧ ∀ (j s : Nat), ss[j]? = some s → hl.getD s false = bs.getD j false
structure FitS (l : List Oper) (ss : List Nat) (N : Nat) (NC : List Tmp) (m : List Bool) : Prop where
  fit : ∀ (i : Nat) o, l[i]? = some o → fitsW l ss N NC i o = true
  one : (dsts l).Nodup
  once : ss.Nodup
  lt : ∀ s ∈ ss, s < l.length
  cov : ∀ i, i < l.length → i ∉ ss → m.getD i false = true
  lex : lexOk N (sel m l) = true
  nosel : ∀ o ∈ l, ∀ cs b, o.op ≠ .select cs b
  wd : ∀ d ∈ wdsts l ss, d ∉ dsts (sel m l)
theorem fits_of {m : List Bool} (h : setsB l ss N NC m = true) : FitS l ss N NC m := by
  unfold setsB at h
  simp only [Bool.and_eq_true] at h
  obtain ⟨h1, h2, h3, h5, h6, h7, h8, h9⟩ := h
  refine ⟨fun i o ho => List.all_eq_true.1 h1 (o, i) (by rw [List.mem_zipIdx_iff_getElem?]; simpa using ho), of_decide_eq_true h2, of_decide_eq_true h3, fun s hs => by have := List.all_eq_true.1 h5 s hs; simpa using this, fun i hi hn => ?_, h7, fun o ho cs b => ?_, fun d hd => by have := List.all_eq_true.1 h9 d hd; simpa using this⟩
  · have := List.all_eq_true.1 h6 i (List.mem_range.2 hi)
    simpa [hn] using this
  · obtain ⟨j, hj⟩ := List.mem_iff_getElem?.1 ho
    exact Region.noSelect_spec h8 j o cs b (by simpa using hj)
theorem any_sets {m : List Bool} (O : FitS l ss N NC m) (hF : ∀ t, t ∉ dsts l → got aF t = got a0 t) (hfs : aF.tmps.size = N) (hfd : aF.defers = a0.defers)
    (hW : ∀ d ∈ wdsts l ss, d ∉ NC → got aF d = got a1 d) (hMg : ∀ bs vs W W', M bs vs W → Cl W W' → M bs vs W')
    (hq : ∀ bs vs W, M bs vs W → ∀ (i : Nat) o, l[i]? = some o → i ∉ ss → ∀ d, o.dst = some d → ∀ w2, Cl W w2 → o.quietAt P aF (Cl W) w2 (got aF d))
    (hw : ∀ (bs : List Bool) (k s : Nat) o, bs.length = ss.length → ss[k]? = some s → l[s]? = some o → bs.getD k false = false → (∀ (k' s' : Nat), ss[k']? = some s' → waits o s' = true → bs.getD k' false = true) → ∀ a W, a.tmps.size = N → M bs (NC.map (got a)) W → (∀ t ∈ looks o, t ∉ NC → got a t = got aF t) →
      o.wp P a W (fun a' W' => ∃ v, a' = a.put o.dst v ∧ (∀ d, o.dst = some d → d ∉ NC → v = got a1 d) ∧ M (bs.set k true) (NC.map (got a')) W') (fun _ _ _ => False))
    (hend : ∀ vs W, vs.length = NC.length → M (List.replicate ss.length true) vs W → Q .normal (putAll aF NC vs) W) :
    ∀ (f : Nat) (hl : Array Bool) (a : Act) (w : World), InvS l ss N NC M a0 aF hl a w → hl.toList.count false ≤ f → wpAny P .any l.toArray Q f hl a w := by
  have low : ∀ (i : Nat) o, l[i]? = some o → ∀ e ∈ o.after, Region.binds .any e = true → e.on < i := fun i o ho e he hb => by
    have h := O.fit i o ho
    unfold fitsW at h
    simp only [Bool.and_eq_true] at h
    have := Array.all_eq_true_iff_forall_mem.1 h.2.1 e he
    simpa [hb] using this
  have done : ∀ (hl : Array Bool) (a : Act) (w : World), InvS l ss N NC M a0 aF hl a w → (∀ i, i < l.length → hl.getD i false = true) → Q .normal a w := by
    intro hl a w I hall
    obtain ⟨bs, hbl, hM, hk⟩ := I.phase
    have e : putAll aF NC (NC.map (got a)) = a := by
      refine putAll_eq (N := N) I.frame NC aF hfs (by rw [hfd, I.defers]) fun t ht => ?_
      by_cases q : t ∈ dsts l
      · obtain ⟨o, ho, hod⟩ := List.mem_filterMap.1 q
        obtain ⟨j, hj⟩ := List.mem_iff_getElem?.1 ho
        exact (I.const j o t hj (hall j (List.getElem?_eq_some_iff.1 hj).1) hod ht).symm
      · rw [I.old t q, hF t q]
    have hbs : bs = List.replicate ss.length true := by
      refine List.ext_getElem (by simp [hbl]) fun k h1 h2 => ?_
      have q : k < ss.length := by omega
      have := hk k _ (List.getElem?_eq_getElem q)
      rw [hall _ (O.lt _ (List.getElem_mem q)), List.getD_eq_getElem?_getD, List.getElem?_eq_getElem h1] at this
      simpa using this.symm
    have := hend (NC.map (got a)) w (by simp) (hbs ▸ hM)
    rwa [e] at this
  -- the least one that is left is ready
  have some_ready : ∀ (hl : Array Bool), hl.size = l.length → Region.ready .any l.toArray hl = [] → ∀ i, i < l.length → hl.getD i false = true := by
    intro hl hs h0 i
    induction i using Nat.strongRecOn with
    | _ i ih =>
      intro hi
      cases q : hl.getD i false with
      | true => rfl
      | false =>
        have hun : hl.getD i true = false := by
          have hlt : i < hl.size := by omega
          simpa [hlt] using q
        have := (show i ∈ Region.ready .any l.toArray hl from mem_ready.2 ⟨hun, l[i], (by rw [List.getElem?_toArray]; exact List.getElem?_eq_getElem hi), fun e he hb => ih e.on (low i _ (List.getElem?_eq_getElem hi) e he hb) (by have := low i _ (List.getElem?_eq_getElem hi) e he hb; omega)⟩)
        rw [h0] at this; cases this
  intro f
  induction f with
  | zero =>
    intro hl a w I hc
    have hall : ∀ i, i < l.length → hl.getD i false = true := fun i hi => by
      cases q : hl.getD i false with
      | true => rfl
      | false =>
        have hlt : i < hl.size := by rw [I.size]; exact hi
        simp [hlt] at q
        have : false ∈ hl.toList := by rw [← q]; simp
        have := List.count_pos_iff.2 this
        omega
    refine ⟨?_, done hl a w I hall⟩
    cases hr : Region.ready .any l.toArray hl with
    | nil => rfl
    | cons i r =>
      obtain ⟨hun, o, ho, -⟩ := mem_ready.1 (show i ∈ Region.ready .any l.toArray hl by rw [hr]; exact List.mem_cons_self)
      have hi : i < l.length := by simpa using (Array.getElem?_eq_some_iff.1 ho).1
      have h1 := hall i hi
      rw [getD_both hun] at h1; cases h1
  | succ f ih =>
    intro hl a w I hc
    refine ⟨fun hr => done hl a w I (some_ready hl I.size hr), fun i hr => ?_⟩
    obtain ⟨hun, o, ho, hall⟩ := mem_ready.1 hr
    have ho' : l[i]? = some o := by simpa using ho
    have hi : i < l.length := (List.getElem?_eq_some_iff.1 ho').1
    have hil : i < hl.size := by rw [I.size]; exact hi
    have hsf : hl.getD i false = false := getD_both hun
    have hf := O.fit i o ho'
    unfold fitsW at hf
    simp only [Bool.and_eq_true] at hf
    obtain ⟨hg, -, ⟨hds, hlk⟩, hnc⟩ := hf
    have hg : o.guard = none := by simpa using hg
    have hcount : (hl.setIfInBounds i true).toList.count false ≤ f := by
      rw [Array.toList_setIfInBounds, List.count_set (by simpa using hil)]
      have hun' : hl[i] = false := by simpa [hil] using hun
      have hp : 0 < hl.toList.count false := List.count_pos_iff.2 (by rw [← hun']; simp)
      have hp' : hl.toList.count false - 1 ≤ f := by omega
      simpa [hun'] using hp'
    have cst : ∀ t ∈ looks o, t ∉ NC → got a t = got aF t := by
      intro t ht hn
      have h := List.all_eq_true.1 hlk t ht
      rw [Bool.or_eq_true] at h
      rcases h with h | h
      · have h : t ∉ dsts l := by simpa using h
        rw [I.old t h, hF t h]
      · rw [Array.any_eq_true'] at h
        obtain ⟨e, he, h⟩ := h
        rw [Bool.and_eq_true, beq_iff_eq] at h
        have hl' := hall e he h.1
        cases hp : l[e.on]? with
        | none => rw [hp] at h; simp at h
        | some p => rw [hp] at h; exact I.const e.on p t hp hl' (by simpa using h.2) hn
    have self : ∀ j, (hl.setIfInBounds i true).getD j false = true → j = i ∨ hl.getD j false = true := fun j h => by
      by_cases q : j = i
      · exact .inl q
      · exact .inr (set_false h q)
    -- what the frame is behind it
    have next : ∀ (v : Value) (w' : World), (∀ d, o.dst = some d → d ∉ NC → v = got aF d) → (∃ bs : List Bool, bs.length = ss.length ∧ M bs (NC.map (got (a.put o.dst v))) w' ∧ ∀ (j s : Nat), ss[j]? = some s → (hl.setIfInBounds i true).getD s false = bs.getD j false) →
        InvS l ss N NC M a0 aF (hl.setIfInBounds i true) (a.put o.dst v) w' := by
      intro v w' hv hp
      cases hd : o.dst with
      | none =>
        rw [hd] at hp
        refine ⟨by simpa using I.size, I.frame, I.defers, I.old, fun j p d h1 h2 h3 h4 => ?_, hp⟩
        rcases self j h2 with rfl | h2
        · rw [ho'] at h1; cases h1; rw [hd] at h3; cases h3
        · exact I.const j p d h1 h2 h3 h4
      | some d =>
        rw [hd] at hp
        have hdN : d < N := by rw [hd] at hds; simpa using hds
        refine ⟨by simpa using I.size, by simpa [Act.put] using I.frame, I.defers, fun t ht => ?_, fun j p x h1 h2 h3 h4 => ?_, hp⟩
        · rw [got_put (fun e => ht (by rw [e]; exact mem_dsts ho' hd))]; exact I.old t ht
        · by_cases q : j = i
          · subst q; rw [ho'] at h1; cases h1; rw [hd] at h3; cases h3
            rw [got_set (by rw [I.frame]; exact hdN)]; exact hv d hd h4
          · rw [got_put (fun e => q (dst_one O.one h1 ho' (by rw [← e]; exact h3) hd))]; exact I.const j p x h1 (set_false h2 q) h3 h4
    obtain ⟨bs, hbl, hM, hk⟩ := I.phase
    unfold wpOp
    simp only [ho]
    rw [if_pos (show Region.wanted o (yielded l.toArray a.tmps) = true by simp [Region.wanted, hg])]
    refine .inl ?_
    by_cases his : i ∈ ss
    · -- a write: the next one
      obtain ⟨j, hj⟩ := List.mem_iff_getElem?.1 his
      have hjl : j < ss.length := (List.getElem?_eq_some_iff.1 hj).1
      have hbj : bs.getD j false = false := by rw [← hk j i hj]; exact hsf
      have hpre : ∀ (k' s' : Nat), ss[k']? = some s' → waits o s' = true → bs.getD k' false = true := fun k' s' hs' hwt => by
        obtain ⟨e, he, hb, hon⟩ := waits_iff hwt
        rw [← hk k' s' hs']
        exact hon ▸ hall e he hb
      refine Oper.wp_mono ?_ (wp_noQ (hw bs j i o hbl hj ho' hbj hpre a w I.frame hM cst))
      rintro a' w' ⟨v, rfl, hv, hM'⟩
      refine ih _ _ _ (next v w' (fun d hd hn => ?_) ⟨bs.set j true, by simpa using hbl, hM', fun k s hs => ?_⟩) hcount
      · rw [hv d hd hn]
        exact (hW d (List.mem_filterMap.2 ⟨i, his, by rw [ho']; exact hd⟩) hn).symm
      · by_cases q : s = i
        · subst q
          have hjk : k = j := (List.getElem?_inj (List.getElem?_eq_some_iff.1 hs).1 O.once).1 (hs.trans hj.symm)
          subst hjk
          rw [List.getD_eq_getElem?_getD, List.getElem?_set_self (by omega)]
          simp [hil]
        · have hne : j ≠ k := fun e => q (by rw [← e, hj] at hs; cases hs; rfl)
          rw [getD_set_ne false (Ne.symm q), hk k s hs, List.getD_eq_getElem?_getD, List.getD_eq_getElem?_getD, List.getElem?_set_ne hne]
    · -- it only reads
      have hnc : (∀ t ∈ looks o, t ∉ NC) ∧ ∃ d, o.dst = some d ∧ d ∉ NC := by
        simp only [Bool.or_eq_true, Bool.and_eq_true] at hnc
        rcases hnc with h | ⟨h1, h2⟩
        · exact absurd (by simpa using h) his
        · refine ⟨fun t ht => by have := List.all_eq_true.1 h1 t ht; simpa using this, ?_⟩
          cases hd : o.dst with
          | none => rw [hd] at h2; cases h2
          | some d => rw [hd] at h2; exact ⟨d, rfl, by simpa using h2⟩
      obtain ⟨c1, d, hd, c2⟩ := hnc
      have hx : execOp a.eval o = execOp aF.eval o := execOp_congr o (O.nosel o (List.mem_of_getElem? ho')) (looks_eval fun t ht => cst t ht (c1 t ht))
      refine Oper.wp_of_quiet (C := Cl w) (K := fun a'' => a'' = a.put o.dst (got aF d)) (Cl.of (Below.refl _ _)) ?_ ⟨got aF d, fun w2 h2 => ?_, rfl⟩
      · rintro a' w' hc' rfl
        have same : NC.map (got (a.put o.dst (got aF d))) = NC.map (got a) := by
          rw [hd]; exact List.map_congr_left fun t ht => got_put (fun e => c2 (e ▸ ht))
        refine ih _ _ _ (next (got aF d) w' (fun d' hd' _ => by rw [hd] at hd'; cases hd'; rfl) ⟨bs, hbl, by rw [same]; exact hMg bs _ w w' hM hc', fun j s hs => ?_⟩) hcount
        rw [getD_set_ne false (fun e => his (by rw [e]; exact List.mem_of_getElem? hs)), hk j s hs]
      · have := hq bs _ w hM i o ho' his d hd w2 h2
        unfold Oper.quietAt at this ⊢
        rw [hx]
        exact this
theorem duty_set {a1 aF : Act} (hB : setsB l ss N NC m0 = true) (hNC : NC.Nodup ∧ ∀ t ∈ NC, t < N) (hfs : aF.tmps.size = N)
    (hw : ∀ (bs : List Bool) (k s : Nat) o, bs.length = ss.length → ss[k]? = some s → l[s]? = some o → bs.getD k false = false → (∀ (k' s' : Nat), ss[k']? = some s' → waits o s' = true → bs.getD k' false = true) → ∀ vs W, vs.length = NC.length → M bs vs W →
      o.wp P (putAll aF NC vs) W (fun a' W' => ∃ v, a' = (putAll aF NC vs).put o.dst v ∧ (∀ d, o.dst = some d → d ∉ NC → v = got a1 d) ∧ M (bs.set k true) (NC.map (got a')) W') (fun _ _ _ => False)) :
    ∀ (bs : List Bool) (k s : Nat) o, bs.length = ss.length → ss[k]? = some s → l[s]? = some o → bs.getD k false = false → (∀ (k' s' : Nat), ss[k']? = some s' → waits o s' = true → bs.getD k' false = true) → ∀ a W, a.tmps.size = N → M bs (NC.map (got a)) W → (∀ t ∈ looks o, t ∉ NC → got a t = got aF t) →
      o.wp P a W (fun a' W' => ∃ v, a' = a.put o.dst v ∧ (∀ d, o.dst = some d → d ∉ NC → v = got a1 d) ∧ M (bs.set k true) (NC.map (got a')) W') (fun _ _ _ => False) := fun bs k s o hb hs ho h1 h2 a W ha hM hl => by
  have O := fits_of hB
  have hd : ∀ d, o.dst = some d → d < N := fun d h => by
    have := O.fit s o ho
    unfold fitsW at this
    simp only [Bool.and_eq_true] at this
    have := this.2.2.1.1
    rw [h] at this
    simpa using this
  have hin : ∀ t ∈ NC, got (putAll aF NC (NC.map (got a))) t = got a t := got_putAll a NC aF hNC.1 (fun t ht => by rw [hfs]; exact hNC.2 t ht)
  have same : ∀ v, NC.map (got (a.put o.dst v)) = NC.map (got ((putAll aF NC (NC.map (got a))).put o.dst v)) := fun v => by
    cases hq : o.dst with
    | none => exact List.map_congr_left fun t ht => (hin t ht).symm
    | some d =>
      refine List.map_congr_left fun t ht => ?_
      by_cases e : t = d
      · subst e
        rw [got_set (by rw [ha]; exact hd t hq), got_set (by rw [size_putAll, hfs]; exact hd t hq)]
      · rw [got_put e, got_put e, hin t ht]
  refine Oper.wp_mono ?_ (wp_swap (aF := putAll aF NC (NC.map (got a))) (R := fun v W' => (∀ d, o.dst = some d → d ∉ NC → v = got a1 d) ∧ M (bs.set k true) (NC.map (got ((putAll aF NC (NC.map (got a))).put o.dst v))) W') (execOp_congr o (O.nosel o (List.mem_of_getElem? ho)) (looks_eval fun t ht => ?_)) (fun d h => by rw [size_putAll, hfs]; exact hd d h) (Oper.wp_mono ?_ (hw bs k s o hb hs ho h1 h2 (NC.map (got a)) W (by simp) hM)))
  · rintro a' W' ⟨v, rfl, h2, h3⟩
    exact ⟨v, rfl, h2, by rw [same v]; exact h3⟩
  · by_cases q : t ∈ NC
    · exact (hin t q).symm
    · rw [got_putAll_not _ _ _ _ q]; exact hl t ht q
  · rintro a' W' ⟨v, rfl, h2, h3⟩
    exact ⟨v, rfl, h2, h3⟩
theorem wp_sets {id : Nat} {a w} (NC : List Tmp) (ss : List Nat) (N : Nat) (m : List Bool) (ds : List (Tmp × Value)) (M : List Bool → List Value → World → Prop) (C : World → Prop) {aF : Act} (hm : P.follows .mixedOrders = true) (hB : setsB l ss N NC m = true) (hNC : (decide NC.Nodup && (NC.all fun t => decide (t < N))) = true) (hds : ds.map (·.1) = wdsts l ss)
    (ha : a.tmps.size = N) (hMC : ∀ bs vs W, M bs vs W → C W) (hMg : ∀ bs vs W W', M bs vs W → Cl W W' → M bs vs W') (h0 : ∀ vs, vs.length = NC.length → M (List.replicate ss.length false) vs w)
    (hq : ∀ W, C W → wpQuiet P l.toArray (fun w' => ∃ p : Regrown, w' = Sort.grow (redrawn W p.d) p.os) (fun a' => a' = aF) (sel m l) (putAll a (ds.map (·.1)) (ds.map (·.2))))
    (hw : ∀ (bs : List Bool) (k s : Nat) o, bs.length = ss.length → ss[k]? = some s → l[s]? = some o → bs.getD k false = false → (∀ (k' s' : Nat), ss[k']? = some s' → waits o s' = true → bs.getD k' false = true) → ∀ vs W, vs.length = NC.length → M bs vs W →
      o.wp P (putAll aF NC vs) W (fun a' W' => ∃ v, a' = (putAll aF NC vs).put o.dst v ∧ (∀ d, o.dst = some d → d ∉ NC → v = got (putAll a (ds.map (·.1)) (ds.map (·.2))) d) ∧ M (bs.set k true) (NC.map (got a')) W') (fun _ _ _ => False))
    (hend : ∀ vs W, vs.length = NC.length → M (List.replicate ss.length true) vs W → Q .normal (putAll aF NC vs) W) : (Code.region id l.toArray true).wp P Q a w := by
  have hn : NC.Nodup ∧ ∀ t ∈ NC, t < N := by
    rw [Bool.and_eq_true] at hNC
    exact ⟨of_decide_eq_true hNC.1, fun t ht => by have := List.all_eq_true.1 hNC.2 t ht; simpa using this⟩
  have ha1 : (putAll a (ds.map (·.1)) (ds.map (·.2))).tmps.size = N := by rw [size_putAll, ha]
  have hd1 : ∀ (NC : List Tmp) (vs : List Value) (a : Act), (putAll a NC vs).defers = a.defers := fun NC => by
    induction NC with
    | nil => intro vs a; rfl
    | cons x NC ih =>
      intro vs a
      cases vs with
      | nil => rfl
      | cons v vs =>
        have := ih vs (a.put (some x) v)
        exact this
  have O := fits_of hB
  have facts : ∀ W, C W → _ := fun W hW => lex_facts (sel m l) (putAll a (ds.map (·.1)) (ds.map (·.2))) (fun o ho => O.nosel o (sel_sub m _ o ho)) O.lex ha1 (hq W hW)
  obtain ⟨f1, f2, f3, -⟩ := facts w (hMC _ _ _ (h0 (NC.map (got a)) (by simp)))
  have h0' := h0 (NC.map (got a)) (by simp)
  refine wp_region_any hm ?_
  refine any_sets (a0 := a) (a1 := putAll a (ds.map (·.1)) (ds.map (·.2))) O (fun t ht => ?_) f1 (by rw [f2, hd1]) (fun d hd _ => f3 d (O.wd d hd)) hMg (fun bs vs W hM i o ho his d hd w2 h2 => ?_) (duty_set hB hn f1 hw) hend _ _ a _ ?_ (by simp)
  · rw [f3 t (fun q => ht (dsts_sub m l t q))]
    refine got_putAll_not _ _ _ _ ?_
    rw [hds]
    intro q
    obtain ⟨s, hs, h⟩ := List.mem_filterMap.1 q
    cases hp : l[s]? with
    | none => rw [hp] at h; cases h
    | some p => rw [hp] at h; exact ht (mem_dsts hp h)
  · exact (facts W (hMC _ _ _ hM)).2.2.2 o (mem_sel m l i o ho (O.cov i (List.getElem?_eq_some_iff.1 ho).1 his)) d hd w2 h2
  · exact ⟨by simp, ha, rfl, fun _ _ => rfl, fun i o d _ h => (by rw [getD_replicate_false] at h; cases h), ⟨List.replicate ss.length false, by simp, hMg _ _ w _ h0' (Cl.of (Below.refl _ w).drew), fun j s _ => by rw [getD_replicate_false]; simp [List.getD_eq_getElem?_getD, List.getElem?_replicate]; try (split <;> rfl)⟩⟩
end
end Ws
end Go.Proofs.Ytchnnpaebggfdaa

namespace Go.Proofs.Ytchnnpaebggfdaa
set_option maxRecDepth 100000
open Go.ChangeShapes Go.WideShapes Go.ChangeAt Go.RowKit Go.Deep
namespace Ws
open Lt Wr
section
variable {P : Program} {l : List Oper}
structure Two2 (w : World) (tA tB : TypeId) (zA cA zB cB : List Value) (bs : List Bool) (vs : List Value) (Y : World) : Prop where
  below : Below w.heap.size w Y
  c0 : bs.getD 0 false = true → ∃ g, vs.getD 0 undef = .pointer (some ⟨g, 0, none⟩) ∧ w.heap.size ≤ g ∧ VRow Y g tA (if bs.getD 2 false = true then cA else zA)
  c1 : bs.getD 1 false = true → ∃ g, vs.getD 1 undef = .pointer (some ⟨g, 0, none⟩) ∧ w.heap.size ≤ g ∧ VRow Y g tB (if bs.getD 3 false = true then cB else zB)
  o2 : bs.getD 2 false = true → bs.getD 0 false = true
  o3 : bs.getD 3 false = true → bs.getD 1 false = true
theorem Two2.on {w Y Z : World} {tA tB : TypeId} {zA cA zB cB : List Value} {bs : List Bool} {vs : List Value} (h : Two2 w tA tB zA cA zB cB bs vs Y) (b : Below Y.heap.size Y Z) : Two2 w tA tB zA cA zB cB bs vs Z :=
  ⟨grow h.below b, fun e => by obtain ⟨g, e1, e2, r⟩ := h.c0 e; exact ⟨g, e1, e2, r.below b r.lt⟩, fun e => by obtain ⟨g, e1, e2, r⟩ := h.c1 e; exact ⟨g, e1, e2, r.below b r.lt⟩, h.o2, h.o3⟩
theorem row_ne {W : World} {g g' : Nat} {t t' : TypeId} {c c' : List Value} (h : VRow W g t c) (h' : VRow W g' t' c') (hn : t ≠ t') : g ≠ g' := by
  rintro rfl
  unfold VRow at h h'
  rw [h] at h'
  cases h'
  exact hn rfl
theorem wp_boxes2 {id : Nat} {a : Act} {w : World} {Q : Exit → Act → World → Prop} (sa sb xa xb N : Nat) (d1 d2 yA yB : Tmp) (m : List Bool) {aF : Act} (tA tB : TypeId) (zA cA zB cB : List Value)
    (hm : P.follows .mixedOrders = true) (hB : setsB l [sa, sb, xa, xb] N [d1, d2] m = true) (hNC : (decide [d1, d2].Nodup && ([d1, d2].all fun t => decide (t < N))) = true) (hwd : [d1, d2] = wdsts l [sa, sb, xa, xb]) (ha : a.tmps.size = N) (hne : tA ≠ tB)
    {t1 t2 t3 t4 : TypeId} {p1 p2 p3 p4 : String} {f1 f2 f3 f4 : Array Edge}
    (hoa : l[sa]? = some ⟨some d1, .alloc tA, t1, p1, f1, none⟩) (hob : l[sb]? = some ⟨some d2, .alloc tB, t2, p2, f2, none⟩)
    (hpa : l[xa]? = some ⟨none, .store tA (.tmp d1) (.tmp yA), t3, p3, f3, none⟩) (hpb : l[xb]? = some ⟨none, .store tB (.tmp d2) (.tmp yB), t4, p4, f4, none⟩)
    (wa : waits ⟨none, .store tA (.tmp d1) (.tmp yA), t3, p3, f3, none⟩ sa = true) (wb : waits ⟨none, .store tB (.tmp d2) (.tmp yB), t4, p4, f4, none⟩ sb = true)
    (htA : ∀ W, (Instr.alloc tA true (.tuple #[])).run P W = .ok (.pointer (some ⟨W.heap.size, 0, none⟩)) (W.alloc (.cells zA.toArray tA)))
    (htB : ∀ W, (Instr.alloc tB true (.tuple #[])).run P W = .ok (.pointer (some ⟨W.heap.size, 0, none⟩)) (W.alloc (.cells zB.toArray tB)))
    (hiA : (P.info? tA).map (·.size) = some cA.length) (hlA : zA.length = cA.length) (h1A : cA.toArray.all (·.oneCell') = true)
    (hiB : (P.info? tB).map (·.size) = some cB.length) (hlB : zB.length = cB.length) (h1B : cB.toArray.all (·.oneCell') = true)
    (hq : ∀ W, Below w.heap.size w W → wpQuiet P l.toArray (fun w' => ∃ p : Regrown, w' = Sort.grow (redrawn W p.d) p.os) (fun a' => a' = aF) (sel m l) (putAll a [d1, d2] [undef, undef]))
    (hyA : ∀ x0 x1, (putAll aF [d1, d2] [x0, x1]).eval (.tmp yA) = .agg cA.toArray) (hyB : ∀ x0 x1, (putAll aF [d1, d2] [x0, x1]).eval (.tmp yB) = .agg cB.toArray)
    (e1 : ∀ x0 x1, (putAll aF [d1, d2] [x0, x1]).eval (.tmp d1) = x0) (e2 : ∀ x0 x1, (putAll aF [d1, d2] [x0, x1]).eval (.tmp d2) = x1)
    (g0 : ∀ x0 x1 z, [d1, d2].map (got ((putAll aF [d1, d2] [x0, x1]).put none z)) = [x0, x1])
    (g1 : ∀ x0 x1 z, [d1, d2].map (got ((putAll aF [d1, d2] [x0, x1]).put (some d1) z)) = [z, x1]) (g2 : ∀ x0 x1 z, [d1, d2].map (got ((putAll aF [d1, d2] [x0, x1]).put (some d2) z)) = [x0, z])
    (hend : ∀ ga gb Y, Kp.Kept w Y ga tA cA → Kp.Kept w Y gb tB cB → Q .normal (putAll aF [d1, d2] [.pointer (some ⟨ga, 0, none⟩), .pointer (some ⟨gb, 0, none⟩)]) Y) : (Code.region id l.toArray true).wp P Q a w := by
  have two : ∀ {q : List Value}, q.length = 2 → ∃ x y, q = [x, y] := fun {q} h => by
    match q, h with
    | [x, y], _ => exact ⟨x, y, rfl⟩
  have four : ∀ {q : List Bool}, q.length = 4 → ∃ x y z u, q = [x, y, z, u] := fun {q} h => by
    match q, h with
    | [x, y, z, u], _ => exact ⟨x, y, z, u, rfl⟩
  refine wp_sets (aF := aF) [d1, d2] [sa, sb, xa, xb] N m [(d1, undef), (d2, undef)] (Two2 w tA tB zA cA zB cB) (fun Y => Below w.heap.size w Y) hm hB hNC hwd ha (fun _ _ _ h => h.below) (fun _ _ _ _ h c => h.on c.to)
    (fun vs _ => ⟨Below.refl _ _, fun e => (by cases e), fun e => (by cases e), fun e => (by cases e), fun e => (by cases e)⟩) hq ?_ ?_
  · intro bs k st o hbl hs ho hk hpre vs Y hv hM
    obtain ⟨x0, x1, rfl⟩ := two hv
    obtain ⟨y0, y1, y2, y3, rfl⟩ := four hbl
    rcases k with _ | _ | _ | _ | k
    · obtain rfl : sa = st := by simpa using hs
      obtain rfl := Option.some.inj (hoa.symm.trans ho)
      obtain rfl : y0 = false := hk
      have hy2 : y2 = false := by
        cases y2
        · rfl
        · exact absurd (hM.o2 rfl) (by simp)
      subst hy2
      have hx : (execOp (putAll aF [d1, d2] [x0, x1]).eval ⟨some d1, .alloc tA, t1, p1, f1, none⟩).run P Y = .ok (.value (.pointer (some ⟨Y.heap.size, 0, none⟩))) (Y.alloc (.cells zA.toArray tA)) := by
        simp only [execOp, Sem.run_bind, htA, Result.andThen, Sem.run_pure]
      unfold Oper.wp
      rw [hx, Oper.upon_value]
      refine ⟨_, rfl, fun d hd hn => ?_, ?_⟩
      · cases hd; exact absurd (List.mem_cons_self) hn
      · rw [g1]
        have hg := hM.on ((Below.refl Y.heap.size Y).alloc (Nat.le_refl _) (.cells zA.toArray tA))
        exact ⟨hg.below, fun _ => ⟨_, rfl, hM.below.size, VRow.new Y zA tA⟩, hg.c1, fun _ => rfl, hg.o3⟩
    · obtain rfl : sb = st := by simpa using hs
      obtain rfl := Option.some.inj (hob.symm.trans ho)
      obtain rfl : y1 = false := hk
      have hy3 : y3 = false := by
        cases y3
        · rfl
        · exact absurd (hM.o3 rfl) (by simp)
      subst hy3
      have hx : (execOp (putAll aF [d1, d2] [x0, x1]).eval ⟨some d2, .alloc tB, t2, p2, f2, none⟩).run P Y = .ok (.value (.pointer (some ⟨Y.heap.size, 0, none⟩))) (Y.alloc (.cells zB.toArray tB)) := by
        simp only [execOp, Sem.run_bind, htB, Result.andThen, Sem.run_pure]
      unfold Oper.wp
      rw [hx, Oper.upon_value]
      refine ⟨_, rfl, fun d hd hn => ?_, ?_⟩
      · cases hd; exact absurd (List.mem_cons_of_mem _ List.mem_cons_self) hn
      · rw [g2]
        have hg := hM.on ((Below.refl Y.heap.size Y).alloc (Nat.le_refl _) (.cells zB.toArray tB))
        exact ⟨hg.below, hg.c0, fun _ => ⟨_, rfl, hM.below.size, VRow.new Y zB tB⟩, hg.o2, fun _ => rfl⟩
    · obtain rfl : xa = st := by simpa using hs
      obtain rfl := Option.some.inj (hpa.symm.trans ho)
      obtain rfl : y0 = true := hpre 0 sa rfl wa
      obtain rfl : y2 = false := hk
      obtain ⟨g, e0, hgw, r⟩ := hM.c0 rfl
      have r' : VRow Y g tA zA := r
      obtain rfl : x0 = .pointer (some ⟨g, 0, none⟩) := e0
      refine wp_store_row tA (.tmp d1) (.tmp yA) rfl g cA.toArray (e1 _ _) (hyA _ _) tA zA.toArray r' (by simpa using hiA) (by simpa using hlA) h1A ?_
      refine ⟨_, rfl, fun d hd => (by cases hd), ?_⟩
      rw [g0]
      refine ⟨Below.put hM.below hgw _, fun _ => ⟨g, rfl, hgw, r'.put cA⟩, fun e => ?_, fun _ => rfl, hM.o3⟩
      obtain ⟨g', q0, q1, q2⟩ := hM.c1 e
      exact ⟨g', q0, q1, q2.putOther (Ne.symm (row_ne r' q2 hne)) _⟩
    · obtain rfl : xb = st := by simpa using hs
      obtain rfl := Option.some.inj (hpb.symm.trans ho)
      obtain rfl : y1 = true := hpre 1 sb rfl wb
      obtain rfl : y3 = false := hk
      obtain ⟨g, e0, hgw, r⟩ := hM.c1 rfl
      have r' : VRow Y g tB zB := r
      obtain rfl : x1 = .pointer (some ⟨g, 0, none⟩) := e0
      refine wp_store_row tB (.tmp d2) (.tmp yB) rfl g cB.toArray (e2 _ _) (hyB _ _) tB zB.toArray r' (by simpa using hiB) (by simpa using hlB) h1B ?_
      refine ⟨_, rfl, fun d hd => (by cases hd), ?_⟩
      rw [g0]
      refine ⟨Below.put hM.below hgw _, fun e => ?_, fun _ => ⟨g, rfl, hgw, r'.put cB⟩, hM.o2, fun _ => rfl⟩
      obtain ⟨g', q0, q1, q2⟩ := hM.c0 e
      exact ⟨g', q0, q1, q2.putOther (row_ne q2 r' hne) _⟩
    · simp at hs
  · intro vs Y hv hM
    obtain ⟨x0, x1, rfl⟩ := two hv
    obtain ⟨ga, rfl, h1, h2⟩ : ∃ g, x0 = _ ∧ _ := hM.c0 rfl
    obtain ⟨gb, rfl, h3, h4⟩ : ∃ g, x1 = _ ∧ _ := hM.c1 rfl
    exact hend ga gb Y ⟨hM.below, h2, h1⟩ ⟨hM.below, h4, h3⟩
end
end Ws
end Go.Proofs.Ytchnnpaebggfdaa
