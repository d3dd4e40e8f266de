/-
  A region that draws its order and holds ONE store, among whose places are some that hold nothing that any world could change (what a call hands back, where only its kind matters): these may be written, and looked at, behind the store too; what the others hold is told together, with what has been carried out (so one may be written over once it is not needed any more). No function of the program is walked here. No conditions beyond those said.
-/
import Derived.Test.YtcpfdohodadcaaaLateKit
namespace Go.Proofs.Ytcpfdohodadcaaa
open Go.ChangeShapes Go.WideShapes Go.ChangeAt Go.RowKit Go.Deep
namespace Lj
open Flow (looks)
open Lt

section
variable {P : Program} {Q : Exit → Act → World → Prop} {hd : List Oper} {st : Oper} {s N : Nat} {NC NS : List Tmp} {MB : List Nat} {I0 : (Nat → Bool) → (Tmp → Value) → World → Prop} {VS : Tmp → Value → Prop} {Post : (Tmp → Value) → World → Prop} {w0 : World} {a0 aF : Act}
def ValB (NS : List Tmp) (VS : Tmp → Value → Prop) (aF : Act) (t : Tmp) (v : Value) : Prop := (t ∈ NS → VS t v) ∧ (t ∉ NS → v = got aF t)
def at_ (hl : Array Bool) (i : Nat) : Bool := hl.getD i false
/-- One operation's duty, where it writes a place told apart, or looks at one. -/
def Pre (P : Program) (MB : List Nat) (NC NS : List Tmp) (I0 : (Nat → Bool) → (Tmp → Value) → World → Prop) (VS : Tmp → Value → Prop) (w0 : World) (aF : Act) (Q : Exit → Act → World → Prop) (i : Nat) (o : Oper) : Prop :=
  ∀ h a w, I0 h (got a) w → Below w0.heap.size w0 w → (∀ e ∈ o.after, Region.binds .any e = true → h e.on = true) → h i = false → (∀ t ∈ looks o, t ∉ NC → ValB NS VS aF t (got a t)) →
    o.wp P a w (fun a' w' => ∃ v, a' = a.put o.dst v ∧ Below w0.heap.size w0 w' ∧ (∀ d, o.dst = some d → d ∉ NC → ValB NS VS aF d v) ∧
      ∀ h' f', (∀ j ∈ MB, h' j = (decide (j = i) || h j)) → (∀ t ∈ NC, f' t = if o.dst = some t then v else got a t) → I0 h' f' w') Q
/-- The duty of one that only reads, or lays new blocks, ahead of the store. -/
def Oth (P : Program) (NC NS : List Tmp) (VS : Tmp → Value → Prop) (w0 : World) (aF : Act) (Q : Exit → Act → World → Prop) (o : Oper) : Prop :=
  ∀ a w, Below w0.heap.size w0 w → (∀ t ∈ looks o, t ∉ NC ∧ ValB NS VS aF t (got a t)) → o.wp P a w (fun a' w' => ∃ v, a' = a.put o.dst v ∧ Below w.heap.size w w' ∧ ∀ d, o.dst = some d → d ∉ NC ∧ ValB NS VS aF d v) Q
/-- Behind it, or ahead of it. -/
def Free (P : Program) (NS : List Tmp) (VS : Tmp → Value → Prop) (aF : Act) (Q : Exit → Act → World → Prop) (o : Oper) : Prop :=
  ∀ a w, (∀ t ∈ looks o, ValB NS VS aF t (got a t)) → o.wp P a w (fun a' w' => w' = w ∧ ∃ v, a' = a.put o.dst v ∧ ∀ d, o.dst = some d → ValB NS VS aF d v) Q
/-- The store. -/
def Store (P : Program) (NC NS : List Tmp) (I0 : (Nat → Bool) → (Tmp → Value) → World → Prop) (VS : Tmp → Value → Prop) (Post : (Tmp → Value) → World → Prop) (w0 : World) (aF : Act) (Q : Exit → Act → World → Prop) (o : Oper) : Prop :=
  ∀ h a w, I0 h (got a) w → Below w0.heap.size w0 w → (∀ i, waits o i = true → h i = true) → (∀ t ∈ looks o, t ∉ NC → ValB NS VS aF t (got a t)) → o.wp P a w (fun a' w' => a' = a ∧ ∀ f, (∀ t ∈ NC, f t = got a t) → Post f w') Q

structure Inv (hd : List Oper) (st : Oper) (s N : Nat) (NC NS : List Tmp) (I0 : (Nat → Bool) → (Tmp → Value) → World → Prop) (VS : Tmp → Value → Prop) (Post : (Tmp → Value) → World → Prop) (w0 : World) (a0 aF : Act) (hl : Array Bool) (a : Act) (w : World) : Prop where
  size : hl.size = hd.length
  frame : a.tmps.size = N
  defers : a.defers = a0.defers
  old : ∀ t, t ∉ dsts hd → got a t = got a0 t
  const : ∀ (i : Nat) o d, hd[i]? = some o → hl.getD i false = true → o.dst = some d → d ∉ NC → d ∉ NS → got a d = got aF d
  stab : ∀ (i : Nat) o d, hd[i]? = some o → hl.getD i false = true → o.dst = some d → d ∈ NS → VS d (got a d)
  pre : hl.getD s false = false → Below w0.heap.size w0 w ∧ I0 (at_ hl) (got a) w
  post : hl.getD s false = true → ∀ f, (∀ t ∈ NC, f t = got a t) → Post f w
  closed : hl.getD s false = true → ∀ i, waits st i = true → hl.getD i false = true

structure Ok (hd : List Oper) (st : Oper) (s N : Nat) (NC NS : List Tmp) : Prop where
  at_s : hd[s]? = some st
  fit : ∀ (i : Nat) o, hd[i]? = some o → fits hd st s N NC i o = true
  one : (dsts hd).Nodup
  nc : ∀ t ∈ NC, t ∈ dsts hd
  ns : ∀ t ∈ NS, t ∈ dsts hd
  dj : ∀ t ∈ NS, t ∉ NC

theorem step_inv (O : Ok hd st s N NC NS) (hI : ∀ h h' f f' w w', I0 h f w → (∀ j ∈ MB, h' j = h j) → (∀ t ∈ NC, f' t = f t) → Below w.heap.size w w' → I0 h' f' w') (hF : ∀ t, t ∉ dsts hd → got aF t = got a0 t)
    (hpre : ∀ (i : Nat) o, hd[i]? = some o → i ∈ MB → Pre P MB NC NS I0 VS w0 aF Q i o) (hoth : ∀ (i : Nat) o, hd[i]? = some o → i ≠ s → i ∉ MB → Oth P NC NS VS w0 aF Q o) (hlk0 : ∀ (i : Nat) o, hd[i]? = some o → i ≠ s → i ∉ MB → ∀ t ∈ looks o, t ∉ NC) (hsM : s ∉ MB) (hbeh : ∀ (i : Nat) o, hd[i]? = some o → i ≠ s → waits st i = false → Free P NS VS aF Q o) (hst : Store P NC NS I0 VS Post w0 aF Q st)
    {hl : Array Bool} {a : Act} {w : World} (I : Inv hd st s N NC NS I0 VS Post w0 a0 aF hl a w) {i : Nat} (hr : i ∈ Region.ready .any hd.toArray hl) :
    wpOp P hd.toArray Q i (fun a' w' => Inv hd st s N NC NS I0 VS Post w0 a0 aF (hl.setIfInBounds i true) a' w') a w := by
  obtain ⟨hun, o, ho, hall⟩ := mem_ready.1 hr
  have ho' : hd[i]? = some o := by simpa using ho
  have hi : i < hd.length := (List.getElem?_eq_some_iff.1 ho').1
  have hil : i < hl.size := by rw [I.size]; exact hi
  have hf := O.fit i o ho'
  unfold fits at hf
  simp only [Bool.and_eq_true] at hf
  obtain ⟨hg, hlow, hds, hlk, hlate⟩ := hf
  have hg : o.guard = none := by simpa using hg
  -- what it looks at
  have seen : ∀ t ∈ looks o, t ∉ dsts hd ∨ ∃ (j : Nat) (p : Oper), hd[j]? = some p ∧ p.dst = some t ∧ hl.getD j false = true := by
    intro t ht
    have h := List.all_eq_true.1 hlk t ht
    rw [Bool.or_eq_true] at h
    rcases h with h | h
    · left; simpa using h
    · right
      rw [Array.any_eq_true'] at h
      obtain ⟨e, he, h⟩ := h
      rw [Bool.and_eq_true, beq_iff_eq] at h
      have hl' := hall e he h.1
      cases hp : hd[e.on]? with
      | none => rw [hp] at h; simp at h
      | some p => rw [hp] at h; exact ⟨e.on, p, hp, by simpa using h.2, hl'⟩
  have cst : ∀ t, t ∉ NC → t ∉ NS → (t ∉ dsts hd ∨ ∃ (j : Nat) (p : Oper), hd[j]? = some p ∧ p.dst = some t ∧ hl.getD j false = true) → got a t = got aF t := by
    intro t hn hs h
    rcases h with h | ⟨j, p, h1, h2, h3⟩
    · rw [I.old t h, hF t h]
    · exact I.const j p t h1 h3 h2 hn hs
  have stb : ∀ t, t ∈ NS → (t ∉ dsts hd ∨ ∃ (j : Nat) (p : Oper), hd[j]? = some p ∧ p.dst = some t ∧ hl.getD j false = true) → VS t (got a t) := by
    intro t hs h
    rcases h with h | ⟨j, p, h1, h2, h3⟩
    · exact absurd (O.ns t hs) h
    · exact I.stab j p t h1 h3 h2 hs
  have self : ∀ j, (hl.setIfInBounds i true).getD j false = true → j = i ∨ hl.getD j false = true := fun j h => by
    by_cases q : j = i
    · exact .inl q
    · exact .inr (set_false h q)
  unfold wpOp
  simp only [ho]
  rw [if_pos (show Region.wanted o (yielded hd.toArray a.tmps) = true by simp [Region.wanted, hg])]
  by_cases his : i = s
  · -- the store
    subst his
    have : o = st := by have := O.at_s; rw [ho'] at this; exact Option.some.inj this
    subst this
    have hdn : o.dst = none := by
      cases hd' : o.dst with
      | none => rfl
      | some d => rw [hd'] at hds; simp at hds
    have hsf : hl.getD i false = false := getD_both hun
    obtain ⟨hb, hv⟩ := I.pre hsf
    refine .inl (Oper.wp_mono ?_ (hst (at_ hl) a w hv hb (fun j hj => ?_) fun t ht hn => ⟨fun hs => stb t hs (seen t ht), fun hs => cst t hn hs (seen t ht)⟩))
    case refine_2 =>
      unfold waits at hj
      rw [Array.any_eq_true'] at hj
      obtain ⟨e, he, h⟩ := hj
      rw [Bool.and_eq_true, beq_iff_eq] at h
      exact h.2 ▸ hall e he h.1
    rintro a' w' ⟨rfl, hp⟩
    refine ⟨by simpa using I.size, I.frame, I.defers, I.old, fun j p d h1 h2 h3 h4 h5 => ?_, fun j p d h1 h2 h3 h4 => ?_, fun h => ?_, fun _ => hp, fun _ j hj => ?_⟩
    · rcases self j h2 with rfl | h2
      · rw [ho'] at h1; cases h1; rw [hdn] at h3; cases h3
      · exact I.const j p d h1 h2 h3 h4 h5
    · rcases self j h2 with rfl | h2
      · rw [ho'] at h1; cases h1; rw [hdn] at h3; cases h3
      · exact I.stab j p d h1 h2 h3 h4
    · simp [hil] at h
    · unfold waits at hj
      rw [Array.any_eq_true'] at hj
      obtain ⟨e, he, h⟩ := hj
      rw [Bool.and_eq_true, beq_iff_eq] at h
      exact getD_set_true (h.2 ▸ hall e he h.1)
  · obtain ⟨d, hdd, hdN⟩ : ∃ d, o.dst = some d ∧ d < N := by
      cases hd' : o.dst with
      | none => rw [hd'] at hds; simp [his] at hds
      | some d => rw [hd'] at hds; simp at hds; exact ⟨d, rfl, hds.2⟩
    have hne : ∀ (j : Nat) p x, hd[j]? = some p → p.dst = some x → j ≠ i → x ≠ d := fun j p x h1 h2 h3 e => h3 (dst_one O.one h1 ho' (e ▸ h2) hdd)
    have hsd : (hl.setIfInBounds i true).getD s false = hl.getD s false := getD_set_ne false his
    cases hsf : hl.getD s false with
    | false =>
      obtain ⟨hb, hv⟩ := I.pre hsf
      have done : ∀ v w', (d ∉ NC → ValB NS VS aF d v) → Below w0.heap.size w0 w' → I0 (at_ (hl.setIfInBounds i true)) (got (a.put (some d) v)) w' → Inv hd st s N NC NS I0 VS Post w0 a0 aF (hl.setIfInBounds i true) (a.put (some d) v) w' := by
        intro v w' hval hb' hI'
        refine ⟨by simpa using I.size, by simpa [Act.put] using I.frame, I.defers, fun t ht => ?_, fun j p x h1 h2 h3 h4 h5 => ?_, fun j p x h1 h2 h3 h4 => ?_, fun _ => ⟨hb', hI'⟩, fun h => ?_, fun h => ?_⟩
        · rw [got_put (fun e => ht (by rw [e]; exact mem_dsts ho' hdd))]; exact I.old t ht
        · by_cases q : j = i
          · subst q; rw [ho'] at h1; cases h1; rw [hdd] at h3; cases h3
            rw [got_set (by rw [I.frame]; exact hdN)]; exact (hval h4).2 h5
          · rw [got_put (hne j p x h1 h3 q)]; exact I.const j p x h1 (set_false h2 q) h3 h4 h5
        · by_cases q : j = i
          · subst q; rw [ho'] at h1; cases h1; rw [hdd] at h3; cases h3
            rw [got_set (by rw [I.frame]; exact hdN)]; exact (hval (O.dj _ h4)).1 h4
          · rw [got_put (hne j p x h1 h3 q)]; exact I.stab j p x h1 (set_false h2 q) h3 h4
        · rw [hsd, hsf] at h; cases h
        · rw [hsd, hsf] at h; cases h
      by_cases hM : i ∈ MB
      · refine .inl (Oper.wp_mono ?_ (hpre i o ho' hM (at_ hl) a w hv hb (fun e he hb => hall e he hb) (getD_both hun) fun t ht hn => ⟨fun hs => stb t hs (seen t ht), fun hs => cst t hn hs (seen t ht)⟩))
        rintro a' w' ⟨v, rfl, hb', hval, hI'⟩
        rw [hdd]
        refine done v w' (hval d hdd) hb' (hI' _ _ (fun j _ => ?_) fun t ht => ?_)
        · by_cases q : j = i
          · subst q; simp [at_, hil]
          · simp only [at_, q, decide_false, Bool.false_or]; exact getD_set_ne false (Ne.symm q)
        · rw [hdd]
          by_cases q : d = t
          · subst q; rw [if_pos rfl, got_set (by rw [I.frame]; exact hdN)]
          · rw [if_neg (by simpa using q), got_put (Ne.symm q)]
      · refine .inl (Oper.wp_mono ?_ (hoth i o ho' his hM a w hb fun t ht => ⟨hlk0 i o ho' his hM t ht, fun hs => stb t hs (seen t ht), fun hs => cst t (hlk0 i o ho' his hM t ht) hs (seen t ht)⟩))
        rintro a' w' ⟨v, rfl, hb', hval⟩
        obtain ⟨hdn, hval⟩ := hval d hdd
        rw [hdd]
        refine done v w' (fun _ => hval) (grow hb hb') (hI _ _ _ _ _ _ hv (fun j hj => ?_) (fun t ht => got_put (fun e => hdn (e ▸ ht))) hb')
        exact getD_set_ne false (fun e => hM (e ▸ hj))
    | true =>
      have hw : waits st i = false := by
        cases q : waits st i with
        | false => rfl
        | true => have := I.closed hsf i q; rw [getD_both hun] at this; cases this
      simp only [hw, his, decide_false, Bool.false_or, Bool.and_eq_true] at hlate
      obtain ⟨⟨_, h2⟩, h3⟩ := hlate
      rw [hdd] at h3
      have hdn : d ∉ NC := by simpa using h3
      refine .inl (Oper.wp_mono ?_ (hbeh i o ho' his hw a w fun t ht => ⟨fun hs => stb t hs (seen t ht), fun hs => cst t ?_ hs (seen t ht)⟩))
      · rintro a' w' ⟨rfl, v, rfl, hv⟩
        have hv := hv d hdd
        rw [hdd]
        refine ⟨by simpa using I.size, by simpa [Act.put] using I.frame, I.defers, fun t ht => ?_, fun j p x h1 h2 h3 h4 h5 => ?_, fun j p x h1 h2 h3 h4 => ?_, fun h => ?_, fun _ f hf => I.post hsf f fun t ht => ?_, fun _ j hj => getD_set_true (I.closed hsf j hj)⟩
        · rw [got_put (fun e => ht (by rw [e]; exact mem_dsts ho' hdd))]; exact I.old t ht
        · by_cases q : j = i
          · subst q; rw [ho'] at h1; cases h1; rw [hdd] at h3; cases h3
            rw [got_set (by rw [I.frame]; exact hdN)]; exact hv.2 h5
          · rw [got_put (hne j p x h1 h3 q)]; exact I.const j p x h1 (set_false h2 q) h3 h4 h5
        · by_cases q : j = i
          · subst q; rw [ho'] at h1; cases h1; rw [hdd] at h3; cases h3
            rw [got_set (by rw [I.frame]; exact hdN)]; exact hv.1 h4
          · rw [got_put (hne j p x h1 h3 q)]; exact I.stab j p x h1 (set_false h2 q) h3 h4
        · rw [hsd, hsf] at h; cases h
        · exact (hf t ht).trans (got_put (a := a) (v := v) (fun e : t = d => hdn (e ▸ ht)))
      · have := List.all_eq_true.1 h2 t ht
        simpa using this

/-! ### Whatever order is drawn -/
theorem any_late {l : List Oper} {n : Nat} (hdl : hd = l.take n) (hn : n ≤ l.length) (O : Ok hd st s N NC NS) (hI : ∀ h h' f f' w w', I0 h f w → (∀ j ∈ MB, h' j = h j) → (∀ t ∈ NC, f' t = f t) → Below w.heap.size w w' → I0 h' f' w') (hF : ∀ t, t ∉ dsts hd → got aF t = got a0 t)
    (hpre : ∀ (i : Nat) o, hd[i]? = some o → i ∈ MB → Pre P MB NC NS I0 VS w0 aF Q i o) (hoth : ∀ (i : Nat) o, hd[i]? = some o → i ≠ s → i ∉ MB → Oth P NC NS VS w0 aF Q o) (hlk0 : ∀ (i : Nat) o, hd[i]? = some o → i ≠ s → i ∉ MB → ∀ t ∈ looks o, t ∉ NC) (hsM : s ∉ MB) (hbeh : ∀ (i : Nat) o, hd[i]? = some o → i ≠ s → waits st i = false → Free P NS VS aF Q o) (hst : Store P NC NS I0 VS Post w0 aF Q st)
    (hlow : TailC.lowB .any (l.take n) = true) (htl : n = l.length ∨ (Region.sinkB .any l.toArray n = true ∧ Region.chainB .any l.toArray n = true))
    (hseq : Region.seqB .any l.toArray (l.length - n) n (List.replicate n true ++ List.replicate (l.length - n) false).toArray = true)
    (hend : ∀ hl a w, Inv hd st s N NC NS I0 VS Post w0 a0 aF hl a w → (∀ i, i < n → hl.getD i false = true) → wpList P l.toArray Q (l.drop n) a w) :
    ∀ (f : Nat) (hl listed : Array Bool) (a : Act) (w : World), TailC.Same n hl listed → HeadInv .any l.toArray n listed → Inv hd st s N NC NS I0 VS Post w0 a0 aF hl a w → hl.toList.count false ≤ f → wpAny P .any l.toArray Q (f + (l.length - n)) listed a w := by
  have hsz : l.toArray.size = l.length := by simp
  have done : ∀ (hl listed : Array Bool) (a : Act) (w : World), TailC.Same n hl listed → HeadInv .any l.toArray n listed → Inv hd st s N NC NS I0 VS Post w0 a0 aF hl a w → (∀ i, i < n → hl.getD i true = true) → wpAny P .any l.toArray Q (l.length - n) listed a w := by
    intro hl listed a w hsm inv I hall
    have hls : listed.size = l.length := inv.size.trans hsz
    have he : listed = (List.replicate n true ++ List.replicate (l.length - n) false).toArray := by
      apply Array.ext_getElem?
      intro i
      by_cases h1 : i < l.length
      · have hx : listed[i]? = some (listed.getD i true) := by
          rw [Array.getElem?_eq_getElem (by omega)]; simp [hls, h1]
        rw [hx]
        by_cases h2 : i < n
        · rw [← hsm.2 i true h2, hall i h2]; simp [List.getElem?_append, h2]
        · rw [inv.tail i (by omega) (by omega)]; simp [List.getElem?_append, h2, List.getElem?_replicate]; omega
      · rw [Array.getElem?_eq_none (by omega)]; simp; omega
    rw [he]
    have := wpAny_of_seq (md := .any) (Q' := Q) (l.drop n) n (List.replicate n true ++ List.replicate (l.length - n) false).toArray a w (fun j => by simp [List.getElem?_drop]) (by rw [List.length_drop]; exact hseq) (hend hl a w I fun i hi => by
      have := hall i hi
      have hlt : i < hl.size := by rw [hsm.1]; exact hi
      simpa [hlt] using this)
    rwa [List.length_drop] at this
  intro f
  induction f with
  | zero =>
    intro hl listed a w hsm inv I hc
    rw [Nat.zero_add]
    refine done hl listed a w hsm inv I fun i hi => ?_
    cases q : hl.getD i true with
    | true => rfl
    | false =>
      have hlt : i < hl.size := by rw [hsm.1]; exact hi
      simp [hlt] at q
      have : false ∈ hl.toList := by rw [← q]; simp
      have := List.count_pos_iff.2 this
      omega
  | succ f ih =>
    intro hl listed a w hsm inv I hc
    by_cases hall : ∀ i, i < n → hl.getD i true = true
    · exact TailC.any_more_by (done hl listed a w hsm inv I hall) (f + 1)
    · obtain ⟨i0, h1⟩ := Classical.not_forall.1 hall
      obtain ⟨hi0, h2⟩ := Classical.not_forall.1 h1
      have h2 : hl.getD i0 true = false := by simpa using h2
      have hnl : n < l.length ∨ n = l.length := by omega
      have hready : ∀ i ∈ Region.ready .any l.toArray listed, i < n := by
        intro i hi
        rcases htl with e | ⟨hS, hCh⟩
        · obtain ⟨_, o, ho, _⟩ := mem_ready.1 hi
          have := (Array.getElem?_eq_some_iff.1 ho).1
          omega
        · rcases Nat.lt_or_ge i n with q | q
          · exact q
          · have hi2 : i < l.toArray.size := by
              obtain ⟨_, o, ho, _⟩ := mem_ready.1 hi
              exact (Array.getElem?_eq_some_iff.1 ho).1
            exact absurd hi (tail_waits hS hCh (by omega) inv _ i0 rfl hi0 (by rw [← hsm.2 i0 true hi0]; exact h2) i q)
      rw [show f + 1 + (l.length - n) = (f + (l.length - n)) + 1 by omega]
      refine ⟨fun hr => ?_, fun i hi => ?_⟩
      · -- something is ready
        have hne : Region.ready .any (l.take n).toArray hl ≠ [] := by
          intro h0
          have : ∀ i, i < n → hl.getD i true = false → False := by
            intro i
            induction i using Nat.strongRecOn with
            | _ i ih' =>
              intro hi hun
              obtain ⟨o, ho⟩ : ∃ o, (l.take n).toArray[i]? = some o := ⟨l[i]'(by omega), by rw [TailC.hd_at hi]; simp⟩
              by_cases hw : ∀ e ∈ o.after, Region.binds .any e = true → hl.getD e.on false = true
              · have := mem_ready.2 ⟨hun, o, ho, hw⟩
                rw [h0] at this; cases this
              · obtain ⟨e, h1⟩ := Classical.not_forall.1 hw
                obtain ⟨he, h2⟩ := Classical.not_forall.1 h1
                obtain ⟨hb, hne⟩ := Classical.not_forall.1 h2
                have hlt := (TailC.low_at hlow ho).1 e he hb
                exact ih' e.on hlt (by omega) (getD_in (by rw [hsm.1]; omega) (by simpa using hne))
          exact this i0 hi0 h2
        obtain ⟨i1, hi1⟩ := List.exists_mem_of_ne_nil _ hne
        obtain ⟨_, o1, ho1, _⟩ := mem_ready.1 hi1
        have := TailC.ready_of hlow hsm (TailC.hd_lt ho1) hi1
        rw [hr] at this; cases this
      · have hin := hready i hi
        have hr' := TailC.ready_to hlow hsm hin hi
        have h3 := step_inv O hI hF hpre hoth hlk0 hsM hbeh hst I (i := i) (by rw [hdl]; exact hr')
        have hun := (mem_ready.1 hr').1
        have hlt : i < hl.size := by rw [hsm.1]; exact hin
        simp [hlt] at hun
        have hcount : (hl.setIfInBounds i true).toList.count false ≤ f := by
          rw [Array.toList_setIfInBounds, List.count_set (by simpa using hlt)]
          have hp : 0 < hl.toList.count false := List.count_pos_iff.2 (by rw [← hun]; simp)
          have hp' : hl.toList.count false - 1 ≤ f := by omega
          simpa [hun] using hp'
        have h4 := wpOp_mono (fun a' w' I' => ih _ (listed.setIfInBounds i true) a' w' (hsm.set (by rw [inv.size, hsz]; omega) i) (inv.set hi hin) I' hcount) h3
        unfold wpOp at h4 ⊢
        rw [← TailC.hd_at hin]
        rw [hdl] at h4
        split
        · rename_i ho; simp only [ho] at h4; exact h4
        · rename_i o ho
          simp only [ho] at h4
          rw [← TailC.wanted_hd hlow ho]
          exact h4
end

section
variable {P : Program} {Q : Exit → Act → World → Prop} {l : List Oper} {s N : Nat} {NC NS : List Tmp} {MB : List Nat} {I0 : (Nat → Bool) → (Tmp → Value) → World → Prop} {VS : Tmp → Value → Prop} {Post : (Tmp → Value) → World → Prop} {a : Act} {w : World}
/-- The places whose values are known ahead, filled. -/
def fill (cs : List (Tmp × Value)) (a : Act) : Act := cs.foldl (fun a p => a.put (some p.1) p.2) a
theorem fill_size : ∀ (cs : List (Tmp × Value)) (a : Act), (fill cs a).tmps.size = a.tmps.size
  | [], _ => rfl
  | p :: cs, a => by
    have : fill (p :: cs) a = fill cs (a.put (some p.1) p.2) := rfl
    rw [this, fill_size cs]; simp [Act.put]
theorem fill_defers : ∀ (cs : List (Tmp × Value)) (a : Act), (fill cs a).defers = a.defers
  | [], _ => rfl
  | p :: cs, a => by
    have : fill (p :: cs) a = fill cs (a.put (some p.1) p.2) := rfl
    rw [this, fill_defers cs]; rfl
theorem fill_got (t : Tmp) : ∀ (cs : List (Tmp × Value)) (a : Act), (∀ p ∈ cs, p.1 ≠ t) → got (fill cs a) t = got a t
  | [], _, _ => rfl
  | p :: cs, a, h => by
    have : fill (p :: cs) a = fill cs (a.put (some p.1) p.2) := rfl
    rw [this, fill_got t cs _ fun q hq => h q (List.mem_cons_of_mem _ hq), got_put (Ne.symm (h p List.mem_cons_self))]
/-- What is asked of the marks: m names what is walked, mB what is told apart and goes ahead of the store, mF what is told apart and goes whenever; the store is none of them; what is walked looks at no place told apart and writes none. -/
def markB (l : List Oper) (n s N : Nat) (NC NS : List Tmp) (cs : List Tmp) (m mB mF : List Bool) (MB : List Nat) : Bool :=
  (decide (m.length = n) && (!MB.contains s && ((List.range n).all (fun i => mB.getD i false == MB.contains i)))) && ((List.range n).all (fun i => decide (i = s) || (m.getD i false || (mB.getD i false || mF.getD i false))) &&
  (((sel m (l.take n)).all fun o => ((looks o).all fun t => !NC.contains t && !NS.contains t) && (match o.dst with | some d => !NC.contains d && !NS.contains d | none => false)) && (lexOk N (sel m (l.take n)) &&
  (((l.take n).zipIdx.all fun q => m.getD q.2 false || (mF.getD q.2 false || (decide (q.2 = s) || ((l.take n)[s]?).any fun st => waits st q.2))) &&
  (((sel mF (l.take n)).all fun o => ((looks o).all fun t => !NC.contains t) && (match o.dst with | some d => !NC.contains d | none => false)) &&
  ((NS.all fun t => (dsts (l.take n)).contains t && !NC.contains t) && cs.all fun t => (dsts (sel mB (l.take n))).contains t || (dsts (sel mF (l.take n))).contains t))))))

/-- The law. cs: places told apart whose values are known; aF: what the walk leaves, these filled. -/
theorem wp_region_late {id : Nat} (n s N : Nat) (NC NS : List Tmp) (cs : List (Tmp × Value)) (m mB mF : List Bool) (MB : List Nat) (I0 : (Nat → Bool) → (Tmp → Value) → World → Prop) (VS : Tmp → Value → Prop) (Post : (Tmp → Value) → World → Prop) {aF : Act} (hm : P.follows .mixedOrders = true) (hB : lateB l n s N NC = true) (hK : markB l n s N NC NS (cs.map (·.1)) m mB mF MB = true)
    (ha : a.tmps.size = N) (h0 : I0 (fun _ => false) (got a) w) (hI : ∀ h h' f f' w w', I0 h f w → (∀ j ∈ MB, h' j = h j) → (∀ t ∈ NC, f' t = f t) → Below w.heap.size w w' → I0 h' f' w')
    (hq : ∀ W, Below w.heap.size w W → wpQuiet P l.toArray (fun w' => ∃ p : Regrown, w' = Sort.grow (redrawn W p.d) p.os) (fun a' => a' = aF) (sel m (l.take n)) (fill cs a))
    (hpre : ∀ i o, (l.take n)[i]? = some o → i ∈ MB → Pre P MB NC NS I0 VS w aF Q i o) (hfree : ∀ o ∈ sel mF (l.take n), Free P NS VS aF Q o) (hst : ∀ st, (l.take n)[s]? = some st → Store P NC NS I0 VS Post w aF Q st)
    (hend : ∀ (f : Tmp → Value) w', (∀ t ∈ NS, VS t (f t)) → Post f w' → wpList P l.toArray Q (l.drop n) (putAll aF (NC ++ NS) ((NC ++ NS).map f)) w') : (Code.region id l.toArray true).wp P Q a w := by
  unfold lateB at hB
  cases hs : (l.take n)[s]? with
  | none => rw [hs] at hB; cases hB
  | some st =>
    rw [hs] at hB
    simp only [Bool.and_eq_true] at hB
    obtain ⟨hfit, hone, hnc, hn, hnos, htl, hseq⟩ := hB
    have hn : n ≤ l.length := of_decide_eq_true hn
    have hfit' : ∀ (i : Nat) o, (l.take n)[i]? = some o → fits (l.take n) st s N NC i o = true := fun i o h => List.all_eq_true.1 hfit (o, i) (by rw [List.mem_zipIdx_iff_getElem?]; simpa using h)
    unfold markB at hK
    simp only [Bool.and_eq_true, decide_eq_true_eq] at hK
    obtain ⟨⟨hml, hsM, hMB⟩, hcov, hcl, hlex, hfl, hfr, hns, hcs⟩ := hK
    have hsM : s ∉ MB := by simpa using hsM
    have inMB : ∀ i, i < n → (mB.getD i false = true ↔ i ∈ MB) := fun i hi => by
      have := List.all_eq_true.1 hMB i (List.mem_range.2 hi)
      rw [beq_iff_eq] at this
      rw [this]; simp
    have O : Ok (l.take n) st s N NC NS := ⟨hs, hfit', of_decide_eq_true hone, fun t ht => by have := List.all_eq_true.1 hnc t ht; simpa using this, fun t ht => by have := List.all_eq_true.1 hns t ht; rw [Bool.and_eq_true] at this; simpa using this.1, fun t ht => by have := List.all_eq_true.1 hns t ht; rw [Bool.and_eq_true] at this; simpa using this.2⟩
    have hl : (l.take n).length = n := by rw [List.length_take]; omega
    have hlow : TailC.lowB .any (l.take n) = true := by
      unfold TailC.lowB
      rw [List.all_eq_true]
      intro q hq
      have h := List.all_eq_true.1 hfit q hq
      unfold fits at h
      simp only [Bool.and_eq_true] at h
      rw [Bool.and_eq_true]
      refine ⟨h.2.1, ?_⟩
      have : q.1.guard = none := by simpa using h.1
      rw [this]
    have htl : n = l.length ∨ (Region.sinkB .any l.toArray n = true ∧ Region.chainB .any l.toArray n = true) := by simpa using htl
    have hselect : ∀ o ∈ l.take n, ∀ cs b, o.op ≠ .select cs b := fun o ho cs b => by
      obtain ⟨j, hj⟩ := List.mem_iff_getElem?.1 (List.mem_of_mem_take ho)
      exact Region.noSelect_spec hnos j o cs b (by simpa using hj)
    have facts : ∀ W, Below w.heap.size w W → aF.tmps.size = N ∧ aF.defers = (fill cs a).defers ∧ (∀ t, t ∉ dsts (sel m (l.take n)) → got aF t = got (fill cs a) t) ∧ ∀ o ∈ sel m (l.take n), ∀ d, o.dst = some d → ∀ w', Cl W w' → o.quietAt P aF (Cl W) w' (got aF d) :=
      fun W hW => lex_facts (sel m (l.take n)) (fill cs a) (fun o ho => hselect o (sel_sub m _ o ho)) hlex ((fill_size cs a).trans ha) (hq W hW)
    obtain ⟨f1, f2, f3, _⟩ := facts w (Below.refl _ _)
    have hF : ∀ t, t ∉ dsts (l.take n) → got aF t = got a t := fun t ht => by
      rw [f3 t (fun q => ht (dsts_sub m _ t q)), fill_got t cs a fun p hp e => ?_]
      have := List.all_eq_true.1 hcs p.1 (List.mem_map_of_mem hp)
      rw [Bool.or_eq_true] at this
      rcases this with q | q
      · exact ht (e ▸ dsts_sub mB _ p.1 (by simpa using q))
      · exact ht (e ▸ dsts_sub mF _ p.1 (by simpa using q))
    have dst_of : ∀ (i : Nat) o, (l.take n)[i]? = some o → i ≠ s → ∃ d, o.dst = some d := fun i o ho his => by
      have h := hfit' i o ho
      unfold fits at h
      simp only [Bool.and_eq_true] at h
      cases hd : o.dst with
      | none => have := h.2.2.1; rw [hd] at this; simp [his] at this
      | some d => exact ⟨d, rfl⟩
    have lt_n : ∀ (i : Nat) o, (l.take n)[i]? = some o → i < n := fun i o ho => by have := (List.getElem?_eq_some_iff.1 ho).1; omega
    have clear_of : ∀ o ∈ sel m (l.take n), (∀ t ∈ looks o, t ∉ NC ∧ t ∉ NS) ∧ ∀ d, o.dst = some d → d ∉ NC ∧ d ∉ NS := fun o ho => by
      have h := List.all_eq_true.1 hcl o ho
      rw [Bool.and_eq_true] at h
      refine ⟨fun t ht => by have := List.all_eq_true.1 h.1 t ht; simpa using this, fun d hd => ?_⟩
      have := h.2; rw [hd] at this; simpa using this
    have free_of : ∀ o ∈ sel mF (l.take n), (∀ t ∈ looks o, t ∉ NC) ∧ ∀ d, o.dst = some d → d ∉ NC := fun o ho => by
      have h := List.all_eq_true.1 hfr o ho
      rw [Bool.and_eq_true] at h
      refine ⟨fun t ht => by have := List.all_eq_true.1 h.1 t ht; simpa using this, fun d hd => ?_⟩
      have := h.2; rw [hd] at this; simpa using this
    refine wp_region_any hm ?_
    have inv0 : HeadInv .any l.toArray n (Array.replicate l.toArray.size false) :=
      ⟨by simp, fun j oj _ hl => (by rw [getD_replicate_false] at hl; cases hl), fun t _ ht => getD_in (by simpa using ht) (getD_replicate_false _ _)⟩
    have hsm : TailC.Same n (Array.replicate n false) (Array.replicate l.toArray.size false) := ⟨by simp, fun j x hj => by
      have : j < l.length := by omega
      simp [hj, this]⟩
    have none_yet : ∀ i, (Array.replicate n false).getD i false = false := fun i => getD_replicate_false _ _
    have := any_late (P := P) (Q := Q) (MB := MB) (I0 := I0) (VS := VS) (Post := Post) (w0 := w) (a0 := a) (aF := aF) (l := l) rfl hn O hI hF hpre ?_ ?_ hsM ?_ (hst st hs) hlow htl hseq ?_ n (Array.replicate n false) (Array.replicate l.toArray.size false) a { w with drawn := w.drawn + 1 } hsm inv0 ?_ (by simp)
    · rw [show n + (l.length - n) = l.toArray.size by simp; omega] at this
      exact this
    · -- ahead of the store
      intro i o ho his hiM
      obtain ⟨d, hd⟩ := dst_of i o ho his
      by_cases hmi : m.getD i false = true
      · have hmem := mem_sel m _ i o ho hmi
        obtain ⟨c1, c2⟩ := clear_of o hmem
        intro a' w' hb hl'
        have same : ∀ t ∈ looks o, got a' t = got aF t := fun t ht => (hl' t ht).2.2 (c1 t ht).2
        have hx : execOp a'.eval o = execOp aF.eval o := execOp_congr o (hselect o (List.mem_of_getElem? ho)) (looks_eval same)
        refine Oper.wp_of_quiet (C := Cl w') (K := fun a'' => a'' = a'.put o.dst (got aF d)) (Cl.of (Below.refl _ _)) ?_ ⟨got aF d, fun w2 h2 => ?_, rfl⟩
        · rintro a'' w2 h2 rfl
          exact ⟨_, rfl, Cl.to h2, fun d' hd' => by rw [hd] at hd'; cases hd'; exact ⟨(c2 d hd).1, fun hn => absurd hn (c2 d hd).2, fun _ => rfl⟩⟩
        · have := (facts w' hb).2.2.2 o hmem d hd w2 h2
          unfold Oper.quietAt at this ⊢
          rw [hx]; exact this
      · have h := List.all_eq_true.1 hcov i (List.mem_range.2 (lt_n i o ho))
        simp only [Bool.or_eq_true, decide_eq_true_eq] at h
        rcases h with h | h | h | h
        · exact absurd h his
        · exact absurd h hmi
        · exact absurd ((inMB i (lt_n i o ho)).1 h) hiM
        · have hmem := mem_sel mF _ i o ho h
          obtain ⟨c1, c2⟩ := free_of o hmem
          intro a' w' _ hl'
          refine Oper.wp_mono ?_ (hfree o hmem a' w' fun t ht => (hl' t ht).2)
          rintro a'' w2 ⟨rfl, v, rfl, hv⟩
          exact ⟨v, rfl, Below.refl _ _, fun d hd => ⟨c2 d hd, hv d hd⟩⟩
    · -- what these look at
      intro i o ho his hiM t ht
      have h := List.all_eq_true.1 hcov i (List.mem_range.2 (lt_n i o ho))
      simp only [Bool.or_eq_true, decide_eq_true_eq] at h
      rcases h with h | h | h | h
      · exact absurd h his
      · exact ((clear_of o (mem_sel m _ i o ho h)).1 t ht).1
      · exact absurd ((inMB i (lt_n i o ho)).1 h) hiM
      · exact (free_of o (mem_sel mF _ i o ho h)).1 t ht
    · -- behind it
      intro i o ho his hw
      obtain ⟨d, hd⟩ := dst_of i o ho his
      have h := List.all_eq_true.1 hfl (o, i) (by rw [List.mem_zipIdx_iff_getElem?]; simpa using ho)
      rw [hs] at h
      simp only [Bool.or_eq_true, decide_eq_true_eq, Option.any_some, hw, his, Bool.false_eq_true, or_false] at h
      rcases h with h | h
      · have hmem := mem_sel m _ i o ho h
        obtain ⟨c1, c2⟩ := clear_of o hmem
        have hf := hfit' i o ho
        unfold fits at hf
        simp only [Bool.and_eq_true, Bool.or_eq_true, decide_eq_true_eq, his, hw, Bool.false_eq_true, false_or] at hf
        have hp := hf.2.2.2.2.1.1
        intro a' w' hl'
        have hx : execOp a'.eval o = execOp aF.eval o := execOp_congr o (hselect o (List.mem_of_getElem? ho)) (looks_eval fun t ht => (hl' t ht).2 (c1 t ht).2)
        have := pure_any hp ((facts w (Below.refl _ _)).2.2.2 o hmem d hd w (Cl.of (Below.refl _ _))) w'
        unfold Oper.wp
        rw [hx, this]
        exact ⟨rfl, _, rfl, fun d' hd' => by rw [hd] at hd'; cases hd'; exact ⟨fun hn => absurd hn (c2 d hd).2, fun _ => rfl⟩⟩
      · exact hfree o (mem_sel mF _ i o ho h)
    · -- the end
      intro hl' a' w' I hall
      have e : putAll aF (NC ++ NS) ((NC ++ NS).map (got a')) = a' := by
        refine putAll_eq (N := N) I.frame (NC ++ NS) aF f1 (by rw [f2, fill_defers, I.defers]) fun t ht => ?_
        by_cases q : t ∈ dsts (l.take n)
        · obtain ⟨o, ho, hod⟩ := List.mem_filterMap.1 q
          obtain ⟨j, hj⟩ := List.mem_iff_getElem?.1 ho
          exact (I.const j o t hj (hall j (lt_n j o hj)) hod (fun h => ht (List.mem_append_left _ h)) (fun h => ht (List.mem_append_right _ h))).symm
        · rw [I.old t q, hF t q]
      have := hend (got a') w' (fun t ht => by
        obtain ⟨o, ho, hod⟩ := List.mem_filterMap.1 (O.ns t ht)
        obtain ⟨j, hj⟩ := List.mem_iff_getElem?.1 ho
        exact I.stab j o t hj (hall j (lt_n j o hj)) hod ht) (I.post (hall s (lt_n s st hs)) _ fun _ _ => rfl)
      rwa [e] at this
    · have no : ∀ i, (Array.replicate n false).getD i false = true → False := fun i h => by rw [none_yet] at h; cases h
      exact ⟨by simp [hl], ha, rfl, fun _ _ => rfl, fun i o d _ h => (no i h).elim, fun i o d _ h => (no i h).elim, fun _ => ⟨⟨rfl, rfl, rfl, Nat.le_refl _, fun _ _ => rfl⟩, hI _ _ _ _ _ _ h0 (fun j _ => none_yet j) (fun _ _ => rfl) ⟨rfl, rfl, rfl, Nat.le_refl _, fun _ _ => rfl⟩⟩, fun h => (no s h).elim, fun h => (no s h).elim⟩
end
end Lj
end Go.Proofs.Ytcpfdohodadcaaa
