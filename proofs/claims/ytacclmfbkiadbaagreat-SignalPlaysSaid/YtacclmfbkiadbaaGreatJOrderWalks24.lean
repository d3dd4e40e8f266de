/-
  What Mid, Spread and Without of package order return, for every argument: contracts by walking the Go text. No conditions beyond the numbers' kinds and where the list lies.
  As Flow, for a region whose guarded operations are all carried out: whatever order is drawn, at the end every place holds a thing of its kind. No function of the program is walked here. No conditions beyond those said.
  What Moved of package stuck tells: its contract by walking the Go text. Conditions: where the room lies.
  What Come of package stuck does: its contract by walking the Go text. Conditions: where the room and the watch lie.
-/
import Derived.Test.YtacclmfbkiadbaaGreatJJumpCome4
import Derived.IntWalk
import Derived.Test.YtacclmfbkiadbaaGreatJAgg5
import Derived.Orders
import Derived.OrdersHeld
import Derived.Lib.QuietBelow
namespace Go.Proofs.YtacclmfbkiadbaaGreat
set_option maxRecDepth 100000
open Go.ChangeShapes Go.WideShapes Go.ChangeAt Go.RowKit Go.Deep
namespace Od
open Fx
set_option maxHeartbeats 1000000 in
theorem mid_any (a : Option Addr) (cap : Nat) (l : List Int) (w : World) (hl : l.length ≤ 9223372036854775807) (hb : IntsAt .i64 w a l) :
    Calls Tryz.prog 58 #[.slice a l.length cap] w fun e w' => e = .returned (.tuple #[.int .i64 (midv l), .bool (midb l)]) ∧ Below w.heap.size w w' := by
  by_cases h4 : 4 < l.length
  · have HF := Lib.hid (midb_no (l := l) (Or.inr (Or.inr h4)))
    go_enter Tryz.func58, Tryz.ntmps58
    go_wp2
    go_ret2
    exact ⟨ret_mid (midv_no HF.out).symm HF.out.symm, Below.refl _ _⟩
  · obtain ⟨s, hs⟩ : ∃ s, osort l = s := ⟨_, rfl⟩
    by_cases hn : ok l = true ∧ 1 ≤ l.length
    · obtain ⟨hok, h1⟩ := hn
      have HV := Lib.hid (midv_yes hok h1 (by omega) hs)
      have HM := Lib.hid (midb_yes hok h1 (by omega))
      have hlen := osort_len_ok hok
      have hsm := fun x (hx : x ∈ s) => osort_sm hok hs hx
      rw [hs] at hlen
      have C := sort_any a cap l w hl hb
      rw [hs] at C
      clear hs
      rcases four (s := s) (by omega) (by omega) with ⟨x, rfl⟩ | ⟨x, y, rfl⟩ | ⟨x, y, z, rfl⟩ | ⟨x, y, z, u, rfl⟩
      · have q0 := hsm x (by simp)
        clear hsm hlen
        go_enter Tryz.func58, Tryz.ntmps58
        go_wp2_with fail
        refine C.mono ?_; rintro e w1 ⟨a1, c1, rfl, i1, b1⟩
        rcases i1 with hno | ⟨b, off, rfl, hc⟩
        · cases hno
        have c0 : w1.cell? ⟨b, off, none⟩ = some (.int .i64 x) := hc 0 (by simp)
        clear hc
        go_wp2
        go_quiet (fail)
        go_wp2
        go_ret2
        exact ⟨ret_mid (by rw [HV.out]; simp [midOf]; try omega) HM.out.symm, below_drewN b1 _⟩
      · have q0 := hsm x (by simp)
        have q1 := hsm y (by simp)
        clear hsm hlen
        go_enter Tryz.func58, Tryz.ntmps58
        go_wp2_with fail
        refine C.mono ?_; rintro e w1 ⟨a1, c1, rfl, i1, b1⟩
        rcases i1 with hno | ⟨b, off, rfl, hc⟩
        · cases hno
        have c0 : w1.cell? ⟨b, off, none⟩ = some (.int .i64 x) := hc 0 (by simp)
        have c1 : w1.cell? ⟨b, off + 1, none⟩ = some (.int .i64 y) := hc 1 (by simp)
        clear hc
        go_wp2
        go_quiet (fail)
        go_wp2
        go_ret2
        exact ⟨ret_mid (by rw [HV.out]; simp [midOf]; try omega) HM.out.symm, below_drewN b1 _⟩
      · have q0 := hsm x (by simp)
        have q1 := hsm y (by simp)
        have q2 := hsm z (by simp)
        clear hsm hlen
        go_enter Tryz.func58, Tryz.ntmps58
        go_wp2_with fail
        refine C.mono ?_; rintro e w1 ⟨a1, c1, rfl, i1, b1⟩
        rcases i1 with hno | ⟨b, off, rfl, hc⟩
        · cases hno
        have c1 : w1.cell? ⟨b, off + 1, none⟩ = some (.int .i64 y) := hc 1 (by simp)
        clear hc
        go_wp2
        go_quiet (fail)
        go_wp2
        go_ret2
        exact ⟨ret_mid (by rw [HV.out]; simp [midOf]; try omega) HM.out.symm, below_drewN b1 _⟩
      · have q0 := hsm x (by simp)
        have q1 := hsm y (by simp)
        have q2 := hsm z (by simp)
        clear hsm hlen
        go_enter Tryz.func58, Tryz.ntmps58
        go_wp2_with fail
        refine C.mono ?_; rintro e w1 ⟨a1, c1, rfl, i1, b1⟩
        rcases i1 with hno | ⟨b, off, rfl, hc⟩
        · cases hno
        have c1 : w1.cell? ⟨b, off + 1, none⟩ = some (.int .i64 y) := hc 1 (by simp)
        have c2 : w1.cell? ⟨b, off + 2, none⟩ = some (.int .i64 z) := hc 2 (by simp)
        clear hc
        go_wp2
        go_quiet (fail)
        go_wp2
        go_ret2
        exact ⟨ret_mid (by rw [HV.out]; simp [midOf]; try omega) HM.out.symm, below_drewN b1 _⟩
    · have HF := Lib.hid (midb_no (l := l) (by cases h : ok l; exact Or.inl rfl; exact Or.inr (Or.inl (by simp [h] at hn; simp [hn]))))
      have C := sort_any a cap l w hl hb
      have hnil : osort l = [] := by
        unfold osort
        split
        · rename_i h; apply List.eq_nil_of_length_eq_zero; rw [srt_len]; have : ¬ 1 ≤ l.length := fun h1 => hn ⟨h, h1⟩; omega
        · rfl
      rw [hnil] at C
      clear hnil hs
      go_enter Tryz.func58, Tryz.ntmps58
      go_wp2_with fail
      refine C.mono ?_; rintro e w1 ⟨a1, c1, rfl, i1, b1⟩
      go_wp2
      go_ret2
      exact ⟨ret_mid (midv_no HF.out).symm HF.out.symm, b1⟩
set_option maxHeartbeats 400000 in
theorem spread_any (a : Option Addr) (cap : Nat) (l : List Int) (w : World) (hl : l.length ≤ 9223372036854775807) (hb : IntsAt .i64 w a l) :
    Calls Tryz.prog 122 #[.slice a l.length cap] w fun e w' => e = .returned (.int .i64 (spread l)) ∧ Below w.heap.size w w' := by
  have C := sort_any a cap l w hl hb
  by_cases h1 : 1 ≤ (osort l).length
  · obtain ⟨hok, hv⟩ := spread_yes h1
    have hlen := osort_len_ok hok
    have h16 := ok_len hok
    have q0 := osort_sm hok rfl (show (osort l).getD 0 0 ∈ osort l by rw [getD_at _ _ h1]; exact List.getElem_mem _)
    have q1 := osort_sm hok rfl (show (osort l).getD ((osort l).length - 1) 0 ∈ osort l by rw [getD_at _ _ (by omega)]; exact List.getElem_mem _)
    unfold spreadOf at hv
    have HV := Lib.hid hv
    clear hv
    have hs16 : (osort l).length ≤ 16 := by omega
    clear hlen
    generalize osort l = s at *
    go_enter Tryz.func122, Tryz.ntmps122
    go_wp2_with fail
    refine C.mono ?_; rintro e w1 ⟨a1, c1, rfl, i1, b1⟩
    rcases i1 with hno | ⟨b, off, rfl, hc⟩
    · subst hno; simp at h1
    obtain ⟨m, hm⟩ : ∃ m, s.length = m + 1 := ⟨s.length - 1, by omega⟩
    have m15 : m ≤ 15 := by omega
    have c0 := hc 0 (by omega)
    have c9 := hc m (by omega)
    clear hc hs16 h1
    rw [hm] at HV q1 ⊢
    simp only [Nat.add_sub_cancel, Nat.add_zero] at c0 HV q1
    clear hm
    generalize s.getD 0 0 = x at *
    generalize s.getD m 0 = y at *
    have wm : IntKind.i64.wrap (m : Int) = m := IntWalk.i64_in _ (by omega)
    have m1 : (m : Int) < ((m + 1 : Nat) : Int) := by omega
    have m2 : (m : Int) < (m : Int) + 1 := by omega
    have m3 : 0 ≤ (m : Int) := by omega
    go_wp2
    go_quiet (fail)
    go_wp2
    go_ret
    exact ⟨ret_int HV.out.symm, below_drewN b1 _⟩
  · have hnil : osort l = [] := List.eq_nil_of_length_eq_zero (by omega)
    have HF := Lib.hid (spread_no hnil)
    rw [hnil] at C
    clear hnil
    go_enter Tryz.func122, Tryz.ntmps122
    go_wp2_with fail
    refine C.mono ?_; rintro e w1 ⟨a1, c1, rfl, i1, b1⟩
    go_wp2
    go_ret
    exact ⟨ret_int HF.out.symm, b1⟩
end Od
end Go.Proofs.YtacclmfbkiadbaaGreat

namespace Go.Proofs.YtacclmfbkiadbaaGreat
set_option maxRecDepth 100000
open Go.ChangeShapes Go.WideShapes Go.ChangeAt Go.RowKit Go.Deep
namespace FlowG
/-- The places that an operation looks at. -/
def looks (o : Oper) : List Tmp := o.op.operands.toList.filterMap fun | .tmp t => some t | _ => none
/-- What is asked of an operation: it waits for what guards it, it has a place below n that is none of those at the start, and what it looks at is one of these or comes from one that it waits for; it waits for earlier ones alone. -/
def fits (ops : Array Oper) (init : List Tmp) (n i : Nat) (o : Oper) : Bool :=
  (match o.guard with | none => true | some (j, _) => o.after.any fun e => Region.binds .any e && e.on == j) && (match o.dst with | some d => decide (d < n) && !init.contains d | none => false) &&
  ((looks o).all fun t => init.contains t || o.after.any fun e => Region.binds .any e && ((ops[e.on]?).bind (·.dst) == some t)) &&
  (o.after.all fun e => !Region.binds .any e || decide (e.on < i))
def flowB (ops : Array Oper) (init : List Tmp) (n : Nat) : Bool :=
  (ops.toList.zipIdx.all fun q => fits ops init n q.2 q.1) && decide ((ops.toList.map (·.dst)).Nodup)
section
variable {P : Program} {Q : Exit → Act → World → Prop} {ops : Array Oper}
/-- One operation's duty. -/
def Step (P : Program) (Val : Tmp → Value → World → Prop) (Q : Exit → Act → World → Prop) (o : Oper) : Prop :=
  ∀ a w, (∀ t ∈ looks o, Val t (a.tmps.getD t undef) w) → o.wp P a w (fun a' w' => ∃ v, a' = a.put o.dst v ∧ Below w.heap.size w w' ∧ ∀ d, o.dst = some d → Val d v w') Q
/-- Each guard says yes. -/
def Guards (ops : Array Oper) (Val : Tmp → Value → World → Prop) : Prop :=
  ∀ o ∈ ops.toList, ∀ j b, o.guard = some (j, b) → ∃ p d, ops[j]? = some p ∧ p.dst = some d ∧ ∀ v w, Val d v w → v = .bool b
structure Inv (ops : Array Oper) (Val : Tmp → Value → World → Prop) (init : List Tmp) (n : Nat) (w0 : World) (a0 : Act) (listed : Array Bool) (a : Act) (w : World) : Prop where
  size : listed.size = ops.size
  frame : a.tmps.size = n
  defers : a.defers = a0.defers
  below : Below w0.heap.size w0 w
  start : ∀ t ∈ init, Val t (a.tmps.getD t undef) w
  old : ∀ t, (∀ (i : Nat) o, ops[i]? = some o → o.dst ≠ some t) → a.tmps.getD t undef = a0.tmps.getD t undef
  vals : ∀ (i : Nat) o d, ops[i]? = some o → listed.getD i true = true → o.dst = some d → Val d (a.tmps.getD d undef) w
theorem flow_at {init : List Tmp} {n : Nat} (hB : flowB ops init n = true) {i : Nat} {o : Oper} (hi : ops[i]? = some o) : fits ops init n i o = true := by
  unfold flowB at hB
  rw [Bool.and_eq_true] at hB
  refine List.all_eq_true.1 hB.1 (o, i) ?_
  rw [List.mem_zipIdx_iff_getElem?]
  simpa using hi
theorem flow_dst {init : List Tmp} {n : Nat} (hB : flowB ops init n = true) {i : Nat} {o : Oper} (hi : ops[i]? = some o) : ∃ d, o.dst = some d ∧ d < n ∧ d ∉ init := by
  have h := flow_at hB hi
  unfold fits at h
  simp only [Bool.and_eq_true] at h
  obtain ⟨⟨⟨h1, h2⟩, _⟩, _⟩ := h
  cases hd : o.dst with
  | none => simp [hd] at h2
  | some d => simp [hd] at h2; exact ⟨d, rfl, h2.1, h2.2⟩
theorem flow_one {init : List Tmp} {n : Nat} (hB : flowB ops init n = true) {i j : Nat} {o p : Oper} (hi : ops[i]? = some o) (hj : ops[j]? = some p) (h : o.dst = p.dst) : i = j := by
  unfold flowB at hB
  rw [Bool.and_eq_true] at hB
  have hn : (ops.toList.map (·.dst)).Nodup := of_decide_eq_true hB.2
  have hi' : i < ops.size := by
    rcases Nat.lt_or_ge i ops.size with q | q
    · exact q
    · rw [Array.getElem?_eq_none q] at hi; cases hi
  exact (List.getElem?_inj (l := ops.toList.map (·.dst)) (by simpa using hi') hn).1 (by simp [hi, hj, h])
theorem all_listed {init : List Tmp} {n : Nat} (hB : flowB ops init n = true) {listed : Array Bool} (hs : listed.size = ops.size) (hr : Region.ready .any ops listed = []) :
    ∀ i, i < ops.size → listed.getD i true = true := by
  intro i
  induction i using Nat.strongRecOn with
  | _ i ih =>
    intro hi
    cases hl : listed.getD i true with
    | true => rfl
    | false =>
      have hm : i ∈ Region.ready .any ops listed := mem_ready.2 ⟨hl, ops[i], by simp [hi], fun e he hb => by
        have h := flow_at hB (i := i) (o := ops[i]) (by simp [hi])
        unfold fits at h
        simp only [Bool.and_eq_true] at h
        have := Array.all_eq_true_iff_forall_mem.1 h.2 e he
        simp [hb] at this
        have q := ih e.on this (by omega)
        have hlt : e.on < listed.size := by omega
        simpa [hlt] using q⟩
      rw [hr] at hm; cases hm
theorem step_inv {Val : Tmp → Value → World → Prop} {init : List Tmp} {n : Nat} {w0 : World} {a0 : Act} (hB : flowB ops init n = true)
    (hst : ∀ t v w w', Val t v w → Below w.heap.size w w' → Val t v w') (hgu : Guards ops Val) (hstep : ∀ o ∈ ops.toList, Step P Val Q o)
    {listed : Array Bool} {a : Act} {w : World} (I : Inv ops Val init n w0 a0 listed a w) {i : Nat} (hr : i ∈ Region.ready .any ops listed) :
    wpOp P ops Q i (fun a' w' => Inv ops Val init n w0 a0 (listed.setIfInBounds i true) a' w') a w := by
  obtain ⟨hun, o, ho, hall⟩ := mem_ready.1 hr
  obtain ⟨d, hd, hdn, hdi⟩ := flow_dst hB ho
  have hf := flow_at hB ho
  unfold fits at hf
  simp only [Bool.and_eq_true] at hf
  have hlk : ∀ t ∈ looks o, Val t (a.tmps.getD t undef) w := by
    intro t ht
    have h := List.all_eq_true.1 hf.1.2 t ht
    rw [Bool.or_eq_true] at h
    rcases h with h | h
    · exact I.start t (by simpa using h)
    · rw [Array.any_eq_true'] at h
      obtain ⟨e, he, h⟩ := h
      rw [Bool.and_eq_true, beq_iff_eq] at h
      have hl := hall e he h.1
      cases hp : ops[e.on]? with
      | none => rw [hp] at h; simp at h
      | some p =>
        rw [hp] at h
        have hlt : e.on < listed.size := by
          rcases Nat.lt_or_ge e.on listed.size with q | q
          · exact q
          · simp [Array.getElem?_eq_none q] at hl
        exact I.vals e.on p t hp (by simpa [hlt] using hl) (by simpa using h.2)
  have hmem : o ∈ ops.toList := by
    have := Array.mem_of_getElem? ho
    simpa using this
  have hs := hstep o hmem a w hlk
  have hw : Region.wanted o (yielded ops a.tmps) = true := by
    cases hgd : o.guard with
    | none => simp [Region.wanted, hgd]
    | some q =>
      obtain ⟨j, b⟩ := q
      obtain ⟨p, dj, hp, hpd, hb⟩ := hgu o hmem j b hgd
      have hwait := hf.1.1.1
      rw [hgd] at hwait
      simp only at hwait
      rw [Array.any_eq_true'] at hwait
      obtain ⟨e, he, hwait⟩ := hwait
      rw [Bool.and_eq_true, beq_iff_eq] at hwait
      have hl := hall e he hwait.1
      rw [hwait.2] at hl
      have hlt : j < listed.size := by
        rcases Nat.lt_or_ge j listed.size with q | q
        · exact q
        · simp [Array.getElem?_eq_none q] at hl
      have hv := hb _ _ (I.vals j p dj hp (by simpa [hlt] using hl) hpd)
      have hdj : dj < a.tmps.size := by
        obtain ⟨d', h1, h2, _⟩ := flow_dst hB hp
        rw [hpd] at h1; cases h1
        rw [I.frame]; exact h2
      have hv2 : a.tmps[dj]? = some (.bool b) := by
        rw [Array.getD_eq_getD_getElem?] at hv
        rw [Array.getElem?_eq_getElem hdj] at hv ⊢
        exact congrArg some hv
      simp [Region.wanted, hgd, yielded, hp, hpd, hv2]
  unfold wpOp
  simp only [ho]
  rw [if_pos hw]
  refine .inl (Oper.wp_mono ?_ hs)
  rintro a' w' ⟨v, rfl, hb, hv⟩
  have hv := hv d hd
  have hget : ∀ t, t ≠ d → (a.put o.dst v).tmps.getD t undef = a.tmps.getD t undef := by
    intro t ht
    simp [Act.put, hd, Array.getElem?_setIfInBounds_ne (Ne.symm ht)]
  have hset : (a.put o.dst v).tmps.getD d undef = v := by
    simp [Act.put, hd, I.frame, hdn]
  refine ⟨by simpa using I.size, by simpa [Act.put, hd] using I.frame, by simpa [Act.put, hd] using I.defers, grow I.below hb, ?_, ?_, ?_⟩
  · intro t ht
    rw [hget t (fun e => hdi (e ▸ ht))]
    exact hst _ _ _ _ (I.start t ht) hb
  · intro t ht
    rw [hget t (fun e => ht i o ho (e ▸ hd))]
    exact I.old t ht
  · intro j p x hp hl hx
    by_cases hij : j = i
    · subst hij
      rw [ho] at hp; cases hp
      rw [hd] at hx; cases hx
      rw [hset]; exact hv
    · rw [hget x (fun e => hij (flow_one hB hp ho (by rw [hx, hd, e])))]
      refine hst _ _ _ _ (I.vals j p x hp ?_ hx) hb
      rwa [getD_set_ne true (Ne.symm hij)] at hl
theorem flow_any {Val : Tmp → Value → World → Prop} {init : List Tmp} {n : Nat} {w0 : World} {a0 : Act} (hB : flowB ops init n = true)
    (hst : ∀ t v w w', Val t v w → Below w.heap.size w w' → Val t v w') (hgu : Guards ops Val) (hstep : ∀ o ∈ ops.toList, Step P Val Q o)
    (hend : ∀ listed a w, Inv ops Val init n w0 a0 listed a w → (∀ i, i < ops.size → listed.getD i true = true) → Q .normal a w) :
    ∀ (fuel : Nat) (listed : Array Bool) (a : Act) (w : World), Inv ops Val init n w0 a0 listed a w → listed.toList.count false ≤ fuel → wpAny P .any ops Q fuel listed a w
  | 0, listed, a, w, I, hc => by
    have hr : Region.ready .any ops listed = [] := by
      rw [List.eq_nil_iff_forall_not_mem]
      intro i hi
      have h1 := (mem_ready.1 hi).1
      have : false ∈ listed.toList := by
        rcases Nat.lt_or_ge i listed.size with q | q
        · simp [q] at h1
          rw [← h1]; simp
        · simp [Array.getElem?_eq_none q] at h1
      have := List.count_pos_iff.2 this
      omega
    exact ⟨hr, hend _ _ _ I (all_listed hB I.size hr)⟩
  | fuel + 1, listed, a, w, I, hc => by
    refine ⟨fun hr => hend _ _ _ I (all_listed hB I.size hr), fun i hi => ?_⟩
    refine wpOp_mono (fun a' w' I' => flow_any hB hst hgu hstep hend fuel _ a' w' I' ?_) (step_inv hB hst hgu hstep I hi)
    have h1 := (mem_ready.1 hi).1
    have q : i < listed.size := by
      rcases Nat.lt_or_ge i listed.size with q | q
      · exact q
      · simp [Array.getElem?_eq_none q] at h1
    simp [q] at h1
    rw [Array.toList_setIfInBounds, List.count_set (by simpa using q)]
    have hp : 0 < listed.toList.count false := List.count_pos_iff.2 (by rw [← h1]; simp)
    have hp' : listed.toList.count false - 1 ≤ fuel := by omega
    simpa [h1] using hp'
/-- Whatever order is drawn: at the end each place holds a thing of its kind. -/
theorem wp_region_flow {id : Nat} {a : Act} {w : World} (Val : Tmp → Value → World → Prop) (init : List Tmp) (n : Nat) (hm : P.follows .mixedOrders = true) (hB : flowB ops init n = true)
    (hst : ∀ t v w w', Val t v w → Below w.heap.size w w' → Val t v w') (hn : a.tmps.size = n) (hinit : ∀ t ∈ init, Val t (a.tmps.getD t undef) w) (hgu : Guards ops Val) (hstep : ∀ o ∈ ops.toList, Step P Val Q o)
    (hend : ∀ a' w', Below w.heap.size w w' → a'.tmps.size = n → a'.defers = a.defers → (∀ t, (∀ (i : Nat) o, ops[i]? = some o → o.dst ≠ some t) → a'.tmps.getD t undef = a.tmps.getD t undef) →
      (∀ (i : Nat) o d, ops[i]? = some o → o.dst = some d → Val d (a'.tmps.getD d undef) w') → Q .normal a' w') : (Code.region id ops true).wp P Q a w := by
  have b0 : Below w.heap.size w { w with drawn := w.drawn + 1 } := ⟨rfl, rfl, rfl, Nat.le_refl _, fun _ _ => rfl⟩
  refine wp_region_any hm (flow_any (Val := Val) (init := init) (n := n) (w0 := w) (a0 := a) hB hst hgu hstep ?_ _ _ _ _ ⟨by simp, hn, rfl, b0, fun t ht => hst _ _ _ _ (hinit t ht) b0, fun _ _ => rfl, ?_⟩ ?_)
  · intro listed a' w' I hl
    refine hend a' w' I.below I.frame I.defers I.old fun i o d hi hd => I.vals i o d hi (hl i ?_) hd
    rcases Nat.lt_or_ge i ops.size with q | q
    · exact q
    · rw [Array.getElem?_eq_none q] at hi; cases hi
  · intro i o d hi hl
    rcases Nat.lt_or_ge i ops.size with q | q
    · simp [q] at hl
    · rw [Array.getElem?_eq_none q] at hi; cases hi
  · simp
end
end FlowG
end Go.Proofs.YtacclmfbkiadbaaGreat

namespace Go.Proofs.YtacclmfbkiadbaaGreat
set_option maxRecDepth 100000
open Go.ChangeShapes Go.WideShapes Go.ChangeAt Go.RowKit Go.Deep
namespace Sk
open Fx (ret_bool)
theorem moved_no (g P : Nat) (bound : Int) (V : List Int) (w : World) (hR : Room w g P bound V) (hn : V.length ≠ P) :
    Calls Tryz.prog 96 #[.pointer (some ⟨g, 0, none⟩)] w fun e w' => e = .returned (.bool false) ∧ Below w.heap.size w w' := by
  have c18 := hR.count
  have c0 := hR.win
  have hle := hR.le
  have CP := fun m => places_cell g P (w.drewN m) hle.2.2 c0
  have d : ((V.length : Int) == (P : Int)) = false := by simp; omega
  clear hR c0
  go_enter Tryz.func96, Tryz.ntmps96
  go_wp2
  go_quiet (exact Calls.quiet_of_same ((CP _).mono fun e w' q => ⟨q.1, q.2.symm⟩))
  go_wp2
  go_ret
  exact ⟨rfl, below_drewN (Below.refl _ w) _⟩
/-! ### The test of a full room, in whatever order -/
inductive Kd
  | ptr (j : Nat)
  | num (n : Int)
  | bool (b : Bool)
  | votes
  | any
def sk (P : Nat) (bound : Int) (V : List Int) (t : Nat) : Kd :=
  [.ptr 0, .any, .bool (decide (bound < Od.spread V)), .ptr 0, .bool true, .bool true, .ptr 0, .ptr 0, .ptr 18, .num V.length, .ptr 0, .num P, .bool true, .bool true, .bool true, .ptr 0, .votes, .num (Od.spread V), .ptr 0, .ptr 0, .ptr 1, .num bound, .bool (decide (bound < Od.spread V)), .bool (decide (bound < Od.spread V))].getD t .any
def Is (g : Nat) (V : List Int) : Kd → Value → World → Prop
  | .ptr j, v, _ => v = .pointer (some ⟨g, j, none⟩)
  | .num n, v, _ => v = .int .i64 n
  | .bool b, v, _ => v = .bool b
  | .votes, v, w => ∃ a cap, v = .slice a V.length cap ∧ IntsAt .i64 w a V
  | .any, _, _ => True
def MV (g P : Nat) (bound : Int) (V : List Int) (t : Tmp) (v : Value) (w : World) : Prop := Room w g P bound V ∧ Is g V (sk P bound V t) v w
theorem MV.on {g P : Nat} {bound : Int} {V : List Int} {t : Tmp} {v : Value} {w w' : World} (h : MV g P bound V t v w) (hb : Below w.heap.size w w') : MV g P bound V t v w' := by
  refine ⟨h.1.below hb h.1.lt, ?_⟩
  have h2 := h.2
  generalize sk P bound V t = k at *
  cases k with
  | ptr j => exact h2
  | num n => exact h2
  | bool b => exact h2
  | votes => obtain ⟨a, cap, e, i⟩ := h2; exact ⟨a, cap, e, i.below hb⟩
  | any => trivial
section
variable {g P : Nat} {bound : Int} {V : List Int} {Q : Exit → Act → World → Prop} {d t u : Tmp} {ty : TypeId} {pos : String} {after : Array Edge} {gd : Option (Nat × Bool)}
open FlowG
theorem step_move (h : sk P bound V d = sk P bound V t) : Step Tryz.prog (MV g P bound V) Q ⟨some d, .move (.tmp t), ty, pos, after, gd⟩ := by
  intro a w hl
  have h1 := hl t (List.Mem.head _)
  refine ⟨_, rfl, Below.refl _ _, fun d' hd' => ?_⟩
  cases hd'
  exact ⟨h1.1, by rw [h]; exact h1.2⟩
theorem step_assign (h : sk P bound V d = sk P bound V t) : Step Tryz.prog (MV g P bound V) Q ⟨some d, .assign (.tmp t), ty, pos, after, gd⟩ := by
  intro a w hl
  have h1 := hl t (List.Mem.head _)
  refine ⟨_, rfl, Below.refl _ _, fun d' hd' => ?_⟩
  cases hd'
  exact ⟨h1.1, by rw [h]; exact h1.2⟩
theorem MV.at {k : Kd} {v : Value} {w : World} (h : MV g P bound V t v w) (hk : sk P bound V t = k) : Room w g P bound V ∧ Is g V k v w := ⟨h.1, hk ▸ h.2⟩
theorem step_nil {j : Nat} (ht : sk P bound V t = .ptr j) (hd : sk P bound V d = .ptr j) : Step Tryz.prog (MV g P bound V) Q ⟨some d, .nilCheck (.tmp t), ty, pos, after, gd⟩ := by
  intro a w hl
  obtain ⟨hr, e⟩ := (hl t (List.Mem.head _)).at ht
  have e1 : a.eval (.tmp t) = .pointer (some ⟨g, j, none⟩) := e
  have HR := Lib.hid hr
  unfold Oper.wp execOp
  simp only [e1]
  go_simp
  exact ⟨_, rfl, Below.refl _ _, HR.out, by rw [hd]; rfl⟩
theorem step_addr1 (ht : sk P bound V t = .ptr 0) (hd : sk P bound V d = .ptr 1) : Step Tryz.prog (MV g P bound V) Q ⟨some d, .fieldAddr 109 (.tmp t) 1, ty, pos, after, gd⟩ := by
  intro a w hl
  obtain ⟨hr, e⟩ := (hl t (List.Mem.head _)).at ht
  have e1 : a.eval (.tmp t) = .pointer (some ⟨g, 0, none⟩) := e
  have HR := Lib.hid hr
  unfold Oper.wp execOp
  simp only [e1]
  go_simp
  exact ⟨_, rfl, Below.refl _ _, HR.out, by rw [hd]; rfl⟩
theorem step_addr4 (ht : sk P bound V t = .ptr 0) (hd : sk P bound V d = .ptr 18) : Step Tryz.prog (MV g P bound V) Q ⟨some d, .fieldAddr 109 (.tmp t) 4, ty, pos, after, gd⟩ := by
  intro a w hl
  obtain ⟨hr, e⟩ := (hl t (List.Mem.head _)).at ht
  have e1 : a.eval (.tmp t) = .pointer (some ⟨g, 0, none⟩) := e
  have HR := Lib.hid hr
  unfold Oper.wp execOp
  simp only [e1]
  go_simp
  exact ⟨_, rfl, Below.refl _ _, HR.out, by rw [hd]; rfl⟩
theorem step_load {j : Nat} {n : Int} (ht : sk P bound V t = .ptr j) (hd : sk P bound V d = .num n) (hc : ∀ w, Room w g P bound V → w.cell? ⟨g, j, none⟩ = some (.int .i64 n)) : Step Tryz.prog (MV g P bound V) Q ⟨some d, .load 3 (.tmp t), ty, pos, after, gd⟩ := by
  intro a w hl
  obtain ⟨hr, e⟩ := (hl t (List.Mem.head _)).at ht
  have e1 : a.eval (.tmp t) = .pointer (some ⟨g, j, none⟩) := e
  have hcell := hc w hr
  have HR := Lib.hid hr
  clear hc
  unfold Oper.wp execOp
  simp only [e1]
  go_simp
  exact ⟨_, rfl, Below.refl _ _, HR.out, by rw [hd]; rfl⟩
theorem step_pick {b : Bool} (ht : sk P bound V t = .bool true) (hu : sk P bound V u = .bool b) (hd : sk P bound V d = .bool b) : Step Tryz.prog (MV g P bound V) Q ⟨some d, .pick (.tmp t) (.tmp u) (.const (.bool false)), ty, pos, after, gd⟩ := by
  intro a w hl
  obtain ⟨hr, e⟩ := (hl t (List.Mem.head _)).at ht
  obtain ⟨_, e'⟩ := (hl u (List.Mem.tail _ (List.Mem.head _))).at hu
  have e1 : a.eval (.tmp t) = .bool true := e
  have e2 : a.eval (.tmp u) = .bool b := e'
  have HR := Lib.hid hr
  unfold Oper.wp execOp
  simp only [e1, e2]
  go_simp
  exact ⟨_, rfl, Below.refl _ _, HR.out, by rw [hd]; rfl⟩
theorem step_neq (ht : sk P bound V t = .ptr 0) (hd : sk P bound V d = .bool true) : Step Tryz.prog (MV g P bound V) Q ⟨some d, .binOp .neq 69 (.tmp t) (.const (.pointer none)) 69, ty, pos, after, gd⟩ := by
  intro a w hl
  obtain ⟨hr, e⟩ := (hl t (List.Mem.head _)).at ht
  have e1 : a.eval (.tmp t) = .pointer (some ⟨g, 0, none⟩) := e
  have HR := Lib.hid hr
  unfold Oper.wp execOp
  simp only [e1]
  go_simp
  exact ⟨_, rfl, Below.refl _ _, HR.out, by rw [hd]; rfl⟩
theorem step_eql {x y : Int} (ht : sk P bound V t = .num x) (hu : sk P bound V u = .num y) (hxy : x = y) (hd : sk P bound V d = .bool true) : Step Tryz.prog (MV g P bound V) Q ⟨some d, .binOp .eql 3 (.tmp t) (.tmp u) 3, ty, pos, after, gd⟩ := by
  intro a w hl
  obtain ⟨hr, e⟩ := (hl t (List.Mem.head _)).at ht
  obtain ⟨_, e'⟩ := (hl u (List.Mem.tail _ (List.Mem.head _))).at hu
  subst hxy
  have e1 : a.eval (.tmp t) = .int .i64 x := e
  have e2 : a.eval (.tmp u) = .int .i64 x := e'
  have HR := Lib.hid hr
  unfold Oper.wp execOp
  simp only [e1, e2]
  go_simp
  exact ⟨_, rfl, Below.refl _ _, HR.out, by rw [hd]; rfl⟩
theorem step_gtr {x y : Int} (ht : sk P bound V t = .num x) (hu : sk P bound V u = .num y) (hd : sk P bound V d = .bool (decide (y < x))) : Step Tryz.prog (MV g P bound V) Q ⟨some d, .binOp .gtr 3 (.tmp t) (.tmp u) 3, ty, pos, after, gd⟩ := by
  intro a w hl
  obtain ⟨hr, e⟩ := (hl t (List.Mem.head _)).at ht
  obtain ⟨_, e'⟩ := (hl u (List.Mem.tail _ (List.Mem.head _))).at hu
  have e1 : a.eval (.tmp t) = .int .i64 x := e
  have e2 : a.eval (.tmp u) = .int .i64 y := e'
  have HR := Lib.hid hr
  unfold Oper.wp execOp
  simp only [e1, e2]
  go_simp
  exact ⟨_, rfl, Below.refl _ _, HR.out, by rw [hd]; rfl⟩
/-- A call: what it is handed, what it hands back. -/
theorem step_call {f : FuncId} {at_ : TypeId} (hf : ∀ v w, (callFunc f #[v]).run Tryz.prog w = .ok (.enter f #[v]) w) (h : ∀ (v : Value) w, MV g P bound V t v w → Calls Tryz.prog f #[v] w fun e w' => ∃ r, e = .returned r ∧ Below w.heap.size w w' ∧ Is g V (sk P bound V d) r w') :
    Step Tryz.prog (MV g P bound V) Q ⟨some d, .call { callee := .value (.func f), args := #[.tmp t], argTypes := #[at_] }, ty, pos, after, gd⟩ := by
  intro a w hl
  have hm : t ∈ looks ⟨some d, .call { callee := .value (.func f), args := #[.tmp t], argTypes := #[at_] }, ty, pos, after, gd⟩ := by
    simp only [looks, List.mem_filterMap]
    exact ⟨.tmp t, (show Operand.tmp t ∈ [Operand.func f, .tmp t] by simp), rfl⟩
  obtain ⟨v, e1⟩ : ∃ v, a.eval (.tmp t) = v := ⟨_, rfl⟩
  have h1 : MV g P bound V t v w := e1 ▸ hl t hm
  have C := h v w h1
  have HR := Lib.hid h1.1
  clear h hl h1 hm
  unfold Oper.wp execOp
  simp only [resolve, e1, List.map_toArray, List.map_cons, List.map_nil]
  go_simp
  refine C.mono ?_
  rintro e w' ⟨r, rfl, hb, hi⟩
  exact ⟨_, rfl, hb, HR.out.below hb HR.out.lt, hi⟩
theorem step_places (ht : sk P bound V t = .ptr 0) (hd : sk P bound V d = .num P) : Step Tryz.prog (MV g P bound V) Q ⟨some d, .call { callee := .value (.func 107), args := #[.tmp t], argTypes := #[69] }, ty, pos, after, gd⟩ :=
  step_call (fun _ _ => by go_simp) fun v w h => by
    obtain ⟨hr, e⟩ := h.at ht
    obtain rfl : v = .pointer (some ⟨g, 0, none⟩) := e
    refine (places_cell g P w hr.le.2.2 hr.win).mono ?_
    rintro e w' ⟨rfl, rfl⟩
    exact ⟨_, rfl, Below.refl _ _, by rw [hd]; rfl⟩
theorem step_votes (ht : sk P bound V t = .ptr 0) (hd : sk P bound V d = .votes) : Step Tryz.prog (MV g P bound V) Q ⟨some d, .call { callee := .value (.func 123), args := #[.tmp t], argTypes := #[69] }, ty, pos, after, gd⟩ :=
  step_call (fun _ _ => by go_simp) fun v w h => by
    obtain ⟨hr, e⟩ := h.at ht
    obtain rfl : v = .pointer (some ⟨g, 0, none⟩) := e
    refine (votes_any g P bound V w hr).mono ?_
    rintro e w' ⟨a, cap, rfl, hi, hb⟩
    exact ⟨_, rfl, hb, by rw [hd]; exact ⟨a, cap, rfl, hi⟩⟩
theorem step_spread (ht : sk P bound V t = .votes) (hd : sk P bound V d = .num (Od.spread V)) : Step Tryz.prog (MV g P bound V) Q ⟨some d, .call { callee := .value (.func 122), args := #[.tmp t], argTypes := #[55] }, ty, pos, after, gd⟩ :=
  step_call (fun _ _ => by go_simp) fun v w h => by
    obtain ⟨hr, a, cap, rfl, hi⟩ := h.at ht
    have := hr.le
    refine (Od.spread_any a cap V w (by omega) hi).mono ?_
    rintro e w' ⟨rfl, hb⟩
    exact ⟨_, rfl, hb, by rw [hd]; rfl⟩
theorem forall_cons {α : Type} {p : α → Prop} {x : α} {l : List α} (h : p x) (k : ∀ o ∈ l, p o) : ∀ o ∈ x :: l, p o := by
  intro o ho
  rcases List.mem_cons.1 ho with rfl | ho
  · exact h
  · exact k o ho
end
set_option maxHeartbeats 3200000 in
theorem moved_yes (g P : Nat) (bound : Int) (V : List Int) (w : World) (hR : Room w g P bound V) (hn : V.length = P) :
    Calls Tryz.prog 96 #[.pointer (some ⟨g, 0, none⟩)] w fun e w' => e = .returned (.bool (decide (bound < Od.spread V))) ∧ Below w.heap.size w w' := by
  have HR := Lib.hid hR
  clear hR
  go_enter Tryz.func96, Tryz.ntmps96
  go_wp2
  rename_i Q' K hK
  refine FlowG.wp_region_flow (MV g P bound V) [0] 24 (by kernel_rfl) (by kernel_rfl) (fun t v w w' h hb => h.on hb) rfl ?_ ?_ ?_ ?_
  · intro t ht
    obtain rfl : t = 0 := by simpa using ht
    exact ⟨HR.out, rfl⟩
  · repeat (refine forall_cons ?_ ?_; focus first
      | (intro j b h; cases h; done)
      | (intro j b h; cases h; exact ⟨_, _, rfl, rfl, fun v w q => q.2⟩))
    intro o ho; cases ho
  · refine forall_cons (step_move rfl) ?_
    refine forall_cons (step_neq rfl rfl) ?_
    refine forall_cons (step_move rfl) ?_
    refine forall_cons (step_move rfl) ?_
    refine forall_cons (step_nil rfl rfl) ?_
    refine forall_cons (step_addr4 rfl rfl) ?_
    refine forall_cons (step_load rfl rfl (fun w h => h.count)) ?_
    refine forall_cons (step_move rfl) ?_
    refine forall_cons (step_places rfl rfl) ?_
    refine forall_cons (step_eql rfl rfl (by omega) rfl) ?_
    refine forall_cons (step_pick rfl rfl rfl) ?_
    refine forall_cons (step_move rfl) ?_
    refine forall_cons (step_move rfl) ?_
    refine forall_cons (step_votes rfl rfl) ?_
    refine forall_cons (step_spread rfl rfl) ?_
    refine forall_cons (step_move rfl) ?_
    refine forall_cons (step_nil rfl rfl) ?_
    refine forall_cons (step_addr1 rfl rfl) ?_
    refine forall_cons (step_load rfl rfl (fun w h => h.bnd)) ?_
    refine forall_cons (step_gtr rfl rfl rfl) ?_
    refine forall_cons (step_pick rfl rfl rfl) ?_
    refine forall_cons (step_assign rfl) ?_
    intro o ho; cases ho
  · intro a' w' hb hs hdf hold hv
    have e2 := (hv 21 _ 2 rfl rfl).2
    refine hK _ _ (wp_ret (bodyPost_ret (v := .bool (decide (bound < Od.spread V))) ((results_tmp rfl _ _ _).trans (by rw [show a'.tmps.getD 2 undef = _ from e2])) hdf ⟨rfl, hb⟩))
/-- Have the votes moved? -/
theorem moved_any (g P : Nat) (bound : Int) (V : List Int) (w : World) (hR : Room w g P bound V) :
    Calls Tryz.prog 96 #[.pointer (some ⟨g, 0, none⟩)] w fun e w' => e = .returned (.bool (moved P bound V)) ∧ Below w.heap.size w w' := by
  by_cases hn : V.length = P
  · rw [show moved P bound V = decide (bound < Od.spread V) by unfold moved; simp [hn]]
    exact moved_yes g P bound V w hR hn
  · rw [show moved P bound V = false by unfold moved; simp [hn]]
    exact moved_no g P bound V w hR hn
end Sk
end Go.Proofs.YtacclmfbkiadbaaGreat

namespace Go.Proofs.YtacclmfbkiadbaaGreat
set_option maxRecDepth 100000
open Go.ChangeShapes Go.WideShapes Go.ChangeAt Go.RowKit Go.Deep
namespace Sk
open Fx (ret_bool)
open Jp (val)
set_option maxHeartbeats 1600000 in
theorem come_on (g r P : Nat) (bound last run n : Int) (V : List Int) (w : World) (hn : val n = true) (hR : Room w r P bound V) (hT : VRow w g 164 (wt r last run)) (hne : r ≠ g) (h0 : 0 ≤ run) (_h1 : run ≤ (P : Int) + 1) (hq : n = last) (hm : run + 1 < (P : Int) + 1) :
    Calls Tryz.prog 55 #[.pointer (some ⟨g, 0, none⟩), .int .i64 n] w fun e w' => e = .returned (.tuple #[.bool false, .int .i64 0]) ∧ VRow w' g 164 (wt r n (run + 1)) ∧ Only g w w' := by
  have VA := fun W => value_any n W
  rw [hn] at VA
  have hle := hR.le
  have c0 := hT.cell 0 (v := .pointer (some ⟨r, 0, none⟩)) rfl
  have c1 := hT.cell 1 (v := .int .i64 last) rfl
  have c2 := hT.cell 2 (v := .int .i64 run) rfl
  have f1 := hT.frozen 1
  have f2 := hT.frozen 2
  have rw_ := hR.win
  subst hq
  have d1 : (n != n) = false := by simp
  have T := Lib.hid hT
  have R := Lib.hid hR
  have O := Lib.hid (But.refl (· = g) w)
  clear hn hT hR
  go_enter Tryz.func55, Tryz.ntmps55
  go_wp2_with (go_at_call 95; (refine (VA _).mono ?_; rintro e w' ⟨rfl, rfl⟩))
  clear VA
  refine Tail.wp_region_quiet_tail 16 (by kernel_rfl) (by kernel_rfl) ?_
  simp only [List.take_succ_cons, List.take_zero, List.drop_succ_cons, List.drop_zero]
  repeat (go_big_quiet_step (fail))
  refine wpQuiet_nil ?_
  have T2 := Lib.hid (show VRow ((w.setCell ⟨g, 2, none⟩ (.int .i64 (run + 1))).drew) g 164 (wt r n (run + 1)) from T.out.set 2 (.int .i64 (run + 1)))
  have O2 := Lib.hid (show But (· = g) w ((w.setCell ⟨g, 2, none⟩ (.int .i64 (run + 1))).drew) from (O.out.setCell (p := ⟨g, 2, none⟩) (Or.inl rfl) _).drew)
  have R2 := Lib.hid (show Room ((w.setCell ⟨g, 2, none⟩ (.int .i64 (run + 1))).drew) r P bound V from (R.out.only ((But.refl (· = g) w).setCell (p := ⟨g, 2, none⟩) (Or.inl rfl) _) hne).drew)
  go_wp2_with fail
  clear c0 c1 c2 f1 f2 rw_ d1
  generalize (w.setCell ⟨g, 2, none⟩ (.int .i64 (run + 1))).drew = W2 at *
  have c0 := T2.out.cell 0 (v := .pointer (some ⟨r, 0, none⟩)) rfl
  have c2 := T2.out.cell 2 (v := .int .i64 (run + 1)) rfl
  have rw_ := R2.out.win
  have d2 : (((run + 1) : Int) == (P : Int) + 1) = false := by simp; omega
  go_quiet (fail)
  go_wp2
  go_ret2
  exact ⟨rfl, T2.out.drewN _, O2.out.drewN _⟩
set_option maxHeartbeats 1600000 in
theorem come_full (g r P : Nat) (bound last run n : Int) (V : List Int) (w : World) (hn : val n = true) (hR : Room w r P bound V) (hT : VRow w g 164 (wt r last run)) (hne : r ≠ g) (h0 : 0 ≤ run) (h1 : run ≤ (P : Int) + 1) (hq : n = last) (hm : run = (P : Int)) :
    Calls Tryz.prog 55 #[.pointer (some ⟨g, 0, none⟩), .int .i64 n] w fun e w' => e = .returned (.tuple #[.bool (moved P bound V), .int .i64 0]) ∧ VRow w' g 164 (wt r n ((P : Int) + 1)) ∧ Only g w w' := by
  have VA := fun W => value_any n W
  rw [hn] at VA
  have hle := hR.le
  have c0 := hT.cell 0 (v := .pointer (some ⟨r, 0, none⟩)) rfl
  have c1 := hT.cell 1 (v := .int .i64 last) rfl
  have c2 := hT.cell 2 (v := .int .i64 run) rfl
  have f1 := hT.frozen 1
  have f2 := hT.frozen 2
  have rw_ := hR.win
  subst hq
  subst hm
  have d1 : (n != n) = false := by simp
  have T := Lib.hid hT
  have R := Lib.hid hR
  have O := Lib.hid (But.refl (· = g) w)
  clear hn hT hR
  go_enter Tryz.func55, Tryz.ntmps55
  go_wp2_with (go_at_call 95; (refine (VA _).mono ?_; rintro e w' ⟨rfl, rfl⟩))
  clear VA
  refine Tail.wp_region_quiet_tail 16 (by kernel_rfl) (by kernel_rfl) ?_
  simp only [List.take_succ_cons, List.take_zero, List.drop_succ_cons, List.drop_zero]
  repeat (go_big_quiet_step (fail))
  refine wpQuiet_nil ?_
  have T2 := Lib.hid (show VRow ((w.setCell ⟨g, 2, none⟩ (.int .i64 ((P : Int) + 1))).drew) g 164 (wt r n ((P : Int) + 1)) from T.out.set 2 (.int .i64 ((P : Int) + 1)))
  have O2 := Lib.hid (show But (· = g) w ((w.setCell ⟨g, 2, none⟩ (.int .i64 ((P : Int) + 1))).drew) from (O.out.setCell (p := ⟨g, 2, none⟩) (Or.inl rfl) _).drew)
  have R2 := Lib.hid (show Room ((w.setCell ⟨g, 2, none⟩ (.int .i64 ((P : Int) + 1))).drew) r P bound V from (R.out.only ((But.refl (· = g) w).setCell (p := ⟨g, 2, none⟩) (Or.inl rfl) _) hne).drew)
  go_wp2_with fail
  clear c0 c1 c2 f1 f2 rw_ d1
  generalize (w.setCell ⟨g, 2, none⟩ (.int .i64 ((P : Int) + 1))).drew = W2 at *
  have c0 := T2.out.cell 0 (v := .pointer (some ⟨r, 0, none⟩)) rfl
  have c2 := T2.out.cell 2 (v := .int .i64 ((P : Int) + 1)) rfl
  have rw_ := R2.out.win
  have d2 : ((((P : Int) + 1) : Int) == (P : Int) + 1) = true := by simp
  have k0 := cell_regrown c0
  have k2 := cell_regrown c2
  have kw := cell_regrown rw_
  have cM := reg_call (w := W2) (fun W hW => moved_any r P bound V W (R2.out.below hW R2.out.lt))
  clear c0 c2 rw_
  refine wp_region_quiet_below (by kernel_rfl) (by kernel_rfl) ?_
  repeat (go_big_quiet_step (exact cM _ _))
  refine wpQuiet_nil ?_
  intro _ hw'
  obtain ⟨⟨dq, osq⟩, hw''⟩ := hw'
  subst hw''
  go_wp2
  go_ret2
  have b := below_regrown W2 dq osq
  exact ⟨rfl, T2.out.below b T2.out.lt, O2.out.grow b⟩
set_option maxHeartbeats 1600000 in
theorem come_past (g r P : Nat) (bound last run n : Int) (V : List Int) (w : World) (hn : val n = true) (hR : Room w r P bound V) (hT : VRow w g 164 (wt r last run)) (hne : r ≠ g) (h0 : 0 ≤ run) (h1 : run ≤ (P : Int) + 1) (hq : n = last) (hm : run = (P : Int) + 1) :
    Calls Tryz.prog 55 #[.pointer (some ⟨g, 0, none⟩), .int .i64 n] w fun e w' => e = .returned (.tuple #[.bool (moved P bound V), .int .i64 0]) ∧ VRow w' g 164 (wt r n ((P : Int) + 1)) ∧ Only g w w' := by
  have VA := fun W => value_any n W
  rw [hn] at VA
  have hle := hR.le
  have c0 := hT.cell 0 (v := .pointer (some ⟨r, 0, none⟩)) rfl
  have c1 := hT.cell 1 (v := .int .i64 last) rfl
  have c2 := hT.cell 2 (v := .int .i64 run) rfl
  have f1 := hT.frozen 1
  have f2 := hT.frozen 2
  have rw_ := hR.win
  subst hq
  subst hm
  have d1 : (n != n) = false := by simp
  have T := Lib.hid hT
  have R := Lib.hid hR
  have O := Lib.hid (But.refl (· = g) w)
  clear hn hT hR
  go_enter Tryz.func55, Tryz.ntmps55
  go_wp2_with (go_at_call 95; (refine (VA _).mono ?_; rintro e w' ⟨rfl, rfl⟩))
  clear VA
  refine Tail.wp_region_quiet_tail 16 (by kernel_rfl) (by kernel_rfl) ?_
  simp only [List.take_succ_cons, List.take_zero, List.drop_succ_cons, List.drop_zero]
  repeat (go_big_quiet_step (fail))
  refine wpQuiet_nil ?_
  have T2 := Lib.hid (show VRow ((w.setCell ⟨g, 2, none⟩ (.int .i64 ((P : Int) + 1))).drew) g 164 (wt r n ((P : Int) + 1)) from T.out.set 2 (.int .i64 ((P : Int) + 1)))
  have O2 := Lib.hid (show But (· = g) w ((w.setCell ⟨g, 2, none⟩ (.int .i64 ((P : Int) + 1))).drew) from (O.out.setCell (p := ⟨g, 2, none⟩) (Or.inl rfl) _).drew)
  have R2 := Lib.hid (show Room ((w.setCell ⟨g, 2, none⟩ (.int .i64 ((P : Int) + 1))).drew) r P bound V from (R.out.only ((But.refl (· = g) w).setCell (p := ⟨g, 2, none⟩) (Or.inl rfl) _) hne).drew)
  go_wp2_with fail
  clear c0 c1 c2 f1 f2 rw_ d1
  generalize (w.setCell ⟨g, 2, none⟩ (.int .i64 ((P : Int) + 1))).drew = W2 at *
  have c0 := T2.out.cell 0 (v := .pointer (some ⟨r, 0, none⟩)) rfl
  have c2 := T2.out.cell 2 (v := .int .i64 ((P : Int) + 1)) rfl
  have rw_ := R2.out.win
  have d2 : ((((P : Int) + 1) : Int) == (P : Int) + 1) = true := by simp
  have k0 := cell_regrown c0
  have k2 := cell_regrown c2
  have kw := cell_regrown rw_
  have cM := reg_call (w := W2) (fun W hW => moved_any r P bound V W (R2.out.below hW R2.out.lt))
  clear c0 c2 rw_
  refine wp_region_quiet_below (by kernel_rfl) (by kernel_rfl) ?_
  repeat (go_big_quiet_step (exact cM _ _))
  refine wpQuiet_nil ?_
  intro _ hw'
  obtain ⟨⟨dq, osq⟩, hw''⟩ := hw'
  subst hw''
  go_wp2
  go_ret2
  have b := below_regrown W2 dq osq
  exact ⟨rfl, T2.out.below b T2.out.lt, O2.out.grow b⟩
set_option maxHeartbeats 1600000 in
theorem come_anew (g r P : Nat) (bound last run n : Int) (V : List Int) (w : World) (hn : val n = true) (hR : Room w r P bound V) (hT : VRow w g 164 (wt r last run)) (hne : r ≠ g) (_h0 : 0 ≤ run) (_h1 : run ≤ (P : Int) + 1) (hq : n ≠ last) :
    Calls Tryz.prog 55 #[.pointer (some ⟨g, 0, none⟩), .int .i64 n] w fun e w' => e = .returned (.tuple #[.bool false, .int .i64 0]) ∧ VRow w' g 164 (wt r n (1)) ∧ Only g w w' := by
  have VA := fun W => value_any n W
  rw [hn] at VA
  have hle := hR.le
  have c0 := hT.cell 0 (v := .pointer (some ⟨r, 0, none⟩)) rfl
  have c1 := hT.cell 1 (v := .int .i64 last) rfl
  have c2 := hT.cell 2 (v := .int .i64 run) rfl
  have f1 := hT.frozen 1
  have f2 := hT.frozen 2
  have rw_ := hR.win
  have d1 : (n != last) = true := by simpa using hq
  have T := Lib.hid (show VRow ((w.setCell ⟨g, 1, none⟩ (.int .i64 n)).setCell ⟨g, 2, none⟩ (.int .i64 0)) g 164 (wt r n 0) from (hT.set 1 (.int .i64 n)).set 2 (.int .i64 0))
  have O := Lib.hid (show But (· = g) w ((w.setCell ⟨g, 1, none⟩ (.int .i64 n)).setCell ⟨g, 2, none⟩ (.int .i64 0)) from ((But.refl (· = g) w).setCell (p := ⟨g, 1, none⟩) (Or.inl rfl) _).setCell (p := ⟨g, 2, none⟩) (Or.inl rfl) _)
  have R := Lib.hid (hR.only O.out hne)
  clear hn hT hR
  go_enter Tryz.func55, Tryz.ntmps55
  go_wp2_with (go_at_call 95; (refine (VA _).mono ?_; rintro e w' ⟨rfl, rfl⟩))
  clear VA c0 c1 c2 f1 f2 rw_
  generalize (w.setCell ⟨g, 1, none⟩ (.int .i64 n)).setCell ⟨g, 2, none⟩ (.int .i64 0) = W at *
  have c0 := T.out.cell 0 (v := .pointer (some ⟨r, 0, none⟩)) rfl
  have c2 := T.out.cell 2 (v := .int .i64 0) rfl
  have f2 := T.out.frozen 2
  have rw_ := R.out.win
  refine Tail.wp_region_quiet_tail 16 (by kernel_rfl) (by kernel_rfl) ?_
  simp only [List.take_succ_cons, List.take_zero, List.drop_succ_cons, List.drop_zero]
  repeat (go_big_quiet_step (fail))
  refine wpQuiet_nil ?_
  have T2 := Lib.hid (show VRow ((W.setCell ⟨g, 2, none⟩ (.int .i64 (1))).drew) g 164 (wt r n (1)) from T.out.set 2 (.int .i64 (1)))
  have O2 := Lib.hid (show But (· = g) w ((W.setCell ⟨g, 2, none⟩ (.int .i64 (1))).drew) from (O.out.setCell (p := ⟨g, 2, none⟩) (Or.inl rfl) _).drew)
  have R2 := Lib.hid (show Room ((W.setCell ⟨g, 2, none⟩ (.int .i64 (1))).drew) r P bound V from (R.out.only ((But.refl (· = g) W).setCell (p := ⟨g, 2, none⟩) (Or.inl rfl) _) hne).drew)
  go_wp2_with fail
  clear c0 c2 f2 rw_ d1
  generalize (W.setCell ⟨g, 2, none⟩ (.int .i64 (1))).drew = W2 at *
  have c0 := T2.out.cell 0 (v := .pointer (some ⟨r, 0, none⟩)) rfl
  have c2 := T2.out.cell 2 (v := .int .i64 (1)) rfl
  have rw_ := R2.out.win
  have d2 : (((1) : Int) == (P : Int) + 1) = false := by simp; omega
  go_quiet (fail)
  go_wp2
  go_ret2
  exact ⟨rfl, T2.out.drewN _, O2.out.drewN _⟩
/-- Is a value frozen? -/
def froz (P : Nat) (bound : Int) (V : List Int) (last run n : Int) : Bool := decide (Sk.run ((P : Int) + 1) last run n = (P : Int) + 1) && moved P bound V
theorem run_same {win r n : Int} : Sk.run win n r n = min (r + 1) win := by unfold Sk.run; rw [if_pos rfl]
theorem run_other {win last r n : Int} (h : n ≠ last) : Sk.run win last r n = min 1 win := by unfold Sk.run; rw [if_neg h]; rfl
theorem come_yes (g r P : Nat) (bound last run n : Int) (V : List Int) (w : World) (hn : val n = true) (hR : Room w r P bound V) (hT : VRow w g 164 (wt r last run)) (hne : r ≠ g) (h0 : 0 ≤ run) (h1 : run ≤ (P : Int) + 1) :
    Calls Tryz.prog 55 #[.pointer (some ⟨g, 0, none⟩), .int .i64 n] w fun e w' => e = .returned (.tuple #[.bool (froz P bound V last run n), .int .i64 0]) ∧ VRow w' g 164 (wt r n (Sk.run ((P : Int) + 1) last run n)) ∧ Only g w w' := by
  have hle := hR.le
  by_cases hq : n = last
  · subst hq
    unfold froz
    rw [run_same]
    rcases (show run + 1 < (P : Int) + 1 ∨ run = P ∨ run = (P : Int) + 1 by omega) with h | h | h
    · rw [show min (run + 1) ((P : Int) + 1) = run + 1 by omega, show decide (run + 1 = (P : Int) + 1) = false by simp; omega, Bool.false_and]
      exact come_on g r P bound n run n V w hn hR hT hne h0 h1 rfl h
    · rw [show min (run + 1) ((P : Int) + 1) = (P : Int) + 1 by omega, show decide ((P : Int) + 1 = (P : Int) + 1) = true by simp, Bool.true_and]
      exact come_full g r P bound n run n V w hn hR hT hne h0 h1 rfl h
    · rw [show min (run + 1) ((P : Int) + 1) = (P : Int) + 1 by omega, show decide ((P : Int) + 1 = (P : Int) + 1) = true by simp, Bool.true_and]
      exact come_past g r P bound n run n V w hn hR hT hne h0 h1 rfl h
  · unfold froz
    rw [run_other hq, show min 1 ((P : Int) + 1) = 1 by omega, show decide (1 = (P : Int) + 1) = false by simp; omega, Bool.false_and]
    exact come_anew g r P bound last run n V w hn hR hT hne h0 h1 hq
end Sk
end Go.Proofs.YtacclmfbkiadbaaGreat
