/-
  What Parse of package trip returns, for every text: a contract by walking the Go text (a range over strings.SplitSeq, whose body returns or goes on). Condition: the table of trips lies in memory as the text lays it.
-/
import Derived.Test.YtphmnjmgkhddpaaDoorTripText
import Derived.Test.YtphmnjmgkhddpaaDoorTripIter
import Derived.Test.YtphmnjmgkhddpaaDoorRounds
import Derived.WalkMore
namespace Go.Proofs.YtphmnjmgkhddpaaDoor
open Go.ChangeShapes Go.WideShapes Go.ChangeAt Go.RowKit Go.Deep Go.Shelf
namespace Tp
open Fx
attribute [local go_sem] Oper.semAt_some

section
variable {P : Program} {ops : Array Oper} {Q : Exit → Act → World → Prop} {md : Region.Mode}
/-- An operation that yields in whatever world goes first. -/
theorem tk (i d : Nat) (v : Value) {oi : Oper} {fuel : Nat} {listed : Array Bool} {a : Act} {w : World} {L : Array Bool} (hi : ops[i]? = some oi) (hd : oi.dst = some d) (hs : Region.noSelect ops = true) (hf : Region.free md ops listed i = true) (hr : (Region.ready md ops listed).contains i = true)
    (hQ : ∀ c a w, Q (.panic c) (a.put (some d) v) w → Q (.panic c) a w) (hw : Region.wanted oi (yielded ops a.tmps) = true) (hy : ∀ w, (execOp a.eval oi).run P w = .ok (.value v) w)
    (hl : listed.setIfInBounds i true = L) (h : wpAny P md ops Q fuel L (a.put (some d) v) w) : wpAny P md ops Q (fuel + 1) listed a w :=
  wpAny_take hi hs hf hr (by rw [hd]; exact hQ) (Or.inl ⟨hw, hy⟩) (by rw [hd, hl]; exact h)
/-- The operations that may come up, one by one. -/
theorem op_at (i : Nat) {oi : Oper} {a : Act} {w : World} {K : Act → World → Prop} (v : Value) (w' : World) (hi : ops[i]? = some oi) (hw : Region.wanted oi (yielded ops a.tmps) = true) (hy : (execOp a.eval oi).run P w = .ok (.value v) w') (h : K (a.put oi.dst v) w') : wpOp P ops Q i K a w := by
  unfold wpOp
  simp only [hi]
  rw [if_pos hw]
  refine .inl ?_
  unfold Oper.wp
  rw [hy]
  exact h
theorem op_skip (i : Nat) {oi : Oper} {a : Act} {w : World} {K : Act → World → Prop} (w' : World) (hi : ops[i]? = some oi) (hw : Region.wanted oi (yielded ops a.tmps) = true) (hy : (execOp a.eval oi).run P w = .ok .skip w') (h : K (a.put oi.dst undef) w') : wpOp P ops Q i K a w := by
  unfold wpOp
  simp only [hi]
  rw [if_pos hw]
  refine .inl ?_
  unfold Oper.wp
  rw [hy]
  exact h
end
section
variable {P : Program} {ops : Array Oper} {Q : Exit → Act → World → Prop} {md : Region.Mode}
/-- Two that only read, in either order. -/
theorem both {i j d d' : Nat} {v v' : Value} {o o' : Oper} {fuel : Nat} {listed L : Array Bool} {a : Act} {w : World} (hi : ops[i]? = some o) (hj : ops[j]? = some o') (hd : o.dst = some d) (hd' : o'.dst = some d')
    (hr : Region.ready md ops listed = [i, j]) (hri : Region.ready md ops (listed.setIfInBounds i true) = [j]) (hrj : Region.ready md ops (listed.setIfInBounds j true) = [i])
    (hl : (listed.setIfInBounds i true).setIfInBounds j true = L) (hl' : (listed.setIfInBounds j true).setIfInBounds i true = L) (hg : o.guard = none) (hg' : o'.guard = none)
    (h1 : (execOp a.eval o).run P w = .ok (.value v) w) (h2 : (execOp a.eval o').run P w = .ok (.value v') w) (h3 : (execOp (a.put (some d') v').eval o).run P w = .ok (.value v) w) (h4 : (execOp (a.put (some d) v).eval o').run P w = .ok (.value v') w) (hne : d ≠ d')
    (h : wpAny P md ops Q fuel L ((a.put (some d) v).put (some d') v') w) : wpAny P md ops Q (fuel + 1 + 1) listed a w := by
  have hw (a : Act) : Region.wanted o (yielded ops a.tmps) = true := by unfold Region.wanted; rw [hg]
  have hw' (a : Act) : Region.wanted o' (yielded ops a.tmps) = true := by unfold Region.wanted; rw [hg']
  have hc : (a.put (some d') v').put (some d) v = (a.put (some d) v).put (some d') v' := by
    unfold Act.put
    simp only [Act.mk.injEq, and_true]
    exact (Array.setIfInBounds_comm _ _ hne).symm
  refine wpAny_all hr (by simp) (fun k hk => ?_)
  simp only [List.mem_cons, List.mem_nil_iff, or_false] at hk
  rcases hk with rfl | rfl
  · refine op_at _ v w hi (hw a) h1 (wpAny_all hri (by simp) (fun k' hk' => ?_))
    obtain rfl : k' = j := by simpa using hk'
    refine op_at _ v' w hj (hw' _) (by rw [hd]; exact h4) ?_
    rw [hl, hd, hd']; exact h
  · refine op_at _ v' w hj (hw' a) h2 (wpAny_all hrj (by simp) (fun k' hk' => ?_))
    obtain rfl : k' = i := by simpa using hk'
    refine op_at _ v w hi (hw _) (by rw [hd']; exact h3) ?_
    rw [hl', hd, hd', hc]; exact h
/-- One alone, which hands nothing back. -/
theorem one {i : Nat} {o : Oper} {fuel : Nat} {listed L : Array Bool} {a : Act} {w w' : World} (hi : ops[i]? = some o) (hd : o.dst = none) (hg : o.guard = none) (hr : Region.ready md ops listed = [i]) (hl : listed.setIfInBounds i true = L)
    (h1 : (execOp a.eval o).run P w = .ok .skip w') (h : wpAny P md ops Q fuel L a w') : wpAny P md ops Q (fuel + 1) listed a w := by
  refine wpAny_all hr (by simp) (fun k hk => ?_)
  obtain rfl : k = i := by simpa using hk
  refine op_skip _ w' hi (by unfold Region.wanted; rw [hg]) h1 ?_
  rw [hl, hd]; exact h
end
theorem i64_wrap {n : Int} (h0 : -9223372036854775808 ≤ n) (h1 : n ≤ 9223372036854775807) : IntKind.i64.wrap n = n := by
  unfold IntKind.wrap; simp [IntKind.signed, IntKind.bits]; omega
/-- Seven boxes laid one behind the other. -/
theorem seven (w : World) (t1 t2 t3 t4 t5 t6 t7 : TypeId) (v1 v2 v3 v4 v5 v6 v7 : Value) (W : World)
    (h : W = ((((((w.alloc (.cells #[v1] t1)).alloc (.cells #[v2] t2)).alloc (.cells #[v3] t3)).alloc (.cells #[v4] t4)).alloc (.cells #[v5] t5)).alloc (.cells #[v6] t6)).alloc (.cells #[v7] t7)) :
    (Boxed W w.heap.size t1 v1 ∧ Boxed W (w.heap.size + 1) t2 v2 ∧ Boxed W (w.heap.size + 1 + 1) t3 v3 ∧ Boxed W (w.heap.size + 1 + 1 + 1) t4 v4) ∧
      (Boxed W (w.heap.size + 1 + 1 + 1 + 1) t5 v5 ∧ Boxed W (w.heap.size + 1 + 1 + 1 + 1 + 1) t6 v6 ∧ Boxed W (w.heap.size + 1 + 1 + 1 + 1 + 1 + 1) t7 v7) ∧ Below w.heap.size w W ∧ W.heap.size = w.heap.size + 7 := by
  have hb : Below w.heap.size w W := by
    rw [h]
    exact (((((((Below.refl w.heap.size w).alloc (Nat.le_refl _) _).alloc (by simp) _).alloc (by simp; omega) _).alloc (by simp; omega) _).alloc (by simp; omega) _).alloc (by simp; omega) _).alloc (by simp; omega) _
  subst h
  have s (X : World) (n : Nat) (y : TypeId) (v : Value) (hX : X.heap.size = n) : Boxed (X.alloc (.cells #[v] y)) n y v := hX ▸ Boxed.new X y v
  refine ⟨⟨?_, ?_, ?_, ?_⟩, ⟨?_, ?_, ?_⟩, hb, by simp⟩
  · exact ((((((s _ _ _ _ (by simp)).alloc _).alloc _).alloc _).alloc _).alloc _).alloc _
  · exact (((((s _ _ _ _ (by simp)).alloc _).alloc _).alloc _).alloc _).alloc _
  · exact ((((s _ _ _ _ (by simp)).alloc _).alloc _).alloc _).alloc _
  · exact (((s _ _ _ _ (by simp)).alloc _).alloc _).alloc _
  · exact ((s _ _ _ _ (by simp)).alloc _).alloc _
  · exact (s _ _ _ _ (by simp)).alloc _
  · exact s _ _ _ _ (by simp)

theorem prs_done {s : ByteArray} {ys : List ByteArray} {m i : Nat} (h0 : s ≠ ⟨#[45]⟩) (hys : ys.map tl = pcs (tl s)) (hr : run (ys.map tl) = some (m, i)) : prs (tl s) = some m := by
  unfold prs
  rw [if_neg (show ¬ tl s = [45] from fun e => h0 (bytes_inj e)), ← hys, hr]; rfl
theorem prs_stop {s : ByteArray} {pre : List ByteArray} (h0 : s ≠ ⟨#[45]⟩) (hp : pre.map tl <+: pcs (tl s)) (hr : run (pre.map tl) = none) : prs (tl s) = none := by
  unfold prs
  obtain ⟨r, hr'⟩ := hp
  rw [if_neg (show ¬ tl s = [45] from fun e => h0 (bytes_inj e)), ← hr', run_dead hr]; rfl
/-- What lies in the function's own variables while it goes through the pieces. -/
def Mid (w : World) (pre : List ByteArray) (W : World) : Prop :=
  (∃ m i : Nat, run (pre.map tl) = some (m, i) ∧ Boxed W (w.heap.size + 1 + 1) 3 (.int .i64 m) ∧ Boxed W (w.heap.size + 1 + 1 + 1) 3 (.int .i64 i)) ∧
    (Boxed W w.heap.size 3 (.int .i64 0) ∧ Boxed W (w.heap.size + 1) 26 (.int .i64 0)) ∧ Below w.heap.size w W
def Out (w : World) (c : Code) (pre : List ByteArray) (W : World) : Prop :=
  (c = .ret ∧ run (pre.map tl) = none) ∧ (Boxed W w.heap.size 3 (.int .i64 0) ∧ Boxed W (w.heap.size + 1) 26 (.int .i64 3)) ∧ Below w.heap.size w W
theorem box_from {D B : Nat} {t : TypeId} {v : Value} : OwnFrom D (fun (_ : List ByteArray) W => Boxed W B t v) := Own.from (boxed_own _ _ _) _
theorem mid_own (w : World) (D : Nat) (h : w.heap.size ≤ D) : OwnFrom D (Mid w) := by
  intro s A B row hs hg hr
  obtain ⟨⟨m, i, h1, h2, h3⟩, ⟨h4, h5⟩, h6⟩ := hs
  exact ⟨⟨m, i, h1, box_from s A B row h2 hg hr, box_from s A B row h3 hg hr⟩, ⟨box_from s A B row h4 hg hr, box_from s A B row h5 hg hr⟩, ownFrom_below (Nat.le_refl _) h s A B row h6 hg hr⟩
theorem out_own (w : World) (D : Nat) (h : w.heap.size ≤ D) (c : Code) : OwnFrom D (Out w c) := by
  intro s A B row hs hg hr
  obtain ⟨h1, ⟨h4, h5⟩, h6⟩ := hs
  exact ⟨h1, ⟨box_from s A B row h4 hg hr, box_from s A B row h5 hg hr⟩, ownFrom_below (Nat.le_refl _) h s A B row h6 hg hr⟩
theorem mid_set (w : World) (pre : List ByteArray) (X : World) (v : Value) (h : Mid w pre X) : Mid w pre (X.setCell ⟨w.heap.size + 1 + 1 + 1 + 1, 0, none⟩ v) := by
  obtain ⟨⟨m, i, h1, h2, h3⟩, ⟨h4, h5⟩, h6⟩ := h
  exact ⟨⟨m, i, h1, h2.other (by omega) v, h3.other (by omega) v⟩, ⟨h4.other (by omega) v, h5.other (by omega) v⟩, h6.setCell (p := ⟨w.heap.size + 1 + 1 + 1 + 1, 0, none⟩) (by show w.heap.size ≤ w.heap.size + 1 + 1 + 1 + 1; omega) v⟩

/-- Behind a piece that is a name. -/
theorem mid_next {w W Wd : World} {pre : List ByteArray} {x : ByteArray} {m i k : Nat} {p : Int} (hWd : Wd = W.drew) (hr : run (pre.map tl) = some (m, i)) (hf : fnd (tl x) i = some k) (hp : p = 2 ^ k)
    (bm : Boxed W (w.heap.size + 1 + 1) 3 (.int .i64 m)) (bi : Boxed W (w.heap.size + 1 + 1 + 1) 3 (.int .i64 i)) (b0 : Boxed W w.heap.size 3 (.int .i64 0)) (b1 : Boxed W (w.heap.size + 1) 26 (.int .i64 0)) (hB : Below w.heap.size w W) (D : Nat) :
    KeepsFrom D W ((Wd.setCell ⟨w.heap.size + 1 + 1, 0, none⟩ (.int .i64 ((m : Int) + p))).setCell ⟨w.heap.size + 1 + 1 + 1, 0, none⟩ (.int .i64 ((k : Int) + 1))) ∧
      Keep (w.heap.size + 1 + 1 + 1 + 1) W ((Wd.setCell ⟨w.heap.size + 1 + 1, 0, none⟩ (.int .i64 ((m : Int) + p))).setCell ⟨w.heap.size + 1 + 1 + 1, 0, none⟩ (.int .i64 ((k : Int) + 1))) ∧
      Mid w (pre ++ [x]) ((Wd.setCell ⟨w.heap.size + 1 + 1, 0, none⟩ (.int .i64 ((m : Int) + p))).setCell ⟨w.heap.size + 1 + 1 + 1, 0, none⟩ (.int .i64 ((k : Int) + 1))) := by
  subst hWd
  have o (j : Nat) (h2 : j ≠ w.heap.size + 1 + 1) (h3 : j ≠ w.heap.size + 1 + 1 + 1) : ((W.drew.setCell ⟨w.heap.size + 1 + 1, 0, none⟩ (.int .i64 ((m : Int) + p))).setCell ⟨w.heap.size + 1 + 1 + 1, 0, none⟩ (.int .i64 ((k : Int) + 1))).heap[j]? = W.heap[j]? :=
    (heap_setCell_other _ ⟨w.heap.size + 1 + 1 + 1, 0, none⟩ j _ h3).trans (heap_setCell_other _ ⟨w.heap.size + 1 + 1, 0, none⟩ j _ h2)
  refine ⟨(((KeepsOthers.drew W).trans (KeepsOthers.setCell _ _ _)).trans (KeepsOthers.setCell _ _ _)).from _, fun j h1 h2 => o j (by omega) (by omega), ⟨m + 2 ^ k, k + 1, ?_, ?_, ?_⟩, ⟨?_, ?_⟩, ?_⟩
  · rw [List.map_append, List.map_cons, List.map_nil, run_snoc, hr]
    simp [stp, hf]
  · have bm' : Boxed W.drew (w.heap.size + 1 + 1) 3 (.int .i64 m) := bm
    have := (bm'.set (.int .i64 ((m : Int) + p))).other (show w.heap.size + 1 + 1 ≠ w.heap.size + 1 + 1 + 1 by omega) (.int .i64 ((k : Int) + 1))
    have e : ((m + 2 ^ k : Nat) : Int) = (m : Int) + p := by rw [hp]; simp
    rw [e]; exact this
  · have bi' : Boxed W.drew (w.heap.size + 1 + 1 + 1) 3 (.int .i64 i) := bi
    exact (bi'.other (show w.heap.size + 1 + 1 + 1 ≠ w.heap.size + 1 + 1 by omega) (.int .i64 ((m : Int) + p))).set (.int .i64 ((k : Int) + 1))
  · exact (o _ (by omega) (by omega)).trans b0
  · exact (o _ (by omega) (by omega)).trans b1
  · exact ((hB.drew).setCell (p := ⟨w.heap.size + 1 + 1, 0, none⟩) (by show w.heap.size ≤ w.heap.size + 1 + 1; omega) _).setCell (p := ⟨w.heap.size + 1 + 1 + 1, 0, none⟩) (by show w.heap.size ≤ w.heap.size + 1 + 1 + 1; omega) _
/-- Behind a piece that is no name. -/
theorem out_next {w W : World} {pre : List ByteArray} {x : ByteArray} {m i : Nat} (hr : run (pre.map tl) = some (m, i)) (hf : fnd (tl x) i = none)
    (b0 : Boxed W w.heap.size 3 (.int .i64 0)) (b1 : Boxed W (w.heap.size + 1) 26 (.int .i64 0)) (hB : Below w.heap.size w W) (D : Nat) :
    KeepsFrom D W ((W.setCell ⟨w.heap.size, 0, none⟩ (.int .i64 0)).setCell ⟨w.heap.size + 1, 0, none⟩ (.int .i64 3)) ∧
      Out w .ret (pre ++ [x]) ((W.setCell ⟨w.heap.size, 0, none⟩ (.int .i64 0)).setCell ⟨w.heap.size + 1, 0, none⟩ (.int .i64 3)) := by
  refine ⟨((KeepsOthers.setCell W _ _).trans (KeepsOthers.setCell _ _ _)).from _, ⟨rfl, ?_⟩, ⟨?_, ?_⟩, ?_⟩
  · rw [List.map_append, List.map_cons, List.map_nil, run_snoc, hr]
    simp [stp, hf]
  · exact (b0.set (.int .i64 0)).other (show w.heap.size ≠ w.heap.size + 1 by omega) _
  · exact (b1.other (show w.heap.size + 1 ≠ w.heap.size by omega) _).set _
  · exact (hB.setCell (p := ⟨w.heap.size, 0, none⟩) (Nat.le_refl _) _).setCell (p := ⟨w.heap.size + 1, 0, none⟩) (Nat.le_succ _) _

set_option maxRecDepth 100000 in
set_option maxHeartbeats 2000000 in
theorem parse_any (s : ByteArray) (hs : s.size ≤ 9223372036854775807) (w : World) (hT : TabAt w) :
    Calls Tryd.prog 6 #[.string s] w fun e w' => e = .returned (.tuple #[.int .i64 (num (prs (tl s))), .int .i64 (err (prs (tl s)))]) ∧ Below w.heap.size w w' := by
  refine (callsIn_wide (n := 5)).1 ?_
  refine callsIn_of_wp_marks Tryd.func6 rfl trivial ?_ rfl
  simp only [Tryd.ntmps6, List.size_toArray, List.length_cons, List.length_nil, Nat.reduceAdd, Nat.reduceSub, Array.replicate_succ, Array.replicate_zero, List.push_toArray, List.append_toArray, List.nil_append, List.cons_append]
  have HK := Lib.hid hs
  by_cases h0 : s = ⟨#[45]⟩
  · subst h0
    have hc := (Boxed.new w 3 (.int .i64 0)).alloc (.cells #[.int .i64 0] 26)
    have hd := Boxed.new (w.alloc (.cells #[.int .i64 0] 3)) 26 (.int .i64 0)
    rw [World.size_alloc] at hd
    have c0 := hc.cell
    have c1 := hd.cell
    gi_wp2
    refine wpIn_wide.2 ?_
    go_step3
    refine (wpIn_wide (n := 5)).1 ?_
    gi_wp2
    rw [Exit.noGoto_ret]
    exact ⟨_, by simp [results, Tryd.f6, go_sem, c0, c1]; exact ⟨by decide +kernel, by decide +kernel⟩, rfl, ((Below.refl w.heap.size w).alloc (Nat.le_refl _) _).alloc (by simp) _⟩
  · have d0 : (s.toList == [45]) = false := by
      rw [ByteArray.toList_eq]
      exact beq_eq_false_iff_ne.2 (fun e => h0 (bytes_inj e))
    clear hs
    gi_wp2
    refine wpIn_wide.2 ?_
    go_step3
    refine (wpIn_wide (n := 5)).1 ?_
    gi_wp2
    refine wpIn_label ?_
    gi_wp2_with (refine ⟨trivial, ?_⟩; gi_at_call 14; refine (callsIn_wide.2 (split_any _ _)).mono ?_; rintro e w2 ⟨rfl, rfl⟩)
    obtain ⟨⟨z0, z1, z2, z3⟩, ⟨z4, z5, z6⟩, hB0, hsz⟩ := seven w _ _ _ _ _ _ _ _ _ _ _ _ _ _ _ rfl
    generalize ((((((w.alloc (.cells #[.int .i64 0] 3)).alloc (.cells #[.int .i64 0] 26)).alloc (.cells #[.int .i64 0] 3)).alloc (.cells #[.int .i64 0] 3)).alloc (.cells #[.string s] 9)).alloc (.cells #[.string ⟨#[43]⟩] 9)).alloc (.cells #[.int .i64 0] 3) = W0 at *
    refine Sq.range_sets rfl (by omega) (gf := 26) (lb := #[.pointer (some ⟨w.heap.size + 1 + 1 + 1 + 1 + 1, 0, none⟩), .pointer (some ⟨w.heap.size + 1 + 1 + 1 + 1, 0, none⟩), .pointer (some ⟨w.heap.size + 1 + 1 + 1 + 1 + 1 + 1, 0, none⟩)]) rfl trivial (enters_of Tryd.func26 (by kernel_rfl) rfl)
      (B := w.heap.size + 1 + 1 + 1 + 1) (by omega) (seq_sets _ (by omega) _ s HK.out W0 z4 z5 z6) Keep.trans (Keep.allocs (by omega)) (Keep.put (by omega)) (fun _ => rfl)
      (Mid w) (Out w) (mid_own w _ (by omega)) (out_own w _ (by omega)) (mid_set w) ⟨⟨0, 0, rfl, z2, z3⟩, ⟨z0, z1⟩, hB0⟩
      (fun x => { tmps := #[.string s, undef, .pointer (some ⟨w.heap.size, 0, none⟩), .pointer (some ⟨w.heap.size + 1, 0, none⟩), .pointer (some ⟨w.heap.size + 1 + 1, 0, none⟩), .pointer (some ⟨w.heap.size + 1 + 1 + 1, 0, none⟩), .string x, undef, .string s, .bool false, .string s,
        .func (.func 26) #[] #[.pointer (some ⟨w.heap.size + 1 + 1 + 1 + 1 + 1, 0, none⟩), .pointer (some ⟨w.heap.size + 1 + 1 + 1 + 1, 0, none⟩), .pointer (some ⟨w.heap.size + 1 + 1 + 1 + 1 + 1 + 1, 0, none⟩)], .string x,
        undef, undef, undef, undef, undef, undef, undef, undef, undef, undef, undef, undef, undef, undef, undef, undef, undef, undef, undef, undef], defers := [] }) ?assign ?body ?done ?stop
    case assign =>
      intro l x W K hK
      dsimp only [encp]
      gi_wp2
      exact hK
    case body =>
      rintro lp pre x W ⟨⟨m, i, hr, bm, bi⟩, ⟨b0, b1⟩, hB⟩ hlen
      obtain ⟨i6, mi⟩ := run_bd hr
      have ci := bi.cell
      gi_wp2
      gi_loopw [7] (fun v wr => ∃ k : Nat, v = .int .i64 k ∧ i ≤ k ∧ k ≤ 6 ∧ (∀ j, i ≤ j → j < k → nm j ≠ tl x) ∧ W = wr) (fun v _ => 6 - (intOf v).toNat)
      case atStart => exact ⟨i, rfl, Nat.le_refl _, i6, fun j h1 h2 => absurd h2 (by omega), rfl⟩
      case round =>
        obtain ⟨k, rfl, hik, hk6, hno, rfl⟩ := hrel
        by_cases hk : k < 6
        · obtain ⟨t1, t2⟩ := (hT.below hB) k hk
          rw [Nat.mul_comm] at t1 t2
          have hki : (k : Int) < 6 := by omega
          cases hx : (x.toList == nm k)
          · have hne : nm k ≠ tl x := fun e => by
              rw [ByteArray.toList_eq] at hx
              exact absurd e.symm (beq_eq_false_iff_ne.1 hx)
            gi_wp2
            go_roundw
            case rel => exact ⟨k + 1, by go_num, by omega, by omega, fun j h1 h2 => by
              rcases Nat.lt_or_ge j k with h3 | h3
              · exact hno j h1 h3
              · obtain rfl : j = k := by omega
                exact hne, trivial⟩
            case measure => simp [intOf]; omega
          · have he : nm k = tl x := by
              rw [ByteArray.toList_eq] at hx
              exact (beq_iff_eq.1 hx).symm
            have HE := Lib.hid he
            have HF := Lib.hid (fnd_some hik hk he (fun j h1 h2 => hno j h1 h2))
            have cm := bm.cell
            have fm := bm.frozen
            have fi := bi.frozen
            have hor : Go.bits .or .i64 (m : Int) ((2 : Int) ^ k) = (m : Int) + 2 ^ k := or_high m k (Nat.lt_of_lt_of_le mi (two_mono hik)) (by omega)
            clear he
            obtain ⟨p, hp⟩ : ∃ p, p = (2 : Int) ^ k := ⟨_, rfl⟩
            have HP := Lib.hid hp
            rw [← hp] at t1 hor
            clear hp
            gi_wp2
            refine wpIn_region_any (by kernel_rfl) (Rn.any_in (Rn.calm_of (by kernel_rfl)) (by rintro ⟨_, _, h⟩; exact h) _ _ _ _ ?_)
            simp only [List.size_toArray, List.length_cons, List.length_nil, Nat.reduceAdd]
            have hwk : IntKind.i64.wrap ((k : Int) + 1) = (k : Int) + 1 := i64_wrap (by omega) (by omega)
            obtain ⟨Wd, hWd⟩ : ∃ Wd, Wd = W.drew := ⟨_, rfl⟩
            have hcm : Wd.cell? ⟨w.heap.size + 1 + 1, 0, none⟩ = some (.int .i64 m) := by rw [hWd]; exact cm
            have hfm : Wd.frozen? ⟨w.heap.size + 1 + 1, 0, none⟩ = false := by rw [hWd]; exact fm
            have hci : Wd.cell? ⟨w.heap.size + 1 + 1 + 1, 0, none⟩ = some (.int .i64 i) := by rw [hWd]; exact ci
            have hfi : Wd.frozen? ⟨w.heap.size + 1 + 1 + 1, 0, none⟩ = false := by rw [hWd]; exact fi
            have ht : Wd.cell? ⟨0, k * 2, none⟩ = some (.int .i64 p) := by rw [hWd]; exact t1
            change wpAny _ _ _ _ _ _ _ W.drew
            rw [← hWd]
            refine tk 1 25 (.int .i64 k) rfl rfl (by kernel_rfl) (by kernel_rfl) (by kernel_rfl) (fun _ _ _ h => h) rfl (fun W' => rfl) (L := #[false, true, false, false, false, false, false, false, false, false]) (by kernel_rfl) ?_
            simp only [Act.put, List.setIfInBounds_toArray, List.set_cons_succ, List.set_cons_zero]
            refine tk 2 26 (.pointer (some ⟨0, k * 2, none⟩)) rfl rfl (by kernel_rfl) (by kernel_rfl) (by kernel_rfl) (fun _ _ _ h => h) rfl (fun W' => by simp [go_sem, ↓IntWalk.iteOmega]) (L := #[false, true, true, false, false, false, false, false, false, false]) (by kernel_rfl) ?_
            simp only [Act.put, List.setIfInBounds_toArray, List.set_cons_succ, List.set_cons_zero]
            refine tk 3 27 (.pointer (some ⟨0, k * 2, none⟩)) rfl rfl (by kernel_rfl) (by kernel_rfl) (by kernel_rfl) (fun _ _ _ h => h) rfl (fun W' => by simp [go_sem]) (L := #[false, true, true, true, false, false, false, false, false, false]) (by kernel_rfl) ?_
            simp only [Act.put, List.setIfInBounds_toArray, List.set_cons_succ, List.set_cons_zero]
            refine tk 6 30 (.int .i64 k) rfl rfl (by kernel_rfl) (by kernel_rfl) (by kernel_rfl) (fun _ _ _ h => h) rfl (fun W' => rfl) (L := #[false, true, true, true, false, false, true, false, false, false]) (by kernel_rfl) ?_
            simp only [Act.put, List.setIfInBounds_toArray, List.set_cons_succ, List.set_cons_zero]
            refine tk 7 31 (.int .i64 ((k : Int) + 1)) rfl rfl (by kernel_rfl) (by kernel_rfl) (by kernel_rfl) (fun _ _ _ h => h) rfl (fun W' => by simp [go_sem, hwk]) (L := #[false, true, true, true, false, false, true, true, false, false]) (by kernel_rfl) ?_
            simp only [Act.put, List.setIfInBounds_toArray, List.set_cons_succ, List.set_cons_zero]
            refine both (i := 0) (j := 4) (L := #[true, true, true, true, true, false, true, true, false, false]) (v := .int .i64 m) (v' := .int .i64 p) (d := 24) (d' := 28) rfl rfl rfl rfl (by kernel_rfl) (by kernel_rfl) (by kernel_rfl) (by kernel_rfl) (by kernel_rfl) rfl rfl (by simp [go_sem, hcm]) (by simp [go_sem, ht]) (by simp [go_sem, Act.put, hcm]) (by simp [go_sem, Act.put, ht]) (by decide) ?_
            simp only [Act.put, List.setIfInBounds_toArray, List.set_cons_succ, List.set_cons_zero]
            refine tk 5 29 (.int .i64 ((m : Int) + p)) rfl rfl (by kernel_rfl) (by kernel_rfl) (by kernel_rfl) (fun _ _ _ h => h) rfl (fun W' => by simp [go_sem, hor]) (L := #[true, true, true, true, true, true, true, true, false, false]) (by kernel_rfl) ?_
            simp only [Act.put, List.setIfInBounds_toArray, List.set_cons_succ, List.set_cons_zero]
            have bmd : Boxed Wd (w.heap.size + 1 + 1) 3 (.int .i64 m) := by rw [hWd]; exact bm
            have bid : Boxed Wd (w.heap.size + 1 + 1 + 1) 3 (.int .i64 i) := by rw [hWd]; exact bi
            have bi1 := bid.other (show w.heap.size + 1 + 1 + 1 ≠ w.heap.size + 1 + 1 by omega) (.int .i64 ((m : Int) + p))
            have hc1 := bi1.cell
            have hf1 := bi1.frozen
            refine one (i := 8) (w' := Wd.setCell ⟨w.heap.size + 1 + 1, 0, none⟩ (.int .i64 ((m : Int) + p))) (L := #[true, true, true, true, true, true, true, true, true, false]) rfl rfl rfl (by kernel_rfl) (by kernel_rfl) (by simp [go_sem, hcm, hfm]) ?_
            refine one (i := 9) (w' := (Wd.setCell ⟨w.heap.size + 1 + 1, 0, none⟩ (.int .i64 ((m : Int) + p))).setCell ⟨w.heap.size + 1 + 1 + 1, 0, none⟩ (.int .i64 ((k : Int) + 1))) (L := #[true, true, true, true, true, true, true, true, true, true]) rfl rfl rfl (by kernel_rfl) (by kernel_rfl) (by simp [go_sem, hc1, hf1]) ?_
            refine wpAny_done (by kernel_rfl) ?_ _
            gi_wp2
            exact mid_next hWd hr HF.out HP.out bm bi b0 b1 hB _
        · obtain rfl : k = 6 := by omega
          have HN := Lib.hid (fnd_none (fun j h1 h2 => hno j h1 h2))
          have c0 := b0.cell
          have f0 := b0.frozen
          have c1 := b1.cell
          have f1 := b1.frozen
          gi_wp2
          exact out_next hr HN.out b0 b1 hB _
    case done =>
      rintro D ys W hD hys ⟨⟨m, i, hr, bm, bi⟩, ⟨b0, b1⟩, hB⟩ hK
      have HP := Lib.hid (prs_done h0 hys hr)
      have cm := bm.cell
      have c0 := b0.cell
      have f0 := b0.frozen
      have c1 := b1.cell
      have f1 := b1.frozen
      gi_wp2
      rw [Exit.noGoto_ret]
      have hK' := ((KeepsOthers.setCell W ⟨w.heap.size, 0, none⟩ (.int .i64 m)).trans (KeepsOthers.setCell _ ⟨w.heap.size + 1, 0, none⟩ (.int .i64 0))).same D _ hK rfl
      refine ⟨by simp, .inl ⟨_, _, rfl, run_takeDeferred hK', ?_⟩⟩
      have e0 := ((b0.set (.int .i64 m)).other (show w.heap.size ≠ w.heap.size + 1 by omega) (.int .i64 0)).kept (grownBy_putObj' _ D (.deferred none)) (by simp; omega)
      have e1 := ((b1.other (show w.heap.size + 1 ≠ w.heap.size by omega) (.int .i64 m)).set (.int .i64 0)).kept (grownBy_putObj' _ D (.deferred none)) (by simp; omega)
      have g0 := e0.cell
      have g1 := e1.cell
      exact ⟨.tuple #[.int .i64 m, .int .i64 0], by simp [results, Tryd.f6, go_sem, g0, g1], by rw [HP.out]; rfl,
        ((hB.setCell (p := ⟨w.heap.size, 0, none⟩) (Nat.le_refl _) _).setCell (p := ⟨w.heap.size + 1, 0, none⟩) (Nat.le_succ _) _).trans (belowK_b (w := w) (Nat.le_refl _) _ D _ _ (by omega) hK' rfl rfl)⟩
    case stop =>
      rintro D c pre W hD hp ⟨⟨rfl, hno⟩, ⟨b0, b1⟩, hB⟩ hK
      have HP := Lib.hid (prs_stop h0 hp hno)
      gi_wp2
      rw [Exit.noGoto_ret]
      refine ⟨by simp, .inl ⟨_, _, rfl, run_takeDeferred hK, ?_⟩⟩
      have g0 := (b0.kept (grownBy_putObj' _ D (.deferred none)) (by simp; omega)).cell
      have g1 := (b1.kept (grownBy_putObj' _ D (.deferred none)) (by simp; omega)).cell
      exact ⟨.tuple #[.int .i64 0, .int .i64 3], by simp [results, Tryd.f6, go_sem, g0, g1], by rw [HP.out]; rfl,
        hB.trans (belowK_b (w := w) (Nat.le_refl _) W D _ _ (by omega) hK rfl rfl)⟩
end Tp
end Go.Proofs.YtphmnjmgkhddpaaDoor
