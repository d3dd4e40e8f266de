/-
  The duties of the region in which LatchUnharmed runs a list with clean cycles behind it. No conditions beyond those said.
-/
import Derived.Test.YtcpfdohodadcaaaLatchCalm
namespace Go.Proofs.Ytcpfdohodadcaaa
open Go.ChangeShapes Go.WideShapes Go.ChangeAt Go.RowKit Go.Deep
namespace Lc

theorem own_ne {base g : Nat} {W : World} {v : Value} {l : List Bool} {cs : List Value} (h : OwnB base 4 W v l) (k : VRow W g 25 cs) : v.ownBlock ≠ some g := by
  rcases h with ⟨_, ⟨rfl, _⟩ | ⟨g', cap, cur, rfl, _, hh, _⟩⟩
  · simp [Value.ownBlock]
  · intro e
    have e : g' = g := by simpa [Value.ownBlock] using e
    subst e
    unfold VRow at k
    rw [hh] at k
    injection k with k
    injection k with _ k2
    exact absurd k2 (by decide)
theorem vrow_grown {g : Nat} {W W' : World} {t : TypeId} {cs : List Value} {row : Option Nat} (k : VRow W g t cs) (hg : W.grownBy W' row) (hne : row ≠ some g) : VRow W' g t cs := (hg.block g k.lt (Ne.symm hne)).trans k

def lz (l : List Bool) (m : Nat) : List Bool := l ++ List.replicate m false
def I22 (w : World) (l : List Bool) (m : Nat) (h : Nat → Bool) (f : Tmp → Value) (W : World) : Prop :=
  (h 1 = true → h 3 = false → OwnB w.heap.size 4 W (f 90) []) ∧ (h 3 = true → h 6 = false → OwnB w.heap.size 4 W (f 92) l) ∧ (h 6 = true → h 3 = true ∧ OwnB w.heap.size 4 W (f 95) (lz l m)) ∧
  (h 12 = true → ∃ g, f 18 = .pointer (some ⟨g, 0, none⟩) ∧ Kp.Kept w W g 25 (str zer))
def S22 (z : St) (t : Tmp) (v : Value) : Prop := t = 96 ∨ t = 88 → ∃ a k c, v = .tuple #[stv z, .slice a k c, .int .i64 0]
section
variable {w : World} {l : List Bool} {m : Nat} {z : St} {aF : Act} {Q : Exit → Act → World → Prop} {ty : TypeId} {pos : String} {after : Array Edge}
theorem I22.keep {h h' : Nat → Bool} {f f' : Tmp → Value} {W W' : World} (I : I22 w l m h f W) (h1 : h' 1 = h 1) (h3 : h' 3 = h 3) (h6 : h' 6 = h 6) (h12 : h' 12 = h 12) (f1 : f' 90 = f 90) (f2 : f' 92 = f 92) (f3 : f' 95 = f 95) (f4 : f' 18 = f 18) (b : Below W.heap.size W W') : I22 w l m h' f' W' := by
  refine ⟨fun q r => ?_, fun q r => ?_, fun q => ?_, fun q => ?_⟩
  · rw [f1]; exact (I.1 (h1 ▸ q) (h3 ▸ r)).below b
  · rw [f2]; exact (I.2.1 (h3 ▸ q) (h6 ▸ r)).below b
  · rw [f3, h3]; exact ⟨(I.2.2.1 (h6 ▸ q)).1, (I.2.2.1 (h6 ▸ q)).2.below b⟩
  · obtain ⟨g, e, k⟩ := I.2.2.2 (h12 ▸ q)
    exact ⟨g, by rw [f4, e], k.on b⟩
abbrev MB22 : List Nat := [1, 3, 6, 7, 8, 9, 12]
abbrev NC22 : List Tmp := [90, 92, 95, 18]
abbrev NS22 : List Tmp := [96, 88, 98, 19]
abbrev Pre22 (w : World) (l : List Bool) (m : Nat) (z : St) (aF : Act) (Q : Exit → Act → World → Prop) (i : Nat) (o : Oper) : Prop := Lj.Pre Try.prog MB22 NC22 NS22 (I22 w l m) (S22 z) w aF Q i o
theorem pre22_lit : Pre22 w l m z aF Q 1 ⟨some 90, .buildSlice 41 0 #[], ty, pos, after, none⟩ := by
  intro h a W hI hb _ hun _
  have er : (execOp a.eval ⟨some 90, .buildSlice 41 0 #[], ty, pos, after, none⟩).run Try.prog W = .ok (.value (.slice (some ⟨W.heap.size, 0, none⟩) 0 0)) (W.alloc (.cells #[] 4)) := by
    unfold execOp
    go_simp
  have bw := (Below.refl W.heap.size W).alloc (Nat.le_refl _) (.cells #[] 4)
  unfold Oper.wp
  rw [er]
  refine ⟨_, rfl, grow hb bw, fun d hd hdn => ?_, fun h' f' hh hf => ⟨fun _ _ => ?_, fun q r => ?_, fun q => ?_, fun q => ?_⟩⟩
  · cases hd; exact absurd (by decide) hdn
  · have := hf 90 (by decide)
    rw [if_pos rfl] at this
    rw [this]; exact OwnB.lit0 hb.size
  · have e := hf 92 (by decide)
    rw [if_neg (by simp)] at e
    rw [e]; exact (hI.2.1 (by simpa using (hh 3 (by decide)).symm.trans q) (by simpa using (hh 6 (by decide)).symm.trans r)).below bw
  · have e := hf 95 (by decide)
    rw [if_neg (by simp)] at e
    have q' := hI.2.2.1 (by simpa using (hh 6 (by decide)).symm.trans q)
    rw [e]; exact ⟨by simpa [q'.1] using hh 3 (by decide), q'.2.below bw⟩
  · have e := hf 18 (by decide)
    rw [if_neg (by simp)] at e
    obtain ⟨g, eg, k⟩ := hI.2.2.2 (by simpa using (hh 12 (by decide)).symm.trans q)
    exact ⟨g, e.trans eg, k.on bw⟩

theorem pre22_list {ad : Option Addr} {c : Nat} (hl : l.length ≤ 300) (hbl : BoolsAt w ad l) (hd : ∃ e ∈ after, Region.binds .any e = true ∧ e.on = 1) (h91 : Lt.got aF 91 = .slice ad l.length c) :
    Pre22 w l m z aF Q 3 ⟨some 92, .call { callee := .builtin .append, args := #[.tmp 90, .tmp 91], argTypes := #[41, 41] }, ty, pos, after, none⟩ := by
  intro h a W hI hb hdep hun hlk
  obtain ⟨e, he, hbd, heo⟩ := hd
  have h1 : h 1 = true := heo ▸ hdep e he hbd
  have own := hI.1 h1 hun
  have e1 : a.eval (.tmp 90) = Lt.got a 90 := rfl
  have e2 : a.eval (.tmp 91) = .slice ad l.length c := ((hlk 91 (show (91 : Tmp) ∈ ([90, 91] : List Tmp) by decide) (by decide)).2 (by decide)).trans h91
  obtain ⟨v', w', hrun, own', gr⟩ := run_appendB (P := Try.prog) w.heap.size 41 ty 4 1 Try.underlying41 boolInfo _ [] ad c l own (hbl.below hb) (by simp; unfold maxLen; omega) (by simp; omega) hb.size
  rw [List.nil_append] at own'
  have er : (execOp a.eval ⟨some 92, .call { callee := .builtin .append, args := #[.tmp 90, .tmp 91], argTypes := #[41, 41] }, ty, pos, after, none⟩).run Try.prog W = .ok (.value v') w' := by
    simp [execOp, resolve, invoke, builtin, e1, e2, hrun, Result.andThen]
  have bw : Below w.heap.size w w' := hb.grown gr hb.size (fun j hj => own.blk j hj)
  unfold Oper.wp
  rw [er]
  refine ⟨_, rfl, bw, fun d hd hdn => ?_, fun h' f' hh hf => ⟨fun _ r => ?_, fun _ _ => ?_, fun q => ?_, fun q => ?_⟩⟩
  · cases hd; exact absurd (by decide) hdn
  · have := hh 3 (by decide); rw [this] at r; simp at r
  · have := hf 92 (by decide)
    rw [if_pos rfl] at this
    rw [this]; exact own'
  · have := (hI.2.2.1 (by simpa using (hh 6 (by decide)).symm.trans q)).1
    rw [hun] at this; cases this
  · have e := hf 18 (by decide)
    rw [if_neg (by simp)] at e
    obtain ⟨g, eg, k⟩ := hI.2.2.2 (by simpa using (hh 12 (by decide)).symm.trans q)
    exact ⟨g, e.trans eg, bw, vrow_grown k.row gr (own_ne own k.row), k.ge⟩

theorem pre22_zeros {C : Int} (hl : l.length ≤ 300) (hm : (m : Int) = C) (hm0 : 0 < m) (hm1 : m ≤ 1000) (hd : ∃ e ∈ after, Region.binds .any e = true ∧ e.on = 3) (h94 : Lt.got aF 94 = .int .i64 C) :
    Pre22 w l m z aF Q 6 ⟨some 95, .call { callee := .builtin .append, args := #[.tmp 92, .tmp 94], argTypes := #[41, 3] }, ty, pos, after, none⟩ := by
  intro h a W hI hb hdep hun hlk
  obtain ⟨e, he, hbd, heo⟩ := hd
  have h3 : h 3 = true := heo ▸ hdep e he hbd
  have own := hI.2.1 h3 hun
  subst hm
  have e1 : a.eval (.tmp 92) = Lt.got a 92 := rfl
  have e2 : a.eval (.tmp 94) = .int .i64 m := ((hlk 94 (show (94 : Tmp) ∈ ([92, 94] : List Tmp) by decide) (by decide)).2 (by decide)).trans h94
  obtain ⟨v', w', hrun, own', gr⟩ := run_append_zerosB (P := Try.prog) w.heap.size 41 3 ty 4 .i64 .i64 1 Try.underlying41 Try.underlying3 boolInfo _ l m hm0 own (by unfold maxLen; omega) (by omega) hb.size
  have er : (execOp a.eval ⟨some 95, .call { callee := .builtin .append, args := #[.tmp 92, .tmp 94], argTypes := #[41, 3] }, ty, pos, after, none⟩).run Try.prog W = .ok (.value v') w' := by
    simp [execOp, resolve, invoke, builtin, e1, e2, hrun, Result.andThen]
  have bw : Below w.heap.size w w' := hb.grown gr hb.size (fun j hj => own.blk j hj)
  unfold Oper.wp
  rw [er]
  refine ⟨_, rfl, bw, fun d hd hdn => ?_, fun h' f' hh hf => ⟨fun _ r => ?_, fun _ r => ?_, fun q => ?_, fun q => ?_⟩⟩
  · cases hd; exact absurd (by decide) hdn
  · have := hh 3 (by decide); rw [this] at r; simp [h3] at r
  · have := hh 6 (by decide); rw [this] at r; simp at r
  · have := hf 95 (by decide)
    rw [if_pos rfl] at this
    rw [this]; exact ⟨by simpa [h3] using hh 3 (by decide), own'⟩
  · have e := hf 18 (by decide)
    rw [if_neg (by simp)] at e
    obtain ⟨g, eg, k⟩ := hI.2.2.2 (by simpa using (hh 12 (by decide)).symm.trans q)
    exact ⟨g, e.trans eg, bw, vrow_grown k.row gr (own_ne own k.row), k.ge⟩

theorem pre22_run {L C B : Int} (hl : l.length ≤ 300) (hm1 : m ≤ 1000) (hr : rgt L C B = true) (hz : runs L C B zer (lz l m) = z) (hd : ∃ e ∈ after, Region.binds .any e = true ∧ e.on = 6) (h89 : Lt.got aF 89 = .agg #[.int .i64 L, .int .i64 C, .int .i64 B]) :
    Pre22 w l m z aF Q 7 ⟨some 96, .call { callee := .value (.func 16), args := #[.tmp 89, .tmp 95], argTypes := #[23, 41] }, ty, pos, after, none⟩ := by
  intro h a W hI hb hdep _ hlk
  obtain ⟨e, he, hbd, heo⟩ := hd
  have h6 : h 6 = true := heo ▸ hdep e he hbd
  obtain ⟨aa, c, ea, ra, _, _⟩ := (hI.2.2.1 h6).2.form
  have e1 : a.eval (.tmp 89) = .agg #[.int .i64 L, .int .i64 C, .int .i64 B] := ((hlk 89 (show (89 : Tmp) ∈ ([89, 95] : List Tmp) by decide) (by decide)).2 (by decide)).trans h89
  have e2 : a.eval (.tmp 95) = .slice aa (lz l m).length c := ea
  have CR := run_any L C B aa c (lz l m) W (by unfold lz; rw [List.length_append, List.length_replicate]; omega) ra
  unfold RetRun rlv at CR
  rw [hr] at CR
  simp only [if_true] at CR
  rw [hz] at CR
  have er : (execOp a.eval ⟨some 96, .call { callee := .value (.func 16), args := #[.tmp 89, .tmp 95], argTypes := #[23, 41] }, ty, pos, after, none⟩).run Try.prog W = .ok (.enter 16 #[.agg #[.int .i64 L, .int .i64 C, .int .i64 B], .slice aa (lz l m).length c]) W := by
    unfold execOp
    simp only [resolve, e1, e2, List.map_toArray, List.map_cons, List.map_nil]
    go_simp
  unfold Oper.wp
  rw [er]
  refine CR.mono ?_
  rintro e' w' ⟨a', k', c', rfl, _, _, _, _, b⟩
  refine ⟨_, rfl, grow hb b, fun d hd hdn => ?_, fun h' f' hh hf => hI.keep ?_ ?_ ?_ ?_ ?_ ?_ ?_ ?_ b⟩
  · cases hd; exact ⟨fun _ _ => ⟨a', k', c', rfl⟩, fun q => absurd (by decide) q⟩
  · simpa using hh 1 (by decide)
  · simpa using hh 3 (by decide)
  · simpa using hh 6 (by decide)
  · simpa using hh 12 (by decide)
  · simpa using hf 90 (by decide)
  · simpa using hf 92 (by decide)
  · simpa using hf 95 (by decide)
  · simpa using hf 18 (by decide)

theorem pre22_move : Pre22 w l m z aF Q 8 ⟨some 88, .move (.tmp 96), ty, pos, after, none⟩ := by
  intro h a W hI hb _ _ hlk
  have e1 := (hlk 96 (List.Mem.head _) (by decide)).1 (by decide)
  refine ⟨_, rfl, hb, fun d hd hdn => ?_, fun h' f' hh hf => hI.keep ?_ ?_ ?_ ?_ ?_ ?_ ?_ ?_ (Below.refl _ _)⟩
  · cases hd; exact ⟨fun _ _ => e1 (Or.inl rfl), fun q => absurd (by decide) q⟩
  · simpa using hh 1 (by decide)
  · simpa using hh 3 (by decide)
  · simpa using hh 6 (by decide)
  · simpa using hh 12 (by decide)
  · simpa using hf 90 (by decide)
  · simpa using hf 92 (by decide)
  · simpa using hf 95 (by decide)
  · simpa using hf 18 (by decide)

theorem pre22_take (h97 : Lt.got aF 97 = stv z) : Pre22 w l m z aF Q 9 ⟨some 97, .extract (.tmp 88) 0, ty, pos, after, none⟩ := by
  intro h a W hI hb _ _ hlk
  obtain ⟨a', k', c', e1⟩ := (hlk 88 (List.Mem.head _) (by decide)).1 (by decide) (Or.inr rfl)
  have e1 : a.eval (.tmp 88) = .tuple #[stv z, .slice a' k' c', .int .i64 0] := e1
  have er : (execOp a.eval ⟨some 97, .extract (.tmp 88) 0, ty, pos, after, none⟩).run Try.prog W = .ok (.value (stv z)) W := by
    simp [execOp, e1, Instr.extract]
  unfold Oper.wp
  rw [er]
  refine ⟨_, rfl, hb, fun d hd hdn => ?_, fun h' f' hh hf => hI.keep ?_ ?_ ?_ ?_ ?_ ?_ ?_ ?_ (Below.refl _ _)⟩
  · cases hd; exact ⟨fun q => absurd q (by decide), fun _ => h97.symm⟩
  · simpa using hh 1 (by decide)
  · simpa using hh 3 (by decide)
  · simpa using hh 6 (by decide)
  · simpa using hh 12 (by decide)
  · simpa using hf 90 (by decide)
  · simpa using hf 92 (by decide)
  · simpa using hf 95 (by decide)
  · simpa using hf 18 (by decide)

theorem pre22_alloc : Pre22 w l m z aF Q 12 ⟨some 18, .alloc 25, ty, pos, after, none⟩ := by
  intro h a W hI hb _ _ _
  have er : (execOp a.eval ⟨some 18, .alloc 25, ty, pos, after, none⟩).run Try.prog W = .ok (.value (.pointer (some ⟨W.heap.size, 0, none⟩))) (W.alloc (.cells (str zer).toArray 25)) := by
    simp only [execOp, Sem.run_bind, allocS, Result.andThen, Sem.run_pure]
  have bw := (Below.refl W.heap.size W).alloc (Nat.le_refl _) (.cells (str zer).toArray 25)
  unfold Oper.wp
  rw [er]
  refine ⟨_, rfl, grow hb bw, fun d hd hdn => ?_, fun h' f' hh hf => ⟨fun q r => ?_, fun q r => ?_, fun q => ?_, fun _ => ?_⟩⟩
  · cases hd; exact absurd (by decide) hdn
  · have e := hf 90 (by decide)
    rw [if_neg (by simp)] at e
    rw [e]; exact (hI.1 (by simpa using (hh 1 (by decide)).symm.trans q) (by simpa using (hh 3 (by decide)).symm.trans r)).below bw
  · have e := hf 92 (by decide)
    rw [if_neg (by simp)] at e
    rw [e]; exact (hI.2.1 (by simpa using (hh 3 (by decide)).symm.trans q) (by simpa using (hh 6 (by decide)).symm.trans r)).below bw
  · have e := hf 95 (by decide)
    rw [if_neg (by simp)] at e
    have q' := hI.2.2.1 (by simpa using (hh 6 (by decide)).symm.trans q)
    rw [e]; exact ⟨by simpa [q'.1] using hh 3 (by decide), q'.2.below bw⟩
  · have e7 := hf 18 (by decide)
    rw [if_pos rfl] at e7
    exact ⟨_, e7, Kp.kept_new w W (str zer) _ hb⟩

/-- The three that may come behind the store. -/
theorem free22_slice : Lj.Free Try.prog NS22 (S22 z) aF Q ⟨some 98, .extract (.tmp 88) 1, ty, pos, after, none⟩ := by
  intro a W hlk
  obtain ⟨a', k', c', e1⟩ := (hlk 88 (List.Mem.head _)).1 (by decide) (Or.inr rfl)
  have e1 : a.eval (.tmp 88) = .tuple #[stv z, .slice a' k' c', .int .i64 0] := e1
  have er : (execOp a.eval ⟨some 98, .extract (.tmp 88) 1, ty, pos, after, none⟩).run Try.prog W = .ok (.value (.slice a' k' c')) W := by
    simp [execOp, e1, Instr.extract]
  unfold Oper.wp
  rw [er]
  refine ⟨rfl, _, rfl, fun d hd => ?_⟩
  cases hd
  exact ⟨fun _ q => absurd q (by decide), fun q => absurd (by decide) q⟩
theorem free22_err (h99 : Lt.got aF 99 = .int .i64 0) : Lj.Free Try.prog NS22 (S22 z) aF Q ⟨some 99, .extract (.tmp 88) 2, ty, pos, after, none⟩ := by
  intro a W hlk
  obtain ⟨a', k', c', e1⟩ := (hlk 88 (List.Mem.head _)).1 (by decide) (Or.inr rfl)
  have e1 : a.eval (.tmp 88) = .tuple #[stv z, .slice a' k' c', .int .i64 0] := e1
  have er : (execOp a.eval ⟨some 99, .extract (.tmp 88) 2, ty, pos, after, none⟩).run Try.prog W = .ok (.value (.int .i64 0)) W := by
    simp [execOp, e1, Instr.extract]
  unfold Oper.wp
  rw [er]
  refine ⟨rfl, _, rfl, fun d hd => ?_⟩
  cases hd
  exact ⟨fun q => absurd q (by decide), fun _ => h99.symm⟩
theorem free22_put : Lj.Free Try.prog NS22 (S22 z) aF Q ⟨some 19, .assign (.tmp 98), ty, pos, after, none⟩ := by
  intro a W _
  refine ⟨rfl, _, rfl, fun d hd => ?_⟩
  cases hd
  exact ⟨fun _ q => absurd q (by decide), fun q => absurd (by decide) q⟩
theorem store22 (hd : ∃ e ∈ after, Region.binds .any e = true ∧ e.on = 12) (h97 : Lt.got aF 97 = stv z) :
    Lj.Store Try.prog NC22 NS22 (I22 w l m) (S22 z) (fun f W => ∃ g, f 18 = .pointer (some ⟨g, 0, none⟩) ∧ Kp.Kept w W g 25 (str z)) w aF Q ⟨none, .store 25 (.tmp 18) (.tmp 97), ty, pos, after, none⟩ := by
  intro h a W hI hb hw hlk
  obtain ⟨e, he, hbd, heo⟩ := hd
  have h12 : h 12 = true := hw 12 (by
    unfold Lt.waits
    rw [Array.any_eq_true']
    exact ⟨e, he, by rw [hbd, heo]; rfl⟩)
  obtain ⟨g, eg, k⟩ := hI.2.2.2 h12
  have e2 : a.eval (.tmp 97) = .agg (str z).toArray := ((hlk 97 (by simp [Flow.looks, Op.operands]) (by decide)).2 (by decide)).trans h97
  refine wp_store_row 25 (.tmp 18) (.tmp 97) rfl g (str z).toArray eg e2 25 (str zer).toArray k.row sizeS rfl (str_one z) ?_
  exact ⟨rfl, fun f hf => ⟨g, (hf 18 (by decide)).trans eg, Below.put k.below k.ge _, k.row.put _, k.ge⟩⟩
end
end Lc
end Go.Proofs.Ytcpfdohodadcaaa
