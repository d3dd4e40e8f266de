/-
  What a latch does in calm cycles, and between too few tripped ones, as mathematics; the duties of the regions in which LatchUnharmed runs it. No conditions beyond those said.
-/
import Derived.Test.YtcpfdohodadcaaaLatchRun
import Derived.Test.YtcpfdohodadcaaaLateJ
import Derived.Test.YtcpfdohodadcaaaRowB
namespace Go.Proofs.Ytcpfdohodadcaaa
open Go.ChangeShapes Go.WideShapes Go.ChangeAt Go.RowKit Go.Deep
namespace Lc

theorem ste_calm (L C B b : Int) : ste L C B ⟨false, false, 0, 0, b⟩ false = ⟨false, false, 0, 0, b⟩ := by simp [ste]
theorem runs_calm (L C B b : Int) : ∀ n, runs L C B ⟨false, false, 0, 0, b⟩ (List.replicate n false) = ⟨false, false, 0, 0, b⟩
  | 0 => rfl
  | n + 1 => by
    have : runs L C B ⟨false, false, 0, 0, b⟩ (List.replicate (n + 1) false) = runs L C B (ste L C B ⟨false, false, 0, 0, b⟩ false) (List.replicate n false) := rfl
    rw [this, ste_calm, runs_calm L C B b n]
theorem runs_out (L C B : Int) : ∀ n, runs L C B ⟨true, true, L, 0, B⟩ (List.replicate n false) = ⟨true, true, L, 0, B⟩
  | 0 => rfl
  | n + 1 => by
    have : runs L C B ⟨true, true, L, 0, B⟩ (List.replicate (n + 1) false) = runs L C B (ste L C B ⟨true, true, L, 0, B⟩ false) (List.replicate n false) := rfl
    rw [this, show ste L C B ⟨true, true, L, 0, B⟩ false = ⟨true, true, L, 0, B⟩ by simp [ste], runs_out L C B n]
theorem runs_clean (L C B : Int) : ∀ (n : Nat) (c b : Int), 0 ≤ c → c < C → C ≤ c + n → ∃ b', runs L C B ⟨true, false, L, c, b⟩ (List.replicate n false) = ⟨false, false, 0, 0, b'⟩
  | 0, c, b, _, h2, h3 => by simp at h3; omega
  | n + 1, c, b, h1, h2, h3 => by
    have e : runs L C B ⟨true, false, L, c, b⟩ (List.replicate (n + 1) false) = runs L C B (ste L C B ⟨true, false, L, c, b⟩ false) (List.replicate n false) := rfl
    by_cases d : c + 1 < C
    · rw [e, show ste L C B ⟨true, false, L, c, b⟩ false = ⟨true, false, L, c + 1, b⟩ by simp [ste, d]]
      exact runs_clean L C B n (c + 1) b (by omega) d (by push_cast at h3; omega)
    · rw [e, show ste L C B ⟨true, false, L, c, b⟩ false = ⟨false, false, 0, 0, b + 1⟩ by simp [ste, d]]
      exact ⟨_, runs_calm L C B (b + 1) n⟩
theorem runs_app (L C B : Int) (s : St) (l r : List Bool) : runs L C B s (l ++ r) = runs L C B (runs L C B s l) r := by simp [runs]
/-- Behind so many clean ones. -/
theorem runs_let {L C B : Int} (h : Rt L C B) {n : Nat} (hn : (n : Int) = C) {s : St} (hf : Fin L C B s) : (runs L C B s (List.replicate n false)).ou = true ∨ ((runs L C B s (List.replicate n false)).ou = false ∧ (runs L C B s (List.replicate n false)).la = false ∧ (runs L C B s (List.replicate n false)).st = 0) := by
  cases hf with
  | out => left; rw [runs_out]
  | @latched c b hc hb =>
    right
    obtain ⟨b', e⟩ := runs_clean L C B n c b hc.1 hc.2 (by omega)
    rw [e]; exact ⟨rfl, rfl, rfl⟩
  | @«in» s b hs hb =>
    right
    have := h.c1
    obtain ⟨m, rfl⟩ : ∃ m, n = m + 1 := ⟨n - 1, by omega⟩
    have e : runs L C B ⟨false, false, s, 0, b⟩ (List.replicate (m + 1) false) = runs L C B (ste L C B ⟨false, false, s, 0, b⟩ false) (List.replicate m false) := rfl
    rw [e, show ste L C B ⟨false, false, s, 0, b⟩ false = ⟨false, false, 0, 0, b⟩ by simp [ste], runs_calm]
    exact ⟨rfl, rfl, rfl⟩

/-- Too few in a row: what the law makes of a list. -/
def nxr (L row : Int) (x : Bool) : Int := if x && decide (row + 1 < L) then row + 1 else 0
def crow (L : Int) (l : List Bool) : Int := l.foldl (nxr L) 0
def cal (L : Int) : Int → List Bool → List Bool
  | _, [] => []
  | row, x :: l => (x && decide (row + 1 < L)) :: cal L (nxr L row x) l
theorem cal_len (L : Int) : ∀ (row : Int) (l : List Bool), (cal L row l).length = l.length
  | _, [] => rfl
  | row, x :: l => by simp [cal, cal_len L]
theorem cal_app (L : Int) : ∀ (row : Int) (l r : List Bool), cal L row (l ++ r) = cal L row l ++ cal L (l.foldl (nxr L) row) r
  | _, [], _ => rfl
  | row, x :: l, r => by simp [cal, cal_app L]
theorem cal_snoc (L : Int) (l : List Bool) (x : Bool) : cal L 0 (l ++ [x]) = cal L 0 l ++ [x && decide (crow L l + 1 < L)] := by rw [cal_app]; rfl
theorem crow_snoc (L : Int) (l : List Bool) (x : Bool) : crow L (l ++ [x]) = nxr L (crow L l) x := by simp [crow]
theorem nxr_in {L row : Int} (hL : 1 ≤ L) (h : 0 ≤ row ∧ row < L) (x : Bool) : 0 ≤ nxr L row x ∧ nxr L row x < L := by
  unfold nxr
  split
  · rename_i q; simp at q; omega
  · omega
theorem crow_in {L : Int} (hL : 1 ≤ L) : ∀ l : List Bool, 0 ≤ crow L l ∧ crow L l < L := by
  suffices H : ∀ (l : List Bool) (r : Int), 0 ≤ r ∧ r < L → 0 ≤ l.foldl (nxr L) r ∧ l.foldl (nxr L) r < L from fun l => H l 0 ⟨Int.le_refl _, by omega⟩
  intro l
  induction l with
  | nil => intro r h; exact h
  | cons x l ih => intro r h; exact ih _ (nxr_in hL h x)
theorem ste_cal {L C B row : Int} (x : Bool) : ste L C B ⟨false, false, row, 0, 0⟩ (x && decide (row + 1 < L)) = ⟨false, false, nxr L row x, 0, 0⟩ := by
  by_cases d : row + 1 < L <;> cases x <;> simp [ste, nxr, d]
theorem wha_cal {L C B row : Int} (x : Bool) : wha L C B ⟨false, false, row, 0, 0⟩ (x && decide (row + 1 < L)) = 0 := by
  by_cases d : row + 1 < L <;> cases x <;> simp [wha, d]
theorem runs_cal (L C B : Int) : ∀ (l : List Bool) (row : Int), runs L C B ⟨false, false, row, 0, 0⟩ (cal L row l) = ⟨false, false, l.foldl (nxr L) row, 0, 0⟩
  | [], _ => rfl
  | x :: l, row => by
    have e : runs L C B ⟨false, false, row, 0, 0⟩ (cal L row (x :: l)) = runs L C B (ste L C B ⟨false, false, row, 0, 0⟩ (x && decide (row + 1 < L))) (cal L (nxr L row x) l) := rfl
    rw [e, ste_cal, runs_cal L C B l]; rfl
theorem whas_cal (L C B : Int) : ∀ (l : List Bool) (row : Int), whas L C B ⟨false, false, row, 0, 0⟩ (cal L row l) = List.replicate l.length 0
  | [], _ => rfl
  | x :: l, row => by
    have e : whas L C B ⟨false, false, row, 0, 0⟩ (cal L row (x :: l)) = wha L C B ⟨false, false, row, 0, 0⟩ (x && decide (row + 1 < L)) :: whas L C B (ste L C B ⟨false, false, row, 0, 0⟩ (x && decide (row + 1 < L))) (cal L (nxr L row x) l) := rfl
    rw [e, wha_cal, ste_cal, whas_cal L C B l]; rfl

/-! ### The region that makes a list, and runs it -/
theorem boolInfo : (Try.prog.info? 4).map (fun i => (i.zero, i.size, i.bytes)) = some (some (.bool false), 1, 1) := by kernel_rfl
def I3 (w : World) (n : Nat) (h : Nat → Bool) (f : Tmp → Value) (W : World) : Prop :=
  (h 3 = true → ∃ a c, f 34 = .slice a n c ∧ BoolsAt W a (List.replicate n false)) ∧ (h 9 = true → ∃ g, f 7 = .pointer (some ⟨g, 0, none⟩) ∧ Kp.Kept w W g 25 (str zer))
def S3 (t : Tmp) (v : Value) : Prop := t = 35 ∨ t = 30 → ∃ a k c, v = .tuple #[stv zer, .slice a k c, .int .i64 0]
section
variable {w : World} {n : Nat} {aF : Act} {Q : Exit → Act → World → Prop} {ty : TypeId} {pos : String} {after : Array Edge}
theorem I3.keep {h h' : Nat → Bool} {f f' : Tmp → Value} {W W' : World} (I : I3 w n h f W) (h3 : h' 3 = h 3) (h9 : h' 9 = h 9) (f34 : f' 34 = f 34) (f7 : f' 7 = f 7) (b : Below W.heap.size W W') : I3 w n h' f' W' := by
  refine ⟨fun q => ?_, fun q => ?_⟩
  · obtain ⟨a, c, e, r⟩ := I.1 (h3 ▸ q)
    exact ⟨a, c, by rw [f34, e], r.below b⟩
  · obtain ⟨g, e, k⟩ := I.2 (h9 ▸ q)
    exact ⟨g, by rw [f7, e], k.on b⟩
abbrev Pre3 (w : World) (n : Nat) (aF : Act) (Q : Exit → Act → World → Prop) (i : Nat) (o : Oper) : Prop := Lj.Pre Try.prog [3, 4, 5, 6, 9] [34, 7] [35, 30, 37, 8] (I3 w n) S3 w aF Q i o

theorem pre3_make (hn : n ≤ 255) (h33 : Lt.got aF 33 = .int .i64 n) : Pre3 w n aF Q 3 ⟨some 34, .makeSlice 41 (.tmp 33) (.tmp 33), ty, pos, after, none⟩ := by
  intro h a W hI hb _ _ hlk
  have e1 : a.eval (.tmp 33) = .int .i64 n := ((hlk 33 (List.Mem.head _) (by decide)).2 (by decide)).trans h33
  obtain ⟨i0, hi0, hz0, hz1, hz2⟩ := info_parts boolInfo
  obtain ⟨w', hrun, own, gr⟩ := run_make_full (P := Try.prog) W W.heap.size 41 4 i0 (.bool false) 1 Try.underlying41 hi0 hz0 hz1 .i64 .i64 n (by rw [hz2]; omega) (by unfold maxLen; omega) (Nat.le_refl _)
  have own : OwnB W.heap.size 4 w' (.slice (some ⟨W.heap.size, 0, none⟩) n n) (List.replicate n false) := by
    unfold OwnB
    rw [List.length_replicate]
    have : (madeCells (Value.bool false).cells (n * 1)).toList = cellsB (List.replicate n false) := by
      rw [show (Value.bool false).cells = #[Value.bool false] from rfl, toList_madeCells_one]; simp [cellsB]
    rw [← this]; exact own
  have bw : Below W.heap.size W w' := (Below.refl W.heap.size W).grown gr (Nat.le_refl _) (by simp)
  obtain ⟨a', c', e', r', _, _⟩ := own.form
  rw [List.length_replicate] at e'
  injection e' with e2 _ e4
  have er : (execOp a.eval ⟨some 34, .makeSlice 41 (.tmp 33) (.tmp 33), ty, pos, after, none⟩).run Try.prog W = .ok (.value (.slice (some ⟨W.heap.size, 0, none⟩) n n)) w' := by
    simp [execOp, e1, hrun, Result.andThen]
  unfold Oper.wp
  rw [er]
  refine ⟨_, rfl, grow hb bw, fun d hd hdn => ?_, fun h' f' hh hf => ⟨fun _ => ?_, fun q => ?_⟩⟩
  · cases hd; exact absurd (by decide) hdn
  · have := hf 34 (by decide)
    rw [if_pos rfl] at this
    exact ⟨_, _, this, e2 ▸ r'⟩
  · have e7 := hf 7 (by decide)
    rw [if_neg (by simp)] at e7
    have h9 := hh 9 (by decide)
    obtain ⟨g, e, k⟩ := hI.2 (by simpa using h9.symm.trans q)
    exact ⟨g, by rw [e7, e], k.on bw⟩

theorem pre3_run {L C B : Int} (hn : n ≤ 255) (hr : rgt L C B = true) (hd : ∃ e ∈ after, Region.binds .any e = true ∧ e.on = 3) (h31 : Lt.got aF 31 = .agg #[.int .i64 L, .int .i64 C, .int .i64 B]) :
    Pre3 w n aF Q 4 ⟨some 35, .call { callee := .value (.func 16), args := #[.tmp 31, .tmp 34], argTypes := #[23, 41] }, ty, pos, after, none⟩ := by
  intro h a W hI hb hdep _ hlk
  obtain ⟨e, he, hbd, heo⟩ := hd
  have h3 : h 3 = true := heo ▸ hdep e he hbd
  obtain ⟨aa, c, ea, ra⟩ := hI.1 h3
  have e1 : a.eval (.tmp 31) = .agg #[.int .i64 L, .int .i64 C, .int .i64 B] := ((hlk 31 (show (31 : Tmp) ∈ ([31, 34] : List Tmp) by decide) (by decide)).2 (by decide)).trans h31
  have e2 : a.eval (.tmp 34) = .slice aa n c := ea
  have CR := run_any L C B aa c (List.replicate n false) W (by rw [List.length_replicate]; omega) ra
  unfold RetRun rlv at CR
  rw [hr, List.length_replicate] at CR
  simp only [if_true] at CR
  have ez : runs L C B zer (List.replicate n false) = zer := runs_calm L C B 0 n
  rw [ez] at CR
  have er : (execOp a.eval ⟨some 35, .call { callee := .value (.func 16), args := #[.tmp 31, .tmp 34], argTypes := #[23, 41] }, ty, pos, after, none⟩).run Try.prog W = .ok (.enter 16 #[.agg #[.int .i64 L, .int .i64 C, .int .i64 B], .slice aa n c]) W := by
    unfold execOp
    simp only [resolve, e1, e2, List.map_toArray, List.map_cons, List.map_nil]
    go_simp
  unfold Oper.wp
  rw [er]
  refine CR.mono ?_
  rintro e' w' ⟨a', k', c', rfl, _, _, _, _, b⟩
  refine ⟨_, rfl, grow hb b, fun d hd hdn => ?_, fun h' f' hh hf => hI.keep ?_ ?_ ?_ ?_ b⟩
  · cases hd; exact ⟨fun _ _ => ⟨a', k', c', rfl⟩, fun q => absurd (by decide) q⟩
  · simpa using hh 3 (by decide)
  · simpa using hh 9 (by decide)
  · simpa using hf 34 (by decide)
  · simpa using hf 7 (by decide)

theorem pre3_move : Pre3 w n aF Q 5 ⟨some 30, .move (.tmp 35), ty, pos, after, none⟩ := by
  intro h a W hI hb _ _ hlk
  have e1 := (hlk 35 (List.Mem.head _) (by decide)).1 (by decide)
  refine ⟨_, rfl, hb, fun d hd hdn => ?_, fun h' f' hh hf => hI.keep ?_ ?_ ?_ ?_ (Below.refl _ _)⟩
  · cases hd; exact ⟨fun _ _ => e1 (Or.inl rfl), fun q => absurd (by decide) q⟩
  · simpa using hh 3 (by decide)
  · simpa using hh 9 (by decide)
  · simpa using hf 34 (by decide)
  · simpa using hf 7 (by decide)

theorem pre3_take (h36 : Lt.got aF 36 = stv zer) : Pre3 w n aF Q 6 ⟨some 36, .extract (.tmp 30) 0, ty, pos, after, none⟩ := by
  intro h a W hI hb _ _ hlk
  obtain ⟨a', k', c', e1⟩ := (hlk 30 (List.Mem.head _) (by decide)).1 (by decide) (Or.inr rfl)
  have e1 : a.eval (.tmp 30) = .tuple #[stv zer, .slice a' k' c', .int .i64 0] := e1
  have er : (execOp a.eval ⟨some 36, .extract (.tmp 30) 0, ty, pos, after, none⟩).run Try.prog W = .ok (.value (stv zer)) W := by
    simp [execOp, e1, Instr.extract]
  unfold Oper.wp
  rw [er]
  refine ⟨_, rfl, hb, fun d hd hdn => ?_, fun h' f' hh hf => hI.keep ?_ ?_ ?_ ?_ (Below.refl _ _)⟩
  · cases hd; exact ⟨fun q => absurd q (by decide), fun _ => h36.symm⟩
  · simpa using hh 3 (by decide)
  · simpa using hh 9 (by decide)
  · simpa using hf 34 (by decide)
  · simpa using hf 7 (by decide)

theorem pre3_alloc : Pre3 w n aF Q 9 ⟨some 7, .alloc 25, ty, pos, after, none⟩ := by
  intro h a W hI hb _ _ _
  have er : (execOp a.eval ⟨some 7, .alloc 25, ty, pos, after, none⟩).run Try.prog W = .ok (.value (.pointer (some ⟨W.heap.size, 0, none⟩))) (W.alloc (.cells (str zer).toArray 25)) := by
    simp only [execOp, Sem.run_bind, allocS, Result.andThen, Sem.run_pure]
  have bw := (Below.refl W.heap.size W).alloc (Nat.le_refl _) (.cells (str zer).toArray 25)
  unfold Oper.wp
  rw [er]
  refine ⟨_, rfl, grow hb bw, fun d hd hdn => ?_, fun h' f' hh hf => ⟨fun q => ?_, fun _ => ?_⟩⟩
  · cases hd; exact absurd (by decide) hdn
  · have h3 := hh 3 (by decide)
    obtain ⟨aa, c, e, r⟩ := hI.1 (by simpa using h3.symm.trans q)
    have e34 := hf 34 (by decide)
    rw [if_neg (by simp)] at e34
    exact ⟨aa, c, by rw [e34, e], r.below bw⟩
  · have e7 := hf 7 (by decide)
    rw [if_pos rfl] at e7
    exact ⟨_, e7, Kp.kept_new w W (str zer) _ hb⟩

/-- The three that may come behind the store. -/
theorem free3_slice : Lj.Free Try.prog [35, 30, 37, 8] S3 aF Q ⟨some 37, .extract (.tmp 30) 1, ty, pos, after, none⟩ := by
  intro a W hlk
  obtain ⟨a', k', c', e1⟩ := (hlk 30 (List.Mem.head _)).1 (by decide) (Or.inr rfl)
  have e1 : a.eval (.tmp 30) = .tuple #[stv zer, .slice a' k' c', .int .i64 0] := e1
  have er : (execOp a.eval ⟨some 37, .extract (.tmp 30) 1, ty, pos, after, none⟩).run Try.prog W = .ok (.value (.slice a' k' c')) W := by
    simp [execOp, e1, Instr.extract]
  unfold Oper.wp
  rw [er]
  refine ⟨rfl, _, rfl, fun d hd => ?_⟩
  cases hd
  exact ⟨fun _ q => absurd q (by decide), fun q => absurd (by decide) q⟩
theorem free3_err (h38 : Lt.got aF 38 = .int .i64 0) : Lj.Free Try.prog [35, 30, 37, 8] S3 aF Q ⟨some 38, .extract (.tmp 30) 2, ty, pos, after, none⟩ := by
  intro a W hlk
  obtain ⟨a', k', c', e1⟩ := (hlk 30 (List.Mem.head _)).1 (by decide) (Or.inr rfl)
  have e1 : a.eval (.tmp 30) = .tuple #[stv zer, .slice a' k' c', .int .i64 0] := e1
  have er : (execOp a.eval ⟨some 38, .extract (.tmp 30) 2, ty, pos, after, none⟩).run Try.prog W = .ok (.value (.int .i64 0)) W := by
    simp [execOp, e1, Instr.extract]
  unfold Oper.wp
  rw [er]
  refine ⟨rfl, _, rfl, fun d hd => ?_⟩
  cases hd
  exact ⟨fun q => absurd q (by decide), fun _ => h38.symm⟩
theorem free3_put : Lj.Free Try.prog [35, 30, 37, 8] S3 aF Q ⟨some 8, .assign (.tmp 37), ty, pos, after, none⟩ := by
  intro a W _
  refine ⟨rfl, _, rfl, fun d hd => ?_⟩
  cases hd
  exact ⟨fun _ q => absurd q (by decide), fun q => absurd (by decide) q⟩
theorem store3 (hd : ∃ e ∈ after, Region.binds .any e = true ∧ e.on = 9) (h36 : Lt.got aF 36 = stv zer) :
    Lj.Store Try.prog [34, 7] [35, 30, 37, 8] (I3 w n) S3 (fun f W => ∃ g, f 7 = .pointer (some ⟨g, 0, none⟩) ∧ Kp.Kept w W g 25 (str zer)) w aF Q ⟨none, .store 25 (.tmp 7) (.tmp 36), ty, pos, after, none⟩ := by
  intro h a W hI hb hw hlk
  obtain ⟨e, he, hbd, heo⟩ := hd
  have h9 : h 9 = true := hw 9 (by
    unfold Lt.waits
    rw [Array.any_eq_true']
    exact ⟨e, he, by rw [hbd, heo]; rfl⟩)
  obtain ⟨g, eg, k⟩ := hI.2 h9
  have e2 : a.eval (.tmp 36) = .agg (str zer).toArray := ((hlk 36 (by simp [Flow.looks, Op.operands]) (by decide)).2 (by decide)).trans h36
  refine wp_store_row 25 (.tmp 7) (.tmp 36) rfl g (str zer).toArray eg e2 25 (str zer).toArray k.row sizeS rfl (str_one zer) ?_
  exact ⟨rfl, fun f hf => ⟨g, (hf 7 (by decide)).trans eg, Below.put k.below k.ge _, k.row.put _, k.ge⟩⟩
end
end Lc
end Go.Proofs.Ytcpfdohodadcaaa
