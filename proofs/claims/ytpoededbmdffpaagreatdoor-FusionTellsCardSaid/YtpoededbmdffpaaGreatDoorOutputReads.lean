/-
  What Failed and Right of package output tell: contracts by walking the Go text (ranges over the iterator statuses). Conditions: that an output has eight values and eight statuses.
-/
import Derived.Test.YtpoededbmdffpaaGreatDoorOutputIter
import Derived.Test.YtpoededbmdffpaaGreatDoorRounds
import Derived.Test.YtpoededbmdffpaaGreatDoorRangeLays
import Derived.RegionTactic
import Derived.BigQuiet
namespace Go.Proofs.YtpoededbmdffpaaGreatDoor
set_option maxRecDepth 100000
open Go.ChangeShapes Go.WideShapes Go.ChangeAt Go.RowKit Go.Deep Go.Shelf
namespace Ot
open Ss (St str zer stv rgt)
open Rf
attribute [local go_sem] Oper.semAt_some
theorem len8 {ys : List (Fin 8)} (h : ys.map Fin.val = List.range 8) : ys.length = 8 := by
  have := congrArg List.length h; simpa using this
theorem own_boxed {β : Type} (n₀ : Nat) (g : Nat) (t : TypeId) (v : β → Value) : OwnFrom n₀ fun s (W : World) => Boxed W g t (v s) :=
  own_but fun _ _ _ _ hs B hS => box_turned (cs := [_]) B (fun k q => (hS k q).2) hs
/-- The loop variable's box, made and filled. -/
theorem lay_st (X : World) (s : St) : X.grownBy ((X.alloc (.cells #[.int .i64 0, .int .i64 0, .int .i64 0, .bool false] 37)).setRow X.heap.size (str s).toArray) none ∧
    VRow ((X.alloc (.cells #[.int .i64 0, .int .i64 0, .int .i64 0, .bool false] 37)).setRow X.heap.size (str s).toArray) X.heap.size 37 (str s) :=
  ⟨grown_lay _ _ _, (VRow.new X (str zer) 37).put (str s)⟩
theorem below_grown {n₀ : Nat} {w X Y : World} (h : Below n₀ w X) (g : X.grownBy Y none) (hn : n₀ ≤ X.heap.size) : Below n₀ w Y := h.grown g hn (fun k e => by cases e)
theorem boxed_grown {X Y : World} {g : Nat} {t : TypeId} {v : Value} (h : Boxed X g t v) (q : X.grownBy Y none) : Boxed Y g t v := h.kept q (by simp)
theorem row_grown {X Y : World} {g : Nat} {t : TypeId} {cs : List Value} (h : VRow X g t cs) (q : X.grownBy Y none) : VRow Y g t cs := (q.block g h.lt (by simp)).trans h
set_option maxRecDepth 100000 in
set_option maxHeartbeats 3200000 in
theorem failed_any {o : Ou} (k : Ok o) (w : World) :
    Calls Tryz.prog 67 #[.agg (ouc o).toArray] w fun e w' => e = .returned (.int .i64 (fl o.s : Nat)) ∧ Below w.heap.size w w' := by
  have HK := Lib.hid k
  have HZ := Lib.hid (sizeO k)
  have C1 := fun W => callsIn_wide (n := 5 - 1) |>.2 (statuses_any o W)
  have hBX := (VRow.new w (ouc o) 40).alloc (.cells #[.int .i64 0] 3)
  have HR0 := Lib.hid (range_o hBX)
  have HBX := Lib.hid hBX
  clear k hBX
  obtain ⟨ov, hov⟩ : ∃ ov, ouc o = ov := ⟨_, rfl⟩
  rw [hov] at HR0 HZ C1 HBX ⊢
  have HOV := Lib.hid hov
  clear hov
  refine (callsIn_wide (n := 5)).1 ?_
  refine callsIn_of_wp_marks Tryz.func67 rfl trivial ?_ rfl
  simp only [Tryz.ntmps67, List.size_toArray, List.length_cons, List.length_nil, Nat.reduceAdd, Nat.reduceSub, Array.replicate_succ, Array.replicate_zero, List.push_toArray, List.append_toArray, List.nil_append, List.cons_append]
  gi_wp2_with (first
    | ((with_reducible show wpListIn _ _ _ _ _ (⟨some 5, _, _, _, _, _⟩ :: _) _ _); refine wpListIn_loadR rfl _ _ rfl w.heap.size 0 rfl ov _ HR0.out Tryz.underlying40 rfl HZ.out ?_)
    | (refine ⟨trivial, ?_⟩; gi_at_call 68; refine (C1 _).mono ?_; rintro e w2 ⟨rfl, rfl⟩))
  have b1 := (Boxed.new (w.alloc (.cells ov.toArray 40)) 3 (.int .i64 0)).alloc (.cells ov.toArray 40)
  rw [World.size_alloc] at b1
  have b2 := VRow.new ((w.alloc (.cells ov.toArray 40)).alloc (.cells #[.int .i64 0] 3)) ov 40
  rw [World.size_alloc, World.size_alloc] at b2
  have hB0 := (((Below.refl w.heap.size w).alloc (Nat.le_refl _) (.cells ov.toArray 40)).alloc (by simp) (.cells #[.int .i64 0] 3)).alloc (by simp; omega) (.cells ov.toArray 40)
  have hsz : (((w.alloc (.cells ov.toArray 40)).alloc (.cells #[.int .i64 0] 3)).alloc (.cells ov.toArray 40)).heap.size = w.heap.size + 3 := by simp
  generalize ((w.alloc (.cells ov.toArray 40)).alloc (.cells #[.int .i64 0] 3)).alloc (.cells ov.toArray 40) = W0 at *
  rw [← HOV.out] at b2
  have HF0 : fl (o.s.take 0) = 0 := by simp [fl]
  refine range_lays rfl (by omega) (gf := 107) (lb := #[.pointer (some ⟨w.heap.size + 1 + 1, 0, none⟩)]) rfl trivial (enters_of Tryz.func107 (by kernel_rfl) rfl)
    (Kp := fun _ _ => True) (encs := encs o)
    (fun V hV _ => statuses_goes _ (by omega) (w.heap.size + 1 + 1) o HK.out _ V (b2.below hV b2.lt))
    (fun _ _ => trivial) (fun _ _ _ _ _ _ _ _ => trivial) (fun _ => rfl)
    (fun pre X => Boxed X (w.heap.size + 1) 3 (.int .i64 (fl (o.s.take pre.length) : Nat)) ∧ Below w.heap.size w X)
    (fun _ _ _ => False)
    (OwnFrom.and (own_boxed _ _ _ _) (ownFrom_below (Nat.le_refl _) (by omega)))
    (fun _ _ _ _ _ hs _ _ => hs)
    ⟨by rw [List.length_nil, HF0]; exact b1, hB0⟩
    (fun pre x a' X => (Boxed X (w.heap.size + 1) 3 (.int .i64 (fl (o.s.take pre.length) : Nat)) ∧ Below w.heap.size w X) ∧ ∃ g, VRow X g 37 (str (o.s.getD x.val zer)) ∧
      a' = { tmps := #[.agg ov.toArray, .pointer (some ⟨w.heap.size, 0, none⟩), .int .i64 0, .pointer (some ⟨w.heap.size + 1, 0, none⟩), .pointer (some ⟨g, 0, none⟩), .agg ov.toArray, .func (.func 107) #[] #[.pointer (some ⟨w.heap.size + 1 + 1, 0, none⟩)], .agg (str (o.s.getD x.val zer)).toArray, undef, undef, undef, undef, undef], defers := [] })
    (fun pre x a' A B row h hg hr => ?hib) ?assign ?body ?done ?stop
  case hib =>
    obtain ⟨⟨h1, h2⟩, g, h3, h4⟩ := h
    refine ⟨⟨own_boxed (β := Unit) W0.heap.size (w.heap.size + 1) 3 (fun _ => _) () A B row h1 hg hr, ownFrom_below (β := Unit) (Nat.le_refl _) (by omega) () A B row h2 hg hr⟩, g, own_row (β := Unit) W0.heap.size g _ (fun _ => _) () A B row h3 hg hr, h4⟩
  case assign =>
    rintro l pre x X ⟨h1, h2⟩ - -
    obtain ⟨q1, q2⟩ := lay_st X (o.s.getD x.val zer)
    refine ⟨_, _, q1, trivial, ⟨⟨boxed_grown h1 q1, below_grown h2 q1 h2.size⟩, X.heap.size, q2, rfl⟩, fun K hK => ?_⟩
    dsimp only [encs]
    have RN := Lib.hid (VRow.new X (str zer) 37)
    generalize o.s.getD x.val zer = s at *
    gi_wp2_with ((with_reducible show wpListIn _ _ _ _ _ (⟨none, .store _ (.tmp 4) _, _, _, _, _⟩ :: _) _ _); refine wpListIn_storeW rfl _ _ _ _ rfl X.heap.size (str zer) (str s) rfl rfl RN.out Ss.sizeS rfl (Ss.str_one s) ?_)
    exact hK
  case body =>
    rintro lp pre x a' X ⟨⟨h1, h2⟩, g, h3, rfl⟩ hlen hG
    have HN := Lib.hid (fl_next o.s pre.length (by rw [HK.out.s]; exact hlen))
    rw [hG] at h3 ⊢
    have HL := Lib.hid (show (pre ++ [x]).length = pre.length + 1 by simp)
    have c1 := h1.cell
    have f1 := h1.frozen
    have H1 := Lib.hid h1
    have H2 := Lib.hid h2
    have e3 := h3.cell 3 rfl
    have HLE := fl_le (o.s.take pre.length)
    have HL8 : fl (o.s.take pre.length) ≤ 8 := by rw [List.length_take] at HLE; omega
    clear h1 h2 h3 HLE
    generalize o.s.getD pre.length zer = s at *
    generalize fl (o.s.take pre.length) = c at *
    cases hf : s.f
    · rw [hf] at e3 HN
      gi_wp2
      exact ⟨KeepsFrom.refl _ _, trivial, by rw [HL.out, HN.out]; exact H1.out, H2.out⟩
    · rw [hf] at e3 HN
      gi_wp2
      exact ⟨(KeepsOthers.setCell _ _ _).from _, trivial, by rw [HL.out, HN.out]; exact H1.out.set _, H2.out.setCell (p := ⟨w.heap.size + 1, 0, none⟩) (by show w.heap.size ≤ w.heap.size + 1; omega) _⟩
  case done =>
    rintro D ys X hD hys ⟨h1, h2⟩ hK
    rw [len8 hys, List.take_of_length_le (by rw [HK.out.s]; omega)] at h1
    have c1 := h1.cell
    gi_wp2
    refine ⟨by simp, .inl ⟨_, _, rfl, run_takeDeferred hK, ?_⟩⟩
    exact ⟨_, results_tmp rfl _ _ _, rfl, h2.trans (belowK_b (w := w) (Nat.le_refl _) X D _ _ (by omega) hK rfl rfl)⟩
  case stop =>
    rintro D cc pre X _ _ h _
    exact h.elim
theorem vall_next (l : List Int) (k : Nat) (h : k < l.length) : (l.take (k + 1)).all Wd.in4 = ((l.take k).all Wd.in4 && Wd.in4 (l.getD k 0)) := by
  rw [List.take_succ_eq_append_getElem h, List.all_append]; simp [List.getD_eq_getElem?_getD, h]
theorem sall_next (l : List St) (k : Nat) (h : k < l.length) : (l.take (k + 1)).all rgt = ((l.take k).all rgt && rgt (l.getD k zer)) := by
  rw [List.take_succ_eq_append_getElem h, List.all_append]; simp [List.getD_eq_getElem?_getD, h]
theorem all_no {α : Type} {p : α → Bool} {l : List α} {k : Nat} (h : (l.take k).all p = false) : l.all p = false := by
  rw [Bool.eq_false_iff] at h ⊢
  intro q
  exact h (List.all_eq_true.2 fun x hx => List.all_eq_true.1 q x (List.mem_of_mem_take hx))
end Ot
end Go.Proofs.YtpoededbmdffpaaGreatDoor
