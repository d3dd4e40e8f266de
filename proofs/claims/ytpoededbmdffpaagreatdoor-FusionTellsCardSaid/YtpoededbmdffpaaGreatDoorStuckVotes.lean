/-
  What Votes of package stuck returns: a contract by walking the Go text (a range over the iterator fromOldest). Conditions: where the room lies.
-/
import Derived.Test.YtpoededbmdffpaaGreatDoorStuckIter
import Derived.Test.YtpoededbmdffpaaGreatDoorOrderWalks
import Derived.Maps.AppendAt
namespace Go.Proofs.YtpoededbmdffpaaGreatDoor
set_option maxRecDepth 100000
open Go.ChangeShapes Go.WideShapes Go.ChangeAt Go.RowKit Go.Deep Go.Shelf
namespace Sk
attribute [local go_sem] Oper.semAt_some
theorem box_kept {W w1 : World} {n₀ B Bs size k : Nat} {t e : TypeId} {u v v' : Value} {xs : List Value} {tmp : Obj} (hBs : Boxed W Bs t u) (ht : t ≠ e) (hrow : W.ownsRow n₀ e size v k xs) (hgrow : (W.alloc tmp).grownBy w1 v.ownBlock) (ne : Bs ≠ B) :
    Boxed (w1.setCell ⟨B, 0, none⟩ v') Bs t u :=
  (heap_setCell_other w1 ⟨B, 0, none⟩ Bs v' ne).trans ((hBs.alloc tmp).kept hgrow (hBs.not_row ht hrow))
set_option maxRecDepth 100000 in
set_option maxHeartbeats 2000000 in
theorem votes_any (g P : Nat) (bound : Int) (V : List Int) (w : World) (hR : Room w g P bound V) :
    Calls Tryz.prog 219 #[.pointer (some ⟨g, 0, none⟩)] w (RetI .i64 w V) := by
  have hle := hR.le
  have hlt := hR.lt
  have HR := Lib.hid hR
  clear hR
  obtain ⟨i0, hi0, hz0, hz1, hz2⟩ := info_parts Od.intInfo
  refine (callsIn_wide (n := 5)).1 ?_
  refine callsIn_of_wp_marks Tryz.func219 rfl trivial ?_ rfl
  simp only [Tryz.ntmps219, List.size_toArray, List.length_cons, List.length_nil, Nat.reduceAdd, Nat.reduceSub, Array.replicate_succ, Array.replicate_zero, List.push_toArray, List.append_toArray, List.nil_append, List.cons_append]
  gi_wp2_with (refine ⟨trivial, ?_⟩; gi_at_call 231; refine (callsIn_wide.2 (from_any _ _)).mono ?_; rintro e w2 ⟨rfl, rfl⟩)
  have bL := (Boxed.new w 144 (.slice none 0 0)).alloc (.cells #[.pointer (some ⟨g, 0, none⟩)] 171)
  have bS := Boxed.new (w.alloc (.cells #[.slice none 0 0] 144)) 171 (.pointer (some ⟨g, 0, none⟩))
  rw [World.size_alloc] at bS
  have hR0 := (HR.out.alloc (.cells #[.slice none 0 0] 144)).alloc (.cells #[.pointer (some ⟨g, 0, none⟩)] 171)
  have hB0 := ((Below.refl w.heap.size w).alloc (Nat.le_refl _) (.cells #[.slice none 0 0] 144)).alloc (by simp) (.cells #[.pointer (some ⟨g, 0, none⟩)] 171)
  have hsz : ((w.alloc (.cells #[.slice none 0 0] 144)).alloc (.cells #[.pointer (some ⟨g, 0, none⟩)] 171)).heap.size = w.heap.size + 2 := by simp
  generalize (w.alloc (.cells #[.slice none 0 0] 144)).alloc (.cells #[.pointer (some ⟨g, 0, none⟩)] 171) = W0 at *
  refine wpIn_rangeFunc_ownG rfl (by omega) (gf := 237) (lb := #[.pointer (some ⟨w.heap.size + 1, 0, none⟩)]) rfl trivial (enters_of Tryz.func237 (by kernel_rfl) rfl)
    (from_stops _ (by omega) (w.heap.size + 1) g P bound V W0 (by omega) bS.cell hR0) KeepTwo.trans (KeepTwo.put (by omega) (by omega)) (Below.refl _ _) (fun _ => rfl)
    (fun pre W => ((∃ v, Boxed W w.heap.size 144 v ∧ W.ownsRow w.heap.size 3 1 v (pre.map (vat V)).length (cellsI .i64 (pre.map (vat V))) ∧ True) ∧ Boxed W (w.heap.size + 1) 171 (.pointer (some ⟨g, 0, none⟩))) ∧ Below w.heap.size w W)
    (fun _ _ _ => False)
    (OwnFrom.and (OwnFrom.and (Own.from (holdsRow_own w.heap.size w.heap.size 144 3 1 (fun pre : List (Fin V.length) => (pre.map (vat V)).length) (fun pre => cellsI .i64 (pre.map (vat V))) (fun _ _ => True)) _) (Own.from (boxed_own _ _ _) _)) (ownFrom_below (Nat.le_refl _) (by omega)))
    (fun _ _ _ _ _ hs _ _ => hs)
    ⟨⟨⟨_, bL, World.ownsRow_nil _ _ _ _, trivial⟩, bS⟩, hB0⟩
    (fun x => { tmps := #[.pointer (some ⟨g, 0, none⟩), undef, .slice none 0 0, .pointer (some ⟨w.heap.size, 0, none⟩), .int .i64 (vat V x), .pointer (some ⟨g, 0, none⟩), .bool false, .pointer (some ⟨g, 0, none⟩), .func (.func 237) #[] #[.pointer (some ⟨w.heap.size + 1, 0, none⟩)], .int .i64 (vat V x), undef, undef, undef, undef, undef], defers := [] }) ?assign ?body ?done ?stop
  case assign =>
    intro l x W K hK
    dsimp only [encv]
    gi_wp2
    exact hK
  case body =>
    rintro lp pre x W ⟨⟨⟨v, hbx, hrow, _⟩, hBs⟩, hB⟩ hpl
    have HM := Lib.hid (show (pre ++ [x]).map (vat V) = pre.map (vat V) ++ [vat V x] by simp)
    have hl15 : (pre.map (vat V)).length ≤ 15 := by rw [List.length_map]; omega
    generalize vat V x = y at *
    generalize pre.map (vat V) = ls at *
    have hbc := hbx.cell
    gi_wp2_with (gi_at_builtin; (refine wpListIn_append_own _ rfl _ _ 144 rfl w.heap.size 3 i0 (.int .i64 0) 1 8 Tryz.underlying144 hi0 hz0 hz1 hz2 rfl (by decide) _ _ _ rfl (hrow.alloc _) ⟨W.heap.size, 0, none⟩ 1 1 [.int .i64 y] rfl rfl (cell_one_new _ _ _) (by simp [Value.oneCell']) (by unfold maxLen; omega) (by omega) (by have := hB.size; simp; omega) ?_; intro v' w1 hown' hgrow _; obtain ⟨g', cap', rfl⟩ := ownsRow_succ hown'; obtain ⟨hv1, hv2, hr2, hk2, hb2⟩ := hbx.appended (by decide) hrow hB.size (Nat.le_refl _) hown' hgrow; have hs2 := box_kept (B := w.heap.size) (v' := (.slice (some ⟨g', 0, none⟩) (ls.length + 1) cap')) hBs (by decide) hrow hgrow (by omega); have hc1 := hv1.cell; have hf1 := hv1.frozen))
    refine ⟨hk2.from _, ⟨hs2.trans hBs.symm, hb2.block g hlt⟩, ⟨⟨_, hv2, ?_, trivial⟩, hs2⟩, hB.trans hb2⟩
    rw [HM.out, cellsI_app, List.length_append]
    exact hr2
  case done =>
    rintro D ys W hD hys ⟨⟨⟨v, hbx, hrow, _⟩, hBs⟩, hB⟩ hK
    have hrow2 := ownsRow_putObj hrow (.deferred none) hK rfl
    rw [vat_all V ys hys] at hrow hrow2
    obtain ⟨a, cap, rfl, _⟩ := OwnI.form (show OwnI .i64 _ _ _ v V from hrow)
    obtain ⟨a', cap', he, hi⟩ := OwnI.form (show OwnI .i64 _ _ _ _ V from hrow2)
    cases he
    have hbc := hbx.cell
    gi_wp2
    refine ⟨by simp, .inl ⟨_, _, rfl, run_takeDeferred hK, ?_⟩⟩
    refine ⟨_, results_tmp rfl _ _ _, ?_⟩
    exact retI_mk rfl rfl hi (hB.trans (belowK_b (w := w) (Nat.le_refl _) W D _ _ (by omega) hK rfl rfl))
  case stop =>
    rintro D c pre W _ _ h _
    exact h.elim
end Sk
end Go.Proofs.YtpoededbmdffpaaGreatDoor
