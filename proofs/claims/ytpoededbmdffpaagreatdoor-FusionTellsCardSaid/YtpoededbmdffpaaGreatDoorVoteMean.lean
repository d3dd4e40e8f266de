/-
  What mean of package vote returns: a contract by walking the Go text (a range over the iterator weighted, whose body adds up). Conditions: where the lists lie; that values, weights, mid and clip may be such.
-/
import Derived.Test.YtpoededbmdffpaaGreatDoorVoteFit
namespace Go.Proofs.YtpoededbmdffpaaGreatDoor
set_option maxRecDepth 100000
open Go.ChangeShapes Go.WideShapes Go.ChangeAt Go.RowKit Go.Deep Go.Shelf
namespace Vo
open Fx Od
attribute [local go_sem] Oper.semAt_some
/-- What has been added up, of those that have come. -/
def sumf (mid clip : Int) (V U : List Int) (l : List Nat) : Int := (l.map fun k => U.getD k 0 * cl mid clip (V.getD k 0)).sum
def allf (U : List Int) (l : List Nat) : Int := (l.map fun k => U.getD k 0).sum
theorem sumf_snoc (mid clip : Int) (V U : List Int) (l : List Nat) (k : Nat) : sumf mid clip V U (l ++ [k]) = sumf mid clip V U l + U.getD k 0 * cl mid clip (V.getD k 0) := by unfold sumf; simp
theorem allf_snoc (U : List Int) (l : List Nat) (k : Nat) : allf U (l ++ [k]) = allf U l + U.getD k 0 := by unfold allf; simp
theorem sumf_all (mid clip : Int) (V U : List Int) (n : Nat) : sumf mid clip V U (List.range n) = sumk mid clip V U n := by
  induction n with
  | zero => rfl
  | succ n ih => rw [List.range_succ, sumf_snoc, ih]; rfl
theorem allf_all (U : List Int) (n : Nat) : allf U (List.range n) = allk U n := by
  induction n with
  | zero => rfl
  | succ n ih => rw [List.range_succ, allf_snoc, ih]; rfl
theorem sumf_bd {mid clip : Int} {V U : List Int} (M : Mid mid clip V U) (l : List (Fin V.length)) : -(103079215104 * (l.length : Int)) ≤ sumf mid clip V U (l.map Fin.val) ∧ sumf mid clip V U (l.map Fin.val) ≤ 103079215104 * l.length := by
  induction l with
  | nil => simp [sumf]
  | cons x t ih =>
    have h := part_sm M x.isLt
    have e : sumf mid clip V U ((x :: t).map Fin.val) = U.getD x.val 0 * cl mid clip (V.getD x.val 0) + sumf mid clip V U (t.map Fin.val) := by unfold sumf; simp
    rw [e, List.length_cons]
    generalize U.getD x.val 0 * cl mid clip (V.getD x.val 0) = p at *
    omega
theorem allf_bd {mid clip : Int} {V U : List Int} (M : Mid mid clip V U) (l : List (Fin V.length)) : 0 ≤ allf U (l.map Fin.val) ∧ allf U (l.map Fin.val) ≤ 16 * l.length := by
  induction l with
  | nil => simp [allf]
  | cons x t ih =>
    have h := M.u x.isLt
    have e : allf U ((x :: t).map Fin.val) = U.getD x.val 0 + allf U (t.map Fin.val) := by unfold allf; simp
    rw [e, List.length_cons]
    omega
/-- Six boxes laid one behind the other. -/
theorem six (w : World) (t u : TypeId) (v1 v2 v3 v4 v5 v6 : Value) (W : World) (h : W = (((((w.alloc (.cells #[v1] t)).alloc (.cells #[v2] t)).alloc (.cells #[v3] t)).alloc (.cells #[v4] t)).alloc (.cells #[v5] u)).alloc (.cells #[v6] u)) :
    (Boxed W w.heap.size t v1 ∧ Boxed W (w.heap.size + 1) t v2 ∧ Boxed W (w.heap.size + 2) t v3 ∧ Boxed W (w.heap.size + 3) t v4) ∧ (Boxed W (w.heap.size + 4) u v5 ∧ Boxed W (w.heap.size + 4 + 1) u v6) ∧ Below w.heap.size w W ∧ W.heap.size = w.heap.size + 6 := by
  have hb : Below w.heap.size w W := by
    rw [h]
    exact ((((((Below.refl w.heap.size w).alloc (Nat.le_refl _) _).alloc (by simp) _).alloc (by simp; omega) _).alloc (by simp; omega) _).alloc (by simp; omega) _).alloc (by simp; omega) _
  subst h
  have s (X : World) (n : Nat) (y : TypeId) (v : Value) (hX : X.heap.size = n) : Boxed (X.alloc (.cells #[v] y)) n y v := hX ▸ Boxed.new X y v
  refine ⟨⟨?_, ?_, ?_, ?_⟩, ⟨?_, ?_⟩, hb, by simp⟩
  · exact (((((s _ _ _ _ (by simp)).alloc _).alloc _).alloc _).alloc _).alloc _
  · exact ((((s _ _ _ _ (by simp)).alloc _).alloc _).alloc _).alloc _
  · exact (((s _ _ _ _ (by simp)).alloc _).alloc _).alloc _
  · exact ((s _ _ _ _ (by simp)).alloc _).alloc _
  · exact (s _ _ _ _ (by simp)).alloc _
  · exact s _ _ _ _ (by simp)
theorem set_other (W : World) (b k : Nat) (v : Value) (h : k ≠ b) : (W.setCell ⟨b, 0, none⟩ v).heap[k]? = W.heap[k]? := heap_setCell_other W ⟨b, 0, none⟩ k v h
/-- Behind a round: both numbers have grown, all else lies as it lay. -/
theorem added {w W : World} {t : TypeId} {m c s z : Value} (s' z' : Value) (n : Nat) (h : (Boxed W w.heap.size t m ∧ Boxed W (w.heap.size + 1) t c) ∧ (Boxed W (w.heap.size + 2) t s ∧ Boxed W (w.heap.size + 3) t z)) (hb : Below w.heap.size w W) :
    KeepsFrom n W ((W.setCell ⟨w.heap.size + 2, 0, none⟩ s').setCell ⟨w.heap.size + 3, 0, none⟩ z').drew ∧ Stay w.heap.size (w.heap.size + 4) W ((W.setCell ⟨w.heap.size + 2, 0, none⟩ s').setCell ⟨w.heap.size + 3, 0, none⟩ z').drew ∧
      ((Boxed ((W.setCell ⟨w.heap.size + 2, 0, none⟩ s').setCell ⟨w.heap.size + 3, 0, none⟩ z').drew w.heap.size t m ∧ Boxed ((W.setCell ⟨w.heap.size + 2, 0, none⟩ s').setCell ⟨w.heap.size + 3, 0, none⟩ z').drew (w.heap.size + 1) t c) ∧
        (Boxed ((W.setCell ⟨w.heap.size + 2, 0, none⟩ s').setCell ⟨w.heap.size + 3, 0, none⟩ z').drew (w.heap.size + 2) t s' ∧ Boxed ((W.setCell ⟨w.heap.size + 2, 0, none⟩ s').setCell ⟨w.heap.size + 3, 0, none⟩ z').drew (w.heap.size + 3) t z')) ∧
      Below w.heap.size w ((W.setCell ⟨w.heap.size + 2, 0, none⟩ s').setCell ⟨w.heap.size + 3, 0, none⟩ z').drew := by
  have o (k : Nat) (h2 : k ≠ w.heap.size + 2) (h3 : k ≠ w.heap.size + 3) : ((W.setCell ⟨w.heap.size + 2, 0, none⟩ s').setCell ⟨w.heap.size + 3, 0, none⟩ z').drew.heap[k]? = W.heap[k]? := (set_other _ _ k z' h3).trans (set_other W _ k s' h2)
  refine ⟨(((KeepsOthers.setCell _ _ _).trans (KeepsOthers.setCell _ _ _)).trans (KeepsOthers.drew _)).from _, ⟨fun k hk => o k (by omega) (by omega), o _ (by omega) (by omega), o _ (by omega) (by omega)⟩, ⟨⟨?_, ?_⟩, ?_, ?_⟩, ?_⟩
  · exact (o _ (by omega) (by omega)).trans h.1.1
  · exact (o _ (by omega) (by omega)).trans h.1.2
  · exact (h.2.1.set s').other (show w.heap.size + 2 ≠ w.heap.size + 3 by omega) z'
  · exact (h.2.2.other (show w.heap.size + 3 ≠ w.heap.size + 2 by omega) s').set z'
  · exact ((hb.setCell (p := ⟨w.heap.size + 2, 0, none⟩) (Nat.le_add_right _ _) s').setCell (p := ⟨w.heap.size + 3, 0, none⟩) (Nat.le_add_right _ _) z').drew
set_option maxRecDepth 100000 in
set_option maxHeartbeats 2000000 in
theorem mean_any (mid clip : Int) (a b : Option Addr) (ca cb : Nat) (V U : List Int) (w : World) (M : Mid mid clip V U) (hV : IntsAt .i64 w a V) (hU : IntsAt .i64 w b U) :
    Calls Tryz.prog 203 #[.int .i64 mid, .int .i64 clip, .slice a V.length ca, .slice b U.length cb] w fun e w' => e = .returned (.int .i64 (meanv mid clip V U)) ∧ Below w.heap.size w w' := by
  have HM := Lib.hid M
  have HV := Lib.hid (At.of hV)
  have HU := Lib.hid (At.of hU)
  clear hV hU M
  refine (callsIn_wide (n := 5)).1 ?_
  refine callsIn_of_wp_marks Tryz.func203 rfl trivial ?_ rfl
  simp only [Tryz.ntmps203, List.size_toArray, List.length_cons, List.length_nil, Nat.reduceAdd, Nat.reduceSub, Array.replicate_succ, Array.replicate_zero, List.push_toArray, List.append_toArray, List.nil_append, List.cons_append]
  gi_wp2_with (refine ⟨trivial, ?_⟩; gi_at_call 222; refine (callsIn_wide.2 (weighted_any _ _ _ _ _ _ _)).mono ?_; rintro e w2 ⟨rfl, rfl⟩)
  obtain ⟨⟨bM, bC, bS, bA⟩, ⟨b1, b2⟩, hB0, hsz⟩ := six w 3 144 (.int .i64 mid) (.int .i64 clip) (.int .i64 0) (.int .i64 0) (.slice a V.length ca) (.slice b U.length cb) _ rfl
  generalize (((((w.alloc (.cells #[.int .i64 mid] 3)).alloc (.cells #[.int .i64 clip] 3)).alloc (.cells #[.int .i64 0] 3)).alloc (.cells #[.int .i64 0] 3)).alloc (.cells #[.slice a V.length ca] 144)).alloc (.cells #[.slice b U.length cb] 144) = W0 at *
  simp only [Nat.add_assoc, Nat.reduceAdd] at b2 ⊢
  refine wpIn_rangeFunc_ownG rfl (by omega) (gf := 232) (lb := #[.pointer (some ⟨w.heap.size + 4, 0, none⟩), .pointer (some ⟨w.heap.size + 5, 0, none⟩)]) rfl trivial (enters_of Tryz.func232 (by kernel_rfl) rfl)
    (weighted_stops _ (by omega) (w.heap.size + 4) w.heap.size ca cb a b V U (by have := HM.out.n4; omega) HM.out.len W0 (by omega) (by omega) b1.cell b2.cell (HV.out.below hB0) (HU.out.below hB0)) Stay.trans (Stay.put (by omega) (by omega)) (Below.refl _ _) (fun _ => rfl)
    (fun pre W => ((Boxed W w.heap.size 3 (.int .i64 mid) ∧ Boxed W (w.heap.size + 1) 3 (.int .i64 clip)) ∧ (Boxed W (w.heap.size + 2) 3 (.int .i64 (sumf mid clip V U (pre.map Fin.val))) ∧ Boxed W (w.heap.size + 3) 3 (.int .i64 (allf U (pre.map Fin.val))))) ∧ Below w.heap.size w W)
    (fun _ _ _ => False)
    (OwnFrom.and (OwnFrom.and (OwnFrom.and (Own.from (boxed_own _ _ _) _) (Own.from (boxed_own _ _ _) _)) (OwnFrom.and (Own.from (boxed_own _ _ _) _) (Own.from (boxed_own _ _ _) _))) (ownFrom_below (Nat.le_refl _) (by omega)))
    (fun _ _ _ _ _ hs _ _ => hs)
    ⟨⟨⟨bM, bC⟩, ⟨bS, bA⟩⟩, hB0⟩
    (fun x => { tmps := #[.int .i64 mid, .int .i64 clip, .slice a V.length ca, .slice b U.length cb, .pointer (some ⟨w.heap.size, 0, none⟩), .pointer (some ⟨w.heap.size + 1, 0, none⟩), undef, undef, .int .i64 0, .pointer (some ⟨w.heap.size + 2, 0, none⟩), .pointer (some ⟨w.heap.size + 3, 0, none⟩), .int .i64 (V.getD x.val 0), .int .i64 (U.getD x.val 0), .slice a V.length ca, .slice b U.length cb, .func (.func 232) #[] #[.pointer (some ⟨w.heap.size + 4, 0, none⟩), .pointer (some ⟨w.heap.size + 5, 0, none⟩)], .int .i64 (V.getD x.val 0), .int .i64 (U.getD x.val 0), undef, undef, undef, undef, undef, undef, undef, undef, undef, undef, undef, undef, undef, undef, undef, undef, undef, undef], defers := [] }) ?assign ?body ?done ?stop
  case assign =>
    intro l x W K hK
    dsimp only [encp]
    generalize V.getD x.val 0 = vx at *
    generalize U.getD x.val 0 = ux at *
    gi_wp2
    exact hK
  case body =>
    rintro lp pre x W ⟨⟨⟨hbM, hbC⟩, ⟨hbS, hbA⟩⟩, hB⟩ hpl
    have M := HM.out
    have HS := Lib.hid (show sumf mid clip V U ((pre ++ [x]).map Fin.val) = sumf mid clip V U (pre.map Fin.val) + U.getD x.val 0 * cl mid clip (V.getD x.val 0) by rw [List.map_append]; exact sumf_snoc _ _ _ _ _ _)
    have HA := Lib.hid (show allf U ((pre ++ [x]).map Fin.val) = allf U (pre.map Fin.val) + U.getD x.val 0 by rw [List.map_append]; exact allf_snoc _ _ _)
    have q1 := sumf_bd M pre
    have q2 := allf_bd M pre
    have q3 := part_sm M x.isLt
    have q4 := M.u x.isLt
    have q5 := cl_bd (mid := mid) M.c1 (V.getD x.val 0)
    have CC := fun W => clamp_any (V.getD x.val 0) (mid - clip) (mid + clip) W
    rw [cl_clamp M x.isLt] at CC
    have n4 := M.n4
    have m1 := M.m1
    have m2 := M.m2
    have c1 := M.c1
    have c2 := M.c2
    clear M
    generalize sumf mid clip V U (pre.map Fin.val) = s at *
    generalize allf U (pre.map Fin.val) = z at *
    generalize cl mid clip (V.getD x.val 0) = c at *
    generalize V.getD x.val 0 = vx at *
    generalize U.getD x.val 0 = ux at *
    have cM := hbM.cell
    have cC := hbC.cell
    have cS := hbS.cell
    have fS := hbS.frozen
    have fA := (hbA.other (show w.heap.size + 3 ≠ w.heap.size + 2 by omega) (.int .i64 (s + ux * c))).frozen
    have cA := (hbA.other (show w.heap.size + 3 ≠ w.heap.size + 2 by omega) (.int .i64 (s + ux * c))).cell
    have X1 := Lib.hid (And.intro (And.intro hbM hbC) (And.intro hbS hbA))
    have HB := Lib.hid hB
    clear hbM hbC hbS hbA hB
    gi_wp2
    refine Rn.wpIn_region_quiet_tail 12 (by kernel_rfl) (by kernel_rfl) (by kernel_rfl) (by rintro ⟨_, _, h⟩; exact h) ?_
    simp only [List.take_succ_cons, List.take_zero, List.drop_succ_cons, List.drop_zero]
    repeat (first | go_big_quiet_step (fail) | (go_big_quiet_want; go_big_quiet_op; refine ⟨_, (CC _).mono (fun e w' q => ⟨q.1, q.2.symm⟩), ?_⟩; go_big_quiet_on))
    refine wpQuiet_nil ?_
    go_wp2_with fail
    gi_wp2
    have E := added (.int .i64 (s + ux * c)) (.int .i64 (z + ux)) W0.heap.size X1.out HB.out
    rw [← HS.out, ← HA.out] at E
    rw [← HS.out, ← HA.out]
    exact E
  case done =>
    rintro D ys W hD hys ⟨⟨⟨hbM, hbC⟩, ⟨hbS, hbA⟩⟩, hB⟩ hK
    rw [hys, sumf_all] at hbS
    rw [hys, allf_all] at hbA
    have CF := fun W => floor_any (sumk mid clip V U V.length) (allk U V.length) W
    rw [mean_floor HM.out] at CF
    have cS := hbS.cell
    have cA := hbA.cell
    clear hbM hbC hbS hbA
    generalize sumk mid clip V U V.length = s at *
    generalize allk U V.length = z at *
    gi_wp2_with (refine ⟨trivial, ?_⟩; gi_at_call 224; refine (callsIn_wide.2 (CF _)).mono ?_; rintro e w2 ⟨rfl, rfl⟩)
    refine ⟨by simp, .inl ⟨_, _, rfl, run_takeDeferred hK, ?_⟩⟩
    refine ⟨_, results_tmp rfl _ _ _, rfl, hB.trans (belowK_b (w := w) (Nat.le_refl _) W D _ _ (by omega) hK rfl rfl)⟩
  case stop =>
    rintro D c pre W _ _ h _
    exact h.elim
end Vo
end Go.Proofs.YtpoededbmdffpaaGreatDoor
