/-
  What fit of package vote returns: a contract by walking the Go text (a range over the iterator weighted). Conditions: where the lists lie.
-/
import Derived.Test.YtpoededbmdffpaaGreatDoorVoteWalks
namespace Go.Proofs.YtpoededbmdffpaaGreatDoor
set_option maxRecDepth 100000
open Go.ChangeShapes Go.WideShapes Go.ChangeAt Go.RowKit Go.Deep Go.Shelf
namespace Vo
open Fx Od
attribute [local go_sem] Oper.semAt_some
set_option maxRecDepth 100000 in
set_option maxHeartbeats 2000000 in
theorem fit_len (a b : Option Addr) (ca cb : Nat) (V U : List Int) (w : World) (hne : ¬ V.length = U.length) :
    Calls Tryz.prog 201 #[.slice a V.length ca, .slice b U.length cb] w fun e w' => e = .returned (.bool (fits V U)) ∧ Below w.heap.size w w' := by
  have HF := Lib.hid (fits_len hne)
  have d0 : ((V.length : Int) != (U.length : Int)) = true := by simp; omega
  have hc := (Boxed.new w 4 (.bool false)).cell
  refine (callsIn_wide (n := 5)).1 ?_
  refine callsIn_of_wp_marks Tryz.func201 rfl trivial ?_ rfl
  simp only [Tryz.ntmps201, List.size_toArray, List.length_cons, List.length_nil, Nat.reduceAdd, Nat.reduceSub, Array.replicate_succ, Array.replicate_zero, List.push_toArray, List.append_toArray, List.nil_append, List.cons_append]
  gi_wp2
  exact ⟨.bool false, by simp [results, Tryz.f201, go_sem, hc], ret_bool HF.out.symm, (Below.refl w.heap.size w).alloc (Nat.le_refl _) _⟩
theorem okk_all {V U : List Int} {ys : List (Fin V.length)} (h : ys.map Fin.val = List.range V.length) (hy : ∀ y ∈ ys, okp (V.getD y.val 0) (U.getD y.val 0) = true) : okk V U V.length = true :=
  okk_of fun k hk => by
    have : k ∈ ys.map Fin.val := by rw [h]; exact List.mem_range.2 hk
    obtain ⟨y, hm, rfl⟩ := List.mem_map.1 this
    exact hy y hm
set_option maxRecDepth 100000 in
set_option maxHeartbeats 2000000 in
theorem fit_eq (a b : Option Addr) (ca cb : Nat) (V U : List Int) (w : World) (hl : V.length ≤ 4) (he : V.length = U.length) (hV : IntsAt .i64 w a V) (hU : IntsAt .i64 w b U) :
    Calls Tryz.prog 201 #[.slice a V.length ca, .slice b U.length cb] w fun e w' => e = .returned (.bool (fits V U)) ∧ Below w.heap.size w w' := by
  have HF := Lib.hid (fits_eq he)
  have HV := Lib.hid (At.of hV)
  have HU := Lib.hid (At.of hU)
  clear hV hU
  have d0 : ((V.length : Int) != (U.length : Int)) = false := by simp; omega
  have HE := Lib.hid he
  clear he
  refine (callsIn_wide (n := 5)).1 ?_
  refine callsIn_of_wp_marks Tryz.func201 rfl trivial ?_ rfl
  simp only [Tryz.ntmps201, List.size_toArray, List.length_cons, List.length_nil, Nat.reduceAdd, Nat.reduceSub, Array.replicate_succ, Array.replicate_zero, List.push_toArray, List.append_toArray, List.nil_append, List.cons_append]
  gi_wp2_with (refine ⟨trivial, ?_⟩; gi_at_call 222; refine (callsIn_wide.2 (weighted_any _ _ _ _ _ _ _)).mono ?_; rintro e w2 ⟨rfl, rfl⟩)
  have bR := ((Boxed.new w 4 (.bool false)).alloc (.cells #[.slice a V.length ca] 144)).alloc (.cells #[.slice b U.length cb] 144)
  have b1 := (Boxed.new (w.alloc (.cells #[.bool false] 4)) 144 (.slice a V.length ca)).alloc (.cells #[.slice b U.length cb] 144)
  have b2 := Boxed.new ((w.alloc (.cells #[.bool false] 4)).alloc (.cells #[.slice a V.length ca] 144)) 144 (.slice b U.length cb)
  rw [World.size_alloc] at b1
  rw [World.size_alloc, World.size_alloc] at b2
  have hB0 := (((Below.refl w.heap.size w).alloc (Nat.le_refl _) (.cells #[.bool false] 4)).alloc (by simp) (.cells #[.slice a V.length ca] 144)).alloc (by simp; omega) (.cells #[.slice b U.length cb] 144)
  have hsz : (((w.alloc (.cells #[.bool false] 4)).alloc (.cells #[.slice a V.length ca] 144)).alloc (.cells #[.slice b U.length cb] 144)).heap.size = w.heap.size + 3 := by simp
  generalize ((w.alloc (.cells #[.bool false] 4)).alloc (.cells #[.slice a V.length ca] 144)).alloc (.cells #[.slice b U.length cb] 144) = W0 at *
  refine wpIn_rangeFunc_ownG rfl (by omega) (gf := 232) (lb := #[.pointer (some ⟨w.heap.size + 1, 0, none⟩), .pointer (some ⟨w.heap.size + 1 + 1, 0, none⟩)]) rfl trivial (enters_of Tryz.func232 (by kernel_rfl) rfl)
    (weighted_stops _ (by omega) (w.heap.size + 1) w.heap.size ca cb a b V U hl HE.out W0 (by omega) (by omega) b1.cell b2.cell (HV.out.below hB0) (HU.out.below hB0)) Stay.trans (Stay.put (by omega) (by omega)) (Below.refl _ _) (fun _ => rfl)
    (fun pre W => ((∀ y ∈ pre, okp (V.getD y.val 0) (U.getD y.val 0) = true) ∧ Boxed W w.heap.size 4 (.bool false)) ∧ Below w.heap.size w W)
    (fun c _ W => (((c = .ret) ∧ okk V U V.length = false) ∧ Boxed W w.heap.size 4 (.bool false)) ∧ Below w.heap.size w W)
    (OwnFrom.and (OwnFrom.and (ownFrom_pure _ _) (Own.from (boxed_own _ _ _) _)) (ownFrom_below (Nat.le_refl _) (by omega)))
    (fun c => OwnFrom.and (OwnFrom.and (ownFrom_pure _ _) (Own.from (boxed_own _ _ _) _)) (ownFrom_below (Nat.le_refl _) (by omega)))
    ⟨⟨by simp, bR⟩, hB0⟩
    (fun x => { tmps := #[.slice a V.length ca, .slice b U.length cb, undef, undef, .pointer (some ⟨w.heap.size, 0, none⟩), .int .i64 (V.getD x.val 0), .int .i64 (U.getD x.val 0), .slice a V.length ca, .int .i64 V.length, .slice b U.length cb, .int .i64 U.length, .bool false, .slice a V.length ca, .slice b U.length cb, .func (.func 232) #[] #[.pointer (some ⟨w.heap.size + 1, 0, none⟩), .pointer (some ⟨w.heap.size + 1 + 1, 0, none⟩)], .int .i64 (V.getD x.val 0), .int .i64 (U.getD x.val 0), undef, undef, undef, undef, undef, undef, undef, undef], defers := [] }) ?assign ?body ?done ?stop
  case assign =>
    intro l x W K hK
    dsimp only [encp]
    generalize V.getD x.val 0 = vx at *
    generalize U.getD x.val 0 = ux at *
    gi_wp2
    exact hK
  case body =>
    rintro lp pre x W ⟨⟨hp, hbx⟩, hB⟩ _
    have HP := Lib.hid hp
    have HX := Lib.hid (fun h => okk_no (V := V) (U := U) x.isLt h)
    have HY := Lib.hid (fun (h : okp (V.getD x.val 0) (U.getD x.val 0) = true) y (hy : y ∈ pre ++ [x]) => (show okp (V.getD y.val 0) (U.getD y.val 0) = true from by
      rcases List.mem_append.1 hy with q | q
      · exact hp y q
      · rw [List.mem_singleton.1 q]; exact h))
    have HO := Lib.hid (show okp (V.getD x.val 0) (U.getD x.val 0) = (inr (-4294967296) 4294967296 (V.getD x.val 0) && inr 1 16 (U.getD x.val 0)) from rfl)
    have hbc := hbx.cell
    have hbf := hbx.frozen
    have HBx := Lib.hid hbx
    have HB := Lib.hid hB
    clear hp hbx hB
    generalize okp (V.getD x.val 0) (U.getD x.val 0) = ok at *
    generalize V.getD x.val 0 = vx at *
    generalize U.getD x.val 0 = ux at *
    cases d1 : inr (-4294967296) 4294967296 vx <;> cases d2 : inr 1 16 ux
    all_goals
      rw [d1, d2] at HO
      have D1 := Lib.hid d1
      have D2 := Lib.hid d2
      clear d1 d2
      gi_wp2_with (first | (refine ⟨trivial, ?_⟩; gi_at_call 221; refine (CallsIn.inRound lp (callsIn_wide.2 (vwithin_eq _ _ _ _ _ (by first | exact D1.out | exact D2.out)))).mono ?_; rintro e w' ⟨rfl, rfl⟩) | (refine ⟨trivial, ?_⟩))
      first
        | exact ⟨KeepsFrom.refl _ _, Stay.refl _ _ _, ⟨HY.out HO.out, HBx.out⟩, HB.out⟩
        | exact ⟨(KeepsOthers.setCell _ _ _).from _, ⟨⟨rfl, HX.out HO.out⟩, HBx.out.set _⟩, HB.out.setCell (p := ⟨w.heap.size, 0, none⟩) (Nat.le_refl _) _⟩
  case done =>
    rintro D ys W hD hys ⟨⟨hp, hbx⟩, hB⟩ hK
    have HT := Lib.hid (okk_all hys hp)
    have hbc := hbx.cell
    have hbf := hbx.frozen
    gi_wp2
    have hK' := (KeepsOthers.setCell W ⟨w.heap.size, 0, none⟩ (.bool true)).same D _ hK rfl
    refine ⟨by simp, .inl ⟨_, _, rfl, run_takeDeferred hK', ?_⟩⟩
    have hc := (((hbx.set (.bool true)).kept (grownBy_putObj' _ D (.deferred none)) (by simp; omega))).cell
    exact ⟨.bool true, by simp [results, Tryz.f201, go_sem, hc], ret_bool (by rw [HF.out, HT.out]),
      (hB.setCell (p := ⟨w.heap.size, 0, none⟩) (Nat.le_refl _) _).trans (belowK_b (w := w) (Nat.le_refl _) _ D _ _ (by omega) hK' rfl rfl)⟩
  case stop =>
    rintro D c pre W hD _ ⟨⟨⟨rfl, hno⟩, hbx⟩, hB⟩ hK
    gi_wp2
    refine ⟨by simp, .inl ⟨_, _, rfl, run_takeDeferred hK, ?_⟩⟩
    have hc := (hbx.kept (grownBy_putObj' _ D (.deferred none)) (by simp; omega)).cell
    exact ⟨.bool false, by simp [results, Tryz.f201, go_sem, hc], ret_bool (by rw [HF.out, hno]),
      hB.trans (belowK_b (w := w) (Nat.le_refl _) W D _ _ (by omega) hK rfl rfl)⟩
end Vo
end Go.Proofs.YtpoededbmdffpaaGreatDoor
