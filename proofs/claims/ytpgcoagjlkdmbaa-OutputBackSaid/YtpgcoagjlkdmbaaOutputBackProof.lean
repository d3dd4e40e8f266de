/-
  The law 'OutputBack' of package rudderlaw19 returns true for every input, and its arguments read afterwards as they read before. No conditions.
-/
import Derived.Test.YtpgcoagjlkdmbaaRows
import Derived.Test.YtpgcoagjlkdmbaaOutputBackWalk
import Derived.Test.YtpgcoagjlkdmbaaFlat
import Derived.WalkKit
import Derived.ProofKit
import Derived.OpenShut
import Derived.ShutString
import Derived.ChangeOld
import Derived.Below
import Derived.SizedLaws
namespace Go.Proofs.Ytpgcoagjlkdmbaa.outputBack
open Go.ChangeShapes Go.WideShapes Go.ChangeAt Go.RowKit
open Go.ChangeMaps (open_string shut_string)
set_option linter.unusedVariables false

theorem own : ownKnob Try.prog.godebug = none := by kernel_rfl
theorem laidOut : laidOutB Try.prog = true := by kernel_rfl
theorem parts0 {α : Type} {l : List α} (h : l.length = 41) : ∃ y0_0 y0_1 y0_2 y0_3 y0_4 y0_5 y0_6 y0_7 y0_8 y0_9 y0_10 y0_11 y0_12 y0_13 y0_14 y0_15 y0_16 y0_17 y0_18 y0_19 y0_20 y0_21 y0_22 y0_23 y0_24 y0_25 y0_26 y0_27 y0_28 y0_29 y0_30 y0_31 y0_32 y0_33 y0_34 y0_35 y0_36 y0_37 y0_38 y0_39 y0_40, l = [y0_0, y0_1, y0_2, y0_3, y0_4, y0_5, y0_6, y0_7, y0_8, y0_9, y0_10, y0_11, y0_12, y0_13, y0_14, y0_15, y0_16, y0_17, y0_18, y0_19, y0_20, y0_21, y0_22, y0_23, y0_24, y0_25, y0_26, y0_27, y0_28, y0_29, y0_30, y0_31, y0_32, y0_33, y0_34, y0_35, y0_36, y0_37, y0_38, y0_39, y0_40] := by
  match l, h with
  | y0_0 :: y0_1 :: y0_2 :: y0_3 :: y0_4 :: y0_5 :: y0_6 :: y0_7 :: y0_8 :: y0_9 :: y0_10 :: y0_11 :: y0_12 :: y0_13 :: y0_14 :: y0_15 :: y0_16 :: y0_17 :: y0_18 :: y0_19 :: y0_20 :: y0_21 :: y0_22 :: y0_23 :: y0_24 :: y0_25 :: y0_26 :: y0_27 :: y0_28 :: y0_29 :: y0_30 :: y0_31 :: y0_32 :: y0_33 :: y0_34 :: y0_35 :: y0_36 :: y0_37 :: y0_38 :: y0_39 :: y0_40 :: [], _ => exact ⟨y0_0, y0_1, y0_2, y0_3, y0_4, y0_5, y0_6, y0_7, y0_8, y0_9, y0_10, y0_11, y0_12, y0_13, y0_14, y0_15, y0_16, y0_17, y0_18, y0_19, y0_20, y0_21, y0_22, y0_23, y0_24, y0_25, y0_26, y0_27, y0_28, y0_29, y0_30, y0_31, y0_32, y0_33, y0_34, y0_35, y0_36, y0_37, y0_38, y0_39, y0_40, rfl⟩
theorem parts2 {α : Type} {l : List α} (h : l.length = 2) : ∃ y2_0 y2_1, l = [y2_0, y2_1] := by
  match l, h with
  | [y2_0, y2_1], _ => exact ⟨y2_0, y2_1, rfl⟩

set_option maxRecDepth 100000 in
theorem lifted (os : Os) (started : os.Started) (H : Type) (enc : TypeId × Value → H) :
    ReturnsInHanded {} Try.checked os 4 .any (Rows.outputBackSpec.pre6 enc Try.prog Try.f4 Rows.outputBackRow.domain false) (Rows.outputBackSpec.post enc Try.prog Try.f4 false true false false) := by
  refine returnsInHanded_of_change_sized (C := Try.checked) own started (by kernel_rfl) Try.func4
    (ChangeSpec.witness6 (enc := enc) (C := Try.checked) false ⟨#[], #[.agg #[.int .i64 0, .int .i64 0, .int .i64 0, .int .i64 0, .int .i64 0, .int .i64 0, .int .i64 0, .int .i64 0, .int .i64 0, .int .i64 0, .int .i64 0, .int .i64 0, .bool false, .int .i64 0, .int .i64 0, .int .i64 0, .bool false, .int .i64 0, .int .i64 0, .int .i64 0, .bool false, .int .i64 0, .int .i64 0, .int .i64 0, .bool false, .int .i64 0, .int .i64 0, .int .i64 0, .bool false, .int .i64 0, .int .i64 0, .int .i64 0, .bool false, .int .i64 0, .int .i64 0, .int .i64 0, .bool false, .int .i64 0, .int .i64 0, .int .i64 0, .bool false], .slice none 0 0, .agg #[.int .u8 0, .int .u8 0]], []⟩ 8 (by kernel_rfl) (by kernel_rfl) (by kernel_rfl) (by kernel_rfl)) ?_
  intro W base args ds gs before hval0 hW hcnd hsz0 _
  have hsz : (DataW.weightsEach Try.prog (Try.f4.params.toList ++ Rows.outputBackSpec.plain.varTypes Try.prog) (ds ++ gs)).all (· ≤ reachBytes) = true := hsz0
  clear hsz0
  have hval : ∀ (j : Nat) t v, Try.f4.params[j]? = some t → args[j]? = some v → Value.okWide Try.prog W .any base t v := hval0
  have hW' := hW
  obtain ⟨p, q, hA0, hV, rfl, hfz, hnd⟩ := hW
  have hA : DataW.TrodAll enc Try.prog W 0 (fun _ => true) true Try.f4.params.toList args.toList ds p := hA0
  rw [Try.params4] at hA hval hsz
  obtain ⟨v0, vs0, d0, ds0, p0, q0, hargs, rfl, rfl, h0, r0⟩ := trodAll_cons hA
  obtain ⟨v1, vs1, d1, ds1, p1, q1, rfl, rfl, rfl, h1, r1⟩ := trodAll_cons r0
  obtain ⟨v2, vs2, d2, ds2, p2, q2, rfl, rfl, rfl, h2, r2⟩ := trodAll_cons r1
  obtain ⟨rfl, rfl, rfl⟩ := trodAll_nil r2
  obtain rfl : args = #[v0, v1, v2] := by cases args; simp_all
  obtain ⟨rfl, rfl⟩ := trodVars_none hV
  have k0 := h0
  have lt0 : ∀ x ∈ p0, x.block < W.heap.size := by obtain ⟨m, hm⟩ := k0; exact DataW.trod_lt m _ _ _ hm
  obtain ⟨cs0, rfl, cl0, lv0⟩ := Fl.open_agg (n := 6) (ts := [3, 3, 3, 3, 3, 3, 3, 3, 3, 3, 3, 3, 4, 3, 3, 3, 4, 3, 3, 3, 4, 3, 3, 3, 4, 3, 3, 3, 4, 3, 3, 3, 4, 3, 3, 3, 4, 3, 3, 3, 4]) (by kernel_rfl) (by kernel_rfl) (Or.inl ⟨_, Try.underlying27⟩) (hval 0 27 v0 rfl rfl) h0
  obtain ⟨y0_0, y0_1, y0_2, y0_3, y0_4, y0_5, y0_6, y0_7, y0_8, y0_9, y0_10, y0_11, y0_12, y0_13, y0_14, y0_15, y0_16, y0_17, y0_18, y0_19, y0_20, y0_21, y0_22, y0_23, y0_24, y0_25, y0_26, y0_27, y0_28, y0_29, y0_30, y0_31, y0_32, y0_33, y0_34, y0_35, y0_36, y0_37, y0_38, y0_39, y0_40, rfl⟩ := parts0 cl0
  obtain ⟨x0_0, rfl, u0_0⟩ := (lv0.pick 0 rfl rfl).int Try.underlying3
  obtain ⟨x0_1, rfl, u0_1⟩ := (lv0.pick 1 rfl rfl).int Try.underlying3
  obtain ⟨x0_2, rfl, u0_2⟩ := (lv0.pick 2 rfl rfl).int Try.underlying3
  obtain ⟨x0_3, rfl, u0_3⟩ := (lv0.pick 3 rfl rfl).int Try.underlying3
  obtain ⟨x0_4, rfl, u0_4⟩ := (lv0.pick 4 rfl rfl).int Try.underlying3
  obtain ⟨x0_5, rfl, u0_5⟩ := (lv0.pick 5 rfl rfl).int Try.underlying3
  obtain ⟨x0_6, rfl, u0_6⟩ := (lv0.pick 6 rfl rfl).int Try.underlying3
  obtain ⟨x0_7, rfl, u0_7⟩ := (lv0.pick 7 rfl rfl).int Try.underlying3
  obtain ⟨x0_8, rfl, u0_8⟩ := (lv0.pick 8 rfl rfl).int Try.underlying3
  obtain ⟨x0_9, rfl, u0_9⟩ := (lv0.pick 9 rfl rfl).int Try.underlying3
  obtain ⟨x0_10, rfl, u0_10⟩ := (lv0.pick 10 rfl rfl).int Try.underlying3
  obtain ⟨x0_11, rfl, u0_11⟩ := (lv0.pick 11 rfl rfl).int Try.underlying3
  obtain ⟨x0_12, rfl⟩ := (lv0.pick 12 rfl rfl).bool Try.underlying4
  obtain ⟨x0_13, rfl, u0_13⟩ := (lv0.pick 13 rfl rfl).int Try.underlying3
  obtain ⟨x0_14, rfl, u0_14⟩ := (lv0.pick 14 rfl rfl).int Try.underlying3
  obtain ⟨x0_15, rfl, u0_15⟩ := (lv0.pick 15 rfl rfl).int Try.underlying3
  obtain ⟨x0_16, rfl⟩ := (lv0.pick 16 rfl rfl).bool Try.underlying4
  obtain ⟨x0_17, rfl, u0_17⟩ := (lv0.pick 17 rfl rfl).int Try.underlying3
  obtain ⟨x0_18, rfl, u0_18⟩ := (lv0.pick 18 rfl rfl).int Try.underlying3
  obtain ⟨x0_19, rfl, u0_19⟩ := (lv0.pick 19 rfl rfl).int Try.underlying3
  obtain ⟨x0_20, rfl⟩ := (lv0.pick 20 rfl rfl).bool Try.underlying4
  obtain ⟨x0_21, rfl, u0_21⟩ := (lv0.pick 21 rfl rfl).int Try.underlying3
  obtain ⟨x0_22, rfl, u0_22⟩ := (lv0.pick 22 rfl rfl).int Try.underlying3
  obtain ⟨x0_23, rfl, u0_23⟩ := (lv0.pick 23 rfl rfl).int Try.underlying3
  obtain ⟨x0_24, rfl⟩ := (lv0.pick 24 rfl rfl).bool Try.underlying4
  obtain ⟨x0_25, rfl, u0_25⟩ := (lv0.pick 25 rfl rfl).int Try.underlying3
  obtain ⟨x0_26, rfl, u0_26⟩ := (lv0.pick 26 rfl rfl).int Try.underlying3
  obtain ⟨x0_27, rfl, u0_27⟩ := (lv0.pick 27 rfl rfl).int Try.underlying3
  obtain ⟨x0_28, rfl⟩ := (lv0.pick 28 rfl rfl).bool Try.underlying4
  obtain ⟨x0_29, rfl, u0_29⟩ := (lv0.pick 29 rfl rfl).int Try.underlying3
  obtain ⟨x0_30, rfl, u0_30⟩ := (lv0.pick 30 rfl rfl).int Try.underlying3
  obtain ⟨x0_31, rfl, u0_31⟩ := (lv0.pick 31 rfl rfl).int Try.underlying3
  obtain ⟨x0_32, rfl⟩ := (lv0.pick 32 rfl rfl).bool Try.underlying4
  obtain ⟨x0_33, rfl, u0_33⟩ := (lv0.pick 33 rfl rfl).int Try.underlying3
  obtain ⟨x0_34, rfl, u0_34⟩ := (lv0.pick 34 rfl rfl).int Try.underlying3
  obtain ⟨x0_35, rfl, u0_35⟩ := (lv0.pick 35 rfl rfl).int Try.underlying3
  obtain ⟨x0_36, rfl⟩ := (lv0.pick 36 rfl rfl).bool Try.underlying4
  obtain ⟨x0_37, rfl, u0_37⟩ := (lv0.pick 37 rfl rfl).int Try.underlying3
  obtain ⟨x0_38, rfl, u0_38⟩ := (lv0.pick 38 rfl rfl).int Try.underlying3
  obtain ⟨x0_39, rfl, u0_39⟩ := (lv0.pick 39 rfl rfl).int Try.underlying3
  obtain ⟨x0_40, rfl⟩ := (lv0.pick 40 rfl rfl).bool Try.underlying4
  have k1 := h1
  have lt1 : ∀ x ∈ p1, x.block < W.heap.size := by obtain ⟨m, hm⟩ := k1; exact DataW.trod_lt m _ _ _ hm
  obtain ⟨a1, cap1, l1, rfl, m1, c1, z1', f1, b1⟩ := openInts Try.underlying28 Try.underlying5 (by kernel_rfl) (hval 1 28 v1 rfl rfl) h1
  have z1 : cap1 * 1 ≤ 140737488351232 := z1' 1 _ (fun el sp he => by subst he; have := sized_slice hsz (j := 1) (t := 28) (e := 5) rfl rfl Try.underlying28; rwa [show Try.prog.bytesOf 5 = 1 by kernel_rfl] at this)
  have k2 := h2
  have lt2 : ∀ x ∈ p2, x.block < W.heap.size := by obtain ⟨m, hm⟩ := k2; exact DataW.trod_lt m _ _ _ hm
  obtain ⟨cs2, rfl, cl2, lv2⟩ := Fl.open_agg (n := 6) (ts := [5, 5]) (by kernel_rfl) (by kernel_rfl) (Or.inl ⟨_, Try.underlying40⟩) (hval 2 40 v2 rfl rfl) h2
  obtain ⟨y2_0, y2_1, rfl⟩ := parts2 cl2
  obtain ⟨x2_0, rfl, u2_0⟩ := (lv2.pick 0 rfl rfl).int Try.underlying5
  obtain ⟨x2_1, rfl, u2_1⟩ := (lv2.pick 1 rfl rfl).int Try.underlying5
  clear hA0 hval0
  refine (walk x0_0 x0_1 x0_2 x0_3 x0_4 x0_5 x0_6 x0_7 x0_8 x0_9 x0_10 x0_11 x0_12 x0_13 x0_14 x0_15 x0_16 x0_17 x0_18 x0_19 x0_20 x0_21 x0_22 x0_23 x0_24 x0_25 x0_26 x0_27 x0_28 x0_29 x0_30 x0_31 x0_32 x0_33 x0_34 x0_35 x0_36 x0_37 x0_38 x0_39 x0_40 a1 cap1 l1 x2_0 x2_1 W u0_0 u0_1 u0_2 u0_3 u0_4 u0_5 u0_6 u0_7 u0_8 u0_9 u0_10 u0_11 u0_13 u0_14 u0_15 u0_17 u0_18 u0_19 u0_21 u0_22 u0_23 u0_25 u0_26 u0_27 u0_29 u0_30 u0_31 u0_33 u0_34 u0_35 u0_37 u0_38 u0_39 m1 c1 z1 f1 b1 u2_0 u2_1).mono fun e W' ⟨he, bel⟩ => ?_
  subst he
  exact ⟨_, rfl, _, _, _, [], _, [], hW', trodAll_mk1 (shut_bool Try.underlying4 _), (trodAll_cons_mk (Below.trod laidOut (by kernel_rfl) (of_decide_eq_true (by kernel_rfl)) k0 bel lt0) (trodAll_cons_mk (Below.trod laidOut (by kernel_rfl) (of_decide_eq_true (by kernel_rfl)) k1 bel lt1) (trodAll_cons_mk (Below.trod laidOut (by kernel_rfl) (of_decide_eq_true (by kernel_rfl)) k2 bel lt2) trodAll_mk0))), rfl, bel.frame _, fun h => by cases h⟩

theorem over : Rows.outputBackRow.holds Try.pinned (OpenSpec.ofChange Rows.outputBackSpec) :=
  OpenClaim.holds_of_wide 4 Try.f4 rfl rfl rfl rfl rfl rfl rfl ⟨rfl, rfl, rfl, rfl, rfl⟩ rfl rfl rfl rfl rfl (by kernel_rfl) Try.func4 (by kernel_rfl)
    (of_decide_eq_true (by kernel_rfl)) (by unfold Func.isWrapper; first | (rw [if_pos (by decide +kernel)]; kernel_rfl) | (rw [if_neg (by decide +kernel)]; exact ⟨rfl, rfl⟩))
    (fun os started H enc _ => lifted os started H enc)

/-- The statement. -/
theorem proved : Rows.OutputBackSaid := over
#print axioms proved
end Go.Proofs.Ytpgcoagjlkdmbaa.outputBack
