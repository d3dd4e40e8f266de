/-
  The law 'VoteBounded' of package rudderlaw12 returns true for every input, and its arguments read afterwards as they read before. No conditions.
-/
import Derived.Test.YtlaffeadgdebhaaRows
import Derived.Test.YtlaffeadgdebhaaVoteBoundedWalk
import Derived.Test.YtlaffeadgdebhaaFlat
import Derived.WalkKit
import Derived.ProofKit
import Derived.OpenShut
import Derived.ShutString
import Derived.ChangeOld
import Derived.Below
import Derived.SizedLaws
namespace Go.Proofs.Ytlaffeadgdebhaa.voteBounded
open Go.ChangeShapes Go.WideShapes Go.ChangeAt Go.RowKit
open Go.ChangeMaps (open_string shut_string)
set_option linter.unusedVariables false

theorem own : ownKnob Try.prog.godebug = none := by kernel_rfl
theorem laidOut : laidOutB Try.prog = true := by kernel_rfl
theorem parts1 {α : Type} {l : List α} (h : l.length = 11) : ∃ y1_0 y1_1 y1_2 y1_3 y1_4 y1_5 y1_6 y1_7 y1_8 y1_9 y1_10, l = [y1_0, y1_1, y1_2, y1_3, y1_4, y1_5, y1_6, y1_7, y1_8, y1_9, y1_10] := by
  match l, h with
  | [y1_0, y1_1, y1_2, y1_3, y1_4, y1_5, y1_6, y1_7, y1_8, y1_9, y1_10], _ => exact ⟨y1_0, y1_1, y1_2, y1_3, y1_4, y1_5, y1_6, y1_7, y1_8, y1_9, y1_10, rfl⟩

set_option maxRecDepth 100000 in
theorem lifted (os : Os) (started : os.Started) (H : Type) (enc : TypeId × Value → H) :
    ReturnsInHanded {} Try.checked os 5 .any (Rows.voteBoundedSpec.pre6 enc Try.prog Try.f5 Rows.voteBoundedRow.domain false) (Rows.voteBoundedSpec.post enc Try.prog Try.f5 false true false false) := by
  refine returnsInHanded_of_change_sized (C := Try.checked) own started (by kernel_rfl) Try.func5
    (ChangeSpec.witness6 (enc := enc) (C := Try.checked) false ⟨#[], #[.agg #[.int .i64 0, .int .i64 0, .int .i64 0], .agg #[.int .i32 0, .int .i32 0, .int .u16 0, .int .u16 0, .int .u16 0, .int .u16 0, .int .u8 0, .int .u8 0, .int .u8 0, .int .u8 0, .int .u8 0]], []⟩ 8 (by kernel_rfl) (by kernel_rfl) (by kernel_rfl) (by kernel_rfl)) ?_
  intro W base args ds gs before hval0 hW hcnd hsz0 _
  have hsz : (DataW.weightsEach Try.prog (Try.f5.params.toList ++ Rows.voteBoundedSpec.plain.varTypes Try.prog) (ds ++ gs)).all (· ≤ reachBytes) = true := hsz0
  clear hsz0
  have hval : ∀ (j : Nat) t v, Try.f5.params[j]? = some t → args[j]? = some v → Value.okWide Try.prog W .any base t v := hval0
  have hW' := hW
  obtain ⟨p, q, hA0, hV, rfl, hfz, hnd⟩ := hW
  have hA : DataW.TrodAll enc Try.prog W 0 (fun _ => true) true Try.f5.params.toList args.toList ds p := hA0
  rw [Try.params5] at hA hval hsz
  obtain ⟨v0, vs0, d0, ds0, p0, q0, hargs, rfl, rfl, h0, r0⟩ := trodAll_cons hA
  obtain ⟨v1, vs1, d1, ds1, p1, q1, rfl, rfl, rfl, h1, r1⟩ := trodAll_cons r0
  obtain ⟨rfl, rfl, rfl⟩ := trodAll_nil r1
  obtain rfl : args = #[v0, v1] := by cases args; simp_all
  obtain ⟨rfl, rfl⟩ := trodVars_none hV
  have k0 := h0
  have lt0 : ∀ x ∈ p0, x.block < W.heap.size := by obtain ⟨m, hm⟩ := k0; exact DataW.trod_lt m _ _ _ hm
  obtain ⟨cs0, rfl, cl0, lv0⟩ := Fl.open_agg (n := 6) (ts := List.replicate 3 3) (by kernel_rfl) (by kernel_rfl) (Or.inl ⟨_, Try.underlying23⟩) (hval 0 23 v0 rfl rfl) h0
  obtain ⟨l0, rfl, n0', w0⟩ := lv0.ints cl0 (fun t ht => by rw [List.eq_of_mem_replicate ht]; exact Try.underlying3)
  have n0 : l0.length = 3 := by simpa using n0'
  have k1 := h1
  have lt1 : ∀ x ∈ p1, x.block < W.heap.size := by obtain ⟨m, hm⟩ := k1; exact DataW.trod_lt m _ _ _ hm
  obtain ⟨cs1, rfl, cl1, lv1⟩ := Fl.open_agg (n := 6) (ts := [21, 21, 38, 38, 38, 38, 5, 5, 5, 5, 5]) (by kernel_rfl) (by kernel_rfl) (Or.inl ⟨_, Try.underlying42⟩) (hval 1 42 v1 rfl rfl) h1
  obtain ⟨y1_0, y1_1, y1_2, y1_3, y1_4, y1_5, y1_6, y1_7, y1_8, y1_9, y1_10, rfl⟩ := parts1 cl1
  obtain ⟨x1_0, rfl, u1_0⟩ := (lv1.pick 0 rfl rfl).int Try.underlying21
  obtain ⟨x1_1, rfl, u1_1⟩ := (lv1.pick 1 rfl rfl).int Try.underlying21
  obtain ⟨x1_2, rfl, u1_2⟩ := (lv1.pick 2 rfl rfl).int Try.underlying38
  obtain ⟨x1_3, rfl, u1_3⟩ := (lv1.pick 3 rfl rfl).int Try.underlying38
  obtain ⟨x1_4, rfl, u1_4⟩ := (lv1.pick 4 rfl rfl).int Try.underlying38
  obtain ⟨x1_5, rfl, u1_5⟩ := (lv1.pick 5 rfl rfl).int Try.underlying38
  obtain ⟨x1_6, rfl, u1_6⟩ := (lv1.pick 6 rfl rfl).int Try.underlying5
  obtain ⟨x1_7, rfl, u1_7⟩ := (lv1.pick 7 rfl rfl).int Try.underlying5
  obtain ⟨x1_8, rfl, u1_8⟩ := (lv1.pick 8 rfl rfl).int Try.underlying5
  obtain ⟨x1_9, rfl, u1_9⟩ := (lv1.pick 9 rfl rfl).int Try.underlying5
  obtain ⟨x1_10, rfl, u1_10⟩ := (lv1.pick 10 rfl rfl).int Try.underlying5
  clear hA0 hval0
  refine (walk l0 x1_0 x1_1 x1_2 x1_3 x1_4 x1_5 x1_6 x1_7 x1_8 x1_9 x1_10 W n0 w0 u1_0 u1_1 u1_2 u1_3 u1_4 u1_5 u1_6 u1_7 u1_8 u1_9 u1_10).mono fun e W' ⟨he, bel⟩ => ?_
  subst he
  exact ⟨_, rfl, _, _, _, [], _, [], hW', trodAll_mk1 (shut_bool Try.underlying4 _), (trodAll_cons_mk (Below.trod laidOut (by kernel_rfl) (of_decide_eq_true (by kernel_rfl)) k0 bel lt0) (trodAll_cons_mk (Below.trod laidOut (by kernel_rfl) (of_decide_eq_true (by kernel_rfl)) k1 bel lt1) trodAll_mk0)), rfl, bel.frame _, fun h => by cases h⟩

theorem over : Rows.voteBoundedRow.holds Try.pinned (OpenSpec.ofChange Rows.voteBoundedSpec) :=
  OpenClaim.holds_of_wide 5 Try.f5 rfl rfl rfl rfl rfl rfl rfl ⟨rfl, rfl, rfl, rfl, rfl⟩ rfl rfl rfl rfl rfl (by kernel_rfl) Try.func5 (by kernel_rfl)
    (of_decide_eq_true (by kernel_rfl)) (by unfold Func.isWrapper; first | (rw [if_pos (by decide +kernel)]; kernel_rfl) | (rw [if_neg (by decide +kernel)]; exact ⟨rfl, rfl⟩))
    (fun os started H enc _ => lifted os started H enc)

/-- The statement. -/
theorem proved : Rows.VoteBoundedSaid := over
#print axioms proved
end Go.Proofs.Ytlaffeadgdebhaa.voteBounded
