/-
  The law 'SignalFound' of package rudderlaw18 returns true for every input, and its arguments read afterwards as they read before. No conditions.
-/
import Derived.Test.YtmlhmmfgdioclaaGreatRows
import Derived.Test.YtmlhmmfgdioclaaGreatSignalFoundFaced
import Derived.Test.YtmlhmmfgdioclaaGreatJFlat3
import Derived.Test.YtmlhmmfgdioclaaGreatJRowsIn2
import Derived.WalkKit
import Derived.ProofKit
import Derived.OpenShut
import Derived.ShutString
import Derived.ChangeOld
import Derived.Below
import Derived.SizedLaws
namespace Go.Proofs.YtmlhmmfgdioclaaGreat.signalFound
open Go.ChangeShapes Go.WideShapes Go.ChangeAt Go.RowKit
open Go.ChangeMaps (open_string shut_string)
set_option linter.unusedVariables false

theorem own : ownKnob Tryz.prog.godebug = none := by kernel_rfl
theorem laidOut : laidOutB Tryz.prog = true := by kernel_rfl
theorem parts1 {α : Type} {l : List α} (h : l.length = 4) : ∃ y1_0 y1_1 y1_2 y1_3, l = [y1_0, y1_1, y1_2, y1_3] := by
  match l, h with
  | [y1_0, y1_1, y1_2, y1_3], _ => exact ⟨y1_0, y1_1, y1_2, y1_3, rfl⟩

set_option maxRecDepth 100000 in
theorem lifted (os : Os) (started : os.Started) (H : Type) (enc : TypeId × Value → H) :
    ReturnsInHanded {} Tryz.checked os 5 .any (Rows.signalFoundSpec.pre6 enc Tryz.prog Tryz.f5 Rows.signalFoundRow.domain false) (Rows.signalFoundSpec.post enc Tryz.prog Tryz.f5 false true false false) := by
  refine returnsInHanded_of_change_sized (C := Tryz.checked) own started (by kernel_rfl) Tryz.func5
    (ChangeSpec.witness6 (enc := enc) (C := Tryz.checked) false ⟨#[], #[.agg #[.int .i64 0, .int .i64 0, .int .i64 0, .int .i64 0, .int .i64 0, .int .i64 0, .int .i64 0, .int .i64 0, .int .i64 0, .int .i64 0, .int .i64 0, .int .i64 0, .int .i64 0, .int .i64 0, .int .i64 0, .int .i64 0, .int .i64 0, .int .i64 0, .int .i64 0, .int .i64 0, .int .i64 0], .agg #[.int .i64 0, .int .i64 0, .int .i64 0, .slice none 0 0]], []⟩ 8 (by kernel_rfl) (by kernel_rfl) (by kernel_rfl) (by kernel_rfl)) ?_
  intro W base args ds gs before hval0 hW hcnd hsz0 _
  have hsz : (DataW.weightsEach Tryz.prog (Tryz.f5.params.toList ++ Rows.signalFoundSpec.plain.varTypes Tryz.prog) (ds ++ gs)).all (· ≤ reachBytes) = true := hsz0
  clear hsz0
  have hval : ∀ (j : Nat) t v, Tryz.f5.params[j]? = some t → args[j]? = some v → Value.okWide Tryz.prog W .any base t v := hval0
  have hW' := hW
  obtain ⟨p, q, hA0, hV, rfl, hfz, hnd⟩ := hW
  have hA : DataW.TrodAll enc Tryz.prog W 0 (fun _ => true) true Tryz.f5.params.toList args.toList ds p := hA0
  rw [Tryz.params5] at hA hval hsz
  obtain ⟨v0, vs0, d0, ds0, p0, q0, hargs, rfl, rfl, h0, r0⟩ := trodAll_cons hA
  obtain ⟨v1, vs1, d1, ds1, p1, q1, rfl, rfl, rfl, h1, r1⟩ := trodAll_cons r0
  obtain ⟨rfl, rfl, rfl⟩ := trodAll_nil r1
  obtain rfl : args = #[v0, v1] := by cases args; simp_all
  obtain ⟨rfl, rfl⟩ := trodVars_none hV
  have k0 := h0
  have lt0 : ∀ x ∈ p0, x.block < W.heap.size := by obtain ⟨m, hm⟩ := k0; exact DataW.trod_lt m _ _ _ hm
  obtain ⟨cs0, rfl, cl0, lv0⟩ := Fl.open_agg (n := 6) (ts := List.replicate 21 3) (by kernel_rfl) (by kernel_rfl) (Or.inl ⟨_, Tryz.underlying24⟩) (hval 0 24 v0 rfl rfl) h0
  obtain ⟨l0, rfl, n0', w0⟩ := lv0.ints cl0 (fun t ht => by rw [List.eq_of_mem_replicate ht]; exact Tryz.underlying3)
  have n0 : l0.length = 21 := by simpa using n0'
  have k1 := h1
  have lt1 : ∀ x ∈ p1, x.block < W.heap.size := by obtain ⟨m, hm⟩ := k1; exact DataW.trod_lt m _ _ _ hm
  obtain ⟨cs1, rfl, cl1, lv1⟩ := Fl.open_agg (n := 6) (ts := [3, 3, 3, 68]) (by kernel_rfl) (by kernel_rfl) (Or.inl ⟨_, Tryz.underlying70⟩) (hval 1 70 v1 rfl rfl) h1
  obtain ⟨y1_0, y1_1, y1_2, y1_3, rfl⟩ := parts1 cl1
  obtain ⟨x1_0, rfl, u1_0⟩ := (lv1.pick 0 rfl rfl).int Tryz.underlying3
  obtain ⟨x1_1, rfl, u1_1⟩ := (lv1.pick 1 rfl rfl).int Tryz.underlying3
  obtain ⟨x1_2, rfl, u1_2⟩ := (lv1.pick 2 rfl rfl).int Tryz.underlying3
  obtain ⟨a1_3, cap1_3, l1_3, rfl, c1_3, m1_3, b1_3⟩ := Mn.readMany (n := 6) [.int .i16, .int .i16, .int .i16, .int .i16, .int .i16, .bool, .int .i64] (ts := [74, 74, 74, 74, 74, 4, 3]) Tryz.underlying68 (by kernel_rfl) (by kernel_rfl) (by simp) (by kernel_rfl) (lv1.pick 3 rfl rfl)
  clear hA0 hval0
  refine (walk l0 x1_0 x1_1 x1_2 a1_3 cap1_3 l1_3 W n0 w0 u1_0 u1_1 u1_2 c1_3 b1_3).mono fun e W' ⟨he, bel⟩ => ?_
  subst he
  exact ⟨_, rfl, _, _, _, [], _, [], hW', trodAll_mk1 (shut_bool Tryz.underlying4 _), (trodAll_cons_mk (Below.trod laidOut (by kernel_rfl) (of_decide_eq_true (by kernel_rfl)) k0 bel lt0) (trodAll_cons_mk (Below.trod laidOut (by kernel_rfl) (of_decide_eq_true (by kernel_rfl)) k1 bel lt1) trodAll_mk0)), rfl, bel.frame _, fun h => by cases h⟩

theorem over : Rows.signalFoundRow.holds Tryz.pinned (OpenSpec.ofChange Rows.signalFoundSpec) :=
  OpenClaim.holds_of_wide 5 Tryz.f5 rfl rfl rfl rfl rfl rfl rfl ⟨rfl, rfl, rfl, rfl, rfl⟩ rfl rfl rfl rfl rfl (by kernel_rfl) Tryz.func5 (by kernel_rfl)
    (of_decide_eq_true (by kernel_rfl)) (by unfold Func.isWrapper; first | (rw [if_pos (by decide +kernel)]; kernel_rfl) | (rw [if_neg (by decide +kernel)]; exact ⟨rfl, rfl⟩))
    (fun os started H enc _ => lifted os started H enc)

/-- The statement. -/
theorem proved : Rows.SignalFoundSaid := over
#print axioms proved
end Go.Proofs.YtmlhmmfgdioclaaGreat.signalFound
