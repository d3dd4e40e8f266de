/-
  The law 'VoteMid' of package rudderlaw12 returns true for every input, and its arguments read afterwards as they read before. No conditions.
-/
import Derived.Test.YtlaffeadgdebhaaRows
import Derived.Test.YtlaffeadgdebhaaVoteMidWalk
import Derived.Test.YtlaffeadgdebhaaFlat
import Derived.WalkKit
import Derived.ProofKit
import Derived.OpenShut
import Derived.ShutString
import Derived.ChangeOld
import Derived.Below
import Derived.SizedLaws
namespace Go.Proofs.Ytlaffeadgdebhaa.voteMid
open Go.ChangeShapes Go.WideShapes Go.ChangeAt Go.RowKit
open Go.ChangeMaps (open_string shut_string)
set_option linter.unusedVariables false

theorem own : ownKnob Try.prog.godebug = none := by kernel_rfl
theorem laidOut : laidOutB Try.prog = true := by kernel_rfl
theorem parts2 {α : Type} {l : List α} (h : l.length = 2) : ∃ y2_0 y2_1, l = [y2_0, y2_1] := by
  match l, h with
  | [y2_0, y2_1], _ => exact ⟨y2_0, y2_1, rfl⟩

set_option maxRecDepth 100000 in
theorem lifted (os : Os) (started : os.Started) (H : Type) (enc : TypeId × Value → H) :
    ReturnsInHanded {} Try.checked os 4 .any (Rows.voteMidSpec.pre6 enc Try.prog Try.f4 Rows.voteMidRow.domain false) (Rows.voteMidSpec.post enc Try.prog Try.f4 false true false false) := by
  refine returnsInHanded_of_change_sized (C := Try.checked) own started (by kernel_rfl) Try.func4
    (ChangeSpec.witness6 (enc := enc) (C := Try.checked) false ⟨#[], #[.agg #[.int .i64 0, .int .i64 0, .int .i64 0], .slice none 0 0, .agg #[.slice none 0 0, .int .u8 0]], []⟩ 8 (by kernel_rfl) (by kernel_rfl) (by kernel_rfl) (by kernel_rfl)) ?_
  intro W base args ds gs before hval0 hW hcnd hsz0 _
  have hsz : (DataW.weightsEach Try.prog (Try.f4.params.toList ++ Rows.voteMidSpec.plain.varTypes Try.prog) (ds ++ gs)).all (· ≤ reachBytes) = true := hsz0
  clear hsz0
  have hval : ∀ (j : Nat) t v, Try.f4.params[j]? = some t → args[j]? = some v → Value.okWide Try.prog W .any base t v := hval0
  have hW' := hW
  obtain ⟨p, q, hA0, hV, rfl, hfz, hnd⟩ := hW
  have hA : DataW.TrodAll enc Try.prog W 0 (fun _ => true) true Try.f4.params.toList args.toList ds p := hA0
  rw [Try.params4] at hA hval hsz
  obtain ⟨v0, vs0, d0, ds0, p0, q0, hargs, rfl, rfl, h0, r0⟩ := trodAll_cons hA
  obtain ⟨v1, vs1, d1, ds1, p1, q1, rfl, rfl, rfl, h1, r1⟩ := trodAll_cons r0
  obtain ⟨v2, vs2, d2, ds2, p2, q2, rfl, rfl, rfl, h2, r2⟩ := trodAll_cons r1
  obtain ⟨rfl, rfl, rfl⟩ := trodAll_nil r2
  obtain rfl : args = #[v0, v1, v2] := by cases args; simp_all
  obtain ⟨rfl, rfl⟩ := trodVars_none hV
  have k0 := h0
  have lt0 : ∀ x ∈ p0, x.block < W.heap.size := by obtain ⟨m, hm⟩ := k0; exact DataW.trod_lt m _ _ _ hm
  obtain ⟨cs0, rfl, cl0, lv0⟩ := Fl.open_agg (n := 6) (ts := List.replicate 3 3) (by kernel_rfl) (by kernel_rfl) (Or.inl ⟨_, Try.underlying23⟩) (hval 0 23 v0 rfl rfl) h0
  obtain ⟨l0, rfl, n0', w0⟩ := lv0.ints cl0 (fun t ht => by rw [List.eq_of_mem_replicate ht]; exact Try.underlying3)
  have n0 : l0.length = 3 := by simpa using n0'
  have k1 := h1
  have lt1 : ∀ x ∈ p1, x.block < W.heap.size := by obtain ⟨m, hm⟩ := k1; exact DataW.trod_lt m _ _ _ hm
  obtain ⟨a1, cap1, l1, rfl, m1, c1, z1', f1, b1⟩ := openInts Try.underlying24 Try.underlying3 (by kernel_rfl) (hval 1 24 v1 rfl rfl) h1
  have z1 : cap1 * 8 ≤ 140737488351232 := z1' 8 _ (fun el sp he => by subst he; have := sized_slice hsz (j := 1) (t := 24) (e := 3) rfl rfl Try.underlying24; rwa [show Try.prog.bytesOf 3 = 8 by kernel_rfl] at this)
  have k2 := h2
  have lt2 : ∀ x ∈ p2, x.block < W.heap.size := by obtain ⟨m, hm⟩ := k2; exact DataW.trod_lt m _ _ _ hm
  obtain ⟨cs2, rfl, cl2, lv2⟩ := Fl.open_agg (n := 6) (ts := [24, 5]) (by kernel_rfl) (by kernel_rfl) (Or.inl ⟨_, Try.underlying34⟩) (hval 2 34 v2 rfl rfl) h2
  obtain ⟨y2_0, y2_1, rfl⟩ := parts2 cl2
  obtain ⟨a2_0, cap2_0, l2_0, rfl, c2_0, m2_0, f2_0, b2_0⟩ := (lv2.pick 0 rfl rfl).ints Try.underlying24 Try.underlying3 (by kernel_rfl)
  obtain ⟨x2_1, rfl, u2_1⟩ := (lv2.pick 1 rfl rfl).int Try.underlying5
  clear hA0 hval0
  refine (walk l0 a1 cap1 l1 a2_0 cap2_0 l2_0 x2_1 W n0 w0 m1 c1 z1 f1 b1 c2_0 m2_0 f2_0 b2_0 u2_1).mono fun e W' ⟨he, bel⟩ => ?_
  subst he
  exact ⟨_, rfl, _, _, _, [], _, [], hW', trodAll_mk1 (shut_bool Try.underlying4 _), (trodAll_cons_mk (Below.trod laidOut (by kernel_rfl) (of_decide_eq_true (by kernel_rfl)) k0 bel lt0) (trodAll_cons_mk (Below.trod laidOut (by kernel_rfl) (of_decide_eq_true (by kernel_rfl)) k1 bel lt1) (trodAll_cons_mk (Below.trod laidOut (by kernel_rfl) (of_decide_eq_true (by kernel_rfl)) k2 bel lt2) trodAll_mk0))), rfl, bel.frame _, fun h => by cases h⟩

theorem over : Rows.voteMidRow.holds Try.pinned (OpenSpec.ofChange Rows.voteMidSpec) :=
  OpenClaim.holds_of_wide 4 Try.f4 rfl rfl rfl rfl rfl rfl rfl ⟨rfl, rfl, rfl, rfl, rfl⟩ rfl rfl rfl rfl rfl (by kernel_rfl) Try.func4 (by kernel_rfl)
    (of_decide_eq_true (by kernel_rfl)) (by unfold Func.isWrapper; first | (rw [if_pos (by decide +kernel)]; kernel_rfl) | (rw [if_neg (by decide +kernel)]; exact ⟨rfl, rfl⟩))
    (fun os started H enc _ => lifted os started H enc)

/-- The statement. -/
theorem proved : Rows.VoteMidSaid := over
#print axioms proved
end Go.Proofs.Ytlaffeadgdebhaa.voteMid
