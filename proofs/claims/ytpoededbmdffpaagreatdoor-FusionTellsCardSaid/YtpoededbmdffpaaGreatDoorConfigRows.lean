/-
  What fields of package config does: its contract by walking the Go text, its region that draws by the law of Flow. No conditions.
-/
import Derived.Test.YtpoededbmdffpaaGreatDoorConfigRow
namespace Go.Proofs.YtpoededbmdffpaaGreatDoor
set_option maxRecDepth 100000
open Go.ChangeShapes Go.WideShapes Go.ChangeAt Go.RowKit Go.Deep
namespace Cf
set_option maxRecDepth 100000 in
set_option maxHeartbeats 1600000 in
theorem fields_any (c : List Int) (w : World) (hc : c.length = 21) :
    Calls Tryz.prog 101 #[.agg (CA c)] w fun e w' => ∃ p, e = .returned (.slice (some ⟨p, 0, none⟩) 19 19) ∧ (∀ i, i < 19 → RowAt w' p i (rowC c i)) ∧ Below w.heap.size w w' := by
  have B0 := Lib.hid (Box.new w c)
  have b0 := Lib.hid ((Below.refl w.heap.size w).alloc (Nat.le_refl _) (.cells (CA c) 24))
  have WE := fun W => weights_any c W hc
  go_enter Tryz.func101, Tryz.ntmps101
  change Code.wp _ (.seq _ (.seq _ (.seq (.region 2 fOps true) .ret))) _ _ _
  go_wp2_with (with_reducible show wpList _ _ _ (⟨some 6, _, _, _, _, _⟩ :: _) _ _; refine wpList_loadC rfl _ rfl w.heap.size c rfl B0.out hc ?_)
  refine (WE _).mono ?_; rintro e w1 ⟨a0, k0, a1, k1, rfl, i0, i1, b1⟩
  have F0 := Lib.hid (show Box w1 w.heap.size c ∧ IntsAt .i64 w1 a0 (own c) ∧ IntsAt .i64 w1 a1 (others c) ∧ Below w.heap.size w w1 from ⟨B0.out.on b1, i0, i1, grow b0.out b1⟩)
  clear i0 i1 b1 WE B0 b0
  go_wp2_with fail
  rename_i Q' K hK
  refine Flow.wp_region_flow (fun t => V w.heap.size c (sk t)) [1, 3, 4] 89 (by kernel_rfl) fOps_flow (fun t v w w' h hb => V.on h hb) rfl ?_ (steps hc) ?_
  · intro t ht
    simp only [List.mem_cons, List.not_mem_nil, or_false] at ht
    rcases ht with rfl | rfl | rfl
    · exact ⟨rfl, F0.out.1⟩
    · exact ⟨a0, k0, rfl, F0.out.2.1⟩
    · exact ⟨a1, k1, rfl, F0.out.2.2.1⟩
  · intro a' w' hb hn hd hold hv
    obtain ⟨o, ho, hd2⟩ := Option.bind_eq_some_iff.1 (show (fOps[79]?).bind (·.dst) = some 2 by kernel_rfl)
    obtain ⟨p, e2, hr⟩ : V w.heap.size c .all (a'.tmps.getD 2 undef) w' := hv 79 o 2 ho hd2
    refine hK _ _ (wp_ret (bodyPost_ret (v := .slice (some ⟨p, 0, none⟩) 19 19) ((results_tmp rfl _ _ _).trans (by rw [e2])) hd ⟨p, rfl, hr, grow F0.out.2.2.2 hb⟩))
end Cf
end Go.Proofs.YtpoededbmdffpaaGreatDoor
