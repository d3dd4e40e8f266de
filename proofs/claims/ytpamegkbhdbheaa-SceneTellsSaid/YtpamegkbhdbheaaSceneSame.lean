/-
  What same of package rudderlaw22 does of two cycles that hold the same: its contract by walking the Go text. Conditions: how the cycles lie.
-/
import Derived.Test.YtpamegkbhdbheaaSceneRefCycle
import Derived.Test.YtpamegkbhdbheaaSame
namespace Go.Proofs.Ytpamegkbhdbheaa
set_option maxRecDepth 100000
open Go.ChangeShapes Go.WideShapes Go.ChangeAt Go.RowKit Go.Deep
namespace Sc
open Cf (G CA)

/-- Two cycles that hold the same. -/
structure Alike (W : World) (T U : Nat → Sl4) : Prop where
  is : ∀ j, j < 4 → (T j).is = (U j).is
  l : ∀ j, j < 4 → (T j).l = (U j).l
  len : ∀ j, j < 4 → (U j).l.length ≤ 9223372036854775807
  a : ∀ j, j < 4 → IntsAt .u8 W (T j).a (T j).l
  b : ∀ j, j < 4 → IntsAt .u8 W (U j).a (U j).l
structure Sm (w W : World) (g0 g1 : Nat) (T U : Nat → Sl4) : Prop where
  below : Below w.heap.size w W
  r0 : VRow W g0 46 (cyl 4 T)
  r1 : VRow W g1 46 (cyl 4 U)
  al : Alike W T U
section
variable {w W W' : World} {g0 g1 : Nat} {T U : Nat → Sl4}
theorem Alike.on (h : Alike W T U) (b : Below W.heap.size W W') : Alike W' T U := ⟨h.is, h.l, h.len, fun j hj => (h.a j hj).below b, fun j hj => (h.b j hj).below b⟩
theorem Sm.on (h : Sm w W g0 g1 T U) (b : Below W.heap.size W W') : Sm w W' g0 g1 T U := ⟨grow h.below b, h.r0.below b h.r0.lt, h.r1.below b h.r1.lt, h.al.on b⟩
end
theorem cyl_is (T : Nat → Sl4) (i : Nat) (hi : i < 4) : (cyl 4 T)[i * 2]? = some (.bool (T i).is) := by
  have := cyl_get T 4 i 0 hi (by omega)
  rw [Nat.add_zero, Nat.mul_comm] at this
  exact this
theorem cyl_sl (T : Nat → Sl4) (i : Nat) (hi : i < 4) : (cyl 4 T)[i * 2 + 1]? = some (.slice (T i).a (T i).l.length (T i).cap) := by
  have := cyl_get T 4 i 1 hi (by omega)
  rw [Nat.mul_comm] at this
  exact this
set_option maxHeartbeats 3200000 in
theorem same_any (T U : Nat → Sl4) (w : World) (h : Alike w T U) :
    Calls Try.prog 13 #[.agg (cyl 4 T).toArray, .agg (cyl 4 U).toArray] w fun e w' => e = .returned (.bool true) ∧ Below w.heap.size w w' := by
  have b1 := below_new w (cyl 4 T).toArray 46
  have b2 := below_new (w.alloc (.cells (cyl 4 T).toArray 46)) (cyl 4 U).toArray 46
  have X0 := Lib.hid (show Sm w ((w.alloc (.cells (cyl 4 T).toArray 46)).alloc (.cells (cyl 4 U).toArray 46)) w.heap.size (w.heap.size + 1) T U from
    ⟨grow b1 b2, (VRow.new w _ _).below b2 (VRow.new w (cyl 4 T) _).lt, by have := VRow.new (w.alloc (.cells (cyl 4 T).toArray 46)) (cyl 4 U) 46; simpa using this, h.on (grow b1 b2)⟩)
  clear h b1 b2
  go_enter Try.func13, Try.ntmps13
  go_upto_region 1 with fail
  generalize (w.alloc (.cells (cyl 4 T).toArray 46)).alloc (.cells (cyl 4 U).toArray 46) = w0 at *
  generalize hg : w.heap.size = g at *
  generalize hg1 : g + 1 = g1 at *
  go_wp2_with fail
  go_loopg [5, 6] 4 (fun gg s5 _ wr => ∃ i : Nat, i + gg = 4 ∧ s5 = .int .i64 i ∧ Hid (Sm w wr g g1 T U))
  case atStart => exact ⟨0, by omega, rfl, X0⟩
  case round =>
    clear X0
    rename World => W
    obtain ⟨i, hi, rfl, D⟩ := hrel
    have HI := Lib.hid hi
    clear hi
    by_cases hlt : i < 4
    · have hli : (i : Int) < 4 := by omega
      have CC := fun W' (b : Below W.heap.size W W') => Sm.rsame_any (T i).a (U i).a (T i).cap (U i).cap (T i).l (U i).l W' (by rw [D.out.al.l i hlt]; exact D.out.al.len i hlt) (D.out.al.len i hlt) ((D.out.al.a i hlt).below b) ((D.out.al.b i hlt).below b)
      rw [D.out.al.l i hlt, Sm.same_self] at CC
      have cC := reg_call (w := W) CC
      have q1 := cell_regrown (D.out.r0.cell _ (cyl_sl T i hlt))
      have q2 := cell_regrown (D.out.r1.cell _ (cyl_sl U i hlt))
      rw [D.out.al.l i hlt] at q1
      have HLT := Lib.hid hlt
      clear CC hlt
      go_upto_region 4 with fail
      refine wp_region_quiet_below (by kernel_rfl) (by kernel_rfl) ?_
      repeat (go_big_quiet_step (exact cC _ _))
      refine wpQuiet_nil ?_
      intro _ hw'
      obtain ⟨⟨dq, osq⟩, hw''⟩ := hw'
      subst hw''
      have D1 := Lib.hid (D.out.on (below_regrown W dq osq))
      clear D q1 q2 cC
      generalize Sort.grow (redrawn W dq) osq = W1 at *
      have c1 := D1.out.r0.cell _ (cyl_is T i HLT.out)
      have c2 := D1.out.r1.cell _ (cyl_is U i HLT.out)
      rw [D1.out.al.is i HLT.out] at c1
      generalize (U i).is = x at *
      go_upto_region 5 with fail
      go_quiet (fail)
      have D2 := Lib.hid (D1.out.on (below_drewN (Below.refl W1.heap.size W1) nq))
      clear D1 c1 c2
      generalize W1.drewN nq = W2 at *
      have hx : (x != x) = false := by simp
      go_wp2_with fail
      go_roundg (gk - 1)
      case rel => exact ⟨i + 1, by have := HI.out; omega, by go_num, D2⟩
      case measure => have := HI.out; omega
    · obtain rfl : i = 4 := by have := HI.out; omega
      go_wp2_with fail
      go_ret
      exact ⟨rfl, hg ▸ D.out.below⟩
end Sc
end Go.Proofs.Ytpamegkbhdbheaa
