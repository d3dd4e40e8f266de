/-
  What laid of package frame does: its contract by walking the Go text. Conditions: eight numbers, and where they lie.
-/
import Derived.Test.YtpamegkbhdbheaaFrameHead
import Derived.Test.YtpamegkbhdbheaaAppend
import Derived.Test.YtpamegkbhdbheaaJAgg3
namespace Go.Proofs.Ytpamegkbhdbheaa
set_option maxRecDepth 100000
open Go.ChangeShapes Go.WideShapes Go.ChangeAt Go.RowKit Go.Deep
namespace Fm
open Wd
open Cr (Bytes)

theorem intSize : (Try.prog.info? 3).map (·.size) = some 1 := by kernel_rfl
/-- Two blocks of eight noughts are laid; the second one is written. -/
theorem two_laid (w : World) (t : TypeId) : Below (w.heap.size + 1) (w.alloc (.cells (cellsI .i64 (List.replicate 8 0)).toArray t)) ((w.alloc (.cells (cellsI .i64 (List.replicate 8 0)).toArray t)).alloc (.cells (cellsI .i64 (List.replicate 8 0)).toArray t)) :=
  (Below.refl _ _).alloc (by simp) _
theorem two_row (w : World) (t : TypeId) : IRow .i64 ((w.alloc (.cells (cellsI .i64 (List.replicate 8 0)).toArray t)).alloc (.cells (cellsI .i64 (List.replicate 8 0)).toArray t)) (w.heap.size + 1) t (List.replicate 8 0) := by
  have := heap_alloc_new (w.alloc (.cells (cellsI .i64 (List.replicate 8 0)).toArray t)) (.cells (cellsI .i64 (List.replicate 8 0)).toArray t)
  rw [show (w.alloc (.cells (cellsI .i64 (List.replicate 8 0)).toArray t)).heap.size = w.heap.size + 1 by simp] at this
  exact this
theorem one_row (w : World) (t : TypeId) : IRow .i64 (w.alloc (.cells (cellsI .i64 (List.replicate 8 0)).toArray t)) w.heap.size t (List.replicate 8 0) := heap_alloc_new w _

theorem row8 {w : World} {g : Nat} {t : TypeId} {v0 v1 v2 v3 v4 v5 v6 v7 : Int} (h : IRow .i64 w g t [v0, v1, v2, v3, v4, v5, v6, v7]) : (w.cell? ⟨g, 0, none⟩ = some (.int .i64 v0) ∧ w.cell? ⟨g, 1, none⟩ = some (.int .i64 v1) ∧ w.cell? ⟨g, 2, none⟩ = some (.int .i64 v2) ∧ w.cell? ⟨g, 3, none⟩ = some (.int .i64 v3) ∧ w.cell? ⟨g, 4, none⟩ = some (.int .i64 v4) ∧ w.cell? ⟨g, 5, none⟩ = some (.int .i64 v5) ∧ w.cell? ⟨g, 6, none⟩ = some (.int .i64 v6) ∧ w.cell? ⟨g, 7, none⟩ = some (.int .i64 v7)) :=
  ⟨h.cell 0 (by simp), h.cell 1 (by simp), h.cell 2 (by simp), h.cell 3 (by simp), h.cell 4 (by simp), h.cell 5 (by simp), h.cell 6 (by simp), h.cell 7 (by simp)⟩
theorem row8_frozen {w : World} {g : Nat} {t : TypeId} {l : List Int} (h : IRow .i64 w g t l) : w.frozen? ⟨g, 0, none⟩ = false ∧ w.frozen? ⟨g, 1, none⟩ = false ∧ w.frozen? ⟨g, 2, none⟩ = false ∧ w.frozen? ⟨g, 3, none⟩ = false ∧ w.frozen? ⟨g, 4, none⟩ = false ∧ w.frozen? ⟨g, 5, none⟩ = false ∧ w.frozen? ⟨g, 6, none⟩ = false ∧ w.frozen? ⟨g, 7, none⟩ = false :=
  ⟨h.frozen 0, h.frozen 1, h.frozen 2, h.frozen 3, h.frozen 4, h.frozen 5, h.frozen 6, h.frozen 7⟩

theorem stored8 {w : World} {g : Nat} {t : TypeId} (v0 v1 v2 v3 v4 v5 v6 v7 : Int) (h : IRow .i64 w g t (List.replicate 8 0)) : IRow .i64 ((((((((w.setCell ⟨g, 0, none⟩ (.int .i64 v0)).setCell ⟨g, 1, none⟩ (.int .i64 v1)).setCell ⟨g, 2, none⟩ (.int .i64 v2)).setCell ⟨g, 3, none⟩ (.int .i64 v3)).setCell ⟨g, 4, none⟩ (.int .i64 v4)).setCell ⟨g, 5, none⟩ (.int .i64 v5)).setCell ⟨g, 6, none⟩ (.int .i64 v6)).setCell ⟨g, 7, none⟩ (.int .i64 v7)) g t [v0, v1, v2, v3, v4, v5, v6, v7] :=
  ((((((((h.set 0 v0).set 1 v1).set 2 v2).set 3 v3).set 4 v4).set 5 v5).set 6 v6).set 7 v7)
theorem stored8_below {B : Nat} {a w : World} {g : Nat} (v0 v1 v2 v3 v4 v5 v6 v7 : Int) (h : Below B a w) (hg : B ≤ g) : Below B a ((((((((w.setCell ⟨g, 0, none⟩ (.int .i64 v0)).setCell ⟨g, 1, none⟩ (.int .i64 v1)).setCell ⟨g, 2, none⟩ (.int .i64 v2)).setCell ⟨g, 3, none⟩ (.int .i64 v3)).setCell ⟨g, 4, none⟩ (.int .i64 v4)).setCell ⟨g, 5, none⟩ (.int .i64 v5)).setCell ⟨g, 6, none⟩ (.int .i64 v6)).setCell ⟨g, 7, none⟩ (.int .i64 v7)) :=
  ((((((((h.setCell (p := ⟨g, 0, none⟩) hg _).setCell (p := ⟨g, 1, none⟩) hg _).setCell (p := ⟨g, 2, none⟩) hg _).setCell (p := ⟨g, 3, none⟩) hg _).setCell (p := ⟨g, 4, none⟩) hg _).setCell (p := ⟨g, 5, none⟩) hg _).setCell (p := ⟨g, 6, none⟩) hg _).setCell (p := ⟨g, 7, none⟩) hg _)
theorem agg8 (w : World) : (isAgg 50).run Try.prog w = .ok true w := by simp [isAgg, run_underlying Try.underlying50]
theorem size8 : (Try.prog.info? 50).map (·.size) = some 8 := by kernel_rfl

set_option maxHeartbeats 800000 in
theorem laid_any (a : Option Addr) (cap : Nat) (v0 v1 v2 v3 v4 v5 v6 v7 : Int) (w : World) (hb : IntsAt .i64 w a [v0, v1, v2, v3, v4, v5, v6, v7]) :
    Calls Try.prog 54 #[.slice a 8 cap] w fun e w' => e = .returned (.agg #[.int .i64 v0, .int .i64 v1, .int .i64 v2, .int .i64 v3, .int .i64 v4, .int .i64 v5, .int .i64 v6, .int .i64 v7]) ∧ Below w.heap.size w w' := by
  have HB := Lib.hid ((hb.below ((Below.refl w.heap.size w).alloc (Nat.le_refl _) (.cells (cellsI .i64 (List.replicate 8 0)).toArray 50))).below ((Below.refl _ _).alloc (Nat.le_refl _) (.cells (cellsI .i64 (List.replicate 8 0)).toArray 50)))
  have HR := Lib.hid (two_row w 50)
  have HL := Lib.hid (two_laid w 50)
  have HO := Lib.hid (one_row w 50)
  clear hb
  go_enter Try.func54, Try.ntmps54
  go_wp2_with ((with_reducible show wpList _ _ _ (⟨some 6, _, _, _, _, _⟩ :: _) _ _); refine wpList_copyI rfl (.tmp 4) (.tmp 5) _ rfl 3 Try.underlying80 intSize .i64 (w.heap.size + 1) 0 (List.replicate 8 0) [v0, v1, v2, v3, v4, v5, v6, v7] 50 _ _ _ _ _ _ rfl rfl HR.out (by simp) (fun _ => rfl) HB.out (by simp) (w.heap.size + 1) _ HL.out (Nat.le_refl _) ?_
               intro w2 R2' B2'; have R2 := Lib.hid (show IRow _ _ _ _ [v0, v1, v2, v3, v4, v5, v6, v7] from (splice_whole (List.replicate 8 0) [v0, v1, v2, v3, v4, v5, v6, v7] (by simp)) ▸ R2'.out); have B2 := Lib.hid B2'; clear R2' B2'; 
               have R0 := Lib.hid (HO.out.below B2.out (by simp))
               obtain ⟨r0, r1, r2, r3, r4, r5, r6, r7⟩ := row8 R2.out
               obtain ⟨z0, z1, z2, z3, z4, z5, z6, z7⟩ := row8 (show IRow .i64 w2 w.heap.size 50 [0, 0, 0, 0, 0, 0, 0, 0] from R0.out)
               obtain ⟨q0, q1, q2, q3, q4, q5, q6, q7⟩ := row8_frozen R0.out)
  have R3 := stored8 v0 v1 v2 v3 v4 v5 v6 v7 R0.out
  have B3 := stored8_below (g := w.heap.size) v0 v1 v2 v3 v4 v5 v6 v7 (((Below.refl w.heap.size w).alloc (Nat.le_refl _) _).trans (B2.out.mono (Nat.le_succ _))) (Nat.le_refl _)
  refine bodyPost_ret (v := .agg #[.int .i64 v0, .int .i64 v1, .int .i64 v2, .int .i64 v3, .int .i64 v4, .int .i64 v5, .int .i64 v6, .int .i64 v7]) ?_ rfl ⟨rfl, B3⟩
  exact Agg.ret_row (l := [v0, v1, v2, v3, v4, v5, v6, v7]) rfl rfl (agg8 _) size8 R3
end Fm
end Go.Proofs.Ytpamegkbhdbheaa
