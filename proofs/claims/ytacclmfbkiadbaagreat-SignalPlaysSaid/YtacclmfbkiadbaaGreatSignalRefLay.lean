/-
  How the document's signal lies (rudderref18.Signal, one block of 56 cells), and who is in, by it. A contract by walking the Go text. Conditions: how it lies.
-/
import Derived.Test.YtacclmfbkiadbaaGreatJSignalNearWalk4
import Derived.Test.YtacclmfbkiadbaaGreatJFixWalks3
import Derived.Test.YtacclmfbkiadbaaGreatJTail5
namespace Go.Proofs.YtacclmfbkiadbaaGreat
set_option maxRecDepth 100000
open Go.ChangeShapes Go.WideShapes Go.ChangeAt Go.RowKit Go.Deep
namespace Sg
open Cf (G CA Box)
/-- The document's signal as cells. -/
def rsg (c : List Int) (rm : Value) (v : Int) (wt : Value) (cm : Nat → Value) (lv off : Nat → Int) (st : Nat → Lc.St) : List Value :=
  cellsI .i64 c ++ ([rm, .int .i64 v, wt, cm 0, cm 1, cm 2, cm 3, .int .i64 (lv 0), .int .i64 (lv 1), .int .i64 (lv 2), .int .i64 (lv 3), .int .i64 (off 0), .int .i64 (off 1), .int .i64 (off 2), .int .i64 (off 3)] ++ (lav (st 0) ++ (lav (st 1) ++ (lav (st 2) ++ lav (st 3)))))
section
variable {c : List Int} {rm wt : Value} {v : Int} {cm : Nat → Value} {lv off : Nat → Int} {st : Nat → Lc.St}
theorem rsg_at (hc : c.length = 21) (j : Nat) : (rsg c rm v wt cm lv off st)[21 + j]? = ([rm, .int .i64 v, wt, cm 0, cm 1, cm 2, cm 3, .int .i64 (lv 0), .int .i64 (lv 1), .int .i64 (lv 2), .int .i64 (lv 3), .int .i64 (off 0), .int .i64 (off 1), .int .i64 (off 2), .int .i64 (off 3)] ++ (lav (st 0) ++ (lav (st 1) ++ (lav (st 2) ++ lav (st 3)))))[j]? := by
  unfold rsg
  rw [List.getElem?_append_right (by rw [cellsI_len, hc]; omega), cellsI_len, hc]
  congr 1; omega
theorem rsg_la (hc : c.length = 21) (i : Nat) (hi : i < 4) : (rsg c rm v wt cm lv off st)[36 + i * 5]? = some (.bool (st i).la) := by
  rw [show 36 + i * 5 = 21 + (15 + i * 5) by omega, rsg_at hc]
  have : i = 0 ∨ i = 1 ∨ i = 2 ∨ i = 3 := by omega
  rcases this with rfl | rfl | rfl | rfl <;> rfl
theorem rsg_cfg (hc : c.length = 21) (i : Nat) (hi : i < 21) : (rsg c rm v wt cm lv off st)[i]? = some (.int .i64 (G c i)) := by
  unfold rsg
  rw [List.getElem?_append_left (by rw [cellsI_len, hc]; exact hi), cellsI_get _ _ _ (by rw [hc]; exact hi)]; rfl
end
set_option maxHeartbeats 3200000 in
theorem rinside_any {c : List Int} {rm wt : Value} {v : Int} {cm : Nat → Value} {lv off : Nat → Int} {st : Nat → Lc.St} {g : Nat} {t : TypeId} (x : Rw) (i : Nat) (tr sh : Int) (w : World) (hc : c.length = 21) (hi : i < 4) (hg : VRow w g t (rsg c rm v wt cm lv off st)) :
    Calls Tryz.prog 35 #[.pointer (some ⟨g, 0, none⟩), .int .i64 i, .agg #[.bool x.is, .int .i64 x.n], .int .i64 tr, .int .i64 sh] w fun e w' => e = .returned (.bool (x.is && !Fx.has tr 1 && !Fx.has tr 2 && !Fx.has sh i && !(st i).la)) ∧ Below w.heap.size w w' := by
  have B0 := Lib.hid ((Below.refl w.heap.size w).alloc (Nat.le_refl _) (.cells #[.bool x.is, .int .i64 x.n] 45))
  have c0 := VRow.cell (VRow.new w [.bool x.is, .int .i64 x.n] 45) 0 (v := .bool x.is) rfl
  have c1 := VRow.cell (hg.alloc (.cells #[.bool x.is, .int .i64 x.n] 45)) _ (rsg_la hc i hi)
  have H1 := fun W => Fx.rhas_any tr 1 W
  have H2 := fun W => Fx.rhas_any tr 2 W
  have H3 := fun W => Fx.rhas_any sh i W
  have hi4 : (i : Int) < 4 := by omega
  clear hg hc hi
  change (w.alloc (.cells #[.bool x.is, .int .i64 x.n] 45)).cell? _ = _ at c0
  generalize (st i).la = la at *
  generalize Fx.has tr 1 = b1 at *
  generalize Fx.has tr 2 = b2 at *
  generalize Fx.has sh i = b3 at *
  generalize x.is = ri at *
  generalize x.n = xn at *
  go_enter Tryz.func35, Tryz.ntmps35
  go_wp2_with fail
  refine (H1 _).mono ?_; rintro e w' ⟨rfl, rfl⟩
  go_wp2_with fail
  refine (H2 _).mono ?_; rintro e w' ⟨rfl, rfl⟩
  go_wp2_with fail
  refine (H3 _).mono ?_; rintro e w' ⟨rfl, rfl⟩
  generalize w.alloc (.cells #[.bool ri, .int .i64 xn] 45) = W0 at *
  clear H1 H2 H3
  cases ri
  · go_wp2_with fail
    go_ret
    exact ⟨rfl, B0.out⟩
  · cases b1
    · cases b2
      · cases b3
        · cases la
          · go_wp2_with fail
            go_ret
            exact ⟨rfl, B0.out⟩
          · go_wp2_with fail
            go_ret
            exact ⟨rfl, B0.out⟩
        · go_wp2_with fail
          go_ret
          exact ⟨rfl, B0.out⟩
      · go_wp2_with fail
        go_ret
        exact ⟨rfl, B0.out⟩
    · go_wp2_with fail
      go_ret
      exact ⟨rfl, B0.out⟩
theorem bits4n (f : Nat → Bool) : ((Fx.bitsN [f 0, f 1, f 2, f 3] : Nat) : Int) = mk4 f := by
  unfold mk4
  generalize f 0 = a
  generalize f 1 = b
  generalize f 2 = c
  generalize f 3 = d
  cases a <;> cases b <;> cases c <;> cases d <;> decide +kernel
set_option maxHeartbeats 3200000 in
theorem rlatched_any {c : List Int} {rm wt : Value} {v : Int} {cm : Nat → Value} {lv off : Nat → Int} {st : Nat → Lc.St} {g : Nat} {t : TypeId} (w : World) (hc : c.length = 21) (hg : VRow w g t (rsg c rm v wt cm lv off st)) :
    Calls Tryz.prog 14 #[.pointer (some ⟨g, 0, none⟩)] w fun e w' => e = .returned (.int .i64 (mk4 fun i => (st i).la)) ∧ Below w.heap.size w w' := by
  have c0 := VRow.cell hg _ (rsg_la hc 0 (by omega))
  have c1 := VRow.cell hg _ (rsg_la hc 1 (by omega))
  have c2 := VRow.cell hg _ (rsg_la hc 2 (by omega))
  have c3 := VRow.cell hg _ (rsg_la hc 3 (by omega))
  have CB : ∀ (b : Nat) (W : World), BoolsAt W (some ⟨b, 0, none⟩) [(st 0).la, (st 1).la, (st 2).la, (st 3).la] → Calls Tryz.prog 42 #[.slice (some ⟨b, 0, none⟩) 4 4] W fun e w' => e = .returned (.int .i64 (mk4 fun i => (st i).la)) ∧ W = w' := fun b W h => by
    have q := Fx.rbits_small (some ⟨b, 0, none⟩) 4 [(st 0).la, (st 1).la, (st 2).la, (st 3).la] W (by simp) h
    rwa [bits4n fun i => (st i).la] at q
  have HBA := Lib.hid (fun (W : World) (a b c d : Bool) => (show BoolsAt (W.alloc (.cells #[.bool a, .bool b, .bool c, .bool d] 4)) (some ⟨W.heap.size, 0, none⟩) [a, b, c, d] from Or.inr ⟨_, 0, rfl, fun i hi => by
    have h := VRow.new W [.bool a, .bool b, .bool c, .bool d] 4
    have : i = 0 ∨ i = 1 ∨ i = 2 ∨ i = 3 := by simp at hi; omega
    rcases this with rfl | rfl | rfl | rfl
    · exact h.cell 0 rfl
    · exact h.cell 1 rfl
    · exact h.cell 2 rfl
    · exact h.cell 3 rfl⟩))
  clear hg hc
  generalize (mk4 fun i => (st i).la) = mm at *
  generalize (st 0).la = l0 at *
  generalize (st 1).la = l1 at *
  generalize (st 2).la = l2 at *
  generalize (st 3).la = l3 at *
  go_enter Tryz.func14, Tryz.ntmps14
  go_wp2_with fail
  refine Tail.wp_region_quiet_tail 24 (by kernel_rfl) (by kernel_rfl) ?_
  simp only [List.take_succ_cons, List.take_zero, List.drop_succ_cons, List.drop_zero]
  repeat (go_big_quiet_step (fail))
  refine wpQuiet_nil ?_
  go_wp2_with fail
  refine (CB w.heap.size _ (show BoolsAt (w.alloc (.cells #[.bool l0, .bool l1, .bool l2, .bool l3] 4)).drew _ _ from HBA.out w l0 l1 l2 l3)).mono ?_; rintro e w' ⟨rfl, rfl⟩
  go_wp2
  go_ret
  exact ⟨rfl, ((Below.refl _ w).alloc (Nat.le_refl _) _).drew⟩
end Sg
end Go.Proofs.YtacclmfbkiadbaaGreat
