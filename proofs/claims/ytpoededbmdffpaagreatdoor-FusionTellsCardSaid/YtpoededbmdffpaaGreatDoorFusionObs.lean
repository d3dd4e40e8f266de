/-
  What Cycles, Lost, Notes, Rejects and State of package fusion return: contracts by walking the Go text. Conditions: how a fusion lies.
-/
import Derived.Test.YtpoededbmdffpaaGreatDoorFusionShut
import Derived.Test.YtpoededbmdffpaaGreatDoorRingAll
import Derived.Test.YtpoededbmdffpaaGreatDoorFreshObs
import Derived.Test.YtpoededbmdffpaaGreatDoorSignalLoad
namespace Go.Proofs.YtpoededbmdffpaaGreatDoor
set_option maxRecDepth 100000
open Go.ChangeShapes Go.WideShapes Go.ChangeAt Go.RowKit Go.Deep
namespace Fu
open Cf (G)
open Sg (NN Si Face lav)
section
variable {F : Face} {W : World} {P : Pl} {c : List Int} {m : Fs}
theorem cycles_any (L : Lie F W P c m) : Calls Tryz.prog 18 #[.pointer (some ⟨P.f, 0, none⟩)] W fun e w' => e = .returned (.int .i64 m.k) ∧ W = w' := by
  have c11 := L.fus.cell 11 (v := .int .i64 m.k) rfl
  clear L
  go_enter Tryz.func18, Tryz.ntmps18
  go_wp2
  go_ret
  exact ⟨rfl, rfl⟩
theorem lost_any (L : Lie F W P c m) (hl : m.notes.length < 1099511627776) : Calls Tryz.prog 20 #[.pointer (some ⟨P.f, 0, none⟩)] W fun e w' => e = .returned (.int .i64 (Rg.lost m.notes : Nat)) ∧ W = w' := by
  have c10 := L.fus.cell 10 (v := ptr P.r) rfl
  have CL := Rg.lost_any P.r m.notes W L.rng hl
  clear L
  unfold ptr at c10
  go_enter Tryz.func20, Tryz.ntmps20
  go_wp2_with (go_at_call 59; refine CL.mono ?_; rintro e w1 ⟨rfl, rfl⟩)
  go_ret
  exact ⟨rfl, rfl⟩
theorem notes_any (L : Lie F W P c m) (hl : m.notes.length < 1099511627776) : Calls Tryz.prog 17 #[.pointer (some ⟨P.f, 0, none⟩)] W (Rg.RetN W (Rg.lasts m.notes)) := by
  have c10 := L.fus.cell 10 (v := ptr P.r) rfl
  have CL := Rg.all_any P.r m.notes W L.rng hl
  clear L
  unfold ptr at c10
  unfold Rg.RetN at *
  go_enter Tryz.func17, Tryz.ntmps17
  go_wp2_with (go_at_call 57; refine CL.mono ?_; rintro e w1 ⟨a, cap, rfl, i1, b1⟩; have I1 := Lib.hid i1; have B1 := Lib.hid b1; clear i1 b1)
  go_ret
  exact ⟨a, cap, rfl, I1.out, B1.out⟩
theorem agg7 (w : World) : (isAgg 61).run Tryz.prog w = .ok true w := by simp [isAgg, run_underlying Tryz.underlying61]
theorem size7 : (Tryz.prog.info? 61).map (·.size) = some 7 := by kernel_rfl
set_option maxHeartbeats 800000 in
theorem rejects_yes (L : Lie F W P c m) {i : Nat} (hi : i < NN c) (h7 : (m.t i).n.length = 7) : Calls Tryz.prog 22 #[.pointer (some ⟨P.f, 0, none⟩), .int .i64 i] W fun e w' => e = .returned (.agg (cellsI .i64 (m.t i).n).toArray) ∧ Below W.heap.size W w' := by
  have hb := (Below.refl W.heap.size W).alloc (Nat.le_refl _) (.cells (cellsI .i64 (List.replicate 7 0)).toArray 61)
  have L1 := L.on hb
  have c1 := L1.fus.cell 1 (v := .slice (some ⟨P.tb, 0, none⟩) (NN c) P.cap) rfl
  have tc : (W.alloc (.cells (cellsI .i64 (List.replicate 7 0)).toArray 61)).cell? ⟨P.tb, i, none⟩ = some (ptr (P.h i)) := by
    obtain ⟨cs, t, h1, h2⟩ := L1.tab
    exact h1.cell i (h2 i hi)
  have CC := Fh.counts_any (P.h i) (i : Int) (m.t i).last (m.t i).has (m.t i).n _ (L1.trk i hi) h7
  have V0 := Lib.hid (VRow.new W (cellsI .i64 (List.replicate 7 0)) 61)
  have hii : (i : Int) < NN c := by omega
  have HB := Lib.hid hb
  unfold ptr at tc
  generalize (m.t i).n = q at *
  have H7 := Lib.hid h7
  clear L L1 hb h7
  go_enter Tryz.func22, Tryz.ntmps22
  go_upto_region 1 with ((with_reducible show wpList _ _ _ (⟨_, .alloc 61, _, _, _, _⟩ :: _) _ _); refine wpList_lay rfl _ rfl (cellsI .i64 (List.replicate 7 0)) (fun _ => by kernel_rfl) ?_)
  generalize W.alloc (.cells (cellsI .i64 (List.replicate 7 0)).toArray 61) = W1 at *
  go_wp2_with (first
    | (go_at_call 63; refine CC.mono ?_; rintro e w1 ⟨rfl, b1⟩; have B1 := Lib.hid (grow HB.out b1); have V1 := Lib.hid (onB V0.out b1); clear b1)
    | ((with_reducible show wpList _ _ _ (⟨none, .store _ (.tmp 4) _, _, _, _, _⟩ :: _) _ _); refine VB.store rfl _ _ rfl W.heap.size (cellsI .i64 q) rfl rfl V1.out (by rw [cellsI_len, H7.out]; exact size7) (by rw [cellsI_len, cellsI_len, H7.out]; rfl) (all_oneCell_toArray (cellsI_one _ _)) ?_))
  exact bodyPost_ret (VB.ret1 rfl rfl (agg7 _) (by rw [cellsI_len, H7.out]; exact size7) (V1.out.put (cellsI .i64 q))) rfl ⟨rfl, Below.put B1.out (Nat.le_refl _) _⟩
theorem aggLt (w : World) : (isAgg 54).run Tryz.prog w = .ok true w := by simp [isAgg, run_underlying Tryz.underlying54]
theorem sizeLt (s : Lc.St) : (Tryz.prog.info? 54).map (·.size) = some (lav s).length := by
  rw [show (lav s).length = 5 from rfl]; kernel_rfl
set_option maxHeartbeats 800000 in
theorem state_yes (hR : Cf.Right c) (L : Lie F W P c m) {i j : Nat} (hi : i < NN c) (hj : j < 8) : Calls Tryz.prog 16 #[.pointer (some ⟨P.f, 0, none⟩), .int .i64 i, .int .i64 j] W fun e w' => e = .returned (.tuple #[.agg (lav ((m.s j).ch i).st).toArray, .bool true]) ∧ Below W.heap.size W w' := by
  have hb := (Below.refl W.heap.size W).alloc (Nat.le_refl _) (.cells (lav Lc.zer).toArray 54)
  have L1 := L.on hb
  have cj := L1.fus.cell (2 + j) (fcs_g P c m.k hj)
  have CS := F.state_yes i (L1.sig j hj) hR hi
  have V0 := Lib.hid (VRow.new W (lav Lc.zer) 54)
  have hjj : (j : Int) < 8 := by omega
  have HB := Lib.hid hb
  unfold ptr at cj
  generalize ((m.s j).ch i).st = st at *
  clear L L1 hb
  go_enter Tryz.func16, Tryz.ntmps16
  go_upto_region 1 with ((with_reducible show wpList _ _ _ (⟨_, .alloc 54, _, _, _, _⟩ :: _) _ _); refine wpList_lay rfl _ rfl (lav Lc.zer) (fun _ => by kernel_rfl) ?_)
  generalize W.alloc (.cells (lav Lc.zer).toArray 54) = W1 at *
  go_wp2_with (first
    | (go_at_call 56; refine CS.mono ?_; rintro e w1 ⟨rfl, b1⟩; have B1 := Lib.hid (grow HB.out b1); have V1 := Lib.hid (onB V0.out b1); clear b1)
    | ((with_reducible show wpList _ _ _ (⟨none, .store _ (.tmp 6) _, _, _, _, _⟩ :: _) _ _); refine VB.store rfl _ _ rfl W.heap.size (lav st) rfl rfl V1.out (sizeLt st) rfl (Sg.lav_one st) ?_))
  exact bodyPost_ret ((VB.ret2 (cs := lav st) rfl rfl (aggLt _) (sizeLt st) (V1.out.put (lav st))).trans rfl) rfl ⟨rfl, Below.put B1.out (Nat.le_refl _) _⟩
end
end Fu
end Go.Proofs.YtpoededbmdffpaaGreatDoor
