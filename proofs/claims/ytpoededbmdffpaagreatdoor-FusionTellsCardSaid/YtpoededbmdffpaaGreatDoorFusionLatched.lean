/-
  What Latched of package fusion returns: a contract by walking the Go text. Conditions: how a fusion lies.
-/
import Derived.Test.YtpoededbmdffpaaGreatDoorFusionKit
import Derived.Test.YtpoededbmdffpaaGreatDoorFixWalks
import Derived.Deep.LoopGhost
namespace Go.Proofs.YtpoededbmdffpaaGreatDoor
set_option maxRecDepth 100000
open Go.ChangeShapes Go.WideShapes Go.ChangeAt Go.RowKit Go.Deep
namespace Fu
open Cf (G)
open Sg (NN Si Face)
/-- Whether the j-th signal of whatever channel is latched; the mask of these. -/
def lbi (c : List Int) (m : Fs) (i : Int) (j : Nat) : Bool := Fx.has (Sg.lam c (m.s j)) i
def lamI (c : List Int) (m : Fs) (i : Int) : Int := Fx.bits ((List.range 8).map (lbi c m i))
theorem lamI_in (c : List Int) (m : Fs) {i : Nat} (h : i < 4) : lamI c m (i : Int) = lam c m i := by
  unfold lamI lam lal
  congr 2
  funext j
  unfold lbi lac
  exact lam_bit h
set_option maxHeartbeats 1600000 in
theorem latched_any {F : Face} {W : World} {P : Pl} {c : List Int} {m : Fs} (hR : Cf.Right c) (L : Lie F W P c m) (i : Int) :
    Calls Tryz.prog 21 #[.pointer (some ⟨P.f, 0, none⟩), .int .i64 i] W fun e w' => e = .returned (.int .i64 (lamI c m i)) ∧ Below W.heap.size W w' := by
  have CL := fun (V : World) (B : Below W.heap.size W V) (j : Nat) (hj : j < 8) => F.latched ((L.on B).sig j hj) hR
  have CH := fun (V : World) (j : Nat) => Fx.has_any (Sg.lam c (m.s j)) i V
  have hB0 := (Below.refl W.heap.size W).alloc (Nat.le_refl _) (.cells (((fillB (lbi c m i) 8 0).map Value.bool)).toArray 151)
  have hV0 := VRow.new W ((fillB (lbi c m i) 8 0).map Value.bool) 151
  have RG := Lib.hid (range_g (L.on hB0))
  have IG := fun (V : World) (j : Nat) (hj : j < 8) => index_g P hj V
  have SG := Lib.hid (sizeG P)
  have HF := Lib.hid (fillB_all (lbi c m i) 8)
  have hf : ∀ j, lbi c m i j = Fx.has (Sg.lam c (m.s j)) i := fun _ => rfl
  have hz : ((fillB (lbi c m i) 8 0).map Value.bool).toArray = #[.bool false, .bool false, .bool false, .bool false, .bool false, .bool false, .bool false, .bool false] := rfl
  have HE := Lib.hid (show Fx.bits ((List.range 8).map (lbi c m i)) = lamI c m i from rfl)
  rw [hz] at hB0 hV0 RG
  have HB0 := Lib.hid hB0
  have HV0 := Lib.hid hV0
  generalize lamI c m i = res at *
  generalize lbi c m i = f at *
  simp only [← hf] at CH
  generalize gs P = gl at *
  clear hB0 hV0 hz hf L hR
  go_enter Tryz.func21, Tryz.ntmps21
  go_wp2_with ((with_reducible show wpList _ _ _ (⟨some 13, _, _, _, _, _⟩ :: _) _ _); refine wpList_load_mid rfl _ _ rfl P.f 2 rfl gl _ RG.out Tryz.underlying91 rfl SG.out ?_)
  generalize W.alloc (.cells #[.bool false, .bool false, .bool false, .bool false, .bool false, .bool false, .bool false, .bool false] 151) = W1 at *
  go_loopg [6, 7, 14] 8 (fun gg _ _ s14 wr => ∃ k : Nat, k + gg = 8 ∧ s14 = .int .i64 k ∧ Hid (VRow wr W.heap.size 151 ((fillB f 8 k).map Value.bool)) ∧ Hid (Below W.heap.size W wr))
  case atStart => exact ⟨0, by omega, rfl, HV0, HB0⟩
  case round =>
    obtain ⟨k, hkg, rfl, HV, HB⟩ := hrel
    by_cases hk : k < 8
    · have hki : (k : Int) < 8 := by omega
      go_wp2_with (first
        | ((with_reducible show wpList _ _ _ (⟨some 17, _, _, _, _, _⟩ :: _) _ _); refine Ot.wpList_index rfl _ _ _ rfl gl.toArray k _ rfl rfl (IG _ k hk) ?_)
        | (go_at_call 61; refine (CL _ HB.out k hk).mono ?_; rintro e w1 ⟨rfl, b1⟩; have HB1 := Lib.hid (grow HB.out b1); have HV1 := Lib.hid (onB HV.out b1); clear b1)
        | (go_at_call 60; refine (CH _ k).mono ?_; rintro e w2 ⟨rfl, rfl⟩; obtain ⟨q0, cR⟩ := row_cell HV1.out hk; have fR := HV1.out.frozen k))
      go_roundg (gk - 1)
      case rel => exact ⟨k + 1, by omega, by go_num, Lib.hid (row_next HV1.out), Lib.hid (HB1.out.setCell (p := ⟨W.heap.size, k, none⟩) (Nat.le_refl _) _)⟩
      case measure => omega
    · obtain rfl : k = 8 := by omega
      have HB8 := Lib.hid (bools_row HV.out)
      have CB := Fx.bits_any (some ⟨W.heap.size, 0, none⟩) 8 _ wr (by rw [fillB_len]; decide) HB8.out
      rw [fillB_len, HF.out, HE.out] at CB
      go_wp2_with (go_at_call 62; refine CB.mono ?_; rintro e w2 ⟨rfl, rfl⟩)
      go_ret
      exact ⟨rfl, HB.out⟩
end Fu
end Go.Proofs.YtpoededbmdffpaaGreatDoor
