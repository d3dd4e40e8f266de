/-
  What shut and Shut of package fusion return: contracts by walking the Go text (a method value is called). Conditions: how a fusion lies.
-/
import Derived.Test.YtpoededbmdffpaaGreatDoorFusionLatched
import Derived.Test.YtpoededbmdffpaaGreatDoorSignalEnter
namespace Go.Proofs.YtpoededbmdffpaaGreatDoor
set_option maxRecDepth 100000
open Go.ChangeShapes Go.WideShapes Go.ChangeAt Go.RowKit Go.Deep
namespace Fu
open Cf (G)
open Sg (NN Si Face)
theorem isSh_eq {c : List Int} {m : Fs} (hR : Cf.Right c) {i : Nat} (hi : i < 4) : decide (G c 16 ≤ Fx.count (lamI c m (i : Int))) = isSh c m i := by
  rw [lamI_in c m hi, count_lam]
  unfold isSh
  by_cases h : i < NN c
  · rw [decide_eq_true h, Bool.true_and]
  · rw [decide_eq_false h, Bool.false_and, decide_eq_false_iff_not]
    have h0 : lal c m i = List.replicate 8 false := by
      unfold lal
      rw [List.eq_replicate_iff]
      refine ⟨by simp, fun b hb => ?_⟩
      obtain ⟨j, -, rfl⟩ := List.mem_map.1 hb
      unfold lac
      rw [decide_eq_false h]; rfl
    rw [h0]
    have hl : 1 ≤ G c 16 := by
      obtain ⟨-, -, -, -, -, -, -, -, -, -, -, -, -, -, -, -, h16, -⟩ := hR
      exact h16.1
    have : Fx.trues (List.replicate 8 false) = 0 := rfl
    omega
theorem sh_eq {c : List Int} {m : Fs} (hR : Cf.Right c) : Fx.bits ((List.range 4).map fun i : Nat => decide (G c 16 ≤ Fx.count (lamI c m (i : Int)))) = sh c m := by
  rw [show (List.range 4).map (fun i : Nat => decide (G c 16 ≤ Fx.count (lamI c m (i : Int)))) = (List.range 4).map (isSh c m) from List.map_congr_left fun i hi => isSh_eq hR (List.mem_range.1 hi)]
  exact Sg.bits4 (isSh c m)
set_option maxHeartbeats 1600000 in
theorem shut_any {F : Face} {W : World} {P : Pl} {c : List Int} {m : Fs} (hR : Cf.Right c) (L : Lie F W P c m) :
    Calls Tryz.prog 58 #[.int .i64 (G c 16), .func (.func 21) #[.pointer (some ⟨P.f, 0, none⟩)] #[]] W fun e w' => e = .returned (.int .i64 (sh c m)) ∧ Below W.heap.size W w' := by
  have CL := fun (V : World) (B : Below W.heap.size W V) (i : Int) => latched_any hR (L.on B) i
  have CC := fun (V : World) (i : Int) => Fx.count_any (lamI c m i) V
  obtain ⟨f, hf⟩ : ∃ f : Nat → Bool, f = fun i : Nat => decide (G c 16 ≤ Fx.count (lamI c m (i : Int))) := ⟨_, rfl⟩
  have HE := Lib.hid (show Fx.bits ((List.range 4).map f) = sh c m from by rw [hf]; exact sh_eq hR)
  have hB0 := (Below.refl W.heap.size W).alloc (Nat.le_refl _) (.cells (((fillB f 4 0).map Value.bool)).toArray 202)
  have hV0 := VRow.new W ((fillB f 4 0).map Value.bool) 202
  have HF := Lib.hid (fillB_all f 4)
  have hz : ((fillB f 4 0).map Value.bool).toArray = #[.bool false, .bool false, .bool false, .bool false] := rfl
  rw [hz] at hB0 hV0
  have HB0 := Lib.hid hB0
  have HV0 := Lib.hid hV0
  have FE := Lib.hid (show ∀ k : Nat, decide (G c 16 ≤ Fx.count (lamI c m (k : Int))) = f k from fun k => by rw [hf])
  generalize sh c m = res at *
  generalize G c 16 = lim at *
  generalize lamI c m = ll at *
  clear hB0 hV0 hz L hR hf
  go_enter Tryz.func58, Tryz.ntmps58
  go_wp2_with fail
  generalize W.alloc (.cells #[.bool false, .bool false, .bool false, .bool false] 202) = W1 at *
  go_loopg [6, 7] 4 (fun gg _ s7 wr => ∃ k : Nat, k + gg = 4 ∧ s7 = .int .i64 k ∧ Hid (VRow wr W.heap.size 202 ((fillB f 4 k).map Value.bool)) ∧ Hid (Below W.heap.size W wr))
  case atStart => exact ⟨0, by omega, rfl, HV0, HB0⟩
  case round =>
    obtain ⟨k, hkg, rfl, HV, HB⟩ := hrel
    by_cases hk : k < 4
    · have hki : (k : Int) < 4 := by omega
      have fk := FE.out k
      go_wp2_with (first
        | (go_at_call 21; refine (CL _ HB.out k).mono ?_; rintro e w1 ⟨rfl, b1⟩; have HB1 := Lib.hid (grow HB.out b1); have HV1 := Lib.hid (onB HV.out b1); clear b1)
        | (go_at_call 99; refine (CC _ k).mono ?_; rintro e w2 ⟨rfl, rfl⟩; obtain ⟨q0, cR⟩ := row_cell HV1.out hk; have fR := HV1.out.frozen k))
      go_roundg (gk - 1)
      case rel => exact ⟨k + 1, by omega, by go_num, Lib.hid (row_next HV1.out), Lib.hid (HB1.out.setCell (p := ⟨W.heap.size, k, none⟩) (Nat.le_refl _) _)⟩
      case measure => omega
    · obtain rfl : k = 4 := by omega
      have HB8 := Lib.hid (bools_row HV.out)
      have CB := Fx.bits_any (some ⟨W.heap.size, 0, none⟩) 4 _ wr (by rw [fillB_len]; decide) HB8.out
      rw [fillB_len, HF.out, HE.out] at CB
      go_wp2_with (go_at_call 62; refine CB.mono ?_; rintro e w2 ⟨rfl, rfl⟩)
      go_ret
      exact ⟨rfl, HB.out⟩
theorem Shut_any {F : Face} {W : World} {P : Pl} {c : List Int} {m : Fs} (hR : Cf.Right c) (L : Lie F W P c m) :
    Calls Tryz.prog 19 #[.pointer (some ⟨P.f, 0, none⟩)] W fun e w' => e = .returned (.int .i64 (sh c m)) ∧ Below W.heap.size W w' := by
  have CS := shut_any hR L
  have c0 := L.fus.cell 0 (v := .int .i64 (G c 16)) rfl
  have hmf : ∀ (fn : Fn) (first cap : Array Value) (w : World), (Instr.makeFunc fn first cap).run Tryz.prog w = .ok (.func fn first cap) w := fun _ _ _ _ => rfl
  generalize sh c m = res at *
  generalize G c 16 = lim at *
  clear L hR
  go_enter Tryz.func19, Tryz.ntmps19
  go_wp2_with (go_at_call 58; refine CS.mono ?_; rintro e w1 ⟨rfl, b1⟩)
  go_ret
  exact ⟨rfl, b1⟩
end Fu
end Go.Proofs.YtpoededbmdffpaaGreatDoor
