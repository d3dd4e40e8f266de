/-
  A fusion while a law goes on; the small configuration, and a slot, by package rudderlaw20: contracts by walking the Go text. No conditions beyond those said.
-/
import Derived.Test.YtpoededbmdffpaaGreatDoorFusionStep
import Derived.Test.YtpoededbmdffpaaGreatDoorFusionMake
import Derived.Test.YtpoededbmdffpaaGreatDoorFusionObs
import Derived.Test.YtpoededbmdffpaaGreatDoorFusionSmall
import Derived.Test.YtpoededbmdffpaaGreatDoorFrameEnc
namespace Go.Proofs.YtpoededbmdffpaaGreatDoor
set_option maxRecDepth 100000
open Go.ChangeShapes Go.WideShapes Go.ChangeAt Go.RowKit Go.Deep
namespace Fu
open Cf (G CA)
open Sg (NN Si Face)
open Ot (ouc zou)
/-- A fusion that a law has made, while the law goes on: all its blocks are new since w. -/
structure Hd (F : Face) (w W : World) (P : Pl) (c : List Int) (m : Fs) : Prop where
  lie : Lie F W P c m
  below : Below w.heap.size w W
  new : ∀ b, P.col b ≠ 0 → w.heap.size ≤ b
  tab : Tp.TabAt W
  ok : Ok c m
section
variable {F : Face} {w W W' : World} {P P' : Pl} {c : List Int} {m m' : Fs} {y : Nat → Sl}
theorem Hd.on (H : Hd F w W P c m) (b : Below W.heap.size W W') : Hd F w W' P c m := ⟨H.lie.on b, grow H.below b, H.new, H.tab.below b, H.ok⟩
theorem Hd.step (H : Hd F w W P c m) (hR : Cf.Right c) (hy : Yok c y) (g : Goes F W P W' P' c (nx c m y)) : Hd F w W' P' c (nx c m y) :=
  ⟨g.lie, But.below H.below g.but H.below.size (fun i hi => H.new i hi), fun b hb => (g.more b hb).elim (H.new b) (fun q => Nat.le_trans H.below.size q), g.tab H.tab H.lie.tz, ok_nx hR hy H.ok⟩
theorem Hd.many (H : Hd F w W P c m) (hk : m.k < 8589934592) : m.notes.length < 1099511627776 := by
  have := H.ok.n
  omega
end
/-- Bytes lie where bytes lie. -/
theorem u8_apart {X : World} {a : Option Addr} {l : List Int} {b : Nat} {t : TypeId} {cs : List Value} (h : IntsAt .u8 X a l) (hl : 0 < l.length) (v : VRow X b t cs) (hn : ∀ u, u ∈ cs → ∀ x, u ≠ .int .u8 x) : ∀ ad, a = some ad → ¬ ad.block = b := by
  rcases h with h | ⟨b', off, rfl, hc⟩
  · rw [h] at hl; simp at hl
  · rintro ad e eb
    cases e
    have h0 := hc 0 hl
    replace eb : b' = b := eb
    subst eb
    rw [cell_of_row X b' (off + 0) _ t (0, 0) v] at h0
    exact hn _ (List.mem_of_getElem? (l := cs) (by simpa using h0)) _ rfl
set_option maxHeartbeats 800000 in
theorem small_any (w : World) : Calls Tryz.prog 30 #[] w fun e w' => e = .returned (.agg (CA cS)) ∧ Below w.heap.size w w' := by
  have V := Lib.hid (VRow.new w (cellsI .i64 (List.replicate 21 0)) 24)
  have SZ : (Tryz.prog.info? 24).map (·.size) = some (cellsI .i64 cS).length := by
    rw [show (cellsI .i64 cS).length = 21 from rfl]; kernel_rfl
  have HS := Lib.hid SZ
  have AG : ∀ W : World, (isAgg 24).run Tryz.prog W = .ok true W := fun W => by simp [isAgg, run_underlying Tryz.underlying24]
  have HA := Lib.hid AG
  clear SZ AG
  go_enter Tryz.func30, Tryz.ntmps30
  go_wp2_with (first
    | ((with_reducible show wpList _ _ _ (⟨_, .alloc 24, _, _, _, _⟩ :: _) _ _); refine wpList_lay rfl _ rfl (cellsI .i64 (List.replicate 21 0)) (fun _ => by kernel_rfl) ?_)
    | ((with_reducible show wpList _ _ _ (⟨some 2, _, _, _, _, _⟩ :: _) _ _); refine Rg.wpList_buildTo rfl _ _ rfl (cellsI .i64 cS).toArray (by kernel_rfl) ?_)
    | ((with_reducible show wpList _ _ _ (⟨none, .store _ (.tmp 0) _, _, _, _, _⟩ :: _) _ _); refine VB.store rfl _ _ rfl w.heap.size (cellsI .i64 cS) rfl rfl V.out HS.out rfl (all_oneCell_toArray (cellsI_one _ _)) ?_))
  exact bodyPost_ret (VB.ret1 rfl rfl (HA.out _) HS.out (V.out.put (cellsI .i64 cS))) rfl ⟨rfl, Below.put ((Below.refl _ w).alloc (Nat.le_refl _) _) (Nat.le_refl _) _⟩
set_option maxHeartbeats 800000 in
theorem slot_any (ch sq n : Int) (w : World) (hr : Fm.right sq (List.replicate 8 n) = true) (hc : Fm.chan ch = true) :
    Calls Tryz.prog 31 #[.int .i64 ch, .int .i64 sq, .int .i64 n] w fun e w' => ∃ a cap, e = .returned (.agg #[.bool true, .slice a 38 cap]) ∧ IntsAt .u8 w' a (Fm.enc ch sq (List.replicate 8 n)) ∧ 38 ≤ cap ∧ Below w.heap.size w w' := by
  have CE := fun W => Fm.enc_yes_any ch sq n n n n n n n n W hr hc
  unfold Fm.RetCE at CE
  simp only [show ([n, n, n, n, n, n, n, n] : List Int) = List.replicate 8 n from rfl] at CE
  rw [Fm.encE_yes hr hc, Fm.enc_len hr hc (by simp)] at CE
  have HEL := Lib.hid (Fm.enc_len hr hc (by simp))
  have V := Lib.hid (VRow.new w [.bool false, .slice none 0 0] 45)
  have B := Lib.hid ((Below.refl w.heap.size w).alloc (Nat.le_refl _) (.cells #[.bool false, .slice none 0 0] 45))
  have SZ := Lib.hid (show (Tryz.prog.info? 45).map (·.size) = some 2 by kernel_rfl)
  have AG := Lib.hid (show ∀ W : World, (isAgg 45).run Tryz.prog W = .ok true W from fun W => by simp [isAgg, run_underlying Tryz.underlying45])
  clear hr hc
  go_enter Tryz.func31, Tryz.ntmps31
  go_upto_region 1 with fail
  generalize w.alloc (.cells #[.bool false, .slice none 0 0] 45) = W1 at *
  go_wp2_with (first
    | (go_at_call 70; refine (CE _).mono ?_; rintro e w1 ⟨a, cap, rfl, i1, m1, b1⟩; have B1 := Lib.hid (grow B.out b1); have V1 := Lib.hid (onB V.out b1); have I1 := Lib.hid i1; have M1 := Lib.hid m1; clear i1 m1 b1)
    | ((with_reducible show wpList _ _ _ (⟨none, .store _ (.tmp 6) _, _, _, _, _⟩ :: _) _ _); refine VB.store rfl _ _ rfl w.heap.size [.bool true, .slice a 38 cap] rfl rfl V1.out SZ.out rfl (by simp [Value.oneCell']) ?_))
  have IE := I1.out.but ((But.refl (· = w.heap.size) w1).put (g := w.heap.size) (Or.inl rfl) ([.bool true, .slice a 38 cap] : List Value).toArray) (fun ad e => ?_)
  · exact bodyPost_ret ((VB.ret1 (cs := [.bool true, .slice a 38 cap]) rfl rfl (AG.out _) SZ.out (V1.out.put _)).trans rfl) rfl ⟨a, cap, rfl, IE, M1.out, Below.put B1.out (Nat.le_refl _) _⟩
  · exact u8_apart I1.out (by rw [HEL.out]; decide) V1.out (by intro v hv x e; simp at hv; rcases hv with rfl | rfl <;> cases e) ad e
end Fu
end Go.Proofs.YtpoededbmdffpaaGreatDoor
