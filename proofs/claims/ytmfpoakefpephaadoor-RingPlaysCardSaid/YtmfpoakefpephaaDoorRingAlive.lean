/-
  The live question of layer 17's statements: it is answered true. Condition: the tables lie in memory as the text lays them.
-/
import Derived.Test.YtmfpoakefpephaaDoorRingText
import Derived.Test.YtmfpoakefpephaaDoorRingRef
namespace Go.Proofs.YtmfpoakefpephaaDoor
open Go.ChangeShapes Go.WideShapes Go.ChangeAt Go.RowKit Go.Deep
namespace Rg
open Fx

/-- A ring that the call itself made, while the world goes on. -/
structure Kept (w W : World) (g : Nat) (l : List Nt) : Prop where
  below : Below w.heap.size w W
  ring : RingAt W g l
  ge : w.heap.size ≤ g
theorem Kept.on {w W W' : World} {g : Nat} {l : List Nt} (h : Kept w W g l) (b : Below W.heap.size W W') : Kept w W' g l := ⟨grow h.below b, onI h.ring b, h.ge⟩
theorem Kept.take {w W W' : World} {g : Nat} {l l' : List Nt} (h : Kept w W g l) (r : RingAt W' g l') (o : Only g W W') : Kept w W' g l' := ⟨o.below h.below h.below.size h.ge, r, h.ge⟩
theorem Kept.new (w : World) : Kept w (w.alloc (.cells (cellsI .i64 (rgc [])).toArray 40)) w.heap.size [] :=
  ⟨(Below.refl w.heap.size w).alloc (Nat.le_refl _) _, VRow.new w _ _, Nat.le_refl _⟩

/-! A note's variable, made and stored. -/
def zob : Obj := .cells #[.int .i64 0, .int .i64 0, .int .i64 0, .int .i64 0, .int .i64 0] 29
theorem lay_new (W : World) (n : Nt) : VRow ((W.alloc zob).setRow W.heap.size (ntr n).toArray) W.heap.size 29 (ntr n) := (VRow.new W (ntr nz) _).put (ntr n)
theorem lay_below {B : Nat} {w W : World} (h : Below B w W) (hB : B ≤ W.heap.size) (n : Nt) : Below B w ((W.alloc zob).setRow W.heap.size (ntr n).toArray) := Below.put (h.alloc hB zob) hB _

def n0 : Nt := ⟨12, 3, 7, 2, 34⟩
def nk (k : Nat) : Nt := ⟨k, 0, 0, 0, 0⟩
def cm (k : Nat) : List Nt := n0 :: (List.range k).map nk
theorem cm_next (k : Nat) : cm (k + 1) = cm k ++ [nk k] := by unfold cm; rw [List.range_succ]; simp
theorem cm_len (k : Nat) : (cm k).length = k + 1 := by unfold cm; simp
theorem cm_last : lasts (cm 32) = (List.range 32).map nk := rfl
theorem cm_lost : lost (cm 32) = 1 := rfl
theorem rgn_n0 : rgn n0 = true := by decide
theorem rgn_nk (k : Nat) : rgn (nk k) = true := by rw [rgn_iff]; simp [nk]
theorem txt_34 : Tp.txt 34 = [114, 97, 110, 103, 101, 43, 109, 105, 115] := by decide +kernel
theorem txn_n0 : txn n0 = [99, 121, 99, 108, 101, 32, 49, 50, 32, 99, 104, 97, 110, 110, 101, 108, 32, 51, 32, 115, 105, 103, 110, 97, 108, 32, 55, 32, 111, 117, 116, 32, 114, 97, 110, 103, 101, 43, 109, 105, 115] := by
  have a1 : Lib.itoa 12 = [49, 50] := by rw [show (12 : Int) = ((12 : Nat) : Int) from rfl, itoa_nat, dec_big (by omega), dec_small (by omega)]; rfl
  have a2 : Lib.itoa 3 = [51] := itoa_one 3 (by omega)
  have a3 : Lib.itoa 7 = [55] := itoa_one 7 (by omega)
  rw [txn_yes rgn_n0, txp_eq]
  show [99, 121, 99, 108, 101, 32] ++ Lib.itoa 12 ++ [32, 99, 104, 97, 110, 110, 101, 108, 32] ++ Lib.itoa 3 ++ [32, 115, 105, 103, 110, 97, 108, 32] ++ Lib.itoa 7 ++ [32] ++ knm 2 ++ [32] ++ Tp.txt 34 = _
  rw [a1, a2, a3, txt_34]
  rfl
theorem text_n0 (W : World) (h : Tabs W) : Calls Tryd.prog 15 #[ntv n0] W fun e w' => e = .returned (.string ⟨#[99, 121, 99, 108, 101, 32, 49, 50, 32, 99, 104, 97, 110, 110, 101, 108, 32, 51, 32, 115, 105, 103, 110, 97, 108, 32, 55, 32, 111, 117, 116, 32, 114, 97, 110, 103, 101, 43, 109, 105, 115]⟩) ∧ Below W.heap.size W w' := by
  have := text_any n0 W (by decide) h
  rwa [txn_n0] at this
theorem right_n0 (W : World) (h : Tabs W) : Calls Tryd.prog 14 #[ntv n0] W fun e w' => e = .returned (.bool true) ∧ Below W.heap.size W w' := by
  have := right_any n0 W h.trips
  rwa [rgn_n0] at this
theorem right_64 (W : World) (h : Tabs W) : Calls Tryd.prog 14 #[ntv ⟨0, 0, 0, 0, 64⟩] W fun e w' => e = .returned (.bool false) ∧ Below W.heap.size W w' := by
  have := right_any ⟨0, 0, 0, 0, 64⟩ W h.trips
  rwa [show rgn ⟨0, 0, 0, 0, 64⟩ = false by decide] at this
theorem add_4 (g : Nat) (W : World) (h : Tabs W) : Calls Tryd.prog 7 #[.pointer (some ⟨g, 0, none⟩), ntv ⟨0, 4, 0, 0, 0⟩] W fun e w' => e = .returned (.int .i64 1) ∧ Below W.heap.size W w' :=
  add_no g ⟨0, 4, 0, 0, 0⟩ W h.trips (by decide)

set_option maxHeartbeats 3200000 in
theorem alive_any (w : World) (hT : Tabs w) : Calls Tryd.prog 5 #[] w fun e w' => e = .returned (.bool true) ∧ Below w.heap.size w w' := by
  have C1 := new_any w
  have K1 := Lib.hid (Kept.new w)
  have C2 := fun W (t : Tabs W) (r : RingAt W w.heap.size []) => add_yes w.heap.size [] n0 W t.trips r (by simp) rgn_n0
  have C3 := fun W t => add_4 w.heap.size W t
  have C4 := fun k W (t : Tabs W) (r : RingAt W w.heap.size (cm k)) (h : k < 32) => add_yes w.heap.size (cm k) (nk k) W t.trips r (by rw [cm_len]; omega) (rgn_nk k)
  have C5 := fun W (r : RingAt W w.heap.size (cm 32)) => all_any w.heap.size (cm 32) W r (by rw [cm_len]; omega)
  have C6 := fun W (r : RingAt W w.heap.size (cm 32)) => lost_any w.heap.size (cm 32) W r (by rw [cm_len]; omega)
  rw [cm_lost] at C6
  have D1 := text_n0
  have D2 := right_n0
  have D3 := right_64
  have HT := Lib.hid hT
  clear hT
  dsimp only [ntv, n0, nk] at C2 C3 C4 D1 D2 D3
  go_enter Tryd.func5, Tryd.ntmps5
  have hsz : (w.alloc (.cells (cellsI .i64 (rgc [])).toArray 40)).heap.size = w.heap.size + 1 := by simp
  have V2 := VRow.new (w.alloc (.cells (cellsI .i64 (rgc [])).toArray 40)) (ntr n0) 29
  have K2 := Lib.hid (K1.out.on ((Below.refl _ _).alloc (Nat.le_refl _) (.cells (ntr n0).toArray 29)))
  rw [hsz] at V2
  replace V2 := Lib.hid V2
  clear hsz K1
  unfold ntr n0 at V2 K2
  dsimp only at V2 K2
  go_wp2_with (go_at_call 6; refine C1.mono ?_; rintro e w1 ⟨rfl, rfl⟩)
  generalize (w.alloc (.cells (cellsI .i64 (rgc [])).toArray 40)).alloc (.cells #[.int .i64 12, .int .i64 3, .int .i64 7, .int .i64 2, .int .i64 34] 29) = W2 at *
  refine (C2 _ (HT.out.below K2.out.below) K2.out.ring).mono ?_; rintro e w3 ⟨rfl, r3, o3⟩
  have V3 := Lib.hid (VRow.only V2.out o3 (by omega))
  have K3 := Lib.hid (K2.out.take r3 o3)
  clear r3 o3 C1 C2 V2 K2
  go_wp2_with fail
  refine (C3 _ (HT.out.below K3.out.below)).mono ?_; rintro e w4 ⟨rfl, b4⟩
  have V4 := Lib.hid (onB V3.out b4)
  have K4 := Lib.hid (show Kept w w4 w.heap.size (cm 0) from K3.out.on b4)
  clear b4 C3 V3 K3
  go_wp2
  go_loopg [5, 22] 32 (fun gg s5 _ wr => ∃ k : Nat, k + gg = 32 ∧ s5 = .int .i64 k ∧ Hid (VRow wr (w.heap.size + 1) 29 (ntr n0)) ∧ Hid (Kept w wr w.heap.size (cm k)))
  case atStart => exact ⟨0, by omega, rfl, V4, K4⟩
  case round =>
    obtain ⟨k, hk, rfl, V, K⟩ := hrel
    by_cases hlt : k < 32
    · have hli : (k : Int) < 32 := by omega
      go_wp2_with fail
      refine (C4 k _ (HT.out.below K.out.below) K.out.ring hlt).mono ?_; rintro e w5 ⟨rfl, r5, o5⟩
      have V5 := Lib.hid (VRow.only V.out o5 (by omega))
      have K5 := Lib.hid (show Kept w w5 w.heap.size (cm (k + 1)) by rw [cm_next]; exact K.out.take r5 o5)
      clear r5 o5
      go_wp2
      go_roundg (gk - 1)
      case rel => exact ⟨k + 1, by omega, by go_num, V5, K5⟩
      case measure => omega
    · obtain rfl : k = 32 := by omega
      clear V4 K4 C4
      go_wp2_with fail
      refine (C5 _ K.out.ring).mono ?_; rintro e w6 ⟨a, cap, rfl, hcap, ha, b6⟩
      rw [cm_last] at ha hcap ⊢
      simp only [List.length_map, List.length_range] at hcap ⊢
      obtain ⟨b, off, rfl, hat⟩ := ha.at (by simp)
      have p0 : w6.cell? ⟨b, off, none⟩ = some (.int .i64 0) := (hat 0 (nk 0) rfl).1
      have p31 : w6.cell? ⟨b, off + 155, none⟩ = some (.int .i64 31) := (hat 31 (nk 31) rfl).1
      have V6 := Lib.hid (onB V.out b6)
      have K6 := Lib.hid (K.out.on b6)
      clear C5 ha hat b6 V K
      have q6 := nt_cells V6.out
      unfold n0 at q6
      dsimp only at q6
      obtain ⟨c0, c1, c2, c3, c4⟩ := q6
      go_wp2_with fail
      refine (C6 _ K6.out.ring).mono ?_; rintro e w7 ⟨rfl, rfl⟩
      go_wp2_with fail
      refine (D1 _ (HT.out.below K6.out.below)).mono ?_; rintro e w8 ⟨rfl, b8⟩
      have V8 := Lib.hid (onB V6.out b8)
      have B8 := Lib.hid (grow K6.out.below b8)
      clear b8 C6 D1 V6 K6 c0 c1 c2 c3 c4 p0 p31
      have q8 := nt_cells V8.out
      unfold n0 at q8
      dsimp only at q8
      obtain ⟨c0, c1, c2, c3, c4⟩ := q8
      go_wp2_with fail
      refine (D2 _ (HT.out.below B8.out)).mono ?_; rintro e w9 ⟨rfl, b9⟩
      have B9 := Lib.hid (grow B8.out b9)
      clear b9 D2 V8 B8 c0 c1 c2 c3 c4
      go_wp2_with fail
      refine (D3 _ (HT.out.below B9.out)).mono ?_; rintro e w10 ⟨rfl, b10⟩
      have B10 := Lib.hid (grow B9.out b10)
      clear b10 D3 B9
      go_wp2
      go_ret
      exact ⟨rfl, B10.out⟩
end Rg
end Go.Proofs.YtmfpoakefpephaaDoor
