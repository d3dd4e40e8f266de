/-
  The live question of layer 18, in numbers: what a small signal tells in three cycles. Mathematics alone. No conditions.
  The live question of layer 18, walked over whatever package signal's contracts are: it is answered true. No conditions.
-/
import Derived.Test.YtacclmfbkiadbaaGreatJConfigRow6
import Derived.Test.YtacclmfbkiadbaaGreatJSignalMake2
import Derived.Deep.DeepCutAuto
import Derived.Deep.CutBlock
namespace Go.Proofs.YtacclmfbkiadbaaGreat
set_option maxRecDepth 100000
open Go.ChangeShapes Go.WideShapes Go.ChangeAt Go.RowKit Go.Deep
namespace Sg
open Cf (G CA Box)
def ra : Nat → Rw := fun i => if i = 2 then ⟨true, 200⟩ else rw0
def rb : Nat → Rw := fun i => if i = 0 then ⟨true, 10⟩ else if i = 1 then ⟨true, 12⟩ else if i = 2 then ⟨true, 90⟩ else rw0
def s1 : Si := nxt smallc (begin smallc) ra 0
def s2 : Si := nxt smallc s1 rb 0
def s3 : Si := nxt smallc s2 rb 0
theorem small_right : Cf.Right smallc := by decide
theorem res_a : res smallc (begin smallc) ra 0 = [.int .i64 5, .int .i64 0, .int .i64 0, .int .i64 (-1), .bool true, .int .i64 1, .int .i64 1, .int .i64 34, .int .i64 0, .int .i64 0, .int .i64 0, .int .i64 0, .int .i64 0] := by kernel_rfl
theorem res_b : res smallc s1 rb 0 = [.int .i64 11, .int .i64 3, .int .i64 4, .int .i64 (-1), .bool false, .int .i64 0, .int .i64 0, .int .i64 52, .int .i64 0, .int .i64 0, .int .i64 0, .int .i64 1, .int .i64 0] := by kernel_rfl
theorem res_c : res smallc s2 rb 0 = [.int .i64 11, .int .i64 3, .int .i64 4, .int .i64 (-1), .bool false, .int .i64 0, .int .i64 0, .int .i64 48, .int .i64 0, .int .i64 0, .int .i64 0, .int .i64 0, .int .i64 0] := by kernel_rfl
theorem off_c : (s3.ch 0).off = -1 := by kernel_rfl
theorem lam_c : lam smallc s3 = 4 := by kernel_rfl
theorem val_c : s3.val = 11 := by kernel_rfl
end Sg
end Go.Proofs.YtacclmfbkiadbaaGreat

namespace Go.Proofs.YtacclmfbkiadbaaGreat
set_option maxRecDepth 100000
open Go.ChangeShapes Go.WideShapes Go.ChangeAt Go.RowKit Go.Deep
namespace Sg
open Cf (G CA Box)
theorem step_held (F : Face) {w W : World} {S : Nat → Prop} {g : Nat} {s : Si} (r : Nat → Rw) (H : Held F w W S g smallc s) (hr : Rok smallc r) (hv : s.votes.length < 1099511627776) :
    Calls Tryz.prog 8 #[.pointer (some ⟨g, 0, none⟩), .agg (raw8 r).toArray, .int .i64 0] W fun e w' => ∃ S', e = .returned (.tuple #[.agg (res smallc s r 0).toArray, .int .i64 0]) ∧ Held F w w' S' g smallc (nxt smallc s r 0) ∧ But S W w' ∧ ∀ j, j < W.heap.size → ¬ S j → ¬ S' j := by
  refine (F.step_yes r 0 H.at_ small_right H.ok ⟨hr, by omega, by omega⟩ hv).mono ?_
  rintro e w' ⟨rfl, S', h, b, n⟩
  exact ⟨S', rfl, H.step h b n (ok_nxt small_right hr H.ok), b, fun j hj hn q => (n j q).elim hn (fun h => by omega)⟩
theorem Held.not {F : Face} {w W : World} {S : Nat → Prop} {g : Nat} {c : List Int} {s : Si} (H : Held F w W S g c s) {j : Nat} (hj : W.heap.size ≤ j) : ¬ S j := fun q => by have := F.lt H.at_ j q; omega
theorem rok_a : Rok smallc ra := fun i hi hs => by
  unfold ra at *
  split <;> simp_all [rw0]
theorem rok_b : Rok smallc rb := fun i hi hs => by
  unfold rb at *
  split
  · simp
  · split
    · simp
    · split <;> simp_all [rw0]
/-- A row that the signal's steps leave alone. -/
structure Rest (W : World) (S : Nat → Prop) (g : Nat) (cs : List Value) : Prop where
  row : VRow W g 37 cs
  not : ¬ S g
theorem Rest.on {W W' : World} {S : Nat → Prop} {g : Nat} {cs : List Value} (h : Rest W S g cs) (b : Below W.heap.size W W') : Rest W' S g cs := ⟨h.row.below b h.row.lt, h.not⟩
theorem Rest.step {W W' : World} {S S' : Nat → Prop} {g : Nat} {cs : List Value} (h : Rest W S g cs) (b : But S W W') (n : ∀ j, j < W.heap.size → ¬ S j → ¬ S' j) : Rest W' S' g cs := ⟨h.row.but b h.not, n g h.row.lt h.not⟩
theorem Held.rest {F : Face} {w W : World} {S : Nat → Prop} {g : Nat} {c : List Int} {s : Si} (H : Held F w W S g c s) (cs : List Value) : Rest (W.alloc (.cells cs.toArray 37)) S W.heap.size cs := ⟨VRow.new W cs _, H.not (Nat.le_refl _)⟩
theorem eq4_0 (w : World) : (Op.equalIn 10000 22 (.agg #[.int .i64 1, .int .i64 1, .int .i64 34, .int .i64 0]) (.agg #[.int .i64 1, .int .i64 1, .int .i64 34, .int .i64 0])).run Tryz.prog w = .ok true w := by kernel_rfl
theorem eq4_1 (w : World) : (Op.equalIn 10000 22 (.agg #[.int .i64 0, .int .i64 0, .int .i64 52, .int .i64 0]) (.agg #[.int .i64 0, .int .i64 0, .int .i64 52, .int .i64 0])).run Tryz.prog w = .ok true w := by kernel_rfl
theorem eq4_2 (w : World) : (Op.equalIn 10000 22 (.agg #[.int .i64 0, .int .i64 0, .int .i64 1, .int .i64 0]) (.agg #[.int .i64 0, .int .i64 0, .int .i64 1, .int .i64 0])).run Tryz.prog w = .ok true w := by kernel_rfl
theorem eq4_3 (w : World) : (Op.equalIn 10000 22 (.agg #[.int .i64 0, .int .i64 0, .int .i64 48, .int .i64 0]) (.agg #[.int .i64 0, .int .i64 0, .int .i64 48, .int .i64 0])).run Tryz.prog w = .ok true w := by kernel_rfl
theorem lav_c : lav (s3.ch 2).st = [.bool true, .bool false, .int .i64 2, .int .i64 0, .int .i64 0] := by kernel_rfl
def rd : Nat → Rw := fun i => if i = 0 then ⟨true, 2147483648⟩ else rw0
theorem not_d : ¬ okr smallc rd 0 := fun h => by
  have := (h.1 0 (by decide) rfl).2
  simp [rd] at this
theorem not_e : ¬ okr smallc (fun _ => rw0) 16 := fun h => by
  have := h.2.2
  omega
set_option maxHeartbeats 6400000 in
theorem alive_any (F : Face) (w : World) : Calls Tryz.prog 4 #[] w fun e w' => e = .returned (.bool true) ∧ Below w.heap.size w w' := by
  have SM := small_any w
  have NY := fun W => F.new_yes smallc W rfl small_right
  have NN := fun W => F.new_no (List.replicate 21 0) W rfl (by decide)
  go_enter Tryz.func4, Tryz.ntmps4
  go_wp2_with fail
  refine SM.mono ?_; rintro e w1 ⟨rfl, b1⟩
  have B1 := Lib.hid b1
  clear b1 SM
  go_wp2_with fail
  refine (NY _).mono ?_; rintro e w2 ⟨⟨g, S, rfl, a2, n2⟩, b2⟩
  have H2 := Lib.hid (show Held F w w2 S g smallc (begin smallc) from ⟨grow B1.out b2, a2, fun j hj => Nat.le_trans B1.out.size (n2 j hj), ok_begin small_right⟩)
  clear a2 n2 b2 B1 NY
  go_wp2_with ((with_reducible show wpList _ _ _ (⟨some 26, _, _, _, _, _⟩ :: _) _ _); refine wpList_buildTo rfl _ _ rfl (CA (List.replicate 21 0)) (by kernel_rfl) ?_)
  refine (NN _).mono ?_; rintro e w3 ⟨rfl, b3⟩
  have H3 := Lib.hid (H2.out.on b3)
  clear b3 NN H2
  go_wp2_with fail
  have C4 := step_held F ra H3.out rok_a (by decide)
  rw [res_a, show nxt smallc (begin smallc) ra 0 = s1 from rfl] at C4
  refine C4.mono ?_; rintro e w4 ⟨S4, rfl, h4, q4, n4⟩
  have V4 := Lib.hid (VRow.new w4 [.int .i64 0, .int .i64 0, .int .i64 0, .int .i64 0, .bool false, .int .i64 0, .int .i64 0, .int .i64 0, .int .i64 0, .int .i64 0, .int .i64 0, .int .i64 0, .int .i64 0] 37)
  have H4 := Lib.hid (h4.alloc (.cells #[.int .i64 5, .int .i64 0, .int .i64 0, .int .i64 (-1), .bool true, .int .i64 1, .int .i64 1, .int .i64 34, .int .i64 0, .int .i64 0, .int .i64 0, .int .i64 0, .int .i64 0] 37))
  have Ra := Lib.hid (h4.rest [.int .i64 5, .int .i64 0, .int .i64 0, .int .i64 (-1), .bool true, .int .i64 1, .int .i64 1, .int .i64 34, .int .i64 0, .int .i64 0, .int .i64 0, .int .i64 0, .int .i64 0])
  clear C4 h4 q4 n4 H3
  go_upto_region 6 with ((with_reducible show wpList _ _ _ (⟨none, .store _ (.tmp 5) _, _, _, _, _⟩ :: _) _ _); refine VB.store rfl _ _ rfl w4.heap.size [.int .i64 5, .int .i64 0, .int .i64 0, .int .i64 (-1), .bool true, .int .i64 1, .int .i64 1, .int .i64 34, .int .i64 0, .int .i64 0, .int .i64 0, .int .i64 0, .int .i64 0] rfl rfl V4.out sizeS rfl rfl ?_)
  clear V4
  generalize w4.alloc (.cells #[.int .i64 5, .int .i64 0, .int .i64 0, .int .i64 (-1), .bool true, .int .i64 1, .int .i64 1, .int .i64 34, .int .i64 0, .int .i64 0, .int .i64 0, .int .i64 0, .int .i64 0] 37) = W4 at *
  generalize w4.heap.size = g4 at *
  go_wp2_with fail
  have C5 := step_held F rb H4.out rok_b (by decide)
  rw [res_b, show nxt smallc (s1) rb 0 = s2 from rfl] at C5
  refine C5.mono ?_; rintro e w5 ⟨S5, rfl, h5, q5, n5⟩
  replace Ra := Lib.hid (Ra.out.step q5 n5)
  have V5 := Lib.hid (VRow.new w5 [.int .i64 0, .int .i64 0, .int .i64 0, .int .i64 0, .bool false, .int .i64 0, .int .i64 0, .int .i64 0, .int .i64 0, .int .i64 0, .int .i64 0, .int .i64 0, .int .i64 0] 37)
  have H5 := Lib.hid (h5.alloc (.cells #[.int .i64 11, .int .i64 3, .int .i64 4, .int .i64 (-1), .bool false, .int .i64 0, .int .i64 0, .int .i64 52, .int .i64 0, .int .i64 0, .int .i64 0, .int .i64 1, .int .i64 0] 37))
  have Rb := Lib.hid (h5.rest [.int .i64 11, .int .i64 3, .int .i64 4, .int .i64 (-1), .bool false, .int .i64 0, .int .i64 0, .int .i64 52, .int .i64 0, .int .i64 0, .int .i64 0, .int .i64 1, .int .i64 0])
  replace Ra := Lib.hid (Ra.out.on ((Below.refl w5.heap.size w5).alloc (Nat.le_refl _) (.cells #[.int .i64 11, .int .i64 3, .int .i64 4, .int .i64 (-1), .bool false, .int .i64 0, .int .i64 0, .int .i64 52, .int .i64 0, .int .i64 0, .int .i64 0, .int .i64 1, .int .i64 0] 37)))
  clear C5 h5 q5 n5 H4
  go_upto_region 7 with ((with_reducible show wpList _ _ _ (⟨none, .store _ (.tmp 7) _, _, _, _, _⟩ :: _) _ _); refine VB.store rfl _ _ rfl w5.heap.size [.int .i64 11, .int .i64 3, .int .i64 4, .int .i64 (-1), .bool false, .int .i64 0, .int .i64 0, .int .i64 52, .int .i64 0, .int .i64 0, .int .i64 0, .int .i64 1, .int .i64 0] rfl rfl V5.out sizeS rfl rfl ?_)
  clear V5
  generalize w5.alloc (.cells #[.int .i64 11, .int .i64 3, .int .i64 4, .int .i64 (-1), .bool false, .int .i64 0, .int .i64 0, .int .i64 52, .int .i64 0, .int .i64 0, .int .i64 0, .int .i64 1, .int .i64 0] 37) = W5 at *
  generalize w5.heap.size = g5 at *
  go_wp2_with fail
  have C6 := step_held F rb H5.out rok_b (by decide)
  rw [res_c, show nxt smallc (s2) rb 0 = s3 from rfl] at C6
  refine C6.mono ?_; rintro e w6 ⟨S6, rfl, h6, q6, n6⟩
  replace Ra := Lib.hid (Ra.out.step q6 n6)
  replace Rb := Lib.hid (Rb.out.step q6 n6)
  have V6 := Lib.hid (VRow.new w6 [.int .i64 0, .int .i64 0, .int .i64 0, .int .i64 0, .bool false, .int .i64 0, .int .i64 0, .int .i64 0, .int .i64 0, .int .i64 0, .int .i64 0, .int .i64 0, .int .i64 0] 37)
  have H6 := Lib.hid (h6.alloc (.cells #[.int .i64 11, .int .i64 3, .int .i64 4, .int .i64 (-1), .bool false, .int .i64 0, .int .i64 0, .int .i64 48, .int .i64 0, .int .i64 0, .int .i64 0, .int .i64 0, .int .i64 0] 37))
  have Rc := Lib.hid (h6.rest [.int .i64 11, .int .i64 3, .int .i64 4, .int .i64 (-1), .bool false, .int .i64 0, .int .i64 0, .int .i64 48, .int .i64 0, .int .i64 0, .int .i64 0, .int .i64 0, .int .i64 0])
  replace Ra := Lib.hid (Ra.out.on ((Below.refl w6.heap.size w6).alloc (Nat.le_refl _) (.cells #[.int .i64 11, .int .i64 3, .int .i64 4, .int .i64 (-1), .bool false, .int .i64 0, .int .i64 0, .int .i64 48, .int .i64 0, .int .i64 0, .int .i64 0, .int .i64 0, .int .i64 0] 37)))
  replace Rb := Lib.hid (Rb.out.on ((Below.refl w6.heap.size w6).alloc (Nat.le_refl _) (.cells #[.int .i64 11, .int .i64 3, .int .i64 4, .int .i64 (-1), .bool false, .int .i64 0, .int .i64 0, .int .i64 48, .int .i64 0, .int .i64 0, .int .i64 0, .int .i64 0, .int .i64 0] 37)))
  clear C6 h6 q6 n6 H5
  go_upto_region 8 with ((with_reducible show wpList _ _ _ (⟨none, .store _ (.tmp 9) _, _, _, _, _⟩ :: _) _ _); refine VB.store rfl _ _ rfl w6.heap.size [.int .i64 11, .int .i64 3, .int .i64 4, .int .i64 (-1), .bool false, .int .i64 0, .int .i64 0, .int .i64 48, .int .i64 0, .int .i64 0, .int .i64 0, .int .i64 0, .int .i64 0] rfl rfl V6.out sizeS rfl rfl ?_)
  clear V6
  generalize w6.alloc (.cells #[.int .i64 11, .int .i64 3, .int .i64 4, .int .i64 (-1), .bool false, .int .i64 0, .int .i64 0, .int .i64 48, .int .i64 0, .int .i64 0, .int .i64 0, .int .i64 0, .int .i64 0] 37) = W6 at *
  generalize w6.heap.size = g6 at *
  go_wp2_with fail
  have C7 := F.step_no rd 0 H6.out.at_ small_right H6.out.ok not_d
  unfold zres at C7
  refine C7.mono ?_; rintro e w7 ⟨rfl, b7⟩
  have b7' := b7.alloc b7.size (.cells #[.int .i64 0, .int .i64 0, .int .i64 0, .int .i64 0, .bool false, .int .i64 0, .int .i64 0, .int .i64 0, .int .i64 0, .int .i64 0, .int .i64 0, .int .i64 0, .int .i64 0] 37)
  have V7 := Lib.hid (VRow.new w7 [.int .i64 0, .int .i64 0, .int .i64 0, .int .i64 0, .bool false, .int .i64 0, .int .i64 0, .int .i64 0, .int .i64 0, .int .i64 0, .int .i64 0, .int .i64 0, .int .i64 0] 37)
  have H7 := Lib.hid (H6.out.on b7')
  replace Ra := Lib.hid (Ra.out.on b7')
  replace Rb := Lib.hid (Rb.out.on b7')
  replace Rc := Lib.hid (Rc.out.on b7')
  clear C7 b7 b7' H6
  go_upto_region 9 with ((with_reducible show wpList _ _ _ (⟨none, .store _ (.tmp 11) _, _, _, _, _⟩ :: _) _ _); refine VB.store rfl _ _ rfl w7.heap.size [.int .i64 0, .int .i64 0, .int .i64 0, .int .i64 0, .bool false, .int .i64 0, .int .i64 0, .int .i64 0, .int .i64 0, .int .i64 0, .int .i64 0, .int .i64 0, .int .i64 0] rfl rfl V7.out sizeS rfl rfl ?_)
  clear V7
  generalize w7.alloc (.cells #[.int .i64 0, .int .i64 0, .int .i64 0, .int .i64 0, .bool false, .int .i64 0, .int .i64 0, .int .i64 0, .int .i64 0, .int .i64 0, .int .i64 0, .int .i64 0, .int .i64 0] 37) = W7 at *
  generalize w7.heap.size = g7 at *
  go_wp2_with fail
  have C8 := F.step_no (fun _ => rw0) 16 H7.out.at_ small_right H7.out.ok not_e
  unfold zres at C8
  refine C8.mono ?_; rintro e w8 ⟨rfl, b8⟩
  have b8' := b8.alloc b8.size (.cells #[.int .i64 0, .int .i64 0, .int .i64 0, .int .i64 0, .bool false, .int .i64 0, .int .i64 0, .int .i64 0, .int .i64 0, .int .i64 0, .int .i64 0, .int .i64 0, .int .i64 0] 37)
  have V8 := Lib.hid (VRow.new w8 [.int .i64 0, .int .i64 0, .int .i64 0, .int .i64 0, .bool false, .int .i64 0, .int .i64 0, .int .i64 0, .int .i64 0, .int .i64 0, .int .i64 0, .int .i64 0, .int .i64 0] 37)
  have H8 := Lib.hid (H7.out.on b8')
  replace Ra := Lib.hid (Ra.out.on b8')
  replace Rb := Lib.hid (Rb.out.on b8')
  replace Rc := Lib.hid (Rc.out.on b8')
  clear C8 b8 b8' H7
  go_upto_region 10 with ((with_reducible show wpList _ _ _ (⟨none, .store _ (.tmp 13) _, _, _, _, _⟩ :: _) _ _); refine VB.store rfl _ _ rfl w8.heap.size [.int .i64 0, .int .i64 0, .int .i64 0, .int .i64 0, .bool false, .int .i64 0, .int .i64 0, .int .i64 0, .int .i64 0, .int .i64 0, .int .i64 0, .int .i64 0, .int .i64 0] rfl rfl V8.out sizeS rfl rfl ?_)
  clear V8
  generalize w8.alloc (.cells #[.int .i64 0, .int .i64 0, .int .i64 0, .int .i64 0, .bool false, .int .i64 0, .int .i64 0, .int .i64 0, .int .i64 0, .int .i64 0, .int .i64 0, .int .i64 0, .int .i64 0] 37) = W8 at *
  generalize w8.heap.size = g8 at *
  go_wp2_with fail
  have C9 := F.state_yes 2 H8.out.at_ small_right (by decide)
  rw [lav_c] at C9
  refine C9.mono ?_; rintro e w9 ⟨rfl, b9⟩
  have b9' := b9.alloc b9.size (.cells #[.bool true, .bool false, .int .i64 2, .int .i64 0, .int .i64 0] 62)
  have V9 := Lib.hid (VRow.new w9 [.bool false, .bool false, .int .i64 0, .int .i64 0, .int .i64 0] 62)
  have X9 := Lib.hid (VRow.new w9 [.bool true, .bool false, .int .i64 2, .int .i64 0, .int .i64 0] 62)
  have H9 := Lib.hid (H8.out.on b9')
  replace Ra := Lib.hid (Ra.out.on b9')
  replace Rb := Lib.hid (Rb.out.on b9')
  replace Rc := Lib.hid (Rc.out.on b9')
  clear C9 b9 b9' H8
  go_upto_region 11 with ((with_reducible show wpList _ _ _ (⟨none, .store _ (.tmp 15) _, _, _, _, _⟩ :: _) _ _); refine VB.store rfl _ _ rfl w9.heap.size [.bool true, .bool false, .int .i64 2, .int .i64 0, .int .i64 0] rfl rfl V9.out sizeL rfl rfl ?_)
  clear V9
  generalize w9.alloc (.cells #[.bool true, .bool false, .int .i64 2, .int .i64 0, .int .i64 0] 62) = W9 at *
  generalize w9.heap.size = g9 at *
  have a0 := Ra.out.row.cell 0 rfl
  have a1 := Ra.out.row.cell 1 rfl
  have a2 := Ra.out.row.cell 2 rfl
  have a3 := Ra.out.row.cell 3 rfl
  have a4 := Ra.out.row.cell 4 rfl
  have a5 := Ra.out.row.cell 5 rfl
  have a6 := Ra.out.row.cell 6 rfl
  have a7 := Ra.out.row.cell 7 rfl
  have a8 := Ra.out.row.cell 8 rfl
  have a9 := Ra.out.row.cell 9 rfl
  have a10 := Ra.out.row.cell 10 rfl
  have a11 := Ra.out.row.cell 11 rfl
  have a12 := Ra.out.row.cell 12 rfl
  have b0 := Rb.out.row.cell 0 rfl
  have b1 := Rb.out.row.cell 1 rfl
  have b2 := Rb.out.row.cell 2 rfl
  have b3 := Rb.out.row.cell 3 rfl
  have b4 := Rb.out.row.cell 4 rfl
  have b5 := Rb.out.row.cell 5 rfl
  have b6 := Rb.out.row.cell 6 rfl
  have b7 := Rb.out.row.cell 7 rfl
  have b8 := Rb.out.row.cell 8 rfl
  have b9 := Rb.out.row.cell 9 rfl
  have b10 := Rb.out.row.cell 10 rfl
  have b11 := Rb.out.row.cell 11 rfl
  have b12 := Rb.out.row.cell 12 rfl
  have c0 := Rc.out.row.cell 0 rfl
  have c1 := Rc.out.row.cell 1 rfl
  have c2 := Rc.out.row.cell 2 rfl
  have c3 := Rc.out.row.cell 3 rfl
  have c4 := Rc.out.row.cell 4 rfl
  have c5 := Rc.out.row.cell 5 rfl
  have c6 := Rc.out.row.cell 6 rfl
  have c7 := Rc.out.row.cell 7 rfl
  have c8 := Rc.out.row.cell 8 rfl
  have c9 := Rc.out.row.cell 9 rfl
  have c10 := Rc.out.row.cell 10 rfl
  have c11 := Rc.out.row.cell 11 rfl
  have c12 := Rc.out.row.cell 12 rfl
  have x0 := X9.out.cell 0 rfl
  have E0 := fun W => eq4_0 W
  have E1 := fun W => eq4_1 W
  have E2 := fun W => eq4_2 W
  have E3 := fun W => eq4_3 W
  go_wp2_with fail
  have C10 := F.latched H9.out.at_ small_right
  rw [lam_c] at C10
  refine C10.mono ?_; rintro e w10 ⟨rfl, b10⟩
  have H10 := Lib.hid (H9.out.on b10)
  clear C10 b10 H9
  go_wp2_with fail
  have C11 := F.value H10.out.at_
  rw [val_c] at C11
  refine C11.mono ?_; rintro e w11 ⟨rfl, b11⟩
  have H11 := Lib.hid (H10.out.on b11)
  clear C11 b11 H10
  go_wp2_with fail
  have C12 := F.offset_yes 0 H11.out.at_ small_right (by decide)
  rw [off_c] at C12
  refine C12.mono ?_; rintro e w12 ⟨rfl, b12⟩
  have H12 := Lib.hid (H11.out.on b12)
  clear C12 b12 H11
  go_wp2_with fail
  have C13 := F.offset_no 3 H12.out.at_ small_right (Or.inr (by decide))
  refine C13.mono ?_; rintro e w13 ⟨rfl, b13⟩
  have H13 := Lib.hid (H12.out.on b13)
  clear C13 b13 H12
  go_wp2_with fail
  go_ret
  exact ⟨rfl, H13.out.below⟩
end Sg
end Go.Proofs.YtacclmfbkiadbaaGreat
