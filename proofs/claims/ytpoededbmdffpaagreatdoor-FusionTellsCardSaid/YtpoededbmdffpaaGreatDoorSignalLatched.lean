/-
  What Latched of package signal returns: a contract by walking the Go text. Conditions: how a signal lies.
-/
import Derived.Test.YtpoededbmdffpaaGreatDoorSignalEnter
namespace Go.Proofs.YtpoededbmdffpaaGreatDoor
set_option maxRecDepth 100000
open Go.ChangeShapes Go.WideShapes Go.ChangeAt Go.RowKit Go.Deep Go.Shelf
namespace Sg
open Cf (G CA)
open Rf
attribute [local go_sem] Oper.semAt_some
def laf (s : Si) (i : Nat) : Bool := (s.ch i).st.la
theorem la_mask (c : List Int) (s : Si) : mk4 (mx (List.range (NN c)) (laf s) fun _ => false) = lam c s := by
  unfold lam
  congr 1
  funext i
  unfold mx laf
  by_cases h : i < NN c <;> simp [h]
set_option maxRecDepth 100000 in
set_option maxHeartbeats 3200000 in
theorem latched_any {W : World} {b : Nat → Nat} {c : List Int} {s : Si} (hc : c.length = 21) (hR : Cf.Right c) (H : Lie W b c s) :
    Calls Tryz.prog 61 #[.pointer (some ⟨b 0, 0, none⟩)] W fun e w' => e = .returned (.int .i64 (lam c s)) ∧ Below W.heap.size W w' := by
  have hN := NN_34 hR
  refine (callsIn_wide (n := 5)).1 ?_
  refine callsIn_of_wp_marks Tryz.func61 rfl trivial ?_ rfl
  simp only [Tryz.ntmps61, List.size_toArray, List.length_cons, List.length_nil, Nat.reduceAdd, Nat.reduceSub, Array.replicate_succ, Array.replicate_zero, List.push_toArray, List.append_toArray, List.nil_append, List.cons_append]
  gi_wp2_with (refine ⟨trivial, ?_⟩; gi_at_call 100; refine (callsIn_wide.2 (all_any _ _)).mono ?_; rintro e w2 ⟨rfl, rfl⟩)
  have bR := (VRow.new W (bl4 fun _ => false) 202).alloc (.cells #[.pointer (some ⟨b 0, 0, none⟩)] 90)
  have b3 := Boxed.new (W.alloc (.cells #[.bool false, .bool false, .bool false, .bool false] 202)) 90 (.pointer (some ⟨b 0, 0, none⟩))
  rw [World.size_alloc] at b3
  rw [show (bl4 fun _ => false).toArray = #[.bool false, .bool false, .bool false, .bool false] from rfl] at bR
  have hB0 := ((Below.refl W.heap.size W).alloc (Nat.le_refl _) (.cells #[.bool false, .bool false, .bool false, .bool false] 202)).alloc (by simp) (.cells #[.pointer (some ⟨b 0, 0, none⟩)] 90)
  have hsz : ((W.alloc (.cells #[.bool false, .bool false, .bool false, .bool false] 202)).alloc (.cells #[.pointer (some ⟨b 0, 0, none⟩)] 90)).heap.size = W.heap.size + 2 := by simp
  generalize (W.alloc (.cells #[.bool false, .bool false, .bool false, .bool false] 202)).alloc (.cells #[.pointer (some ⟨b 0, 0, none⟩)] 90) = W0 at *
  have H0 := H.keep (But.of_below (S := fun _ => False) hB0) fun _ _ q => q
  have HH := Lib.hid H
  have h3 := b3.cell
  obtain ⟨cap0, hrow0⟩ := H0.row hc
  clear H
  refine range_goes rfl (by omega) (gf := 146) (lb := #[.pointer (some ⟨W.heap.size + 1, 0, none⟩)]) rfl trivial (enters_of Tryz.func146 (by kernel_rfl) rfl)
    (Kp := Kc (fun p => p.block < W.heap.size) (W0.heap.size + 2))
    (fun V hV hs => all_goes _ (by omega) (W.heap.size + 1) (b 0) (b 2) cap0 b (NN c) _ _ (by omega) _ V ((hV.cell (p := ⟨_, 0, none⟩) (cell_blk h3)).trans h3) ((hV.cell (p := ⟨_, 22, none⟩) (cell_blk hrow0)).trans hrow0) (fun i hi => (H0.keep (But.of_below (S := fun _ => False) hV) fun _ _ q => q).at hi) (fun i => HH.out.lt ⟨2, by unfold pn; omega, rfl⟩))
    Kc.trans (fun X k o o' _ h2 h3 h4 => Kc.put h2 h3 h4) (fun _ => by rfl)
    (fun pre X => VRow X W.heap.size 202 (bl4 (mx (pre.map Fin.val) (laf s) fun _ => false)) ∧ Below W.heap.size W X)
    (fun _ _ _ => False)
    (OwnFrom.and (own_row _ _ _ _) (ownFrom_below (Nat.le_refl _) (by omega)))
    (fun _ _ _ _ _ hs _ _ => hs)
    ⟨by rw [List.map_nil, mx_nil]; exact bR, hB0⟩
    (fun x => { tmps := #[.pointer (some ⟨b 0, 0, none⟩), undef, .int .i64 0, .pointer (some ⟨W.heap.size, 0, none⟩), .int .i64 x.val, .pointer (some ⟨xb b x.val, 0, none⟩), .pointer (some ⟨b 0, 0, none⟩), .bool false, .pointer (some ⟨b 0, 0, none⟩), .func (.func 146) #[] #[.pointer (some ⟨W.heap.size + 1, 0, none⟩)], .int .i64 x.val, .pointer (some ⟨xb b x.val, 0, none⟩), undef, undef, undef, undef, undef, undef, undef, undef, undef], defers := [] }) ?assign ?body ?done ?stop
  case assign =>
    intro l x W K hK
    dsimp only [enca]
    gi_wp2
    exact hK
  case body =>
    rintro lp pre x X ⟨bxR, hB⟩ hlen hG
    have hx := x.isLt
    have hx4 : x.val < 4 := by omega
    have hxi : (x.val : Int) < 4 := by omega
    have HX := HH.out.keep (But.of_below (S := fun _ => False) hB) fun _ _ q => q
    have q3 := (HX.chs x.val hx).own.cell 4 (v := .bool (s.ch x.val).st.la) rfl
    have HMP := Lib.hid (show (pre ++ [x]).map Fin.val = pre.map Fin.val ++ [x.val] by simp)
    have fR := bxR.frozen x.val
    have cR : ∃ q, X.cell? ⟨W.heap.size, x.val, none⟩ = some (.bool q) := by
      have : x.val = 0 ∨ x.val = 1 ∨ x.val = 2 ∨ x.val = 3 := by omega
      rcases this with e | e | e | e <;> (rw [e]; exact ⟨_, bxR.cell _ rfl⟩)
    obtain ⟨q0, cR⟩ := cR
    have HK := Lib.hid (show VRow (X.setCell ⟨W.heap.size, x.val, none⟩ (.bool (s.ch x.val).st.la)) W.heap.size 202 (bl4 (mx (pre.map Fin.val ++ [x.val]) (laf s) fun _ => false)) ∧ Below W.heap.size W (X.setCell ⟨W.heap.size, x.val, none⟩ (.bool (s.ch x.val).st.la)) ∧ Below W.heap.size X (X.setCell ⟨W.heap.size, x.val, none⟩ (.bool (s.ch x.val).st.la)) from by
      refine ⟨?_, hB.setCell (p := ⟨W.heap.size, x.val, none⟩) (Nat.le_refl _) _, (Below.refl _ X).setCell (p := ⟨W.heap.size, x.val, none⟩) (Nat.le_refl _) _⟩
      rw [← mx_snoc _ _ _ _ (s.ch x.val).st.la rfl, ← bl4_set hx4]
      exact bxR.set x.val _)
    clear HX bxR hB hlen H0 bR b3 hB0 hsz h3 hrow0
    generalize (s.ch x.val).st.la = la at *
    gi_wp2
    refine ⟨(KeepsOthers.setCell _ _ _).from _, ⟨fun p w hp hc => (HK.out.2.2.cell (p := p) hp).trans hc, (KeepsOthers.setCell _ _ _).from _⟩, ?_, HK.out.2.1⟩
    rw [HMP.out]; exact HK.out.1
  case done =>
    rintro D ys X hD hys ⟨bxR, hB⟩ hK
    rw [hys] at bxR
    have HB := Lib.hid (bl4_bools bxR)
    have HM := Lib.hid (la_mask c s)
    have CB := Fx.bits_any (some ⟨W.heap.size, 0, none⟩) 4 _ X (by simp) HB.out
    rw [bits4, HM.out] at CB
    simp only [List.length_cons, List.length_nil] at CB
    have HBB := Lib.hid hB
    clear hB bxR H0 bR b3 hB0 h3 hrow0
    obtain ⟨lm, hlm⟩ : ∃ lm, lam c s = lm := ⟨_, rfl⟩
    rw [hlm] at CB
    have HLM := Lib.hid hlm
    clear hlm
    gi_wp2_with (refine ⟨trivial, ?_⟩; gi_at_call 62; refine (callsIn_wide.2 CB).mono ?_; rintro e w' ⟨rfl, rfl⟩)
    refine ⟨by simp, .inl ⟨_, _, rfl, run_takeDeferred hK, ?_⟩⟩
    exact ⟨_, results_tmp rfl _ _ _, (by rw [HLM.out]; rfl), HBB.out.trans (belowK_b (w := W) (Nat.le_refl _) X D _ _ (by omega) hK rfl rfl)⟩
  case stop =>
    rintro D cc pre X _ _ h _
    exact h.elim
end Sg
end Go.Proofs.YtpoededbmdffpaaGreatDoor
