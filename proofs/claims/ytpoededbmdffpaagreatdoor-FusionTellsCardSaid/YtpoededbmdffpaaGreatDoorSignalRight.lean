/-
  What right of package signal returns: a contract by walking the Go text (a range over the channels with a value). Conditions: how a signal lies.
-/
import Derived.Test.YtpoededbmdffpaaGreatDoorSignalKit
namespace Go.Proofs.YtpoededbmdffpaaGreatDoor
set_option maxRecDepth 100000
open Go.ChangeShapes Go.WideShapes Go.ChangeAt Go.RowKit Go.Deep Go.Shelf
namespace Sg
open Cf (G CA)
open Rf
attribute [local go_sem] Oper.semAt_some
/-- May this cycle be? -/
def okv (c : List Int) (r : Nat → Rw) : Bool := (List.range (NN c)).all fun i => !(r i).is || Jp.val (r i).n
def okb (c : List Int) (r : Nat → Rw) (sh : Int) : Bool := okv c r && (decide (0 ≤ sh) && decide (sh < 16))
theorem okv_no {c : List Int} {r : Nat → Rw} {i : Nat} (hi : i < NN c) (h : (r i).is = true) (hv : Jp.val (r i).n = false) : okv c r = false := by
  rw [Bool.eq_false_iff]
  intro q
  have := List.all_eq_true.1 q i (List.mem_range.2 hi)
  simp [h, hv] at this
theorem okv_yes {c : List Int} {r : Nat → Rw} {ys : List (Vd (NN c) r)} (h : ys.map (·.1) = (List.range (NN c)).filter fun i => (r i).is) (hy : ∀ y ∈ ys, Jp.val (r y.1).n = true) : okv c r = true := by
  refine List.all_eq_true.2 fun i hi => ?_
  cases q : (r i).is
  · rfl
  · have : i ∈ ys.map (·.1) := by rw [h]; exact List.mem_filter.2 ⟨hi, q⟩
    obtain ⟨y, hm, rfl⟩ := List.mem_map.1 this
    simpa using hy y hm
theorem okb_iff {c : List Int} {r : Nat → Rw} {sh : Int} : okb c r sh = true ↔ okr c r sh := by
  unfold okb okv okr Rok
  simp only [Bool.and_eq_true, List.all_eq_true, List.mem_range, Bool.or_eq_true, Bool.not_eq_true', decide_eq_true_eq, Jp.val]
  constructor
  · rintro ⟨h1, h2, h3⟩
    exact ⟨fun i hi q => by rcases h1 i hi with e | e; rw [q] at e; cases e; exact e, h2, by omega⟩
  · rintro ⟨h1, h2, h3⟩
    refine ⟨fun i hi => ?_, h2, by omega⟩
    cases q : (r i).is
    · exact .inl rfl
    · exact .inr (h1 i hi q)
set_option maxRecDepth 100000 in
set_option maxHeartbeats 1600000 in
theorem right_any {W : World} {b : Nat → Nat} {c : List Int} {s : Si} {u : Nat} {r : Nat → Rw} {sh : Int} {T : Nat → Int} {m : Int} (hc : c.length = 21) (hR : Cf.Right c) (H : Tn W b c s u r sh T m) :
    Calls Tryz.prog 114 #[.pointer (some ⟨u, 0, none⟩)] W fun e w' => e = .returned (.bool (okb c r sh)) ∧ Below W.heap.size W w' := by
  have hN := NN_34 hR
  refine (callsIn_wide (n := 5)).1 ?_
  refine callsIn_of_wp_marks Tryz.func114 rfl trivial ?_ rfl
  simp only [Tryz.ntmps114, List.size_toArray, List.length_cons, List.length_nil, Nat.reduceAdd, Nat.reduceSub, Array.replicate_succ, Array.replicate_zero, List.push_toArray, List.append_toArray, List.nil_append, List.cons_append]
  gi_wp2_with (refine ⟨trivial, ?_⟩; gi_at_call 156; refine (callsIn_wide.2 (valued_any _ _)).mono ?_; rintro e w2 ⟨rfl, rfl⟩)
  have b1 := ((Boxed.new W 234 (.pointer (some ⟨u, 0, none⟩))).alloc (.cells #[.bool false] 4)).alloc (.cells #[.pointer (some ⟨u, 0, none⟩)] 234)
  have bR := (Boxed.new (W.alloc (.cells #[.pointer (some ⟨u, 0, none⟩)] 234)) 4 (.bool false)).alloc (.cells #[.pointer (some ⟨u, 0, none⟩)] 234)
  have b3 := Boxed.new ((W.alloc (.cells #[.pointer (some ⟨u, 0, none⟩)] 234)).alloc (.cells #[.bool false] 4)) 234 (.pointer (some ⟨u, 0, none⟩))
  rw [World.size_alloc] at bR
  rw [World.size_alloc, World.size_alloc] at b3
  have hB0 := (((Below.refl W.heap.size W).alloc (Nat.le_refl _) (.cells #[.pointer (some ⟨u, 0, none⟩)] 234)).alloc (by simp) (.cells #[.bool false] 4)).alloc (by simp; omega) (.cells #[.pointer (some ⟨u, 0, none⟩)] 234)
  have hsz : (((W.alloc (.cells #[.pointer (some ⟨u, 0, none⟩)] 234)).alloc (.cells #[.bool false] 4)).alloc (.cells #[.pointer (some ⟨u, 0, none⟩)] 234)).heap.size = W.heap.size + 3 := by simp
  generalize ((W.alloc (.cells #[.pointer (some ⟨u, 0, none⟩)] 234)).alloc (.cells #[.bool false] 4)).alloc (.cells #[.pointer (some ⟨u, 0, none⟩)] 234) = W0 at *
  have H0 := H.on hB0
  have HL := Lib.hid (fun k (hk : Us b c u k) => H.lt hk)
  clear H
  refine range_goes rfl (by omega) (gf := 191) (lb := #[.pointer (some ⟨W.heap.size + 1 + 1, 0, none⟩)]) rfl trivial (enters_of Tryz.func191 (by kernel_rfl) rfl)
    (hseq_valued _ (by omega) hc hR H0 b3.cell) Kc.trans (fun X k o o' _ h2 h3 h4 => Kc.put h2 h3 h4) (fun _ => rfl)
    (fun pre X => ((∀ y ∈ pre, Jp.val (r y.1).n = true) ∧ Tn X b c s u r sh T m) ∧ (Boxed X W.heap.size 234 (.pointer (some ⟨u, 0, none⟩)) ∧ Boxed X (W.heap.size + 1) 4 (.bool false)) ∧ Below W.heap.size W X)
    (fun cc _ X => ((cc = .ret ∧ okv c r = false) ∧ Tn X b c s u r sh T m) ∧ Boxed X (W.heap.size + 1) 4 (.bool false) ∧ Below W.heap.size W X)
    (OwnFrom.and (OwnFrom.and (ownFrom_pure _ _) (own_tn _ _ _ _)) (OwnFrom.and (OwnFrom.and (own_box _ _ _ _) (own_box _ _ _ _)) (ownFrom_below (Nat.le_refl _) (by omega))))
    (fun _ => OwnFrom.and (OwnFrom.and (ownFrom_pure _ _) (own_tn _ _ _ _)) (OwnFrom.and (own_box _ _ _ _) (ownFrom_below (Nat.le_refl _) (by omega))))
    ⟨⟨by simp, H0⟩, ⟨b1, bR⟩, hB0⟩
    (fun x => { tmps := #[.pointer (some ⟨u, 0, none⟩), .pointer (some ⟨W.heap.size, 0, none⟩), .pointer (some ⟨W.heap.size + 1, 0, none⟩), .int .i64 x.1, .pointer (some ⟨u, 0, none⟩), .func (.func 191) #[] #[.pointer (some ⟨W.heap.size + 1 + 1, 0, none⟩)], .int .i64 x.1, .pointer (some ⟨xb b x.1, 0, none⟩), undef, undef, undef, undef, undef, undef, undef, undef, undef, undef, undef, undef, undef, undef, undef, undef, undef, undef, undef, undef, undef, undef], defers := [] }) ?assign ?body ?done ?stop
  case assign =>
    intro l x W K hK
    dsimp only [encv]
    gi_wp2
    exact hK
  case body =>
    rintro lp pre x X ⟨⟨hp, HX⟩, ⟨bx1, bxR⟩, hB⟩ hlen -
    have hx := x.2.1
    have c1 := bx1.cell
    have cR := bxR.cell
    have fR := bxR.frozen
    have CW := fun l => CallsIn.inRound (n := 5 - 1 - 1 - 1) l (callsIn_wide.2 (raw_any HX x.1 (by omega)))
    have HV := Lib.hid (show Jp.val (r x.1).n = (decide (-2147483648 ≤ (r x.1).n) && decide ((r x.1).n ≤ 2147483647)) from rfl)
    have HY := Lib.hid (fun (h : Jp.val (r x.1).n = true) y (hy : y ∈ pre ++ [x]) => (show Jp.val (r y.1).n = true from by
      rcases List.mem_append.1 hy with q | q
      · exact hp y q
      · rw [List.mem_singleton.1 q]; exact h))
    have HNO := Lib.hid (okv_no (r := r) hx x.2.2)
    have HXX := Lib.hid HX
    have HBB := Lib.hid hB
    have B1 := Lib.hid bx1
    have BR := Lib.hid bxR
    clear hp HX hB bx1 bxR hlen H0 b1 bR b3 hB0
    generalize (r x.1).n = n at *
    have hu2 : b 2 < W.heap.size := HL.out _ (.inl ⟨2, by unfold pn; omega, rfl⟩)
    have huu : u < W.heap.size := HL.out _ (.inr rfl)
    have K2 := Lib.hid (show KeepsFrom W0.heap.size X (X.setCell ⟨W.heap.size + 1, 0, none⟩ (.bool false)) ∧ Kc (Dv b u (W.heap.size + 1 + 1) W0.heap.size) (W0.heap.size + 2) X (X.setCell ⟨W.heap.size + 1, 0, none⟩ (.bool false)) ∧ Tn (X.setCell ⟨W.heap.size + 1, 0, none⟩ (.bool false)) b c s u r sh T m ∧ Boxed (X.setCell ⟨W.heap.size + 1, 0, none⟩ (.bool false)) (W.heap.size + 1) 4 (.bool false) ∧ Below W.heap.size W (X.setCell ⟨W.heap.size + 1, 0, none⟩ (.bool false)) from by
      have bb : But (· = W.heap.size + 1) X (X.setCell ⟨W.heap.size + 1, 0, none⟩ (.bool false)) := But.setCell (p := ⟨_, _, none⟩) (But.refl (· = _) X) (Or.inl rfl) _
      have HT := HXX.out.keep bb fun k hk e => by have := HL.out k hk; omega
      obtain ⟨k1, k2⟩ := round_kc HXX.out HT bb (B := W.heap.size + 1 + 1) (n₀ := W0.heap.size) fun k e => ⟨by omega, by omega, by omega⟩
      exact ⟨k1, k2, HT, BR.out.set _, HBB.out.setCell (p := ⟨W.heap.size + 1, 0, none⟩) (by show W.heap.size ≤ W.heap.size + 1; omega) _⟩)
    cases d1 : decide (n < -2147483648)
    · cases d2 : decide (2147483647 < n)
      · have HYY := Lib.hid (HY.out (HV.out.trans (by simp at d1 d2; simp; omega)))
        gi_wp2_with (first | (refine ⟨trivial, ?_⟩; gi_at_call 157; refine (CW lp).mono ?_; rintro e w' ⟨rfl, rfl⟩) | (refine ⟨trivial, ?_⟩))
        exact ⟨KeepsFrom.refl _ _, Kc.refl _ _ _, ⟨HYY.out, HXX.out⟩, ⟨B1.out, BR.out⟩, HBB.out⟩
      · have HNN := Lib.hid (HNO.out (HV.out.trans (by simp at d1 d2; simp; omega)))
        gi_wp2_with (first | (refine ⟨trivial, ?_⟩; gi_at_call 157; refine (CW lp).mono ?_; rintro e w' ⟨rfl, rfl⟩) | (refine ⟨trivial, ?_⟩))
        exact ⟨K2.out.1, K2.out.2.1, ⟨⟨rfl, HNN.out⟩, K2.out.2.2.1⟩, K2.out.2.2.2.1, K2.out.2.2.2.2⟩
    · have HNN := Lib.hid (HNO.out (HV.out.trans (by simp at d1; simp; omega)))
      gi_wp2_with (first | (refine ⟨trivial, ?_⟩; gi_at_call 157; refine (CW lp).mono ?_; rintro e w' ⟨rfl, rfl⟩) | (refine ⟨trivial, ?_⟩))
      exact ⟨K2.out.1, K2.out.2.1, ⟨⟨rfl, HNN.out⟩, K2.out.2.2.1⟩, K2.out.2.2.2.1, K2.out.2.2.2.2⟩
  case done =>
    rintro D ys X hD hys ⟨⟨hp, HX⟩, ⟨bx1, bxR⟩, hB⟩ hK
    have HF := Lib.hid (show okb c r sh = (decide (0 ≤ sh) && decide (sh < 16)) by unfold okb; rw [okv_yes hys hp, Bool.true_and])
    have c1 := bx1.cell
    have cR := bxR.cell
    have fR := bxR.frozen
    have c9 := HX.shut
    clear hp hys HX H0 b1 bR b3 hB0
    obtain ⟨ok, hok⟩ : ∃ ok, okb c r sh = ok := ⟨_, rfl⟩
    rw [hok] at HF
    have HOK := Lib.hid hok
    clear hok
    cases d1 : decide (0 ≤ sh) <;> cases d2 : decide (sh < 16)
    all_goals
      rw [d1, d2] at HF
      gi_wp2_with (refine ⟨trivial, ?_⟩)
      have hK' := fun v => (KeepsOthers.setCell X ⟨W.heap.size + 1, 0, none⟩ v).same D _ hK rfl
      refine ⟨by simp, .inl ⟨_, _, rfl, run_takeDeferred (hK' _), ?_⟩⟩
      have hcc := fun v => (((bxR.set v).kept (grownBy_putObj' _ D (.deferred none)) (by simp; omega))).cell
      refine ⟨.bool ok, by simp [results, Tryz.f114, go_sem, hcc, HF.out], Fx.ret_bool HOK.out.symm, ?_⟩
      exact (hB.setCell (p := ⟨W.heap.size + 1, 0, none⟩) (by show W.heap.size ≤ W.heap.size + 1; omega) _).trans (belowK_b (w := W) (Nat.le_refl _) _ D _ _ (by omega) (hK' _) rfl rfl)
  case stop =>
    rintro D cc pre X hD - ⟨⟨⟨rfl, hno⟩, HX⟩, bxR, hB⟩ hK
    have HF := Lib.hid (show okb c r sh = false by unfold okb; rw [hno]; rfl)
    clear HX H0 b1 bR b3 hB0
    gi_wp2
    refine ⟨by simp, .inl ⟨_, _, rfl, run_takeDeferred hK, ?_⟩⟩
    have hcc := (bxR.kept (grownBy_putObj' _ D (.deferred none)) (by simp; omega)).cell
    exact ⟨.bool false, by simp [results, Tryz.f114, go_sem, hcc], Fx.ret_bool HF.out.symm,
      hB.trans (belowK_b (w := W) (Nat.le_refl _) X D _ _ (by omega) hK rfl rfl)⟩
end Sg
end Go.Proofs.YtpoededbmdffpaaGreatDoor
