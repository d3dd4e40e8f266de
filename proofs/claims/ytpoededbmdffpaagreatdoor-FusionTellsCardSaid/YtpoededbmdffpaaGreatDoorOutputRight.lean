/-
  What Right of package output tells: a contract by walking the Go text (a loop over the values, a range over the iterator statuses). Conditions: that an output has eight values and eight statuses.
-/
import Derived.Test.YtpoededbmdffpaaGreatDoorOutputReads
namespace Go.Proofs.YtpoededbmdffpaaGreatDoor
set_option maxRecDepth 100000
open Go.ChangeShapes Go.WideShapes Go.ChangeAt Go.RowKit Go.Deep Go.Shelf
namespace Ot
open Ss (St str zer stv rgt)
open Rf
attribute [local go_sem] Oper.semAt_some
theorem orgt_q {o : Ou} (h : Wd.in2 o.q = false) : orgt o = false := by unfold orgt; rw [h]; rfl
theorem orgt_v {o : Ou} (h : o.v.all Wd.in4 = false) : orgt o = false := by unfold orgt; rw [h]; simp
theorem orgt_s {o : Ou} (h : o.s.all rgt = false) : orgt o = false := by unfold orgt; rw [h]; simp
set_option maxRecDepth 100000 in
set_option maxHeartbeats 3200000 in
theorem right_any {o : Ou} (k : Ok o) (w : World) :
    Calls Tryz.prog 25 #[.agg (ouc o).toArray] w fun e w' => e = .returned (.bool (orgt o)) ∧ Below w.heap.size w w' := by
  have HK := Lib.hid k
  have HZ := Lib.hid (sizeO k)
  have HZV := Lib.hid (sizeV k)
  have C1 := fun W => callsIn_wide (n := 5 - 1) |>.2 (statuses_any o W)
  have CR := fun s W => Ss.right_any s W
  have hBX := (VRow.new w (ouc o) 40).alloc (.cells #[.bool false] 4)
  have HR0 := Lib.hid (range_o hBX)
  have HRV := Lib.hid (range_v hBX)
  have e0 := hBX.cell 0 (v := .int .i64 o.q) rfl
  have b1 := Boxed.new (w.alloc (.cells (ouc o).toArray 40)) 4 (.bool false)
  rw [World.size_alloc] at b1
  have B0 := Lib.hid (((Below.refl w.heap.size w).alloc (Nat.le_refl _) (.cells (ouc o).toArray 40)).alloc (by simp) (.cells #[.bool false] 4))
  have hsz0 : ((w.alloc (.cells (ouc o).toArray 40)).alloc (.cells #[.bool false] 4)).heap.size = w.heap.size + 2 := by simp
  have HQ := Lib.hid (fun h => orgt_q (o := o) h)
  have HV := Lib.hid (fun h => orgt_v (o := o) h)
  have HS := Lib.hid (fun h => orgt_s (o := o) h)
  have HY := Lib.hid (show Wd.in2 o.q = true → o.v.all Wd.in4 = true → o.s.all rgt = true → orgt o = true from fun h1 h2 h3 => (orgt_iff o).2 ⟨h1, h2, h3⟩)
  have HI2 := Lib.hid (show Wd.in2 o.q = (decide (0 ≤ o.q) && decide (o.q ≤ 65535)) from rfl)
  clear k hBX
  obtain ⟨ov, hov⟩ : ∃ ov, ouc o = ov := ⟨_, rfl⟩
  rw [hov] at HR0 HRV HZ C1 B0 b1 e0 hsz0 ⊢
  have HOV := Lib.hid hov
  clear hov
  generalize orgt o = res at *
  generalize hq : o.q = q at *
  clear hq
  refine (callsIn_wide (n := 5)).1 ?_
  refine callsIn_of_wp_marks Tryz.func25 rfl trivial ?_ rfl
  simp only [Tryz.ntmps25, List.size_toArray, List.length_cons, List.length_nil, Nat.reduceAdd, Nat.reduceSub, Array.replicate_succ, Array.replicate_zero, List.push_toArray, List.append_toArray, List.nil_append, List.cons_append]
  have FIN0 : ∀ {X : World}, Boxed X (w.heap.size + 1) 4 (.bool false) → Below w.heap.size w X → res = false → ∀ a : Act, a.tmps.getD 2 undef = .pointer (some ⟨w.heap.size + 1, 0, none⟩) → ∃ v, (results Tryz.f25 a.tmps).run Tryz.prog X = .ok v X ∧ Ending.returned v = .returned (.bool res) ∧ Below w.heap.size w X := by
    intro X hb hB hr a ha
    have hc := hb.cell
    rw [Array.getD_eq_getD_getElem?] at ha
    exact ⟨.bool false, by simp [results, Tryz.f25, go_sem, ha, hc], by rw [hr], hB⟩
  by_cases h1 : q < 0
  · have HR := Lib.hid (HQ.out (by rw [HI2.out]; simp; omega))
    have c1 := b1.cell
    have f1 := b1.frozen
    gi_wp2
    refine FIN0 b1 B0.out HR.out _ ?_; rfl
  · by_cases h2 : 65536 ≤ q
    · have HR := Lib.hid (HQ.out (by rw [HI2.out]; simp; omega))
      have d1 : decide (q < 0) = false := by simpa using h1
      have c1 := b1.cell
      have f1 := b1.frozen
      gi_wp2
      refine FIN0 b1 B0.out HR.out _ ?_; rfl
    · have d1 : decide (q < 0) = false := by simpa using h1
      have d2 : decide (65536 ≤ q) = false := by simpa using h2
      have HQT := Lib.hid (show Wd.in2 q = true by rw [HI2.out]; simp; omega)
      gi_wp2_with ((with_reducible show wpListIn _ _ _ _ _ (⟨some 15, _, _, _, _, _⟩ :: _) _ _); refine wpListIn_loadR rfl _ _ rfl w.heap.size 1 rfl (cellsI .i64 o.v) _ HRV.out Tryz.underlying35 rfl HZV.out ?_)
      generalize (w.alloc (.cells ov.toArray 40)).alloc (.cells #[.bool false] 4) = W0 at *
      clear d1 d2 e0 h1 h2
      gi_loopw [16, 4] (fun i s4 wr => ∃ k : Nat, k ≤ 8 ∧ i = .int .i64 k ∧ Hid ((o.v.take k).all Wd.in4 = true) ∧ W0 = wr) (fun i _ _ => 8 - (intOf i).toNat)
      case atStart => exact ⟨0, by omega, rfl, Lib.hid rfl, rfl⟩
      case round =>
        obtain ⟨k, hk, rfl, HT, rfl⟩ := hrel
        by_cases hlt : k < 8
        · have hki : (k : Int) < 8 := by omega
          have HI := Lib.hid (fun W => index_v HK.out k hlt W)
          have HX := Lib.hid (vall_next o.v k (by rw [HK.out.v]; exact hlt))
          have HI4 := Lib.hid (show Wd.in4 (o.v.getD k 0) = (decide (-2147483648 ≤ o.v.getD k 0) && decide (o.v.getD k 0 ≤ 2147483647)) from rfl)
          have HNO := Lib.hid (fun h => HV.out (all_no (k := k + 1) h))
          generalize o.v.getD k 0 = x at *
          have c1 := b1.cell
          have f1 := b1.frozen
          cases d1 : decide (x < -2147483648)
          · cases d2 : decide (2147483647 < x)
            · have HIN := Lib.hid (show Wd.in4 x = true by rw [HI4.out]; simp at d1 d2; simp; omega)
              gi_wp2_with ((with_reducible show wpListIn _ _ _ _ _ (⟨some 18, _, _, _, _, _⟩ :: _) _ _); refine wpListIn_index rfl _ _ _ rfl _ k _ rfl rfl (HI.out _) ?_)
              go_roundw
              case rel => exact ⟨k + 1, by omega, by go_num, Lib.hid (by rw [HX.out, HT.out, HIN.out]; rfl), by trivial⟩
              case measure => simp [intOf]; omega
            · have HR := Lib.hid (HNO.out (by rw [HX.out, HI4.out]; simp at d1 d2; simp; omega))
              gi_wp2_with ((with_reducible show wpListIn _ _ _ _ _ (⟨some 18, _, _, _, _, _⟩ :: _) _ _); refine wpListIn_index rfl _ _ _ rfl _ k _ rfl rfl (HI.out _) ?_)
              exact FIN0 (b1.set (.bool false)) (B0.out.setCell (p := ⟨w.heap.size + 1, 0, none⟩) (by show w.heap.size ≤ w.heap.size + 1; omega) _) HR.out _ rfl
          · have HR := Lib.hid (HNO.out (by rw [HX.out, HI4.out]; simp at d1; simp; omega))
            gi_wp2_with ((with_reducible show wpListIn _ _ _ _ _ (⟨some 18, _, _, _, _, _⟩ :: _) _ _); refine wpListIn_index rfl _ _ _ rfl _ k _ rfl rfl (HI.out _) ?_)
            exact FIN0 (b1.set (.bool false)) (B0.out.setCell (p := ⟨w.heap.size + 1, 0, none⟩) (by show w.heap.size ≤ w.heap.size + 1; omega) _) HR.out _ rfl
        · obtain rfl : k = 8 := by omega
          have HVT := Lib.hid (show o.v.all Wd.in4 = true by have := HT.out; rwa [List.take_of_length_le (by rw [HK.out.v]; omega)] at this)
          gi_wp2_with (first
            | ((with_reducible show wpListIn _ _ _ _ _ (⟨some 26, _, _, _, _, _⟩ :: _) _ _); refine wpListIn_loadR rfl _ _ rfl w.heap.size 0 rfl ov _ HR0.out Tryz.underlying40 rfl HZ.out ?_)
            | (refine ⟨trivial, ?_⟩; gi_at_call 68; refine (C1 _).mono ?_; rintro e w2 ⟨rfl, rfl⟩))
          have b2 := b1.alloc (.cells ov.toArray 40)
          have v2 := VRow.new W0 ov 40
          rw [hsz0, ← HOV.out] at v2
          have hB2 := B0.out.alloc B0.out.size (.cells ov.toArray 40)
          rw [← HOV.out] at hB2 b2
          have hsz : (W0.alloc (.cells (ouc o).toArray 40)).heap.size = w.heap.size + 3 := by simp [hsz0]
          rw [← HOV.out]
          generalize W0.alloc (.cells (ouc o).toArray 40) = W2 at *
          obtain ⟨ov2, hov2⟩ : ∃ ov2, ouc o = ov2 := ⟨_, rfl⟩
          rw [hov2]
          refine range_lays rfl (by omega) (gf := 107) (lb := #[.pointer (some ⟨w.heap.size + 2, 0, none⟩)]) rfl trivial (enters_of Tryz.func107 (by kernel_rfl) rfl)
            (Kp := fun _ _ => True) (encs := encs o)
            (fun V hV _ => statuses_goes _ (by omega) (w.heap.size + 2) o HK.out _ V (v2.below hV v2.lt))
            (fun _ _ => trivial) (fun _ _ _ _ _ _ _ _ => trivial) (fun _ => rfl)
            (fun pre X => ((o.s.take pre.length).all rgt = true ∧ Boxed X (w.heap.size + 1) 4 (.bool false)) ∧ Below w.heap.size w X)
            (fun c _ X => ((c = .ret ∧ o.s.all rgt = false) ∧ Boxed X (w.heap.size + 1) 4 (.bool false)) ∧ Below w.heap.size w X)
            (OwnFrom.and (OwnFrom.and (ownFrom_pure _ _) (own_boxed _ _ _ _)) (ownFrom_below (Nat.le_refl _) (by omega)))
            (fun _ => OwnFrom.and (OwnFrom.and (ownFrom_pure _ _) (own_boxed _ _ _ _)) (ownFrom_below (Nat.le_refl _) (by omega)))
            ⟨⟨rfl, b2⟩, hB2⟩
            (fun pre x a' X => (((o.s.take pre.length).all rgt = true ∧ Boxed X (w.heap.size + 1) 4 (.bool false)) ∧ Below w.heap.size w X) ∧ ∃ g, VRow X g 37 (str (o.s.getD x.val zer)) ∧
              a' = { tmps := #[.agg ov2.toArray, .pointer (some ⟨w.heap.size, 0, none⟩), .pointer (some ⟨w.heap.size + 1, 0, none⟩), undef, u4, .pointer (some ⟨g, 0, none⟩), .pointer (some ⟨w.heap.size, 0, none⟩), .int .i64 q, .bool false, .bool false, .pointer (some ⟨w.heap.size, 0, none⟩), .int .i64 q, .bool false, .bool false, .pointer (some ⟨w.heap.size, 1, none⟩),
                .agg (cellsI .i64 o.v).toArray, .int .i64 8, .bool false, u18, u19, u20, u21, u22, u23, u24, u25, .agg ov2.toArray, .func (.func 107) #[] #[.pointer (some ⟨w.heap.size + 2, 0, none⟩)], .agg (str (o.s.getD x.val zer)).toArray, undef, undef, undef], defers := [] })
            (fun pre x a' A B row h hg hr => ?hib) ?assign ?body ?done ?stop
          case hib =>
            obtain ⟨⟨⟨h0, h1⟩, h2⟩, g, h3, h4⟩ := h
            exact ⟨⟨⟨h0, own_boxed (β := Unit) W2.heap.size (w.heap.size + 1) 4 (fun _ => _) () A B row h1 hg hr⟩, ownFrom_below (β := Unit) (Nat.le_refl _) (by omega) () A B row h2 hg hr⟩, g, own_row (β := Unit) W2.heap.size g _ (fun _ => _) () A B row h3 hg hr, h4⟩
          case assign =>
            rintro l pre x X ⟨⟨h0, h1⟩, h2⟩ - -
            obtain ⟨q1, q2⟩ := lay_st X (o.s.getD x.val zer)
            refine ⟨_, _, q1, trivial, ⟨⟨⟨h0, boxed_grown h1 q1⟩, below_grown h2 q1 h2.size⟩, X.heap.size, q2, rfl⟩, fun K hK => ?_⟩
            dsimp only [encs]
            have RN := Lib.hid (VRow.new X (str zer) 37)
            clear h0 h1 h2
            generalize o.s.getD x.val zer = s at *
            gi_wp2_with ((with_reducible show wpListIn _ _ _ _ _ (⟨none, .store _ (.tmp 5) _, _, _, _, _⟩ :: _) _ _); refine wpListIn_storeW rfl _ _ _ _ rfl X.heap.size (str zer) (str s) rfl rfl RN.out Ss.sizeS rfl (Ss.str_one s) ?_)
            exact hK
          case body =>
            rintro lp pre x a' X ⟨⟨⟨h0, h1⟩, h2⟩, g, h3, rfl⟩ hlen hG
            have HN := Lib.hid (sall_next o.s pre.length (by rw [HK.out.s]; exact hlen))
            have HNO := Lib.hid (fun h => all_no (p := rgt) (l := o.s) (k := pre.length + 1) h)
            rw [hG] at h3 ⊢
            have HL := Lib.hid (show (pre ++ [x]).length = pre.length + 1 by simp)
            have H0 := Lib.hid h0
            have H1 := Lib.hid h1
            have H2 := Lib.hid h2
            have RS := Lib.hid (row_range h3)
            clear h0 h1 h2 h3
            generalize o.s.getD pre.length zer = s at *
            have CS := CR s X
            unfold stv at CS
            change Calls _ _ #[.agg (str s).toArray] _ _ at CS
            cases hs : rgt s
            all_goals
              rw [hs] at CS HN
              have RSS := Lib.hid hs
              clear hs
            all_goals gi_wp2_with (first
              | ((with_reducible show wpListIn _ _ _ _ _ (⟨some 29, _, _, _, _, _⟩ :: _) _ _); refine wpListIn_loadR rfl _ _ rfl g 0 rfl (str s) _ RS.out Tryz.underlying37 rfl Ss.sizeS ?_)
              | (refine ⟨trivial, ?_⟩; gi_at_call 69; refine (CallsIn.inRound lp (callsIn_wide.2 CS)).mono ?_; rintro e w2 ⟨rfl, bw⟩; have HB2 := Lib.hid (show Boxed w2 (w.heap.size + 1) 4 (.bool false) from VRow.below (cs := [_]) H1.out bw (VRow.lt (cs := [_]) H1.out)); have HB3 := Lib.hid (grow H2.out bw); have KF := Lib.hid (KeepsFrom.of_but (B := W2.heap.size) (But.of_below (S := fun _ => False) bw) (fun _ q => q.elim)); have c1 := HB2.out.cell; have f1 := HB2.out.frozen; clear bw))
            · exact ⟨KF.out.trans ((KeepsOthers.setCell _ _ _).from _), trivial, ⟨⟨rfl, HNO.out (by rw [HN.out]; simp)⟩, HB2.out.set _⟩, HB3.out.setCell (p := ⟨w.heap.size + 1, 0, none⟩) (by show w.heap.size ≤ w.heap.size + 1; omega) _⟩
            · exact ⟨KF.out, trivial, ⟨by rw [HL.out, HN.out, H0.out]; rfl, HB2.out⟩, HB3.out⟩
          case done =>
            rintro D ys X hD hys ⟨⟨h0, h1⟩, h2⟩ hK
            rw [len8 hys, List.take_of_length_le (by rw [HK.out.s]; omega)] at h0
            have HR := Lib.hid (HY.out HQT.out HVT.out h0)
            have c1 := h1.cell
            have f1 := h1.frozen
            clear h0
            gi_wp2
            have hK' := (KeepsOthers.setCell X ⟨w.heap.size + 1, 0, none⟩ (.bool true)).same D _ hK rfl
            refine ⟨by simp, .inl ⟨_, _, rfl, run_takeDeferred hK', ?_⟩⟩
            have hc := (((h1.set (.bool true)).kept (grownBy_putObj' _ D (.deferred none)) (by simp; omega))).cell
            exact ⟨.bool true, by simp [results, Tryz.f25, go_sem, hc], by rw [HR.out],
              (h2.setCell (p := ⟨w.heap.size + 1, 0, none⟩) (by show w.heap.size ≤ w.heap.size + 1; omega) _).trans (belowK_b (w := w) (Nat.le_refl _) _ D _ _ (by omega) hK' rfl rfl)⟩
          case stop =>
            rintro D cc pre X hD - ⟨⟨⟨rfl, hno⟩, h1⟩, h2⟩ hK
            have HR := Lib.hid (HS.out hno)
            gi_wp2
            refine ⟨by simp, .inl ⟨_, _, rfl, run_takeDeferred hK, ?_⟩⟩
            have hc := (h1.kept (grownBy_putObj' _ D (.deferred none)) (by simp; omega)).cell
            exact ⟨.bool false, by simp [results, Tryz.f25, go_sem, hc], by rw [HR.out], h2.trans (belowK_b (w := w) (Nat.le_refl _) X D _ _ (by omega) hK rfl rfl)⟩
end Ot
end Go.Proofs.YtpoededbmdffpaaGreatDoor
