/-
  What Step of rudderref18 does: a contract by walking the Go text. Conditions: how the document's signal lies; that the configuration, the state and what is told may be.
-/
import Derived.Test.YtacclmfbkiadbaaGreatJSignalRefEnd4
namespace Go.Proofs.YtacclmfbkiadbaaGreat
set_option maxRecDepth 100000
open Go.ChangeShapes Go.WideShapes Go.ChangeAt Go.RowKit Go.Deep
namespace Sg
open Cf (G CA Box)
theorem rsf_setF (v i l s : Int) (f : Bool) (T E : Nat → Int) (x : Bool) : (rsf v i l s f T E).set 4 (.bool x) = rsf v i l s x T E := rfl
theorem rsf_setL (v i l s : Int) (f : Bool) (T E : Nat → Int) (x : Int) : (rsf v i l s f T E).set 2 (.int .i64 x) = rsf v i x s f T E := rfl
theorem rsf_setV (v i l s : Int) (f : Bool) (T E : Nat → Int) (x : Int) : (rsf v i l s f T E).set 0 (.int .i64 x) = rsf x i l s f T E := rfl
theorem rsf_one (v i l s : Int) (f : Bool) (T E : Nat → Int) : (rsf v i l s f T E).toArray.all (·.oneCell') = true := by simp [rsf, r13, Value.oneCell']
theorem sizeRs18 : (Tryz.prog.info? 49).map (·.size) = some 13 := by kernel_rfl
theorem aggRs18 (w : World) : (isAgg 49).run Tryz.prog w = .ok true w := by simp [isAgg, run_underlying Tryz.underlying49]
theorem rsf_setI (v i l s : Int) (f : Bool) (T E : Nat → Int) (x : Int) : (rsf v i l s f T E).set 1 (.int .i64 x) = rsf v x l s f T E := rfl
set_option maxRecDepth 100000 in
set_option maxHeartbeats 6400000 in
theorem rstep_any {W : World} {S : Nat → Prop} {p : Pl} {c : List Int} {s : Si} {ls : Nat → Int} {r : Nat → Rw} {sh : Int} (H : RX W S p c s ls) (hls : ∀ i, i < NN c → ls i = (s.ch i).last) (hc : c.length = 21) (hR : Cf.Right c) (hO : Ok c s) (hr : okr c r sh) (hk : ∀ i, i < NN c → (s.ch i).k ≤ 1000) (hV : s.votes.length ≤ 1000) :
    Calls Tryz.prog 10 #[.pointer (some ⟨p.g, 0, none⟩), .agg (raw8 r).toArray, .int .i64 sh] W fun e w' => e = .returned (.agg (res c s r sh).toArray) ∧ (∃ S', RX w' S' p c (nxt c s r sh) (fun i => (r i).n) ∧ ∀ j, S' j → S j ∨ W.heap.size ≤ j) ∧ But S W w' := by
  have h34 := NN_34 hR
  have hNE := NN_eq hR
  have HSL := Lib.hid (fun j (h : S j) => H.lt j h)
  have B0 := Lib.hid ((((Below.refl W.heap.size W).alloc (Nat.le_refl _) (.cells (raw8 r).toArray 46)).alloc (by simp) (.cells #[.int .i64 0, .int .i64 0, .int .i64 0, .int .i64 0, .bool false, .int .i64 0, .int .i64 0, .int .i64 0, .int .i64 0, .int .i64 0, .int .i64 0, .int .i64 0, .int .i64 0] 49)).alloc (by simp; omega) (.cells #[.int .i64 0, .int .i64 0, .int .i64 0, .int .i64 0, .bool false, .int .i64 0, .int .i64 0, .int .i64 0, .int .i64 0, .int .i64 0, .int .i64 0, .int .i64 0, .int .i64 0] 49))
  have hsz : (((W.alloc (.cells (raw8 r).toArray 46)).alloc (.cells #[.int .i64 0, .int .i64 0, .int .i64 0, .int .i64 0, .bool false, .int .i64 0, .int .i64 0, .int .i64 0, .int .i64 0, .int .i64 0, .int .i64 0, .int .i64 0, .int .i64 0] 49)).alloc (.cells #[.int .i64 0, .int .i64 0, .int .i64 0, .int .i64 0, .bool false, .int .i64 0, .int .i64 0, .int .i64 0, .int .i64 0, .int .i64 0, .int .i64 0, .int .i64 0, .int .i64 0] 49)).heap.size = W.heap.size + 3 := by simp
  have sv (X : World) (n : Nat) (y : TypeId) (cs : List Value) (hX : X.heap.size = n) : VRow (X.alloc (.cells cs.toArray y)) n y cs := hX ▸ VRow.new X cs y
  have N0 := Lib.hid (show Sb W (((W.alloc (.cells (raw8 r).toArray 46)).alloc (.cells #[.int .i64 0, .int .i64 0, .int .i64 0, .int .i64 0, .bool false, .int .i64 0, .int .i64 0, .int .i64 0, .int .i64 0, .int .i64 0, .int .i64 0, .int .i64 0, .int .i64 0] 49)).alloc (.cells #[.int .i64 0, .int .i64 0, .int .i64 0, .int .i64 0, .bool false, .int .i64 0, .int .i64 0, .int .i64 0, .int .i64 0, .int .i64 0, .int .i64 0, .int .i64 0, .int .i64 0] 49)) S S p c (sA s r 0) (lA r ls 0) r (rsf 0 0 0 0 false (upto 0 (ahd c s r) zf) zf) (idx (inK c s r sh 0)) (ownK r (inK c s r sh 0)) (.slice none 0 0) (.slice none 0 0) from by
    have e1 : sA s r 0 = s := by unfold sA; rw [upto_zero]
    have e2 : lA r ls 0 = ls := upto_zero _ _
    rw [e1, e2, upto_zero]
    exact ⟨H.on B0.out, fun j hj => .inl hj, ((sv W _ _ _ rfl).alloc _).alloc _, (sv _ _ _ _ (by simp)).alloc _, sv _ _ _ _ (by simp), OwnI.nil, OwnI.nil, apart_nil _, fun g e => by (cases e), fun g e => by (cases e), But.of_below B0.out⟩)
  have HC := Lib.hid hc
  have HR := Lib.hid hR
  have HOK := Lib.hid hO
  have HRR := Lib.hid hr
  have HKK := Lib.hid hk
  have HVV := Lib.hid hV
  have HLS := Lib.hid hls
  clear H hc hR hO hr hk hV hls sv B0
  go_enter Tryz.func10, Tryz.ntmps10
  go_upto_region 2 with fail
  generalize ((W.alloc (.cells (raw8 r).toArray 46)).alloc (.cells #[.int .i64 0, .int .i64 0, .int .i64 0, .int .i64 0, .bool false, .int .i64 0, .int .i64 0, .int .i64 0, .int .i64 0, .int .i64 0, .int .i64 0, .int .i64 0, .int .i64 0] 49)).alloc (.cells #[.int .i64 0, .int .i64 0, .int .i64 0, .int .i64 0, .bool false, .int .i64 0, .int .i64 0, .int .i64 0, .int .i64 0, .int .i64 0, .int .i64 0, .int .i64 0, .int .i64 0] 49) = W0 at *
  have hEN : (G c 0) = (NN c : Int) := hNE.symm
  have h44 : NN c ≤ 4 := by omega
  clear hNE
  go_wp2_with fail
  go_loopg [8, 9, 10, 11] (NN c) (fun gg s8 s9 s10 s11 wx => ∃ (k : Nat) (S' : Nat → Prop), k + gg = NN c ∧ s10 = .int .i64 k ∧ Hid (Sb W wx S S' p c (sA s r k) (lA r ls k) r (rsf 0 0 0 0 false (upto k (ahd c s r) zf) zf) (idx (inK c s r sh k)) (ownK r (inK c s r sh k)) s8 s9))
  case atStart => exact ⟨0, S, by omega, rfl, N0⟩
  case round =>
    rename World => X
    obtain ⟨k, S', hkg, rfl, N⟩ := hrel
    have HKG := Lib.hid hkg
    have q0 := N.out.rx.cfg HC.out 0 (by omega)
    rw [hEN] at q0
    clear N0 hkg hsz
    by_cases hk : k < NN c
    · have hki : (k : Int) < (NN c : Int) := by omega
      have hk4 : k < 4 := by omega
      have hk4' : (k : Int) < 4 := by omega
      have HKN := Lib.hid hk
      clear hk
      have i0 := N.out.raw.cell _ (raw8_is r k hk4)
      have i1 := N.out.raw.cell _ (raw8_n r k hk4)
      have CA := rahead_any (i := k) (r := r) N.out.rx HC.out HR.out HKN.out h44 (fun h => (Jp.val_iff _).2 (HRR.out.1 k HKN.out h)) (by rw [sA_ch]; exact fun _ => (Jp.val_iff _).2 (HOK.out.ch k HKN.out).last) (by rw [sA_ch]; exact (upto_same _ _ _).trans (HLS.out k HKN.out)) (by rw [sA_ch]; exact HKK.out k HKN.out) HVV.out
      rw [ahd_A, aw_A, pt_A, al_A] at CA
      unfold rwv at CA
      go_wp2_with fail
      refine CA.mono ?_; rintro e X1 ⟨rfl, ⟨S2, rx1, hs1⟩, b1⟩
      have N1 := Lib.hid (N.out.call HSL.out rx1 b1 hs1)
      have c5 := N1.out.out.cell _ (rsf_T _ _ _ _ _ _ _ k hk4)
      have f5 := N1.out.out.frozen (5 + k)
      have N2 := Lib.hid (N1.out.put HSL.out (only_cell (W.heap.size + 1 + 1) (5 + k) (.int .i64 (ahd c s r k))) (N1.out.out.set (5 + k) _))
      rw [rsf_setT _ _ _ _ _ _ _ k hk4, upto_succ] at N2
      have T5 := Lib.hid (N2.out.out.cell _ (rsf_T _ _ _ _ _ (upto (k + 1) (ahd c s r) zf) _ k hk4))
      rw [show upto (k + 1) (ahd c s r) zf k = ahd c s r k from if_pos (Nat.lt_succ_self k)] at T5
      have i2 := N2.out.raw.cell _ (raw8_is r k hk4)
      have i3 := N2.out.raw.cell _ (raw8_n r k hk4)
      go_upto_region 8 with fail
      generalize X1.setCell ⟨W.heap.size + 1 + 1, 5 + k, none⟩ (.int .i64 (ahd c s r k)) = X2 at *
      have CI : ∀ Z, Below X2.heap.size X2 Z → Calls Tryz.prog 35 #[.pointer (some ⟨p.g, 0, none⟩), .int .i64 k, .agg #[.bool (r k).is, .int .i64 (r k).n], .int .i64 (ahd c s r k), .int .i64 sh] Z fun e w' => e = .returned (.bool (isin c s r sh k)) ∧ Below Z.heap.size Z w' := fun Z hZ => by
        obtain ⟨cap, cm, h1, _⟩ := N2.out.rx.sig
        have q := rinside_any (r k) k (ahd c s r k) sh Z HC.out hk4 (h1.below hZ h1.lt)
        rw [sq_A c s r k HKN.out, ins_eq] at q
        exact q
      clear N N1 rx1 b1 hs1 CA i0 i1 q0 c5 f5
      have i2' := cell_regrown i2
      have i3' := cell_regrown i3
      have t5' := cell_regrown T5.out
      have cS := reg_call (w := X2) CI
      clear CI i2 i3
      have HY := Lib.hid (fun h => inK_yes (c := c) (s := s) (r := r) (sh := sh) (k := k) h)
      have HNO := Lib.hid (fun h => inK_no (c := c) (s := s) (r := r) (sh := sh) (k := k) h)
      have HL := Lib.hid (inK_len c s r sh k)
      generalize isin c s r sh k = ii at *
      generalize ahd c s r k = tk at *
      refine wp_region_quiet_below (by kernel_rfl) (by kernel_rfl) ?_
      repeat (go_big_quiet_step (exact cS _ _))
      refine wpQuiet_nil ?_
      intro _ hw'
      obtain ⟨⟨dq, osq⟩, hw''⟩ := hw'
      subst hw''
      have N3 := Lib.hid (N2.out.on (below_regrown X2 dq osq))
      clear i2' i3' t5' cS N2 T5
      generalize Sort.grow (redrawn X2 dq) osq = X3 at *
      cases ii
      · rw [← HNO.out (by first | rfl | trivial)] at N3
        go_wp2_with fail
        go_roundg (NN c - k - 1)
        case rel =>
          have h1 := HKG.out
          have h2 := HKN.out
          exact ⟨k + 1, S2, by omega, by go_num, N3⟩
        case measure =>
          have h1 := HKG.out
          have h2 := HKN.out
          omega
      · have l1 : (idx (inK c s r sh k)).length ≤ 4 := by unfold idx; rw [List.length_map]; have := HL.out; omega
        have l2 : (ownK r (inK c s r sh k)).length ≤ 4 := by unfold ownK; rw [List.length_map]; have := HL.out; omega
        have hbg := N3.out.big
        have BA := Lib.hid ((Below.refl X3.heap.size X3).alloc (Nat.le_refl _) (.cells #[.int .i64 k] 3))
        go_upto_region 10 with fail
        go_wp2_with (first
          | ((with_reducible show wpList _ _ _ (⟨some 55, _, _, _, _, _⟩ :: _) _ _)
             refine wpList_appendI_at rfl (.tmp 52) (.tmp 54) 55 rfl .i64 (W.heap.size + 3) 3 8 Tryz.underlying55 intInfo _ (idx (inK c s r sh k)) (some ⟨X3.heap.size, 0, none⟩) 1 1 [(k : Int)] rfl rfl rfl (Ws.owns_on N3.out.own1 BA.out) (laid1 X3 3 k) (by unfold maxLen; simp; omega) (by simp; omega) X3 (BA.out.mono hbg) hbg ?_
             intro v1 Y1 o1 b1 g1 m1
             have N4 := Lib.hid (N3.out.one o1 BA.out m1 g1)
             have hb4 := N4.out.big
             have BB := Lib.hid ((Below.refl Y1.heap.size Y1).alloc (Nat.le_refl _) (.cells #[.int .i64 (r k).n] 3))
             have i4 := N4.out.raw.cell _ (raw8_n r k hk4)
             clear o1 b1 g1 m1 N3 BA)
          | ((with_reducible show wpList _ _ _ (⟨some 62, _, _, _, _, _⟩ :: _) _ _)
             refine wpList_appendI_at rfl (.tmp 56) (.tmp 61) 55 rfl .i64 (W.heap.size + 3) 3 8 Tryz.underlying55 intInfo _ (ownK r (inK c s r sh k)) (some ⟨Y1.heap.size, 0, none⟩) 1 1 [(r k).n] rfl rfl rfl (Ws.owns_on N4.out.own2 BB.out) (laid1 Y1 3 (r k).n) (by unfold maxLen; simp; omega) (by simp; omega) Y1 (BB.out.mono hb4) hb4 ?_
             intro v2 Y2 o2 b2 g2 m2
             have N5 := Lib.hid (N4.out.two o2 BB.out m2 g2)
             clear o2 b2 g2 m2 N4 BB i4))
        rw [idx_snoc, own_snoc, ← HY.out (by first | rfl | trivial)] at N5
        go_roundg (NN c - k - 1)
        case rel =>
          have h1 := HKG.out
          have h2 := HKN.out
          exact ⟨k + 1, S2, by omega, by go_num, N5⟩
        case measure =>
          have h1 := HKG.out
          have h2 := HKN.out
          omega
    · have hke : k = NN c := by have := HKG.out; omega
      have hki : ¬ (k : Int) < (NN c : Int) := by omega
      subst hke
      rw [inK_all] at N
      clear hk
      obtain ⟨a8, c8, rfl, i8, q8, m8⟩ := N.out.own1.form2
      obtain ⟨a9, c9, rfl, i9, q9, m9⟩ := N.out.own2.form2
      change IntsAt .i64 X a9 (own c s r sh) at i9
      change (own c s r sh).length ≤ c9 at q9
      have CM := Od.rmid_any a9 c9 (own c s r sh) X (by unfold maxLen at m9; omega) i9
      rw [midb_any HR.out HRR.out.1 HOK.out] at CM
      have MB := midv_bd (sh := sh) HR.out HRR.out.1 HOK.out
      have MV := Lib.hid (fun (i : Nat) => (show lev c s r sh i = if ((r i).is && any c s r sh) = true then Dr.nx (G c 8) (s.ch i).lev ((r i).n - Od.midv (own c s r sh)) else (s.ch i).lev from rfl))
      have MD := Lib.hid (fun (i : Nat) => (show drf c s r sh i = ((r i).is && any c s r sh && Dr.ov (G c 7) (lev c s r sh i)) from rfl))
      have Q8 := Lib.hid (And.intro q8 m8)
      clear i8 i9 q8 q9 m8 m9
      rw [← inK_all] at N
      change Hid (Sb W X S S' p c (sA s r (NN c)) (lA r ls (NN c)) r (rsf 0 0 0 0 false (upto (NN c) (ahd c s r) zf) zf) (idx (inl c s r sh)) (own c s r sh) (.slice a8 (idx (inl c s r sh)).length c8) (.slice a9 (own c s r sh).length c9)) at N
      change Calls _ _ #[.slice a9 (own c s r sh).length c9] _ _ at CM
      go_wp2_with fail
      refine CM.mono ?_; rintro e X1 ⟨rfl, b1⟩
      have N1 := Lib.hid (N.out.on b1)
      rw [← sB_0 c s r sh, ← tB_0 c s r sh] at N1
      clear N CM b1 q0
      generalize Od.midv (own c s r sh) = mv at *
      generalize any c s r sh = an at *
      go_wp2_with fail
      go_loopg [14, 15, 16] (NN c) (fun gg s14 s15 s16 wx => ∃ k : Nat, k + gg = NN c ∧ s14 = .int .i64 k ∧ Hid (Sb W wx S S' p c (sB c s r sh k) (lA r ls (NN c)) r (rsf 0 0 0 0 false (tB c s r sh k) zf) (idx (inl c s r sh)) (own c s r sh) (.slice a8 (idx (inl c s r sh)).length c8) (.slice a9 (own c s r sh).length c9)))
      case atStart => exact ⟨0, by omega, rfl, N1⟩
      case round =>
        rename World => X2
        obtain ⟨k, hkg, rfl, N⟩ := hrel
        have HKG := Lib.hid hkg
        have q0 := N.out.rx.cfg HC.out 0 (by omega)
        rw [hEN] at q0
        clear N1 hkg
        by_cases hk : k < NN c
        · have hki : (k : Int) < (NN c : Int) := by omega
          have hk4 : k < 4 := by omega
          have hk4' : (k : Int) < 4 := by omega
          have HKN := Lib.hid hk
          have i0 := N.out.raw.cell _ (raw8_is r k hk4)
          have i1 := N.out.raw.cell _ (raw8_n r k hk4)
          have lvk := MV.out k
          have dvk := MD.out k
          have KS := Lib.hid (fun h => sB_skip c s r sh k HKN.out h)
          have KT := Lib.hid (fun h => tB_skip c s r sh k HKN.out h)
          clear hk
          cases an
          · rw [Bool.and_false] at lvk dvk
            rw [if_neg (by simp)] at lvk
            rw [Bool.false_and] at dvk
            rw [← KS.out lvk, ← KT.out dvk] at N
            clear lvk dvk KS KT
            generalize (r k).is = is at *
            cases is
            · go_wp2_with fail
              go_roundg (NN c - k - 1)
              case rel =>
                have h1 := HKG.out
                have h2 := HKN.out
                exact ⟨k + 1, by omega, by go_num, N⟩
              case measure =>
                have h1 := HKG.out
                have h2 := HKN.out
                omega
            · go_wp2_with fail
              go_roundg (NN c - k - 1)
              case rel =>
                have h1 := HKG.out
                have h2 := HKN.out
                exact ⟨k + 1, by omega, by go_num, N⟩
              case measure =>
                have h1 := HKG.out
                have h2 := HKN.out
                omega
          · have his : (r k).is = true → -2147483648 ≤ (r k).n ∧ (r k).n ≤ 2147483647 := fun h => HRR.out.1 k HKN.out h
            rw [Bool.and_true] at lvk dvk
            cases h : (r k).is
            · rw [h] at i0 lvk dvk
              rw [if_neg (by simp)] at lvk
              rw [Bool.false_and] at dvk
              rw [← KS.out lvk, ← KT.out dvk] at N
              clear lvk dvk KS KT his h
              go_wp2_with fail
              go_roundg (NN c - k - 1)
              case rel =>
                have h1 := HKG.out
                have h2 := HKN.out
                exact ⟨k + 1, by omega, by go_num, N⟩
              case measure =>
                have h1 := HKG.out
                have h2 := HKN.out
                omega
            · have hrn := his h
              rw [h] at i0 lvk dvk
              rw [if_pos rfl] at lvk
              rw [Bool.true_and, lvk] at dvk
              have l1 := N.out.rx.lvc HC.out HKN.out h44
              rw [sB_ch c s r sh k HKN.out] at l1
              change X2.cell? _ = some (.int .i64 (s.ch k).lev) at l1
              have a8' := N.out.rx.cfg HC.out 8 (by omega)
              have hlb := (HOK.out.ch k HKN.out).lev
              have hlag : 0 ≤ G c 8 ∧ G c 8 ≤ 8 := by
                obtain ⟨-, -, -, -, -, -, -, -, h8, -⟩ := HR.out
                exact h8
              have hdr : 0 ≤ G c 7 ∧ G c 7 ≤ 2147483647 := by
                obtain ⟨-, -, -, -, -, -, -, h7, -⟩ := HR.out
                exact h7
              have cS := reg_call (w := X2) (fun Z _ => Dr.rcome_any (G c 8) (s.ch k).lev ((r k).n - mv) Z hlb hlag.1 hlag.2)
              have hnb := Dr.nx_level (lag := G c 8) (level := (s.ch k).lev) (d := (r k).n - mv) hlb hlag.1 hlag.2
              have LV := Lib.hid lvk
              have hov : Dr.ov (G c 7) (Dr.nx (G c 8) (s.ch k).lev ((r k).n - mv)) = (decide (G c 7 < Dr.nx (G c 8) (s.ch k).lev ((r k).n - mv)) || decide (Dr.nx (G c 8) (s.ch k).lev ((r k).n - mv) < -G c 7)) := rfl
              rw [hov] at dvk
              replace l1 := cell_regrown l1
              replace a8' := cell_regrown a8'
              have i1' := cell_regrown i1
              clear his h lvk hov KS hlb hlag
              generalize Dr.ce ((r k).n - mv) = ce at *
              generalize Dr.nx (G c 8) (s.ch k).lev ((r k).n - mv) = lv at *
              go_upto_region 17 with fail
              refine wp_region_quiet_below (by kernel_rfl) (by kernel_rfl) ?_
              repeat (go_big_quiet_step (exact cS _ _))
              refine wpQuiet_nil ?_
              intro _ hw'
              obtain ⟨⟨dq, osq⟩, hw''⟩ := hw'
              subst hw''
              have N2 := Lib.hid (N.out.on (below_regrown X2 dq osq))
              clear l1 a8' i1' i0 i1 cS N q0
              generalize Sort.grow (redrawn X2 dq) osq = X3 at *
              have f1 := N2.out.rx.frz (28 + k)
              have l1 := N2.out.rx.lvc HC.out HKN.out h44
              have N3 := Lib.hid (N2.out.sig HSL.out (only_cell p.g (28 + k) _) (N2.out.rx.setLev HC.out HKN.out h44 lv))
              rw [← LV.out, sB_pt c s r sh k HKN.out, LV.out] at N3
              have a7 := N3.out.rx.cfg HC.out 7 (by omega)
              have t5 := N3.out.out.cell _ (rsf_T 0 0 0 0 false (tB c s r sh k) zf k hk4)
              rw [tB_at c s r sh k HKN.out] at t5
              have f5 := N3.out.out.frozen (5 + k)
              have hab := ahd_b c s r k
              have TP := Lib.hid (fun h => tB_put c s r sh k h)
              have N5 := Lib.hid (N3.out.put HSL.out (only_cell (W.heap.size + 1 + 1) (5 + k) (.int .i64 (ahd c s r k + 16))) (N3.out.out.set (5 + k) _))
              rw [rsf_setT _ _ _ _ _ _ _ k hk4] at N5
              clear N2 LV
              cases d1 : decide (G c 7 < lv)
              · cases d2 : decide (lv < -G c 7)
                · rw [d1, d2] at dvk
                  rw [← KT.out dvk] at N3
                  clear N5 TP KT dvk t5 f5
                  go_wp2_with fail
                  go_roundg (NN c - k - 1)
                  case rel =>
                    have h1 := HKG.out
                    have h2 := HKN.out
                    exact ⟨k + 1, by omega, by go_num, N3⟩
                  case measure =>
                    have h1 := HKG.out
                    have h2 := HKN.out
                    omega
                · rw [d1, d2] at dvk
                  rw [TP.out dvk] at N5
                  clear N3 TP KT dvk
                  go_wp2_with fail
                  go_roundg (NN c - k - 1)
                  case rel =>
                    have h1 := HKG.out
                    have h2 := HKN.out
                    exact ⟨k + 1, by omega, by go_num, N5⟩
                  case measure =>
                    have h1 := HKG.out
                    have h2 := HKN.out
                    omega
              · rw [d1, Bool.true_or] at dvk
                rw [TP.out dvk] at N5
                clear N3 TP KT dvk
                go_wp2_with fail
                go_roundg (NN c - k - 1)
                case rel =>
                  have h1 := HKG.out
                  have h2 := HKN.out
                  exact ⟨k + 1, by omega, by go_num, N5⟩
                case measure =>
                  have h1 := HKG.out
                  have h2 := HKN.out
                  omega
        · have hke : k = NN c := by have := HKG.out; omega
          have hki : ¬ (k : Int) < (NN c : Int) := by omega
          subst hke
          clear hk
          obtain ⟨a', c', e', i', q', m'⟩ := N.out.own1.form2
          obtain rfl : a8 = a' := by injection e'
          obtain rfl : c8 = c' := by injection e'
          have hol : ∀ i, i < NN c → ((sB c s r sh (NN c)).ch i).off = (s.ch i).off := fun i hi => by rw [sB_at c s r sh i hi]; rfl
          have h9 : 0 ≤ G c 9 ∧ G c 9 ≤ 4294967296 := by
            obtain ⟨-, -, -, -, -, -, -, -, -, h9, -⟩ := HR.out
            omega
          have CV := rvote_any (r := r) (l := inl c s r sh) (a := a8) (cap := c8) N.out.rx HC.out h44 (fun i hi => (inl_iff.1 hi).1) (inl_len HR.out) i' (fun ad e => N.out.n1 _ (by rw [e]; rfl)) (by rw [idx_len] at q'; unfold maxLen at m'; exact ⟨q', by omega⟩) (fun i hi => by
            have hi' := (inl_iff.1 hi).1
            have := (HOK.out.ch i hi').off
            have hn := (in_nums HR.out HRR.out.1 HOK.out hi).2.1
            rw [hol i hi']
            obtain ⟨-, -, -, -, -, -, -, -, -, -, h10, -⟩ := HR.out
            omega) h9
          rw [eV_B, val_B, sus_B, ← idx_len] at CV
          clear e' i' q' m' hol
          go_upto_region 21 with fail
          go_wp2_with ((with_reducible show wpList _ _ _ (⟨some 138, _, _, _, _, _⟩ :: _) _ _); refine VB.loaded (cs := raw8 r) rfl _ rfl W.heap.size rfl N.out.raw Tryz.underlying46 rfl sizeRr ?_)
          refine CV.mono ?_; rintro e X3 ⟨rfl, rx, b⟩
          have N1 := Lib.hid (show Sb W X3 S S' p c (sC c s r sh) (lA r ls (NN c)) r (rsf 0 0 0 0 false (tB c s r sh (NN c)) zf) (idx (inl c s r sh)) (own c s r sh) (.slice a8 (idx (inl c s r sh)).length c8) (.slice a9 (own c s r sh).length c9) from N.out.call HSL.out rx b fun _ q => .inl q)
          have f3 := N1.out.out.frozen 3
          have c3 := N1.out.out.cell 3 (v := .int .i64 0) rfl
          have N2 := Lib.hid (N1.out.put HSL.out (only_cell (W.heap.size + 1 + 1) 3 (.int .i64 (sus c s r sh))) (N1.out.out.set 3 _))
          rw [rsf_setS, ← tM_0] at N2
          clear N N1 CV rx b q0
          generalize hsu : sus c s r sh = su at *
          have HSU := Lib.hid hsu
          clear hsu
          go_wp2_with fail
          go_loopg [17, 18] (NN c) (fun gg s17 s18 wx => ∃ k : Nat, k + gg = NN c ∧ s17 = .int .i64 k ∧ Hid (Sb W wx S S' p c (sC c s r sh) (lA r ls (NN c)) r (rsf 0 0 0 su false (tM c s r sh k) zf) (idx (inl c s r sh)) (own c s r sh) (.slice a8 (idx (inl c s r sh)).length c8) (.slice a9 (own c s r sh).length c9)))
          case atStart => exact ⟨0, by omega, rfl, N2⟩
          case round =>
            rename World => X4
            obtain ⟨k, hkg, rfl, N⟩ := hrel
            have HKG := Lib.hid hkg
            have q0 := N.out.rx.cfg HC.out 0 (by omega)
            rw [hEN] at q0
            clear N2 hkg
            by_cases hk : k < NN c
            · have hki : (k : Int) < (NN c : Int) := by omega
              have hk4 : k < 4 := by omega
              have hk4' : (k : Int) < 4 := by omega
              have HKN := Lib.hid hk
              have his : (r k).is = true → -2147483648 ≤ (r k).n ∧ (r k).n ≤ 2147483647 := fun h => HRR.out.1 k HKN.out h
              have i0 := cell_regrown (N.out.raw.cell _ (raw8_is r k hk4))
              have i1 := cell_regrown (N.out.raw.cell _ (raw8_n r k hk4))
              have o1 := N.out.rx.ofc HC.out HKN.out h44
              rw [show ((sC c s r sh).ch k).off = (s.ch k).off from by show ((sB c s r sh (NN c)).ch k).off = _; rw [sB_at c s r sh k HKN.out]; rfl] at o1
              replace o1 := cell_regrown o1
              have hof := (HOK.out.ch k HKN.out).off
              have hau : 0 ≤ G c 10 ∧ G c 10 ≤ 2147483647 := by
                obtain ⟨-, -, -, -, -, -, -, -, -, -, h10, -⟩ := HR.out
                exact h10
              have hvb := val_in (r := r) (sh := sh) HOK.out
              have hlh : -2147483648 ≤ G c 1 ∧ G c 2 ≤ 2147483647 := by
                obtain ⟨-, h1, h2, -⟩ := HR.out
                omega
              have h9 : 0 ≤ G c 9 ∧ G c 9 ≤ 4294967296 := by
                obtain ⟨-, -, -, -, -, -, -, -, -, h9, -⟩ := HR.out
                omega
              have mk : mis c s r sh k = ((r k).is && (decide (G c 9 < (r k).n - (s.ch k).off - val c s r sh) || decide (G c 9 < val c s r sh - ((r k).n - (s.ch k).off)))) := rfl
              have KT := Lib.hid (fun h => tM_skip c s r sh k HKN.out h)
              clear hk
              cases h : (r k).is
              · rw [h] at i0 mk
                rw [Bool.false_and] at mk
                rw [← KT.out mk] at N
                have hfz := h
                clear mk KT his h
                go_upto_region 25 with fail
                refine wp_region_quiet_below (by kernel_rfl) (by kernel_rfl) ?_
                repeat (go_big_quiet_step (fail))
                refine wpQuiet_nil ?_
                intro _ hw'
                obtain ⟨⟨dq, osq⟩, hw''⟩ := hw'
                subst hw''
                have N3 := Lib.hid (N.out.on (below_regrown X4 dq osq))
                clear i0 i1 o1 N q0
                generalize Sort.grow (redrawn X4 dq) osq = X5 at *
                have i0 := cell_regrown (N3.out.raw.cell _ (raw8_is r k hk4))
                rw [hfz] at i0
                go_upto_region 26 with fail
                refine wp_region_quiet_below (by kernel_rfl) (by kernel_rfl) ?_
                repeat (go_big_quiet_step (fail))
                refine wpQuiet_nil ?_
                intro _ hw'
                obtain ⟨⟨dq2, osq2⟩, hw''⟩ := hw'
                subst hw''
                have N4 := Lib.hid (N3.out.on (below_regrown X5 dq2 osq2))
                clear i0 N3
                generalize Sort.grow (redrawn X5 dq2) osq2 = X6 at *
                go_wp2_with fail
                go_roundg (NN c - k - 1)
                case rel =>
                  have h1 := HKG.out
                  have h2 := HKN.out
                  exact ⟨k + 1, by omega, by go_num, N4⟩
                case measure =>
                  have h1 := HKG.out
                  have h2 := HKN.out
                  omega
              · have hrn := his h
                rw [h] at i0 mk
                rw [Bool.true_and] at mk
                have hoo : -2147483648 ≤ (s.ch k).off ∧ (s.ch k).off ≤ 2147483647 := by omega
                have hvv : -2147483648 ≤ val c s r sh ∧ val c s r sh ≤ 2147483647 := by omega
                have TP := Lib.hid (fun h => tM_put c s r sh k h)
                clear his hof hau hvb hlh
                go_upto_region 25 with fail
                refine wp_region_quiet_below (by kernel_rfl) (by kernel_rfl) ?_
                repeat (go_big_quiet_step (fail))
                refine wpQuiet_nil ?_
                intro _ hw'
                obtain ⟨⟨dq2, osq2⟩, hw''⟩ := hw'
                subst hw''
                have N3 := Lib.hid (N.out.on (below_regrown X4 dq2 osq2))
                clear i0 i1 o1 N q0
                generalize Sort.grow (redrawn X4 dq2) osq2 = X5 at *
                have i0 := cell_regrown (N3.out.raw.cell _ (raw8_is r k hk4))
                rw [h] at i0
                have v1 := cell_regrown (N3.out.rx.vac HC.out)
                have a9' := cell_regrown (N3.out.rx.cfg HC.out 9 (by omega))
                rw [show (sC c s r sh).val = val c s r sh from rfl] at v1
                generalize val c s r sh = vv at *
                obtain ⟨ev, hev⟩ : ∃ ev, (r k).n - (s.ch k).off = ev := ⟨_, rfl⟩
                have heb : -4294967296 ≤ ev ∧ ev ≤ 4294967296 := by omega
                rw [hev] at mk ⊢
                have f5 : ∀ Z, Below X5.heap.size X5 Z → Z.frozen? ⟨W.heap.size + 1 + 1, 5 + k, none⟩ = false ∧ Z.cell? ⟨W.heap.size + 1 + 1, 5 + k, none⟩ = some (.int .i64 (gB c s r sh k)) := fun Z hZ => by
                  have q := (N3.out.on hZ).out
                  have t5 := q.cell _ (rsf_T 0 0 0 su false (tM c s r sh k) zf k hk4)
                  rw [tM_at c s r sh k HKN.out] at t5
                  exact ⟨q.frozen _, t5⟩
                have F5 := Lib.hid f5
                have hgb := gB_b c s r sh k
                clear f5 hrn hoo h hev
                go_upto_region 26 with fail
                cases d1 : decide (G c 9 < ev - vv)
                · cases d2 : decide (G c 9 < vv - ev)
                  · rw [d1, d2] at mk
                    rw [← KT.out mk] at N3
                    refine wp_region_quiet_below (by kernel_rfl) (by kernel_rfl) ?_
                    repeat (go_big_quiet_step (fail))
                    refine wpQuiet_nil ?_
                    intro _ hw'
                    obtain ⟨⟨dq2, osq2⟩, hw''⟩ := hw'
                    subst hw''
                    have N4 := Lib.hid (N3.out.on (below_regrown X5 dq2 osq2))
                    clear i0 v1 a9' N3 F5 TP KT
                    generalize Sort.grow (redrawn X5 dq2) osq2 = X6 at *
                    go_wp2_with fail
                    go_roundg (NN c - k - 1)
                    case rel =>
                      have h1 := HKG.out
                      have h2 := HKN.out
                      exact ⟨k + 1, by omega, by go_num, N4⟩
                    case measure =>
                      have h1 := HKG.out
                      have h2 := HKN.out
                      omega
                  · rw [d1, d2] at mk
                    refine wp_region_quiet_below (by kernel_rfl) (by kernel_rfl) ?_
                    repeat (go_big_quiet_step (fail))
                    refine wpQuiet_nil ?_
                    intro _ hw'
                    obtain ⟨⟨dq2, osq2⟩, hw''⟩ := hw'
                    subst hw''
                    have N4 := Lib.hid (N3.out.on (below_regrown X5 dq2 osq2))
                    obtain ⟨f5, t5⟩ := F5.out _ (below_regrown X5 dq2 osq2)
                    clear i0 v1 a9' N3 F5 KT
                    generalize Sort.grow (redrawn X5 dq2) osq2 = X6 at *
                    have N5 := Lib.hid (N4.out.put HSL.out (only_cell (W.heap.size + 1 + 1) (5 + k) (.int .i64 (gB c s r sh k + 32))) (N4.out.out.set (5 + k) _))
                    rw [rsf_setT _ _ _ _ _ _ _ k hk4, TP.out mk] at N5
                    clear N4 TP mk
                    go_wp2_with fail
                    go_roundg (NN c - k - 1)
                    case rel =>
                      have h1 := HKG.out
                      have h2 := HKN.out
                      exact ⟨k + 1, by omega, by go_num, N5⟩
                    case measure =>
                      have h1 := HKG.out
                      have h2 := HKN.out
                      omega
                · rw [d1, Bool.true_or] at mk
                  refine wp_region_quiet_below (by kernel_rfl) (by kernel_rfl) ?_
                  repeat (go_big_quiet_step (fail))
                  refine wpQuiet_nil ?_
                  intro _ hw'
                  obtain ⟨⟨dq2, osq2⟩, hw''⟩ := hw'
                  subst hw''
                  have N4 := Lib.hid (N3.out.on (below_regrown X5 dq2 osq2))
                  obtain ⟨f5, t5⟩ := F5.out _ (below_regrown X5 dq2 osq2)
                  clear i0 v1 a9' N3 F5 KT
                  generalize Sort.grow (redrawn X5 dq2) osq2 = X6 at *
                  have N5 := Lib.hid (N4.out.put HSL.out (only_cell (W.heap.size + 1 + 1) (5 + k) (.int .i64 (gB c s r sh k + 32))) (N4.out.out.set (5 + k) _))
                  rw [rsf_setT _ _ _ _ _ _ _ k hk4, TP.out mk] at N5
                  clear N4 TP mk
                  go_wp2_with fail
                  go_roundg (NN c - k - 1)
                  case rel =>
                    have h1 := HKG.out
                    have h2 := HKN.out
                    exact ⟨k + 1, by omega, by go_num, N5⟩
                  case measure =>
                    have h1 := HKG.out
                    have h2 := HKN.out
                    omega
            · have hke : k = NN c := by have := HKG.out; omega
              have hki : ¬ (k : Int) < (NN c : Int) := by omega
              subst hke
              clear hk
              have CE := rend_any (r := r) (T := tM c s r sh (NN c)) (E := zf) (o := W.heap.size + 1 + 1) N.out.rx HC.out HR.out (ok_C HR.out HRR.out.1 HOK.out) HVV.out N.out.out (fun q => by
                rcases N.out.sub _ q with q | q
                · have := HSL.out _ q; omega
                · omega)
              rw [tM_tri, end_ev] at CE
              go_upto_region 28 with fail
              clear q0
              go_wp2_with ((with_reducible show wpList _ _ _ (⟨some 203, _, _, _, _, _⟩ :: _) _ _); refine VB.loaded (cs := raw8 r) rfl _ rfl W.heap.size rfl N.out.raw Tryz.underlying46 rfl sizeRr ?_)
              refine CE.mono ?_; rintro e X5 ⟨rfl, ⟨S2, rx, hs2⟩, vr, b⟩
              have rx' : RX X5 S2 p c (nxt c s r sh) (fun i => (r i).n) := RX.congr rx rfl rfl (fun i hi => end_si c s r sh i hi) (fun i hi => if_pos hi)
              have N0 := Lib.hid (N.out.both HSL.out rx' vr b hs2)
              have hnd := Lib.hid (inl_nodup (c := c) (s := s) (r := r) (sh := sh))
              have HIL := Lib.hid (inl_len (s := s) (r := r) (sh := sh) HR.out)
              clear N CE rx rx' vr b hs2
              generalize hTT : tri c s r sh = TT at *
              have HTT := Lib.hid hTT
              clear hTT
              generalize hEE : evi c s r sh = EE at *
              have HEE := Lib.hid hEE
              clear hEE
              have IM := Lib.hid (fun k (h : k < 4) => inM_succ c s r sh k h)
              have IL := Lib.hid (fun k => inM_low c s r sh k)
              have I0 := Lib.hid (inM_0 c s r sh)
              have IA := Lib.hid (inM_all c s r sh)
              have N1 := Lib.hid (show Sb W X5 S S2 p c (nxt c s r sh) (fun i => (r i).n) r (rsf 0 (inM c s r sh 0) 0 su false TT EE) (idx (inl c s r sh)) (own c s r sh) (.slice a8 (idx (inl c s r sh)).length c8) (.slice a9 (own c s r sh).length c9) from by rw [I0.out]; exact N0.out)
              clear N0 I0
              generalize hSG : nxt c s r sh = SG at *
              have HSG := Lib.hid hSG
              clear hSG
              generalize inM c s r sh = MM at *
              generalize hLL : inl c s r sh = LL at *
              have HLL := Lib.hid hLL
              clear hLL
              generalize own c s r sh = OW at *
              go_wp2_with fail
              go_loopg [19, 20, 21] (NN c) (fun gg s19 s20 s21 wx => ∃ k : Nat, k + gg = NN c ∧ s20 = .int .i64 k ∧ s19 = .int .i64 (2 ^ k) ∧ Hid (Sb W wx S S2 p c SG (fun i => (r i).n) r (rsf 0 (MM k) 0 su false TT EE) (idx LL) OW (.slice a8 (idx LL).length c8) (.slice a9 OW.length c9)))
              case atStart => exact ⟨0, by omega, rfl, rfl, N1⟩
              case round =>
                rename World => X6
                obtain ⟨k, hkg, rfl, rfl, N⟩ := hrel
                have HKG := Lib.hid hkg
                have q0 := N.out.rx.cfg HC.out 0 (by omega)
                rw [hEN] at q0
                clear N1 hkg
                by_cases hk : k < NN c
                · have hki : (k : Int) < (NN c : Int) := by omega
                  have hk4 : k < 4 := by omega
                  have HKN := Lib.hid hk
                  have hIS := Lib.hid (IM.out k hk4)
                  have hpw := two_cases k hk4
                  have hPW := Lib.hid (show (2 : Int) * 2 ^ k = 2 ^ (k + 1) by rw [Int.pow_succ]; omega)
                  have hml := IL.out k
                  have NA := Lib.hid (show Sb W X6 S S2 p c SG (fun i => (r i).n) r (rsf 0 (MM k + adQ LL k 0) 0 su false TT EE) (idx LL) OW (.slice a8 (idx LL).length c8) (.slice a9 OW.length c9) from by rw [adQ_0, Int.add_zero]; exact N.out)
                  have HLN := Lib.hid (idx_len LL)
                  have HAA := Lib.hid (adQ_all LL k)
                  have HAN := Lib.hid (fun q (hq : q < LL.length) h => adQ_no (i := k) hq h)
                  have HAY := Lib.hid (fun q (hq : q < LL.length) h => adQ_yes hnd.out (i := k) hq h)
                  rw [← HAA.out] at hIS
                  clear hk N IM IL HAA
                  go_wp2_with fail
                  go_loopg [21] LL.length (fun g2 s21 wy => ∃ q : Nat, q + g2 = LL.length ∧ s21 = .int .i64 q ∧ Hid (Sb W wy S S2 p c SG (fun i => (r i).n) r (rsf 0 (MM k + adQ LL k q) 0 su false TT EE) (idx LL) OW (.slice a8 (idx LL).length c8) (.slice a9 OW.length c9)))
                  case atStart => exact ⟨0, by omega, rfl, NA⟩
                  case round =>
                    rename World => X7
                    obtain ⟨q, hqg, rfl, N⟩ := hrel
                    have HQG := Lib.hid hqg
                    clear NA hqg
                    by_cases hq : q < LL.length
                    · have hqi : (q : Int) < ((idx LL).length : Int) := by rw [HLN.out]; omega
                      have HQN := Lib.hid hq
                      obtain ⟨g8, cc, e8, -, -, -⟩ := N.out.own1.row (by rw [HLN.out]; omega)
                      have eq8 : a8 = some ⟨g8, 0, none⟩ := by injection e8
                      have ec8 : c8 = cc := by injection e8
                      subst eq8
                      have i8 := OwnI.cell N.out.own1 q (by rw [HLN.out]; exact hq)
                      rw [show (idx LL).getD q 0 = ((LL.getD q 0 : Nat) : Int) by unfold idx; rw [List.getD_eq_getElem?_getD, List.getElem?_map, List.getD_eq_getElem?_getD, List.getElem?_eq_getElem hq]; rfl] at i8
                      have l8 := Lib.hid (HIL.out)
                      clear ec8 e8 hq
                      have c1 := N.out.out.cell 1 (v := .int .i64 (MM k + adQ LL k q)) rfl
                      have f1 := N.out.out.frozen 1
                      have hq4 : q < 4 := by have h1 := HIL.out; have h2 := HQN.out; omega
                      by_cases hE : LL.getD q 0 = k
                      · obtain ⟨z0, z1⟩ := HAY.out q HQN.out hE
                        have dE : (((LL.getD q 0 : Nat) : Int) == (k : Int)) = true := by rw [hE]; simp
                        have NN2 := Lib.hid (N.out.put HSL.out (only_cell (W.heap.size + 1 + 1) 1 (.int .i64 (MM k + 2 ^ k))) (N.out.out.set 1 _))
                        rw [rsf_setI] at NN2
                        rw [z0, Int.add_zero] at c1
                        have Z1 := Lib.hid z1
                        clear z0 z1 hE N HAN HAY
                        generalize LL.getD q 0 = xq at *
                        go_wp2_with fail
                        have NN3 := Lib.hid (show Sb W (X7.setCell ⟨W.heap.size + 1 + 1, 1, none⟩ (.int .i64 (MM k + 2 ^ k))) S S2 p c SG (fun i => (r i).n) r (rsf 0 (MM k + adQ LL k (q + 1)) 0 su false TT EE) (idx LL) OW (.slice (some ⟨g8, 0, none⟩) (idx LL).length c8) (.slice a9 OW.length c9) from by rw [Z1.out]; exact NN2.out)
                        clear NN2
                        go_roundg (LL.length - q - 1)
                        case rel =>
                          have h1 := HQG.out
                          have h2 := HQN.out
                          exact ⟨q + 1, by omega, by go_num, NN3⟩
                        case measure =>
                          have h1 := HQG.out
                          have h2 := HQN.out
                          omega
                      · have z1 := HAN.out q HQN.out hE
                        have dE : (((LL.getD q 0 : Nat) : Int) == (k : Int)) = false := beq_eq_false_iff_ne.2 (by omega)
                        rw [← z1] at N
                        clear z1 hE HAN HAY c1 f1
                        generalize LL.getD q 0 = xq at *
                        go_wp2_with fail
                        go_roundg (LL.length - q - 1)
                        case rel =>
                          have h1 := HQG.out
                          have h2 := HQN.out
                          exact ⟨q + 1, by omega, by go_num, N⟩
                        case measure =>
                          have h1 := HQG.out
                          have h2 := HQN.out
                          omega
                    · have hqe : q = LL.length := by have := HQG.out; omega
                      have hqi : ¬ (q : Int) < ((idx LL).length : Int) := by rw [HLN.out]; omega
                      subst hqe
                      rw [← hIS.out] at N
                      clear hq
                      go_wp2_with fail
                      rw [hPW.out]
                      go_roundg (NN c - k - 1)
                      case rel =>
                        have h1 := HKG.out
                        have h2 := HKN.out
                        exact ⟨k + 1, by omega, by go_num, rfl, N⟩
                      case measure =>
                        have h1 := HKG.out
                        have h2 := HKN.out
                        omega
                · have hke : k = NN c := by have := HKG.out; omega
                  have hki : ¬ (k : Int) < (NN c : Int) := by omega
                  subst hke
                  rw [IA.out] at N
                  clear hk
                  obtain ⟨fb, hfb⟩ : ∃ fb, (((idx LL).length : Int) == 0) = fb := ⟨_, rfl⟩
                  have HFB := Lib.hid hfb
                  have f4 := N.out.out.frozen 4
                  have c4 := N.out.out.cell 4 (v := .bool false) rfl
                  have N2 := Lib.hid (N.out.put HSL.out (only_cell (W.heap.size + 1 + 1) 4 (.bool fb)) (N.out.out.set 4 _))
                  rw [rsf_setF] at N2
                  clear N
                  go_upto_region 40 with fail
                  generalize X6.setCell ⟨W.heap.size + 1 + 1, 4, none⟩ (.bool fb) = X7 at *
                  have CL : Calls Tryz.prog 14 #[.pointer (some ⟨p.g, 0, none⟩)] X7 fun e w' => e = .returned (.int .i64 (lam c SG)) ∧ Below X7.heap.size X7 w' := by
                    obtain ⟨cap, cm, h1, _⟩ := N2.out.rx.sig
                    have q := rlatched_any X7 HC.out h1
                    rw [la_sq] at q
                    exact q
                  clear f4 c4 q0 hfb
                  go_wp2_with fail
                  refine CL.mono ?_; rintro e X8 ⟨rfl, b⟩
                  have N3 := Lib.hid (N2.out.on b)
                  have f2 := N3.out.out.frozen 2
                  have c2 := N3.out.out.cell 2 (v := .int .i64 0) rfl
                  have N4 := Lib.hid (N3.out.put HSL.out (only_cell (W.heap.size + 1 + 1) 2 (.int .i64 (lam c SG))) (N3.out.out.set 2 _))
                  rw [rsf_setL] at N4
                  clear N2 N3 CL b
                  go_upto_region 41 with fail
                  generalize X8.setCell ⟨W.heap.size + 1 + 1, 2, none⟩ (.int .i64 (lam c SG)) = X9 at *
                  have v1 := N4.out.rx.vac HC.out
                  have f0 := N4.out.out.frozen 0
                  have c0 := N4.out.out.cell 0 (v := .int .i64 0) rfl
                  have N5 := Lib.hid (N4.out.put HSL.out (only_cell (W.heap.size + 1 + 1) 0 (.int .i64 SG.val)) (N4.out.out.set 0 _))
                  rw [rsf_setV] at N5
                  clear N4 f2 c2
                  go_upto_region 42 with fail
                  generalize X9.setCell ⟨W.heap.size + 1 + 1, 0, none⟩ (.int .i64 SG.val) = X10 at *
                  clear v1 f0 c0
                  go_wp2_with (first
                    | ((with_reducible show wpList _ _ _ (⟨some 249, _, _, _, _, _⟩ :: _) _ _); refine VB.loaded (cs := rsf SG.val (inm c s r sh) (lam c SG) su fb TT EE) rfl _ rfl (W.heap.size + 1 + 1) rfl N5.out.out Tryz.underlying49 rfl sizeRs18 ?_)
                    | ((with_reducible show wpList _ _ _ (⟨none, .store _ (.tmp 6) _, _, _, _, _⟩ :: _) _ _); refine VB.store rfl _ _ rfl (W.heap.size + 1) (rsf SG.val (inm c s r sh) (lam c SG) su fb TT EE) rfl rfl N5.out.res sizeRs18 rfl (rsf_one _ _ _ _ _ _ _) ?_))
                  have BX : But (· = W.heap.size + 1) X10 (X10.setRow (W.heap.size + 1) (rsf SG.val (inm c s r sh) (lam c SG) su fb TT EE).toArray) := (But.refl (· = W.heap.size + 1) X10).put (Or.inl rfl) _
                  have hnS : ¬ S2 (W.heap.size + 1) := fun q => by
                    rcases N5.out.sub _ q with q | q
                    · have := HSL.out _ q; omega
                    · omega
                  refine bodyPost_ret (v := .agg (rsf SG.val (inm c s r sh) (lam c SG) su fb TT EE).toArray) ?_ rfl ⟨?_, ⟨S2, ?_, fun j hj => (N5.out.sub j hj).imp (fun q => q) (fun q => by omega)⟩, But.call N5.out.but BX fun j e => .inr (by omega)⟩
                  · exact (VB.ret1 (cs := rsf SG.val (inm c s r sh) (lam c SG) su fb TT EE) rfl rfl (aggRs18 _) sizeRs18 (N5.out.res.put (rsf SG.val (inm c s r sh) (lam c SG) su fb TT EE))).trans rfl
                  · have hfb : fb = !any c s r sh := by
                      rw [← HFB.out, idx_len]
                      unfold any
                      rw [HLL.out]
                      cases LL with
                      | nil => rfl
                      | cons x l => simp; omega
                    rw [← HSU.out, ← HTT.out, ← HEE.out, hfb, ← HSG.out]
                    rfl
                  · rw [HSG.out]
                    exact N5.out.rx.keep BX fun j hj e => hnS (e ▸ hj)
end Sg
end Go.Proofs.YtacclmfbkiadbaaGreat
