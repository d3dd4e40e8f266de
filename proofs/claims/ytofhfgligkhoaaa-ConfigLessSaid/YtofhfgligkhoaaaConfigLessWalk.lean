/-
  The walk of the law ConfigLess: for every configuration and any three numbers it returns true, and writes nothing that was there. No conditions beyond the numbers' count.
-/
import Derived.Test.YtofhfgligkhoaaaConfigMostWalk
namespace Go.Proofs.Ytofhfgligkhoaaa
open Go.ChangeShapes Go.WideShapes Go.ChangeAt Go.RowKit Go.Deep
namespace configLess
open Cf

theorem cov_less {c : List Int} {e r e' r' : Int} (h : cov c e r = true) (he : 0 ≤ e' ∧ e' ≤ e) (hr : 0 ≤ r' ∧ r' ≤ r) : cov c e' r' = true := by
  unfold cov at h ⊢
  rw [decide_eq_true_eq] at h ⊢
  obtain ⟨h1, h2, h3⟩ := h
  refine ⟨by omega, h2, by omega⟩
theorem cov_is {c : List Int} {e r : Int} (h : cov c e r = true) : rt c = true ∧ 0 ≤ e ∧ e ≤ 1073741824 ∧ 0 ≤ r ∧ r ≤ 1073741824 ∧ e ≤ room c r ∧ 2 * e ≤ G c 2 - G c 1 := by
  have h0 := h
  unfold cov at h
  rw [decide_eq_true_eq] at h
  obtain ⟨h1, h2, h3⟩ := h
  refine ⟨by unfold rt; simpa using h2, h1.1, h1.2.1, h1.2.2.1, h1.2.2.2, ?_, by omega⟩
  rw [cov_room c e r h1.1] at h0
  simpa using h0
theorem fault_right {c : List Int} (h : rt c = true) : fault c = ⟨#[]⟩ := (fault_none c).2 (of_decide_eq_true h)
/-- One of four numbers greater: Right, and what is covered, stay. -/
theorem own_set {c : List Int} {i : Nat} {v : Int} (hc : c.length = 21) (hi : i ≠ 0 ∧ i < 17) : own (c.set i v) = own c ∧ others (c.set i v) = others c := by
  have g : ∀ j, i ≠ j → G (c.set i v) j = G c j := fun j hj => by rw [G_set c i j v (by omega), if_neg hj]
  unfold own others
  rw [g 0 hi.1, g 17 (by omega), g 18 (by omega), g 19 (by omega), g 20 (by omega)]
  exact ⟨rfl, rfl⟩
theorem cov_more {c : List Int} {e r v : Int} {i : Nat} (hc : c.length = 21) (h : cov c e r = true) (hi : i = 9 ∨ i = 4 ∨ i = 7 ∨ i = 5) (hv : G c i ≤ v ∧ v ≤ 2147483647) : cov (c.set i v) e r = true := by
  have g : ∀ j, i ≠ j → G (c.set i v) j = G c j := fun j hj => by rw [G_set c i j v (by omega), if_neg hj]
  have gi : G (c.set i v) i = v := by rw [G_set c i i v (by omega), if_pos rfl]
  obtain ⟨o1, o2⟩ := own_set (i := i) (v := v) hc (by omega)
  unfold cov at h ⊢
  rw [decide_eq_true_eq] at h ⊢
  unfold Right at h ⊢
  rw [o1, o2]
  obtain ⟨hA, ⟨r0, r1, r2, r3, r4, r5, r6, r7, r8, r9, r10, r11, r12, r13, r14, r15, r16, ro⟩, hB⟩ := h
  rcases hi with rfl | rfl | rfl | rfl
  · rw [g 0 (by decide), g 1 (by decide), g 2 (by decide), g 3 (by decide), g 4 (by decide), g 5 (by decide), g 6 (by decide), g 7 (by decide), g 8 (by decide), gi, g 10 (by decide), g 11 (by decide), g 12 (by decide), g 13 (by decide), g 14 (by decide), g 15 (by decide), g 16 (by decide)]
    exact ⟨hA, ⟨by omega, by omega, by omega, by omega, by omega, by omega, by omega, by omega, by omega, by omega, by omega, by omega, by omega, by omega, by omega, by omega, by omega, ro⟩, by omega⟩
  · rw [g 0 (by decide), g 1 (by decide), g 2 (by decide), g 3 (by decide), gi, g 5 (by decide), g 6 (by decide), g 7 (by decide), g 8 (by decide), g 9 (by decide), g 10 (by decide), g 11 (by decide), g 12 (by decide), g 13 (by decide), g 14 (by decide), g 15 (by decide), g 16 (by decide)]
    exact ⟨hA, ⟨by omega, by omega, by omega, by omega, by omega, by omega, by omega, by omega, by omega, by omega, by omega, by omega, by omega, by omega, by omega, by omega, by omega, ro⟩, by omega⟩
  · rw [g 0 (by decide), g 1 (by decide), g 2 (by decide), g 3 (by decide), g 4 (by decide), g 5 (by decide), g 6 (by decide), gi, g 8 (by decide), g 9 (by decide), g 10 (by decide), g 11 (by decide), g 12 (by decide), g 13 (by decide), g 14 (by decide), g 15 (by decide), g 16 (by decide)]
    exact ⟨hA, ⟨by omega, by omega, by omega, by omega, by omega, by omega, by omega, by omega, by omega, by omega, by omega, by omega, by omega, by omega, by omega, by omega, by omega, ro⟩, by omega⟩
  · rw [g 0 (by decide), g 1 (by decide), g 2 (by decide), g 3 (by decide), g 4 (by decide), gi, g 6 (by decide), g 7 (by decide), g 8 (by decide), g 9 (by decide), g 10 (by decide), g 11 (by decide), g 12 (by decide), g 13 (by decide), g 14 (by decide), g 15 (by decide), g 16 (by decide)]
    exact ⟨hA, ⟨by omega, by omega, by omega, by omega, by omega, by omega, by omega, by omega, by omega, by omega, by omega, by omega, by omega, by omega, by omega, by omega, by omega, ro⟩, by omega⟩

theorem u16_range (s : Int) : 0 ≤ IntKind.u16.wrap s ∧ IntKind.u16.wrap s ≤ 65535 := by
  have hs : IntKind.u16.signed = false := rfl
  simp [IntKind.wrap, IntKind.bits, hs]
  omega
/-- What lies about: both arguments' boxes. -/
structure Bx (w W : World) (c : List Int) (e r s : Int) : Prop where
  below : Below w.heap.size w W
  arg : Box W w.heap.size c
  nums : IRow .i64 W (w.heap.size + 1) 34 [e, r, s]
theorem Bx.on {w W W' : World} {c : List Int} {e r s : Int} (h : Bx w W c e r s) (b : Below W.heap.size W W') : Bx w W' c e r s := ⟨grow h.below b, h.arg.on b, h.nums.below b h.nums.lt⟩
theorem bx_start (w : World) (c : List Int) (e r s : Int) : Bx w ((w.alloc (.cells (CA c) 24)).alloc (.cells #[.int .i64 e, .int .i64 r, .int .i64 s] 34)) c e r s :=
  ⟨((Below.refl _ _).alloc (Nat.le_refl _) _).alloc (by simp) _, heap_alloc2_old w _ _, heap_alloc2_new w _ _⟩

theorem bx_mark {w U : World} {c : List Int} {e r s : Int} {a2 : Nat} (h : Bx w U c e r s) (hn : w.heap.size + 1 < a2) (i : Nat) (v : Int) : Bx w (U.setCell ⟨a2, i, none⟩ (.int .i64 v)) c e r s :=
  ⟨h.below.setCell (p := ⟨a2, i, none⟩) (by show w.heap.size ≤ a2; omega) _, h.arg.setOther (p := ⟨a2, i, none⟩) (by show w.heap.size ≠ a2; omega) _, (Below.heap_setCell U ⟨a2, i, none⟩ _ (w.heap.size + 1) (by show w.heap.size + 1 ≠ a2; omega)).trans h.nums⟩
set_option maxHeartbeats 6400000 in
theorem walk (c : List Int) (e r s : Int) (w : World) (hc : c.length = 21) (_w0 : ∀ n ∈ c, (Lit.int .i64 n).wf = true) (_w1 : (Lit.int .i64 e).wf = true) (_w2 : (Lit.int .i64 r).wf = true) (_w3 : (Lit.int .i64 s).wf = true) :
    Calls Try.prog 5 #[.agg (c.map (.int .i64)).toArray, .agg #[.int .i64 e, .int .i64 r, .int .i64 s]] w fun en w' => en = .returned (.bool true) ∧ Below w.heap.size w w' := by
  show Calls Try.prog 5 #[.agg (CA c), .agg #[.int .i64 e, .int .i64 r, .int .i64 s]] w _
  have T0 := Lib.hid (bx_start w c e r s)
  have z0 := T0.out.nums.cell 0 (by simp)
  have z1 := T0.out.nums.cell 1 (by simp)
  have z2 := T0.out.nums.cell 2 (by simp)
  simp only [List.getD_cons_zero, List.getD_cons_succ] at z0 z1 z2
  have CV := fun W => covers_any c e r W hc
  cases hu : cov c e r
  · rw [hu] at CV
    clear hu
    go_enter Try.func5, Try.ntmps5
    go_wp2_with (with_reducible show wpList _ _ _ (⟨some 17, _, _, _, _, _⟩ :: _) _ _; refine wpList_loadW rfl _ rfl w.heap.size c rfl T0.out.arg hc ?_)
    refine (CV _).mono ?_; rintro en w1 ⟨rfl, b1⟩
    have T1 := Lib.hid (T0.out.on b1)
    clear b1
    go_wp2_with fail
    refine (alive_any _).mono ?_; rintro en w2 ⟨rfl, b2⟩
    go_wp2_with fail
    go_ret
    exact ⟨rfl, grow T1.out.below b2⟩
  · have HU := Lib.hid hu
    obtain ⟨k1, k2, k3, k4, k5, k6, k7⟩ := cov_is hu
    have HS := Lib.hid (right_small c k1)
    rw [hu] at CV
    clear hu
    have K1 := Lib.hid k1
    have K6 := Lib.hid k6
    have K7 := Lib.hid k7
    clear k1 k6 k7
    obtain ⟨z, hz⟩ : ∃ z, IntKind.u16.wrap s = z := ⟨_, rfl⟩
    have hz01 := u16_range s
    rw [hz] at hz01
    obtain ⟨hz0, hz1⟩ := hz01
    go_enter Try.func5, Try.ntmps5
    go_wp2_with (with_reducible show wpList _ _ _ (⟨some 17, _, _, _, _, _⟩ :: _) _ _; refine wpList_loadW rfl _ rfl w.heap.size c rfl T0.out.arg hc ?_)
    refine (CV _).mono ?_; rintro en w1 ⟨rfl, b1⟩
    have T1 := Lib.hid (T0.out.on b1)
    clear b1 z0 z1 z2 T0 CV
    go_upto_region 8 with (first
      | (with_reducible show wpList _ _ _ (⟨some 25, _, _, _, _, _⟩ :: _) _ _; refine wpList_loadW rfl _ rfl w.heap.size c rfl T1.out.arg hc ?_)
      | (with_reducible show wpList _ _ _ (⟨none, .store _ (.tmp 9) _, _, _, _, _⟩ :: _) _ _
         refine wpList_storeC rfl _ _ rfl w1.heap.size zeros c rfl rfl (Box.fresh w1) rfl hc ?_
         have T2 := Lib.hid (T1.out.on (lay w1 c).2)
         have X2 := Lib.hid (lay w1 c).1
         have n2 := Lib.hid (show w.heap.size + 1 < w1.heap.size from T1.out.nums.lt)
         generalize (w1.alloc (.cells #[.int .i64 0, .int .i64 0, .int .i64 0, .int .i64 0, .int .i64 0, .int .i64 0, .int .i64 0, .int .i64 0, .int .i64 0, .int .i64 0, .int .i64 0, .int .i64 0, .int .i64 0, .int .i64 0, .int .i64 0, .int .i64 0, .int .i64 0, .int .i64 0, .int .i64 0, .int .i64 0, .int .i64 0] 24)).setRow w1.heap.size (CA c) = U2 at *
         clear T1
         generalize w1.heap.size = a2 at *))
    have hq : z % 4 = 0 ∨ z % 4 = 1 ∨ z % 4 = 2 ∨ z % 4 = 3 := by omega
    obtain ⟨⟨g1, g1'⟩, ⟨g2, g2'⟩, ⟨g4, g4'⟩, ⟨g5, g5'⟩, ⟨g7, g7'⟩, ⟨g9, g9'⟩, _, _⟩ := HS.out
    rcases hq with hq | hq | hq | hq
    focus
      have y2 := T2.out.arg.at hc 9 (by omega)
      have x2 := X2.out.at hc 9 (by omega)
      have f2 := cells_of X2.out 9
      go_upto_region 16 with fail
      have hv : G c 9 ≤ (if 2147483647 < G c 9 + z then 2147483647 else G c 9 + z) ∧ (if 2147483647 < G c 9 + z then 2147483647 else G c 9 + z) ≤ 2147483647 := by split <;> omega
      generalize (if 2147483647 < G c 9 + z then 2147483647 else G c 9 + z) = v at *
      have HD := Lib.hid (cov_more (i := 9) hc HU.out (by decide) hv)
      have T3 := Lib.hid (bx_mark T2.out n2.out 9 v)
      have D3 := Lib.hid (X2.out.set 9 v)
      have hdd : (c.set 9 v).length = 21 := by rw [List.length_set]; exact hc
      clear y2 x2 f2 hv
      generalize U2.setCell ⟨a2, 9, none⟩ (.int .i64 v) = U3 at *
      generalize c.set 9 v = dd at *
    rotate_left
    focus
      have y2 := T2.out.arg.at hc 4 (by omega)
      have x2 := X2.out.at hc 4 (by omega)
      have f2 := cells_of X2.out 4
      go_upto_region 16 with fail
      have hv : G c 4 ≤ (if 2147483647 < G c 4 + z then 2147483647 else G c 4 + z) ∧ (if 2147483647 < G c 4 + z then 2147483647 else G c 4 + z) ≤ 2147483647 := by split <;> omega
      generalize (if 2147483647 < G c 4 + z then 2147483647 else G c 4 + z) = v at *
      have HD := Lib.hid (cov_more (i := 4) hc HU.out (by decide) hv)
      have T3 := Lib.hid (bx_mark T2.out n2.out 4 v)
      have D3 := Lib.hid (X2.out.set 4 v)
      have hdd : (c.set 4 v).length = 21 := by rw [List.length_set]; exact hc
      clear y2 x2 f2 hv
      generalize U2.setCell ⟨a2, 4, none⟩ (.int .i64 v) = U3 at *
      generalize c.set 4 v = dd at *
    rotate_left
    focus
      have y2 := T2.out.arg.at hc 7 (by omega)
      have x2 := X2.out.at hc 7 (by omega)
      have f2 := cells_of X2.out 7
      go_upto_region 16 with fail
      have hv : G c 7 ≤ (if 2147483647 < G c 7 + z then 2147483647 else G c 7 + z) ∧ (if 2147483647 < G c 7 + z then 2147483647 else G c 7 + z) ≤ 2147483647 := by split <;> omega
      generalize (if 2147483647 < G c 7 + z then 2147483647 else G c 7 + z) = v at *
      have HD := Lib.hid (cov_more (i := 7) hc HU.out (by decide) hv)
      have T3 := Lib.hid (bx_mark T2.out n2.out 7 v)
      have D3 := Lib.hid (X2.out.set 7 v)
      have hdd : (c.set 7 v).length = 21 := by rw [List.length_set]; exact hc
      clear y2 x2 f2 hv
      generalize U2.setCell ⟨a2, 7, none⟩ (.int .i64 v) = U3 at *
      generalize c.set 7 v = dd at *
    rotate_left
    focus
      have y2 := T2.out.arg.at hc 5 (by omega)
      have x2 := X2.out.at hc 5 (by omega)
      have f2 := cells_of X2.out 5
      go_upto_region 16 with fail
      have hv : G c 5 ≤ (if 2147483647 < G c 5 + z then 2147483647 else G c 5 + z) ∧ (if 2147483647 < G c 5 + z then 2147483647 else G c 5 + z) ≤ 2147483647 := by split <;> omega
      generalize (if 2147483647 < G c 5 + z then 2147483647 else G c 5 + z) = v at *
      have HD := Lib.hid (cov_more (i := 5) hc HU.out (by decide) hv)
      have T3 := Lib.hid (bx_mark T2.out n2.out 5 v)
      have D3 := Lib.hid (X2.out.set 5 v)
      have hdd : (c.set 5 v).length = 21 := by rw [List.length_set]; exact hc
      clear y2 x2 f2 hv
      generalize U2.setCell ⟨a2, 5, none⟩ (.int .i64 v) = U3 at *
      generalize c.set 5 v = dd at *
    rotate_left
    all_goals
      clear X2 T2 HS
      go_wp2_with fail
      refine (alive_any _).mono ?_; rintro en w4 ⟨rfl, b4⟩
      have T4 := Lib.hid (T3.out.on b4)
      have D4 := Lib.hid (D3.out.on b4)
      clear b4 T3 D3
      go_wp2_with (with_reducible show wpList _ _ _ (⟨some 60, _, _, _, _, _⟩ :: _) _ _; refine wpList_loadW rfl _ rfl w.heap.size c rfl T4.out.arg hc ?_)
      refine ((right_any c _ hc).mono fun en w' q => (show en = .returned (.bool true) ∧ Below _ _ _ from ⟨by rw [q.1, K1.out], q.2⟩)).mono ?_; rintro en w5 ⟨rfl, b5⟩
      have T5 := Lib.hid (T4.out.on b5)
      have D5 := Lib.hid (D4.out.on b5)
      clear b5 T4 D4
      go_wp2_with (with_reducible show wpList _ _ _ (⟨some 64, _, _, _, _, _⟩ :: _) _ _; refine wpList_loadW rfl _ rfl w.heap.size c rfl T5.out.arg hc ?_)
      refine ((fault_any c _ hc).mono fun en w' q => (show en = .returned (.string ⟨#[]⟩) ∧ Below _ _ _ from ⟨by rw [q.1, fault_right K1.out], q.2⟩)).mono ?_; rintro en w6 ⟨rfl, b6⟩
      have T6 := Lib.hid (T5.out.on b6)
      have D6 := Lib.hid (D5.out.on b6)
      clear b6 T5 D5
      go_wp2_with (with_reducible show wpList _ _ _ (⟨some 69, _, _, _, _, _⟩ :: _) _ _; refine wpList_loadW rfl _ rfl w.heap.size c rfl T6.out.arg hc ?_)
      all_goals
        refine ((covers_any c _ _ _ hc).mono fun en w' q => (show en = .returned (.bool true) ∧ Below _ _ _ from ⟨by rw [q.1, cov_less HU.out (by omega) (by omega)], q.2⟩)).mono ?_; rintro en w7 ⟨rfl, b7⟩
        have T7 := Lib.hid (T6.out.on b7)
        have D7 := Lib.hid (D6.out.on b7)
        clear b7 T6 D6
        go_wp2_with (with_reducible show wpList _ _ _ (⟨some 81, _, _, _, _, _⟩ :: _) _ _; refine wpList_loadW rfl _ rfl a2 dd rfl D7.out hdd ?_)
        refine ((covers_any dd _ _ _ hdd).mono fun en w' q => (show en = .returned (.bool true) ∧ Below _ _ _ from ⟨by rw [q.1, HD.out], q.2⟩)).mono ?_; rintro en w8 ⟨rfl, b8⟩
        have T8 := Lib.hid (T7.out.on b8)
        clear b8 T7 D7
        have y1 := T8.out.arg.at hc 1 (by omega)
        have y2 := T8.out.arg.at hc 2 (by omega)
        have dl : decide (G c 1 + e ≤ G c 2 - e) = true := by have := K7.out; simp; omega
        go_wp2_with (with_reducible show wpList _ _ _ (⟨some 98, _, _, _, _, _⟩ :: _) _ _; refine wpList_loadW rfl _ rfl w.heap.size c rfl T8.out.arg hc ?_)
        have dm : decide (e ≤ room c r) = true := by simpa using K6.out
        generalize hM : room c r = M at *
        refine (most_any c r _ hc).mono ?_
        rw [hM]
        rintro en w9 ⟨rfl, b9⟩
        go_wp2_with fail
        go_ret
        exact ⟨rfl, grow T8.out.below b9⟩
end configLess
end Go.Proofs.Ytofhfgligkhoaaa
