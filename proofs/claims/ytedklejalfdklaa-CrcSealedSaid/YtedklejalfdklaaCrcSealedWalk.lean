/-
  The walk of the law CrcSealed: for all bytes, every place and every two bytes it returns true, and writes nothing that was there. No conditions.
-/
import Derived.Test.YtedklejalfdklaaCrcAlive
namespace Go.Proofs.Ytedklejalfdklaa
open Go.ChangeShapes Go.WideShapes Go.ChangeAt Go.RowKit Go.Deep
namespace crcSealed
open Cr

/-- The facts of one number of a kind. -/
theorem u8_in {x : Int} (h : (Lit.int .u8 x).wf = true) : 0 ≤ x ∧ x < 256 := by
  simp only [Lit.wf, Bool.and_eq_true, decide_eq_true_eq] at h
  have hmin : IntKind.u8.min = 0 := rfl
  have hmax : IntKind.u8.max = 255 := rfl
  omega
theorem u16_in {x : Int} (h : (Lit.int .u16 x).wf = true) : 0 ≤ x ∧ x ≤ 65535 := by
  simp only [Lit.wf, Bool.and_eq_true, decide_eq_true_eq] at h
  have hmin : IntKind.u16.min = 0 := rfl
  have hmax : IntKind.u16.max = 65535 := rfl
  omega

/-- What is spoilt does not open. -/
theorem bad_open {sl : List Int} {n k : Nat} {x y : Int} (hL : sl.length = n + 2) (hn : n ≤ 300) (hY : Bytes sl) (hS : sum sl = 0) (hk : k ≤ n) (hx : 0 ≤ x ∧ x < 256) (hy : 0 ≤ y ∧ y < 256) (hne : ¬ (x = 0 ∧ y = 0)) (W : World) (a : Option Addr) (cap : Nat) (hc : n + 2 ≤ cap)
    (h : IntsAt .u8 W a (spoilt sl k x y)) : Calls Try.prog 7 #[.slice a (n + 2) cap] W (RetIB .u8 W [] false) := by
  have e := spoilt_len sl k x y
  have ho := spoilt_not hY hS k x y (by omega) hx hy hne
  have C := open_any a cap (spoilt sl k x y) W (by omega) (by omega) (spoilt_bytes hY k x y (by omega)) h
  rw [ho, opened_no ho, e, hL] at C
  exact C
theorem spoilt_two {sl : List Int} {k : Nat} {p q x y : Int} (hp : sl.getD k 0 = p) (hq : sl.getD (k + 1) 0 = q) : (sl.set k ((p + x) % 256)).set (k + 1) ((q + y) % 256) = spoilt sl k x y := by
  unfold spoilt plus; rw [hp, hq]
theorem set_next {sl : List Int} {k : Nat} {q v : Int} (hq : sl.getD (k + 1) 0 = q) : (sl.set k v).getD (k + 1) 0 = q := by
  rw [← hq]; simp [List.getD_eq_getElem?_getD]

set_option maxHeartbeats 1600000 in
theorem walk (a : Option Addr) (cap : Nat) (l : List Int) (c : Int) (x y : Int) (w : World) (m0 : l.length ≤ maxLen) (c0 : l.length ≤ cap ∧ cap ≤ maxLen) (_z : cap * 1 ≤ 140737488351232) (f0 : ∀ n ∈ l, (Lit.int .u8 n).wf = true) (hb : IntsAt .u8 w a l) (w1 : (Lit.int .u16 c).wf = true) (w2 : (Lit.int .u8 x).wf = true) (w3 : (Lit.int .u8 y).wf = true) :
    Calls Try.prog 5 #[.slice a l.length cap, .int .u16 c, .agg #[.int .u8 x, .int .u8 y]] w fun e w' => e = .returned (.bool true) ∧ Below w.heap.size w w' := by
  unfold maxLen at m0 c0
  obtain ⟨c1, c2⟩ := c0
  have hc16 := u16_in w1
  have hx8 := u8_in w2
  have hy8 := u8_in w3
  clear w1 w2 w3
  obtain ⟨w0, hw0⟩ : ∃ w0, w0 = w.alloc (.cells #[.int .u8 x, .int .u8 y] 33) := ⟨_, rfl⟩
  by_cases h300 : 300 < l.length
  · go_enter Try.func5, Try.ntmps5
    go_wp2_with fail
    refine (alive_any _).mono ?_; rintro e w5 ⟨rfl, b5⟩
    go_wp2
    go_ret
    exact ⟨rfl, grow_alloc (Below.refl _ w) b5⟩
  · have d0 : decide (300 < (l.length : Int)) = false := by simp; omega
    have hy := bytes_wf f0
    have t3 := fun W (h : IntsAt .u8 W a l) => seal_cap a cap l W (by omega) hy h
    have hyb := sealed_bytes hy
    have L2 := sealed_len l
    have hs0 := sealed_sum l
    have t1 := fun W a' cap' (hc : l.length + 2 ≤ cap') (h : IntsAt .u8 W a' (sealed l)) => open_any a' cap' (sealed l) W (by omega) (by omega) hyb h
    rw [sealed_opens hy, sealed_opened hy, L2] at t1
    have t5 := fun W a' cap' (h : IntsAt .u8 W a' (sealed l)) => sum_any a' cap' (sealed l) W (by omega) hyb h
    rw [hs0, L2] at t5
    have t9 := fun W a3 a4 k3 k4 (h : IntsAt .u8 W a3 l) (h' : IntsAt .u8 W a4 l) => rsame_self a3 a4 k3 k4 l W (by omega) h h'
    generalize sealed l = sl at *
    have HL := Lib.hid L2
    have HS := Lib.hid hs0
    have HY := Lib.hid hyb
    obtain ⟨k, hk⟩ : ∃ k : Nat, c % ((l.length : Int) + 2 - 1) = k := ⟨(c % ((l.length : Int) + 2 - 1)).toNat, by have := Int.emod_nonneg c (show (l.length : Int) + 2 - 1 ≠ 0 by omega); omega⟩
    have hkl : k ≤ l.length := by have := Int.emod_lt_of_pos c (show 0 < (l.length : Int) + 2 - 1 by omega); omega
    have b0 : Below w.heap.size w w0 := by rw [hw0]; exact (Below.refl _ w).alloc (Nat.le_refl _) _
    have B0 := Lib.hid b0
    have HB := Lib.hid (hb.below b0)
    have Q1 : Hid (w0.cell? ⟨w.heap.size, 0, none⟩ = some (.int .u8 x)) := Lib.hid (by rw [hw0, cell_of_row _ _ 0 _ _ (0, 0) (heap_alloc_new w _)]; rfl)
    have Q2 : Hid (w0.cell? ⟨w.heap.size, 1, none⟩ = some (.int .u8 y)) := Lib.hid (by rw [hw0, cell_of_row _ _ 1 _ _ (0, 0) (heap_alloc_new w _)]; rfl)
    have HW := Lib.hid hw0
    clear hb f0 hy hyb L2 hs0 b0 hw0
    go_enter Try.func5, Try.ntmps5
    go_wp2_with fail
    rw [← HW.out]
    refine (t3 _ HB.out).mono ?_; rintro e w1 ⟨a1, k1, rfl, i1, kc1, b1⟩
    rw [HL.out] at kc1 ⊢
    have I1 := Lib.hid i1; have g1 := Lib.hid b1; have KC := Lib.hid kc1; clear b1 i1 t3 HW kc1
    go_wp2_with fail
    refine (t1 _ _ _ KC.out I1.out).mono ?_; rintro e w2 ⟨a2, k2, rfl, i2, b2⟩
    have I2 := Lib.hid (I1.out.below b2); have J2 := Lib.hid i2; have g2 := Lib.hid (grow g1.out b2); clear b2 i2 t1 g1 I1
    go_wp2_with fail
    refine (t9 _ _ _ _ _ J2.out (HB.out.below g2.out)).mono ?_; rintro e w3 ⟨rfl, b3⟩
    have I3 := Lib.hid (I2.out.below b3); have g3 := Lib.hid (grow g2.out b3); clear b3 t9 g2 I2 J2
    go_wp2_with fail
    refine (t5 _ _ _ I3.out).mono ?_; rintro e w4 ⟨rfl, b4⟩
    have I4 := Lib.hid (I3.out.below b4); have g4 := Lib.hid (grow g3.out b4); clear b4 t5 g3 I3
    have q1 := (g4.out.cell (p := ⟨w.heap.size, 0, none⟩) (cell_lt Q1.out)).trans Q1.out
    have q2 := (g4.out.cell (p := ⟨w.heap.size, 1, none⟩) (cell_lt Q2.out)).trans Q2.out
    by_cases hx0 : x = 0
    · have dx : (x == 0) = true := by simpa using hx0
      by_cases hy0 : y = 0
      · have dy : (y == 0) = true := by simpa using hy0
        go_wp2_with fail
        refine (alive_any _).mono ?_; rintro e w5 ⟨rfl, b5⟩
        go_wp2
        go_ret
        exact ⟨rfl, grow B0.out (grow g4.out b5)⟩
      · have dy : (y == 0) = false := by simpa using hy0
        have HNE := Lib.hid (show ¬ (x = 0 ∧ y = 0) from fun h => hy0 h.2)
        clear hy0 hx0
        have HA1 := Lib.hid (show ([] : List Int).length + sl.length ≤ maxLen by unfold maxLen; rw [HL.out]; simp; omega)
        have HA2 := Lib.hid (show (([] : List Int).length + sl.length) * 1 ≤ 140737488355328 by rw [HL.out]; simp; omega)
        have TB := bad_open HL.out (by omega) HY.out HS.out hkl hx8 hy8 HNE.out
        go_wp2_with (first
          | ((with_reducible show wpList _ _ _ (⟨some 65, _, _, _, _, _⟩ :: _) _ _); refine wpList_appendI rfl (.tmp 63) (.tmp 64) _ rfl .u8 w4.heap.size 5 1 Try.underlying22 byteInfo _ [] a1 (l.length + 2) k1 sl rfl rfl HL.out (OwnI.lit0 (Nat.le_refl _)) (I4.out.below ((Below.refl _ _).alloc (Nat.le_refl _) _)) HA1.out HA2.out w4 ((Below.refl _ _).alloc (Nat.le_refl _) _) (Nat.le_refl _) ?_; intro v8 w8 O8' B8'; rw [List.nil_append] at O8'; obtain ⟨g, cp, rfl, hg, hcp, _⟩ := O8'.row (by rw [HL.out]; omega); have c8a := O8'.cell k (by rw [HL.out]; omega); have f8a := O8'.frozen k; rw [HL.out]; have O8 := Lib.hid O8'; have B8 := Lib.hid B8'; clear O8' B8'))
        have HCP := Lib.hid hcp
        clear hcp
        have e1 : (k : Int) < ((l.length + 2 : Nat) : Int) := by omega
        have e2 : (k : Int) + 1 < ((l.length + 2 : Nat) : Int) := by omega
        have e3 : ((k : Int) + 1).toNat = k + 1 := by omega
        have e4 : 0 ≤ (k : Int) + 1 := by omega
        have q3 := (B8.out.cell (p := ⟨w.heap.size, 0, none⟩) (cell_lt q1)).trans q1
        have Q2' := Lib.hid q2
        clear q1 q2
        generalize hp : sl.getD k 0 = p at *
        generalize hq : sl.getD (k + 1) 0 = q at *
        have HPQ := Lib.hid (And.intro hp hq)
        clear hp hq
        go_region
        have O9 := Lib.hid ((O8.out.stored k ((p + x) % 256)).drew)
        have B9 := Lib.hid ((B8.out.setCell (p := ⟨g, k, none⟩) hg (.int .u8 ((p + x) % 256))).drew)
        generalize (w8.setCell ⟨g, k, none⟩ (Value.int .u8 ((p + x) % 256))).drew = w9 at *
        clear c8a f8a q3 O8 B8
        have O9' : OwnI .u8 w4.heap.size 5 w9 (.slice (some ⟨g, 0, none⟩) (sl.set k ((p + x) % 256)).length cp) (sl.set k ((p + x) % 256)) := by rw [List.length_set]; exact O9.out
        have c9 := O9'.cell (k + 1) (by rw [List.length_set, HL.out]; omega)
        rw [set_next HPQ.out.2] at c9
        have f9 := O9'.frozen (k + 1)
        have q9 := (B9.out.cell (p := ⟨w.heap.size, 1, none⟩) (cell_lt Q2'.out)).trans Q2'.out
        have O10 := Lib.hid ((O9'.stored (k + 1) ((q + y) % 256)).drew)
        clear O9 O9'
        go_wp2_with fail
        go_region
        have B10 := Lib.hid ((B9.out.setCell (p := ⟨g, k + 1, none⟩) hg (.int .u8 ((q + y) % 256))).drew)
        generalize (w9.setCell ⟨g, k + 1, none⟩ (Value.int .u8 ((q + y) % 256))).drew = w10 at *
        clear c9 f9 q9 B9
        obtain ⟨a10, c10, hv10, i10⟩ := O10.out.form
        rw [spoilt_two HPQ.out.1 HPQ.out.2] at i10
        injection hv10 with h1 h2 h3
        rw [← h1] at i10
        have I10 := Lib.hid i10
        clear h1 h2 h3 i10
        go_wp2_with fail
        refine (TB _ _ _ (by have := HCP.out; rw [HL.out] at this; exact this) I10.out).mono ?_; rintro e w11 ⟨a11, k11, rfl, -, b11⟩
        have g11 := Lib.hid (grow g4.out (B10.out.trans (b11.mono (B10.out.size)))); clear b11
        go_wp2_with fail
        refine (alive_any _).mono ?_; rintro e w12 ⟨rfl, b12⟩
        go_wp2
        go_ret
        exact ⟨rfl, grow B0.out (grow g11.out b12)⟩
    · have dx : (x == 0) = false := by simpa using hx0
      have HNE := Lib.hid (show ¬ (x = 0 ∧ y = 0) from fun h => hx0 h.1)
      clear hx0
      have HA1 := Lib.hid (show ([] : List Int).length + sl.length ≤ maxLen by unfold maxLen; rw [HL.out]; simp; omega)
      have HA2 := Lib.hid (show (([] : List Int).length + sl.length) * 1 ≤ 140737488355328 by rw [HL.out]; simp; omega)
      have TB := bad_open HL.out (by omega) HY.out HS.out hkl hx8 hy8 HNE.out
      go_wp2_with (first
        | ((with_reducible show wpList _ _ _ (⟨some 65, _, _, _, _, _⟩ :: _) _ _); refine wpList_appendI rfl (.tmp 63) (.tmp 64) _ rfl .u8 w4.heap.size 5 1 Try.underlying22 byteInfo _ [] a1 (l.length + 2) k1 sl rfl rfl HL.out (OwnI.lit0 (Nat.le_refl _)) (I4.out.below ((Below.refl _ _).alloc (Nat.le_refl _) _)) HA1.out HA2.out w4 ((Below.refl _ _).alloc (Nat.le_refl _) _) (Nat.le_refl _) ?_; intro v8 w8 O8' B8'; rw [List.nil_append] at O8'; obtain ⟨g, cp, rfl, hg, hcp, _⟩ := O8'.row (by rw [HL.out]; omega); have c8a := O8'.cell k (by rw [HL.out]; omega); have f8a := O8'.frozen k; rw [HL.out]; have O8 := Lib.hid O8'; have B8 := Lib.hid B8'; clear O8' B8'))
      have HCP := Lib.hid hcp
      clear hcp
      have e1 : (k : Int) < ((l.length + 2 : Nat) : Int) := by omega
      have e2 : (k : Int) + 1 < ((l.length + 2 : Nat) : Int) := by omega
      have e3 : ((k : Int) + 1).toNat = k + 1 := by omega
      have e4 : 0 ≤ (k : Int) + 1 := by omega
      have q3 := (B8.out.cell (p := ⟨w.heap.size, 0, none⟩) (cell_lt q1)).trans q1
      have Q2' := Lib.hid q2
      clear q1 q2
      generalize hp : sl.getD k 0 = p at *
      generalize hq : sl.getD (k + 1) 0 = q at *
      have HPQ := Lib.hid (And.intro hp hq)
      clear hp hq
      go_region
      have O9 := Lib.hid ((O8.out.stored k ((p + x) % 256)).drew)
      have B9 := Lib.hid ((B8.out.setCell (p := ⟨g, k, none⟩) hg (.int .u8 ((p + x) % 256))).drew)
      generalize (w8.setCell ⟨g, k, none⟩ (Value.int .u8 ((p + x) % 256))).drew = w9 at *
      clear c8a f8a q3 O8 B8
      have O9' : OwnI .u8 w4.heap.size 5 w9 (.slice (some ⟨g, 0, none⟩) (sl.set k ((p + x) % 256)).length cp) (sl.set k ((p + x) % 256)) := by rw [List.length_set]; exact O9.out
      have c9 := O9'.cell (k + 1) (by rw [List.length_set, HL.out]; omega)
      rw [set_next HPQ.out.2] at c9
      have f9 := O9'.frozen (k + 1)
      have q9 := (B9.out.cell (p := ⟨w.heap.size, 1, none⟩) (cell_lt Q2'.out)).trans Q2'.out
      have O10 := Lib.hid ((O9'.stored (k + 1) ((q + y) % 256)).drew)
      clear O9 O9'
      go_wp2_with fail
      go_region
      have B10 := Lib.hid ((B9.out.setCell (p := ⟨g, k + 1, none⟩) hg (.int .u8 ((q + y) % 256))).drew)
      generalize (w9.setCell ⟨g, k + 1, none⟩ (Value.int .u8 ((q + y) % 256))).drew = w10 at *
      clear c9 f9 q9 B9
      obtain ⟨a10, c10, hv10, i10⟩ := O10.out.form
      rw [spoilt_two HPQ.out.1 HPQ.out.2] at i10
      injection hv10 with h1 h2 h3
      rw [← h1] at i10
      have I10 := Lib.hid i10
      clear h1 h2 h3 i10
      go_wp2_with fail
      refine (TB _ _ _ (by have := HCP.out; rw [HL.out] at this; exact this) I10.out).mono ?_; rintro e w11 ⟨a11, k11, rfl, -, b11⟩
      have g11 := Lib.hid (grow g4.out (B10.out.trans (b11.mono (B10.out.size)))); clear b11
      go_wp2_with fail
      refine (alive_any _).mono ?_; rintro e w12 ⟨rfl, b12⟩
      go_wp2
      go_ret
      exact ⟨rfl, grow B0.out (grow g11.out b12)⟩
end crcSealed
end Go.Proofs.Ytedklejalfdklaa
