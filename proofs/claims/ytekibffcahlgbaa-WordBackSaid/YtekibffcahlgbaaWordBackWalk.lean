/-
  The walk of the law WordBack: for all numbers, all bytes and every int it returns true, and writes nothing that was there. No conditions.
-/
import Derived.Test.YtekibffcahlgbaaWordAlive
namespace Go.Proofs.Ytekibffcahlgbaa
open Go.ChangeShapes Go.WideShapes Go.ChangeAt Go.RowKit Go.Deep
namespace wordBack
open Wd
open Cr (Bytes bytes_wf)

theorem back_ints {l : List Int} : (l.all in4 = true ∧ getAllb (putAll l) = true ∧ Sm.same (getAll (putAll l)) l = true) ∨ (l.all in4 = false ∧ (putAll l).length = 0) := by
  cases h : l.all in4
  · exact Or.inr ⟨rfl, by rw [putAll_no h]; rfl⟩
  · have := getAll_putAll h
    exact Or.inl ⟨rfl, this.1, by rw [this.2, Sm.same_self]⟩
theorem back_bytes {l : List Int} (hy : Bytes l) : (getAllb l = true ∧ ((l.length : Int) % 4 == 0) = true ∧ Sm.same (putAll (getAll l)) l = true) ∨ (getAllb l = false ∧ ((l.length : Int) % 4 == 0) = false) := by
  by_cases h : l.length % 4 = 0
  · exact Or.inl ⟨(getAllb_iff l).2 h, by simp; omega, by rw [putAll_getAll h hy, Sm.same_self]⟩
  · refine Or.inr ⟨?_, by simp; omega⟩
    cases e : getAllb l
    · rfl
    · exact absurd ((getAllb_iff l).1 e) h
theorem back_four (n : Int) : (get4b (put4 n) = true ∧ get4v (put4 n) = n ∧ decide (-2147483648 ≤ n) = true ∧ decide (n ≤ 2147483647) = true) ∨ (get4b (put4 n) = false ∧ decide (-2147483648 ≤ n) = false) ∨ (get4b (put4 n) = false ∧ decide (-2147483648 ≤ n) = true ∧ decide (n ≤ 2147483647) = false) := by
  have h := get4_put4 n
  by_cases h1 : -2147483648 ≤ n
  · by_cases h2 : n ≤ 2147483647
    · have e := (in4_iff n).2 ⟨h1, h2⟩
      exact Or.inl ⟨h.1.trans e, h.2 e, by simpa using h1, by simpa using h2⟩
    · exact Or.inr (Or.inr ⟨h.1.trans (in4_no (by omega)), by simpa using h1, by simpa using h2⟩)
  · exact Or.inr (Or.inl ⟨h.1.trans (in4_no (by omega)), by simpa using h1⟩)
theorem back_two (n : Int) : (get2b (put2 n) = true ∧ get2v (put2 n) = n ∧ decide (0 ≤ n) = true ∧ decide (n ≤ 65535) = true) ∨ (get2b (put2 n) = false ∧ decide (0 ≤ n) = false) ∨ (get2b (put2 n) = false ∧ decide (0 ≤ n) = true ∧ decide (n ≤ 65535) = false) := by
  have h := get2_put2 n
  by_cases h1 : 0 ≤ n
  · by_cases h2 : n ≤ 65535
    · have e := (in2_iff n).2 ⟨h1, h2⟩
      exact Or.inl ⟨h.1.trans e, h.2 e, by simpa using h1, by simpa using h2⟩
    · exact Or.inr (Or.inr ⟨h.1.trans (in2_no (by omega)), by simpa using h1, by simpa using h2⟩)
  · exact Or.inr (Or.inl ⟨h.1.trans (in2_no (by omega)), by simpa using h1⟩)

set_option maxHeartbeats 3200000 in
theorem walk (a : Option Addr) (cap : Nat) (l : List Int) (a1 : Option Addr) (cap1 : Nat) (l1 : List Int) (n : Int) (w : World) (m0 : l.length ≤ maxLen) (_c0 : l.length ≤ cap ∧ cap ≤ maxLen) (_z : cap * 8 ≤ 140737488351232) (_f0 : ∀ n ∈ l, (Lit.int .i64 n).wf = true) (hb : IntsAt .i64 w a l)
    (m1 : l1.length ≤ maxLen) (c1 : l1.length ≤ cap1 ∧ cap1 ≤ maxLen) (_z1 : cap1 * 1 ≤ 140737488351232) (f1 : ∀ n ∈ l1, (Lit.int .u8 n).wf = true) (hb1 : IntsAt .u8 w a1 l1) (_w2 : (Lit.int .i64 n).wf = true) :
    Calls Try.prog 4 #[.slice a l.length cap, .slice a1 l1.length cap1, .int .i64 n] w fun e w' => e = .returned (.bool true) ∧ Below w.heap.size w w' := by
  unfold maxLen at m0 m1 c1
  obtain ⟨c1, c2⟩ := c1
  by_cases h200 : 200 < l.length
  · have d0 : decide (200 < (l.length : Int)) = true := by simp; omega
    go_enter Try.func4, Try.ntmps4
    go_wp2_with fail
    refine (alive_any _).mono ?_; rintro e w5 ⟨rfl, b5⟩
    go_wp2
    go_ret
    exact ⟨rfl, b5⟩
  have d0 : decide (200 < (l.length : Int)) = false := by simp; omega
  by_cases h201 : 200 < l1.length
  · have d1 : decide (200 < (l1.length : Int)) = true := by simp; omega
    go_enter Try.func4, Try.ntmps4
    go_wp2_with fail
    refine (alive_any _).mono ?_; rintro e w5 ⟨rfl, b5⟩
    go_wp2
    go_ret
    exact ⟨rfl, b5⟩
  have d1 : decide (200 < (l1.length : Int)) = false := by simp; omega
  have hy := bytes_wf f1
  have HB := Lib.hid hb
  have HB1 := Lib.hid hb1
  clear hb hb1 f1
  have t1 := fun W (h : IntsAt .i64 W a l) => putAll_any a cap l W (by omega) h
  have L1 := putAll_le l
  have t2 := fun W a' c' (hc : (putAll l).length ≤ c') (h : IntsAt .u8 W a' (putAll l)) => getAll_any a' c' (putAll l) W (by omega) hc (putAll_bytes l) h
  have L2 := getAll_len (putAll l)
  have t3 := fun W a' c' (h : IntsAt .i64 W a' (getAll (putAll l))) (h' : IntsAt .i64 W a l) => Sm.ints_any a' a c' cap (getAll (putAll l)) l W (by omega) (by omega) h h'
  have F1 := Lib.hid (back_ints (l := l))
  have t4 := fun W (h : IntsAt .u8 W a1 l1) => getAll_any a1 cap1 l1 W (by omega) c1 hy h
  have L3 := getAll_len l1
  have t5 := fun W a' c' (h : IntsAt .i64 W a' (getAll l1)) => putAll_any a' c' (getAll l1) W (by omega) h
  have L4 := putAll_le (getAll l1)
  have t6 := fun W a' c' (h : IntsAt .u8 W a' (putAll (getAll l1))) (h' : IntsAt .u8 W a1 l1) => Sm.rsame_any a' a1 c' cap1 (putAll (getAll l1)) l1 W (by omega) (by omega) h h'
  have F2 := Lib.hid (back_bytes hy)
  have t7 := fun W => put4_any n W
  have L7 : (put4 n).length ≤ 4 := by unfold put4; split <;> simp [four]
  have t8 := fun W a' c' (h : IntsAt .u8 W a' (put4 n)) => get4_any a' c' (put4 n) W (by omega) (put4_bytes n) h
  have F3 := Lib.hid (back_four n)
  have t9 := fun W => put2_any n W
  have L9 : (put2 n).length ≤ 4 := by unfold put2; split <;> simp
  have t10 := fun W a' c' (h : IntsAt .u8 W a' (put2 n)) => get2_any a' c' (put2 n) W (by omega) (put2_bytes n) h
  have F4 := Lib.hid (back_two n)
  generalize Sm.same (getAll (putAll l)) l = S at *
  generalize getAllb (putAll l) = E at *
  generalize getAll (putAll l) = ys at *
  generalize putAll l = xs at *
  generalize Sm.same (putAll (getAll l1)) l1 = T at *
  generalize getAllb l1 = G at *
  generalize putAll (getAll l1) = ps at *
  generalize getAll l1 = zs at *
  generalize get4b (put4 n) = b4 at *
  generalize get4v (put4 n) = v4 at *
  generalize put4 n = p4 at *
  generalize get2b (put2 n) = b2 at *
  generalize get2v (put2 n) = v2 at *
  generalize put2 n = p2 at *
  clear hy L2 L3 L4 L7 L9
  go_enter Try.func4, Try.ntmps4
  go_wp2_with fail
  refine (t1 _ HB.out).mono ?_; rintro e w1 ⟨x1, k1, rfl, i1, hc1, bb1⟩
  have g1 := Lib.hid bb1; have I1 := Lib.hid i1; have H1 := Lib.hid hc1; clear bb1 i1 hc1 t1
  go_wp2_with fail
  refine (t2 _ _ _ H1.out I1.out).mono ?_; rintro e w2 ⟨x2, k2, rfl, i2, bb2⟩
  have g2 := Lib.hid (grow g1.out bb2); have I2 := Lib.hid i2; clear bb2 i2 t2 g1 I1 H1
  go_wp2_with fail
  refine (t3 _ _ _ I2.out (HB.out.below g2.out)).mono ?_; rintro e w3 ⟨rfl, bb3⟩
  have g3 := Lib.hid (grow g2.out bb3); clear bb3 t3 g2 I2
  have HL := Lib.hid L1
  clear L1
  go_wp2
  go_loopg [11, 12] l.length (fun gg s11 s12 wr => ∃ k : Nat, k + gg = l.length ∧ s12 = .int .i64 k ∧ s11 = .bool ((l.take k).all in4) ∧ w3 = wr)
  case atStart => exact ⟨0, by omega, rfl, rfl, rfl⟩
  case round =>
    obtain ⟨k, hkg, rfl, rfl, rfl⟩ := hrel
    by_cases hk : k < l.length
    · rcases HB.out.below g3.out with hnil | ⟨b, off, rfl, hc⟩
      · rw [hnil] at hk; simp at hk
      have hki : (k : Int) < (l.length : Int) := by omega
      have hcx := hc k hk
      have HX := Lib.hid (take_all_next l k hk)
      have HI := Lib.hid (in4_iff (l.getD k 0))
      have HJ := Lib.hid (fun h => in4_no (n := l.getD k 0) h)
      generalize l.getD k 0 = x at *
      clear hc
      cases hT : (l.take k).all in4
      · go_wp2
        go_roundg (gk - 1)
        case rel => exact ⟨k + 1, by omega, by go_num, by rw [HX.out, hT]; rfl, rfl⟩
        case measure => omega
      · by_cases hx1 : -2147483648 ≤ x
        · have dx1 : decide (-2147483648 ≤ x) = true := by simpa using hx1
          by_cases hx2 : x ≤ 2147483647
          · have dx2 : decide (x ≤ 2147483647) = true := by simpa using hx2
            go_wp2
            go_roundg (gk - 1)
            case rel => exact ⟨k + 1, by omega, by go_num, by rw [HX.out, hT, HI.out.2 ⟨hx1, hx2⟩]; rfl, rfl⟩
            case measure => omega
          · have dx2 : decide (x ≤ 2147483647) = false := by simpa using hx2
            go_wp2
            go_roundg (gk - 1)
            case rel => exact ⟨k + 1, by omega, by go_num, by rw [HX.out, hT, HJ.out (by omega)]; rfl, rfl⟩
            case measure => omega
        · have dx1 : decide (-2147483648 ≤ x) = false := by simpa using hx1
          go_wp2
          go_roundg (gk - 1)
          case rel => exact ⟨k + 1, by omega, by go_num, by rw [HX.out, hT, HJ.out (by omega)]; rfl, rfl⟩
          case measure => omega
    · obtain rfl : k = l.length := by omega
      have e0 : l.take l.length = l := List.take_of_length_le (Nat.le_refl _)
      rw [e0]
      clear e0
      have F1' := F1.out
      clear F1 HL
      generalize l.all in4 = R at *
      rcases F1' with ⟨rfl, rfl, rfl⟩ | ⟨rfl, hx0⟩
      all_goals (
        go_wp2_with fail
        refine (t4 _ (HB1.out.below g3.out)).mono ?_; rintro e w4 ⟨x4, k4, rfl, i4, bb4⟩
        have g4 := Lib.hid (grow g3.out bb4); have I4 := Lib.hid i4; clear bb4 i4 t4 g3
        go_wp2_with fail
        refine (t5 _ _ _ I4.out).mono ?_; rintro e w5 ⟨x5, k5, rfl, i5, -, bb5⟩
        have g5 := Lib.hid (grow g4.out bb5); have I5 := Lib.hid i5; clear bb5 i5 t5 g4 I4
        go_wp2_with fail
        refine (t6 _ _ _ I5.out (HB1.out.below g5.out)).mono ?_; rintro e w6 ⟨rfl, bb6⟩
        have g6 := Lib.hid (grow g5.out bb6); clear bb6 t6 g5 I5
        have F2' := F2.out
        clear F2
        rcases F2' with ⟨rfl, h4, rfl⟩ | ⟨rfl, h4⟩)
      all_goals (
        go_wp2_with fail
        refine (t7 _).mono ?_; rintro e w7 ⟨x7, k7, rfl, i7, bb7⟩
        have g7 := Lib.hid (grow g6.out bb7); have I7 := Lib.hid i7; clear bb7 i7 t7 g6
        go_wp2_with fail
        refine (t8 _ _ _ I7.out).mono ?_; rintro e w8 ⟨rfl, rfl⟩
        clear t8 I7
        go_wp2_with fail
        refine (t9 _).mono ?_; rintro e w9 ⟨x9, k9, rfl, i9, bb9⟩
        have g9 := Lib.hid (grow g7.out bb9); have I9 := Lib.hid i9; clear bb9 i9 t9 g7
        go_wp2_with fail
        refine (t10 _ _ _ I9.out).mono ?_; rintro e w10 ⟨rfl, rfl⟩
        clear t10 I9
        go_wp2_with fail
        refine (alive_any _).mono ?_; rintro e w11 ⟨rfl, bb11⟩
        have g11 := Lib.hid (grow g9.out bb11); clear bb11 g9
        have F3' := F3.out
        have F4' := F4.out
        clear F3 F4
        rcases F3' with ⟨rfl, rfl, q1, q2⟩ | ⟨rfl, q1⟩ | ⟨rfl, q1, q2⟩ <;> rcases F4' with ⟨rfl, rfl, q3, q4⟩ | ⟨rfl, q3⟩ | ⟨rfl, q3, q4⟩)
      all_goals (
        go_wp2
        go_ret
        exact ⟨rfl, g11.out⟩)
end wordBack
end Go.Proofs.Ytekibffcahlgbaa
