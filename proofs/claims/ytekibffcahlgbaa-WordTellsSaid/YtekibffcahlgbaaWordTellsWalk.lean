/-
  The walk of the law WordTells: for all bytes and every two ints it returns true, and writes nothing that was there. No conditions.
-/
import Derived.Test.YtekibffcahlgbaaWordAlive
namespace Go.Proofs.Ytekibffcahlgbaa
open Go.ChangeShapes Go.WideShapes Go.ChangeAt Go.RowKit Go.Deep
namespace wordTells
open Wd Wr
open Cr (Bytes bytes_wf)

set_option maxHeartbeats 1600000 in
theorem walk (n m : Int) (a : Option Addr) (cap : Nat) (l : List Int) (w : World) (_w0 : (Lit.int .i64 n).wf = true) (_w1 : (Lit.int .i64 m).wf = true) (m0 : l.length ≤ maxLen) (c0 : l.length ≤ cap ∧ cap ≤ maxLen) (_z : cap * 1 ≤ 140737488351232) (f0 : ∀ n ∈ l, (Lit.int .u8 n).wf = true) (hb : IntsAt .u8 w a l) :
    Calls Try.prog 3 #[.int .i64 n, .int .i64 m, .slice a l.length cap] w fun e w' => e = .returned (.bool true) ∧ Below w.heap.size w w' := by
  unfold maxLen at m0 c0
  obtain ⟨c1, c2⟩ := c0
  by_cases h200 : 200 < l.length
  · go_enter Try.func3, Try.ntmps3
    go_wp2_with fail
    refine (alive_any _).mono ?_; rintro e w5 ⟨rfl, b5⟩
    go_wp2
    go_ret
    exact ⟨rfl, b5⟩
  · have d0 : decide (200 < (l.length : Int)) = false := by simp; omega
    have hy := bytes_wf f0
    have HB := Lib.hid hb
    have t1 := fun W (h : IntsAt .u8 W a l) => get2_any a cap l W (by omega) hy h
    have t2 := fun W (h : IntsAt .u8 W a l) => rget2_any a cap l W (by omega) hy h
    have t3 := fun W (h : IntsAt .u8 W a l) => get4_any a cap l W (by omega) hy h
    have t4 := fun W (h : IntsAt .u8 W a l) => rget4_any a cap l W (by omega) hy h
    have t5 := fun W (h : IntsAt .u8 W a l) => getAll_any a cap l W (by omega) c1 hy h
    have t6 := fun W (h : IntsAt .u8 W a l) => rgetAll_any a cap l W (by omega) c1 hy h
    have L1 := getAll_len l
    generalize getAll l = gl at *
    generalize getAllb l = gb at *
    generalize get2v l = v2 at *
    generalize get2b l = b2 at *
    generalize get4v l = v4 at *
    generalize get4b l = b4 at *
    have t7 := fun W a3 a4 k3 k4 (h : IntsAt .i64 W a3 gl) (h' : IntsAt .i64 W a4 gl) => Sm.ints_any a3 a4 k3 k4 gl gl W (by omega) (by omega) h h'
    rw [Sm.same_self] at t7
    have t8 := fun W => put2_any n W
    have t9 := fun W => rput2_any n W
    have L2 : (put2 n).length ≤ 4 := by unfold put2; split <;> simp
    have t11 := fun W => put4_any n W
    have t12 := fun W => rput4_any n W
    have L4 : (put4 n).length ≤ 4 := by unfold put4; split <;> simp [four]
    generalize put2 n = p2 at *
    generalize put4 n = p4 at *
    have t10 := fun W a3 a4 k3 k4 (h : IntsAt .u8 W a3 p2) (h' : IntsAt .u8 W a4 p2) => Sm.rsame_any a3 a4 k3 k4 p2 p2 W (by omega) (by omega) h h'
    rw [Sm.same_self] at t10
    have t13 := fun W a3 a4 k3 k4 (h : IntsAt .u8 W a3 p4) (h' : IntsAt .u8 W a4 p4) => Sm.rsame_any a3 a4 k3 k4 p4 p4 W (by omega) (by omega) h h'
    rw [Sm.same_self] at t13
    have t14 := fun W => next_any n W
    have t15 := fun W => rnext_any n W
    have t16 := fun W => after_any n m W
    have t17 := fun W => rafter_any n m W
    generalize next n = nn at *
    generalize after n m = nm at *
    clear hb f0 L1 L2 L4 hy
    go_enter Try.func3, Try.ntmps3
    go_wp2_with fail
    refine (t1 _ HB.out).mono ?_; rintro e w1 ⟨rfl, rfl⟩
    clear t1
    go_wp2_with fail
    refine (t2 _ HB.out).mono ?_; rintro e w1 ⟨rfl, b1⟩
    have g1 := Lib.hid b1; clear b1 t2
    go_wp2_with fail
    refine (t3 _ (HB.out.below g1.out)).mono ?_; rintro e w2 ⟨rfl, rfl⟩
    clear t3
    go_wp2_with fail
    refine (t4 _ (HB.out.below g1.out)).mono ?_; rintro e w2 ⟨rfl, rfl⟩
    clear t4
    go_wp2_with fail
    refine (t5 _ (HB.out.below g1.out)).mono ?_; rintro e w2 ⟨a2, k2, rfl, i2, b2'⟩
    have g2 := Lib.hid (grow g1.out b2'); have I2 := Lib.hid i2; clear b2' i2 g1 t5
    go_wp2_with fail
    refine (t6 _ (HB.out.below g2.out)).mono ?_; rintro e w3 ⟨a3, k3, rfl, i3, b3⟩
    have g3 := Lib.hid (grow g2.out b3); have J2 := Lib.hid (I2.out.below b3); have I3 := Lib.hid i3; clear b3 i3 g2 I2 t6
    go_wp2_with fail
    refine (t7 _ _ _ _ _ J2.out I3.out).mono ?_; rintro e w4 ⟨rfl, b4'⟩
    have g4 := Lib.hid (grow g3.out b4'); clear b4' J2 I3 g3 t7
    go_wp2_with fail
    refine (t8 _).mono ?_; rintro e w5 ⟨a5, k5, rfl, i5, b5⟩
    have g5 := Lib.hid (grow g4.out b5); have I5 := Lib.hid i5; clear b5 i5 g4 t8
    go_wp2_with fail
    refine (t9 _).mono ?_; rintro e w6 ⟨a6, k6, rfl, i6, b6⟩
    have g6 := Lib.hid (grow g5.out b6); have J5 := Lib.hid (I5.out.below b6); have I6 := Lib.hid i6; clear b6 i6 g5 I5 t9
    go_wp2_with fail
    refine (t10 _ _ _ _ _ J5.out I6.out).mono ?_; rintro e w7 ⟨rfl, b7⟩
    have g7 := Lib.hid (grow g6.out b7); clear b7 J5 I6 g6 t10
    go_wp2_with fail
    refine (t11 _).mono ?_; rintro e w8 ⟨a8, k8, rfl, i8, b8⟩
    have g8 := Lib.hid (grow g7.out b8); have I8 := Lib.hid i8; clear b8 i8 g7 t11
    go_wp2_with fail
    refine (t12 _).mono ?_; rintro e w9 ⟨a9, k9, rfl, i9, b9⟩
    have g9 := Lib.hid (grow g8.out b9); have J8 := Lib.hid (I8.out.below b9); have I9 := Lib.hid i9; clear b9 i9 g8 I8 t12
    go_wp2_with fail
    refine (t13 _ _ _ _ _ J8.out I9.out).mono ?_; rintro e w10 ⟨rfl, b10⟩
    have g10 := Lib.hid (grow g9.out b10); clear b10 J8 I9 g9 t13
    go_wp2_with fail
    refine (alive_any _).mono ?_; rintro e w11 ⟨rfl, b11⟩
    have g11 := Lib.hid (grow g10.out b11); clear b11 g10
    go_wp2_with fail
    refine (t14 _).mono ?_; rintro e w12 ⟨rfl, rfl⟩
    clear t14
    go_wp2_with fail
    refine (t15 _).mono ?_; rintro e w12 ⟨rfl, rfl⟩
    clear t15
    go_wp2_with fail
    refine (t16 _).mono ?_; rintro e w12 ⟨rfl, rfl⟩
    clear t16
    go_wp2_with fail
    refine (t17 _).mono ?_; rintro e w12 ⟨rfl, rfl⟩
    clear t17
    go_wp2
    go_ret
    exact ⟨rfl, g11.out⟩
end wordTells
end Go.Proofs.Ytekibffcahlgbaa
