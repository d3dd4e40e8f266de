/-
  The walk of the law CrcTells: for all bytes and every int it returns true, and writes nothing that was there. No conditions.
-/
import Derived.Test.YtedklejalfdklaaCrcAlive
namespace Go.Proofs.Ytedklejalfdklaa
open Go.ChangeShapes Go.WideShapes Go.ChangeAt Go.RowKit Go.Deep
namespace crcTells
open Cr

set_option maxHeartbeats 1600000 in
theorem walk (a : Option Addr) (cap : Nat) (l : List Int) (s : Int) (w : World) (m0 : l.length ≤ maxLen) (c0 : l.length ≤ cap ∧ cap ≤ maxLen) (_z : cap * 1 ≤ 140737488351232) (f0 : ∀ n ∈ l, (Lit.int .u8 n).wf = true) (hb : IntsAt .u8 w a l) (_w1 : (Lit.int .i64 s).wf = true) :
    Calls Try.prog 3 #[.slice a l.length cap, .int .i64 s] w fun e w' => e = .returned (.bool true) ∧ Below w.heap.size w w' := by
  unfold maxLen at m0 c0
  obtain ⟨c1, c2⟩ := c0
  by_cases h300 : 300 < l.length
  · go_enter Try.func3, Try.ntmps3
    go_wp2_with fail
    refine (alive_any _).mono ?_; rintro e w5 ⟨rfl, b5⟩
    go_wp2
    go_ret
    exact ⟨rfl, b5⟩
  · have d0 : decide (300 < (l.length : Int)) = false := by simp; omega
    have hy := bytes_wf f0
    have HB := Lib.hid hb
    have L1 := opened_len l
    have L2 := Lib.hid (sealed_len l)
    have t1 := fun W (h : IntsAt .u8 W a l) => open_any a cap l W (by omega) c1 hy h
    have t2 := fun W (h : IntsAt .u8 W a l) => ropen_any a cap l W (by omega) c1 hy h
    have t3 := fun W (h : IntsAt .u8 W a l) => seal_cap a cap l W (by omega) hy h
    have t4 := fun W (h : IntsAt .u8 W a l) => rseal_any a cap l W (by omega) hy h
    have t5 := fun W (h : IntsAt .u8 W a l) => sum_any a cap l W (by omega) hy h
    have t6 := fun W (h : IntsAt .u8 W a l) => rsum_any a cap l W (by omega) hy h
    have t7 := fun W (h : IntsAt .u8 W a l) => more_any a cap l s W (by omega) hy h
    have t8 := fun W (h : IntsAt .u8 W a l) => rmore_any a cap l s W (by omega) hy h
    generalize sealed l = sl at *
    generalize opened l = ol at *
    generalize opens l = ob at *
    generalize sum l = S at *
    generalize moreI s l = M at *
    have t9 := fun W a3 a4 k3 k4 (h : IntsAt .u8 W a3 sl) (h' : IntsAt .u8 W a4 sl) => rsame_self a3 a4 k3 k4 sl W (by have := L2.out; omega) h h'
    have t10 := fun W a3 a4 k3 k4 (h : IntsAt .u8 W a3 ol) (h' : IntsAt .u8 W a4 ol) => rsame_self a3 a4 k3 k4 ol W (by omega) h h'
    clear hb f0 L1 L2 hy
    go_enter Try.func3, Try.ntmps3
    go_wp2_with fail
    refine (t1 _ HB.out).mono ?_; rintro e w1 ⟨a1, k1, rfl, i1, b1⟩
    have g1 := Lib.hid b1; have I1 := Lib.hid i1; clear b1 i1 t1
    go_wp2_with fail
    refine (t2 _ (HB.out.below g1.out)).mono ?_; rintro e w2 ⟨a2, k2, rfl, i2, b2⟩
    have g2 := Lib.hid (grow g1.out b2); have I1' := Lib.hid (I1.out.below b2); have I2 := Lib.hid i2; clear b2 i2 g1 I1 t2
    go_wp2_with fail
    refine (t3 _ (HB.out.below g2.out)).mono ?_; rintro e w3 ⟨a3, k3, rfl, i3, -, b3⟩
    have g3 := Lib.hid (grow g2.out b3); have J1 := Lib.hid (I1'.out.below b3); have J2 := Lib.hid (I2.out.below b3); have I3 := Lib.hid i3; clear b3 i3 g2 I1' I2 t3
    go_wp2_with fail
    refine (t4 _ (HB.out.below g3.out)).mono ?_; rintro e w4 ⟨a4, k4, rfl, i4, b4⟩
    have g4 := Lib.hid (grow g3.out b4); have K1 := Lib.hid (J1.out.below b4); have K2 := Lib.hid (J2.out.below b4); have I3' := Lib.hid (I3.out.below b4); have I4 := Lib.hid i4; clear b4 i4 g3 J1 J2 I3 t4
    go_wp2_with fail
    refine (t9 _ _ _ _ _ I3'.out I4.out).mono ?_; rintro e w5 ⟨rfl, b5⟩
    have g5 := Lib.hid (grow g4.out b5); have M1 := Lib.hid (K1.out.below b5); have M2 := Lib.hid (K2.out.below b5); clear b5 g4 K1 K2 I3' I4 t9
    go_wp2_with fail
    refine (t10 _ _ _ _ _ M1.out M2.out).mono ?_; rintro e w6 ⟨rfl, b6⟩
    have g6 := Lib.hid (grow g5.out b6); clear b6 g5 M1 M2 t10
    go_wp2_with fail
    refine (alive_any _).mono ?_; rintro e w7 ⟨rfl, b7⟩
    have g7 := Lib.hid (grow g6.out b7); clear b7 g6
    go_wp2_with fail
    refine (t5 _ (HB.out.below g7.out)).mono ?_; rintro e w8 ⟨rfl, b8⟩
    have g8 := Lib.hid (grow g7.out b8); clear b8 g7 t5
    go_wp2_with fail
    refine (t6 _ (HB.out.below g8.out)).mono ?_; rintro e w9 ⟨rfl, rfl⟩
    go_wp2_with fail
    refine (t7 _ (HB.out.below g8.out)).mono ?_; rintro e w10 ⟨rfl, b10⟩
    have g10 := Lib.hid (grow g8.out b10); clear b10 g8 t7
    go_wp2_with fail
    refine (t8 _ (HB.out.below g10.out)).mono ?_; rintro e w11 ⟨rfl, rfl⟩
    go_wp2
    go_ret
    exact ⟨rfl, g10.out⟩
end crcTells
end Go.Proofs.Ytedklejalfdklaa
