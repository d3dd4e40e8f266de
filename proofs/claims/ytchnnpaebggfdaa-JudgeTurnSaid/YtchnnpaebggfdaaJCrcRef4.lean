/-
  What the document's own answers for layer 3 (package rudderref03: cross, More, Sum, Same) return: contracts by walking the Go text. No conditions beyond the numbers' kinds and where the bytes lie.
  What the document's own answers for layer 3 (package rudderref03: More, Sum, Same) return: contracts by walking the Go text. No conditions beyond where the bytes lie.
  What the document's own answers for layer 3 (package rudderref03: Seal, Open) return, for at most 1000000 bytes: contracts by walking the Go text. Their conditions: where the bytes lie, and that they are so few.
  What the document's own answers for layer 4 (package rudderref04) return: contracts by walking the Go text. No conditions beyond where the bytes lie, and how many they are.
-/
import Derived.Test.YtchnnpaebggfdaaJCrcMath23
import Derived.Test.YtchnnpaebggfdaaJOpen2
import Derived.Deep.LoopGhost
import Derived.Deep.QuietTactic
import Derived.BigQuiet
import Derived.IntWalk
import Derived.WalkSmall
import Derived.Test.YtchnnpaebggfdaaJCrcStep4
import Derived.Test.YtchnnpaebggfdaaJAppend3
import Derived.Laws.BitsAll
namespace Go.Proofs.Ytchnnpaebggfdaa
set_option maxRecDepth 100000
open Go.ChangeShapes Go.WideShapes Go.ChangeAt Go.RowKit Go.Deep
namespace Cr
theorem rret_int {k : IntKind} {n m : Int} (h : n = m) : Ending.returned (.int k n) = .returned (.int k m) := by rw [h]
theorem xor_two (x y : Nat) : (x ^^^ y) % 2 = (x + y) % 2 := by
  have h := Nat.xor_mod_two_pow (a := x) (b := y) (n := 1)
  simp only [Nat.pow_one] at h
  rw [h, Nat.add_mod]
  rcases Nat.mod_two_eq_zero_or_one x with e | e <;> rcases Nat.mod_two_eq_zero_or_one y with f | f <;> rw [e, f] <;> rfl
theorem cross_next (a b k : Nat) : (a ^^^ b) % 2 ^ (k + 1) = (a ^^^ b) % 2 ^ k + 2 ^ k * ((a / 2 ^ k + b / 2 ^ k) % 2) := by
  rw [Nat.mod_pow_succ, Nat.xor_div_two_pow, xor_two]
theorem cross_same {a b k : Nat} (h : a / 2 ^ k % 2 = b / 2 ^ k % 2) : (a ^^^ b) % 2 ^ (k + 1) = (a ^^^ b) % 2 ^ k := by
  rw [cross_next, show (a / 2 ^ k + b / 2 ^ k) % 2 = 0 by omega, Nat.mul_zero, Nat.add_zero]
theorem cross_diff {a b k : Nat} (h : ¬ a / 2 ^ k % 2 = b / 2 ^ k % 2) : (a ^^^ b) % 2 ^ (k + 1) = (a ^^^ b) % 2 ^ k + 2 ^ k := by
  rw [cross_next, show (a / 2 ^ k + b / 2 ^ k) % 2 = 1 by omega, Nat.mul_one]
theorem half (a k : Nat) : a / 2 ^ (k + 1) = a / 2 ^ k / 2 := by rw [Nat.pow_succ, Nat.div_div_eq_div_mul]
theorem cross_all {a b : Nat} (ha : a < 65536) (hb : b < 65536) : (a ^^^ b) % 2 ^ 16 = a ^^^ b := Nat.mod_eq_of_lt (xor_lt ha hb)
set_option maxHeartbeats 800000 in
theorem rcross_any (a b : Nat) (w : World) (ha : a < 65536) (hb : b < 65536) :
    Calls Try.prog 78 #[.int .i64 a, .int .i64 b] w fun e w' => e = .returned (.int .i64 ((a ^^^ b : Nat) : Int)) ∧ w = w' := by
  have HE := Lib.hid (cross_all ha hb)
  go_enter Try.func78, Try.ntmps78
  go_wp2
  go_loopg [5, 6, 7, 8, 9] 16 (fun gg s5 s6 s7 s8 s9 wr => ∃ k : Nat, k + gg = 16 ∧ s9 = .int .i64 k ∧ s5 = .int .i64 (((a ^^^ b) % 2 ^ k : Nat) : Int) ∧ s6 = .int .i64 ((2 ^ k : Nat) : Int) ∧ s7 = .int .i64 ((a / 2 ^ k : Nat) : Int) ∧ s8 = .int .i64 ((b / 2 ^ k : Nat) : Int) ∧ w = wr)
  case atStart => exact ⟨0, by omega, rfl, by simp [Nat.mod_one], rfl, by simp, by simp, rfl⟩
  case round =>
    obtain ⟨k, hkg, rfl, rfl, rfl, rfl, rfl, rfl⟩ := hrel
    by_cases hk : k < 16
    · have hP : 2 ^ k ≤ 32768 := Nat.le_trans (Nat.pow_le_pow_right (by omega) (show k ≤ 15 by omega)) (by decide)
      have hN : (a ^^^ b) % 2 ^ k < 2 ^ k := Nat.mod_lt _ (Nat.pow_pos (by omega))
      have hA : a / 2 ^ k ≤ a := Nat.div_le_self ..
      have hB : b / 2 ^ k ≤ b := Nat.div_le_self ..
      have H1 := Lib.hid (half a k)
      have H2 := Lib.hid (half b k)
      have H3 := Lib.hid (Nat.pow_succ 2 k)
      by_cases hq : a / 2 ^ k % 2 = b / 2 ^ k % 2
      · have H4 := Lib.hid (cross_same hq)
        generalize (a ^^^ b) % 2 ^ k = N at *
        generalize a / 2 ^ k = A at *
        generalize b / 2 ^ k = B at *
        generalize 2 ^ k = P at *
        have d : ((A : Int) % 2 != (B : Int) % 2) = false := by simp; omega
        clear hq
        go_wp2
        go_roundg (gk - 1)
        case rel => exact ⟨k + 1, by omega, by go_num, by rw [H4.out], by rw [H3.out]; go_num, by rw [H1.out]; go_num, by rw [H2.out]; go_num, rfl⟩
        case measure => omega
      · have H4 := Lib.hid (cross_diff hq)
        generalize (a ^^^ b) % 2 ^ k = N at *
        generalize a / 2 ^ k = A at *
        generalize b / 2 ^ k = B at *
        generalize 2 ^ k = P at *
        have d : ((A : Int) % 2 != (B : Int) % 2) = true := by simp; omega
        clear hq
        go_wp2
        go_roundg (gk - 1)
        case rel => exact ⟨k + 1, by omega, by go_num, by rw [H4.out]; go_num, by rw [H3.out]; go_num, by rw [H1.out]; go_num, by rw [H2.out]; go_num, rfl⟩
        case measure => omega
    · obtain rfl : k = 16 := by omega
      go_wp2
      go_ret
      exact ⟨rret_int (by rw [HE.out]), rfl⟩
end Cr
end Go.Proofs.Ytchnnpaebggfdaa

namespace Go.Proofs.Ytchnnpaebggfdaa
set_option maxRecDepth 100000
open Go.ChangeShapes Go.WideShapes Go.ChangeAt Go.RowKit Go.Deep
namespace Cr
theorem rbit1_yes {x : Nat} (k : 32768 ≤ x) : (2 * x % 65536) ^^^ 4129 = bit1 x := by unfold bit1; rw [if_pos k]
theorem rbit1_no {x : Nat} (k : ¬ 32768 ≤ x) : 2 * x % 65536 = bit1 x := by unfold bit1; rw [if_neg k]
set_option maxHeartbeats 1600000 in
theorem rmore_any (a : Option Addr) (cap : Nat) (l : List Int) (s : Int) (w : World) (hl : l.length ≤ 9223372036854775807) (hy : Bytes l) (hb : IntsAt .u8 w a l) :
    Calls Try.prog 74 #[.int .i64 s, .slice a l.length cap] w fun e w' => e = .returned (.int .i64 (moreI s l)) ∧ w = w' := by
  by_cases hin : 0 ≤ s ∧ s ≤ 65535
  · obtain ⟨n, rfl⟩ := Int.eq_ofNat_of_zero_le hin.1
    have hn : n < 65536 := by omega
    have HM := Lib.hid (moreI_in n l hn)
    have HY := Lib.hid hy
    have HB := Lib.hid hb
    clear hy hb
    have d1 : decide ((n : Int) < 0) = false := by simp
    have d2 : decide (65535 < (n : Int)) = false := by simp; omega
    go_enter Try.func74, Try.ntmps74
    go_wp2
    go_loopg [5, 6] l.length (fun gg s5 s6 wr => ∃ k : Nat, k + gg = l.length ∧ s6 = .int .i64 k ∧ s5 = .int .i64 ((upto n l k : Nat) : Int) ∧ w = wr)
    case atStart => exact ⟨0, by omega, rfl, by rw [upto_0], rfl⟩
    case round =>
      obtain ⟨k, hkg, rfl, rfl, rfl⟩ := hrel
      by_cases hk : k < l.length
      · rcases HB.out with hnil | ⟨b, off, rfl, hc⟩
        · rw [hnil] at hk; simp at hk
        have hki : (k : Int) < (l.length : Int) := by omega
        have hcx := hc k hk
        have hg := HY.out.getD k
        have HU := Lib.hid (upto_succ n l k hk)
        obtain ⟨c, hcc⟩ := Int.eq_ofNat_of_zero_le hg.1
        rw [hcc] at hcx hg HU
        have hX := upto_lt n l k hn
        have HE := Lib.hid (feed_def (upto n l k) c)
        have C := rcross_any (upto n l k) (256 * c) w hX (by omega)
        rw [show ((256 * c : Nat) : Int) = 256 * (c : Int) by omega] at C
        have hY := xor_lt hX (show 256 * c < 65536 by omega)
        clear hc hcc
        generalize (upto n l k) = X at *
        generalize X ^^^ (256 * c) = Y at *
        go_wp2_with (go_at_call 78; refine C.mono ?_; rintro e w2 ⟨rfl, rfl⟩)
        clear C
        go_loopg [5, 7] 8 (fun g2 s5 s7 wx => ∃ m : Nat, m + g2 = 8 ∧ s7 = .int .i64 m ∧ s5 = .int .i64 ((bits m Y : Nat) : Int) ∧ w = wx)
        case atStart => exact ⟨0, by omega, rfl, rfl, rfl⟩
        case round =>
          obtain ⟨m, hmg, rfl, rfl, rfl⟩ := hrel
          have hZ := bits_lt m Y hY
          have HS := Lib.hid (bits_succ m Y)
          by_cases hm : m < 8
          · generalize bits m Y = Z at *
            have e0 : 2 * (Z : Int) % 65536 = ((2 * Z % 65536 : Nat) : Int) := by omega
            have e1 : (2 * Z % 65536 : Nat) < 65536 := Nat.mod_lt _ (by omega)
            by_cases ht : 32768 ≤ Z
            · have C2 := rcross_any (2 * Z % 65536) 4129 w e1 (by omega)
              rw [rbit1_yes ht, ← e0] at C2
              have ht2 : (32768 : Int) ≤ (Z : Int) := by omega
              clear e0
              go_wp2_with (go_at_call 78; refine C2.mono ?_; rintro e w2 ⟨rfl, rfl⟩)
              go_roundg (gk - 1)
              case rel => exact ⟨m + 1, by omega, by go_num, by rw [HS.out], rfl⟩
              case measure => omega
            · have HT := Lib.hid (rbit1_no ht)
              have ht2 : ¬ (32768 : Int) ≤ (Z : Int) := by omega
              have E0 := Lib.hid e0
              clear e0
              go_wp2
              go_roundg (gk - 1)
              case rel => exact ⟨m + 1, by omega, by go_num, by rw [HS.out, ← HT.out, ← E0.out], rfl⟩
              case measure => omega
          · obtain rfl : m = 8 := by omega
            go_wp2
            go_roundg (l.length - (k + 1))
            case rel => exact ⟨k + 1, by omega, by go_num, by rw [HU.out, Int.toNat_natCast, HE.out], rfl⟩
            case measure => omega
      · obtain rfl : k = l.length := by omega
        go_wp2
        go_ret
        exact ⟨rret_int (by rw [HM.out, ← upto_all]), rfl⟩
  · have HM := Lib.hid (moreI_out s l hin)
    clear hy hb
    by_cases h0 : s < 0
    · have d1 : decide (s < 0) = true := by simpa using h0
      go_enter Try.func74, Try.ntmps74
      go_wp2
      go_ret
      exact ⟨rret_int HM.out.symm, rfl⟩
    · have d1 : decide (s < 0) = false := by simpa using h0
      have d2 : decide (65535 < s) = true := by simp; omega
      go_enter Try.func74, Try.ntmps74
      go_wp2
      go_ret
      exact ⟨rret_int HM.out.symm, rfl⟩
theorem rmoreI_sum (l : List Int) : moreI 65535 l = (sum l : Nat) := moreI_in 65535 l (by omega)
theorem rsum_any (a : Option Addr) (cap : Nat) (l : List Int) (w : World) (hl : l.length ≤ 9223372036854775807) (hy : Bytes l) (hb : IntsAt .u8 w a l) :
    Calls Try.prog 68 #[.slice a l.length cap] w fun e w' => e = .returned (.int .i64 ((sum l : Nat) : Int)) ∧ w = w' := by
  have C := rmore_any a cap l 65535 w hl hy hb
  rw [rmoreI_sum] at C
  go_enter Try.func68, Try.ntmps68
  go_wp2_with fail
  refine C.mono ?_; rintro e w1 ⟨rfl, rfl⟩
  go_wp2
  go_ret
  exact ⟨rfl, rfl⟩
end Cr
end Go.Proofs.Ytchnnpaebggfdaa

namespace Go.Proofs.Ytchnnpaebggfdaa
set_option maxRecDepth 100000
open Go.ChangeShapes Go.WideShapes Go.ChangeAt Go.RowKit Go.Deep
namespace Cr
set_option maxHeartbeats 800000 in
theorem ropen_cap (a : Option Addr) (cap : Nat) (l : List Int) (w : World) (hl : l.length ≤ 1000000) (hcap : l.length ≤ cap) (hy : Bytes l) (hb : IntsAt .u8 w a l) :
    Calls Try.prog 55 #[.slice a l.length cap] w (RetIBC .u8 w (opened l) (opens l)) := by
  by_cases h2 : l.length < 2
  · have ho : opens l = false := opens_false (by omega)
    have HO := Lib.hid ho
    have HP := Lib.hid (opened_no ho)
    clear ho
    have d1 : decide ((l.length : Int) < 2) = true := by simp; omega
    go_enter Try.func55, Try.ntmps55
    go_wp2
    go_ret2
    exact retIBC_nil HP.out HO.out (Below.refl _ _)
  · obtain ⟨n, hn⟩ : ∃ n, l.length = n + 2 := ⟨l.length - 2, by omega⟩
    rcases hb with hno | ⟨b, off, rfl, hc⟩
    · rw [hno] at h2; simp at h2
    have hT : (l.take n).length = n := by rw [List.length_take]; omega
    have hI : IntsAt .u8 w (some ⟨b, off, none⟩) (l.take n) := IntsAt.take (Or.inr ⟨b, off, rfl, hc⟩) n
    have hI2 := Lib.hid hI
    have C := rsum_any (some ⟨b, off, none⟩) cap (l.take n) w (by omega) (hy.take n) hI
    rw [hT] at C
    have q1 := hc n (by omega)
    have q2 := hc (n + 1) (by omega)
    have E := opens_at hn
    have HP := Lib.hid (opened_at hn)
    have HN := Lib.hid (opened_no (l := l))
    have hS := sum_lt (l.take n)
    have g1 := hy.getD n
    have g2 := hy.getD (n + 1)
    generalize sum (l.take n) = S at *
    generalize l.getD n 0 = x at *
    generalize l.getD (n + 1) 0 = y at *
    have s1 : ((S / 256 : Nat) : Int) = (S : Int) / 256 := by omega
    have s2 : ((S % 256 : Nat) : Int) = (S : Int) % 256 := by omega
    rw [s1, s2] at E
    have HE := Lib.hid E
    have d1 : decide ((n : Int) + 2 < 2) = false := by simp; omega
    have e1 : (n : Int) ≤ (cap : Int) := by omega
    have e2 : 0 ≤ (n : Int) := by omega
    have e3 : (n : Int) < ((n + 2 : Nat) : Int) := by omega
    have e4 : (n : Int) + 1 < ((n + 2 : Nat) : Int) := by omega
    have hn6 : n ≤ 1000000 := by omega
    have wj : wrap64 ((n : Int) + 1) = (n : Int) + 1 := by unfold wrap64; omega
    have wj2 : ((n : Int) + 1).toNat = n + 1 := by omega
    have wj3 : 0 ≤ (n : Int) + 1 := by omega
    rw [hn]
    clear hI hc hn h2 hy E s1 s2
    by_cases hx : x = (S : Int) / 256
    · have dx : (x != (S : Int) / 256) = false := by simpa using hx
      by_cases hz : y = (S : Int) % 256
      · have dz : (y != (S : Int) % 256) = false := by simpa using hz
        have ho : opens l = true := by rw [HE.out, decide_eq_true hx, decide_eq_true hz]; rfl
        have HO := Lib.hid ho
        have HQ := Lib.hid (HP.out ho)
        clear ho hx hz
        have HA1 := Lib.hid (show ([] : List Int).length + (l.take n).length ≤ maxLen by unfold maxLen; rw [hT]; simp; omega)
        have HA2 := Lib.hid (show (([] : List Int).length + (l.take n).length) * 1 ≤ 140737488355328 by rw [hT]; simp; omega)
        go_enter Try.func55, Try.ntmps55
        go_wp2_with fail
        refine C.mono ?_; rintro e w' ⟨rfl, rfl⟩
        go_wp2_with (first
          | ((with_reducible show wpList _ _ _ (⟨some 42, _, _, _, _, _⟩ :: _) _ _); refine wpList_appendI rfl (.tmp 36) (.tmp 41) _ rfl .u8 w.heap.size 5 1 Try.underlying59 byteInfo _ [] (some ⟨b, off, none⟩) n cap (l.take n) rfl rfl hT (OwnI.lit0 (Nat.le_refl _)) (hI2.out.below ((Below.refl _ _).alloc (Nat.le_refl _) _)) HA1.out HA2.out w ((Below.refl _ _).alloc (Nat.le_refl _) _) (Nat.le_refl _) ?_; intro v8 w8 O8' B8'; rw [List.nil_append] at O8'; obtain ⟨a8, c8, rfl, i8, M8, _⟩ := O8'.form2; rw [hT] at M8; have I8 := Lib.hid i8; have B8 := Lib.hid B8'; clear O8' B8' i8))
        go_ret2
        exact retIBC_mk HQ.out.symm hT HO.out.symm I8.out M8 B8.out
      · have dz : (y != (S : Int) % 256) = true := by simpa using hz
        have ho : opens l = false := by rw [HE.out, decide_eq_false hz, Bool.and_false]
        have HO := Lib.hid ho
        have HQ := Lib.hid (HN.out ho)
        clear ho hx hz
        go_enter Try.func55, Try.ntmps55
        go_wp2_with fail
        refine C.mono ?_; rintro e w' ⟨rfl, rfl⟩
        go_wp2
        go_ret2
        exact retIBC_nil HQ.out HO.out (Below.refl _ _)
    · have dx : (x != (S : Int) / 256) = true := by simpa using hx
      have ho : opens l = false := by rw [HE.out, decide_eq_false hx, Bool.false_and]
      have HO := Lib.hid ho
      have HQ := Lib.hid (HN.out ho)
      clear ho hx
      go_enter Try.func55, Try.ntmps55
      go_wp2_with fail
      refine C.mono ?_; rintro e w' ⟨rfl, rfl⟩
      go_wp2
      go_ret2
      exact retIBC_nil HQ.out HO.out (Below.refl _ _)
end Cr
end Go.Proofs.Ytchnnpaebggfdaa

namespace Go.Proofs.Ytchnnpaebggfdaa
set_option maxRecDepth 100000
open Go.ChangeShapes Go.WideShapes Go.ChangeAt Go.RowKit Go.Deep
namespace Wr
open Wd Cr
theorem ret_int {k : IntKind} {n m : Int} (h : n = m) : Ending.returned (.int k n) = .returned (.int k m) := by rw [h]
theorem ret_ib {n m : Int} {a b : Bool} (h : n = m) (k : a = b) : Ending.returned (.tuple #[.int .i64 n, .bool a]) = .returned (.tuple #[.int .i64 m, .bool b]) := by rw [h, k]
def RetIBr (k : IntKind) (w : World) (l : List Int) (b : Bool) (e : Ending) (w' : World) : Prop :=
  ∃ a cap, e = .returned (.tuple #[.slice a l.length cap, .bool b]) ∧ IntsAt k w' a l ∧ Below w.heap.size w w'
theorem retIB_nil {k : IntKind} {w w' : World} {l : List Int} {b : Bool} (he : l = []) (hb : b = false) (h : Below w.heap.size w w') : RetIBr k w l b (.returned (.tuple #[.slice none 0 0, .bool false])) w' := by
  subst he; subst hb; exact ⟨none, 0, rfl, Or.inl rfl, h⟩
theorem retIB_mk {k : IntKind} {w w' : World} {a : Option Addr} {l l' : List Int} {n cap : Nat} {b b' : Bool} (he : l' = l) (hn : l'.length = n) (hq : b' = b) (hi : IntsAt k w' a l') (hb : Below w.heap.size w w') :
    RetIBr k w l b (.returned (.tuple #[.slice a n cap, .bool b'])) w' := by subst he; subst hn; subst hq; exact ⟨a, cap, rfl, hi, hb⟩
set_option maxHeartbeats 800000 in
theorem rget2_any (a : Option Addr) (cap : Nat) (l : List Int) (w : World) (_hl : l.length ≤ 9223372036854775807) (hy : Bytes l) (hb : IntsAt .u8 w a l) :
    Calls Try.prog 56 #[.slice a l.length cap] w fun e w' => e = .returned (.tuple #[.int .i64 (get2v l), .bool (get2b l)]) ∧ Below w.heap.size w w' := by
  by_cases h : l.length = 2
  · have HF := Lib.hid (get2v_yes h)
    have HG := Lib.hid ((get2b_iff l).2 h)
    rcases hb with hno | ⟨b, off, rfl, hc⟩
    · rw [hno] at h; simp at h
    have q1 := hc 0 (by omega)
    have q2 := hc 1 (by omega)
    rw [Nat.add_zero] at q1
    have g1 := hy.getD 0
    have g2 := hy.getD 1
    rw [h]
    clear hy hc
    generalize l.getD 0 0 = x at *
    generalize l.getD 1 0 = y at *
    go_enter Try.func56, Try.ntmps56
    go_wp2
    go_quiet (fail)
    go_wp2
    go_ret2
    exact ⟨ret_ib HF.out.symm HG.out.symm, below_drewN (Below.refl _ _) _⟩
  · have HF := Lib.hid (get2v_no h)
    have HG := Lib.hid (show get2b l = false by cases e : get2b l; rfl; exact absurd ((get2b_iff l).1 e) h)
    have d : ((l.length : Int) != 2) = true := by simp; omega
    have d2 : ((l.length : Int) == 2) = false := by simp; omega
    clear hy hb
    go_enter Try.func56, Try.ntmps56
    go_wp2
    go_ret2
    exact ⟨ret_ib HF.out.symm HG.out.symm, Below.refl _ _⟩
set_option maxHeartbeats 800000 in
theorem rget4_any (a : Option Addr) (cap : Nat) (l : List Int) (w : World) (_hl : l.length ≤ 9223372036854775807) (hy : Bytes l) (hb : IntsAt .u8 w a l) :
    Calls Try.prog 57 #[.slice a l.length cap] w fun e w' => e = .returned (.tuple #[.int .i64 (get4v l), .bool (get4b l)]) ∧ w = w' := by
  by_cases h : l.length = 4
  · have HF := Lib.hid (val_four' h)
    have HG := Lib.hid ((get4b_iff l).2 h)
    have HY := Lib.hid hy
    rcases hb with hno | ⟨b, off, rfl, hc⟩
    · rw [hno] at h; simp at h
    have HC := Lib.hid hc
    have HL := Lib.hid h
    rw [h]
    clear hy hc h
    go_enter Try.func57, Try.ntmps57
    go_wp2
    go_loopg [4, 5] 4 (fun gg s4 s5 wr => ∃ k : Nat, k + gg = 4 ∧ s5 = .int .i64 k ∧ s4 = .int .i64 (val (l.take k)) ∧ w = wr)
    case atStart => exact ⟨0, by omega, rfl, by rw [List.take_zero]; rfl, rfl⟩
    case round =>
      obtain ⟨k, hkg, rfl, rfl, rfl⟩ := hrel
      have hV := val_in HY.out k (by have := HL.out; omega) (by omega)
      by_cases hk : k < 4
      · have hki : (k : Int) < 4 := by omega
        have hcx := HC.out k (by have := HL.out; omega)
        have hg := HY.out.getD k
        have HU := Lib.hid (show 256 * val (l.take k) + l.getD k 0 = val (l.take (k + 1)) by rw [val_next l k (by have := HL.out; omega)]; omega)
        have hV1 := hV.1
        have hV2 := hV.2.2 hk
        clear hV
        generalize val (l.take k) = X at *
        generalize l.getD k 0 = c at *
        go_wp2
        go_roundg (gk - 1)
        case rel => exact ⟨k + 1, by omega, by go_num, by rw [← HU.out], rfl⟩
        case measure => omega
      · obtain rfl : k = 4 := by omega
        have hV1 := hV.1
        have hV2 := hV.2.1
        have e4 : l.take 4 = l := List.take_of_length_le (by have := HL.out; omega)
        rw [e4] at hV1 hV2 ⊢
        clear hV e4
        generalize val l = X at *
        by_cases hx : 2147483648 ≤ X
        · have HD := Lib.hid (show X - 4294967296 = down X by unfold down; rw [if_pos hx])
          have d : decide (2147483648 ≤ X) = true := by simpa using hx
          go_wp2
          go_ret2
          exact ⟨ret_ib (HD.out.trans HF.out) HG.out.symm, rfl⟩
        · have HD := Lib.hid (show X = down X by unfold down; rw [if_neg hx])
          have d : decide (2147483648 ≤ X) = false := by simpa using hx
          go_wp2
          go_ret2
          exact ⟨ret_ib (HD.out.trans HF.out) HG.out.symm, rfl⟩
  · have HF := Lib.hid (get4v_no h)
    have HG := Lib.hid (show get4b l = false by cases e : get4b l; rfl; exact absurd ((get4b_iff l).1 e) h)
    have d : ((l.length : Int) != 4) = true := by simp; omega
    have d2 : ((l.length : Int) == 4) = false := by simp; omega
    clear hy hb
    go_enter Try.func57, Try.ntmps57
    go_wp2
    go_ret2
    exact ⟨ret_ib HF.out.symm HG.out.symm, rfl⟩
end Wr
end Go.Proofs.Ytchnnpaebggfdaa
