/-
 What the calls of package fix return, for every argument: contracts by walking the Go text. No conditions beyond the numbers' kinds.
-/
import Derived.Test.YticidhbnljdidaaGreatDoorChecked
import Derived.Test.YticidhbnljdidaaGreatDoorFixMath
import Derived.Test.YticidhbnljdidaaGreatDoorJOpen2
import Derived.WalkKit
import Derived.ProofKit
import Derived.OpenShut
import Derived.Lib.Hide
import Derived.Handy
namespace Go.Proofs.YticidhbnljdidaaGreatDoor
set_option maxRecDepth 100000
open Go.ChangeShapes Go.WideShapes Go.ChangeAt Go.RowKit
namespace Fx
set_option maxHeartbeats 400000 in
theorem small_any (n : Int) (w : World) :
 Calls Tryz.prog 205 #[.int .i64 n] w fun e w' => e = .returned (.bool (sm n)) ∧ w = w' := by
 by_cases h1 : -1099511627776 ≤ n
 · by_cases h2 : n ≤ 1099511627776
   · have HF := Lib.hid ((sm_iff n).2 ⟨h1,h2⟩)
     go_enter Tryz.func205,Tryz.ntmps205
     go_wp2
     go_ret
     exact ⟨ret_bool HF.out.symm,rfl⟩
   · have HF := Lib.hid ((sm_false n).2 (by omega))
     have hd : decide (n ≤ 1099511627776) = false := by simpa using h2
     go_enter Tryz.func205,Tryz.ntmps205
     go_wp2
     go_ret
     exact ⟨ret_bool HF.out.symm,rfl⟩
 · have HF := Lib.hid ((sm_false n).2 (by omega))
   have hd : decide (-1099511627776 ≤ n) = false := by simpa using h1
   go_enter Tryz.func205,Tryz.ntmps205
   go_wp2
   go_ret
   exact ⟨ret_bool HF.out.symm,rfl⟩
set_option maxHeartbeats 400000 in
theorem within_any (n lo hi : Int) (w : World) :
 Calls Tryz.prog 223 #[.int .i64 n,.int .i64 lo,.int .i64 hi] w fun e w' => e = .returned (.int .i64 (within n lo hi)) ∧ w = w' := by
 by_cases h1 : hi < lo
 · have HF := Lib.hid (show within n lo hi = lo by unfold within; rw [if_pos (Or.inl h1)])
   go_enter Tryz.func223,Tryz.ntmps223
   go_wp2
   go_ret
   exact ⟨ret_int HF.out.symm,rfl⟩
 · have d1 : decide (hi < lo) = false := by simpa using h1
   by_cases h2 : n < lo
   · have HF := Lib.hid (show within n lo hi = lo by unfold within; rw [if_pos (Or.inr h2)])
     go_enter Tryz.func223,Tryz.ntmps223
     go_wp2
     go_ret
     exact ⟨ret_int HF.out.symm,rfl⟩
   · have d2 : decide (n < lo) = false := by simpa using h2
     by_cases h3 : hi < n
     · have HF := Lib.hid (show within n lo hi = hi by unfold within; rw [if_neg (by omega),if_pos h3])
       go_enter Tryz.func223,Tryz.ntmps223
       go_wp2
       go_ret
       exact ⟨ret_int HF.out.symm,rfl⟩
     · have HF := Lib.hid (show within n lo hi = n by unfold within; rw [if_neg (by omega),if_neg h3])
       have d3 : decide (hi < n) = false := by simpa using h3
       go_enter Tryz.func223,Tryz.ntmps223
       go_wp2
       go_ret
       exact ⟨ret_int HF.out.symm,rfl⟩
set_option maxHeartbeats 400000 in
theorem clamp_any (n lo hi : Int) (w : World) :
 Calls Tryz.prog 202 #[.int .i64 n,.int .i64 lo,.int .i64 hi] w fun e w' => e = .returned (.int .i64 (clamp n lo hi)) ∧ w = w' := by
 cases h1 : sm n <;> cases h2 : sm lo <;> cases h3 : sm hi
 all_goals
  have HF := Lib.hid (show clamp n lo hi = _ by unfold clamp; rw [h1,h2,h3])
  go_enter Tryz.func202,Tryz.ntmps202
  go_wp2_with (first | (go_at_call 205; refine (small_any _ _).mono ?_; rintro e w' ⟨rfl,rfl⟩) | (go_at_call 223; refine (within_any _ _ _ _).mono ?_; rintro e w' ⟨rfl,rfl⟩))
  go_ret
  exact ⟨ret_int (by rw [HF.out]; simp),rfl⟩
set_option maxHeartbeats 400000 in
theorem apart_any (a b : Int) (w : World) :
 Calls Tryz.prog 168 #[.int .i64 a,.int .i64 b] w fun e w' => e = .returned (.int .i64 (apart a b)) ∧ w = w' := by
 cases h1 : sm a <;> cases h2 : sm b
 case true.true =>
  have b1 := sm_bd h1
  have b2 := sm_bd h2
  by_cases h3 : a < b
  · have HF := Lib.hid (show apart a b = b - a by unfold apart; rw [if_pos ⟨h1,h2⟩,if_pos h3])
    go_enter Tryz.func168,Tryz.ntmps168
    go_wp2_with (first | (go_at_call 205; refine (small_any _ _).mono ?_; rintro e w' ⟨rfl,rfl⟩))
    go_ret
    exact ⟨ret_int (by rw [HF.out]),rfl⟩
  · have HF := Lib.hid (show apart a b = a - b by unfold apart; rw [if_pos ⟨h1,h2⟩,if_neg h3])
    go_enter Tryz.func168,Tryz.ntmps168
    go_wp2_with (first | (go_at_call 205; refine (small_any _ _).mono ?_; rintro e w' ⟨rfl,rfl⟩))
    go_ret
    exact ⟨ret_int (by rw [HF.out]),rfl⟩
 all_goals
  have HF := Lib.hid (show apart a b = _ by unfold apart; rw [h1,h2])
  go_enter Tryz.func168,Tryz.ntmps168
  go_wp2_with (first | (go_at_call 205; refine (small_any _ _).mono ?_; rintro e w' ⟨rfl,rfl⟩))
  go_ret
  exact ⟨ret_int (by rw [HF.out]; simp),rfl⟩
set_option maxHeartbeats 400000 in
theorem floor_any (n b : Int) (w : World) :
 Calls Tryz.prog 224 #[.int .i64 n,.int .i64 b] w fun e w' => e = .returned (.int .i64 (floor n b)) ∧ w = w' := by
 cases h1 : sm n <;> cases h2 : sm b
 case true.true =>
  have b1 := sm_bd h1
  have b2 := sm_bd h2
  by_cases h3 : 1 ≤ b
  · have HF := Lib.hid (show floor n b = n / b by unfold floor; rw [if_pos ⟨h1,h2,h3⟩])
    by_cases h4 : n < 0
    · have bd := tdiv_bd n b h3 h4
      by_cases h5 : n.tmod b < 0
      · have HD := Lib.hid (tdiv_low n b h3 h4 h5)
        go_enter Tryz.func224,Tryz.ntmps224
        go_wp2_with (first | (go_at_call 205; refine (small_any _ _).mono ?_; rintro e w' ⟨rfl,rfl⟩))
        go_ret
        exact ⟨ret_int (by rw [HF.out,HD.out]),rfl⟩
      · have HD := Lib.hid (tdiv_even n b h3 h4 (by omega))
        go_enter Tryz.func224,Tryz.ntmps224
        go_wp2_with (first | (go_at_call 205; refine (small_any _ _).mono ?_; rintro e w' ⟨rfl,rfl⟩))
        go_ret
        exact ⟨ret_int (by rw [HF.out,HD.out]),rfl⟩
    · have bd := div_bd n b h3 (by omega)
      have bm := Int.emod_nonneg n (show b ≠ 0 by omega)
      go_enter Tryz.func224,Tryz.ntmps224
      go_wp2_with (first | (go_at_call 205; refine (small_any _ _).mono ?_; rintro e w' ⟨rfl,rfl⟩))
      go_ret
      exact ⟨ret_int (by rw [HF.out]),rfl⟩
  · have HF := Lib.hid (show floor n b = 0 by unfold floor; rw [if_neg (by omega)])
    go_enter Tryz.func224,Tryz.ntmps224
    go_wp2_with (first | (go_at_call 205; refine (small_any _ _).mono ?_; rintro e w' ⟨rfl,rfl⟩))
    go_ret
    exact ⟨ret_int (by rw [HF.out]),rfl⟩
 all_goals
  have HF := Lib.hid (show floor n b = _ by unfold floor; rw [h1,h2])
  go_enter Tryz.func224,Tryz.ntmps224
  go_wp2_with (first | (go_at_call 205; refine (small_any _ _).mono ?_; rintro e w' ⟨rfl,rfl⟩))
  go_ret
  exact ⟨ret_int (by rw [HF.out]; simp),rfl⟩
set_option maxHeartbeats 400000 in
theorem shift_any (n b : Int) (w : World) :
 Calls Tryz.prog 198 #[.int .i64 n,.int .i64 b] w fun e w' => e = .returned (.int .i64 (shift n b)) ∧ w = w' := by
 cases h1 : sm n
 case true =>
  have b1 := sm_bd h1
  by_cases h3 : 0 ≤ b
  · by_cases h4 : b ≤ 40
    · have HF := Lib.hid (show shift n b = n / 2 ^ b.toNat by unfold shift; rw [if_pos ⟨h1,h3,h4⟩])
      go_enter Tryz.func198,Tryz.ntmps198
      go_wp2_with (first | (go_at_call 205; refine (small_any _ _).mono ?_; rintro e w' ⟨rfl,rfl⟩))
      go_ret
      exact ⟨ret_int (by rw [HF.out]),rfl⟩
    · have HF := Lib.hid (show shift n b = 0 by unfold shift; rw [if_neg (by omega)])
      go_enter Tryz.func198,Tryz.ntmps198
      go_wp2_with (first | (go_at_call 205; refine (small_any _ _).mono ?_; rintro e w' ⟨rfl,rfl⟩))
      go_ret
      exact ⟨ret_int (by rw [HF.out]),rfl⟩
  · have HF := Lib.hid (show shift n b = 0 by unfold shift; rw [if_neg (by omega)])
    have d1 : decide (b < 0) = true := by simp; omega
    go_enter Tryz.func198,Tryz.ntmps198
    go_wp2_with (first | (go_at_call 205; refine (small_any _ _).mono ?_; rintro e w' ⟨rfl,rfl⟩))
    go_ret
    exact ⟨ret_int (by rw [HF.out]),rfl⟩
 case false =>
  have HF := Lib.hid (show shift n b = 0 by unfold shift; rw [h1]; simp)
  go_enter Tryz.func198,Tryz.ntmps198
  go_wp2_with (first | (go_at_call 205; refine (small_any _ _).mono ?_; rintro e w' ⟨rfl,rfl⟩))
  go_ret
  exact ⟨ret_int (by rw [HF.out]),rfl⟩
set_option maxHeartbeats 400000 in
theorem has_any (m i : Int) (w : World) :
 Calls Tryz.prog 60 #[.int .i64 m,.int .i64 i] w fun e w' => e = .returned (.bool (has m i)) ∧ w = w' := by
 by_cases h1 : m < 0
 · have HF := Lib.hid (has_out m i (by omega))
   go_enter Tryz.func60,Tryz.ntmps60
   go_wp2
   go_ret
   exact ⟨ret_bool (by rw [HF.out]),rfl⟩
 · have d1 : decide (m < 0) = false := by simpa using h1
   by_cases h2 : 65536 ≤ m
   · have HF := Lib.hid (has_out m i (by omega))
     go_enter Tryz.func60,Tryz.ntmps60
     go_wp2
     go_ret
     exact ⟨ret_bool (by rw [HF.out]),rfl⟩
   · have d2 : decide (65536 ≤ m) = false := by simpa using h2
     by_cases h3 : i < 0
     · have HF := Lib.hid (has_out m i (by omega))
       go_enter Tryz.func60,Tryz.ntmps60
       go_wp2
       go_ret
       exact ⟨ret_bool (by rw [HF.out]),rfl⟩
     · have d3 : decide (i < 0) = false := by simpa using h3
       by_cases h4 : 16 ≤ i
       · have HF := Lib.hid (has_out m i (by omega))
         go_enter Tryz.func60,Tryz.ntmps60
         go_wp2
         go_ret
         exact ⟨ret_bool (by rw [HF.out]),rfl⟩
       · have d4 : decide (16 ≤ i) = false := by simpa using h4
         have HF := Lib.hid (has_go m i (by omega))
         go_enter Tryz.func60,Tryz.ntmps60
         go_wp2
         go_ret
         exact ⟨ret_bool HF.out,rfl⟩
set_option maxHeartbeats 400000 in
theorem count_any (m : Int) (w : World) :
 Calls Tryz.prog 99 #[.int .i64 m] w fun e w' => e = .returned (.int .i64 (count m)) ∧ w = w' := by
 go_enter Tryz.func99,Tryz.ntmps99
 go_wp2
 go_loop [3,5] (fun n i => ∃ k : Nat,k ≤ 16 ∧ i = .int .i64 k ∧ n = .int .i64 (countTo m k)) (fun _ i => 16 - (intOf i).toNat)
 case atStart => exact ⟨0,by omega,rfl,rfl⟩
 case round =>
  obtain ⟨k,hk,rfl,rfl⟩ := hrel
  have hd := countTo_le m k
  by_cases hlt : k < 16
  · cases hh : has m (k : Int)
    · have HS := Lib.hid (show countTo m (k + 1) = countTo m k by rw [countTo,hh]; rfl)
      go_wp2_with (first | (go_at_call 60; refine (has_any _ _ _).mono ?_; rintro e w' ⟨rfl,rfl⟩))
      go_round
      case rel => exact ⟨k + 1,by omega,by go_num,by rw [HS.out]⟩
      case measure => simp [intOf]; omega
    · have HS := Lib.hid (show countTo m (k + 1) = countTo m k + 1 by rw [countTo,hh]; rfl)
      go_wp2_with (first | (go_at_call 60; refine (has_any _ _ _).mono ?_; rintro e w' ⟨rfl,rfl⟩))
      go_round
      case rel => exact ⟨k + 1,by omega,by go_num,by rw [HS.out]; go_num⟩
      case measure => simp [intOf]; omega
  · have : k = 16 := by omega
    subst this
    go_wp2
    go_ret
    exact ⟨rfl,rfl⟩
set_option maxHeartbeats 400000 in
theorem bits_any (a : Option Addr) (cap : Nat) (l : List Bool) (w : World) (hl : l.length ≤ 9223372036854775807) (hb : BoolsAt w a l) :
 Calls Tryz.prog 62 #[.slice a l.length cap] w fun e w' => e = .returned (.int .i64 (bits l)) ∧ w = w' := by
 by_cases h1 : l.length ≤ 16
 · have HF := Lib.hid (show bits l = (bitsN l : Int) by unfold bits; rw [if_pos h1])
   rcases hb with rfl | ⟨b,off,rfl,hc⟩
   · go_enter Tryz.func62,Tryz.ntmps62
     go_wp2
     go_rounds 1
     go_ret
     exact ⟨ret_int (by rw [HF.out]; rfl),rfl⟩
   · have HC := Lib.hid hc
     clear hc
     go_enter Tryz.func62,Tryz.ntmps62
     go_wp2
     go_loop [3,10] (fun n i => ∃ k : Nat,k ≤ l.length ∧ i = .int .i64 k ∧ n = .int .i64 (bitsN (l.take k))) (fun _ i => l.length - (intOf i).toNat)
     case atStart => exact ⟨0,by omega,rfl,rfl⟩
     case round =>
      obtain ⟨k,hk,rfl,rfl⟩ := hrel
      have hlt2 := bitsN_lt (l.take k)
      rw [List.length_take,Nat.min_eq_left hk] at hlt2
      have HL := Lib.hid hlt2
      clear hlt2
      by_cases hlt : k < l.length
      · have hcell := HC.out k hlt
        cases hh : l.getD k false
        · rw [hh] at hcell
          have HS := Lib.hid (bitsN_take_false l k hlt hh)
          clear hh
          go_wp2
          go_round
          case rel => exact ⟨k + 1,by omega,by go_num,by rw [HS.out]⟩
          case measure => simp [intOf]; omega
        · rw [hh] at hcell
          have HS := Lib.hid (bitsN_take_true l k hlt hh)
          have HO := Lib.hid (or_high _ k HL.out (by omega))
          clear hh
          go_wp2
          go_round
          case rel => exact ⟨k + 1,by omega,by go_num,by rw [HS.out,wrap_pow k (by omega),HO.out]; simp⟩
          case measure => simp [intOf]; omega
      · have : k = l.length := by omega
        subst this
        go_wp2
        go_ret
        exact ⟨ret_int (by rw [HF.out]),rfl⟩
 · have HF := Lib.hid (show bits l = 0 by unfold bits; rw [if_neg h1])
   go_enter Tryz.func62,Tryz.ntmps62
   go_wp2
   go_ret
   exact ⟨ret_int (by rw [HF.out]),rfl⟩
end Fx
end Go.Proofs.YticidhbnljdidaaGreatDoor
