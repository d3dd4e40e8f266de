/-
  What the document's own answers for layer 1 (package rudderref01) return, and the live question of layer 1's statements: contracts by walking the Go text. No conditions beyond the numbers' kinds.
-/
import Derived.Test.YtbdncfonmomchaaFixWalks
namespace Go.Proofs.Ytbdncfonmomchaa
open Go.ChangeShapes Go.WideShapes Go.ChangeAt Go.RowKit
namespace Fx

set_option maxHeartbeats 400000 in
theorem rsmall_any (n : Int) (w : World) :
    Calls Try.prog 27 #[.int .i64 n] w fun e w' => e = .returned (.bool (sm n)) ∧ w = w' := by
  by_cases h1 : -1099511627776 ≤ n
  · by_cases h2 : n ≤ 1099511627776
    · have HF := Lib.hid ((sm_iff n).2 ⟨h1, h2⟩)
      go_enter Try.func27, Try.ntmps27
      go_wp2
      go_ret
      exact ⟨ret_bool HF.out.symm, rfl⟩
    · have HF := Lib.hid ((sm_false n).2 (by omega))
      have hd : decide (n ≤ 1099511627776) = false := by simpa using h2
      go_enter Try.func27, Try.ntmps27
      go_wp2
      go_ret
      exact ⟨ret_bool HF.out.symm, rfl⟩
  · have HF := Lib.hid ((sm_false n).2 (by omega))
    have hd : decide (-1099511627776 ≤ n) = false := by simpa using h1
    go_enter Try.func27, Try.ntmps27
    go_wp2
    go_ret
    exact ⟨ret_bool HF.out.symm, rfl⟩

theorem all_take_succ (l : List Int) (k : Nat) (h : k < l.length) : (l.take (k + 1)).all sm = ((l.take k).all sm && sm (l.getD k 0)) := by
  rw [List.take_succ_eq_append_getElem h, List.all_append]; simp [List.getD_eq_getElem?_getD, h]
theorem all_of_not (l : List Int) (k : Nat) (h : k < l.length) (e : sm (l.getD k 0) = false) : l.all sm = false := by
  rw [List.all_eq_false]
  refine ⟨l[k], List.getElem_mem h, ?_⟩
  simp [List.getD_eq_getElem?_getD, h] at e
  simp [e]

set_option maxHeartbeats 400000 in
theorem rall_any (a : Option Addr) (cap : Nat) (l : List Int) (w : World) (hl : l.length ≤ 9223372036854775807) (hb : IntsAt .i64 w a l) :
    Calls Try.prog 24 #[.slice a l.length cap] w fun e w' => e = .returned (.bool (l.all sm)) ∧ w = w' := by
  rcases hb with rfl | ⟨b, off, rfl, hc⟩
  · go_enter Try.func24, Try.ntmps24
    go_wp2
    go_rounds 1
    go_ret
    exact ⟨rfl, rfl⟩
  · have HC := Lib.hid hc
    clear hc
    go_enter Try.func24, Try.ntmps24
    go_wp2
    go_loop [3] (fun i => ∃ k : Nat, k ≤ l.length ∧ i = .int .i64 k ∧ (l.take k).all sm = true) (fun i => l.length - (intOf i).toNat)
    case atStart => exact ⟨0, by omega, rfl, rfl⟩
    case round =>
      obtain ⟨k, hk, rfl, hall⟩ := hrel
      have HA := Lib.hid hall
      clear hall
      by_cases hlt : k < l.length
      · have hcell := HC.out k hlt
        have HT := Lib.hid (all_take_succ l k hlt)
        have HN := Lib.hid (all_of_not l k hlt)
        generalize l.getD k 0 = x at *
        cases hx : sm x
        · go_wp2_with (first | (go_at_call 27; refine (rsmall_any _ _).mono ?_; rintro e w' ⟨rfl, rfl⟩))
          go_ret
          exact ⟨ret_bool (by rw [HN.out hx]), rfl⟩
        · go_wp2_with (first | (go_at_call 27; refine (rsmall_any _ _).mono ?_; rintro e w' ⟨rfl, rfl⟩))
          go_round
          case rel => exact ⟨k + 1, by omega, by go_num, by rw [HT.out, HA.out, hx]; rfl⟩
          case measure => simp [intOf]; omega
      · have : k = l.length := by omega
        subst this
        go_wp2
        go_ret
        exact ⟨ret_bool (by have := HA.out; rw [List.take_of_length_le (Nat.le_refl _)] at this; exact this.symm), rfl⟩

/-- ref.All over three, just laid in memory. -/
theorem rall3 (w : World) (t : TypeId) (x y z : Int) :
    Calls Try.prog 24 #[.slice (some ⟨w.heap.size, 0, none⟩) 3 3] (w.alloc (.cells #[.int .i64 x, .int .i64 y, .int .i64 z] t))
      fun e w' => e = .returned (.bool (sm x && sm y && sm z)) ∧ (w.alloc (.cells #[.int .i64 x, .int .i64 y, .int .i64 z] t)) = w' :=
  (rall_any _ 3 [x, y, z] _ (by simp) (ints3 w t x y z)).mono fun e w' ⟨h, h'⟩ => ⟨by rw [h]; simp [Bool.and_assoc], h'⟩
theorem rall2 (w : World) (t : TypeId) (x y : Int) :
    Calls Try.prog 24 #[.slice (some ⟨w.heap.size, 0, none⟩) 2 2] (w.alloc (.cells #[.int .i64 x, .int .i64 y] t))
      fun e w' => e = .returned (.bool (sm x && sm y)) ∧ (w.alloc (.cells #[.int .i64 x, .int .i64 y] t)) = w' :=
  (rall_any _ 2 [x, y] _ (by simp) (ints2 w t x y)).mono fun e w' ⟨h, h'⟩ => ⟨by rw [h]; simp, h'⟩

set_option maxHeartbeats 400000 in
theorem rclamp_any (n lo hi : Int) (w : World) :
    Calls Try.prog 8 #[.int .i64 n, .int .i64 lo, .int .i64 hi] w fun e w' => e = .returned (.int .i64 (clamp n lo hi)) ∧ Below w.heap.size w w' := by
  cases hs : (sm n && sm lo && sm hi)
  · have HF := Lib.hid (show clamp n lo hi = 0 by unfold clamp; rw [if_neg (by intro h; simp [h] at hs)])
    go_enter Try.func8, Try.ntmps8
    go_wp2_with (first | (go_at_call 24; refine (rall3 _ _ _ _ _).mono ?_; rintro e w' ⟨rfl, rfl⟩))
    go_ret
    exact ⟨ret_int (by rw [HF.out]), by go_grown⟩
  · have HF := Lib.hid (show clamp n lo hi = within n lo hi by unfold clamp; rw [if_pos (by simpa [and_assoc] using hs)])
    by_cases h1 : hi < lo
    · have HG := Lib.hid (show within n lo hi = lo by unfold within; rw [if_pos (Or.inl h1)])
      go_enter Try.func8, Try.ntmps8
      go_wp2_with (first | (go_at_call 24; refine (rall3 _ _ _ _ _).mono ?_; rintro e w' ⟨rfl, rfl⟩))
      go_ret
      exact ⟨ret_int (by rw [HF.out, HG.out]), by go_grown⟩
    · have d1 : decide (hi < lo) = false := by simpa using h1
      by_cases h2 : n < lo
      · have HG := Lib.hid (show within n lo hi = lo by unfold within; rw [if_pos (Or.inr h2)])
        go_enter Try.func8, Try.ntmps8
        go_wp2_with (first | (go_at_call 24; refine (rall3 _ _ _ _ _).mono ?_; rintro e w' ⟨rfl, rfl⟩))
        go_ret
        exact ⟨ret_int (by rw [HF.out, HG.out]), by go_grown⟩
      · have d2 : decide (n < lo) = false := by simpa using h2
        by_cases h3 : hi < n
        · have HG := Lib.hid (show within n lo hi = hi by unfold within; rw [if_neg (by omega), if_pos h3])
          go_enter Try.func8, Try.ntmps8
          go_wp2_with (first | (go_at_call 24; refine (rall3 _ _ _ _ _).mono ?_; rintro e w' ⟨rfl, rfl⟩))
          go_ret
          exact ⟨ret_int (by rw [HF.out, HG.out]), by go_grown⟩
        · have HG := Lib.hid (show within n lo hi = n by unfold within; rw [if_neg (by omega), if_neg h3])
          have d3 : decide (hi < n) = false := by simpa using h3
          go_enter Try.func8, Try.ntmps8
          go_wp2_with (first | (go_at_call 24; refine (rall3 _ _ _ _ _).mono ?_; rintro e w' ⟨rfl, rfl⟩))
          go_ret
          exact ⟨ret_int (by rw [HF.out, HG.out]), by go_grown⟩

set_option maxHeartbeats 400000 in
theorem rnear_any (n to b : Int) (w : World) :
    Calls Try.prog 10 #[.int .i64 n, .int .i64 to, .int .i64 b] w fun e w' => e = .returned (.int .i64 (near n to b)) ∧ Below w.heap.size w w' := by
  cases hs : (sm n && sm to && sm b)
  · have HF := Lib.hid (show near n to b = 0 by unfold near; rw [if_neg (by intro h; simp [h] at hs)])
    go_enter Try.func10, Try.ntmps10
    go_wp2_with (first | (go_at_call 24; refine (rall3 _ _ _ _ _).mono ?_; rintro e w' ⟨rfl, rfl⟩))
    go_ret
    exact ⟨ret_int (by rw [HF.out]), by go_grown⟩
  · have hs' : sm n = true ∧ sm to = true ∧ sm b = true := by simpa [and_assoc] using hs
    have b1 := sm_bd hs'.1
    have b2 := sm_bd hs'.2.1
    have b3 := sm_bd hs'.2.2
    by_cases h1 : b < 0
    · have HG := Lib.hid (show near n to b = n by unfold near; rw [if_pos hs', if_pos h1])
      clear hs'
      go_enter Try.func10, Try.ntmps10
      go_wp2_with (first | (go_at_call 24; refine (rall3 _ _ _ _ _).mono ?_; rintro e w' ⟨rfl, rfl⟩))
      go_ret
      exact ⟨ret_int (by rw [HG.out]), by go_grown⟩
    · have HF := Lib.hid (show near n to b = within to (n - b) (n + b) by unfold near; rw [if_pos hs', if_neg h1])
      clear hs'
      by_cases h2 : n + b < to
      · have HG := Lib.hid (show within to (n - b) (n + b) = n + b by unfold within; rw [if_neg (by omega), if_pos h2])
        go_enter Try.func10, Try.ntmps10
        go_wp2_with (first | (go_at_call 24; refine (rall3 _ _ _ _ _).mono ?_; rintro e w' ⟨rfl, rfl⟩))
        go_ret
        exact ⟨ret_int (by rw [HF.out, HG.out]), by go_grown⟩
      · by_cases h3 : to < n - b
        · have HG := Lib.hid (show within to (n - b) (n + b) = n - b by unfold within; rw [if_pos (Or.inr h3)])
          go_enter Try.func10, Try.ntmps10
          go_wp2_with (first | (go_at_call 24; refine (rall3 _ _ _ _ _).mono ?_; rintro e w' ⟨rfl, rfl⟩))
          go_ret
          exact ⟨ret_int (by rw [HF.out, HG.out]), by go_grown⟩
        · have HG := Lib.hid (show within to (n - b) (n + b) = to by unfold within; rw [if_neg (by omega), if_neg h2])
          go_enter Try.func10, Try.ntmps10
          go_wp2_with (first | (go_at_call 24; refine (rall3 _ _ _ _ _).mono ?_; rintro e w' ⟨rfl, rfl⟩))
          go_ret
          exact ⟨ret_int (by rw [HF.out, HG.out]), by go_grown⟩

set_option maxHeartbeats 400000 in
theorem rapart_any (a b : Int) (w : World) :
    Calls Try.prog 17 #[.int .i64 a, .int .i64 b] w fun e w' => e = .returned (.int .i64 (apart a b)) ∧ Below w.heap.size w w' := by
  cases hs : (sm a && sm b)
  · have HF := Lib.hid (show apart a b = 0 by unfold apart; rw [if_neg (by intro h; simp [h] at hs)])
    go_enter Try.func17, Try.ntmps17
    go_wp2_with (first | (go_at_call 24; refine (rall2 _ _ _ _).mono ?_; rintro e w' ⟨rfl, rfl⟩))
    go_ret
    exact ⟨ret_int (by rw [HF.out]), by go_grown⟩
  · have hs' : sm a = true ∧ sm b = true := by simpa [and_assoc] using hs
    have b1 := sm_bd hs'.1
    have b2 := sm_bd hs'.2
    by_cases h1 : b < a
    · have HG := Lib.hid (show apart a b = a - b by unfold apart; rw [if_pos hs', if_neg (by omega)])
      clear hs'
      go_enter Try.func17, Try.ntmps17
      go_wp2_with (first | (go_at_call 24; refine (rall2 _ _ _ _).mono ?_; rintro e w' ⟨rfl, rfl⟩))
      go_ret
      exact ⟨ret_int (by rw [HG.out]), by go_grown⟩
    · have HG := Lib.hid (show apart a b = b - a by unfold apart; rw [if_pos hs']; split <;> omega)
      clear hs'
      go_enter Try.func17, Try.ntmps17
      go_wp2_with (first | (go_at_call 24; refine (rall2 _ _ _ _).mono ?_; rintro e w' ⟨rfl, rfl⟩))
      go_ret
      exact ⟨ret_int (by rw [HG.out]), by go_grown⟩

set_option maxHeartbeats 400000 in
theorem rfloor_any (n b : Int) (w : World) :
    Calls Try.prog 12 #[.int .i64 n, .int .i64 b] w fun e w' => e = .returned (.int .i64 (floor n b)) ∧ Below w.heap.size w w' := by
  cases hs : (sm n && sm b)
  · have HF := Lib.hid (show floor n b = 0 by unfold floor; rw [if_neg (by intro h; simp [h] at hs)])
    go_enter Try.func12, Try.ntmps12
    go_wp2_with (first | (go_at_call 24; refine (rall2 _ _ _ _).mono ?_; rintro e w' ⟨rfl, rfl⟩))
    go_ret
    exact ⟨ret_int (by rw [HF.out]), by go_grown⟩
  · have hs' : sm n = true ∧ sm b = true := by simpa [and_assoc] using hs
    have b1 := sm_bd hs'.1
    have b2 := sm_bd hs'.2
    by_cases h1 : 1 ≤ b
    · have HF := Lib.hid (show floor n b = n / b by unfold floor; rw [if_pos ⟨hs'.1, hs'.2, h1⟩])
      clear hs'
      by_cases h2 : 0 ≤ n
      · have bd := div_bd n b h1 h2
        go_enter Try.func12, Try.ntmps12
        go_wp2_with (first | (go_at_call 24; refine (rall2 _ _ _ _).mono ?_; rintro e w' ⟨rfl, rfl⟩))
        go_ret
        exact ⟨ret_int (by rw [HF.out]), by go_grown⟩
      · have bd := div_bd (b - 1 - n) b h1 (by omega)
        have HD := Lib.hid (div_up n b h1)
        go_enter Try.func12, Try.ntmps12
        go_wp2_with (first | (go_at_call 24; refine (rall2 _ _ _ _).mono ?_; rintro e w' ⟨rfl, rfl⟩))
        go_ret
        exact ⟨ret_int (by rw [HF.out, HD.out]), by go_grown⟩
    · have HF := Lib.hid (show floor n b = 0 by unfold floor; rw [if_neg (by omega)])
      clear hs'
      go_enter Try.func12, Try.ntmps12
      go_wp2_with (first | (go_at_call 24; refine (rall2 _ _ _ _).mono ?_; rintro e w' ⟨rfl, rfl⟩))
      go_ret
      exact ⟨ret_int (by rw [HF.out]), by go_grown⟩

theorem floor_pow (n : Int) (k : Nat) (h : k ≤ 40) (hn : sm n = true) : floor n (2 ^ k) = n / 2 ^ k := by
  have h1 := pow_le40 k h
  have h2 := pow_pos2 k
  unfold floor; rw [if_pos ⟨hn, (sm_iff _).2 ⟨by omega, by omega⟩, h2⟩]

set_option maxHeartbeats 400000 in
theorem rshift_any (n b : Int) (w : World) :
    Calls Try.prog 14 #[.int .i64 n, .int .i64 b] w fun e w' => e = .returned (.int .i64 (shift n b)) ∧ Below w.heap.size w w' := by
  cases h1 : sm n
  case true =>
    by_cases h3 : 0 ≤ b
    · by_cases h4 : b ≤ 40
      · have HF := Lib.hid (show shift n b = n / 2 ^ b.toNat by unfold shift; rw [if_pos ⟨h1, h3, h4⟩])
        obtain ⟨m, rfl⟩ := Int.eq_ofNat_of_zero_le h3
        have HP := Lib.hid (floor_pow n m (by omega) h1)
        have d1 : decide ((m : Int) < 0) = false := by simp
        have d2 : decide (40 < (m : Int)) = false := by simp; omega
        go_enter Try.func14, Try.ntmps14
        go_wp2_with (first | (go_at_call 27; refine (rsmall_any _ _).mono ?_; rintro e w' ⟨rfl, rfl⟩))
        go_loop [6, 7] (fun p i => ∃ k : Nat, k ≤ m ∧ i = .int .i64 k ∧ p = .int .i64 (2 ^ k)) (fun _ i => m - (intOf i).toNat)
        case atStart => exact ⟨0, by omega, rfl, rfl⟩
        case round =>
          obtain ⟨k, hk, rfl, rfl⟩ := hrel
          have p1 := pow_le40 k (by omega)
          have p2 := pow_pos2 k
          by_cases hlt : k < m
          · have HS := Lib.hid (pow_succ2 k)
            go_wp2_with fail
            go_round
            case rel => exact ⟨k + 1, by omega, by go_num, by rw [HS.out]⟩
            case measure => simp [intOf]; omega
          · have : k = m := by omega
            subst this
            go_wp2_with (first | (go_at_call 12; refine (rfloor_any _ _ _).mono ?_; rintro e w' ⟨rfl, hb⟩))
            go_ret
            exact ⟨ret_int (by rw [HF.out, HP.out]; simp), hb⟩
      · have HF := Lib.hid (show shift n b = 0 by unfold shift; rw [if_neg (by omega)])
        have d1 : decide (b < 0) = false := by simp; omega
        have d2 : decide (40 < b) = true := by simp; omega
        go_enter Try.func14, Try.ntmps14
        go_wp2_with (first | (go_at_call 27; refine (rsmall_any _ _).mono ?_; rintro e w' ⟨rfl, rfl⟩))
        go_ret
        exact ⟨ret_int (by rw [HF.out]), Below.refl _ _⟩
    · have HF := Lib.hid (show shift n b = 0 by unfold shift; rw [if_neg (by omega)])
      have d1 : decide (b < 0) = true := by simp; omega
      go_enter Try.func14, Try.ntmps14
      go_wp2_with (first | (go_at_call 27; refine (rsmall_any _ _).mono ?_; rintro e w' ⟨rfl, rfl⟩))
      go_ret
      exact ⟨ret_int (by rw [HF.out]), Below.refl _ _⟩
  case false =>
    have HF := Lib.hid (show shift n b = 0 by unfold shift; rw [h1]; simp)
    go_enter Try.func14, Try.ntmps14
    go_wp2_with (first | (go_at_call 27; refine (rsmall_any _ _).mono ?_; rintro e w' ⟨rfl, rfl⟩))
    go_ret
    exact ⟨ret_int (by rw [HF.out]), Below.refl _ _⟩

theorem alive_facts : clamp 5 0 3 = 3 ∧ clamp 5 7 3 = 7 ∧ floor (-7) 2 = -4 ∧ floor 7 0 = 0 ∧ shift (-1) 3 = -1 ∧ shift 9 41 = 0 ∧ apart (-3) 4 = 7 ∧ near 0 (-9) 4 = -4 ∧ near 0 3 4 = 3 ∧ bits [true, false, true] = 5 ∧ has 5 2 = true ∧ has 5 1 = false ∧ count 7 = 3 ∧ clamp 1099511627777 0 5 = 0 := by
  refine ⟨?_, ?_, ?_, ?_, ?_, ?_, ?_, ?_, ?_, ?_, ?_, ?_, ?_, ?_⟩ <;> decide +kernel

set_option maxHeartbeats 800000 in
theorem alive_any (w : World) :
    Calls Try.prog 15 #[] w fun e w' => e = .returned (.bool true) ∧ Below w.heap.size w w' := by
  obtain ⟨a1, a2, a3, a4, a5, a6, a7, a8, a9, a10, a11, a12, a13, a14⟩ := alive_facts
  go_enter Try.func15, Try.ntmps15
  go_wp2_with (first
    | (go_at_call 7; refine (clamp_any _ _ _ _).mono ?_; rintro e w' ⟨rfl, rfl⟩)
    | (go_at_call 11; refine (floor_any _ _ _).mono ?_; rintro e w' ⟨rfl, rfl⟩)
    | (go_at_call 13; refine (shift_any _ _ _).mono ?_; rintro e w' ⟨rfl, rfl⟩)
    | (go_at_call 16; refine (apart_any _ _ _).mono ?_; rintro e w' ⟨rfl, rfl⟩)
    | (go_at_call 9; refine (near_any _ _ _ _).mono ?_; rintro e w' ⟨rfl, rfl⟩)
    | (go_at_call 20; refine (has_any _ _ _).mono ?_; rintro e w' ⟨rfl, rfl⟩)
    | (go_at_call 22; refine (count_any _ _).mono ?_; rintro e w' ⟨rfl, rfl⟩)
    | (go_at_call 18; refine (bits_any _ 3 [true, false, true] _ (by decide) (bools3 w _ true false true)).mono ?_; rintro e w' ⟨rfl, rfl⟩))
  go_ret
  exact ⟨rfl, by go_grown⟩

end Fx
end Go.Proofs.Ytbdncfonmomchaa
