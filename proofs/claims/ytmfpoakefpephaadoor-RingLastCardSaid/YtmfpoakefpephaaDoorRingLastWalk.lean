/-
  The walk of the law RingLast: for all notes it returns true, and writes nothing that was there. Its conditions: how the notes, and the tables, lie.
-/
import Derived.Test.YtmfpoakefpephaaDoorRingAlive
import Derived.Test.YtmfpoakefpephaaDoorRingRows
namespace Go.Proofs.YtmfpoakefpephaaDoor
open Go.ChangeShapes Go.WideShapes Go.ChangeAt Go.RowKit Go.Deep
namespace Rg
open Mn

theorem okn_split (ns : List Nt) (j : Nat) : okn ns ns.length = okn ns j ++ (ns.drop j).filter rgn := by
  unfold okn
  rw [List.take_length, ← List.filter_append, List.take_append_drop]
/-- Where a right note stands among the last ones. -/
theorem last_here {ns : List Nt} {j p : Nat} {n : Nt} (h : ns[j]? = some n) (hr : rgn n = true) (hp : lost (okn ns ns.length) + p = (okn ns j).length) : (lasts (okn ns ns.length))[p]? = some n := by
  unfold lasts
  rw [List.getElem?_drop, hp, okn_split ns (j + 1), okn_yes h hr, List.append_assoc, List.getElem?_append_right (Nat.le_refl _), Nat.sub_self]
  rfl
end Rg
namespace ringLast
open Rg Mn
set_option maxRecDepth 100000 in
set_option maxHeartbeats 6400000 in
theorem walk (a : Option Addr) (cap : Nat) (ls : List (List Value)) (w : World) (_hc : ls.length ≤ cap) (hb : ManyAt w a [.int .i64, .int .i64, .int .i64, .int .i64, .int .i64] ls) (hT : Tabs w) :
    Calls Tryd.prog 4 #[.slice a ls.length cap] w fun e w' => e = .returned (.bool true) ∧ Below w.heap.size w w' := by
  have AL := fun W (t : Tabs W) => alive_any W t
  have HT := Lib.hid hT
  obtain ⟨ns, hn, -, hat⟩ := notes_of hb
  rw [← hn]
  clear hT hb hn
  have HS := Lib.hid hat
  clear hat
  obtain ⟨m, hm⟩ : ∃ m, m = ns.length := ⟨_, rfl⟩
  rw [← hm]
  have HN := Lib.hid hm
  clear hm
  by_cases hlen : 200 < m
  · have d : decide (200 < (m : Int)) = true := by simp; omega
    clear hlen HS
    go_enter Tryd.func4, Tryd.ntmps4
    go_wp2_with fail
    refine (AL _ HT.out).mono ?_; rintro e w2 ⟨rfl, b2⟩
    go_wp2
    go_ret
    exact ⟨rfl, b2⟩
  · have d : decide (200 < (m : Int)) = false := by simp; omega
    have h200 : m ≤ 200 := by omega
    clear hlen
    have C1 := new_any w
    have P0 := Lib.hid (show Kept w (w.alloc (.cells (cellsI .i64 (rgc [])).toArray 40)) w.heap.size (okn ns 0) by rw [okn_zero]; exact Kept.new w)
    go_enter Tryd.func4, Tryd.ntmps4
    go_wp2_with (go_at_call 6; refine C1.mono ?_; rintro e w1 ⟨rfl, rfl⟩)
    generalize w.alloc (.cells (cellsI .i64 (rgc [])).toArray 40) = W0 at *
    obtain ⟨g, hg⟩ : ∃ g, g = w.heap.size := ⟨_, rfl⟩
    rw [← hg]
    rw [show Kept w W0 w.heap.size (okn ns 0) = Kept w W0 g (okn ns 0) by rw [← hg]] at P0
    clear C1 hg
    go_loopg [4, 5] m (fun gg s4 s5 wr => ∃ k : Nat, k + gg = m ∧ s5 = .int .i64 k ∧ s4 = .int .i64 ((okn ns k).length : Nat) ∧ Hid (Kept w wr g (okn ns k)))
    case atStart => exact ⟨0, by omega, rfl, by rw [okn_zero]; rfl, P0⟩
    case round =>
      obtain ⟨k, hk, rfl, rfl, P⟩ := hrel
      clear P0
      by_cases hlt : k < m
      · have hli : (k : Int) < m := by omega
        obtain ⟨b, off, rfl, hat⟩ := HS.out (by have := HN.out; omega)
        obtain ⟨n, hn⟩ : ∃ n, ns[k]? = some n := ⟨_, List.getElem?_eq_getElem (by have := HN.out; omega)⟩
        have hol := okn_len ns k
        obtain ⟨c0, c1, c2, c3, c4⟩ := (hat k n hn).on P.out.below
        have HK := Lib.hid hk
        cases hr : rgn n
        · have HX := Lib.hid (okn_no hn hr)
          have CA := fun W (t : Tabs W) => add_no g n W t.trips hr
          clear hat hn hr hk
          unfold ntv at CA
          generalize hz : (okn ns k).length = z at *
          have HZ := Lib.hid hz
          clear hz
          go_wp2_with fail
          refine (CA _ (HT.out.below P.out.below)).mono ?_; rintro e w2 ⟨rfl, b2⟩
          have P2 := Lib.hid (show Kept w w2 g (okn ns (k + 1)) by rw [HX.out]; exact P.out.on b2)
          clear c0 c1 c2 c3 c4 b2 CA P
          go_wp2
          go_roundg (gk - 1)
          case rel => exact ⟨k + 1, by have := HK.out; omega, by go_num, by rw [HX.out, HZ.out], P2⟩
          case measure => have := HK.out; omega
        · have HX := Lib.hid (okn_yes hn hr)
          have CA := fun W (t : Tabs W) h => add_yes g (okn ns k) n W t.trips h (by omega) hr
          clear hat hn hr hk
          unfold ntv at CA
          generalize hz : (okn ns k).length = z at *
          have HZ := Lib.hid hz
          clear hz
          go_wp2_with fail
          refine (CA _ (HT.out.below P.out.below) P.out.ring).mono ?_; rintro e w2 ⟨rfl, r2, o2⟩
          have P2 := Lib.hid (show Kept w w2 g (okn ns (k + 1)) by rw [HX.out]; exact P.out.take r2 o2)
          clear c0 c1 c2 c3 c4 r2 o2 CA P
          go_wp2
          go_roundg (gk - 1)
          case rel => exact ⟨k + 1, by have := HK.out; omega, by go_num, by rw [HX.out, List.length_append, HZ.out]; rfl, P2⟩
          case measure => have := HK.out; omega
      · obtain rfl : k = m := by omega
        have hol := okn_len ns k
        obtain ⟨L, hL⟩ : ∃ L, L = okn ns k := ⟨_, rfl⟩
        rw [← hL] at P hol ⊢
        have HL := Lib.hid hL
        clear hL
        have CA := fun W r => all_any g L W r (by omega)
        have CL := fun W r => lost_any g L W r (by omega)
        have hA := lasts_len L
        obtain ⟨A, eA⟩ : ∃ A, A = (lasts L).length := ⟨_, rfl⟩
        rw [← eA] at hA
        have HA := Lib.hid eA
        have d1 : decide (32 < (A : Int)) = false := by simp; omega
        have hq : lost L = L.length - 32 := rfl
        have d2 : (A : Int) + ((lost L : Nat) : Int) = (L.length : Int) := by omega
        have hways : decide (0 < lost L) = false ∨ (decide (0 < lost L) = true ∧ A = 32 ∧ (32 : Int) + ((lost L : Nat) : Int) = (L.length : Int)) := by
          by_cases h : lost L = 0
          · exact Or.inl (by simp; omega)
          · exact Or.inr ⟨by simp; omega, by omega, by omega⟩
        have hq6 : lost L ≤ 200 := by omega
        obtain ⟨q, eq⟩ : ∃ q, q = lost L := ⟨_, rfl⟩
        rw [← eq] at hq d2 hways hq6 CL
        have HQ := Lib.hid eq
        have HS1 := Lib.hid (show A + q = L.length by omega)
        have hA32 : A ≤ 32 := by omega
        clear hol hA eA eq hq
        go_wp2_with fail
        refine (CA _ P.out.ring).mono ?_; rintro e w2 ⟨a1, cap1, rfl, -, N1, b2⟩
        rw [← HA.out]
        have P2 := Lib.hid (P.out.on b2)
        have N2 := Lib.hid N1
        clear P b2 N1 CA
        rcases hways with d3 | ⟨d3, rfl, d4⟩
        case' inr => clear d2
        all_goals
          go_wp2_with (go_at_call 12; refine (CL _ P2.out.ring).mono ?_; rintro e w' ⟨rfl, rfl⟩)
          clear CL d1 d3
          try clear d2
          try clear d4
          have B2 := Lib.hid P2.out.below
          clear P2
          go_loopg [7, 8] k (fun gg s7 s8 wr => ∃ (j : Nat) (K : Int), j = gg ∧ s8 = .int .i64 ((j : Int) - 1) ∧ s7 = .int .i64 K ∧ Hid (K = ((okn ns j).length : Int) - 1 - q) ∧ Hid (Below w2.heap.size w2 wr) ∧ j ≤ k)
          case atStart => exact ⟨k, _, rfl, rfl, rfl, Lib.hid (by have := HS1.out; rw [← HL.out]; omega), Lib.hid (Below.refl _ _), Nat.le_refl _⟩
          case round =>
            obtain ⟨j, K, rfl, rfl, rfl, HKK, B, hle⟩ := hrel
            cases j with
            | zero =>
              have hK : K < 0 := by have := HKK.out; rw [okn_zero] at this; simp at this; omega
              clear HKK
              go_wp2_with fail
              refine (AL _ (HT.out.below (grow B2.out B.out))).mono ?_; rintro e w3 ⟨rfl, b3⟩
              have B3 := Lib.hid (grow (grow B2.out B.out) b3)
              clear b3 B
              go_wp2
              go_ret
              exact ⟨rfl, B3.out⟩
            | succ i =>
              rw [show (((i + 1 : Nat) : Int) - 1) = (i : Int) by omega]
              have hi : i < k := by omega
              have hii : (i : Int) < k := by omega
              obtain ⟨b, off, rfl, hat⟩ := HS.out (by have := HN.out; omega)
              obtain ⟨n, hn⟩ : ∃ n, ns[i]? = some n := ⟨_, List.getElem?_eq_getElem (by have := HN.out; omega)⟩
              have F := Lib.hid (hat i n hn)
              have hol := okn_len ns i
              have BW := Lib.hid (grow B2.out B.out)
              obtain ⟨c0, c1, c2, c3, c4⟩ := F.out.on BW.out
              have CR := fun W (t : Tabs W) => right_any n W t.trips
              cases hr : rgn n
              · have HX := Lib.hid (okn_no hn hr)
                rw [hr] at CR
                clear hat hn hr
                unfold ntv at CR
                go_wp2_with fail
                refine (CR _ (HT.out.below BW.out)).mono ?_; rintro e w3 ⟨rfl, b3⟩
                have B3 := Lib.hid (grow B.out b3)
                clear c0 c1 c2 c3 c4 b3 CR B BW
                go_wp2
                go_roundg i
                case rel => exact ⟨i, K, rfl, by go_num, rfl, Lib.hid (by rw [HKK.out, HX.out]), B3, by omega⟩
                case measure => omega
              · have HX := Lib.hid (okn_yes hn hr)
                have HW := Lib.hid (fun p h => last_here (p := p) hn hr h)
                rw [hr] at CR
                clear hat hn hr
                unfold ntv at CR
                have hkb : K ≤ 200 ∧ -300 ≤ K := by have := HKK.out; rw [HX.out, List.length_append] at this; simp at this; omega
                obtain ⟨hkb1, hkb2⟩ := hkb
                have HK1 := Lib.hid (show K - 1 = ((okn ns i).length : Int) - 1 - q by have := HKK.out; rw [HX.out, List.length_append] at this; simp at this; omega)
                clear hol
                by_cases hK : 0 ≤ K
                · obtain ⟨p, rfl⟩ : ∃ p : Nat, K = p := ⟨K.toNat, by omega⟩
                  have HP := Lib.hid (HW.out p (by rw [← HN.out, ← HL.out, ← HQ.out]; have := HK1.out; omega))
                  have hpA := (List.getElem?_eq_some_iff.1 HP.out).1
                  rw [← HN.out, ← HL.out, ← HA.out] at hpA
                  have hpA' := Int.ofNat_lt.2 hpA
                  have hp32 : (p : Int) < 32 := by omega
                  go_wp2_with fail
                  refine (CR _ (HT.out.below BW.out)).mono ?_; rintro e w3 ⟨rfl, b3⟩
                  have B3 := Lib.hid (grow B.out b3)
                  have BW3 := Lib.hid (grow BW.out b3)
                  clear c0 c1 c2 c3 c4 b3 CR B BW HW
                  obtain ⟨c0, c1, c2, c3, c4⟩ := F.out.on BW3.out
                  obtain ⟨b', off', rfl, hat'⟩ := (N2.out.on B3.out).at (by rw [← HA.out]; omega)
                  obtain ⟨p0, p1, p2, p3, p4⟩ := hat' p n (by rw [HL.out, HN.out]; exact HP.out)
                  clear hat'
                  go_wp2_with fail
                  go_quiet (fail)
                  go_wp2
                  go_roundg i
                  case rel => exact ⟨i, _, rfl, by go_num, rfl, HK1, Lib.hid (below_drewN B3.out _), by omega⟩
                  case measure => omega
                · have dk : decide (0 ≤ K) = false := by simpa using hK
                  go_wp2_with fail
                  refine (CR _ (HT.out.below BW.out)).mono ?_; rintro e w3 ⟨rfl, b3⟩
                  have B3 := Lib.hid (grow B.out b3)
                  clear c0 c1 c2 c3 c4 b3 CR B BW HW
                  go_wp2_with fail
                  go_quiet (fail)
                  go_wp2
                  go_roundg i
                  case rel => exact ⟨i, _, rfl, by go_num, rfl, HK1, Lib.hid (below_drewN B3.out _), by omega⟩
                  case measure => omega
end ringLast
end Go.Proofs.YtmfpoakefpephaaDoor
