/-
  The walk of the law EqualWithin: for all numbers, values and votes it returns true, and writes nothing that was there. Its conditions: how the values and votes lie.
-/
import Derived.Test.YtblhjjfnneihiaaEqualAlive
import Derived.Test.YtblhjjfnneihiaaMany
import Derived.Deep.LoopGhost
import Derived.Lib.MinMax
namespace Go.Proofs.Ytblhjjfnneihiaa
open Go.ChangeShapes Go.WideShapes Go.ChangeAt Go.RowKit Go.Deep
namespace Ql
/-- How the law's second question goes. -/
theorem goes {auth x lo hi : Int} (h : x = auth ∨ x = -auth ∨ (lo ≤ x ∧ x ≤ hi)) (hl : lo ≤ hi) :
    (decide (x < lo) = false ∧ decide (hi < x) = false) ∨ (decide (x < lo) = true ∧ decide (hi < x) = false ∧ (x != -auth) = false) ∨ (decide (x < lo) = true ∧ decide (hi < x) = false ∧ (x != -auth) = true ∧ (x != auth) = false) ∨
    (decide (x < lo) = false ∧ decide (hi < x) = true ∧ (x != auth) = false) ∨ (decide (x < lo) = false ∧ decide (hi < x) = true ∧ (x != auth) = true ∧ (x != -auth) = false) := by
  simp only [decide_eq_false_iff_not, decide_eq_true_eq, bne_eq_false_iff_eq, bne_iff_ne, ne_eq]
  by_cases a1 : x < lo
  · by_cases a2 : x = -auth
    · exact Or.inr (Or.inl ⟨a1, by omega, a2⟩)
    · exact Or.inr (Or.inr (Or.inl ⟨a1, by omega, a2, by omega⟩))
  · by_cases a3 : hi < x
    · by_cases a2 : x = auth
      · exact Or.inr (Or.inr (Or.inr (Or.inl ⟨a1, a3, a2⟩)))
      · exact Or.inr (Or.inr (Or.inr (Or.inr ⟨a1, a3, a2, by omega⟩)))
    · exact Or.inl ⟨a1, a3⟩
end Ql
namespace equalWithin
open Ql Mn Kp
set_option maxRecDepth 100000 in
set_option maxHeartbeats 6400000 in
theorem walk (auth gain : Int) (a : Option Addr) (cap : Nat) (ls : List (List Value)) (w : World) (w0 : (Lit.int .u16 auth).wf = true) (w1 : (Lit.int .u8 gain).wf = true) (hm : ls.length ≤ cap) (hb : ManyAt w a [.int .i64, .int .i64] ls) :
    Calls Try.prog 4 #[.int .u16 auth, .int .u8 gain, .slice a ls.length cap] w fun e w' => e = .returned (.bool true) ∧ Below w.heap.size w w' := by
  have AL := fun W => alive_any W
  obtain ⟨a0, a1⟩ := u16_in w0
  obtain ⟨g0, g1⟩ := u8_in w1
  clear w0 w1
  by_cases hlen : 200 < ls.length
  · have d : decide (200 < (ls.length : Int)) = true := by simp; omega
    clear hb hlen
    generalize ls.length = m at *
    go_enter Try.func4, Try.ntmps4
    go_wp2_with fail
    refine (AL _).mono ?_; rintro e w2 ⟨rfl, b2⟩
    go_wp2
    go_ret
    exact ⟨rfl, b2⟩
  · have d : decide (200 < (ls.length : Int)) = false := by simp; omega
    have h200 : ls.length ≤ 200 := by omega
    have HS := Lib.hid hb
    clear hb hlen
    generalize hn : ls.length = m at *
    have HN := Lib.hid hn
    clear hn
    have hmay : may auth (gain % 9) = true := (may_iff _ _).2 ⟨a0, by omega, by omega, by omega⟩
    have CN := fun W => new_yes auth (gain % 9) W hmay
    have HM := Lib.hid hmay
    clear hmay
    go_enter Try.func4, Try.ntmps4
    go_wp2_with fail
    refine (CN _).mono ?_; rintro e w1 ⟨g, rfl, k1⟩
    have K1 := Lib.hid k1
    clear k1 CN
    go_wp2_with fail
    go_loopg [10] m (fun gg s10 wr => ∃ (k : Nat) (o : Int), k + gg = m ∧ s10 = .int .i64 k ∧ -auth ≤ o ∧ o ≤ auth ∧ Hid (Kept w wr g 42 (tri auth (gain % 9) o)))
    case atStart => exact ⟨0, 0, by omega, rfl, by omega, by omega, K1⟩
    case round =>
      obtain ⟨k, o, hk, rfl, l0, l1, K⟩ := hrel
      clear K1
      by_cases hlt : k < m
      · have hli : (k : Int) < m := by omega
        obtain ⟨b, off, rfl, hat⟩ := HS.out.some (by have := HN.out; omega)
        have hlt' : k < ls.length := by have := HN.out; omega
        obtain ⟨r, hr⟩ : ∃ r, ls[k]? = some r := ⟨_, List.getElem?_eq_getElem hlt'⟩
        have hok := (show RowOk w b (off + k * 2) [.int .i64, .int .i64] r from hat k r hr)
        obtain ⟨_, _, _, e0, e1, ⟨n, rfl, _⟩, v, rfl, _⟩ := hok.two
        have E0 := Lib.hid e0
        have E1 := Lib.hid e1
        have c0 := (K.out.below.cell (p := ⟨b, off + k * 2, none⟩) (cell_lt e0)).trans e0
        have c1 := (K.out.below.cell (p := ⟨b, off + k * 2 + 1, none⟩) (cell_lt e1)).trans e1
        clear hat hr hok e0 e1 hlt' HS HN
        have CO := fun W h => offset_any g auth (gain % 9) o W h
        have CL := fun W h => learn_any g auth (gain % 9) o n v W h HM.out ⟨l0, l1⟩
        have NB := nx_bd (gain % 9) n v a0 ⟨l0, l1⟩
        cases hbo : both n v
        · rw [ce_no hbo, nx_no hbo] at CL
          clear hbo NB HM
          go_wp2_with fail
          refine (CO _ K.out.row).mono ?_; rintro e w2 ⟨rfl, rfl⟩
          clear CO
          go_wp2_with fail
          refine Tail.wp_region_quiet_tail 11 (by kernel_rfl) (by kernel_rfl) ?_
          simp only [List.take_succ_cons, List.take_zero, List.drop_succ_cons, List.drop_zero]
          repeat (go_big_quiet_step (fail))
          refine wpQuiet_nil ?_
          clear c0 c1
          go_wp2_with (go_at_call 8; refine (CL _ K.out.row.drew).mono ?_; rintro e w2 ⟨rfl, t2, o2⟩; have K2 := Lib.hid ((K.out.drewN 1).take o2 t2); clear t2 o2 K CL)
          go_roundg (gk - 1)
          case rel => exact ⟨k + 1, o, by omega, by go_num, l0, l1, K2⟩
          case measure => omega
        · rw [ce_yes hbo] at CL
          obtain ⟨v1, v2⟩ := (both_iff _ _).1 hbo
          have hv1 := (Jp.val_iff _).1 v1
          have hv2 := (Jp.val_iff _).1 v2
          have BT := Lib.hid (nx_between (auth := auth) (gain := gain % 9) (offset := o) (n := n) (vote := v) ⟨by omega, by omega⟩ ⟨by omega, by omega⟩ hbo)
          have BZ := Lib.hid (show gain % 9 = 0 → nx auth (gain % 9) o n v = max (-auth) (min auth (n - v)) from fun h => by rw [h]; exact nx_zero a0 ⟨by omega, by omega⟩ hbo)
          generalize nx auth (gain % 9) o n v = x at *
          have CE := fun W h => even_is g auth (gain % 9) x n W (n - x) 0 (ev_yes v1) (ee_yes v1) (by omega) h
          have CO2 := fun W h => offset_any g auth (gain % 9) x W h
          have NB' := Lib.hid NB
          have n1 : -9223372036854775808 ≤ n - x := by omega
          have n2 : n - x ≤ 9223372036854775807 := by omega
          have n3 : -9223372036854775808 ≤ n - v := by omega
          have n4 : n - v ≤ 9223372036854775807 := by omega
          have n5 : -9223372036854775808 ≤ n + auth := by omega
          have n6 : n + auth ≤ 9223372036854775807 := by omega
          have n7 : -9223372036854775808 ≤ n - auth := by omega
          have n8 : n - auth ≤ 9223372036854775807 := by omega
          have f1 : decide (auth < x) = false := by simp; omega
          have f2 : decide (x < -auth) = false := by simp; omega
          have f3 : decide (n + auth < n - x) = false := by simp; omega
          have f4 : decide (n - x < n - auth) = false := by simp; omega
          clear hbo v1 v2 hv1 hv2 HM NB
          go_wp2_with fail
          refine (CO _ K.out.row).mono ?_; rintro e w2 ⟨rfl, rfl⟩
          clear CO
          go_wp2_with fail
          refine Tail.wp_region_quiet_tail 11 (by kernel_rfl) (by kernel_rfl) ?_
          simp only [List.take_succ_cons, List.take_zero, List.drop_succ_cons, List.drop_zero]
          repeat (go_big_quiet_step (fail))
          refine wpQuiet_nil ?_
          clear c0 c1
          go_wp2_with (go_at_call 8; refine (CL _ K.out.row.drew).mono ?_; rintro e w2 ⟨rfl, t2, o2⟩; have K2 := Lib.hid ((K.out.drewN 1).take o2 t2); clear t2 o2 K CL)
          refine (CO2 _ K2.out.row).mono ?_; rintro e w3 ⟨rfl, rfl⟩
          clear CO2
          have c0 := (K2.out.below.cell (p := ⟨b, off + k * 2, none⟩) (cell_lt E0.out)).trans E0.out
          go_wp2_with fail
          refine (CE _ K2.out.row).mono ?_; rintro e w4 ⟨rfl, b4⟩
          have K4 := Lib.hid (K2.out.on b4)
          clear CE K2 c0 b4
          have c0 := (K4.out.below.cell (p := ⟨b, off + k * 2, none⟩) (cell_lt E0.out)).trans E0.out
          have c1 := (K4.out.below.cell (p := ⟨b, off + k * 2 + 1, none⟩) (cell_lt E1.out)).trans E1.out
          go_wp2_with fail
          go_quiet (fail)
          clear c0 c1 f1 f2 f3 f4
          have K5 := Lib.hid (K4.out.drewN nq)
          clear K4
          have WY := Ql.goes BT.out (by omega)
          have f7 : gain % 9 = 0 → (x != max (-auth) (min auth (n - v))) = false := fun h => by simpa using BZ.out h
          clear BT BZ AL l0 l1
          rcases WY with ⟨d1, d2⟩ | ⟨d1, d2, d3⟩ | ⟨d1, d2, d3, d4⟩ | ⟨d1, d2, d3⟩ | ⟨d1, d2, d3, d4⟩
          all_goals
            cases z : (gain % 9 == 0)
            · clear f7
              go_wp2_with fail
              go_roundg (gk - 1)
              case rel => exact ⟨k + 1, x, by omega, by go_num, NB'.out.1, NB'.out.2, K5⟩
              case measure => omega
            · have f8 := f7 (by simpa using z)
              clear f7
              go_wp2_with fail
              go_roundg (gk - 1)
              case rel => exact ⟨k + 1, x, by omega, by go_num, NB'.out.1, NB'.out.2, K5⟩
              case measure => omega
      · obtain rfl : k = m := by omega
        have BB := Lib.hid K.out.below
        clear K HS
        go_wp2_with fail
        refine (AL _).mono ?_; rintro e w2 ⟨rfl, b2⟩
        go_wp2
        go_ret
        exact ⟨rfl, grow BB.out b2⟩
end equalWithin
end Go.Proofs.Ytblhjjfnneihiaa
