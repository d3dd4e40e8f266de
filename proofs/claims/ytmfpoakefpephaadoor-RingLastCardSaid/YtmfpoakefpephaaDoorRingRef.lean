/-
  What Lost, All and Same of rudderref17 tell: contracts by walking the Go text. Conditions: how the notes lie.
-/
import Derived.Test.YtmfpoakefpephaaDoorRingAll
namespace Go.Proofs.YtmfpoakefpephaaDoor
open Go.ChangeShapes Go.WideShapes Go.ChangeAt Go.RowKit Go.Deep
namespace Rg
open Fx

theorem rlost_any (a : Option Addr) (m cap : Nat) (w : World) (hm : m < 1099511627776) :
    Calls Tryd.prog 13 #[.slice a m cap] w fun e w' => e = .returned (.int .i64 ((m - 32 : Nat) : Int)) ∧ w = w' := by
  have HM := Lib.hid (show max 0 ((m : Int) - 32) = ((m - 32 : Nat) : Int) by omega)
  generalize m - 32 = q at *
  go_enter Tryd.func13, Tryd.ntmps13
  go_wp2
  go_ret
  exact ⟨ret_int HM.out, rfl⟩

set_option maxHeartbeats 800000 in
theorem rall_any (a : Option Addr) (l : List Nt) (cap : Nat) (w : World) (hl : l.length < 1099511627776) (hc : l.length ≤ cap) (hz : a = none → l = []) (hN : NotesAt w a l) :
    Calls Tryd.prog 11 #[.slice a l.length cap] w fun e w' => (∃ a' cap', e = .returned (.slice a' (lasts l).length cap') ∧ NotesAt w a' (lasts l)) ∧ w = w' := by
  have CL := fun W => rlost_any a l.length cap W hl
  have HN := Lib.hid hN
  have HL := Lib.hid (show (lasts l).length = l.length - (l.length - 32) by unfold lasts lost; rw [List.length_drop])
  have HA := Lib.hid (show lasts l = l.drop (l.length - 32) from rfl)
  clear hN
  by_cases h32 : l.length ≤ 32
  · rw [show l.length - 32 = 0 by omega] at *
    generalize l.length = m at *
    go_enter Tryd.func11, Tryd.ntmps11
    go_wp2_with (go_at_call 13; refine (CL _).mono ?_; rintro e w' ⟨rfl, rfl⟩)
    go_ret
    exact ⟨⟨a, cap, by rw [HL.out, Nat.sub_zero]; rfl, by rw [HA.out, List.drop_zero]; exact HN.out⟩, rfl⟩
  · have h1 : l.length - 32 < cap := by omega
    have h2 : l.length - 32 ≤ l.length := by omega
    have h3 : ¬ cap = l.length - 32 := by omega
    generalize l.length - 32 = q at *
    generalize l.length = m at *
    go_enter Tryd.func11, Tryd.ntmps11
    go_wp2_with (go_at_call 13; refine (CL _).mono ?_; rintro e w' ⟨rfl, rfl⟩)
    go_ret
    refine ⟨⟨_, cap - q, by rw [HL.out]; rfl, ?_⟩, rfl⟩
    rw [HA.out]
    rcases a with _ | ⟨b, off, sp⟩
    · have := hz rfl
      subst this
      exact Or.inl (by simp [flat])
    · rcases HN.out with h0 | ⟨b', off', he, hcell⟩
      · exact Or.inl (by rw [flat_drop, h0]; simp)
      · cases he
        rw [Option.map_some, add_plain]
        exact NotesAt.drop HN.out q

/-- The first place at which two notes differ. -/
theorem nt_ways {n m : Nt} (h : n ≠ m) : (n.y == m.y) = false ∨ (n.y = m.y ∧ (n.c == m.c) = false) ∨ (n.y = m.y ∧ n.c = m.c ∧ (n.s == m.s) = false) ∨ (n.y = m.y ∧ n.c = m.c ∧ n.s = m.s ∧ (n.k == m.k) = false) ∨ (n.y = m.y ∧ n.c = m.c ∧ n.s = m.s ∧ n.k = m.k ∧ (n.t == m.t) = false) := by
  obtain ⟨y, c, s, k, t⟩ := n
  obtain ⟨y', c', s', k', t'⟩ := m
  simp only [ne_eq, Nt.mk.injEq] at h
  simp only [beq_eq_false_iff_ne]
  by_cases h0 : y = y'
  · by_cases h1 : c = c'
    · by_cases h2 : s = s'
      · by_cases h3 : k = k'
        · exact Or.inr (Or.inr (Or.inr (Or.inr ⟨h0, h1, h2, h3, fun h4 => h ⟨h0, h1, h2, h3, h4⟩⟩)))
        · exact Or.inr (Or.inr (Or.inr (Or.inl ⟨h0, h1, h2, h3⟩)))
      · exact Or.inr (Or.inr (Or.inl ⟨h0, h1, h2⟩))
    · exact Or.inr (Or.inl ⟨h0, h1⟩)
  · exact Or.inl h0
set_option maxHeartbeats 800000 in
theorem rsame_any (a1 a2 : Option Addr) (x y : List Nt) (c1 c2 : Nat) (w : World) (hx : NotesAt w a1 x) (hy : NotesAt w a2 y) (hl : x.length < 1099511627776) :
    Calls Tryd.prog 9 #[.slice a1 x.length c1, .slice a2 y.length c2] w fun e w' => (∃ r, e = .returned (.bool r) ∧ (r = true ↔ x = y)) ∧ Below w.heap.size w w' := by
  by_cases hlen : x.length = y.length
  · have HX := Lib.hid hx
    have HY := Lib.hid hy
    rw [← hlen]
    have HE := Lib.hid hlen
    obtain ⟨m, hm⟩ : ∃ m, m = x.length := ⟨_, rfl⟩
    rw [← hm] at hl ⊢
    have HM := Lib.hid hm
    clear hx hy hlen hm
    go_enter Tryd.func9, Tryd.ntmps9
    go_wp2
    go_loopg [5] m (fun gg s5 wr => ∃ k : Nat, k + gg = m ∧ s5 = .int .i64 k ∧ Hid (x.take k = y.take k) ∧ Hid (Below w.heap.size w wr))
    case atStart => exact ⟨0, by omega, rfl, Lib.hid (by simp), Lib.hid (Below.refl _ _)⟩
    case round =>
      obtain ⟨k, hk, rfl, T, B⟩ := hrel
      by_cases hlt : k < m
      · have hli : (k : Int) < m := by omega
        obtain ⟨b1, o1, rfl, hat1⟩ := NotesAt.at (HX.out.on B.out) (by have := HM.out; omega)
        obtain ⟨b2, o2, rfl, hat2⟩ := NotesAt.at (HY.out.on B.out) (by have := HM.out; have := HE.out; omega)
        obtain ⟨n1, e1⟩ : ∃ n, x[k]? = some n := ⟨_, List.getElem?_eq_getElem (by have := HM.out; omega)⟩
        obtain ⟨n2, e2⟩ : ∃ n, y[k]? = some n := ⟨_, List.getElem?_eq_getElem (by have := HM.out; have := HE.out; omega)⟩
        obtain ⟨p0, p1, p2, p3, p4⟩ := hat1 k n1 e1
        obtain ⟨q0, q1, q2, q3, q4⟩ := hat2 k n2 e2
        clear hat1 hat2
        by_cases hn : n1 = n2
        · have HT := Lib.hid (show x.take (k + 1) = y.take (k + 1) by rw [List.take_add_one, List.take_add_one, e1, e2, T.out, hn])
          subst hn
          clear e1 e2
          go_wp2_with fail
          go_quiet (fail)
          go_wp2
          go_roundg (gk - 1)
          case rel => exact ⟨k + 1, by omega, by go_num, HT, Lib.hid (below_drewN B.out _)⟩
          case measure => omega
        · have HD := Lib.hid (show ¬ x = y from fun e => hn (by rw [e, e2] at e1; exact (Option.some.inj e1).symm))
          have hw := nt_ways hn
          obtain ⟨y1, s1, t1, u1, v1⟩ := n1
          obtain ⟨y2, s2, t2, u2, v2⟩ := n2
          clear e1 e2 hn
          dsimp only at *
          rcases hw with d | ⟨rfl, d⟩ | ⟨rfl, rfl, d⟩ | ⟨rfl, rfl, rfl, d⟩ | ⟨rfl, rfl, rfl, rfl, d⟩
          all_goals
            go_wp2_with fail
            go_quiet (fail)
            go_wp2
            go_ret
            exact ⟨⟨false, rfl, by simpa using HD.out⟩, below_drewN B.out _⟩
      · obtain rfl : k = m := by omega
        have HD := Lib.hid (show x = y by
          have := T.out
          rwa [HM.out, List.take_length, HE.out, List.take_length] at this)
        go_wp2
        go_ret
        exact ⟨⟨true, rfl, by simpa using HD.out⟩, B.out⟩
  · have HD := Lib.hid (show ¬ x = y from fun e => hlen (by rw [e]))
    have d : ((x.length : Int) == (y.length : Int)) = false := by simp; omega
    generalize x.length = m at *
    generalize y.length = n at *
    clear hlen hx hy
    go_enter Tryd.func9, Tryd.ntmps9
    go_wp2
    go_ret
    exact ⟨⟨false, rfl, by simpa using HD.out⟩, Below.refl _ _⟩
theorem rsame_self (a1 a2 : Option Addr) (x : List Nt) (c1 c2 : Nat) (w : World) (hx : NotesAt w a1 x) (hy : NotesAt w a2 x) (hl : x.length < 1099511627776) :
    Calls Tryd.prog 9 #[.slice a1 x.length c1, .slice a2 x.length c2] w fun e w' => e = .returned (.bool true) ∧ Below w.heap.size w w' := by
  refine (rsame_any a1 a2 x x c1 c2 w hx hy hl).mono ?_
  rintro e w' ⟨⟨r, rfl, h⟩, b⟩
  exact ⟨by rw [h.2 rfl], b⟩
end Rg
end Go.Proofs.YtmfpoakefpephaaDoor
