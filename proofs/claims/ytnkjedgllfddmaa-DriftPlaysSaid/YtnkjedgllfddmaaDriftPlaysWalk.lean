/-
  The walk of the law DriftPlays: for all numbers and differences it returns true, and writes nothing that was there. Its conditions: how the differences lie.
-/
import Derived.Test.YtnkjedgllfddmaaDriftAlive
import Derived.Test.YtnkjedgllfddmaaDriftRef
import Derived.Test.YtnkjedgllfddmaaMany
import Derived.Deep.LoopGhost
namespace Go.Proofs.Ytnkjedgllfddmaa
open Go.ChangeShapes Go.WideShapes Go.ChangeAt Go.RowKit Go.Deep
namespace Dr
/-- What the law asks of Come's answer. -/
theorem asked (lag bound level d : Int) : co lag bound level d = (decide (ce d = 0) && (decide (bound < nx lag level d) || decide (nx lag level d < -bound))) := by
  cases hd : dif d
  · rw [co_no hd, ce_no hd]; rfl
  · rw [co_yes hd, ce_yes hd]; rfl
theorem ce_two (d : Int) : ce d = 0 ∨ ce d = 1 := by unfold ce; split <;> simp
end Dr
namespace driftPlays
open Dr Mn Kp
set_option maxRecDepth 100000 in
set_option maxHeartbeats 6400000 in
theorem walk (lag bound : Int) (a : Option Addr) (cap : Nat) (ls : List (List Value)) (w : World) (_w0 : (Lit.int .i64 lag).wf = true) (_w1 : (Lit.int .i64 bound).wf = true) (hm : ls.length ≤ cap) (hb : ManyAt w a [.bool, .int .i64] ls) :
    Calls Try.prog 3 #[.int .i64 lag, .int .i64 bound, .slice a ls.length cap] w fun e w' => e = .returned (.bool true) ∧ Below w.heap.size w w' := by
  have AL := fun W => alive_any W
  clear _w0 _w1
  by_cases hlen : 200 < ls.length
  · have d : decide (200 < (ls.length : Int)) = true := by simp; omega
    clear hb hlen
    generalize ls.length = m at *
    go_enter Try.func3, Try.ntmps3
    go_wp2_with fail
    refine (AL _).mono ?_; rintro e w2 ⟨rfl, b2⟩
    go_wp2
    go_ret
    exact ⟨rfl, b2⟩
  · have d : decide (200 < (ls.length : Int)) = false := by simp; omega
    have h200 : ls.length ≤ 200 := by omega
    have HS := Lib.hid hb
    clear hb hlen
    generalize hn : ls.length = m at *
    have HN := Lib.hid hn
    clear hn
    cases hmay : may lag bound
    · have CN := fun W => new_no lag bound W hmay
      have CM := fun W => rmay_any lag bound W
      rw [hmay] at CM
      clear hmay
      go_enter Try.func3, Try.ntmps3
      go_wp2_with fail
      refine (CN _).mono ?_; rintro e w1 ⟨rfl, rfl⟩
      go_wp2_with fail
      refine (CM _).mono ?_; rintro e w2 ⟨rfl, rfl⟩
      go_wp2_with fail
      refine (AL _).mono ?_; rintro e w3 ⟨rfl, b3⟩
      go_wp2
      go_ret
      exact ⟨rfl, b3⟩
    · have CN := fun W => new_yes lag bound W hmay
      have CM := fun W => rmay_any lag bound W
      have HM := Lib.hid hmay
      rw [hmay] at CM
      obtain ⟨m1, m2, m3, m4⟩ := (may_iff _ _).1 hmay
      clear hmay
      go_enter Try.func3, Try.ntmps3
      go_wp2_with fail
      refine (CN _).mono ?_; rintro e w1 ⟨rfl, hw1⟩
      have K1 := Lib.hid (hw1 ▸ kept_new w w (fil lag bound 0) 43 (Below.refl _ _))
      clear hw1 CN
      generalize w.heap.size = g at K1 ⊢
      go_wp2_with fail
      refine (CM _).mono ?_; rintro e w2 ⟨rfl, rfl⟩
      clear CM
      go_wp2_with fail
      go_loopg [10, 11] m (fun gg s10 s11 wr => ∃ (k : Nat) (level : Int), k + gg = m ∧ s10 = .int .i64 level ∧ s11 = .int .i64 k ∧ -4294967296 ≤ level ∧ level ≤ 4294967296 ∧ Hid (Kept w wr g 43 (fil lag bound level)))
      case atStart => exact ⟨0, 0, by omega, rfl, rfl, by decide, by decide, K1⟩
      case round =>
        obtain ⟨k, level, hk, rfl, rfl, l0, l1, K⟩ := hrel
        clear K1
        by_cases hlt : k < m
        · have hli : (k : Int) < m := by omega
          obtain ⟨b, off, rfl, hat⟩ := HS.out.some (by have := HN.out; omega)
          have hlt' : k < ls.length := by have := HN.out; omega
          obtain ⟨r, hr⟩ : ∃ r, ls[k]? = some r := ⟨_, List.getElem?_eq_getElem hlt'⟩
          have hok := (show RowOk w b (off + k * 2) [.bool, .int .i64] r from hat k r hr)
          obtain ⟨_, _, _, e0, e1, ⟨is, rfl⟩, n, rfl, _⟩ := hok.two
          have E1 := Lib.hid e1
          have c0 := (K.out.below.cell (p := ⟨b, off + k * 2, none⟩) (cell_lt e0)).trans e0
          have c1 := (K.out.below.cell (p := ⟨b, off + k * 2 + 1, none⟩) (cell_lt e1)).trans e1
          clear hat hr hok e0 e1 hlt'
          cases is
          · have CC := fun W h => come_any g lag bound level n W h ⟨l0, l1⟩ HM.out
            have RC := fun W => rcome_any lag level n W ⟨l0, l1⟩ m1 m2
            have NL := nx_level (lag := lag) (d := n) ⟨l0, l1⟩ m1 m2
            have HA := Lib.hid (asked lag bound level n)
            have HC := ce_two n
            generalize co lag bound level n = X at *
            generalize ce n = Y at *
            generalize nx lag level n = L at *
            clear l0 l1
            go_wp2_with fail
            refine (CC _ K.out.row).mono ?_; rintro e w1 ⟨rfl, t1, o1⟩
            have K2 := Lib.hid (K.out.take o1 t1)
            have c1' := (K2.out.below.cell (p := ⟨b, off + k * 2 + 1, none⟩) (cell_lt E1.out)).trans E1.out
            clear CC c0 c1 o1 t1 K
            go_wp2_with fail
            refine (RC _).mono ?_; rintro e w2 ⟨rfl, b2⟩
            have K3 := Lib.hid (K2.out.on b2)
            clear RC c1' K2 b2
            have CL := fun W h => level_any g lag bound L W h
            rcases HC with rfl | rfl
            · cases q1 : decide (bound < L)
              · cases q2 : decide (L < -bound)
                · obtain rfl : X = false := by rw [HA.out, q1, q2]; rfl
                  go_wp2_with fail
                  refine (CL _ K3.out.row).mono ?_; rintro e w4 ⟨rfl, rfl⟩
                  go_wp2
                  go_roundg (gk - 1)
                  case rel => exact ⟨k + 1, L, by omega, rfl, by go_num, NL.1, NL.2, K3⟩
                  case measure => omega
                · obtain rfl : X = true := by rw [HA.out, q1, q2]; rfl
                  go_wp2_with fail
                  refine (CL _ K3.out.row).mono ?_; rintro e w4 ⟨rfl, rfl⟩
                  go_wp2
                  go_roundg (gk - 1)
                  case rel => exact ⟨k + 1, L, by omega, rfl, by go_num, NL.1, NL.2, K3⟩
                  case measure => omega
              · obtain rfl : X = true := by rw [HA.out, q1]; rfl
                go_wp2_with fail
                refine (CL _ K3.out.row).mono ?_; rintro e w4 ⟨rfl, rfl⟩
                go_wp2
                go_roundg (gk - 1)
                case rel => exact ⟨k + 1, L, by omega, rfl, by go_num, NL.1, NL.2, K3⟩
                case measure => omega
            · obtain rfl : X = false := by rw [HA.out]; rfl
              go_wp2_with fail
              refine (CL _ K3.out.row).mono ?_; rintro e w4 ⟨rfl, rfl⟩
              go_wp2
              go_roundg (gk - 1)
              case rel => exact ⟨k + 1, L, by omega, rfl, by go_num, NL.1, NL.2, K3⟩
              case measure => omega
          · have CC := fun W h => clear_any g lag bound level W h
            have CL := fun W h => level_any g lag bound 0 W h
            clear c1
            go_wp2_with fail
            refine (CC _ K.out.row).mono ?_; rintro e w1 ⟨rfl, t1, o1⟩
            have K2 := Lib.hid (K.out.take o1 t1)
            clear CC c0 o1 t1 K
            go_wp2_with fail
            refine (CL _ K2.out.row).mono ?_; rintro e w4 ⟨rfl, rfl⟩
            go_wp2
            go_roundg (gk - 1)
            case rel => exact ⟨k + 1, 0, by omega, rfl, by go_num, by decide, by decide, K2⟩
            case measure => omega
        · obtain rfl : k = m := by omega
          have CM := fun W => clear_nil W
          have CC := fun W => come_nil 0 W
          have CL := fun W => level_nil W
          have BB := Lib.hid K.out.below
          clear K HS
          go_wp2_with fail
          refine (CM _).mono ?_; rintro e w1 ⟨rfl, rfl⟩
          go_wp2_with fail
          refine (CC _).mono ?_; rintro e w1 ⟨rfl, rfl⟩
          go_wp2_with fail
          refine (AL _).mono ?_; rintro e w2 ⟨rfl, b2⟩
          go_wp2_with fail
          refine (CL _).mono ?_; rintro e w1 ⟨rfl, rfl⟩
          go_wp2
          go_ret
          exact ⟨rfl, grow BB.out b2⟩
end driftPlays
end Go.Proofs.Ytnkjedgllfddmaa
