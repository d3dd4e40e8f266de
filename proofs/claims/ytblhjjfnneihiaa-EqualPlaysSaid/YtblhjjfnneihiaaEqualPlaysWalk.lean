/-
  The walk of the law EqualPlays: for all numbers, values and votes it returns true, and writes nothing that was there. Its conditions: how the values and votes lie.
-/
import Derived.Test.YtblhjjfnneihiaaEqualAlive
import Derived.Test.YtblhjjfnneihiaaEqualRef
import Derived.Test.YtblhjjfnneihiaaMany
import Derived.Deep.LoopGhost
namespace Go.Proofs.Ytblhjjfnneihiaa
open Go.ChangeShapes Go.WideShapes Go.ChangeAt Go.RowKit Go.Deep
namespace equalPlays
open Ql Mn Kp
set_option maxRecDepth 100000 in
set_option maxHeartbeats 6400000 in
theorem walk (auth gain : Int) (a : Option Addr) (cap : Nat) (ls : List (List Value)) (w : World) (_w0 : (Lit.int .i64 auth).wf = true) (_w1 : (Lit.int .i64 gain).wf = true) (hm : ls.length ≤ cap) (hb : ManyAt w a [.int .i64, .int .i64] ls) :
    Calls Try.prog 3 #[.int .i64 auth, .int .i64 gain, .slice a ls.length cap] w fun e w' => e = .returned (.bool true) ∧ Below w.heap.size w w' := by
  have AL := fun W => alive_any W
  clear _w0 _w1
  by_cases hlen : 200 < ls.length
  · have d : decide (200 < (ls.length : Int)) = true := by simp; omega
    clear hb hlen
    generalize ls.length = m at *
    go_enter Try.func3, Try.ntmps3
    go_wp2_with fail
    refine (AL _).mono ?_; rintro e w2 ⟨rfl, b2⟩
    go_wp2
    go_ret
    exact ⟨rfl, b2⟩
  · have d : decide (200 < (ls.length : Int)) = false := by simp; omega
    have h200 : ls.length ≤ 200 := by omega
    have HS := Lib.hid hb
    clear hb hlen
    generalize hn : ls.length = m at *
    have HN := Lib.hid hn
    clear hn
    cases hmay : may auth gain
    · have CN := fun W => new_no auth gain W hmay
      have CM := fun W => rmay_any auth gain W
      rw [hmay] at CM
      clear hmay
      go_enter Try.func3, Try.ntmps3
      go_wp2_with fail
      refine (CN _).mono ?_; rintro e w1 ⟨rfl, b1⟩
      go_wp2_with fail
      refine (CM _).mono ?_; rintro e w2 ⟨rfl, rfl⟩
      go_wp2_with fail
      refine (AL _).mono ?_; rintro e w3 ⟨rfl, b3⟩
      go_wp2
      go_ret
      exact ⟨rfl, grow b1 b3⟩
    · have CN := fun W => new_yes auth gain W hmay
      have CM := fun W => rmay_any auth gain W
      have HM := Lib.hid hmay
      rw [hmay] at CM
      obtain ⟨m1, m2, m3, m4⟩ := (may_iff _ _).1 hmay
      clear hmay
      go_enter Try.func3, Try.ntmps3
      go_wp2_with fail
      refine (CN _).mono ?_; rintro e w1 ⟨g, rfl, k1⟩
      have K1 := Lib.hid k1
      clear k1 CN
      go_wp2_with fail
      refine (CM _).mono ?_; rintro e w2 ⟨rfl, rfl⟩
      clear CM
      go_wp2_with fail
      go_loopg [10, 11] m (fun gg s10 s11 wr => ∃ (k : Nat) (o : Int), k + gg = m ∧ s10 = .int .i64 o ∧ s11 = .int .i64 k ∧ -auth ≤ o ∧ o ≤ auth ∧ Hid (Kept w wr g 42 (tri auth gain o)))
      case atStart => exact ⟨0, 0, by omega, rfl, rfl, by omega, by omega, K1⟩
      case round =>
        obtain ⟨k, o, hk, rfl, rfl, l0, l1, K⟩ := hrel
        clear K1
        by_cases hlt : k < m
        · have hli : (k : Int) < m := by omega
          obtain ⟨b, off, rfl, hat⟩ := HS.out.some (by have := HN.out; omega)
          have hlt' : k < ls.length := by have := HN.out; omega
          obtain ⟨r, hr⟩ : ∃ r, ls[k]? = some r := ⟨_, List.getElem?_eq_getElem hlt'⟩
          have hok := (show RowOk w b (off + k * 2) [.int .i64, .int .i64] r from hat k r hr)
          obtain ⟨_, _, _, e0, e1, ⟨n, rfl, _⟩, v, rfl, _⟩ := hok.two
          have E0 := Lib.hid e0
          have E1 := Lib.hid e1
          have c0 := (K.out.below.cell (p := ⟨b, off + k * 2, none⟩) (cell_lt e0)).trans e0
          have c1 := (K.out.below.cell (p := ⟨b, off + k * 2 + 1, none⟩) (cell_lt e1)).trans e1
          clear hat hr hok e0 e1 hlt'
          have CL := fun W h => learn_any g auth gain o n v W h HM.out ⟨l0, l1⟩
          have RL := fun W => rlearn_any auth gain o n v W HM.out ⟨l0, l1⟩
          have NB := nx_bd gain n v m1 ⟨l0, l1⟩
          generalize nx auth gain o n v = x at *
          have hx : -2147483647 ≤ x ∧ x ≤ 2147483647 := by omega
          have CE := fun W h => even_any g auth gain x n W h hx
          have RE := fun W => reven_any x n W hx
          have CO := fun W h => offset_any g auth gain x W h
          generalize ev x n = y at *
          generalize ee n = z at *
          generalize ce n v = u at *
          have NB' := Lib.hid NB
          clear l0 l1 NB hx
          go_wp2_with fail
          refine Tail.wp_region_quiet_tail 11 (by kernel_rfl) (by kernel_rfl) ?_
          simp only [List.take_succ_cons, List.take_zero, List.drop_succ_cons, List.drop_zero]
          repeat (go_big_quiet_step (fail))
          refine wpQuiet_nil ?_
          clear c0 c1
          go_wp2_with (go_at_call 8; refine (CL _ K.out.row.drew).mono ?_; rintro e w2 ⟨rfl, t2, o2⟩; have K2 := Lib.hid ((K.out.drewN 1).take o2 t2); clear t2 o2 K CL)
          have c0 := cell_regrown ((K2.out.below.cell (p := ⟨b, off + k * 2, none⟩) (cell_lt E0.out)).trans E0.out)
          have c1 := cell_regrown ((K2.out.below.cell (p := ⟨b, off + k * 2 + 1, none⟩) (cell_lt E1.out)).trans E1.out)
          have cR := reg_call (w := w2) (fun W _ => RL W)
          refine wp_region_quiet_below (by kernel_rfl) (by kernel_rfl) ?_
          repeat (go_big_quiet_step (exact cR _ _))
          refine wpQuiet_nil ?_
          intro _ hw'
          obtain ⟨⟨dq, osq⟩, hw''⟩ := hw'
          subst hw''
          clear cR c0 c1 RL
          have K3 := Lib.hid (K2.out.on (below_regrown w2 dq osq))
          clear K2
          generalize Sort.grow (redrawn w2 dq) osq = W3 at *
          have c0 := (K3.out.below.cell (p := ⟨b, off + k * 2, none⟩) (cell_lt E0.out)).trans E0.out
          go_wp2_with fail
          refine (CE _ K3.out.row).mono ?_; rintro e w4 ⟨rfl, b4⟩
          have K4 := Lib.hid (K3.out.on b4)
          clear c0 b4 K3 CE
          have c0 := (K4.out.below.cell (p := ⟨b, off + k * 2, none⟩) (cell_lt E0.out)).trans E0.out
          go_wp2_with fail
          refine (RE _).mono ?_; rintro e w5 ⟨rfl, rfl⟩
          go_wp2_with fail
          refine (CO _ K4.out.row).mono ?_; rintro e w5 ⟨rfl, rfl⟩
          go_wp2
          go_roundg (gk - 1)
          case rel => exact ⟨k + 1, x, by omega, rfl, by go_num, NB'.out.1, NB'.out.2, K4⟩
          case measure => omega
        · obtain rfl : k = m := by omega
          have CM := fun W => learn_nil 0 0 W
          have CC := fun W => even_nil 0 W
          have CL := fun W => offset_nil W
          have BB := Lib.hid K.out.below
          clear K HS
          go_wp2_with fail
          refine (CC _).mono ?_; rintro e w1 ⟨rfl, rfl⟩
          go_wp2_with fail
          refine (AL _).mono ?_; rintro e w2 ⟨rfl, b2⟩
          go_wp2_with fail
          refine (CM _).mono ?_; rintro e w1 ⟨rfl, rfl⟩
          go_wp2_with fail
          refine (CL _).mono ?_; rintro e w1 ⟨rfl, rfl⟩
          go_wp2
          go_ret
          exact ⟨rfl, grow BB.out b2⟩
end equalPlays
end Go.Proofs.Ytblhjjfnneihiaa
