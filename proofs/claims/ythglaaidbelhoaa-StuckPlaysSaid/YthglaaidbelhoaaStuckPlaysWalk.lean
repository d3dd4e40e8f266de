/-
  The walk of the law StuckPlays: for all numbers and acts it returns true, and writes nothing that was there. Its conditions: how the acts lie.
-/
import Derived.Test.YthglaaidbelhoaaStuckPlays
import Derived.Test.YthglaaidbelhoaaMany
import Derived.Deep.LoopGhost
import Derived.Deep.DeepCutAuto
namespace Go.Proofs.Ythglaaidbelhoaa
open Go.ChangeShapes Go.WideShapes Go.ChangeAt Go.RowKit Go.Deep
namespace stuckPlays
open Sk Mn
set_option maxRecDepth 100000 in
set_option maxHeartbeats 6400000 in
theorem walk (window bound : Int) (a : Option Addr) (cap : Nat) (ls : List (List Value)) (w : World) (_w0 : (Lit.int .i64 window).wf = true) (_w1 : (Lit.int .i64 bound).wf = true) (hm : ls.length ≤ cap) (hb : ManyAt w a [.int .u8, .bool, .int .i64] ls) :
    Calls Try.prog 3 #[.int .i64 window, .int .i64 bound, .slice a ls.length cap] w fun e w' => e = .returned (.bool true) ∧ Below w.heap.size w w' := by
  have AL := fun W => alive_any W
  have B0 := Lib.hid (Below.refl w.heap.size w)
  clear _w0 _w1
  by_cases hlen : 200 < ls.length
  · have d : decide (200 < (ls.length : Int)) = true := by simp; omega
    clear hb hlen
    generalize ls.length = m at *
    go_enter Try.func3, Try.ntmps3
    go_wp2_with fail
    refine (AL _).mono ?_; rintro e w2 ⟨rfl, b2⟩
    go_wp2
    go_ret
    exact ⟨rfl, b2⟩
  · have d : decide (200 < (ls.length : Int)) = false := by simp; omega
    have h200 : ls.length ≤ 200 := by omega
    have HS := Lib.hid hb
    clear hb hlen
    generalize hn : ls.length = m at *
    have HN := Lib.hid hn
    clear hn
    cases hmay : may window bound
    · have CN := fun W => new_no window bound W hmay
      have CM := fun W => rmay_any window bound W
      rw [hmay] at CM
      clear hmay
      go_enter Try.func3, Try.ntmps3
      go_wp2_with fail
      refine (CN _).mono ?_; rintro e w1 ⟨rfl, rfl⟩
      go_wp2_with fail
      refine (CM _).mono ?_; rintro e w2 ⟨rfl, rfl⟩
      go_wp2_with fail
      refine (AL _).mono ?_; rintro e w3 ⟨rfl, b3⟩
      go_wp2
      go_ret
      exact ⟨rfl, b3⟩
    · have CM := fun W => rmay_any window bound W
      rw [hmay] at CM
      obtain ⟨m1, m2, m3, m4⟩ := (may_iff _ _).1 hmay
      obtain ⟨P, hP⟩ : ∃ P : Nat, window = (P : Int) + 1 := ⟨(window - 1).toNat, by omega⟩
      subst hP
      have hP1 : 1 ≤ P := by omega
      have hP2 : P ≤ 15 := by omega
      have CN := fun W => new_yes P bound W hP1 hP2 m3 m4
      have CW := watch_is w w P bound hP1 hP2 (Below.refl _ _)
      have CB := fun W => rbegin_any ((P : Int) + 1) bound W
      clear hmay m1 m2 m3 m4
      go_enter Try.func3, Try.ntmps3
      go_wp2_with fail
      refine (CN _).mono ?_; rintro e w1 ⟨rfl, rfl⟩
      go_wp2_with fail
      refine (CM _).mono ?_; rintro e w2 ⟨rfl, rfl⟩
      go_wp2_with fail
      refine CW.mono ?_; rintro e w3 ⟨g, rfl, p3⟩
      have K3 := Lib.hid p3
      clear p3 CN CM CW
      generalize w.heap.size = r at K3 ⊢
      go_wp2_with fail
      refine (CB _).mono ?_; rintro e w4 ⟨rfl, hw4⟩
      have P0 := Lib.hid (hw4 ▸ plays_start w w3 P bound K3.out)
      clear K3 hw4 CB
      generalize w3.heap.size + 1 = lo at P0
      generalize w3.heap.size = g3 at P0 ⊢
      go_wp2_with fail
      go_loopg [12, 13] m (fun gg s12 s13 wr => ∃ (j k : Nat) (last : Int) (all : List Int) (ca : Option Addr) (cc : Nat), j + gg = m ∧ s13 = .int .i64 j ∧ s12 = .slice ca k cc ∧ k ≤ j ∧ all.length ≤ j ∧ k ≤ cc ∧ cc ≤ maxLen ∧ Hid (Plays w wr r g g3 lo P bound all last k ca))
      case atStart => exact ⟨0, 0, 0, [], none, 0, by omega, rfl, rfl, by omega, by simp, by omega, by unfold maxLen; omega, P0⟩
      case round =>
        obtain ⟨j, k, last, all, ca, cc, hj, rfl, rfl, hkj, hall, hkc, hcm, Q⟩ := hrel
        clear P0
        by_cases hlt : j < m
        · have hli : (j : Int) < m := by omega
          obtain ⟨b, off, rfl, hat⟩ := HS.out.some (by have := HN.out; omega)
          have hlt' : j < ls.length := by have := HN.out; omega
          obtain ⟨rr, hr⟩ : ∃ rr, ls[j]? = some rr := ⟨_, List.getElem?_eq_getElem hlt'⟩
          have hok := (show RowOk w b (off + j * 3) [.int .u8, .bool, .int .i64] rr from hat j rr hr)
          obtain ⟨_, _, _, _, e0, e1, e2, ⟨x, rfl, hx⟩, ⟨is, rfl⟩, ⟨n, rfl, hwn⟩⟩ := hok.three
          obtain ⟨x0, x1⟩ := u8_in hx
          have c0 := (Q.out.bel.cell (p := ⟨b, off + j * 3, none⟩) (cell_lt e0)).trans e0
          have c1 := (Q.out.bel.cell (p := ⟨b, off + j * 3 + 1, none⟩) (cell_lt e1)).trans e1
          have c2 := (Q.out.bel.cell (p := ⟨b, off + j * 3 + 2, none⟩) (cell_lt e2)).trans e2
          clear hat hr hok hlt' hx hwn
          go_upto_region 16 with fail
          have Q1 := Lib.hid (Q.out.on ((Below.refl wr.heap.size wr).alloc (Nat.le_refl _) (.cells #[.bool is, .int .i64 n] 35)))
          have X := Lib.hid (VRow.new wr [.bool is, .int .i64 n] 35)
          have hbx := Q.out.le
          clear Q c0 c1 c2
          generalize wr.alloc (.cells #[.bool is, .int .i64 n] 35) = U at Q1 X ⊢
          have X' := Lib.hid (show VRow U wr.heap.size 35 [.bool is, .int .i64 n] from X.out)
          clear X
          generalize wr.heap.size = bx at X' hbx ⊢
          have c0 := (Q1.out.bel.cell (p := ⟨b, off + j * 3, none⟩) (cell_lt e0)).trans e0
          have ne1 : bx ≠ r := by have := Q1.out.lt1; omega
          have ne2 : bx ≠ g := by have := Q1.out.lt2; omega
          have ne3 : bx ≠ g3 := by obtain ⟨_, _, _, _, _, _, _, h⟩ := Q1.out.ref; omega
          have tm : x.tmod 2 = x % 2 := by rw [Int.tmod_eq_emod_of_nonneg x0]
          clear e0 e1 e2 hbx
          go_upto_if 81 with fail
          go_cut [12] (fun s12 wx => ∃ (K : Nat) (L : Int) (A : List Int) (CA : Option Addr) (CC : Nat), s12 = .slice CA K CC ∧ K ≤ j + 1 ∧ A.length ≤ j + 1 ∧ K ≤ CC ∧ CC ≤ maxLen ∧ Hid (Plays w wx r g g3 lo P bound A L K CA))
          case first =>
            by_cases hx2 : x % 2 = 1
            · have d1 : (x % 2 == 1) = true := by simpa using hx2
              have CV := fun W h => vote_any r P bound (lastN P all) n W h
              have RV := fun W h hl => rvote_any lo g3 P bound all n W h (by omega) hl
              have HA := Lib.hid (show (va all n).length ≤ j + 1 by unfold va; split; (simp; omega); omega)
              generalize Jp.ce n = Y at *
              go_wp2_with fail
              have Qd := Lib.hid (show Plays w U.drew r g g3 lo P bound all last k ca from Q1.out.on (below_drewN (Below.refl U.heap.size U) 1))
              have xb := X'.out.drew.cell 1 (v := .int .i64 n) rfl
              clear Q1 c0
              go_region_with (first
                | (go_at_call 10; refine (CV _ Qd.out.pair.room).mono ?_; rintro e w1 ⟨rfl, hv, ov⟩; have HV := Lib.hid hv; have OV := Lib.hid ov; have RM := Lib.hid (Qd.out.ref1 ov); have LM := Nat.le_trans Qd.out.le ov.size; have xb1 := (X'.out.drew.only ov ne1).cell 1 (v := .int .i64 n) rfl)
                | (go_at_call 11; refine (RV _ RM.out LM).mono ?_; rintro e w2 ⟨rfl, hrr, orr⟩; have PP := Lib.hid (Qd.out.voted n OV.out HV.out orr hrr)))
              all_goals (go_wp2_with fail; go_meet)
              all_goals exact ⟨k, last, va all n, ca, cc, rfl, by omega, HA.out, hkc, hcm, PP⟩
            · have d1 : (x % 2 == 1) = false := by simpa using hx2
              cases is
              · cases hn : Jp.val n
                · have CC := fun W => come_no g n W hn
                  have RC := fun W => rcome_no (some ⟨g3, 0, none⟩) (.slice ca k cc) n W hn
                  have x0' := X'.out.cell 0 (v := .bool false) rfl
                  have x1' := X'.out.cell 1 (v := .int .i64 n) rfl
                  clear hn
                  go_wp2_with fail
                  refine (CC _).mono ?_; rintro e w1 ⟨rfl, rfl⟩
                  go_wp2_with fail
                  refine (RC _).mono ?_; rintro e w1 ⟨rfl, rfl⟩
                  go_wp2_with fail
                  go_meet
                  exact ⟨k, last, all, ca, cc, rfl, by omega, by omega, hkc, hcm, Q1⟩
                · have CC := fun W h1 h2 h3 => come_yes g r P bound last ((min k (P + 1) : Nat) : Int) n (lastN P all) W hn h1 h2 h3 (by omega) (by omega)
                  have RC := fun W h1 h2 => rcome_rep lo g3 P bound all ca cc k last n W hn h1 (by omega) hP1 hP2 h2 (by omega)
                  have C1 := Lib.hid (fun W1 o h => Q1.out.come1 (W1 := W1) n o h)
                  have C2 := Lib.hid (fun W1 W2 ca' q hr hl b i s => Q1.out.come2 (W1 := W1) (W2 := W2) (n := n) (k' := kk last k n) (ca' := ca') q hr hl b i s)
                  have HK := Lib.hid (show kk last k n ≤ j + 1 by unfold kk; split <;> omega)
                  rw [froz_kk] at CC
                  have x0' := X'.out.cell 0 (v := .bool false) rfl
                  have x1' := X'.out.cell 1 (v := .int .i64 n) rfl
                  clear hn
                  generalize Sk.run ((P : Int) + 1) last ((min k (P + 1) : Nat) : Int) n = R at *
                  generalize (decide (P + 1 ≤ kk last k n) && moved P bound (lastN P all)) = F at *
                  generalize kk last k n = K' at *
                  go_wp2_with fail
                  refine (CC _ Q1.out.pair.room Q1.out.pair.wat Q1.out.pair.ne).mono ?_; rintro e w1 ⟨rfl, t1, o1⟩
                  obtain ⟨p1, r1, i1, l1⟩ := C1.out w1 o1 t1
                  have P1 := Lib.hid p1
                  have R1 := Lib.hid r1
                  have I1 := Lib.hid i1
                  have x2' := (X'.out.only o1 ne2).cell 1 (v := .int .i64 n) rfl
                  clear p1 r1 i1 t1 o1 C1 CC Q1 x0' x1' c0
                  go_wp2_with fail
                  refine (RC _ R1.out I1.out).mono ?_; rintro e w2 ⟨a2, c2, rfl, i2, s2, q2, m2, b2⟩
                  have Q2 := Lib.hid (C2.out w1 w2 a2 P1.out R1.out l1 b2 i2 s2)
                  have q2' : K' ≤ c2 := by simpa using q2
                  clear C2 P1 R1 I1 i2 s2 b2 q2 x2' RC
                  rw [List.length_replicate]
                  go_wp2_with fail
                  go_meet
                  exact ⟨K', n, all, a2, c2, rfl, HK.out, by omega, q2', m2, Q2⟩
              · have CC := fun W h => miss_any g r last ((min k (P + 1) : Nat) : Int) W h
                have C1 := Lib.hid (fun W1 o h => Q1.out.missed (W1 := W1) o h)
                have x0' := X'.out.cell 0 (v := .bool true) rfl
                go_wp2_with fail
                refine (CC _ Q1.out.pair.wat).mono ?_; rintro e w1 ⟨rfl, t1, o1⟩
                have Q2 := Lib.hid (C1.out w1 o1 t1)
                clear C1 CC Q1 x0' t1 o1 c0
                go_wp2_with fail
                go_meet
                exact ⟨0, last, all, none, 0, rfl, by omega, by omega, by omega, by unfold maxLen; omega, Q2⟩
          case rest =>
            obtain ⟨K, L, A, CA, CC, rfl, hKj, hAj, hKC, hCm, Q2⟩ := hcut
            clear Q1 X' c0 ne1 ne2 ne3 tm hkj hall hkc hcm x0 x1
            have hA : A.length ≤ 1000 := by omega
            have hV : (lastN P A).length ≤ 15 := by have := lastN_le P A; omega
            have D1 := fun W (h : Plays w W r g g3 lo P bound A L K CA) => votes_any r P bound (lastN P A) W h.pair.room
            have D2 := fun W (h : Plays w W r g g3 lo P bound A L K CA) => rvotes_any lo g3 P bound A W h.ref hA hP1 hP2
            have D3 := fun W a b ca cb h1 h2 => Od.ints_any a b ca cb (lastN P A) (lastN P A) W (by omega) (by omega) h1 h2
            have D4 := fun W (h : Plays w W r g g3 lo P bound A L K CA) => moved_any r P bound (lastN P A) W h.pair.room
            have D5 := fun W (h : Plays w W r g g3 lo P bound A L K CA) => rmoved_any lo g3 P bound A W h.ref hA hP1 hP2
            have D6 := fun W (h : Plays w W r g g3 lo P bound A L K CA) => run_any g r L _ W h.pair.wat
            rw [Od.same_self] at D3
            generalize moved P bound (lastN P A) = M at *
            generalize lastN P A = V at *
            have hKm : (K : Int) ≤ 1000 := by omega
            rcases (show K ≤ P + 1 ∨ P + 1 < K by omega) with hkp | hkp
            all_goals
              go_wp2_with fail
              refine (D1 _ Q2.out).mono ?_; rintro e w1 ⟨a1, cp1, rfl, i1, b1⟩
              have Q3 := Lib.hid (Q2.out.on b1); clear Q2 b1 D1
              go_wp2_with fail
              refine (D2 _ Q3.out).mono ?_; rintro e w2 ⟨a2, cp2, rfl, i2, b2⟩
              have Q4 := Lib.hid (Q3.out.on b2); have i1 := i1.below b2; clear Q3 b2 D2
              go_wp2_with fail
              refine (D3 _ _ _ _ _ i1 i2).mono ?_; rintro e w3 ⟨rfl, b3⟩
              have Q5 := Lib.hid (Q4.out.on b3); clear Q4 b3 D3 i1 i2
              go_wp2_with fail
              refine (D4 _ Q5.out).mono ?_; rintro e w4 ⟨rfl, b4⟩
              have Q6 := Lib.hid (Q5.out.on b4); clear Q5 b4 D4
              go_wp2_with fail
              refine (D5 _ Q6.out).mono ?_; rintro e w5 ⟨rfl, b5⟩
              have Q7 := Lib.hid (Q6.out.on b5); clear Q6 b5 D5
            · rw [show ((min K (P + 1) : Nat) : Int) = (K : Int) by omega] at D6
              have hk2 : (K : Int) ≤ (P : Int) + 1 := by omega
              go_wp2_with fail
              refine (D6 _ Q7.out).mono ?_; rintro e w6 ⟨rfl, rfl⟩
              go_wp2
              go_roundg (gk - 1)
              case rel => exact ⟨j + 1, K, L, A, CA, CC, by omega, by go_num, rfl, hKj, hAj, hKC, hCm, Q7⟩
              case measure => omega
            · rw [show ((min K (P + 1) : Nat) : Int) = (P : Int) + 1 by omega] at D6
              have hk2 : ¬ ((K : Int) ≤ (P : Int) + 1) := by omega
              go_wp2_with fail
              refine (D6 _ Q7.out).mono ?_; rintro e w6 ⟨rfl, rfl⟩
              go_wp2
              go_roundg (gk - 1)
              case rel => exact ⟨j + 1, K, L, A, CA, CC, by omega, by go_num, rfl, hKj, hAj, hKC, hCm, Q7⟩
              case measure => omega
        · obtain rfl : j = m := by omega
          have CM := fun W => miss_nil W
          have CC := fun W => come_nil 0 W
          have CV := fun W => vote_nil 0 W
          have CS := fun W => votes_nil W
          have CO := fun W => moved_nil W
          have CT := fun W => watch_nil W
          have CR := fun W => run_nil W
          have BB := Lib.hid Q.out.bel
          clear Q HS
          go_wp2_with fail
          refine (CM _).mono ?_; rintro e w1 ⟨rfl, rfl⟩
          go_wp2_with fail
          refine (CC _).mono ?_; rintro e w1 ⟨rfl, rfl⟩
          go_wp2_with fail
          refine (AL _).mono ?_; rintro e w2 ⟨rfl, b2⟩
          go_wp2_with fail
          refine (CV _).mono ?_; rintro e w3 ⟨rfl, rfl⟩
          go_wp2_with fail
          refine (CS _).mono ?_; rintro e w3 ⟨rfl, rfl⟩
          go_wp2_with fail
          refine (CO _).mono ?_; rintro e w3 ⟨rfl, b3⟩
          go_wp2_with fail
          refine (CT _).mono ?_; rintro e w4 ⟨rfl, rfl⟩
          go_wp2_with fail
          refine (CR _).mono ?_; rintro e w4 ⟨rfl, rfl⟩
          go_wp2
          go_ret
          exact ⟨rfl, grow (grow BB.out b2) b3⟩
end stuckPlays
end Go.Proofs.Ythglaaidbelhoaa
