/-
  The walk of the law StuckFrozen: for every window, every bound and all cycles it returns true, and writes nothing that was there. Its conditions: how the cycles lie.
-/
import Derived.Test.YthglaaidbelhoaaStuckRun
import Derived.Deep.LoopGhost
import Derived.Deep.DeepCutAuto
namespace Go.Proofs.Ythglaaidbelhoaa
open Go.ChangeShapes Go.WideShapes Go.ChangeAt Go.RowKit Go.Deep
namespace stuckFrozen
open Sk Mn
set_option maxRecDepth 100000 in
set_option maxHeartbeats 6400000 in
theorem walk (window bound : Int) (a : Option Addr) (cap : Nat) (ls : List (List Value)) (w : World) (w0 : (Lit.int .u8 window).wf = true) (w1 : (Lit.int .u16 bound).wf = true) (hm : ls.length ≤ cap) (hb : ManyAt w a [.bool, .int .i16, .int .i16] ls) :
    Calls Try.prog 4 #[.int .u8 window, .int .u16 bound, .slice a ls.length cap] w fun e w' => e = .returned (.bool true) ∧ Below w.heap.size w w' := by
  have AL := fun W => alive_any W
  obtain ⟨x0, x1⟩ := u8_in w0
  obtain ⟨y0, y1⟩ := u16_in w1
  clear w0 w1
  by_cases hlen : 200 < ls.length
  · have d : decide (200 < (ls.length : Int)) = true := by simp; omega
    clear hb hlen
    generalize ls.length = m at *
    go_enter Try.func4, Try.ntmps4
    go_wp2_with fail
    refine (AL _).mono ?_; rintro e w2 ⟨rfl, b2⟩
    go_wp2
    go_ret
    exact ⟨rfl, b2⟩
  · have d : decide (200 < (ls.length : Int)) = false := by simp; omega
    have h200 : ls.length ≤ 200 := by omega
    have HS := Lib.hid hb
    clear hb hlen
    generalize hn : ls.length = m at *
    have HN := Lib.hid hn
    clear hn
    obtain ⟨q, hq⟩ : ∃ q : Nat, window % 15 = (q : Int) := ⟨(window % 15).toNat, by omega⟩
    have hq' : window.tmod 15 = (q : Int) := by rw [Int.tmod_eq_emod_of_nonneg x0]; exact hq
    have hq15 : q < 15 := by omega
    have CN := fun W => new_is (q + 1) ((q : Int) + 2) bound W (by omega) (by omega) (by omega) (by omega) (by omega)
    have CW := watch_is w w (q + 1) bound (by omega) (by omega) (Below.refl _ _)
    go_enter Try.func4, Try.ntmps4
    go_wp2_with fail
    refine (CN _).mono ?_; rintro e w1 ⟨rfl, rfl⟩
    go_wp2_with fail
    refine CW.mono ?_; rintro e w3 ⟨g, rfl, p3⟩
    have K3 := Lib.hid p3
    clear p3 CN CW hq hq'
    generalize w.heap.size = r at K3 ⊢
    go_wp2_with fail
    go_loopg [11] m (fun gg s11 wr => ∃ (i : Nat) (last : Int), i + gg = m ∧ s11 = .int .i64 i ∧ Hid (0 < cnt (ms ls) (ns ls) i → last = ns ls (i - 1)) ∧ Hid (Pair w wr r g (q + 1) bound (lastN (q + 1) (votes (vs ls) i)) last ((min (cnt (ms ls) (ns ls) i) (q + 1 + 1) : Nat) : Int)))
    case atStart => exact ⟨0, 0, by omega, rfl, Lib.hid (fun h => by simp [cnt] at h), by simpa [votes, lastN, cnt] using K3⟩
    case round =>
      obtain ⟨i, last, hi, rfl, HL, Q⟩ := hrel
      clear K3
      by_cases hlt : i < m
      · have hli : (i : Int) < m := by omega
        obtain ⟨b, off, rfl, hat⟩ := HS.out.some (by have := HN.out; omega)
        have HAT := Lib.hid (fun n (h : n < m) => cyc (w := w) (b := b) (off := off) (show n < ls.length by have := HN.out; omega) hat)
        clear hat
        obtain ⟨e0, e1, e2, hb1, hb2⟩ := HAT.out i hlt
        have c0 := (Q.out.below.cell (p := ⟨b, off + i * 3, none⟩) (cell_lt e0)).trans e0
        have c1 := (Q.out.below.cell (p := ⟨b, off + i * 3 + 1, none⟩) (cell_lt e1)).trans e1
        go_upto_if 56 with fail
        have RC := Lib.hid (fun h => run_cnt (M := ms ls) (N := ns ls) (i := i) (P := q + 1) (last := last) h HL.out)
        have FC := Lib.hid (fun h => froz_cnt (M := ms ls) (N := ns ls) (i := i) (P := q + 1) (last := last) (bound := bound) (U := lastN (q + 1) (votes (vs ls) i)) h HL.out)
        have FM := Lib.hid (fun h => cnt_miss (M := ms ls) (N := ns ls) (i := i) h)
        go_cut [12] (fun s12 wx => ∃ last', s12 = .bool (decide (q + 1 + 1 ≤ cnt (ms ls) (ns ls) (i + 1)) && moved (q + 1) bound (lastN (q + 1) (votes (vs ls) i))) ∧ Hid (0 < cnt (ms ls) (ns ls) (i + 1) → last' = ns ls i) ∧ Hid (Pair w wx r g (q + 1) bound (lastN (q + 1) (votes (vs ls) i)) last' ((min (cnt (ms ls) (ns ls) (i + 1)) (q + 1 + 1) : Nat) : Int)))
        case first =>
          cases hms : ms ls i
          · have CC := fun W p => come_is w W r g (q + 1) bound (lastN (q + 1) (votes (vs ls) i)) last ((min (cnt (ms ls) (ns ls) i) (q + 1 + 1) : Nat) : Int) (ns ls i) _ _ ((Jp.val_iff _).2 (by omega)) (FC.out hms) (RC.out hms) (by omega) (by omega) p
            rw [hms] at c0
            generalize (decide (q + 1 + 1 ≤ cnt (ms ls) (ns ls) (i + 1)) && moved (q + 1) bound (lastN (q + 1) (votes (vs ls) i))) = F at *
            clear FC RC FM
            generalize ns ls i = n at *
            go_wp2_with fail
            refine (CC _ Q.out).mono ?_; rintro e w4 ⟨rfl, p4⟩
            have Q4 := Lib.hid p4
            clear p4 CC
            go_wp2_with fail
            go_meet
            exact ⟨n, rfl, Lib.hid (fun _ => rfl), Q4⟩
          · have CC := fun W p => miss_is w W r g (q + 1) bound (lastN (q + 1) (votes (vs ls) i)) last ((min (cnt (ms ls) (ns ls) i) (q + 1 + 1) : Nat) : Int) p
            rw [hms] at c0
            have Z := Lib.hid (FM.out hms)
            clear FC RC FM
            go_wp2_with fail
            refine (CC _ Q.out).mono ?_; rintro e w4 ⟨rfl, p4⟩
            have Q4 := Lib.hid p4
            clear p4 CC
            go_wp2_with fail
            go_meet
            refine ⟨last, by rw [Z.out]; simp, Lib.hid (fun h => ?_), by rw [Z.out]; simpa using Q4⟩
            rw [Z.out] at h; omega
        case rest =>
          obtain ⟨last', rfl, HL2, Q2⟩ := hcut
          clear HL Q RC FC FM c0 c1 e0 e1
          have HT := Lib.hid (fun n0 h b hw => told (M := ms ls) (N := ns ls) (V := vs ls) (i := i) (P := q + 1) (n0 := n0) (bound := bound) (b := b) (by omega) (by omega) h (fun e he => (HAT.out e (by omega)).2.2.2.2) hw)
          generalize (decide (q + 1 + 1 ≤ cnt (ms ls) (ns ls) (i + 1)) && moved (q + 1) bound (lastN (q + 1) (votes (vs ls) i))) = F at *
          obtain ⟨n0, hn0⟩ : ∃ n0, n0 = i - (q + 1) := ⟨_, rfl⟩
          have HU := Lib.hid (vv_votes (V := vs ls) (P := q + 1) (i := i) (by omega) ((Jp.val_iff _).2 (by omega)))
          generalize lastN (q + 1) (votes (vs ls) i) = U at *
          generalize hR : ((min (cnt (ms ls) (ns ls) (i + 1)) (q + 1 + 1) : Nat) : Int) = R at *
          have HR := Lib.hid hR
          clear hR
          go_upto_region 21 with fail
          go_cut [18] (fun s18 wx => s18 = .int .i64 n0 ∧ Hid (Pair w wx r g (q + 1) bound U last' R))
          case first =>
            go_wp2_with fail
            all_goals go_meet
            all_goals exact ⟨by first | (congr 1; omega) | (congr 2; omega), Q2⟩
          case rest =>
            obtain ⟨rfl, Q3⟩ := hcut
            clear Q2
            go_wp2_with fail
            go_loopg [15, 16, 17, 18] (i + 1 - n0) (fun gg s15 s16 s17 s18 wx => ∃ (n : Nat) (bb : Bool) (lo hi : Int), n + gg = i + 1 ∧ n0 ≤ n ∧ s18 = .int .i64 n ∧ s15 = .bool bb ∧ s16 = .int .i64 lo ∧ s17 = .int .i64 hi ∧ (-65536 ≤ lo ∧ lo ≤ 65536 ∧ -65536 ≤ hi ∧ hi ≤ 65536) ∧ Hid (lo = loN (vs ls) n0 (min n i - n0)) ∧ Hid (hi = hiN (vs ls) n0 (min n i - n0)) ∧ Hid (bb = true ↔ q + 1 ≤ i ∧ ∀ x, n0 ≤ x → x < n → ms ls x = false ∧ ns ls x = ns ls i) ∧ Hid (Pair w wx r g (q + 1) bound U last' R))
            case atStart =>
              refine ⟨n0, _, 65536, -65536, by omega, Nat.le_refl _, rfl, rfl, rfl, rfl, by omega, Lib.hid ?_, Lib.hid ?_, Lib.hid ?_, Q3⟩
              · rw [show min n0 i - n0 = 0 by omega]; rfl
              · rw [show min n0 i - n0 = 0 by omega]; rfl
              · rw [decide_eq_true_iff]
                exact ⟨fun h => ⟨by omega, fun x h1 h2 => by omega⟩, fun h => by have := h.1; omega⟩
            case round =>
              rename World => W1
              obtain ⟨n, bb, lo, hh, hng, hn0n, rfl, rfl, rfl, rfl, ⟨l0, l1, l2, l3⟩, HLo, HHi, HW, Q4⟩ := hrel
              clear Q3
              by_cases hni : n ≤ i
              · have hnm : n < m := by omega
                have hnm' : (n : Int) < m := by omega
                have hni' : (n : Int) ≤ i := by omega
                obtain ⟨u0, u1, u2, _, v2⟩ := HAT.out n hnm
                obtain ⟨_, t1, _, _, _⟩ := HAT.out i hlt
                have k0 := (Q4.out.below.cell (p := ⟨b, off + n * 3, none⟩) (cell_lt u0)).trans u0
                have k1 := (Q4.out.below.cell (p := ⟨b, off + n * 3 + 1, none⟩) (cell_lt u1)).trans u1
                have ki := (Q4.out.below.cell (p := ⟨b, off + i * 3 + 1, none⟩) (cell_lt t1)).trans t1
                have U2 := Lib.hid u2
                have WS := Lib.hid (want_step (M := ms ls) (N := ns ls) hn0n HW.out)
                clear u0 u1 u2 t1
                go_upto_region 24 with fail
                go_cut [15] (fun s15 wx => ∃ b', s15 = .bool b' ∧ Hid (b' = true ↔ q + 1 ≤ i ∧ ∀ x, n0 ≤ x → x < n + 1 → ms ls x = false ∧ ns ls x = ns ls i) ∧ Hid (Pair w wx r g (q + 1) bound U last' R))
                case first =>
                  have WV := Lib.hid (show ∀ c, c = (bb && !ms ls n && (ns ls n == ns ls i)) → (c = true ↔ q + 1 ≤ i ∧ ∀ x, n0 ≤ x → x < n + 1 → ms ls x = false ∧ ns ls x = ns ls i) from fun c hc => hc ▸ WS.out)
                  clear WS
                  generalize hz : ns ls n = z at *
                  generalize hz' : ns ls i = z' at *
                  have HZ := Lib.hid hz
                  have HZ' := Lib.hid hz'
                  clear hz hz'
                  cases bb
                  · go_quiet (fail)
                    go_wp2
                    go_meet
                    exact ⟨false, rfl, Lib.hid (WV.out false rfl), Lib.hid (Q4.out.on (below_drewN (Below.refl _ _) _))⟩
                  · cases hmn : ms ls n
                    · rw [hmn] at k0
                      go_quiet (fail)
                      go_wp2
                      go_meet
                      exact ⟨_, rfl, Lib.hid (WV.out _ (by rw [hmn]; simp)), Lib.hid (Q4.out.on (below_drewN (Below.refl _ _) _))⟩
                    · rw [hmn] at k0
                      go_quiet (fail)
                      go_wp2
                      go_meet
                      exact ⟨false, rfl, Lib.hid (WV.out false (by rw [hmn]; rfl)), Lib.hid (Q4.out.on (below_drewN (Below.refl _ _) _))⟩
                case rest =>
                  obtain ⟨b', rfl, HW2, Q5⟩ := hcut
                  clear WS Q4 k0 k1 ki HW
                  have k2 := (Q5.out.below.cell (p := ⟨b, off + n * 3 + 2, none⟩) (cell_lt U2.out)).trans U2.out
                  clear U2
                  by_cases hne : n < i
                  · have hne' : (n : Int) < i := by omega
                    have L2 := Lib.hid (lo_step (V := vs ls) hn0n hne)
                    have H2 := Lib.hid (hi_step (V := vs ls) hn0n hne)
                    rw [← HLo.out] at L2
                    rw [← HHi.out] at H2
                    generalize vs ls n = v at *
                    go_wp2_with fail
                    all_goals
                      go_roundg (gk - 1)
                      case rel => exact ⟨n + 1, b', _, _, by omega, by omega, by go_num, rfl, rfl, rfl, by omega, Lib.hid (by rw [L2.out]; omega), Lib.hid (by rw [H2.out]; omega), HW2, Q5⟩
                      case measure => omega
                  · have hne' : ¬ ((n : Int) < i) := by omega
                    clear k2
                    go_wp2_with fail
                    go_roundg (gk - 1)
                    case rel => exact ⟨n + 1, b', lo, hh, by omega, by omega, by go_num, rfl, rfl, rfl, by omega, Lib.hid (by rw [HLo.out]; congr 1; omega), Lib.hid (by rw [HHi.out]; congr 1; omega), HW2, Q5⟩
                    case measure => omega
              · obtain rfl : n = i + 1 := by omega
                have hF := HT.out n0 hn0 bb HW.out
                have hnn : ¬ (((i + 1 : Nat) : Int) ≤ i) := by omega
                have eL : lo = loN (vs ls) n0 (i - n0) := by rw [HLo.out]; congr 1; omega
                have eH : hh = hiN (vs ls) n0 (i - n0) := by rw [HHi.out]; congr 1; omega
                rw [← eL, ← eH] at hF
                have HF := Lib.hid hF
                obtain ⟨_, _, t2, _, v2⟩ := HAT.out i hlt
                have k2 := (Q4.out.below.cell (p := ⟨b, off + i * 3 + 2, none⟩) (cell_lt t2)).trans t2
                have CV := fun W p => vote_is w W r g (q + 1) bound U last' R (vs ls i) 0 _ (Jp.ce_yes ((Jp.val_iff _).2 (by omega))) HU.out p
                clear hF eL eH HLo HHi HW HT t2
                have HEN := fun w' (p : Pair w w' r g (q + 1) bound (lastN (q + 1) (votes (vs ls) (i + 1))) last' R) => (show Pair w w' r g (q + 1) bound (lastN (q + 1) (votes (vs ls) (i + 1))) last' ((min (cnt (ms ls) (ns ls) (i + 1)) (q + 1 + 1) : Nat) : Int) from HR.out ▸ p)
                generalize hU' : lastN (q + 1) (votes (vs ls) (i + 1)) = U' at CV
                have HEND := Lib.hid (fun w' (p : Pair w w' r g (q + 1) bound U' last' R) => HEN w' (hU' ▸ p))
                clear HEN hU'
                generalize vs ls i = v at *
                cases bb
                · have hf : F = false := by rw [HF.out, Bool.false_and]
                  clear HF
                  subst hf
                  go_wp2_with fail
                  refine (CV _ Q4.out).mono ?_; rintro e w6 ⟨rfl, p6⟩
                  have Q6 := Lib.hid p6
                  clear p6 CV
                  go_wp2
                  go_roundg (m - i - 1)
                  case rel => exact ⟨i + 1, last', by omega, by go_num, HL2, Lib.hid (HEND.out _ Q6.out)⟩
                  case measure => omega
                · cases hd : decide (bound < hh - lo)
                  · have hf : F = false := by rw [HF.out, hd, Bool.and_false]
                    clear HF
                    subst hf
                    go_wp2_with fail
                    refine (CV _ Q4.out).mono ?_; rintro e w6 ⟨rfl, p6⟩
                    have Q6 := Lib.hid p6
                    clear p6 CV
                    go_wp2
                    go_roundg (m - i - 1)
                    case rel => exact ⟨i + 1, last', by omega, by go_num, HL2, Lib.hid (HEND.out _ Q6.out)⟩
                    case measure => omega
                  · have hf : F = true := by rw [HF.out, hd, Bool.and_true]
                    clear HF
                    subst hf
                    go_wp2_with fail
                    refine (CV _ Q4.out).mono ?_; rintro e w6 ⟨rfl, p6⟩
                    have Q6 := Lib.hid p6
                    clear p6 CV
                    go_wp2
                    go_roundg (m - i - 1)
                    case rel => exact ⟨i + 1, last', by omega, by go_num, HL2, Lib.hid (HEND.out _ Q6.out)⟩
                    case measure => omega
      · obtain rfl : i = m := by omega
        go_wp2_with fail
        refine (AL _).mono ?_; rintro e w2 ⟨rfl, b2⟩
        go_wp2
        go_ret
        exact ⟨rfl, grow Q.out.below b2⟩
end stuckFrozen
end Go.Proofs.Ythglaaidbelhoaa
