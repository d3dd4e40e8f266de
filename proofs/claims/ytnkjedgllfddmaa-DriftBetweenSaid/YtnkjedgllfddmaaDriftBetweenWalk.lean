/-
  The walk of the law DriftBetween: for all numbers and differences it returns true, and writes nothing that was there. Its conditions: how the differences lie.
-/
import Derived.Test.YtnkjedgllfddmaaDriftAlive
import Derived.Test.YtnkjedgllfddmaaDriftRun
import Derived.Test.YtnkjedgllfddmaaMany
import Derived.Deep.LoopGhost
import Derived.Lib.MinMax
namespace Go.Proofs.Ytnkjedgllfddmaa
open Go.ChangeShapes Go.WideShapes Go.ChangeAt Go.RowKit Go.Deep
namespace Dr
/-- The level behind a difference, where 2^lag is P. -/
theorem nx_p {k P : Nat} (hP : (2 : Int) ^ k = P) (hk : k ≤ 8) {level d : Int} (hl : -4294967296 ≤ level ∧ level ≤ 4294967296) (hd : -4294967296 ≤ d ∧ d ≤ 4294967296) : nx k level d = level + (d - level) / (P : Int) := by
  rw [nx_yes ((dif_iff d).2 hd), shift_small (by omega) (by omega) (by omega), ← hP, show (k : Int).toNat = k by simp]
theorem ints_in {l : List Int} {k : Nat} {K : IntKind} (h : ∀ x ∈ l, (Lit.int K x).wf = true) (hk : k < l.length) : (Lit.int K (l.getD k 0)).wf = true := by
  rw [List.getD_eq_getElem?_getD, List.getElem?_eq_getElem hk]; exact h _ (List.getElem_mem hk)
/-- The greatest of three numbers. -/
theorem run_max3 {P : Program} (w : World) (ts : Array TypeId) (t : TypeId) (x y z : Int) : (Builtin.max_ ts t #[.int .i64 x, .int .i64 y, .int .i64 z]).run P w = .ok (.int .i64 (max (max x y) z)) w := by
  have e1 : (if y > x then y else x) = max x y := by rw [Int.max_def]; split <;> split <;> omega
  have e2 : (if z > max x y then z else max x y) = max (max x y) z := by rw [Int.max_def (max x y) z]; split <;> split <;> omega
  simp [Builtin.max_, Builtin.max2, e1, e2]
end Dr
namespace driftBetween
open Dr Mn Kp
set_option maxRecDepth 100000 in
set_option maxHeartbeats 6400000 in
theorem walk (lag : Int) (a : Option Addr) (cap : Nat) (ls : List Int) (last : Int) (w : World) (hw0 : (Lit.int .u8 lag).wf = true) (_hm : ls.length ≤ maxLen) (_hc : ls.length ≤ cap ∧ cap ≤ maxLen) (_hz : cap * 4 ≤ 140737488351232) (hf : ∀ x ∈ ls, (Lit.int .i32 x).wf = true) (hb : IntsAt .i32 w a ls) (hw2 : (Lit.int .i16 last).wf = true) :
    Calls Try.prog 4 #[.int .u8 lag, .slice a ls.length cap, .int .i16 last] w fun e w' => e = .returned (.bool true) ∧ Below w.heap.size w w' := by
  have AL := fun W => alive_any W
  obtain ⟨g0, g1⟩ := u8_in hw0
  obtain ⟨t0, t1⟩ := i16_in hw2
  clear hw0 hw2
  by_cases hlen : 200 < ls.length
  · have d : decide (200 < (ls.length : Int)) = true := by simp; omega
    clear hb hlen hf
    generalize ls.length = m at *
    go_enter Try.func4, Try.ntmps4
    go_wp2_with fail
    refine (AL _).mono ?_; rintro e w2 ⟨rfl, b2⟩
    go_wp2
    go_ret
    exact ⟨rfl, b2⟩
  · have d : decide (200 < (ls.length : Int)) = false := by simp; omega
    have h200 : ls.length ≤ 200 := by omega
    have HS := Lib.hid hb
    have HV := Lib.hid hf
    clear hb hlen hf
    generalize hn : ls.length = m at *
    have HN := Lib.hid hn
    clear hn
    go_enter Try.func4, Try.ntmps4
    go_wp2_with fail
    obtain ⟨k, hk, k8⟩ : ∃ k : Nat, lag % 9 = k ∧ k ≤ 8 := ⟨(lag % 9).toNat, by omega, by omega⟩
    rw [hk]
    clear hk g0 g1
    have hmay : may k 2147483647 = true := (may_iff _ _).2 ⟨by omega, by omega, by decide, by decide⟩
    have HM := Lib.hid hmay
    refine (new_yes k 2147483647 w hmay).mono ?_; rintro e w1 ⟨rfl, hw1⟩
    have K1 := Lib.hid (hw1 ▸ kept_new w w (fil k 2147483647 0) 43 (Below.refl _ _))
    clear hw1 hmay
    generalize w.heap.size = g at K1 ⊢
    go_wp2_with fail
    go_loopg [11, 12] k (fun gg s11 s12 wr => ∃ (i : Nat), i + gg = k ∧ s12 = .int .i64 i ∧ s11 = .int .i64 (2 ^ i) ∧ Hid (Kept w wr g 43 (fil k 2147483647 0)))
    case atStart => exact ⟨0, by omega, rfl, rfl, K1⟩
    case round =>
      clear K1
      obtain ⟨i, hi, rfl, rfl, K1⟩ := hrel
      have p1 := Fx.pow_le40 i (by omega)
      have p2 := Fx.pow_pos2 i
      by_cases hlt : i < k
      · have hli : (i : Int) < k := by omega
        have HP := Lib.hid (Fx.pow_succ2 i)
        go_wp2_with fail
        go_roundg (gk - 1)
        case rel => exact ⟨i + 1, by omega, by go_num, by rw [HP.out], K1⟩
        case measure => omega
      · obtain rfl : i = k := by omega
        have p3 : (2 : Int) ^ i ≤ 256 := Int.le_trans (Fx.pow_mono2 i 8 k8) (by decide)
        obtain ⟨P, hP⟩ : ∃ P : Nat, (2 : Int) ^ i = P := ⟨2 ^ i, by simp⟩
        have HP := Lib.hid hP
        have NX := Lib.hid (fun (level d : Int) hl hd => nx_p hP k8 (level := level) (d := d) hl hd)
        rw [hP] at p1 p2 p3 ⊢
        have P1 : 1 ≤ P := by omega
        have P2 : P ≤ 256 := by omega
        clear p1 p2 p3 hP
        go_wp2_with fail
        go_loopg [10, 13] m (fun gg s10 s13 wr => ∃ (j : Nat) (most level : Int), j + gg = m ∧ s10 = .int .i64 most ∧ s13 = .int .i64 j ∧ 0 ≤ most ∧ most ≤ 2147483648 ∧ -most ≤ level ∧ level ≤ most ∧ Hid (Kept w wr g 43 (fil i 2147483647 level)))
        case atStart => exact ⟨0, 0, 0, by omega, rfl, rfl, by decide, by decide, by decide, by decide, K1⟩
        case round =>
          obtain ⟨j, most, level, hj, rfl, rfl, o0, o1, l0, l1, K⟩ := hrel
          clear K1
          by_cases hlt : j < m
          · have hli : (j : Int) < m := by omega
            have hwf := ints_in HV.out (k := j) (by have := HN.out; omega)
            rcases HS.out with hnil | ⟨b, off, rfl, hat⟩
            · have := HN.out; rw [hnil] at this; simp at this; omega
            have e0 := hat j (by have := HN.out; omega)
            clear hat
            generalize ls.getD j 0 = d at *
            obtain ⟨d0, d1⟩ := i32_in hwf
            have c0 := (K.out.below.cell (p := ⟨b, off + j, none⟩) (cell_lt e0)).trans e0
            clear e0 hwf
            have hdif : dif d = true := (dif_iff d).2 (by omega)
            have CC := fun W h => come_any g i 2147483647 level d W h (by omega) HM.out
            rw [ce_yes hdif] at CC
            have BT := Lib.hid (nx_between (lag := i) (level := level) (d := d) (by omega) hdif (by omega) (by omega))
            have BZ := Lib.hid (show i = 0 → nx i level d = d from fun h => by subst h; exact nx_zero (by omega) hdif)
            have CL := fun W h => level_any g i 2147483647 level W h
            generalize nx i level d = x at *
            have CL2 := fun W h => level_any g i 2147483647 x W h
            generalize co i 2147483647 level d = X at *
            go_wp2_with fail
            refine (CL _ K.out.row).mono ?_; rintro e w1 ⟨rfl, rfl⟩
            clear CL
            go_wp2_with fail
            refine (CC _ K.out.row).mono ?_; rintro e w2 ⟨rfl, t1, o1⟩
            have K2 := Lib.hid (K.out.take o1 t1)
            clear CC c0 o1 t1 K
            go_wp2_with fail
            refine (CL2 _ K2.out.row).mono ?_; rintro e w3 ⟨rfl, rfl⟩
            clear CL2 HM NX HP HN HV HS AL hdif
            have MX := fun W ts t => run_max3 (P := Try.prog) W ts t most d (-d)
            have M0 : most ≤ max (max most d) (-d) ∧ d ≤ max (max most d) (-d) ∧ -d ≤ max (max most d) (-d) ∧ max (max most d) (-d) ≤ 2147483648 := by omega
            generalize max (max most d) (-d) = M at *
            obtain ⟨M1, M2, M3, M4⟩ := M0
            have hb1 := BT.out.1
            have hb2 := BT.out.2
            have hx : min level d ≤ x ∧ x ≤ max level d ∧ -M ≤ x ∧ x ≤ M ∧ (d < level → ¬ level ≤ x) ∧ (level = d → x = d) := by omega
            clear hb1 hb2 BT
            obtain ⟨x1, x2, x3, x4, x5, x6⟩ := hx
            have f1 : decide (x < min level d) = false := by simp; omega
            have f2 : decide (max level d < x) = false := by simp; omega
            have f3 : decide (M < x) = false := by simp; omega
            have f4 : decide (x < -M) = false := by simp; omega
            have f5 : d < level → decide (level ≤ x) = false := fun h => by simpa using x5 h
            have f6 : level = d → (x != d) = false := fun h => by simpa using x6 h
            have f7 : i = 0 → (x != d) = false := fun h => by simpa using BZ.out h
            have R := Lib.hid (show (-M ≤ x ∧ x ≤ M) ∧ 0 ≤ M ∧ M ≤ 2147483648 from ⟨⟨x3, x4⟩, by omega, by omega⟩)
            have n1 : -2147483648 ≤ M := by omega
            have K3 := K2
            clear x1 x2 x3 x4 x5 x6 BZ o0 o1 l0 l1 M1 M2 M3 K2
            cases q1 : decide (d < level) <;> cases q2 : (level == d) <;> cases q0 : ((i : Int) == 0)
            all_goals
              first
              | (have f7' := f7 (by simpa using q0)) | skip
              first
              | (have f6' := f6 (by simpa using q2)) | skip
              first
              | (have f5' := f5 (by simpa using q1)) | skip
              clear f5 f6 f7
              go_wp2_with fail
              go_roundg (gk - 1)
              case rel => exact ⟨j + 1, M, x, by omega, rfl, by go_num, R.out.2.1, R.out.2.2, R.out.1.1, R.out.1.2, K3⟩
              case measure => omega
          · obtain rfl : j = m := by omega
            have CLR := fun W h => clear_any g i 2147483647 level W h
            clear HS HN HV l0 l1 o0 o1
            go_wp2_with fail
            refine (CLR _ K.out.row).mono ?_; rintro e w2 ⟨rfl, t1, o1⟩
            have K2 := Lib.hid (K.out.take o1 t1)
            clear CLR o1 t1 K
            go_wp2_with fail
            go_loopg [19] (40 * P) (fun gg s19 wr => ∃ (n : Nat), n + gg = 40 * P ∧ s19 = .int .i64 n ∧ Hid (Kept w wr g 43 (fil i 2147483647 (lv P last n))))
            case atStart => exact ⟨0, by omega, rfl, K2⟩
            case round =>
              clear K2
              obtain ⟨n, hn, rfl, K3⟩ := hrel
              by_cases hlt2 : n < 40 * P
              · have hli : (n : Int) < 40 * P := by omega
                have hdif : dif last = true := (dif_iff last).2 (by omega)
                have LW := lv_within P1 t0 t1 n
                have E1 : nx i (lv P last n) last = lv P last (n + 1) := NX.out _ _ (by omega) (by omega)
                have CC := fun W h => come_any g i 2147483647 (lv P last n) last W h (by omega) HM.out
                rw [ce_yes hdif, E1] at CC
                clear E1 hdif LW
                generalize hy : lv P last (n + 1) = y at *
                have HY := Lib.hid hy
                clear hy
                generalize lv P last n = x at *
                generalize co i 2147483647 x last = X at *
                clear HM NX HP AL
                go_wp2_with fail
                refine (CC _ K3.out.row).mono ?_; rintro e w3 ⟨rfl, t2, o2⟩
                have K4 := Lib.hid (K3.out.take o2 t2)
                clear CC o2 t2 K3
                go_wp2_with fail
                go_roundg (gk - 1)
                case rel => exact ⟨n + 1, by omega, by go_num, by rw [HY.out]; exact K4⟩
                case measure => omega
              · obtain rfl : n = 40 * P := by omega
                have hli : ¬ ((40 * P : Nat) : Int) < 40 * P := by omega
                have CL := fun W h => level_any g i 2147483647 (lv P last (40 * P)) W h
                have LL := Lib.hid (fun (h : last ≤ 0) => lv_reached P1 t0 h)
                have LN := Lib.hid (fun (h : 0 ≤ last) => lv_near P1 t1 h)
                have LH := Lib.hid (fun (h : 0 ≤ last) => lv_high P1 h (40 * P))
                generalize lv P last (40 * P) = v at *
                clear HM NX HP
                go_wp2_with fail
                refine (CL _ K3.out.row).mono ?_; rintro e w3 ⟨rfl, rfl⟩
                clear CL
                go_wp2_with fail
                refine (AL _).mono ?_; rintro e w4 ⟨rfl, b4⟩
                have BB := Lib.hid (grow K3.out.below b4)
                clear K3 b4 AL
                by_cases hl : last ≤ 0
                · obtain rfl : v = last := LL.out hl
                  have f1 : decide (v ≤ max 0 v) = true := by simp; omega
                  have f2 : decide (0 < v) = false := by simp; omega
                  have f3 : decide (v ≤ 0) = true := by simp; omega
                  clear LL LN LH
                  go_wp2_with fail
                  go_ret
                  exact ⟨rfl, BB.out⟩
                · have h1 := LN.out (by omega)
                  obtain ⟨h2, h3⟩ := LH.out (by omega)
                  have f1 : decide (v ≤ max 0 last) = true := by simp; omega
                  have f2 : decide (0 < last) = true := by simp; omega
                  have f3 : decide (last ≤ 0) = false := by simp; omega
                  have f4 : decide (last - v < P) = true := by simp; omega
                  clear LL LN LH
                  go_wp2_with fail
                  go_ret
                  exact ⟨rfl, BB.out⟩
end driftBetween
end Go.Proofs.Ytnkjedgllfddmaa
