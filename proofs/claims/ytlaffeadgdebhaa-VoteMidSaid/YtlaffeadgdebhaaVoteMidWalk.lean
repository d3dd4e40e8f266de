/-
  The walk of the law VoteMid: for every rule, and every two lists, it returns true, and writes nothing that was there. No conditions.
-/
import Derived.Test.YtlaffeadgdebhaaVoteAlive
import Derived.Test.YtlaffeadgdebhaaAppend
import Derived.Deep.DeepCutAuto
import Derived.Deep.CutBlock
import Derived.Deep.RegionLaw
import Derived.Lib.MinMax
namespace Go.Proofs.Ytlaffeadgdebhaa
open Go.ChangeShapes Go.WideShapes Go.ChangeAt Go.RowKit Go.Deep
namespace voteMid
open Fx Od Vo

theorem intInfo : (Try.prog.info? 3).map (fun i => (i.zero, i.size, i.bytes)) = some (some (.int .i64 0), 1, 8) := by kernel_rfl
/-- What is asked of an append of a part of a list behind another part. -/
theorem room (l : List Int) (h : l.length ≤ 4) (k : Nat) : ([] : List Int).length + (l.drop k).length ≤ maxLen ∧ (([] : List Int).length + (l.drop k).length) * 8 ≤ 140737488355328 ∧
    ([] ++ l.drop k).length + (l.take k).length ≤ maxLen ∧ (([] ++ l.drop k).length + (l.take k).length) * 8 ≤ 140737488355328 := by
  simp only [List.nil_append, List.length_nil, List.length_drop, List.length_take, maxLen]
  omega

set_option maxRecDepth 100000 in
set_option maxHeartbeats 3200000 in
theorem main (lo hi clip : Int) (b off ca b' off' cb N : Nat) (V U : List Int) (t : Nat) (w : World) (hN : V.length = N) (hM : U.length = N) (hy : votb lo hi clip V U = true) (ht : t < 256) (hca : N ≤ ca) (hcb : N ≤ cb)
    (hV : IntsAt .i64 w (some ⟨b, off, none⟩) V) (hU : IntsAt .i64 w (some ⟨b', off', none⟩) U) :
    Calls Try.prog 4 #[.agg #[.int .i64 lo, .int .i64 hi, .int .i64 clip], .slice (some ⟨b, off, none⟩) N ca, .agg #[.slice (some ⟨b', off', none⟩) N cb, .int .u8 t]] w fun e w' => e = .returned (.bool true) ∧ Below w.heap.size w w' := by
  have hmb := (votb_iff.1 hy).1
  obtain ⟨hk, hn1, hn4⟩ := midb_iff.1 hmb
  have hr := (rmay_iff _ _ _).1 (votb_iff.1 hy).2.1
  have Mi := votb_mid hy
  have hin := vote_in hy
  have HMID := Lib.hid (vote_mid hy)
  have HBET := Lib.hid (vote_between hy)
  rw [hN] at hn1 hn4
  obtain ⟨k, hkk⟩ : ∃ k : Nat, k = t % N := ⟨_, rfl⟩
  have hkl : k < N := by rw [hkk]; exact Nat.mod_lt _ (by omega)
  have HTM := Lib.hid (show Int.tmod (t : Int) (N : Int) = (k : Int) by rw [hkk]; rfl)
  clear hkk
  have CV := fun W h h' => vote_any lo hi clip (some ⟨b, off, none⟩) (some ⟨b', off', none⟩) ca cb V U W (by omega) h h'
  have CZ := fun W h h' => vote_any lo hi 0 (some ⟨b, off, none⟩) (some ⟨b', off', none⟩) ca cb V U W (by omega) h h'
  have CT := fun a a' c c' W h h' => vote_any lo hi 0 a a' c c' (V.drop k ++ V.take k) (U.drop k ++ U.take k) W (by rw [turned_len]; omega) h h'
  have CM := fun W h => mid_any (some ⟨b, off, none⟩) ca V W (by omega) h
  have CS := fun W h => sort_any (some ⟨b, off, none⟩) ca V W (by omega) h
  rw [hy, hM, hN] at CV
  rw [vote_zero (votb_zero hy), votb_zero hy, hM, hN] at CZ
  rw [vote_turned (by omega) hy, votb_turned (by omega) (votb_zero hy), turned_len, turned_len, hM, hN] at CT
  obtain ⟨tv, htv⟩ : ∃ tv, V.drop k ++ V.take k = tv := ⟨_, rfl⟩
  obtain ⟨tu, htu⟩ : ∃ tu, U.drop k ++ U.take k = tu := ⟨_, rfl⟩
  have TL := Lib.hid (show tv.length = N by rw [← htv, turned_len]; exact hN)
  have TM := Lib.hid (show tu.length = N by rw [← htu, turned_len]; exact hM)
  have HTV := Lib.hid (show [] ++ V.drop k ++ V.take k = tv by rw [List.nil_append]; exact htv)
  have HTU := Lib.hid (show [] ++ U.drop k ++ U.take k = tu by rw [List.nil_append]; exact htu)
  rw [htv, htu] at CT
  clear htv htu
  rw [hmb, hN] at CM
  have hsrt : osort V = srt V := by unfold osort; rw [if_pos hk]
  rw [hsrt, hN] at CS
  have HSL := Lib.hid (show (srt V).length = N by rw [srt_len]; exact hN)
  rw [hN] at HBET
  have ROOMV := Lib.hid (room V (by omega) k)
  have ROOMU := Lib.hid (room U (by omega) k)
  have HDL := Lib.hid (show (V.drop k).length = N - k ∧ (V.take k).length = k ∧ (U.drop k).length = N - k ∧ (U.take k).length = k by simp only [List.length_drop, List.length_take]; omega)
  have HV := Lib.hid hV
  have HU := Lib.hid hU
  have m1 := Mi.m1
  have m2 := Mi.m2
  have c1 := Mi.c1
  have c2 := Mi.c2
  clear hV hU hy hmb hk Mi hsrt hM
  have HN := Lib.hid hN
  generalize votv lo hi clip V U = n at *
  generalize midv V = mid at *
  generalize srt V = s at *
  have h1 := hin.1
  have h2 := hin.2
  clear hin hN
  have g0 := Lib.hid (((Below.refl w.heap.size w).alloc (Nat.le_refl _) (.cells #[.int .i64 lo, .int .i64 hi, .int .i64 clip] 23)).alloc (by simp) (.cells #[.slice (some ⟨b', off', none⟩) N cb, .int .u8 t] 34))
  have r0 := Lib.hid ((rul_new w lo hi clip 23).alloc (.cells #[.slice (some ⟨b', off', none⟩) N cb, .int .u8 t] 34))
  have e1 : decide ((40 : Int) < N) = false := by simp; omega
  have e2 : decide (n < lo) = false := by simpa using h1
  have e3 : decide (hi < n) = false := by simpa using h2
  have e4 : ((N : Int) == 0) = false := by simp; omega
  have n1 : -9223372036854775808 ≤ mid + clip := by omega
  have n2 : mid + clip ≤ 9223372036854775807 := by omega
  have n3 : -9223372036854775808 ≤ mid - clip := by omega
  have n4 : mid - clip ≤ 9223372036854775807 := by omega
  clear h1 h2 hr m1 m2 c1 c2
  go_enter Try.func4, Try.ntmps4
  go_wp2_with fail
  refine (CV _ (HV.out.below g0.out) (HU.out.below g0.out)).mono ?_; rintro e w1 ⟨rfl, b1⟩
  have g1 := Lib.hid (grow g0.out b1); have r1 := Lib.hid (r0.out.below b1 r0.out.lt); clear b1 g0 r0 CV
  go_wp2_with fail
  refine (CM _ (HV.out.below g1.out)).mono ?_; rintro e w2 ⟨rfl, b2⟩
  have g2 := Lib.hid (grow g1.out b2); have r2 := Lib.hid (r1.out.below b2 r1.out.lt); clear b2 g1 r1 CM
  go_wp2_with fail
  refine (CS _ (HV.out.below g2.out)).mono ?_; rintro e w3 ⟨a3, c3, rfl, i3, b3⟩
  have g3 := Lib.hid (grow g2.out b3); have r3 := Lib.hid (r2.out.below b3 r2.out.lt); have I3 := Lib.hid i3; clear b3 g2 r2 CS i3
  rw [HSL.out]
  have cc := rul_cells r3.out
  go_upto_region 12 with fail
  go_cut [14] (fun s14 wx => s14 = .bool (inr lo hi mid) ∧ w3 = wx)
  case first =>
    cases q1 : decide (lo ≤ mid)
    · have HI := Lib.hid (show inr lo hi mid = false by unfold inr; rw [q1]; rfl)
      go_wp2_with fail
      go_meet
      exact ⟨by rw [HI.out], rfl⟩
    · have HI := Lib.hid (show inr lo hi mid = decide (mid ≤ hi) by unfold inr; rw [q1]; rfl)
      go_wp2_with fail
      go_meet
      exact ⟨by rw [HI.out], rfl⟩
  case rest =>
    obtain ⟨rfl, rfl⟩ := hcut
    have HI := Lib.hid (show inr lo hi mid = true → decide (mid + clip < n) = false ∧ decide (n < mid - clip) = false from fun h => by
      have h := (inr_iff _ _ _).1 h
      have := HMID.out h.1 h.2
      simp only [decide_eq_false_iff_not]; omega)
    clear HMID
    generalize inr lo hi mid = I at *
    go_upto_region 13 with fail
    go_cut [108] (fun s108 wx => s108 = .bool false ∧ w3 = wx)
    case first =>
      cases I
      · go_wp2_with fail
        go_meet
        exact ⟨rfl, rfl⟩
      · obtain ⟨q1, q2⟩ := HI.out rfl
        go_wp2_with fail
        go_meet
        exact ⟨rfl, rfl⟩
    case rest =>
      obtain ⟨rfl, rfl⟩ := hcut
      clear cc
      rcases I3.out with hno | ⟨bs, os, rfl, hcs⟩
      · have := HSL.out; rw [hno] at this; simp at this; omega
      go_upto_region 15 with fail
      go_cut [142] (fun s142 wx => s142 = .bool false ∧ Hid (∃ j, wx = w3.drewN j))
      case first =>
        obtain ⟨M, rfl⟩ : ∃ M, N = M + 1 := ⟨N - 1, by omega⟩
        have cc := rul_cells r3.out
        have x0 := hcs 0 (by have := HSL.out; omega)
        have x1 := hcs M (by have := HSL.out; omega)
        have HB := HBET.out
        rw [Nat.add_zero] at x0
        rw [Nat.add_sub_cancel] at HB
        have HB2 := Lib.hid HB
        have wm : IntKind.i64.wrap (M : Int) = M := IntWalk.i64_in _ (by omega)
        have p1 : (M : Int) < ((M + 1 : Nat) : Int) := by omega
        have p2 : (M : Int) < (M : Int) + 1 := by omega
        have p3 : 0 ≤ (M : Int) := by omega
        have p4 : (0 : Int) < (M : Int) + 1 := by omega
        clear hcs HB HBET HI
        generalize s.getD 0 0 = y0 at *
        generalize s.getD M 0 = y1 at *
        cases q1 : decide (lo ≤ y0)
        · go_quiet (fail)
          go_wp2_with fail
          go_meet
          exact ⟨rfl, Lib.hid ⟨_, rfl⟩⟩
        · cases q2 : decide (y1 ≤ hi)
          · go_quiet (fail)
            go_wp2_with fail
            go_meet
            exact ⟨rfl, Lib.hid ⟨_, rfl⟩⟩
          · have q := HB2.out (by simpa using q1) (by simpa using q2)
            have q3 : decide (n < y0) = false := by simpa using q.1
            have q4 : decide (y1 < n) = false := by simpa using q.2
            clear q
            go_quiet (fail)
            go_wp2_with fail
            go_meet
            exact ⟨rfl, Lib.hid ⟨_, rfl⟩⟩
      case rest =>
        obtain ⟨rfl, hj⟩ := hcut
        obtain ⟨j, rfl⟩ := hj.out
        clear hcs HBET HI hj I3 HSL e2 e3 n1 n2 n3 n4
        have f2 := (r3.out.drewN j).frozen 2
        have c2 := (rul_cells (r3.out.drewN j)).2.2
        have g4 := Lib.hid ((below_drewN g3.out j).setCell (p := ⟨w.heap.size, 2, none⟩) (Nat.le_refl _) (.int .i64 0))
        have r4 := Lib.hid (show VRow ((w3.drewN j).setCell ⟨w.heap.size, 2, none⟩ (.int .i64 0)) w.heap.size 23 (rul lo hi 0) from (r3.out.drewN j).set 2 (.int .i64 0))
        have cc := rul_cells r4.out
        clear g3 r3
        go_wp2_with fail
        refine (CZ _ (HV.out.below g4.out) (HU.out.below g4.out)).mono ?_; rintro e w5 ⟨rfl, b5⟩
        have g5 := Lib.hid (grow g4.out b5)
        have r5 := Lib.hid (r4.out.below b5 r4.out.lt)
        have hm := HTM.out
        have HV5 := Lib.hid (HV.out.below g5.out)
        have HU5 := Lib.hid (HU.out.below g5.out)
        clear b5 g4 r4 cc c2 f2 CZ
        generalize (w3.drewN j).setCell ⟨w.heap.size, 2, none⟩ (.int .i64 0) = w4 at *
        have k1 : (k : Int) ≤ (ca : Int) := by omega
        have k1' : (k : Int) ≤ (cb : Int) := by omega
        have k2 : 0 ≤ (k : Int) := by omega
        have k3 : (k : Int) ≤ (N : Int) := by omega
        have k4 : ¬ (ca = k) := by omega
        have k4' : ¬ (cb = k) := by omega
        have k5 : k ≤ N := by omega
        have k6 : k ≤ ca := by omega
        have k6' : k ≤ cb := by omega
        have k7 : ¬ ((N : Int) = 0) := by omega
        go_upto_region 20 with fail
        have HD := Lib.hid (show IntsAt .i64 w5 (some ⟨b, off + k, none⟩) (V.drop k) from by
          rcases HV5.out with h0 | ⟨_, _, h1, hc⟩
          · rw [h0]; exact Or.inl (by simp)
          · cases h1; exact intsAt_drop k hc)
        have HT := Lib.hid (HV5.out.take k)
        go_region_law (first
          | (refine step_appendI rfl (.tmp 156) (.tmp 159) _ rfl .i64 w5.heap.size 3 8 Try.underlying24 intInfo (.slice (some ⟨w5.heap.size, 0, none⟩) 0 0) [] (some ⟨b, off + k, none⟩) (N - k) (ca - k) (V.drop k) (by simp [Act.eval]) (by simp [Act.eval]) HDL.out.1 (OwnI.lit0 (Nat.le_refl _)).drew (HD.out.below ((Below.refl _ _).alloc (Nat.le_refl _) _)).drew ROOMV.out.1 ROOMV.out.2.1 w5 ((Below.refl _ _).alloc (Nat.le_refl _) _).drew (Nat.le_refl _) ?_; intro v160 w160 O160' B160'; have O160 := Lib.hid O160'; have B160 := Lib.hid B160'; clear O160' B160')
          | (refine step_appendI rfl (.tmp 160) (.tmp 163) _ rfl .i64 w5.heap.size 3 8 Try.underlying24 intInfo v160 ([] ++ V.drop k) (some ⟨b, off, none⟩) k ca (V.take k) (by simp [Act.eval]) (by simp [Act.eval]) HDL.out.2.1 O160.out (HT.out.below B160.out) ROOMV.out.2.2.1 ROOMV.out.2.2.2 w5 B160.out (Nat.le_refl _) ?_; intro v164 w164 O164' B164'; rw [HTV.out] at O164'; have B164 := Lib.hid B164'; obtain ⟨a164, c164, rfl, i164, j164⟩ := O164'.form2; have I164 := Lib.hid i164; clear O164' B164' i164 j164))
        rw [TL.out]
        have g6 := Lib.hid (grow g5.out B164.out)
        have r6 := Lib.hid (r5.out.below B164.out r5.out.lt)
        clear g5 r5 HD HT HV5 B164
        go_upto_region 21 with fail
        have HU6 := Lib.hid (HU.out.below g6.out)
        have HD := Lib.hid (show IntsAt .i64 w164 (some ⟨b', off' + k, none⟩) (U.drop k) from by
          rcases HU6.out with h0 | ⟨_, _, h1, hc⟩
          · rw [h0]; exact Or.inl (by simp)
          · cases h1; exact intsAt_drop k hc)
        have HT := Lib.hid (HU6.out.take k)
        go_region_law (first
          | (refine step_appendI rfl (.tmp 165) (.tmp 168) _ rfl .i64 w164.heap.size 3 8 Try.underlying24 intInfo (.slice (some ⟨w164.heap.size, 0, none⟩) 0 0) [] (some ⟨b', off' + k, none⟩) (N - k) (cb - k) (U.drop k) (by simp [Act.eval]) (by simp [Act.eval]) HDL.out.2.2.1 (OwnI.lit0 (Nat.le_refl _)).drew (HD.out.below ((Below.refl _ _).alloc (Nat.le_refl _) _)).drew ROOMU.out.1 ROOMU.out.2.1 w164 ((Below.refl _ _).alloc (Nat.le_refl _) _).drew (Nat.le_refl _) ?_; intro v169 w169 O169' B169'; have O169 := Lib.hid O169'; have B169 := Lib.hid B169'; clear O169' B169')
          | (refine step_appendI rfl (.tmp 169) (.tmp 172) _ rfl .i64 w164.heap.size 3 8 Try.underlying24 intInfo v169 ([] ++ U.drop k) (some ⟨b', off', none⟩) k cb (U.take k) (by simp [Act.eval]) (by simp [Act.eval]) HDL.out.2.2.2 O169.out (HT.out.below B169.out) ROOMU.out.2.2.1 ROOMU.out.2.2.2 w164 B169.out (Nat.le_refl _) ?_; intro v173 w173 O173' B173'; rw [HTU.out] at O173'; have B173 := Lib.hid B173'; obtain ⟨a173, c173, rfl, i173, j173⟩ := O173'.form2; have I173 := Lib.hid i173; clear O173' B173' i173 j173))
        rw [TM.out]
        have g7 := Lib.hid (grow g6.out B173.out)
        have r7 := Lib.hid (r6.out.below B173.out r6.out.lt)
        have J164 := Lib.hid (I164.out.below B173.out)
        clear g6 r6 HD HT HU6 B173 I164
        have cc := rul_cells r7.out
        go_wp2_with fail
        refine (CT _ _ _ _ _ J164.out I173.out).mono ?_; rintro e w8 ⟨rfl, b8⟩
        have g8 := Lib.hid (grow g7.out b8)
        have r8 := Lib.hid (r7.out.below b8 r7.out.lt)
        clear b8 g7 r7 cc J164 I173 CT
        go_wp2_with fail
        refine (alive_any _).mono ?_; rintro e w9 ⟨rfl, b9⟩
        have g9 := Lib.hid (grow g8.out b9)
        have cc := rul_cells (r8.out.below b9 r8.out.lt)
        clear b9 g8 r8
        go_wp2
        go_ret
        exact ⟨rfl, g9.out⟩

theorem u8_bd {n : Int} (h : (Lit.int .u8 n).wf = true) : ∃ t : Nat, n = (t : Int) ∧ t < 256 := by
  have h1 : IntKind.u8.min = 0 := rfl
  have h2 : IntKind.u8.max = 255 := rfl
  simp only [Lit.wf, Bool.and_eq_true, decide_eq_true_eq] at h
  exact ⟨n.toNat, by omega, by omega⟩
theorem some_at {w : World} {a : Option Addr} {l : List Int} (h : IntsAt .i64 w a l) (h1 : 1 ≤ l.length) : ∃ b off, a = some ⟨b, off, none⟩ := by
  rcases h with h0 | ⟨b, off, h2, _⟩
  · rw [h0] at h1; simp at h1
  · exact ⟨b, off, h2⟩

set_option maxRecDepth 100000 in
set_option maxHeartbeats 3200000 in
theorem walk (l : List Int) (a : Option Addr) (ca : Nat) (V : List Int) (b : Option Addr) (cb : Nat) (U : List Int) (t : Int) (w : World) (hl : l.length = 3) (_w0 : ∀ n ∈ l, (Lit.int .i64 n).wf = true)
    (m1 : V.length ≤ maxLen) (c1 : V.length ≤ ca ∧ ca ≤ maxLen) (_z1 : ca * 8 ≤ 140737488351232) (_f1 : ∀ n ∈ V, (Lit.int .i64 n).wf = true) (hV : IntsAt .i64 w a V)
    (c2 : U.length ≤ cb) (_m2 : cb ≤ maxLen) (_f2 : ∀ n ∈ U, (Lit.int .i64 n).wf = true) (hU : IntsAt .i64 w b U) (wt : (Lit.int .u8 t).wf = true) :
    Calls Try.prog 4 #[.agg (l.map (.int .i64)).toArray, .slice a V.length ca, .agg #[.slice b U.length cb, .int .u8 t]] w fun e w' => e = .returned (.bool true) ∧ Below w.heap.size w w' := by
  obtain ⟨lo, hi, clip, rfl⟩ := three hl
  show Calls Try.prog 4 #[.agg #[.int .i64 lo, .int .i64 hi, .int .i64 clip], .slice a V.length ca, .agg #[.slice b U.length cb, .int .u8 t]] w _
  unfold maxLen at m1
  have g0 := Lib.hid (((Below.refl w.heap.size w).alloc (Nat.le_refl _) (.cells #[.int .i64 lo, .int .i64 hi, .int .i64 clip] 23)).alloc (by simp) (.cells #[.slice b U.length cb, .int .u8 t] 34))
  by_cases h1 : 40 < V.length
  · have e1 : (40 : Int) < V.length := by omega
    clear hV hU
    go_enter Try.func4, Try.ntmps4
    go_wp2_with fail
    refine (alive_any _).mono ?_; rintro e w1 ⟨rfl, b1⟩
    go_wp2
    go_ret
    exact ⟨rfl, grow g0.out b1⟩
  · have e1 : decide ((40 : Int) < V.length) = false := by simp; omega
    by_cases h2 : 40 < U.length
    · have e2 : (40 : Int) < U.length := by omega
      clear hV hU
      go_enter Try.func4, Try.ntmps4
      go_wp2_with fail
      refine (alive_any _).mono ?_; rintro e w1 ⟨rfl, b1⟩
      go_wp2
      go_ret
      exact ⟨rfl, grow g0.out b1⟩
    · have e2 : decide ((40 : Int) < U.length) = false := by simp; omega
      cases hy : votb lo hi clip V U
      · have HV := Lib.hid hV
        have HU := Lib.hid hU
        have CV := fun W h h' => vote_any lo hi clip a b ca cb V U W (by omega) h h'
        rw [hy, votv_no hy] at CV
        clear hV hU hy h1 h2
        go_enter Try.func4, Try.ntmps4
        go_wp2_with fail
        refine (CV _ (HV.out.below g0.out) (HU.out.below g0.out)).mono ?_; rintro e w1 ⟨rfl, b1⟩
        have g1 := Lib.hid (grow g0.out b1)
        clear b1 g0 CV
        go_wp2_with fail
        refine (alive_any _).mono ?_; rintro e w2 ⟨rfl, b2⟩
        go_wp2
        go_ret
        exact ⟨rfl, grow g1.out b2⟩
      · obtain ⟨q1, q2, q3⟩ := votb_iff.1 hy
        obtain ⟨_, n1, _⟩ := midb_iff.1 q1
        have hUV := ((fits_iff _ _).1 q3).1
        obtain ⟨t', rfl, ht⟩ := u8_bd wt
        obtain ⟨b1, o1, rfl⟩ := some_at hV n1
        obtain ⟨b2, o2, rfl⟩ := some_at hU (by omega)
        have M := main lo hi clip b1 o1 ca b2 o2 cb V.length V U t' w rfl hUV.symm hy ht c1.1 (by omega) hV hU
        rw [← hUV]
        exact M
end voteMid
end Go.Proofs.Ytlaffeadgdebhaa
