/-
  What within, told, numbered, truthful and near of package scene do: their contracts by walking the Go text. Conditions: how the scene lies; that its configuration covers; that there is such a point.
  What truthful and near of package scene do: their contracts by walking the Go text. Conditions: how the scene lies; that its configuration covers; that there is such a point; for a truth, that the one ahead may be.
  What near of package scene does: its contract by walking the Go text. Conditions: how the scene lies; that its configuration covers; that there is such a point.
-/
import Derived.Test.YtpamegkbhdbheaaSceneLie
import Derived.Test.YtpamegkbhdbheaaFixWalks
namespace Go.Proofs.Ytpamegkbhdbheaa
set_option maxRecDepth 100000
open Go.ChangeShapes Go.WideShapes Go.ChangeAt Go.RowKit Go.Deep
namespace Sc
open Cf (G CA)

theorem within_any (n l h : Int) (w : World) :
    Calls Try.prog 27 #[.int .i64 n, .int .i64 l, .int .i64 h] w fun e w' => e = .returned (.bool (decide (l ≤ n) && decide (n ≤ h))) ∧ w = w' := by
  cases d1 : decide (l ≤ n) <;> cases d2 : decide (n ≤ h)
  all_goals
    go_enter Try.func27, Try.ntmps27
    go_wp2
    go_ret
    exact ⟨rfl, rfl⟩

theorem told_any (p : Pt) (k n : Nat) (x : Int) (w : World) (h8 : p.t.length = 8) (h32 : p.o.length = 32) (hk : k < 4) (hn : n < 8) (hx : p.t.getD n 0 + p.o.getD (k * 8 + n) 0 = x) (hb : -9223372036854775808 ≤ x ∧ x ≤ 9223372036854775807) :
    Calls Try.prog 24 #[.agg (ptv p).toArray, .int .i64 k, .int .i64 n] w fun e w' => e = .returned (.int .i64 x) ∧ Below w.heap.size w w' := by
  have V := VRow.new w (ptv p) 59
  have B0 := Lib.hid (below_new w (ptv p).toArray 59)
  have c1 := V.cell n (ptv_t h8 h32 n hn)
  have c2 := V.cell (8 + (k * 8 + n)) (ptv_o h8 h32 (k * 8 + n) (by omega))
  rw [← Nat.add_assoc] at c2
  have k4 : (k : Int) < 4 := by omega
  have n8 : (n : Int) < 8 := by omega
  generalize p.t.getD n 0 = A at *
  generalize p.o.getD (k * 8 + n) 0 = C at *
  have hw : IntKind.i64.wrap x = x := IntWalk.i64_in _ (by omega)
  clear V h8 h32 hk hn hb
  go_enter Try.func24, Try.ntmps24
  go_upto_region 1 with fail
  generalize w.alloc (.cells (ptv p).toArray 59) = w0 at *
  go_quiet (fail)
  go_wp2
  go_ret
  exact ⟨rfl, below_drewN B0.out _⟩
section
variable (s : Sn) (a : Option Addr) (cap : Nat) (w : World) (L : Lens s) (hp : PsAt w a s.ps)
include L hp
set_option maxHeartbeats 1600000 in
theorem numbered_any (C : Cv s) :
    Calls Try.prog 28 #[.agg (scv s a cap).toArray] w fun e w' => e = .returned (.bool (num s)) ∧ Below w.heap.size w w' := by
  have X0 := Lib.hid (At.new (cap := cap) L hp)
  have B0 := Lib.hid (below_new w (scv s a cap).toArray 27)
  have HC := Lib.hid C
  have c0 := X0.out.c 0 (by omega)
  rw [C.eq] at c0
  have h4 : (NN s : Int) ≤ 4 := by have := C.nn; omega
  have h0 : 0 ≤ (NN s : Int) := by omega
  have HN := Lib.hid (show ∀ k, k < NN s → num1 s k = false → num s = false from fun k hk h => all_range_no hk h)
  have HY := Lib.hid (show (∀ k, k < NN s → num1 s k = true) → num s = true from fun h => all_range.2 h)
  clear C L hp
  generalize NN s = m at *
  generalize num s = ans at *
  go_enter Try.func28, Try.ntmps28
  go_upto_region 1 with fail
  generalize w.alloc (.cells (scv s a cap).toArray 27) = w0 at *
  go_wp2_with fail
  go_loopg [4, 11] m (fun gg _ s11 wr => ∃ k : Nat, k + gg = m ∧ s11 = .int .i64 k ∧ w0 = wr ∧ Hid (∀ j, j < k → num1 s j = true))
  case atStart => exact ⟨0, by omega, rfl, rfl, Lib.hid (fun j hj => by omega)⟩
  case round =>
    obtain ⟨k, hk, rfl, rfl, HA⟩ := hrel
    have HK := Lib.hid hk
    clear hk
    by_cases hlt : k < m
    · have hli : (k : Int) < m := by omega
      have ck := X0.out.q k (by omega)
      have HV := Lib.hid (show num1 s k = (decide (0 ≤ qv s k) && decide (qv s k ≤ 65535)) from rfl)
      generalize qv s k = x at *
      cases hv : (decide (0 ≤ x) && decide (x ≤ 65535))
      · have HF := Lib.hid (HN.out k hlt (HV.out.trans hv))
        have CW := fun W => within_any x 0 65535 W
        rw [hv] at CW
        clear hlt hv
        go_wp2_with fail
        refine (CW _).mono ?_; rintro e w1 ⟨rfl, rfl⟩
        go_wp2_with fail
        go_ret
        exact ⟨ret_bool HF.out.symm, B0.out⟩
      · have HT := Lib.hid (show ∀ j, j < k + 1 → num1 s j = true from fun j hj => by
          rcases Nat.lt_succ_iff_lt_or_eq.1 hj with h | rfl
          · exact HA.out j h
          · exact HV.out.trans hv)
        have CW := fun W => within_any x 0 65535 W
        rw [hv] at CW
        clear hlt hv
        go_wp2_with fail
        refine (CW _).mono ?_; rintro e w1 ⟨rfl, rfl⟩
        go_wp2_with fail
        go_roundg (gk - 1)
        case rel => exact ⟨k + 1, by have := HK.out; omega, by go_num, rfl, HT⟩
        case measure => have := HK.out; omega
    · obtain rfl : k = m := by have := HK.out; omega
      have HF := Lib.hid (HY.out HA.out)
      go_wp2_with fail
      go_ret
      exact ⟨ret_bool HF.out.symm, B0.out⟩
end
end Sc
end Go.Proofs.Ytpamegkbhdbheaa

namespace Go.Proofs.Ytpamegkbhdbheaa
set_option maxRecDepth 100000
open Go.ChangeShapes Go.WideShapes Go.ChangeAt Go.RowKit Go.Deep
namespace Sc
open Cf (G CA)

theorem apart_is {x y : Int} (hx : -4294967296 ≤ x ∧ x ≤ 4294967296) (hy : -4294967296 ≤ y ∧ y ≤ 4294967296) (r : Int) : decide (r < Fx.apart x y) = !(decide (x - y ≤ r) && decide (y - x ≤ r)) := by
  unfold Fx.apart Fx.sm
  rw [if_pos ⟨by simp; omega, by simp; omega⟩]
  split <;> by_cases h1 : x - y ≤ r <;> by_cases h2 : y - x ≤ r <;> simp [h1, h2] <;> omega
section
variable (s : Sn) (a : Option Addr) (cap : Nat) (w : World) (L : Lens s) (hp : PsAt w a s.ps) (C : Cv s) (i : Nat) (hi : i < s.ps.length)
include L hp C hi
set_option maxHeartbeats 3200000 in
theorem truthful_any (hpr : i ≠ 0 → tok s (i - 1) = true) :
    Calls Try.prog 42 #[.agg (scv s a cap).toArray, .int .i64 i] w fun e w' => e = .returned (.bool (tok s i)) ∧ Below w.heap.size w w' := by
  have X0 := Lib.hid (Bd.new (cap := cap) L hp)
  obtain ⟨b, off, rfl, -⟩ := hp.at_ hi
  have HI := Lib.hid hi
  have HC := Lib.hid C
  have HLN := Lib.hid L.n
  have hli : (i : Int) < s.ps.length := by omega
  have P := X0.out.at_.ps.here hi
  have RT := Lib.hid P.rt
  have ST := Lib.hid (size8 P.t8)
  have IX := Lib.hid (fun n hn W => idx8 P.t8 n hn W)
  have c28 := X0.out.at_.p
  have HN := Lib.hid (show ∀ n, n < 8 → tok1 s i n = false → tok s i = false from fun n hn h => all_range_no hn h)
  have HY := Lib.hid (show (∀ n, n < 8 → tok1 s i n = true) → tok s i = true from fun h => all_range.2 h)
  have HP := Lib.hid (fun (h0 : i ≠ 0) n (hn : n < 8) => tok_1 (hpr h0) hn)
  have HT := Lib.hid (show ∀ n, (pt s i).t.getD n 0 = tv s i n from fun n => rfl)
  clear L hp C hi P hpr
  generalize tok s i = ans at *
  go_enter Try.func42, Try.ntmps42
  go_upto_region 1 with fail
  generalize w.alloc (.cells (scv s (some ⟨b, off, none⟩) cap).toArray 27) = w0 at *
  generalize hg : w.heap.size = g at *
  go_wp2_with ((with_reducible show wpList _ _ _ (⟨some 12, _, _, _, _, _⟩ :: _) _ _); refine wpList_load_mid rfl _ _ rfl b (off + i * 42) rfl (cellsI .i64 (pt s i).t) _ RT.out Try.underlying50 rfl ST.out ?_)
  clear RT ST c28
  generalize (cellsI .i64 (pt s i).t).toArray = TA at *
  go_loopg [5, 6, 13] 8 (fun gg _ _ s13 wr => ∃ n : Nat, n + gg = 8 ∧ s13 = .int .i64 n ∧ Hid (∀ j, j < n → tok1 s i j = true) ∧ Hid (Bd w wr g s (some ⟨b, off, none⟩) cap))
  case atStart => exact ⟨0, by omega, rfl, Lib.hid (fun j hj => by omega), X0⟩
  case round =>
    clear X0
    rename World => W
    obtain ⟨n, hn, rfl, HA, D⟩ := hrel
    have HK := Lib.hid hn
    clear hn
    by_cases hlt : n < 8
    · have hli8 : (n : Int) < 8 := by omega
      have ix := fun W => IX.out n hlt W
      rw [HT.out n] at ix
      have q1 := D.out.at_.c 1 (by omega)
      have q2 := D.out.at_.c 2 (by omega)
      have q3 := D.out.at_.e
      have q4 := D.out.at_.r
      have q5 := D.out.at_.p
      have HV := Lib.hid (show tok1 s i n = (inT s (tv s i n) && (decide (i = 0) || (decide (tv s i n - tv s (i - 1) n ≤ s.r) && decide (tv s (i - 1) n - tv s i n ≤ s.r)))) from rfl)
      have HW := Lib.hid (show inT s (tv s i n) = (decide (G s.c 1 + s.e ≤ tv s i n) && decide (tv s i n ≤ G s.c 2 - s.e)) from rfl)
      have CW := fun W => within_any (tv s i n) (G s.c 1 + s.e) (G s.c 2 - s.e) W
      have z1 := HC.out.lo
      have z2 := HC.out.hi
      have z3 := HC.out.e
      have z5 := HC.out.w
      have HZ := Lib.hid (show inT s (tv s i n) = true → G s.c 1 + s.e ≤ tv s i n ∧ tv s i n ≤ G s.c 2 - s.e from fun h => by rw [HW.out] at h; simpa using h)
      have HPn := Lib.hid (fun (h0 : i ≠ 0) => HP.out h0 n hlt)
      rw [← HW.out] at CW
      clear HW
      generalize inT s (tv s i n) = bt at *
      cases bt
      · have HF := Lib.hid (HN.out n hlt (by rw [HV.out]; rfl))
        clear hlt
        generalize tv s i n = x at *
        generalize G s.c 1 = c1 at *
        generalize G s.c 2 = c2 at *
        generalize s.e = ee at *
        go_wp2_with fail
        refine (CW _).mono ?_; rintro e w1 ⟨rfl, rfl⟩
        go_wp2_with fail
        go_ret
        exact ⟨ret_bool HF.out.symm, hg ▸ D.out.below⟩
      · have HB := Lib.hid (HZ.out rfl)
        by_cases h0 : i = 0
        · have HS := Lib.hid (show ∀ j, j < n + 1 → tok1 s i j = true from fun j hj => by
            rcases Nat.lt_succ_iff_lt_or_eq.1 hj with h | rfl
            · exact HA.out j h
            · rw [HV.out]; simp [h0])
          have d0 : decide (0 < i) = false := by simp; omega
          clear hlt h0 HZ
          generalize tv s i n = x at *
          generalize G s.c 1 = c1 at *
          generalize G s.c 2 = c2 at *
          generalize s.e = ee at *
          go_wp2_with fail
          refine (CW _).mono ?_; rintro e w1 ⟨rfl, rfl⟩
          go_upto_region 6 with fail
          go_quiet (fail)
          have bd := below_drewN (Below.refl W.heap.size W) nq
          have D2 := Lib.hid (D.out.on bd)
          clear bd D q1 q2 q3 q4 q5
          generalize W.drewN nq = W2 at *
          go_wp2_with fail
          go_roundg (gk - 1)
          case rel => exact ⟨n + 1, by have := HK.out; omega, by go_num, HS, D2⟩
          case measure => have := HK.out; omega
        · have d0 : decide (0 < i) = true := by simp; omega
          obtain ⟨j, hj⟩ : ∃ j, i = j + 1 := ⟨i - 1, by omega⟩
          have e1 : (i : Int) - 1 = (j : Nat) := by omega
          have hjl : (j : Int) < s.ps.length := by omega
          have p1 : IntKind.i64.wrap (j : Int) = (j : Int) := IntWalk.i64_in _ (by have := HLN.out; omega)
          have cj := (D.out.at_.ps.here (i := j) (by have := HI.out; omega)).t n hlt
          have hyx : (pt s j).t.getD n 0 = tv s (i - 1) n := by rw [hj]; rfl
          rw [hyx] at cj
          have AP := fun W => Fx.apart_any (tv s i n) (tv s (i - 1) n) W
          have hpn := HPn.out h0
          have hd := apart_is (x := tv s i n) (y := tv s (i - 1) n) (by have := HB.out; omega) (by omega) s.r
          generalize Fx.apart (tv s i n) (tv s (i - 1) n) = dd at *
          have HV2 : tok1 s i n = (decide (tv s i n - tv s (i - 1) n ≤ s.r) && decide (tv s (i - 1) n - tv s i n ≤ s.r)) := by rw [HV.out]; simp [h0]
          cases hq : (decide (tv s i n - tv s (i - 1) n ≤ s.r) && decide (tv s (i - 1) n - tv s i n ≤ s.r))
          · rw [hq] at hd
            have HF := Lib.hid (HN.out n hlt (by rw [HV2, hq]))
            clear hlt HZ hq HV2 hj hyx hpn HPn h0 HB HV
            generalize tv s i n = x at *
            generalize tv s (i - 1) n = y at *
            generalize G s.c 1 = c1 at *
            generalize G s.c 2 = c2 at *
            generalize s.e = ee at *
            generalize s.r = rr at *
            have hd : decide (rr < dd) = true := hd
            go_wp2_with fail
            refine (CW _).mono ?_; rintro e w1 ⟨rfl, rfl⟩
            go_upto_region 6 with fail
            go_quiet (exact Calls.quiet_of_same ((AP _).mono fun e w' q => ⟨q.1, q.2.symm⟩))
            have bd := below_drewN (Below.refl W.heap.size W) nq
            have D2 := Lib.hid (D.out.on bd)
            clear bd D q1 q2 q3 q4 q5
            generalize W.drewN nq = W2 at *
            go_wp2_with fail
            go_ret
            exact ⟨ret_bool HF.out.symm, hg ▸ D2.out.below⟩
          · rw [hq] at hd
            have HS := Lib.hid (show ∀ j, j < n + 1 → tok1 s i j = true from fun j hj => by
              rcases Nat.lt_succ_iff_lt_or_eq.1 hj with h | rfl
              · exact HA.out j h
              · rw [HV2, hq])
            clear hlt HZ hq HV2 hj hyx hpn HPn h0 HB HV
            generalize tv s i n = x at *
            generalize tv s (i - 1) n = y at *
            generalize G s.c 1 = c1 at *
            generalize G s.c 2 = c2 at *
            generalize s.e = ee at *
            generalize s.r = rr at *
            have hd : decide (rr < dd) = false := hd
            go_wp2_with fail
            refine (CW _).mono ?_; rintro e w1 ⟨rfl, rfl⟩
            go_upto_region 6 with fail
            go_quiet (exact Calls.quiet_of_same ((AP _).mono fun e w' q => ⟨q.1, q.2.symm⟩))
            have bd := below_drewN (Below.refl W.heap.size W) nq
            have D2 := Lib.hid (D.out.on bd)
            clear bd D q1 q2 q3 q4 q5
            generalize W.drewN nq = W2 at *
            go_wp2_with fail
            go_roundg (gk - 1)
            case rel => exact ⟨n + 1, by have := HK.out; omega, by go_num, HS, D2⟩
            case measure => have := HK.out; omega
    · obtain rfl : n = 8 := by have := HK.out; omega
      have HF := Lib.hid (HY.out HA.out)
      go_wp2_with fail
      go_ret
      exact ⟨ret_bool HF.out.symm, hg ▸ D.out.below⟩
end
end Sc
end Go.Proofs.Ytpamegkbhdbheaa

namespace Go.Proofs.Ytpamegkbhdbheaa
set_option maxRecDepth 100000
open Go.ChangeShapes Go.WideShapes Go.ChangeAt Go.RowKit Go.Deep
namespace Sc
open Cf (G CA)

section
variable (s : Sn) (a : Option Addr) (cap : Nat) (w : World) (L : Lens s) (hp : PsAt w a s.ps) (C : Cv s) (i : Nat) (hi : i < s.ps.length)
include L hp C hi
set_option maxHeartbeats 3200000 in
theorem near_any :
    Calls Try.prog 43 #[.agg (scv s a cap).toArray, .int .i64 i] w fun e w' => e = .returned (.bool (nok s i)) ∧ Below w.heap.size w w' := by
  have X0 := Lib.hid (Bd.new (cap := cap) L hp)
  obtain ⟨b, off, rfl, -⟩ := hp.at_ hi
  have HI := Lib.hid hi
  have HC := Lib.hid C
  have hli : (i : Int) < s.ps.length := by omega
  have P := X0.out.at_.ps.here hi
  have H32 := Lib.hid P.o32
  have c28 := X0.out.at_.p
  have c0 := X0.out.at_.c 0 (by omega)
  rw [C.eq] at c0
  have h4 : (NN s : Int) ≤ 4 := by have := C.nn; omega
  have h0 : 0 ≤ (NN s : Int) := by omega
  have HN := Lib.hid (show ∀ k, k < NN s → nok1 s i k = false → nok s i = false from fun k hk h => all_range_no hk h)
  have HY := Lib.hid (show (∀ k, k < NN s → nok1 s i k = true) → nok s i = true from fun h => all_range.2 h)
  clear L hp C hi P
  generalize nok s i = ans at *
  generalize hm : NN s = m at *
  go_enter Try.func43, Try.ntmps43
  go_upto_region 1 with fail
  generalize w.alloc (.cells (scv s (some ⟨b, off, none⟩) cap).toArray 27) = w0 at *
  generalize hg : w.heap.size = g at *
  go_quiet (fail)
  have bd := below_drewN (Below.refl w0.heap.size w0) nq
  have X1 := Lib.hid (X0.out.on bd)
  clear bd X0 c28 c0
  generalize w0.drewN nq = w1 at *
  go_wp2_with fail
  go_loopg [5, 6, 8, 19, 28, 29] m (fun gg _ _ _ s19 _ _ wr => ∃ k : Nat, k + gg = m ∧ s19 = .int .i64 k ∧ Hid (∀ j, j < k → nok1 s i j = true) ∧ Hid (Bd w wr g s (some ⟨b, off, none⟩) cap))
  case atStart => exact ⟨0, by omega, rfl, Lib.hid (fun j hj => by omega), X1⟩
  case round =>
    clear X1
    rename World => W
    obtain ⟨k, hk, rfl, HA, D⟩ := hrel
    have HK := Lib.hid hk
    clear hk
    by_cases hlt : k < m
    · have hlk : (k : Int) < m := by omega
      have P := D.out.at_.ps.here HI.out
      have RO := Lib.hid (P.ro k (by omega))
      have h8 := off8 P.o32 k (by omega)
      have SO := Lib.hid (size8 h8)
      have IX := Lib.hid (fun n (hn : n < 8) W => idx8 h8 n hn W)
      have HO := Lib.hid (show ∀ n, n < 8 → (((pt s i).o.drop (k * 8)).take 8).getD n 0 = ov s i k n from fun n hn => off_at k n hn)
      have V1 := (VRow.new W [.int .i64 0, .int .i64 0, .int .i64 0, .int .i64 0, .int .i64 0, .int .i64 0, .int .i64 0, .int .i64 0] 50).put (cellsI .i64 (((pt s i).o.drop (k * 8)).take 8))
      have B1 : Below W.heap.size W ((W.alloc (.cells #[.int .i64 0, .int .i64 0, .int .i64 0, .int .i64 0, .int .i64 0, .int .i64 0, .int .i64 0, .int .i64 0] 50)).setRow W.heap.size (cellsI .i64 (((pt s i).o.drop (k * 8)).take 8)).toArray) := Below.put ((Below.refl _ W).alloc (Nat.le_refl _) _) (Nat.le_refl _) _
      have VV := Lib.hid V1
      have D1 := Lib.hid (D.out.on B1)
      have AO := Lib.hid (show (cellsI .i64 (((pt s i).o.drop (k * 8)).take 8)).toArray.all (·.oneCell') = true from all_oneCell_toArray (cellsI_one _ _))
      have LO := Lib.hid (show ([.int .i64 0, .int .i64 0, .int .i64 0, .int .i64 0, .int .i64 0, .int .i64 0, .int .i64 0, .int .i64 0] : List Value).length = (cellsI .i64 (((pt s i).o.drop (k * 8)).take 8)).length by rw [cellsI, List.length_map, h8]; rfl)
      have H1 := Lib.hid (show nok1 s i k = (decide ((k : Int) = s.odd) || (List.range 8).all (nok2 s i k)) from rfl)
      clear P h8 V1 B1
      go_upto_region 4 with (first
        | ((with_reducible show wpList _ _ _ (⟨some 23, _, _, _, _, _⟩ :: _) _ _); refine wpList_load_mid rfl _ _ rfl b (off + i * 42 + 8 + k * 8) rfl (cellsI .i64 (((pt s i).o.drop (k * 8)).take 8)) _ RO.out Try.underlying50 rfl SO.out ?_)
        | ((with_reducible show wpList _ _ _ (⟨none, .store _ (.tmp 6) _, _, _, _, _⟩ :: _) _ _); refine VB.store rfl _ _ rfl W.heap.size (cellsI .i64 (((pt s i).o.drop (k * 8)).take 8)) rfl rfl (VRow.new W [.int .i64 0, .int .i64 0, .int .i64 0, .int .i64 0, .int .i64 0, .int .i64 0, .int .i64 0, .int .i64 0] 50) SO.out LO.out AO.out ?_))
      generalize (W.alloc (.cells #[.int .i64 0, .int .i64 0, .int .i64 0, .int .i64 0, .int .i64 0, .int .i64 0, .int .i64 0, .int .i64 0] 50)).setRow W.heap.size (cellsI .i64 (((pt s i).o.drop (k * 8)).take 8)).toArray = W1 at *
      generalize W.heap.size = pg at *
      clear RO D AO LO
      have q1 := D1.out.at_.odd
      by_cases hod : (k : Int) = s.odd
      · have d1 : ((k : Int) == s.odd) = true := by simp [hod]
        have HS := Lib.hid (show ∀ j, j < k + 1 → nok1 s i j = true from fun j hj => by
          rcases Nat.lt_succ_iff_lt_or_eq.1 hj with h | rfl
          · exact HA.out j h
          · rw [H1.out]; simp [hod])
        clear hod hlt
        generalize s.odd = od at *
        go_wp2_with fail
        go_roundg (gk - 1)
        case rel => exact ⟨k + 1, by have := HK.out; omega, by go_num, HS, D1⟩
        case measure => have := HK.out; omega
      · have d1 : ((k : Int) == s.odd) = false := by simp [hod]
        have HE := Lib.hid (show nok1 s i k = (List.range 8).all (nok2 s i k) by rw [H1.out]; simp [hod])
        clear hod
        generalize s.odd = od at *
        go_upto_region 5 with fail
        go_wp2_with ((with_reducible show wpList _ _ _ (⟨some 28, _, _, _, _, _⟩ :: _) _ _); refine VB.loaded rfl _ rfl pg rfl VV.out Try.underlying50 rfl SO.out ?_)
        clear VV SO q1
        generalize (cellsI .i64 (((pt s i).o.drop (k * 8)).take 8)).toArray = TA at *
        go_loopg [8, 29] 8 (fun gg _ s29 wr => ∃ n : Nat, n + gg = 8 ∧ s29 = .int .i64 n ∧ W1 = wr ∧ Hid (∀ j, j < n → nok2 s i k j = true))
        case atStart => exact ⟨0, by omega, rfl, rfl, Lib.hid (fun j hj => by omega)⟩
        case round =>
          obtain ⟨n, hn, rfl, rfl, HB⟩ := hrel
          have HM := Lib.hid hn
          clear hn
          by_cases hl8 : n < 8
          · have hli8 : (n : Int) < 8 := by omega
            have ix := fun W => IX.out n hl8 W
            rw [HO.out n hl8] at ix
            have q3 := D1.out.at_.e
            have z3 := HC.out.e
            have HV := Lib.hid (show nok2 s i k n = (decide (-s.e ≤ ov s i k n) && decide (ov s i k n ≤ s.e)) from rfl)
            have CW := fun W => within_any (ov s i k n) (-s.e) s.e W
            rw [← HV.out] at CW
            generalize hbt : nok2 s i k n = bt at *
            have HBT := Lib.hid hbt
            clear hbt
            generalize ov s i k n = x at *
            generalize s.e = ee at *
            cases bt
            · have HF := Lib.hid (HN.out k hlt (by rw [HE.out]; exact all_range_no hl8 HBT.out))
              clear hl8 hlt
              go_wp2_with fail
              refine (CW _).mono ?_; rintro e w1 ⟨rfl, rfl⟩
              go_wp2_with fail
              go_ret
              exact ⟨ret_bool HF.out.symm, hg ▸ D1.out.below⟩
            · have HS := Lib.hid (show ∀ j, j < n + 1 → nok2 s i k j = true from fun j hj => by
                rcases Nat.lt_succ_iff_lt_or_eq.1 hj with h | rfl
                · exact HB.out j h
                · exact HBT.out)
              clear hl8 hlt
              go_wp2_with fail
              refine (CW _).mono ?_; rintro e w1 ⟨rfl, rfl⟩
              go_wp2_with fail
              go_roundg (gk - 1)
              case rel => exact ⟨n + 1, by have := HM.out; omega, by go_num, rfl, HS⟩
              case measure => have := HM.out; omega
          · obtain rfl : n = 8 := by have := HM.out; omega
            have HS := Lib.hid (show ∀ j, j < k + 1 → nok1 s i j = true from fun j hj => by
              rcases Nat.lt_succ_iff_lt_or_eq.1 hj with h | rfl
              · exact HA.out j h
              · rw [HE.out]; exact all_range.2 HB.out)
            go_wp2_with fail
            go_roundg (m - k - 1)
            case rel => exact ⟨k + 1, by have := HK.out; omega, by go_num, HS, D1⟩
            case measure => have := HK.out; omega
    · obtain rfl : k = m := by have := HK.out; omega
      have HF := Lib.hid (HY.out HA.out)
      go_wp2_with fail
      go_ret
      exact ⟨ret_bool HF.out.symm, hg ▸ D.out.below⟩
end
end Sc
end Go.Proofs.Ytpamegkbhdbheaa
