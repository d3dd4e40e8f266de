/-
  What within, told, numbered, truthful and near of package scene do: their contracts by walking the Go text. Conditions: how the scene lies; that its configuration covers; that there is such a point.
  What truthful and near of package scene do: their contracts by walking the Go text. Conditions: how the scene lies; that its configuration covers; that there is such a point; for a truth, that the one ahead may be.
  What near of package scene does: its contract by walking the Go text. Conditions: how the scene lies; that its configuration covers; that there is such a point.
  What pointsFault, Fault and has of package scene do: their contracts by walking the Go text. Conditions: how the scene lies.
-/
import Derived.Test.YtchnnpaebggfdaaSceneLie
import Derived.Test.YtchnnpaebggfdaaFixWalks
namespace Go.Proofs.Ytchnnpaebggfdaa
set_option maxRecDepth 100000
open Go.ChangeShapes Go.WideShapes Go.ChangeAt Go.RowKit Go.Deep
namespace Sc
open Cf (G CA)
theorem within_any (n l h : Int) (w : World) :
    Calls Try.prog 43 #[.int .i64 n, .int .i64 l, .int .i64 h] w fun e w' => e = .returned (.bool (decide (l ≤ n) && decide (n ≤ h))) ∧ w = w' := by
  cases d1 : decide (l ≤ n) <;> cases d2 : decide (n ≤ h)
  all_goals
    go_enter Try.func43, Try.ntmps43
    go_wp2
    go_ret
    exact ⟨rfl, rfl⟩
theorem told_any (p : Pt) (k n : Nat) (x : Int) (w : World) (h8 : p.t.length = 8) (h32 : p.o.length = 32) (hk : k < 4) (hn : n < 8) (hx : p.t.getD n 0 + p.o.getD (k * 8 + n) 0 = x) (hb : -9223372036854775808 ≤ x ∧ x ≤ 9223372036854775807) :
    Calls Try.prog 30 #[.agg (ptv p).toArray, .int .i64 k, .int .i64 n] w fun e w' => e = .returned (.int .i64 x) ∧ Below w.heap.size w w' := by
  have V := VRow.new w (ptv p) 63
  have B0 := Lib.hid (below_new w (ptv p).toArray 63)
  have c1 := V.cell n (ptv_t h8 h32 n hn)
  have c2 := V.cell (8 + (k * 8 + n)) (ptv_o h8 h32 (k * 8 + n) (by omega))
  rw [← Nat.add_assoc] at c2
  have k4 : (k : Int) < 4 := by omega
  have n8 : (n : Int) < 8 := by omega
  generalize p.t.getD n 0 = A at *
  generalize p.o.getD (k * 8 + n) 0 = C at *
  have hw : IntKind.i64.wrap x = x := IntWalk.i64_in _ (by omega)
  clear V h8 h32 hk hn hb
  go_enter Try.func30, Try.ntmps30
  go_upto_region 1 with fail
  generalize w.alloc (.cells (ptv p).toArray 63) = w0 at *
  go_quiet (fail)
  go_wp2
  go_ret
  exact ⟨rfl, below_drewN B0.out _⟩
section
variable (s : Sn) (a : Option Addr) (cap : Nat) (w : World) (L : Lens s) (hp : PsAt w a s.ps)
include L hp
set_option maxHeartbeats 1600000 in
theorem numbered_any (C : Cv s) :
    Calls Try.prog 45 #[.agg (scv s a cap).toArray] w fun e w' => e = .returned (.bool (num s)) ∧ Below w.heap.size w w' := by
  have X0 := Lib.hid (At.new (cap := cap) L hp)
  have B0 := Lib.hid (below_new w (scv s a cap).toArray 27)
  have HC := Lib.hid C
  have c0 := X0.out.c 0 (by omega)
  rw [C.eq] at c0
  have h4 : (NN s : Int) ≤ 4 := by have := C.nn; omega
  have h0 : 0 ≤ (NN s : Int) := by omega
  have HN := Lib.hid (show ∀ k, k < NN s → num1 s k = false → num s = false from fun k hk h => all_range_no hk h)
  have HY := Lib.hid (show (∀ k, k < NN s → num1 s k = true) → num s = true from fun h => all_range.2 h)
  clear C L hp
  generalize NN s = m at *
  generalize num s = ans at *
  go_enter Try.func45, Try.ntmps45
  go_upto_region 1 with fail
  generalize w.alloc (.cells (scv s a cap).toArray 27) = w0 at *
  go_wp2_with fail
  go_loopg [4, 11] m (fun gg _ s11 wr => ∃ k : Nat, k + gg = m ∧ s11 = .int .i64 k ∧ w0 = wr ∧ Hid (∀ j, j < k → num1 s j = true))
  case atStart => exact ⟨0, by omega, rfl, rfl, Lib.hid (fun j hj => by omega)⟩
  case round =>
    obtain ⟨k, hk, rfl, rfl, HA⟩ := hrel
    have HK := Lib.hid hk
    clear hk
    by_cases hlt : k < m
    · have hli : (k : Int) < m := by omega
      have ck := X0.out.q k (by omega)
      have HV := Lib.hid (show num1 s k = (decide (0 ≤ qv s k) && decide (qv s k ≤ 65535)) from rfl)
      generalize qv s k = x at *
      cases hv : (decide (0 ≤ x) && decide (x ≤ 65535))
      · have HF := Lib.hid (HN.out k hlt (HV.out.trans hv))
        have CW := fun W => within_any x 0 65535 W
        rw [hv] at CW
        clear hlt hv
        go_wp2_with fail
        refine (CW _).mono ?_; rintro e w1 ⟨rfl, rfl⟩
        go_wp2_with fail
        go_ret
        exact ⟨ret_bool HF.out.symm, B0.out⟩
      · have HT := Lib.hid (show ∀ j, j < k + 1 → num1 s j = true from fun j hj => by
          rcases Nat.lt_succ_iff_lt_or_eq.1 hj with h | rfl
          · exact HA.out j h
          · exact HV.out.trans hv)
        have CW := fun W => within_any x 0 65535 W
        rw [hv] at CW
        clear hlt hv
        go_wp2_with fail
        refine (CW _).mono ?_; rintro e w1 ⟨rfl, rfl⟩
        go_wp2_with fail
        go_roundg (gk - 1)
        case rel => exact ⟨k + 1, by have := HK.out; omega, by go_num, rfl, HT⟩
        case measure => have := HK.out; omega
    · obtain rfl : k = m := by have := HK.out; omega
      have HF := Lib.hid (HY.out HA.out)
      go_wp2_with fail
      go_ret
      exact ⟨ret_bool HF.out.symm, B0.out⟩
end
end Sc
end Go.Proofs.Ytchnnpaebggfdaa

namespace Go.Proofs.Ytchnnpaebggfdaa
set_option maxRecDepth 100000
open Go.ChangeShapes Go.WideShapes Go.ChangeAt Go.RowKit Go.Deep
namespace Sc
open Cf (G CA)
theorem apart_is {x y : Int} (hx : -4294967296 ≤ x ∧ x ≤ 4294967296) (hy : -4294967296 ≤ y ∧ y ≤ 4294967296) (r : Int) : decide (r < Fx.apart x y) = !(decide (x - y ≤ r) && decide (y - x ≤ r)) := by
  unfold Fx.apart Fx.sm
  rw [if_pos ⟨by simp; omega, by simp; omega⟩]
  split <;> by_cases h1 : x - y ≤ r <;> by_cases h2 : y - x ≤ r <;> simp [h1, h2] <;> omega
section
variable (s : Sn) (a : Option Addr) (cap : Nat) (w : World) (L : Lens s) (hp : PsAt w a s.ps) (C : Cv s) (i : Nat) (hi : i < s.ps.length)
include L hp C hi
set_option maxHeartbeats 3200000 in
theorem truthful_any (hpr : i ≠ 0 → tok s (i - 1) = true) :
    Calls Try.prog 59 #[.agg (scv s a cap).toArray, .int .i64 i] w fun e w' => e = .returned (.bool (tok s i)) ∧ Below w.heap.size w w' := by
  have X0 := Lib.hid (Bd.new (cap := cap) L hp)
  obtain ⟨b, off, rfl, -⟩ := hp.at_ hi
  have HI := Lib.hid hi
  have HC := Lib.hid C
  have HLN := Lib.hid L.n
  have hli : (i : Int) < s.ps.length := by omega
  have P := X0.out.at_.ps.here hi
  have RT := Lib.hid P.rt
  have ST := Lib.hid (size8 P.t8)
  have IX := Lib.hid (fun n hn W => idx8 P.t8 n hn W)
  have c28 := X0.out.at_.p
  have HN := Lib.hid (show ∀ n, n < 8 → tok1 s i n = false → tok s i = false from fun n hn h => all_range_no hn h)
  have HY := Lib.hid (show (∀ n, n < 8 → tok1 s i n = true) → tok s i = true from fun h => all_range.2 h)
  have HP := Lib.hid (fun (h0 : i ≠ 0) n (hn : n < 8) => tok_1 (hpr h0) hn)
  have HT := Lib.hid (show ∀ n, (pt s i).t.getD n 0 = tv s i n from fun n => rfl)
  clear L hp C hi P hpr
  generalize tok s i = ans at *
  go_enter Try.func59, Try.ntmps59
  go_upto_region 1 with fail
  generalize w.alloc (.cells (scv s (some ⟨b, off, none⟩) cap).toArray 27) = w0 at *
  generalize hg : w.heap.size = g at *
  go_wp2_with ((with_reducible show wpList _ _ _ (⟨some 12, _, _, _, _, _⟩ :: _) _ _); refine wpList_load_mid rfl _ _ rfl b (off + i * 42) rfl (cellsI .i64 (pt s i).t) _ RT.out Try.underlying52 rfl ST.out ?_)
  clear RT ST c28
  generalize (cellsI .i64 (pt s i).t).toArray = TA at *
  go_loopg [5, 6, 13] 8 (fun gg _ _ s13 wr => ∃ n : Nat, n + gg = 8 ∧ s13 = .int .i64 n ∧ Hid (∀ j, j < n → tok1 s i j = true) ∧ Hid (Bd w wr g s (some ⟨b, off, none⟩) cap))
  case atStart => exact ⟨0, by omega, rfl, Lib.hid (fun j hj => by omega), X0⟩
  case round =>
    clear X0
    rename World => W
    obtain ⟨n, hn, rfl, HA, D⟩ := hrel
    have HK := Lib.hid hn
    clear hn
    by_cases hlt : n < 8
    · have hli8 : (n : Int) < 8 := by omega
      have ix := fun W => IX.out n hlt W
      rw [HT.out n] at ix
      have q1 := D.out.at_.c 1 (by omega)
      have q2 := D.out.at_.c 2 (by omega)
      have q3 := D.out.at_.e
      have q4 := D.out.at_.r
      have q5 := D.out.at_.p
      have HV := Lib.hid (show tok1 s i n = (inT s (tv s i n) && (decide (i = 0) || (decide (tv s i n - tv s (i - 1) n ≤ s.r) && decide (tv s (i - 1) n - tv s i n ≤ s.r)))) from rfl)
      have HW := Lib.hid (show inT s (tv s i n) = (decide (G s.c 1 + s.e ≤ tv s i n) && decide (tv s i n ≤ G s.c 2 - s.e)) from rfl)
      have CW := fun W => within_any (tv s i n) (G s.c 1 + s.e) (G s.c 2 - s.e) W
      have z1 := HC.out.lo
      have z2 := HC.out.hi
      have z3 := HC.out.e
      have z5 := HC.out.w
      have HZ := Lib.hid (show inT s (tv s i n) = true → G s.c 1 + s.e ≤ tv s i n ∧ tv s i n ≤ G s.c 2 - s.e from fun h => by rw [HW.out] at h; simpa using h)
      have HPn := Lib.hid (fun (h0 : i ≠ 0) => HP.out h0 n hlt)
      rw [← HW.out] at CW
      clear HW
      generalize inT s (tv s i n) = bt at *
      cases bt
      · have HF := Lib.hid (HN.out n hlt (by rw [HV.out]; rfl))
        clear hlt
        generalize tv s i n = x at *
        generalize G s.c 1 = c1 at *
        generalize G s.c 2 = c2 at *
        generalize s.e = ee at *
        go_wp2_with fail
        refine (CW _).mono ?_; rintro e w1 ⟨rfl, rfl⟩
        go_wp2_with fail
        go_ret
        exact ⟨ret_bool HF.out.symm, hg ▸ D.out.below⟩
      · have HB := Lib.hid (HZ.out rfl)
        by_cases h0 : i = 0
        · have HS := Lib.hid (show ∀ j, j < n + 1 → tok1 s i j = true from fun j hj => by
            rcases Nat.lt_succ_iff_lt_or_eq.1 hj with h | rfl
            · exact HA.out j h
            · rw [HV.out]; simp [h0])
          have d0 : decide (0 < i) = false := by simp; omega
          clear hlt h0 HZ
          generalize tv s i n = x at *
          generalize G s.c 1 = c1 at *
          generalize G s.c 2 = c2 at *
          generalize s.e = ee at *
          go_wp2_with fail
          refine (CW _).mono ?_; rintro e w1 ⟨rfl, rfl⟩
          go_upto_region 6 with fail
          go_quiet (fail)
          have bd := below_drewN (Below.refl W.heap.size W) nq
          have D2 := Lib.hid (D.out.on bd)
          clear bd D q1 q2 q3 q4 q5
          generalize W.drewN nq = W2 at *
          go_wp2_with fail
          go_roundg (gk - 1)
          case rel => exact ⟨n + 1, by have := HK.out; omega, by go_num, HS, D2⟩
          case measure => have := HK.out; omega
        · have d0 : decide (0 < i) = true := by simp; omega
          obtain ⟨j, hj⟩ : ∃ j, i = j + 1 := ⟨i - 1, by omega⟩
          have e1 : (i : Int) - 1 = (j : Nat) := by omega
          have hjl : (j : Int) < s.ps.length := by omega
          have p1 : IntKind.i64.wrap (j : Int) = (j : Int) := IntWalk.i64_in _ (by have := HLN.out; omega)
          have cj := (D.out.at_.ps.here (i := j) (by have := HI.out; omega)).t n hlt
          have hyx : (pt s j).t.getD n 0 = tv s (i - 1) n := by rw [hj]; rfl
          rw [hyx] at cj
          have AP := fun W => Fx.apart_any (tv s i n) (tv s (i - 1) n) W
          have hpn := HPn.out h0
          have hd := apart_is (x := tv s i n) (y := tv s (i - 1) n) (by have := HB.out; omega) (by omega) s.r
          generalize Fx.apart (tv s i n) (tv s (i - 1) n) = dd at *
          have HV2 : tok1 s i n = (decide (tv s i n - tv s (i - 1) n ≤ s.r) && decide (tv s (i - 1) n - tv s i n ≤ s.r)) := by rw [HV.out]; simp [h0]
          cases hq : (decide (tv s i n - tv s (i - 1) n ≤ s.r) && decide (tv s (i - 1) n - tv s i n ≤ s.r))
          · rw [hq] at hd
            have HF := Lib.hid (HN.out n hlt (by rw [HV2, hq]))
            clear hlt HZ hq HV2 hj hyx hpn HPn h0 HB HV
            generalize tv s i n = x at *
            generalize tv s (i - 1) n = y at *
            generalize G s.c 1 = c1 at *
            generalize G s.c 2 = c2 at *
            generalize s.e = ee at *
            generalize s.r = rr at *
            have hd : decide (rr < dd) = true := hd
            go_wp2_with fail
            refine (CW _).mono ?_; rintro e w1 ⟨rfl, rfl⟩
            go_upto_region 6 with fail
            go_quiet (exact Calls.quiet_of_same ((AP _).mono fun e w' q => ⟨q.1, q.2.symm⟩))
            have bd := below_drewN (Below.refl W.heap.size W) nq
            have D2 := Lib.hid (D.out.on bd)
            clear bd D q1 q2 q3 q4 q5
            generalize W.drewN nq = W2 at *
            go_wp2_with fail
            go_ret
            exact ⟨ret_bool HF.out.symm, hg ▸ D2.out.below⟩
          · rw [hq] at hd
            have HS := Lib.hid (show ∀ j, j < n + 1 → tok1 s i j = true from fun j hj => by
              rcases Nat.lt_succ_iff_lt_or_eq.1 hj with h | rfl
              · exact HA.out j h
              · rw [HV2, hq])
            clear hlt HZ hq HV2 hj hyx hpn HPn h0 HB HV
            generalize tv s i n = x at *
            generalize tv s (i - 1) n = y at *
            generalize G s.c 1 = c1 at *
            generalize G s.c 2 = c2 at *
            generalize s.e = ee at *
            generalize s.r = rr at *
            have hd : decide (rr < dd) = false := hd
            go_wp2_with fail
            refine (CW _).mono ?_; rintro e w1 ⟨rfl, rfl⟩
            go_upto_region 6 with fail
            go_quiet (exact Calls.quiet_of_same ((AP _).mono fun e w' q => ⟨q.1, q.2.symm⟩))
            have bd := below_drewN (Below.refl W.heap.size W) nq
            have D2 := Lib.hid (D.out.on bd)
            clear bd D q1 q2 q3 q4 q5
            generalize W.drewN nq = W2 at *
            go_wp2_with fail
            go_roundg (gk - 1)
            case rel => exact ⟨n + 1, by have := HK.out; omega, by go_num, HS, D2⟩
            case measure => have := HK.out; omega
    · obtain rfl : n = 8 := by have := HK.out; omega
      have HF := Lib.hid (HY.out HA.out)
      go_wp2_with fail
      go_ret
      exact ⟨ret_bool HF.out.symm, hg ▸ D.out.below⟩
end
end Sc
end Go.Proofs.Ytchnnpaebggfdaa

namespace Go.Proofs.Ytchnnpaebggfdaa
set_option maxRecDepth 100000
open Go.ChangeShapes Go.WideShapes Go.ChangeAt Go.RowKit Go.Deep
namespace Sc
open Cf (G CA)
section
variable (s : Sn) (a : Option Addr) (cap : Nat) (w : World) (L : Lens s) (hp : PsAt w a s.ps) (C : Cv s) (i : Nat) (hi : i < s.ps.length)
include L hp C hi
set_option maxHeartbeats 3200000 in
theorem near_any :
    Calls Try.prog 60 #[.agg (scv s a cap).toArray, .int .i64 i] w fun e w' => e = .returned (.bool (nok s i)) ∧ Below w.heap.size w w' := by
  have X0 := Lib.hid (Bd.new (cap := cap) L hp)
  obtain ⟨b, off, rfl, -⟩ := hp.at_ hi
  have HI := Lib.hid hi
  have HC := Lib.hid C
  have hli : (i : Int) < s.ps.length := by omega
  have P := X0.out.at_.ps.here hi
  have H32 := Lib.hid P.o32
  have c28 := X0.out.at_.p
  have c0 := X0.out.at_.c 0 (by omega)
  rw [C.eq] at c0
  have h4 : (NN s : Int) ≤ 4 := by have := C.nn; omega
  have h0 : 0 ≤ (NN s : Int) := by omega
  have HN := Lib.hid (show ∀ k, k < NN s → nok1 s i k = false → nok s i = false from fun k hk h => all_range_no hk h)
  have HY := Lib.hid (show (∀ k, k < NN s → nok1 s i k = true) → nok s i = true from fun h => all_range.2 h)
  clear L hp C hi P
  generalize nok s i = ans at *
  generalize hm : NN s = m at *
  go_enter Try.func60, Try.ntmps60
  go_upto_region 1 with fail
  generalize w.alloc (.cells (scv s (some ⟨b, off, none⟩) cap).toArray 27) = w0 at *
  generalize hg : w.heap.size = g at *
  go_quiet (fail)
  have bd := below_drewN (Below.refl w0.heap.size w0) nq
  have X1 := Lib.hid (X0.out.on bd)
  clear bd X0 c28 c0
  generalize w0.drewN nq = w1 at *
  go_wp2_with fail
  go_loopg [5, 6, 8, 19, 28, 29] m (fun gg _ _ _ s19 _ _ wr => ∃ k : Nat, k + gg = m ∧ s19 = .int .i64 k ∧ Hid (∀ j, j < k → nok1 s i j = true) ∧ Hid (Bd w wr g s (some ⟨b, off, none⟩) cap))
  case atStart => exact ⟨0, by omega, rfl, Lib.hid (fun j hj => by omega), X1⟩
  case round =>
    clear X1
    rename World => W
    obtain ⟨k, hk, rfl, HA, D⟩ := hrel
    have HK := Lib.hid hk
    clear hk
    by_cases hlt : k < m
    · have hlk : (k : Int) < m := by omega
      have P := D.out.at_.ps.here HI.out
      have RO := Lib.hid (P.ro k (by omega))
      have h8 := off8 P.o32 k (by omega)
      have SO := Lib.hid (size8 h8)
      have IX := Lib.hid (fun n (hn : n < 8) W => idx8 h8 n hn W)
      have HO := Lib.hid (show ∀ n, n < 8 → (((pt s i).o.drop (k * 8)).take 8).getD n 0 = ov s i k n from fun n hn => off_at k n hn)
      have V1 := (VRow.new W [.int .i64 0, .int .i64 0, .int .i64 0, .int .i64 0, .int .i64 0, .int .i64 0, .int .i64 0, .int .i64 0] 52).put (cellsI .i64 (((pt s i).o.drop (k * 8)).take 8))
      have B1 : Below W.heap.size W ((W.alloc (.cells #[.int .i64 0, .int .i64 0, .int .i64 0, .int .i64 0, .int .i64 0, .int .i64 0, .int .i64 0, .int .i64 0] 52)).setRow W.heap.size (cellsI .i64 (((pt s i).o.drop (k * 8)).take 8)).toArray) := Below.put ((Below.refl _ W).alloc (Nat.le_refl _) _) (Nat.le_refl _) _
      have VV := Lib.hid V1
      have D1 := Lib.hid (D.out.on B1)
      have AO := Lib.hid (show (cellsI .i64 (((pt s i).o.drop (k * 8)).take 8)).toArray.all (·.oneCell') = true from all_oneCell_toArray (cellsI_one _ _))
      have LO := Lib.hid (show ([.int .i64 0, .int .i64 0, .int .i64 0, .int .i64 0, .int .i64 0, .int .i64 0, .int .i64 0, .int .i64 0] : List Value).length = (cellsI .i64 (((pt s i).o.drop (k * 8)).take 8)).length by rw [cellsI, List.length_map, h8]; rfl)
      have H1 := Lib.hid (show nok1 s i k = (decide ((k : Int) = s.odd) || (List.range 8).all (nok2 s i k)) from rfl)
      clear P h8 V1 B1
      go_upto_region 4 with (first
        | ((with_reducible show wpList _ _ _ (⟨some 23, _, _, _, _, _⟩ :: _) _ _); refine wpList_load_mid rfl _ _ rfl b (off + i * 42 + 8 + k * 8) rfl (cellsI .i64 (((pt s i).o.drop (k * 8)).take 8)) _ RO.out Try.underlying52 rfl SO.out ?_)
        | ((with_reducible show wpList _ _ _ (⟨none, .store _ (.tmp 6) _, _, _, _, _⟩ :: _) _ _); refine VB.store rfl _ _ rfl W.heap.size (cellsI .i64 (((pt s i).o.drop (k * 8)).take 8)) rfl rfl (VRow.new W [.int .i64 0, .int .i64 0, .int .i64 0, .int .i64 0, .int .i64 0, .int .i64 0, .int .i64 0, .int .i64 0] 52) SO.out LO.out AO.out ?_))
      generalize (W.alloc (.cells #[.int .i64 0, .int .i64 0, .int .i64 0, .int .i64 0, .int .i64 0, .int .i64 0, .int .i64 0, .int .i64 0] 52)).setRow W.heap.size (cellsI .i64 (((pt s i).o.drop (k * 8)).take 8)).toArray = W1 at *
      generalize W.heap.size = pg at *
      clear RO D AO LO
      have q1 := D1.out.at_.odd
      by_cases hod : (k : Int) = s.odd
      · have d1 : ((k : Int) == s.odd) = true := by simp [hod]
        have HS := Lib.hid (show ∀ j, j < k + 1 → nok1 s i j = true from fun j hj => by
          rcases Nat.lt_succ_iff_lt_or_eq.1 hj with h | rfl
          · exact HA.out j h
          · rw [H1.out]; simp [hod])
        clear hod hlt
        generalize s.odd = od at *
        go_wp2_with fail
        go_roundg (gk - 1)
        case rel => exact ⟨k + 1, by have := HK.out; omega, by go_num, HS, D1⟩
        case measure => have := HK.out; omega
      · have d1 : ((k : Int) == s.odd) = false := by simp [hod]
        have HE := Lib.hid (show nok1 s i k = (List.range 8).all (nok2 s i k) by rw [H1.out]; simp [hod])
        clear hod
        generalize s.odd = od at *
        go_upto_region 5 with fail
        go_wp2_with ((with_reducible show wpList _ _ _ (⟨some 28, _, _, _, _, _⟩ :: _) _ _); refine VB.loaded rfl _ rfl pg rfl VV.out Try.underlying52 rfl SO.out ?_)
        clear VV SO q1
        generalize (cellsI .i64 (((pt s i).o.drop (k * 8)).take 8)).toArray = TA at *
        go_loopg [8, 29] 8 (fun gg _ s29 wr => ∃ n : Nat, n + gg = 8 ∧ s29 = .int .i64 n ∧ W1 = wr ∧ Hid (∀ j, j < n → nok2 s i k j = true))
        case atStart => exact ⟨0, by omega, rfl, rfl, Lib.hid (fun j hj => by omega)⟩
        case round =>
          obtain ⟨n, hn, rfl, rfl, HB⟩ := hrel
          have HM := Lib.hid hn
          clear hn
          by_cases hl8 : n < 8
          · have hli8 : (n : Int) < 8 := by omega
            have ix := fun W => IX.out n hl8 W
            rw [HO.out n hl8] at ix
            have q3 := D1.out.at_.e
            have z3 := HC.out.e
            have HV := Lib.hid (show nok2 s i k n = (decide (-s.e ≤ ov s i k n) && decide (ov s i k n ≤ s.e)) from rfl)
            have CW := fun W => within_any (ov s i k n) (-s.e) s.e W
            rw [← HV.out] at CW
            generalize hbt : nok2 s i k n = bt at *
            have HBT := Lib.hid hbt
            clear hbt
            generalize ov s i k n = x at *
            generalize s.e = ee at *
            cases bt
            · have HF := Lib.hid (HN.out k hlt (by rw [HE.out]; exact all_range_no hl8 HBT.out))
              clear hl8 hlt
              go_wp2_with fail
              refine (CW _).mono ?_; rintro e w1 ⟨rfl, rfl⟩
              go_wp2_with fail
              go_ret
              exact ⟨ret_bool HF.out.symm, hg ▸ D1.out.below⟩
            · have HS := Lib.hid (show ∀ j, j < n + 1 → nok2 s i k j = true from fun j hj => by
                rcases Nat.lt_succ_iff_lt_or_eq.1 hj with h | rfl
                · exact HB.out j h
                · exact HBT.out)
              clear hl8 hlt
              go_wp2_with fail
              refine (CW _).mono ?_; rintro e w1 ⟨rfl, rfl⟩
              go_wp2_with fail
              go_roundg (gk - 1)
              case rel => exact ⟨n + 1, by have := HM.out; omega, by go_num, rfl, HS⟩
              case measure => have := HM.out; omega
          · obtain rfl : n = 8 := by have := HM.out; omega
            have HS := Lib.hid (show ∀ j, j < k + 1 → nok1 s i j = true from fun j hj => by
              rcases Nat.lt_succ_iff_lt_or_eq.1 hj with h | rfl
              · exact HA.out j h
              · rw [HE.out]; exact all_range.2 HB.out)
            go_wp2_with fail
            go_roundg (m - k - 1)
            case rel => exact ⟨k + 1, by have := HK.out; omega, by go_num, HS, D1⟩
            case measure => have := HK.out; omega
    · obtain rfl : k = m := by have := HK.out; omega
      have HF := Lib.hid (HY.out HA.out)
      go_wp2_with fail
      go_ret
      exact ⟨ret_bool HF.out.symm, hg ▸ D.out.below⟩
end
end Sc
end Go.Proofs.Ytchnnpaebggfdaa

namespace Go.Proofs.Ytchnnpaebggfdaa
set_option maxRecDepth 100000
open Go.ChangeShapes Go.WideShapes Go.ChangeAt Go.RowKit Go.Deep
namespace Sc
open Cf (G CA)
theorem fv_yes {s : Sn} {i : Nat} (h : (List.range i).all (nok s) = true) : fv s i = ⟨#[]⟩ := if_pos h
theorem fv_no {s : Sn} {i : Nat} (h : (List.range i).all (nok s) = false) : fv s i = ⟨#[111, 102, 102]⟩ := if_neg (by rw [h]; decide)
theorem all_succ {p : Nat → Bool} {i : Nat} : (List.range (i + 1)).all p = ((List.range i).all p && p i) := by
  rw [List.range_succ, List.all_append]; simp
theorem pf_no {s : Sn} {i : Nat} (hi : i < s.ps.length) (h : tok s i = false) : pf s = ⟨#[116, 114, 117, 116, 104]⟩ := if_neg (by rw [all_range_no hi h]; decide)
theorem pf_yes {s : Sn} (h : ∀ i, i < s.ps.length → tok s i = true) : pf s = fv s s.ps.length := if_pos (all_range.2 h)
section
variable (s : Sn) (a : Option Addr) (cap : Nat) (w : World) (L : Lens s) (hp : PsAt w a s.ps)
include L hp
set_option maxHeartbeats 3200000 in
theorem points_any (C : Cv s) :
    Calls Try.prog 46 #[.agg (scv s a cap).toArray] w fun e w' => e = .returned (.string (pf s)) ∧ Below w.heap.size w w' := by
  have X0 := Lib.hid (Bd.new (cap := cap) L hp)
  have c28 := X0.out.at_.p
  have CT := Lib.hid (fun W i hi (hpr : i ≠ 0 → tok s (i - 1) = true) (D : At W w.heap.size s a cap) => truthful_any s a cap W D.len D.ps C i hi hpr)
  have CN := Lib.hid (fun W i hi (D : At W w.heap.size s a cap) => near_any s a cap W D.len D.ps C i hi)
  have HLN := Lib.hid L.n
  have HPN := Lib.hid (fun i (hi : i < s.ps.length) => pf_no (s := s) hi)
  have HPY := Lib.hid (pf_yes (s := s))
  obtain ⟨m, hm⟩ : ∃ m, m = s.ps.length := ⟨_, rfl⟩
  rw [← hm] at c28 HLN CT CN HPN HPY
  clear L hp C hm
  generalize pf s = ans at *
  go_enter Try.func46, Try.ntmps46
  go_upto_region 1 with fail
  generalize w.alloc (.cells (scv s a cap).toArray 27) = w0 at *
  generalize hg : w.heap.size = g at *
  go_upto_region 1 with fail
  go_wp2_with fail
  go_step3
  go_wp2_with fail
  go_step3
  go_wp2_with fail
  go_loopg [3, 4, 8] m (fun gg s3 _ s8 wr => ∃ i : Nat, i + gg = m ∧ s8 = .int .i64 i ∧ s3 = .string (fv s i) ∧ Hid (∀ j, j < i → tok s j = true) ∧ Hid (Bd w wr g s a cap))
  case atStart => exact ⟨0, by omega, rfl, rfl, Lib.hid (fun j hj => by omega), X0⟩
  case round =>
    clear X0 c28
    rename World => W
    obtain ⟨i, hi, rfl, rfl, HA, D⟩ := hrel
    have HI := Lib.hid hi
    clear hi
    by_cases hlt : i < m
    · have hli : (i : Int) < m := by omega
      have CT1 := fun W (D : Bd w W g s a cap) => CT.out W i hlt (fun h0 => HA.out (i - 1) (by omega)) D.at_
      have CN1 := fun W (D : Bd w W g s a cap) => CN.out W i hlt D.at_
      have HPT := Lib.hid (HPN.out i hlt)
      have HLT := Lib.hid hlt
      have hmx : (m : Int) ≤ 9223372036854775807 := by have := HLN.out; omega
      clear hlt
      cases ht : tok s i
      · have HF := Lib.hid (HPT.out ht)
        rw [ht] at CT1
        clear ht HPT
        generalize fv s i = f at *
        go_wp2_with ((with_reducible show wpList _ _ _ (⟨some 12, _, _, _, _, _⟩ :: _) _ _); refine loadS rfl _ rfl g rfl D.out.at_ ?_)
        refine (CT1 _ D.out).mono ?_; rintro e w1 ⟨rfl, b1⟩
        have D1 := Lib.hid (D.out.on b1)
        clear b1 D CT1 CN1
        go_wp2_with fail
        rw [Exit.noGoto_ret]
        go_ret
        exact ⟨ret_str HF.out.symm, hg ▸ D1.out.below⟩
      · have HS := Lib.hid (show ∀ j, j < i + 1 → tok s j = true from fun j hj => by
          rcases Nat.lt_succ_iff_lt_or_eq.1 hj with h | rfl
          · exact HA.out j h
          · exact ht)
        rw [ht] at CT1
        clear ht HPT
        cases hn : (List.range i).all (nok s)
        · have HG := Lib.hid (show fv s (i + 1) = ⟨#[111, 102, 102]⟩ from fv_no (by rw [all_succ, hn]; rfl))
          rw [fv_no hn]
          clear hn CN1
          go_wp2_with ((with_reducible show wpList _ _ _ (⟨some 12, _, _, _, _, _⟩ :: _) _ _); refine loadS rfl _ rfl g rfl D.out.at_ ?_)
          refine (CT1 _ D.out).mono ?_; rintro e w1 ⟨rfl, b1⟩
          have D1 := Lib.hid (D.out.on b1)
          clear b1 D CT1
          go_wp2_with fail
          go_roundg (gk - 1)
          case rel => exact ⟨i + 1, by have := HI.out; omega, by go_num, by rw [HG.out], HS, D1⟩
          case measure => have := HI.out; omega
        · rw [fv_yes hn]
          cases hk : nok s i
          · have HG := Lib.hid (show fv s (i + 1) = ⟨#[111, 102, 102]⟩ from fv_no (by rw [all_succ, hn, hk]; rfl))
            rw [hk] at CN1
            clear hn hk
            go_wp2_with ((with_reducible show wpList _ _ _ (⟨some 12, _, _, _, _, _⟩ :: _) _ _); refine loadS rfl _ rfl g rfl D.out.at_ ?_)
            refine (CT1 _ D.out).mono ?_; rintro e w1 ⟨rfl, b1⟩
            have D1 := Lib.hid (D.out.on b1)
            clear b1 D CT1
            go_wp2_with ((with_reducible show wpList _ _ _ (⟨some 20, _, _, _, _, _⟩ :: _) _ _); refine loadS rfl _ rfl g rfl D1.out.at_ ?_)
            refine (CN1 _ D1.out).mono ?_; rintro e w2 ⟨rfl, b1⟩
            have D2 := Lib.hid (D1.out.on b1)
            clear b1 D1 CN1
            go_wp2_with fail
            go_roundg (gk - 1)
            case rel => exact ⟨i + 1, by have := HI.out; omega, by go_num, by rw [HG.out], HS, D2⟩
            case measure => have := HI.out; omega
          · have HG := Lib.hid (show fv s (i + 1) = ⟨#[]⟩ from fv_yes (by rw [all_succ, hn, hk]; rfl))
            rw [hk] at CN1
            clear hn hk
            go_wp2_with ((with_reducible show wpList _ _ _ (⟨some 12, _, _, _, _, _⟩ :: _) _ _); refine loadS rfl _ rfl g rfl D.out.at_ ?_)
            refine (CT1 _ D.out).mono ?_; rintro e w1 ⟨rfl, b1⟩
            have D1 := Lib.hid (D.out.on b1)
            clear b1 D CT1
            go_wp2_with ((with_reducible show wpList _ _ _ (⟨some 20, _, _, _, _, _⟩ :: _) _ _); refine loadS rfl _ rfl g rfl D1.out.at_ ?_)
            refine (CN1 _ D1.out).mono ?_; rintro e w2 ⟨rfl, b1⟩
            have D2 := Lib.hid (D1.out.on b1)
            clear b1 D1 CN1
            go_wp2_with fail
            go_roundg (gk - 1)
            case rel => exact ⟨i + 1, by have := HI.out; omega, by go_num, by rw [HG.out], HS, D2⟩
            case measure => have := HI.out; omega
    · obtain rfl : i = m := by have := HI.out; omega
      have HF := Lib.hid (HPY.out HA.out)
      generalize fv s i = f at *
      go_wp2_with fail
      rw [Exit.noGoto_ret]
      go_ret
      exact ⟨ret_str HF.out.symm, hg ▸ D.out.below⟩
set_option maxHeartbeats 3200000 in
theorem fault_any :
    Calls Try.prog 31 #[.agg (scv s a cap).toArray] w fun e w' => e = .returned (.string (fault s)) ∧ Below w.heap.size w w' := by
  have X0 := Lib.hid (Bd.new (cap := cap) L hp)
  have CC := fun W => Cf.covers_any s.c s.e s.r W L.c
  rw [show Cf.cov s.c s.e s.r = cv s from rfl] at CC
  have h1 := X0.out.at_.e
  have h2 := X0.out.at_.r
  have HF := Lib.hid (show fault s = if cv s = false then ⟨#[99, 111, 118, 101, 114]⟩ else if odk s = false then ⟨#[111, 100, 100]⟩ else if num s = false then ⟨#[110, 117, 109, 98, 101, 114]⟩ else if 10000 < s.ps.length then ⟨#[112, 111, 105, 110, 116, 115]⟩ else pf s from rfl)
  have HCV := Lib.hid (fun h => cv_of (s := s) h)
  have CN := fun W (D : At W w.heap.size s a cap) C => numbered_any s a cap W D.len D.ps C
  have CP := fun W (D : At W w.heap.size s a cap) C => points_any s a cap W D.len D.ps C
  have HLN := Lib.hid L.n
  clear L hp
  generalize hcv : cv s = bc at *
  cases bc
  · rw [if_pos rfl] at HF
    generalize fault s = ans at *
    clear CN CP hcv
    go_enter Try.func31, Try.ntmps31
    go_upto_region 1 with fail
    generalize w.alloc (.cells (scv s a cap).toArray 27) = w0 at *
    generalize hg : w.heap.size = g at *
    go_wp2_with ((with_reducible show wpList _ _ _ (⟨some 5, _, _, _, _, _⟩ :: _) _ _); refine loadK rfl _ rfl g rfl X0.out.at_ ?_)
    refine (CC _).mono ?_; rintro e w1 ⟨rfl, b1⟩
    have X1 := Lib.hid (X0.out.on b1)
    clear b1
    go_wp2_with fail
    go_ret
    exact ⟨ret_str HF.out.symm, hg ▸ X1.out.below⟩
  · have C := HCV.out rfl
    rw [if_neg (by decide)] at HF
    have CO := fun W => within_any s.odd (-1) (G s.c 0 - 1) W
    rw [show (decide (-1 ≤ s.odd) && decide (s.odd ≤ G s.c 0 - 1)) = odk s from rfl] at CO
    have hN := C.n
    have CN := fun W D => CN W D C
    have CP := fun W D => CP W D C
    clear HCV C hcv
    generalize odk s = bo at *
    generalize num s = bn at *
    generalize pf s = sp at *
    generalize fault s = ans at *
    generalize hm : s.ps.length = m at *
    have HM := Lib.hid hm
    clear hm
    go_enter Try.func31, Try.ntmps31
    go_upto_region 1 with fail
    generalize w.alloc (.cells (scv s a cap).toArray 27) = w0 at *
    generalize hg : w.heap.size = g at *
    go_wp2_with ((with_reducible show wpList _ _ _ (⟨some 5, _, _, _, _, _⟩ :: _) _ _); refine loadK rfl _ rfl g rfl X0.out.at_ ?_)
    refine (CC _).mono ?_; rintro e w1 ⟨rfl, b1⟩
    have X1 := Lib.hid (X0.out.on b1)
    clear b1 X0 h1 h2 CC
    have h3 := X1.out.at_.odd
    have h4 := X1.out.at_.c 0 (by omega)
    cases bo
    · rw [if_pos rfl] at HF
      clear CN CP
      go_wp2_with fail
      refine (CO _).mono ?_; rintro e w2 ⟨rfl, rfl⟩
      go_wp2_with fail
      go_ret
      exact ⟨ret_str HF.out.symm, hg ▸ X1.out.below⟩
    · rw [if_neg (by decide)] at HF
      go_wp2_with fail
      refine (CO _).mono ?_; rintro e w2 ⟨rfl, rfl⟩
      clear CO h3 h4 hN
      go_wp2_with ((with_reducible show wpList _ _ _ (⟨some 22, _, _, _, _, _⟩ :: _) _ _); refine loadS rfl _ rfl g rfl X1.out.at_ ?_)
      refine (CN _ X1.out.at_).mono ?_; rintro e w2 ⟨rfl, b1⟩
      have X2 := Lib.hid (X1.out.on b1)
      clear b1 X1 CN
      cases bn
      · rw [if_pos rfl] at HF
        go_wp2_with fail
        go_ret
        exact ⟨ret_str HF.out.symm, hg ▸ X2.out.below⟩
      · rw [if_neg (by decide)] at HF
        have h5 := X2.out.at_.p
        rw [HM.out] at h5
        by_cases hx : 10000 < m
        · rw [if_pos hx] at HF
          have d1 : decide (10000 < (m : Int)) = true := by simp; omega
          clear hx CP
          go_wp2_with fail
          go_ret
          exact ⟨ret_str HF.out.symm, hg ▸ X2.out.below⟩
        · rw [if_neg hx] at HF
          have d1 : decide (10000 < (m : Int)) = false := by simp; omega
          clear hx
          go_wp2_with ((with_reducible show wpList _ _ _ (⟨some 30, _, _, _, _, _⟩ :: _) _ _); refine loadS rfl _ rfl g rfl X2.out.at_ ?_)
          refine (CP _ X2.out.at_).mono ?_; rintro e w3 ⟨rfl, b1⟩
          have X3 := Lib.hid (X2.out.on b1)
          clear b1 X2 CP
          go_wp2_with fail
          go_ret
          exact ⟨ret_str HF.out.symm, hg ▸ X3.out.below⟩
omit L hp in
theorem emp : (fault s).toList.isEmpty = decide (fault s = ⟨#[]⟩) := by
  rw [Bool.eq_iff_iff, decide_eq_true_eq, List.isEmpty_iff, ByteArray.toList_eq, ByteArray.ext_iff]
  simp
set_option maxHeartbeats 3200000 in
theorem has_any (i n : Int) :
    Calls Try.prog 29 #[.agg (scv s a cap).toArray, .int .i64 i, .int .i64 n] w fun e w' => e = .returned (.bool (has s i n)) ∧ Below w.heap.size w w' := by
  have X0 := Lib.hid (Bd.new (cap := cap) L hp)
  have c28 := X0.out.at_.p
  have HLN := L.n
  have CI := fun W => within_any i 0 ((s.ps.length : Int) - 1) W
  have CN := fun W => within_any n 0 7 W
  have CF := fun W (D : At W w.heap.size s a cap) => fault_any s a cap W D.len D.ps
  have HE := Lib.hid (emp s)
  have HF := Lib.hid (show has s i n = ((decide (0 ≤ i) && decide (i ≤ (s.ps.length : Int) - 1)) && ((decide (0 ≤ n) && decide (n ≤ 7)) && decide (fault s = ⟨#[]⟩))) from rfl)
  clear L hp
  rw [← HE.out] at HF
  generalize (decide (0 ≤ i) && decide (i ≤ (s.ps.length : Int) - 1)) = b1 at *
  generalize (decide (0 ≤ n) && decide (n ≤ 7)) = b2 at *
  generalize has s i n = ans at *
  generalize fault s = ft at *
  generalize hb3 : ft.toList.isEmpty = b3 at *
  generalize s.ps.length = m at *
  go_enter Try.func29, Try.ntmps29
  go_upto_region 1 with fail
  generalize w.alloc (.cells (scv s a cap).toArray 27) = w0 at *
  generalize hg : w.heap.size = g at *
  cases b1
  · go_wp2_with fail
    refine (CI _).mono ?_; rintro e w2 ⟨rfl, rfl⟩
    go_wp2_with fail
    go_ret
    exact ⟨ret_bool (by rw [HF.out]; rfl), hg ▸ X0.out.below⟩
  · cases b2
    · go_wp2_with fail
      refine (CI _).mono ?_; rintro e w2 ⟨rfl, rfl⟩
      go_wp2_with fail
      refine (CN _).mono ?_; rintro e w2 ⟨rfl, rfl⟩
      go_wp2_with fail
      go_ret
      exact ⟨ret_bool (by rw [HF.out]; rfl), hg ▸ X0.out.below⟩
    · go_wp2_with fail
      refine (CI _).mono ?_; rintro e w2 ⟨rfl, rfl⟩
      go_wp2_with fail
      refine (CN _).mono ?_; rintro e w2 ⟨rfl, rfl⟩
      go_wp2_with ((with_reducible show wpList _ _ _ (⟨some 18, _, _, _, _, _⟩ :: _) _ _); refine loadS rfl _ rfl g rfl X0.out.at_ ?_)
      refine (CF _ X0.out.at_).mono ?_; rintro e w3 ⟨rfl, b1⟩
      have X3 := Lib.hid (X0.out.on b1)
      clear b1 X0 c28
      go_wp2_with fail
      go_ret
      exact ⟨ret_bool (by rw [HF.out]; rfl), hg ▸ X3.out.below⟩
end
end Sc
end Go.Proofs.Ytchnnpaebggfdaa
