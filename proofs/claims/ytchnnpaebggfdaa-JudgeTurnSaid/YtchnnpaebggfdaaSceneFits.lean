/-
  What Small of package rudderlaw20, and Fits of package rudderlaw22 do: contracts by walking the Go text. Conditions: how the scene lies.
-/
import Derived.Test.YtchnnpaebggfdaaJSceneWalks4
namespace Go.Proofs.Ytchnnpaebggfdaa
set_option maxRecDepth 100000
open Go.ChangeShapes Go.WideShapes Go.ChangeAt Go.RowKit Go.Deep
namespace Sc
open Cf (G CA)
theorem wpList_buildTo {P : Program} {ops : Array Oper} {rest : List Oper} {o : Oper} {a : Act} {w : World} {Q : Exit → Act → World → Prop} (hg : o.guard = none) (t : TypeId) (parts : Array (Nat × Operand)) (ho : o.op = .build t parts)
    (cells : Array Value) (hf : P.built t (parts.map fun (i, x) => (i, a.eval x)).toList = some cells) (h : wpList P ops Q rest (a.put o.dst (.agg cells)) w) : wpList P ops Q (o :: rest) a w :=
  wpList_build hg t parts ho (by rw [hf]; rfl) (by rw [hf]; exact h)
def cS : List Int := [3, -100, 100, 5, 40, 9, 3, 30, 0, 20, 2, 0, 4, 2, 2, 1, 4, 1, 1, 2, 0]
theorem sizeC {l : List Int} (h : l.length = 21) : (Try.prog.info? 24).map (·.size) = some (cellsI .i64 l).length := by rw [cellsI, List.length_map, h]; kernel_rfl
theorem aggC (W : World) : (isAgg 24).run Try.prog W = .ok true W := by simp [isAgg, run_underlying Try.underlying24]
set_option maxHeartbeats 800000 in
theorem small_any (w : World) : Calls Try.prog 17 #[] w fun e w' => e = .returned (.agg (cellsI .i64 cS).toArray) ∧ Below w.heap.size w w' := by
  have V := Lib.hid (VRow.new w [.int .i64 0, .int .i64 0, .int .i64 0, .int .i64 0, .int .i64 0, .int .i64 0, .int .i64 0, .int .i64 0, .int .i64 0, .int .i64 0, .int .i64 0, .int .i64 0, .int .i64 0, .int .i64 0, .int .i64 0, .int .i64 0, .int .i64 0, .int .i64 0, .int .i64 0, .int .i64 0, .int .i64 0] 24)
  have HS := Lib.hid (sizeC (l := cS) rfl)
  have HA := Lib.hid (aggC)
  go_enter Try.func17, Try.ntmps17
  go_wp2_with (first
    | ((with_reducible show wpList _ _ _ (⟨some 2, _, _, _, _, _⟩ :: _) _ _); refine wpList_buildTo rfl _ _ rfl (cellsI .i64 cS).toArray (by kernel_rfl) ?_)
    | ((with_reducible show wpList _ _ _ (⟨none, .store _ (.tmp 0) _, _, _, _, _⟩ :: _) _ _); refine VB.store rfl _ _ rfl w.heap.size (cellsI .i64 cS) rfl rfl V.out HS.out rfl (all_oneCell_toArray (cellsI_one _ _)) ?_))
  exact bodyPost_ret (VB.ret1 rfl rfl (HA.out _) HS.out (V.out.put (cellsI .i64 cS))) rfl ⟨rfl, Below.put ((Below.refl _ w).alloc (Nat.le_refl _) _) (Nat.le_refl _) _⟩
def fit1 (s : Sn) (i : Nat) : Bool := decide ((pt s i).l.length ≤ 100) && (List.range 8).all fun n => decide (-1099511627776 ≤ tv s i n) && decide (tv s i n ≤ 1099511627776)
def fits (s : Sn) : Bool := decide (s.ps.length ≤ 60) && (List.range s.ps.length).all (fit1 s)
theorem fits_len {s : Sn} (h : fits s = true) : s.ps.length ≤ 60 := by
  unfold fits at h
  rw [Bool.and_eq_true, decide_eq_true_eq] at h
  exact h.1
section
variable (s : Sn) (a : Option Addr) (cap : Nat) (w : World) (L : Lens s) (hp : PsAt w a s.ps)
include L hp
set_option maxHeartbeats 3200000 in
theorem fits_any :
    Calls Try.prog 5 #[.agg (scv s a cap).toArray] w fun e w' => e = .returned (.bool (fits s)) ∧ Below w.heap.size w w' := by
  have X0 := Lib.hid (Bd.new (cap := cap) L hp)
  have c28 := X0.out.at_.p
  have HLN := Lib.hid L.n
  have HF := Lib.hid (show fits s = (decide (s.ps.length ≤ 60) && (List.range s.ps.length).all (fit1 s)) from rfl)
  clear L hp
  obtain ⟨m, hm⟩ : ∃ m, m = s.ps.length := ⟨_, rfl⟩
  have HM := Lib.hid hm
  rw [← hm] at c28 HF HLN
  clear hm
  generalize fits s = ans at *
  go_enter Try.func5, Try.ntmps5
  go_upto_region 1 with fail
  generalize w.alloc (.cells (scv s a cap).toArray 27) = w0 at *
  generalize hg : w.heap.size = g at *
  by_cases h60 : 60 < m
  · have d1 : decide (60 < (m : Int)) = true := by simp; omega
    have HA := Lib.hid (show ans = false by rw [HF.out]; simp; omega)
    clear h60
    go_wp2_with fail
    go_ret
    exact ⟨ret_bool HA.out.symm, hg ▸ X0.out.below⟩
  · have d1 : decide (60 < (m : Int)) = false := by simp; omega
    have HN := Lib.hid (show ∀ i, i < m → fit1 s i = false → ans = false from fun i hi h => by rw [HF.out, all_range_no hi h]; simp)
    have HY := Lib.hid (show (∀ i, i < m → fit1 s i = true) → ans = true from fun h => by rw [HF.out, all_range.2 h]; simp; omega)
    have hmx : (m : Int) ≤ 60 := by omega
    clear h60 HF
    go_upto_region 3 with fail
    clear c28 d1
    go_wp2_with fail
    go_loopg [3] m (fun gg s3 wr => ∃ i : Nat, i + gg = m ∧ s3 = .int .i64 i ∧ Hid (∀ j, j < i → fit1 s j = true) ∧ Hid (Bd w wr g s a cap))
    case atStart => exact ⟨0, by omega, rfl, Lib.hid (fun j hj => by omega), X0⟩
    case round =>
      clear X0
      rename World => W
      obtain ⟨i, hi, rfl, HA, D⟩ := hrel
      have HI := Lib.hid hi
      clear hi
      have q5 := D.out.at_.p
      rw [← HM.out] at q5
      by_cases hlt : i < m
      · have hli : (i : Int) < m := by omega
        obtain ⟨b, off, hab, P⟩ := D.out.at_.ps.at_ (i := i) (by have := HM.out; omega)
        rw [hab] at q5
        have RP := Lib.hid (show W.rangeAt b (off + i * 42) (ptv (pt s i)) from fun j v hv => P.cell j v hv)
        have SP := Lib.hid (sizeP P.t8 P.o32)
        have LP := Lib.hid (show ([.int .i64 0, .int .i64 0, .int .i64 0, .int .i64 0, .int .i64 0, .int .i64 0, .int .i64 0, .int .i64 0, .int .i64 0, .int .i64 0, .int .i64 0, .int .i64 0, .int .i64 0, .int .i64 0, .int .i64 0, .int .i64 0, .int .i64 0, .int .i64 0, .int .i64 0, .int .i64 0, .int .i64 0, .int .i64 0, .int .i64 0, .int .i64 0, .int .i64 0, .int .i64 0, .int .i64 0, .int .i64 0, .int .i64 0, .int .i64 0, .int .i64 0, .int .i64 0, .int .i64 0, .int .i64 0, .int .i64 0, .int .i64 0, .int .i64 0, .int .i64 0, .int .i64 0, .int .i64 0, .bool false, .slice none 0 0] : List Value).length = (ptv (pt s i)).length by rw [ptv_len P.t8 P.o32]; rfl)
        have V1 := Lib.hid ((VRow.new W [.int .i64 0, .int .i64 0, .int .i64 0, .int .i64 0, .int .i64 0, .int .i64 0, .int .i64 0, .int .i64 0, .int .i64 0, .int .i64 0, .int .i64 0, .int .i64 0, .int .i64 0, .int .i64 0, .int .i64 0, .int .i64 0, .int .i64 0, .int .i64 0, .int .i64 0, .int .i64 0, .int .i64 0, .int .i64 0, .int .i64 0, .int .i64 0, .int .i64 0, .int .i64 0, .int .i64 0, .int .i64 0, .int .i64 0, .int .i64 0, .int .i64 0, .int .i64 0, .int .i64 0, .int .i64 0, .int .i64 0, .int .i64 0, .int .i64 0, .int .i64 0, .int .i64 0, .int .i64 0, .bool false, .slice none 0 0] 63).put (ptv (pt s i)))
        have B1 : Below W.heap.size W ((W.alloc (.cells #[.int .i64 0, .int .i64 0, .int .i64 0, .int .i64 0, .int .i64 0, .int .i64 0, .int .i64 0, .int .i64 0, .int .i64 0, .int .i64 0, .int .i64 0, .int .i64 0, .int .i64 0, .int .i64 0, .int .i64 0, .int .i64 0, .int .i64 0, .int .i64 0, .int .i64 0, .int .i64 0, .int .i64 0, .int .i64 0, .int .i64 0, .int .i64 0, .int .i64 0, .int .i64 0, .int .i64 0, .int .i64 0, .int .i64 0, .int .i64 0, .int .i64 0, .int .i64 0, .int .i64 0, .int .i64 0, .int .i64 0, .int .i64 0, .int .i64 0, .int .i64 0, .int .i64 0, .int .i64 0, .bool false, .slice none 0 0] 63)).setRow W.heap.size (ptv (pt s i)).toArray) := Below.put ((Below.refl _ W).alloc (Nat.le_refl _) _) (Nat.le_refl _) _
        have D1 := Lib.hid (D.out.on B1)
        have HT8 := Lib.hid (show ∀ n, n < 8 → (ptv (pt s i))[n]? = some (.int .i64 (tv s i n)) from fun n hn => ptv_t P.t8 P.o32 n hn)
        have HL41 := Lib.hid (ptv_l P.t8 P.o32)
        have hsm : (pt s i).l.length ≤ 9223372036854775807 := by have := P.size; omega
        have HV := Lib.hid (show fit1 s i = (decide ((pt s i).l.length ≤ 100) && (List.range 8).all fun n => decide (-1099511627776 ≤ tv s i n) && decide (tv s i n ≤ 1099511627776)) from rfl)
        have HNI := Lib.hid (HN.out i hlt)
        have HYI := Lib.hid (show fit1 s i = true → ∀ j, j < i + 1 → fit1 s j = true from fun h j hj => by
          rcases Nat.lt_succ_iff_lt_or_eq.1 hj with h' | rfl
          · exact HA.out j h'
          · exact h)
        clear hlt P B1 hab
        go_upto_region 7 with (first
          | ((with_reducible show wpList _ _ _ (⟨some 21, _, _, _, _, _⟩ :: _) _ _); refine wpList_load_mid rfl _ _ rfl b (off + i * 42) rfl (ptv (pt s i)) _ RP.out Try.underlying63 rfl SP.out ?_)
          | ((with_reducible show wpList _ _ _ (⟨none, .store _ (.tmp 4) _, _, _, _, _⟩ :: _) _ _); refine VB.store rfl _ _ rfl W.heap.size (ptv (pt s i)) rfl rfl (VRow.new W [.int .i64 0, .int .i64 0, .int .i64 0, .int .i64 0, .int .i64 0, .int .i64 0, .int .i64 0, .int .i64 0, .int .i64 0, .int .i64 0, .int .i64 0, .int .i64 0, .int .i64 0, .int .i64 0, .int .i64 0, .int .i64 0, .int .i64 0, .int .i64 0, .int .i64 0, .int .i64 0, .int .i64 0, .int .i64 0, .int .i64 0, .int .i64 0, .int .i64 0, .int .i64 0, .int .i64 0, .int .i64 0, .int .i64 0, .int .i64 0, .int .i64 0, .int .i64 0, .int .i64 0, .int .i64 0, .int .i64 0, .int .i64 0, .int .i64 0, .int .i64 0, .int .i64 0, .int .i64 0, .bool false, .slice none 0 0] 63) SP.out LP.out ptv_all ?_))
        clear RP LP D q5
        generalize (W.alloc (.cells #[.int .i64 0, .int .i64 0, .int .i64 0, .int .i64 0, .int .i64 0, .int .i64 0, .int .i64 0, .int .i64 0, .int .i64 0, .int .i64 0, .int .i64 0, .int .i64 0, .int .i64 0, .int .i64 0, .int .i64 0, .int .i64 0, .int .i64 0, .int .i64 0, .int .i64 0, .int .i64 0, .int .i64 0, .int .i64 0, .int .i64 0, .int .i64 0, .int .i64 0, .int .i64 0, .int .i64 0, .int .i64 0, .int .i64 0, .int .i64 0, .int .i64 0, .int .i64 0, .int .i64 0, .int .i64 0, .int .i64 0, .int .i64 0, .int .i64 0, .int .i64 0, .int .i64 0, .int .i64 0, .bool false, .slice none 0 0] 63)).setRow W.heap.size (ptv (pt s i)).toArray = W1 at *
        generalize W.heap.size = pg at *
        have c41 := V1.out.cell 41 HL41.out
        generalize (pt s i).l.length = ll at *
        by_cases h100 : 100 < ll
        · have d2 : decide (100 < (ll : Int)) = true := by simp; omega
          have HF := Lib.hid (HNI.out (by rw [HV.out]; simp; omega))
          clear h100
          go_wp2_with fail
          go_ret
          exact ⟨ret_bool HF.out.symm, hg ▸ D1.out.below⟩
        · have d2 : decide (100 < (ll : Int)) = false := by simp; omega
          have HV2 := Lib.hid (show fit1 s i = (List.range 8).all fun n => decide (-1099511627776 ≤ tv s i n) && decide (tv s i n ≤ 1099511627776) by rw [HV.out]; simp; omega)
          clear h100
          go_upto_region 9 with fail
          clear c41 d2 hsm
          go_wp2_with fail
          go_loopg [5] 8 (fun gg s5 wr => ∃ n : Nat, n + gg = 8 ∧ s5 = .int .i64 n ∧ W1 = wr ∧ Hid (∀ j, j < n → (decide (-1099511627776 ≤ tv s i j) && decide (tv s i j ≤ 1099511627776)) = true))
          case atStart => exact ⟨0, rfl, rfl, rfl, Lib.hid (fun j hj => by omega)⟩
          case round =>
            obtain ⟨n, hn, rfl, rfl, HB⟩ := hrel
            have HL := Lib.hid hn
            clear hn
            by_cases hln : n < 8
            · have hl8 : (n : Int) < 8 := by omega
              have cn := V1.out.cell n (HT8.out n hln)
              have HFN := Lib.hid (show (decide (-1099511627776 ≤ tv s i n) && decide (tv s i n ≤ 1099511627776)) = false → ans = false from fun h => HNI.out (by rw [HV2.out]; exact all_range_no hln h))
              have HBN := Lib.hid (show (decide (-1099511627776 ≤ tv s i n) && decide (tv s i n ≤ 1099511627776)) = true → ∀ j, j < n + 1 → (decide (-1099511627776 ≤ tv s i j) && decide (tv s i j ≤ 1099511627776)) = true from fun h j hj => by
                rcases Nat.lt_succ_iff_lt_or_eq.1 hj with h' | rfl
                · exact HB.out j h'
                · exact h)
              clear hln
              generalize tv s i n = x at *
              by_cases h1 : x < -1099511627776
              · have e1 : decide (x < -1099511627776) = true := by simpa using h1
                have HF := Lib.hid (HFN.out (by simp; omega))
                clear h1
                go_wp2_with fail
                go_ret
                exact ⟨ret_bool HF.out.symm, hg ▸ D1.out.below⟩
              · have e1 : decide (x < -1099511627776) = false := by simpa using h1
                by_cases h2 : 1099511627776 < x
                · have e2 : decide (1099511627776 < x) = true := by simpa using h2
                  have HF := Lib.hid (HFN.out (by simp; omega))
                  clear h1 h2
                  go_wp2_with fail
                  go_ret
                  exact ⟨ret_bool HF.out.symm, hg ▸ D1.out.below⟩
                · have e2 : decide (1099511627776 < x) = false := by simpa using h2
                  have HS := Lib.hid (HBN.out (by simp; omega))
                  clear h1 h2
                  go_wp2_with fail
                  go_roundg (gk - 1)
                  case rel => exact ⟨n + 1, by have := HL.out; omega, by go_num, rfl, HS⟩
                  case measure => have := HL.out; omega
            · obtain rfl : n = 8 := by have := HL.out; omega
              have HS := Lib.hid (HYI.out (by rw [HV2.out]; exact all_range.2 HB.out))
              go_wp2_with fail
              go_roundg (m - i - 1)
              case rel => exact ⟨i + 1, by have := HI.out; omega, by go_num, HS, D1⟩
              case measure => have := HI.out; omega
      · obtain rfl : i = m := by have := HI.out; omega
        have HF := Lib.hid (HY.out HA.out)
        go_wp2_with fail
        go_ret
        exact ⟨ret_bool HF.out.symm, hg ▸ D.out.below⟩
end
end Sc
end Go.Proofs.Ytchnnpaebggfdaa
