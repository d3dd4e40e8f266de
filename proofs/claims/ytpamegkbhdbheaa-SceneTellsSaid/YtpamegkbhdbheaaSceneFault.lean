/-
  What pointsFault, Fault and has of package scene do: their contracts by walking the Go text. Conditions: how the scene lies.
-/
import Derived.Test.YtpamegkbhdbheaaJSceneWalks3
namespace Go.Proofs.Ytpamegkbhdbheaa
set_option maxRecDepth 100000
open Go.ChangeShapes Go.WideShapes Go.ChangeAt Go.RowKit Go.Deep
namespace Sc
open Cf (G CA)

theorem fv_0 (s : Sn) : fv s 0 = ⟨#[]⟩ := rfl
theorem fv_yes {s : Sn} {i : Nat} (h : (List.range i).all (nok s) = true) : fv s i = ⟨#[]⟩ := if_pos h
theorem fv_no {s : Sn} {i : Nat} (h : (List.range i).all (nok s) = false) : fv s i = ⟨#[111, 102, 102]⟩ := if_neg (by rw [h]; decide)
theorem all_succ {p : Nat → Bool} {i : Nat} : (List.range (i + 1)).all p = ((List.range i).all p && p i) := by
  rw [List.range_succ, List.all_append]; simp
theorem pf_no {s : Sn} {i : Nat} (hi : i < s.ps.length) (h : tok s i = false) : pf s = ⟨#[116, 114, 117, 116, 104]⟩ := if_neg (by rw [all_range_no hi h]; decide)
theorem pf_yes {s : Sn} (h : ∀ i, i < s.ps.length → tok s i = true) : pf s = fv s s.ps.length := if_pos (all_range.2 h)
section
variable (s : Sn) (a : Option Addr) (cap : Nat) (w : World) (L : Lens s) (hp : PsAt w a s.ps)
include L hp
set_option maxHeartbeats 3200000 in
theorem points_any (C : Cv s) :
    Calls Try.prog 29 #[.agg (scv s a cap).toArray] w fun e w' => e = .returned (.string (pf s)) ∧ Below w.heap.size w w' := by
  have X0 := Lib.hid (Bd.new (cap := cap) L hp)
  have c28 := X0.out.at_.p
  have CT := Lib.hid (fun W i hi (hpr : i ≠ 0 → tok s (i - 1) = true) (D : At W w.heap.size s a cap) => truthful_any s a cap W D.len D.ps C i hi hpr)
  have CN := Lib.hid (fun W i hi (D : At W w.heap.size s a cap) => near_any s a cap W D.len D.ps C i hi)
  have HLN := Lib.hid L.n
  have HPN := Lib.hid (fun i (hi : i < s.ps.length) => pf_no (s := s) hi)
  have HPY := Lib.hid (pf_yes (s := s))
  obtain ⟨m, hm⟩ : ∃ m, m = s.ps.length := ⟨_, rfl⟩
  rw [← hm] at c28 HLN CT CN HPN HPY
  clear L hp C hm
  generalize pf s = ans at *
  go_enter Try.func29, Try.ntmps29
  go_upto_region 1 with fail
  generalize w.alloc (.cells (scv s a cap).toArray 27) = w0 at *
  generalize hg : w.heap.size = g at *
  go_upto_region 1 with fail
  go_wp2_with fail
  go_step3
  go_wp2_with fail
  go_step3
  go_wp2_with fail
  go_loopg [3, 4, 8] m (fun gg s3 _ s8 wr => ∃ i : Nat, i + gg = m ∧ s8 = .int .i64 i ∧ s3 = .string (fv s i) ∧ Hid (∀ j, j < i → tok s j = true) ∧ Hid (Bd w wr g s a cap))
  case atStart => exact ⟨0, by omega, rfl, rfl, Lib.hid (fun j hj => by omega), X0⟩
  case round =>
    clear X0 c28
    rename World => W
    obtain ⟨i, hi, rfl, rfl, HA, D⟩ := hrel
    have HI := Lib.hid hi
    clear hi
    by_cases hlt : i < m
    · have hli : (i : Int) < m := by omega
      have CT1 := fun W (D : Bd w W g s a cap) => CT.out W i hlt (fun h0 => HA.out (i - 1) (by omega)) D.at_
      have CN1 := fun W (D : Bd w W g s a cap) => CN.out W i hlt D.at_
      have HPT := Lib.hid (HPN.out i hlt)
      have HLT := Lib.hid hlt
      have hmx : (m : Int) ≤ 9223372036854775807 := by have := HLN.out; omega
      clear hlt
      cases ht : tok s i
      · have HF := Lib.hid (HPT.out ht)
        rw [ht] at CT1
        clear ht HPT
        generalize fv s i = f at *
        go_wp2_with ((with_reducible show wpList _ _ _ (⟨some 12, _, _, _, _, _⟩ :: _) _ _); refine loadS rfl _ rfl g rfl D.out.at_ ?_)
        refine (CT1 _ D.out).mono ?_; rintro e w1 ⟨rfl, b1⟩
        have D1 := Lib.hid (D.out.on b1)
        clear b1 D CT1 CN1
        go_wp2_with fail
        rw [Exit.noGoto_ret]
        go_ret
        exact ⟨ret_str HF.out.symm, hg ▸ D1.out.below⟩
      · have HS := Lib.hid (show ∀ j, j < i + 1 → tok s j = true from fun j hj => by
          rcases Nat.lt_succ_iff_lt_or_eq.1 hj with h | rfl
          · exact HA.out j h
          · exact ht)
        rw [ht] at CT1
        clear ht HPT
        cases hn : (List.range i).all (nok s)
        · have HG := Lib.hid (show fv s (i + 1) = ⟨#[111, 102, 102]⟩ from fv_no (by rw [all_succ, hn]; rfl))
          rw [fv_no hn]
          clear hn CN1
          go_wp2_with ((with_reducible show wpList _ _ _ (⟨some 12, _, _, _, _, _⟩ :: _) _ _); refine loadS rfl _ rfl g rfl D.out.at_ ?_)
          refine (CT1 _ D.out).mono ?_; rintro e w1 ⟨rfl, b1⟩
          have D1 := Lib.hid (D.out.on b1)
          clear b1 D CT1
          go_wp2_with fail
          go_roundg (gk - 1)
          case rel => exact ⟨i + 1, by have := HI.out; omega, by go_num, by rw [HG.out], HS, D1⟩
          case measure => have := HI.out; omega
        · rw [fv_yes hn]
          cases hk : nok s i
          · have HG := Lib.hid (show fv s (i + 1) = ⟨#[111, 102, 102]⟩ from fv_no (by rw [all_succ, hn, hk]; rfl))
            rw [hk] at CN1
            clear hn hk
            go_wp2_with ((with_reducible show wpList _ _ _ (⟨some 12, _, _, _, _, _⟩ :: _) _ _); refine loadS rfl _ rfl g rfl D.out.at_ ?_)
            refine (CT1 _ D.out).mono ?_; rintro e w1 ⟨rfl, b1⟩
            have D1 := Lib.hid (D.out.on b1)
            clear b1 D CT1
            go_wp2_with ((with_reducible show wpList _ _ _ (⟨some 20, _, _, _, _, _⟩ :: _) _ _); refine loadS rfl _ rfl g rfl D1.out.at_ ?_)
            refine (CN1 _ D1.out).mono ?_; rintro e w2 ⟨rfl, b1⟩
            have D2 := Lib.hid (D1.out.on b1)
            clear b1 D1 CN1
            go_wp2_with fail
            go_roundg (gk - 1)
            case rel => exact ⟨i + 1, by have := HI.out; omega, by go_num, by rw [HG.out], HS, D2⟩
            case measure => have := HI.out; omega
          · have HG := Lib.hid (show fv s (i + 1) = ⟨#[]⟩ from fv_yes (by rw [all_succ, hn, hk]; rfl))
            rw [hk] at CN1
            clear hn hk
            go_wp2_with ((with_reducible show wpList _ _ _ (⟨some 12, _, _, _, _, _⟩ :: _) _ _); refine loadS rfl _ rfl g rfl D.out.at_ ?_)
            refine (CT1 _ D.out).mono ?_; rintro e w1 ⟨rfl, b1⟩
            have D1 := Lib.hid (D.out.on b1)
            clear b1 D CT1
            go_wp2_with ((with_reducible show wpList _ _ _ (⟨some 20, _, _, _, _, _⟩ :: _) _ _); refine loadS rfl _ rfl g rfl D1.out.at_ ?_)
            refine (CN1 _ D1.out).mono ?_; rintro e w2 ⟨rfl, b1⟩
            have D2 := Lib.hid (D1.out.on b1)
            clear b1 D1 CN1
            go_wp2_with fail
            go_roundg (gk - 1)
            case rel => exact ⟨i + 1, by have := HI.out; omega, by go_num, by rw [HG.out], HS, D2⟩
            case measure => have := HI.out; omega
    · obtain rfl : i = m := by have := HI.out; omega
      have HF := Lib.hid (HPY.out HA.out)
      generalize fv s i = f at *
      go_wp2_with fail
      rw [Exit.noGoto_ret]
      go_ret
      exact ⟨ret_str HF.out.symm, hg ▸ D.out.below⟩
set_option maxHeartbeats 3200000 in
theorem fault_any :
    Calls Try.prog 12 #[.agg (scv s a cap).toArray] w fun e w' => e = .returned (.string (fault s)) ∧ Below w.heap.size w w' := by
  have X0 := Lib.hid (Bd.new (cap := cap) L hp)
  have CC := fun W => Cf.covers_any s.c s.e s.r W L.c
  rw [show Cf.cov s.c s.e s.r = cv s from rfl] at CC
  have h1 := X0.out.at_.e
  have h2 := X0.out.at_.r
  have HF := Lib.hid (show fault s = if cv s = false then ⟨#[99, 111, 118, 101, 114]⟩ else if odk s = false then ⟨#[111, 100, 100]⟩ else if num s = false then ⟨#[110, 117, 109, 98, 101, 114]⟩ else if 10000 < s.ps.length then ⟨#[112, 111, 105, 110, 116, 115]⟩ else pf s from rfl)
  have HCV := Lib.hid (fun h => cv_of (s := s) h)
  have CN := fun W (D : At W w.heap.size s a cap) C => numbered_any s a cap W D.len D.ps C
  have CP := fun W (D : At W w.heap.size s a cap) C => points_any s a cap W D.len D.ps C
  have HLN := Lib.hid L.n
  clear L hp
  generalize hcv : cv s = bc at *
  cases bc
  · rw [if_pos rfl] at HF
    generalize fault s = ans at *
    clear CN CP hcv
    go_enter Try.func12, Try.ntmps12
    go_upto_region 1 with fail
    generalize w.alloc (.cells (scv s a cap).toArray 27) = w0 at *
    generalize hg : w.heap.size = g at *
    go_wp2_with ((with_reducible show wpList _ _ _ (⟨some 5, _, _, _, _, _⟩ :: _) _ _); refine loadK rfl _ rfl g rfl X0.out.at_ ?_)
    refine (CC _).mono ?_; rintro e w1 ⟨rfl, b1⟩
    have X1 := Lib.hid (X0.out.on b1)
    clear b1
    go_wp2_with fail
    go_ret
    exact ⟨ret_str HF.out.symm, hg ▸ X1.out.below⟩
  · have C := HCV.out rfl
    rw [if_neg (by decide)] at HF
    have CO := fun W => within_any s.odd (-1) (G s.c 0 - 1) W
    rw [show (decide (-1 ≤ s.odd) && decide (s.odd ≤ G s.c 0 - 1)) = odk s from rfl] at CO
    have hN := C.n
    have CN := fun W D => CN W D C
    have CP := fun W D => CP W D C
    clear HCV C hcv
    generalize odk s = bo at *
    generalize num s = bn at *
    generalize pf s = sp at *
    generalize fault s = ans at *
    generalize hm : s.ps.length = m at *
    have HM := Lib.hid hm
    clear hm
    go_enter Try.func12, Try.ntmps12
    go_upto_region 1 with fail
    generalize w.alloc (.cells (scv s a cap).toArray 27) = w0 at *
    generalize hg : w.heap.size = g at *
    go_wp2_with ((with_reducible show wpList _ _ _ (⟨some 5, _, _, _, _, _⟩ :: _) _ _); refine loadK rfl _ rfl g rfl X0.out.at_ ?_)
    refine (CC _).mono ?_; rintro e w1 ⟨rfl, b1⟩
    have X1 := Lib.hid (X0.out.on b1)
    clear b1 X0 h1 h2 CC
    have h3 := X1.out.at_.odd
    have h4 := X1.out.at_.c 0 (by omega)
    cases bo
    · rw [if_pos rfl] at HF
      clear CN CP
      go_wp2_with fail
      refine (CO _).mono ?_; rintro e w2 ⟨rfl, rfl⟩
      go_wp2_with fail
      go_ret
      exact ⟨ret_str HF.out.symm, hg ▸ X1.out.below⟩
    · rw [if_neg (by decide)] at HF
      go_wp2_with fail
      refine (CO _).mono ?_; rintro e w2 ⟨rfl, rfl⟩
      clear CO h3 h4 hN
      go_wp2_with ((with_reducible show wpList _ _ _ (⟨some 22, _, _, _, _, _⟩ :: _) _ _); refine loadS rfl _ rfl g rfl X1.out.at_ ?_)
      refine (CN _ X1.out.at_).mono ?_; rintro e w2 ⟨rfl, b1⟩
      have X2 := Lib.hid (X1.out.on b1)
      clear b1 X1 CN
      cases bn
      · rw [if_pos rfl] at HF
        go_wp2_with fail
        go_ret
        exact ⟨ret_str HF.out.symm, hg ▸ X2.out.below⟩
      · rw [if_neg (by decide)] at HF
        have h5 := X2.out.at_.p
        rw [HM.out] at h5
        by_cases hx : 10000 < m
        · rw [if_pos hx] at HF
          have d1 : decide (10000 < (m : Int)) = true := by simp; omega
          clear hx CP
          go_wp2_with fail
          go_ret
          exact ⟨ret_str HF.out.symm, hg ▸ X2.out.below⟩
        · rw [if_neg hx] at HF
          have d1 : decide (10000 < (m : Int)) = false := by simp; omega
          clear hx
          go_wp2_with ((with_reducible show wpList _ _ _ (⟨some 30, _, _, _, _, _⟩ :: _) _ _); refine loadS rfl _ rfl g rfl X2.out.at_ ?_)
          refine (CP _ X2.out.at_).mono ?_; rintro e w3 ⟨rfl, b1⟩
          have X3 := Lib.hid (X2.out.on b1)
          clear b1 X2 CP
          go_wp2_with fail
          go_ret
          exact ⟨ret_str HF.out.symm, hg ▸ X3.out.below⟩
omit L hp in
theorem emp : (fault s).toList.isEmpty = decide (fault s = ⟨#[]⟩) := by
  rw [Bool.eq_iff_iff, decide_eq_true_eq, List.isEmpty_iff, ByteArray.toList_eq, ByteArray.ext_iff]
  simp
set_option maxHeartbeats 3200000 in
theorem has_any (i n : Int) :
    Calls Try.prog 23 #[.agg (scv s a cap).toArray, .int .i64 i, .int .i64 n] w fun e w' => e = .returned (.bool (has s i n)) ∧ Below w.heap.size w w' := by
  have X0 := Lib.hid (Bd.new (cap := cap) L hp)
  have c28 := X0.out.at_.p
  have HLN := L.n
  have CI := fun W => within_any i 0 ((s.ps.length : Int) - 1) W
  have CN := fun W => within_any n 0 7 W
  have CF := fun W (D : At W w.heap.size s a cap) => fault_any s a cap W D.len D.ps
  have HE := Lib.hid (emp s)
  have HF := Lib.hid (show has s i n = ((decide (0 ≤ i) && decide (i ≤ (s.ps.length : Int) - 1)) && ((decide (0 ≤ n) && decide (n ≤ 7)) && decide (fault s = ⟨#[]⟩))) from rfl)
  clear L hp
  rw [← HE.out] at HF
  generalize (decide (0 ≤ i) && decide (i ≤ (s.ps.length : Int) - 1)) = b1 at *
  generalize (decide (0 ≤ n) && decide (n ≤ 7)) = b2 at *
  generalize has s i n = ans at *
  generalize fault s = ft at *
  generalize hb3 : ft.toList.isEmpty = b3 at *
  generalize s.ps.length = m at *
  go_enter Try.func23, Try.ntmps23
  go_upto_region 1 with fail
  generalize w.alloc (.cells (scv s a cap).toArray 27) = w0 at *
  generalize hg : w.heap.size = g at *
  cases b1
  · go_wp2_with fail
    refine (CI _).mono ?_; rintro e w2 ⟨rfl, rfl⟩
    go_wp2_with fail
    go_ret
    exact ⟨ret_bool (by rw [HF.out]; rfl), hg ▸ X0.out.below⟩
  · cases b2
    · go_wp2_with fail
      refine (CI _).mono ?_; rintro e w2 ⟨rfl, rfl⟩
      go_wp2_with fail
      refine (CN _).mono ?_; rintro e w2 ⟨rfl, rfl⟩
      go_wp2_with fail
      go_ret
      exact ⟨ret_bool (by rw [HF.out]; rfl), hg ▸ X0.out.below⟩
    · go_wp2_with fail
      refine (CI _).mono ?_; rintro e w2 ⟨rfl, rfl⟩
      go_wp2_with fail
      refine (CN _).mono ?_; rintro e w2 ⟨rfl, rfl⟩
      go_wp2_with ((with_reducible show wpList _ _ _ (⟨some 18, _, _, _, _, _⟩ :: _) _ _); refine loadS rfl _ rfl g rfl X0.out.at_ ?_)
      refine (CF _ X0.out.at_).mono ?_; rintro e w3 ⟨rfl, b1⟩
      have X3 := Lib.hid (X0.out.on b1)
      clear b1 X0 c28
      go_wp2_with fail
      go_ret
      exact ⟨ret_bool (by rw [HF.out]; rfl), hg ▸ X3.out.below⟩
end
end Sc
end Go.Proofs.Ytpamegkbhdbheaa
