/-
  The walk of the law ParityFour: for every number, three more and an odd one, it returns true, and writes nothing that was there. No conditions.
-/
import Derived.Test.YtiniijoodgdikaaParityAlive
import Derived.Test.YtiniijoodgdikaaTwoRows
import Derived.Test.YtiniijoodgdikaaBlk
import Derived.Test.YtiniijoodgdikaaMany
import Derived.Deep.DeepCutAuto
import Derived.Deep.CutBlock
import Derived.Deep.RegionLaw
import Derived.Lib.MinMax
namespace Go.Proofs.Ytiniijoodgdikaa
open Go.ChangeShapes Go.WideShapes Go.ChangeAt Go.RowKit Go.Deep
namespace Pa
theorem run_max3 {P : Program} (w : World) (ts : Array TypeId) (t : TypeId) (x y z : Int) : (Builtin.max_ ts t #[.int .i64 x, .int .i64 y, .int .i64 z]).run P w = .ok (.int .i64 (max (max x y) z)) w := by
  have e1 : (if y > x then y else x) = max x y := by rw [Int.max_def]; split <;> split <;> omega
  have e2 : (if z > max x y then z else max x y) = max (max x y) z := by rw [Int.max_def (max x y) z]; split <;> split <;> omega
  simp [Builtin.max_, Builtin.max2, e1, e2]
theorem run_min3 {P : Program} (w : World) (ts : Array TypeId) (t : TypeId) (x y z : Int) : (Builtin.min_ ts t #[.int .i64 x, .int .i64 y, .int .i64 z]).run P w = .ok (.int .i64 (min (min x y) z)) w := by
  have e1 : (if y < x then y else x) = min x y := by rw [Int.min_def]; split <;> split <;> omega
  have e2 : (if z < min x y then z else min x y) = min (min x y) z := by rw [Int.min_def (min x y) z]; split <;> split <;> omega
  simp [Builtin.min_, Builtin.min2, e1, e2]
end Pa
namespace parityFour
open Fx Od Pa

theorem intInfo : (Try.prog.info? 3).map (fun i => (i.zero, i.size, i.bytes)) = some (some (.int .i64 0), 1, 8) := by kernel_rfl
/-- The rest of a list that fits its room, cut off where its room may end. -/
theorem drop_at {w : World} {b off c k : Nat} {l : List Int} (h : IntsAt .i64 w (some ⟨b, off, none⟩) l) (hc : l.length ≤ c) : IntsAt .i64 w (if c = k then some ⟨b, off, none⟩ else some ⟨b, off + k, none⟩) (l.drop k) := by
  split
  · exact Or.inl (List.drop_eq_nil_of_le (by omega))
  · rcases h with h0 | ⟨_, _, h1, hc⟩
    · rw [h0]; exact Or.inl (by simp)
    · cases h1; exact intsAt_drop k hc
/-- What is asked of the three appends. -/
theorem room3 (l : List Int) (x : Int) (k : Nat) (h : l.length ≤ 3) : ([] : List Int).length + (l.take k).length ≤ maxLen ∧ (([] : List Int).length + (l.take k).length) * 8 ≤ 140737488355328 ∧
    ([] ++ l.take k).length + [x].length ≤ maxLen ∧ (([] ++ l.take k).length + [x].length) * 8 ≤ 140737488355328 ∧
    ([] ++ l.take k ++ [x]).length + (l.drop k).length ≤ maxLen ∧ (([] ++ l.take k ++ [x]).length + (l.drop k).length) * 8 ≤ 140737488355328 := by
  simp only [List.nil_append, List.length_nil, List.length_append, List.length_cons, List.length_drop, List.length_take, maxLen]
  omega

set_option maxRecDepth 100000 in
set_option maxHeartbeats 3200000 in
theorem main (lo b0 b1 b2 odd turn : Int) (w : World) (hlo : -2147483648 ≤ lo ∧ lo ≤ 2147483647) (hodd : -2147483648 ≤ odd ∧ odd ≤ 2147483647) (h0 : 0 ≤ b0 ∧ b0 ≤ 65535) (h1 : 0 ≤ b1 ∧ b1 ≤ 65535) (h2 : 0 ≤ b2 ∧ b2 ≤ 65535) (ht : 0 ≤ turn ∧ turn ≤ 255) :
    Calls Try.prog 4 #[.int .i32 lo, .agg #[.int .u16 b0, .int .u16 b1, .int .u16 b2], .agg #[.int .i32 odd, .int .u8 turn]] w
      fun e w' => e = .returned (.bool true) ∧ Below w.heap.size w w' := by
  have MX := fun W ts t => run_max3 (P := Try.prog) W ts t b0 b1 b2
  have MN := fun W ts t => run_min3 (P := Try.prog) W ts t b0 b1 b2
  have m1 : 0 ≤ max (max b0 b1) b2 ∧ max (max b0 b1) b2 ≤ 65535 ∧ b0 ≤ max (max b0 b1) b2 ∧ b1 ≤ max (max b0 b1) b2 ∧ b2 ≤ max (max b0 b1) b2 := by omega
  have m2 : 0 ≤ min (min b0 b1) b2 ∧ min (min b0 b1) b2 ≤ 65535 ∧ min (min b0 b1) b2 ≤ b0 ∧ min (min b0 b1) b2 ≤ b1 ∧ min (min b0 b1) b2 ≤ b2 := by omega
  have m3 : min (min b0 b1) b2 ≤ max (max b0 b1) b2 := by omega
  generalize max (max b0 b1) b2 = top at *
  generalize min (min b0 b1) b2 = low at *
  obtain ⟨K, hK⟩ : ∃ K : Nat, (K : Int) = turn % 4 := ⟨(turn % 4).toNat, by omega⟩
  have K4 : K < 4 := by omega
  have tk : Int.tmod turn 4 = (K : Int) := by rw [Int.tmod_eq_emod_of_nonneg ht.1]; omega
  clear hK
  go_enter Try.func4, Try.ntmps4
  go_upto_region 10 with fail
  have HI := Lib.hid (show IntsAt .i64 (((w.alloc (.cells #[.int .u16 b0, .int .u16 b1, .int .u16 b2] 29)).alloc (.cells #[.int .i32 odd, .int .u8 turn] 31)).alloc (.cells #[.int .i64 (lo + b0), .int .i64 (lo + b1), .int .i64 (lo + b2)] 3)) (some ⟨w.heap.size + 1 + 1, 0, none⟩) [lo + b0, lo + b1, lo + b2] by
    have := ints3 ((w.alloc (.cells #[.int .u16 b0, .int .u16 b1, .int .u16 b2] 29)).alloc (.cells #[.int .i32 odd, .int .u8 turn] 31)) 3 (lo + b0) (lo + b1) (lo + b2)
    rwa [World.size_alloc, World.size_alloc] at this)
  have HG := Lib.hid (show Below w.heap.size w (((w.alloc (.cells #[.int .u16 b0, .int .u16 b1, .int .u16 b2] 29)).alloc (.cells #[.int .i32 odd, .int .u8 turn] 31)).alloc (.cells #[.int .i64 (lo + b0), .int .i64 (lo + b1), .int .i64 (lo + b2)] 3)) from
    (((Below.refl w.heap.size w).alloc (Nat.le_refl _) _).alloc (by simp) _).alloc (by simp; omega) _)
  generalize ((w.alloc (.cells #[.int .u16 b0, .int .u16 b1, .int .u16 b2] 29)).alloc (.cells #[.int .i32 odd, .int .u8 turn] 31)).alloc (.cells #[.int .i64 (lo + b0), .int .i64 (lo + b1), .int .i64 (lo + b2)] 3) = W at *
  generalize w.heap.size + 1 + 1 = g at *
  have FO := Lib.hid (four_odd (x := lo + b0) (y := lo + b1) (z := lo + b2) (o := odd) (lo := lo + low) (hi := lo + top) (b := lo + top - (lo + low)) K4 (by omega) (by omega) (by omega) rfl ((fr_iff _).2 (by omega)) ((fr_iff _).2 (by omega)) ((fr_iff _).2 (by omega)) ((fr_iff _).2 (by omega)))
  have FE := Lib.hid (fun h : lo + low ≤ odd ∧ odd ≤ lo + top => four_even (x := lo + b0) (y := lo + b1) (z := lo + b2) (o := odd) (lo := lo + low) (hi := lo + top) (b := lo + top - (lo + low)) K4 (by omega) (by omega) (by omega) h (Int.le_refl _) ((fr_iff _).2 (by omega)) ((fr_iff _).2 (by omega)) ((fr_iff _).2 (by omega)) ((fr_iff _).2 (by omega)))
  have hl : [lo + b0, lo + b1, lo + b2].length = 3 := rfl
  generalize [lo + b0, lo + b1, lo + b2] = H at *
  obtain ⟨tv, htv⟩ : ∃ tv, [] ++ H.take K ++ [odd] ++ H.drop K = tv := ⟨_, rfl⟩
  rw [htv] at FO FE
  have HTV := Lib.hid htv
  have TL := Lib.hid (show tv.length = 4 by rw [← htv]; simp only [List.length_append, List.length_nil, List.length_cons, List.length_take, List.length_drop]; omega)
  have RM7 := Lib.hid (room3 H odd K (by omega))
  have k1 : (K : Int) ≤ 3 := by omega
  have k2 : 0 ≤ (K : Int) := by omega
  have k6 : K ≤ 3 := by omega
  clear htv tk MX MN
  go_cut [16] (fun s16 wx => ∃ a c, s16 = .slice a 4 c ∧ c ≤ 9223372036854775807 ∧ 4 ≤ c ∧ Hid (IntsAt .i64 wx a tv) ∧ Hid (Below W.heap.size W wx))
  case first =>
    have HT7 := Lib.hid (HI.out.take K)
    have TK7 := Lib.hid (show (H.take K).length = K by rw [List.length_take]; omega)
    have HD7 := Lib.hid (show IntsAt .i64 W (if 3 = K then some ⟨g, 0, none⟩ else some ⟨g, K, none⟩) (H.drop K) from by have := drop_at (k := K) (c := 3) HI.out (by omega); rwa [Nat.zero_add] at this)
    have DK7 := Lib.hid (show (H.drop K).length = 3 - K by rw [List.length_drop, hl])
    clear hl h0 h1 h2 hlo hodd ht m1 m2 m3
    go_region_law (first
      | (refine step_appendI_at rfl (.tmp 71) (.tmp 74) _ rfl .i64 W.heap.size 3 8 Try.underlying22 intInfo (.slice (some ⟨W.heap.size, 0, none⟩) 0 0) [] (some ⟨g, 0, none⟩) K 3 (H.take K) (by simp [Act.eval]) (by simp [Act.eval]) TK7.out (OwnI.lit0 (Nat.le_refl _)).drew (HT7.out.below ((Below.refl _ _).alloc (Nat.le_refl _) _)).drew RM7.out.1 RM7.out.2.1 W ((Below.refl _ _).alloc (Nat.le_refl _) _).drew (Nat.le_refl _) ?_; intro v75 w75 O75' B75' G75' M75'; have O75 := Lib.hid O75'; have B75 := Lib.hid B75'; clear O75' B75' G75' M75')
      | (refine step_appendI_at rfl (.tmp 71) (.tmp 74) _ rfl .i64 W.heap.size 3 8 Try.underlying22 intInfo (.slice (some ⟨W.heap.size, 0, none⟩) 0 0) [] (some ⟨g, 0, none⟩) K 3 (H.take K) (by simp [Act.eval]) (by simp [Act.eval]) TK7.out ((OwnI.lit0 (Nat.le_refl _)).alloc _).drew (HT7.out.below (((Below.refl _ _).alloc (Nat.le_refl _) _).alloc (by simp) _)).drew RM7.out.1 RM7.out.2.1 W (((Below.refl _ _).alloc (Nat.le_refl _) _).alloc (by simp) _).drew (Nat.le_refl _) ?_; intro v75 w75 O75' B75' G75' M75'; have L77 := Lib.hid (IntsAt.grown (laid1_behind _ _ _ _).drew G75' (by simp [Value.ownBlock])); have O75 := Lib.hid O75'; have B75 := Lib.hid B75'; clear O75' B75' G75' M75')
      | (refine step_appendI_at rfl (.tmp 71) (.tmp 74) _ rfl .i64 W.heap.size 3 8 Try.underlying22 intInfo (.slice (some ⟨W.heap.size + 1, 0, none⟩) 0 0) [] (some ⟨g, 0, none⟩) K 3 (H.take K) (by simp [Act.eval]) (by simp [Act.eval]) TK7.out (lit0_behind _ _ (Nat.le_refl _)).drew (HT7.out.below (((Below.refl _ _).alloc (Nat.le_refl _) _).alloc (by simp) _)).drew RM7.out.1 RM7.out.2.1 W (((Below.refl _ _).alloc (Nat.le_refl _) _).alloc (by simp) _).drew (Nat.le_refl _) ?_; intro v75 w75 O75' B75' G75' M75'; have L77 := Lib.hid (IntsAt.grown ((laid1 _ _ _).below ((Below.refl _ _).alloc (Nat.le_refl _) _)).drew G75' (by simp [Value.ownBlock])); have O75 := Lib.hid O75'; have B75 := Lib.hid B75'; clear O75' B75' G75' M75')
      | (refine step_appendI_at rfl (.tmp 75) (.tmp 77) _ rfl .i64 W.heap.size 3 8 Try.underlying22 intInfo v75 ([] ++ H.take K) (some ⟨w75.heap.size, 0, none⟩) 1 1 [odd] (by simp [Act.eval]) (by simp [Act.eval]) rfl (O75.out.alloc _) (laid1 _ _ _) RM7.out.2.2.1 RM7.out.2.2.2.1 W (B75.out.alloc B75.out.size _) (Nat.le_refl _) ?_; intro v78 w78 O78' B78' G78' M78'; have O78 := Lib.hid O78'; have B78 := Lib.hid B78'; clear O78' B78' G78' M78')
      | (refine step_appendI_at rfl (.tmp 75) (.tmp 77) _ rfl .i64 W.heap.size 3 8 Try.underlying22 intInfo v75 ([] ++ H.take K) _ 1 1 [odd] (by simp [Act.eval]) (by simp [Act.eval]) rfl O75.out L77.out RM7.out.2.2.1 RM7.out.2.2.2.1 W B75.out (Nat.le_refl _) ?_; intro v78 w78 O78' B78' G78' M78'; have O78 := Lib.hid O78'; have B78 := Lib.hid B78'; clear O78' B78' G78' M78')
      | (refine step_appendI_at rfl (.tmp 78) (.tmp 81) _ rfl .i64 W.heap.size 3 8 Try.underlying22 intInfo v78 ([] ++ H.take K ++ [odd]) (if 3 = K then some ⟨g, 0, none⟩ else some ⟨g, K, none⟩) (3 - K) (3 - K) (H.drop K) (by simp [Act.eval]) (by simp [Act.eval]) DK7.out O78.out (HD7.out.below B78.out) RM7.out.2.2.2.2.1 RM7.out.2.2.2.2.2 W B78.out (Nat.le_refl _) ?_; intro v82 w82 O82' B82' G82' M82'; rw [HTV.out] at O82'; have B82 := Lib.hid B82'; obtain ⟨a82, c82, rfl, i82, j82, m82⟩ := O82'.form2; have I82 := Lib.hid i82; clear O82' B82' G82' M82' i82))
    all_goals
      generalize (if 3 = K then (some ⟨g, 0, none⟩ : Option Addr) else some ⟨g, K, none⟩) = ad at *
      go_wp2_with fail
      go_meet
      exact ⟨a82, c82, by rw [TL.out], by unfold maxLen at m82; omega, by have := TL.out; omega, I82, B82⟩
  case rest =>
    obtain ⟨a16, c16, rfl, hc1, hc2, I16, G16⟩ := hcut
    have Gd := Lib.hid (grow HG.out G16.out)
    have AL := fun W => alive_any W
    have CS := fun W h => sus_any a16 c16 tv (lo + top - (lo + low)) W (by rw [TL.out]; omega) (by rw [TL.out]; omega) hc1 h
    rw [TL.out] at CS
    have ub : -2147483648 ≤ lo + top ∧ lo + top ≤ 2147549182 := by omega
    have db : -2147483648 ≤ lo + low ∧ lo + low ≤ 2147549182 := by omega
    have ud : lo + low ≤ lo + top := by omega
    clear HI HG G16 RM7 HTV TL k6 hl h0 h1 h2 hlo ht m1 m2 m3
    generalize lo + top = up at *
    generalize lo + low = dn at *
    obtain ⟨bd, hbd⟩ : ∃ bd, up - dn = bd := ⟨_, rfl⟩
    rw [hbd] at FO FE CS ⊢
    have bb : 0 ≤ bd ∧ bd ≤ 4295032830 := by omega
    have HBD := Lib.hid hbd
    clear hbd
    by_cases e1 : up + bd < odd
    · have d1 : decide (up + bd < odd) = true := by simpa using e1
      have hs := FO.out (Or.inl e1)
      rw [hs] at CS
      clear hs FO FE
      go_wp2_with fail
      refine (AL _).mono ?_; rintro e w5 ⟨rfl, b5⟩
      have I5 := Lib.hid (I16.out.below b5)
      have G5 := Lib.hid (grow Gd.out b5)
      clear b5 Gd I16
      go_wp2_with fail
      refine (CS _ I5.out).mono ?_; rintro e w6 ⟨rfl, b6⟩
      have G6 := Lib.hid (grow G5.out b6)
      clear b6 G5 I5
      go_wp2
      go_ret
      exact ⟨rfl, G6.out⟩
    · have d1 : decide (up + bd < odd) = false := by simpa using e1
      by_cases e2 : odd < dn - bd
      · have d2 : decide (odd < dn - bd) = true := by simpa using e2
        have hs := FO.out (Or.inr e2)
        rw [hs] at CS
        clear hs FO FE
        go_wp2_with fail
        refine (AL _).mono ?_; rintro e w5 ⟨rfl, b5⟩
        have I5 := Lib.hid (I16.out.below b5)
        have G5 := Lib.hid (grow Gd.out b5)
        clear b5 Gd I16
        go_wp2_with fail
        refine (CS _ I5.out).mono ?_; rintro e w6 ⟨rfl, b6⟩
        have G6 := Lib.hid (grow G5.out b6)
        clear b6 G5 I5
        go_wp2
        go_ret
        exact ⟨rfl, G6.out⟩
      · have d2 : decide (odd < dn - bd) = false := by simpa using e2
        have n1 : -9223372036854775808 ≤ max odd up - min odd dn := by omega
        have n2 : max odd up - min odd dn ≤ 9223372036854775807 := by omega
        have HX := Lib.hid (show max odd up - min odd dn ≤ bd → dn ≤ odd ∧ odd ≤ up by have := HBD.out; omega)
        by_cases e3 : max odd up - min odd dn ≤ bd
        · have d3 : decide (max odd up - min odd dn ≤ bd) = true := by simpa using e3
          have hs := FE.out (HX.out e3)
          rw [hs] at CS
          clear hs FO FE HX
          go_wp2_with fail
          refine (AL _).mono ?_; rintro e w5 ⟨rfl, b5⟩
          have I5 := Lib.hid (I16.out.below b5)
          have G5 := Lib.hid (grow Gd.out b5)
          clear b5 Gd I16
          go_wp2_with fail
          refine (CS _ I5.out).mono ?_; rintro e w6 ⟨rfl, b6⟩
          have G6 := Lib.hid (grow G5.out b6)
          clear b6 G5 I5
          go_wp2
          go_ret
          exact ⟨rfl, G6.out⟩
        · have d3 : decide (max odd up - min odd dn ≤ bd) = false := by simpa using e3
          clear FO FE HX CS
          go_wp2_with fail
          refine (AL _).mono ?_; rintro e w5 ⟨rfl, b5⟩
          have G5 := Lib.hid (grow Gd.out b5)
          clear b5 Gd I16
          go_wp2
          go_ret
          exact ⟨rfl, G5.out⟩
theorem walk (lo b0 b1 b2 odd turn : Int) (w : World) (u0 : (Lit.int .i32 lo).wf = true) (u1 : (Lit.int .u16 b0).wf = true) (u2 : (Lit.int .u16 b1).wf = true) (u3 : (Lit.int .u16 b2).wf = true) (u4 : (Lit.int .i32 odd).wf = true) (u5 : (Lit.int .u8 turn).wf = true) :
    Calls Try.prog 4 #[.int .i32 lo, .agg #[.int .u16 b0, .int .u16 b1, .int .u16 b2], .agg #[.int .i32 odd, .int .u8 turn]] w
      fun e w' => e = .returned (.bool true) ∧ Below w.heap.size w w' := main lo b0 b1 b2 odd turn w (Mn.i32_in u0) (Mn.i32_in u4) (Mn.u16_in u1) (Mn.u16_in u2) (Mn.u16_in u3) (Mn.u8_in u5)
end parityFour
end Go.Proofs.Ytiniijoodgdikaa
