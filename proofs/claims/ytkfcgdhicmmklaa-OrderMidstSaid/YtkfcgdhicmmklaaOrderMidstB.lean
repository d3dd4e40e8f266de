/-
  The walk of the law OrderMidst at lists of one to four numbers. Its conditions: where the list lies, and that its bytes are within the reach.
-/
import Derived.Test.YtkfcgdhicmmklaaOrderMidstA
import Derived.Test.YtkfcgdhicmmklaaOrderMidMath
import Derived.Deep.RegionLaw
namespace Go.Proofs.Ytkfcgdhicmmklaa
open Go.ChangeShapes Go.WideShapes Go.ChangeAt Go.RowKit Go.Deep
namespace orderMidst
open Fx Od

theorem le_max {c : Nat} (h : c ≤ maxLen) : c ≤ 9223372036854775807 := by unfold maxLen at h; exact h

set_option maxRecDepth 100000 in
set_option maxHeartbeats 3200000 in
theorem main1 (b off cap : Nat) (l : List Int) (odd : Int) (t : Nat) (w : World) (hl : l.length = 1) (c0 : l.length ≤ cap) (z : cap * 8 ≤ 140737488351232)
    (hc : ∀ i, i < l.length → w.cell? ⟨b, off + i, none⟩ = some (.int .i64 (l.getD i 0))) (hok : ok (l ++ [odd]) = true) (ht : t < 256) :
    Calls Try.prog 5 #[.slice (some ⟨b, off, none⟩) 1 cap, .int .i64 odd, .int .u8 t] w fun e w' => e = .returned (.bool true) ∧ Below w.heap.size w w' := by
  obtain ⟨a, ha⟩ : ∃ a : Option Addr, some ⟨b, off, none⟩ = a := ⟨_, rfl⟩
  have hb : IntsAt .i64 w (some ⟨b, off, none⟩) l := Or.inr ⟨b, off, rfl, hc⟩
  subst ha
  have HA1 := Lib.hid (bd1 c0 z)
  have HA2 := Lib.hid (bd2 c0 z)
  have HA3 := Lib.hid (bd3 odd c0 z)
  have HA4 := Lib.hid (bd4 odd c0 z)
  have HB := Lib.hid hb
  have HC := Lib.hid hc
  clear hc
  have HL := Lib.hid hl
  have hokl := ok_left hok
  have hin := mid_in hokl (by omega) (by omega)
  have hmb := midb_yes hokl (by omega) (by omega)
  have hwl := without_last hok
  have hsl := osort_len_ok hokl
  have hsrt : osort l = srt l := by unfold osort; rw [if_pos hokl]
  have hsp : (osort l).Perm l := by rw [hsrt]; exact srt_perm l
  rw [hl] at hin hwl hsl c0
  rw [← hsrt] at hin
  obtain ⟨lo, hlo⟩ : ∃ lo, l ++ [odd] = lo := ⟨_, rfl⟩
  have hln : lo.length ≤ 9223372036854775807 := by rw [← hlo]; simp; omega
  rw [hlo] at hok hwl
  have HLO := Lib.hid hlo
  clear hlo hsrt
  have hk1 : (t : Int) % 1 = 0 := by omega
  have HK5 := Lib.hid (show ([] ++ l).length + ([] : List Int).length ≤ maxLen by rw [List.nil_append, hl]; simp only [List.length_nil, maxLen]; omega)
  have HK6 := Lib.hid (show (([] ++ l).length + ([] : List Int).length) * 8 ≤ 140737488355328 by rw [List.nil_append, hl]; simp only [List.length_nil]; omega)
  obtain ⟨tl, htl⟩ : ∃ tl, [] ++ l ++ [] = tl := ⟨_, rfl⟩
  have htp : tl.Perm l := by rw [← htl, List.nil_append, List.append_nil]
  have k6 : 0 ≤ cap := by omega
  have HTL := Lib.hid htl
  clear htl
  have htl1 : tl.length ≤ 9223372036854775807 := by rw [htp.length_eq, hl]; omega
  have Q1 := Lib.hid (midv_perm htp)
  have Q2 := Lib.hid ((midb_perm htp).trans hmb)
  have Q3 := Lib.hid (midv_perm hsp)
  have Q4 := Lib.hid ((midb_perm hsp).trans hmb)
  have QM := Lib.hid hmb
  have HWL := Lib.hid (show without lo 1 = l from hwl)
  clear htp hsp hmb hwl
  obtain ⟨s, hs⟩ : ∃ s, osort l = s := ⟨_, rfl⟩
  rw [hs] at hin hsl Q3 Q4
  have HS := Lib.hid hs
  have HSL := Lib.hid hsl
  have HOK := Lib.hid hok
  clear hs hsl hok hokl hb
  obtain ⟨i1, i2⟩ := hin
  simp only [Nat.reduceSub] at i2
  generalize hmm : midv l = mm at *
  have HMM := Lib.hid hmm
  clear hmm

  have d1 : decide (mm < s.getD 0 0) = false := by simpa using i1
  have d2 : decide (s.getD 0 0 < mm) = false := by simpa using i2


  generalize hx0 : s.getD 0 0 = x0 at *
  have HX0 := Lib.hid hx0
  clear hx0 hl
  go_enter Try.func5, Try.ntmps5
  go_upto_region 4 with (first
    | ((with_reducible show wpList _ _ _ (⟨some 23, _, _, _, _, _⟩ :: _) _ _); refine wpList_appendI rfl (.tmp 21) (.tmp 22) _ rfl .i64 w.heap.size 3 8 Try.underlying22 rintInfo _ [] (some ⟨b, off, none⟩) 1 cap l rfl rfl HL.out (OwnI.lit0 (Nat.le_refl _)) (HB.out.below ((Below.refl _ _).alloc (Nat.le_refl _) _)) HA1.out HA2.out w ((Below.refl _ _).alloc (Nat.le_refl _) _) (Nat.le_refl _) ?_; intro v23 w23 O23' B23'; rw [List.nil_append] at O23'; have O23 := Lib.hid O23'; have B23 := Lib.hid B23'; clear O23' B23')
    | ((with_reducible show wpList _ _ _ (⟨some 26, _, _, _, _, _⟩ :: _) _ _); refine wpList_appendI rfl (.tmp 23) (.tmp 25) _ rfl .i64 w.heap.size 3 8 Try.underlying22 rintInfo v23 l (some ⟨w23.heap.size, 0, none⟩) 1 1 [odd] rfl rfl rfl (O23.out.alloc _) (laid1 _ _ _) HA3.out HA4.out w (B23.out.alloc B23.out.size _) (Nat.le_refl _) ?_; intro v26 w26 O26' B26'; rw [HLO.out] at O26'; have B26 := Lib.hid B26'; obtain ⟨a26, c26, rfl, i26, j26⟩ := O26'.form2; have I26 := Lib.hid i26; have J26 := Lib.hid j26; clear O26' B26' i26 j26)
    | (go_at_call 16; refine (rright_any _ _ lo _ hln I26.out).mono ?_; rw [HOK.out]; rintro e w' ⟨rfl, rfl⟩))
  have HB26 := Lib.hid (HB.out.below B26.out)
  have C42 := sort_any _ cap l w26 (by rw [HL.out]; omega) HB26.out
  rw [HS.out, HL.out] at C42
  go_upto_region 5 with (go_at_call 10; refine C42.mono ?_; rintro e w42 ⟨a42, c42, rfl, i42, b42⟩)
  have I42 := Lib.hid i42
  have G42 := Lib.hid (grow B26.out b42)
  clear b42 i42 C42 I26 J26 HB26 B26
  rw [HSL.out]
  have C45 := mid_any _ cap l w42 (by rw [HL.out]; omega) (HB.out.below G42.out)
  rw [HMM.out, QM.out, HL.out] at C45
  go_upto_region 6 with (go_at_call 7; refine C45.mono ?_; rintro e w45 ⟨rfl, b45⟩)
  have I45 := Lib.hid (I42.out.below b45)
  have G45 := Lib.hid (grow G42.out b45)
  clear b45 C45 I42 G42
  rcases I45.out with hno | ⟨bs, os, rfl, hcs⟩
  · have := HSL.out; rw [hno] at this; simp at this
  have s0 : w45.cell? ⟨bs, os, none⟩ = some (.int .i64 x0) := by have := hcs 0 (by rw [HSL.out]; omega); rw [HX0.out] at this; exact this
  have S0 := Lib.hid s0
  clear hcs
  go_upto_region 9 with (fail)
  clear s0
  have HBW := Lib.hid (HB.out.below G45.out)
  go_region_law (first
    | (refine step_appendI rfl (.tmp 79) (.tmp 82) _ rfl .i64 w45.heap.size 3 8 Try.underlying22 rintInfo (.slice (some ⟨w45.heap.size, 0, none⟩) 0 0) [] (some ⟨b, off, none⟩) 1 cap l (by simp [Act.eval]) (by simp [Act.eval]) HL.out (OwnI.lit0 (Nat.le_refl _)).drew (HBW.out.below ((Below.refl _ _).alloc (Nat.le_refl _) _)).drew HA1.out HA2.out w45 ((Below.refl _ _).alloc (Nat.le_refl _) _).drew (Nat.le_refl _) ?_; intro v83 w83 O83' B83'; have O83 := Lib.hid O83'; have B83 := Lib.hid B83'; clear O83' B83')
    | (refine step_appendI rfl (.tmp 83) (.tmp 86) _ rfl .i64 w45.heap.size 3 8 Try.underlying22 rintInfo v83 ([] ++ l) (some ⟨b, off, none⟩) 0 cap [] (by simp [Act.eval]) (by simp [Act.eval]) rfl O83.out (Or.inl rfl) HK5.out HK6.out w45 B83.out (Nat.le_refl _) ?_; intro v87 w87 O87' B87'; rw [HTL.out] at O87'; have B87 := Lib.hid B87'; obtain ⟨a87, c87, rfl, i87, j87⟩ := O87'.form2; have I87 := Lib.hid i87; clear O87' B87' i87 j87))
  have C90 := mid_any a87 c87 tl w87 htl1 I87.out
  rw [Q1.out, Q2.out] at C90
  have G87 := Lib.hid (grow G45.out B87.out)
  go_upto_region 11 with (go_at_call 7; refine C90.mono ?_; rintro e w90 ⟨rfl, b90⟩)
  have G90 := Lib.hid (grow G87.out b90)
  have I90 := Lib.hid (I45.out.below (grow B87.out b90))
  have t0 := Lib.hid (((grow B87.out b90).cell (p := ⟨bs, os, none⟩) (cell_lt S0.out)).trans S0.out)
  clear C90 b90 G87 B87 S0 I45 G45 I87
  have C95 := mid_any _ c42 s w90 (by rw [HSL.out]; omega) I90.out
  rw [Q3.out, Q4.out, HSL.out] at C95
  go_upto_region 12 with (go_at_call 7; refine C95.mono ?_; rintro e w95 ⟨rfl, b95⟩)
  have G95 := Lib.hid (grow G90.out b95)
  have u0 := Lib.hid ((b95.cell (p := ⟨bs, os, none⟩) (cell_lt t0.out)).trans t0.out)
  clear C95 b95 t0 I90 G90
  have HB95 := Lib.hid (HB.out.below G95.out)
  have HB18 := HB95
  have G18 := G95
  go_wp2_with (first
    | ((with_reducible show wpList _ _ _ (⟨some 153, _, _, _, _, _⟩ :: _) _ _); refine wpList_appendI rfl (.tmp 151) (.tmp 152) _ rfl .i64 w95.heap.size 3 8 Try.underlying22 rintInfo _ [] (some ⟨b, off, none⟩) 1 cap l rfl rfl HL.out (OwnI.lit0 (Nat.le_refl _)) (HB18.out.below ((Below.refl _ _).alloc (Nat.le_refl _) _)) HA1.out HA2.out w95 ((Below.refl _ _).alloc (Nat.le_refl _) _) (Nat.le_refl _) ?_; intro v153 w153 O153' B153'; rw [List.nil_append] at O153'; have O153 := Lib.hid O153'; have B153 := Lib.hid B153'; clear O153' B153')
    | ((with_reducible show wpList _ _ _ (⟨some 156, _, _, _, _, _⟩ :: _) _ _); refine wpList_appendI rfl (.tmp 153) (.tmp 155) _ rfl .i64 w95.heap.size 3 8 Try.underlying22 rintInfo v153 l (some ⟨w153.heap.size, 0, none⟩) 1 1 [odd] rfl rfl rfl (O153.out.alloc _) (laid1 _ _ _) HA3.out HA4.out w95 (B153.out.alloc B153.out.size _) (Nat.le_refl _) ?_; intro v156 w156 O156' B156'; rw [HLO.out] at O156'; have B156 := Lib.hid B156'; obtain ⟨a156, c156, rfl, i156, j156⟩ := O156'.form2; have I156 := Lib.hid i156; have J156 := Lib.hid j156; clear O156' B156' i156 j156)
    | (go_at_call 12; refine (without_any _ _ lo 1 _ hln J156.out.1 (le_max J156.out.2) I156.out).mono ?_; rw [HWL.out]; rintro e w159 ⟨a159, c159, rfl, i159, b159⟩; rw [HL.out]; have I159 := Lib.hid i159; have B159 := Lib.hid b159; clear i159 b159)
    | (go_at_call 9; have C162 := ints_any a159 (some ⟨b, off, none⟩) c159 cap l l w159 (by rw [HL.out]; omega) (by rw [HL.out]; omega) I159.out (HB18.out.below (grow B156.out B159.out)); rw [HL.out, same_self] at C162; refine C162.mono ?_; rintro e w162 ⟨rfl, b162⟩; have B162 := Lib.hid b162; clear b162 C162)
    | (go_at_call 6; refine (alive_any _).mono ?_; rintro e w163 ⟨rfl, b163⟩; have B163 := Lib.hid b163; clear b163))
  go_ret
  exact ⟨rfl, grow G18.out (grow B156.out (grow B159.out (grow B162.out B163.out)))⟩

set_option maxRecDepth 100000 in
set_option maxHeartbeats 3200000 in
theorem main2 (b off cap : Nat) (l : List Int) (odd : Int) (t : Nat) (w : World) (hl : l.length = 2) (c0 : l.length ≤ cap) (z : cap * 8 ≤ 140737488351232)
    (hc : ∀ i, i < l.length → w.cell? ⟨b, off + i, none⟩ = some (.int .i64 (l.getD i 0))) (hok : ok (l ++ [odd]) = true) (ht : t < 256) :
    Calls Try.prog 5 #[.slice (some ⟨b, off, none⟩) 2 cap, .int .i64 odd, .int .u8 t] w fun e w' => e = .returned (.bool true) ∧ Below w.heap.size w w' := by
  obtain ⟨a, ha⟩ : ∃ a : Option Addr, some ⟨b, off, none⟩ = a := ⟨_, rfl⟩
  have hb : IntsAt .i64 w (some ⟨b, off, none⟩) l := Or.inr ⟨b, off, rfl, hc⟩
  subst ha
  have HA1 := Lib.hid (bd1 c0 z)
  have HA2 := Lib.hid (bd2 c0 z)
  have HA3 := Lib.hid (bd3 odd c0 z)
  have HA4 := Lib.hid (bd4 odd c0 z)
  have HB := Lib.hid hb
  have HC := Lib.hid hc
  clear hc
  have HL := Lib.hid hl
  have hokl := ok_left hok
  have hin := mid_in hokl (by omega) (by omega)
  have hmb := midb_yes hokl (by omega) (by omega)
  have hwl := without_last hok
  have hsl := osort_len_ok hokl
  have hsrt : osort l = srt l := by unfold osort; rw [if_pos hokl]
  have hmore := mid_more hok (by omega) (by omega)
  have hsp : (osort l).Perm l := by rw [hsrt]; exact srt_perm l
  rw [hl] at hin hwl hsl c0 hmore
  rw [← hsrt] at hin hmore
  obtain ⟨lo, hlo⟩ : ∃ lo, l ++ [odd] = lo := ⟨_, rfl⟩
  have hln : lo.length ≤ 9223372036854775807 := by rw [← hlo]; simp; omega
  rw [hlo] at hok hwl hmore
  have HLO := Lib.hid hlo
  clear hlo hsrt
  obtain ⟨k, hk⟩ : ∃ k : Nat, k = t % 2 := ⟨_, rfl⟩
  have hk1 : (t : Int) % 2 = (k : Int) := by omega
  have hkl : k < 2 := by omega
  have hk2 : ((t : Int).toNat % 2) = k := by omega
  have k1 : (k : Int) ≤ (cap : Int) := by omega
  have k2 : 0 ≤ (k : Int) := by omega
  have k3 : (k : Int) ≤ 2 := by omega
  have k4 : ¬ (cap = k) := by omega
  have k5 : k ≤ 2 := by omega
  have k6 : k ≤ cap := by omega
  clear hk
  have HK1 := Lib.hid (show (l.drop k).length = 2 - k by rw [List.length_drop, hl])
  have HK2 := Lib.hid (show ([] : List Int).length + (l.drop k).length ≤ maxLen by rw [HK1.out]; simp only [List.length_nil, maxLen]; omega)
  have HK3 := Lib.hid (show (([] : List Int).length + (l.drop k).length) * 8 ≤ 140737488355328 by rw [HK1.out]; simp only [List.length_nil]; omega)
  have HK4 := Lib.hid (show (l.take k).length = k by rw [List.length_take, hl]; omega)
  have HK5 := Lib.hid (show ([] ++ l.drop k).length + (l.take k).length ≤ maxLen by rw [HK4.out, List.nil_append, HK1.out]; simp only [maxLen]; omega)
  have HK6 := Lib.hid (show (([] ++ l.drop k).length + (l.take k).length) * 8 ≤ 140737488355328 by rw [HK4.out, List.nil_append, HK1.out]; omega)
  obtain ⟨tl, htl⟩ : ∃ tl, [] ++ l.drop k ++ l.take k = tl := ⟨_, rfl⟩
  have htp : tl.Perm l := by rw [← htl, List.nil_append]; exact turned_perm l k
  have HTL := Lib.hid htl
  clear htl
  have htl1 : tl.length ≤ 9223372036854775807 := by rw [htp.length_eq, hl]; omega
  have Q1 := Lib.hid (midv_perm htp)
  have Q2 := Lib.hid ((midb_perm htp).trans hmb)
  have Q3 := Lib.hid (midv_perm hsp)
  have Q4 := Lib.hid ((midb_perm hsp).trans hmb)
  have QM := Lib.hid hmb
  have HWL := Lib.hid (show without lo 2 = l from hwl)
  clear htp hsp hmb hwl
  obtain ⟨s, hs⟩ : ∃ s, osort l = s := ⟨_, rfl⟩
  rw [hs] at hin hsl Q3 Q4 hmore
  have HS := Lib.hid hs
  have HSL := Lib.hid hsl
  have HOK := Lib.hid hok
  clear hs hsl hok hokl hb
  obtain ⟨i1, i2⟩ := hin
  obtain ⟨hm1, hm2, hm3⟩ := hmore
  have QL := Lib.hid hm1
  clear hm1
  simp only [Nat.reduceSub] at i2 hm3
  generalize hmm : midv l = mm at *
  have HMM := Lib.hid hmm
  clear hmm
  generalize hm0 : midv lo = mo at *
  have HMO := Lib.hid hm0
  clear hm0
  have d1 : decide (mm < s.getD 0 0) = false := by simpa using i1
  have d2 : decide (s.getD 1 0 < mm) = false := by simpa using i2
  have d3 : decide (mo < s.getD 0 0) = false := by simpa using hm2
  have d4 : decide (s.getD 1 0 < mo) = false := by simpa using hm3
  generalize hx0 : s.getD 0 0 = x0 at *
  generalize hx1 : s.getD 1 0 = x1 at *
  have HX0 := Lib.hid hx0
  have HX1 := Lib.hid hx1
  clear hx0 hx1 hl
  go_enter Try.func5, Try.ntmps5
  go_upto_region 4 with (first
    | ((with_reducible show wpList _ _ _ (⟨some 23, _, _, _, _, _⟩ :: _) _ _); refine wpList_appendI rfl (.tmp 21) (.tmp 22) _ rfl .i64 w.heap.size 3 8 Try.underlying22 rintInfo _ [] (some ⟨b, off, none⟩) 2 cap l rfl rfl HL.out (OwnI.lit0 (Nat.le_refl _)) (HB.out.below ((Below.refl _ _).alloc (Nat.le_refl _) _)) HA1.out HA2.out w ((Below.refl _ _).alloc (Nat.le_refl _) _) (Nat.le_refl _) ?_; intro v23 w23 O23' B23'; rw [List.nil_append] at O23'; have O23 := Lib.hid O23'; have B23 := Lib.hid B23'; clear O23' B23')
    | ((with_reducible show wpList _ _ _ (⟨some 26, _, _, _, _, _⟩ :: _) _ _); refine wpList_appendI rfl (.tmp 23) (.tmp 25) _ rfl .i64 w.heap.size 3 8 Try.underlying22 rintInfo v23 l (some ⟨w23.heap.size, 0, none⟩) 1 1 [odd] rfl rfl rfl (O23.out.alloc _) (laid1 _ _ _) HA3.out HA4.out w (B23.out.alloc B23.out.size _) (Nat.le_refl _) ?_; intro v26 w26 O26' B26'; rw [HLO.out] at O26'; have B26 := Lib.hid B26'; obtain ⟨a26, c26, rfl, i26, j26⟩ := O26'.form2; have I26 := Lib.hid i26; have J26 := Lib.hid j26; clear O26' B26' i26 j26)
    | (go_at_call 16; refine (rright_any _ _ lo _ hln I26.out).mono ?_; rw [HOK.out]; rintro e w' ⟨rfl, rfl⟩))
  have HB26 := Lib.hid (HB.out.below B26.out)
  have C42 := sort_any _ cap l w26 (by rw [HL.out]; omega) HB26.out
  rw [HS.out, HL.out] at C42
  go_upto_region 5 with (go_at_call 10; refine C42.mono ?_; rintro e w42 ⟨a42, c42, rfl, i42, b42⟩)
  have I42 := Lib.hid i42
  have G42 := Lib.hid (grow B26.out b42)
  clear b42 i42 C42 I26 J26 HB26 B26
  rw [HSL.out]
  have C45 := mid_any _ cap l w42 (by rw [HL.out]; omega) (HB.out.below G42.out)
  rw [HMM.out, QM.out, HL.out] at C45
  go_upto_region 6 with (go_at_call 7; refine C45.mono ?_; rintro e w45 ⟨rfl, b45⟩)
  have I45 := Lib.hid (I42.out.below b45)
  have G45 := Lib.hid (grow G42.out b45)
  clear b45 C45 I42 G42
  rcases I45.out with hno | ⟨bs, os, rfl, hcs⟩
  · have := HSL.out; rw [hno] at this; simp at this
  have s0 : w45.cell? ⟨bs, os, none⟩ = some (.int .i64 x0) := by have := hcs 0 (by rw [HSL.out]; omega); rw [HX0.out] at this; exact this
  have s1 : w45.cell? ⟨bs, os + 1, none⟩ = some (.int .i64 x1) := by have := hcs 1 (by rw [HSL.out]; omega); rw [HX1.out] at this; exact this
  have S0 := Lib.hid s0
  have S1 := Lib.hid s1
  clear hcs
  go_upto_region 9 with (fail)
  clear s0 s1
  have HBW := Lib.hid (HB.out.below G45.out)
  have HCW := fun i hi => (G45.out.cell (p := ⟨b, off + i, none⟩) (cell_lt (HC.out i hi))).trans (HC.out i hi)
  have HD := Lib.hid (intsAt_drop k HCW)
  have HT := Lib.hid (HBW.out.take k)
  clear HCW
  go_region_law (first
    | (refine step_appendI rfl (.tmp 79) (.tmp 82) _ rfl .i64 w45.heap.size 3 8 Try.underlying22 rintInfo (.slice (some ⟨w45.heap.size, 0, none⟩) 0 0) [] (some ⟨b, off + k, none⟩) (2 - k) (cap - k) (l.drop k) (by simp [Act.eval]) (by simp [Act.eval]) HK1.out (OwnI.lit0 (Nat.le_refl _)).drew (HD.out.below ((Below.refl _ _).alloc (Nat.le_refl _) _)).drew HK2.out HK3.out w45 ((Below.refl _ _).alloc (Nat.le_refl _) _).drew (Nat.le_refl _) ?_; intro v83 w83 O83' B83'; have O83 := Lib.hid O83'; have B83 := Lib.hid B83'; clear O83' B83')
    | (refine step_appendI rfl (.tmp 83) (.tmp 86) _ rfl .i64 w45.heap.size 3 8 Try.underlying22 rintInfo v83 ([] ++ l.drop k) (some ⟨b, off, none⟩) k cap (l.take k) (by simp [Act.eval]) (by simp [Act.eval]) HK4.out O83.out (HT.out.below B83.out) HK5.out HK6.out w45 B83.out (Nat.le_refl _) ?_; intro v87 w87 O87' B87'; rw [HTL.out] at O87'; have B87 := Lib.hid B87'; obtain ⟨a87, c87, rfl, i87, j87⟩ := O87'.form2; have I87 := Lib.hid i87; clear O87' B87' i87 j87))
  have C90 := mid_any a87 c87 tl w87 htl1 I87.out
  rw [Q1.out, Q2.out] at C90
  have G87 := Lib.hid (grow G45.out B87.out)
  go_upto_region 11 with (go_at_call 7; refine C90.mono ?_; rintro e w90 ⟨rfl, b90⟩)
  have G90 := Lib.hid (grow G87.out b90)
  have I90 := Lib.hid (I45.out.below (grow B87.out b90))
  have t0 := Lib.hid (((grow B87.out b90).cell (p := ⟨bs, os, none⟩) (cell_lt S0.out)).trans S0.out)
  have t1 := Lib.hid (((grow B87.out b90).cell (p := ⟨bs, os + 1, none⟩) (cell_lt S1.out)).trans S1.out)
  clear C90 b90 G87 B87 S0 S1 I45 G45 I87
  have C95 := mid_any _ c42 s w90 (by rw [HSL.out]; omega) I90.out
  rw [Q3.out, Q4.out, HSL.out] at C95
  go_upto_region 12 with (go_at_call 7; refine C95.mono ?_; rintro e w95 ⟨rfl, b95⟩)
  have G95 := Lib.hid (grow G90.out b95)
  have u0 := Lib.hid ((b95.cell (p := ⟨bs, os, none⟩) (cell_lt t0.out)).trans t0.out)
  have u1 := Lib.hid ((b95.cell (p := ⟨bs, os + 1, none⟩) (cell_lt t1.out)).trans t1.out)
  clear C95 b95 t0 t1 I90 G90
  have HB95 := Lib.hid (HB.out.below G95.out)
  go_upto_region 16 with (first
    | ((with_reducible show wpList _ _ _ (⟨some 125, _, _, _, _, _⟩ :: _) _ _); refine wpList_appendI rfl (.tmp 123) (.tmp 124) _ rfl .i64 w95.heap.size 3 8 Try.underlying22 rintInfo _ [] (some ⟨b, off, none⟩) 2 cap l rfl rfl HL.out (OwnI.lit0 (Nat.le_refl _)) (HB95.out.below ((Below.refl _ _).alloc (Nat.le_refl _) _)) HA1.out HA2.out w95 ((Below.refl _ _).alloc (Nat.le_refl _) _) (Nat.le_refl _) ?_; intro v125 w125 O125' B125'; rw [List.nil_append] at O125'; have O125 := Lib.hid O125'; have B125 := Lib.hid B125'; clear O125' B125')
    | ((with_reducible show wpList _ _ _ (⟨some 128, _, _, _, _, _⟩ :: _) _ _); refine wpList_appendI rfl (.tmp 125) (.tmp 127) _ rfl .i64 w95.heap.size 3 8 Try.underlying22 rintInfo v125 l (some ⟨w125.heap.size, 0, none⟩) 1 1 [odd] rfl rfl rfl (O125.out.alloc _) (laid1 _ _ _) HA3.out HA4.out w95 (B125.out.alloc B125.out.size _) (Nat.le_refl _) ?_; intro v128 w128 O128' B128'; rw [HLO.out] at O128'; have B128 := Lib.hid B128'; obtain ⟨a128, c128, rfl, i128, j128⟩ := O128'.form2; have I128 := Lib.hid i128; have J128 := Lib.hid j128; clear O128' B128' i128 j128)
    | (go_at_call 7; refine (mid_any _ _ lo _ hln I128.out).mono ?_; rw [HMO.out, QL.out]; rintro e w129 ⟨rfl, b129⟩))
  have G129 := Lib.hid (grow G95.out (grow B128.out b129))
  have q0 := ((grow B128.out b129).cell (p := ⟨bs, os, none⟩) (cell_lt u0.out)).trans u0.out
  have q1 := ((grow B128.out b129).cell (p := ⟨bs, os + 1, none⟩) (cell_lt u1.out)).trans u1.out
  clear b129 B128 I128 J128 u0 u1
  have HB18 := Lib.hid (HB.out.below G129.out)
  have G18 := G129
  go_wp2_with (first
    | ((with_reducible show wpList _ _ _ (⟨some 153, _, _, _, _, _⟩ :: _) _ _); refine wpList_appendI rfl (.tmp 151) (.tmp 152) _ rfl .i64 w129.heap.size 3 8 Try.underlying22 rintInfo _ [] (some ⟨b, off, none⟩) 2 cap l rfl rfl HL.out (OwnI.lit0 (Nat.le_refl _)) (HB18.out.below ((Below.refl _ _).alloc (Nat.le_refl _) _)) HA1.out HA2.out w129 ((Below.refl _ _).alloc (Nat.le_refl _) _) (Nat.le_refl _) ?_; intro v153 w153 O153' B153'; rw [List.nil_append] at O153'; have O153 := Lib.hid O153'; have B153 := Lib.hid B153'; clear O153' B153')
    | ((with_reducible show wpList _ _ _ (⟨some 156, _, _, _, _, _⟩ :: _) _ _); refine wpList_appendI rfl (.tmp 153) (.tmp 155) _ rfl .i64 w129.heap.size 3 8 Try.underlying22 rintInfo v153 l (some ⟨w153.heap.size, 0, none⟩) 1 1 [odd] rfl rfl rfl (O153.out.alloc _) (laid1 _ _ _) HA3.out HA4.out w129 (B153.out.alloc B153.out.size _) (Nat.le_refl _) ?_; intro v156 w156 O156' B156'; rw [HLO.out] at O156'; have B156 := Lib.hid B156'; obtain ⟨a156, c156, rfl, i156, j156⟩ := O156'.form2; have I156 := Lib.hid i156; have J156 := Lib.hid j156; clear O156' B156' i156 j156)
    | (go_at_call 12; refine (without_any _ _ lo 2 _ hln J156.out.1 (le_max J156.out.2) I156.out).mono ?_; rw [HWL.out]; rintro e w159 ⟨a159, c159, rfl, i159, b159⟩; rw [HL.out]; have I159 := Lib.hid i159; have B159 := Lib.hid b159; clear i159 b159)
    | (go_at_call 9; have C162 := ints_any a159 (some ⟨b, off, none⟩) c159 cap l l w159 (by rw [HL.out]; omega) (by rw [HL.out]; omega) I159.out (HB18.out.below (grow B156.out B159.out)); rw [HL.out, same_self] at C162; refine C162.mono ?_; rintro e w162 ⟨rfl, b162⟩; have B162 := Lib.hid b162; clear b162 C162)
    | (go_at_call 6; refine (alive_any _).mono ?_; rintro e w163 ⟨rfl, b163⟩; have B163 := Lib.hid b163; clear b163))
  go_ret
  exact ⟨rfl, grow G18.out (grow B156.out (grow B159.out (grow B162.out B163.out)))⟩

set_option maxRecDepth 100000 in
set_option maxHeartbeats 3200000 in
theorem main3 (b off cap : Nat) (l : List Int) (odd : Int) (t : Nat) (w : World) (hl : l.length = 3) (c0 : l.length ≤ cap) (z : cap * 8 ≤ 140737488351232)
    (hc : ∀ i, i < l.length → w.cell? ⟨b, off + i, none⟩ = some (.int .i64 (l.getD i 0))) (hok : ok (l ++ [odd]) = true) (ht : t < 256) :
    Calls Try.prog 5 #[.slice (some ⟨b, off, none⟩) 3 cap, .int .i64 odd, .int .u8 t] w fun e w' => e = .returned (.bool true) ∧ Below w.heap.size w w' := by
  obtain ⟨a, ha⟩ : ∃ a : Option Addr, some ⟨b, off, none⟩ = a := ⟨_, rfl⟩
  have hb : IntsAt .i64 w (some ⟨b, off, none⟩) l := Or.inr ⟨b, off, rfl, hc⟩
  subst ha
  have HA1 := Lib.hid (bd1 c0 z)
  have HA2 := Lib.hid (bd2 c0 z)
  have HA3 := Lib.hid (bd3 odd c0 z)
  have HA4 := Lib.hid (bd4 odd c0 z)
  have HB := Lib.hid hb
  have HC := Lib.hid hc
  clear hc
  have HL := Lib.hid hl
  have hokl := ok_left hok
  have hin := mid_in hokl (by omega) (by omega)
  have hmb := midb_yes hokl (by omega) (by omega)
  have hwl := without_last hok
  have hsl := osort_len_ok hokl
  have hsrt : osort l = srt l := by unfold osort; rw [if_pos hokl]
  have hmore := mid_more hok (by omega) (by omega)
  have hsp : (osort l).Perm l := by rw [hsrt]; exact srt_perm l
  rw [hl] at hin hwl hsl c0 hmore
  rw [← hsrt] at hin hmore
  obtain ⟨lo, hlo⟩ : ∃ lo, l ++ [odd] = lo := ⟨_, rfl⟩
  have hln : lo.length ≤ 9223372036854775807 := by rw [← hlo]; simp; omega
  rw [hlo] at hok hwl hmore
  have HLO := Lib.hid hlo
  clear hlo hsrt
  obtain ⟨k, hk⟩ : ∃ k : Nat, k = t % 3 := ⟨_, rfl⟩
  have hk1 : (t : Int) % 3 = (k : Int) := by omega
  have hkl : k < 3 := by omega
  have hk2 : ((t : Int).toNat % 3) = k := by omega
  have k1 : (k : Int) ≤ (cap : Int) := by omega
  have k2 : 0 ≤ (k : Int) := by omega
  have k3 : (k : Int) ≤ 3 := by omega
  have k4 : ¬ (cap = k) := by omega
  have k5 : k ≤ 3 := by omega
  have k6 : k ≤ cap := by omega
  clear hk
  have HK1 := Lib.hid (show (l.drop k).length = 3 - k by rw [List.length_drop, hl])
  have HK2 := Lib.hid (show ([] : List Int).length + (l.drop k).length ≤ maxLen by rw [HK1.out]; simp only [List.length_nil, maxLen]; omega)
  have HK3 := Lib.hid (show (([] : List Int).length + (l.drop k).length) * 8 ≤ 140737488355328 by rw [HK1.out]; simp only [List.length_nil]; omega)
  have HK4 := Lib.hid (show (l.take k).length = k by rw [List.length_take, hl]; omega)
  have HK5 := Lib.hid (show ([] ++ l.drop k).length + (l.take k).length ≤ maxLen by rw [HK4.out, List.nil_append, HK1.out]; simp only [maxLen]; omega)
  have HK6 := Lib.hid (show (([] ++ l.drop k).length + (l.take k).length) * 8 ≤ 140737488355328 by rw [HK4.out, List.nil_append, HK1.out]; omega)
  obtain ⟨tl, htl⟩ : ∃ tl, [] ++ l.drop k ++ l.take k = tl := ⟨_, rfl⟩
  have htp : tl.Perm l := by rw [← htl, List.nil_append]; exact turned_perm l k
  have HTL := Lib.hid htl
  clear htl
  have htl1 : tl.length ≤ 9223372036854775807 := by rw [htp.length_eq, hl]; omega
  have Q1 := Lib.hid (midv_perm htp)
  have Q2 := Lib.hid ((midb_perm htp).trans hmb)
  have Q3 := Lib.hid (midv_perm hsp)
  have Q4 := Lib.hid ((midb_perm hsp).trans hmb)
  have QM := Lib.hid hmb
  have HWL := Lib.hid (show without lo 3 = l from hwl)
  clear htp hsp hmb hwl
  obtain ⟨s, hs⟩ : ∃ s, osort l = s := ⟨_, rfl⟩
  rw [hs] at hin hsl Q3 Q4 hmore
  have HS := Lib.hid hs
  have HSL := Lib.hid hsl
  have HOK := Lib.hid hok
  clear hs hsl hok hokl hb
  obtain ⟨i1, i2⟩ := hin
  obtain ⟨hm1, hm2, hm3⟩ := hmore
  have QL := Lib.hid hm1
  clear hm1
  simp only [Nat.reduceSub] at i2 hm3
  generalize hmm : midv l = mm at *
  have HMM := Lib.hid hmm
  clear hmm
  generalize hm0 : midv lo = mo at *
  have HMO := Lib.hid hm0
  clear hm0
  have d1 : decide (mm < s.getD 0 0) = false := by simpa using i1
  have d2 : decide (s.getD 2 0 < mm) = false := by simpa using i2
  have d3 : decide (mo < s.getD 0 0) = false := by simpa using hm2
  have d4 : decide (s.getD 2 0 < mo) = false := by simpa using hm3
  generalize hx0 : s.getD 0 0 = x0 at *
  generalize hx1 : s.getD 2 0 = x1 at *
  have HX0 := Lib.hid hx0
  have HX1 := Lib.hid hx1
  clear hx0 hx1 hl
  go_enter Try.func5, Try.ntmps5
  go_upto_region 4 with (first
    | ((with_reducible show wpList _ _ _ (⟨some 23, _, _, _, _, _⟩ :: _) _ _); refine wpList_appendI rfl (.tmp 21) (.tmp 22) _ rfl .i64 w.heap.size 3 8 Try.underlying22 rintInfo _ [] (some ⟨b, off, none⟩) 3 cap l rfl rfl HL.out (OwnI.lit0 (Nat.le_refl _)) (HB.out.below ((Below.refl _ _).alloc (Nat.le_refl _) _)) HA1.out HA2.out w ((Below.refl _ _).alloc (Nat.le_refl _) _) (Nat.le_refl _) ?_; intro v23 w23 O23' B23'; rw [List.nil_append] at O23'; have O23 := Lib.hid O23'; have B23 := Lib.hid B23'; clear O23' B23')
    | ((with_reducible show wpList _ _ _ (⟨some 26, _, _, _, _, _⟩ :: _) _ _); refine wpList_appendI rfl (.tmp 23) (.tmp 25) _ rfl .i64 w.heap.size 3 8 Try.underlying22 rintInfo v23 l (some ⟨w23.heap.size, 0, none⟩) 1 1 [odd] rfl rfl rfl (O23.out.alloc _) (laid1 _ _ _) HA3.out HA4.out w (B23.out.alloc B23.out.size _) (Nat.le_refl _) ?_; intro v26 w26 O26' B26'; rw [HLO.out] at O26'; have B26 := Lib.hid B26'; obtain ⟨a26, c26, rfl, i26, j26⟩ := O26'.form2; have I26 := Lib.hid i26; have J26 := Lib.hid j26; clear O26' B26' i26 j26)
    | (go_at_call 16; refine (rright_any _ _ lo _ hln I26.out).mono ?_; rw [HOK.out]; rintro e w' ⟨rfl, rfl⟩))
  have HB26 := Lib.hid (HB.out.below B26.out)
  have C42 := sort_any _ cap l w26 (by rw [HL.out]; omega) HB26.out
  rw [HS.out, HL.out] at C42
  go_upto_region 5 with (go_at_call 10; refine C42.mono ?_; rintro e w42 ⟨a42, c42, rfl, i42, b42⟩)
  have I42 := Lib.hid i42
  have G42 := Lib.hid (grow B26.out b42)
  clear b42 i42 C42 I26 J26 HB26 B26
  rw [HSL.out]
  have C45 := mid_any _ cap l w42 (by rw [HL.out]; omega) (HB.out.below G42.out)
  rw [HMM.out, QM.out, HL.out] at C45
  go_upto_region 6 with (go_at_call 7; refine C45.mono ?_; rintro e w45 ⟨rfl, b45⟩)
  have I45 := Lib.hid (I42.out.below b45)
  have G45 := Lib.hid (grow G42.out b45)
  clear b45 C45 I42 G42
  rcases I45.out with hno | ⟨bs, os, rfl, hcs⟩
  · have := HSL.out; rw [hno] at this; simp at this
  have s0 : w45.cell? ⟨bs, os, none⟩ = some (.int .i64 x0) := by have := hcs 0 (by rw [HSL.out]; omega); rw [HX0.out] at this; exact this
  have s1 : w45.cell? ⟨bs, os + 2, none⟩ = some (.int .i64 x1) := by have := hcs 2 (by rw [HSL.out]; omega); rw [HX1.out] at this; exact this
  have S0 := Lib.hid s0
  have S1 := Lib.hid s1
  clear hcs
  go_upto_region 9 with (fail)
  clear s0 s1
  have HBW := Lib.hid (HB.out.below G45.out)
  have HCW := fun i hi => (G45.out.cell (p := ⟨b, off + i, none⟩) (cell_lt (HC.out i hi))).trans (HC.out i hi)
  have HD := Lib.hid (intsAt_drop k HCW)
  have HT := Lib.hid (HBW.out.take k)
  clear HCW
  go_region_law (first
    | (refine step_appendI rfl (.tmp 79) (.tmp 82) _ rfl .i64 w45.heap.size 3 8 Try.underlying22 rintInfo (.slice (some ⟨w45.heap.size, 0, none⟩) 0 0) [] (some ⟨b, off + k, none⟩) (3 - k) (cap - k) (l.drop k) (by simp [Act.eval]) (by simp [Act.eval]) HK1.out (OwnI.lit0 (Nat.le_refl _)).drew (HD.out.below ((Below.refl _ _).alloc (Nat.le_refl _) _)).drew HK2.out HK3.out w45 ((Below.refl _ _).alloc (Nat.le_refl _) _).drew (Nat.le_refl _) ?_; intro v83 w83 O83' B83'; have O83 := Lib.hid O83'; have B83 := Lib.hid B83'; clear O83' B83')
    | (refine step_appendI rfl (.tmp 83) (.tmp 86) _ rfl .i64 w45.heap.size 3 8 Try.underlying22 rintInfo v83 ([] ++ l.drop k) (some ⟨b, off, none⟩) k cap (l.take k) (by simp [Act.eval]) (by simp [Act.eval]) HK4.out O83.out (HT.out.below B83.out) HK5.out HK6.out w45 B83.out (Nat.le_refl _) ?_; intro v87 w87 O87' B87'; rw [HTL.out] at O87'; have B87 := Lib.hid B87'; obtain ⟨a87, c87, rfl, i87, j87⟩ := O87'.form2; have I87 := Lib.hid i87; clear O87' B87' i87 j87))
  have C90 := mid_any a87 c87 tl w87 htl1 I87.out
  rw [Q1.out, Q2.out] at C90
  have G87 := Lib.hid (grow G45.out B87.out)
  go_upto_region 11 with (go_at_call 7; refine C90.mono ?_; rintro e w90 ⟨rfl, b90⟩)
  have G90 := Lib.hid (grow G87.out b90)
  have I90 := Lib.hid (I45.out.below (grow B87.out b90))
  have t0 := Lib.hid (((grow B87.out b90).cell (p := ⟨bs, os, none⟩) (cell_lt S0.out)).trans S0.out)
  have t1 := Lib.hid (((grow B87.out b90).cell (p := ⟨bs, os + 2, none⟩) (cell_lt S1.out)).trans S1.out)
  clear C90 b90 G87 B87 S0 S1 I45 G45 I87
  have C95 := mid_any _ c42 s w90 (by rw [HSL.out]; omega) I90.out
  rw [Q3.out, Q4.out, HSL.out] at C95
  go_upto_region 12 with (go_at_call 7; refine C95.mono ?_; rintro e w95 ⟨rfl, b95⟩)
  have G95 := Lib.hid (grow G90.out b95)
  have u0 := Lib.hid ((b95.cell (p := ⟨bs, os, none⟩) (cell_lt t0.out)).trans t0.out)
  have u1 := Lib.hid ((b95.cell (p := ⟨bs, os + 2, none⟩) (cell_lt t1.out)).trans t1.out)
  clear C95 b95 t0 t1 I90 G90
  have HB95 := Lib.hid (HB.out.below G95.out)
  go_upto_region 16 with (first
    | ((with_reducible show wpList _ _ _ (⟨some 125, _, _, _, _, _⟩ :: _) _ _); refine wpList_appendI rfl (.tmp 123) (.tmp 124) _ rfl .i64 w95.heap.size 3 8 Try.underlying22 rintInfo _ [] (some ⟨b, off, none⟩) 3 cap l rfl rfl HL.out (OwnI.lit0 (Nat.le_refl _)) (HB95.out.below ((Below.refl _ _).alloc (Nat.le_refl _) _)) HA1.out HA2.out w95 ((Below.refl _ _).alloc (Nat.le_refl _) _) (Nat.le_refl _) ?_; intro v125 w125 O125' B125'; rw [List.nil_append] at O125'; have O125 := Lib.hid O125'; have B125 := Lib.hid B125'; clear O125' B125')
    | ((with_reducible show wpList _ _ _ (⟨some 128, _, _, _, _, _⟩ :: _) _ _); refine wpList_appendI rfl (.tmp 125) (.tmp 127) _ rfl .i64 w95.heap.size 3 8 Try.underlying22 rintInfo v125 l (some ⟨w125.heap.size, 0, none⟩) 1 1 [odd] rfl rfl rfl (O125.out.alloc _) (laid1 _ _ _) HA3.out HA4.out w95 (B125.out.alloc B125.out.size _) (Nat.le_refl _) ?_; intro v128 w128 O128' B128'; rw [HLO.out] at O128'; have B128 := Lib.hid B128'; obtain ⟨a128, c128, rfl, i128, j128⟩ := O128'.form2; have I128 := Lib.hid i128; have J128 := Lib.hid j128; clear O128' B128' i128 j128)
    | (go_at_call 7; refine (mid_any _ _ lo _ hln I128.out).mono ?_; rw [HMO.out, QL.out]; rintro e w129 ⟨rfl, b129⟩))
  have G129 := Lib.hid (grow G95.out (grow B128.out b129))
  have q0 := ((grow B128.out b129).cell (p := ⟨bs, os, none⟩) (cell_lt u0.out)).trans u0.out
  have q1 := ((grow B128.out b129).cell (p := ⟨bs, os + 2, none⟩) (cell_lt u1.out)).trans u1.out
  clear b129 B128 I128 J128 u0 u1
  have HB18 := Lib.hid (HB.out.below G129.out)
  have G18 := G129
  go_wp2_with (first
    | ((with_reducible show wpList _ _ _ (⟨some 153, _, _, _, _, _⟩ :: _) _ _); refine wpList_appendI rfl (.tmp 151) (.tmp 152) _ rfl .i64 w129.heap.size 3 8 Try.underlying22 rintInfo _ [] (some ⟨b, off, none⟩) 3 cap l rfl rfl HL.out (OwnI.lit0 (Nat.le_refl _)) (HB18.out.below ((Below.refl _ _).alloc (Nat.le_refl _) _)) HA1.out HA2.out w129 ((Below.refl _ _).alloc (Nat.le_refl _) _) (Nat.le_refl _) ?_; intro v153 w153 O153' B153'; rw [List.nil_append] at O153'; have O153 := Lib.hid O153'; have B153 := Lib.hid B153'; clear O153' B153')
    | ((with_reducible show wpList _ _ _ (⟨some 156, _, _, _, _, _⟩ :: _) _ _); refine wpList_appendI rfl (.tmp 153) (.tmp 155) _ rfl .i64 w129.heap.size 3 8 Try.underlying22 rintInfo v153 l (some ⟨w153.heap.size, 0, none⟩) 1 1 [odd] rfl rfl rfl (O153.out.alloc _) (laid1 _ _ _) HA3.out HA4.out w129 (B153.out.alloc B153.out.size _) (Nat.le_refl _) ?_; intro v156 w156 O156' B156'; rw [HLO.out] at O156'; have B156 := Lib.hid B156'; obtain ⟨a156, c156, rfl, i156, j156⟩ := O156'.form2; have I156 := Lib.hid i156; have J156 := Lib.hid j156; clear O156' B156' i156 j156)
    | (go_at_call 12; refine (without_any _ _ lo 3 _ hln J156.out.1 (le_max J156.out.2) I156.out).mono ?_; rw [HWL.out]; rintro e w159 ⟨a159, c159, rfl, i159, b159⟩; rw [HL.out]; have I159 := Lib.hid i159; have B159 := Lib.hid b159; clear i159 b159)
    | (go_at_call 9; have C162 := ints_any a159 (some ⟨b, off, none⟩) c159 cap l l w159 (by rw [HL.out]; omega) (by rw [HL.out]; omega) I159.out (HB18.out.below (grow B156.out B159.out)); rw [HL.out, same_self] at C162; refine C162.mono ?_; rintro e w162 ⟨rfl, b162⟩; have B162 := Lib.hid b162; clear b162 C162)
    | (go_at_call 6; refine (alive_any _).mono ?_; rintro e w163 ⟨rfl, b163⟩; have B163 := Lib.hid b163; clear b163))
  go_ret
  exact ⟨rfl, grow G18.out (grow B156.out (grow B159.out (grow B162.out B163.out)))⟩

set_option maxRecDepth 100000 in
set_option maxHeartbeats 3200000 in
theorem main4 (b off cap : Nat) (l : List Int) (odd : Int) (t : Nat) (w : World) (hl : l.length = 4) (c0 : l.length ≤ cap) (z : cap * 8 ≤ 140737488351232)
    (hc : ∀ i, i < l.length → w.cell? ⟨b, off + i, none⟩ = some (.int .i64 (l.getD i 0))) (hok : ok (l ++ [odd]) = true) (ht : t < 256) :
    Calls Try.prog 5 #[.slice (some ⟨b, off, none⟩) 4 cap, .int .i64 odd, .int .u8 t] w fun e w' => e = .returned (.bool true) ∧ Below w.heap.size w w' := by
  obtain ⟨a, ha⟩ : ∃ a : Option Addr, some ⟨b, off, none⟩ = a := ⟨_, rfl⟩
  have hb : IntsAt .i64 w (some ⟨b, off, none⟩) l := Or.inr ⟨b, off, rfl, hc⟩
  subst ha
  have HA1 := Lib.hid (bd1 c0 z)
  have HA2 := Lib.hid (bd2 c0 z)
  have HA3 := Lib.hid (bd3 odd c0 z)
  have HA4 := Lib.hid (bd4 odd c0 z)
  have HB := Lib.hid hb
  have HC := Lib.hid hc
  clear hc
  have HL := Lib.hid hl
  have hokl := ok_left hok
  have hin := mid_in hokl (by omega) (by omega)
  have hmb := midb_yes hokl (by omega) (by omega)
  have hwl := without_last hok
  have hsl := osort_len_ok hokl
  have hsrt : osort l = srt l := by unfold osort; rw [if_pos hokl]
  have hsp : (osort l).Perm l := by rw [hsrt]; exact srt_perm l
  rw [hl] at hin hwl hsl c0
  rw [← hsrt] at hin
  obtain ⟨lo, hlo⟩ : ∃ lo, l ++ [odd] = lo := ⟨_, rfl⟩
  have hln : lo.length ≤ 9223372036854775807 := by rw [← hlo]; simp; omega
  rw [hlo] at hok hwl
  have HLO := Lib.hid hlo
  clear hlo hsrt
  obtain ⟨k, hk⟩ : ∃ k : Nat, k = t % 4 := ⟨_, rfl⟩
  have hk1 : (t : Int) % 4 = (k : Int) := by omega
  have hkl : k < 4 := by omega
  have hk2 : ((t : Int).toNat % 4) = k := by omega
  have k1 : (k : Int) ≤ (cap : Int) := by omega
  have k2 : 0 ≤ (k : Int) := by omega
  have k3 : (k : Int) ≤ 4 := by omega
  have k4 : ¬ (cap = k) := by omega
  have k5 : k ≤ 4 := by omega
  have k6 : k ≤ cap := by omega
  clear hk
  have HK1 := Lib.hid (show (l.drop k).length = 4 - k by rw [List.length_drop, hl])
  have HK2 := Lib.hid (show ([] : List Int).length + (l.drop k).length ≤ maxLen by rw [HK1.out]; simp only [List.length_nil, maxLen]; omega)
  have HK3 := Lib.hid (show (([] : List Int).length + (l.drop k).length) * 8 ≤ 140737488355328 by rw [HK1.out]; simp only [List.length_nil]; omega)
  have HK4 := Lib.hid (show (l.take k).length = k by rw [List.length_take, hl]; omega)
  have HK5 := Lib.hid (show ([] ++ l.drop k).length + (l.take k).length ≤ maxLen by rw [HK4.out, List.nil_append, HK1.out]; simp only [maxLen]; omega)
  have HK6 := Lib.hid (show (([] ++ l.drop k).length + (l.take k).length) * 8 ≤ 140737488355328 by rw [HK4.out, List.nil_append, HK1.out]; omega)
  obtain ⟨tl, htl⟩ : ∃ tl, [] ++ l.drop k ++ l.take k = tl := ⟨_, rfl⟩
  have htp : tl.Perm l := by rw [← htl, List.nil_append]; exact turned_perm l k
  have HTL := Lib.hid htl
  clear htl
  have htl1 : tl.length ≤ 9223372036854775807 := by rw [htp.length_eq, hl]; omega
  have Q1 := Lib.hid (midv_perm htp)
  have Q2 := Lib.hid ((midb_perm htp).trans hmb)
  have Q3 := Lib.hid (midv_perm hsp)
  have Q4 := Lib.hid ((midb_perm hsp).trans hmb)
  have QM := Lib.hid hmb
  have HWL := Lib.hid (show without lo 4 = l from hwl)
  clear htp hsp hmb hwl
  obtain ⟨s, hs⟩ : ∃ s, osort l = s := ⟨_, rfl⟩
  rw [hs] at hin hsl Q3 Q4
  have HS := Lib.hid hs
  have HSL := Lib.hid hsl
  have HOK := Lib.hid hok
  clear hs hsl hok hokl hb
  obtain ⟨i1, i2⟩ := hin
  simp only [Nat.reduceSub] at i2
  generalize hmm : midv l = mm at *
  have HMM := Lib.hid hmm
  clear hmm

  have d1 : decide (mm < s.getD 0 0) = false := by simpa using i1
  have d2 : decide (s.getD 3 0 < mm) = false := by simpa using i2


  generalize hx0 : s.getD 0 0 = x0 at *
  generalize hx1 : s.getD 3 0 = x1 at *
  have HX0 := Lib.hid hx0
  have HX1 := Lib.hid hx1
  clear hx0 hx1 hl
  go_enter Try.func5, Try.ntmps5
  go_upto_region 4 with (first
    | ((with_reducible show wpList _ _ _ (⟨some 23, _, _, _, _, _⟩ :: _) _ _); refine wpList_appendI rfl (.tmp 21) (.tmp 22) _ rfl .i64 w.heap.size 3 8 Try.underlying22 rintInfo _ [] (some ⟨b, off, none⟩) 4 cap l rfl rfl HL.out (OwnI.lit0 (Nat.le_refl _)) (HB.out.below ((Below.refl _ _).alloc (Nat.le_refl _) _)) HA1.out HA2.out w ((Below.refl _ _).alloc (Nat.le_refl _) _) (Nat.le_refl _) ?_; intro v23 w23 O23' B23'; rw [List.nil_append] at O23'; have O23 := Lib.hid O23'; have B23 := Lib.hid B23'; clear O23' B23')
    | ((with_reducible show wpList _ _ _ (⟨some 26, _, _, _, _, _⟩ :: _) _ _); refine wpList_appendI rfl (.tmp 23) (.tmp 25) _ rfl .i64 w.heap.size 3 8 Try.underlying22 rintInfo v23 l (some ⟨w23.heap.size, 0, none⟩) 1 1 [odd] rfl rfl rfl (O23.out.alloc _) (laid1 _ _ _) HA3.out HA4.out w (B23.out.alloc B23.out.size _) (Nat.le_refl _) ?_; intro v26 w26 O26' B26'; rw [HLO.out] at O26'; have B26 := Lib.hid B26'; obtain ⟨a26, c26, rfl, i26, j26⟩ := O26'.form2; have I26 := Lib.hid i26; have J26 := Lib.hid j26; clear O26' B26' i26 j26)
    | (go_at_call 16; refine (rright_any _ _ lo _ hln I26.out).mono ?_; rw [HOK.out]; rintro e w' ⟨rfl, rfl⟩))
  have HB26 := Lib.hid (HB.out.below B26.out)
  have C42 := sort_any _ cap l w26 (by rw [HL.out]; omega) HB26.out
  rw [HS.out, HL.out] at C42
  go_upto_region 5 with (go_at_call 10; refine C42.mono ?_; rintro e w42 ⟨a42, c42, rfl, i42, b42⟩)
  have I42 := Lib.hid i42
  have G42 := Lib.hid (grow B26.out b42)
  clear b42 i42 C42 I26 J26 HB26 B26
  rw [HSL.out]
  have C45 := mid_any _ cap l w42 (by rw [HL.out]; omega) (HB.out.below G42.out)
  rw [HMM.out, QM.out, HL.out] at C45
  go_upto_region 6 with (go_at_call 7; refine C45.mono ?_; rintro e w45 ⟨rfl, b45⟩)
  have I45 := Lib.hid (I42.out.below b45)
  have G45 := Lib.hid (grow G42.out b45)
  clear b45 C45 I42 G42
  rcases I45.out with hno | ⟨bs, os, rfl, hcs⟩
  · have := HSL.out; rw [hno] at this; simp at this
  have s0 : w45.cell? ⟨bs, os, none⟩ = some (.int .i64 x0) := by have := hcs 0 (by rw [HSL.out]; omega); rw [HX0.out] at this; exact this
  have s1 : w45.cell? ⟨bs, os + 3, none⟩ = some (.int .i64 x1) := by have := hcs 3 (by rw [HSL.out]; omega); rw [HX1.out] at this; exact this
  have S0 := Lib.hid s0
  have S1 := Lib.hid s1
  clear hcs
  go_upto_region 9 with (fail)
  clear s0 s1
  have HBW := Lib.hid (HB.out.below G45.out)
  have HCW := fun i hi => (G45.out.cell (p := ⟨b, off + i, none⟩) (cell_lt (HC.out i hi))).trans (HC.out i hi)
  have HD := Lib.hid (intsAt_drop k HCW)
  have HT := Lib.hid (HBW.out.take k)
  clear HCW
  go_region_law (first
    | (refine step_appendI rfl (.tmp 79) (.tmp 82) _ rfl .i64 w45.heap.size 3 8 Try.underlying22 rintInfo (.slice (some ⟨w45.heap.size, 0, none⟩) 0 0) [] (some ⟨b, off + k, none⟩) (4 - k) (cap - k) (l.drop k) (by simp [Act.eval]) (by simp [Act.eval]) HK1.out (OwnI.lit0 (Nat.le_refl _)).drew (HD.out.below ((Below.refl _ _).alloc (Nat.le_refl _) _)).drew HK2.out HK3.out w45 ((Below.refl _ _).alloc (Nat.le_refl _) _).drew (Nat.le_refl _) ?_; intro v83 w83 O83' B83'; have O83 := Lib.hid O83'; have B83 := Lib.hid B83'; clear O83' B83')
    | (refine step_appendI rfl (.tmp 83) (.tmp 86) _ rfl .i64 w45.heap.size 3 8 Try.underlying22 rintInfo v83 ([] ++ l.drop k) (some ⟨b, off, none⟩) k cap (l.take k) (by simp [Act.eval]) (by simp [Act.eval]) HK4.out O83.out (HT.out.below B83.out) HK5.out HK6.out w45 B83.out (Nat.le_refl _) ?_; intro v87 w87 O87' B87'; rw [HTL.out] at O87'; have B87 := Lib.hid B87'; obtain ⟨a87, c87, rfl, i87, j87⟩ := O87'.form2; have I87 := Lib.hid i87; clear O87' B87' i87 j87))
  have C90 := mid_any a87 c87 tl w87 htl1 I87.out
  rw [Q1.out, Q2.out] at C90
  have G87 := Lib.hid (grow G45.out B87.out)
  go_upto_region 11 with (go_at_call 7; refine C90.mono ?_; rintro e w90 ⟨rfl, b90⟩)
  have G90 := Lib.hid (grow G87.out b90)
  have I90 := Lib.hid (I45.out.below (grow B87.out b90))
  have t0 := Lib.hid (((grow B87.out b90).cell (p := ⟨bs, os, none⟩) (cell_lt S0.out)).trans S0.out)
  have t1 := Lib.hid (((grow B87.out b90).cell (p := ⟨bs, os + 3, none⟩) (cell_lt S1.out)).trans S1.out)
  clear C90 b90 G87 B87 S0 S1 I45 G45 I87
  have C95 := mid_any _ c42 s w90 (by rw [HSL.out]; omega) I90.out
  rw [Q3.out, Q4.out, HSL.out] at C95
  go_upto_region 12 with (go_at_call 7; refine C95.mono ?_; rintro e w95 ⟨rfl, b95⟩)
  have G95 := Lib.hid (grow G90.out b95)
  have u0 := Lib.hid ((b95.cell (p := ⟨bs, os, none⟩) (cell_lt t0.out)).trans t0.out)
  have u1 := Lib.hid ((b95.cell (p := ⟨bs, os + 3, none⟩) (cell_lt t1.out)).trans t1.out)
  clear C95 b95 t0 t1 I90 G90
  have HB95 := Lib.hid (HB.out.below G95.out)
  have HB18 := HB95
  have G18 := G95
  go_wp2_with (first
    | ((with_reducible show wpList _ _ _ (⟨some 153, _, _, _, _, _⟩ :: _) _ _); refine wpList_appendI rfl (.tmp 151) (.tmp 152) _ rfl .i64 w95.heap.size 3 8 Try.underlying22 rintInfo _ [] (some ⟨b, off, none⟩) 4 cap l rfl rfl HL.out (OwnI.lit0 (Nat.le_refl _)) (HB18.out.below ((Below.refl _ _).alloc (Nat.le_refl _) _)) HA1.out HA2.out w95 ((Below.refl _ _).alloc (Nat.le_refl _) _) (Nat.le_refl _) ?_; intro v153 w153 O153' B153'; rw [List.nil_append] at O153'; have O153 := Lib.hid O153'; have B153 := Lib.hid B153'; clear O153' B153')
    | ((with_reducible show wpList _ _ _ (⟨some 156, _, _, _, _, _⟩ :: _) _ _); refine wpList_appendI rfl (.tmp 153) (.tmp 155) _ rfl .i64 w95.heap.size 3 8 Try.underlying22 rintInfo v153 l (some ⟨w153.heap.size, 0, none⟩) 1 1 [odd] rfl rfl rfl (O153.out.alloc _) (laid1 _ _ _) HA3.out HA4.out w95 (B153.out.alloc B153.out.size _) (Nat.le_refl _) ?_; intro v156 w156 O156' B156'; rw [HLO.out] at O156'; have B156 := Lib.hid B156'; obtain ⟨a156, c156, rfl, i156, j156⟩ := O156'.form2; have I156 := Lib.hid i156; have J156 := Lib.hid j156; clear O156' B156' i156 j156)
    | (go_at_call 12; refine (without_any _ _ lo 4 _ hln J156.out.1 (le_max J156.out.2) I156.out).mono ?_; rw [HWL.out]; rintro e w159 ⟨a159, c159, rfl, i159, b159⟩; rw [HL.out]; have I159 := Lib.hid i159; have B159 := Lib.hid b159; clear i159 b159)
    | (go_at_call 9; have C162 := ints_any a159 (some ⟨b, off, none⟩) c159 cap l l w159 (by rw [HL.out]; omega) (by rw [HL.out]; omega) I159.out (HB18.out.below (grow B156.out B159.out)); rw [HL.out, same_self] at C162; refine C162.mono ?_; rintro e w162 ⟨rfl, b162⟩; have B162 := Lib.hid b162; clear b162 C162)
    | (go_at_call 6; refine (alive_any _).mono ?_; rintro e w163 ⟨rfl, b163⟩; have B163 := Lib.hid b163; clear b163))
  go_ret
  exact ⟨rfl, grow G18.out (grow B156.out (grow B159.out (grow B162.out B163.out)))⟩

end orderMidst
end Go.Proofs.Ytkfcgdhicmmklaa
