/-
  The walk of the law OrderMidst: for every list and every two numbers it returns true, and writes nothing that was there. Its conditions: the list's bytes are within the reach.
-/
import Derived.Test.YtkfcgdhicmmklaaOrderAlive
import Derived.Test.YtkfcgdhicmmklaaAppend
import Derived.Deep.DeepCutAuto
import Derived.Deep.CutBlock
namespace Go.Proofs.Ytkfcgdhicmmklaa
open Go.ChangeShapes Go.WideShapes Go.ChangeAt Go.RowKit Go.Deep
namespace orderMidst
open Fx Od

theorem bd1 {l : List Int} {cap : Nat} (c : l.length ≤ cap) (z : cap * 8 ≤ 140737488351232) : ([] : List Int).length + l.length ≤ maxLen := by
  simp only [List.length_nil, maxLen]; omega
theorem bd2 {l : List Int} {cap : Nat} (c : l.length ≤ cap) (z : cap * 8 ≤ 140737488351232) : (([] : List Int).length + l.length) * 8 ≤ 140737488355328 := by
  simp only [List.length_nil]; omega
theorem bd3 {l : List Int} {cap : Nat} (odd : Int) (c : l.length ≤ cap) (z : cap * 8 ≤ 140737488351232) : l.length + [odd].length ≤ maxLen := by
  simp only [List.length_cons, List.length_nil, maxLen]; omega
theorem bd4 {l : List Int} {cap : Nat} (odd : Int) (c : l.length ≤ cap) (z : cap * 8 ≤ 140737488351232) : (l.length + [odd].length) * 8 ≤ 140737488355328 := by
  simp only [List.length_cons, List.length_nil]; omega

set_option maxRecDepth 100000 in
set_option maxHeartbeats 1600000 in
theorem walkA (a : Option Addr) (cap : Nat) (l : List Int) (odd : Int) (turn : Int) (w : World) (c0 : l.length ≤ cap) (z : cap * 8 ≤ 140737488351232) (hb : IntsAt .i64 w a l)
    (h : ok (l ++ [odd]) = false ∨ l.length < 1 ∨ 4 < l.length) :
    Calls Try.prog 5 #[.slice a l.length cap, .int .i64 odd, .int .u8 turn] w fun e w' => e = .returned (.bool true) ∧ Below w.heap.size w w' := by
  have HA1 := Lib.hid (bd1 c0 z)
  have HA2 := Lib.hid (bd2 c0 z)
  have HA3 := Lib.hid (bd3 odd c0 z)
  have HA4 := Lib.hid (bd4 odd c0 z)
  have HB := Lib.hid hb
  clear hb
  have hln : (l ++ [odd]).length ≤ 9223372036854775807 := by simp; omega
  obtain ⟨lo, hlo⟩ : ∃ lo, l ++ [odd] = lo := ⟨_, rfl⟩
  rw [hlo] at h hln
  have HLO := Lib.hid hlo
  clear hlo
  have hcm : cap ≤ 9223372036854775807 := by omega
  cases hok : ok lo
  · clear h
    go_enter Try.func5, Try.ntmps5
    go_wp2_with (first
      | ((with_reducible show wpList _ _ _ (⟨some 23, _, _, _, _, _⟩ :: _) _ _); refine wpList_appendI rfl (.tmp 21) (.tmp 22) _ rfl .i64 w.heap.size 3 8 Try.underlying22 rintInfo _ [] a l.length cap l rfl rfl rfl (OwnI.lit0 (Nat.le_refl _)) (HB.out.below ((Below.refl _ _).alloc (Nat.le_refl _) _)) HA1.out HA2.out w ((Below.refl _ _).alloc (Nat.le_refl _) _) (Nat.le_refl _) ?_; intro v23 w23 O23' B23'; rw [List.nil_append] at O23'; have O23 := Lib.hid O23'; have B23 := Lib.hid B23'; clear O23' B23')
      | ((with_reducible show wpList _ _ _ (⟨some 26, _, _, _, _, _⟩ :: _) _ _); refine wpList_appendI rfl (.tmp 23) (.tmp 25) _ rfl .i64 w.heap.size 3 8 Try.underlying22 rintInfo v23 l (some ⟨w23.heap.size, 0, none⟩) 1 1 [odd] rfl rfl rfl (O23.out.alloc _) (laid1 _ _ _) HA3.out HA4.out w (B23.out.alloc B23.out.size _) (Nat.le_refl _) ?_; intro v26 w26 O26' B26'; rw [HLO.out] at O26'; have B26 := Lib.hid B26'; obtain ⟨a26, c26, rfl, i26, j26⟩ := O26'.form2; have I26 := Lib.hid i26; have J26 := Lib.hid j26; clear O26' B26' i26 j26)
      | (go_at_call 16; refine (rright_any _ _ lo _ hln I26.out).mono ?_; rw [hok]; rintro e w' ⟨rfl, rfl⟩)
      | (go_at_call 6; refine (alive_any _).mono ?_; rintro e w9 ⟨rfl, b9⟩))
    go_ret
    exact ⟨rfl, grow B26.out b9⟩
  · have h' : l.length < 1 ∨ 4 < l.length := by rcases h with h | h; rw [hok] at h; cases h; exact h
    clear h
    by_cases h1 : l.length < 1
    · have d1 : decide ((l.length : Int) < 1) = true := by simp; omega
      go_enter Try.func5, Try.ntmps5
      go_wp2_with (first
        | ((with_reducible show wpList _ _ _ (⟨some 23, _, _, _, _, _⟩ :: _) _ _); refine wpList_appendI rfl (.tmp 21) (.tmp 22) _ rfl .i64 w.heap.size 3 8 Try.underlying22 rintInfo _ [] a l.length cap l rfl rfl rfl (OwnI.lit0 (Nat.le_refl _)) (HB.out.below ((Below.refl _ _).alloc (Nat.le_refl _) _)) HA1.out HA2.out w ((Below.refl _ _).alloc (Nat.le_refl _) _) (Nat.le_refl _) ?_; intro v23 w23 O23' B23'; rw [List.nil_append] at O23'; have O23 := Lib.hid O23'; have B23 := Lib.hid B23'; clear O23' B23')
        | ((with_reducible show wpList _ _ _ (⟨some 26, _, _, _, _, _⟩ :: _) _ _); refine wpList_appendI rfl (.tmp 23) (.tmp 25) _ rfl .i64 w.heap.size 3 8 Try.underlying22 rintInfo v23 l (some ⟨w23.heap.size, 0, none⟩) 1 1 [odd] rfl rfl rfl (O23.out.alloc _) (laid1 _ _ _) HA3.out HA4.out w (B23.out.alloc B23.out.size _) (Nat.le_refl _) ?_; intro v26 w26 O26' B26'; rw [HLO.out] at O26'; have B26 := Lib.hid B26'; obtain ⟨a26, c26, rfl, i26, j26⟩ := O26'.form2; have I26 := Lib.hid i26; have J26 := Lib.hid j26; clear O26' B26' i26 j26)
        | (go_at_call 16; refine (rright_any _ _ lo _ hln I26.out).mono ?_; rw [hok]; rintro e w' ⟨rfl, rfl⟩)
        | (go_at_call 6; refine (alive_any _).mono ?_; rintro e w9 ⟨rfl, b9⟩))
      go_ret
      exact ⟨rfl, grow B26.out b9⟩
    · have d1 : decide ((l.length : Int) < 1) = false := by simp; omega
      have d2 : decide (4 < (l.length : Int)) = true := by simp; omega
      go_enter Try.func5, Try.ntmps5
      go_wp2_with (first
        | ((with_reducible show wpList _ _ _ (⟨some 23, _, _, _, _, _⟩ :: _) _ _); refine wpList_appendI rfl (.tmp 21) (.tmp 22) _ rfl .i64 w.heap.size 3 8 Try.underlying22 rintInfo _ [] a l.length cap l rfl rfl rfl (OwnI.lit0 (Nat.le_refl _)) (HB.out.below ((Below.refl _ _).alloc (Nat.le_refl _) _)) HA1.out HA2.out w ((Below.refl _ _).alloc (Nat.le_refl _) _) (Nat.le_refl _) ?_; intro v23 w23 O23' B23'; rw [List.nil_append] at O23'; have O23 := Lib.hid O23'; have B23 := Lib.hid B23'; clear O23' B23')
        | ((with_reducible show wpList _ _ _ (⟨some 26, _, _, _, _, _⟩ :: _) _ _); refine wpList_appendI rfl (.tmp 23) (.tmp 25) _ rfl .i64 w.heap.size 3 8 Try.underlying22 rintInfo v23 l (some ⟨w23.heap.size, 0, none⟩) 1 1 [odd] rfl rfl rfl (O23.out.alloc _) (laid1 _ _ _) HA3.out HA4.out w (B23.out.alloc B23.out.size _) (Nat.le_refl _) ?_; intro v26 w26 O26' B26'; rw [HLO.out] at O26'; have B26 := Lib.hid B26'; obtain ⟨a26, c26, rfl, i26, j26⟩ := O26'.form2; have I26 := Lib.hid i26; have J26 := Lib.hid j26; clear O26' B26' i26 j26)
        | (go_at_call 16; refine (rright_any _ _ lo _ hln I26.out).mono ?_; rw [hok]; rintro e w' ⟨rfl, rfl⟩)
        | (go_at_call 6; refine (alive_any _).mono ?_; rintro e w9 ⟨rfl, b9⟩))
      go_ret
      exact ⟨rfl, grow B26.out b9⟩

end orderMidst
end Go.Proofs.Ytkfcgdhicmmklaa
