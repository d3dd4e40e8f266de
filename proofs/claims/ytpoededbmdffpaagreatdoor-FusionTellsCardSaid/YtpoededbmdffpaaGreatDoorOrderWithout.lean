/-
  What Without of package order returns, for every argument: a contract by walking the Go text. Its conditions: where the list lies, and that it fits its capacity.
-/
import Derived.Test.YtpoededbmdffpaaGreatDoorOrderWalks2
import Derived.Deep.DeepCutAuto
import Derived.Deep.CutBlock
namespace Go.Proofs.YtpoededbmdffpaaGreatDoor
set_option maxRecDepth 100000
open Go.ChangeShapes Go.WideShapes Go.ChangeAt Go.RowKit Go.Deep
namespace Od
open Fx
theorem len_take_min {l : List Int} {j : Nat} (hj : j < l.length) : (l.take j).length = Nat.min j (l.length - 1) := by
  rw [List.length_take]; show min j l.length = min j (l.length - 1); omega
theorem fit_take {l : List Int} {j : Nat} (hj : j < l.length) : 0 + (l.take j).length ≤ (List.replicate (l.length - 1) (0 : Int)).length := by
  rw [List.length_take, List.length_replicate]; omega
theorem len_drop_min {l : List Int} {j : Nat} (hj : j < l.length) : (l.drop (j + 1)).length = Nat.min (l.length - (j + 1)) (l.length - 1 - j) := by
  rw [List.length_drop]; show _ = min _ _; omega
theorem len_splice1 {l : List Int} {j : Nat} (hj : j < l.length) : (splice (List.replicate (l.length - 1) 0) 0 (l.take j)).length = l.length - 1 := by
  rw [length_splice _ _ _ (fit_take hj)]; simp
theorem fit_drop {l : List Int} {j : Nat} (hj : j < l.length) : j + (l.drop (j + 1)).length ≤ (splice (List.replicate (l.length - 1) 0) 0 (l.take j)).length := by
  rw [len_splice1 hj, List.length_drop]; omega
theorem splice_two {l : List Int} {j : Nat} (hj : j < l.length) : splice (splice (List.replicate (l.length - 1) 0) 0 (l.take j)) j (l.drop (j + 1)) = l.take j ++ l.drop (j + 1) := by
  have h1 := len_splice1 hj
  have h2 : (l.take j).length = j := by rw [List.length_take]; omega
  have h3 : (splice (List.replicate (l.length - 1) 0) 0 (l.take j)).take j = l.take j := by
    unfold splice; rw [List.take_zero, List.nil_append, List.take_append_of_le_length (by omega), List.take_of_length_le (by omega)]
  generalize splice (List.replicate (l.length - 1) 0) 0 (l.take j) = S at *
  unfold splice
  rw [h3, List.drop_eq_nil_of_le (i := j + (l.drop (j + 1)).length) (by rw [h1, List.length_drop]; omega), List.append_nil]
theorem fit_nil {l : List Int} {j : Nat} (hj : j < l.length) : j + ([] : List Int).length ≤ (splice (List.replicate (l.length - 1) 0) 0 (l.take j)).length := by
  rw [len_splice1 hj]; simp; omega
theorem splice_one {l : List Int} {j : Nat} (hj : j < l.length) (h : l.length ≤ j + 1) : splice (splice (List.replicate (l.length - 1) 0) 0 (l.take j)) j [] = l.take j ++ l.drop (j + 1) := by
  have := splice_two hj
  rwa [List.drop_eq_nil_of_le h] at this ⊢
set_option maxHeartbeats 800000 in
theorem without_in (b off : Nat) (cap : Nat) (l : List Int) (j : Nat) (w : World) (hl : l.length ≤ 9223372036854775807) (hcap : l.length ≤ cap) (hcm : cap ≤ 9223372036854775807) (hok : ok l = true) (hj : j < l.length)
    (hc : ∀ i, i < l.length → w.cell? ⟨b, off + i, none⟩ = some (.int .i64 (l.getD i 0))) :
    Calls Tryz.prog 226 #[.slice (some ⟨b, off, none⟩) l.length cap, .int .i64 j] w (RetI .i64 w (without l j)) := by
  have HF := Lib.hid ((without_yes (j : Int) hok).trans (wo_at l j))
  have h16 := ok_len hok
  have hb : IntsAt .i64 w (some ⟨b, off, none⟩) l := Or.inr ⟨b, off, rfl, hc⟩
  have HB := Lib.hid hb
  have C := told_any _ cap l w hl hb
  clear hb
  obtain ⟨i0, hi0, hz0, hz1, hz2⟩ := info_parts intInfo
  have d1 : decide ((j : Int) < 0) = false := by simp
  have d2 : decide ((l.length : Int) ≤ (j : Int)) = false := by simp; omega
  have e1 : (j : Int) ≤ (cap : Int) := by omega
  have e2 : 0 ≤ (j : Int) := by omega
  have HC := Lib.hid hc
  clear hc
  by_cases hlast : j + 1 < l.length
  · go_enter Tryz.func226, Tryz.ntmps226
    go_upto_region 8 with (first
      | (go_at_call 220; refine C.mono ?_; rintro e w' ⟨rfl, rfl⟩)
      | (at_make; refine wpList_make_full _ rfl _ _ _ rfl w.heap.size 3 i0 (.int .i64 0) 1 Tryz.underlying144 hi0 hz0 hz1 .i64 .i64 _ _ (l.length - 1) rfl rfl (by omega) (by omega) (by rw [hz2]; omega) (by unfold maxLen; omega) (Nat.le_refl _) ?_; intro w1 own1 grown1
         have R1 := Lib.hid (IRow.of_own own1 (zeros_cellsI _)); have B1 := Lib.hid ((Below.refl w.heap.size w).grown grown1 (Nat.le_refl _) (by simp)); clear own1 grown1))
    go_wp2_with ((with_reducible show wpList _ _ _ (⟨some 33, _, _, _, _, _⟩ :: _) _ _); refine wpList_copyI rfl (.tmp 29) (.tmp 32) _ rfl 3 Tryz.underlying144 intSize .i64 w.heap.size 0 (List.replicate (l.length - 1) 0) (l.take j) 3 _ _ _ _ _ _ rfl rfl R1.out (len_take_min hj) (fun _ => rfl) ((HB.out.below B1.out).take j) (fit_take hj) w.heap.size w B1.out (Nat.le_refl _) ?_
                 intro w2 R2' B2'; have R2 := Lib.hid R2'.out; have B2 := Lib.hid B2'; clear R2' B2')
    go_simp
    have HS := Lib.hid (HB.out.below B2.out)
    have wj : IntKind.i64.wrap ((j : Int) + 1) = (j : Int) + 1 := IntWalk.i64_in _ (by omega)
    have wj2 : ((j : Int) + 1).toNat = j + 1 := by omega
    have wj3 : 0 ≤ (j : Int) + 1 := by omega
    have wj4 : (j : Int) + 1 ≤ (cap : Int) := by omega
    have wj5 : j ≤ l.length - 1 := by omega
    have wj6 : ¬ (l.length - 1 = j) := by omega
    have wj7 : j + 1 ≤ cap := by omega
    have wj8 : ¬ (cap = j + 1) := by omega
    have wj9 : (j : Int) + 1 ≤ (l.length : Int) := by omega
    have HD := Lib.hid (show IntsAt .i64 w2 (some ⟨b, off + (j + 1), none⟩) (l.drop (j + 1)) from intsAt_drop (j + 1) (fun i hi => (B2.out.cell (p := ⟨b, off + i, none⟩) (cell_lt (HC.out i hi))).trans (HC.out i hi)))
    clear HS
    go_region_law (refine step_copyI rfl (.tmp 36) (.tmp 40) _ rfl 3 Tryz.underlying144 intSize .i64 w.heap.size j (splice (List.replicate (l.length - 1) 0) 0 (l.take j)) (l.drop (j + 1)) 3 _ _ _ _ _ _ (by simp [Act.eval, Act.put]; rfl) (by simp [Act.eval, Act.put]; rfl) R2.out (len_drop_min hj) (fun _ => rfl) HD.out (fit_drop hj) w.heap.size w B2.out.drew (Nat.le_refl _) ?_; intro w4 R4' B4'; have R4 := Lib.hid R4'.out; have B4 := Lib.hid B4'; clear R4' B4')
    go_wp2
    go_ret
    exact retI_mk ((splice_two hj).trans HF.out.symm) (by rw [splice_two hj]; simp; omega) R4.out.ints B4.out
  · have hlast2 : l.length ≤ j + 1 := by omega
    clear hlast
    go_enter Tryz.func226, Tryz.ntmps226
    go_upto_region 8 with (first
      | (go_at_call 220; refine C.mono ?_; rintro e w' ⟨rfl, rfl⟩)
      | (at_make; refine wpList_make_full _ rfl _ _ _ rfl w.heap.size 3 i0 (.int .i64 0) 1 Tryz.underlying144 hi0 hz0 hz1 .i64 .i64 _ _ (l.length - 1) rfl rfl (by omega) (by omega) (by rw [hz2]; omega) (by unfold maxLen; omega) (Nat.le_refl _) ?_; intro w1 own1 grown1
         have R1 := Lib.hid (IRow.of_own own1 (zeros_cellsI _)); have B1 := Lib.hid ((Below.refl w.heap.size w).grown grown1 (Nat.le_refl _) (by simp)); clear own1 grown1))
    go_wp2_with ((with_reducible show wpList _ _ _ (⟨some 33, _, _, _, _, _⟩ :: _) _ _); refine wpList_copyI rfl (.tmp 29) (.tmp 32) _ rfl 3 Tryz.underlying144 intSize .i64 w.heap.size 0 (List.replicate (l.length - 1) 0) (l.take j) 3 _ _ _ _ _ _ rfl rfl R1.out (len_take_min hj) (fun _ => rfl) ((HB.out.below B1.out).take j) (fit_take hj) w.heap.size w B1.out (Nat.le_refl _) ?_
                 intro w2 R2' B2'; have R2 := Lib.hid R2'.out; have B2 := Lib.hid B2'; clear R2' B2')
    go_simp
    have HS := Lib.hid (HB.out.below B2.out)
    have wj : IntKind.i64.wrap ((j : Int) + 1) = (j : Int) + 1 := IntWalk.i64_in _ (by omega)
    have wj2 : ((j : Int) + 1).toNat = j + 1 := by omega
    have wj3 : 0 ≤ (j : Int) + 1 := by omega
    have wj4 : (j : Int) + 1 ≤ (cap : Int) := by omega
    have wj5 : j ≤ l.length - 1 := by omega
    have wj7 : j + 1 ≤ cap := by omega
    have wj9 : (j : Int) + 1 ≤ (l.length : Int) := by omega
    clear HS
    go_region_law (refine step_copyI rfl (.tmp 36) (.tmp 40) _ rfl 3 Tryz.underlying144 intSize .i64 w.heap.size j (splice (List.replicate (l.length - 1) 0) 0 (l.take j)) [] 3 (if l.length - 1 = j then some ⟨w.heap.size, 0, none⟩ else some ⟨w.heap.size, j, none⟩) (if cap = j + 1 then some ⟨b, off, none⟩ else some ⟨b, off + (j + 1), none⟩) 0 0 0 (cap - (j + 1)) (by simp [Act.eval, Act.put]) (by simp [Act.eval, Act.put]) R2.out rfl (fun h => absurd h (by simp)) (Or.inl rfl) (fit_nil hj) w.heap.size w B2.out.drew (Nat.le_refl _) ?_; intro w4 R4' B4'; have R4 := Lib.hid R4'.out; have B4 := Lib.hid B4'; clear R4' B4')
    all_goals go_wp2
    all_goals go_ret
    all_goals exact retI_mk ((splice_one hj (by omega)).trans HF.out.symm) (by rw [splice_one hj (by omega)]; simp; omega) R4.out.ints B4.out
set_option maxHeartbeats 800000 in
theorem without_any (a : Option Addr) (cap : Nat) (l : List Int) (i : Int) (w : World) (hl : l.length ≤ 9223372036854775807) (hcap : l.length ≤ cap) (hcm : cap ≤ 9223372036854775807) (hb : IntsAt .i64 w a l) :
    Calls Tryz.prog 226 #[.slice a l.length cap, .int .i64 i] w (RetI .i64 w (without l i)) := by
  have C := told_any _ cap l w hl hb
  cases hok : ok l
  · rw [hok] at C
    have HF := Lib.hid (without_no i hok)
    go_enter Tryz.func226, Tryz.ntmps226
    go_wp2_with (first | (go_at_call 220; refine C.mono ?_; rintro e w' ⟨rfl, rfl⟩))
    go_ret
    exact retI_nil HF.out (Below.refl _ _)
  · have HB := Lib.hid hb
    by_cases hin : 0 ≤ i ∧ i < (l.length : Int)
    · obtain ⟨j, rfl⟩ := Int.eq_ofNat_of_zero_le hin.1
      have hj : j < l.length := by omega
      rcases hb with hno | ⟨b, off, rfl, hc⟩
      · rw [hno] at hj; simp at hj
      · exact without_in b off cap l j w hl hcap hcm hok hj hc
    · rw [hok] at C
      clear hb
      have HF := Lib.hid (without_yes i hok)
      have h16 := ok_len hok
      have HW := Lib.hid (wo_out l i (by omega))
      obtain ⟨i0, hi0, hz0, hz1, hz2⟩ := info_parts intInfo
      by_cases h0 : i < 0
      · have d1 : decide (i < 0) = true := by simpa using h0
        go_enter Tryz.func226, Tryz.ntmps226
        go_upto_region 5 with (first
          | (go_at_call 220; refine C.mono ?_; rintro e w' ⟨rfl, rfl⟩)
          | (at_make; refine wpList_make_full _ rfl _ _ _ rfl w.heap.size 3 i0 (.int .i64 0) 1 Tryz.underlying144 hi0 hz0 hz1 .i64 .i64 _ _ l.length rfl rfl rfl rfl (by rw [hz2]; omega) (by unfold maxLen; omega) (Nat.le_refl _) ?_; intro w1 own1 grown1
             have R1 := Lib.hid (IRow.of_own own1 (zeros_cellsI _)); have B1 := Lib.hid ((Below.refl w.heap.size w).grown grown1 (Nat.le_refl _) (by simp)); clear own1 grown1))
        go_wp2_with ((with_reducible show wpList _ _ _ (⟨some 23, _, _, _, _, _⟩ :: _) _ _); refine wpList_copyI rfl (.tmp 21) (.tmp 22) _ rfl 3 Tryz.underlying144 intSize .i64 w.heap.size 0 (List.replicate l.length 0) l 3 _ _ _ _ _ _ rfl rfl R1.out (by simp) (fun _ => rfl) (HB.out.below B1.out) (by simp) w.heap.size w B1.out (Nat.le_refl _) ?_
                     intro w2 R2' B2'; have R2 := Lib.hid (show IRow _ _ _ _ l from (splice_whole (List.replicate l.length 0) l (by simp)) ▸ R2'.out); have B2 := Lib.hid B2'; clear R2' B2')
        go_ret
        exact retI_mk (HW.out.symm.trans HF.out.symm) rfl R2.out.ints B2.out
      · have d1 : decide (i < 0) = false := by simpa using h0
        have d2 : decide ((l.length : Int) ≤ i) = true := by simp; omega
        go_enter Tryz.func226, Tryz.ntmps226
        go_upto_region 5 with (first
          | (go_at_call 220; refine C.mono ?_; rintro e w' ⟨rfl, rfl⟩)
          | (at_make; refine wpList_make_full _ rfl _ _ _ rfl w.heap.size 3 i0 (.int .i64 0) 1 Tryz.underlying144 hi0 hz0 hz1 .i64 .i64 _ _ l.length rfl rfl rfl rfl (by rw [hz2]; omega) (by unfold maxLen; omega) (Nat.le_refl _) ?_; intro w1 own1 grown1
             have R1 := Lib.hid (IRow.of_own own1 (zeros_cellsI _)); have B1 := Lib.hid ((Below.refl w.heap.size w).grown grown1 (Nat.le_refl _) (by simp)); clear own1 grown1))
        go_wp2_with ((with_reducible show wpList _ _ _ (⟨some 23, _, _, _, _, _⟩ :: _) _ _); refine wpList_copyI rfl (.tmp 21) (.tmp 22) _ rfl 3 Tryz.underlying144 intSize .i64 w.heap.size 0 (List.replicate l.length 0) l 3 _ _ _ _ _ _ rfl rfl R1.out (by simp) (fun _ => rfl) (HB.out.below B1.out) (by simp) w.heap.size w B1.out (Nat.le_refl _) ?_
                     intro w2 R2' B2'; have R2 := Lib.hid (show IRow _ _ _ _ l from (splice_whole (List.replicate l.length 0) l (by simp)) ▸ R2'.out); have B2 := Lib.hid B2'; clear R2' B2')
        go_ret
        exact retI_mk (HW.out.symm.trans HF.out.symm) rfl R2.out.ints B2.out
end Od
end Go.Proofs.YtpoededbmdffpaaGreatDoor
