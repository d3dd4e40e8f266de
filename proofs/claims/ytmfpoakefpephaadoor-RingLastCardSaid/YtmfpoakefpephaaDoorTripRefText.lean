/-
  What Text and Parse of rudderref14 return, for every number and every text: contracts by walking the Go text. No conditions.
-/
import Derived.Test.YtmfpoakefpephaaDoorTripRef
namespace Go.Proofs.YtmfpoakefpephaaDoor
open Go.ChangeShapes Go.WideShapes Go.ChangeAt Go.RowKit Go.Deep
namespace Tp
open Fx

/-- The text put together of the first k names. -/
def jn (m k : Nat) : List UInt8 := Lib.join (parts m k) [43]
theorem join_snoc (l : List (List UInt8)) (y : List UInt8) (h : l ≠ []) : Lib.join (l ++ [y]) [43] = Lib.join l [43] ++ [43] ++ y := by
  cases l with
  | nil => exact absurd rfl h
  | cons x r =>
    rw [List.cons_append, Lib.join_cons, Lib.join_cons]
    simp [Lib.joinTail]
theorem nm_ne {i : Nat} (h : i < 6) : nm i ≠ [] := by
  have : i ∈ [0, 1, 2, 3, 4, 5] := by simp; omega
  simp only [List.mem_cons, List.mem_nil_iff, or_false] at this
  rcases this with rfl | rfl | rfl | rfl | rfl | rfl <;> decide
theorem parts_yes {m k : Nat} (h : bitOf m k = true) : parts m (k + 1) = parts m k ++ [nm k] := by
  unfold parts; rw [List.range_succ, List.filter_append, List.filter_cons, if_pos h]; simp
theorem parts_no {m k : Nat} (h : bitOf m k = false) : parts m (k + 1) = parts m k := by
  unfold parts; rw [List.range_succ, List.filter_append, List.filter_cons, if_neg (by simp [h])]; simp
theorem parts_names {m k : Nat} (hk : k ≤ 6) : ∀ x ∈ parts m k, x ≠ [] := by
  intro x hx
  unfold parts at hx
  obtain ⟨i, hi, rfl⟩ := List.mem_map.1 hx
  have := List.mem_range.1 (List.mem_filter.1 hi).1
  exact nm_ne (by omega)
theorem jn_nil {m k : Nat} (hk : k ≤ 6) (h : jn m k = []) : parts m k = [] := by
  have hn := parts_names (m := m) hk
  unfold jn at h
  cases hp : parts m k with
  | nil => rfl
  | cons x r =>
    rw [hp] at h hn
    rw [Lib.join_cons] at h
    exact absurd (List.append_eq_nil_iff.1 h).1 (hn x List.mem_cons_self)
theorem jn_no {m k : Nat} (h : bitOf m k = false) : jn m (k + 1) = jn m k := by unfold jn; rw [parts_no h]
theorem jn_first {m k : Nat} (hk : k < 6) (h : bitOf m k = true) (h0 : jn m k = []) : jn m (k + 1) = nm k := by
  have := jn_nil (by omega) h0
  unfold jn; rw [parts_yes h, this, List.nil_append, Lib.join_one]
theorem jn_more {m k : Nat} (h : bitOf m k = true) (h0 : jn m k ≠ []) : jn m (k + 1) = jn m k ++ [43] ++ nm k := by
  have : parts m k ≠ [] := fun e => h0 (by unfold jn; rw [e]; rfl)
  unfold jn; rw [parts_yes h, join_snoc _ _ this]
theorem tl_app (a b : ByteArray) : tl (a ++ b) = tl a ++ tl b := by unfold tl; simp
theorem tl_mk (l : List UInt8) : tl ⟨l.toArray⟩ = l := by unfold tl; simp
theorem of_tl {s : ByteArray} {l : List UInt8} (h : tl s = l) : s = ⟨l.toArray⟩ := bytes_inj (by rw [← h]; simp [tl])

theorem tab_jn : ((List.range 64).all fun m => (List.range 7).all fun k => decide ((jn m k).length ≤ 64)) = true := by decide +kernel
theorem jn_len {m k : Nat} (hm : m < 64) (hk : k < 7) : (jn m k).length ≤ 64 := by
  have := List.all_eq_true.1 (List.all_eq_true.1 tab_jn m (List.mem_range.2 hm)) k (List.mem_range.2 hk)
  simpa using this
theorem nm_len {i : Nat} (h : i < 6) : (nm i).length ≤ 5 := by
  have : i ∈ [0, 1, 2, 3, 4, 5] := by simp; omega
  simp only [List.mem_cons, List.mem_nil_iff, or_false] at this
  rcases this with rfl | rfl | rfl | rfl | rfl | rfl <;> decide
theorem ret_str {a b : ByteArray} (h : a = b) : Ending.returned (.string a) = .returned (.string b) := by rw [h]

set_option maxRecDepth 100000 in
set_option maxHeartbeats 1600000 in
theorem rtext_in (m : Nat) (w : World) (hm : m < 64) (h0 : m ≠ 0) :
    Calls Tryd.prog 23 #[.int .i64 m] w fun e w' => e = .returned (.string ⟨(tx m).toArray⟩) ∧ Below w.heap.size w w' := by
  have HX := Lib.hid (show tx m = jn m 6 by unfold tx jn; rw [if_neg h0])
  have d1 : decide ((m : Int) < 0) = false := by simp
  have d2 : decide (63 < (m : Int)) = false := by simp; omega
  have d3 : ((m : Int) == 0) = false := by simp; omega
  have HM := Lib.hid hm
  have BA := (Below.refl w.heap.size w).alloc (Nat.le_refl _) (.cells (strs nms).toArray 9)
  have hc : ∀ i, i < 6 → (w.alloc (.cells (strs nms).toArray 9)).cell? ⟨w.heap.size, i, none⟩ = some (.string ⟨(nm i).toArray⟩) := by
    intro i hi
    refine VRow.cell (VRow.new w (strs nms) 9) i ?_
    unfold strs nm
    rw [List.getElem?_map, List.getD_eq_getElem?_getD, List.getElem?_eq_getElem (show i < nms.length from hi)]
    rfl
  have HBA := Lib.hid BA
  have HC := Lib.hid hc
  clear BA hc h0 hm
  go_enter Tryd.func23, Tryd.ntmps23
  go_wp2_with (go_at_call 29; refine (rnames_any _).mono ?_; rintro e w' ⟨rfl, rfl⟩)
  generalize w.alloc (.cells (strs nms).toArray 9) = W at *
  go_loopg [4, 5, 6] 6 (fun gg s4 s5 _ wr => ∃ (k : Nat) (sb : ByteArray), k + gg = 6 ∧ s5 = .int .i64 k ∧ s4 = .string sb ∧ Hid (tl sb = jn m k) ∧ W = wr)
  case atStart => exact ⟨0, ⟨#[]⟩, by omega, rfl, rfl, Lib.hid rfl, rfl⟩
  case round =>
    obtain ⟨k, sb, hkg, rfl, rfl, HS, rfl⟩ := hrel
    by_cases hk : k < 6
    · have hki : (k : Int) < 6 := by omega
      have hck := HC.out k hk
      have hsz : sb.size ≤ 64 := by
        have h1 := jn_len HM.out (k := k) (by omega)
        rw [← HS.out] at h1; exact h1
      have hnl := nm_len hk
      have g1 : ¬ 9223372036854775807 < sb.size + 1 := by omega
      have g2 : ¬ 9223372036854775807 < sb.size + 1 + (nm k).length := by omega
      have g3 : ¬ 9223372036854775807 < sb.size + (nm k).length := by omega
      clear hsz hnl
      have CH := rhas_any m k W HM.out hk
      have HN := Lib.hid (fun h => jn_no (m := m) (k := k) h)
      have H1 := Lib.hid (fun h => jn_first (m := m) hk h)
      have H2 := Lib.hid (fun h => jn_more (m := m) (k := k) h)
      cases hb : bitOf m k
      · have HE := Lib.hid (HN.out hb)
        rw [hb] at CH
        clear HN H1 H2 hb
        go_wp2_with (go_at_call 30; refine CH.mono ?_; rintro e w' ⟨rfl, rfl⟩)
        go_roundg (gk - 1)
        case rel => exact ⟨k + 1, sb, by omega, by go_num, rfl, Lib.hid (by rw [HE.out]; exact HS.out), rfl⟩
        case measure => omega
      · rw [hb] at CH
        cases he : (sb.toList == [])
        · have HE := Lib.hid (H2.out hb (by
            rw [← HS.out]; rw [ByteArray.toList_eq] at he; exact beq_eq_false_iff_ne.1 he))
          clear HN H1 H2 hb
          go_wp2_with (go_at_call 30; refine CH.mono ?_; rintro e w' ⟨rfl, rfl⟩)
          go_roundg (gk - 1)
          case rel => exact ⟨k + 1, _, by omega, by go_num, rfl, Lib.hid (by rw [HE.out, tl_app, tl_app, HS.out, tl_mk]; rfl), rfl⟩
          case measure => omega
        · have H0 := Lib.hid (show jn m k = [] by
            rw [← HS.out]; rw [ByteArray.toList_eq] at he; exact beq_iff_eq.1 he)
          have HE := Lib.hid (H1.out hb H0.out)
          clear HN H1 H2 hb
          go_wp2_with (go_at_call 30; refine CH.mono ?_; rintro e w' ⟨rfl, rfl⟩)
          go_roundg (gk - 1)
          case rel => exact ⟨k + 1, _, by omega, by go_num, rfl, Lib.hid (by rw [HE.out, tl_app, HS.out, H0.out, List.nil_append, tl_mk]), rfl⟩
          case measure => omega
    · obtain rfl : k = 6 := by omega
      have HF := Lib.hid (of_tl (HS.out.trans HX.out.symm))
      go_wp2
      go_ret
      exact ⟨ret_str HF.out, HBA.out⟩

set_option maxHeartbeats 400000 in
theorem rtext_any (m : Int) (w : World) :
    Calls Tryd.prog 23 #[.int .i64 m] w fun e w' => e = .returned (.string ⟨(txt m).toArray⟩) ∧ Below w.heap.size w w' := by
  by_cases h0 : 0 ≤ m
  · by_cases h1 : m ≤ 63
    · obtain ⟨n, rfl⟩ : ∃ n : Nat, m = n := ⟨m.toNat, by omega⟩
      by_cases h2 : n = 0
      · subst h2
        go_enter Tryd.func23, Tryd.ntmps23
        go_wp2
        go_ret
        exact ⟨rfl, Below.refl _ _⟩
      · have e : txt (n : Int) = tx n := by unfold txt; rw [if_pos ⟨h0, h1⟩, Int.toNat_natCast]
        rw [e]
        exact rtext_in n w (by omega) h2
    · have d0 : decide (m < 0) = false := by simpa using h0
      have d1 : decide (63 < m) = true := by simp; omega
      have HF := Lib.hid (show txt m = [] by unfold txt; rw [if_neg (by omega)])
      clear h0 h1
      go_enter Tryd.func23, Tryd.ntmps23
      go_wp2
      go_ret
      exact ⟨ret_str (by rw [HF.out]), Below.refl _ _⟩
  · have d0 : decide (m < 0) = true := by simp; omega
    have HF := Lib.hid (show txt m = [] by unfold txt; rw [if_neg (by omega)])
    clear h0
    go_enter Tryd.func23, Tryd.ntmps23
    go_wp2
    go_ret
    exact ⟨ret_str (by rw [HF.out]), Below.refl _ _⟩

theorem txt_nat {k : Nat} (hk : k < 64) : txt (k : Int) = tx k := by unfold txt; rw [if_pos (by omega), Int.toNat_natCast]
end Tp
end Go.Proofs.YtmfpoakefpephaaDoor
