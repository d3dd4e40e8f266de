/-
  What the channels of a mask are as a text, by package status and by rudderref16: contracts by walking the Go text. No conditions.
-/
import Derived.Test.YtdicmpniinjbpaaDoorStatusWalks
import Derived.Test.YtdicmpniinjbpaaDoorStatusItoa
import Derived.Laws.IdiomStrings
import Derived.Deep.LoopGhost
namespace Go.Proofs.YtdicmpniinjbpaaDoor
open Go.ChangeShapes Go.WideShapes Go.ChangeAt Go.RowKit Go.Deep
namespace Ss
open Fx

def tl (s : ByteArray) : List UInt8 := s.data.toList
theorem tl_app (a b : ByteArray) : tl (a ++ b) = tl a ++ tl b := by unfold tl; simp
theorem tl_mk (l : List UInt8) : tl ⟨l.toArray⟩ = l := by unfold tl; simp
theorem of_tl {s : ByteArray} {l : List UInt8} (h : tl s = l) : s = ⟨l.toArray⟩ := bytes_inj (by rw [← h]; simp [tl])
theorem ret_str {a b : ByteArray} (h : a = b) : Ending.returned (.string a) = .returned (.string b) := by rw [h]
theorem tl_dg (k : Nat) : tl (dg k) = [UInt8.ofNat (48 + k)] := rfl
theorem size_dg (k : Nat) : (dg k).size = 1 := rfl
theorem chn_none {m : Int} (h : tx m 4 = []) : chn m = [45] := by unfold chn; rw [if_pos h]
theorem chn_some {m : Int} (h : tx m 4 ≠ []) : chn m = tx m 4 := by unfold chn; rw [if_neg h]

set_option maxHeartbeats 800000 in
theorem channels_any (m : Int) (w : World) :
    Calls Tryd.prog 24 #[.int .i64 m] w fun e w' => e = .returned (.string ⟨(chn m).toArray⟩) ∧ w = w' := by
  have HN := Lib.hid (fun h => chn_none (m := m) h)
  have HS := Lib.hid (fun h => chn_some (m := m) h)
  generalize chn m = c at *
  go_enter Tryd.func24, Tryd.ntmps24
  go_wp2
  go_loopg [3, 4, 5] 4 (fun gg s3 _ s5 wr => ∃ (k : Nat) (sb : ByteArray), k + gg = 4 ∧ s5 = .int .i64 k ∧ s3 = .string sb ∧ Hid (tl sb = tx m k) ∧ w = wr)
  case atStart => exact ⟨0, ⟨#[]⟩, by omega, rfl, rfl, Lib.hid rfl, rfl⟩
  case round =>
    obtain ⟨k, sb, hkg, rfl, rfl, HB, rfl⟩ := hrel
    by_cases hk : k < 4
    · have hki : (k : Int) < 4 := by omega
      have hsz : sb.size ≤ 4 := by
        have h1 := tx_len m k
        rw [← HB.out] at h1; unfold tl at h1; simp at h1; omega
      have CH := has_any m k w
      cases hb : has m (k : Int)
      · have HE := Lib.hid (tx_no hb)
        rw [hb] at CH
        clear hb
        go_wp2_with (go_at_call 18; refine CH.mono ?_; rintro e w' ⟨rfl, rfl⟩)
        go_roundg (gk - 1)
        case rel => exact ⟨k + 1, sb, by omega, by go_num, rfl, Lib.hid (by rw [HE.out]; exact HB.out), rfl⟩
        case measure => omega
      · have HE := Lib.hid (tx_yes hb)
        rw [hb] at CH
        have CI := itoa_any k hk w
        have HD := Lib.hid (tl_dg k)
        have g1 : ¬ 9223372036854775807 < sb.size + (dg k).size := by rw [size_dg]; omega
        generalize dg k = x at *
        clear hb hsz
        go_wp2_with (first | (go_at_call 18; refine CH.mono ?_; rintro e w' ⟨rfl, rfl⟩) | (go_at_call 31; refine CI.mono ?_; rintro e w' ⟨rfl, rfl⟩))
        go_roundg (gk - 1)
        case rel => exact ⟨k + 1, _, by omega, by go_num, rfl, Lib.hid (by rw [HE.out, tl_app, HB.out, HD.out]), rfl⟩
        case measure => omega
    · obtain rfl : k = 4 := by omega
      cases he : (sb.toList == [])
      · have HF := Lib.hid (of_tl (HB.out.trans (HS.out (by rw [← HB.out]; rw [ByteArray.toList_eq] at he; exact beq_eq_false_iff_ne.1 he)).symm))
        go_wp2
        go_ret
        exact ⟨ret_str HF.out, rfl⟩
      · have HF := Lib.hid (HN.out (by rw [← HB.out]; rw [ByteArray.toList_eq] at he; exact beq_iff_eq.1 he))
        go_wp2
        go_ret
        exact ⟨ret_str (by rw [HF.out]), rfl⟩

/-- A byte's slice as a text. -/
theorem one_text (W : World) (x : Int) (c : UInt8) (hx : x = (c.toNat : Int)) :
    (convert 33 9 (.slice (some ⟨W.heap.size, 0, none⟩) 1 1)).run Tryd.prog (W.alloc (.cells #[.int .u8 x] 5)) = .ok (.string ⟨#[c]⟩) (W.alloc (.cells #[.int .u8 x] 5)) := by
  subst hx
  exact run_convert_bytes_back (P := Tryd.prog) (W.alloc (.cells #[.int .u8 (c.toNat : Int)] 5)) 33 9 5 ⟨W.heap.size, 0, none⟩ 1 [c] Tryd.underlying33 Tryd.underlying5 Tryd.underlying9 (fun j hj => by
    obtain rfl : j = 0 := by simpa using hj
    exact VRow.cell (VRow.new W [.int .u8 (c.toNat : Int)] 5) 0 rfl)

set_option maxHeartbeats 1600000 in
theorem rchannels_any (m : Int) (w : World) :
    Calls Tryd.prog 25 #[.int .i64 m] w fun e w' => e = .returned (.string ⟨(chn m).toArray⟩) ∧ Below w.heap.size w w' := by
  have HN := Lib.hid (fun h => chn_none (m := m) h)
  have HS := Lib.hid (fun h => chn_some (m := m) h)
  generalize chn m = c at *
  go_enter Tryd.func25, Tryd.ntmps25
  go_wp2
  go_loopg [3, 4, 5] 4 (fun gg s3 s4 _ wr => ∃ (k : Nat) (sb : ByteArray), k + gg = 4 ∧ s4 = .int .i64 k ∧ s3 = .string sb ∧ Hid (tl sb = tx m k) ∧ Hid (Below w.heap.size w wr))
  case atStart => exact ⟨0, ⟨#[]⟩, by omega, rfl, rfl, Lib.hid rfl, Lib.hid (Below.refl _ _)⟩
  case round =>
    obtain ⟨k, sb, hkg, rfl, rfl, HB, B⟩ := hrel
    by_cases hk : k < 4
    · have hsz : sb.size ≤ 4 := by
        have h1 := tx_len m k
        rw [← HB.out] at h1; unfold tl at h1; simp at h1; omega
      have g1 : ¬ 9223372036854775807 < sb.size + 1 := by omega
      clear hsz
      have CH := fun W => rhas_any m k W
      obtain ⟨q, hq⟩ : ∃ q, q = k + 1 := ⟨_, rfl⟩
      have HY := Lib.hid (fun h : has m (k : Int) = true => show tx m q = tx m k ++ [UInt8.ofNat (48 + k)] from hq ▸ tx_yes h)
      have HZ := Lib.hid (fun h : has m (k : Int) = false => show tx m q = tx m k from hq ▸ tx_no h)
      have hki : k ∈ [0, 1, 2, 3] := by simp; omega
      simp only [List.mem_cons, List.mem_nil_iff, or_false] at hki
      cases hb : has m (k : Int)
      · have HE := Lib.hid (HZ.out hb)
        rw [hb] at CH
        clear HY HZ hb
        rcases hki with rfl | rfl | rfl | rfl
        all_goals
          go_wp2_with (go_at_call 21; refine (CH _).mono ?_; rintro e w' ⟨rfl, rfl⟩)
          go_roundg (gk - 1)
          case rel => exact ⟨q, sb, by omega, by rw [hq]; rfl, rfl, Lib.hid (by rw [HE.out]; exact HB.out), B⟩
          case measure => omega
      · have HE := Lib.hid (HY.out hb)
        rw [hb] at CH
        clear HY HZ hb
        rcases hki with rfl | rfl | rfl | rfl
        · have hst := one_text wr 48 48 rfl
          go_wp2_with (go_at_call 21; refine (CH _).mono ?_; rintro e w' ⟨rfl, rfl⟩)
          go_roundg (gk - 1)
          case rel => exact ⟨q, _, by omega, by rw [hq]; rfl, rfl, Lib.hid (by rw [HE.out, tl_app, HB.out]; rfl), Lib.hid (B.out.alloc B.out.size _)⟩
          case measure => omega
        · have hst := one_text wr 49 49 rfl
          go_wp2_with (go_at_call 21; refine (CH _).mono ?_; rintro e w' ⟨rfl, rfl⟩)
          go_roundg (gk - 1)
          case rel => exact ⟨q, _, by omega, by rw [hq]; rfl, rfl, Lib.hid (by rw [HE.out, tl_app, HB.out]; rfl), Lib.hid (B.out.alloc B.out.size _)⟩
          case measure => omega
        · have hst := one_text wr 50 50 rfl
          go_wp2_with (go_at_call 21; refine (CH _).mono ?_; rintro e w' ⟨rfl, rfl⟩)
          go_roundg (gk - 1)
          case rel => exact ⟨q, _, by omega, by rw [hq]; rfl, rfl, Lib.hid (by rw [HE.out, tl_app, HB.out]; rfl), Lib.hid (B.out.alloc B.out.size _)⟩
          case measure => omega
        · have hst := one_text wr 51 51 rfl
          go_wp2_with (go_at_call 21; refine (CH _).mono ?_; rintro e w' ⟨rfl, rfl⟩)
          go_roundg (gk - 1)
          case rel => exact ⟨q, _, by omega, by rw [hq]; rfl, rfl, Lib.hid (by rw [HE.out, tl_app, HB.out]; rfl), Lib.hid (B.out.alloc B.out.size _)⟩
          case measure => omega
    · obtain rfl : k = 4 := by omega
      cases he : (sb.toList == [])
      · have HF := Lib.hid (of_tl (HB.out.trans (HS.out (by rw [← HB.out]; rw [ByteArray.toList_eq] at he; exact beq_eq_false_iff_ne.1 he)).symm))
        go_wp2
        go_ret
        exact ⟨ret_str HF.out, B.out⟩
      · have HF := Lib.hid (HN.out (by rw [← HB.out]; rw [ByteArray.toList_eq] at he; exact beq_iff_eq.1 he))
        go_wp2
        go_ret
        exact ⟨ret_str (by rw [HF.out]), B.out⟩
end Ss
end Go.Proofs.YtdicmpniinjbpaaDoor
