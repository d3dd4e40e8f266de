/-
  What Figures of rudderref17 tells: a contract by walking the Go text. No conditions beyond the numbers' kinds.
-/
import Derived.Test.YtmfpoakefpephaaDoorRingWalks
import Derived.Laws.IdiomStrings
namespace Go.Proofs.YtmfpoakefpephaaDoor
open Go.ChangeShapes Go.WideShapes Go.ChangeAt Go.RowKit Go.Deep
namespace Rg
open Fx

def tl (s : ByteArray) : List UInt8 := s.data.toList
theorem tl_app (a b : ByteArray) : tl (a ++ b) = tl a ++ tl b := by unfold tl; simp
theorem tl_mk (l : List UInt8) : tl ⟨l.toArray⟩ = l := by unfold tl; simp
theorem of_tl {s : ByteArray} {l : List UInt8} (h : tl s = l) : s = ⟨l.toArray⟩ := bytes_inj (by rw [← h]; simp [tl])
theorem ret_str {a b : ByteArray} (h : a = b) : Ending.returned (.string a) = .returned (.string b) := by rw [h]
/-- A byte's slice as a text. -/
theorem one_text (W : World) (x : Int) (c : UInt8) (hx : x = (c.toNat : Int)) :
    (convert 48 9 (.slice (some ⟨W.heap.size, 0, none⟩) 1 1)).run Tryd.prog (W.alloc (.cells #[.int .u8 x] 5)) = .ok (.string ⟨#[c]⟩) (W.alloc (.cells #[.int .u8 x] 5)) := by
  subst hx
  exact run_convert_bytes_back (P := Tryd.prog) (W.alloc (.cells #[.int .u8 (c.toNat : Int)] 5)) 48 9 5 ⟨W.heap.size, 0, none⟩ 1 [c] Tryd.underlying48 Tryd.underlying5 Tryd.underlying9 (fun j hj => by
    obtain rfl : j = 0 := by simpa using hj
    exact VRow.cell (VRow.new W [.int .u8 (c.toNat : Int)] 5) 0 rfl)

theorem dec_len {n : Nat} (h : n < 9223372036854775808) : (Lib.decDigits n).length ≤ 21 := by
  rw [← itoa_nat]; exact Lib.itoa_length_le _ (by omega) (by omega)
set_option maxHeartbeats 1600000 in
theorem fig_any (n : Nat) : ∀ w : World, n < 9223372036854775808 →
    Calls Tryd.prog 22 #[.int .i64 n] w fun e w' => e = .returned (.string ⟨(Lib.decDigits n).toArray⟩) ∧ Below w.heap.size w w' := by
  induction n using Nat.strongRecOn with
  | _ n ih =>
    intro w hn
    obtain ⟨c, hc⟩ : ∃ c : UInt8, c = UInt8.ofNat (48 + n % 10) := ⟨_, rfl⟩
    have hst := one_text w (48 + (n : Int) % 10) c (by
      have := Nat.mod_lt n (show 0 < 10 by decide)
      rw [hc, UInt8.toNat_ofNat_of_lt' (show 48 + n % 10 < 256 by omega)]; omega)
    have B0 := Lib.hid ((Below.refl w.heap.size w).alloc (Nat.le_refl _) (.cells #[.int .u8 (48 + (n : Int) % 10)] 5))
    by_cases h : n < 10
    · have HX := Lib.hid (dec_small h)
      have HM := Lib.hid (show c = UInt8.ofNat (48 + n) by rw [hc, show n % 10 = n by omega])
      clear hc
      generalize Lib.decDigits n = x at *
      clear ih
      go_enter Tryd.func22, Tryd.ntmps22
      go_wp2
      go_ret
      exact ⟨ret_str (by rw [HX.out, HM.out]), B0.out⟩
    · have HX := dec_big h
      rw [← hc] at HX
      clear hc
      replace HX := Lib.hid HX
      have C := fun W => ih (n / 10) (by omega) W (by omega)
      have hl := dec_len (n := n / 10) (by omega)
      rw [show ((n / 10 : Nat) : Int) = (n : Int) / 10 by omega] at C
      obtain ⟨y, hy⟩ : ∃ y : ByteArray, y = ⟨(Lib.decDigits (n / 10)).toArray⟩ := ⟨_, rfl⟩
      have hs : y.size ≤ 21 := by rw [hy]; exact hl
      have HY := Lib.hid (show tl y = Lib.decDigits (n / 10) by rw [hy, tl_mk])
      rw [← hy] at C
      clear hy ih hl
      generalize Lib.decDigits (n / 10) = q at *
      generalize Lib.decDigits n = x at *
      have h10 : 10 ≤ (n : Int) := by omega
      go_enter Tryd.func22, Tryd.ntmps22
      go_wp2_with (go_at_call 22; refine (C _).mono ?_; rintro e w1 ⟨rfl, b1⟩)
      go_ret
      exact ⟨ret_str (of_tl (by rw [tl_app, HY.out, HX.out]; rfl)), grow B0.out b1⟩
end Rg
end Go.Proofs.YtmfpoakefpephaaDoor
