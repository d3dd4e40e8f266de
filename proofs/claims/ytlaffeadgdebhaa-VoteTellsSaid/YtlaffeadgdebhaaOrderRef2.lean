/-
  What half, Mid, Without, Spread and Ints of the document's answers for layer 2 (package rudderref02) return: contracts by walking the Go text. No conditions beyond the numbers' kinds and where the lists lie.
-/
import Derived.Test.YtlaffeadgdebhaaOrderRef
namespace Go.Proofs.Ytlaffeadgdebhaa
open Go.ChangeShapes Go.WideShapes Go.ChangeAt Go.RowKit Go.Deep
namespace Od
open Fx

/-- Are two lists one? -/
def same (l r : List Int) : Bool := decide (l = r)
theorem same_self (l : List Int) : same l l = true := by unfold same; simp
theorem same_iff (l r : List Int) : same l r = true ↔ l = r := by unfold same; simp
theorem same_no {l r : List Int} (h : l ≠ r) : same l r = false := by unfold same; simpa using h
theorem same_step (l r : List Int) (k : Nat) (h : k < l.length) (h2 : k < r.length) (e : l.take k = r.take k) (hx : l.getD k 0 = r.getD k 0) : l.take (k + 1) = r.take (k + 1) := by
  rw [take_snoc l k h, take_snoc r k h2, e, hx]
theorem same_part (l r : List Int) (k : Nat) (hx : ¬ l.getD k 0 = r.getD k 0) : same l r = false := same_no (fun e => hx (by rw [e]))

set_option maxHeartbeats 400000 in
theorem half_any (a b : Int) (w : World) (h1 : -1099511627776 ≤ a ∧ a ≤ 1099511627776) (h2 : -1099511627776 ≤ b ∧ b ≤ 1099511627776) :
    Calls Try.prog 27 #[.int .i64 a, .int .i64 b] w fun e w' => e = .returned (.int .i64 ((a + b) / 2)) ∧ w = w' := by
  by_cases h : 0 ≤ a + b
  · go_enter Try.func27, Try.ntmps27
    go_wp2
    go_ret
    exact ⟨rfl, rfl⟩
  · have HF := Lib.hid (show -((1 - (a + b)) / 2) = (a + b) / 2 by omega)
    go_enter Try.func27, Try.ntmps27
    go_wp2
    go_ret
    exact ⟨ret_int HF.out, rfl⟩

set_option maxHeartbeats 1000000 in
theorem rmid_any (a : Option Addr) (cap : Nat) (l : List Int) (w : World) (hl : l.length ≤ 9223372036854775807) (hb : IntsAt .i64 w a l) :
    Calls Try.prog 16 #[.slice a l.length cap] w fun e w' => e = .returned (.tuple #[.int .i64 (midv l), .bool (midb l)]) ∧ Below w.heap.size w w' := by
  have D := rright_any a cap l w hl hb
  by_cases hn : ok l = true ∧ 1 ≤ l.length ∧ l.length ≤ 4
  · obtain ⟨hok, h1, h4⟩ := hn
    obtain ⟨s, hs⟩ : ∃ s, osort l = s := ⟨_, rfl⟩
    have HV := Lib.hid (midv_yes hok h1 (by omega) hs)
    have HM := Lib.hid (midb_yes hok h1 (by omega))
    have hlen := osort_len_ok hok
    have hsm := fun x (hx : x ∈ s) => osort_sm hok hs hx
    have d1 : decide ((l.length : Int) < 1) = false := by simp; omega
    have d2 : decide (4 < (l.length : Int)) = false := by simp; omega
    rw [hs] at hlen
    have C := rsort_any a cap l w hl hb
    rw [hs] at C
    rw [hok] at D
    clear hs
    rcases four (s := s) (by omega) (by omega) with ⟨x, rfl⟩ | ⟨x, y, rfl⟩ | ⟨x, y, z, rfl⟩ | ⟨x, y, z, u, rfl⟩
    · have q0 := hsm x (by simp)
      clear hsm hlen
      go_enter Try.func16, Try.ntmps16
      go_wp2_with fail
      refine D.mono ?_; rintro e w' ⟨rfl, rfl⟩
      go_wp2_with fail
      refine C.mono ?_; rintro e w1 ⟨a1, c1, rfl, i1, b1⟩
      rcases i1 with hno | ⟨b, off, rfl, hc⟩
      · cases hno
      have c0 : w1.cell? ⟨b, off, none⟩ = some (.int .i64 x) := hc 0 (by simp)
      clear hc
      go_wp2
      go_ret2
      exact ⟨ret_mid (by rw [HV.out]; simp [midOf]; try omega) HM.out.symm, b1⟩
    · have q0 := hsm x (by simp)
      have q1 := hsm y (by simp)
      clear hsm hlen
      go_enter Try.func16, Try.ntmps16
      go_wp2_with fail
      refine D.mono ?_; rintro e w' ⟨rfl, rfl⟩
      go_wp2_with fail
      refine C.mono ?_; rintro e w1 ⟨a1, c1, rfl, i1, b1⟩
      rcases i1 with hno | ⟨b, off, rfl, hc⟩
      · cases hno
      have c0 : w1.cell? ⟨b, off, none⟩ = some (.int .i64 x) := hc 0 (by simp)
      have c1 : w1.cell? ⟨b, off + 1, none⟩ = some (.int .i64 y) := hc 1 (by simp)
      clear hc
      go_wp2
      go_quiet ((go_at_call 27; exact still_quiet (fun W => half_any _ _ W (by omega) (by omega))))
      go_wp2
      go_ret2
      exact ⟨ret_mid (by rw [HV.out]; simp [midOf]; try omega) HM.out.symm, below_drewN b1 _⟩
    · have q0 := hsm x (by simp)
      have q1 := hsm y (by simp)
      have q2 := hsm z (by simp)
      clear hsm hlen
      go_enter Try.func16, Try.ntmps16
      go_wp2_with fail
      refine D.mono ?_; rintro e w' ⟨rfl, rfl⟩
      go_wp2_with fail
      refine C.mono ?_; rintro e w1 ⟨a1, c1, rfl, i1, b1⟩
      rcases i1 with hno | ⟨b, off, rfl, hc⟩
      · cases hno
      have c1 : w1.cell? ⟨b, off + 1, none⟩ = some (.int .i64 y) := hc 1 (by simp)
      clear hc
      go_wp2
      go_ret2
      exact ⟨ret_mid (by rw [HV.out]; simp [midOf]; try omega) HM.out.symm, b1⟩
    · have q0 := hsm x (by simp)
      have q1 := hsm y (by simp)
      have q2 := hsm z (by simp)
      have q3 := hsm u (by simp)
      clear hsm hlen
      go_enter Try.func16, Try.ntmps16
      go_wp2_with fail
      refine D.mono ?_; rintro e w' ⟨rfl, rfl⟩
      go_wp2_with fail
      refine C.mono ?_; rintro e w1 ⟨a1, c1, rfl, i1, b1⟩
      rcases i1 with hno | ⟨b, off, rfl, hc⟩
      · cases hno
      have c1 : w1.cell? ⟨b, off + 1, none⟩ = some (.int .i64 y) := hc 1 (by simp)
      have c2 : w1.cell? ⟨b, off + 2, none⟩ = some (.int .i64 z) := hc 2 (by simp)
      clear hc
      go_wp2
      go_quiet ((go_at_call 27; exact still_quiet (fun W => half_any _ _ W (by omega) (by omega))))
      go_wp2
      go_ret2
      exact ⟨ret_mid (by rw [HV.out]; simp [midOf]; try omega) HM.out.symm, below_drewN b1 _⟩
  · have HF := Lib.hid (midb_no (l := l) (by cases h : ok l; exact Or.inl rfl; exact Or.inr (by simp only [h, true_and] at hn; omega)))
    cases hok : ok l
    · rw [hok] at D
      go_enter Try.func16, Try.ntmps16
      go_wp2_with fail
      refine D.mono ?_; rintro e w' ⟨rfl, rfl⟩
      go_wp2
      go_ret2
      exact ⟨ret_mid (midv_no HF.out).symm HF.out.symm, Below.refl _ _⟩
    · rw [hok] at D
      by_cases h1 : l.length < 1
      · have d1 : decide ((l.length : Int) < 1) = true := by simp; omega
        go_enter Try.func16, Try.ntmps16
        go_wp2_with fail
        refine D.mono ?_; rintro e w' ⟨rfl, rfl⟩
        go_wp2
        go_ret2
        exact ⟨ret_mid (midv_no HF.out).symm HF.out.symm, Below.refl _ _⟩
      · have d1 : decide ((l.length : Int) < 1) = false := by simp; omega
        have d2 : decide (4 < (l.length : Int)) = true := by simp; have : ¬ (1 ≤ l.length ∧ l.length ≤ 4) := fun q => hn ⟨hok, q⟩; omega
        go_enter Try.func16, Try.ntmps16
        go_wp2_with fail
        refine D.mono ?_; rintro e w' ⟨rfl, rfl⟩
        go_wp2
        go_ret2
        exact ⟨ret_mid (midv_no HF.out).symm HF.out.symm, Below.refl _ _⟩

end Od
end Go.Proofs.Ytlaffeadgdebhaa
