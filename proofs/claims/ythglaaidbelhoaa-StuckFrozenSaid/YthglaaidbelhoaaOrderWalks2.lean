/-
  What Mid, Spread and Without of package order return, for every argument: contracts by walking the Go text. No conditions beyond the numbers' kinds and where the list lies.
-/
import Derived.Test.YthglaaidbelhoaaOrderWalks
import Derived.IntWalk
namespace Go.Proofs.Ythglaaidbelhoaa
open Go.ChangeShapes Go.WideShapes Go.ChangeAt Go.RowKit Go.Deep
namespace Od
open Fx

set_option maxHeartbeats 400000 in
theorem spread_any (a : Option Addr) (cap : Nat) (l : List Int) (w : World) (hl : l.length ≤ 9223372036854775807) (hb : IntsAt .i64 w a l) :
    Calls Try.prog 25 #[.slice a l.length cap] w fun e w' => e = .returned (.int .i64 (spread l)) ∧ Below w.heap.size w w' := by
  have C := sort_any a cap l w hl hb
  by_cases h1 : 1 ≤ (osort l).length
  · obtain ⟨hok, hv⟩ := spread_yes h1
    have hlen := osort_len_ok hok
    have h16 := ok_len hok
    have q0 := osort_sm hok rfl (show (osort l).getD 0 0 ∈ osort l by rw [getD_at _ _ h1]; exact List.getElem_mem _)
    have q1 := osort_sm hok rfl (show (osort l).getD ((osort l).length - 1) 0 ∈ osort l by rw [getD_at _ _ (by omega)]; exact List.getElem_mem _)
    unfold spreadOf at hv
    have HV := Lib.hid hv
    clear hv
    have hs16 : (osort l).length ≤ 16 := by omega
    clear hlen
    generalize osort l = s at *
    go_enter Try.func25, Try.ntmps25
    go_wp2_with fail
    refine C.mono ?_; rintro e w1 ⟨a1, c1, rfl, i1, b1⟩
    rcases i1 with hno | ⟨b, off, rfl, hc⟩
    · subst hno; simp at h1
    obtain ⟨m, hm⟩ : ∃ m, s.length = m + 1 := ⟨s.length - 1, by omega⟩
    have m15 : m ≤ 15 := by omega
    have c0 := hc 0 (by omega)
    have c9 := hc m (by omega)
    clear hc hs16 h1
    rw [hm] at HV q1 ⊢
    simp only [Nat.add_sub_cancel, Nat.add_zero] at c0 HV q1
    clear hm
    generalize s.getD 0 0 = x at *
    generalize s.getD m 0 = y at *
    have wm : IntKind.i64.wrap (m : Int) = m := IntWalk.i64_in _ (by omega)
    have m1 : (m : Int) < ((m + 1 : Nat) : Int) := by omega
    have m2 : (m : Int) < (m : Int) + 1 := by omega
    have m3 : 0 ≤ (m : Int) := by omega
    go_wp2
    go_quiet (fail)
    go_wp2
    go_ret
    exact ⟨ret_int HV.out.symm, below_drewN b1 _⟩
  · have hnil : osort l = [] := List.eq_nil_of_length_eq_zero (by omega)
    have HF := Lib.hid (spread_no hnil)
    rw [hnil] at C
    clear hnil
    go_enter Try.func25, Try.ntmps25
    go_wp2_with fail
    refine C.mono ?_; rintro e w1 ⟨a1, c1, rfl, i1, b1⟩
    go_wp2
    go_ret
    exact ⟨ret_int HF.out.symm, b1⟩

end Od
end Go.Proofs.Ythglaaidbelhoaa
