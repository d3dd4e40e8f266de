/-
  What Mid, Spread and Without of package order return, for every argument: contracts by walking the Go text. No conditions beyond the numbers' kinds and where the list lies.
-/
import Derived.Test.YtpoededbmdffpaaGreatDoorOrderWalks
import Derived.IntWalk
namespace Go.Proofs.YtpoededbmdffpaaGreatDoor
set_option maxRecDepth 100000
open Go.ChangeShapes Go.WideShapes Go.ChangeAt Go.RowKit Go.Deep
namespace Od
open Fx
set_option maxHeartbeats 1000000 in
theorem mid_any (a : Option Addr) (cap : Nat) (l : List Int) (w : World) (hl : l.length ≤ 9223372036854775807) (hb : IntsAt .i64 w a l) :
    Calls Tryz.prog 162 #[.slice a l.length cap] w fun e w' => e = .returned (.tuple #[.int .i64 (midv l), .bool (midb l)]) ∧ Below w.heap.size w w' := by
  by_cases h4 : 4 < l.length
  · have HF := Lib.hid (midb_no (l := l) (Or.inr (Or.inr h4)))
    go_enter Tryz.func162, Tryz.ntmps162
    go_wp2
    go_ret2
    exact ⟨ret_mid (midv_no HF.out).symm HF.out.symm, Below.refl _ _⟩
  · obtain ⟨s, hs⟩ : ∃ s, osort l = s := ⟨_, rfl⟩
    by_cases hn : ok l = true ∧ 1 ≤ l.length
    · obtain ⟨hok, h1⟩ := hn
      have HV := Lib.hid (midv_yes hok h1 (by omega) hs)
      have HM := Lib.hid (midb_yes hok h1 (by omega))
      have hlen := osort_len_ok hok
      have hsm := fun x (hx : x ∈ s) => osort_sm hok hs hx
      rw [hs] at hlen
      have C := sort_any a cap l w hl hb
      rw [hs] at C
      clear hs
      rcases four (s := s) (by omega) (by omega) with ⟨x, rfl⟩ | ⟨x, y, rfl⟩ | ⟨x, y, z, rfl⟩ | ⟨x, y, z, u, rfl⟩
      · have q0 := hsm x (by simp)
        clear hsm hlen
        go_enter Tryz.func162, Tryz.ntmps162
        go_wp2_with fail
        refine C.mono ?_; rintro e w1 ⟨a1, c1, rfl, i1, b1⟩
        rcases i1 with hno | ⟨b, off, rfl, hc⟩
        · cases hno
        have c0 : w1.cell? ⟨b, off, none⟩ = some (.int .i64 x) := hc 0 (by simp)
        clear hc
        go_wp2
        go_quiet (fail)
        go_wp2
        go_ret2
        exact ⟨ret_mid (by rw [HV.out]; simp [midOf]; try omega) HM.out.symm, below_drewN b1 _⟩
      · have q0 := hsm x (by simp)
        have q1 := hsm y (by simp)
        clear hsm hlen
        go_enter Tryz.func162, Tryz.ntmps162
        go_wp2_with fail
        refine C.mono ?_; rintro e w1 ⟨a1, c1, rfl, i1, b1⟩
        rcases i1 with hno | ⟨b, off, rfl, hc⟩
        · cases hno
        have c0 : w1.cell? ⟨b, off, none⟩ = some (.int .i64 x) := hc 0 (by simp)
        have c1 : w1.cell? ⟨b, off + 1, none⟩ = some (.int .i64 y) := hc 1 (by simp)
        clear hc
        go_wp2
        go_quiet (fail)
        go_wp2
        go_ret2
        exact ⟨ret_mid (by rw [HV.out]; simp [midOf]; try omega) HM.out.symm, below_drewN b1 _⟩
      · have q0 := hsm x (by simp)
        have q1 := hsm y (by simp)
        have q2 := hsm z (by simp)
        clear hsm hlen
        go_enter Tryz.func162, Tryz.ntmps162
        go_wp2_with fail
        refine C.mono ?_; rintro e w1 ⟨a1, c1, rfl, i1, b1⟩
        rcases i1 with hno | ⟨b, off, rfl, hc⟩
        · cases hno
        have c1 : w1.cell? ⟨b, off + 1, none⟩ = some (.int .i64 y) := hc 1 (by simp)
        clear hc
        go_wp2
        go_quiet (fail)
        go_wp2
        go_ret2
        exact ⟨ret_mid (by rw [HV.out]; simp [midOf]; try omega) HM.out.symm, below_drewN b1 _⟩
      · have q0 := hsm x (by simp)
        have q1 := hsm y (by simp)
        have q2 := hsm z (by simp)
        clear hsm hlen
        go_enter Tryz.func162, Tryz.ntmps162
        go_wp2_with fail
        refine C.mono ?_; rintro e w1 ⟨a1, c1, rfl, i1, b1⟩
        rcases i1 with hno | ⟨b, off, rfl, hc⟩
        · cases hno
        have c1 : w1.cell? ⟨b, off + 1, none⟩ = some (.int .i64 y) := hc 1 (by simp)
        have c2 : w1.cell? ⟨b, off + 2, none⟩ = some (.int .i64 z) := hc 2 (by simp)
        clear hc
        go_wp2
        go_quiet (fail)
        go_wp2
        go_ret2
        exact ⟨ret_mid (by rw [HV.out]; simp [midOf]; try omega) HM.out.symm, below_drewN b1 _⟩
    · have HF := Lib.hid (midb_no (l := l) (by cases h : ok l; exact Or.inl rfl; exact Or.inr (Or.inl (by simp [h] at hn; simp [hn]))))
      have C := sort_any a cap l w hl hb
      have hnil : osort l = [] := by
        unfold osort
        split
        · rename_i h; apply List.eq_nil_of_length_eq_zero; rw [srt_len]; have : ¬ 1 ≤ l.length := fun h1 => hn ⟨h, h1⟩; omega
        · rfl
      rw [hnil] at C
      clear hnil hs
      go_enter Tryz.func162, Tryz.ntmps162
      go_wp2_with fail
      refine C.mono ?_; rintro e w1 ⟨a1, c1, rfl, i1, b1⟩
      go_wp2
      go_ret2
      exact ⟨ret_mid (midv_no HF.out).symm HF.out.symm, b1⟩
set_option maxHeartbeats 400000 in
theorem spread_any (a : Option Addr) (cap : Nat) (l : List Int) (w : World) (hl : l.length ≤ 9223372036854775807) (hb : IntsAt .i64 w a l) :
    Calls Tryz.prog 218 #[.slice a l.length cap] w fun e w' => e = .returned (.int .i64 (spread l)) ∧ Below w.heap.size w w' := by
  have C := sort_any a cap l w hl hb
  by_cases h1 : 1 ≤ (osort l).length
  · obtain ⟨hok, hv⟩ := spread_yes h1
    have hlen := osort_len_ok hok
    have h16 := ok_len hok
    have q0 := osort_sm hok rfl (show (osort l).getD 0 0 ∈ osort l by rw [getD_at _ _ h1]; exact List.getElem_mem _)
    have q1 := osort_sm hok rfl (show (osort l).getD ((osort l).length - 1) 0 ∈ osort l by rw [getD_at _ _ (by omega)]; exact List.getElem_mem _)
    unfold spreadOf at hv
    have HV := Lib.hid hv
    clear hv
    have hs16 : (osort l).length ≤ 16 := by omega
    clear hlen
    generalize osort l = s at *
    go_enter Tryz.func218, Tryz.ntmps218
    go_wp2_with fail
    refine C.mono ?_; rintro e w1 ⟨a1, c1, rfl, i1, b1⟩
    rcases i1 with hno | ⟨b, off, rfl, hc⟩
    · subst hno; simp at h1
    obtain ⟨m, hm⟩ : ∃ m, s.length = m + 1 := ⟨s.length - 1, by omega⟩
    have m15 : m ≤ 15 := by omega
    have c0 := hc 0 (by omega)
    have c9 := hc m (by omega)
    clear hc hs16 h1
    rw [hm] at HV q1 ⊢
    simp only [Nat.add_sub_cancel, Nat.add_zero] at c0 HV q1
    clear hm
    generalize s.getD 0 0 = x at *
    generalize s.getD m 0 = y at *
    have wm : IntKind.i64.wrap (m : Int) = m := IntWalk.i64_in _ (by omega)
    have m1 : (m : Int) < ((m + 1 : Nat) : Int) := by omega
    have m2 : (m : Int) < (m : Int) + 1 := by omega
    have m3 : 0 ≤ (m : Int) := by omega
    go_wp2
    go_quiet (fail)
    go_wp2
    go_ret
    exact ⟨ret_int HV.out.symm, below_drewN b1 _⟩
  · have hnil : osort l = [] := List.eq_nil_of_length_eq_zero (by omega)
    have HF := Lib.hid (spread_no hnil)
    rw [hnil] at C
    clear hnil
    go_enter Tryz.func218, Tryz.ntmps218
    go_wp2_with fail
    refine C.mono ?_; rintro e w1 ⟨a1, c1, rfl, i1, b1⟩
    go_wp2
    go_ret
    exact ⟨ret_int HF.out.symm, b1⟩
end Od
end Go.Proofs.YtpoededbmdffpaaGreatDoor
