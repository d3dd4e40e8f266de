/-
  The walk of the law VoteTells: for every rule, and every two lists, it returns true, and writes nothing that was there. No conditions.
-/
import Derived.Test.YtlaffeadgdebhaaVoteAlive
import Derived.Test.YtlaffeadgdebhaaVoteRef
namespace Go.Proofs.Ytlaffeadgdebhaa
open Go.ChangeShapes Go.WideShapes Go.ChangeAt Go.RowKit Go.Deep
namespace voteTells
open Fx Od Vo

set_option maxHeartbeats 1600000 in
theorem main (lo hi clip : Int) (a b : Option Addr) (ca cb : Nat) (V U : List Int) (w : World) (hV : IntsAt .i64 w a V) (hU : IntsAt .i64 w b U) (h1 : V.length ≤ 40) (h2 : U.length ≤ 40) :
    Calls Try.prog 3 #[.agg #[.int .i64 lo, .int .i64 hi, .int .i64 clip], .slice a V.length ca, .slice b U.length cb] w fun e w' => e = .returned (.bool true) ∧ Below w.heap.size w w' := by
  have HV := Lib.hid hV
  have HU := Lib.hid hU
  have d1 : decide ((40 : Int) < V.length) = false := by simp; omega
  have d2 : decide ((40 : Int) < U.length) = false := by simp; omega
  have g0 := Lib.hid (((Below.refl w.heap.size w).alloc (Nat.le_refl _) (.cells #[.int .i64 lo, .int .i64 hi, .int .i64 clip] 23)).alloc (by simp) (.cells #[.int .i64 lo, .int .i64 hi, .int .i64 clip] 26))
  have r0 := Lib.hid ((rul_new w lo hi clip 23).alloc (.cells #[.int .i64 lo, .int .i64 hi, .int .i64 clip] 26))
  have s0 := Lib.hid (show VRow ((w.alloc (.cells #[.int .i64 lo, .int .i64 hi, .int .i64 clip] 23)).alloc (.cells #[.int .i64 lo, .int .i64 hi, .int .i64 clip] 26)) (w.heap.size + 1) 26 (rul lo hi clip) from by
    have h := rul_new (w.alloc (.cells #[.int .i64 lo, .int .i64 hi, .int .i64 clip] 23)) lo hi clip 26
    rw [World.size_alloc] at h; exact h)
  have CV := fun W h h' => vote_any lo hi clip a b ca cb V U W (by omega) h h'
  have CR := fun W h h' => Vr.rvote_any lo hi clip a b ca cb V U W (by omega) (by omega) h h'
  have CA := fun W => vright_any lo hi clip W
  have CB := fun W => Vr.rright_any lo hi clip W
  generalize votv lo hi clip V U = v at *
  generalize votb lo hi clip V U = vb at *
  generalize rmay lo hi clip = rb at *
  clear hV hU h1 h2
  go_enter Try.func3, Try.ntmps3
  go_wp2_with fail
  refine (CV _ (HV.out.below g0.out) (HU.out.below g0.out)).mono ?_; rintro e w1 ⟨rfl, b1⟩
  have g1 := Lib.hid (grow g0.out b1); have r1 := Lib.hid (r0.out.below b1 r0.out.lt); have s1 := Lib.hid (s0.out.below b1 s0.out.lt); have cs := Vr.rul_cells s1.out
  clear b1 g0 r0 s0 CV
  go_wp2_with fail
  refine (CR _ (HV.out.below g1.out) (HU.out.below g1.out)).mono ?_; rintro e w2 ⟨rfl, b2⟩
  have g2 := Lib.hid (grow g1.out b2); have r2 := Lib.hid (r1.out.below b2 r1.out.lt); have s2 := Lib.hid (s1.out.below b2 s1.out.lt)
  clear b2 g1 r1 s1 cs CR
  have cr := rul_cells r2.out
  have ct := Vr.rul_cells s2.out
  have k0 := cell_regrown cr.1
  have k1 := cell_regrown cr.2.1
  have k2 := cell_regrown cr.2.2
  have k3 := cell_regrown ct.1
  have k4 := cell_regrown ct.2.1
  have k5 := cell_regrown ct.2.2
  have cA := reg_call (w := w2) (fun W _ => alive_any W)
  have cB := reg_call (w := w2) (fun W _ => CA W)
  have cC := reg_call (w := w2) (fun W _ => CB W)
  clear cr ct CA CB r2 s2
  go_wp2_with fail
  refine wp_region_quiet_below (by kernel_rfl) (by kernel_rfl) ?_
  repeat (go_big_quiet_step (first | exact cA _ _ | exact cB _ _ | exact cC _ _))
  refine wpQuiet_nil ?_
  intro _ hw'
  obtain ⟨⟨dq, osq⟩, hw''⟩ := hw'
  subst hw''
  go_wp2
  go_ret
  exact ⟨rfl, grow g2.out (below_regrown w2 dq osq)⟩

set_option maxHeartbeats 1600000 in
theorem walk (l : List Int) (a : Option Addr) (ca : Nat) (V : List Int) (b : Option Addr) (cb : Nat) (U : List Int) (w : World) (hl : l.length = 3) (_w0 : ∀ n ∈ l, (Lit.int .i64 n).wf = true)
    (m1 : V.length ≤ maxLen) (_c1 : V.length ≤ ca ∧ ca ≤ maxLen) (_z1 : ca * 8 ≤ 140737488351232) (_f1 : ∀ n ∈ V, (Lit.int .i64 n).wf = true) (hV : IntsAt .i64 w a V)
    (m2 : U.length ≤ maxLen) (_c2 : U.length ≤ cb ∧ cb ≤ maxLen) (_z2 : cb * 8 ≤ 140737488351232) (_f2 : ∀ n ∈ U, (Lit.int .i64 n).wf = true) (hU : IntsAt .i64 w b U) :
    Calls Try.prog 3 #[.agg (l.map (.int .i64)).toArray, .slice a V.length ca, .slice b U.length cb] w fun e w' => e = .returned (.bool true) ∧ Below w.heap.size w w' := by
  obtain ⟨lo, hi, clip, rfl⟩ := three hl
  show Calls Try.prog 3 #[.agg #[.int .i64 lo, .int .i64 hi, .int .i64 clip], .slice a V.length ca, .slice b U.length cb] w _
  unfold maxLen at m1 m2
  have g0 := Lib.hid ((Below.refl w.heap.size w).alloc (Nat.le_refl _) (.cells #[.int .i64 lo, .int .i64 hi, .int .i64 clip] 23))
  by_cases h1 : 40 < V.length
  · have e1 : (40 : Int) < V.length := by omega
    go_enter Try.func3, Try.ntmps3
    go_wp2_with fail
    refine (alive_any _).mono ?_; rintro e w1 ⟨rfl, b1⟩
    go_wp2
    go_ret
    exact ⟨rfl, grow g0.out b1⟩
  · have e1 : decide ((40 : Int) < V.length) = false := by simp; omega
    by_cases h2 : 40 < U.length
    · have e2 : (40 : Int) < U.length := by omega
      go_enter Try.func3, Try.ntmps3
      go_wp2_with fail
      refine (alive_any _).mono ?_; rintro e w1 ⟨rfl, b1⟩
      go_wp2
      go_ret
      exact ⟨rfl, grow g0.out b1⟩
    · exact main lo hi clip a b ca cb V U w hV hU (by omega) (by omega)
end voteTells
end Go.Proofs.Ytlaffeadgdebhaa
