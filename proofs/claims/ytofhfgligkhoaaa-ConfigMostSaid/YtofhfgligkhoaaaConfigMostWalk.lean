/-
  The walk of the law ConfigMost: for every configuration and every rate it returns true, and writes nothing that was there. No conditions beyond the numbers' count.
-/
import Derived.Test.YtofhfgligkhoaaaConfigTellsWalk
namespace Go.Proofs.Ytofhfgligkhoaaa
open Go.ChangeShapes Go.WideShapes Go.ChangeAt Go.RowKit Go.Deep
namespace configMost
open Cf

set_option maxHeartbeats 6400000 in
theorem walk (c : List Int) (r : Int) (w : World) (hc : c.length = 21) (_w0 : ∀ n ∈ c, (Lit.int .i64 n).wf = true) (_w1 : (Lit.int .i64 r).wf = true) :
    Calls Try.prog 4 #[.agg (c.map (.int .i64)).toArray, .int .i64 r] w fun en w' => en = .returned (.bool true) ∧ Below w.heap.size w w' := by
  show Calls Try.prog 4 #[.agg (CA c), .int .i64 r] w _
  have T0 := Lib.hid (tl_start w c)
  have MO := fun W => most_any c r W hc
  have hM := room_in c r
  have CZ : ∀ e : Int, 0 ≤ e → ∀ W, Calls Try.prog 14 #[.agg (CA c), .int .i64 e, .int .i64 r] W fun en w' => en = .returned (.bool (decide (e ≤ room c r))) ∧ Below W.heap.size W w' :=
    fun e he W => (rcovers_any c e r W hc).mono fun en w' q => ⟨by rw [q.1, cov_room c e r he], q.2⟩
  generalize room c r = M at *
  by_cases hm : M < 0
  · have d0 : decide (M < 0) = true := by simpa using hm
    obtain rfl : M = -1 := by omega
    have C0 := CZ 0 (by decide)
    rw [show decide ((0 : Int) ≤ -1) = false from rfl] at C0
    clear CZ hM hm d0
    go_enter Try.func4, Try.ntmps4
    go_wp2_with (with_reducible show wpList _ _ _ (⟨some 6, _, _, _, _, _⟩ :: _) _ _; refine wpList_loadW rfl _ rfl w.heap.size c rfl T0.out.arg hc ?_)
    refine (MO _).mono ?_; rintro en w1 ⟨rfl, b1⟩
    have T1 := Lib.hid (T0.out.on b1)
    clear MO T0 b1
    go_wp2_with fail
    refine (alive_any _).mono ?_; rintro en w2 ⟨rfl, b2⟩
    have T2 := Lib.hid (T1.out.on b2)
    clear T1 b2
    go_wp2_with (with_reducible show wpList _ _ _ (⟨some 17, _, _, _, _, _⟩ :: _) _ _; refine wpList_loadW rfl _ rfl w.heap.size c rfl T2.out.arg hc ?_)
    refine (C0 _).mono ?_; rintro en w3 ⟨rfl, b3⟩
    go_wp2_with fail
    go_ret
    exact ⟨rfl, grow T2.out.below b3⟩
  · have d0 : decide (M < 0) = false := by simpa using hm
    have C1 := CZ M (by omega)
    have C2 := CZ (M + 1) (by omega)
    rw [show decide (M ≤ M) = true by simp] at C1
    rw [show decide (M + 1 ≤ M) = false by simp; omega] at C2
    have h1 : M + 1 ≤ 1073741825 := by omega
    have h0 : 0 ≤ M := by omega
    clear CZ hM hm
    go_enter Try.func4, Try.ntmps4
    go_wp2_with (with_reducible show wpList _ _ _ (⟨some 6, _, _, _, _, _⟩ :: _) _ _; refine wpList_loadW rfl _ rfl w.heap.size c rfl T0.out.arg hc ?_)
    refine (MO _).mono ?_; rintro en w1 ⟨rfl, b1⟩
    have T1 := Lib.hid (T0.out.on b1)
    clear MO T0 b1
    go_wp2_with fail
    refine (alive_any _).mono ?_; rintro en w2 ⟨rfl, b2⟩
    have T2 := Lib.hid (T1.out.on b2)
    clear T1 b2
    go_wp2_with (with_reducible show wpList _ _ _ (⟨some 24, _, _, _, _, _⟩ :: _) _ _; refine wpList_loadW rfl _ rfl w.heap.size c rfl T2.out.arg hc ?_)
    refine (C1 _).mono ?_; rintro en w3 ⟨rfl, b3⟩
    have T3 := Lib.hid (T2.out.on b3)
    clear T2 b3
    go_wp2_with (with_reducible show wpList _ _ _ (⟨some 30, _, _, _, _, _⟩ :: _) _ _; refine wpList_loadW rfl _ rfl w.heap.size c rfl T3.out.arg hc ?_)
    refine (C2 _).mono ?_; rintro en w4 ⟨rfl, b4⟩
    go_wp2_with fail
    go_ret
    exact ⟨rfl, grow T3.out.below b4⟩
end configMost
end Go.Proofs.Ytofhfgligkhoaaa
