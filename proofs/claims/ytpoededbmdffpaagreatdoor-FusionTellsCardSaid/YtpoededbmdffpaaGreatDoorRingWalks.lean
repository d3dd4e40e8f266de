/-
  What Right of package ring, and that of rudderref17, tell: contracts by walking the Go text. Condition, of the first: the table of trips lies in memory as the text lays it.
-/
import Derived.Test.YtpoededbmdffpaaGreatDoorRingMath
import Derived.Test.YtpoededbmdffpaaGreatDoorTripText
import Derived.Test.YtpoededbmdffpaaGreatDoorVBox
import Derived.Handy
import Derived.RegionTactic
import Derived.BigQuiet
namespace Go.Proofs.YtpoededbmdffpaaGreatDoor
set_option maxRecDepth 100000
open Go.ChangeShapes Go.WideShapes Go.ChangeAt Go.RowKit Go.Deep
namespace Rg
open Fx
def ntv (n : Nt) : Value := .agg #[.int .i64 n.y, .int .i64 n.c, .int .i64 n.s, .int .i64 n.k, .int .i64 n.t]
def ntr (n : Nt) : List Value := [.int .i64 n.y, .int .i64 n.c, .int .i64 n.s, .int .i64 n.k, .int .i64 n.t]
theorem nt_cells {w : World} {g : Nat} {t : TypeId} {n : Nt} (h : VRow w g t (ntr n)) : w.cell? ⟨g, 0, none⟩ = some (.int .i64 n.y) ∧ w.cell? ⟨g, 1, none⟩ = some (.int .i64 n.c) ∧ w.cell? ⟨g, 2, none⟩ = some (.int .i64 n.s) ∧ w.cell? ⟨g, 3, none⟩ = some (.int .i64 n.k) ∧ w.cell? ⟨g, 4, none⟩ = some (.int .i64 n.t) :=
  ⟨h.cell 0 rfl, h.cell 1 rfl, h.cell 2 rfl, h.cell 3 rfl, h.cell 4 rfl⟩
theorem ntr_one (n : Nt) : (ntr n).toArray.all (·.oneCell') = true := by simp [ntr, Value.oneCell']
theorem onB {w w' : World} {g : Nat} {t : TypeId} {cs : List Value} (h : VRow w g t cs) (b : Below w.heap.size w w') : VRow w' g t cs := h.below b h.lt
theorem onI {k : IntKind} {w w' : World} {g : Nat} {t : TypeId} {l : List Int} (h : IRow k w g t l) (b : Below w.heap.size w w') : IRow k w' g t l := h.below b h.lt
theorem sizeN : (Tryz.prog.info? 86).map (·.size) = some 5 := by kernel_rfl
theorem box_new (w : World) (n : Nt) (t : TypeId) : VRow (w.alloc (.cells #[.int .i64 n.y, .int .i64 n.c, .int .i64 n.s, .int .i64 n.k, .int .i64 n.t] t)) w.heap.size t (ntr n) := VRow.new w (ntr n) t
def bel (n e : Int) : Bool := decide (0 ≤ n) && decide (n < e)
theorem below_any (n e : Int) (w : World) :
    Calls Tryz.prog 176 #[.int .i64 n, .int .i64 e] w fun r w' => r = .returned (.bool (bel n e)) ∧ w = w' := by
  have HF := Lib.hid (show bel n e = (decide (0 ≤ n) && decide (n < e)) from rfl)
  generalize bel n e = x at *
  cases d : decide (0 ≤ n)
  · rw [d, Bool.false_and] at HF
    go_enter Tryz.func176, Tryz.ntmps176
    go_wp2
    go_ret
    exact ⟨ret_bool HF.out.symm, rfl⟩
  · rw [d, Bool.true_and] at HF
    go_enter Tryz.func176, Tryz.ntmps176
    go_wp2
    go_ret
    exact ⟨ret_bool HF.out.symm, rfl⟩
theorem mkd_empty (m : Int) : ((⟨(Tp.txt m).toArray⟩ : ByteArray).toList == []) = !mkd m := by
  rw [ByteArray.toList_eq]
  have h := txt_ne m
  have k := mkd_iff m
  cases e : mkd m
  · rw [e] at k
    have : Tp.txt m = [] := by
      by_cases q : Tp.txt m = []
      · exact q
      · exact absurd (k.2 (h.1 q)) (by simp)
    simp [this]
  · have := h.2 (k.1 e)
    simpa using this
theorem masked_any (m : Int) (w : World) (hT : Tp.TabAt w) :
    Calls Tryz.prog 177 #[.int .i64 m] w fun r w' => r = .returned (.bool (mkd m)) ∧ Below w.heap.size w w' := by
  have C := Tp.text_any m w hT
  have HE := Lib.hid (mkd_empty m)
  obtain ⟨x, hx⟩ : ∃ x : ByteArray, x = ⟨(Tp.txt m).toArray⟩ := ⟨_, rfl⟩
  rw [← hx] at C HE
  clear hx hT
  cases d : (x.toList == [])
  · rw [d] at HE
    go_enter Tryz.func177, Tryz.ntmps177
    go_wp2_with (go_at_call 212; refine C.mono ?_; rintro e w1 ⟨rfl, b1⟩)
    go_ret
    exact ⟨ret_bool (by have := HE.out; revert this; cases mkd m <;> simp), b1⟩
  · rw [d] at HE
    go_enter Tryz.func177, Tryz.ntmps177
    go_wp2_with (go_at_call 212; refine C.mono ?_; rintro e w1 ⟨rfl, b1⟩)
    go_ret
    exact ⟨ret_bool (by have := HE.out; revert this; cases mkd m <;> simp), b1⟩
theorem bel_eq (n e : Int) (x : Bool) (w : World) (h : bel n e = x) :
    Calls Tryz.prog 176 #[.int .i64 n, .int .i64 e] w fun r w' => r = .returned (.bool x) ∧ w = w' := by subst h; exact below_any n e w
theorem rgn_eq (n : Nt) : rgn n = (decide (0 ≤ n.y) && bel n.c 4 && bel n.s 8 && bel n.k 3 && mkd n.t) := by
  unfold rgn bel mkd
  rw [show decide (n.c < 4) = decide (n.c ≤ 3) from decide_eq_decide.2 (by omega), show decide (n.s < 8) = decide (n.s ≤ 7) from decide_eq_decide.2 (by omega), show decide (n.k < 3) = decide (n.k ≤ 2) from decide_eq_decide.2 (by omega)]
set_option maxHeartbeats 1600000 in
theorem right_any (n : Nt) (w : World) (hT : Tp.TabAt w) :
    Calls Tryz.prog 124 #[ntv n] w fun e w' => e = .returned (.bool (rgn n)) ∧ Below w.heap.size w w' := by
  have HF := Lib.hid (rgn_eq n)
  have B0 := Lib.hid ((Below.refl w.heap.size w).alloc (Nat.le_refl _) (.cells #[.int .i64 n.y, .int .i64 n.c, .int .i64 n.s, .int .i64 n.k, .int .i64 n.t] 86))
  have CM := masked_any n.t _ (hT.below B0.out)
  clear hT
  generalize rgn n = r at *
  obtain ⟨y, c, s, k, t⟩ := n
  unfold ntv
  dsimp only at *
  generalize mkd t = v5 at *
  cases d1 : decide (0 ≤ y)
  case false =>
    rw [d1] at HF
    go_enter Tryz.func124, Tryz.ntmps124
    go_wp2_with (first | (go_at_call 176; refine (bel_eq _ _ _ _ (by first | exact D2.out | exact D3.out | exact D4.out)).mono ?_; rintro e w' ⟨rfl, rfl⟩) | (go_at_call 177; refine CM.mono ?_; rintro e w5 ⟨rfl, b5⟩))
    go_ret
    exact ⟨ret_bool (by rw [HF.out]; simp), B0.out⟩
  cases d2 : bel c 4
  case false =>
    rw [d1, d2] at HF
    have D2 := Lib.hid d2
    clear d2
    go_enter Tryz.func124, Tryz.ntmps124
    go_wp2_with (first | (go_at_call 176; refine (bel_eq _ _ _ _ (by first | exact D2.out | exact D3.out | exact D4.out)).mono ?_; rintro e w' ⟨rfl, rfl⟩) | (go_at_call 177; refine CM.mono ?_; rintro e w5 ⟨rfl, b5⟩))
    go_ret
    exact ⟨ret_bool (by rw [HF.out]; simp), B0.out⟩
  cases d3 : bel s 8
  case false =>
    rw [d1, d2, d3] at HF
    have D2 := Lib.hid d2
    clear d2
    have D3 := Lib.hid d3
    clear d3
    go_enter Tryz.func124, Tryz.ntmps124
    go_wp2_with (first | (go_at_call 176; refine (bel_eq _ _ _ _ (by first | exact D2.out | exact D3.out | exact D4.out)).mono ?_; rintro e w' ⟨rfl, rfl⟩) | (go_at_call 177; refine CM.mono ?_; rintro e w5 ⟨rfl, b5⟩))
    go_ret
    exact ⟨ret_bool (by rw [HF.out]; simp), B0.out⟩
  cases d4 : bel k 3
  case false =>
    rw [d1, d2, d3, d4] at HF
    have D2 := Lib.hid d2
    clear d2
    have D3 := Lib.hid d3
    clear d3
    have D4 := Lib.hid d4
    clear d4
    go_enter Tryz.func124, Tryz.ntmps124
    go_wp2_with (first | (go_at_call 176; refine (bel_eq _ _ _ _ (by first | exact D2.out | exact D3.out | exact D4.out)).mono ?_; rintro e w' ⟨rfl, rfl⟩) | (go_at_call 177; refine CM.mono ?_; rintro e w5 ⟨rfl, b5⟩))
    go_ret
    exact ⟨ret_bool (by rw [HF.out]; simp), B0.out⟩
  rw [d1, d2, d3, d4] at HF
  have D2 := Lib.hid d2
  clear d2
  have D3 := Lib.hid d3
  clear d3
  have D4 := Lib.hid d4
  clear d4
  go_enter Tryz.func124, Tryz.ntmps124
  go_wp2_with (first | (go_at_call 176; refine (bel_eq _ _ _ _ (by first | exact D2.out | exact D3.out | exact D4.out)).mono ?_; rintro e w' ⟨rfl, rfl⟩) | (go_at_call 177; refine CM.mono ?_; rintro e w5 ⟨rfl, b5⟩))
  go_ret
  exact ⟨ret_bool (by rw [HF.out]; simp), grow B0.out b5⟩
end Rg
end Go.Proofs.YtpoededbmdffpaaGreatDoor
