/-
  What the small calls of package signal return, and what trip and miss write: contracts by walking the Go text. Conditions: how a signal lies.
-/
import Derived.Test.YtpoededbmdffpaaGreatDoorSignalAll
import Derived.Test.YtpoededbmdffpaaGreatDoorTail
namespace Go.Proofs.YtpoededbmdffpaaGreatDoor
set_option maxRecDepth 100000
open Go.ChangeShapes Go.WideShapes Go.ChangeAt Go.RowKit Go.Deep
namespace Sg
open Cf (G CA)
theorem raw_row {W : World} {u g : Nat} {r : Nat → Rw} {sh : Int} {T : Nat → Int} {m : Int} (H : VRow W u 236 (tnr g r sh T m)) (i : Nat) (hi : i < 4) :
    Calls Tryz.prog 157 #[.pointer (some ⟨u, 0, none⟩), .int .i64 i] W fun e w' => e = .returned (.int .i64 (r i).n) ∧ W = w' := by
  have h1 : W.cell? ⟨u, 1 + i * 2 + 1, none⟩ = some (.int .i64 (r i).n) := by
    have : i = 0 ∨ i = 1 ∨ i = 2 ∨ i = 3 := by omega
    rcases this with rfl | rfl | rfl | rfl <;> exact H.cell _ rfl
  have hii : (i : Int) < 4 := by omega
  clear H
  generalize (r i).n = x at *
  go_enter Tryz.func157, Tryz.ntmps157
  go_wp2
  go_ret
  exact ⟨rfl, rfl⟩
theorem raw_any {W : World} {b : Nat → Nat} {c : List Int} {s : Si} {u : Nat} {r : Nat → Rw} {sh : Int} {T : Nat → Int} {m : Int} (H : Tn W b c s u r sh T m) (i : Nat) (hi : i < 4) :
    Calls Tryz.prog 157 #[.pointer (some ⟨u, 0, none⟩), .int .i64 i] W fun e w' => e = .returned (.int .i64 (r i).n) ∧ W = w' :=
  raw_row H.trn i hi
theorem number_any (i : Int) (W : World) : Calls Tryz.prog 170 #[.int .i64 i] W fun e w' => e = .returned (.int .i64 i) ∧ W = w' := by
  go_enter Tryz.func170, Tryz.ntmps170
  go_wp2
  go_ret
  exact ⟨rfl, rfl⟩
theorem weight_any {W : World} {b : Nat → Nat} {c : List Int} {s : Si} {u : Nat} {r : Nat → Rw} {sh : Int} {T : Nat → Int} {m : Int} (hc : c.length = 21) (H : Tn W b c s u r sh T m) (i : Nat) (hi : i < 4) :
    Calls Tryz.prog 167 #[.pointer (some ⟨u, 0, none⟩), .int .i64 i] W fun e w' => e = .returned (.int .i64 (G c (17 + i))) ∧ W = w' := by
  have h1 := H.sig
  have h2 := H.lie.cfg hc (17 + i) (by omega)
  have hii : (i : Int) < 4 := by omega
  clear H
  generalize G c (17 + i) = x at *
  generalize b 0 = g at *
  go_enter Tryz.func167, Tryz.ntmps167
  go_wp2
  go_ret
  exact ⟨rfl, rfl⟩
set_option maxHeartbeats 1600000 in
theorem even_any {W : World} {b : Nat → Nat} {c : List Int} {s : Si} {u : Nat} {r : Nat → Rw} {sh : Int} {T : Nat → Int} {m : Int} (hc : c.length = 21) (hR : Cf.Right c) (hO : Ok c s) (H : Tn W b c s u r sh T m) (i : Nat) (hi : i < NN c) (hv : Jp.val (r i).n = true) :
    Calls Tryz.prog 166 #[.pointer (some ⟨u, 0, none⟩), .int .i64 i] W fun e w' => e = .returned (.int .i64 ((r i).n - (s.ch i).off)) ∧ Below W.heap.size W w' := by
  have hN := NN_34 hR
  have h1 := H.sig
  obtain ⟨cap, h2⟩ := H.lie.row hc
  have h3 := H.lie.at hi
  have C := H.lie.chs i hi
  have h4 := C.own.cell 3 (v := .pointer (some ⟨tb b i, 0, none⟩)) rfl
  have CR := fun w (B : Below W.heap.size W w) => raw_any (H.on B) i (by omega)
  have CE := fun w (B : Below W.heap.size W w) => Ql.even_any (tb b i) (G c 10) (G c 11) (s.ch i).off (r i).n w (C.tr.below B C.tr.lt) (by
    have := (hO.ch i hi).off
    obtain ⟨-, -, -, -, -, -, -, -, -, -, h10, -⟩ := hR
    omega)
  rw [Ql.ev_yes hv, Ql.ee_yes hv] at CE
  have hki : (i : Int) < (NN c : Nat) := by omega
  have hii : (i : Int) < 4 := by omega
  have HF := Lib.hid (show (r i).n - (s.ch i).off = (r i).n - (s.ch i).off from rfl)
  clear C H hO hR hv
  generalize (r i).n - (s.ch i).off = z at *
  generalize (r i).n = x at *
  generalize (s.ch i).off = o at *
  generalize b 0 = g at *
  generalize b 2 = ar at *
  generalize xb b i = xx at *
  generalize tb b i = tt at *
  generalize NN c = N at *
  go_enter Tryz.func166, Tryz.ntmps166
  go_wp2_with fail
  have k1 := cell_regrown h1
  have k2 := cell_regrown h2
  have k3 := cell_regrown h3
  have k4 := cell_regrown h4
  have cR := reg_call (w := W) (fun w B => (CR w B).mono fun e w' q => ⟨q.1, q.2 ▸ Below.refl _ _⟩)
  have cE := reg_call (w := W) CE
  clear CR CE
  refine wp_region_quiet_below (by kernel_rfl) (by kernel_rfl) ?_
  repeat (go_big_quiet_step (first | exact cR _ _ | exact cE _ _))
  refine wpQuiet_nil ?_
  intro _ hw'
  obtain ⟨⟨dq, osq⟩, hw''⟩ := hw'
  subst hw''
  go_wp2
  go_ret
  exact ⟨rfl, below_regrown W dq osq⟩
/-- Is there such a channel? -/
def chan (c : List Int) (k : Int) : Bool := decide (0 ≤ k) && decide (k < NN c)
theorem has_any {W : World} {b : Nat → Nat} {c : List Int} {s : Si} (hc : c.length = 21) (H : Lie W b c s) (k : Int) :
    Calls Tryz.prog 98 #[.pointer (some ⟨b 0, 0, none⟩), .int .i64 k] W fun e w' => e = .returned (.bool (chan c k)) ∧ W = w' := by
  obtain ⟨cap, h2⟩ := H.row hc
  have HF := Lib.hid (show chan c k = (decide (0 ≤ k) && decide (k < NN c)) from rfl)
  clear H
  generalize chan c k = x at *
  generalize b 0 = g at *
  generalize b 2 = ar at *
  generalize NN c = N at *
  cases d1 : decide (0 ≤ k)
  · rw [d1, Bool.false_and] at HF
    go_enter Tryz.func98, Tryz.ntmps98
    go_wp2
    go_ret
    exact ⟨Fx.ret_bool HF.out.symm, rfl⟩
  · rw [d1, Bool.true_and] at HF
    cases d2 : decide (k < (N : Int))
    · rw [d2] at HF
      go_enter Tryz.func98, Tryz.ntmps98
      go_wp2
      go_ret
      exact ⟨Fx.ret_bool HF.out.symm, rfl⟩
    · rw [d2] at HF
      go_enter Tryz.func98, Tryz.ntmps98
      go_wp2
      go_ret
      exact ⟨Fx.ret_bool HF.out.symm, rfl⟩
theorem chan_yes {c : List Int} {k : Nat} (h : k < NN c) : chan c k = true := by unfold chan; simp; omega
theorem chan_no {c : List Int} {k : Int} (h : k < 0 ∨ (NN c : Int) ≤ k) : chan c k = false := by
  unfold chan
  rcases h with h | h
  · rw [decide_eq_false (show ¬ 0 ≤ k by omega)]; rfl
  · rw [decide_eq_false (show ¬ k < (NN c : Int) by omega)]; simp
end Sg
end Go.Proofs.YtpoededbmdffpaaGreatDoor
