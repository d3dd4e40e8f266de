/-
  The walk of the law JumpSmooth: for every step and all values it returns true, and writes nothing that was there. Its conditions: how the values lie.
-/
import Derived.Test.YtchbnaaglichkaaJumpAlive
import Derived.Test.YtchbnaaglichkaaMany
import Derived.Deep.LoopGhost
namespace Go.Proofs.Ytchbnaaglichkaa
open Go.ChangeShapes Go.WideShapes Go.ChangeAt Go.RowKit Go.Deep
namespace Jp
open Mn Kp

theorem in_trips {lo hi step last n : Int} {has : Bool} (h1 : lo ≤ n) (h2 : n ≤ hi) (h3 : has = true → n - last ≤ step ∧ last - n ≤ step) : trips lo hi step last has n = 0 := by
  unfold trips
  rw [if_neg (by unfold out; simp; omega), if_neg]
  · rfl
  · unfold far
    cases has
    · simp
    · have := h3 rfl; simp; omega
/-- A value in the range, not far from the one ahead: nothing trips. -/
theorem come_in (g : Nat) (step last : Int) (has : Bool) (n : Int) (w : World) (h1 : -100000 ≤ n) (h2 : n ≤ 100000) (h3 : has = true → n - last ≤ step ∧ last - n ≤ step) (hl : has = true → val last = true) (hs : 0 ≤ step) (hT : VRow w g 43 (wat (-100000) 100000 step last has)) :
    Calls Try.prog 11 #[.pointer (some ⟨g, 0, none⟩), .int .i64 n] w fun e w' => e = .returned (.tuple #[.int .i64 0, .int .i64 0]) ∧ VRow w' g 43 (wat (-100000) 100000 step n true) ∧ Only g w w' :=
  have hv : val n = true := (val_iff n).2 (by omega)
  come_is g _ _ step last has n w 0 0 n true (by rw [ct_yes hv]; exact in_trips h1 h2 h3) (ce_yes hv) (cl_yes hv) (ch_yes hv) hl hs hT
/-- One just outside it. -/
theorem come_out (g : Nat) (step last : Int) (has : Bool) (w : World) (x : Int) (hx : (2 + if far step last has 100001 = true then 4 else 0) = x) (hl : has = true → val last = true) (hs : 0 ≤ step) (hT : VRow w g 43 (wat (-100000) 100000 step last has)) :
    Calls Try.prog 11 #[.pointer (some ⟨g, 0, none⟩), .int .i64 100001] w fun e w' => e = .returned (.tuple #[.int .i64 x, .int .i64 0]) ∧ VRow w' g 43 (wat (-100000) 100000 step 100001 true) ∧ Only g w w' :=
  have hv : val 100001 = true := by decide
  come_is g _ _ step last has 100001 w x 0 100001 true (by rw [ct_yes hv, ← hx]; rfl) (ce_yes hv) (cl_yes hv) (ch_yes hv) hl hs hT
theorem far_again {step : Int} (hs : 0 ≤ step) (n : Int) : far step n true n = false := by unfold far; simp; omega
theorem tmod_step (n step : Int) (hs : 0 ≤ step) : -step ≤ n.tmod (step + 1) ∧ n.tmod (step + 1) ≤ step := by
  have h1 : (n.tmod (step + 1)).natAbs < (step + 1).natAbs := by
    rw [Int.natAbs_tmod]
    exact Nat.mod_lt _ (by omega)
  omega
end Jp
namespace jumpSmooth
open Jp Mn Kp
set_option maxRecDepth 100000 in
set_option maxHeartbeats 6400000 in
theorem walk (step : Int) (a : Option Addr) (cap : Nat) (ls : List (List Value)) (w : World) (_w0 : (Lit.int .u16 step).wf = true) (hm : ls.length ≤ cap) (hb : ManyAt w a [.bool, .int .i64] ls) :
    Calls Try.prog 4 #[.int .u16 step, .slice a ls.length cap] w fun e w' => e = .returned (.bool true) ∧ Below w.heap.size w w' := by
  have AL := fun W => alive_any W
  obtain ⟨hs0, hs1⟩ := u16_in _w0
  clear _w0
  by_cases hlen : 200 < ls.length
  · have d : decide (200 < (ls.length : Int)) = true := by simp; omega
    clear hb hlen
    generalize ls.length = m at *
    go_enter Try.func4, Try.ntmps4
    go_wp2_with fail
    refine (AL _).mono ?_; rintro e w2 ⟨rfl, b2⟩
    go_wp2
    go_ret
    exact ⟨rfl, b2⟩
  · have d : decide (200 < (ls.length : Int)) = false := by simp; omega
    have h200 : ls.length ≤ 200 := by omega
    have HS := Lib.hid hb
    clear hb hlen
    generalize hn : ls.length = m at *
    have HN := Lib.hid hn
    clear hn
    have CN := fun W => new_yes (-100000) 100000 step W ((may_iff _ _ _).2 ⟨by decide, by decide, by decide, by omega, by omega⟩)
    go_enter Try.func4, Try.ntmps4
    go_wp2_with fail
    refine (CN _).mono ?_; rintro e w1 ⟨rfl, hw1⟩
    have K1 := Lib.hid (hw1 ▸ kept_new w w (wat (-100000) 100000 step 0 false) 43 (Below.refl _ _))
    clear hw1 CN
    generalize w.heap.size = g at K1 ⊢
    go_wp2_with fail
    go_loopg [7, 8, 9] m (fun gg s7 s8 s9 wr => ∃ (k : Nat) (at_ last : Int) (has : Bool), k + gg = m ∧ s7 = .int .i64 at_ ∧ s8 = .bool (!has) ∧ s9 = .int .i64 k ∧ -100000 ≤ at_ ∧ at_ ≤ 100000 ∧ (has = true → last = at_) ∧ Hid (Kept w wr g 43 (wat (-100000) 100000 step last has)))
    case atStart => exact ⟨0, 0, 0, false, by omega, rfl, rfl, rfl, by decide, by decide, fun h => by (cases h), K1⟩
    case round =>
      obtain ⟨k, at_, last, has, hk, rfl, rfl, rfl, ha0, ha1, hla, K⟩ := hrel
      have hval : has = true → val last = true := fun h => (val_iff _).2 (by have := hla h; omega)
      clear K1
      by_cases hlt : k < m
      · have hli : (k : Int) < m := by omega
        obtain ⟨b, off, rfl, hat⟩ := HS.out.some (by have := HN.out; omega)
        have hlt' : k < ls.length := by have := HN.out; omega
        obtain ⟨r, hr⟩ : ∃ r, ls[k]? = some r := ⟨_, List.getElem?_eq_getElem hlt'⟩
        have hok := (show RowOk w b (off + k * 2) [.bool, .int .i64] r from hat k r hr)
        obtain ⟨_, _, _, e0, e1, ⟨is, rfl⟩, n, rfl, hwf⟩ := hok.two
        obtain ⟨hw0, hw1⟩ := i64_in hwf
        have c0 := (K.out.below.cell (p := ⟨b, off + k * 2, none⟩) (cell_lt e0)).trans e0
        have c1 := (K.out.below.cell (p := ⟨b, off + k * 2 + 1, none⟩) (cell_lt e1)).trans e1
        clear hat hr hok e0 e1 hlt' hwf
        cases is
        · have hby := tmod_step n step hs0
          have hnz : step + 1 ≠ 0 := by omega
          cases q1 : decide (100000 < at_ + n.tmod (step + 1))
          · cases q2 : decide (at_ + n.tmod (step + 1) < -100000)
            · have hA : -100000 ≤ at_ + n.tmod (step + 1) ∧ at_ + n.tmod (step + 1) ≤ 100000 := by clear hw0 hw1; simp at q1 q2; omega
              have hvA : val (at_ + n.tmod (step + 1)) = true := (val_iff _).2 (by omega)
              have C1 := fun W h => come_in g step last has (at_ + n.tmod (step + 1)) W hA.1 hA.2 (fun hh => by have := hla hh; omega) hval hs0 h
              have C2 := fun W h => come_in g step (at_ + n.tmod (step + 1)) true (at_ + n.tmod (step + 1)) W hA.1 hA.2 (fun _ => by omega) (fun _ => hvA) hs0 h
              go_wp2_with fail
              refine (C1 _ K.out.row).mono ?_; rintro e w1 ⟨rfl, t1, o1⟩
              have K2 := Lib.hid (K.out.take o1 t1)
              clear K t1 o1 C1 c0 c1
              go_wp2_with fail
              refine (C2 _ K2.out.row).mono ?_; rintro e w2 ⟨rfl, t2, o2⟩
              have K3 := Lib.hid (K2.out.take o2 t2)
              clear K2 t2 o2 C2
              go_wp2
              go_roundg (gk - 1)
              case rel => exact ⟨k + 1, at_ + n.tmod (step + 1), at_ + n.tmod (step + 1), true, by omega, by go_num, rfl, by go_num, hA.1, hA.2, fun _ => rfl, K3⟩
              case measure => omega
            · have hA : -100000 ≤ at_ ∧ at_ ≤ 100000 := by omega
              have hvA : val (at_) = true := (val_iff _).2 (by omega)
              have C1 := fun W h => come_in g step last has (at_) W hA.1 hA.2 (fun hh => by have := hla hh; omega) hval hs0 h
              have C2 := fun W h => come_in g step (at_) true (at_) W hA.1 hA.2 (fun _ => by omega) (fun _ => hvA) hs0 h
              go_wp2_with fail
              refine (C1 _ K.out.row).mono ?_; rintro e w1 ⟨rfl, t1, o1⟩
              have K2 := Lib.hid (K.out.take o1 t1)
              clear K t1 o1 C1 c0 c1
              go_wp2_with fail
              refine (C2 _ K2.out.row).mono ?_; rintro e w2 ⟨rfl, t2, o2⟩
              have K3 := Lib.hid (K2.out.take o2 t2)
              clear K2 t2 o2 C2
              go_wp2
              go_roundg (gk - 1)
              case rel => exact ⟨k + 1, at_, at_, true, by omega, by go_num, rfl, by go_num, hA.1, hA.2, fun _ => rfl, K3⟩
              case measure => omega
          · have hA : -100000 ≤ at_ ∧ at_ ≤ 100000 := by omega
            have hvA : val (at_) = true := (val_iff _).2 (by omega)
            have C1 := fun W h => come_in g step last has (at_) W hA.1 hA.2 (fun hh => by have := hla hh; omega) hval hs0 h
            have C2 := fun W h => come_in g step (at_) true (at_) W hA.1 hA.2 (fun _ => by omega) (fun _ => hvA) hs0 h
            go_wp2_with fail
            refine (C1 _ K.out.row).mono ?_; rintro e w1 ⟨rfl, t1, o1⟩
            have K2 := Lib.hid (K.out.take o1 t1)
            clear K t1 o1 C1 c0 c1
            go_wp2_with fail
            refine (C2 _ K2.out.row).mono ?_; rintro e w2 ⟨rfl, t2, o2⟩
            have K3 := Lib.hid (K2.out.take o2 t2)
            clear K2 t2 o2 C2
            go_wp2
            go_roundg (gk - 1)
            case rel => exact ⟨k + 1, at_, at_, true, by omega, by go_num, rfl, by go_num, hA.1, hA.2, fun _ => rfl, K3⟩
            case measure => omega
        · have CC := fun W h => miss_any g (-100000) 100000 step last has W h
          clear c1
          go_wp2_with fail
          refine (CC _ K.out.row).mono ?_; rintro e w1 ⟨rfl, t1, o1⟩
          have K2 := Lib.hid (K.out.take o1 t1)
          clear K t1 o1 CC c0
          go_wp2
          go_roundg (gk - 1)
          case rel => exact ⟨k + 1, at_, 0, false, by omega, rfl, rfl, by go_num, ha0, ha1, fun h => by (cases h), K2⟩
          case measure => omega
      · obtain rfl : k = m := by omega
        obtain ⟨x, hx⟩ : ∃ x, (2 + if far step last has 100001 = true then (4 : Int) else 0) = x := ⟨_, rfl⟩
        have C1 := fun W h => come_out g step last has W x hx hval hs0 h
        have C2 := fun W h => come_out g step 100001 true W 2 (by rw [far_again hs0]; rfl) (fun _ => by decide) hs0 h
        have hx2 : x = if has = true ∧ step < 100001 - at_ then 6 else 2 := by
          rw [← hx]
          unfold far
          cases has
          · simp
          · have := hla rfl
            subst this
            by_cases q : step < 100001 - last
            · simp [q]
            · simp [q]; omega
        have HX := Lib.hid hx2
        clear hx hx2 HS
        go_wp2_with fail
        refine (C1 _ K.out.row).mono ?_; rintro e w1 ⟨rfl, t1, o1⟩
        have K2 := Lib.hid (K.out.take o1 t1)
        clear K t1 o1 C1
        go_wp2_with fail
        refine (C2 _ K2.out.row).mono ?_; rintro e w2 ⟨rfl, t2, o2⟩
        have K3 := Lib.hid (K2.out.take o2 t2)
        clear K2 t2 o2 C2 hla hval
        cases has
        · obtain rfl : x = 2 := by simpa using HX.out
          go_wp2_with fail
          refine (AL _).mono ?_; rintro e w3 ⟨rfl, b3⟩
          go_wp2
          go_ret
          exact ⟨rfl, grow K3.out.below b3⟩
        · cases q : decide (step < 100001 - at_)
          · obtain rfl : x = 2 := by simpa [show ¬ (step < 100001 - at_) by simpa using q] using HX.out
            clear HX
            go_wp2_with fail
            refine (AL _).mono ?_; rintro e w3 ⟨rfl, b3⟩
            go_wp2
            go_ret
            exact ⟨rfl, grow K3.out.below b3⟩
          · obtain rfl : x = 6 := by simpa [show step < 100001 - at_ by simpa using q] using HX.out
            clear HX
            go_wp2_with fail
            refine (AL _).mono ?_; rintro e w3 ⟨rfl, b3⟩
            go_wp2
            go_ret
            exact ⟨rfl, grow K3.out.below b3⟩
end jumpSmooth
end Go.Proofs.Ytchbnaaglichkaa
