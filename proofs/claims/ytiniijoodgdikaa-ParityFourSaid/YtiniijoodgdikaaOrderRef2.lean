/-
  What half, Mid, Without, Spread and Ints of the document's answers for layer 2 (package rudderref02) return: contracts by walking the Go text. No conditions beyond the numbers' kinds and where the lists lie.
-/
import Derived.Test.YtiniijoodgdikaaOrderRef
namespace Go.Proofs.Ytiniijoodgdikaa
open Go.ChangeShapes Go.WideShapes Go.ChangeAt Go.RowKit Go.Deep
namespace Od
open Fx

/-- Are two lists one? -/
def same (l r : List Int) : Bool := decide (l = r)
theorem same_self (l : List Int) : same l l = true := by unfold same; simp
theorem same_iff (l r : List Int) : same l r = true ↔ l = r := by unfold same; simp
theorem same_no {l r : List Int} (h : l ≠ r) : same l r = false := by unfold same; simpa using h
theorem same_step (l r : List Int) (k : Nat) (h : k < l.length) (h2 : k < r.length) (e : l.take k = r.take k) (hx : l.getD k 0 = r.getD k 0) : l.take (k + 1) = r.take (k + 1) := by
  rw [take_snoc l k h, take_snoc r k h2, e, hx]
theorem same_part (l r : List Int) (k : Nat) (hx : ¬ l.getD k 0 = r.getD k 0) : same l r = false := same_no (fun e => hx (by rw [e]))

set_option maxHeartbeats 400000 in
theorem ints_any (a b : Option Addr) (ca cb : Nat) (l r : List Int) (w : World) (hl : l.length ≤ 9223372036854775807) (_hr : r.length ≤ 9223372036854775807) (ha : IntsAt .i64 w a l) (hb : IntsAt .i64 w b r) :
    Calls Try.prog 6 #[.slice a l.length ca, .slice b r.length cb] w fun e w' => e = .returned (.bool (same l r)) ∧ Below w.heap.size w w' := by
  by_cases hlen : l.length = r.length
  · have HL := Lib.hid hlen
    have h1 : l.length ≤ r.length := by omega
    have h2 : r.length ≤ l.length := by omega
    clear hlen
    have HA := Lib.hid ha
    have HB := Lib.hid hb
    clear ha hb
    have d0 : ((l.length : Int) != (r.length : Int)) = false := by rw [HL.out]; simp
    have d00 : ((l.length : Int) == (r.length : Int)) = true := by rw [HL.out]; simp
    go_enter Try.func6, Try.ntmps6
    go_wp2
    go_loopw [5] (fun i wx => ∃ k : Nat, k ≤ l.length ∧ i = .int .i64 k ∧ Hid (l.take k = r.take k) ∧ Hid (∃ n, wx = w.drewN n)) (fun i _ => l.length - (intOf i).toNat)
    case atStart => exact ⟨0, by omega, rfl, Lib.hid rfl, Lib.hid ⟨0, rfl⟩⟩
    case round =>
      obtain ⟨k, hk, rfl, HT, HW⟩ := hrel
      by_cases hlt : k < l.length
      · rcases HA.out with hnil | ⟨b1, o1, rfl, hc1⟩
        · rw [hnil] at hlt; simp at hlt
        rcases HB.out with hnil | ⟨b2, o2, rfl, hc2⟩
        · rw [hnil] at h1; simp at h1; rw [h1] at hlt; simp at hlt
        have hl1 : wr.cell? ⟨b1, o1 + k, none⟩ = some (.int .i64 (l.getD k 0)) := by obtain ⟨n, rfl⟩ := HW.out; exact hc1 k hlt
        have hl2 : wr.cell? ⟨b2, o2 + k, none⟩ = some (.int .i64 (r.getD k 0)) := by obtain ⟨n, rfl⟩ := HW.out; exact hc2 k (by omega)
        have hk1 : (k : Int) < (l.length : Int) := by omega
        have hk2 : (k : Int) < (r.length : Int) := by omega
        have hk3 : k < r.length := by omega
        clear hc1 hc2
        have HP := Lib.hid (same_part l r k)
        have HS := Lib.hid (same_step l r k hlt hk3 HT.out)
        generalize l.getD k 0 = x at *
        generalize r.getD k 0 = y at *
        by_cases hxy : x = y
        · subst hxy
          go_wp2
          go_quiet (fail)
          go_wp2
          go_roundw
          case rel => exact ⟨k + 1, by omega, by go_num, Lib.hid (HS.out trivial), by obtain ⟨n, rfl⟩ := HW.out; exact Lib.hid ⟨_, World.drewN_drewN _ _ _⟩⟩
          case measure => simp [intOf]; omega
        · have d1 : (x != y) = true := by simpa using hxy
          have d2 : (x == y) = false := by simpa using hxy
          go_wp2
          go_quiet (fail)
          go_wp2
          go_ret
          exact ⟨ret_bool (HP.out hxy).symm, by obtain ⟨n, rfl⟩ := HW.out; exact below_drewN (below_drewN (Below.refl _ _) _) _⟩
      · have : k = l.length := by omega
        subst this
        go_wp2
        go_ret
        exact ⟨ret_bool (by have := HT.out; rw [List.take_of_length_le (Nat.le_refl _), List.take_of_length_le h2] at this; rw [this, same_self]), by obtain ⟨n, rfl⟩ := HW.out; exact below_drewN (Below.refl _ _) _⟩
  · have HF := Lib.hid (same_no (l := l) (r := r) (fun e => hlen (by rw [e])))
    have d0 : ((l.length : Int) != (r.length : Int)) = true := by simp; omega
    have d00 : ((l.length : Int) == (r.length : Int)) = false := by simp; omega
    go_enter Try.func6, Try.ntmps6
    go_wp2
    go_ret
    exact ⟨ret_bool HF.out.symm, Below.refl _ _⟩

set_option maxHeartbeats 400000 in
theorem half_any (a b : Int) (w : World) (h1 : -1099511627776 ≤ a ∧ a ≤ 1099511627776) (h2 : -1099511627776 ≤ b ∧ b ≤ 1099511627776) :
    Calls Try.prog 21 #[.int .i64 a, .int .i64 b] w fun e w' => e = .returned (.int .i64 ((a + b) / 2)) ∧ w = w' := by
  by_cases h : 0 ≤ a + b
  · go_enter Try.func21, Try.ntmps21
    go_wp2
    go_ret
    exact ⟨rfl, rfl⟩
  · have HF := Lib.hid (show -((1 - (a + b)) / 2) = (a + b) / 2 by omega)
    go_enter Try.func21, Try.ntmps21
    go_wp2
    go_ret
    exact ⟨ret_int HF.out, rfl⟩

set_option maxHeartbeats 1000000 in
theorem rmid_any (a : Option Addr) (cap : Nat) (l : List Int) (w : World) (hl : l.length ≤ 9223372036854775807) (hb : IntsAt .i64 w a l) :
    Calls Try.prog 14 #[.slice a l.length cap] w fun e w' => e = .returned (.tuple #[.int .i64 (midv l), .bool (midb l)]) ∧ Below w.heap.size w w' := by
  have D := rright_any a cap l w hl hb
  by_cases hn : ok l = true ∧ 1 ≤ l.length ∧ l.length ≤ 4
  · obtain ⟨hok, h1, h4⟩ := hn
    obtain ⟨s, hs⟩ : ∃ s, osort l = s := ⟨_, rfl⟩
    have HV := Lib.hid (midv_yes hok h1 (by omega) hs)
    have HM := Lib.hid (midb_yes hok h1 (by omega))
    have hlen := osort_len_ok hok
    have hsm := fun x (hx : x ∈ s) => osort_sm hok hs hx
    have d1 : decide ((l.length : Int) < 1) = false := by simp; omega
    have d2 : decide (4 < (l.length : Int)) = false := by simp; omega
    rw [hs] at hlen
    have C := rsort_any a cap l w hl hb
    rw [hs] at C
    rw [hok] at D
    clear hs
    rcases four (s := s) (by omega) (by omega) with ⟨x, rfl⟩ | ⟨x, y, rfl⟩ | ⟨x, y, z, rfl⟩ | ⟨x, y, z, u, rfl⟩
    · have q0 := hsm x (by simp)
      clear hsm hlen
      go_enter Try.func14, Try.ntmps14
      go_wp2_with fail
      refine D.mono ?_; rintro e w' ⟨rfl, rfl⟩
      go_wp2_with fail
      refine C.mono ?_; rintro e w1 ⟨a1, c1, rfl, i1, b1⟩
      rcases i1 with hno | ⟨b, off, rfl, hc⟩
      · cases hno
      have c0 : w1.cell? ⟨b, off, none⟩ = some (.int .i64 x) := hc 0 (by simp)
      clear hc
      go_wp2
      go_ret2
      exact ⟨ret_mid (by rw [HV.out]; simp [midOf]; try omega) HM.out.symm, b1⟩
    · have q0 := hsm x (by simp)
      have q1 := hsm y (by simp)
      clear hsm hlen
      go_enter Try.func14, Try.ntmps14
      go_wp2_with fail
      refine D.mono ?_; rintro e w' ⟨rfl, rfl⟩
      go_wp2_with fail
      refine C.mono ?_; rintro e w1 ⟨a1, c1, rfl, i1, b1⟩
      rcases i1 with hno | ⟨b, off, rfl, hc⟩
      · cases hno
      have c0 : w1.cell? ⟨b, off, none⟩ = some (.int .i64 x) := hc 0 (by simp)
      have c1 : w1.cell? ⟨b, off + 1, none⟩ = some (.int .i64 y) := hc 1 (by simp)
      clear hc
      go_wp2
      go_quiet ((go_at_call 21; exact still_quiet (fun W => half_any _ _ W (by omega) (by omega))))
      go_wp2
      go_ret2
      exact ⟨ret_mid (by rw [HV.out]; simp [midOf]; try omega) HM.out.symm, below_drewN b1 _⟩
    · have q0 := hsm x (by simp)
      have q1 := hsm y (by simp)
      have q2 := hsm z (by simp)
      clear hsm hlen
      go_enter Try.func14, Try.ntmps14
      go_wp2_with fail
      refine D.mono ?_; rintro e w' ⟨rfl, rfl⟩
      go_wp2_with fail
      refine C.mono ?_; rintro e w1 ⟨a1, c1, rfl, i1, b1⟩
      rcases i1 with hno | ⟨b, off, rfl, hc⟩
      · cases hno
      have c1 : w1.cell? ⟨b, off + 1, none⟩ = some (.int .i64 y) := hc 1 (by simp)
      clear hc
      go_wp2
      go_ret2
      exact ⟨ret_mid (by rw [HV.out]; simp [midOf]; try omega) HM.out.symm, b1⟩
    · have q0 := hsm x (by simp)
      have q1 := hsm y (by simp)
      have q2 := hsm z (by simp)
      have q3 := hsm u (by simp)
      clear hsm hlen
      go_enter Try.func14, Try.ntmps14
      go_wp2_with fail
      refine D.mono ?_; rintro e w' ⟨rfl, rfl⟩
      go_wp2_with fail
      refine C.mono ?_; rintro e w1 ⟨a1, c1, rfl, i1, b1⟩
      rcases i1 with hno | ⟨b, off, rfl, hc⟩
      · cases hno
      have c1 : w1.cell? ⟨b, off + 1, none⟩ = some (.int .i64 y) := hc 1 (by simp)
      have c2 : w1.cell? ⟨b, off + 2, none⟩ = some (.int .i64 z) := hc 2 (by simp)
      clear hc
      go_wp2
      go_quiet ((go_at_call 21; exact still_quiet (fun W => half_any _ _ W (by omega) (by omega))))
      go_wp2
      go_ret2
      exact ⟨ret_mid (by rw [HV.out]; simp [midOf]; try omega) HM.out.symm, below_drewN b1 _⟩
  · have HF := Lib.hid (midb_no (l := l) (by cases h : ok l; exact Or.inl rfl; exact Or.inr (by simp only [h, true_and] at hn; omega)))
    cases hok : ok l
    · rw [hok] at D
      go_enter Try.func14, Try.ntmps14
      go_wp2_with fail
      refine D.mono ?_; rintro e w' ⟨rfl, rfl⟩
      go_wp2
      go_ret2
      exact ⟨ret_mid (midv_no HF.out).symm HF.out.symm, Below.refl _ _⟩
    · rw [hok] at D
      by_cases h1 : l.length < 1
      · have d1 : decide ((l.length : Int) < 1) = true := by simp; omega
        go_enter Try.func14, Try.ntmps14
        go_wp2_with fail
        refine D.mono ?_; rintro e w' ⟨rfl, rfl⟩
        go_wp2
        go_ret2
        exact ⟨ret_mid (midv_no HF.out).symm HF.out.symm, Below.refl _ _⟩
      · have d1 : decide ((l.length : Int) < 1) = false := by simp; omega
        have d2 : decide (4 < (l.length : Int)) = true := by simp; have : ¬ (1 ≤ l.length ∧ l.length ≤ 4) := fun q => hn ⟨hok, q⟩; omega
        go_enter Try.func14, Try.ntmps14
        go_wp2_with fail
        refine D.mono ?_; rintro e w' ⟨rfl, rfl⟩
        go_wp2
        go_ret2
        exact ⟨ret_mid (midv_no HF.out).symm HF.out.symm, Below.refl _ _⟩

set_option maxHeartbeats 800000 in
theorem rwithout_any (a : Option Addr) (cap : Nat) (l : List Int) (i : Int) (w : World) (hl : l.length ≤ 9223372036854775807) (hb : IntsAt .i64 w a l) :
    Calls Try.prog 15 #[.slice a l.length cap, .int .i64 i] w (RetI .i64 w (without l i)) := by
  have C := rright_any a cap l w hl hb
  cases hok : ok l
  · have HF := Lib.hid (without_no i hok)
    rw [hok] at C
    go_enter Try.func15, Try.ntmps15
    go_wp2_with (first | (go_at_call 19; refine C.mono ?_; rintro e w' ⟨rfl, rfl⟩))
    go_ret
    exact retI_nil HF.out (Below.refl _ _)
  · have HF := Lib.hid (without_yes i hok)
    have h16 := ok_len hok
    have HB := Lib.hid hb
    rw [hok] at C
    clear hb
    go_enter Try.func15, Try.ntmps15
    go_wp2_with (first | (go_at_call 19; refine C.mono ?_; rintro e w' ⟨rfl, rfl⟩))
    clear C
    go_loopg [6, 7] l.length (fun g s6 s7 wr => ∃ (k : Nat) (o : List Int), k + g = l.length ∧ s7 = .int .i64 k ∧ Hid (o = wo (l.take k) i) ∧ o.length ≤ k ∧ Hid (OwnI .i64 w.heap.size 3 wr s6 o) ∧ Hid (Below w.heap.size w wr))
    case atStart => exact ⟨0, [], by omega, rfl, Lib.hid (by unfold wo; simp), by simp, Lib.hid OwnI.nil, Lib.hid (Below.refl _ _)⟩
    case round =>
      obtain ⟨k, o, hkg, rfl, HO, hol, O1, B1⟩ := hrel
      by_cases hlt : k < l.length
      · rcases HB.out with hnil | ⟨b, off, rfl, hc⟩
        · rw [hnil] at hlt; simp at hlt
        have hcx := (B1.out.cell (p := ⟨b, off + k, none⟩) (cell_lt (hc k hlt))).trans (hc k hlt)
        clear hc
        have HX := Lib.hid (wo_take l i k hlt)
        generalize l.getD k 0 = x at *
        by_cases hki : (k : Int) = i
        · have HX2 := Lib.hid (show wo (l.take (k + 1)) i = o by rw [HX.out, if_pos hki, List.append_nil, ← HO.out])
          clear HX
          subst hki
          go_wp2
          go_roundg (gk - 1)
          case rel => exact ⟨k + 1, o, by omega, by go_num, Lib.hid HX2.out.symm, by omega, O1, B1⟩
          case measure => omega
        · have HX2 := Lib.hid (show wo (l.take (k + 1)) i = o ++ [x] by rw [HX.out, if_neg hki, ← HO.out])
          clear HX
          have d1 : ((k : Int) != i) = true := by simpa using hki
          have d2 : ((k : Int) == i) = false := by simpa using hki
          go_wp2_with (first | ((with_reducible show wpList _ _ _ (⟨some 27, _, _, _, _, _⟩ :: _) _ _); refine wpList_append1 rfl (.tmp 21) (.tmp 26) _ rfl .i64 w.heap.size 3 8 Try.underlying22 rintInfo _ o x _ rfl rfl O1.out (by omega) (by omega) w B1.out (Nat.le_refl _) ?_; intro v27 w27 O27' B27'; have O27 := Lib.hid O27'; have B27 := Lib.hid B27'; clear O27' B27'))
          go_roundg (gk - 1)
          case rel => exact ⟨k + 1, o ++ [x], by omega, by go_num, Lib.hid HX2.out.symm, by simp; omega, O27, B27⟩
          case measure => omega
      · have : k = l.length := by omega
        subst this
        obtain ⟨a2, c2, rfl, i2⟩ := O1.out.form
        have I2 := Lib.hid i2
        clear i2
        go_wp2
        go_ret
        exact retI_mk (by rw [HO.out, List.take_of_length_le (Nat.le_refl _)]; exact HF.out.symm) rfl I2.out B1.out
end Od
end Go.Proofs.Ytiniijoodgdikaa
