/-
  What the document's own answers for layer 7 (package rudderref07) return: contracts by walking the Go text. No conditions.
-/
import Derived.Test.YtchnnpaebggfdaaJConfigRows3
namespace Go.Proofs.Ytchnnpaebggfdaa
set_option maxRecDepth 100000
open Go.ChangeShapes Go.WideShapes Go.ChangeAt Go.RowKit Go.Deep
namespace Cf
theorem count_any (x : Int) (w : World) :
    Calls Try.prog 66 #[.int .i64 x] w fun e w' => e = .returned (.bool (decide (0 ≤ x) && decide (x ≤ 2147483647))) ∧ w = w' := by
  cases q0 : decide (0 ≤ x)
  · go_enter Try.func66, Try.ntmps66
    go_wp2
    go_ret
    exact ⟨rfl, rfl⟩
  · cases q1 : decide (x ≤ 2147483647)
    all_goals
      go_enter Try.func66, Try.ntmps66
      go_wp2
      go_ret
      exact ⟨rfl, rfl⟩
theorem small_any (x : Int) (w : World) :
    Calls Try.prog 65 #[.int .i64 x] w fun e w' => e = .returned (.bool (decide (-2147483648 ≤ x) && decide (x ≤ 2147483647))) ∧ w = w' := by
  cases q0 : decide (-2147483648 ≤ x)
  · go_enter Try.func65, Try.ntmps65
    go_wp2
    go_ret
    exact ⟨rfl, rfl⟩
  · cases q1 : decide (x ≤ 2147483647)
    all_goals
      go_enter Try.func65, Try.ntmps65
      go_wp2
      go_ret
      exact ⟨rfl, rfl⟩
theorem hit {c : List Int} {s : ByteArray} {k : Nat} (h : s = first ((rows c).drop k)) (hk : k < 19) (hf : fine (rowC c k) = false) : s = (rowC c k).name := by
  rw [h, fault_step c k hk, hf]; rfl
theorem pass {c : List Int} {s : ByteArray} {k : Nat} (h : s = first ((rows c).drop k)) (hk : k < 19) (hf : fine (rowC c k) = true) : s = first ((rows c).drop (k + 1)) := by
  rw [h, fault_step c k hk, hf]; rfl
theorem three (x lo hi : Int) : decide (x < lo) = true ∨ (decide (x < lo) = false ∧ decide (hi < x) = true) ∨ (decide (x < lo) = false ∧ decide (hi < x) = false) := by
  cases decide (x < lo) <;> cases decide (hi < x) <;> simp
theorem out1 {x lo hi : Int} (h : decide (x < lo) = true) : (decide (lo ≤ x) && decide (x ≤ hi)) = false := by simp at h ⊢; omega
theorem out2 {x lo hi : Int} (h : decide (hi < x) = true) : (decide (lo ≤ x) && decide (x ≤ hi)) = false := by simp at h ⊢; omega
theorem out3 {x lo hi : Int} (h : decide (x < lo) = false) (k : decide (hi < x) = false) : (decide (lo ≤ x) && decide (x ≤ hi)) = true := by simp at h k ⊢; omega
theorem hi_no {x y : Int} (q1 : (decide (-2147483648 ≤ x) && decide (x ≤ 2147483647)) = true) (q2 : (decide (-2147483648 ≤ y) && decide (y ≤ 2147483647)) = false) : (decide (x ≤ y) && decide (y ≤ 2147483647)) = false := by simp at q1 q2 ⊢; omega
theorem hi_low {x y : Int} (q2 : decide (y < x) = true) : (decide (x ≤ y) && decide (y ≤ 2147483647)) = false := by simp at q2 ⊢; omega
theorem hi_yes {x y : Int} (q1 : (decide (-2147483648 ≤ y) && decide (y ≤ 2147483647)) = true) (q2 : decide (y < x) = false) : (decide (x ≤ y) && decide (y ≤ 2147483647)) = true := by simp at q1 q2 ⊢; omega
/-- Whether the weight at place j may be. -/
def wok (c : List Int) (j : Nat) : Bool := if (j : Int) < G c 0 then decide (1 ≤ G c (17 + j)) && decide (G c (17 + j) ≤ 16) else G c (17 + j) == 0
theorem wok_in {c : List Int} {j : Nat} (h : (j : Int) < G c 0) : wok c j = (decide (1 ≤ G c (17 + j)) && decide (G c (17 + j) ≤ 16)) := by simp [wok, h]
theorem wok_out {c : List Int} {j : Nat} (h : ¬ (j : Int) < G c 0) : wok c j = (G c (17 + j) == 0) := by simp [wok, h]
def wbytes : ByteArray := ⟨#[87, 101, 105, 103, 104, 116, 115]⟩
theorem weights_rows (c : List Int) (hN : G c 0 = 3 ∨ G c 0 = 4) : first ((rows c).drop 17) = if (wok c 0 && (wok c 1 && (wok c 2 && wok c 3))) = true then ⟨#[]⟩ else wbytes := by
  have e : (rows c).drop 17 = [⟨⟨#[87, 101, 105, 103, 104, 116, 115]⟩, 1, 16, own c⟩, ⟨⟨#[87, 101, 105, 103, 104, 116, 115]⟩, 0, 0, others c⟩] := rfl
  have z (x : Int) : (decide (0 ≤ x) && decide (x ≤ 0)) = (x == 0) := by rw [Bool.eq_iff_iff]; simp; omega
  rw [e, first, first, first]
  rcases hN with h | h
  · have w0 := wok_in (c := c) (j := 0) (by omega)
    have w1 := wok_in (c := c) (j := 1) (by omega)
    have w2 := wok_in (c := c) (j := 2) (by omega)
    have w3 := wok_out (c := c) (j := 3) (by omega)
    have f1 : fine ⟨⟨#[87, 101, 105, 103, 104, 116, 115]⟩, 1, 16, own c⟩ = (wok c 0 && (wok c 1 && wok c 2)) := by rw [w0, w1, w2]; simp [fine, own, h, ok]
    have f2 : fine ⟨⟨#[87, 101, 105, 103, 104, 116, 115]⟩, 0, 0, others c⟩ = wok c 3 := by rw [w3, ← z]; simp [fine, others, h, ok]
    rw [f1, f2]
    cases wok c 0 <;> cases wok c 1 <;> cases wok c 2 <;> cases wok c 3 <;> rfl
  · have w0 := wok_in (c := c) (j := 0) (by omega)
    have w1 := wok_in (c := c) (j := 1) (by omega)
    have w2 := wok_in (c := c) (j := 2) (by omega)
    have w3 := wok_in (c := c) (j := 3) (by omega)
    have f1 : fine ⟨⟨#[87, 101, 105, 103, 104, 116, 115]⟩, 1, 16, own c⟩ = (wok c 0 && (wok c 1 && (wok c 2 && wok c 3))) := by rw [w0, w1, w2, w3]; simp [fine, own, h, ok]
    have f2 : fine ⟨⟨#[87, 101, 105, 103, 104, 116, 115]⟩, 0, 0, others c⟩ = true := by simp [fine, others, h]
    rw [f1, f2]
    cases wok c 0 <;> cases wok c 1 <;> cases wok c 2 <;> cases wok c 3 <;> rfl
theorem all_wok {c : List Int} (h : ∀ j, j < 4 → wok c j = true) : (wok c 0 && (wok c 1 && (wok c 2 && wok c 3))) = true := by simp [h]
theorem not_wok {c : List Int} {k : Nat} (hk : k < 4) (h : wok c k = false) : (wok c 0 && (wok c 1 && (wok c 2 && wok c 3))) = false := by
  obtain rfl | rfl | rfl | rfl : k = 0 ∨ k = 1 ∨ k = 2 ∨ k = 3 := by omega
  all_goals simp [h]
theorem wok_succ {c : List Int} {k : Nat} (h : ∀ j, j < k → wok c j = true) (hk : wok c k = true) : ∀ j, j < k + 1 → wok c j = true := by
  intro j hj
  by_cases e : j = k
  · rw [e]; exact hk
  · exact h j (by omega)
set_option maxHeartbeats 6400000 in
theorem rtail_any (c : List Int) (w : World) (hc : c.length = 21) (hN : G c 0 = 3 ∨ G c 0 = 4) :
    Calls Try.prog 67 #[.agg (CA c)] w fun e w' => e = .returned (.string (first ((rows c).drop 9))) ∧ Below w.heap.size w w' := by
  have B0 := Lib.hid (Box.new w c)
  have b0 := Lib.hid ((Below.refl w.heap.size w).alloc (Nat.le_refl _) (.cells (CA c) 24))
  generalize hs : first ((rows c).drop 9) = s
  have HT := Lib.hid hs.symm
  clear hs
  have y0 := B0.out.at hc 0 (by omega)
  have y9 := B0.out.at hc 9 (by omega)
  have F9 := Lib.hid (show fine (rowC c 9) = (decide (0 ≤ G c 9) && decide (G c 9 ≤ 2147483647)) by simp [fine, rowC, rows, ok])
  have y10 := B0.out.at hc 10 (by omega)
  have F10 := Lib.hid (show fine (rowC c 10) = (decide (0 ≤ G c 10) && decide (G c 10 ≤ 2147483647)) by simp [fine, rowC, rows, ok])
  have y11 := B0.out.at hc 11 (by omega)
  have F11 := Lib.hid (show fine (rowC c 11) = (decide (0 ≤ G c 11) && decide (G c 11 ≤ 8)) by simp [fine, rowC, rows, ok])
  have y12 := B0.out.at hc 12 (by omega)
  have F12 := Lib.hid (show fine (rowC c 12) = (decide (0 ≤ G c 12) && decide (G c 12 ≤ 2147483647)) by simp [fine, rowC, rows, ok])
  have y13 := B0.out.at hc 13 (by omega)
  have F13 := Lib.hid (show fine (rowC c 13) = (decide (1 ≤ G c 13) && decide (G c 13 ≤ 100)) by simp [fine, rowC, rows, ok])
  have y14 := B0.out.at hc 14 (by omega)
  have F14 := Lib.hid (show fine (rowC c 14) = (decide (1 ≤ G c 14) && decide (G c 14 ≤ 1000)) by simp [fine, rowC, rows, ok])
  have y15 := B0.out.at hc 15 (by omega)
  have F15 := Lib.hid (show fine (rowC c 15) = (decide (0 ≤ G c 15) && decide (G c 15 ≤ 10)) by simp [fine, rowC, rows, ok])
  have y16 := B0.out.at hc 16 (by omega)
  have F16 := Lib.hid (show fine (rowC c 16) = (decide (1 ≤ G c 16) && decide (G c 16 ≤ 8)) by simp [fine, rowC, rows, ok])
  have WK := Lib.hid (weights_rows c hN)
  have WI := Lib.hid (fun k => @wok_in c k)
  have WO := Lib.hid (fun k => @wok_out c k)
  generalize G c 0 = x0 at *
  generalize G c 9 = x9 at *
  generalize G c 10 = x10 at *
  generalize G c 11 = x11 at *
  generalize G c 12 = x12 at *
  generalize G c 13 = x13 at *
  generalize G c 14 = x14 at *
  generalize G c 15 = x15 at *
  generalize G c 16 = x16 at *
  go_enter Try.func67, Try.ntmps67
  go_wp2_with fail
  refine (count_any _ _).mono ?_; rintro e wq ⟨rfl, rfl⟩
  cases q9 : (decide (0 ≤ x9) && decide (x9 ≤ 2147483647))
  ·
    go_wp2_with fail
    go_ret
    exact ⟨by rw [hit HT.out (by decide) (by rw [F9.out]; exact q9)]; rfl, b0.out⟩
  have HT := Lib.hid (pass HT.out (by decide) (by rw [F9.out]; exact q9))
  go_wp2_with fail
  refine (count_any _ _).mono ?_; rintro e wq ⟨rfl, rfl⟩
  cases q10 : (decide (0 ≤ x10) && decide (x10 ≤ 2147483647))
  ·
    go_wp2_with fail
    go_ret
    exact ⟨by rw [hit HT.out (by decide) (by rw [F10.out]; exact q10)]; rfl, b0.out⟩
  have HT := Lib.hid (pass HT.out (by decide) (by rw [F10.out]; exact q10))
  rcases three x11 (0) (8) with p11 | ⟨p11, r11⟩ | ⟨p11, r11⟩
  ·
    go_wp2_with fail
    go_ret
    exact ⟨by rw [hit HT.out (by decide) (by rw [F11.out]; exact out1 p11)]; rfl, b0.out⟩
  ·
    go_wp2_with fail
    go_ret
    exact ⟨by rw [hit HT.out (by decide) (by rw [F11.out]; exact out2 r11)]; rfl, b0.out⟩
  have HT := Lib.hid (pass HT.out (by decide) (by rw [F11.out]; exact out3 p11 r11))
  go_wp2_with fail
  refine (count_any _ _).mono ?_; rintro e wq ⟨rfl, rfl⟩
  cases q12 : (decide (0 ≤ x12) && decide (x12 ≤ 2147483647))
  ·
    go_wp2_with fail
    go_ret
    exact ⟨by rw [hit HT.out (by decide) (by rw [F12.out]; exact q12)]; rfl, b0.out⟩
  have HT := Lib.hid (pass HT.out (by decide) (by rw [F12.out]; exact q12))
  rcases three x13 (1) (100) with p13 | ⟨p13, r13⟩ | ⟨p13, r13⟩
  ·
    go_wp2_with fail
    go_ret
    exact ⟨by rw [hit HT.out (by decide) (by rw [F13.out]; exact out1 p13)]; rfl, b0.out⟩
  ·
    go_wp2_with fail
    go_ret
    exact ⟨by rw [hit HT.out (by decide) (by rw [F13.out]; exact out2 r13)]; rfl, b0.out⟩
  have HT := Lib.hid (pass HT.out (by decide) (by rw [F13.out]; exact out3 p13 r13))
  rcases three x14 (1) (1000) with p14 | ⟨p14, r14⟩ | ⟨p14, r14⟩
  ·
    go_wp2_with fail
    go_ret
    exact ⟨by rw [hit HT.out (by decide) (by rw [F14.out]; exact out1 p14)]; rfl, b0.out⟩
  ·
    go_wp2_with fail
    go_ret
    exact ⟨by rw [hit HT.out (by decide) (by rw [F14.out]; exact out2 r14)]; rfl, b0.out⟩
  have HT := Lib.hid (pass HT.out (by decide) (by rw [F14.out]; exact out3 p14 r14))
  rcases three x15 (0) (10) with p15 | ⟨p15, r15⟩ | ⟨p15, r15⟩
  ·
    go_wp2_with fail
    go_ret
    exact ⟨by rw [hit HT.out (by decide) (by rw [F15.out]; exact out1 p15)]; rfl, b0.out⟩
  ·
    go_wp2_with fail
    go_ret
    exact ⟨by rw [hit HT.out (by decide) (by rw [F15.out]; exact out2 r15)]; rfl, b0.out⟩
  have HT := Lib.hid (pass HT.out (by decide) (by rw [F15.out]; exact out3 p15 r15))
  rcases three x16 (1) (8) with p16 | ⟨p16, r16⟩ | ⟨p16, r16⟩
  ·
    go_wp2_with fail
    go_ret
    exact ⟨by rw [hit HT.out (by decide) (by rw [F16.out]; exact out1 p16)]; rfl, b0.out⟩
  ·
    go_wp2_with fail
    go_ret
    exact ⟨by rw [hit HT.out (by decide) (by rw [F16.out]; exact out2 r16)]; rfl, b0.out⟩
  have HT := Lib.hid (pass HT.out (by decide) (by rw [F16.out]; exact out3 p16 r16))
  go_wp2_with fail
  go_loopg [3] 4 (fun gg s3 wx => ∃ k : Nat, k + gg = 4 ∧ s3 = .int .i64 k ∧ Hid (∀ j, j < k → wok c j = true) ∧ wx = w.alloc (.cells (CA c) 24))
  case atStart => exact ⟨0, rfl, rfl, Lib.hid (by intro j hj; omega), rfl⟩
  case round =>
    obtain ⟨k, hk, rfl, HW, rfl⟩ := hrel
    cases gk with
    | zero =>
      obtain rfl : k = 4 := by omega
      go_wp2_with fail
      go_ret
      exact ⟨by rw [HT.out, WK.out, all_wok HW.out]; rfl, b0.out⟩
    | succ g =>
      have hk4 : k < 4 := by omega
      have yk := B0.out.at hc (17 + k) (by omega)
      have WI := Lib.hid (WI.out k)
      have WO := Lib.hid (WO.out k)
      generalize G c (17 + k) = x at *
      cases dn : decide ((k : Int) < x0)
      · have hn : x0 ≤ k := by simp at dn; omega
        have dn' : decide (x0 ≤ (k : Int)) = true := by simp; omega
        cases dx : (x != 0)
        · have HO := Lib.hid (show wok c k = true by rw [WO.out (by simp at dn; omega)]; simpa using dx)
          clear hn
          go_wp2_with fail
          go_roundg g
          case rel => exact ⟨k + 1, by omega, by go_num, Lib.hid (wok_succ HW.out HO.out), rfl⟩
          case measure => omega
        · have HO := Lib.hid (show wok c k = false by rw [WO.out (by simp at dn; omega)]; simpa using dx)
          clear hn
          go_wp2_with fail
          go_ret
          exact ⟨by rw [HT.out, WK.out, not_wok hk4 HO.out]; rfl, b0.out⟩
      · have dn' : decide (x0 ≤ (k : Int)) = false := by simp at dn ⊢; omega
        rcases three x 1 16 with p | ⟨p, r⟩ | ⟨p, r⟩
        · have HO := Lib.hid (show wok c k = false by rw [WI.out (by simp at dn; omega)]; exact out1 p)
          go_wp2_with fail
          go_ret
          exact ⟨by rw [HT.out, WK.out, not_wok hk4 HO.out]; rfl, b0.out⟩
        · have HO := Lib.hid (show wok c k = false by rw [WI.out (by simp at dn; omega)]; exact out2 r)
          go_wp2_with fail
          go_ret
          exact ⟨by rw [HT.out, WK.out, not_wok hk4 HO.out]; rfl, b0.out⟩
        · have HO := Lib.hid (show wok c k = true by rw [WI.out (by simp at dn; omega)]; exact out3 p r)
          go_wp2_with fail
          go_roundg g
          case rel => exact ⟨k + 1, by omega, by go_num, Lib.hid (wok_succ HW.out HO.out), rfl⟩
          case measure => omega
set_option maxHeartbeats 6400000 in
theorem rfault_any (c : List Int) (w : World) (hc : c.length = 21) :
    Calls Try.prog 54 #[.agg (CA c)] w fun e w' => e = .returned (.string (fault c)) ∧ Below w.heap.size w w' := by
  have B0 := Lib.hid (Box.new w c)
  have b0 := Lib.hid ((Below.refl w.heap.size w).alloc (Nat.le_refl _) (.cells (CA c) 24))
  generalize hs : fault c = s
  have HT := Lib.hid (show s = first ((rows c).drop 0) by rw [← hs]; rfl)
  clear hs
  have y0 := B0.out.at hc 0 (by omega)
  have F0 := Lib.hid (show fine (rowC c 0) = (decide (3 ≤ G c 0) && decide (G c 0 ≤ 4)) by simp [fine, rowC, rows, ok])
  have y1 := B0.out.at hc 1 (by omega)
  have F1 := Lib.hid (show fine (rowC c 1) = (decide (-2147483648 ≤ G c 1) && decide (G c 1 ≤ 2147483647)) by simp [fine, rowC, rows, ok])
  have y2 := B0.out.at hc 2 (by omega)
  have F2 := Lib.hid (show fine (rowC c 2) = (decide (G c 1 ≤ G c 2) && decide (G c 2 ≤ 2147483647)) by simp [fine, rowC, rows, ok])
  have y3 := B0.out.at hc 3 (by omega)
  have F3 := Lib.hid (show fine (rowC c 3) = (decide (G c 1 ≤ G c 3) && decide (G c 3 ≤ G c 2)) by simp [fine, rowC, rows, ok])
  have y4 := B0.out.at hc 4 (by omega)
  have F4 := Lib.hid (show fine (rowC c 4) = (decide (0 ≤ G c 4) && decide (G c 4 ≤ 2147483647)) by simp [fine, rowC, rows, ok])
  have y5 := B0.out.at hc 5 (by omega)
  have F5 := Lib.hid (show fine (rowC c 5) = (decide (0 ≤ G c 5) && decide (G c 5 ≤ 2147483647)) by simp [fine, rowC, rows, ok])
  have y6 := B0.out.at hc 6 (by omega)
  have F6 := Lib.hid (show fine (rowC c 6) = (decide (2 ≤ G c 6) && decide (G c 6 ≤ 16)) by simp [fine, rowC, rows, ok])
  have y7 := B0.out.at hc 7 (by omega)
  have F7 := Lib.hid (show fine (rowC c 7) = (decide (0 ≤ G c 7) && decide (G c 7 ≤ 2147483647)) by simp [fine, rowC, rows, ok])
  have y8 := B0.out.at hc 8 (by omega)
  have F8 := Lib.hid (show fine (rowC c 8) = (decide (0 ≤ G c 8) && decide (G c 8 ≤ 8)) by simp [fine, rowC, rows, ok])
  have TA := fun W => rtail_any c W hc
  generalize G c 0 = x0 at *
  generalize G c 1 = x1 at *
  generalize G c 2 = x2 at *
  generalize G c 3 = x3 at *
  generalize G c 4 = x4 at *
  generalize G c 5 = x5 at *
  generalize G c 6 = x6 at *
  generalize G c 7 = x7 at *
  generalize G c 8 = x8 at *
  go_enter Try.func54, Try.ntmps54
  by_cases h0 : x0 = 3 ∨ x0 = 4
  · have TB := fun W => TA W h0
    have HT := Lib.hid (pass HT.out (by decide) (by rw [F0.out]; rcases h0 with rfl | rfl <;> rfl))
    have h0' : (x0 != 3) = false ∨ ((x0 != 3) = true ∧ (x0 != 4) = false) := by rcases h0 with rfl | rfl <;> simp
    clear TA h0
    rcases h0' with d0 | ⟨d0, d0'⟩
    all_goals
      go_wp2_with fail
      refine (small_any _ _).mono ?_; rintro e wq ⟨rfl, rfl⟩
      cases q1 : (decide (-2147483648 ≤ x1) && decide (x1 ≤ 2147483647))
      ·
        go_wp2_with fail
        go_ret
        exact ⟨by rw [hit HT.out (by decide) (by rw [F1.out]; exact q1)]; rfl, b0.out⟩
      have HT := Lib.hid (pass HT.out (by decide) (by rw [F1.out]; exact q1))
      go_wp2_with fail
      refine (small_any _ _).mono ?_; rintro e wq ⟨rfl, rfl⟩
      cases q2 : (decide (-2147483648 ≤ x2) && decide (x2 ≤ 2147483647))
      ·
        go_wp2_with fail
        go_ret
        exact ⟨by rw [hit HT.out (by decide) (by rw [F2.out]; exact hi_no q1 q2)]; rfl, b0.out⟩
      cases q2' : decide (x2 < x1)
      rotate_left
      ·
        go_wp2_with fail
        go_ret
        exact ⟨by rw [hit HT.out (by decide) (by rw [F2.out]; exact hi_low q2')]; rfl, b0.out⟩
      have HT := Lib.hid (pass HT.out (by decide) (by rw [F2.out]; exact hi_yes q2 q2'))
      rcases three x3 (x1) (x2) with p3 | ⟨p3, r3⟩ | ⟨p3, r3⟩
      ·
        go_wp2_with fail
        go_ret
        exact ⟨by rw [hit HT.out (by decide) (by rw [F3.out]; exact out1 p3)]; rfl, b0.out⟩
      ·
        go_wp2_with fail
        go_ret
        exact ⟨by rw [hit HT.out (by decide) (by rw [F3.out]; exact out2 r3)]; rfl, b0.out⟩
      have HT := Lib.hid (pass HT.out (by decide) (by rw [F3.out]; exact out3 p3 r3))
      go_wp2_with fail
      refine (count_any _ _).mono ?_; rintro e wq ⟨rfl, rfl⟩
      cases q4 : (decide (0 ≤ x4) && decide (x4 ≤ 2147483647))
      ·
        go_wp2_with fail
        go_ret
        exact ⟨by rw [hit HT.out (by decide) (by rw [F4.out]; exact q4)]; rfl, b0.out⟩
      have HT := Lib.hid (pass HT.out (by decide) (by rw [F4.out]; exact q4))
      go_wp2_with fail
      refine (count_any _ _).mono ?_; rintro e wq ⟨rfl, rfl⟩
      cases q5 : (decide (0 ≤ x5) && decide (x5 ≤ 2147483647))
      ·
        go_wp2_with fail
        go_ret
        exact ⟨by rw [hit HT.out (by decide) (by rw [F5.out]; exact q5)]; rfl, b0.out⟩
      have HT := Lib.hid (pass HT.out (by decide) (by rw [F5.out]; exact q5))
      rcases three x6 (2) (16) with p6 | ⟨p6, r6⟩ | ⟨p6, r6⟩
      ·
        go_wp2_with fail
        go_ret
        exact ⟨by rw [hit HT.out (by decide) (by rw [F6.out]; exact out1 p6)]; rfl, b0.out⟩
      ·
        go_wp2_with fail
        go_ret
        exact ⟨by rw [hit HT.out (by decide) (by rw [F6.out]; exact out2 r6)]; rfl, b0.out⟩
      have HT := Lib.hid (pass HT.out (by decide) (by rw [F6.out]; exact out3 p6 r6))
      go_wp2_with fail
      refine (count_any _ _).mono ?_; rintro e wq ⟨rfl, rfl⟩
      cases q7 : (decide (0 ≤ x7) && decide (x7 ≤ 2147483647))
      ·
        go_wp2_with fail
        go_ret
        exact ⟨by rw [hit HT.out (by decide) (by rw [F7.out]; exact q7)]; rfl, b0.out⟩
      have HT := Lib.hid (pass HT.out (by decide) (by rw [F7.out]; exact q7))
      rcases three x8 (0) (8) with p8 | ⟨p8, r8⟩ | ⟨p8, r8⟩
      ·
        go_wp2_with fail
        go_ret
        exact ⟨by rw [hit HT.out (by decide) (by rw [F8.out]; exact out1 p8)]; rfl, b0.out⟩
      ·
        go_wp2_with fail
        go_ret
        exact ⟨by rw [hit HT.out (by decide) (by rw [F8.out]; exact out2 r8)]; rfl, b0.out⟩
      have HT := Lib.hid (pass HT.out (by decide) (by rw [F8.out]; exact out3 p8 r8))
      go_wp2_with (with_reducible show wpList _ _ _ (⟨some 66, _, _, _, _, _⟩ :: _) _ _; refine wpList_loadW rfl _ rfl w.heap.size c rfl B0.out hc ?_)
      refine (TB _).mono ?_; rintro e w1 ⟨rfl, b1⟩
      go_wp2_with fail
      go_ret
      exact ⟨by rw [HT.out]; rfl, grow b0.out b1⟩
  · have d0 : (x0 != 3) = true := by simp; omega
    have d0' : (x0 != 4) = true := by simp; omega
    have HX := Lib.hid (show (decide (3 ≤ x0) && decide (x0 ≤ 4)) = false by simp; omega)
    clear h0 TA
    go_wp2_with fail
    go_ret
    exact ⟨by rw [hit HT.out (by decide) (by rw [F0.out]; exact HX.out)]; rfl, b0.out⟩
theorem rright_any (c : List Int) (w : World) (hc : c.length = 21) :
    Calls Try.prog 39 #[.agg (CA c)] w fun e w' => e = .returned (.bool (rt c)) ∧ Below w.heap.size w w' := by
  have B0 := Lib.hid (Box.new w c)
  have b0 := Lib.hid ((Below.refl w.heap.size w).alloc (Nat.le_refl _) (.cells (CA c) 24))
  have FI := fun W => rfault_any c W hc
  have HE := Lib.hid (rt_empty c)
  generalize fault c = s at *
  go_enter Try.func39, Try.ntmps39
  go_wp2_with (with_reducible show wpList _ _ _ (⟨some 3, _, _, _, _, _⟩ :: _) _ _; refine wpList_loadW rfl _ rfl w.heap.size c rfl B0.out hc ?_)
  refine (FI _).mono ?_; rintro e w1 ⟨rfl, b1⟩
  go_wp2_with fail
  go_ret
  exact ⟨by rw [← HE.out]; rfl, grow b0.out b1⟩
set_option maxHeartbeats 6400000 in
theorem rcovers_any (c : List Int) (e r : Int) (w : World) (hc : c.length = 21) :
    Calls Try.prog 25 #[.agg (CA c), .int .i64 e, .int .i64 r] w fun en w' => en = .returned (.bool (cov c e r)) ∧ Below w.heap.size w w' := by
  have B0 := Lib.hid (Box.new w c)
  have b0 := Lib.hid ((Below.refl w.heap.size w).alloc (Nat.le_refl _) (.cells (CA c) 24))
  have RI := fun W => rright_any c W hc
  by_cases hin : 0 ≤ e ∧ e ≤ 1073741824 ∧ 0 ≤ r ∧ r ≤ 1073741824
  · have HIN := Lib.hid hin
    obtain ⟨h1, h2, h3, h4⟩ := hin
    have d1 : decide (e < 0) = false := by simpa using h1
    have d2 : decide (1073741824 < e) = false := by simpa using h2
    have d3 : decide (r < 0) = false := by simpa using h3
    have d4 : decide (1073741824 < r) = false := by simpa using h4
    cases hR : rt c
    · have HF := Lib.hid (cov_wrong c e r hR)
      rw [hR] at RI
      clear hR
      go_enter Try.func25, Try.ntmps25
      go_wp2_with (with_reducible show wpList _ _ _ (⟨some 8, _, _, _, _, _⟩ :: _) _ _; refine wpList_loadW rfl _ rfl w.heap.size c rfl B0.out hc ?_)
      refine (RI _).mono ?_; rintro en w1 ⟨rfl, b1⟩
      go_wp2_with fail
      go_ret
      exact ⟨ret_bool (by rw [HF.out]), grow b0.out b1⟩
    · have HC := Lib.hid (cov_right c e r HIN.out hR)
      have HS := Lib.hid (right_small c hR)
      rw [hR] at RI
      clear hR
      go_enter Try.func25, Try.ntmps25
      go_wp2_with (with_reducible show wpList _ _ _ (⟨some 8, _, _, _, _, _⟩ :: _) _ _; refine wpList_loadW rfl _ rfl w.heap.size c rfl B0.out hc ?_)
      refine (RI _).mono ?_; rintro en w1 ⟨rfl, b1⟩
      have B1 := B0.out.on b1
      have y1 := B1.at hc 1 (by omega)
      have y2 := B1.at hc 2 (by omega)
      have y4 := B1.at hc 4 (by omega)
      have y5 := B1.at hc 5 (by omega)
      have y7 := B1.at hc 7 (by omega)
      have y9 := B1.at hc 9 (by omega)
      have y10 := B1.at hc 10 (by omega)
      have y12 := B1.at hc 12 (by omega)
      clear B1
      obtain ⟨⟨g1, g1'⟩, ⟨g2, g2'⟩, ⟨g4, g4'⟩, ⟨g5, g5'⟩, ⟨g7, g7'⟩, ⟨g9, g9'⟩, ⟨g10, g10'⟩, ⟨g12, g12'⟩⟩ := HS.out
      generalize G c 1 = x1 at *
      generalize G c 2 = x2 at *
      generalize G c 4 = x4 at *
      generalize G c 5 = x5 at *
      generalize G c 7 = x7 at *
      generalize G c 9 = x9 at *
      generalize G c 10 = x10 at *
      generalize G c 12 = x12 at *
      cases q0 : decide (2 * e + 2 * x10 + x12 ≤ x9)
      · have HC := Lib.hid (show cov c e r = false by rw [HC.out]; simp [q0])
        go_wp2_with fail
        go_ret
        exact ⟨ret_bool (by rw [HC.out]), grow b0.out b1⟩
      cases q1 : decide (r + 2 * e ≤ x4)
      · have HC := Lib.hid (show cov c e r = false by rw [HC.out]; simp [q0, q1])
        go_wp2_with fail
        go_ret
        exact ⟨ret_bool (by rw [HC.out]), grow b0.out b1⟩
      cases q2 : decide (2 * e ≤ x7)
      · have HC := Lib.hid (show cov c e r = false by rw [HC.out]; simp [q0, q1, q2])
        go_wp2_with fail
        go_ret
        exact ⟨ret_bool (by rw [HC.out]), grow b0.out b1⟩
      cases q3 : decide (4 * e + 2 * x10 + 2 * x12 ≤ x5)
      · have HC := Lib.hid (show cov c e r = false by rw [HC.out]; simp [q0, q1, q2, q3])
        go_wp2_with fail
        go_ret
        exact ⟨ret_bool (by rw [HC.out]), grow b0.out b1⟩
      cases q4 : decide (2 * e ≤ x2 - x1)
      · have HC := Lib.hid (show cov c e r = false by rw [HC.out]; simp [q0, q1, q2, q3, q4])
        go_wp2_with fail
        go_ret
        exact ⟨ret_bool (by rw [HC.out]), grow b0.out b1⟩
      · have HC := Lib.hid (show cov c e r = true by rw [HC.out]; simp [q0, q1, q2, q3, q4])
        go_wp2_with fail
        go_ret
        exact ⟨ret_bool (by rw [HC.out]), grow b0.out b1⟩
  · have HF := Lib.hid (cov_far c e r hin)
    cases hR : rt c
    · rw [hR] at RI
      clear hR hin
      go_enter Try.func25, Try.ntmps25
      go_wp2_with (with_reducible show wpList _ _ _ (⟨some 8, _, _, _, _, _⟩ :: _) _ _; refine wpList_loadW rfl _ rfl w.heap.size c rfl B0.out hc ?_)
      refine (RI _).mono ?_; rintro en w1 ⟨rfl, b1⟩
      go_wp2_with fail
      go_ret
      exact ⟨ret_bool HF.out.symm, grow b0.out b1⟩
    · rw [hR] at RI
      clear hR
      have hq : decide (e < 0) = true ∨ (decide (e < 0) = false ∧ (decide (1073741824 < e) = true ∨ (decide (1073741824 < e) = false ∧ (decide (r < 0) = true ∨ (decide (r < 0) = false ∧ decide (1073741824 < r) = true))))) := by simp; omega
      clear hin
      go_enter Try.func25, Try.ntmps25
      go_wp2_with (with_reducible show wpList _ _ _ (⟨some 8, _, _, _, _, _⟩ :: _) _ _; refine wpList_loadW rfl _ rfl w.heap.size c rfl B0.out hc ?_)
      refine (RI _).mono ?_; rintro en w1 ⟨rfl, b1⟩
      rcases hq with d1 | ⟨d1, d2 | ⟨d2, d3 | ⟨d3, d4⟩⟩⟩
      all_goals
        go_wp2_with fail
        go_ret
        exact ⟨ret_bool HF.out.symm, grow b0.out b1⟩
end Cf
end Go.Proofs.Ytchnnpaebggfdaa
