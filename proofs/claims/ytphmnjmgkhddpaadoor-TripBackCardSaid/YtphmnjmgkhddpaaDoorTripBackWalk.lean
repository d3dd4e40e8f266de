/-
  The walk of the law TripBack: for every number, text and six trips it returns true, and writes nothing that was there. Condition: the table of trips lies in memory as the text lays it.
-/
import Derived.Test.YtphmnjmgkhddpaaDoorTripAlive
import Derived.Lib.QuietBelow
namespace Go.Proofs.YtphmnjmgkhddpaaDoor
open Go.ChangeShapes Go.WideShapes Go.ChangeAt Go.RowKit Go.Deep
namespace tripBack
open Fx Tp

theorem tab_ne : ((List.range 64).all fun m => decide (tx m ≠ [])) = true := by decide +kernel
theorem txt_yes {m : Int} (h0 : 0 ≤ m) (h1 : m ≤ 63) : (txt m == []) = false ∧ prs (tl ⟨(txt m).toArray⟩) = some m.toNat := by
  have e : txt m = tx m.toNat := by unfold txt; rw [if_pos ⟨h0, h1⟩]
  rw [e, tl_mk]
  refine ⟨?_, prs_tx (by omega)⟩
  have := List.all_eq_true.1 tab_ne m.toNat (List.mem_range.2 (by omega))
  exact beq_eq_false_iff_ne.2 (by simpa using this)
theorem txt_no {m : Int} (h : ¬ (0 ≤ m ∧ m ≤ 63)) : txt m = [] := by unfold txt; rw [if_neg h]
theorem prs_empty : prs (tl ⟨#[]⟩) = none := by decide +kernel
theorem six_len {l : List Bool} (h : l.length = 6) : msk l = (bitsN l : Nat) ∧ bitsN l < 64 := by
  have := bitsN_lt l
  rw [h] at this
  exact ⟨by unfold msk; rw [if_pos (by omega)], this⟩
theorem six_bit {l : List Bool} {i : Nat} (h : l.length = 6) (hi : i < 6) : inn (bitsN l : Nat) (2 ^ i) = l.getD i false := by
  rw [in_pow (six_len h).2 hi]
  unfold bitOf
  rw [bitsN_bit]
  cases l.getD i false <;> rfl
theorem back_txt {s : ByteArray} {k : Nat} (h : prs (tl s) = some k) : txt (k : Int) = tl s := by
  obtain ⟨a, b⟩ := prs_some h
  rw [txt_nat a, b]

/-- Behind the first two questions: the six trips. -/
def bls (x0 x1 x2 x3 x4 x5 : Bool) : List Bool := [x0, x1, x2, x3, x4, x5]
theorem bools6 (w : World) (t : TypeId) (x0 x1 x2 x3 x4 x5 : Bool) : BoolsAt (w.alloc (.cells #[.bool x0, .bool x1, .bool x2, .bool x3, .bool x4, .bool x5] t)) (some ⟨w.heap.size, 0, none⟩) (bls x0 x1 x2 x3 x4 x5) := by
  refine Or.inr ⟨w.heap.size, 0, rfl, fun i hi => ?_⟩
  have : i ∈ [0, 1, 2, 3, 4, 5] := by simp [bls] at hi; simp; omega
  refine VRow.cell (VRow.new w [.bool x0, .bool x1, .bool x2, .bool x3, .bool x4, .bool x5] t) (0 + i) ?_
  simp only [List.mem_cons, List.mem_nil_iff, or_false] at this
  rcases this with rfl | rfl | rfl | rfl | rfl | rfl <;> rfl

set_option maxRecDepth 100000 in
set_option maxHeartbeats 1600000 in
theorem walk (m : Int) (s : ByteArray) (x0 x1 x2 x3 x4 x5 : Bool) (w : World) (_w : (Lit.int .i64 m).wf = true) (ws : s.size ≤ maxLen) (hT : TabAt w) :
    Calls Tryd.prog 4 #[.int .i64 m, .string s, .agg #[.bool x0, .bool x1, .bool x2, .bool x3, .bool x4, .bool x5]] w fun e w' => e = .returned (.bool true) ∧ Below w.heap.size w w' := by
  unfold maxLen at ws
  have B0 := Lib.hid ((Below.refl w.heap.size w).alloc (Nat.le_refl _) (.cells #[.bool x0, .bool x1, .bool x2, .bool x3, .bool x4, .bool x5] 34))
  have HT := Lib.hid (hT.below B0.out)
  have X0 := Lib.hid (VRow.new w [.bool x0, .bool x1, .bool x2, .bool x3, .bool x4, .bool x5] 34)
  clear hT
  by_cases h2 : 200 < s.size
  · have d0 : decide (200 < (s.size : Int)) = true := by simp; omega
    go_enter Tryd.func4, Tryd.ntmps4
    go_wp2_with fail
    refine (alive_any _ HT.out).mono ?_; rintro e w5 ⟨rfl, b5⟩
    go_wp2
    go_ret
    exact ⟨rfl, grow B0.out b5⟩
  · have d0 : decide (200 < (s.size : Int)) = false := by simp; omega
    have CT := fun W h => text_any m W h
    have CP := fun W h => parse_any ⟨(txt m).toArray⟩ (by have := txt_short m; show (txt m).length ≤ _; omega) W h
    have CS := fun W h => parse_any s ws W h
    have CK := fun (k : Int) W h => text_any k W h
    obtain ⟨n2, e2, hn2, he2, hd⟩ : ∃ n2 e2 : Int, num (prs (tl s)) = n2 ∧ err (prs (tl s)) = e2 ∧ ((e2 == 0) = false ∨ ((e2 == 0) = true ∧ ∀ W, TabAt W → Calls Tryd.prog 8 #[.int .i64 n2] W fun e w' => e = .returned (.string s) ∧ Below W.heap.size W w')) := by
      refine ⟨_, _, rfl, rfl, ?_⟩
      cases hp : prs (tl s) with
      | none => exact Or.inl rfl
      | some k =>
        refine Or.inr ⟨rfl, fun W h => ?_⟩
        have := CK (k : Int) W h
        rw [back_txt hp, ← of_tl (rfl : tl s = tl s)] at this
        exact this
    rw [hn2, he2] at CS
    clear hn2 he2 CK
    obtain ⟨L, hL⟩ : ∃ L, L = bls x0 x1 x2 x3 x4 x5 := ⟨_, rfl⟩
    have h6 : L.length = 6 := by rw [hL]; rfl
    have CM := fun W t => mask_any _ 6 (bls x0 x1 x2 x3 x4 x5) _ (by simp [bls]) (bools6 W t x0 x1 x2 x3 x4 x5)
    rw [← hL, (six_len h6).1, h6] at CM
    have hlt := (six_len h6).2
    have HBT := Lib.hid (fun i hi => six_bit (l := L) (i := i) h6 hi)
    have HX : Hid (∀ i, i < 6 → ([.bool x0, .bool x1, .bool x2, .bool x3, .bool x4, .bool x5] : List Value)[i]? = some (.bool (L.getD i false))) := Lib.hid (fun i hi => by
      have : i ∈ [0, 1, 2, 3, 4, 5] := by simp; omega
      simp only [List.mem_cons, List.mem_nil_iff, or_false] at this
      rw [hL]
      rcases this with rfl | rfl | rfl | rfl | rfl | rfl <;> rfl)
    have CI := fun (b : Int) W => in_any (bitsN L : Nat) b W
    generalize bitsN L = N at *
    clear h2 hL h6
    have key : (0 ≤ m ∧ m ≤ 63) ∨ (0 ≤ m ∧ 63 < m) ∨ m < 0 := by omega
    obtain ⟨T, n, e, r, hT, hP, hF⟩ : ∃ (T : List UInt8) (n e : Int) (r : Bool), txt m = T ∧ (num (prs (tl ⟨(txt m).toArray⟩)) = n ∧ err (prs (tl ⟨(txt m).toArray⟩)) = e) ∧
        ((decide (0 ≤ m) = true ∧ decide (m ≤ 63) = true ∧ (T == []) = false ∧ (e != 0) = false ∧ (n != m) = false) ∨ (decide (0 ≤ m) = true ∧ decide (m ≤ 63) = false ∧ T = []) ∨ (decide (0 ≤ m) = false ∧ T = [])) := by
      rcases key with ⟨k1, k2⟩ | ⟨k1, k2⟩ | k1
      · obtain ⟨t1, t2⟩ := txt_yes k1 k2
        refine ⟨_, _, _, true, rfl, ⟨rfl, rfl⟩, Or.inl ⟨by simpa using k1, by simpa using k2, t1, ?_, ?_⟩⟩
        · rw [t2]; rfl
        · rw [t2]; unfold num; simp; omega
      · exact ⟨_, _, _, true, rfl, ⟨rfl, rfl⟩, Or.inr (Or.inl ⟨by simpa using k1, by simp; omega, txt_no (by omega)⟩)⟩
      · exact ⟨_, _, _, true, rfl, ⟨rfl, rfl⟩, Or.inr (Or.inr ⟨by simp; omega, txt_no (by omega)⟩)⟩
    rw [hP.1, hP.2, hT] at CP
    rw [hT] at CT
    clear hP hT key
    have hg0 : decide ((0 : Int) ≤ (N : Int)) = true := by simp
    have hg1 : decide ((N : Int) ≤ 63) = true := by simp; omega
    clear hlt
    rcases hd with hd | ⟨hd, HK⟩
    all_goals rcases hF with ⟨f1, f2, f3, f4, f5⟩ | ⟨f1, f2, rfl⟩ | ⟨f1, rfl⟩
    all_goals
      go_enter Tryd.func4, Tryd.ntmps4
      go_wp2_with fail
      refine (CT _ HT.out).mono ?_; rintro e w1 ⟨rfl, b1⟩
      have G1 := Lib.hid (grow B0.out b1)
      have HT1 := Lib.hid (HT.out.below b1)
      have X1 := Lib.hid (X0.out.below b1 X0.out.lt)
      clear b1 CT HT X0 B0
      go_wp2_with fail
      refine (CP _ HT1.out).mono ?_; rintro e w2 ⟨rfl, b2⟩
      have G2 := Lib.hid (grow G1.out b2)
      have HT2 := Lib.hid (HT1.out.below b2)
      have X2 := Lib.hid (X1.out.below b2 X1.out.lt)
      clear b2 CP HT1 X1 G1
      go_wp2_with fail
      refine (CS _ HT2.out).mono ?_; rintro e w3 ⟨rfl, b3⟩
      have G3 := Lib.hid (grow G2.out b3)
      have HT3 := Lib.hid (HT2.out.below b3)
      have X3 := Lib.hid (X2.out.below b3 X2.out.lt)
      clear b3 CS HT2 X2 G2
      first
        | (have HK' := HK; go_wp2_with fail; refine (HK _ HT3.out).mono ?_; rintro e w4 ⟨rfl, b4⟩; have G4 := Lib.hid (grow G3.out b4); have HT4 := Lib.hid (HT3.out.below b4); have X4 := Lib.hid (X3.out.below b4 X3.out.lt); clear b4 HT3 X3 G3 HK HK')
        | (have G4 := Lib.hid G3.out; have HT4 := Lib.hid HT3.out; have X4 := Lib.hid X3.out; clear HT3 X3 G3; rename_i w4)
      have c0 := X4.out.cell 0 rfl
      have c1 := X4.out.cell 1 rfl
      have c2 := X4.out.cell 2 rfl
      have c3 := X4.out.cell 3 rfl
      have c4 := X4.out.cell 4 rfl
      have c5 := X4.out.cell 5 rfl
      go_wp2_with fail
      refine (CM _ _).mono ?_; rintro e w5 ⟨rfl, rfl⟩
      have G5 := Lib.hid (G4.out.alloc G4.out.size (.cells #[.bool x0, .bool x1, .bool x2, .bool x3, .bool x4, .bool x5] 4))
      have HT5 := Lib.hid (HT4.out.below ((Below.refl _ _).alloc (Nat.le_refl _) (.cells #[.bool x0, .bool x1, .bool x2, .bool x3, .bool x4, .bool x5] 4)))
      have X5 := Lib.hid (X4.out.alloc (.cells #[.bool x0, .bool x1, .bool x2, .bool x3, .bool x4, .bool x5] 4))
      clear c0 c1 c2 c3 c4 c5 G4 HT4 X4 CM
      go_wp2
      go_loopg [13, 14] 6 (fun gg s13 s14 wr => ∃ k : Nat, k + gg = 6 ∧ s14 = .int .i64 k ∧ s13 = .int .i64 ((2 ^ k : Nat) : Int) ∧ Hid (Below w.heap.size w wr) ∧ Hid (TabAt wr) ∧ Hid (VRow wr w.heap.size 34 [.bool x0, .bool x1, .bool x2, .bool x3, .bool x4, .bool x5]))
      case atStart => exact ⟨0, by omega, rfl, rfl, G5, HT5, X5⟩
      case round =>
        obtain ⟨k, hkg, rfl, rfl, G, HTk, X⟩ := hrel
        by_cases hk : k < 6
        · have hki : (k : Int) < 6 := by omega
          have h32 : 2 ^ k ≤ 32 := two_mono (j := 5) (by omega)
          have HP := Lib.hid (Nat.pow_succ (m := k) (n := 2))
          have hy := HBT.out k hk
          rw [← int_pow] at hy
          have z := cell_regrown (X.out.cell k (HX.out k hk))
          obtain ⟨p, hp⟩ : ∃ p, p = 2 ^ k := ⟨_, rfl⟩
          rw [← hp] at h32 hy ⊢
          have HPP := Lib.hid hp
          clear hp
          have cI := reg_call (w := wr) (fun W _ => (CI p W).mono fun e w' q => ⟨q.1, by rw [← q.2]; exact Below.refl _ _⟩)
          rw [hy] at cI
          clear hy
          generalize L.getD k false = y at *
          go_wp2
          refine wp_region_quiet_below (by kernel_rfl) (by kernel_rfl) ?_
          repeat (go_big_quiet_step (exact cI _ _))
          refine wpQuiet_nil ?_
          intro _ hw'
          obtain ⟨⟨dq, osq⟩, hw''⟩ := hw'
          subst hw''
          go_wp2
          go_roundg (gk - 1)
          case rel => exact ⟨k + 1, by omega, by go_num, by rw [HP.out, ← HPP.out]; go_num, Lib.hid (grow G.out (below_regrown wr dq osq)), Lib.hid (HTk.out.below (below_regrown wr dq osq)), Lib.hid (X.out.below (below_regrown wr dq osq) X.out.lt)⟩
          case measure => omega
        · obtain rfl : k = 6 := by omega
          have CA := alive_any wr HTk.out
          go_wp2_with fail
          refine CA.mono ?_; rintro e w7 ⟨rfl, b7⟩
          go_wp2
          go_ret
          exact ⟨rfl, grow G.out b7⟩
end tripBack
end Go.Proofs.YtphmnjmgkhddpaaDoor
