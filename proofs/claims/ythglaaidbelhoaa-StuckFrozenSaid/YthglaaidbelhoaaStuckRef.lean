/-
  What the calls of package rudderref09 do, but for Come: their contracts by walking the Go text. Conditions: where the room lies; how many votes came.
-/
import Derived.Test.YthglaaidbelhoaaStuckMath
import Derived.Test.YthglaaidbelhoaaJumpRight
import Derived.Test.YthglaaidbelhoaaOrderRef2
import Derived.Test.YthglaaidbelhoaaBlk
import Derived.RegionTactic
import Derived.BigQuiet
import Derived.Handy
import Derived.Lib.QuietBelow
namespace Go.Proofs.Ythglaaidbelhoaa
open Go.ChangeShapes Go.WideShapes Go.ChangeAt Go.RowKit Go.Deep
namespace Sk
open Fx (ret_bool)
open Jp (val)

theorem rinfo : (Try.prog.info? 3).map (fun i => (i.zero, i.size, i.bytes)) = some (some (.int .i64 0), 1, 8) := by kernel_rfl

set_option maxHeartbeats 1600000 in
theorem rmay_any (window bound : Int) (w : World) :
    Calls Try.prog 7 #[.int .i64 window, .int .i64 bound] w fun e w' => e = .returned (.bool (may window bound)) ∧ w = w' := by
  have HM : may window bound = (decide (2 ≤ window) && decide (window ≤ 16) && decide (0 ≤ bound) && decide (bound ≤ 2147483647)) := rfl
  cases d1 : decide (2 ≤ window)
  · rw [d1, Bool.false_and, Bool.false_and, Bool.false_and] at HM
    have HF := Lib.hid HM
    clear HM
    go_enter Try.func7, Try.ntmps7
    go_wp2
    go_ret
    exact ⟨ret_bool HF.out.symm, rfl⟩
  · cases d2 : decide (window ≤ 16)
    · rw [d1, d2, Bool.true_and, Bool.false_and, Bool.false_and] at HM
      have HF := Lib.hid HM
      clear HM
      go_enter Try.func7, Try.ntmps7
      go_wp2
      go_ret
      exact ⟨ret_bool HF.out.symm, rfl⟩
    · cases d3 : decide (0 ≤ bound)
      · rw [d1, d2, d3, Bool.true_and, Bool.true_and, Bool.false_and] at HM
        have HF := Lib.hid HM
        clear HM
        go_enter Try.func7, Try.ntmps7
        go_wp2
        go_ret
        exact ⟨ret_bool HF.out.symm, rfl⟩
      · rw [d1, d2, d3, Bool.true_and, Bool.true_and, Bool.true_and] at HM
        have HF := Lib.hid HM
        clear HM
        go_enter Try.func7, Try.ntmps7
        go_wp2
        go_ret
        exact ⟨ret_bool HF.out.symm, rfl⟩

/-- The cells of the document's room. -/
def rrm (win bound : Int) (s : Value) : List Value := [.int .i64 win, .int .i64 bound, s]
/-- The document's room, with all its votes, which lie behind lo. -/
def RRoom (w : World) (lo g P : Nat) (bound : Int) (l : List Int) : Prop :=
  ∃ a cap, VRow w g 59 (rrm ((P : Int) + 1) bound (.slice a l.length cap)) ∧ IntsAt .i64 w a l ∧ l.length ≤ cap ∧ cap ≤ maxLen ∧ (∀ ad, a = some ad → lo ≤ ad.block) ∧ g < lo
section
variable {w w' : World} {lo g P j : Nat} {bound : Int} {l : List Int}
theorem RRoom.lt (h : RRoom w lo g P bound l) : g < w.heap.size := by obtain ⟨_, _, r, _⟩ := h; exact r.lt
theorem RRoom.below (h : RRoom w lo g P bound l) (hb : Below w.heap.size w w') : RRoom w' lo g P bound l := by
  obtain ⟨a, cap, r, i, c, m, s, q⟩ := h; exact ⟨a, cap, r.below hb r.lt, i.below hb, c, m, s, q⟩
theorem RRoom.only (h : RRoom w lo g P bound l) (hb : Only j w w') (hg : g ≠ j) (hj : j < lo) : RRoom w' lo g P bound l := by
  obtain ⟨a, cap, r, i, c, m, s, q⟩ := h
  exact ⟨a, cap, r.only hb hg, i.but hb (fun ad e => by have := s ad e; show ¬ ad.block = j; omega), c, m, s, q⟩
theorem rroom_new (w : World) (lo : Nat) (bound : Int) (P : Nat) (h : w.heap.size < lo) : RRoom (w.alloc (.cells (rrm ((P : Int) + 1) bound (.slice none 0 0)).toArray 59)) lo w.heap.size P bound [] :=
  ⟨none, 0, VRow.new _ _ _, Or.inl rfl, by simp, by unfold maxLen; omega, fun ad e => by (cases e), h⟩
end
theorem rbegin_any (win bound : Int) (w : World) :
    Calls Try.prog 9 #[.int .i64 win, .int .i64 bound] w fun e w' => e = .returned (.pointer (some ⟨w.heap.size, 0, none⟩)) ∧ w' = w.alloc (.cells (rrm win bound (.slice none 0 0)).toArray 59) := by
  go_enter Try.func9, Try.ntmps9
  go_wp2
  go_ret
  exact ⟨rfl, rfl⟩

theorem rvote_no (p : Option Addr) (n : Int) (w : World) (hn : val n = false) :
    Calls Try.prog 11 #[.pointer p, .int .i64 n] w fun e w' => e = .returned (.int .i64 1) ∧ w = w' := by
  have V := fun W => Jp.rright_any n W
  rw [hn] at V
  go_enter Try.func11, Try.ntmps11
  go_wp2_with (go_at_call 23; (refine (V _).mono ?_; rintro e w' ⟨rfl, rfl⟩))
  go_ret
  exact ⟨rfl, rfl⟩

theorem fits_a {l : List Int} (h : l.length ≤ 1000) : ([] : List Int).length + l.length ≤ maxLen := by
  unfold maxLen; simp only [List.length_nil]; omega
theorem fits_b {l : List Int} (h : l.length ≤ 1000) : (([] : List Int).length + l.length) * 8 ≤ 140737488355328 := by
  simp only [List.length_nil]; omega
/-- Where a row of the call's own lies. -/
theorem own_lies {k : IntKind} {base : Nat} {t : TypeId} {w : World} {a : Option Addr} {n cap : Nat} {l : List Int} (h : OwnI k base t w (.slice a n cap) l) : ∀ ad, a = some ad → base ≤ ad.block := by
  rintro ad rfl
  exact h.blk ad.block rfl
theorem rvote_end {w w2 : World} {lo g P k cap2 : Nat} {bound : Int} {s : Value} {a2 : Option Addr} {l : List Int} (T : VRow w2 g 59 (rrm ((P : Int) + 1) bound s)) (O : OwnI .i64 w.heap.size 3 w2 (.slice a2 k cap2) l) (i : IntsAt .i64 w2 a2 l) (hk : l.length = k)
    (b : Below w.heap.size w w2) (c : l.length ≤ cap2) (m : cap2 ≤ maxLen) (hlo : lo ≤ w.heap.size) (hg : g < lo) :
    RRoom (w2.setCell ⟨g, 2, none⟩ (.slice a2 k cap2)) lo g P bound l ∧ Only g w (w2.setCell ⟨g, 2, none⟩ (.slice a2 k cap2)) := by
  subst hk
  have hs := own_lies O
  have o : But (· = g) w2 (w2.setCell ⟨g, 2, none⟩ (.slice a2 l.length cap2)) := (But.refl (· = g) w2).setCell (p := ⟨g, 2, none⟩) (Or.inl rfl) _
  refine ⟨⟨a2, cap2, T.set 2 _, i.but o (fun ad e => ?_), c, m, fun ad e => by have := hs ad e; omega, hg⟩, (But.of_below b).trans o⟩
  have := hs ad e
  show ¬ ad.block = g
  omega

set_option maxHeartbeats 1600000 in
theorem rvote_yes (lo g P : Nat) (bound : Int) (l : List Int) (n : Int) (w : World) (hn : val n = true) (hR : RRoom w lo g P bound l) (hl : l.length ≤ 1000) (hlo : lo ≤ w.heap.size) :
    Calls Try.prog 11 #[.pointer (some ⟨g, 0, none⟩), .int .i64 n] w fun e w' => e = .returned (.int .i64 0) ∧ RRoom w' lo g P bound (l ++ [n]) ∧ Only g w w' := by
  have V := fun W => Jp.rright_any n W
  rw [hn] at V
  obtain ⟨a, cap, r, i, c, m, s, q⟩ := hR
  have T := Lib.hid r
  have HI := Lib.hid i
  have c2 := (r.alloc (.cells #[] 3)).cell 2 (v := .slice a l.length cap) rfl
  have L0 := Lib.hid (OwnI.lit0 (k := .i64) (te := 3) (w := w) (base := w.heap.size) (Nat.le_refl _))
  have B0 := Lib.hid ((Below.refl w.heap.size w).alloc (Nat.le_refl _) (.cells #[] 3))
  have hgl := r.lt
  clear hn r i
  go_enter Try.func11, Try.ntmps11
  go_wp2_with (first
    | (go_at_call 23; (refine (V _).mono ?_; rintro e w' ⟨rfl, rfl⟩))
    | (with_reducible show wpList _ _ _ (⟨some 16, _, _, _, _, _⟩ :: _) _ _; refine wpList_appendI rfl _ _ 33 rfl .i64 w.heap.size 3 8 Try.underlying33 rinfo (.slice (some ⟨w.heap.size, 0, none⟩) 0 0) [] a l.length cap l rfl rfl rfl L0.out (HI.out.below ((Below.refl w.heap.size w).alloc (Nat.le_refl _) _)) (fits_a hl) (fits_b hl) w B0.out (Nat.le_refl _) ?_; intro v1 w1 own1 b1; rw [List.nil_append] at own1; have O1 := Lib.hid own1; have B1 := Lib.hid b1; clear own1 b1)
    | (with_reducible show wpList _ _ _ (⟨some 19, _, _, _, _, _⟩ :: _) _ _; refine wpList_append1 rfl _ _ 33 rfl .i64 w.heap.size 3 8 Try.underlying33 rinfo v1 l n _ rfl rfl O1.out (by omega) (by omega) w B1.out (Nat.le_refl _) ?_; intro v2 w2 own2 b2; obtain ⟨a2, cap2, rfl, i2, q2, m2⟩ := own2.form2; have O2 := Lib.hid own2; have B2 := Lib.hid b2; have T2 := Lib.hid (T.out.below b2 hgl); have I2 := Lib.hid i2; have k2 := T2.out.cell 2 (v := _) rfl; have f2 := T2.out.frozen 2; clear own2 b2 i2))
  have E := rvote_end (k := l.length + 1) T2.out (by simpa using O2.out) I2.out (by simp) B2.out q2 m2 hlo q
  go_ret
  exact ⟨rfl, E.1, E.2⟩

/-- Whatever is voted: all votes then. -/
def va (l : List Int) (n : Int) : List Int := if val n = true then l ++ [n] else l
theorem rvote_any (lo g P : Nat) (bound : Int) (l : List Int) (n : Int) (w : World) (hR : RRoom w lo g P bound l) (hl : l.length ≤ 1000) (hlo : lo ≤ w.heap.size) :
    Calls Try.prog 11 #[.pointer (some ⟨g, 0, none⟩), .int .i64 n] w fun e w' => e = .returned (.int .i64 (Jp.ce n)) ∧ RRoom w' lo g P bound (va l n) ∧ Only g w w' := by
  cases hn : val n
  · rw [Jp.ce_no hn]
    refine (rvote_no _ n w hn).mono ?_
    rintro e w' ⟨rfl, rfl⟩
    exact ⟨rfl, by unfold va; rw [hn]; exact hR, But.refl _ _⟩
  · rw [Jp.ce_yes hn]
    refine (rvote_yes lo g P bound l n w hn hR hl hlo).mono ?_
    rintro e w' ⟨rfl, h1, h2⟩
    exact ⟨rfl, by unfold va; rw [if_pos hn]; exact h1, h2⟩

set_option maxHeartbeats 1600000 in
theorem rvotes_any (lo g P : Nat) (bound : Int) (l : List Int) (w : World) (hR : RRoom w lo g P bound l) (hl : l.length ≤ 1000) (h1 : 1 ≤ P) (h2 : P ≤ 15) :
    Calls Try.prog 17 #[.pointer (some ⟨g, 0, none⟩)] w (RetI .i64 w (lastN P l)) := by
  obtain ⟨a, cap, r, i, c, m, s, q⟩ := hR
  have c0 := r.cell 0 (v := .int .i64 ((P : Int) + 1)) rfl
  have c2 := r.cell 2 (v := .slice a l.length cap) rfl
  have HI := Lib.hid i
  clear r i s q
  have hm2 : cap ≤ 9223372036854775807 := m
  by_cases h : l.length ≤ P
  · have HL := Lib.hid (show lastN P l = l from lastN_short h)
    have hz : (l.length : Int) - P ≤ 0 := by omega
    go_enter Try.func17, Try.ntmps17
    go_wp2
    go_quiet (fail)
    go_wp2
    go_ret
    exact retI_mk HL.out.symm rfl (HI.out.drewN _) (below_drewN (Below.refl _ w) _)
  · obtain ⟨k, hk⟩ : ∃ k, l.length = k + P := ⟨l.length - P, by omega⟩
    have HL := Lib.hid (show l.drop k = lastN P l by unfold lastN; rw [hk, Nat.add_sub_cancel])
    have HK := Lib.hid (show (l.drop k).length = P by simp; omega)
    rcases HI.out with h0 | ⟨b, off, rfl, hc⟩
    · rw [h0] at hk; simp at hk; omega
    have ID := Lib.hid (intsAt_drop k hc)
    have kp : 0 < (k : Int) := by omega
    have kc : k + P ≤ cap := by omega
    have kl : k + P ≤ 1000 := by omega
    rw [hk] at c2
    clear hc h c m hl hk HI
    go_enter Try.func17, Try.ntmps17
    go_wp2
    go_quiet (fail)
    go_wp2
    go_ret
    exact retI_mk HL.out HK.out (ID.out.drewN _) (below_drewN (Below.refl _ w) _)

set_option maxHeartbeats 1600000 in
theorem rmoved_any (lo g P : Nat) (bound : Int) (l : List Int) (w : World) (hR : RRoom w lo g P bound l) (hl : l.length ≤ 1000) (h1 : 1 ≤ P) (h2 : P ≤ 15) :
    Calls Try.prog 19 #[.pointer (some ⟨g, 0, none⟩)] w fun e w' => e = .returned (.bool (moved P bound (lastN P l))) ∧ Below w.heap.size w w' := by
  have CV := rvotes_any lo g P bound l w hR hl h1 h2
  have hle := lastN_le P l
  obtain ⟨a, cap, r, _⟩ := hR
  have c0 := r.cell 0 (v := .int .i64 ((P : Int) + 1)) rfl
  have c1 := r.cell 1 (v := .int .i64 bound) rfl
  have hM : moved P bound (lastN P l) = (decide ((lastN P l).length = P) && decide (bound < Od.spread (lastN P l))) := rfl
  generalize moved P bound (lastN P l) = M at *
  generalize lastN P l = V at *
  clear r
  cases d : decide (V.length = P)
  · rw [d, Bool.false_and] at hM
    have HM := Lib.hid hM
    have d2 : ((V.length : Int) == (P : Int)) = false := by have := d; simp at this ⊢; omega
    clear hM
    go_enter Try.func19, Try.ntmps19
    go_wp2_with fail
    refine CV.mono ?_; rintro e w1 ⟨a1, cap1, rfl, i1, b1⟩
    have k0 := (b1.cell (p := ⟨g, 0, none⟩) (cell_lt c0)).trans c0
    have k1 := (b1.cell (p := ⟨g, 1, none⟩) (cell_lt c1)).trans c1
    have HB := Lib.hid b1
    clear c0 c1 b1 i1 CV
    go_wp2_with fail
    go_quiet (fail)
    go_wp2
    go_ret
    exact ⟨ret_bool HM.out.symm, below_drewN HB.out _⟩
  · rw [d, Bool.true_and] at hM
    have HM := Lib.hid hM
    have d2 : ((V.length : Int) == (P : Int)) = true := by have := d; simp at this ⊢; omega
    clear hM
    go_enter Try.func19, Try.ntmps19
    go_wp2_with fail
    refine CV.mono ?_; rintro e w1 ⟨a1, cap1, rfl, i1, b1⟩
    have k0 := cell_regrown ((b1.cell (p := ⟨g, 0, none⟩) (cell_lt c0)).trans c0)
    have k1 := cell_regrown ((b1.cell (p := ⟨g, 1, none⟩) (cell_lt c1)).trans c1)
    have HB := Lib.hid b1
    have cS := reg_call (w := w1) (fun W hW => Od.rspread_any a1 cap1 V W (by omega) (i1.below hW))
    clear c0 c1 b1 i1 CV
    go_wp2_with fail
    refine wp_region_quiet_below (by kernel_rfl) (by kernel_rfl) ?_
    repeat (go_big_quiet_step (exact cS _ _))
    refine wpQuiet_nil ?_
    intro _ hw'
    obtain ⟨⟨dq, osq⟩, hw''⟩ := hw'
    subst hw''
    go_wp2
    go_ret
    exact ⟨ret_bool HM.out.symm, grow HB.out (below_regrown w1 dq osq)⟩
end Sk
end Go.Proofs.Ythglaaidbelhoaa
