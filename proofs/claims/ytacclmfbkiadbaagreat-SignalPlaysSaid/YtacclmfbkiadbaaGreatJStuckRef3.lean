/-
  What the calls of package rudderref09 do, but for Come: their contracts by walking the Go text. Conditions: where the room lies; how many votes came.
  What Come of package rudderref09 does: its contract by walking the Go text. Conditions: where the room and the values lie; how many there are.
  What Vote of package rudderref09 does, and that all votes lie in a new block: a contract by walking the Go text. Conditions: where the room lies; how many votes came.
-/
import Derived.Test.YtacclmfbkiadbaaGreatJStuckMath6
import Derived.Test.YtacclmfbkiadbaaGreatJJumpRight6
import Derived.Test.YtacclmfbkiadbaaGreatJAgg5
import Derived.RegionTactic
import Derived.BigQuiet
import Derived.Handy
import Derived.Lib.QuietBelow
namespace Go.Proofs.YtacclmfbkiadbaaGreat
set_option maxRecDepth 100000
open Go.ChangeShapes Go.WideShapes Go.ChangeAt Go.RowKit Go.Deep
namespace Sk
open Fx (ret_bool)
open Jp (val)
theorem rinfo : (Tryz.prog.info? 3).map (fun i => (i.zero, i.size, i.bytes)) = some (some (.int .i64 0), 1, 8) := by kernel_rfl
/-- The cells of the document's room. -/
def rrm (win bound : Int) (s : Value) : List Value := [.int .i64 win, .int .i64 bound, s]
/-- The document's room, with all its votes, which lie behind lo. -/
def RRoom (w : World) (lo g P : Nat) (bound : Int) (l : List Int) : Prop :=
  ∃ a cap, VRow w g 118 (rrm ((P : Int) + 1) bound (.slice a l.length cap)) ∧ IntsAt .i64 w a l ∧ l.length ≤ cap ∧ cap ≤ maxLen ∧ (∀ ad, a = some ad → lo ≤ ad.block) ∧ g < lo
section
variable {w w' : World} {lo g P j : Nat} {bound : Int} {l : List Int}
theorem RRoom.lt (h : RRoom w lo g P bound l) : g < w.heap.size := by obtain ⟨_, _, r, _⟩ := h; exact r.lt
theorem RRoom.below (h : RRoom w lo g P bound l) (hb : Below w.heap.size w w') : RRoom w' lo g P bound l := by
  obtain ⟨a, cap, r, i, c, m, s, q⟩ := h; exact ⟨a, cap, r.below hb r.lt, i.below hb, c, m, s, q⟩
theorem RRoom.only (h : RRoom w lo g P bound l) (hb : Only j w w') (hg : g ≠ j) (hj : j < lo) : RRoom w' lo g P bound l := by
  obtain ⟨a, cap, r, i, c, m, s, q⟩ := h
  exact ⟨a, cap, r.only hb hg, i.but hb (fun ad e => by have := s ad e; show ¬ ad.block = j; omega), c, m, s, q⟩
end
theorem rbegin_any (win bound : Int) (w : World) :
    Calls Tryz.prog 23 #[.int .i64 win, .int .i64 bound] w fun e w' => e = .returned (.pointer (some ⟨w.heap.size, 0, none⟩)) ∧ w' = w.alloc (.cells (rrm win bound (.slice none 0 0)).toArray 118) := by
  go_enter Tryz.func23, Tryz.ntmps23
  go_wp2
  go_ret
  exact ⟨rfl, rfl⟩
theorem rvote_no (p : Option Addr) (n : Int) (w : World) (hn : val n = false) :
    Calls Tryz.prog 83 #[.pointer p, .int .i64 n] w fun e w' => e = .returned (.int .i64 1) ∧ w = w' := by
  have V := fun W => Jp.rright_any n W
  rw [hn] at V
  go_enter Tryz.func83, Tryz.ntmps83
  go_wp2_with (go_at_call 110; (refine (V _).mono ?_; rintro e w' ⟨rfl, rfl⟩))
  go_ret
  exact ⟨rfl, rfl⟩
theorem fits_a {l : List Int} (h : l.length ≤ 1000) : ([] : List Int).length + l.length ≤ maxLen := by
  unfold maxLen; simp only [List.length_nil]; omega
theorem fits_b {l : List Int} (h : l.length ≤ 1000) : (([] : List Int).length + l.length) * 8 ≤ 140737488355328 := by
  simp only [List.length_nil]; omega
/-- Where a row of the call's own lies. -/
theorem own_lies {k : IntKind} {base : Nat} {t : TypeId} {w : World} {a : Option Addr} {n cap : Nat} {l : List Int} (h : OwnI k base t w (.slice a n cap) l) : ∀ ad, a = some ad → base ≤ ad.block := by
  rintro ad rfl
  exact h.blk ad.block rfl
theorem rvote_end {w w2 : World} {lo g P k cap2 : Nat} {bound : Int} {s : Value} {a2 : Option Addr} {l : List Int} (T : VRow w2 g 118 (rrm ((P : Int) + 1) bound s)) (O : OwnI .i64 w.heap.size 3 w2 (.slice a2 k cap2) l) (i : IntsAt .i64 w2 a2 l) (hk : l.length = k)
    (b : Below w.heap.size w w2) (c : l.length ≤ cap2) (m : cap2 ≤ maxLen) (hlo : lo ≤ w.heap.size) (hg : g < lo) :
    RRoom (w2.setCell ⟨g, 2, none⟩ (.slice a2 k cap2)) lo g P bound l ∧ Only g w (w2.setCell ⟨g, 2, none⟩ (.slice a2 k cap2)) := by
  subst hk
  have hs := own_lies O
  have o : But (· = g) w2 (w2.setCell ⟨g, 2, none⟩ (.slice a2 l.length cap2)) := (But.refl (· = g) w2).setCell (p := ⟨g, 2, none⟩) (Or.inl rfl) _
  refine ⟨⟨a2, cap2, T.set 2 _, i.but o (fun ad e => ?_), c, m, fun ad e => by have := hs ad e; omega, hg⟩, (But.of_below b).trans o⟩
  have := hs ad e
  show ¬ ad.block = g
  omega
set_option maxHeartbeats 1600000 in
theorem rvote_yes (lo g P : Nat) (bound : Int) (l : List Int) (n : Int) (w : World) (hn : val n = true) (hR : RRoom w lo g P bound l) (hl : l.length ≤ 1000) (hlo : lo ≤ w.heap.size) :
    Calls Tryz.prog 83 #[.pointer (some ⟨g, 0, none⟩), .int .i64 n] w fun e w' => e = .returned (.int .i64 0) ∧ RRoom w' lo g P bound (l ++ [n]) ∧ Only g w w' := by
  have V := fun W => Jp.rright_any n W
  rw [hn] at V
  obtain ⟨a, cap, r, i, c, m, s, q⟩ := hR
  have T := Lib.hid r
  have HI := Lib.hid i
  have c2 := (r.alloc (.cells #[] 3)).cell 2 (v := .slice a l.length cap) rfl
  have L0 := Lib.hid (OwnI.lit0 (k := .i64) (te := 3) (w := w) (base := w.heap.size) (Nat.le_refl _))
  have B0 := Lib.hid ((Below.refl w.heap.size w).alloc (Nat.le_refl _) (.cells #[] 3))
  have hgl := r.lt
  clear hn r i
  go_enter Tryz.func83, Tryz.ntmps83
  go_wp2_with (first
    | (go_at_call 110; (refine (V _).mono ?_; rintro e w' ⟨rfl, rfl⟩))
    | (with_reducible show wpList _ _ _ (⟨some 16, _, _, _, _, _⟩ :: _) _ _; refine wpList_appendI rfl _ _ 55 rfl .i64 w.heap.size 3 8 Tryz.underlying55 rinfo (.slice (some ⟨w.heap.size, 0, none⟩) 0 0) [] a l.length cap l rfl rfl rfl L0.out (HI.out.below ((Below.refl w.heap.size w).alloc (Nat.le_refl _) _)) (fits_a hl) (fits_b hl) w B0.out (Nat.le_refl _) ?_; intro v1 w1 own1 b1; rw [List.nil_append] at own1; have O1 := Lib.hid own1; have B1 := Lib.hid b1; clear own1 b1)
    | (with_reducible show wpList _ _ _ (⟨some 19, _, _, _, _, _⟩ :: _) _ _; refine wpList_append1 rfl _ _ 55 rfl .i64 w.heap.size 3 8 Tryz.underlying55 rinfo v1 l n _ rfl rfl O1.out (by omega) (by omega) w B1.out (Nat.le_refl _) ?_; intro v2 w2 own2 b2; obtain ⟨a2, cap2, rfl, i2, q2, m2⟩ := own2.form2; have O2 := Lib.hid own2; have B2 := Lib.hid b2; have T2 := Lib.hid (T.out.below b2 hgl); have I2 := Lib.hid i2; have k2 := T2.out.cell 2 (v := _) rfl; have f2 := T2.out.frozen 2; clear own2 b2 i2))
  have E := rvote_end (k := l.length + 1) T2.out (by simpa using O2.out) I2.out (by simp) B2.out q2 m2 hlo q
  go_ret
  exact ⟨rfl, E.1, E.2⟩
/-- Whatever is voted: all votes then. -/
def va (l : List Int) (n : Int) : List Int := if val n = true then l ++ [n] else l
theorem rvote_any (lo g P : Nat) (bound : Int) (l : List Int) (n : Int) (w : World) (hR : RRoom w lo g P bound l) (hl : l.length ≤ 1000) (hlo : lo ≤ w.heap.size) :
    Calls Tryz.prog 83 #[.pointer (some ⟨g, 0, none⟩), .int .i64 n] w fun e w' => e = .returned (.int .i64 (Jp.ce n)) ∧ RRoom w' lo g P bound (va l n) ∧ Only g w w' := by
  cases hn : val n
  · rw [Jp.ce_no hn]
    refine (rvote_no _ n w hn).mono ?_
    rintro e w' ⟨rfl, rfl⟩
    exact ⟨rfl, by unfold va; rw [hn]; exact hR, But.refl _ _⟩
  · rw [Jp.ce_yes hn]
    refine (rvote_yes lo g P bound l n w hn hR hl hlo).mono ?_
    rintro e w' ⟨rfl, h1, h2⟩
    exact ⟨rfl, by unfold va; rw [if_pos hn]; exact h1, h2⟩
set_option maxHeartbeats 1600000 in
theorem rvotes_any (lo g P : Nat) (bound : Int) (l : List Int) (w : World) (hR : RRoom w lo g P bound l) (hl : l.length ≤ 1000) (h1 : 1 ≤ P) (h2 : P ≤ 15) :
    Calls Tryz.prog 132 #[.pointer (some ⟨g, 0, none⟩)] w (RetI .i64 w (lastN P l)) := by
  obtain ⟨a, cap, r, i, c, m, s, q⟩ := hR
  have c0 := r.cell 0 (v := .int .i64 ((P : Int) + 1)) rfl
  have c2 := r.cell 2 (v := .slice a l.length cap) rfl
  have HI := Lib.hid i
  clear r i s q
  have hm2 : cap ≤ 9223372036854775807 := m
  by_cases h : l.length ≤ P
  · have HL := Lib.hid (show lastN P l = l from lastN_short h)
    have hz : (l.length : Int) - P ≤ 0 := by omega
    go_enter Tryz.func132, Tryz.ntmps132
    go_wp2
    go_quiet (fail)
    go_wp2
    go_ret
    exact retI_mk HL.out.symm rfl (HI.out.drewN _) (below_drewN (Below.refl _ w) _)
  · obtain ⟨k, hk⟩ : ∃ k, l.length = k + P := ⟨l.length - P, by omega⟩
    have HL := Lib.hid (show l.drop k = lastN P l by unfold lastN; rw [hk, Nat.add_sub_cancel])
    have HK := Lib.hid (show (l.drop k).length = P by simp; omega)
    rcases HI.out with h0 | ⟨b, off, rfl, hc⟩
    · rw [h0] at hk; simp at hk; omega
    have ID := Lib.hid (intsAt_drop k hc)
    have kp : 0 < (k : Int) := by omega
    have kc : k + P ≤ cap := by omega
    have kl : k + P ≤ 1000 := by omega
    rw [hk] at c2
    clear hc h c m hl hk HI
    go_enter Tryz.func132, Tryz.ntmps132
    go_wp2
    go_quiet (fail)
    go_wp2
    go_ret
    exact retI_mk HL.out HK.out (ID.out.drewN _) (below_drewN (Below.refl _ w) _)
set_option maxHeartbeats 1600000 in
theorem rmoved_any (lo g P : Nat) (bound : Int) (l : List Int) (w : World) (hR : RRoom w lo g P bound l) (hl : l.length ≤ 1000) (h1 : 1 ≤ P) (h2 : P ≤ 15) :
    Calls Tryz.prog 111 #[.pointer (some ⟨g, 0, none⟩)] w fun e w' => e = .returned (.bool (moved P bound (lastN P l))) ∧ Below w.heap.size w w' := by
  have CV := rvotes_any lo g P bound l w hR hl h1 h2
  have hle := lastN_le P l
  obtain ⟨a, cap, r, _⟩ := hR
  have c0 := r.cell 0 (v := .int .i64 ((P : Int) + 1)) rfl
  have c1 := r.cell 1 (v := .int .i64 bound) rfl
  have hM : moved P bound (lastN P l) = (decide ((lastN P l).length = P) && decide (bound < Od.spread (lastN P l))) := rfl
  generalize moved P bound (lastN P l) = M at *
  generalize lastN P l = V at *
  clear r
  cases d : decide (V.length = P)
  · rw [d, Bool.false_and] at hM
    have HM := Lib.hid hM
    have d2 : ((V.length : Int) == (P : Int)) = false := by have := d; simp at this ⊢; omega
    clear hM
    go_enter Tryz.func111, Tryz.ntmps111
    go_wp2_with fail
    refine CV.mono ?_; rintro e w1 ⟨a1, cap1, rfl, i1, b1⟩
    have k0 := (b1.cell (p := ⟨g, 0, none⟩) (cell_lt c0)).trans c0
    have k1 := (b1.cell (p := ⟨g, 1, none⟩) (cell_lt c1)).trans c1
    have HB := Lib.hid b1
    clear c0 c1 b1 i1 CV
    go_wp2_with fail
    go_quiet (fail)
    go_wp2
    go_ret
    exact ⟨ret_bool HM.out.symm, below_drewN HB.out _⟩
  · rw [d, Bool.true_and] at hM
    have HM := Lib.hid hM
    have d2 : ((V.length : Int) == (P : Int)) = true := by have := d; simp at this ⊢; omega
    clear hM
    go_enter Tryz.func111, Tryz.ntmps111
    go_wp2_with fail
    refine CV.mono ?_; rintro e w1 ⟨a1, cap1, rfl, i1, b1⟩
    have k0 := cell_regrown ((b1.cell (p := ⟨g, 0, none⟩) (cell_lt c0)).trans c0)
    have k1 := cell_regrown ((b1.cell (p := ⟨g, 1, none⟩) (cell_lt c1)).trans c1)
    have HB := Lib.hid b1
    have cS := reg_call (w := w1) (fun W hW => Od.rspread_any a1 cap1 V W (by omega) (i1.below hW))
    clear c0 c1 b1 i1 CV
    go_wp2_with fail
    refine wp_region_quiet_below (by kernel_rfl) (by kernel_rfl) ?_
    repeat (go_big_quiet_step (exact cS _ _))
    refine wpQuiet_nil ?_
    intro _ hw'
    obtain ⟨⟨dq, osq⟩, hw''⟩ := hw'
    subst hw''
    go_wp2
    go_ret
    exact ⟨ret_bool HM.out.symm, grow HB.out (below_regrown w1 dq osq)⟩
end Sk
end Go.Proofs.YtacclmfbkiadbaaGreat

namespace Go.Proofs.YtacclmfbkiadbaaGreat
set_option maxRecDepth 100000
open Go.ChangeShapes Go.WideShapes Go.ChangeAt Go.RowKit Go.Deep
namespace Sk
open Fx (ret_bool)
open Jp (val)
/-- What is handed back: what came in a row, and whether it is frozen. -/
def RComeR (w : World) (out : List Int) (fz : Bool) (e : Ending) (w' : World) : Prop :=
  ∃ a cap, e = .returned (.tuple #[.slice a out.length cap, .bool fz, .int .i64 0]) ∧ IntsAt .i64 w' a out ∧ (∀ ad, a = some ad → w.heap.size ≤ ad.block) ∧ out.length ≤ cap ∧ cap ≤ maxLen ∧ Below w.heap.size w w'
theorem rcomeR_mk {w w1 w2 : World} {a : Option Addr} {k cap : Nat} {out : List Int} {fz fz' : Bool} (hk : out.length = k) (O : OwnI .i64 w.heap.size 3 w1 (.slice a k cap) out) (i : IntsAt .i64 w1 a out) (c : out.length ≤ cap) (m : cap ≤ maxLen) (hf : fz' = fz) (b1 : Below w.heap.size w w1) (b2 : Below w1.heap.size w1 w2) :
    RComeR w out fz (.returned (.tuple #[.slice a k cap, .bool fz', .int .i64 0])) w2 := by
  subst hk hf
  exact ⟨a, cap, rfl, i.below b2, own_lies O, c, m, grow b1 b2⟩
set_option maxHeartbeats 1600000 in
theorem rcome_first (lo g P : Nat) (bound : Int) (l : List Int) (ca : Option Addr) (cc : Nat) (c : List Int) (n : Int) (w : World) (hn : val n = true) (hR : RRoom w lo g P bound l) (hl : l.length ≤ 1000) (h1 : 1 ≤ P) (h2 : P ≤ 15) (hi : IntsAt .i64 w ca c) (hcl : c.length ≤ 1000) (hc : c = []) :
    Calls Tryz.prog 73 #[.pointer (some ⟨g, 0, none⟩), .slice ca c.length cc, .int .i64 n] w (RComeR w [n] (decide (P + 1 ≤ [n].length) && moved P bound (lastN P l))) := by
  have V := fun W => Jp.rright_any n W
  rw [hn] at V
  have CM := fun W h => rmoved_any lo g P bound l W h hl h1 h2
  have HR := Lib.hid hR
  have HI := Lib.hid hi
  have B0 := Lib.hid (Below.refl w.heap.size w)
  subst hc
  have O1 := Lib.hid (OwnI.nil (k := .i64) (base := w.heap.size) (t := 3) (w := w))
  have d4 : (P : Int) + 1 ≤ 1 ↔ False := by simp; omega
  have HF := Lib.hid (show (decide (P + 1 ≤ ([n] : List Int).length) && moved P bound (lastN P l)) = false by rw [show decide (P + 1 ≤ ([n] : List Int).length) = false by simp; omega, Bool.false_and])
  clear hn hR
  generalize moved P bound (lastN P l) = M at *
  go_enter Tryz.func73, Tryz.ntmps73
  go_wp2_with (first
      | (go_at_call 110; (refine (V _).mono ?_; rintro e w' ⟨rfl, rfl⟩))
      | (with_reducible show wpList _ _ _ (⟨some 33, _, _, _, _, _⟩ :: _) _ _; refine wpList_append1 rfl _ _ 55 rfl .i64 w.heap.size 3 8 Tryz.underlying55 rinfo (.slice none 0 0) [] n _ rfl rfl O1.out (by first | omega | (simp; done)) (by omega) w B0.out (Nat.le_refl _) ?_; intro v2 w2 own2 b2; obtain ⟨a2, cap2, rfl, i2, q2, m2⟩ := own2.form2; have O2 := Lib.hid own2; have B2 := Lib.hid b2; have R2 := Lib.hid (HR.out.below b2); have I2 := Lib.hid i2; clear own2 b2 i2)
      | (go_at_call 111; refine (CM _ R2.out).mono ?_; rintro e w3 ⟨rfl, b3⟩; have B3 := Lib.hid b3; have R3 := R2.out.below b3; obtain ⟨a9, cap9, r9, _⟩ := R3; have kw := r9.cell 0 (v := .int .i64 ((P : Int) + 1)) rfl; clear b3 r9))
  go_ret3
  exact rcomeR_mk (out := [n]) (by simp) (by simpa using O2.out) I2.out (by simpa using q2) m2 (HF.out.symm) B2.out B3.out
set_option maxHeartbeats 1600000 in
theorem rcome_other (lo g P : Nat) (bound : Int) (l : List Int) (ca : Option Addr) (cc : Nat) (c : List Int) (n : Int) (w : World) (hn : val n = true) (hR : RRoom w lo g P bound l) (hl : l.length ≤ 1000) (h1 : 1 ≤ P) (h2 : P ≤ 15) (hi : IntsAt .i64 w ca c) (hcl : c.length ≤ 1000) (hp : 0 < c.length) (hd : c.getD 0 0 ≠ n) :
    Calls Tryz.prog 73 #[.pointer (some ⟨g, 0, none⟩), .slice ca c.length cc, .int .i64 n] w (RComeR w [n] (decide (P + 1 ≤ [n].length) && moved P bound (lastN P l))) := by
  have V := fun W => Jp.rright_any n W
  rw [hn] at V
  have CM := fun W h => rmoved_any lo g P bound l W h hl h1 h2
  have HR := Lib.hid hR
  have HI := Lib.hid hi
  have B0 := Lib.hid (Below.refl w.heap.size w)
  have d4 : (P : Int) + 1 ≤ 1 ↔ False := by simp; omega
  have O1 := Lib.hid (OwnI.nil (k := .i64) (base := w.heap.size) (t := 3) (w := w))
  have HF := Lib.hid (show (decide (P + 1 ≤ ([n] : List Int).length) && moved P bound (lastN P l)) = false by rw [show decide (P + 1 ≤ ([n] : List Int).length) = false by simp; omega, Bool.false_and])
  rcases hi with h0 | ⟨b, off, rfl, hat⟩
  · rw [h0] at hp; simp at hp
  have k0 := hat 0 hp
  rw [Nat.add_zero] at k0
  generalize c.getD 0 0 = x at *
  have d5 : (x == n) = false := by simpa using hd
  have hp' : 0 < (c.length : Int) := by omega
  clear hat hd
  clear hn hR
  generalize moved P bound (lastN P l) = M at *
  go_enter Tryz.func73, Tryz.ntmps73
  go_wp2_with (first
      | (go_at_call 110; (refine (V _).mono ?_; rintro e w' ⟨rfl, rfl⟩))
      | (with_reducible show wpList _ _ _ (⟨some 33, _, _, _, _, _⟩ :: _) _ _; refine wpList_append1 rfl _ _ 55 rfl .i64 w.heap.size 3 8 Tryz.underlying55 rinfo (.slice none 0 0) [] n _ rfl rfl O1.out (by first | omega | (simp; done)) (by omega) w B0.out (Nat.le_refl _) ?_; intro v2 w2 own2 b2; obtain ⟨a2, cap2, rfl, i2, q2, m2⟩ := own2.form2; have O2 := Lib.hid own2; have B2 := Lib.hid b2; have R2 := Lib.hid (HR.out.below b2); have I2 := Lib.hid i2; clear own2 b2 i2)
      | (go_at_call 111; refine (CM _ R2.out).mono ?_; rintro e w3 ⟨rfl, b3⟩; have B3 := Lib.hid b3; have R3 := R2.out.below b3; obtain ⟨a9, cap9, r9, _⟩ := R3; have kw := r9.cell 0 (v := .int .i64 ((P : Int) + 1)) rfl; clear b3 r9))
  go_ret3
  exact rcomeR_mk (out := [n]) (by simp) (by simpa using O2.out) I2.out (by simpa using q2) m2 (HF.out.symm) B2.out B3.out
set_option maxHeartbeats 1600000 in
theorem rcome_again (lo g P : Nat) (bound : Int) (l : List Int) (ca : Option Addr) (cc : Nat) (c : List Int) (n : Int) (w : World) (hn : val n = true) (hR : RRoom w lo g P bound l) (hl : l.length ≤ 1000) (h1 : 1 ≤ P) (h2 : P ≤ 15) (hi : IntsAt .i64 w ca c) (hcl : c.length ≤ 1000) (hp : 0 < c.length) (hd : c.getD 0 0 = n) :
    Calls Tryz.prog 73 #[.pointer (some ⟨g, 0, none⟩), .slice ca c.length cc, .int .i64 n] w (RComeR w (c ++ [n]) (decide (P + 1 ≤ (c ++ [n]).length) && moved P bound (lastN P l))) := by
  have V := fun W => Jp.rright_any n W
  rw [hn] at V
  have CM := fun W h => rmoved_any lo g P bound l W h hl h1 h2
  have HR := Lib.hid hR
  have HI := Lib.hid hi
  have B0 := Lib.hid (Below.refl w.heap.size w)
  have O0 := Lib.hid (OwnI.nil (k := .i64) (base := w.heap.size) (t := 3) (w := w))
  have hM : (decide (P + 1 ≤ (c ++ [n]).length) && moved P bound (lastN P l)) = (decide ((P : Int) ≤ c.length) && moved P bound (lastN P l)) := by
    congr 1
    rw [List.length_append, decide_eq_decide]
    simp only [List.length_cons, List.length_nil]
    omega
  rcases hi with h0 | ⟨b, off, rfl, hat⟩
  · rw [h0] at hp; simp at hp
  have k0 := hat 0 hp
  rw [Nat.add_zero, hd] at k0
  have hp' : 0 < (c.length : Int) := by omega
  clear hat hd
  clear hn hR
  generalize moved P bound (lastN P l) = M at *
  have HM := Lib.hid hM
  clear hM
  go_enter Tryz.func73, Tryz.ntmps73
  go_wp2_with (first
      | (go_at_call 110; (refine (V _).mono ?_; rintro e w' ⟨rfl, rfl⟩))
      | (with_reducible show wpList _ _ _ (⟨some 29, _, _, _, _, _⟩ :: _) _ _; refine wpList_appendI rfl _ _ 55 rfl .i64 w.heap.size 3 8 Tryz.underlying55 rinfo (.slice none 0 0) [] _ c.length cc c rfl rfl rfl O0.out HI.out (fits_a hcl) (fits_b hcl) w B0.out (Nat.le_refl _) ?_; intro v1 w1 own1 b1; rw [List.nil_append] at own1; have O1 := Lib.hid own1; have B1 := Lib.hid b1; clear own1 b1)
      | (with_reducible show wpList _ _ _ (⟨some 33, _, _, _, _, _⟩ :: _) _ _; refine wpList_append1 rfl _ _ 55 rfl .i64 w.heap.size 3 8 Tryz.underlying55 rinfo v1 c n _ rfl rfl O1.out (by first | omega | (simp; done)) (by omega) w B1.out (Nat.le_refl _) ?_; intro v2 w2 own2 b2; obtain ⟨a2, cap2, rfl, i2, q2, m2⟩ := own2.form2; have O2 := Lib.hid own2; have B2 := Lib.hid b2; have R2 := Lib.hid (HR.out.below b2); have I2 := Lib.hid i2; clear own2 b2 i2)
      | (go_at_call 111; refine (CM _ R2.out).mono ?_; rintro e w3 ⟨rfl, b3⟩; have B3 := Lib.hid b3; have R3 := R2.out.below b3; obtain ⟨a9, cap9, r9, _⟩ := R3; have kw := r9.cell 0 (v := .int .i64 ((P : Int) + 1)) rfl; clear b3 r9))
  all_goals
    go_ret3
    exact rcomeR_mk (out := (c ++ [n])) (by simp) (by simpa using O2.out) I2.out (by simpa using q2) m2 (by first | (rw [HM.out, show decide ((P : Int) ≤ c.length) = true by simp; omega, Bool.true_and]) | (rw [HM.out, show decide ((P : Int) ≤ c.length) = false by simp; omega, Bool.false_and])) B2.out B3.out
/-- How often the last value came in a row. -/
def kk (last : Int) (k : Nat) (n : Int) : Nat := if n = last then k + 1 else 1
theorem rcome_rep (lo g P : Nat) (bound : Int) (l : List Int) (ca : Option Addr) (cc k : Nat) (last n : Int) (w : World) (hn : val n = true) (hR : RRoom w lo g P bound l) (hl : l.length ≤ 1000) (h1 : 1 ≤ P) (h2 : P ≤ 15) (hi : IntsAt .i64 w ca (List.replicate k last)) (hk : k ≤ 1000) :
    Calls Tryz.prog 73 #[.pointer (some ⟨g, 0, none⟩), .slice ca k cc, .int .i64 n] w (RComeR w (List.replicate (kk last k n) n) (decide (P + 1 ≤ kk last k n) && moved P bound (lastN P l))) := by
  have hlen : (List.replicate k last).length = k := by simp
  rcases Nat.eq_zero_or_pos k with h0 | h0
  · subst h0
    have e : kk last 0 n = 1 := by unfold kk; split <;> rfl
    rw [e]
    exact rcome_first lo g P bound l ca cc [] n w hn hR hl h1 h2 hi (by simp) rfl
  · have hd : (List.replicate k last).getD 0 0 = last := by simp [List.getD_eq_getElem?_getD, h0]
    by_cases hq : n = last
    · have e : List.replicate (kk last k n) n = List.replicate k last ++ [n] := by
        unfold kk; rw [if_pos hq, List.replicate_succ', hq]
      have e2 : (List.replicate k last ++ [n]).length = kk last k n := by rw [← e]; simp
      have C := rcome_again lo g P bound l ca cc (List.replicate k last) n w hn hR hl h1 h2 hi (by rw [hlen]; exact hk) (by rw [hlen]; exact h0) (by rw [hd, hq])
      rw [e2, hlen, ← e] at C
      exact C
    · have e : kk last k n = 1 := by unfold kk; rw [if_neg hq]
      have C := rcome_other lo g P bound l ca cc (List.replicate k last) n w hn hR hl h1 h2 hi (by rw [hlen]; exact hk) (by rw [hlen]; exact h0) (by rw [hd]; exact fun q => hq q.symm)
      rw [hlen] at C
      rw [e]
      exact C
end Sk
end Go.Proofs.YtacclmfbkiadbaaGreat

namespace Go.Proofs.YtacclmfbkiadbaaGreat
set_option maxRecDepth 100000
open Go.ChangeShapes Go.WideShapes Go.ChangeAt Go.RowKit Go.Deep
namespace Sk
open Jp (val)
/-- The document's room; its votes lie behind m. -/
def RRb (w : World) (m g P : Nat) (bound : Int) (l : List Int) : Prop :=
  ∃ a cap, VRow w g 118 (rrm ((P : Int) + 1) bound (.slice a l.length cap)) ∧ IntsAt .i64 w a l ∧ l.length ≤ cap ∧ cap ≤ maxLen ∧ ∀ ad, a = some ad → m ≤ ad.block
theorem RRb.room {w : World} {m g P : Nat} {bound : Int} {l : List Int} (h : RRb w m g P bound l) (hg : g < m) : RRoom w m g P bound l := by
  obtain ⟨a, cap, h1, h2, h3, h4, h5⟩ := h
  exact ⟨a, cap, h1, h2, h3, h4, h5, hg⟩
theorem rvoteb_end {w w2 : World} {g P k cap2 : Nat} {bound : Int} {s : Value} {a2 : Option Addr} {l : List Int} (T : VRow w2 g 118 (rrm ((P : Int) + 1) bound s)) (O : OwnI .i64 w.heap.size 3 w2 (.slice a2 k cap2) l) (i : IntsAt .i64 w2 a2 l) (hk : l.length = k)
    (b : Below w.heap.size w w2) (c : l.length ≤ cap2) (m : cap2 ≤ maxLen) (hg : g < w.heap.size) :
    RRb (w2.setCell ⟨g, 2, none⟩ (.slice a2 k cap2)) w.heap.size g P bound l ∧ Only g w (w2.setCell ⟨g, 2, none⟩ (.slice a2 k cap2)) := by
  subst hk
  have hs := own_lies O
  have o : But (· = g) w2 (w2.setCell ⟨g, 2, none⟩ (.slice a2 l.length cap2)) := (But.refl (· = g) w2).setCell (p := ⟨g, 2, none⟩) (Or.inl rfl) _
  refine ⟨⟨a2, cap2, T.set 2 _, i.but o (fun ad e => ?_), c, m, fun ad e => hs ad e⟩, (But.of_below b).trans o⟩
  have := hs ad e
  show ¬ ad.block = g
  omega
set_option maxHeartbeats 1600000 in
theorem rvoteb_yes (lo g P : Nat) (bound : Int) (l : List Int) (n : Int) (w : World) (hn : val n = true) (hR : RRoom w lo g P bound l) (hl : l.length ≤ 1000) :
    Calls Tryz.prog 83 #[.pointer (some ⟨g, 0, none⟩), .int .i64 n] w fun e w' => e = .returned (.int .i64 0) ∧ RRb w' w.heap.size g P bound (l ++ [n]) ∧ Only g w w' := by
  have V := fun W => Jp.rright_any n W
  rw [hn] at V
  obtain ⟨a, cap, r, i, c, m, s, q⟩ := hR
  have T := Lib.hid r
  have HI := Lib.hid i
  have c2 := (r.alloc (.cells #[] 3)).cell 2 (v := .slice a l.length cap) rfl
  have L0 := Lib.hid (OwnI.lit0 (k := .i64) (te := 3) (w := w) (base := w.heap.size) (Nat.le_refl _))
  have B0 := Lib.hid ((Below.refl w.heap.size w).alloc (Nat.le_refl _) (.cells #[] 3))
  have hgl := r.lt
  clear hn r i
  go_enter Tryz.func83, Tryz.ntmps83
  go_wp2_with (first
    | (go_at_call 110; (refine (V _).mono ?_; rintro e w' ⟨rfl, rfl⟩))
    | (with_reducible show wpList _ _ _ (⟨some 16, _, _, _, _, _⟩ :: _) _ _; refine wpList_appendI rfl _ _ 55 rfl .i64 w.heap.size 3 8 Tryz.underlying55 rinfo (.slice (some ⟨w.heap.size, 0, none⟩) 0 0) [] a l.length cap l rfl rfl rfl L0.out (HI.out.below ((Below.refl w.heap.size w).alloc (Nat.le_refl _) _)) (fits_a hl) (fits_b hl) w B0.out (Nat.le_refl _) ?_; intro v1 w1 own1 b1; rw [List.nil_append] at own1; have O1 := Lib.hid own1; have B1 := Lib.hid b1; clear own1 b1)
    | (with_reducible show wpList _ _ _ (⟨some 19, _, _, _, _, _⟩ :: _) _ _; refine wpList_append1 rfl _ _ 55 rfl .i64 w.heap.size 3 8 Tryz.underlying55 rinfo v1 l n _ rfl rfl O1.out (by omega) (by omega) w B1.out (Nat.le_refl _) ?_; intro v2 w2 own2 b2; obtain ⟨a2, cap2, rfl, i2, q2, m2⟩ := own2.form2; have O2 := Lib.hid own2; have B2 := Lib.hid b2; have T2 := Lib.hid (T.out.below b2 hgl); have I2 := Lib.hid i2; have k2 := T2.out.cell 2 (v := _) rfl; have f2 := T2.out.frozen 2; clear own2 b2 i2))
  have E := rvoteb_end (k := l.length + 1) T2.out (by simpa using O2.out) I2.out (by simp) B2.out q2 m2 hgl
  go_ret
  exact ⟨rfl, E.1, E.2⟩
end Sk
end Go.Proofs.YtacclmfbkiadbaaGreat
