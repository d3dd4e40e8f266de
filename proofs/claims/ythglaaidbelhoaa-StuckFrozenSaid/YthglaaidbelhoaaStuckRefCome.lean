/-
  What Come of package rudderref09 does: its contract by walking the Go text. Conditions: where the room and the values lie; how many there are.
-/
import Derived.Test.YthglaaidbelhoaaStuckRef
namespace Go.Proofs.Ythglaaidbelhoaa
open Go.ChangeShapes Go.WideShapes Go.ChangeAt Go.RowKit Go.Deep
namespace Sk
open Fx (ret_bool)
open Jp (val)

theorem rcome_no (p : Option Addr) (s : Value) (n : Int) (w : World) (hn : val n = false) :
    Calls Try.prog 14 #[.pointer p, s, .int .i64 n] w fun e w' => e = .returned (.tuple #[s, .bool false, .int .i64 1]) ∧ w = w' := by
  have V := fun W => Jp.rright_any n W
  rw [hn] at V
  go_enter Try.func14, Try.ntmps14
  go_wp2_with (go_at_call 23; (refine (V _).mono ?_; rintro e w' ⟨rfl, rfl⟩))
  go_ret3
  exact ⟨rfl, rfl⟩

/-- What is handed back: what came in a row, and whether it is frozen. -/
def RComeR (w : World) (out : List Int) (fz : Bool) (e : Ending) (w' : World) : Prop :=
  ∃ a cap, e = .returned (.tuple #[.slice a out.length cap, .bool fz, .int .i64 0]) ∧ IntsAt .i64 w' a out ∧ (∀ ad, a = some ad → w.heap.size ≤ ad.block) ∧ out.length ≤ cap ∧ cap ≤ maxLen ∧ Below w.heap.size w w'
theorem rcomeR_mk {w w1 w2 : World} {a : Option Addr} {k cap : Nat} {out : List Int} {fz fz' : Bool} (hk : out.length = k) (O : OwnI .i64 w.heap.size 3 w1 (.slice a k cap) out) (i : IntsAt .i64 w1 a out) (c : out.length ≤ cap) (m : cap ≤ maxLen) (hf : fz' = fz) (b1 : Below w.heap.size w w1) (b2 : Below w1.heap.size w1 w2) :
    RComeR w out fz (.returned (.tuple #[.slice a k cap, .bool fz', .int .i64 0])) w2 := by
  subst hk hf
  exact ⟨a, cap, rfl, i.below b2, own_lies O, c, m, grow b1 b2⟩

set_option maxHeartbeats 1600000 in
theorem rcome_first (lo g P : Nat) (bound : Int) (l : List Int) (ca : Option Addr) (cc : Nat) (c : List Int) (n : Int) (w : World) (hn : val n = true) (hR : RRoom w lo g P bound l) (hl : l.length ≤ 1000) (h1 : 1 ≤ P) (h2 : P ≤ 15) (hi : IntsAt .i64 w ca c) (hcl : c.length ≤ 1000) (hc : c = []) :
    Calls Try.prog 14 #[.pointer (some ⟨g, 0, none⟩), .slice ca c.length cc, .int .i64 n] w (RComeR w [n] (decide (P + 1 ≤ [n].length) && moved P bound (lastN P l))) := by
  have V := fun W => Jp.rright_any n W
  rw [hn] at V
  have CM := fun W h => rmoved_any lo g P bound l W h hl h1 h2
  have HR := Lib.hid hR
  have HI := Lib.hid hi
  have B0 := Lib.hid (Below.refl w.heap.size w)
  subst hc
  have O1 := Lib.hid (OwnI.nil (k := .i64) (base := w.heap.size) (t := 3) (w := w))
  have d4 : (P : Int) + 1 ≤ 1 ↔ False := by simp; omega
  have HF := Lib.hid (show (decide (P + 1 ≤ ([n] : List Int).length) && moved P bound (lastN P l)) = false by rw [show decide (P + 1 ≤ ([n] : List Int).length) = false by simp; omega, Bool.false_and])
  clear hn hR
  generalize moved P bound (lastN P l) = M at *
  go_enter Try.func14, Try.ntmps14
  go_wp2_with (first
      | (go_at_call 23; (refine (V _).mono ?_; rintro e w' ⟨rfl, rfl⟩))
      | (with_reducible show wpList _ _ _ (⟨some 33, _, _, _, _, _⟩ :: _) _ _; refine wpList_append1 rfl _ _ 33 rfl .i64 w.heap.size 3 8 Try.underlying33 rinfo (.slice none 0 0) [] n _ rfl rfl O1.out (by first | omega | (simp; done)) (by omega) w B0.out (Nat.le_refl _) ?_; intro v2 w2 own2 b2; obtain ⟨a2, cap2, rfl, i2, q2, m2⟩ := own2.form2; have O2 := Lib.hid own2; have B2 := Lib.hid b2; have R2 := Lib.hid (HR.out.below b2); have I2 := Lib.hid i2; clear own2 b2 i2)
      | (go_at_call 19; refine (CM _ R2.out).mono ?_; rintro e w3 ⟨rfl, b3⟩; have B3 := Lib.hid b3; have R3 := R2.out.below b3; obtain ⟨a9, cap9, r9, _⟩ := R3; have kw := r9.cell 0 (v := .int .i64 ((P : Int) + 1)) rfl; clear b3 r9))
  go_ret3
  exact rcomeR_mk (out := [n]) (by simp) (by simpa using O2.out) I2.out (by simpa using q2) m2 (HF.out.symm) B2.out B3.out

set_option maxHeartbeats 1600000 in
theorem rcome_other (lo g P : Nat) (bound : Int) (l : List Int) (ca : Option Addr) (cc : Nat) (c : List Int) (n : Int) (w : World) (hn : val n = true) (hR : RRoom w lo g P bound l) (hl : l.length ≤ 1000) (h1 : 1 ≤ P) (h2 : P ≤ 15) (hi : IntsAt .i64 w ca c) (hcl : c.length ≤ 1000) (hp : 0 < c.length) (hd : c.getD 0 0 ≠ n) :
    Calls Try.prog 14 #[.pointer (some ⟨g, 0, none⟩), .slice ca c.length cc, .int .i64 n] w (RComeR w [n] (decide (P + 1 ≤ [n].length) && moved P bound (lastN P l))) := by
  have V := fun W => Jp.rright_any n W
  rw [hn] at V
  have CM := fun W h => rmoved_any lo g P bound l W h hl h1 h2
  have HR := Lib.hid hR
  have HI := Lib.hid hi
  have B0 := Lib.hid (Below.refl w.heap.size w)
  have d4 : (P : Int) + 1 ≤ 1 ↔ False := by simp; omega
  have O1 := Lib.hid (OwnI.nil (k := .i64) (base := w.heap.size) (t := 3) (w := w))
  have HF := Lib.hid (show (decide (P + 1 ≤ ([n] : List Int).length) && moved P bound (lastN P l)) = false by rw [show decide (P + 1 ≤ ([n] : List Int).length) = false by simp; omega, Bool.false_and])
  rcases hi with h0 | ⟨b, off, rfl, hat⟩
  · rw [h0] at hp; simp at hp
  have k0 := hat 0 hp
  rw [Nat.add_zero] at k0
  generalize c.getD 0 0 = x at *
  have d5 : (x == n) = false := by simpa using hd
  have hp' : 0 < (c.length : Int) := by omega
  clear hat hd
  clear hn hR
  generalize moved P bound (lastN P l) = M at *
  go_enter Try.func14, Try.ntmps14
  go_wp2_with (first
      | (go_at_call 23; (refine (V _).mono ?_; rintro e w' ⟨rfl, rfl⟩))
      | (with_reducible show wpList _ _ _ (⟨some 33, _, _, _, _, _⟩ :: _) _ _; refine wpList_append1 rfl _ _ 33 rfl .i64 w.heap.size 3 8 Try.underlying33 rinfo (.slice none 0 0) [] n _ rfl rfl O1.out (by first | omega | (simp; done)) (by omega) w B0.out (Nat.le_refl _) ?_; intro v2 w2 own2 b2; obtain ⟨a2, cap2, rfl, i2, q2, m2⟩ := own2.form2; have O2 := Lib.hid own2; have B2 := Lib.hid b2; have R2 := Lib.hid (HR.out.below b2); have I2 := Lib.hid i2; clear own2 b2 i2)
      | (go_at_call 19; refine (CM _ R2.out).mono ?_; rintro e w3 ⟨rfl, b3⟩; have B3 := Lib.hid b3; have R3 := R2.out.below b3; obtain ⟨a9, cap9, r9, _⟩ := R3; have kw := r9.cell 0 (v := .int .i64 ((P : Int) + 1)) rfl; clear b3 r9))
  go_ret3
  exact rcomeR_mk (out := [n]) (by simp) (by simpa using O2.out) I2.out (by simpa using q2) m2 (HF.out.symm) B2.out B3.out

set_option maxHeartbeats 1600000 in
theorem rcome_again (lo g P : Nat) (bound : Int) (l : List Int) (ca : Option Addr) (cc : Nat) (c : List Int) (n : Int) (w : World) (hn : val n = true) (hR : RRoom w lo g P bound l) (hl : l.length ≤ 1000) (h1 : 1 ≤ P) (h2 : P ≤ 15) (hi : IntsAt .i64 w ca c) (hcl : c.length ≤ 1000) (hp : 0 < c.length) (hd : c.getD 0 0 = n) :
    Calls Try.prog 14 #[.pointer (some ⟨g, 0, none⟩), .slice ca c.length cc, .int .i64 n] w (RComeR w (c ++ [n]) (decide (P + 1 ≤ (c ++ [n]).length) && moved P bound (lastN P l))) := by
  have V := fun W => Jp.rright_any n W
  rw [hn] at V
  have CM := fun W h => rmoved_any lo g P bound l W h hl h1 h2
  have HR := Lib.hid hR
  have HI := Lib.hid hi
  have B0 := Lib.hid (Below.refl w.heap.size w)
  have O0 := Lib.hid (OwnI.nil (k := .i64) (base := w.heap.size) (t := 3) (w := w))
  have hM : (decide (P + 1 ≤ (c ++ [n]).length) && moved P bound (lastN P l)) = (decide ((P : Int) ≤ c.length) && moved P bound (lastN P l)) := by
    congr 1
    rw [List.length_append, decide_eq_decide]
    simp only [List.length_cons, List.length_nil]
    omega
  rcases hi with h0 | ⟨b, off, rfl, hat⟩
  · rw [h0] at hp; simp at hp
  have k0 := hat 0 hp
  rw [Nat.add_zero, hd] at k0
  have hp' : 0 < (c.length : Int) := by omega
  clear hat hd
  clear hn hR
  generalize moved P bound (lastN P l) = M at *
  have HM := Lib.hid hM
  clear hM
  go_enter Try.func14, Try.ntmps14
  go_wp2_with (first
      | (go_at_call 23; (refine (V _).mono ?_; rintro e w' ⟨rfl, rfl⟩))
      | (with_reducible show wpList _ _ _ (⟨some 29, _, _, _, _, _⟩ :: _) _ _; refine wpList_appendI rfl _ _ 33 rfl .i64 w.heap.size 3 8 Try.underlying33 rinfo (.slice none 0 0) [] _ c.length cc c rfl rfl rfl O0.out HI.out (fits_a hcl) (fits_b hcl) w B0.out (Nat.le_refl _) ?_; intro v1 w1 own1 b1; rw [List.nil_append] at own1; have O1 := Lib.hid own1; have B1 := Lib.hid b1; clear own1 b1)
      | (with_reducible show wpList _ _ _ (⟨some 33, _, _, _, _, _⟩ :: _) _ _; refine wpList_append1 rfl _ _ 33 rfl .i64 w.heap.size 3 8 Try.underlying33 rinfo v1 c n _ rfl rfl O1.out (by first | omega | (simp; done)) (by omega) w B1.out (Nat.le_refl _) ?_; intro v2 w2 own2 b2; obtain ⟨a2, cap2, rfl, i2, q2, m2⟩ := own2.form2; have O2 := Lib.hid own2; have B2 := Lib.hid b2; have R2 := Lib.hid (HR.out.below b2); have I2 := Lib.hid i2; clear own2 b2 i2)
      | (go_at_call 19; refine (CM _ R2.out).mono ?_; rintro e w3 ⟨rfl, b3⟩; have B3 := Lib.hid b3; have R3 := R2.out.below b3; obtain ⟨a9, cap9, r9, _⟩ := R3; have kw := r9.cell 0 (v := .int .i64 ((P : Int) + 1)) rfl; clear b3 r9))
  all_goals
    go_ret3
    exact rcomeR_mk (out := (c ++ [n])) (by simp) (by simpa using O2.out) I2.out (by simpa using q2) m2 (by first | (rw [HM.out, show decide ((P : Int) ≤ c.length) = true by simp; omega, Bool.true_and]) | (rw [HM.out, show decide ((P : Int) ≤ c.length) = false by simp; omega, Bool.false_and])) B2.out B3.out

/-- How often the last value came in a row. -/
def kk (last : Int) (k : Nat) (n : Int) : Nat := if n = last then k + 1 else 1
theorem rcome_rep (lo g P : Nat) (bound : Int) (l : List Int) (ca : Option Addr) (cc k : Nat) (last n : Int) (w : World) (hn : val n = true) (hR : RRoom w lo g P bound l) (hl : l.length ≤ 1000) (h1 : 1 ≤ P) (h2 : P ≤ 15) (hi : IntsAt .i64 w ca (List.replicate k last)) (hk : k ≤ 1000) :
    Calls Try.prog 14 #[.pointer (some ⟨g, 0, none⟩), .slice ca k cc, .int .i64 n] w (RComeR w (List.replicate (kk last k n) n) (decide (P + 1 ≤ kk last k n) && moved P bound (lastN P l))) := by
  have hlen : (List.replicate k last).length = k := by simp
  rcases Nat.eq_zero_or_pos k with h0 | h0
  · subst h0
    have e : kk last 0 n = 1 := by unfold kk; split <;> rfl
    rw [e]
    exact rcome_first lo g P bound l ca cc [] n w hn hR hl h1 h2 hi (by simp) rfl
  · have hd : (List.replicate k last).getD 0 0 = last := by simp [List.getD_eq_getElem?_getD, h0]
    by_cases hq : n = last
    · have e : List.replicate (kk last k n) n = List.replicate k last ++ [n] := by
        unfold kk; rw [if_pos hq, List.replicate_succ', hq]
      have e2 : (List.replicate k last ++ [n]).length = kk last k n := by rw [← e]; simp
      have C := rcome_again lo g P bound l ca cc (List.replicate k last) n w hn hR hl h1 h2 hi (by rw [hlen]; exact hk) (by rw [hlen]; exact h0) (by rw [hd, hq])
      rw [e2, hlen, ← e] at C
      exact C
    · have e : kk last k n = 1 := by unfold kk; rw [if_neg hq]
      have C := rcome_other lo g P bound l ca cc (List.replicate k last) n w hn hR hl h1 h2 hi (by rw [hlen]; exact hk) (by rw [hlen]; exact h0) (by rw [hd]; exact fun q => hq q.symm)
      rw [hlen] at C
      rw [e]
      exact C
end Sk
end Go.Proofs.Ythglaaidbelhoaa
