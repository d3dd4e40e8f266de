/-
  LatchRow, walked: it is latched, or out, just behind so many tripped cycles in a row; it comes back just behind so many that are not; who is out, stays out. Its conditions: where the list lies, what the kinds hold.
-/
import Derived.Test.YtcpfdohodadcaaaLatchAlive
namespace Go.Proofs.Ytcpfdohodadcaaa
open Go.ChangeShapes Go.WideShapes Go.ChangeAt Go.RowKit Go.Deep
namespace Lc

/-- The ways a cycle can go. -/
inductive Way (L C B : Int) : St → Bool → St → Int → Prop
  | out (t : Bool) : Way L C B ⟨true, true, L, 0, B⟩ t ⟨true, true, L, 0, B⟩ 0
  | latT {c b : Int} (hc : 0 ≤ c ∧ c < C) (hb : 0 ≤ b ∧ b < B) : Way L C B ⟨true, false, L, c, b⟩ true ⟨true, false, L, 0, b⟩ 0
  | latC {c b : Int} (hc : 0 ≤ c ∧ c < C) (hb : 0 ≤ b ∧ b < B) (d : c + 1 < C) : Way L C B ⟨true, false, L, c, b⟩ false ⟨true, false, L, c + 1, b⟩ 0
  | latD {c b : Int} (hc : 0 ≤ c ∧ c < C) (hb : 0 ≤ b ∧ b < B) (d : c + 1 = C) : Way L C B ⟨true, false, L, c, b⟩ false ⟨false, false, 0, 0, b + 1⟩ 2
  | inN {s b : Int} (hs : 0 ≤ s ∧ s < L) (hb : 0 ≤ b ∧ b ≤ B) : Way L C B ⟨false, false, s, 0, b⟩ false ⟨false, false, 0, 0, b⟩ 0
  | inF {s b : Int} (hs : 0 ≤ s ∧ s < L) (hb : 0 ≤ b ∧ b ≤ B) (d : s + 1 < L) : Way L C B ⟨false, false, s, 0, b⟩ true ⟨false, false, s + 1, 0, b⟩ 0
  | inG {s b : Int} (hs : 0 ≤ s ∧ s < L) (hb : 0 ≤ b ∧ b ≤ B) (d : s + 1 = L) (p : b = B) : Way L C B ⟨false, false, s, 0, b⟩ true ⟨true, true, L, 0, b⟩ 3
  | inH {s b : Int} (hs : 0 ≤ s ∧ s < L) (hb : 0 ≤ b ∧ b ≤ B) (d : s + 1 = L) (p : b < B) : Way L C B ⟨false, false, s, 0, b⟩ true ⟨true, false, L, 0, b⟩ 1
theorem way {L C B : Int} {s : St} (hf : Fin L C B s) (t : Bool) : Way L C B s t (ste L C B s t) (wha L C B s t) := by
  cases hf with
  | out => simpa [ste, wha] using Way.out t
  | @latched c b hc hb =>
    cases t
    · by_cases d : c + 1 < C
      · simpa [ste, wha, d] using Way.latC hc hb d
      · simpa [ste, wha, d] using Way.latD (L := L) hc hb (by omega)
    · simpa [ste, wha] using Way.latT hc hb
  | @«in» s b hs hb =>
    cases t
    · simpa [ste, wha] using Way.inN hs hb
    · by_cases d : s + 1 < L
      · simpa [ste, wha, d] using Way.inF hs hb d
      · have e : s + 1 = L := by omega
        by_cases p : b < B
        · simpa [ste, wha, d, p, e] using Way.inH (C := C) hs hb e p
        · have e' : b = B := by omega
          simpa [ste, wha, d, p, e, e'] using Way.inG (C := C) hs hb e e'
theorem whas_get (L C B : Int) : ∀ (s : St) (l : List Bool) (k : Nat), k < l.length → (whas L C B s l).getD k 0 = wha L C B (runs L C B s (l.take k)) (l.getD k false)
  | _, [], _, h => by simp at h
  | s, t :: l, 0, _ => rfl
  | s, t :: l, k + 1, h => by
    have := whas_get L C B (ste L C B s t) l k (by simpa using h)
    simpa [whas, runs] using this
theorem bq_no {a b : Int} (h : a ≠ b) : (a == b) = false := by simpa using h
theorem bq_yes {a b : Int} (h : a = b) : (a == b) = true := by simpa using h
/-- How many in a row there are. -/
def inrow (s : St) : Int := if s.ou then 0 else if s.la then s.cl else s.st

/-- What lies about in the law. -/
structure Lw (w W : World) (L C B : Int) (a a2 : Option Addr) (l : List Bool) : Prop where
  below : Below w.heap.size w W
  rule : VRow W w.heap.size 23 (rlr L C B)
  list : BoolsAt W a l
  what : IntsAt .i64 W a2 (whas L C B zer l)

theorem Lw.on {w W W' : World} {L C B : Int} {a a2 : Option Addr} {l : List Bool} (h : Lw w W L C B a a2 l) (b : Below W.heap.size W W') : Lw w W' L C B a a2 l := ⟨grow h.below b, onB h.rule b, h.list.below b, h.what.below b⟩

set_option maxRecDepth 100000 in
set_option maxHeartbeats 3200000 in
theorem row_main (L C B : Int) (a : Option Addr) (cap : Nat) (l : List Bool) (w : World) (hr : rgt L C B = true) (h3 : ¬ 300 < l.length) (hb : BoolsAt w a l) :
    Calls Try.prog 5 #[rlv L C B, .slice a l.length cap] w fun e w' => e = .returned (.bool true) ∧ Below w.heap.size w w' := by
  have CA := alive_any
  have C0 := fun W => right_any L C B W
  have HR := Lib.hid (rgt_iff.1 hr)
  obtain ⟨h1, h2, h3', h4, h5, h6⟩ := HR.out
  have C1 := fun W (hb : BoolsAt W a l) => run_any L C B a cap l W (by omega) hb
  unfold RetRun at C1
  rw [hr] at C0 C1
  simp only [if_true, whas_len] at C1
  clear hr
  have HB := Lib.hid hb
  clear hb
  have hl3 : l.length ≤ 300 := by omega
  have d3 : decide (300 < (l.length : Int)) = false := by simp; omega
  clear h3
  unfold rlv stv at *
  go_enter Try.func5, Try.ntmps5
  go_wp2_with fail
  refine (C0 _).mono ?_
  rintro e w1 ⟨rfl, b1⟩
  have B1 := Lib.hid (grow_alloc (Below.refl w.heap.size w) b1)
  have R1 := Lib.hid (onB (VRow.new w (rlr L C B) 23) b1)
  clear b1 C0
  go_wp2_with (((with_reducible show wpList _ _ _ (⟨some 27, _, _, _, _, _⟩ :: _) _ _); refine VB.loaded (cs := rlr L C B) rfl _ rfl w.heap.size rfl R1.out Try.underlying23 rfl sizeR ?_))
  refine (C1 _ (HB.out.below B1.out)).mono ?_
  rintro e w2 ⟨a2, n2, c2, rfl, rfl, l2, m2, i2, b2⟩
  have A2 := Lib.hid (show Lw w w2 L C B a a2 l from ⟨grow B1.out b2, onB R1.out b2, (HB.out.below B1.out).below b2, i2⟩)
  clear b2 i2 B1 R1 l2 m2
  go_wp2_with fail
  have A3 := Lib.hid (A2.out.on ((Below.refl w2.heap.size w2).alloc (Nat.le_refl _) (.cells #[.bool (runs L C B zer l).la, .bool (runs L C B zer l).ou, .int .i64 (runs L C B zer l).st, .int .i64 (runs L C B zer l).cl, .int .i64 (runs L C B zer l).bk] 25)))
  generalize w2.alloc (.cells #[.bool (runs L C B zer l).la, .bool (runs L C B zer l).ou, .int .i64 (runs L C B zer l).st, .int .i64 (runs L C B zer l).cl, .int .i64 (runs L C B zer l).bk] 25) = W at *
  clear A2
  go_loopg [8, 9, 10, 11, 12] l.length (fun gn s8 s9 s10 s11 s12 wr => ∃ (k : Nat) (s : St), k + gn = l.length ∧ s12 = .int .i64 k ∧ s8 = .bool s.la ∧ s9 = .bool s.ou ∧ s10 = .int .i64 (inrow s) ∧ s11 = .int .i64 s.bk ∧ Hid (runs L C B zer (l.take k) = s) ∧ wr = W)
  case atStart => exact ⟨0, zer, by omega, rfl, rfl, rfl, rfl, rfl, Lib.hid rfl, rfl⟩
  case round =>
    obtain ⟨k, s, hk, rfl, rfl, rfl, rfl, rfl, HS, rfl⟩ := hrel
    by_cases hlt : k < l.length
    · have hf := fin_runs HR.out (l.take k) (fin_zer HR.out)
      have hw := way (HS.out ▸ hf) (l.getD k false)
      have HN : Hid (runs L C B zer (l.take (k + 1)) = ste L C B s (l.getD k false)) := Lib.hid (by rw [take_more l k hlt, runs_snoc, HS.out])
      obtain ⟨q0, q1, q2⟩ := rl_cells A3.out.rule
      rcases A3.out.what with hnil | ⟨b2, o2, rfl, hx⟩
      · exfalso
        have := congrArg List.length hnil
        rw [whas_len, List.length_nil] at this; omega
      have hxk := hx k (by rw [whas_len]; exact hlt)
      rw [whas_get L C B zer l k hlt, HS.out] at hxk
      rcases A3.out.list with hnil | ⟨b1, o1, rfl, hl1⟩
      · exfalso; rw [hnil] at hlt; simp at hlt
      have hlk := hl1 k hlt
      clear hx hl1 hf
      generalize l.getD k false = t at *
      generalize ste L C B s t = s' at *
      generalize wha L C B s t = x at *
      clear HS
      cases hw with
      | out t =>
        simp only [inrow, if_true]
        go_wp2_with fail
        go_roundg (gk - 1)
        case rel => refine ⟨k + 1, _, by omega, by go_num, ?_, ?_, ?_, ?_, HN, rfl⟩ <;> rfl
        case measure => omega
      | @latT c b hc hb =>
        have e0 := bq_no (show (0 : Int) ≠ C by omega)
        have e9 : decide (B < b) = false := by simp; omega
        simp only [inrow, if_true, Bool.false_eq_true, if_false]
        go_wp2_with fail
        go_roundg (gk - 1)
        case rel => refine ⟨k + 1, _, by omega, by go_num, ?_, ?_, ?_, ?_, HN, rfl⟩ <;> rfl
        case measure => omega
      | @latC c b hc hb d =>
        have e0 := bq_no (show c + 1 ≠ C by omega)
        have e9 : decide (B < b) = false := by simp; omega
        simp only [inrow, if_true, Bool.false_eq_true, if_false]
        go_wp2_with fail
        go_roundg (gk - 1)
        case rel => refine ⟨k + 1, _, by omega, by go_num, ?_, ?_, ?_, ?_, HN, rfl⟩ <;> rfl
        case measure => omega
      | @latD c b hc hb d =>
        have e0 := bq_yes d
        have e9 : decide (B < b + 1) = false := by simp; omega
        clear d
        simp only [inrow, if_true, Bool.false_eq_true, if_false]
        go_wp2_with fail
        go_roundg (gk - 1)
        case rel => refine ⟨k + 1, _, by omega, by go_num, ?_, ?_, ?_, ?_, HN, rfl⟩ <;> rfl
        case measure => omega
      | @inN s b hs hb =>
        have e0 := bq_no (show (0 : Int) ≠ L by omega)
        have e9 : decide (B < b) = false := by simp; omega
        simp only [inrow, Bool.false_eq_true, if_false]
        go_wp2_with fail
        go_roundg (gk - 1)
        case rel => refine ⟨k + 1, _, by omega, by go_num, ?_, ?_, ?_, ?_, HN, rfl⟩ <;> rfl
        case measure => omega
      | @inF s b hs hb d =>
        have e0 := bq_no (show s + 1 ≠ L by omega)
        have e9 : decide (B < b) = false := by simp; omega
        simp only [inrow, Bool.false_eq_true, if_false]
        go_wp2_with fail
        go_roundg (gk - 1)
        case rel => refine ⟨k + 1, _, by omega, by go_num, ?_, ?_, ?_, ?_, HN, rfl⟩ <;> rfl
        case measure => omega
      | @inG s b hs hb d p =>
        have e0 := bq_yes d
        have e1 := bq_yes p
        have e9 : decide (B < b) = false := by simp; omega
        clear d p
        simp only [inrow, Bool.false_eq_true, if_false]
        go_wp2_with fail
        go_roundg (gk - 1)
        case rel => refine ⟨k + 1, _, by omega, by go_num, ?_, ?_, ?_, ?_, HN, rfl⟩ <;> rfl
        case measure => omega
      | @inH s b hs hb d p =>
        have e0 := bq_yes d
        have e1 := bq_no (show b ≠ B by omega)
        have e9 : decide (B < b) = false := by simp; omega
        clear d
        simp only [inrow, Bool.false_eq_true, if_false]
        go_wp2_with fail
        go_roundg (gk - 1)
        case rel => refine ⟨k + 1, _, by omega, by go_num, ?_, ?_, ?_, ?_, HN, rfl⟩ <;> rfl
        case measure => omega
    · obtain rfl : k = l.length := by omega
      have HZ : runs L C B zer l = s := by rw [← HS.out, List.take_length]
      rw [HZ] at C1
      clear HZ HS
      go_wp2_with (((with_reducible show wpList _ _ _ (⟨some 102, _, _, _, _, _⟩ :: _) _ _); refine VB.loaded (cs := rlr L C B) rfl _ rfl w.heap.size rfl A3.out.rule Try.underlying23 rfl sizeR ?_))
      refine (C1 _ A3.out.list).mono ?_
      rintro e w5 ⟨a5, n5, c5, rfl, rfl, l5, m5, i5, b5⟩
      have B5 := Lib.hid (grow A3.out.below b5)
      clear b5 i5 l5 m5 C1
      go_wp2_with fail
      refine (CA _).mono ?_
      rintro e w6 ⟨rfl, b6⟩
      have B6 := Lib.hid (grow_alloc B5.out b6)
      obtain ⟨p0, p1, p2, p3, p4⟩ := st_cells (onB (VRow.new w5 (str s) 25) b6)
      clear b6
      go_wp2
      go_ret
      exact ⟨rfl, B6.out⟩

set_option maxHeartbeats 1600000 in
theorem row_any (L C B : Int) (a : Option Addr) (cap : Nat) (l : List Bool) (w : World) (hm : l.length ≤ maxLen) (hb : BoolsAt w a l) :
    Calls Try.prog 5 #[rlv L C B, .slice a l.length cap] w fun e w' => e = .returned (.bool true) ∧ Below w.heap.size w w' := by
  by_cases hq : rgt L C B = true ∧ ¬ 300 < l.length
  · exact row_main L C B a cap l w hq.1 hq.2 hb
  · have CA := alive_any
    have C0 := fun W => right_any L C B W
    have hl' : l.length ≤ 9223372036854775807 := hm
    clear hm
    unfold rlv
    cases hr : rgt L C B
    · rw [hr] at C0
      clear hq hr
      go_enter Try.func5, Try.ntmps5
      go_wp2_with fail
      refine (C0 _).mono ?_
      rintro e w1 ⟨rfl, b1⟩
      have B1 := Lib.hid (grow_alloc (Below.refl w.heap.size w) b1)
      clear b1 C0
      go_wp2_with fail
      refine (CA _).mono ?_
      rintro e w2 ⟨rfl, b2⟩
      have B2 := Lib.hid (grow B1.out b2)
      clear b2
      go_wp2
      go_ret
      exact ⟨rfl, B2.out⟩
    · have d3 : decide (300 < (l.length : Int)) = true := by
        have : 300 < l.length := by
          rcases Nat.lt_or_ge 300 l.length with q | q
          · exact q
          · exact absurd ⟨hr, by omega⟩ hq
        simp; omega
      rw [hr] at C0
      clear hq hr
      go_enter Try.func5, Try.ntmps5
      go_wp2_with fail
      refine (C0 _).mono ?_
      rintro e w1 ⟨rfl, b1⟩
      have B1 := Lib.hid (grow_alloc (Below.refl w.heap.size w) b1)
      clear b1 C0
      go_wp2_with fail
      refine (CA _).mono ?_
      rintro e w2 ⟨rfl, b2⟩
      have B2 := Lib.hid (grow B1.out b2)
      clear b2
      go_wp2
      go_ret
      exact ⟨rfl, B2.out⟩
end Lc
namespace latchRow
theorem walk (L C B : Int) (a : Option Addr) (cap : Nat) (l : List Bool) (w : World) (_ : (Lit.int .i64 L).wf = true) (_ : (Lit.int .i64 C).wf = true) (_ : (Lit.int .i64 B).wf = true) (hm : l.length ≤ maxLen) (hb : BoolsAt w a l) :
    Calls Try.prog 5 #[.agg #[.int .i64 L, .int .i64 C, .int .i64 B], .slice a l.length cap] w fun e w' => e = .returned (.bool true) ∧ Below w.heap.size w w' :=
  Lc.row_any L C B a cap l w hm hb
end latchRow
end Go.Proofs.Ytcpfdohodadcaaa
