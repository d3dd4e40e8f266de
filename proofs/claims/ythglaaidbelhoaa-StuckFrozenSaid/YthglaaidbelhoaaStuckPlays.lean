/-
  The room, its watch, and the document's room and values, while acts are gone through. No function of the program is walked here. No conditions.
-/
import Derived.Test.YthglaaidbelhoaaStuckAlive
import Derived.Test.YthglaaidbelhoaaStuckRefCome
namespace Go.Proofs.Ythglaaidbelhoaa
open Go.ChangeShapes Go.WideShapes Go.ChangeAt Go.RowKit Go.Deep
namespace Sk
open Jp (val)

/-- The room, its watch, and the document's room and values, while the acts are gone through. -/
structure Plays (w W : World) (r g m lo P : Nat) (bound : Int) (all : List Int) (last : Int) (k : Nat) (ca : Option Addr) : Prop where
  pair : Pair w W r g P bound (lastN P all) last ((min k (P + 1) : Nat) : Int)
  ref : RRoom W lo m P bound all
  came : IntsAt .i64 W ca (List.replicate k last)
  lies : ∀ ad, ca = some ad → lo ≤ ad.block
  ge : w.heap.size ≤ m
  lt1 : r < lo
  lt2 : g < lo
  ne1 : r ≠ m
  ne2 : g ≠ m
  le : lo ≤ W.heap.size
section
variable {w W W1 W2 : World} {r g m lo P k : Nat} {bound last : Int} {all : List Int} {ca : Option Addr}
theorem vv_all (h1 : 1 ≤ P) (all : List Int) (n : Int) : vv P (lastN P all) n = lastN P (va all n) := by
  unfold vv va; split
  · exact lastN_snoc h1 all n
  · rfl
theorem Plays.p1 (p : Plays w W r g m lo P bound all last k ca) : 1 ≤ P ∧ P ≤ 15 := p.pair.room.le.2
theorem Plays.bel (p : Plays w W r g m lo P bound all last k ca) : Below w.heap.size w W := p.pair.below
theorem plays_start (w W : World) (P : Nat) (bound : Int) {r g : Nat} (p : Pair w W r g P bound [] 0 0) :
    Plays w (W.alloc (.cells (rrm ((P : Int) + 1) bound (.slice none 0 0)).toArray 59)) r g W.heap.size (W.heap.size + 1) P bound [] 0 0 none := by
  have hz := p.below.size
  have hr := p.room.lt
  have hg := p.wat.lt
  refine ⟨?_, rroom_new W _ bound P (Nat.lt_succ_self _), Or.inl rfl, fun ad e => by (cases e), hz, by omega, by omega, by omega, by omega, by simp⟩
  have := p.on ((Below.refl W.heap.size W).alloc (Nat.le_refl _) (.cells (rrm ((P : Int) + 1) bound (.slice none 0 0)).toArray 59))
  simpa [lastN] using this
theorem Plays.on (p : Plays w W r g m lo P bound all last k ca) (b : Below W.heap.size W W1) : Plays w W1 r g m lo P bound all last k ca :=
  ⟨p.pair.on b, p.ref.below b, p.came.below b, p.lies, p.ge, p.lt1, p.lt2, p.ne1, p.ne2, Nat.le_trans p.le b.size⟩
theorem Plays.keep (p : Plays w W r g m lo P bound all last k ca) {j : Nat} (o : Only j W W1) (hj : j < lo) : IntsAt .i64 W1 ca (List.replicate k last) :=
  p.came.but o (fun ad e => by have := p.lies ad e; show ¬ ad.block = j; omega)
/-- A vote has come in the program's room. -/
theorem Plays.ref1 (p : Plays w W r g m lo P bound all last k ca) (o : Only r W W1) : RRoom W1 lo m P bound all := p.ref.only o (Ne.symm p.ne1) p.lt1
/-- A vote has come in the document's room. -/
theorem Plays.room2 (p : Plays w W r g m lo P bound all last k ca) (o : Only m W W1) : Room W1 r P bound (lastN P all) := p.pair.room.only o p.ne1
theorem Plays.voted (p : Plays w W r g m lo P bound all last k ca) (n : Int) (o1 : Only r W W1) (h1 : Room W1 r P bound (vv P (lastN P all) n)) (o2 : Only m W1 W2) (h2 : RRoom W2 lo m P bound (va all n)) :
    Plays w W2 r g m lo P bound (va all n) last k ca := by
  have q := p.pair.take o1 h1
  rw [vv_all p.p1.1] at q
  have hm : m < lo := by obtain ⟨_, _, _, _, _, _, _, h⟩ := p.ref; exact h
  have B := o2.below q.below q.below.size p.ge
  exact ⟨⟨B, q.room.only o2 p.ne1, q.wat.only o2 p.ne2, q.ge1, q.ge2, q.ne⟩, h2, (p.keep o1 p.lt1).but o2 (fun ad e => by have := p.lies ad e; show ¬ ad.block = m; omega), p.lies, p.ge, p.lt1, p.lt2, p.ne1, p.ne2, Nat.le_trans p.le (Nat.le_trans o1.size o2.size)⟩
theorem Plays.voted' (p : Plays w W r g m lo P bound all last k ca) (n : Int) (o1 : Only m W W1) (h1 : RRoom W1 lo m P bound (va all n)) (o2 : Only r W1 W2) (h2 : Room W2 r P bound (vv P (lastN P all) n)) :
    Plays w W2 r g m lo P bound (va all n) last k ca := by
  rw [vv_all p.p1.1] at h2
  have hm : m < lo := by obtain ⟨_, _, _, _, _, _, _, h⟩ := p.ref; exact h
  have B1 := o1.below p.bel p.bel.size p.ge
  have B2 := o2.below B1 B1.size p.pair.ge1
  exact ⟨⟨B2, h2, (p.pair.wat.only o1 p.ne2).only o2 (Ne.symm p.pair.ne), p.pair.ge1, p.pair.ge2, p.pair.ne⟩, h1.only o2 (Ne.symm p.ne1) p.lt1, (p.keep o1 hm).but o2 (fun ad e => by have := p.lies ad e; have := p.lt1; show ¬ ad.block = r; omega), p.lies, p.ge, p.lt1, p.lt2, p.ne1, p.ne2, Nat.le_trans p.le (Nat.le_trans o1.size o2.size)⟩
theorem Plays.missed (p : Plays w W r g m lo P bound all last k ca) (o : Only g W W1) (h : VRow W1 g 57 (wt r last 0)) : Plays w W1 r g m lo P bound all last 0 none :=
  ⟨p.pair.turn o (by simpa using h), p.ref.only o (Ne.symm p.ne2) p.lt2, Or.inl rfl, fun ad e => by (cases e), p.ge, p.lt1, p.lt2, p.ne1, p.ne2, Nat.le_trans p.le o.size⟩
theorem run_kk (P : Nat) (last n : Int) (k : Nat) : Sk.run ((P : Int) + 1) last ((min k (P + 1) : Nat) : Int) n = ((min (kk last k n) (P + 1) : Nat) : Int) := by
  unfold Sk.run kk; split <;> omega
theorem froz_kk (P : Nat) (bound : Int) (V : List Int) (last n : Int) (k : Nat) : froz P bound V last ((min k (P + 1) : Nat) : Int) n = (decide (P + 1 ≤ kk last k n) && moved P bound V) := by
  unfold froz; rw [run_kk]; congr 1; rw [decide_eq_decide]; omega
/-- A value has come, in the program's watch. -/
theorem Plays.come1 (p : Plays w W r g m lo P bound all last k ca) (n : Int) (o : Only g W W1) (h : VRow W1 g 57 (wt r n (Sk.run ((P : Int) + 1) last ((min k (P + 1) : Nat) : Int) n))) :
    Pair w W1 r g P bound (lastN P all) n ((min (kk last k n) (P + 1) : Nat) : Int) ∧ RRoom W1 lo m P bound all ∧ IntsAt .i64 W1 ca (List.replicate k last) ∧ lo ≤ W1.heap.size := by
  rw [run_kk] at h
  exact ⟨p.pair.turn o h, p.ref.only o (Ne.symm p.ne2) p.lt2, p.keep o p.lt2, Nat.le_trans p.le o.size⟩
/-- And in the document's. -/
theorem Plays.come2 (p : Plays w W r g m lo P bound all last k ca) {n : Int} {k' : Nat} {ca' : Option Addr} (q : Pair w W1 r g P bound (lastN P all) n ((min k' (P + 1) : Nat) : Int)) (hr : RRoom W1 lo m P bound all) (hl : lo ≤ W1.heap.size)
    (b : Below W1.heap.size W1 W2) (i : IntsAt .i64 W2 ca' (List.replicate k' n)) (s : ∀ ad, ca' = some ad → W1.heap.size ≤ ad.block) : Plays w W2 r g m lo P bound all n k' ca' :=
  ⟨q.on b, hr.below b, i, fun ad e => Nat.le_trans hl (s ad e), p.ge, p.lt1, p.lt2, p.ne1, p.ne2, Nat.le_trans hl b.size⟩
end
end Sk
end Go.Proofs.Ythglaaidbelhoaa
