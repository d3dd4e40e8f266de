/-
  How the document's signal lies with all that it holds, and what each of its stores does to it. No function of the program is walked here. No conditions beyond those said.
  What ahead of rudderref18 does: a contract by walking the Go text. Conditions: how the document's signal lies; that the raw value may be one.
-/
import Derived.Test.YtacclmfbkiadbaaGreatSignalRefLay
import Derived.Test.YtacclmfbkiadbaaGreatJJumpRight6
import Derived.Test.YtacclmfbkiadbaaGreatJStuckRef3
import Derived.Test.YtacclmfbkiadbaaGreatJSetWrites2
namespace Go.Proofs.YtacclmfbkiadbaaGreat
set_option maxRecDepth 100000
open Go.ChangeShapes Go.WideShapes Go.ChangeAt Go.RowKit Go.Deep
namespace Sg
open Cf (G CA Box)
/-- Where all lies that lies there for good: the signal, its room, the row of its watches, these; what comes lies behind lo. -/
structure Pl where
  lo : Nat
  g : Nat
  rm : Nat
  wb : Nat
  wa : Nat → Nat
def lq (c : List Int) (s : Si) (i : Nat) : Int := if i < NN c then (s.ch i).lev else 0
def fq (c : List Int) (s : Si) (i : Nat) : Int := if i < NN c then (s.ch i).off else 0
def sq (c : List Int) (s : Si) (i : Nat) : Lc.St := if i < NN c then (s.ch i).st else Lc.zer
def kn (c : List Int) (s : Si) (i : Nat) : Nat := if i < NN c then (s.ch i).k else 0
/-- One channel's place taken by another value. -/
def pt (s : Si) (i : Nat) (h : Ch) : Si := { s with ch := fun k => if k = i then h else s.ch k }
theorem pt_same (s : Si) (i : Nat) (h : Ch) : (pt s i h).ch i = h := if_pos rfl
theorem pt_other (s : Si) (i k : Nat) (h : Ch) (e : k ≠ i) : (pt s i h).ch k = s.ch k := if_neg e
/-- A slice of one value, so many times. -/
def Hold (W : World) (S : Nat → Prop) (lo : Nat) (v : Value) (k : Nat) (last : Int) : Prop := ∃ a cp, v = .slice a k cp ∧ IntsAt .i64 W a (List.replicate k last) ∧ ∀ ad, a = some ad → lo ≤ ad.block ∧ S ad.block
/-- The document's signal; ls: of what the values are that came in a row. -/
structure RX (W : World) (S : Nat → Prop) (p : Pl) (c : List Int) (s : Si) (ls : Nat → Int) : Prop where
  sig : ∃ cap cm, VRow W p.g 61 (rsg c (.pointer (some ⟨p.rm, 0, none⟩)) s.val (.slice (some ⟨p.wb, 0, none⟩) (NN c) cap) cm (lq c s) (fq c s) (sq c s)) ∧ ∀ i, i < 4 → Hold W S p.lo (cm i) (kn c s i) (ls i)
  room : ∃ a cap, VRow W p.rm 118 (Sk.rrm ((PW c : Int) + 1) (G c 5) (.slice a s.votes.length cap)) ∧ IntsAt .i64 W a s.votes ∧ s.votes.length ≤ cap ∧ cap ≤ maxLen ∧ ∀ ad, a = some ad → p.lo ≤ ad.block ∧ S ad.block
  row : ∃ cs t, VRow W p.wb t cs ∧ ∀ i, i < NN c → cs[i]? = some (.pointer (some ⟨p.wa i, 0, none⟩))
  wat : ∀ i, i < NN c → ∃ v, VRow W (p.wa i) 120 (Jp.rwt (G c 1) (G c 2) (G c 4) v) ∧ Jp.Came W v (s.ch i).last (s.ch i).has ∧ ∀ b o n k, v = .slice (some ⟨b, o, none⟩) n k → p.lo ≤ b ∧ S b
  own : S p.g ∧ S p.rm ∧ S p.wb ∧ ∀ i, i < NN c → S (p.wa i)
  low : p.g < p.lo ∧ p.rm < p.lo ∧ p.wb < p.lo ∧ ∀ i, i < NN c → p.wa i < p.lo
  ne : p.g ≠ p.rm ∧ p.g ≠ p.wb ∧ p.rm ≠ p.wb ∧ (∀ i, i < NN c → p.wa i ≠ p.g ∧ p.wa i ≠ p.rm ∧ p.wa i ≠ p.wb) ∧ ∀ i j, i < NN c → j < NN c → p.wa i = p.wa j → i = j
  lt : ∀ j, S j → j < W.heap.size
  big : p.lo ≤ W.heap.size
section
variable {W W' : World} {S S' T : Nat → Prop} {p : Pl} {c : List Int} {s : Si} {ls : Nat → Int} {i : Nat} {lo : Nat} {v : Value} {k : Nat} {last : Int}
theorem Hold.keep (h : Hold W S lo v k last) (B : But T W W') (hT : ∀ j, S j → ¬ T j) : Hold W' S lo v k last := by
  obtain ⟨a, cp, e, h1, h2⟩ := h
  exact ⟨a, cp, e, h1.but B (fun ad e => hT _ (h2 ad e).2), h2⟩
/-- Blocks below lo may be written. -/
theorem Hold.low (h : Hold W S lo v k last) (B : But T W W') (hT : ∀ j, T j → j < lo) : Hold W' S lo v k last := by
  obtain ⟨a, cp, e, h1, h2⟩ := h
  exact ⟨a, cp, e, h1.but B (fun ad e q => by have := hT _ q; have := (h2 ad e).1; omega), h2⟩
theorem Hold.mono (h : Hold W S lo v k last) (hs : ∀ j, S j → S' j) : Hold W S' lo v k last := by
  obtain ⟨a, cp, e, h1, h2⟩ := h
  exact ⟨a, cp, e, h1, fun ad e => ⟨(h2 ad e).1, hs _ (h2 ad e).2⟩⟩
theorem Hold.nil : Hold W S lo (.slice none 0 0) 0 last := ⟨none, 0, rfl, Or.inl rfl, fun ad e => by cases e⟩
theorem Came.but {has : Bool} (h : Jp.Came W v last has) (B : But T W W') (hT : ∀ b o n k, v = .slice (some ⟨b, o, none⟩) n k → ¬ T b) : Jp.Came W' v last has :=
  h.block fun b o n k e hl => B.block b hl (hT b o n k e)
theorem RX.keep (H : RX W S p c s ls) (B : But T W W') (hT : ∀ j, S j → ¬ T j) : RX W' S p c s ls := by
  obtain ⟨cap, cm, h1, h2⟩ := H.sig
  obtain ⟨a, rc, r1, r2, r3, r4, r5⟩ := H.room
  obtain ⟨cs, t, w1, w2⟩ := H.row
  obtain ⟨o1, o2, o3, o4⟩ := H.own
  refine ⟨⟨cap, cm, h1.but B (hT _ o1), fun i hi => (h2 i hi).keep B hT⟩, ⟨a, rc, r1.but B (hT _ o2), r2.but B (fun ad e => hT _ (r5 ad e).2), r3, r4, r5⟩, ⟨cs, t, w1.but B (hT _ o3), w2⟩, fun i hi => ?_, H.own, H.low, H.ne, fun j hj => Nat.lt_of_lt_of_le (H.lt j hj) B.size, Nat.le_trans H.big B.size⟩
  obtain ⟨v, v1, v2, v3⟩ := H.wat i hi
  exact ⟨v, v1.but B (hT _ (o4 i hi)), Came.but v2 B (fun b o n k e => hT _ (v3 b o n k e).2), v3⟩
theorem RX.on (H : RX W S p c s ls) (B : Below W.heap.size W W') : RX W' S p c s ls := H.keep (But.of_below (S := fun _ => False) B) (fun _ _ q => q)
theorem RX.mono (H : RX W S p c s ls) (hs : ∀ j, S j → S' j) (hl : ∀ j, S' j → j < W.heap.size) : RX W S' p c s ls := by
  obtain ⟨cap, cm, h1, h2⟩ := H.sig
  obtain ⟨a, rc, r1, r2, r3, r4, r5⟩ := H.room
  obtain ⟨o1, o2, o3, o4⟩ := H.own
  refine ⟨⟨cap, cm, h1, fun i hi => (h2 i hi).mono hs⟩, ⟨a, rc, r1, r2, r3, r4, fun ad e => ⟨(r5 ad e).1, hs _ (r5 ad e).2⟩⟩, H.row, fun i hi => ?_, ⟨hs _ o1, hs _ o2, hs _ o3, fun i hi => hs _ (o4 i hi)⟩, H.low, H.ne, hl, H.big⟩
  obtain ⟨v, v1, v2, v3⟩ := H.wat i hi
  exact ⟨v, v1, v2, fun b o n k e => ⟨(v3 b o n k e).1, hs _ (v3 b o n k e).2⟩⟩
/-- The set, with what is new since. -/
def Up (S : Nat → Prop) (W W' : World) (j : Nat) : Prop := S j ∨ (W.heap.size ≤ j ∧ j < W'.heap.size)
theorem RX.congr {s' : Si} {ls' : Nat → Int} (H : RX W S p c s ls) (h1 : s.val = s'.val) (h2 : s.votes = s'.votes) (h3 : ∀ i, i < NN c → s.ch i = s'.ch i) (h4 : ∀ i, i < NN c → ls i = ls' i) : RX W S p c s' ls' := by
  have e1 : lq c s = lq c s' := by funext i; unfold lq; split; (rename_i h; rw [h3 i h]); rfl
  have e2 : fq c s = fq c s' := by funext i; unfold fq; split; (rename_i h; rw [h3 i h]); rfl
  have e3 : sq c s = sq c s' := by funext i; unfold sq; split; (rename_i h; rw [h3 i h]); rfl
  obtain ⟨cap, cm, k1, k2⟩ := H.sig
  refine ⟨⟨cap, cm, by rw [← h1, ← e1, ← e2, ← e3]; exact k1, fun i hi => ?_⟩, h2 ▸ H.room, H.row, fun i hi => h3 i hi ▸ H.wat i hi, H.own, H.low, H.ne, H.lt, H.big⟩
  by_cases h : i < NN c
  · have := k2 i hi
    unfold kn at this ⊢
    rw [if_pos h] at this ⊢
    rw [← h3 i h, ← h4 i h]; exact this
  · have := k2 i hi
    unfold kn at this ⊢
    rw [if_neg h] at this ⊢
    exact this
end
/-! One cell, or a latch, of the signal's is written. -/
section
variable {c : List Int} {rm wt : Value} {v : Int} {cm : Nat → Value} {lv off : Nat → Int} {st : Nat → Lc.St}
theorem rsg_set (hc : c.length = 21) (j : Nat) (x : Value) : (rsg c rm v wt cm lv off st).set (21 + j) x = cellsI .i64 c ++ ([rm, .int .i64 v, wt, cm 0, cm 1, cm 2, cm 3, .int .i64 (lv 0), .int .i64 (lv 1), .int .i64 (lv 2), .int .i64 (lv 3), .int .i64 (off 0), .int .i64 (off 1), .int .i64 (off 2), .int .i64 (off 3)] ++ (lav (st 0) ++ (lav (st 1) ++ (lav (st 2) ++ lav (st 3))))).set j x := by
  unfold rsg
  rw [List.set_append_right _ _ (by rw [cellsI_len, hc]; omega), cellsI_len, hc]
  congr 2; omega
theorem rsg_val (hc : c.length = 21) (x : Int) : (rsg c rm v wt cm lv off st).set 22 (.int .i64 x) = rsg c rm x wt cm lv off st := rsg_set hc 1 _
theorem rsg_came (hc : c.length = 21) (i : Nat) (hi : i < 4) (x : Value) : (rsg c rm v wt cm lv off st).set (24 + i) x = rsg c rm v wt (fun k => if k = i then x else cm k) lv off st := by
  rw [show 24 + i = 21 + (3 + i) by omega, rsg_set hc]
  have : i = 0 ∨ i = 1 ∨ i = 2 ∨ i = 3 := by omega
  rcases this with rfl | rfl | rfl | rfl <;> rfl
theorem rsg_lev (hc : c.length = 21) (i : Nat) (hi : i < 4) (x : Int) : (rsg c rm v wt cm lv off st).set (28 + i) (.int .i64 x) = rsg c rm v wt cm (fun k => if k = i then x else lv k) off st := by
  rw [show 28 + i = 21 + (7 + i) by omega, rsg_set hc]
  have : i = 0 ∨ i = 1 ∨ i = 2 ∨ i = 3 := by omega
  rcases this with rfl | rfl | rfl | rfl <;> rfl
theorem rsg_off (hc : c.length = 21) (i : Nat) (hi : i < 4) (x : Int) : (rsg c rm v wt cm lv off st).set (32 + i) (.int .i64 x) = rsg c rm v wt cm lv (fun k => if k = i then x else off k) st := by
  rw [show 32 + i = 21 + (11 + i) by omega, rsg_set hc]
  have : i = 0 ∨ i = 1 ∨ i = 2 ∨ i = 3 := by omega
  rcases this with rfl | rfl | rfl | rfl <;> rfl
theorem rsg_st (hc : c.length = 21) (i : Nat) (hi : i < 4) (x : Lc.St) : ((((((rsg c rm v wt cm lv off st).set (36 + i * 5) (.bool x.la)).set (36 + i * 5 + 1) (.bool x.ou)).set (36 + i * 5 + 2) (.int .i64 x.st)).set (36 + i * 5 + 3) (.int .i64 x.cl)).set (36 + i * 5 + 4) (.int .i64 x.bk)) = rsg c rm v wt cm lv off (fun k => if k = i then x else st k) := by
  have key : ∀ (t : List Value) (j : Nat) (y : Value), (cellsI .i64 c ++ t).set (21 + j) y = cellsI .i64 c ++ t.set j y := fun t j y => by
    rw [List.set_append_right _ _ (by rw [cellsI_len, hc]; omega), cellsI_len, hc]
    congr 2; omega
  rw [show 36 + i * 5 = 21 + (15 + i * 5) by omega, rsg_set hc, show 21 + (15 + i * 5) + 1 = 21 + (15 + i * 5 + 1) by omega, key, show 21 + (15 + i * 5) + 2 = 21 + (15 + i * 5 + 2) by omega, key, show 21 + (15 + i * 5) + 3 = 21 + (15 + i * 5 + 3) by omega, key, show 21 + (15 + i * 5) + 4 = 21 + (15 + i * 5 + 4) by omega, key]
  have : i = 0 ∨ i = 1 ∨ i = 2 ∨ i = 3 := by omega
  rcases this with rfl | rfl | rfl | rfl <;> rfl
theorem rsg_room (hc : c.length = 21) : (rsg c rm v wt cm lv off st)[21]? = some rm := rsg_at hc 0
theorem rsg_value (hc : c.length = 21) : (rsg c rm v wt cm lv off st)[22]? = some (.int .i64 v) := rsg_at hc 1
theorem rsg_watch (hc : c.length = 21) : (rsg c rm v wt cm lv off st)[23]? = some wt := rsg_at hc 2
theorem rsg_cm (hc : c.length = 21) (i : Nat) (hi : i < 4) : (rsg c rm v wt cm lv off st)[24 + i]? = some (cm i) := by
  rw [show 24 + i = 21 + (3 + i) by omega, rsg_at hc]
  have : i = 0 ∨ i = 1 ∨ i = 2 ∨ i = 3 := by omega
  rcases this with rfl | rfl | rfl | rfl <;> rfl
theorem rsg_lv (hc : c.length = 21) (i : Nat) (hi : i < 4) : (rsg c rm v wt cm lv off st)[28 + i]? = some (.int .i64 (lv i)) := by
  rw [show 28 + i = 21 + (7 + i) by omega, rsg_at hc]
  have : i = 0 ∨ i = 1 ∨ i = 2 ∨ i = 3 := by omega
  rcases this with rfl | rfl | rfl | rfl <;> rfl
theorem rsg_of (hc : c.length = 21) (i : Nat) (hi : i < 4) : (rsg c rm v wt cm lv off st)[32 + i]? = some (.int .i64 (off i)) := by
  rw [show 32 + i = 21 + (11 + i) by omega, rsg_at hc]
  have : i = 0 ∨ i = 1 ∨ i = 2 ∨ i = 3 := by omega
  rcases this with rfl | rfl | rfl | rfl <;> rfl
end
section
variable {W W' : World} {S S' T : Nat → Prop} {p : Pl} {c : List Int} {s : Si} {ls : Nat → Int} {i : Nat}
/-- The signal's own block alone was written. -/
theorem RX.cells (H : RX W S p c s ls) (s' : Si) (ls' : Nat → Int) (h1 : s.votes = s'.votes) (B : Only p.g W W') (h3 : ∀ i, i < NN c → (s.ch i).last = (s'.ch i).last ∧ (s.ch i).has = (s'.ch i).has)
    (hv : ∀ cap cm, VRow W p.g 61 (rsg c (.pointer (some ⟨p.rm, 0, none⟩)) s.val (.slice (some ⟨p.wb, 0, none⟩) (NN c) cap) cm (lq c s) (fq c s) (sq c s)) → (∀ i, i < 4 → Hold W' S p.lo (cm i) (kn c s i) (ls i)) →
      ∃ cap cm, VRow W' p.g 61 (rsg c (.pointer (some ⟨p.rm, 0, none⟩)) s'.val (.slice (some ⟨p.wb, 0, none⟩) (NN c) cap) cm (lq c s') (fq c s') (sq c s')) ∧ ∀ i, i < 4 → Hold W' S p.lo (cm i) (kn c s' i) (ls' i)) : RX W' S p c s' ls' := by
  obtain ⟨cap, cm, k1, k2⟩ := H.sig
  obtain ⟨a, rc, r1, r2, r3, r4, r5⟩ := H.room
  obtain ⟨cs, t, w1, w2⟩ := H.row
  obtain ⟨n1, n2, n3, n4, n5⟩ := H.ne
  obtain ⟨l1, l2, l3, l4⟩ := H.low
  have hlo : ∀ j, j = p.g → j < p.lo := fun j e => by omega
  refine ⟨hv cap cm k1 fun i hi => (k2 i hi).low B hlo, h1 ▸ ⟨a, rc, r1.but B (fun e => n1 e.symm), r2.but B (fun ad e q => by have := (r5 ad e).1; have := hlo _ q; omega), r3, r4, r5⟩, ⟨cs, t, w1.but B (fun e => n2 e.symm), w2⟩, fun i hi => ?_, H.own, H.low, H.ne, fun j hj => Nat.lt_of_lt_of_le (H.lt j hj) B.size, Nat.le_trans H.big B.size⟩
  obtain ⟨v, v1, v2, v3⟩ := H.wat i hi
  rw [← (h3 i hi).1, ← (h3 i hi).2]
  exact ⟨v, v1.but B (n4 i hi).1, Came.but v2 B (fun b o n k e q => by have := (v3 b o n k e).1; have := hlo _ q; omega), v3⟩
theorem only_cell (g o : Nat) (x : Value) : Only g W (W.setCell ⟨g, o, none⟩ x) := (But.refl (· = g) W).setCell (p := ⟨g, o, none⟩) (Or.inl rfl) x
theorem RX.setVal (H : RX W S p c s ls) (hc : c.length = 21) (x : Int) : RX (W.setCell ⟨p.g, 22, none⟩ (.int .i64 x)) S p c { s with val := x } ls := by
  refine H.cells _ _ rfl (only_cell _ _ _) (fun _ _ => ⟨rfl, rfl⟩) fun cap cm k1 k2 => ⟨cap, cm, ?_, k2⟩
  have := k1.set 22 (.int .i64 x)
  rwa [rsg_val hc] at this
theorem RX.setLev (H : RX W S p c s ls) (hc : c.length = 21) (hi : i < NN c) (h4 : NN c ≤ 4) (x : Int) : RX (W.setCell ⟨p.g, 28 + i, none⟩ (.int .i64 x)) S p c (pt s i { s.ch i with lev := x }) ls := by
  have q : ∀ k, k < NN c → ((pt s i { s.ch i with lev := x }).ch k).last = (s.ch k).last ∧ ((pt s i { s.ch i with lev := x }).ch k).has = (s.ch k).has ∧ ((pt s i { s.ch i with lev := x }).ch k).k = (s.ch k).k ∧ ((pt s i { s.ch i with lev := x }).ch k).off = (s.ch k).off ∧ ((pt s i { s.ch i with lev := x }).ch k).st = (s.ch k).st := fun k hk => by
    by_cases e : k = i
    · subst e; rw [pt_same]; exact ⟨rfl, rfl, rfl, rfl, rfl⟩
    · rw [pt_other _ _ _ _ e]; exact ⟨rfl, rfl, rfl, rfl, rfl⟩
  refine H.cells _ _ rfl (only_cell _ _ _) (fun k hk => ⟨(q k hk).1.symm, (q k hk).2.1.symm⟩) fun cap cm k1 k2 => ⟨cap, cm, ?_, fun k hk => ?_⟩
  · have := k1.set (28 + i) (.int .i64 x)
    rw [rsg_lev hc i (by omega)] at this
    have e1 : (fun k => if k = i then x else lq c s k) = lq c (pt s i { s.ch i with lev := x }) := by
      funext k; unfold lq
      by_cases e : k = i
      · subst e; rw [if_pos rfl, if_pos hi, pt_same]
      · rw [if_neg e, pt_other _ _ _ _ e]
    have e2 : fq c s = fq c (pt s i { s.ch i with lev := x }) := by funext k; unfold fq; split; (rename_i h; rw [(q k h).2.2.2.1]); rfl
    have e3 : sq c s = sq c (pt s i { s.ch i with lev := x }) := by funext k; unfold sq; split; (rename_i h; rw [(q k h).2.2.2.2]); rfl
    rw [e1, e2, e3] at this
    exact this
  · have := k2 k hk
    have e : kn c s k = kn c (pt s i { s.ch i with lev := x }) k := by unfold kn; split; (rename_i h; rw [(q k h).2.2.1]); rfl
    rwa [e] at this
theorem RX.setOff (H : RX W S p c s ls) (hc : c.length = 21) (hi : i < NN c) (h4 : NN c ≤ 4) (x : Int) : RX (W.setCell ⟨p.g, 32 + i, none⟩ (.int .i64 x)) S p c (pt s i { s.ch i with off := x }) ls := by
  have q : ∀ k, k < NN c → ((pt s i { s.ch i with off := x }).ch k).last = (s.ch k).last ∧ ((pt s i { s.ch i with off := x }).ch k).has = (s.ch k).has ∧ ((pt s i { s.ch i with off := x }).ch k).k = (s.ch k).k ∧ ((pt s i { s.ch i with off := x }).ch k).lev = (s.ch k).lev ∧ ((pt s i { s.ch i with off := x }).ch k).st = (s.ch k).st := fun k hk => by
    by_cases e : k = i
    · subst e; rw [pt_same]; exact ⟨rfl, rfl, rfl, rfl, rfl⟩
    · rw [pt_other _ _ _ _ e]; exact ⟨rfl, rfl, rfl, rfl, rfl⟩
  refine H.cells _ _ rfl (only_cell _ _ _) (fun k hk => ⟨(q k hk).1.symm, (q k hk).2.1.symm⟩) fun cap cm k1 k2 => ⟨cap, cm, ?_, fun k hk => ?_⟩
  · have := k1.set (32 + i) (.int .i64 x)
    rw [rsg_off hc i (by omega)] at this
    have e1 : (fun k => if k = i then x else fq c s k) = fq c (pt s i { s.ch i with off := x }) := by
      funext k; unfold fq
      by_cases e : k = i
      · subst e; rw [if_pos rfl, if_pos hi, pt_same]
      · rw [if_neg e, pt_other _ _ _ _ e]
    have e2 : lq c s = lq c (pt s i { s.ch i with off := x }) := by funext k; unfold lq; split; (rename_i h; rw [(q k h).2.2.2.1]); rfl
    have e3 : sq c s = sq c (pt s i { s.ch i with off := x }) := by funext k; unfold sq; split; (rename_i h; rw [(q k h).2.2.2.2]); rfl
    rw [e1, e2, e3] at this
    exact this
  · have := k2 k hk
    have e : kn c s k = kn c (pt s i { s.ch i with off := x }) k := by unfold kn; split; (rename_i h; rw [(q k h).2.2.1]); rfl
    rwa [e] at this
theorem only_cells (g o : Nat) (x : Lc.St) : Only g W (W.setCells g o (lav x)) :=
  (((((But.refl (· = g) W).setCell (p := ⟨g, o, none⟩) (Or.inl rfl) (.bool x.la)).setCell (p := ⟨g, o + 1, none⟩) (Or.inl rfl) (.bool x.ou)).setCell (p := ⟨g, o + 2, none⟩) (Or.inl rfl) (.int .i64 x.st)).setCell (p := ⟨g, o + 3, none⟩) (Or.inl rfl) (.int .i64 x.cl)).setCell (p := ⟨g, o + 4, none⟩) (Or.inl rfl) (.int .i64 x.bk)
theorem RX.setSt (H : RX W S p c s ls) (hc : c.length = 21) (hi : i < NN c) (h4 : NN c ≤ 4) (x : Lc.St) : RX (W.setCells p.g (36 + i * 5) (lav x)) S p c (pt s i { s.ch i with st := x }) ls := by
  have q : ∀ k, k < NN c → ((pt s i { s.ch i with st := x }).ch k).last = (s.ch k).last ∧ ((pt s i { s.ch i with st := x }).ch k).has = (s.ch k).has ∧ ((pt s i { s.ch i with st := x }).ch k).k = (s.ch k).k ∧ ((pt s i { s.ch i with st := x }).ch k).lev = (s.ch k).lev ∧ ((pt s i { s.ch i with st := x }).ch k).off = (s.ch k).off := fun k hk => by
    by_cases e : k = i
    · subst e; rw [pt_same]; exact ⟨rfl, rfl, rfl, rfl, rfl⟩
    · rw [pt_other _ _ _ _ e]; exact ⟨rfl, rfl, rfl, rfl, rfl⟩
  refine H.cells _ _ rfl (only_cells _ _ _) (fun k hk => ⟨(q k hk).1.symm, (q k hk).2.1.symm⟩) fun cap cm k1 k2 => ⟨cap, cm, ?_, fun k hk => ?_⟩
  · have := ((((k1.set (36 + i * 5) (.bool x.la)).set (36 + i * 5 + 1) (.bool x.ou)).set (36 + i * 5 + 2) (.int .i64 x.st)).set (36 + i * 5 + 3) (.int .i64 x.cl)).set (36 + i * 5 + 4) (.int .i64 x.bk)
    rw [rsg_st hc i (by omega)] at this
    have e1 : (fun k => if k = i then x else sq c s k) = sq c (pt s i { s.ch i with st := x }) := by
      funext k; unfold sq
      by_cases e : k = i
      · subst e; rw [if_pos rfl, if_pos hi, pt_same]
      · rw [if_neg e, pt_other _ _ _ _ e]
    have e2 : lq c s = lq c (pt s i { s.ch i with st := x }) := by funext k; unfold lq; split; (rename_i h; rw [(q k h).2.2.2.1]); rfl
    have e3 : fq c s = fq c (pt s i { s.ch i with st := x }) := by funext k; unfold fq; split; (rename_i h; rw [(q k h).2.2.2.2]); rfl
    rw [e1, e2, e3] at this
    exact this
  · have := k2 k hk
    have e : kn c s k = kn c (pt s i { s.ch i with st := x }) k := by unfold kn; split; (rename_i h; rw [(q k h).2.2.1]); rfl
    rwa [e] at this
/-- A channel's values in a row. -/
theorem RX.setCame (H : RX W S p c s ls) (hc : c.length = 21) (hi : i < NN c) (h4 : NN c ≤ 4) {x : Value} {k : Nat} {l : Int} (hx : Hold W S p.lo x k l) : RX (W.setCell ⟨p.g, 24 + i, none⟩ x) S p c (pt s i { s.ch i with k := k }) (fun j => if j = i then l else ls j) := by
  have q : ∀ j, j < NN c → ((pt s i { s.ch i with k := k }).ch j).last = (s.ch j).last ∧ ((pt s i { s.ch i with k := k }).ch j).has = (s.ch j).has ∧ ((pt s i { s.ch i with k := k }).ch j).lev = (s.ch j).lev ∧ ((pt s i { s.ch i with k := k }).ch j).off = (s.ch j).off ∧ ((pt s i { s.ch i with k := k }).ch j).st = (s.ch j).st := fun j hj => by
    by_cases e : j = i
    · subst e; rw [pt_same]; exact ⟨rfl, rfl, rfl, rfl, rfl⟩
    · rw [pt_other _ _ _ _ e]; exact ⟨rfl, rfl, rfl, rfl, rfl⟩
  have hg := H.low.1
  refine H.cells _ _ rfl (only_cell _ _ _) (fun j hj => ⟨(q j hj).1.symm, (q j hj).2.1.symm⟩) fun cap cm k1 k2 => ⟨cap, fun j => if j = i then x else cm j, ?_, fun j hj => ?_⟩
  · have := k1.set (24 + i) x
    rw [rsg_came hc i (by omega)] at this
    have e1 : lq c s = lq c (pt s i { s.ch i with k := k }) := by funext j; unfold lq; split; (rename_i h; rw [(q j h).2.2.1]); rfl
    have e2 : fq c s = fq c (pt s i { s.ch i with k := k }) := by funext j; unfold fq; split; (rename_i h; rw [(q j h).2.2.2.1]); rfl
    have e3 : sq c s = sq c (pt s i { s.ch i with k := k }) := by funext j; unfold sq; split; (rename_i h; rw [(q j h).2.2.2.2]); rfl
    rw [e1, e2, e3] at this
    exact this
  · by_cases e : j = i
    · subst e
      have e2 : kn c (pt s j { s.ch j with k := k }) j = k := by unfold kn; rw [if_pos hi, pt_same]
      simp only [if_true, e2]
      exact hx.low (only_cell (W := W) p.g (24 + j) x) (fun m e => by omega)
    · have := k2 j hj
      have e2 : kn c (pt s i { s.ch i with k := k }) j = kn c s j := by unfold kn; rw [pt_other _ _ _ _ e]
      simp only [if_neg e, e2]
      exact this
/-- A watch alone was written. -/
theorem RX.watch (H : RX W S p c s ls) (hi : i < NN c) {last : Int} {has : Bool} (B : Only (p.wa i) W W') (R : Jp.RWb W' W.heap.size (p.wa i) (G c 1) (G c 2) (G c 4) last has) : RX W' (Up S W W') p c (pt s i { s.ch i with last := last, has := has }) ls := by
  have q : ∀ j, j < NN c → ((pt s i { s.ch i with last := last, has := has }).ch j).k = (s.ch j).k ∧ ((pt s i { s.ch i with last := last, has := has }).ch j).lev = (s.ch j).lev ∧ ((pt s i { s.ch i with last := last, has := has }).ch j).off = (s.ch j).off ∧ ((pt s i { s.ch i with last := last, has := has }).ch j).st = (s.ch j).st := fun j hj => by
    by_cases e : j = i
    · subst e; rw [pt_same]; exact ⟨rfl, rfl, rfl, rfl⟩
    · rw [pt_other _ _ _ _ e]; exact ⟨rfl, rfl, rfl, rfl⟩
  obtain ⟨cap, cm, k1, k2⟩ := H.sig
  obtain ⟨a, rc, r1, r2, r3, r4, r5⟩ := H.room
  obtain ⟨cs, t, w1, w2⟩ := H.row
  obtain ⟨n1, n2, n3, n4, n5⟩ := H.ne
  obtain ⟨l1, l2, l3, l4⟩ := H.low
  obtain ⟨o1, o2, o3, o4⟩ := H.own
  have hlo : ∀ j, j = p.wa i → j < p.lo := fun j e => by have := l4 i hi; omega
  have hs := B.size
  have hb := H.big
  refine ⟨⟨cap, cm, ?_, fun j hj => ?_⟩, ⟨a, rc, r1.but B (fun e => (n4 i hi).2.1 e.symm), r2.but B (fun ad e q => by have := (r5 ad e).1; have := hlo _ q; omega), r3, r4, fun ad e => ⟨(r5 ad e).1, .inl (r5 ad e).2⟩⟩, ⟨cs, t, w1.but B (fun e => (n4 i hi).2.2 e.symm), w2⟩, fun j hj => ?_, ⟨.inl o1, .inl o2, .inl o3, fun j hj => .inl (o4 j hj)⟩, H.low, H.ne, fun j hj => ?_, Nat.le_trans H.big B.size⟩
  · have e1 : lq c s = lq c (pt s i { s.ch i with last := last, has := has }) := by funext j; unfold lq; split; (rename_i h; rw [(q j h).2.1]); rfl
    have e2 : fq c s = fq c (pt s i { s.ch i with last := last, has := has }) := by funext j; unfold fq; split; (rename_i h; rw [(q j h).2.2.1]); rfl
    have e3 : sq c s = sq c (pt s i { s.ch i with last := last, has := has }) := by funext j; unfold sq; split; (rename_i h; rw [(q j h).2.2.2]); rfl
    rw [← e1, ← e2, ← e3]
    exact k1.but B (fun e => (n4 i hi).1 e.symm)
  · have := k2 j hj
    have e : kn c s j = kn c (pt s i { s.ch i with last := last, has := has }) j := by unfold kn; split; (rename_i h; rw [(q j h).1]); rfl
    rw [← e]
    exact (this.low B hlo).mono fun _ h => .inl h
  · by_cases e : j = i
    · subst e
      rw [pt_same]
      obtain ⟨v, v1, v2, v3⟩ := R
      refine ⟨v, v1, v2, fun b o n k e => ?_⟩
      have hb2 := v3 b o n k e
      refine ⟨by omega, .inr ⟨hb2, ?_⟩⟩
      rcases v2 with ⟨_, h2⟩ | ⟨_, b', u, h2, h3⟩
      · rw [h2] at e; cases e
      · rw [h2] at e; cases e; exact h3.lt
    · rw [pt_other _ _ _ _ e]
      obtain ⟨v, v1, v2, v3⟩ := H.wat j hj
      exact ⟨v, v1.but B (fun q => e (n5 j i hj hi q)), Came.but v2 B (fun b o n k e q => by have := (v3 b o n k e).1; have := hlo _ q; omega), fun b o n k e => ⟨(v3 b o n k e).1, .inl (v3 b o n k e).2⟩⟩
  · rcases hj with h | h
    · exact Nat.lt_of_lt_of_le (H.lt j h) hs
    · exact h.2
/-- The room alone was written. -/
theorem RX.vote (H : RX W S p c s ls) {l : List Int} (B : Only p.rm W W') (R : Sk.RRb W' W.heap.size p.rm (PW c) (G c 5) l) (hl : 0 < l.length) : RX W' (Up S W W') p c { s with votes := l } ls := by
  obtain ⟨cap, cm, k1, k2⟩ := H.sig
  obtain ⟨a, rc, r1, r2, r3, r4, r5⟩ := R
  obtain ⟨cs, t, w1, w2⟩ := H.row
  obtain ⟨n1, n2, n3, n4, n5⟩ := H.ne
  obtain ⟨l1, l2, l3, l4⟩ := H.low
  obtain ⟨o1, o2, o3, o4⟩ := H.own
  have hlo : ∀ j, j = p.rm → j < p.lo := fun j e => by omega
  have hs := B.size
  have hb := H.big
  refine ⟨⟨cap, cm, k1.but B n1, fun j hj => ((k2 j hj).low B hlo).mono fun _ h => .inl h⟩, ⟨a, rc, r1, r2, r3, r4, fun ad e => ?_⟩, ⟨cs, t, w1.but B (fun e => n3 e.symm), w2⟩, fun j hj => ?_, ⟨.inl o1, .inl o2, .inl o3, fun j hj => .inl (o4 j hj)⟩, H.low, H.ne, fun j hj => ?_, Nat.le_trans H.big B.size⟩
  · have := r5 ad e
    refine ⟨by omega, .inr ⟨this, ?_⟩⟩
    rcases r2 with h | ⟨b, off, h, hc⟩
    · rw [h] at hl; simp at hl
    · rw [h] at e; cases e; exact cell_lt (hc 0 hl)
  · obtain ⟨v, v1, v2, v3⟩ := H.wat j hj
    exact ⟨v, v1.but B (n4 j hj).2.1, Came.but v2 B (fun b o n k e q => by have := (v3 b o n k e).1; have := hlo _ q; omega), fun b o n k e => ⟨(v3 b o n k e).1, .inl (v3 b o n k e).2⟩⟩
  · rcases hj with h | h
    · exact Nat.lt_of_lt_of_le (H.lt j h) hs
    · exact h.2
theorem RX.room' (H : RX W S p c s ls) : Sk.RRoom W p.lo p.rm (PW c) (G c 5) s.votes := by
  obtain ⟨a, rc, r1, r2, r3, r4, r5⟩ := H.room
  exact ⟨a, rc, r1, r2, r3, r4, fun ad e => (r5 ad e).1, H.low.2.1⟩
theorem RX.watch' (H : RX W S p c s ls) (hi : i < NN c) : Jp.RW W (p.wa i) (G c 1) (G c 2) (G c 4) (s.ch i).last (s.ch i).has := by
  obtain ⟨v, v1, v2, v3⟩ := H.wat i hi
  exact ⟨v, v1, v2, fun b o n k e => by have := (v3 b o n k e).1; have := H.low.2.2.2 i hi; omega⟩
theorem RX.cfg (H : RX W S p c s ls) (hc : c.length = 21) (j : Nat) (hj : j < 21) : W.cell? ⟨p.g, j, none⟩ = some (.int .i64 (G c j)) := by
  obtain ⟨cap, cm, h1, _⟩ := H.sig; exact h1.cell _ (rsg_cfg hc j hj)
theorem RX.rmc (H : RX W S p c s ls) (hc : c.length = 21) : W.cell? ⟨p.g, 21, none⟩ = some (.pointer (some ⟨p.rm, 0, none⟩)) := by
  obtain ⟨cap, cm, h1, _⟩ := H.sig; exact h1.cell _ (rsg_room hc)
theorem RX.vac (H : RX W S p c s ls) (hc : c.length = 21) : W.cell? ⟨p.g, 22, none⟩ = some (.int .i64 s.val) := by
  obtain ⟨cap, cm, h1, _⟩ := H.sig; exact h1.cell _ (rsg_value hc)
theorem RX.wac (H : RX W S p c s ls) (hc : c.length = 21) : ∃ cap, W.cell? ⟨p.g, 23, none⟩ = some (.slice (some ⟨p.wb, 0, none⟩) (NN c) cap) := by
  obtain ⟨cap, cm, h1, _⟩ := H.sig; exact ⟨cap, h1.cell _ (rsg_watch hc)⟩
theorem RX.wai (H : RX W S p c s ls) (hi : i < NN c) : W.cell? ⟨p.wb, i, none⟩ = some (.pointer (some ⟨p.wa i, 0, none⟩)) := by
  obtain ⟨cs, t, h1, h2⟩ := H.row; exact h1.cell _ (h2 i hi)
theorem RX.frz (H : RX W S p c s ls) (j : Nat) : W.frozen? ⟨p.g, j, none⟩ = false := by
  obtain ⟨cap, cm, h1, _⟩ := H.sig; exact h1.frozen j
theorem RX.cam (H : RX W S p c s ls) (hc : c.length = 21) (hi : i < NN c) (h4 : NN c ≤ 4) : ∃ v, W.cell? ⟨p.g, 24 + i, none⟩ = some v ∧ Hold W S p.lo v (s.ch i).k (ls i) := by
  obtain ⟨cap, cm, h1, h2⟩ := H.sig
  have := h2 i (by omega)
  unfold kn at this
  rw [if_pos hi] at this
  exact ⟨cm i, h1.cell _ (rsg_cm hc i (by omega)), this⟩
theorem RX.lvc (H : RX W S p c s ls) (hc : c.length = 21) (hi : i < NN c) (h4 : NN c ≤ 4) : W.cell? ⟨p.g, 28 + i, none⟩ = some (.int .i64 (s.ch i).lev) := by
  obtain ⟨cap, cm, h1, _⟩ := H.sig
  have := h1.cell _ (rsg_lv hc i (by omega))
  unfold lq at this
  rwa [if_pos hi] at this
theorem RX.ofc (H : RX W S p c s ls) (hc : c.length = 21) (hi : i < NN c) (h4 : NN c ≤ 4) : W.cell? ⟨p.g, 32 + i, none⟩ = some (.int .i64 (s.ch i).off) := by
  obtain ⟨cap, cm, h1, _⟩ := H.sig
  have := h1.cell _ (rsg_of hc i (by omega))
  unfold fq at this
  rwa [if_pos hi] at this
theorem rsg_lav {c : List Int} {rm wt : Value} {v : Int} {cm : Nat → Value} {lv off : Nat → Int} {st : Nat → Lc.St} (hc : c.length = 21) (i : Nat) (hi : i < 4) (j : Nat) (hj : j < 5) : (rsg c rm v wt cm lv off st)[36 + i * 5 + j]? = (lav (st i))[j]? := by
  rw [show 36 + i * 5 + j = 21 + (15 + i * 5 + j) by omega, rsg_at hc]
  have h1 : i = 0 ∨ i = 1 ∨ i = 2 ∨ i = 3 := by omega
  have h2 : j = 0 ∨ j = 1 ∨ j = 2 ∨ j = 3 ∨ j = 4 := by omega
  rcases h1 with rfl | rfl | rfl | rfl <;> rcases h2 with rfl | rfl | rfl | rfl | rfl <;> rfl
theorem RX.stc (H : RX W S p c s ls) (hc : c.length = 21) (hi : i < NN c) (h4 : NN c ≤ 4) (j : Nat) (v : Value) (hv : (lav (s.ch i).st)[j]? = some v) : W.cell? ⟨p.g, 36 + i * 5 + j, none⟩ = some v := by
  obtain ⟨cap, cm, h1, _⟩ := H.sig
  have hj : j < 5 := (List.getElem?_eq_some_iff.1 hv).1
  refine h1.cell _ ?_
  rw [rsg_lav hc i (by omega) j hj]
  show (lav (sq c s i))[j]? = some v
  unfold sq
  rw [if_pos hi]; exact hv
end
end Sg
end Go.Proofs.YtacclmfbkiadbaaGreat

namespace Go.Proofs.YtacclmfbkiadbaaGreat
set_option maxRecDepth 100000
open Go.ChangeShapes Go.WideShapes Go.ChangeAt Go.RowKit Go.Deep
namespace Sg
open Cf (G CA Box)
/-- A channel behind that step. -/
def aw (s : Si) (r : Nat → Rw) (i : Nat) : Ch := { s.ch i with last := if (r i).is = true then (r i).n else 0, has := (r i).is, k := if (r i).is = true then kq (s.ch i) (r i).n else 0 }
def al (r : Nat → Rw) (ls : Nat → Int) (i : Nat) (j : Nat) : Int := if j = i then (r i).n else ls j
def rwv (x : Rw) : Value := .agg #[.bool x.is, .int .i64 x.n]
theorem up_of {S : Nat → Prop} {W W' : World} {j : Nat} (h : Up S W W' j) : S j ∨ W.heap.size ≤ j := h.imp id (·.1)
theorem list8 {α : Type} {l : List α} (h : l.length = 8) : ∃ a b c d e f g i, l = [a, b, c, d, e, f, g, i] := by
  obtain ⟨a, l, rfl⟩ := List.exists_cons_of_length_pos (l := l) (by omega)
  obtain ⟨b, l, rfl⟩ := List.exists_cons_of_length_pos (l := l) (by simp at h; omega)
  obtain ⟨c, l, rfl⟩ := List.exists_cons_of_length_pos (l := l) (by simp at h; omega)
  obtain ⟨d, l, rfl⟩ := List.exists_cons_of_length_pos (l := l) (by simp at h; omega)
  obtain ⟨e, l, rfl⟩ := List.exists_cons_of_length_pos (l := l) (by simp at h; omega)
  obtain ⟨f, l, rfl⟩ := List.exists_cons_of_length_pos (l := l) (by simp at h; omega)
  obtain ⟨g, l, rfl⟩ := List.exists_cons_of_length_pos (l := l) (by simp at h; omega)
  obtain ⟨i, l, rfl⟩ := List.exists_cons_of_length_pos (l := l) (by simp at h; omega)
  obtain rfl := List.eq_nil_of_length_eq_zero (l := l) (by simpa using h)
  exact ⟨a, b, c, d, e, f, g, i, rfl⟩
/-- What came in a row, as a call hands it back. -/
def Rq (W1 : World) (K : Nat) (x : Int) (Y : World) (v : Value) : Prop := ∃ a cap, v = .slice a K cap ∧ IntsAt .i64 Y a (List.replicate K x) ∧ (∀ ad, a = some ad → W1.heap.size ≤ ad.block)
structure Cq (W1 : World) (K : Nat) (x : Int) (F : Bool) (bs : List Bool) (vs : List Value) (Y : World) : Prop where
  below : Below W1.heap.size W1 Y
  c0 : bs.getD 0 false = true → ∃ v, Rq W1 K x Y v ∧ vs.getD 0 undef = .tuple #[v, .bool F, .int .i64 0]
  c1 : bs.getD 1 false = true → ∃ v, Rq W1 K x Y v ∧ vs.getD 1 undef = .tuple #[v, .bool F, .int .i64 0]
  c2 : bs.getD 2 false = true → Rq W1 K x Y (vs.getD 2 undef)
  c3 : bs.getD 3 false = true → vs.getD 3 undef = .bool F
  c4 : bs.getD 4 false = true → vs.getD 4 undef = .int .i64 0
  c5 : bs.getD 5 false = true → Rq W1 K x Y (vs.getD 5 undef)
  c6 : bs.getD 6 false = true → vs.getD 6 undef = .bool F
  c7 : bs.getD 7 false = true → vs.getD 7 undef = .int .i64 0
theorem Cq.cast {W1 Y : World} {K : Nat} {x : Int} {F : Bool} {bs bs' : List Bool} {vs vs' : List Value} (eb : bs' = bs) (e : vs' = vs) (h : Cq W1 K x F bs vs Y) : Cq W1 K x F bs' vs' Y := by subst eb e; exact h
theorem Rq.on {W1 Y Z : World} {K : Nat} {x : Int} {v : Value} (h : Rq W1 K x Y v) (b : Below Y.heap.size Y Z) : Rq W1 K x Z v := by
  obtain ⟨a, cap, e, i, n⟩ := h
  exact ⟨a, cap, e, i.below b, n⟩
theorem Cq.on {W1 Y Z : World} {K : Nat} {x : Int} {F : Bool} {bs : List Bool} {vs : List Value} (h : Cq W1 K x F bs vs Y) (b : Below Y.heap.size Y Z) : Cq W1 K x F bs vs Z :=
  ⟨grow h.below b, fun e => (h.c0 e).imp fun _ q => ⟨q.1.on b, q.2⟩, fun e => (h.c1 e).imp fun _ q => ⟨q.1.on b, q.2⟩, fun e => (h.c2 e).on b, h.c3, h.c4, fun e => (h.c5 e).on b, h.c6, h.c7⟩
section
variable {W : World} {S : Nat → Prop} {p : Pl} {c : List Int} {s : Si} {ls : Nat → Int} {r : Nat → Rw} {i : Nat}
set_option maxHeartbeats 3200000 in
theorem rahead_no (H : RX W S p c s ls) (hc : c.length = 21) (hi : i < NN c) (h4 : NN c ≤ 4) (hx : (r i).is = false) :
    Calls Tryz.prog 34 #[.pointer (some ⟨p.g, 0, none⟩), .int .i64 i, rwv (r i)] W fun e w' => e = .returned (.int .i64 (ahd c s r i)) ∧ (∃ S', RX w' S' p c (pt s i (aw s r i)) (al r ls i) ∧ ∀ j, S' j → S j ∨ W.heap.size ≤ j) ∧ But S W w' := by
  have HA := Lib.hid (show ahd c s r i = 1 by unfold ahd; simp [hx])
  have HAW := Lib.hid (show aw s r i = { s.ch i with last := 0, has := false, k := 0 } by unfold aw; simp [hx])
  have HRV : rwv (r i) = .agg #[.bool false, .int .i64 (r i).n] := by unfold rwv; rw [hx]
  rw [HA.out, HAW.out, HRV]
  clear HA HRV HAW hx
  have HAL := Lib.hid (show al r ls i = fun j => if j = i then (r i).n else ls j from rfl)
  rw [HAL.out]
  clear HAL
  generalize (r i).n = xn at *
  have B0 := Lib.hid ((Below.refl W.heap.size W).alloc (Nat.le_refl _) (.cells #[.bool false, .int .i64 xn] 45))
  have X0 := H.on B0.out
  have c0 := VRow.cell (VRow.new W [.bool false, .int .i64 xn] 45) 0 (v := .bool false) rfl
  obtain ⟨cap, c1⟩ := X0.wac hc
  have c2 := X0.wai hi
  have HW := Lib.hid (X0.watch' hi)
  have HX0 := Lib.hid X0
  have hii : (i : Int) < NN c := by omega
  have hi4 : (i : Int) < 4 := by omega
  have HIN := Lib.hid hi
  have H4 := Lib.hid h4
  have HC := Lib.hid hc
  have HI := Lib.hid H
  clear H X0 h4 hc
  change (W.alloc (.cells #[.bool false, .int .i64 xn] 45)).cell? _ = _ at c0
  go_enter Tryz.func34, Tryz.ntmps34
  go_upto_region 1 with fail
  generalize W.alloc (.cells #[.bool false, .int .i64 xn] 45) = W0 at *
  go_wp2_with fail
  refine (Jp.rmissb_any (p.wa i) _ _ _ _ _ W0 W0.heap.size HW.out).mono ?_; rintro e w1 ⟨rfl, R1, O1⟩
  have X1 := Lib.hid (HX0.out.watch HIN.out O1 R1)
  obtain ⟨v, k1, -⟩ := X1.out.cam HC.out HIN.out H4.out
  have f1 := X1.out.frz (24 + i)
  have BS := Lib.hid (But.call (But.of_below (S := S) B0.out) O1 fun j e => .inl (e ▸ HI.out.own.2.2.2 i HIN.out))
  clear R1 O1 HW c0 c1 c2
  go_wp2_with fail
  go_ret
  refine ⟨rfl, ⟨Up S W0 w1, RX.congr (X1.out.setCame HC.out HIN.out H4.out (l := xn) Hold.nil) rfl rfl (fun j hj => ?_) (fun j hj => rfl), fun j hj => (up_of hj).imp id (fun q => Nat.le_trans B0.out.size q)⟩, BS.out.setCell (p := ⟨p.g, 24 + i, none⟩) (Or.inl HI.out.own.1) _⟩
  by_cases e : j = i
  · subst e; rw [pt_same, pt_same, pt_same]
  · rw [pt_other _ _ _ _ e, pt_other _ _ _ _ e, pt_other _ _ _ _ e]
set_option maxHeartbeats 3200000 in
theorem rahead_yes (H : RX W S p c s ls) (hc : c.length = 21) (hR : Cf.Right c) (hi : i < NN c) (h4 : NN c ≤ 4) (hx : (r i).is = true) (hv : Jp.val (r i).n = true) (hl : (s.ch i).has = true → Jp.val (s.ch i).last = true) (hls : ls i = (s.ch i).last) (hk : (s.ch i).k ≤ 1000) (hV : s.votes.length ≤ 1000) :
    Calls Tryz.prog 34 #[.pointer (some ⟨p.g, 0, none⟩), .int .i64 i, rwv (r i)] W fun e w' => e = .returned (.int .i64 (ahd c s r i)) ∧ (∃ S', RX w' S' p c (pt s i (aw s r i)) (al r ls i) ∧ ∀ j, S' j → S j ∨ W.heap.size ≤ j) ∧ But S W w' := by
  have HA := Lib.hid (show ahd c s r i = Jp.trips (G c 1) (G c 2) (G c 4) (s.ch i).last (s.ch i).has (r i).n + (if (decide (PW c + 1 ≤ Sk.kk (s.ch i).last (s.ch i).k (r i).n) && Sk.moved (PW c) (G c 5) (Sk.lastN (PW c) s.votes)) = true then 8 else 0) by unfold ahd; rw [if_pos hx]; rfl)
  have HAW := Lib.hid (show aw s r i = { s.ch i with last := (r i).n, has := true, k := Sk.kk (s.ch i).last (s.ch i).k (r i).n } by unfold aw; rw [hx]; rfl)
  have HRV : rwv (r i) = .agg #[.bool true, .int .i64 (r i).n] := by unfold rwv; rw [hx]
  have HPW := Lib.hid (show 1 ≤ PW c ∧ PW c ≤ 15 from by
    obtain ⟨-, -, -, -, -, -, h6, -⟩ := hR
    unfold PW; omega)
  rw [HA.out, HAW.out, HRV]
  clear HA HRV HAW hx hR
  have HAL := Lib.hid (show al r ls i = fun j => if j = i then (r i).n else ls j from rfl)
  rw [HAL.out]
  clear HAL
  generalize (r i).n = xn at *
  have B0 := Lib.hid ((Below.refl W.heap.size W).alloc (Nat.le_refl _) (.cells #[.bool true, .int .i64 xn] 45))
  have X0 := H.on B0.out
  have R0 := Lib.hid (show VRow (W.alloc (.cells #[.bool true, .int .i64 xn] 45)) W.heap.size 45 [.bool true, .int .i64 xn] from VRow.new W [.bool true, .int .i64 xn] 45)
  have c0 := VRow.cell R0.out 0 (v := .bool true) rfl
  have c9 := VRow.cell R0.out 1 (v := .int .i64 xn) rfl
  obtain ⟨cap, c1⟩ := X0.wac hc
  have c2 := X0.wai hi
  have HW := Lib.hid (X0.watch' hi)
  have HX0 := Lib.hid X0
  have hii : (i : Int) < NN c := by omega
  have hi4 : (i : Int) < 4 := by omega
  have hlow := H.low.2.2.2 i hi
  have hbig := H.big
  have HIN := Lib.hid hi
  have H4 := Lib.hid h4
  have HC := Lib.hid hc
  have HI := Lib.hid H
  have HLS := Lib.hid hls
  have htb : 0 ≤ Jp.trips (G c 1) (G c 2) (G c 4) (s.ch i).last (s.ch i).has xn ∧ Jp.trips (G c 1) (G c 2) (G c 4) (s.ch i).last (s.ch i).has xn ≤ 6 := by unfold Jp.trips; split <;> split <;> omega
  have RC := fun (a : Option Addr) (cp : Nat) W' hr hw => Sk.rcome_rep p.lo p.rm (PW c) (G c 5) s.votes a cp (s.ch i).k (ls i) xn W' hv hr hV HPW.out.1 HPW.out.2 hw hk
  rw [hls] at RC
  have HKP := Lib.hid (show 1 ≤ Sk.kk (s.ch i).last (s.ch i).k xn by unfold Sk.kk; split <;> omega)
  have CW := fun W' h => Jp.rcomeb_yes (p.wa i) (G c 1) (G c 2) (G c 4) (s.ch i).last (s.ch i).has xn W' h hl hv
  generalize Jp.trips (G c 1) (G c 2) (G c 4) (s.ch i).last (s.ch i).has xn = tt at *
  generalize (decide (PW c + 1 ≤ Sk.kk (s.ch i).last (s.ch i).k xn) && Sk.moved (PW c) (G c 5) (Sk.lastN (PW c) s.votes)) = F at *
  generalize Sk.kk (s.ch i).last (s.ch i).k xn = K' at *
  clear H X0 h4 hc hls hl
  change (W.alloc (.cells #[.bool true, .int .i64 xn] 45)).cell? _ = _ at c0
  change (W.alloc (.cells #[.bool true, .int .i64 xn] 45)).cell? _ = _ at c9
  go_enter Tryz.func34, Tryz.ntmps34
  go_upto_region 1 with fail
  generalize W.alloc (.cells #[.bool true, .int .i64 xn] 45) = W0 at *
  have HWD := Lib.hid (HX0.out.on (below_drewN (Below.refl W0.heap.size W0) 1))
  have R0D := Lib.hid (VRow.drew R0.out)
  go_upto_region 5 with fail
  go_cut [7, 8] (fun s7 s8 wx => s7 = .int .i64 tt ∧ s8 = .int .i64 0 ∧ Hid (Jp.RWb wx W0.heap.size (p.wa i) (G c 1) (G c 2) (G c 4) xn true) ∧ Hid (Only (p.wa i) W0 wx))
  case first =>
    go_region_with (go_at_call 72; refine (CW W0.drew (HWD.out.watch' HIN.out)).mono ?_; rintro e w1 ⟨rfl, R1', O1'⟩; have R1 := Lib.hid R1'; have O1 := Lib.hid O1'; clear R1' O1')
    all_goals (go_wp2_with fail; go_meet)
    all_goals exact ⟨rfl, rfl, R1, Lib.hid ((But.refl (· = p.wa i) W0).drew.trans O1.out)⟩
  case rest =>
    obtain ⟨rfl, rfl, R1, O1⟩ := hcut
    have X1 := Lib.hid (HX0.out.watch HIN.out O1.out R1.out)
    obtain ⟨v, k1, a, cp, rfl, hV1, hV2⟩ := X1.out.cam HC.out HIN.out H4.out
    have k2 := X1.out.rmc HC.out
    have R2 := Lib.hid (R0.out.only O1.out (by omega))
    have k3 := VRow.cell R2.out 1 (v := .int .i64 xn) rfl
    have BS := Lib.hid (But.call (But.of_below (S := S) B0.out) O1.out fun j e => .inl (e ▸ HI.out.own.2.2.2 i HIN.out))
    rw [pt_same] at hV1 k1
    have HV1 := Lib.hid (show IntsAt .i64 wc a (List.replicate (s.ch i).k (ls i)) from hV1)
    change wc.cell? _ = some (.slice a (s.ch i).k cp) at k1
    have K1 := Lib.hid k1
    clear CW R1 O1 HW HWD R0D c0 c1 c2 c9 hV1 hV2 hv hV hlow hbig HPW hk
    have HID := Lib.hid (show IntsAt .i64 wc a (List.replicate (s.ch i).k (s.ch i).last) from by have := HV1.out; rw [HLS.out] at this; exact this)
    clear HV1 HLS
    go_upto_region 6 with fail
    go_cut [9, 10, 11] (fun s9 s10 s11 wx => ∃ a2 cap2, s9 = .slice a2 K' cap2 ∧ s10 = .bool F ∧ s11 = .int .i64 0 ∧ Hid (IntsAt .i64 wx a2 (List.replicate K' xn)) ∧ Hid (∀ ad, a2 = some ad → wc.heap.size ≤ ad.block) ∧ Hid (Below wc.heap.size wc wx))
    case first =>
      clear k1 k2 k3
      refine Ws.wp_sets (aF := ?_) [54, 41, 55, 56, 57, 9, 10, 11] [12, 13, 14, 15, 16, 17, 18, 19] 68 [true, true, true, true, true, true, true, true, true, true, true, true, false, false, false, false, false, false, false, false] [(54, undef), (41, undef), (55, undef), (56, undef), (57, undef), (9, undef), (10, undef), (11, undef)]
        (Cq wc K' xn F)
        (fun Y => Below wc.heap.size wc Y)
        (by kernel_rfl) (by kernel_rfl) (by kernel_rfl) (by kernel_rfl) ?ha ?hMC ?hMg ?h0 ?hq ?hw ?hend
      case ha => rfl
      case hMC => exact fun bs vs Y h => h.below
      case hMg => exact fun bs vs Y Z h hC => h.on hC.to
      case h0 => exact fun vs _ => ⟨Below.refl _ _, fun e => (by cases e), fun e => (by cases e), fun e => (by cases e), fun e => (by cases e), fun e => (by cases e), fun e => (by cases e), fun e => (by cases e), fun e => (by cases e)⟩
      case hq =>
        intro Y hY
        have XY := X1.out.on hY
        have k1 := cell_regrown ((hY.cell (p := ⟨p.g, 24 + i, none⟩) (cell_lt K1.out)).trans K1.out)
        have k2 := cell_regrown (XY.rmc HC.out)
        have k3 := cell_regrown ((R2.out.below hY R2.out.lt).cell 1 (v := .int .i64 xn) rfl)
        clear XY hY
        simp only [Lt.sel, Lt.putAll, List.map_cons, List.map_nil, List.zip_cons_cons, List.zip_nil_right, List.foldl_cons, List.foldl_nil, Act.put, List.setIfInBounds_toArray, List.set_cons_succ, List.set_cons_zero]
        repeat (go_big_quiet_step (fail))
        exact rfl
      case hw =>
        rintro bs kk st o hbl hs ho hk hpre vs Y hv hM
        obtain ⟨x0, x1, x2, x3, x4, x5, x6, x7, rfl⟩ := list8 hv
        obtain ⟨y0, y1, y2, y3, y4, y5, y6, y7, rfl⟩ := list8 hbl
        clear hv hbl
        rcases kk with _ | _ | _ | _ | _ | _ | _ | _ | k
        · obtain rfl : 12 = st := by simpa using hs
          obtain rfl := Option.some.inj ho
          · refine Wr.wp_fn (f := 73) (args := #[.pointer (some ⟨p.rm, 0, none⟩), .slice a (s.ch i).k cp, .int .i64 xn]) (by kernel_rfl) (RC a cp Y (X1.out.on hM.below).room' (HID.out.below hM.below)) ?_
            rintro e Z ⟨a2, cap2, rfl, i2, s2, q2, m2, b2⟩
            have HZ := hM.on b2
            rw [List.length_replicate]
            refine ⟨_, rfl, _, rfl, fun d hd hn => (by cases hd; exact absurd (by decide) hn), Cq.cast (bs := [true, y1, y2, y3, y4, y5, y6, y7]) (vs := [.tuple #[.slice a2 K' cap2, .bool F, .int .i64 0], x1, x2, x3, x4, x5, x6, x7]) rfl (by kernel_rfl) ⟨HZ.below, fun _ => ⟨_, ⟨a2, cap2, rfl, i2, fun ad e => Nat.le_trans hM.below.size (s2 ad e)⟩, rfl⟩, HZ.c1, HZ.c2, HZ.c3, HZ.c4, HZ.c5, HZ.c6, HZ.c7⟩⟩
        · obtain rfl : 13 = st := by simpa using hs
          obtain rfl := Option.some.inj ho
          · obtain rfl : y0 = true := hpre 0 12 rfl (by kernel_rfl)
            have HK := Lib.hid (show Cq wc K' xn F [true, true, y2, y3, y4, y5, y6, y7] [x0, x0, x2, x3, x4, x5, x6, x7] Y from ⟨hM.below, hM.c0, hM.c0, hM.c2, hM.c3, hM.c4, hM.c5, hM.c6, hM.c7⟩)
            clear hM
            simp only [Lt.putAll, List.zip_cons_cons, List.zip_nil_right, List.foldl_cons, List.foldl_nil, Act.put, List.setIfInBounds_toArray, List.set_cons_succ, List.set_cons_zero]
            unfold Oper.wp
            go_simp
            exact HK.out
        · obtain rfl : 14 = st := by simpa using hs
          · have ho' := Option.some.inj ho
            obtain rfl : y1 = true := hpre 1 13 rfl (by rw [← ho']; kernel_rfl)
            obtain ⟨v, hv1, rfl⟩ : ∃ v, Rq wc K' xn Y v ∧ x1 = .tuple #[v, .bool F, .int .i64 0] := hM.c1 rfl
            obtain rfl := ho'
            have HK := Lib.hid (show Cq wc K' xn F [y0, true, true, y3, y4, y5, y6, y7] [x0, .tuple #[v, .bool F, .int .i64 0], v, x3, x4, x5, x6, x7] Y from ⟨hM.below, hM.c0, fun _ => ⟨v, hv1, rfl⟩, fun _ => hv1, hM.c3, hM.c4, hM.c5, hM.c6, hM.c7⟩)
            clear hM
            simp only [Lt.putAll, List.zip_cons_cons, List.zip_nil_right, List.foldl_cons, List.foldl_nil, Act.put, List.setIfInBounds_toArray, List.set_cons_succ, List.set_cons_zero]
            unfold Oper.wp
            go_simp
            exact HK.out
        · obtain rfl : 15 = st := by simpa using hs
          · have ho' := Option.some.inj ho
            obtain rfl : y1 = true := hpre 1 13 rfl (by rw [← ho']; kernel_rfl)
            obtain ⟨v, hv1, rfl⟩ : ∃ v, Rq wc K' xn Y v ∧ x1 = .tuple #[v, .bool F, .int .i64 0] := hM.c1 rfl
            obtain rfl := ho'
            have HK := Lib.hid (show Cq wc K' xn F [y0, true, y2, true, y4, y5, y6, y7] [x0, .tuple #[v, .bool F, .int .i64 0], x2, .bool F, x4, x5, x6, x7] Y from ⟨hM.below, hM.c0, fun _ => ⟨v, hv1, rfl⟩, hM.c2, fun _ => rfl, hM.c4, hM.c5, hM.c6, hM.c7⟩)
            clear hM
            simp only [Lt.putAll, List.zip_cons_cons, List.zip_nil_right, List.foldl_cons, List.foldl_nil, Act.put, List.setIfInBounds_toArray, List.set_cons_succ, List.set_cons_zero]
            unfold Oper.wp
            go_simp
            exact HK.out
        · obtain rfl : 16 = st := by simpa using hs
          · have ho' := Option.some.inj ho
            obtain rfl : y1 = true := hpre 1 13 rfl (by rw [← ho']; kernel_rfl)
            obtain ⟨v, hv1, rfl⟩ : ∃ v, Rq wc K' xn Y v ∧ x1 = .tuple #[v, .bool F, .int .i64 0] := hM.c1 rfl
            obtain rfl := ho'
            have HK := Lib.hid (show Cq wc K' xn F [y0, true, y2, y3, true, y5, y6, y7] [x0, .tuple #[v, .bool F, .int .i64 0], x2, x3, .int .i64 0, x5, x6, x7] Y from ⟨hM.below, hM.c0, fun _ => ⟨v, hv1, rfl⟩, hM.c2, hM.c3, fun _ => rfl, hM.c5, hM.c6, hM.c7⟩)
            clear hM
            simp only [Lt.putAll, List.zip_cons_cons, List.zip_nil_right, List.foldl_cons, List.foldl_nil, Act.put, List.setIfInBounds_toArray, List.set_cons_succ, List.set_cons_zero]
            unfold Oper.wp
            go_simp
            exact HK.out
        · obtain rfl : 17 = st := by simpa using hs
          obtain rfl := Option.some.inj ho
          · obtain rfl : y2 = true := hpre 2 14 rfl (by kernel_rfl)
            skip
            have HK := Lib.hid (show Cq wc K' xn F [y0, y1, true, y3, y4, true, y6, y7] [x0, x1, x2, x3, x4, x2, x6, x7] Y from ⟨hM.below, hM.c0, hM.c1, hM.c2, hM.c3, hM.c4, hM.c2, hM.c6, hM.c7⟩)
            clear hM
            simp only [Lt.putAll, List.zip_cons_cons, List.zip_nil_right, List.foldl_cons, List.foldl_nil, Act.put, List.setIfInBounds_toArray, List.set_cons_succ, List.set_cons_zero]
            unfold Oper.wp
            go_simp
            exact HK.out
        · obtain rfl : 18 = st := by simpa using hs
          obtain rfl := Option.some.inj ho
          · obtain rfl : y3 = true := hpre 3 15 rfl (by kernel_rfl)
            skip
            have HK := Lib.hid (show Cq wc K' xn F [y0, y1, y2, true, y4, y5, true, y7] [x0, x1, x2, x3, x4, x5, x3, x7] Y from ⟨hM.below, hM.c0, hM.c1, hM.c2, hM.c3, hM.c4, hM.c5, hM.c3, hM.c7⟩)
            clear hM
            simp only [Lt.putAll, List.zip_cons_cons, List.zip_nil_right, List.foldl_cons, List.foldl_nil, Act.put, List.setIfInBounds_toArray, List.set_cons_succ, List.set_cons_zero]
            unfold Oper.wp
            go_simp
            exact HK.out
        · obtain rfl : 19 = st := by simpa using hs
          obtain rfl := Option.some.inj ho
          · obtain rfl : y4 = true := hpre 4 16 rfl (by kernel_rfl)
            skip
            have HK := Lib.hid (show Cq wc K' xn F [y0, y1, y2, y3, true, y5, y6, true] [x0, x1, x2, x3, x4, x5, x6, x4] Y from ⟨hM.below, hM.c0, hM.c1, hM.c2, hM.c3, hM.c4, hM.c5, hM.c6, hM.c4⟩)
            clear hM
            simp only [Lt.putAll, List.zip_cons_cons, List.zip_nil_right, List.foldl_cons, List.foldl_nil, Act.put, List.setIfInBounds_toArray, List.set_cons_succ, List.set_cons_zero]
            unfold Oper.wp
            go_simp
            exact HK.out
        · simp at hs
      case hend =>
        intro vs Y hv hM
        obtain ⟨x0, x1, x2, x3, x4, x5, x6, x7, rfl⟩ := list8 hv
        clear hv
        · obtain ⟨a2, cap2, e5, i2', n2'⟩ : Rq wc K' xn Y x5 := hM.c5 rfl
          subst e5
          obtain rfl : x6 = .bool F := hM.c6 rfl
          obtain rfl : x7 = .int .i64 0 := hM.c7 rfl
          have i2 := Lib.hid i2'
          have n2 := Lib.hid n2'
          have b2 := Lib.hid hM.below
          clear hM i2' n2'
          simp only [Lt.putAll, List.zip_cons_cons, List.zip_nil_right, List.foldl_cons, List.foldl_nil, Act.put, List.setIfInBounds_toArray, List.set_cons_succ, List.set_cons_zero]
          go_wp2_with fail
          go_meet
          exact ⟨a2, cap2, rfl, rfl, rfl, i2, n2, b2⟩
    case rest =>
      rename World => W2
      obtain ⟨a2, cap2, rfl, rfl, rfl, I2, N2, B2⟩ := hcut
      have X2 := Lib.hid ((X1.out.on B2.out).mono (S' := Up (Up S W0 wc) wc W2) (fun j h => .inl h) (fun j h => by
        rcases h with h | h
        · have := X1.out.lt j h; have := B2.out.size; omega
        · exact h.2))
      have HB := Lib.hid (Nat.le_trans X1.out.big (Nat.le_refl _))
      have HH := Lib.hid (show Hold W2 (Up (Up S W0 wc) wc W2) p.lo (.slice a2 K' cap2) K' xn from ⟨a2, cap2, rfl, I2.out, fun ad e => by
        have h1 := N2.out ad e
        refine ⟨Nat.le_trans HB.out h1, .inr ⟨h1, ?_⟩⟩
        rcases I2.out with h0 | ⟨b, off, h0, hat⟩
        · have hl0 := congrArg List.length h0
          have := HKP.out
          simp at hl0
          omega
        · rw [h0] at e
          cases e
          exact cell_lt (hat 0 (by have := HKP.out; simp; omega))⟩)
      obtain ⟨v, k4, -⟩ := X2.out.cam HC.out HIN.out H4.out
      have f4 := X2.out.frz (24 + i)
      have BS2 := Lib.hid (BS.out.grow B2.out)
      have X3 := Lib.hid (X2.out.setCame HC.out HIN.out H4.out HH.out)
      clear k1 k2 k3 RC HID
      have XF := Lib.hid (show RX (W2.setCell ⟨p.g, 24 + i, none⟩ (.slice a2 K' cap2)) (Up (Up S W0 wc) wc W2) p c (pt s i { s.ch i with last := xn, has := true, k := K' }) (fun j => if j = i then xn else ls j) from RX.congr X3.out rfl rfl (fun j hj => by
        by_cases e : j = i
        · subst e; rw [pt_same, pt_same, pt_same]
        · rw [pt_other _ _ _ _ e, pt_other _ _ _ _ e, pt_other _ _ _ _ e]) (fun j hj => rfl))
      have HUP := Lib.hid (show ∀ j, Up (Up S W0 wc) wc W2 j → S j ∨ W.heap.size ≤ j from fun j h => by
        have h0 := B0.out.size
        have h1 := BS.out.size
        rcases h with (h | h) | h
        · exact .inl h
        · exact .inr (by omega)
        · exact .inr (by omega))
      clear X3 X2 X1 I2 N2 HH HB HKP K1 R2 HX0 R0 B2
      cases F
      · go_wp2_with fail
        go_ret
        exact ⟨by simp, ⟨_, XF.out, HUP.out⟩, BS2.out.setCell (p := ⟨p.g, 24 + i, none⟩) (Or.inl HI.out.own.1) _⟩
      · go_wp2_with fail
        go_ret
        exact ⟨by simp, ⟨_, XF.out, HUP.out⟩, BS2.out.setCell (p := ⟨p.g, 24 + i, none⟩) (Or.inl HI.out.own.1) _⟩
end
end Sg
end Go.Proofs.YtacclmfbkiadbaaGreat
