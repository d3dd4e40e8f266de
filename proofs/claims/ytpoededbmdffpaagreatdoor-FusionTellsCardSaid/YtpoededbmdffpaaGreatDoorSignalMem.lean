/-
  How a signal lies in memory, as package signal lays it; a cycle's own struct beside it; what may be written of both. No function of the program is walked here. No conditions.
-/
import Derived.Test.YtpoededbmdffpaaGreatDoorSignalFace
import Derived.Test.YtpoededbmdffpaaGreatDoorSignalRange
import Derived.Test.YtpoededbmdffpaaGreatDoorConfigCovers
import Derived.Test.YtpoededbmdffpaaGreatDoorJumpWalks
import Derived.Test.YtpoededbmdffpaaGreatDoorStuckWalks
import Derived.Test.YtpoededbmdffpaaGreatDoorDriftWalks
import Derived.Test.YtpoededbmdffpaaGreatDoorEqualWalks
namespace Go.Proofs.YtpoededbmdffpaaGreatDoor
set_option maxRecDepth 100000
open Go.ChangeShapes Go.WideShapes Go.ChangeAt Go.RowKit Go.Deep
namespace Sg
open Cf (G CA Box)
/-! Where all lies: b is by place: 0 the signal, 1 the room, 2 the row of channels, then five a channel: itself, its watches, its filter, its trim. -/
def xb (b : Nat → Nat) (i : Nat) : Nat := b (3 + 5 * i)
def jb (b : Nat → Nat) (i : Nat) : Nat := b (4 + 5 * i)
def fb (b : Nat → Nat) (i : Nat) : Nat := b (5 + 5 * i)
def lb (b : Nat → Nat) (i : Nat) : Nat := b (6 + 5 * i)
def tb (b : Nat → Nat) (i : Nat) : Nat := b (7 + 5 * i)
def pn (c : List Int) : Nat := 3 + 5 * NN c
def In (b : Nat → Nat) (c : List Int) (k : Nat) : Prop := ∃ p, p < pn c ∧ k = b p
def Of (b : Nat → Nat) (i : Nat) (k : Nat) : Prop := k = xb b i ∨ k = jb b i ∨ k = fb b i ∨ k = lb b i ∨ k = tb b i
def sgr (c : List Int) (rm ar n cap : Nat) (v : Int) : List Value := cellsI .i64 c ++ [.pointer (some ⟨rm, 0, none⟩), .slice (some ⟨ar, 0, none⟩) n cap, .int .i64 v]
def chr (b : Nat → Nat) (i : Nat) (s : Lc.St) : List Value := [.pointer (some ⟨jb b i, 0, none⟩), .pointer (some ⟨fb b i, 0, none⟩), .pointer (some ⟨lb b i, 0, none⟩), .pointer (some ⟨tb b i, 0, none⟩), .bool s.la, .bool s.ou, .int .i64 s.st, .int .i64 s.cl, .int .i64 s.bk]
def tnr (g : Nat) (r : Nat → Rw) (sh : Int) (T : Nat → Int) (m : Int) : List Value :=
  [.pointer (some ⟨g, 0, none⟩), .bool (r 0).is, .int .i64 (r 0).n, .bool (r 1).is, .int .i64 (r 1).n, .bool (r 2).is, .int .i64 (r 2).n, .bool (r 3).is, .int .i64 (r 3).n, .int .i64 sh, .int .i64 (T 0), .int .i64 (T 1), .int .i64 (T 2), .int .i64 (T 3), .int .i64 m]
/-- A channel. -/
structure Chan (W : World) (b : Nat → Nat) (c : List Int) (i : Nat) (h : Ch) : Prop where
  own : VRow W (xb b i) 201 (chr b i h.st)
  jw : VRow W (jb b i) 266 (Jp.wat (G c 1) (G c 2) (G c 4) h.last h.has)
  fw : ∃ last, VRow W (fb b i) 275 (Sk.wt (b 1) last ((min h.k (PW c + 1) : Nat) : Int)) ∧ (h.k = 0 ∨ last = h.last)
  fl : VRow W (lb b i) 270 (Dr.fil (G c 8) (G c 7) h.lev)
  tr : VRow W (tb b i) 273 (Ql.tri (G c 10) (G c 11) h.off)
/-- A signal. -/
structure Lie (W : World) (b : Nat → Nat) (c : List Int) (s : Si) : Prop where
  inj : ∀ p q, p < pn c → q < pn c → b p = b q → p = q
  sig : ∃ cap, VRow W (b 0) 176 (sgr c (b 1) (b 2) (NN c) cap s.val)
  room : Sk.Room W (b 1) (PW c) (G c 5) (Sk.lastN (PW c) s.votes)
  arr : ∃ cs t, VRow W (b 2) t cs ∧ ∀ i, i < NN c → cs[i]? = some (.pointer (some ⟨xb b i, 0, none⟩))
  chs : ∀ i, i < NN c → Chan W b c i (s.ch i)
/-- One channel's place taken by another value. -/
def put (s : Si) (i : Nat) (h : Ch) : Si := { s with ch := fun k => if k = i then h else s.ch k }
@[simp] theorem put_val (s : Si) (i : Nat) (h : Ch) : (put s i h).val = s.val := rfl
@[simp] theorem put_votes (s : Si) (i : Nat) (h : Ch) : (put s i h).votes = s.votes := rfl
theorem put_same (s : Si) (i : Nat) (h : Ch) : (put s i h).ch i = h := if_pos rfl
theorem put_other (s : Si) (i k : Nat) (h : Ch) (e : k ≠ i) : (put s i h).ch k = s.ch k := if_neg e
section
variable {W W' : World} {b : Nat → Nat} {c : List Int} {s s' : Si} {i : Nat} {h h' : Ch} {T : Nat → Prop}
theorem of_in (hi : i < NN c) {k : Nat} (h : Of b i k) : In b c k := by
  unfold Of xb jb fb lb tb at h
  unfold In pn
  rcases h with e | e | e | e | e
  · exact ⟨_, by omega, e⟩
  · exact ⟨_, by omega, e⟩
  · exact ⟨_, by omega, e⟩
  · exact ⟨_, by omega, e⟩
  · exact ⟨_, by omega, e⟩
theorem Chan.but (H : Chan W b c i h) (B : But T W W') (hT : ∀ k, Of b i k → ¬ T k) : Chan W' b c i h := by
  obtain ⟨l, f1, f2⟩ := H.fw
  exact ⟨H.own.but B (hT _ (.inl rfl)), H.jw.but B (hT _ (.inr (.inl rfl))), ⟨l, f1.but B (hT _ (.inr (.inr (.inl rfl)))), f2⟩, H.fl.but B (hT _ (.inr (.inr (.inr (.inl rfl))))), H.tr.but B (hT _ (.inr (.inr (.inr (.inr rfl)))))⟩
theorem Chan.lt (H : Chan W b c i h) {k : Nat} (hk : Of b i k) : k < W.heap.size := by
  obtain ⟨l, f1, f2⟩ := H.fw
  rcases hk with rfl | rfl | rfl | rfl | rfl
  · exact H.own.lt
  · exact H.jw.lt
  · exact f1.lt
  · exact H.fl.lt
  · exact H.tr.lt
theorem room_but {g P : Nat} {bound : Int} {V : List Int} (h : Sk.Room W g P bound V) (B : But T W W') (hT : ¬ T g) : Sk.Room W' g P bound V := by
  obtain ⟨a, e, k, r⟩ := h; exact ⟨a, e, k, r.but B hT⟩
theorem Lie.lt (H : Lie W b c s) {k : Nat} (hk : In b c k) : k < W.heap.size := by
  obtain ⟨p, hp, rfl⟩ := hk
  unfold pn at hp
  rcases (show p = 0 ∨ p = 1 ∨ p = 2 ∨ 3 ≤ p by omega) with rfl | rfl | rfl | h3
  · obtain ⟨_, h⟩ := H.sig; exact h.lt
  · exact H.room.lt
  · obtain ⟨_, _, h, _⟩ := H.arr; exact h.lt
  · have hi : (p - 3) / 5 < NN c := by omega
    refine (H.chs _ hi).lt ?_
    unfold Of xb jb fb lb tb
    rcases (show p = 3 + 5 * ((p - 3) / 5) ∨ p = 4 + 5 * ((p - 3) / 5) ∨ p = 5 + 5 * ((p - 3) / 5) ∨ p = 6 + 5 * ((p - 3) / 5) ∨ p = 7 + 5 * ((p - 3) / 5) by omega) with e | e | e | e | e
    · exact .inl (congrArg b e)
    · exact .inr (.inl (congrArg b e))
    · exact .inr (.inr (.inl (congrArg b e)))
    · exact .inr (.inr (.inr (.inl (congrArg b e))))
    · exact .inr (.inr (.inr (.inr (congrArg b e))))
theorem Lie.keep (H : Lie W b c s) (B : But T W W') (hT : ∀ k, In b c k → ¬ T k) : Lie W' b c s := by
  obtain ⟨cap, h1⟩ := H.sig
  obtain ⟨cs, t, h2, h3⟩ := H.arr
  exact ⟨H.inj, ⟨cap, h1.but B (hT _ ⟨0, by unfold pn; omega, rfl⟩)⟩, room_but H.room B (hT _ ⟨1, by unfold pn; omega, rfl⟩), ⟨cs, t, h2.but B (hT _ ⟨2, by unfold pn; omega, rfl⟩), h3⟩,
    fun i hi => (H.chs i hi).but B fun k hk => hT k (of_in hi hk)⟩
theorem vrow_cells {g : Nat} {t : TypeId} {cs : List Value} {o : Obj} (h : VRow W g t cs) (hk : W.heap[g]? = some o) : o.isCells = true := by
  unfold VRow at h; rw [h] at hk; cases hk; rfl
theorem Lie.cells (H : Lie W b c s) {k : Nat} (hk : In b c k) {o : Obj} (ho : W.heap[k]? = some o) : o.isCells = true := by
  obtain ⟨p, hp, rfl⟩ := hk
  unfold pn at hp
  rcases (show p = 0 ∨ p = 1 ∨ p = 2 ∨ 3 ≤ p by omega) with rfl | rfl | rfl | h3
  · obtain ⟨_, h⟩ := H.sig; exact vrow_cells h ho
  · obtain ⟨_, _, _, h⟩ := H.room; exact vrow_cells h.vrow ho
  · obtain ⟨_, _, h, _⟩ := H.arr; exact vrow_cells h ho
  · have hi : (p - 3) / 5 < NN c := by omega
    have C := H.chs _ hi
    obtain ⟨l, f1, -⟩ := C.fw
    rcases (show p = 3 + 5 * ((p - 3) / 5) ∨ p = 4 + 5 * ((p - 3) / 5) ∨ p = 5 + 5 * ((p - 3) / 5) ∨ p = 6 + 5 * ((p - 3) / 5) ∨ p = 7 + 5 * ((p - 3) / 5) by omega) with e | e | e | e | e
    · rw [e] at ho; exact vrow_cells (show VRow W (b _) _ _ from C.own) ho
    · rw [e] at ho; exact vrow_cells (show VRow W (b _) _ _ from C.jw) ho
    · rw [e] at ho; exact vrow_cells (show VRow W (b _) _ _ from f1) ho
    · rw [e] at ho; exact vrow_cells (show VRow W (b _) _ _ from C.fl) ho
    · rw [e] at ho; exact vrow_cells (show VRow W (b _) _ _ from C.tr) ho
/-- Blocks of two channels, or of a channel and the signal itself. -/
theorem Lie.apart (H : Lie W b c s) {j : Nat} (hi : i < NN c) (hj : j < NN c) (hij : j ≠ i) {k : Nat} (h : Of b j k) : ¬ Of b i k := by
  intro h'
  have q := H.inj
  unfold Of xb jb fb lb tb at h h'
  unfold pn at q
  rcases h with e | e | e | e | e <;> rcases h' with e' | e' | e' | e' | e' <;> (have := q _ _ (by omega) (by omega) (e.symm.trans e'); omega)
theorem Lie.apart3 (H : Lie W b c s) (hi : i < NN c) {p : Nat} (hp : p < 3) : ¬ Of b i (b p) := by
  intro h'
  have q := H.inj
  unfold Of xb jb fb lb tb at h'
  unfold pn at q
  rcases h' with e' | e' | e' | e' | e' <;> (have := q _ _ (by omega) (by omega) e'; omega)
theorem Lie.five (H : Lie W b c s) (hi : i < NN c) : xb b i ≠ jb b i ∧ xb b i ≠ fb b i ∧ xb b i ≠ lb b i ∧ xb b i ≠ tb b i ∧ jb b i ≠ fb b i ∧ jb b i ≠ lb b i ∧ jb b i ≠ tb b i ∧ fb b i ≠ lb b i ∧ fb b i ≠ tb b i ∧ lb b i ≠ tb b i ∧ b 1 ≠ fb b i := by
  have q := H.inj
  unfold pn at q
  unfold xb jb fb lb tb
  refine ⟨?_, ?_, ?_, ?_, ?_, ?_, ?_, ?_, ?_, ?_, ?_⟩ <;> (intro e; have := q _ _ (by omega) (by omega) e; omega)
/-- One channel alone was written. -/
theorem Lie.set (H : Lie W b c s) (hi : i < NN c) (B : But (Of b i) W W') (C : Chan W' b c i h) : Lie W' b c (put s i h) := by
  obtain ⟨cap, h1⟩ := H.sig
  obtain ⟨cs, t, h2, h3⟩ := H.arr
  refine ⟨H.inj, ⟨cap, h1.but B (H.apart3 hi (by omega))⟩, room_but H.room B (H.apart3 hi (by omega)), ⟨cs, t, h2.but B (H.apart3 hi (by omega)), h3⟩, fun j hj => ?_⟩
  by_cases e : j = i
  · subst e; rw [put_same]; exact C
  · rw [put_other _ _ _ _ e]
    exact (H.chs j hj).but B fun k hk => H.apart hi hj e hk
/-- The value alone. -/
theorem Lie.setVal (H : Lie W b c s) (hc : c.length = 21) (v : Int) : Lie (W.setCell ⟨b 0, 23, none⟩ (.int .i64 v)) b c { s with val := v } ∧ But (In b c) W (W.setCell ⟨b 0, 23, none⟩ (.int .i64 v)) := by
  obtain ⟨cap, h1⟩ := H.sig
  have B : But (· = b 0) W (W.setCell ⟨b 0, 23, none⟩ (.int .i64 v)) := But.setCell (p := ⟨_, _, none⟩) (But.refl (· = _) W) (Or.inl rfl) _
  have e : (sgr c (b 1) (b 2) (NN c) cap s.val).set 23 (.int .i64 v) = sgr c (b 1) (b 2) (NN c) cap v := by
    unfold sgr
    rw [List.set_append_right _ _ (by simp [cellsI_len, hc])]
    simp [cellsI_len, hc]
  have q := H.inj
  unfold pn at q
  obtain ⟨cs, t, h2, h3⟩ := H.arr
  refine ⟨⟨H.inj, ⟨cap, e ▸ h1.set 23 _⟩, room_but H.room B (fun e => by have := q _ _ (by omega) (by omega) e; omega), ⟨cs, t, h2.but B (fun e => by have := q _ _ (by omega) (by omega) e; omega), h3⟩, fun j hj => (H.chs j hj).but B fun k hk e => ?_⟩, B.mono fun k e => ⟨0, by unfold pn; omega, e⟩⟩
  subst e
  exact H.apart3 hj (by omega) hk
/-- The room alone. -/
theorem Lie.setRoom (H : Lie W b c s) (l : List Int) (B : But (· = b 1) W W') (R : Sk.Room W' (b 1) (PW c) (G c 5) (Sk.lastN (PW c) l)) : Lie W' b c { s with votes := l } := by
  obtain ⟨cap, h1⟩ := H.sig
  obtain ⟨cs, t, h2, h3⟩ := H.arr
  have q := H.inj
  unfold pn at q
  refine ⟨H.inj, ⟨cap, h1.but B (fun e => by have := q _ _ (by omega) (by omega) e; omega)⟩, R, ⟨cs, t, h2.but B (fun e => by have := q _ _ (by omega) (by omega) e; omega), h3⟩, fun j hj => (H.chs j hj).but B fun k hk e => ?_⟩
  subst e
  exact H.apart3 hj (by omega) hk
theorem Lie.congr (H : Lie W b c s) (h1 : s.val = s'.val) (h2 : s.votes = s'.votes) (h3 : ∀ i, i < NN c → s.ch i = s'.ch i) : Lie W b c s' :=
  ⟨H.inj, h1 ▸ H.sig, h2 ▸ H.room, H.arr, fun i hi => h3 i hi ▸ H.chs i hi⟩
/-- The signal's cells. -/
theorem sgr_cfg (hc : c.length = 21) {rm ar n cap : Nat} {v : Int} {k : Nat} (hk : k < 21) : (sgr c rm ar n cap v)[k]? = some (.int .i64 (G c k)) := by
  unfold sgr
  rw [List.getElem?_append_left (by rw [cellsI_len]; omega), cellsI_get _ _ _ (by omega)]
  rfl
theorem sgr_room (hc : c.length = 21) {rm ar n cap : Nat} {v : Int} : (sgr c rm ar n cap v)[21]? = some (.pointer (some ⟨rm, 0, none⟩)) := by
  unfold sgr
  rw [List.getElem?_append_right (by rw [cellsI_len]; omega), cellsI_len, hc]; rfl
theorem sgr_row (hc : c.length = 21) {rm ar n cap : Nat} {v : Int} : (sgr c rm ar n cap v)[22]? = some (.slice (some ⟨ar, 0, none⟩) n cap) := by
  unfold sgr
  rw [List.getElem?_append_right (by rw [cellsI_len]; omega), cellsI_len, hc]; rfl
theorem sgr_val (hc : c.length = 21) {rm ar n cap : Nat} {v : Int} : (sgr c rm ar n cap v)[23]? = some (.int .i64 v) := by
  unfold sgr
  rw [List.getElem?_append_right (by rw [cellsI_len]; omega), cellsI_len, hc]; rfl
theorem Lie.cfg (H : Lie W b c s) (hc : c.length = 21) (k : Nat) (hk : k < 21) : W.cell? ⟨b 0, k, none⟩ = some (.int .i64 (G c k)) := by
  obtain ⟨cap, h1⟩ := H.sig; exact h1.cell k (sgr_cfg hc hk)
theorem Lie.val (H : Lie W b c s) (hc : c.length = 21) : W.cell? ⟨b 0, 23, none⟩ = some (.int .i64 s.val) := by
  obtain ⟨cap, h1⟩ := H.sig; exact h1.cell 23 (sgr_val hc)
theorem Lie.rm (H : Lie W b c s) (hc : c.length = 21) : W.cell? ⟨b 0, 21, none⟩ = some (.pointer (some ⟨b 1, 0, none⟩)) := by
  obtain ⟨cap, h1⟩ := H.sig; exact h1.cell 21 (sgr_room hc)
theorem Lie.row (H : Lie W b c s) (hc : c.length = 21) : ∃ cap, W.cell? ⟨b 0, 22, none⟩ = some (.slice (some ⟨b 2, 0, none⟩) (NN c) cap) := by
  obtain ⟨cap, h1⟩ := H.sig; exact ⟨cap, h1.cell 22 (sgr_row hc)⟩
theorem Lie.at (H : Lie W b c s) (hi : i < NN c) : W.cell? ⟨b 2, i, none⟩ = some (.pointer (some ⟨xb b i, 0, none⟩)) := by
  obtain ⟨cs, t, h2, h3⟩ := H.arr; exact h2.cell i (h3 i hi)
end
/-- A signal, and a cycle's own struct. -/
structure Tn (W : World) (b : Nat → Nat) (c : List Int) (s : Si) (u : Nat) (r : Nat → Rw) (sh : Int) (T : Nat → Int) (m : Int) : Prop where
  lie : Lie W b c s
  trn : VRow W u 236 (tnr (b 0) r sh T m)
  out : ¬ In b c u
/-- All that a cycle may write. -/
def Us (b : Nat → Nat) (c : List Int) (u : Nat) (k : Nat) : Prop := In b c k ∨ k = u
section
variable {W W' : World} {b : Nat → Nat} {c : List Int} {s s' : Si} {u : Nat} {r : Nat → Rw} {sh : Int} {T : Nat → Int} {m : Int} {S : Nat → Prop} {i : Nat} {h : Ch}
theorem Tn.keep (H : Tn W b c s u r sh T m) (B : But S W W') (hS : ∀ k, Us b c u k → ¬ S k) : Tn W' b c s u r sh T m :=
  ⟨H.lie.keep B fun k hk => hS k (.inl hk), H.trn.but B (hS u (.inr rfl)), H.out⟩
theorem Tn.lt (H : Tn W b c s u r sh T m) {k : Nat} (hk : Us b c u k) : k < W.heap.size := by
  rcases hk with hk | rfl
  · exact H.lie.lt hk
  · exact H.trn.lt
theorem Tn.on (H : Tn W b c s u r sh T m) (B : Below W.heap.size W W') : Tn W' b c s u r sh T m :=
  H.keep (But.of_below (S := fun _ => False) B) fun _ _ q => q
theorem Tn.drew (H : Tn W b c s u r sh T m) : Tn W.drew b c s u r sh T m := H.keep (S := fun _ => False) (But.refl _ W).drew fun _ _ q => q
theorem Tn.cells (H : Tn W b c s u r sh T m) {k : Nat} (hk : Us b c u k) {o : Obj} (ho : W.heap[k]? = some o) : o.isCells = true := by
  rcases hk with hk | rfl
  · exact H.lie.cells hk ho
  · exact vrow_cells H.trn ho
/-- It abides what is turned that is no cells. -/
theorem Tn.grown (H : Tn W b c s u r sh T m) (B : But S W W') (hS : ∀ k, S k → ∃ o : Obj, W.heap[k]? = some o ∧ o.isCells = false) : Tn W' b c s u r sh T m :=
  H.keep B fun k hk q => by
    obtain ⟨o, h1, h2⟩ := hS k q
    rw [H.cells hk h1] at h2; cases h2
theorem Tn.set (H : Tn W b c s u r sh T m) (hi : i < NN c) (B : But (Of b i) W W') (C : Chan W' b c i h) : Tn W' b c (put s i h) u r sh T m :=
  ⟨H.lie.set hi B C, H.trn.but B fun q => H.out (of_in hi q), H.out⟩
theorem Tn.congr (H : Tn W b c s u r sh T m) (h1 : s.val = s'.val) (h2 : s.votes = s'.votes) (h3 : ∀ i, i < NN c → s.ch i = s'.ch i) : Tn W b c s' u r sh T m := ⟨H.lie.congr h1 h2 h3, H.trn, H.out⟩
theorem of_us (hi : i < NN c) {k : Nat} (h : Of b i k) : Us b c u k := .inl (of_in hi h)
/-- A trip's mask set. -/
def tup (T : Nat → Int) (i : Nat) (x : Int) : Nat → Int := fun k => if k = i then x else T k
theorem tnr_set {g : Nat} (hi : i < 4) (x : Int) : (tnr g r sh T m).set (10 + i) (.int .i64 x) = tnr g r sh (tup T i x) m := by
  have : i = 0 ∨ i = 1 ∨ i = 2 ∨ i = 3 := by omega
  rcases this with rfl | rfl | rfl | rfl <;> rfl
theorem Tn.trip (H : Tn W b c s u r sh T m) (hi : i < 4) (x : Int) : Tn (W.setCell ⟨u, 10 + i, none⟩ (.int .i64 x)) b c s u r sh (tup T i x) m ∧ But (· = u) W (W.setCell ⟨u, 10 + i, none⟩ (.int .i64 x)) := by
  have B : But (· = u) W (W.setCell ⟨u, 10 + i, none⟩ (.int .i64 x)) := But.setCell (p := ⟨_, _, none⟩) (But.refl (· = _) W) (Or.inl rfl) _
  exact ⟨⟨H.lie.keep B fun k hk e => H.out (e ▸ hk), tnr_set hi x ▸ H.trn.set (10 + i) _, H.out⟩, B⟩
theorem Tn.value (H : Tn W b c s u r sh T m) (hc : c.length = 21) (v : Int) : Tn (W.setCell ⟨b 0, 23, none⟩ (.int .i64 v)) b c { s with val := v } u r sh T m ∧ But (Us b c u) W (W.setCell ⟨b 0, 23, none⟩ (.int .i64 v)) := by
  obtain ⟨h1, h2⟩ := H.lie.setVal hc v
  exact ⟨⟨h1, H.trn.but h2 H.out, H.out⟩, h2.mono fun _ q => .inl q⟩
/-- The struct's cells. -/
theorem Tn.sig (H : Tn W b c s u r sh T m) : W.cell? ⟨u, 0, none⟩ = some (.pointer (some ⟨b 0, 0, none⟩)) := H.trn.cell 0 rfl
theorem Tn.is (H : Tn W b c s u r sh T m) (hi : i < 4) : W.cell? ⟨u, 1 + i * 2, none⟩ = some (.bool (r i).is) := by
  have : i = 0 ∨ i = 1 ∨ i = 2 ∨ i = 3 := by omega
  rcases this with rfl | rfl | rfl | rfl <;> exact H.trn.cell _ rfl
theorem Tn.raw (H : Tn W b c s u r sh T m) (hi : i < 4) : W.cell? ⟨u, 1 + i * 2 + 1, none⟩ = some (.int .i64 (r i).n) := by
  have : i = 0 ∨ i = 1 ∨ i = 2 ∨ i = 3 := by omega
  rcases this with rfl | rfl | rfl | rfl <;> exact H.trn.cell _ rfl
theorem Tn.trp (H : Tn W b c s u r sh T m) (hi : i < 4) : W.cell? ⟨u, 10 + i, none⟩ = some (.int .i64 (T i)) := by
  have : i = 0 ∨ i = 1 ∨ i = 2 ∨ i = 3 := by omega
  rcases this with rfl | rfl | rfl | rfl <;> exact H.trn.cell _ rfl
theorem Tn.shut (H : Tn W b c s u r sh T m) : W.cell? ⟨u, 9, none⟩ = some (.int .i64 sh) := H.trn.cell 9 rfl
theorem Tn.inn (H : Tn W b c s u r sh T m) : W.cell? ⟨u, 14, none⟩ = some (.int .i64 m) := H.trn.cell 14 rfl
end
end Sg
end Go.Proofs.YtpoededbmdffpaaGreatDoor
