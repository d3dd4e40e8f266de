/-
  What a latch does, as functions of numbers: a rule, a state, a cycle, a run. No function of the program is walked here. No conditions.
  Configurations as lists of numbers: the rows in which a fault is looked for, what may be, what is covered, and the greatest error that is. No Go text is reached here. No conditions.
  One signal, cycle by cycle, as functions of numbers and lists: what a cycle does to it, in the document's order. No Go text is reached here. No conditions.
  One signal: its value is near who is in; with one odd channel at most it is bounded, and no other channel trips; the odd one is found out. Nothing of a program here. No conditions.
-/
import Derived.Test.YtmlhmmfgdioclaaChecked
import Derived.Test.YtmlhmmfgdioclaaJAgg3
import Derived.Test.YtmlhmmfgdioclaaJAppend4
import Derived.Test.YtmlhmmfgdioclaaJOrderMidMath3
namespace Go.Proofs.Ytmlhmmfgdioclaa
set_option maxRecDepth 100000
open Go.ChangeShapes Go.WideShapes Go.ChangeAt Go.RowKit Go.Deep
namespace Lc

/-- Is a number from lo to hi? -/
def inb (n lo hi : Int) : Bool := decide (lo ≤ n) && decide (n ≤ hi)
theorem inb_iff {n lo hi : Int} : inb n lo hi = true ↔ lo ≤ n ∧ n ≤ hi := by unfold inb; simp
/-- May a rule be? -/
def rgt (L C B : Int) : Bool := inb L 1 100 && inb C 1 1000 && inb B 0 10
structure Rt (L C B : Int) : Prop where
  l1 : 1 ≤ L
  l2 : L ≤ 100
  c1 : 1 ≤ C
  c2 : C ≤ 1000
  b1 : 0 ≤ B
  b2 : B ≤ 10
theorem rgt_iff {L C B : Int} : rgt L C B = true ↔ Rt L C B := by
  unfold rgt
  rw [Bool.and_eq_true, Bool.and_eq_true, inb_iff, inb_iff, inb_iff]
  exact ⟨fun h => ⟨h.1.1.1, h.1.1.2, h.1.2.1, h.1.2.2, h.2.1, h.2.2⟩, fun h => ⟨⟨⟨h.l1, h.l2⟩, h.c1, h.c2⟩, h.b1, h.b2⟩⟩

/-- How it is. -/
structure St where
  la : Bool
  ou : Bool
  st : Int
  cl : Int
  bk : Int
def zer : St := ⟨false, false, 0, 0, 0⟩
/-- May a state be, by a rule that may be? -/
def fin (L C B : Int) (s : St) : Bool :=
  if s.ou then s.la && s.st == L && s.cl == 0 && s.bk == B
  else if s.la then s.st == L && inb s.cl 0 (C - 1) && inb s.bk 0 (B - 1)
  else inb s.st 0 (L - 1) && s.cl == 0 && inb s.bk 0 B
def fne (L C B : Int) (s : St) : Bool := rgt L C B && fin L C B s
theorem fne_right {L C B : Int} {s : St} (h : fne L C B s = true) : Rt L C B ∧ fin L C B s = true := by
  unfold fne at h; rw [Bool.and_eq_true] at h; exact ⟨rgt_iff.1 h.1, h.2⟩
/-- The state behind a cycle, and what happened in it. -/
def ste (L C B : Int) (s : St) (t : Bool) : St :=
  if s.ou then s
  else if s.la then (if t then { s with cl := 0 } else if s.cl + 1 < C then { s with cl := s.cl + 1 } else ⟨false, false, 0, 0, s.bk + 1⟩)
  else if t then (if s.st + 1 < L then { s with st := s.st + 1 } else if s.bk < B then { s with st := s.st + 1, la := true } else { s with st := s.st + 1, la := true, ou := true })
  else ⟨false, false, 0, 0, s.bk⟩
def wha (L C B : Int) (s : St) (t : Bool) : Int :=
  if s.ou then 0
  else if s.la then (if t then 0 else if s.cl + 1 < C then 0 else 2)
  else if t then (if s.st + 1 < L then 0 else if s.bk < B then 1 else 3)
  else 0

/-- A state that may be, in words. -/
inductive Fin (L C B : Int) : St → Prop
  | out : Fin L C B ⟨true, true, L, 0, B⟩
  | latched {c b : Int} (hc : 0 ≤ c ∧ c < C) (hb : 0 ≤ b ∧ b < B) : Fin L C B ⟨true, false, L, c, b⟩
  | in {s b : Int} (hs : 0 ≤ s ∧ s < L) (hb : 0 ≤ b ∧ b ≤ B) : Fin L C B ⟨false, false, s, 0, b⟩
theorem fin_iff {L C B : Int} {s : St} : fin L C B s = true ↔ Fin L C B s := by
  obtain ⟨la, ou, st, cl, bk⟩ := s
  constructor
  · intro h
    cases ou <;> cases la <;> simp [fin, inb] at h
    · obtain ⟨⟨⟨h1, h2⟩, rfl⟩, h3, h4⟩ := h
      exact .in (by omega) (by omega)
    · obtain ⟨⟨rfl, h1, h2⟩, h3, h4⟩ := h
      exact .latched (by omega) (by omega)
    · obtain ⟨⟨rfl, rfl⟩, rfl⟩ := h
      exact .out
  · intro h
    cases h with
    | out => simp [fin]
    | latched hc hb => simp [fin, inb]; omega
    | «in» hs hb => simp [fin, inb]; omega
theorem fin_zer {L C B : Int} (h : Rt L C B) : Fin L C B zer := .in ⟨Int.le_refl _, by have := h.l1; omega⟩ ⟨Int.le_refl _, h.b1⟩
theorem fin_ste {L C B : Int} (h : Rt L C B) {s : St} (hf : Fin L C B s) (t : Bool) : Fin L C B (ste L C B s t) := by
  have hl := h.l1
  have hc := h.c1
  cases hf with
  | out => exact .out
  | @latched c b hc' hb =>
    cases t
    · by_cases q : c + 1 < C
      · simp only [ste, Bool.false_eq_true, if_false, if_true, q]; exact .latched (by omega) hb
      · simp only [ste, Bool.false_eq_true, if_false, if_true, q]; exact .in (by omega) (by omega)
    · exact .latched (by omega) hb
  | @«in» s b hs hb =>
    cases t
    · exact .in (by omega) hb
    · by_cases q : s + 1 < L
      · simp only [ste, Bool.false_eq_true, if_false, if_true, q]; exact .in (by omega) hb
      · have e : s + 1 = L := by omega
        by_cases p : b < B
        · simp only [ste, Bool.false_eq_true, if_false, if_true, p, e, Int.lt_irrefl]; exact .latched (by omega) (by omega)
        · have e' : b = B := by omega
          simp only [ste, Bool.false_eq_true, if_false, if_true, e', e, Int.lt_irrefl]; exact .out
/-- The numbers of a state that may be are small. -/
structure Sm (s : St) : Prop where
  st : 0 ≤ s.st ∧ s.st ≤ 100
  cl : 0 ≤ s.cl ∧ s.cl ≤ 1000
  bk : 0 ≤ s.bk ∧ s.bk ≤ 10
theorem fin_small {L C B : Int} (h : Rt L C B) {s : St} (hf : Fin L C B s) : Sm s := by
  obtain ⟨h1, h2, h3, h4, h5, h6⟩ := h
  cases hf <;> constructor <;> dsimp only <;> omega

/-! ### A run -/
def runs (L C B : Int) (s : St) (l : List Bool) : St := l.foldl (ste L C B) s
def whas (L C B : Int) : St → List Bool → List Int
  | _, [] => []
  | s, t :: l => wha L C B s t :: whas L C B (ste L C B s t) l
theorem whas_len (L C B : Int) : ∀ (s : St) (l : List Bool), (whas L C B s l).length = l.length
  | _, [] => rfl
  | s, t :: l => by simp [whas, whas_len L C B]
theorem runs_snoc (L C B : Int) (s : St) (l : List Bool) (t : Bool) : runs L C B s (l ++ [t]) = ste L C B (runs L C B s l) t := by simp [runs]
theorem whas_app (L C B : Int) : ∀ (s : St) (l r : List Bool), whas L C B s (l ++ r) = whas L C B s l ++ whas L C B (runs L C B s l) r
  | _, [], _ => rfl
  | s, t :: l, r => by simp [whas, whas_app L C B, runs]
theorem whas_snoc (L C B : Int) (s : St) (l : List Bool) (t : Bool) : whas L C B s (l ++ [t]) = whas L C B s l ++ [wha L C B (runs L C B s l) t] := by rw [whas_app]; rfl
theorem fin_runs {L C B : Int} (h : Rt L C B) : ∀ (l : List Bool) {s : St}, Fin L C B s → Fin L C B (runs L C B s l)
  | [], _, hf => hf
  | t :: l, _, hf => fin_runs h l (fin_ste h hf t)
theorem take_more (l : List Bool) (i : Nat) (h : i < l.length) : l.take (i + 1) = l.take i ++ [l.getD i false] := by
  rw [List.take_add_one]; simp [List.getElem?_eq_getElem h]
end Lc
end Go.Proofs.Ytmlhmmfgdioclaa

namespace Go.Proofs.Ytmlhmmfgdioclaa
set_option maxRecDepth 100000
open Go.ChangeShapes Go.WideShapes Go.ChangeAt Go.RowKit Go.Deep
namespace Cf

/-- The number at place j of a configuration. -/
def G (c : List Int) (j : Nat) : Int := c.getD j 0
theorem G_set (c : List Int) (i j : Nat) (x : Int) (h : i < c.length) : G (c.set i x) j = if i = j then x else G c j := by
  unfold G
  simp only [List.getD_eq_getElem?_getD, List.getElem?_set, h, if_true]
  split <;> simp_all
/-- Its cells. -/
def CA (c : List Int) : Array Value := (cellsI .i64 c).toArray
theorem CA_size (c : List Int) : (CA c).size = c.length := by simp [CA, cellsI]
theorem CA_one (c : List Int) : (CA c).all (·.oneCell') = true := by
  simp only [CA, Array.all_eq_true_iff_forall_mem]
  intro v hv
  exact cellsI_one .i64 c v (by simpa using hv)

structure Row where
  name : ByteArray
  lo : Int
  hi : Int
  nums : List Int
def noRow : Row := ⟨⟨#[]⟩, 0, 0, []⟩
def ok (r : Row) (x : Int) : Bool := decide (r.lo ≤ x) && decide (x ≤ r.hi)
def fine (r : Row) : Bool := r.nums.all (ok r)
def first : List Row → ByteArray
  | [] => ⟨#[]⟩
  | r :: rs => if fine r = true then first rs else r.name
def own (c : List Int) : List Int := if G c 0 = 4 then [G c 17, G c 18, G c 19, G c 20] else [G c 17, G c 18, G c 19]
def others (c : List Int) : List Int := if G c 0 = 4 then [] else [G c 20]
def rows (c : List Int) : List Row :=
  [⟨⟨#[78]⟩, 3, 4, [G c 0]⟩, ⟨⟨#[76, 111]⟩, -2147483648, 2147483647, [G c 1]⟩, ⟨⟨#[72, 105]⟩, G c 1, 2147483647, [G c 2]⟩, ⟨⟨#[83, 97, 102, 101]⟩, G c 1, G c 2, [G c 3]⟩,
   ⟨⟨#[83, 116, 101, 112]⟩, 0, 2147483647, [G c 4]⟩, ⟨⟨#[83, 116, 117, 99, 107]⟩, 0, 2147483647, [G c 5]⟩, ⟨⟨#[87, 105, 110, 100, 111, 119]⟩, 2, 16, [G c 6]⟩,
   ⟨⟨#[68, 114, 105, 102, 116]⟩, 0, 2147483647, [G c 7]⟩, ⟨⟨#[76, 97, 103]⟩, 0, 8, [G c 8]⟩, ⟨⟨#[77, 105, 115]⟩, 0, 2147483647, [G c 9]⟩, ⟨⟨#[65, 117, 116, 104]⟩, 0, 2147483647, [G c 10]⟩,
   ⟨⟨#[71, 97, 105, 110]⟩, 0, 8, [G c 11]⟩, ⟨⟨#[67, 108, 105, 112]⟩, 0, 2147483647, [G c 12]⟩, ⟨⟨#[76, 97, 116, 99, 104]⟩, 1, 100, [G c 13]⟩, ⟨⟨#[67, 108, 101, 97, 110]⟩, 1, 1000, [G c 14]⟩,
   ⟨⟨#[66, 117, 100, 103, 101, 116]⟩, 0, 10, [G c 15]⟩, ⟨⟨#[76, 105, 109, 105, 116]⟩, 1, 8, [G c 16]⟩, ⟨⟨#[87, 101, 105, 103, 104, 116, 115]⟩, 1, 16, own c⟩, ⟨⟨#[87, 101, 105, 103, 104, 116, 115]⟩, 0, 0, others c⟩]
theorem rows_len (c : List Int) : (rows c).length = 19 := rfl
def fault (c : List Int) : ByteArray := first (rows c)

theorem first_drop (l : List Row) (k : Nat) (h : k < l.length) : first (l.drop k) = if fine (l.getD k noRow) = true then first (l.drop (k + 1)) else (l.getD k noRow).name := by
  rw [List.drop_eq_getElem_cons h, first]
  simp [List.getD_eq_getElem?_getD, h]

/-- Whether all stands within its bounds. -/
def Right (c : List Int) : Prop :=
  (3 ≤ G c 0 ∧ G c 0 ≤ 4) ∧ (-2147483648 ≤ G c 1 ∧ G c 1 ≤ 2147483647) ∧ (G c 1 ≤ G c 2 ∧ G c 2 ≤ 2147483647) ∧ (G c 1 ≤ G c 3 ∧ G c 3 ≤ G c 2) ∧ (0 ≤ G c 4 ∧ G c 4 ≤ 2147483647) ∧ (0 ≤ G c 5 ∧ G c 5 ≤ 2147483647) ∧
  (2 ≤ G c 6 ∧ G c 6 ≤ 16) ∧ (0 ≤ G c 7 ∧ G c 7 ≤ 2147483647) ∧ (0 ≤ G c 8 ∧ G c 8 ≤ 8) ∧ (0 ≤ G c 9 ∧ G c 9 ≤ 2147483647) ∧ (0 ≤ G c 10 ∧ G c 10 ≤ 2147483647) ∧ (0 ≤ G c 11 ∧ G c 11 ≤ 8) ∧ (0 ≤ G c 12 ∧ G c 12 ≤ 2147483647) ∧
  (1 ≤ G c 13 ∧ G c 13 ≤ 100) ∧ (1 ≤ G c 14 ∧ G c 14 ≤ 1000) ∧ (0 ≤ G c 15 ∧ G c 15 ≤ 10) ∧ (1 ≤ G c 16 ∧ G c 16 ≤ 8) ∧ (own c).all (fun x => decide (1 ≤ x) && decide (x ≤ 16)) = true ∧ (others c).all (fun x => decide (0 ≤ x) && decide (x ≤ 0)) = true
instance (c : List Int) : Decidable (Right c) := by unfold Right; infer_instance

theorem first_none : ∀ l : List Row, (∀ r ∈ l, r.name ≠ ⟨#[]⟩) → (first l = ⟨#[]⟩ ↔ l.all fine = true)
  | [], _ => by simp [first]
  | r :: rs, h => by
    have ih := first_none rs (fun x hx => h x (by simp [hx]))
    have h0 := h r (by simp)
    rw [first, List.all_cons, Bool.and_eq_true]
    split
    · rename_i hf; simp [hf, ih]
    · rename_i hf; simp [hf, h0]
theorem fault_none (c : List Int) : fault c = ⟨#[]⟩ ↔ Right c := by
  unfold fault
  rw [first_none _ (by
    intro r hr
    simp only [rows, List.mem_cons, List.not_mem_nil, or_false] at hr
    rcases hr with rfl | rfl | rfl | rfl | rfl | rfl | rfl | rfl | rfl | rfl | rfl | rfl | rfl | rfl | rfl | rfl | rfl | rfl | rfl <;> (intro h; injection h with h; simp at h))]
  simp only [rows, fine, ok, List.all_cons, List.all_nil, Bool.and_true, Bool.and_eq_true, decide_eq_true_eq, Right]
  exact Iff.rfl
/-- What Right answers. -/
def rt (c : List Int) : Bool := decide (Right c)
theorem beq_bytes (a b : ByteArray) : (a == b) = decide (a = b) := by
  rw [beq_toListBytes, Bool.eq_iff_iff, beq_iff_eq, decide_eq_true_eq, ByteArray.toList_eq, ByteArray.toList_eq, Array.toList_inj, ByteArray.ext_iff]
theorem rt_fault (c : List Int) : (fault c == ⟨#[]⟩) = rt c := by
  rw [beq_bytes]; unfold rt; rw [decide_eq_decide]; exact fault_none c

/-- What Covers answers. -/
def cov (c : List Int) (e r : Int) : Bool :=
  decide ((0 ≤ e ∧ e ≤ 1073741824 ∧ 0 ≤ r ∧ r ≤ 1073741824) ∧ Right c ∧ 2 * e + 2 * G c 10 + G c 12 ≤ G c 9 ∧ r + 2 * e ≤ G c 4 ∧ 2 * e ≤ G c 7 ∧ 4 * e + 2 * G c 10 + 2 * G c 12 ≤ G c 5 ∧ 2 * e ≤ G c 2 - G c 1)
/-- The greatest error that is covered with r; -1: none. -/
def room (c : List Int) (r : Int) : Int :=
  if Right c ∧ 0 ≤ r ∧ r ≤ 1073741824 then max (-1) (min 1073741824 (min ((G c 9 - 2 * G c 10 - G c 12) / 2) (min ((G c 4 - r) / 2) (min (G c 7 / 2) (min ((G c 5 - 2 * G c 10 - 2 * G c 12) / 4) ((G c 2 - G c 1) / 2)))))) else -1
theorem room_in (c : List Int) (r : Int) : -1 ≤ room c r ∧ room c r ≤ 1073741824 := by
  unfold room
  split <;> omega
theorem cov_room (c : List Int) (e r : Int) (he : 0 ≤ e) : cov c e r = decide (e ≤ room c r) := by
  unfold cov room
  rw [decide_eq_decide]
  split
  · rename_i h
    simp only [h.1, h.2.1, h.2.2, he, true_and, and_true]
    omega
  · rename_i h
    constructor
    · rintro ⟨h1, h2, _⟩
      exact absurd ⟨h2, h1.2.2.1, h1.2.2.2⟩ h
    · intro h1; omega
theorem cov_neg (c : List Int) (e r : Int) (he : e < 0) : cov c e r = false := by
  unfold cov; rw [decide_eq_false_iff_not]; omega
end Cf
end Go.Proofs.Ytmlhmmfgdioclaa

namespace Go.Proofs.Ytmlhmmfgdioclaa
set_option maxRecDepth 100000
namespace Sg
open Cf (G)

/-- A raw value, or none. -/
structure Rw where
  is : Bool
  n : Int
def rw0 : Rw := ⟨false, 0⟩
/-- What a channel has: the value that came last, whether one did, how often in a row, the level, the offset, the latch. -/
structure Ch where
  last : Int
  has : Bool
  k : Nat
  lev : Int
  off : Int
  st : Lc.St
def ch0 : Ch := ⟨0, false, 0, 0, 0, Lc.zer⟩
/-- A signal: its value, all votes so far, its channels. -/
structure Si where
  val : Int
  votes : List Int
  ch : Nat → Ch
def begin (c : List Int) : Si := ⟨G c 3, [], fun _ => ch0⟩

/-! The configuration's numbers. -/
def NN (c : List Int) : Nat := (G c 0).toNat
def PW (c : List Int) : Nat := (G c 6).toNat - 1

section
variable (c : List Int) (s : Si) (r : Nat → Rw) (sh : Int)
/-- How often a value came in a row, with this one. -/
def kq (x : Ch) (n : Int) : Nat := if n = x.last then x.k + 1 else 1
def outr (n : Int) : Bool := Jp.out (G c 1) (G c 2) n
def spk (x : Ch) (n : Int) : Bool := Jp.far (G c 4) x.last x.has n
def frz (x : Ch) (n : Int) : Bool := decide (PW c + 1 ≤ kq x n) && Sk.moved (PW c) (G c 5) (Sk.lastN (PW c) s.votes)
/-- Trips ahead of the vote. -/
def ahd (i : Nat) : Int := if (r i).is = true then Jp.trips (G c 1) (G c 2) (G c 4) (s.ch i).last (s.ch i).has (r i).n + (if frz c s (s.ch i) (r i).n = true then 8 else 0) else 1
/-- Who is in. -/
def isin (i : Nat) : Bool := (r i).is && !outr c (r i).n && !spk c (s.ch i) (r i).n && !Fx.has sh i && !(s.ch i).st.la
def inl : List Nat := (List.range (NN c)).filter fun i => isin c s r sh i
def own : List Int := (inl c s r sh).map fun i => (r i).n
def evs : List Int := (inl c s r sh).map fun i => (r i).n - (s.ch i).off
def wts : List Int := (inl c s r sh).map fun i => G c (17 + i)
def any : Bool := !(inl c s r sh).isEmpty
/-- The level, and whether it is over. -/
def lev (i : Nat) : Int := if ((r i).is && any c s r sh) = true then Dr.nx (G c 8) (s.ch i).lev ((r i).n - Od.midv (own c s r sh)) else (s.ch i).lev
def drf (i : Nat) : Bool := (r i).is && any c s r sh && Dr.ov (G c 7) (lev c s r sh i)
/-- The vote. -/
def val : Int := if Vo.votb (G c 1) (G c 2) (G c 12) (evs c s r sh) (wts c s r sh) = true then Vo.votv (G c 1) (G c 2) (G c 12) (evs c s r sh) (wts c s r sh) else s.val
/-- Miscompare. -/
def mis (i : Nat) : Bool := (r i).is && (decide (G c 9 < (r i).n - (s.ch i).off - val c s r sh) || decide (G c 9 < val c s r sh - ((r i).n - (s.ch i).off)))
def trp (i : Nat) : Int := ahd c s r i + (if drf c s r sh i = true then 16 else 0) + (if mis c s r sh i = true then 32 else 0)
def sus : Int := if Pa.sus (evs c s r sh) (G c 9) < 0 then -1 else ((inl c s r sh).getD (Pa.sus (evs c s r sh) (G c 9)).toNat 0 : Nat)
/-- The trim, the latch. -/
def off (i : Nat) : Int := if (r i).is = true then Ql.nx (G c 10) (G c 11) (s.ch i).off (r i).n (val c s r sh) else (s.ch i).off
def tr (i : Nat) : Bool := trp c s r sh i != 0
def lat (i : Nat) : Lc.St := Lc.ste (G c 13) (G c 14) (G c 15) (s.ch i).st (tr c s r sh i)
def wha (i : Nat) : Int := Lc.wha (G c 13) (G c 14) (G c 15) (s.ch i).st (tr c s r sh i)
/-- The signal behind the cycle. -/
def nxt : Si := ⟨val c s r sh, s.votes ++ [val c s r sh], fun i =>
  ⟨if (r i).is = true then (r i).n else 0, (r i).is, if (r i).is = true then kq (s.ch i) (r i).n else 0, lev c s r sh i, off c s r sh i, lat c s r sh i⟩⟩
end

/-! What may be. -/
structure Okc (c : List Int) (x : Ch) : Prop where
  last : -2147483648 ≤ x.last ∧ x.last ≤ 2147483647
  lev : -4294967296 ≤ x.lev ∧ x.lev ≤ 4294967296
  off : -(G c 10) ≤ x.off ∧ x.off ≤ G c 10
  st : Lc.Fin (G c 13) (G c 14) (G c 15) x.st
structure Ok (c : List Int) (s : Si) : Prop where
  val : G c 1 ≤ s.val ∧ s.val ≤ G c 2
  votes : ∀ v ∈ s.votes, G c 1 ≤ v ∧ v ≤ G c 2
  ch : ∀ i, i < NN c → Okc c (s.ch i)
/-- Raw values that may be. -/
def Rok (c : List Int) (r : Nat → Rw) : Prop := ∀ i, i < NN c → (r i).is = true → -2147483648 ≤ (r i).n ∧ (r i).n ≤ 2147483647
theorem right_latch {c : List Int} (h : Cf.Right c) : Lc.Rt (G c 13) (G c 14) (G c 15) := by
  obtain ⟨-, -, -, -, -, -, -, -, -, -, -, -, -, h1, h2, h3, -⟩ := h
  exact ⟨h1.1, h1.2, h2.1, h2.2, h3.1, h3.2⟩
theorem ok_begin {c : List Int} (h : Cf.Right c) : Ok c (begin c) := by
  have hl := right_latch h
  obtain ⟨-, -, -, h3, -, -, -, -, -, -, h10, -⟩ := h
  exact ⟨h3, fun v hv => by (cases hv), fun i _ => ⟨by simp [begin, ch0], by simp [begin, ch0], by simp [begin, ch0]; omega, Lc.fin_zer hl⟩⟩

section
variable {c : List Int} {s : Si} {r : Nat → Rw} {sh : Int}
theorem NN_34 (h : Cf.Right c) : NN c = 3 ∨ NN c = 4 := by
  obtain ⟨⟨h0, h1⟩, -⟩ := h
  unfold NN; omega
theorem NN_eq (h : Cf.Right c) : ((NN c : Nat) : Int) = G c 0 := by
  obtain ⟨⟨h0, h1⟩, -⟩ := h
  unfold NN; omega
theorem inl_iff {i : Nat} : i ∈ inl c s r sh ↔ i < NN c ∧ isin c s r sh i = true := by unfold inl; simp
theorem inl_len (h : Cf.Right c) : (inl c s r sh).length ≤ 4 := by
  unfold inl
  have h1 := List.length_filter_le (fun i => isin c s r sh i) (List.range (NN c))
  have := NN_34 h
  rw [List.length_range] at h1
  omega
theorem inl_nodup : (inl c s r sh).Nodup := List.Pairwise.filter _ List.nodup_range
theorem isin_iff {i : Nat} : isin c s r sh i = true ↔ (r i).is = true ∧ outr c (r i).n = false ∧ spk c (s.ch i) (r i).n = false ∧ Fx.has sh i = false ∧ (s.ch i).st.la = false := by
  unfold isin; simp [and_assoc]
theorem out_no {n : Int} (h : outr c n = false) : G c 1 ≤ n ∧ n ≤ G c 2 := by
  unfold outr Jp.out at h; simp at h; omega
theorem map_getD {f : Nat → Int} {l : List Nat} {k : Nat} (h : k < l.length) : (l.map f).getD k 0 = f (l.getD k 0) := by
  simp [List.getD_eq_getElem?_getD, h]
theorem getD_mem {l : List Nat} {k : Nat} (h : k < l.length) : l.getD k 0 ∈ l := by
  rw [List.getD_eq_getElem?_getD, List.getElem?_eq_getElem h]; simp
/-- The numbers of those that are in. -/
theorem in_nums (hR : Cf.Right c) (hr : Rok c r) (hO : Ok c s) {i : Nat} (hi : i ∈ inl c s r sh) :
    (G c 1 ≤ (r i).n ∧ (r i).n ≤ G c 2) ∧ (-2147483648 ≤ (r i).n ∧ (r i).n ≤ 2147483647) ∧ ((r i).n - G c 10 ≤ (r i).n - (s.ch i).off ∧ (r i).n - (s.ch i).off ≤ (r i).n + G c 10) ∧ -4294967296 ≤ (r i).n - (s.ch i).off ∧ (r i).n - (s.ch i).off ≤ 4294967296 := by
  obtain ⟨h1, h2⟩ := inl_iff.1 hi
  obtain ⟨k1, k2, -⟩ := isin_iff.1 h2
  have h3 := out_no k2
  have h4 := (hO.ch i h1).off
  have h5 := hr i h1 k1
  obtain ⟨-, -, -, -, -, -, -, -, -, -, h10, -⟩ := hR
  refine ⟨h3, h5, ?_, ?_⟩ <;> omega
theorem wt_at (hR : Cf.Right c) {i : Nat} (hi : i < NN c) : 1 ≤ G c (17 + i) ∧ G c (17 + i) ≤ 16 := by
  have hN := NN_34 hR
  have h0 : NN c = (G c 0).toNat := rfl
  obtain ⟨⟨a0, a1⟩, -, -, -, -, -, -, -, -, -, -, -, -, -, -, -, -, hw, -⟩ := hR
  unfold Cf.own at hw
  rcases hN with h | h
  · rw [if_neg (by omega)] at hw
    simp at hw
    have : i = 0 ∨ i = 1 ∨ i = 2 := by omega
    rcases this with rfl | rfl | rfl
    · exact hw.1
    · exact hw.2.1
    · exact hw.2.2
  · rw [if_pos (by omega)] at hw
    simp at hw
    have : i = 0 ∨ i = 1 ∨ i = 2 ∨ i = 3 := by omega
    rcases this with rfl | rfl | rfl | rfl
    · exact hw.1
    · exact hw.2.1
    · exact hw.2.2.1
    · exact hw.2.2.2
theorem any_iff : any c s r sh = true ↔ inl c s r sh ≠ [] := by unfold any; simp
theorem own_ok (hR : Cf.Right c) (hr : Rok c r) (hO : Ok c s) : Od.ok (own c s r sh) = true := by
  refine Vo.ok_of (by have := inl_len (s := s) (r := r) (sh := sh) hR; unfold own; rw [List.length_map]; omega) fun k hk => ?_
  unfold own at hk ⊢
  rw [List.length_map] at hk
  rw [map_getD hk]
  have := (in_nums hR hr hO (getD_mem hk)).2.1
  omega
theorem evs_ok (hR : Cf.Right c) (hr : Rok c r) (hO : Ok c s) : Od.ok (evs c s r sh) = true := by
  refine Vo.ok_of (by have := inl_len (s := s) (r := r) (sh := sh) hR; unfold evs; rw [List.length_map]; omega) fun k hk => ?_
  unfold evs at hk ⊢
  rw [List.length_map] at hk
  rw [map_getD hk]
  exact (in_nums hR hr hO (getD_mem hk)).2.2.2
theorem rmay_c (hR : Cf.Right c) : Vo.rmay (G c 1) (G c 2) (G c 12) = true := by
  obtain ⟨-, h1, h2, -, -, -, -, -, -, -, -, -, h12, -⟩ := hR
  exact (Vo.rmay_iff _ _ _).2 ⟨h1, h2, h12.1, h12.2⟩
/-- There is a vote just if any is in. -/
theorem votb_any (hR : Cf.Right c) (hr : Rok c r) (hO : Ok c s) : Vo.votb (G c 1) (G c 2) (G c 12) (evs c s r sh) (wts c s r sh) = any c s r sh := by
  have hl := inl_len (s := s) (r := r) (sh := sh) hR
  cases ha : any c s r sh
  · have h0 : inl c s r sh = [] := by
      unfold any at ha; simpa using ha
    rw [Bool.eq_false_iff]
    intro h
    have := (Vo.midb_iff.1 (Vo.votb_iff.1 h).1).2.1
    unfold evs at this; rw [h0] at this; simp at this
  · have h0 := any_iff.1 ha
    have h1 : 1 ≤ (inl c s r sh).length := by
      cases e : inl c s r sh with
      | nil => exact absurd e h0
      | cons a l => simp
    refine Vo.votb_iff.2 ⟨Od.midb_yes (evs_ok hR hr hO) (by unfold evs; rw [List.length_map]; exact h1) (by unfold evs; rw [List.length_map]; exact hl), rmay_c hR, (Vo.fits_iff _ _).2 ⟨by unfold evs wts; simp, Vo.okk_of fun k hk => ?_⟩⟩
    unfold evs at hk
    rw [List.length_map] at hk
    unfold evs wts
    rw [map_getD hk, map_getD hk]
    exact (Vo.okp_iff _ _).2 ⟨(in_nums hR hr hO (getD_mem hk)).2.2.2, wt_at hR (inl_iff.1 (getD_mem hk)).1⟩
theorem val_in (hO : Ok c s) : G c 1 ≤ val c s r sh ∧ val c s r sh ≤ G c 2 := by
  unfold val
  split
  · rename_i h; exact Vo.vote_in h
  · exact hO.val
theorem ok_nxt (hR : Cf.Right c) (hr : Rok c r) (hO : Ok c s) : Ok c (nxt c s r sh) := by
  have hv := val_in (r := r) (sh := sh) hO
  have hl := right_latch hR
  refine ⟨hv, fun v h => ?_, fun i hi => ?_⟩
  · rcases List.mem_append.1 h with q | q
    · exact hO.votes v q
    · rw [List.mem_singleton.1 q]; exact hv
  · have o := hO.ch i hi
    refine ⟨?_, ?_, ?_, Lc.fin_ste hl o.st _⟩
    · show _ ∧ _
      simp only [nxt]
      split
      · rename_i h; exact hr i hi h
      · omega
    · simp only [nxt, lev]
      obtain ⟨-, -, -, -, -, -, -, -, h8, -⟩ := hR
      split
      · exact Dr.nx_level o.lev h8.1 h8.2
      · exact o.lev
    · simp only [nxt, off]
      obtain ⟨-, -, -, -, -, -, -, -, -, -, h10, -⟩ := hR
      split
      · exact Ql.nx_bd _ _ _ h10.1 o.off
      · exact o.off
end
end Sg
end Go.Proofs.Ytmlhmmfgdioclaa

namespace Go.Proofs.Ytmlhmmfgdioclaa
set_option maxRecDepth 100000
namespace Sg
open Cf (G)

section
variable {c : List Int} {s : Si} {r : Nat → Rw} {sh : Int}
theorem own_mem {f : Nat → Int} {I : List Nat} {x : Int} (h : x ∈ I.map f) : ∃ i ∈ I, f i = x := by simpa using h
/-- The vote lies near whatever the mid of what is even lies between. -/
theorem val_hull {a b p : Int} (h : Vo.votb (G c 1) (G c 2) (G c 12) (evs c s r sh) (wts c s r sh) = true) (hm : a ≤ Od.midv (evs c s r sh) ∧ Od.midv (evs c s r sh) ≤ b) (hp : a ≤ p ∧ p ≤ b) (hi : G c 1 ≤ p ∧ p ≤ G c 2) :
    a - G c 12 ≤ val c s r sh ∧ val c s r sh ≤ b + G c 12 := by
  have M := Vo.votb_mid h
  have n := Vo.mean_near M
  have := M.c1
  have := (Vo.rmay_iff _ _ _).1 (Vo.votb_iff.1 h).2.1
  unfold val
  rw [if_pos h, Vo.votv_yes h]
  unfold Fx.within
  split
  · omega
  · split <;> omega
theorem evs_bd (hR : Cf.Right c) (hr : Rok c r) (hO : Ok c s) {lo hi : Int} {i : Nat} (hi' : i ∈ inl c s r sh) (h : lo ≤ (r i).n ∧ (r i).n ≤ hi) : lo - G c 10 ≤ (r i).n - (s.ch i).off ∧ (r i).n - (s.ch i).off ≤ hi + G c 10 := by
  have := (in_nums hR hr hO hi').2.2.1
  omega
/-- Near who is in. -/
theorem near (hR : Cf.Right c) (hr : Rok c r) (hO : Ok c s) (ha : any c s r sh = true) {lo hi : Int} (h : ∀ i ∈ inl c s r sh, lo ≤ (r i).n ∧ (r i).n ≤ hi) :
    lo - G c 10 - G c 12 ≤ val c s r sh ∧ val c s r sh ≤ hi + G c 10 + G c 12 := by
  have hv := votb_any (sh := sh) hR hr hO
  rw [ha] at hv
  have hl := inl_len (s := s) (r := r) (sh := sh) hR
  obtain ⟨i0, h0⟩ := List.exists_mem_of_ne_nil _ (any_iff.1 ha)
  have h1 : 1 ≤ (inl c s r sh).length := List.length_pos_of_mem h0
  have hm := Pa.mid_bd (a := lo - G c 10) (b := hi + G c 10) (evs_ok (sh := sh) hR hr hO) (by unfold evs; rw [List.length_map]; exact h1) (by unfold evs; rw [List.length_map]; exact hl) (fun x hx => by
    obtain ⟨i, hi', rfl⟩ := own_mem hx
    exact evs_bd hR hr hO hi' (h i hi'))
  have n0 := in_nums hR hr hO h0
  have k0 := h i0 h0
  have h10 : 0 ≤ G c 10 := by obtain ⟨-, -, -, -, -, -, -, -, -, -, h10, -⟩ := hR; exact h10.1
  exact val_hull hv hm (p := (r i0).n) (by omega) n0.1
theorem val_none (hR : Cf.Right c) (hr : Rok c r) (hO : Ok c s) (ha : any c s r sh = false) : val c s r sh = s.val := by
  have hv := votb_any (sh := sh) hR hr hO
  rw [ha] at hv
  unfold val
  rw [if_neg (by rw [hv]; decide)]
end

/-! One odd channel. -/
theorem odd_out {I : List Nat} {o : Nat} (h : o ∉ I) : I.filter (fun i => i != o) = I := by
  rw [List.filter_eq_self]
  intro i hi
  simp only [bne_iff_ne, ne_eq]
  exact fun e => h (e ▸ hi)
theorem odd_perm {I : List Nat} (hn : I.Nodup) {o : Nat} (h : o ∈ I) : I.Perm (I.filter (fun i => i != o) ++ [o]) := by
  have h1 := List.perm_cons_erase h
  rw [List.Nodup.erase_eq_filter hn] at h1
  exact h1.trans (List.perm_append_comm (l₁ := [o]))
/-- The mid lies between what all but one lie between. -/
theorem mid_odd {I : List Nat} (hn : I.Nodup) {f : Nat → Int} {o : Nat} {a b : Int} (hk : Od.ok (I.map f) = true) (h4 : I.length ≤ 4) (h2 : 2 ≤ (I.filter fun i => i != o).length) (hH : ∀ i ∈ I, i ≠ o → a ≤ f i ∧ f i ≤ b) :
    a ≤ Od.midv (I.map f) ∧ Od.midv (I.map f) ≤ b := by
  by_cases ho : o ∈ I
  · have hp := odd_perm hn ho
    have hl := hp.length_eq
    rw [List.length_append] at hl
    simp only [List.length_cons, List.length_nil] at hl
    have hpm := hp.map f
    rw [List.map_append] at hpm
    rw [Od.midv_perm hpm]
    have hk' : Od.ok ((I.filter fun i => i != o).map f ++ [f o]) = true := by
      have hq := Od.ok_perm hpm
      simp only [List.map_cons, List.map_nil] at hq
      rw [← hq]; exact hk
    have hm := (Od.mid_more hk' (by rw [List.length_map]; exact h2) (by rw [List.length_map]; omega)).2
    have q := Vo.srt_bd (l := (I.filter fun i => i != o).map f) (a := a) (b := b) (by rw [List.length_map]; omega) (fun k hk2 => by
      rw [List.length_map] at hk2
      rw [map_getD hk2]
      have hm2 := getD_mem hk2
      obtain ⟨m1, m2⟩ := List.mem_filter.1 hm2
      exact hH _ m1 (by simpa using m2))
    simp only [List.map_cons, List.map_nil] at hm ⊢
    omega
  · rw [odd_out ho] at h2
    exact Pa.mid_bd hk (by rw [List.length_map]; omega) (by rw [List.length_map]; exact h4) (fun x hx => by
      obtain ⟨i, hi, rfl⟩ := own_mem hx
      exact hH i hi (fun e => ho (e ▸ hi)))
theorem range_but (n o : Nat) (h : n = 3 ∨ n = 4) : 2 ≤ ((List.range n).filter fun i => i != o).length := by
  rcases h with rfl | rfl
  · by_cases h0 : o = 0
    · subst h0; decide
    · by_cases h1 : o = 1
      · subst h1; decide
      · by_cases h2 : o = 2
        · subst h2; decide
        · rw [odd_out (by simp; omega)]; decide
  · by_cases h0 : o = 0
    · subst h0; decide
    · by_cases h1 : o = 1
      · subst h1; decide
      · by_cases h2 : o = 2
        · subst h2; decide
        · by_cases h3 : o = 3
          · subst h3; decide
          · rw [odd_out (by simp; omega)]; decide

/-- What a configuration that covers says. -/
structure Cov (c : List Int) (E R : Int) : Prop where
  right : Cf.Right c
  e0 : 0 ≤ E
  r0 : 0 ≤ R
  mis : 2 * E + 2 * G c 10 + G c 12 ≤ G c 9
  step : R + 2 * E ≤ G c 4
  drift : 2 * E ≤ G c 7
  stuck : 4 * E + 2 * G c 10 + 2 * G c 12 ≤ G c 5
  room : 2 * E ≤ G c 2 - G c 1
  e1 : E ≤ 1073741824
  r1 : R ≤ 1073741824
theorem cov_iff {c : List Int} {E R : Int} : Cf.cov c E R = true ↔ Cov c E R := by
  unfold Cf.cov
  rw [decide_eq_true_eq]
  exact ⟨fun ⟨⟨a, b, d, e⟩, f, g, h, i, j, k⟩ => ⟨f, a, d, g, h, i, j, k, b, e⟩, fun h => ⟨⟨h.e0, h.e1, h.r0, h.r1⟩, h.right, h.mis, h.step, h.drift, h.stuck, h.room⟩⟩

/-- A healthy channel, behind a cycle in which the truth was 'at'. -/
structure Hc (c : List Int) (E at' : Int) (votes : List Int) (x : Ch) : Prop where
  st : x.st = Lc.zer
  near : x.has = true → at' - E ≤ x.last ∧ x.last ≤ at' + E
  lev : -(2 * E) ≤ x.lev ∧ x.lev ≤ 2 * E
  votes : ∀ v ∈ Sk.lastN x.k votes, x.last - (2 * E + G c 10 + G c 12) ≤ v ∧ v ≤ x.last + (2 * E + G c 10 + G c 12)

theorem lastN_more {P k : Nat} {l : List Int} (h : P ≤ k) {v : Int} (hv : v ∈ Sk.lastN P l) : v ∈ Sk.lastN k l := by
  unfold Sk.lastN at *
  have : l.drop (l.length - P) = (l.drop (l.length - k)).drop (k - P - (k - l.length)) := by
    rw [List.drop_drop]
    congr 1
    omega
  rw [this] at hv
  exact List.mem_of_mem_drop hv
theorem lastN_next (k : Nat) (l : List Int) (v : Int) : Sk.lastN (k + 1) (l ++ [v]) = Sk.lastN k l ++ [v] := by
  unfold Sk.lastN
  rw [List.length_append, List.length_singleton, Nat.add_sub_add_right, Sk.drop_snoc _ _ _ (by omega)]
theorem lastN_zero (l : List Int) : Sk.lastN 0 l = [] := by unfold Sk.lastN; simp
theorem spread_bd {l : List Int} {a b : Int} (h1 : 1 ≤ l.length) (h : ∀ v ∈ l, a ≤ v ∧ v ≤ b) (hab : a ≤ b) : Od.spread l ≤ b - a := by
  unfold Od.spread
  split
  · unfold Od.spreadOf
    rw [Od.srt_len]
    have := Vo.srt_bd (l := l) (a := a) (b := b) h1 (fun k hk => h _ (by rw [List.getD_eq_getElem?_getD, List.getElem?_eq_getElem hk]; simp))
    omega
  · omega

section
variable {c : List Int} {s : Si} {r : Nat → Rw} {E R at0 at' : Int} {o : Nat}
theorem PW_bd (h : Cf.Right c) : 1 ≤ PW c ∧ PW c ≤ 15 := by
  obtain ⟨-, -, -, -, -, -, h6, -⟩ := h
  unfold PW; omega
/-- A healthy channel's value is not frozen. -/
theorem not_frozen (C : Cov c E R) {x : Ch} (H : Hc c E at0 s.votes x) (n : Int) : frz c s x n = false := by
  rw [Bool.eq_false_iff]
  intro h
  unfold frz at h
  rw [Bool.and_eq_true, decide_eq_true_eq] at h
  obtain ⟨h1, h2⟩ := h
  have hP := PW_bd C.right
  have hk : PW c ≤ x.k := by
    unfold kq at h1
    split at h1 <;> omega
  unfold Sk.moved at h2
  rw [Bool.and_eq_true, decide_eq_true_eq, decide_eq_true_eq] at h2
  have hD : 0 ≤ 2 * E + G c 10 + G c 12 := by
    have := C.e0
    obtain ⟨-, -, -, -, -, -, -, -, -, -, h10, -, h12, -⟩ := C.right
    omega
  have := spread_bd (l := Sk.lastN (PW c) s.votes) (a := x.last - (2 * E + G c 10 + G c 12)) (b := x.last + (2 * E + G c 10 + G c 12)) (by omega) (fun v hv => H.votes v (lastN_more hk hv)) (by omega)
  have := C.stuck
  omega
/-- What a cycle brings. -/
structure Cy (c : List Int) (r : Nat → Rw) (E R at0 at' : Int) (o : Nat) : Prop where
  ok : Rok c r
  tells : ∀ i, i < NN c → i ≠ o → (r i).is = true ∧ at' - E ≤ (r i).n ∧ (r i).n ≤ at' + E
  range : G c 1 + E ≤ at' ∧ at' ≤ G c 2 - E
  move : at' - at0 ≤ R ∧ at0 - at' ≤ R
structure Inv (c : List Int) (s : Si) (E at0 : Int) (o : Nat) : Prop where
  ok : Ok c s
  ch : ∀ i, i < NN c → i ≠ o → Hc c E at0 s.votes (s.ch i)

theorem has_zero (i : Nat) : Fx.has 0 (i : Int) = false := by
  unfold Fx.has; simp
theorem healthy_in (C : Cov c E R) (Y : Cy c r E R at0 at' o) (I : Inv c s E at0 o) {i : Nat} (hi : i < NN c) (ho : i ≠ o) : isin c s r 0 i = true ∧ ahd c s r i = 0 := by
  have H := I.ch i hi ho
  obtain ⟨t1, t2, t3⟩ := Y.tells i hi ho
  have h1 := Y.range
  have h2 := Y.move
  have h3 := C.step
  have h4 := C.e0
  have o1 : outr c (r i).n = false := by unfold outr Jp.out; simp; omega
  have s1 : spk c (s.ch i) (r i).n = false := by
    unfold spk Jp.far
    cases hh : (s.ch i).has
    · rfl
    · have := H.near hh
      simp; omega
  refine ⟨isin_iff.2 ⟨t1, o1, s1, has_zero i, by rw [H.st]; rfl⟩, ?_⟩
  unfold ahd
  rw [if_pos t1, not_frozen C H]
  unfold outr at o1
  unfold spk at s1
  unfold Jp.trips
  rw [o1, s1]; rfl
theorem healthy_list (C : Cov c E R) (Y : Cy c r E R at0 at' o) (I : Inv c s E at0 o) : 2 ≤ ((inl c s r 0).filter fun i => i != o).length := by
  have : (inl c s r 0).filter (fun i => i != o) = (List.range (NN c)).filter fun i => i != o := by
    unfold inl
    rw [List.filter_filter]
    refine List.filter_congr fun i hi => ?_
    by_cases ho : i = o
    · subst ho; simp
    · rw [(healthy_in C Y I (List.mem_range.1 hi) ho).1]; simp
  rw [this]
  exact range_but _ _ (NN_34 C.right)
theorem healthy_any (C : Cov c E R) (Y : Cy c r E R at0 at' o) (I : Inv c s E at0 o) : any c s r 0 = true := by
  rw [any_iff]
  intro h
  have := healthy_list C Y I
  rw [h] at this
  simp at this
/-- The vote is bounded by what the healthy channels tell. -/
theorem healthy_val (C : Cov c E R) (Y : Cy c r E R at0 at' o) (I : Inv c s E at0 o) {lo hi : Int} (h : ∀ i, i < NN c → i ≠ o → lo ≤ (r i).n ∧ (r i).n ≤ hi) :
    lo - G c 10 - G c 12 ≤ val c s r 0 ∧ val c s r 0 ≤ hi + G c 10 + G c 12 := by
  have ha := healthy_any C Y I
  have hv := votb_any (sh := 0) C.right Y.ok I.ok
  rw [ha] at hv
  have h2 := healthy_list C Y I
  have hm := mid_odd inl_nodup (f := fun i => (r i).n - (s.ch i).off) (a := lo - G c 10) (b := hi + G c 10) (evs_ok (sh := 0) C.right Y.ok I.ok) (inl_len C.right) h2 (fun i hi' ho => evs_bd C.right Y.ok I.ok hi' (h i (inl_iff.1 hi').1 ho))
  obtain ⟨i0, h0⟩ : ∃ i0, i0 ∈ (inl c s r 0).filter fun i => i != o := by
    cases e : (inl c s r 0).filter fun i => i != o with
    | nil => rw [e] at h2; simp at h2
    | cons a l => exact ⟨a, by simp⟩
  obtain ⟨m1, m2⟩ := List.mem_filter.1 h0
  have n0 := in_nums C.right Y.ok I.ok m1
  have k0 := h i0 (inl_iff.1 m1).1 (by simpa using m2)
  have h10 : 0 ≤ G c 10 := by obtain ⟨-, -, -, -, -, -, -, -, -, -, h10, -⟩ := C.right; exact h10.1
  exact val_hull hv hm (p := (r i0).n) (by omega) n0.1
/-- A healthy channel does not trip, and stays healthy. -/
theorem healthy_calm (C : Cov c E R) (Y : Cy c r E R at0 at' o) (I : Inv c s E at0 o) {i : Nat} (hi : i < NN c) (ho : i ≠ o) : trp c s r 0 i = 0 ∧ Hc c E at' (nxt c s r 0).votes ((nxt c s r 0).ch i) := by
  have H := I.ch i hi ho
  obtain ⟨t1, t2, t3⟩ := Y.tells i hi ho
  obtain ⟨in1, ah⟩ := healthy_in C Y I hi ho
  have ha := healthy_any C Y I
  have hval := healthy_val C Y I (lo := at' - E) (hi := at' + E) (fun j hj hjo => (Y.tells j hj hjo).2)
  have he := C.e0
  have hmem : i ∈ inl c s r 0 := inl_iff.2 ⟨hi, in1⟩
  obtain ⟨n1, n2, n3, n4⟩ := in_nums C.right Y.ok I.ok hmem
  have hmid := mid_odd inl_nodup (f := fun i => (r i).n) (a := at' - E) (b := at' + E) (own_ok (sh := 0) C.right Y.ok I.ok) (inl_len C.right) (healthy_list C Y I) (fun j hj hjo => (Y.tells j (inl_iff.1 hj).1 hjo).2)
  have h8 : 0 ≤ G c 8 ∧ G c 8 ≤ 8 := by obtain ⟨-, -, -, -, -, -, -, -, h8, -⟩ := C.right; exact h8
  have hd : Dr.dif ((r i).n - Od.midv (own c s r 0)) = true := by
    rw [Dr.dif_iff]
    have := C.e1
    unfold own
    omega
  have hlev : -(2 * E) ≤ lev c s r 0 i ∧ lev c s r 0 i ≤ 2 * E := by
    unfold lev
    rw [if_pos (by rw [t1, ha]; rfl)]
    have hl := H.lev
    have h1 := C.e1
    have q := Dr.nx_between (lag := G c 8) (level := (s.ch i).lev) (d := (r i).n - Od.midv (own c s r 0)) (by omega) hd h8.1 h8.2
    have hm1 : -(2 * E) ≤ (r i).n - Od.midv (own c s r 0) ∧ (r i).n - Od.midv (own c s r 0) ≤ 2 * E := by unfold own; omega
    by_cases w : (s.ch i).lev ≤ (r i).n - Od.midv (own c s r 0)
    · have := q.1 w; omega
    · have := q.2 (by omega); omega
  have hdr : drf c s r 0 i = false := by
    unfold drf Dr.ov
    have := C.drift
    rw [Bool.and_eq_false_iff]
    right
    simp; omega
  have hmis : mis c s r 0 i = false := by
    unfold mis
    have := C.mis
    rw [Bool.and_eq_false_iff]
    right
    simp; omega
  have htr : trp c s r 0 i = 0 := by
    unfold trp
    rw [ah, hdr, hmis]; rfl
  refine ⟨htr, ?_⟩
  have hst : lat c s r 0 i = Lc.zer := by
    unfold lat tr
    rw [htr, H.st]; rfl
  refine ⟨hst, fun _ => ?_, hlev, ?_⟩
  · show at' - E ≤ (if (r i).is = true then (r i).n else 0) ∧ (if (r i).is = true then (r i).n else 0) ≤ at' + E
    rw [if_pos t1]; exact ⟨t2, t3⟩
  · have hvv : (r i).n - (2 * E + G c 10 + G c 12) ≤ val c s r 0 ∧ val c s r 0 ≤ (r i).n + (2 * E + G c 10 + G c 12) := by omega
    show ∀ v ∈ Sk.lastN (if (r i).is = true then kq (s.ch i) (r i).n else 0) (s.votes ++ [val c s r 0]), (if (r i).is = true then (r i).n else 0) - (2 * E + G c 10 + G c 12) ≤ v ∧ v ≤ (if (r i).is = true then (r i).n else 0) + (2 * E + G c 10 + G c 12)
    rw [if_pos t1, if_pos t1]
    intro v hv
    unfold kq at hv
    split at hv
    · rename_i hn
      rw [lastN_next] at hv
      rcases List.mem_append.1 hv with q | q
      · have := H.votes v q
        rw [hn]; exact this
      · rw [List.mem_singleton.1 q]; exact hvv
    · rw [lastN_next 0, lastN_zero, List.nil_append] at hv
      rw [List.mem_singleton.1 hv]; exact hvv
theorem inv_next (C : Cov c E R) (Y : Cy c r E R at0 at' o) (I : Inv c s E at0 o) : Inv c (nxt c s r 0) E at' o :=
  ⟨ok_nxt C.right Y.ok I.ok, fun _ hi ho => (healthy_calm C Y I hi ho).2⟩
theorem inv_begin (C : Cov c E R) (at0 : Int) (o : Nat) : Inv c (begin c) E at0 o := by
  have := C.e0
  exact ⟨ok_begin C.right, fun i _ _ => ⟨rfl, fun h => (by cases h), by simp [begin, ch0]; omega, fun v hv => (by simp [begin, Sk.lastN] at hv)⟩⟩

/-! Found out. -/
/-- The odd one trips, where it tells nothing, or what is far off. -/
theorem odd_trips (C : Cov c E R) (Y : Cy c r E R at0 at' o) (I : Inv c s E at0 o) (ho : o < NN c) (h : (r o).is = false ∨ G c 9 + E + 2 * G c 10 + G c 12 < (r o).n - at' ∨ (r o).n - at' < -(G c 9 + E + 2 * G c 10 + G c 12)) :
    tr c s r 0 o = true := by
  have pos : ∀ i, 0 ≤ ahd c s r i := fun i => by
    unfold ahd Jp.trips
    split
    · split <;> split <;> split <;> omega
    · omega
  unfold tr
  rw [bne_iff_ne]
  unfold trp
  have p0 := pos o
  cases hi : (r o).is
  · have : ahd c s r o = 1 := by unfold ahd; rw [if_neg (by rw [hi]; decide)]
    rw [this]
    split <;> split <;> omega
  · have h' := h.resolve_left (by rw [hi]; decide)
    have hval := healthy_val C Y I (lo := at' - E) (hi := at' + E) (fun j hj hjo => (Y.tells j hj hjo).2)
    have hoff := (I.ok.ch o ho).off
    have hm : mis c s r 0 o = true := by
      unfold mis
      rw [hi, Bool.true_and, Bool.or_eq_true, decide_eq_true_eq, decide_eq_true_eq]
      omega
    rw [hm]
    split <;> simp <;> omega
end

/-- A latch's way: with f cycles tripped in a row, and m calm ones in a row. -/
structure Way (L C B : Int) (s : Lc.St) (f m : Int) : Prop where
  fin : Lc.Fin L C B s
  f0 : 0 ≤ f
  m0 : 0 ≤ m
  far : s.la = false → f ≤ s.st
  calm : s.la = true → s.cl ≤ m
theorem way_begin {L C B : Int} (h : Lc.Rt L C B) : Way L C B Lc.zer 0 0 := ⟨Lc.fin_zer h, by omega, by omega, fun _ => by simp [Lc.zer], fun h => by cases h⟩
theorem way_trip {L C B : Int} (hR : Lc.Rt L C B) {s : Lc.St} {f m : Int} (h : Way L C B s f m) : Way L C B (Lc.ste L C B s true) (f + 1) 0 ∧ (s.la = true → (Lc.ste L C B s true).la = true) ∧ (s.ou = true → (Lc.ste L C B s true).ou = true) := by
  have hf := Lc.fin_ste hR h.fin true
  have h0 := h.f0
  cases h.fin with
  | out => exact ⟨⟨hf, by omega, by omega, fun q => by (simp [Lc.ste] at q), fun _ => by simp [Lc.ste]⟩, fun _ => rfl, fun _ => rfl⟩
  | latched hc hb => exact ⟨⟨hf, by omega, by omega, fun q => by (simp [Lc.ste] at q), fun _ => by simp [Lc.ste]⟩, fun _ => rfl, fun q => by cases q⟩
  | @«in» st b hs hb =>
    have hfar := h.far rfl
    simp only at hfar
    refine ⟨⟨hf, by omega, by omega, fun q => ?_, fun q => ?_⟩, fun q => (by cases q), fun q => (by cases q)⟩
    · simp only [Lc.ste, Bool.false_eq_true, if_false, if_true] at q ⊢
      split
      · simp; omega
      · rename_i h1; rw [if_neg h1] at q; split at q <;> simp at q
    · simp only [Lc.ste, Bool.false_eq_true, if_false, if_true] at q ⊢
      split
      · simp
      · split <;> simp
theorem way_calm {L C B : Int} (hR : Lc.Rt L C B) {s : Lc.St} {f m : Int} (h : Way L C B s f m) : Way L C B (Lc.ste L C B s false) 0 (m + 1) ∧ (s.la = true → (Lc.ste L C B s false).la = false → C ≤ m + 1) ∧ (s.ou = true → (Lc.ste L C B s false).ou = true) := by
  have hf := Lc.fin_ste hR h.fin false
  have h0 := h.m0
  cases h.fin with
  | out => exact ⟨⟨hf, by omega, by omega, fun q => by (simp [Lc.ste] at q), fun _ => by simp [Lc.ste]; omega⟩, fun _ q => by (simp [Lc.ste] at q), fun _ => rfl⟩
  | @latched cl b hc hb =>
    have hcalm := h.calm rfl
    simp only at hcalm
    refine ⟨⟨hf, by omega, by omega, fun q => ?_, fun q => ?_⟩, fun _ q => ?_, fun q => by cases q⟩
    · simp only [Lc.ste, Bool.false_eq_true, if_false, if_true] at q ⊢
      split
      · rename_i h1; rw [if_pos h1] at q; simp at q
      · simp
    · simp only [Lc.ste, Bool.false_eq_true, if_false, if_true] at q ⊢
      split
      · simp; omega
      · rename_i h1; rw [if_neg h1] at q; simp at q
    · simp only [Lc.ste, Bool.false_eq_true, if_false, if_true] at q
      split at q
      · simp at q
      · omega
  | «in» hs hb =>
    refine ⟨⟨hf, by omega, by omega, fun _ => by simp [Lc.ste], fun q => by (simp [Lc.ste] at q)⟩, fun q => (by cases q), fun q => (by cases q)⟩
theorem way_latched {L C B : Int} {s : Lc.St} {f m : Int} (h : Way L C B s f m) (hf : L ≤ f) : s.la = true := by
  cases hl : s.la
  · have h1 := h.far hl
    cases h.fin with
    | out => cases hl
    | latched hc hb => cases hl
    | «in» hs hb => simp only at h1; omega
  · rfl
theorem way_back {L C B : Int} {s : Lc.St} {f m : Int} (h : Way L C B s f m) : s.bk ≤ B := by
  cases h.fin with
  | out => simp
  | latched hc hb => simp; omega
  | «in» hs hb => simp; omega
end Sg
end Go.Proofs.Ytmlhmmfgdioclaa
