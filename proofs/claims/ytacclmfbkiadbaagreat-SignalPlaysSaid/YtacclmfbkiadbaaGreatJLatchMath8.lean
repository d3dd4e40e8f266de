/-
  What a latch does, as functions of numbers: a rule, a state, a cycle, a run. No function of the program is walked here. No conditions.
  Configurations as lists of numbers: the rows in which a fault is looked for, what may be, what is covered, and the greatest error that is. No Go text is reached here. No conditions.
  One signal, cycle by cycle, as functions of numbers and lists: what a cycle does to it, in the document's order. No Go text is reached here. No conditions.
  One signal: its value is near who is in; with one odd channel at most it is bounded, and no other channel trips; the odd one is found out. Nothing of a program here. No conditions.
  An object that the call itself made, while the world goes on. No function of the program is walked here. No conditions.
  A struct of whatever kinds in a block that is known whole: loaded whole, stored whole, handed back by a result's cell. No function of the program is walked here. No conditions.
  What a law of layer 18 asks of package signal: as a bundle of contracts over whatever lies in memory for a signal; the values that go in and out. Nothing of the program is walked here. No conditions.
  A region that draws its order, each operation of which only reads what was there, may lay new blocks, and hands back something of a kind that its place in the frame tells: whatever order is drawn, at the end every place holds a thing of its kind. No function of the program is walked here. No conditions beyond those said.
-/
import Derived.Test.YtacclmfbkiadbaaGreatChecked
import Derived.Test.YtacclmfbkiadbaaGreatJAgg5
import Derived.Test.YtacclmfbkiadbaaGreatJStuckMath6
import Derived.Laws.ResultCell
import Derived.Orders
import Derived.OrdersHeld
namespace Go.Proofs.YtacclmfbkiadbaaGreat
set_option maxRecDepth 100000
open Go.ChangeShapes Go.WideShapes Go.ChangeAt Go.RowKit Go.Deep
namespace Lc
/-- Is a number from lo to hi? -/
def inb (n lo hi : Int) : Bool := decide (lo ≤ n) && decide (n ≤ hi)
theorem inb_iff {n lo hi : Int} : inb n lo hi = true ↔ lo ≤ n ∧ n ≤ hi := by unfold inb; simp
/-- May a rule be? -/
def rgt (L C B : Int) : Bool := inb L 1 100 && inb C 1 1000 && inb B 0 10
structure Rt (L C B : Int) : Prop where
  l1 : 1 ≤ L
  l2 : L ≤ 100
  c1 : 1 ≤ C
  c2 : C ≤ 1000
  b1 : 0 ≤ B
  b2 : B ≤ 10
theorem rgt_iff {L C B : Int} : rgt L C B = true ↔ Rt L C B := by
  unfold rgt
  rw [Bool.and_eq_true, Bool.and_eq_true, inb_iff, inb_iff, inb_iff]
  exact ⟨fun h => ⟨h.1.1.1, h.1.1.2, h.1.2.1, h.1.2.2, h.2.1, h.2.2⟩, fun h => ⟨⟨⟨h.l1, h.l2⟩, h.c1, h.c2⟩, h.b1, h.b2⟩⟩
/-- How it is. -/
structure St where
  la : Bool
  ou : Bool
  st : Int
  cl : Int
  bk : Int
def zer : St := ⟨false, false, 0, 0, 0⟩
/-- May a state be, by a rule that may be? -/
def fin (L C B : Int) (s : St) : Bool :=
  if s.ou then s.la && s.st == L && s.cl == 0 && s.bk == B
  else if s.la then s.st == L && inb s.cl 0 (C - 1) && inb s.bk 0 (B - 1)
  else inb s.st 0 (L - 1) && s.cl == 0 && inb s.bk 0 B
def fne (L C B : Int) (s : St) : Bool := rgt L C B && fin L C B s
theorem fne_right {L C B : Int} {s : St} (h : fne L C B s = true) : Rt L C B ∧ fin L C B s = true := by
  unfold fne at h; rw [Bool.and_eq_true] at h; exact ⟨rgt_iff.1 h.1, h.2⟩
/-- The state behind a cycle, and what happened in it. -/
def ste (L C B : Int) (s : St) (t : Bool) : St :=
  if s.ou then s
  else if s.la then (if t then { s with cl := 0 } else if s.cl + 1 < C then { s with cl := s.cl + 1 } else ⟨false, false, 0, 0, s.bk + 1⟩)
  else if t then (if s.st + 1 < L then { s with st := s.st + 1 } else if s.bk < B then { s with st := s.st + 1, la := true } else { s with st := s.st + 1, la := true, ou := true })
  else ⟨false, false, 0, 0, s.bk⟩
def wha (L C B : Int) (s : St) (t : Bool) : Int :=
  if s.ou then 0
  else if s.la then (if t then 0 else if s.cl + 1 < C then 0 else 2)
  else if t then (if s.st + 1 < L then 0 else if s.bk < B then 1 else 3)
  else 0
/-- A state that may be, in words. -/
inductive Fin (L C B : Int) : St → Prop
  | out : Fin L C B ⟨true, true, L, 0, B⟩
  | latched {c b : Int} (hc : 0 ≤ c ∧ c < C) (hb : 0 ≤ b ∧ b < B) : Fin L C B ⟨true, false, L, c, b⟩
  | in {s b : Int} (hs : 0 ≤ s ∧ s < L) (hb : 0 ≤ b ∧ b ≤ B) : Fin L C B ⟨false, false, s, 0, b⟩
theorem fin_iff {L C B : Int} {s : St} : fin L C B s = true ↔ Fin L C B s := by
  obtain ⟨la, ou, st, cl, bk⟩ := s
  constructor
  · intro h
    cases ou <;> cases la <;> simp [fin, inb] at h
    · obtain ⟨⟨⟨h1, h2⟩, rfl⟩, h3, h4⟩ := h
      exact .in (by omega) (by omega)
    · obtain ⟨⟨rfl, h1, h2⟩, h3, h4⟩ := h
      exact .latched (by omega) (by omega)
    · obtain ⟨⟨rfl, rfl⟩, rfl⟩ := h
      exact .out
  · intro h
    cases h with
    | out => simp [fin]
    | latched hc hb => simp [fin, inb]; omega
    | «in» hs hb => simp [fin, inb]; omega
theorem fin_zer {L C B : Int} (h : Rt L C B) : Fin L C B zer := .in ⟨Int.le_refl _, by have := h.l1; omega⟩ ⟨Int.le_refl _, h.b1⟩
theorem fin_ste {L C B : Int} (h : Rt L C B) {s : St} (hf : Fin L C B s) (t : Bool) : Fin L C B (ste L C B s t) := by
  have hl := h.l1
  have hc := h.c1
  cases hf with
  | out => exact .out
  | @latched c b hc' hb =>
    cases t
    · by_cases q : c + 1 < C
      · simp only [ste, Bool.false_eq_true, if_false, if_true, q]; exact .latched (by omega) hb
      · simp only [ste, Bool.false_eq_true, if_false, if_true, q]; exact .in (by omega) (by omega)
    · exact .latched (by omega) hb
  | @«in» s b hs hb =>
    cases t
    · exact .in (by omega) hb
    · by_cases q : s + 1 < L
      · simp only [ste, Bool.false_eq_true, if_false, if_true, q]; exact .in (by omega) hb
      · have e : s + 1 = L := by omega
        by_cases p : b < B
        · simp only [ste, Bool.false_eq_true, if_false, if_true, p, e, Int.lt_irrefl]; exact .latched (by omega) (by omega)
        · have e' : b = B := by omega
          simp only [ste, Bool.false_eq_true, if_false, if_true, e', e, Int.lt_irrefl]; exact .out
/-- The numbers of a state that may be are small. -/
structure Sm (s : St) : Prop where
  st : 0 ≤ s.st ∧ s.st ≤ 100
  cl : 0 ≤ s.cl ∧ s.cl ≤ 1000
  bk : 0 ≤ s.bk ∧ s.bk ≤ 10
/-! ### A run -/
end Lc
end Go.Proofs.YtacclmfbkiadbaaGreat

namespace Go.Proofs.YtacclmfbkiadbaaGreat
set_option maxRecDepth 100000
open Go.ChangeShapes Go.WideShapes Go.ChangeAt Go.RowKit Go.Deep
namespace Cf
/-- The number at place j of a configuration. -/
def G (c : List Int) (j : Nat) : Int := c.getD j 0
/-- Its cells. -/
def CA (c : List Int) : Array Value := (cellsI .i64 c).toArray
theorem CA_size (c : List Int) : (CA c).size = c.length := by simp [CA, cellsI]
theorem CA_one (c : List Int) : (CA c).all (·.oneCell') = true := by
  simp only [CA, Array.all_eq_true_iff_forall_mem]
  intro v hv
  exact cellsI_one .i64 c v (by simpa using hv)
structure Row where
  name : ByteArray
  lo : Int
  hi : Int
  nums : List Int
def noRow : Row := ⟨⟨#[]⟩, 0, 0, []⟩
def ok (r : Row) (x : Int) : Bool := decide (r.lo ≤ x) && decide (x ≤ r.hi)
def fine (r : Row) : Bool := r.nums.all (ok r)
def first : List Row → ByteArray
  | [] => ⟨#[]⟩
  | r :: rs => if fine r = true then first rs else r.name
def own (c : List Int) : List Int := if G c 0 = 4 then [G c 17, G c 18, G c 19, G c 20] else [G c 17, G c 18, G c 19]
def others (c : List Int) : List Int := if G c 0 = 4 then [] else [G c 20]
def rows (c : List Int) : List Row :=
  [⟨⟨#[78]⟩, 3, 4, [G c 0]⟩, ⟨⟨#[76, 111]⟩, -2147483648, 2147483647, [G c 1]⟩, ⟨⟨#[72, 105]⟩, G c 1, 2147483647, [G c 2]⟩, ⟨⟨#[83, 97, 102, 101]⟩, G c 1, G c 2, [G c 3]⟩,
   ⟨⟨#[83, 116, 101, 112]⟩, 0, 2147483647, [G c 4]⟩, ⟨⟨#[83, 116, 117, 99, 107]⟩, 0, 2147483647, [G c 5]⟩, ⟨⟨#[87, 105, 110, 100, 111, 119]⟩, 2, 16, [G c 6]⟩,
   ⟨⟨#[68, 114, 105, 102, 116]⟩, 0, 2147483647, [G c 7]⟩, ⟨⟨#[76, 97, 103]⟩, 0, 8, [G c 8]⟩, ⟨⟨#[77, 105, 115]⟩, 0, 2147483647, [G c 9]⟩, ⟨⟨#[65, 117, 116, 104]⟩, 0, 2147483647, [G c 10]⟩,
   ⟨⟨#[71, 97, 105, 110]⟩, 0, 8, [G c 11]⟩, ⟨⟨#[67, 108, 105, 112]⟩, 0, 2147483647, [G c 12]⟩, ⟨⟨#[76, 97, 116, 99, 104]⟩, 1, 100, [G c 13]⟩, ⟨⟨#[67, 108, 101, 97, 110]⟩, 1, 1000, [G c 14]⟩,
   ⟨⟨#[66, 117, 100, 103, 101, 116]⟩, 0, 10, [G c 15]⟩, ⟨⟨#[76, 105, 109, 105, 116]⟩, 1, 8, [G c 16]⟩, ⟨⟨#[87, 101, 105, 103, 104, 116, 115]⟩, 1, 16, own c⟩, ⟨⟨#[87, 101, 105, 103, 104, 116, 115]⟩, 0, 0, others c⟩]
def fault (c : List Int) : ByteArray := first (rows c)
theorem first_drop (l : List Row) (k : Nat) (h : k < l.length) : first (l.drop k) = if fine (l.getD k noRow) = true then first (l.drop (k + 1)) else (l.getD k noRow).name := by
  rw [List.drop_eq_getElem_cons h, first]
  simp [List.getD_eq_getElem?_getD, h]
/-- Whether all stands within its bounds. -/
def Right (c : List Int) : Prop :=
  (3 ≤ G c 0 ∧ G c 0 ≤ 4) ∧ (-2147483648 ≤ G c 1 ∧ G c 1 ≤ 2147483647) ∧ (G c 1 ≤ G c 2 ∧ G c 2 ≤ 2147483647) ∧ (G c 1 ≤ G c 3 ∧ G c 3 ≤ G c 2) ∧ (0 ≤ G c 4 ∧ G c 4 ≤ 2147483647) ∧ (0 ≤ G c 5 ∧ G c 5 ≤ 2147483647) ∧
  (2 ≤ G c 6 ∧ G c 6 ≤ 16) ∧ (0 ≤ G c 7 ∧ G c 7 ≤ 2147483647) ∧ (0 ≤ G c 8 ∧ G c 8 ≤ 8) ∧ (0 ≤ G c 9 ∧ G c 9 ≤ 2147483647) ∧ (0 ≤ G c 10 ∧ G c 10 ≤ 2147483647) ∧ (0 ≤ G c 11 ∧ G c 11 ≤ 8) ∧ (0 ≤ G c 12 ∧ G c 12 ≤ 2147483647) ∧
  (1 ≤ G c 13 ∧ G c 13 ≤ 100) ∧ (1 ≤ G c 14 ∧ G c 14 ≤ 1000) ∧ (0 ≤ G c 15 ∧ G c 15 ≤ 10) ∧ (1 ≤ G c 16 ∧ G c 16 ≤ 8) ∧ (own c).all (fun x => decide (1 ≤ x) && decide (x ≤ 16)) = true ∧ (others c).all (fun x => decide (0 ≤ x) && decide (x ≤ 0)) = true
instance (c : List Int) : Decidable (Right c) := by unfold Right; infer_instance
theorem first_none : ∀ l : List Row, (∀ r ∈ l, r.name ≠ ⟨#[]⟩) → (first l = ⟨#[]⟩ ↔ l.all fine = true)
  | [], _ => by simp [first]
  | r :: rs, h => by
    have ih := first_none rs (fun x hx => h x (by simp [hx]))
    have h0 := h r (by simp)
    rw [first, List.all_cons, Bool.and_eq_true]
    split
    · rename_i hf; simp [hf, ih]
    · rename_i hf; simp [hf, h0]
theorem fault_none (c : List Int) : fault c = ⟨#[]⟩ ↔ Right c := by
  unfold fault
  rw [first_none _ (by
    intro r hr
    simp only [rows, List.mem_cons, List.not_mem_nil, or_false] at hr
    rcases hr with rfl | rfl | rfl | rfl | rfl | rfl | rfl | rfl | rfl | rfl | rfl | rfl | rfl | rfl | rfl | rfl | rfl | rfl | rfl <;> (intro h; injection h with h; simp at h))]
  simp only [rows, fine, ok, List.all_cons, List.all_nil, Bool.and_true, Bool.and_eq_true, decide_eq_true_eq, Right]
  exact Iff.rfl
/-- What Right answers. -/
def rt (c : List Int) : Bool := decide (Right c)
theorem beq_bytes (a b : ByteArray) : (a == b) = decide (a = b) := by
  rw [beq_toListBytes, Bool.eq_iff_iff, beq_iff_eq, decide_eq_true_eq, ByteArray.toList_eq, ByteArray.toList_eq, Array.toList_inj, ByteArray.ext_iff]
theorem rt_fault (c : List Int) : (fault c == ⟨#[]⟩) = rt c := by
  rw [beq_bytes]; unfold rt; rw [decide_eq_decide]; exact fault_none c
/-- What Covers answers. -/
def cov (c : List Int) (e r : Int) : Bool :=
  decide ((0 ≤ e ∧ e ≤ 1073741824 ∧ 0 ≤ r ∧ r ≤ 1073741824) ∧ Right c ∧ 2 * e + 2 * G c 10 + G c 12 ≤ G c 9 ∧ r + 2 * e ≤ G c 4 ∧ 2 * e ≤ G c 7 ∧ 4 * e + 2 * G c 10 + 2 * G c 12 ≤ G c 5 ∧ 2 * e ≤ G c 2 - G c 1)
/-- The greatest error that is covered with r; -1: none. -/
def room (c : List Int) (r : Int) : Int :=
  if Right c ∧ 0 ≤ r ∧ r ≤ 1073741824 then max (-1) (min 1073741824 (min ((G c 9 - 2 * G c 10 - G c 12) / 2) (min ((G c 4 - r) / 2) (min (G c 7 / 2) (min ((G c 5 - 2 * G c 10 - 2 * G c 12) / 4) ((G c 2 - G c 1) / 2)))))) else -1
end Cf
end Go.Proofs.YtacclmfbkiadbaaGreat

namespace Go.Proofs.YtacclmfbkiadbaaGreat
set_option maxRecDepth 100000
namespace Sg
open Cf (G)
/-- A raw value, or none. -/
structure Rw where
  is : Bool
  n : Int
def rw0 : Rw := ⟨false, 0⟩
/-- What a channel has: the value that came last, whether one did, how often in a row, the level, the offset, the latch. -/
structure Ch where
  last : Int
  has : Bool
  k : Nat
  lev : Int
  off : Int
  st : Lc.St
def ch0 : Ch := ⟨0, false, 0, 0, 0, Lc.zer⟩
/-- A signal: its value, all votes so far, its channels. -/
structure Si where
  val : Int
  votes : List Int
  ch : Nat → Ch
def begin (c : List Int) : Si := ⟨G c 3, [], fun _ => ch0⟩
/-! The configuration's numbers. -/
def NN (c : List Int) : Nat := (G c 0).toNat
def PW (c : List Int) : Nat := (G c 6).toNat - 1
section
variable (c : List Int) (s : Si) (r : Nat → Rw) (sh : Int)
/-- How often a value came in a row, with this one. -/
def kq (x : Ch) (n : Int) : Nat := if n = x.last then x.k + 1 else 1
def outr (n : Int) : Bool := Jp.out (G c 1) (G c 2) n
def spk (x : Ch) (n : Int) : Bool := Jp.far (G c 4) x.last x.has n
def frz (x : Ch) (n : Int) : Bool := decide (PW c + 1 ≤ kq x n) && Sk.moved (PW c) (G c 5) (Sk.lastN (PW c) s.votes)
/-- Trips ahead of the vote. -/
def ahd (i : Nat) : Int := if (r i).is = true then Jp.trips (G c 1) (G c 2) (G c 4) (s.ch i).last (s.ch i).has (r i).n + (if frz c s (s.ch i) (r i).n = true then 8 else 0) else 1
/-- Who is in. -/
def isin (i : Nat) : Bool := (r i).is && !outr c (r i).n && !spk c (s.ch i) (r i).n && !Fx.has sh i && !(s.ch i).st.la
def inl : List Nat := (List.range (NN c)).filter fun i => isin c s r sh i
def own : List Int := (inl c s r sh).map fun i => (r i).n
def evs : List Int := (inl c s r sh).map fun i => (r i).n - (s.ch i).off
def wts : List Int := (inl c s r sh).map fun i => G c (17 + i)
def any : Bool := !(inl c s r sh).isEmpty
/-- The level, and whether it is over. -/
def lev (i : Nat) : Int := if ((r i).is && any c s r sh) = true then Dr.nx (G c 8) (s.ch i).lev ((r i).n - Od.midv (own c s r sh)) else (s.ch i).lev
def drf (i : Nat) : Bool := (r i).is && any c s r sh && Dr.ov (G c 7) (lev c s r sh i)
/-- The vote. -/
def val : Int := if Vo.votb (G c 1) (G c 2) (G c 12) (evs c s r sh) (wts c s r sh) = true then Vo.votv (G c 1) (G c 2) (G c 12) (evs c s r sh) (wts c s r sh) else s.val
/-- Miscompare. -/
def mis (i : Nat) : Bool := (r i).is && (decide (G c 9 < (r i).n - (s.ch i).off - val c s r sh) || decide (G c 9 < val c s r sh - ((r i).n - (s.ch i).off)))
def trp (i : Nat) : Int := ahd c s r i + (if drf c s r sh i = true then 16 else 0) + (if mis c s r sh i = true then 32 else 0)
def sus : Int := if Pa.sus (evs c s r sh) (G c 9) < 0 then -1 else ((inl c s r sh).getD (Pa.sus (evs c s r sh) (G c 9)).toNat 0 : Nat)
/-- The trim, the latch. -/
def off (i : Nat) : Int := if (r i).is = true then Ql.nx (G c 10) (G c 11) (s.ch i).off (r i).n (val c s r sh) else (s.ch i).off
def tr (i : Nat) : Bool := trp c s r sh i != 0
def lat (i : Nat) : Lc.St := Lc.ste (G c 13) (G c 14) (G c 15) (s.ch i).st (tr c s r sh i)
def wha (i : Nat) : Int := Lc.wha (G c 13) (G c 14) (G c 15) (s.ch i).st (tr c s r sh i)
/-- The signal behind the cycle. -/
def nxt : Si := ⟨val c s r sh, s.votes ++ [val c s r sh], fun i =>
  ⟨if (r i).is = true then (r i).n else 0, (r i).is, if (r i).is = true then kq (s.ch i) (r i).n else 0, lev c s r sh i, off c s r sh i, lat c s r sh i⟩⟩
end
/-! What may be. -/
structure Okc (c : List Int) (x : Ch) : Prop where
  last : -2147483648 ≤ x.last ∧ x.last ≤ 2147483647
  lev : -4294967296 ≤ x.lev ∧ x.lev ≤ 4294967296
  off : -(G c 10) ≤ x.off ∧ x.off ≤ G c 10
  st : Lc.Fin (G c 13) (G c 14) (G c 15) x.st
structure Ok (c : List Int) (s : Si) : Prop where
  val : G c 1 ≤ s.val ∧ s.val ≤ G c 2
  votes : ∀ v ∈ s.votes, G c 1 ≤ v ∧ v ≤ G c 2
  ch : ∀ i, i < NN c → Okc c (s.ch i)
/-- Raw values that may be. -/
def Rok (c : List Int) (r : Nat → Rw) : Prop := ∀ i, i < NN c → (r i).is = true → -2147483648 ≤ (r i).n ∧ (r i).n ≤ 2147483647
theorem right_latch {c : List Int} (h : Cf.Right c) : Lc.Rt (G c 13) (G c 14) (G c 15) := by
  obtain ⟨-, -, -, -, -, -, -, -, -, -, -, -, -, h1, h2, h3, -⟩ := h
  exact ⟨h1.1, h1.2, h2.1, h2.2, h3.1, h3.2⟩
theorem ok_begin {c : List Int} (h : Cf.Right c) : Ok c (begin c) := by
  have hl := right_latch h
  obtain ⟨-, -, -, h3, -, -, -, -, -, -, h10, -⟩ := h
  exact ⟨h3, fun v hv => by (cases hv), fun i _ => ⟨by simp [begin, ch0], by simp [begin, ch0], by simp [begin, ch0]; omega, Lc.fin_zer hl⟩⟩
section
variable {c : List Int} {s : Si} {r : Nat → Rw} {sh : Int}
theorem NN_34 (h : Cf.Right c) : NN c = 3 ∨ NN c = 4 := by
  obtain ⟨⟨h0, h1⟩, -⟩ := h
  unfold NN; omega
theorem NN_eq (h : Cf.Right c) : ((NN c : Nat) : Int) = G c 0 := by
  obtain ⟨⟨h0, h1⟩, -⟩ := h
  unfold NN; omega
theorem inl_iff {i : Nat} : i ∈ inl c s r sh ↔ i < NN c ∧ isin c s r sh i = true := by unfold inl; simp
theorem inl_len (h : Cf.Right c) : (inl c s r sh).length ≤ 4 := by
  unfold inl
  have h1 := List.length_filter_le (fun i => isin c s r sh i) (List.range (NN c))
  have := NN_34 h
  rw [List.length_range] at h1
  omega
theorem inl_nodup : (inl c s r sh).Nodup := List.Pairwise.filter _ List.nodup_range
theorem isin_iff {i : Nat} : isin c s r sh i = true ↔ (r i).is = true ∧ outr c (r i).n = false ∧ spk c (s.ch i) (r i).n = false ∧ Fx.has sh i = false ∧ (s.ch i).st.la = false := by
  unfold isin; simp [and_assoc]
theorem out_no {n : Int} (h : outr c n = false) : G c 1 ≤ n ∧ n ≤ G c 2 := by
  unfold outr Jp.out at h; simp at h; omega
theorem map_getD {f : Nat → Int} {l : List Nat} {k : Nat} (h : k < l.length) : (l.map f).getD k 0 = f (l.getD k 0) := by
  simp [List.getD_eq_getElem?_getD, h]
theorem getD_mem {l : List Nat} {k : Nat} (h : k < l.length) : l.getD k 0 ∈ l := by
  rw [List.getD_eq_getElem?_getD, List.getElem?_eq_getElem h]; simp
/-- The numbers of those that are in. -/
theorem in_nums (hR : Cf.Right c) (hr : Rok c r) (hO : Ok c s) {i : Nat} (hi : i ∈ inl c s r sh) :
    (G c 1 ≤ (r i).n ∧ (r i).n ≤ G c 2) ∧ (-2147483648 ≤ (r i).n ∧ (r i).n ≤ 2147483647) ∧ ((r i).n - G c 10 ≤ (r i).n - (s.ch i).off ∧ (r i).n - (s.ch i).off ≤ (r i).n + G c 10) ∧ -4294967296 ≤ (r i).n - (s.ch i).off ∧ (r i).n - (s.ch i).off ≤ 4294967296 := by
  obtain ⟨h1, h2⟩ := inl_iff.1 hi
  obtain ⟨k1, k2, -⟩ := isin_iff.1 h2
  have h3 := out_no k2
  have h4 := (hO.ch i h1).off
  have h5 := hr i h1 k1
  obtain ⟨-, -, -, -, -, -, -, -, -, -, h10, -⟩ := hR
  refine ⟨h3, h5, ?_, ?_⟩ <;> omega
theorem wt_at (hR : Cf.Right c) {i : Nat} (hi : i < NN c) : 1 ≤ G c (17 + i) ∧ G c (17 + i) ≤ 16 := by
  have hN := NN_34 hR
  have h0 : NN c = (G c 0).toNat := rfl
  obtain ⟨⟨a0, a1⟩, -, -, -, -, -, -, -, -, -, -, -, -, -, -, -, -, hw, -⟩ := hR
  unfold Cf.own at hw
  rcases hN with h | h
  · rw [if_neg (by omega)] at hw
    simp at hw
    have : i = 0 ∨ i = 1 ∨ i = 2 := by omega
    rcases this with rfl | rfl | rfl
    · exact hw.1
    · exact hw.2.1
    · exact hw.2.2
  · rw [if_pos (by omega)] at hw
    simp at hw
    have : i = 0 ∨ i = 1 ∨ i = 2 ∨ i = 3 := by omega
    rcases this with rfl | rfl | rfl | rfl
    · exact hw.1
    · exact hw.2.1
    · exact hw.2.2.1
    · exact hw.2.2.2
theorem any_iff : any c s r sh = true ↔ inl c s r sh ≠ [] := by unfold any; simp
theorem own_ok (hR : Cf.Right c) (hr : Rok c r) (hO : Ok c s) : Od.ok (own c s r sh) = true := by
  refine Vo.ok_of (by have := inl_len (s := s) (r := r) (sh := sh) hR; unfold own; rw [List.length_map]; omega) fun k hk => ?_
  unfold own at hk ⊢
  rw [List.length_map] at hk
  rw [map_getD hk]
  have := (in_nums hR hr hO (getD_mem hk)).2.1
  omega
theorem evs_ok (hR : Cf.Right c) (hr : Rok c r) (hO : Ok c s) : Od.ok (evs c s r sh) = true := by
  refine Vo.ok_of (by have := inl_len (s := s) (r := r) (sh := sh) hR; unfold evs; rw [List.length_map]; omega) fun k hk => ?_
  unfold evs at hk ⊢
  rw [List.length_map] at hk
  rw [map_getD hk]
  exact (in_nums hR hr hO (getD_mem hk)).2.2.2
theorem rmay_c (hR : Cf.Right c) : Vo.rmay (G c 1) (G c 2) (G c 12) = true := by
  obtain ⟨-, h1, h2, -, -, -, -, -, -, -, -, -, h12, -⟩ := hR
  exact (Vo.rmay_iff _ _ _).2 ⟨h1, h2, h12.1, h12.2⟩
/-- There is a vote just if any is in. -/
theorem votb_any (hR : Cf.Right c) (hr : Rok c r) (hO : Ok c s) : Vo.votb (G c 1) (G c 2) (G c 12) (evs c s r sh) (wts c s r sh) = any c s r sh := by
  have hl := inl_len (s := s) (r := r) (sh := sh) hR
  cases ha : any c s r sh
  · have h0 : inl c s r sh = [] := by
      unfold any at ha; simpa using ha
    rw [Bool.eq_false_iff]
    intro h
    have := (Vo.midb_iff.1 (Vo.votb_iff.1 h).1).2.1
    unfold evs at this; rw [h0] at this; simp at this
  · have h0 := any_iff.1 ha
    have h1 : 1 ≤ (inl c s r sh).length := by
      cases e : inl c s r sh with
      | nil => exact absurd e h0
      | cons a l => simp
    refine Vo.votb_iff.2 ⟨Od.midb_yes (evs_ok hR hr hO) (by unfold evs; rw [List.length_map]; exact h1) (by unfold evs; rw [List.length_map]; exact hl), rmay_c hR, (Vo.fits_iff _ _).2 ⟨by unfold evs wts; simp, Vo.okk_of fun k hk => ?_⟩⟩
    unfold evs at hk
    rw [List.length_map] at hk
    unfold evs wts
    rw [map_getD hk, map_getD hk]
    exact (Vo.okp_iff _ _).2 ⟨(in_nums hR hr hO (getD_mem hk)).2.2.2, wt_at hR (inl_iff.1 (getD_mem hk)).1⟩
theorem val_in (hO : Ok c s) : G c 1 ≤ val c s r sh ∧ val c s r sh ≤ G c 2 := by
  unfold val
  split
  · rename_i h; exact Vo.vote_in h
  · exact hO.val
theorem ok_nxt (hR : Cf.Right c) (hr : Rok c r) (hO : Ok c s) : Ok c (nxt c s r sh) := by
  have hv := val_in (r := r) (sh := sh) hO
  have hl := right_latch hR
  refine ⟨hv, fun v h => ?_, fun i hi => ?_⟩
  · rcases List.mem_append.1 h with q | q
    · exact hO.votes v q
    · rw [List.mem_singleton.1 q]; exact hv
  · have o := hO.ch i hi
    refine ⟨?_, ?_, ?_, Lc.fin_ste hl o.st _⟩
    · show _ ∧ _
      simp only [nxt]
      split
      · rename_i h; exact hr i hi h
      · omega
    · simp only [nxt, lev]
      obtain ⟨-, -, -, -, -, -, -, -, h8, -⟩ := hR
      split
      · exact Dr.nx_level o.lev h8.1 h8.2
      · exact o.lev
    · simp only [nxt, off]
      obtain ⟨-, -, -, -, -, -, -, -, -, -, h10, -⟩ := hR
      split
      · exact Ql.nx_bd _ _ _ h10.1 o.off
      · exact o.off
end
end Sg
end Go.Proofs.YtacclmfbkiadbaaGreat

namespace Go.Proofs.YtacclmfbkiadbaaGreat
set_option maxRecDepth 100000
namespace Sg
open Cf (G)
section
variable {c : List Int} {s : Si} {r : Nat → Rw} {sh : Int}
theorem own_mem {f : Nat → Int} {I : List Nat} {x : Int} (h : x ∈ I.map f) : ∃ i ∈ I, f i = x := by simpa using h
/-- The vote lies near whatever the mid of what is even lies between. -/
theorem val_hull {a b p : Int} (h : Vo.votb (G c 1) (G c 2) (G c 12) (evs c s r sh) (wts c s r sh) = true) (hm : a ≤ Od.midv (evs c s r sh) ∧ Od.midv (evs c s r sh) ≤ b) (hp : a ≤ p ∧ p ≤ b) (hi : G c 1 ≤ p ∧ p ≤ G c 2) :
    a - G c 12 ≤ val c s r sh ∧ val c s r sh ≤ b + G c 12 := by
  have M := Vo.votb_mid h
  have n := Vo.mean_near M
  have := M.c1
  have := (Vo.rmay_iff _ _ _).1 (Vo.votb_iff.1 h).2.1
  unfold val
  rw [if_pos h, Vo.votv_yes h]
  unfold Fx.within
  split
  · omega
  · split <;> omega
theorem evs_bd (hR : Cf.Right c) (hr : Rok c r) (hO : Ok c s) {lo hi : Int} {i : Nat} (hi' : i ∈ inl c s r sh) (h : lo ≤ (r i).n ∧ (r i).n ≤ hi) : lo - G c 10 ≤ (r i).n - (s.ch i).off ∧ (r i).n - (s.ch i).off ≤ hi + G c 10 := by
  have := (in_nums hR hr hO hi').2.2.1
  omega
/-- Near who is in. -/
theorem near (hR : Cf.Right c) (hr : Rok c r) (hO : Ok c s) (ha : any c s r sh = true) {lo hi : Int} (h : ∀ i ∈ inl c s r sh, lo ≤ (r i).n ∧ (r i).n ≤ hi) :
    lo - G c 10 - G c 12 ≤ val c s r sh ∧ val c s r sh ≤ hi + G c 10 + G c 12 := by
  have hv := votb_any (sh := sh) hR hr hO
  rw [ha] at hv
  have hl := inl_len (s := s) (r := r) (sh := sh) hR
  obtain ⟨i0, h0⟩ := List.exists_mem_of_ne_nil _ (any_iff.1 ha)
  have h1 : 1 ≤ (inl c s r sh).length := List.length_pos_of_mem h0
  have hm := Pa.mid_bd (a := lo - G c 10) (b := hi + G c 10) (evs_ok (sh := sh) hR hr hO) (by unfold evs; rw [List.length_map]; exact h1) (by unfold evs; rw [List.length_map]; exact hl) (fun x hx => by
    obtain ⟨i, hi', rfl⟩ := own_mem hx
    exact evs_bd hR hr hO hi' (h i hi'))
  have n0 := in_nums hR hr hO h0
  have k0 := h i0 h0
  have h10 : 0 ≤ G c 10 := by obtain ⟨-, -, -, -, -, -, -, -, -, -, h10, -⟩ := hR; exact h10.1
  exact val_hull hv hm (p := (r i0).n) (by omega) n0.1
end
/-! One odd channel. -/
/-- A healthy channel, behind a cycle in which the truth was 'at'. -/
structure Hc (c : List Int) (E at' : Int) (votes : List Int) (x : Ch) : Prop where
  st : x.st = Lc.zer
  near : x.has = true → at' - E ≤ x.last ∧ x.last ≤ at' + E
  lev : -(2 * E) ≤ x.lev ∧ x.lev ≤ 2 * E
  votes : ∀ v ∈ Sk.lastN x.k votes, x.last - (2 * E + G c 10 + G c 12) ≤ v ∧ v ≤ x.last + (2 * E + G c 10 + G c 12)
section
variable {c : List Int} {s : Si} {r : Nat → Rw} {E R at0 at' : Int} {o : Nat}
theorem PW_bd (h : Cf.Right c) : 1 ≤ PW c ∧ PW c ≤ 15 := by
  obtain ⟨-, -, -, -, -, -, h6, -⟩ := h
  unfold PW; omega
structure Inv (c : List Int) (s : Si) (E at0 : Int) (o : Nat) : Prop where
  ok : Ok c s
  ch : ∀ i, i < NN c → i ≠ o → Hc c E at0 s.votes (s.ch i)
/-! Found out. -/
end
end Sg
end Go.Proofs.YtacclmfbkiadbaaGreat

namespace Go.Proofs.YtacclmfbkiadbaaGreat
set_option maxRecDepth 100000
open Go.ChangeShapes Go.WideShapes Go.ChangeAt Go.RowKit Go.Deep
namespace Kp
/-- The block g holds these cells; it is new since w. -/
structure Kept (w W : World) (g : Nat) (t : TypeId) (cs : List Value) : Prop where
  below : Below w.heap.size w W
  row : VRow W g t cs
  ge : w.heap.size ≤ g
section
variable {w W W' : World} {g : Nat} {t : TypeId} {cs cs' : List Value}
theorem Kept.on (h : Kept w W g t cs) (b : Below W.heap.size W W') : Kept w W' g t cs := ⟨grow h.below b, h.row.below b h.row.lt, h.ge⟩
theorem Kept.alloc (h : Kept w W g t cs) (o : Obj) : Kept w (W.alloc o) g t cs := ⟨h.below.alloc h.below.size o, h.row.alloc o, h.ge⟩
theorem Kept.drewN (h : Kept w W g t cs) (n : Nat) : Kept w (W.drewN n) g t cs := ⟨below_drewN h.below n, h.row.drewN n, h.ge⟩
theorem Kept.take (h : Kept w W g t cs) (o : Only g W W') (k : VRow W' g t cs') : Kept w W' g t cs' := ⟨o.below h.below h.below.size h.ge, k, h.ge⟩
theorem kept_new (w W : World) (cs : List Value) (t : TypeId) (h : Below w.heap.size w W) : Kept w (W.alloc (.cells cs.toArray t)) W.heap.size t cs := ⟨h.alloc h.size _, VRow.new W cs t, h.size⟩
end
end Kp
end Go.Proofs.YtacclmfbkiadbaaGreat

namespace Go.Proofs.YtacclmfbkiadbaaGreat
set_option maxRecDepth 100000
open Go.ChangeShapes Go.WideShapes Go.ChangeAt Go.RowKit Go.Deep
section
variable {w w' : World} {g j : Nat} {t : TypeId} {cs cs' : List Value}
theorem VRow.put (h : VRow w g t cs) (cs' : List Value) : VRow (w.setRow g cs'.toArray) g t cs' := setRow_heap w g cs.toArray cs'.toArray t (0, 0) h
theorem Below.put {B : Nat} {a : World} (h : Below B a w) (hg : B ≤ g) (c : Array Value) : Below B a (w.setRow g c) :=
  ⟨h.os, h.tape, h.output, by simpa [World.setRow] using h.size, fun k hk => (setRow_other w g k c (by omega)).trans (h.block k hk)⟩
theorem But.put {S : Nat → Prop} {a : World} (h : But S a w) (hg : S g ∨ a.heap.size ≤ g) (c : Array Value) : But S a (w.setRow g c) :=
  ⟨h.os, h.tape, h.output, by simpa [World.setRow] using h.size, fun k hk hs => (setRow_other w g k c (fun e => by
    rcases hg with q | q
    · exact hs (e ▸ q)
    · omega)).trans (h.block k hk hs)⟩
end
namespace VB
section
variable {P : Program} {w : World} {t tt : TypeId} {g : Nat} {cs : List Value}
/-- The whole variable out of its block. -/
theorem load (hA : (isAgg t).run P w = .ok true w) (hi : (P.info? t).map (·.size) = some cs.length) (h : VRow w g tt cs) :
    (loadVar t ⟨g, 0, none⟩).run P w = .ok (.agg cs.toArray) w := by
  have h1 := run_loadCells_list (P := P) w ⟨g, 0, none⟩ cs (fun j v hv => by rw [add_plain, Nat.zero_add]; exact VRow.cell h j hv)
  cases hq : P.info? t with
  | none => simp [hq] at hi
  | some i =>
    have hs : i.size = cs.length := by simpa [hq] using hi
    simp [loadVar, hA, sizeOf, typeInfo, hq, hs, h1, Result.andThen]
/-- A result that lies in a cell; with one beside it; with two. -/
theorem ret1 {fn : Func} {p : Tmp} {ty : TypeId} {tmps : Array Value} (h : fn.results = #[.cell p ty]) (ht : tmps.getD p undef = .pointer (some ⟨g, 0, none⟩)) (hA : (isAgg ty).run P w = .ok true w) (hi : (P.info? ty).map (·.size) = some cs.length) (hr : VRow w g tt cs) :
    (results fn tmps).run P w = .ok (.agg cs.toArray) w := by
  rw [Agg.results_cell h, ht]
  simp only [asAddr, Sem.run_pure, Result.andThen]
  rw [load hA hi hr]
theorem ret2 {fn : Func} {p u : Tmp} {ty : TypeId} {tmps : Array Value} (h : fn.results = #[.cell p ty, .tmp u]) (ht : tmps.getD p undef = .pointer (some ⟨g, 0, none⟩)) (hA : (isAgg ty).run P w = .ok true w) (hi : (P.info? ty).map (·.size) = some cs.length) (hr : VRow w g tt cs) :
    (results fn tmps).run P w = .ok (.tuple #[.agg cs.toArray, tmps.getD u undef]) w := by
  rw [results_cell_tmp h, ht]
  simp only [asAddr, Sem.run_pure, Result.andThen]
  rw [load hA hi hr]
theorem ret3 {fn : Func} {p u v : Tmp} {ty : TypeId} {tmps : Array Value} (h : fn.results = #[.cell p ty, .tmp u, .tmp v]) (ht : tmps.getD p undef = .pointer (some ⟨g, 0, none⟩)) (hA : (isAgg ty).run P w = .ok true w) (hi : (P.info? ty).map (·.size) = some cs.length) (hr : VRow w g tt cs) :
    (results fn tmps).run P w = .ok (.tuple #[.agg cs.toArray, tmps.getD u undef, tmps.getD v undef]) w := by
  have h1 : (results fn tmps).run P w = ((asAddr (tmps.getD p undef)).run P w).andThen fun a w₁ => ((loadVar ty a).run P w₁).andThen fun x w₂ => .ok (.tuple #[x, tmps.getD u undef, tmps.getD v undef]) w₂ := by
    simp only [results, h]
    simp [Sem.run_bind, Result.andThen]
  rw [h1, ht]
  simp only [asAddr, Sem.run_pure, Result.andThen]
  rw [load hA hi hr]
/-- A whole struct stored. -/
theorem store {ops : Array Oper} {rest : List Oper} {o : Oper} {a : Act} {Q : Exit → Act → World → Prop} (hgd : o.guard = none) (x y : Operand) (ho : o.op = .store t x y)
    (g : Nat) (cs' : List Value) (hx : a.eval x = .pointer (some ⟨g, 0, none⟩)) (hy : a.eval y = .agg cs'.toArray) (hr : VRow w g tt cs) (hi : (P.info? t).map (·.size) = some cs'.length) (hl : cs.length = cs'.length) (h1 : cs'.toArray.all (·.oneCell') = true)
    (h : wpList P ops Q rest (a.put o.dst undef) (w.setRow g cs'.toArray)) : wpList P ops Q (o :: rest) a w :=
  wpList_store_row hgd t x y ho g cs'.toArray hx hy tt cs.toArray hr (by simpa using hi) (by simpa using hl) h1 h
/-- A whole struct loaded. -/
theorem loaded {ops : Array Oper} {rest : List Oper} {o : Oper} {a : Act} {Q : Exit → Act → World → Prop} (hgd : o.guard = none) (x : Operand) (ho : o.op = .load t x)
    (g : Nat) (hx : a.eval x = .pointer (some ⟨g, 0, none⟩)) (hr : VRow w g tt cs) {d : TypeDesc} (hu : P.underlying t = some d) (hd : (match d with | .struct _ | .array _ _ => true | _ => false) = true) (hi : (P.info? t).map (·.size) = some cs.length)
    (h : wpList P ops Q rest (a.put o.dst (.agg cs.toArray)) w) : wpList P ops Q (o :: rest) a w :=
  wpList_load_row hgd t x ho g hx tt cs.toArray (0, 0) d hr hu hd (by simpa using hi) h
end
end VB
end Go.Proofs.YtacclmfbkiadbaaGreat

namespace Go.Proofs.YtacclmfbkiadbaaGreat
set_option maxRecDepth 100000
open Go.ChangeShapes Go.WideShapes Go.ChangeAt Go.RowKit Go.Deep
namespace Sg
open Cf (G CA)
/-- Four raw values as cells. -/
def raw8 (r : Nat → Rw) : List Value := [.bool (r 0).is, .int .i64 (r 0).n, .bool (r 1).is, .int .i64 (r 1).n, .bool (r 2).is, .int .i64 (r 2).n, .bool (r 3).is, .int .i64 (r 3).n]
/-- A mask of four. -/
def mk4 (f : Nat → Bool) : Int := (if f 0 = true then 1 else 0) + (if f 1 = true then 2 else 0) + (if f 2 = true then 4 else 0) + (if f 3 = true then 8 else 0)
section
variable (c : List Int) (s : Si) (r : Nat → Rw) (sh : Int)
def inm : Int := mk4 fun i => decide (i < NN c) && isin c s r sh i
def lam : Int := mk4 fun i => decide (i < NN c) && (s.ch i).st.la
def tri (i : Nat) : Int := if i < NN c then trp c s r sh i else 0
def evi (i : Nat) : Int := if i < NN c then wha c s r sh i else 0
/-- What a cycle tells, as cells. -/
def res : List Value := [.int .i64 (val c s r sh), .int .i64 (inm c s r sh), .int .i64 (lam c (nxt c s r sh)), .int .i64 (sus c s r sh), .bool (!any c s r sh),
  .int .i64 (tri c s r sh 0), .int .i64 (tri c s r sh 1), .int .i64 (tri c s r sh 2), .int .i64 (tri c s r sh 3), .int .i64 (evi c s r sh 0), .int .i64 (evi c s r sh 1), .int .i64 (evi c s r sh 2), .int .i64 (evi c s r sh 3)]
end
def zres : List Value := [.int .i64 0, .int .i64 0, .int .i64 0, .int .i64 0, .bool false, .int .i64 0, .int .i64 0, .int .i64 0, .int .i64 0, .int .i64 0, .int .i64 0, .int .i64 0, .int .i64 0]
def lav (s : Lc.St) : List Value := [.bool s.la, .bool s.ou, .int .i64 s.st, .int .i64 s.cl, .int .i64 s.bk]
def okr (c : List Int) (r : Nat → Rw) (sh : Int) : Prop := Rok c r ∧ 0 ≤ sh ∧ sh ≤ 15
/-- The package, as a law meets it: a signal lies in the blocks S, behind a pointer to block g. -/
structure Face where
  At : World → (Nat → Prop) → Nat → List Int → Si → Prop
  lt : ∀ {W S g c s}, At W S g c s → ∀ j, S j → j < W.heap.size
  keep : ∀ {W W' : World} {S T : Nat → Prop} {g c s}, At W S g c s → But T W W' → (∀ j, S j → ¬ T j) → At W' S g c s
  new_yes : ∀ (c : List Int) (w : World), c.length = 21 → Cf.Right c →
    Calls Tryz.prog 5 #[.agg (CA c)] w fun e w' => (∃ g S, e = .returned (.tuple #[.pointer (some ⟨g, 0, none⟩), .int .i64 0]) ∧ At w' S g c (begin c) ∧ ∀ j, S j → w.heap.size ≤ j) ∧ Below w.heap.size w w'
  new_no : ∀ (c : List Int) (w : World), c.length = 21 → ¬ Cf.Right c →
    Calls Tryz.prog 5 #[.agg (CA c)] w fun e w' => e = .returned (.tuple #[.pointer none, .int .i64 2]) ∧ Below w.heap.size w w'
  step_yes : ∀ {W S g c s} (r : Nat → Rw) (sh : Int), At W S g c s → Cf.Right c → Ok c s → okr c r sh → s.votes.length < 1099511627776 →
    Calls Tryz.prog 8 #[.pointer (some ⟨g, 0, none⟩), .agg (raw8 r).toArray, .int .i64 sh] W fun e w' => e = .returned (.tuple #[.agg (res c s r sh).toArray, .int .i64 0]) ∧ ∃ S', At w' S' g c (nxt c s r sh) ∧ But S W w' ∧ ∀ j, S' j → S j ∨ W.heap.size ≤ j
  step_no : ∀ {W S g c s} (r : Nat → Rw) (sh : Int), At W S g c s → Cf.Right c → Ok c s → ¬ okr c r sh →
    Calls Tryz.prog 8 #[.pointer (some ⟨g, 0, none⟩), .agg (raw8 r).toArray, .int .i64 sh] W fun e w' => e = .returned (.tuple #[.agg zres.toArray, .int .i64 1]) ∧ Below W.heap.size W w'
  value : ∀ {W S g c s}, At W S g c s → Calls Tryz.prog 12 #[.pointer (some ⟨g, 0, none⟩)] W fun e w' => e = .returned (.int .i64 s.val) ∧ Below W.heap.size W w'
  latched : ∀ {W S g c s}, At W S g c s → Cf.Right c → Calls Tryz.prog 13 #[.pointer (some ⟨g, 0, none⟩)] W fun e w' => e = .returned (.int .i64 (lam c s)) ∧ Below W.heap.size W w'
  state_yes : ∀ {W S g c s} (k : Nat), At W S g c s → Cf.Right c → k < NN c → Calls Tryz.prog 15 #[.pointer (some ⟨g, 0, none⟩), .int .i64 k] W fun e w' => e = .returned (.tuple #[.agg (lav (s.ch k).st).toArray, .bool true]) ∧ Below W.heap.size W w'
  state_no : ∀ {W S g c s} (k : Int), At W S g c s → Cf.Right c → (k < 0 ∨ (NN c : Int) ≤ k) → Calls Tryz.prog 15 #[.pointer (some ⟨g, 0, none⟩), .int .i64 k] W fun e w' => e = .returned (.tuple #[.agg (lav Lc.zer).toArray, .bool false]) ∧ Below W.heap.size W w'
  offset_yes : ∀ {W S g c s} (k : Nat), At W S g c s → Cf.Right c → k < NN c → Calls Tryz.prog 17 #[.pointer (some ⟨g, 0, none⟩), .int .i64 k] W fun e w' => e = .returned (.int .i64 (s.ch k).off) ∧ Below W.heap.size W w'
  offset_no : ∀ {W S g c s} (k : Int), At W S g c s → Cf.Right c → (k < 0 ∨ (NN c : Int) ≤ k) → Calls Tryz.prog 17 #[.pointer (some ⟨g, 0, none⟩), .int .i64 k] W fun e w' => e = .returned (.int .i64 0) ∧ Below W.heap.size W w'
theorem Face.on (F : Face) {W W' : World} {S : Nat → Prop} {g : Nat} {c : List Int} {s : Si} (h : F.At W S g c s) (b : Below W.heap.size W W') : F.At W' S g c s :=
  F.keep h (But.of_below (S := fun _ => False) b) (fun _ _ q => q)
/-- A signal that the law has made, while the law goes on: all its blocks are new since w. -/
structure Held (F : Face) (w W : World) (S : Nat → Prop) (g : Nat) (c : List Int) (s : Si) : Prop where
  below : Below w.heap.size w W
  at_ : F.At W S g c s
  new : ∀ j, S j → w.heap.size ≤ j
  ok : Ok c s
section
variable {F : Face} {w W W' : World} {S S' : Nat → Prop} {g : Nat} {c : List Int} {s s' : Si}
theorem Held.on (H : Held F w W S g c s) (b : Below W.heap.size W W') : Held F w W' S g c s := ⟨grow H.below b, F.on H.at_ b, H.new, H.ok⟩
theorem Held.alloc (H : Held F w W S g c s) (o : Obj) : Held F w (W.alloc o) S g c s := H.on ((Below.refl _ _).alloc (Nat.le_refl _) o)
theorem Held.put {j : Nat} (H : Held F w W S g c s) (hj : ¬ S j) (hw : w.heap.size ≤ j) (cs : Array Value) : Held F w (W.setRow j cs) S g c s :=
  ⟨Below.put H.below hw cs, F.keep H.at_ ((But.refl (· = j) W).put (Or.inl rfl) cs) (fun _ hk e => hj (e ▸ hk)), H.new, H.ok⟩
theorem Held.step (H : Held F w W S g c s) (a : F.At W' S' g c s') (b : But S W W') (n : ∀ j, S' j → S j ∨ W.heap.size ≤ j) (o : Ok c s') : Held F w W' S' g c s' :=
  ⟨But.below H.below b H.below.size H.new, a, fun j hj => (n j hj).elim (H.new j) (fun q => Nat.le_trans H.below.size q), o⟩
end
end Sg
end Go.Proofs.YtacclmfbkiadbaaGreat

namespace Go.Proofs.YtacclmfbkiadbaaGreat
set_option maxRecDepth 100000
open Go.ChangeShapes Go.WideShapes Go.ChangeAt Go.RowKit Go.Deep
namespace Flow
/-- The places that an operation looks at. -/
def looks (o : Oper) : List Tmp := o.op.operands.toList.filterMap fun | .tmp t => some t | _ => none
/-- What is asked of an operation: nothing guards it, it has a place below n that is none of those at the start, and what it looks at is one of these or comes from one that it waits for; it waits for earlier ones alone. -/
def fits (ops : Array Oper) (init : List Tmp) (n i : Nat) (o : Oper) : Bool :=
  o.guard.isNone && (match o.dst with | some d => decide (d < n) && !init.contains d | none => false) &&
  ((looks o).all fun t => init.contains t || o.after.any fun e => Region.binds .any e && ((ops[e.on]?).bind (·.dst) == some t)) &&
  (o.after.all fun e => !Region.binds .any e || decide (e.on < i))
def flowB (ops : Array Oper) (init : List Tmp) (n : Nat) : Bool :=
  (ops.toList.zipIdx.all fun q => fits ops init n q.2 q.1) && decide ((ops.toList.map (·.dst)).Nodup)
section
variable {P : Program} {Q : Exit → Act → World → Prop} {ops : Array Oper}
/-- One operation's duty. -/
def Step (P : Program) (Val : Tmp → Value → World → Prop) (Q : Exit → Act → World → Prop) (o : Oper) : Prop :=
  ∀ a w, (∀ t ∈ looks o, Val t (a.tmps.getD t undef) w) → o.wp P a w (fun a' w' => ∃ v, a' = a.put o.dst v ∧ Below w.heap.size w w' ∧ ∀ d, o.dst = some d → Val d v w') Q
structure Inv (ops : Array Oper) (Val : Tmp → Value → World → Prop) (init : List Tmp) (n : Nat) (w0 : World) (a0 : Act) (listed : Array Bool) (a : Act) (w : World) : Prop where
  size : listed.size = ops.size
  frame : a.tmps.size = n
  defers : a.defers = a0.defers
  below : Below w0.heap.size w0 w
  start : ∀ t ∈ init, Val t (a.tmps.getD t undef) w
  old : ∀ t, (∀ (i : Nat) o, ops[i]? = some o → o.dst ≠ some t) → a.tmps.getD t undef = a0.tmps.getD t undef
  vals : ∀ (i : Nat) o d, ops[i]? = some o → listed.getD i true = true → o.dst = some d → Val d (a.tmps.getD d undef) w
theorem flow_at {init : List Tmp} {n : Nat} (hB : flowB ops init n = true) {i : Nat} {o : Oper} (hi : ops[i]? = some o) : fits ops init n i o = true := by
  unfold flowB at hB
  rw [Bool.and_eq_true] at hB
  refine List.all_eq_true.1 hB.1 (o, i) ?_
  rw [List.mem_zipIdx_iff_getElem?]
  simpa using hi
theorem flow_dst {init : List Tmp} {n : Nat} (hB : flowB ops init n = true) {i : Nat} {o : Oper} (hi : ops[i]? = some o) : o.guard = none ∧ ∃ d, o.dst = some d ∧ d < n ∧ d ∉ init := by
  have h := flow_at hB hi
  unfold fits at h
  simp only [Bool.and_eq_true] at h
  obtain ⟨⟨⟨h1, h2⟩, _⟩, _⟩ := h
  refine ⟨by simpa using h1, ?_⟩
  cases hd : o.dst with
  | none => simp [hd] at h2
  | some d => simp [hd] at h2; exact ⟨d, rfl, h2.1, h2.2⟩
theorem flow_one {init : List Tmp} {n : Nat} (hB : flowB ops init n = true) {i j : Nat} {o p : Oper} (hi : ops[i]? = some o) (hj : ops[j]? = some p) (h : o.dst = p.dst) : i = j := by
  unfold flowB at hB
  rw [Bool.and_eq_true] at hB
  have hn : (ops.toList.map (·.dst)).Nodup := of_decide_eq_true hB.2
  have hi' : i < ops.size := by
    rcases Nat.lt_or_ge i ops.size with q | q
    · exact q
    · rw [Array.getElem?_eq_none q] at hi; cases hi
  exact (List.getElem?_inj (l := ops.toList.map (·.dst)) (by simpa using hi') hn).1 (by simp [hi, hj, h])
theorem all_listed {init : List Tmp} {n : Nat} (hB : flowB ops init n = true) {listed : Array Bool} (hs : listed.size = ops.size) (hr : Region.ready .any ops listed = []) :
    ∀ i, i < ops.size → listed.getD i true = true := by
  intro i
  induction i using Nat.strongRecOn with
  | _ i ih =>
    intro hi
    cases hl : listed.getD i true with
    | true => rfl
    | false =>
      have hm : i ∈ Region.ready .any ops listed := mem_ready.2 ⟨hl, ops[i], by simp [hi], fun e he hb => by
        have h := flow_at hB (i := i) (o := ops[i]) (by simp [hi])
        unfold fits at h
        simp only [Bool.and_eq_true] at h
        have := Array.all_eq_true_iff_forall_mem.1 h.2 e he
        simp [hb] at this
        have q := ih e.on this (by omega)
        have hlt : e.on < listed.size := by omega
        simpa [hlt] using q⟩
      rw [hr] at hm; cases hm
theorem step_inv {Val : Tmp → Value → World → Prop} {init : List Tmp} {n : Nat} {w0 : World} {a0 : Act} (hB : flowB ops init n = true)
    (hst : ∀ t v w w', Val t v w → Below w.heap.size w w' → Val t v w') (hstep : ∀ o ∈ ops.toList, Step P Val Q o)
    {listed : Array Bool} {a : Act} {w : World} (I : Inv ops Val init n w0 a0 listed a w) {i : Nat} (hr : i ∈ Region.ready .any ops listed) :
    wpOp P ops Q i (fun a' w' => Inv ops Val init n w0 a0 (listed.setIfInBounds i true) a' w') a w := by
  obtain ⟨hun, o, ho, hall⟩ := mem_ready.1 hr
  obtain ⟨hg, d, hd, hdn, hdi⟩ := flow_dst hB ho
  have hf := flow_at hB ho
  unfold fits at hf
  simp only [Bool.and_eq_true] at hf
  have hlk : ∀ t ∈ looks o, Val t (a.tmps.getD t undef) w := by
    intro t ht
    have h := List.all_eq_true.1 hf.1.2 t ht
    rw [Bool.or_eq_true] at h
    rcases h with h | h
    · exact I.start t (by simpa using h)
    · rw [Array.any_eq_true'] at h
      obtain ⟨e, he, h⟩ := h
      rw [Bool.and_eq_true, beq_iff_eq] at h
      have hl := hall e he h.1
      cases hp : ops[e.on]? with
      | none => rw [hp] at h; simp at h
      | some p =>
        rw [hp] at h
        have hlt : e.on < listed.size := by
          rcases Nat.lt_or_ge e.on listed.size with q | q
          · exact q
          · simp [Array.getElem?_eq_none q] at hl
        exact I.vals e.on p t hp (by simpa [hlt] using hl) (by simpa using h.2)
  have hmem : o ∈ ops.toList := by
    have := Array.mem_of_getElem? ho
    simpa using this
  have hs := hstep o hmem a w hlk
  unfold wpOp
  simp only [ho]
  rw [if_pos (show Region.wanted o (yielded ops a.tmps) = true by simp [Region.wanted, hg])]
  refine .inl (Oper.wp_mono ?_ hs)
  rintro a' w' ⟨v, rfl, hb, hv⟩
  have hv := hv d hd
  have hget : ∀ t, t ≠ d → (a.put o.dst v).tmps.getD t undef = a.tmps.getD t undef := by
    intro t ht
    simp [Act.put, hd, Array.getElem?_setIfInBounds_ne (Ne.symm ht)]
  have hset : (a.put o.dst v).tmps.getD d undef = v := by
    simp [Act.put, hd, I.frame, hdn]
  refine ⟨by simpa using I.size, by simpa [Act.put, hd] using I.frame, by simpa [Act.put, hd] using I.defers, grow I.below hb, ?_, ?_, ?_⟩
  · intro t ht
    rw [hget t (fun e => hdi (e ▸ ht))]
    exact hst _ _ _ _ (I.start t ht) hb
  · intro t ht
    rw [hget t (fun e => ht i o ho (e ▸ hd))]
    exact I.old t ht
  · intro j p x hp hl hx
    by_cases hij : j = i
    · subst hij
      rw [ho] at hp; cases hp
      rw [hd] at hx; cases hx
      rw [hset]; exact hv
    · rw [hget x (fun e => hij (flow_one hB hp ho (by rw [hx, hd, e])))]
      refine hst _ _ _ _ (I.vals j p x hp ?_ hx) hb
      rwa [getD_set_ne true (Ne.symm hij)] at hl
theorem flow_any {Val : Tmp → Value → World → Prop} {init : List Tmp} {n : Nat} {w0 : World} {a0 : Act} (hB : flowB ops init n = true)
    (hst : ∀ t v w w', Val t v w → Below w.heap.size w w' → Val t v w') (hstep : ∀ o ∈ ops.toList, Step P Val Q o)
    (hend : ∀ listed a w, Inv ops Val init n w0 a0 listed a w → (∀ i, i < ops.size → listed.getD i true = true) → Q .normal a w) :
    ∀ (fuel : Nat) (listed : Array Bool) (a : Act) (w : World), Inv ops Val init n w0 a0 listed a w → listed.toList.count false ≤ fuel → wpAny P .any ops Q fuel listed a w
  | 0, listed, a, w, I, hc => by
    have hr : Region.ready .any ops listed = [] := by
      rw [List.eq_nil_iff_forall_not_mem]
      intro i hi
      have h1 := (mem_ready.1 hi).1
      have : false ∈ listed.toList := by
        rcases Nat.lt_or_ge i listed.size with q | q
        · simp [q] at h1
          rw [← h1]; simp
        · simp [Array.getElem?_eq_none q] at h1
      have := List.count_pos_iff.2 this
      omega
    exact ⟨hr, hend _ _ _ I (all_listed hB I.size hr)⟩
  | fuel + 1, listed, a, w, I, hc => by
    refine ⟨fun hr => hend _ _ _ I (all_listed hB I.size hr), fun i hi => ?_⟩
    refine wpOp_mono (fun a' w' I' => flow_any hB hst hstep hend fuel _ a' w' I' ?_) (step_inv hB hst hstep I hi)
    have h1 := (mem_ready.1 hi).1
    have q : i < listed.size := by
      rcases Nat.lt_or_ge i listed.size with q | q
      · exact q
      · simp [Array.getElem?_eq_none q] at h1
    simp [q] at h1
    rw [Array.toList_setIfInBounds, List.count_set (by simpa using q)]
    have hp : 0 < listed.toList.count false := List.count_pos_iff.2 (by rw [← h1]; simp)
    have hp' : listed.toList.count false - 1 ≤ fuel := by omega
    simpa [h1] using hp'
/-- Whatever order is drawn: at the end each place holds a thing of its kind. -/
theorem wp_region_flow {id : Nat} {a : Act} {w : World} (Val : Tmp → Value → World → Prop) (init : List Tmp) (n : Nat) (hm : P.follows .mixedOrders = true) (hB : flowB ops init n = true)
    (hst : ∀ t v w w', Val t v w → Below w.heap.size w w' → Val t v w') (hn : a.tmps.size = n) (hinit : ∀ t ∈ init, Val t (a.tmps.getD t undef) w) (hstep : ∀ o ∈ ops.toList, Step P Val Q o)
    (hend : ∀ a' w', Below w.heap.size w w' → a'.tmps.size = n → a'.defers = a.defers → (∀ t, (∀ (i : Nat) o, ops[i]? = some o → o.dst ≠ some t) → a'.tmps.getD t undef = a.tmps.getD t undef) →
      (∀ (i : Nat) o d, ops[i]? = some o → o.dst = some d → Val d (a'.tmps.getD d undef) w') → Q .normal a' w') : (Code.region id ops true).wp P Q a w := by
  have b0 : Below w.heap.size w { w with drawn := w.drawn + 1 } := ⟨rfl, rfl, rfl, Nat.le_refl _, fun _ _ => rfl⟩
  refine wp_region_any hm (flow_any (Val := Val) (init := init) (n := n) (w0 := w) (a0 := a) hB hst hstep ?_ _ _ _ _ ⟨by simp, hn, rfl, b0, fun t ht => hst _ _ _ _ (hinit t ht) b0, fun _ _ => rfl, ?_⟩ ?_)
  · intro listed a' w' I hl
    refine hend a' w' I.below I.frame I.defers I.old fun i o d hi hd => I.vals i o d hi (hl i ?_) hd
    rcases Nat.lt_or_ge i ops.size with q | q
    · exact q
    · rw [Array.getElem?_eq_none q] at hi; cases hi
  · intro i o d hi hl
    rcases Nat.lt_or_ge i ops.size with q | q
    · simp [q] at hl
    · rw [Array.getElem?_eq_none q] at hi; cases hi
  · simp
end
end Flow
end Go.Proofs.YtacclmfbkiadbaaGreat
