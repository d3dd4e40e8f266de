/-
  One signal, cycle by cycle, as functions of numbers and lists: what a cycle does to it, in the document's order. No Go text is reached here. No conditions.
-/
import Derived.Test.YtpoededbmdffpaaGreatDoorStuckMath
import Derived.Test.YtpoededbmdffpaaGreatDoorEqualMath
import Derived.Test.YtpoededbmdffpaaGreatDoorVoteMath
import Derived.Test.YtpoededbmdffpaaGreatDoorParityMath
import Derived.Test.YtpoededbmdffpaaGreatDoorLatchMath
import Derived.Test.YtpoededbmdffpaaGreatDoorConfigMath
namespace Go.Proofs.YtpoededbmdffpaaGreatDoor
set_option maxRecDepth 100000
namespace Sg
open Cf (G)
/-- A raw value, or none. -/
structure Rw where
  is : Bool
  n : Int
def rw0 : Rw := ⟨false, 0⟩
/-- What a channel has: the value that came last, whether one did, how often in a row, the level, the offset, the latch. -/
structure Ch where
  last : Int
  has : Bool
  k : Nat
  lev : Int
  off : Int
  st : Lc.St
def ch0 : Ch := ⟨0, false, 0, 0, 0, Lc.zer⟩
/-- A signal: its value, all votes so far, its channels. -/
structure Si where
  val : Int
  votes : List Int
  ch : Nat → Ch
def begin (c : List Int) : Si := ⟨G c 3, [], fun _ => ch0⟩
/-! The configuration's numbers. -/
def NN (c : List Int) : Nat := (G c 0).toNat
def PW (c : List Int) : Nat := (G c 6).toNat - 1
section
variable (c : List Int) (s : Si) (r : Nat → Rw) (sh : Int)
/-- How often a value came in a row, with this one. -/
def kq (x : Ch) (n : Int) : Nat := if n = x.last then x.k + 1 else 1
def outr (n : Int) : Bool := Jp.out (G c 1) (G c 2) n
def spk (x : Ch) (n : Int) : Bool := Jp.far (G c 4) x.last x.has n
def frz (x : Ch) (n : Int) : Bool := decide (PW c + 1 ≤ kq x n) && Sk.moved (PW c) (G c 5) (Sk.lastN (PW c) s.votes)
/-- Trips ahead of the vote. -/
def ahd (i : Nat) : Int := if (r i).is = true then Jp.trips (G c 1) (G c 2) (G c 4) (s.ch i).last (s.ch i).has (r i).n + (if frz c s (s.ch i) (r i).n = true then 8 else 0) else 1
/-- Who is in. -/
def isin (i : Nat) : Bool := (r i).is && !outr c (r i).n && !spk c (s.ch i) (r i).n && !Fx.has sh i && !(s.ch i).st.la
def inl : List Nat := (List.range (NN c)).filter fun i => isin c s r sh i
def own : List Int := (inl c s r sh).map fun i => (r i).n
def evs : List Int := (inl c s r sh).map fun i => (r i).n - (s.ch i).off
def wts : List Int := (inl c s r sh).map fun i => G c (17 + i)
def any : Bool := !(inl c s r sh).isEmpty
/-- The level, and whether it is over. -/
def lev (i : Nat) : Int := if ((r i).is && any c s r sh) = true then Dr.nx (G c 8) (s.ch i).lev ((r i).n - Od.midv (own c s r sh)) else (s.ch i).lev
def drf (i : Nat) : Bool := (r i).is && any c s r sh && Dr.ov (G c 7) (lev c s r sh i)
/-- The vote. -/
def val : Int := if Vo.votb (G c 1) (G c 2) (G c 12) (evs c s r sh) (wts c s r sh) = true then Vo.votv (G c 1) (G c 2) (G c 12) (evs c s r sh) (wts c s r sh) else s.val
/-- Miscompare. -/
def mis (i : Nat) : Bool := (r i).is && (decide (G c 9 < (r i).n - (s.ch i).off - val c s r sh) || decide (G c 9 < val c s r sh - ((r i).n - (s.ch i).off)))
def trp (i : Nat) : Int := ahd c s r i + (if drf c s r sh i = true then 16 else 0) + (if mis c s r sh i = true then 32 else 0)
def sus : Int := if Pa.sus (evs c s r sh) (G c 9) < 0 then -1 else ((inl c s r sh).getD (Pa.sus (evs c s r sh) (G c 9)).toNat 0 : Nat)
/-- The trim, the latch. -/
def off (i : Nat) : Int := if (r i).is = true then Ql.nx (G c 10) (G c 11) (s.ch i).off (r i).n (val c s r sh) else (s.ch i).off
def tr (i : Nat) : Bool := trp c s r sh i != 0
def lat (i : Nat) : Lc.St := Lc.ste (G c 13) (G c 14) (G c 15) (s.ch i).st (tr c s r sh i)
def wha (i : Nat) : Int := Lc.wha (G c 13) (G c 14) (G c 15) (s.ch i).st (tr c s r sh i)
/-- The signal behind the cycle. -/
def nxt : Si := ⟨val c s r sh, s.votes ++ [val c s r sh], fun i =>
  ⟨if (r i).is = true then (r i).n else 0, (r i).is, if (r i).is = true then kq (s.ch i) (r i).n else 0, lev c s r sh i, off c s r sh i, lat c s r sh i⟩⟩
end
/-! What may be. -/
structure Okc (c : List Int) (x : Ch) : Prop where
  last : -2147483648 ≤ x.last ∧ x.last ≤ 2147483647
  lev : -4294967296 ≤ x.lev ∧ x.lev ≤ 4294967296
  off : -(G c 10) ≤ x.off ∧ x.off ≤ G c 10
  st : Lc.Fin (G c 13) (G c 14) (G c 15) x.st
structure Ok (c : List Int) (s : Si) : Prop where
  val : G c 1 ≤ s.val ∧ s.val ≤ G c 2
  votes : ∀ v ∈ s.votes, G c 1 ≤ v ∧ v ≤ G c 2
  ch : ∀ i, i < NN c → Okc c (s.ch i)
/-- Raw values that may be. -/
def Rok (c : List Int) (r : Nat → Rw) : Prop := ∀ i, i < NN c → (r i).is = true → -2147483648 ≤ (r i).n ∧ (r i).n ≤ 2147483647
theorem right_latch {c : List Int} (h : Cf.Right c) : Lc.Rt (G c 13) (G c 14) (G c 15) := by
  obtain ⟨-, -, -, -, -, -, -, -, -, -, -, -, -, h1, h2, h3, -⟩ := h
  exact ⟨h1.1, h1.2, h2.1, h2.2, h3.1, h3.2⟩
theorem ok_begin {c : List Int} (h : Cf.Right c) : Ok c (begin c) := by
  have hl := right_latch h
  obtain ⟨-, -, -, h3, -, -, -, -, -, -, h10, -⟩ := h
  exact ⟨h3, fun v hv => by (cases hv), fun i _ => ⟨by simp [begin, ch0], by simp [begin, ch0], by simp [begin, ch0]; omega, Lc.fin_zer hl⟩⟩
section
variable {c : List Int} {s : Si} {r : Nat → Rw} {sh : Int}
theorem NN_34 (h : Cf.Right c) : NN c = 3 ∨ NN c = 4 := by
  obtain ⟨⟨h0, h1⟩, -⟩ := h
  unfold NN; omega
theorem NN_eq (h : Cf.Right c) : ((NN c : Nat) : Int) = G c 0 := by
  obtain ⟨⟨h0, h1⟩, -⟩ := h
  unfold NN; omega
theorem inl_iff {i : Nat} : i ∈ inl c s r sh ↔ i < NN c ∧ isin c s r sh i = true := by unfold inl; simp
theorem inl_len (h : Cf.Right c) : (inl c s r sh).length ≤ 4 := by
  unfold inl
  have h1 := List.length_filter_le (fun i => isin c s r sh i) (List.range (NN c))
  have := NN_34 h
  rw [List.length_range] at h1
  omega
theorem isin_iff {i : Nat} : isin c s r sh i = true ↔ (r i).is = true ∧ outr c (r i).n = false ∧ spk c (s.ch i) (r i).n = false ∧ Fx.has sh i = false ∧ (s.ch i).st.la = false := by
  unfold isin; simp [and_assoc]
theorem out_no {n : Int} (h : outr c n = false) : G c 1 ≤ n ∧ n ≤ G c 2 := by
  unfold outr Jp.out at h; simp at h; omega
theorem map_getD {f : Nat → Int} {l : List Nat} {k : Nat} (h : k < l.length) : (l.map f).getD k 0 = f (l.getD k 0) := by
  simp [List.getD_eq_getElem?_getD, h]
theorem getD_mem {l : List Nat} {k : Nat} (h : k < l.length) : l.getD k 0 ∈ l := by
  rw [List.getD_eq_getElem?_getD, List.getElem?_eq_getElem h]; simp
/-- The numbers of those that are in. -/
theorem in_nums (hR : Cf.Right c) (hr : Rok c r) (hO : Ok c s) {i : Nat} (hi : i ∈ inl c s r sh) :
    (G c 1 ≤ (r i).n ∧ (r i).n ≤ G c 2) ∧ (-2147483648 ≤ (r i).n ∧ (r i).n ≤ 2147483647) ∧ ((r i).n - G c 10 ≤ (r i).n - (s.ch i).off ∧ (r i).n - (s.ch i).off ≤ (r i).n + G c 10) ∧ -4294967296 ≤ (r i).n - (s.ch i).off ∧ (r i).n - (s.ch i).off ≤ 4294967296 := by
  obtain ⟨h1, h2⟩ := inl_iff.1 hi
  obtain ⟨k1, k2, -⟩ := isin_iff.1 h2
  have h3 := out_no k2
  have h4 := (hO.ch i h1).off
  have h5 := hr i h1 k1
  obtain ⟨-, -, -, -, -, -, -, -, -, -, h10, -⟩ := hR
  refine ⟨h3, h5, ?_, ?_⟩ <;> omega
theorem wt_at (hR : Cf.Right c) {i : Nat} (hi : i < NN c) : 1 ≤ G c (17 + i) ∧ G c (17 + i) ≤ 16 := by
  have hN := NN_34 hR
  have h0 : NN c = (G c 0).toNat := rfl
  obtain ⟨⟨a0, a1⟩, -, -, -, -, -, -, -, -, -, -, -, -, -, -, -, -, hw, -⟩ := hR
  unfold Cf.own at hw
  rcases hN with h | h
  · rw [if_neg (by omega)] at hw
    simp at hw
    have : i = 0 ∨ i = 1 ∨ i = 2 := by omega
    rcases this with rfl | rfl | rfl
    · exact hw.1
    · exact hw.2.1
    · exact hw.2.2
  · rw [if_pos (by omega)] at hw
    simp at hw
    have : i = 0 ∨ i = 1 ∨ i = 2 ∨ i = 3 := by omega
    rcases this with rfl | rfl | rfl | rfl
    · exact hw.1
    · exact hw.2.1
    · exact hw.2.2.1
    · exact hw.2.2.2
theorem any_iff : any c s r sh = true ↔ inl c s r sh ≠ [] := by unfold any; simp
theorem own_ok (hR : Cf.Right c) (hr : Rok c r) (hO : Ok c s) : Od.ok (own c s r sh) = true := by
  refine Vo.ok_of (by have := inl_len (s := s) (r := r) (sh := sh) hR; unfold own; rw [List.length_map]; omega) fun k hk => ?_
  unfold own at hk ⊢
  rw [List.length_map] at hk
  rw [map_getD hk]
  have := (in_nums hR hr hO (getD_mem hk)).2.1
  omega
theorem evs_ok (hR : Cf.Right c) (hr : Rok c r) (hO : Ok c s) : Od.ok (evs c s r sh) = true := by
  refine Vo.ok_of (by have := inl_len (s := s) (r := r) (sh := sh) hR; unfold evs; rw [List.length_map]; omega) fun k hk => ?_
  unfold evs at hk ⊢
  rw [List.length_map] at hk
  rw [map_getD hk]
  exact (in_nums hR hr hO (getD_mem hk)).2.2.2
theorem rmay_c (hR : Cf.Right c) : Vo.rmay (G c 1) (G c 2) (G c 12) = true := by
  obtain ⟨-, h1, h2, -, -, -, -, -, -, -, -, -, h12, -⟩ := hR
  exact (Vo.rmay_iff _ _ _).2 ⟨h1, h2, h12.1, h12.2⟩
/-- There is a vote just if any is in. -/
theorem votb_any (hR : Cf.Right c) (hr : Rok c r) (hO : Ok c s) : Vo.votb (G c 1) (G c 2) (G c 12) (evs c s r sh) (wts c s r sh) = any c s r sh := by
  have hl := inl_len (s := s) (r := r) (sh := sh) hR
  cases ha : any c s r sh
  · have h0 : inl c s r sh = [] := by
      unfold any at ha; simpa using ha
    rw [Bool.eq_false_iff]
    intro h
    have := (Vo.midb_iff.1 (Vo.votb_iff.1 h).1).2.1
    unfold evs at this; rw [h0] at this; simp at this
  · have h0 := any_iff.1 ha
    have h1 : 1 ≤ (inl c s r sh).length := by
      cases e : inl c s r sh with
      | nil => exact absurd e h0
      | cons a l => simp
    refine Vo.votb_iff.2 ⟨Od.midb_yes (evs_ok hR hr hO) (by unfold evs; rw [List.length_map]; exact h1) (by unfold evs; rw [List.length_map]; exact hl), rmay_c hR, (Vo.fits_iff _ _).2 ⟨by unfold evs wts; simp, Vo.okk_of fun k hk => ?_⟩⟩
    unfold evs at hk
    rw [List.length_map] at hk
    unfold evs wts
    rw [map_getD hk, map_getD hk]
    exact (Vo.okp_iff _ _).2 ⟨(in_nums hR hr hO (getD_mem hk)).2.2.2, wt_at hR (inl_iff.1 (getD_mem hk)).1⟩
theorem val_in (hO : Ok c s) : G c 1 ≤ val c s r sh ∧ val c s r sh ≤ G c 2 := by
  unfold val
  split
  · rename_i h; exact Vo.vote_in h
  · exact hO.val
theorem ok_nxt (hR : Cf.Right c) (hr : Rok c r) (hO : Ok c s) : Ok c (nxt c s r sh) := by
  have hv := val_in (r := r) (sh := sh) hO
  have hl := right_latch hR
  refine ⟨hv, fun v h => ?_, fun i hi => ?_⟩
  · rcases List.mem_append.1 h with q | q
    · exact hO.votes v q
    · rw [List.mem_singleton.1 q]; exact hv
  · have o := hO.ch i hi
    refine ⟨?_, ?_, ?_, Lc.fin_ste hl o.st _⟩
    · show _ ∧ _
      simp only [nxt]
      split
      · rename_i h; exact hr i hi h
      · omega
    · simp only [nxt, lev]
      obtain ⟨-, -, -, -, -, -, -, -, h8, -⟩ := hR
      split
      · exact Dr.nx_level o.lev h8.1 h8.2
      · exact o.lev
    · simp only [nxt, off]
      obtain ⟨-, -, -, -, -, -, -, -, -, -, h10, -⟩ := hR
      split
      · exact Ql.nx_bd _ _ _ h10.1 o.off
      · exact o.off
end
end Sg
end Go.Proofs.YtpoededbmdffpaaGreatDoor
