/-
  All signals, cycle by cycle, as functions of numbers and lists: what a cycle does to a fusion, and what it tells. No Go text is reached here. No conditions.
-/
import Derived.Test.YtpoededbmdffpaaGreatDoorSignalFace
import Derived.Test.YtpoededbmdffpaaGreatDoorSignalLoad
import Derived.Test.YtpoededbmdffpaaGreatDoorFreshMath
import Derived.Test.YtpoededbmdffpaaGreatDoorOutputMath
import Derived.Test.YtpoededbmdffpaaGreatDoorRingMath
namespace Go.Proofs.YtpoededbmdffpaaGreatDoor
set_option maxRecDepth 100000
namespace Fu
open Cf (G)
open Sg (NN Si Rw rw0 mk4)
open Rg (Nt)
open Cr (Bytes)
/-- A slot; a track; a fusion. -/
structure Sl where
  is : Bool
  l : List Int
structure Tk where
  last : Int
  has : Bool
  n : List Int
structure Fs where
  t : Nat → Tk
  s : Nat → Si
  notes : List Nt
  k : Nat
def tk0 : Tk := ⟨0, false, [0, 0, 0, 0, 0, 0, 0]⟩
def begin (c : List Int) : Fs := ⟨fun _ => tk0, fun _ => Sg.begin c, [], 0⟩
section
variable (c : List Int) (m : Fs) (y : Nat → Sl)
/-- What a track tells, and is behind it; what signals take. -/
def rj (i : Nat) : Int := Fh.jr i (m.t i).last (m.t i).has (y i).is (y i).l
def fr (i : Nat) : List Int := Fh.jf i (m.t i).last (m.t i).has (y i).is (y i).l
def tkn (i : Nat) : Tk := ⟨Fh.jl i (m.t i).last (y i).is (y i).l, Fh.jh i (m.t i).has (y i).is (y i).l, Fh.one (m.t i).n (rj m y i).toNat⟩
def raw (j i : Nat) : Rw := if i < NN c ∧ rj m y i = 0 then ⟨true, (fr m y i).getD (1 + j) 0⟩ else rw0
/-- Who is latched, and shut. -/
def lac (i j : Nat) : Bool := decide (i < NN c) && ((m.s j).ch i).st.la
def lal (i : Nat) : List Bool := (List.range 8).map (lac c m i)
def lam (i : Nat) : Int := Fx.bits (lal c m i)
def isSh (i : Nat) : Bool := decide (i < NN c) && decide (G c 16 ≤ (Fx.trues (lal c m i) : Int))
def sh : Int := mk4 (isSh c m)
/-- What a cycle does. -/
def sgn (j : Nat) : Si := Sg.nxt c (m.s j) (raw c m y j) (sh c m)
def evi (i j : Nat) : Int := Sg.evi c (m.s j) (raw c m y j) (sh c m) i
def tri (i j : Nat) : Int := Sg.tri c (m.s j) (raw c m y j) (sh c m) i
def nt (i j : Nat) : Nt := ⟨m.k, i, j, evi c m y i j - 1, tri c m y i j⟩
def ntr (i k : Nat) : List Nt := (List.range k).filterMap fun j => if evi c m y i j = 0 then none else some (nt c m y i j)
def nts (n : Nat) : List Nt := (List.range n).flatMap fun i => ntr c m y i 8
def nx : Fs := ⟨fun i => if i < NN c then tkn m y i else m.t i, fun j => if j < 8 then sgn c m y j else m.s j, m.notes ++ nts c m y (NN c), m.k + 1⟩
/-- What it tells. -/
def sta (j : Nat) : Ss.St := ⟨Sg.inm c (m.s j) (raw c m y j) (sh c m), Sg.lam c (sgn c m y j), Sg.sus c (m.s j) (raw c m y j) (sh c m), !Sg.any c (m.s j) (raw c m y j) (sh c m)⟩
def vls (j : Nat) : Int := Sg.val c (m.s j) (raw c m y j) (sh c m)
def out : Ot.Ou := ⟨(m.k : Int) % 65536, (List.range 8).map (vls c m y), (List.range 8).map (sta c m y)⟩
end
/-! What may be. -/
structure Tok (t : Tk) (k : Nat) : Prop where
  len : t.n.length = 7
  cnt : ∀ j, 0 ≤ t.n.getD j 0 ∧ t.n.getD j 0 ≤ (k : Int)
structure Ok (c : List Int) (m : Fs) : Prop where
  t : ∀ i, i < NN c → Tok (m.t i) m.k
  s : ∀ j, j < 8 → Sg.Ok c (m.s j) ∧ (m.s j).votes.length = m.k
  n : m.notes.length ≤ 32 * m.k
/-- Slots whose bytes are bytes. -/
def Yok (c : List Int) (y : Nat → Sl) : Prop := ∀ i, i < NN c → Bytes (y i).l
section
variable {c : List Int} {m : Fs} {y : Nat → Sl}
theorem getD_in {l : List Int} {k : Nat} (h : k < l.length) : l.getD k 0 ∈ l := by
  rw [List.getD_eq_getElem?_getD, List.getElem?_eq_getElem h]; simp
theorem tok0 : Tok tk0 0 := by
  refine ⟨rfl, fun j => ?_⟩
  have h : (tk0.n).getD j 0 = 0 := by
    unfold tk0
    rcases Nat.lt_or_ge j 7 with h | h
    · have : j = 0 ∨ j = 1 ∨ j = 2 ∨ j = 3 ∨ j = 4 ∨ j = 5 ∨ j = 6 := by omega
      rcases this with rfl | rfl | rfl | rfl | rfl | rfl | rfl <;> rfl
    · rw [List.getD_eq_getElem?_getD, List.getElem?_eq_none (by simpa using h)]; rfl
  rw [h]; exact ⟨Int.le_refl _, Int.le_refl _⟩
theorem ok_begin (h : Cf.Right c) : Ok c (begin c) :=
  ⟨fun _ _ => tok0, fun _ _ => ⟨Sg.ok_begin h, rfl⟩, by simp [begin]⟩
theorem tok_next {t : Tk} {k r : Nat} (h : Tok t k) (last : Int) (has : Bool) : Tok ⟨last, has, Fh.one t.n r⟩ (k + 1) := by
  refine ⟨by unfold Fh.one; rw [List.length_set]; exact h.len, fun j => ?_⟩
  show 0 ≤ (Fh.one t.n r).getD j 0 ∧ (Fh.one t.n r).getD j 0 ≤ ((k + 1 : Nat) : Int)
  have hj := h.cnt j
  have hr := h.cnt r
  unfold Fh.one
  rw [List.getD_eq_getElem?_getD] at hj ⊢
  by_cases e : r = j
  · subst e
    by_cases hl : r < t.n.length
    · rw [List.getElem?_set_self hl]
      simp only [Option.getD_some]
      omega
    · rw [List.getElem?_eq_none (by rw [List.length_set]; omega)]
      simp
      omega
  · rw [List.getElem?_set_ne e]
    omega
/-- A mask of four, of whom it has. -/
theorem has_mk4 (f : Nat → Bool) {k : Nat} (hk : k < 4) : Fx.has (mk4 f) (k : Int) = f k := by
  have e : ((Fx.bitsN [f 0, f 1, f 2, f 3] : Nat) : Int) = mk4 f := by
    unfold mk4
    cases f 0 <;> cases f 1 <;> cases f 2 <;> cases f 3 <;> rfl
  rw [← e, Fx.has_bitsN _ (by simp) _ (by omega)]
  have : k = 0 ∨ k = 1 ∨ k = 2 ∨ k = 3 := by omega
  rcases this with rfl | rfl | rfl | rfl <;> rfl
theorem sh_bd : 0 ≤ sh c m ∧ sh c m ≤ 15 := Sg.mk4_bd _
theorem lal_len (i : Nat) : (lal c m i).length = 8 := by unfold lal; simp
theorem count_lam (i : Nat) : Fx.count (lam c m i) = (Fx.trues (lal c m i) : Int) := by
  have h := lal_len (c := c) (m := m) i
  unfold lam Fx.bits
  rw [if_pos (by omega), Fx.count_bitsN _ (by omega)]
/-- What signals take may be. -/
theorem fr_in (hy : Yok c y) {i : Nat} (hi : i < NN c) (h4 : NN c ≤ 4) (h : rj m y i = 0) : (fr m y i).length = 9 ∧ ∀ j, j < 9 → -2147483648 ≤ (fr m y i).getD j 0 ∧ (fr m y i).getD j 0 ≤ 2147483647 := by
  have hr : Fm.rej (i : Int) (y i).is (y i).l = 0 := by
    by_cases q : Fm.rej (i : Int) (y i).is (y i).l = 0
    · exact q
    · unfold rj at h
      rw [Fh.jr_no q] at h
      exact absurd h q
  have hf : fr m y i = Fm.fseq (y i).l :: Fm.fvals (y i).l := by
    unfold fr Fh.jf
    unfold rj at h
    rw [if_pos h, Fm.dec_yes hr]
  obtain ⟨b1, b2, -⟩ := Fm.back hr ((Fm.chan_iff _).2 ⟨by omega, by omega⟩) (hy i hi)
  obtain ⟨r1, r2⟩ := (Fm.right_iff _ _).1 b1
  rw [hf]
  refine ⟨by simp [b2], fun j hj => ?_⟩
  cases j with
  | zero =>
    have := (Wd.in2_iff _).1 r2
    simp only [List.getD_cons_zero]
    omega
  | succ j =>
    rw [List.getD_cons_succ]
    have := List.all_eq_true.1 r1 _ (getD_in (l := Fm.fvals (y i).l) (k := j) (by omega))
    have := (Wd.in4_iff _).1 this
    omega
theorem raw_ok (hR : Cf.Right c) (hy : Yok c y) (j : Nat) (hj : j < 8) : Sg.Rok c (raw c m y j) := by
  intro i hi his
  unfold raw at his ⊢
  split at his
  · rename_i h
    rw [if_pos h]
    have h4 : NN c ≤ 4 := by have := Sg.NN_34 hR; omega
    exact (fr_in hy hi h4 h.2).2 (1 + j) (by omega)
  · cases his
theorem okr_any (hR : Cf.Right c) (hy : Yok c y) (j : Nat) (hj : j < 8) : Sg.okr c (raw c m y j) (sh c m) := ⟨raw_ok hR hy j hj, sh_bd.1, sh_bd.2⟩
theorem ntr_len (i k : Nat) : (ntr c m y i k).length ≤ k := by
  unfold ntr
  have := List.length_filterMap_le (fun j => if evi c m y i j = 0 then none else some (nt c m y i j)) (List.range k)
  rwa [List.length_range] at this
theorem nts_next (n : Nat) : nts c m y (n + 1) = nts c m y n ++ ntr c m y n 8 := by
  unfold nts
  rw [List.range_succ, List.flatMap_append]
  simp
theorem nts_len (n : Nat) : (nts c m y n).length ≤ 8 * n := by
  induction n with
  | zero => simp [nts]
  | succ n ih =>
    rw [nts_next, List.length_append]
    have := ntr_len (c := c) (m := m) (y := y) n 8
    omega
theorem ok_nx (hR : Cf.Right c) (hy : Yok c y) (h : Ok c m) : Ok c (nx c m y) := by
  refine ⟨fun i hi => ?_, fun j hj => ?_, ?_⟩
  · show Tok (if i < NN c then tkn m y i else m.t i) (m.k + 1)
    rw [if_pos hi]
    exact tok_next (h.t i hi) _ _
  · show Sg.Ok c (if j < 8 then sgn c m y j else m.s j) ∧ (if j < 8 then sgn c m y j else m.s j).votes.length = m.k + 1
    rw [if_pos hj]
    obtain ⟨h1, h2⟩ := h.s j hj
    refine ⟨Sg.ok_nxt hR (raw_ok hR hy j hj) h1, ?_⟩
    show ((m.s j).votes ++ [_]).length = m.k + 1
    rw [List.length_append, h2]; rfl
  · show (m.notes ++ nts c m y (NN c)).length ≤ 32 * (m.k + 1)
    rw [List.length_append]
    have h1 := h.n
    have h2 := nts_len (c := c) (m := m) (y := y) (NN c)
    have := Sg.NN_34 hR
    omega
end
/-! What a signal tells may be told. -/
section
variable {c : List Int} {s : Si} {r : Nat → Rw} {sh : Int}
theorem trp_bd (i : Nat) : 0 ≤ Sg.trp c s r sh i ∧ Sg.trp c s r sh i ≤ 63 := by
  unfold Sg.trp Sg.ahd Jp.trips
  repeat' split
  all_goals omega
theorem tri_bd (i : Nat) : 0 ≤ Sg.tri c s r sh i ∧ Sg.tri c s r sh i ≤ 63 := by
  unfold Sg.tri
  have := trp_bd (c := c) (s := s) (r := r) (sh := sh) i
  split <;> omega
theorem evi_bd (i : Nat) : 0 ≤ Sg.evi c s r sh i ∧ Sg.evi c s r sh i ≤ 3 := by
  unfold Sg.evi Sg.wha Lc.wha
  repeat' split
  all_goals omega
theorem inm_bit {i : Nat} (hi : i < 4) : Fx.has (Sg.inm c s r sh) (i : Int) = (decide (i < NN c) && Sg.isin c s r sh i) := has_mk4 _ hi
theorem lam_bit {i : Nat} (hi : i < 4) : Fx.has (Sg.lam c s) (i : Int) = (decide (i < NN c) && (s.ch i).st.la) := has_mk4 _ hi
theorem inm_zero (hR : Cf.Right c) : (Sg.inm c s r sh = 0) ↔ Sg.any c s r sh = false := by
  have h4 : NN c ≤ 4 := by have := Sg.NN_34 hR; omega
  constructor
  · intro h
    rw [Bool.eq_false_iff]
    intro ha
    obtain ⟨i, hi⟩ := List.exists_mem_of_ne_nil _ (Sg.any_iff.1 ha)
    obtain ⟨h1, h2⟩ := Sg.inl_iff.1 hi
    have := inm_bit (c := c) (s := s) (r := r) (sh := sh) (i := i) (by omega)
    rw [h, Sg.has_zero, h2, decide_eq_true h1] at this
    cases this
  · intro ha
    have h0 : ∀ i, (decide (i < NN c) && Sg.isin c s r sh i) = false := by
      intro i
      rw [Bool.eq_false_iff]
      intro q
      rw [Bool.and_eq_true, decide_eq_true_eq] at q
      have : Sg.any c s r sh = true := Sg.any_iff.2 (fun e => by
        have := Sg.inl_iff.2 q
        rw [e] at this; cases this)
      rw [ha] at this; cases this
    unfold Sg.inm mk4
    simp [h0]
theorem sus_lt {l : List Int} {b : Int} (h : 0 ≤ Pa.sus l b) : Pa.sus l b < (l.length : Int) := by
  have hb := Pa.last_bd b (Pa.res l) (Pa.res l).length
  have hl : (Pa.res l).length ≤ l.length := by
    unfold Pa.res
    split
    · unfold Pa.resTo; simp
    · simp
  unfold Pa.sus Pa.susOf at h ⊢
  split at h
  · omega
  · rename_i q
    rw [if_neg q]
    split at h
    · rename_i q2
      rw [if_pos q2]
      omega
    · omega
theorem sus_bd (hR : Cf.Right c) : Sg.sus c s r sh = -1 ∨ Fx.has (Sg.inm c s r sh) (Sg.sus c s r sh) = true := by
  have h4 : NN c ≤ 4 := by have := Sg.NN_34 hR; omega
  unfold Sg.sus
  split
  · exact Or.inl rfl
  · rename_i h
    right
    have hl : (Pa.sus (Sg.evs c s r sh) (G c 9)).toNat < (Sg.inl c s r sh).length := by
      have := sus_lt (l := Sg.evs c s r sh) (b := G c 9) (by omega)
      have e : (Sg.evs c s r sh).length = (Sg.inl c s r sh).length := by unfold Sg.evs; rw [List.length_map]
      omega
    obtain ⟨h1, h2⟩ := Sg.inl_iff.1 (Sg.getD_mem hl)
    rw [inm_bit (by omega), h2, decide_eq_true h1]; rfl
end
section
variable {c : List Int} {m : Fs} {y : Nat → Sl}
theorem sta_rgt (hR : Cf.Right c) (j : Nat) : Ss.rgt (sta c m y j) = true := by
  have h1 := Sg.mk4_bd (fun i => decide (i < NN c) && Sg.isin c (m.s j) (raw c m y j) (sh c m) i)
  have h2 := Sg.mk4_bd (fun i => decide (i < NN c) && ((sgn c m y j).ch i).st.la)
  have h3 := inm_zero (s := m.s j) (r := raw c m y j) (sh := sh c m) hR
  have h4 := sus_bd (s := m.s j) (r := raw c m y j) (sh := sh c m) hR
  unfold Ss.rgt
  rw [Bool.and_eq_true, Bool.and_eq_true, Bool.and_eq_true, Ss.mk_iff, Ss.mk_iff, Bool.or_eq_true]
  refine ⟨⟨⟨?_, ?_⟩, ?_⟩, ?_⟩
  · show 0 ≤ Sg.inm c (m.s j) (raw c m y j) (sh c m) ∧ _
    unfold Sg.inm; exact ⟨h1.1, Int.lt_of_le_of_lt h1.2 (by decide)⟩
  · show 0 ≤ Sg.lam c (sgn c m y j) ∧ _
    unfold Sg.lam; exact ⟨h2.1, Int.lt_of_le_of_lt h2.2 (by decide)⟩
  · show ((!Sg.any c (m.s j) (raw c m y j) (sh c m)) == (Sg.inm c (m.s j) (raw c m y j) (sh c m) == 0)) = true
    cases ha : Sg.any c (m.s j) (raw c m y j) (sh c m)
    · rw [h3.2 ha]; rfl
    · have : (Sg.inm c (m.s j) (raw c m y j) (sh c m) == 0) = false := by
        rw [Bool.eq_false_iff]
        intro q
        have := h3.1 (by simpa using q)
        rw [ha] at this; cases this
      rw [this]; rfl
  · rcases h4 with q | q
    · left; show (Sg.sus _ _ _ _ == -1) = true; rw [q]; rfl
    · exact Or.inr q
theorem vls_in (h : Ok c m) (j : Nat) (hj : j < 8) : G c 1 ≤ vls c m y j ∧ vls c m y j ≤ G c 2 := Sg.val_in (h.s j hj).1
theorem out_ok : Ot.Ok (out c m y) := ⟨by simp [out], by simp [out]⟩
theorem out_rgt (hR : Cf.Right c) (h : Ok c m) : Ot.orgt (out c m y) = true := by
  rw [Ot.orgt_iff]
  refine ⟨?_, ?_, ?_⟩
  · rw [Wd.in2_iff]
    show 0 ≤ (m.k : Int) % 65536 ∧ (m.k : Int) % 65536 ≤ 65535
    omega
  · rw [List.all_eq_true]
    intro v hv
    obtain ⟨j, hj, rfl⟩ := List.mem_map.1 hv
    have h1 := vls_in (y := y) h j (List.mem_range.1 hj)
    rw [Wd.in4_iff]
    obtain ⟨-, l1, l2, -⟩ := hR
    omega
  · rw [List.all_eq_true]
    intro v hv
    obtain ⟨j, -, rfl⟩ := List.mem_map.1 hv
    exact sta_rgt hR j
/-- Who is shut is not in. -/
theorem shut_out {i j : Nat} (hi : i < 4) (h : isSh c m i = true) : Sg.isin c (m.s j) (raw c m y j) (sh c m) i = false := by
  rw [Bool.eq_false_iff]
  intro q
  have := (Sg.isin_iff.1 q).2.2.2.1
  unfold sh at this
  rw [has_mk4 _ hi, h] at this
  cases this
end
end Fu
end Go.Proofs.YtpoededbmdffpaaGreatDoor
