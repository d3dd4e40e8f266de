/-
  What is told of a signal, as mathematics: whether a status may be, its word, the status of a word, its mode, its text. No function of the program is walked here. No conditions.
-/
import Derived.Test.YtpgcoagjlkdmbaaFixMath
import Derived.Lib.Join
namespace Go.Proofs.Ytpgcoagjlkdmbaa
set_option maxRecDepth 100000
open Go.RowKit
namespace Ss
open Fx

structure St where
  i : Int
  l : Int
  s : Int
  f : Bool

/-- A mask of channels? -/
def mk (n : Int) : Bool := decide (0 ≤ n ∧ n < 16)
def rgt (s : St) : Bool := mk s.i && mk s.l && (s.f == (s.i == 0)) && (s.s == -1 || has s.i s.s)
def sw (s : Int) : Int := if s = -1 then 7 else s
def fw (f : Bool) : Int := if f then 2048 else 0
def wrd (s : St) : Int := s.i + s.l * 16 + sw s.s * 256 + fw s.f
def wdv (s : St) : Int := if rgt s then wrd s else 0
def wde (s : St) : Int := if rgt s then 0 else 1
def zer : St := ⟨0, 0, 0, false⟩
def sp (q : Int) : Int := if q = 7 then -1 else q
def parts (n : Int) : St := ⟨n.tmod 16, (n.tmod 256).tdiv 16, sp ((n.tmod 2048).tdiv 256), n.tdiv 2048 == 1⟩
def rparts (n : Int) : St := ⟨n.tmod 16, (n.tdiv 16).tmod 16, sp ((n.tdiv 256).tmod 8), decide (2048 ≤ n)⟩
/-- Is a number the word of what its parts tell? -/
def isw (n : Int) : Bool := rgt (parts n) && (wrd (parts n) == n)
def prs (n : Int) : St := if isw n then parts n else zer
def pre (n : Int) : Int := if isw n then 0 else 3
def nms : List (List UInt8) := [[104, 111, 108, 100], [115, 105, 110, 103, 108, 101], [100, 117, 112, 108, 101, 120], [116, 114, 105, 112, 108, 101], [113, 117, 97, 100]]
def nm (k : Nat) : List UInt8 := nms.getD k []
def md (m : Int) : List UInt8 := nm (count m).toNat
def mds (s : St) : List UInt8 := if rgt s then md s.i else []
/-- The channels of a mask, of the first k. -/
def tx (m : Int) (k : Nat) : List UInt8 := ((List.range k).filter fun i : Nat => has m (i : Int)).map fun i => UInt8.ofNat (48 + i)
def chn (m : Int) : List UInt8 := if tx m 4 = [] then [45] else tx m 4
/-- The mask of the suspect. -/
def sm2 (s : Int) : Int := if s = -1 then 0 else 2 ^ s.toNat
def rsus (s : Int) : List UInt8 := if 0 ≤ s then [UInt8.ofNat (48 + s.toNat)] else [45]
def txs (s : St) : List UInt8 :=
  if rgt s then Lib.join [[105, 110], chn s.i, [108, 97, 116, 99, 104, 101, 100], chn s.l, [115, 117, 115, 112, 101, 99, 116], chn (sm2 s.s), md s.i] [32] else []
def rtx (s : St) : List UInt8 :=
  [105, 110, 32] ++ chn s.i ++ [32, 108, 97, 116, 99, 104, 101, 100, 32] ++ chn s.l ++ [32, 115, 117, 115, 112, 101, 99, 116, 32] ++ rsus s.s ++ [32] ++ md s.i

theorem mk_iff (n : Int) : mk n = true ↔ 0 ≤ n ∧ n < 16 := by unfold mk; simp
theorem sixteen {n : Int} (h : mk n = true) : n ∈ (List.range 16).map (fun k : Nat => (k : Int)) := by
  have := (mk_iff n).1 h
  exact List.mem_map.2 ⟨n.toNat, List.mem_range.2 (by omega), by omega⟩
theorem tab_has : ((List.range 16).all fun m => (List.range 16).all fun i => !has (m : Int) (i : Int) || decide (i < 4)) = true := by decide +kernel
theorem has_lt {m i : Int} (h : mk m = true) (hh : has m i = true) : 0 ≤ i ∧ i < 4 := by
  have hm := (mk_iff m).1 h
  by_cases hi : 0 ≤ m ∧ m < 65536 ∧ 0 ≤ i ∧ i < 16
  · have := List.all_eq_true.1 (List.all_eq_true.1 tab_has m.toNat (List.mem_range.2 (by omega))) i.toNat (List.mem_range.2 (by omega))
    rw [show ((m.toNat : Nat) : Int) = m by omega, show ((i.toNat : Nat) : Int) = i by omega, hh] at this
    simp at this
    omega
  · rw [has_out m i hi] at hh; cases hh
theorem rgt_bd {s : St} (h : rgt s = true) : (0 ≤ s.i ∧ s.i < 16) ∧ (0 ≤ s.l ∧ s.l < 16) ∧ (-1 ≤ s.s ∧ s.s < 4) ∧ s.f = (s.i == 0) ∧ (s.s = -1 ∨ has s.i s.s = true) := by
  unfold rgt at h
  simp only [Bool.and_eq_true, Bool.or_eq_true] at h
  obtain ⟨⟨⟨h1, h2⟩, h3⟩, h4⟩ := h
  have e3 : s.f = (s.i == 0) := by simpa using h3
  have e4 : s.s = -1 ∨ has s.i s.s = true := by simpa using h4
  refine ⟨(mk_iff _).1 h1, (mk_iff _).1 h2, ?_, e3, e4⟩
  rcases e4 with e | e
  · omega
  · have := has_lt h1 e; omega
theorem wrd_bd {s : St} (h : rgt s = true) : 0 ≤ wrd s ∧ wrd s < 4096 := by
  obtain ⟨a, b, c, _, _⟩ := rgt_bd h
  unfold wrd sw fw
  split <;> split <;> omega
theorem isw_bd {n : Int} (h : isw n = true) : 0 ≤ n ∧ n < 4096 := by
  unfold isw at h
  simp only [Bool.and_eq_true, beq_iff_eq] at h
  have := wrd_bd h.1
  omega
theorem parts_eq {n : Int} (h0 : 0 ≤ n) (h1 : n < 4096) : rparts n = parts n := by
  unfold rparts parts
  have a : (n.tdiv 16).tmod 16 = (n.tmod 256).tdiv 16 := by
    rw [Int.tdiv_eq_ediv_of_nonneg h0, Int.tmod_eq_emod_of_nonneg (by omega), Int.tmod_eq_emod_of_nonneg h0, Int.tdiv_eq_ediv_of_nonneg (by omega)]
    omega
  have b : (n.tdiv 256).tmod 8 = (n.tmod 2048).tdiv 256 := by
    rw [Int.tdiv_eq_ediv_of_nonneg h0, Int.tmod_eq_emod_of_nonneg (by omega), Int.tmod_eq_emod_of_nonneg h0, Int.tdiv_eq_ediv_of_nonneg (by omega)]
    omega
  have c : decide (2048 ≤ n) = (n.tdiv 2048 == 1) := by
    rw [Int.tdiv_eq_ediv_of_nonneg h0, Bool.eq_iff_iff]
    simp
    omega
  rw [a, b, c]
/-- A status that may be is that of its word. -/
theorem back {s : St} (h : rgt s = true) : parts (wrd s) = s := by
  have hb := wrd_bd h
  obtain ⟨a, b, c, d, e⟩ := rgt_bd h
  unfold parts
  obtain ⟨i, l, q, f⟩ := s
  simp only at *
  have e1 : (wrd ⟨i, l, q, f⟩).tmod 16 = i := by
    rw [Int.tmod_eq_emod_of_nonneg hb.1]
    unfold wrd sw fw; simp only
    split <;> split <;> omega
  have e2 : ((wrd ⟨i, l, q, f⟩).tmod 256).tdiv 16 = l := by
    rw [Int.tmod_eq_emod_of_nonneg hb.1, Int.tdiv_eq_ediv_of_nonneg (by omega)]
    unfold wrd sw fw; simp only
    split <;> split <;> omega
  have e3 : sp (((wrd ⟨i, l, q, f⟩).tmod 2048).tdiv 256) = q := by
    rw [Int.tmod_eq_emod_of_nonneg hb.1, Int.tdiv_eq_ediv_of_nonneg (by omega)]
    unfold sp wrd sw fw; simp only
    split <;> split <;> split <;> omega
  have e4 : ((wrd ⟨i, l, q, f⟩).tdiv 2048 == 1) = f := by
    rw [Int.tdiv_eq_ediv_of_nonneg hb.1]
    unfold wrd sw fw; simp only
    cases f
    · simp; split <;> omega
    · simp; split <;> omega
  rw [e1, e2, e3, e4]
theorem isw_wrd {s : St} (h : rgt s = true) : isw (wrd s) = true := by
  unfold isw; rw [back h, h]; simp
theorem prs_wrd {s : St} (h : rgt s = true) : prs (wrd s) = s := by unfold prs; rw [if_pos (isw_wrd h), back h]
theorem pre_wrd {s : St} (h : rgt s = true) : pre (wrd s) = 0 := by unfold pre; rw [if_pos (isw_wrd h)]
theorem rgt_prs {n : Int} (h : isw n = true) : rgt (prs n) = true ∧ wrd (prs n) = n := by
  unfold prs; rw [if_pos h]
  unfold isw at h
  simpa using h

theorem tab_count : ((List.range 16).all fun m => decide (count (m : Int) ≤ 4 ∧ 0 ≤ count (m : Int) ∧ ((count (m : Int) == 0) = ((m : Int) == 0)))) = true := by decide +kernel
theorem count_bd {m : Int} (h : 0 ≤ m ∧ m < 16) : 0 ≤ count m ∧ count m ≤ 4 ∧ (count m == 0) = (m == 0) := by
  have := List.all_eq_true.1 tab_count m.toNat (List.mem_range.2 (by omega))
  rw [show ((m.toNat : Nat) : Int) = m by omega] at this
  have := of_decide_eq_true this
  exact ⟨this.2.1, this.1, this.2.2⟩
theorem md_cases {m : Int} (h : 0 ≤ m ∧ m < 16) : ∃ k : Nat, k < 5 ∧ count m = (k : Int) ∧ md m = nm k := by
  have := count_bd h
  refine ⟨(count m).toNat, by omega, by omega, rfl⟩

theorem tx_yes {m : Int} {k : Nat} (h : has m (k : Int) = true) : tx m (k + 1) = tx m k ++ [UInt8.ofNat (48 + k)] := by
  unfold tx; rw [List.range_succ, List.filter_append, List.filter_cons, if_pos (by simpa using h)]; simp
theorem tx_no {m : Int} {k : Nat} (h : has m (k : Int) = false) : tx m (k + 1) = tx m k := by
  unfold tx; rw [List.range_succ, List.filter_append, List.filter_cons, if_neg (by simp [h])]; simp
theorem tx_len (m : Int) (k : Nat) : (tx m k).length ≤ k := by
  unfold tx; rw [List.length_map]; have := List.length_filter_le (fun i : Nat => has m (i : Int)) (List.range k); simpa using this
theorem chn_len (m : Int) : (chn m).length ≤ 4 := by
  unfold chn; split
  · decide
  · exact tx_len m 4
theorem nm_len (k : Nat) : (nm k).length ≤ 6 := by
  by_cases h : k < 5
  · have : k ∈ [0, 1, 2, 3, 4] := by simp; omega
    simp only [List.mem_cons, List.mem_nil_iff, or_false] at this
    rcases this with rfl | rfl | rfl | rfl | rfl <;> decide
  · unfold nm; rw [List.getD_eq_getElem?_getD, List.getElem?_eq_none (by show nms.length ≤ k; have : nms.length = 5 := rfl; omega)]; decide
theorem nm_ne {k : Nat} (h : k < 5) : nm k ≠ [] := by
  have : k ∈ [0, 1, 2, 3, 4] := by simp; omega
  simp only [List.mem_cons, List.mem_nil_iff, or_false] at this
  rcases this with rfl | rfl | rfl | rfl | rfl <;> decide
theorem md_ne {m : Int} (h : 0 ≤ m ∧ m < 16) : md m ≠ [] := by
  obtain ⟨k, hk, _, e⟩ := md_cases h
  rw [e]; exact nm_ne hk
theorem mds_nil (s : St) : (mds s == []) = !rgt s := by
  unfold mds
  cases h : rgt s
  · rfl
  · have := md_ne (rgt_bd h).1
    simp [this]
theorem sus_eq {s : Int} (h : -1 ≤ s ∧ s < 4) : chn (sm2 s) = rsus s := by
  have : s ∈ [-1, 0, 1, 2, 3] := by simp; omega
  simp only [List.mem_cons, List.mem_nil_iff, or_false] at this
  rcases this with rfl | rfl | rfl | rfl | rfl <;> decide +kernel
theorem txs_eq {s : St} (h : rgt s = true) : txs s = rtx s := by
  unfold txs rtx
  rw [if_pos h, sus_eq (rgt_bd h).2.2.1]
  simp [Lib.join]
theorem txs_no {s : St} (h : rgt s = false) : txs s = [] := by unfold txs; rw [if_neg (by simp [h])]
theorem txs_nil (s : St) : (txs s == []) = !rgt s := by
  cases h : rgt s
  · rw [txs_no h]; rfl
  · rw [txs_eq h]; unfold rtx; simp
/-- The mode is 'hold' just if none is in. -/
theorem md_hold {m : Int} (h : 0 ≤ m ∧ m < 16) : (md m == nm 0) = (m == 0) := by
  obtain ⟨k, hk, e, em⟩ := md_cases h
  rw [em, ← (count_bd h).2.2, e]
  have : k ∈ [0, 1, 2, 3, 4] := by simp; omega
  simp only [List.mem_cons, List.mem_nil_iff, or_false] at this
  rcases this with rfl | rfl | rfl | rfl | rfl <;> decide
end Ss
end Go.Proofs.Ytpgcoagjlkdmbaa
