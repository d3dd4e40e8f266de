/-
  Plain mathematics for layer 9's law of what is frozen: cycles, how often a value came in a row, and how far the votes are apart. No Go text is reached here. No conditions.
-/
import Derived.Test.YthglaaidbelhoaaStuckPlays
import Derived.Test.YthglaaidbelhoaaMany
namespace Go.Proofs.Ythglaaidbelhoaa
open Go.RowKit
namespace Sk
open Mn

/-- What a cycle's cells tell. -/
def rowM : List Value → Bool
  | [.bool b, _, _] => b
  | _ => false
def rowN : List Value → Int
  | [_, .int _ n, _] => n
  | _ => 0
def rowV : List Value → Int
  | [_, _, .int _ v] => v
  | _ => 0
def ms (ls : List (List Value)) (i : Nat) : Bool := rowM (ls.getD i [])
def ns (ls : List (List Value)) (i : Nat) : Int := rowN (ls.getD i [])
def vs (ls : List (List Value)) (i : Nat) : Int := rowV (ls.getD i [])
theorem cyc {ls : List (List Value)} {w : World} {b off i : Nat} (hi : i < ls.length) (hat : ∀ (i : Nat) r, ls[i]? = some r → RowOk w b (off + i * 3) [.bool, .int .i16, .int .i16] r) :
    w.cell? ⟨b, off + i * 3, none⟩ = some (.bool (ms ls i)) ∧ w.cell? ⟨b, off + i * 3 + 1, none⟩ = some (.int .i16 (ns ls i)) ∧ w.cell? ⟨b, off + i * 3 + 2, none⟩ = some (.int .i16 (vs ls i)) ∧
      (-32768 ≤ ns ls i ∧ ns ls i ≤ 32767) ∧ (-32768 ≤ vs ls i ∧ vs ls i ≤ 32767) := by
  have hr : ls[i]? = some ls[i] := List.getElem?_eq_getElem hi
  obtain ⟨_, _, _, e, e0, e1, e2, ⟨x, rfl⟩, ⟨n, rfl, hn⟩, ⟨v, rfl, hv⟩⟩ := (hat i _ hr).three
  have hg : ls.getD i [] = [.bool x, .int .i16 n, .int .i16 v] := by simp [List.getD_eq_getElem?_getD, hr, e]
  unfold ms ns vs
  rw [hg]
  exact ⟨e0, e1, e2, i16_in hn, i16_in hv⟩

section
variable (M : Nat → Bool) (N : Nat → Int) (V : Nat → Int)
/-- How often the last value came in a row, behind i cycles. -/
def cnt : Nat → Nat
  | 0 => 0
  | i + 1 => if M i = true then 0 else if 0 < cnt i ∧ N i = N (i - 1) then cnt i + 1 else 1
/-- All votes of the first i cycles. -/
def votes (i : Nat) : List Int := (List.range i).map V
/-- The least, and the greatest, of d votes from n0 on, as the law reckons them. -/
def loN (n0 : Nat) : Nat → Int
  | 0 => 65536
  | d + 1 => min (loN n0 d) (V (n0 + d))
def hiN (n0 : Nat) : Nat → Int
  | 0 => -65536
  | d + 1 => max (hiN n0 d) (V (n0 + d))
end
section
variable {M : Nat → Bool} {N : Nat → Int} {V : Nat → Int}
theorem cnt_miss {i : Nat} (h : M i = true) : cnt M N (i + 1) = 0 := by unfold cnt; rw [if_pos h]
theorem cnt_le (i : Nat) : cnt M N i ≤ i := by
  induction i with
  | zero => exact Nat.le_refl _
  | succ i ih => unfold cnt; split; omega; split <;> omega
theorem cnt_pos {i : Nat} (h : M i = false) : 0 < cnt M N (i + 1) := by unfold cnt; rw [if_neg (by rw [h]; decide)]; split <;> omega
theorem cnt_kk {i : Nat} {last : Int} (h : M i = false) (hl : 0 < cnt M N i → last = N (i - 1)) : cnt M N (i + 1) = if 0 < cnt M N i ∧ N i = last then cnt M N i + 1 else 1 := by
  show (if M i = true then 0 else if 0 < cnt M N i ∧ N i = N (i - 1) then cnt M N i + 1 else 1) = _
  rw [if_neg (by rw [h]; decide)]
  by_cases hp : 0 < cnt M N i
  · rw [hl hp]
  · rw [if_neg (fun q => hp q.1), if_neg (fun q => hp q.1)]
/-- So many in a row: so many cycles told the same. -/
theorem cnt_ge (k : Nat) : ∀ i, k + 1 ≤ cnt M N (i + 1) ↔ k ≤ i ∧ ∀ n, i - k ≤ n → n ≤ i → M n = false ∧ N n = N i := by
  induction k with
  | zero =>
    intro i
    constructor
    · intro h
      refine ⟨Nat.zero_le _, fun n h1 h2 => ?_⟩
      obtain rfl : n = i := by omega
      refine ⟨?_, rfl⟩
      cases hm : M n
      · rfl
      · rw [cnt_miss hm] at h; omega
    · rintro ⟨_, h⟩
      exact cnt_pos (h i (by omega) (Nat.le_refl _)).1
  | succ k ih =>
    intro i
    constructor
    · intro h
      cases hm : M i
      · have hc : cnt M N (i + 1) = if 0 < cnt M N i ∧ N i = N (i - 1) then cnt M N i + 1 else 1 := cnt_kk hm (fun _ => rfl)
        rw [hc] at h
        split at h
        · rename_i hq
          cases i with
          | zero => simp [cnt] at hq
          | succ i =>
            have h1 := (ih i).1 (by omega)
            refine ⟨by omega, fun n h2 h3 => ?_⟩
            by_cases he : n = i + 1
            · subst he; exact ⟨hm, rfl⟩
            · have := h1.2 n (by omega) (by omega)
              exact ⟨this.1, this.2.trans (by rw [hq.2]; rfl)⟩
        · omega
      · rw [cnt_miss hm] at h; omega
    · rintro ⟨h1, h2⟩
      cases i with
      | zero => omega
      | succ i =>
        have hm := (h2 (i + 1) (by omega) (Nat.le_refl _)).1
        have e := (h2 i (by omega) (by omega))
        have hk : k + 1 ≤ cnt M N (i + 1) := (ih i).2 ⟨by omega, fun n h3 h4 => by
          have := h2 n (by omega) (by omega)
          exact ⟨this.1, this.2.trans e.2.symm⟩⟩
        rw [cnt_kk hm (fun _ => rfl), if_pos ⟨by omega, e.2.symm⟩]
        omega
theorem run_cnt {i P : Nat} {last : Int} (h : M i = false) (hl : 0 < cnt M N i → last = N (i - 1)) :
    Sk.run ((P : Int) + 1) last ((min (cnt M N i) (P + 1) : Nat) : Int) (N i) = ((min (cnt M N (i + 1)) (P + 1) : Nat) : Int) := by
  rw [cnt_kk h hl]
  unfold Sk.run
  by_cases hp : 0 < cnt M N i
  · by_cases hq : N i = last
    · rw [if_pos hq, if_pos ⟨hp, hq⟩]; omega
    · rw [if_neg hq, if_neg (fun q => hq q.2)]; omega
  · rw [show (if 0 < cnt M N i ∧ N i = last then cnt M N i + 1 else 1) = 1 from if_neg (fun q => hp q.1)]
    split <;> omega
theorem froz_cnt {i P : Nat} {last bound : Int} {U : List Int} (h : M i = false) (hl : 0 < cnt M N i → last = N (i - 1)) :
    froz P bound U last ((min (cnt M N i) (P + 1) : Nat) : Int) (N i) = (decide (P + 1 ≤ cnt M N (i + 1)) && moved P bound U) := by
  unfold froz; rw [run_cnt h hl]; congr 1; rw [decide_eq_decide]; omega

theorem votes_len (i : Nat) : (votes V i).length = i := by simp [votes]
theorem votes_succ (i : Nat) : votes V (i + 1) = votes V i ++ [V i] := by simp [votes, List.range_succ]
/-- The last P votes. -/
theorem votes_last {P i : Nat} (h : P ≤ i) : lastN P (votes V i) = (List.range P).map fun d => V (i - P + d) := by
  unfold lastN
  rw [votes_len]
  apply List.ext_getElem
  · simp [votes]; omega
  · intro j h1 h2
    simp [votes]
theorem lo_le (n0 : Nat) : ∀ d e, e < d → loN V n0 d ≤ V (n0 + e) := by
  intro d
  induction d with
  | zero => intro e h; omega
  | succ d ih =>
    intro e h
    unfold loN
    by_cases he : e = d
    · subst he; omega
    · have := ih e (by omega); omega
theorem hi_ge (n0 : Nat) : ∀ d e, e < d → V (n0 + e) ≤ hiN V n0 d := by
  intro d
  induction d with
  | zero => intro e h; omega
  | succ d ih =>
    intro e h
    unfold hiN
    by_cases he : e = d
    · subst he; omega
    · have := ih e (by omega); omega
theorem lo_in (n0 : Nat) : ∀ d, (∀ e, e < d → V (n0 + e) ≤ 65535) → 0 < d → ∃ e, e < d ∧ loN V n0 d = V (n0 + e) := by
  intro d
  induction d with
  | zero => intro _ h; omega
  | succ d ih =>
    intro hb _
    by_cases hd : 0 < d
    · obtain ⟨e, he, hv⟩ := ih (fun e he => hb e (by omega)) hd
      by_cases hq : loN V n0 d ≤ V (n0 + d)
      · exact ⟨e, by omega, by unfold loN; omega⟩
      · exact ⟨d, by omega, by unfold loN; omega⟩
    · obtain rfl : d = 0 := by omega
      have := hb 0 (by omega)
      exact ⟨0, by omega, by unfold loN loN; omega⟩
theorem hi_in (n0 : Nat) : ∀ d, (∀ e, e < d → -65535 ≤ V (n0 + e)) → 0 < d → ∃ e, e < d ∧ hiN V n0 d = V (n0 + e) := by
  intro d
  induction d with
  | zero => intro _ h; omega
  | succ d ih =>
    intro hb _
    by_cases hd : 0 < d
    · obtain ⟨e, he, hv⟩ := ih (fun e he => hb e (by omega)) hd
      by_cases hq : V (n0 + d) ≤ hiN V n0 d
      · exact ⟨e, by omega, by unfold hiN; omega⟩
      · exact ⟨d, by omega, by unfold hiN; omega⟩
    · obtain rfl : d = 0 := by omega
      have := hb 0 (by omega)
      exact ⟨0, by omega, by unfold hiN hiN; omega⟩
/-- The spread of so many votes. -/
theorem spread_seg {P n0 : Nat} (h1 : 1 ≤ P) (h2 : P ≤ 15) (hb : ∀ e, e < P → -32768 ≤ V (n0 + e) ∧ V (n0 + e) ≤ 32767) :
    Od.spread ((List.range P).map fun d => V (n0 + d)) = hiN V n0 P - loN V n0 P := by
  obtain ⟨U, hU⟩ : ∃ U, U = (List.range P).map fun d => V (n0 + d) := ⟨_, rfl⟩
  have hlen : U.length = P := by rw [hU]; simp
  have hmem : ∀ x, x ∈ U ↔ ∃ e, e < P ∧ V (n0 + e) = x := by intro x; rw [hU]; simp
  have hok : Od.ok U = true := (Od.ok_iff U).2 ⟨by omega, by
    rw [List.all_eq_true]
    intro x hx
    obtain ⟨e, he, rfl⟩ := (hmem x).1 hx
    have := hb e he
    exact (Fx.sm_iff _).2 (by omega)⟩
  rw [← hU]
  unfold Od.spread Od.spreadOf
  rw [if_pos hok, Od.srt_len, hlen]
  have hs : (Od.srt U).length = P := by rw [Od.srt_len, hlen]
  have hp := Od.srt_perm U
  have hup := Od.srt_up U
  have mem_at : ∀ j, j < P → (Od.srt U).getD j 0 ∈ U := fun j hj => by
    rw [Od.getD_at _ _ (by omega)]
    exact hp.mem_iff.1 (List.getElem_mem _)
  obtain ⟨e1, he1, hl⟩ := lo_in (V := V) n0 P (fun e he => by have := hb e he; omega) h1
  obtain ⟨e2, he2, hh⟩ := hi_in (V := V) n0 P (fun e he => by have := hb e he; omega) h1
  have at_of : ∀ x, x ∈ U → ∃ j, j < P ∧ (Od.srt U).getD j 0 = x := fun x hx => by
    have hx' := hp.mem_iff.2 hx
    obtain ⟨j, hj, rfl⟩ := List.getElem_of_mem hx'
    exact ⟨j, by omega, Od.getD_at _ _ hj⟩
  have a1 : (Od.srt U).getD 0 0 = loN V n0 P := by
    obtain ⟨e, he, hv⟩ := (hmem _).1 (mem_at 0 (by omega))
    have b1 := lo_le (V := V) n0 P e he
    obtain ⟨j, hj, hv2⟩ := at_of (V (n0 + e1)) ((hmem _).2 ⟨e1, he1, rfl⟩)
    have b2 := Od.up_getD hup (Nat.zero_le j) (by omega)
    omega
  have a2 : (Od.srt U).getD (P - 1) 0 = hiN V n0 P := by
    obtain ⟨e, he, hv⟩ := (hmem _).1 (mem_at (P - 1) (by omega))
    have b1 := hi_ge (V := V) n0 P e he
    obtain ⟨j, hj, hv2⟩ := at_of (V (n0 + e2)) ((hmem _).2 ⟨e2, he2, rfl⟩)
    have b2 := Od.up_getD hup (show j ≤ P - 1 by omega) (by omega)
    omega
  rw [a1, a2]
theorem want_step {A : Prop} {n0 n i : Nat} {b : Bool} (h0 : n0 ≤ n) (hw : b = true ↔ A ∧ ∀ x, n0 ≤ x → x < n → M x = false ∧ N x = N i) :
    (b && !M n && (N n == N i)) = true ↔ A ∧ ∀ x, n0 ≤ x → x < n + 1 → M x = false ∧ N x = N i := by
  simp only [Bool.and_eq_true, beq_iff_eq, Bool.not_eq_true']
  constructor
  · rintro ⟨⟨h1, h2⟩, h3⟩
    have := hw.1 h1
    refine ⟨this.1, fun x q1 q2 => ?_⟩
    by_cases he : x = n
    · subst he; exact ⟨h2, h3⟩
    · exact this.2 x q1 (by omega)
  · rintro ⟨h1, h2⟩
    exact ⟨⟨hw.2 ⟨h1, fun x q1 q2 => h2 x q1 (by omega)⟩, (h2 n h0 (by omega)).1⟩, (h2 n h0 (by omega)).2⟩
theorem lo_step {n0 n i : Nat} (h0 : n0 ≤ n) (h : n < i) : loN V n0 (min (n + 1) i - n0) = min (loN V n0 (min n i - n0)) (V n) := by
  rw [show min (n + 1) i - n0 = (n - n0) + 1 by omega, show min n i - n0 = n - n0 by omega]
  show min (loN V n0 (n - n0)) (V (n0 + (n - n0))) = _
  rw [show n0 + (n - n0) = n by omega]
theorem hi_step {n0 n i : Nat} (h0 : n0 ≤ n) (h : n < i) : hiN V n0 (min (n + 1) i - n0) = max (hiN V n0 (min n i - n0)) (V n) := by
  rw [show min (n + 1) i - n0 = (n - n0) + 1 by omega, show min n i - n0 = n - n0 by omega]
  show max (hiN V n0 (n - n0)) (V (n0 + (n - n0))) = _
  rw [show n0 + (n - n0) = n by omega]
theorem vv_votes {P i : Nat} (h1 : 1 ≤ P) (hv : Jp.val (V i) = true) : vv P (lastN P (votes V i)) (V i) = lastN P (votes V (i + 1)) := by
  rw [vv_all h1, votes_succ]
  unfold va; rw [if_pos hv]
/-- What Come tells, in the law's words. -/
theorem told {i P n0 : Nat} {bound : Int} (h1 : 1 ≤ P) (h2 : P ≤ 15) (hn : n0 = i - P) (hb : ∀ e, e < i → -32768 ≤ V e ∧ V e ≤ 32767) {b : Bool}
    (hw : b = true ↔ P ≤ i ∧ ∀ n, n0 ≤ n → n < i + 1 → M n = false ∧ N n = N i) :
    (decide (P + 1 ≤ cnt M N (i + 1)) && moved P bound (lastN P (votes V i))) = (b && decide (bound < hiN V n0 (i - n0) - loN V n0 (i - n0))) := by
  have hc := cnt_ge (M := M) (N := N) P i
  subst hn
  cases b
  · have q0 : decide (P + 1 ≤ cnt M N (i + 1)) = false := by
      rw [decide_eq_false_iff_not]
      intro q
      have h3 := hc.1 q
      have h4 := hw.2 ⟨h3.1, fun n q1 q2 => h3.2 n q1 (by omega)⟩
      cases h4
    rw [Bool.false_and, q0, Bool.false_and]
  · obtain ⟨q1, q2⟩ := hw.1 rfl
    have q0 : decide (P + 1 ≤ cnt M N (i + 1)) = true := by
      rw [decide_eq_true_iff]; exact hc.2 ⟨q1, fun n q3 q4 => q2 n q3 (by omega)⟩
    rw [Bool.true_and, q0, Bool.true_and]
    unfold moved
    have hl : (lastN P (votes V i)).length = P := by rw [lastN_len, votes_len]; omega
    rw [show decide ((lastN P (votes V i)).length = P) = true by simpa using hl, Bool.true_and, votes_last q1, spread_seg h1 h2 (fun e he => hb _ (by omega)), show i - (i - P) = P by omega]
end
end Sk
end Go.Proofs.Ythglaaidbelhoaa
