/-
  Plain mathematics for layer 4 (word), in the numbers that Go's text has: bytes read one by one, bytes written one by one, a row that is filled piece by piece. No Go text is reached here. No conditions.
-/
import Derived.Test.YtpamegkbhdbheaaWordMath
import Derived.Test.YtpamegkbhdbheaaCrcMath2
import Derived.Laws.CopyOwn
namespace Go.Proofs.Ytpamegkbhdbheaa
set_option maxRecDepth 100000
open Go.RowKit
namespace Wd
open Cr (Bytes)

/-- Go's 'or' of a number moved by eight bits and a byte. -/
theorem or_i64_wide (a b : Nat) (ha : a < 1099511627776) (hb : b < 1099511627776) : Go.bits .or .i64 (a : Int) (b : Int) = ((a ||| b : Nat) : Int) := by
  have h : a ||| b < 2 ^ 40 := Nat.or_lt_two_pow (by omega) (by omega)
  show IntKind.i64.wrap ((BitVec.ofInt 64 (a : Int) ||| BitVec.ofInt 64 (b : Int)).toNat : Int) = _
  rw [BitVec.toNat_or, Cr.ofInt64 a (by omega), Cr.ofInt64 b (by omega), IntKind.wrap_i64]; omega
theorem or_next (h l : Int) (hh : 0 ≤ h ∧ h < 16777216) (hl : 0 ≤ l ∧ l < 256) : Go.bits .or .i64 (h * 256) l = h * 256 + l := by
  obtain ⟨a, rfl⟩ := Int.eq_ofNat_of_zero_le hh.1
  obtain ⟨b, rfl⟩ := Int.eq_ofNat_of_zero_le hl.1
  have e := or_i64_wide (2 ^ 8 * a) b (by omega) (by omega)
  rw [← Nat.two_pow_add_eq_or_of_lt (i := 8) (b := b) (by omega) a] at e
  rw [show (a : Int) * 256 = ((2 ^ 8 * a : Nat) : Int) by omega]
  rw [e]; omega

/-- Bytes, the highest first, as one number. -/
def val (l : List Int) : Int := l.foldl (fun n c => n * 256 + c) 0
theorem val_snoc (l : List Int) (c : Int) : val (l ++ [c]) = val l * 256 + c := by unfold val; rw [List.foldl_append]; rfl
theorem val_next (l : List Int) (k : Nat) (h : k < l.length) : val (l.take (k + 1)) = val (l.take k) * 256 + l.getD k 0 := by
  rw [List.take_succ_eq_append_getElem h, val_snoc]; simp [List.getD_eq_getElem?_getD, h]
theorem val_in {l : List Int} (hy : Bytes l) (k : Nat) (hk : k ≤ l.length) (h4 : k ≤ 4) : 0 ≤ val (l.take k) ∧ val (l.take k) < 4294967296 ∧ (k < 4 → val (l.take k) < 16777216) := by
  have h0 : val (l.take 0) = 0 := by rw [List.take_zero]; rfl
  have s := fun j (hj : j < l.length) => val_next l j hj
  have b := fun j => hy.getD j
  have c : k = 0 ∨ k = 1 ∨ k = 2 ∨ k = 3 ∨ k = 4 := by omega
  rcases c with rfl | rfl | rfl | rfl | rfl
  · omega
  · have s0 := s 0 (by omega); have b0 := b 0; simp only [Nat.zero_add] at s0; omega
  · have s0 := s 0 (by omega); have b0 := b 0; have s1 := s 1 (by omega); have b1 := b 1; simp only [Nat.zero_add, Nat.reduceAdd] at s0 s1; omega
  · have s0 := s 0 (by omega); have b0 := b 0; have s1 := s 1 (by omega); have b1 := b 1; have s2 := s 2 (by omega); have b2 := b 2; simp only [Nat.zero_add, Nat.reduceAdd] at s0 s1 s2; omega
  · have s0 := s 0 (by omega); have b0 := b 0; have s1 := s 1 (by omega); have b1 := b 1; have s2 := s 2 (by omega); have b2 := b 2; have s3 := s 3 (by omega); have b3 := b 3; simp only [Nat.zero_add, Nat.reduceAdd] at s0 s1 s2 s3; omega
theorem val_all (l : List Int) : val (l.take l.length) = val l := by rw [List.take_of_length_le (Nat.le_refl _)]
theorem val_two {l : List Int} (h : l.length = 2) : val l = get2v l := by
  rw [get2v_yes h]
  match l, h with
  | [a, b], _ => show (0 * 256 + a) * 256 + b = 256 * a + b; omega
theorem val_four' {l : List Int} (h : l.length = 4) : down (val l) = get4v l := by
  rw [get4v_yes h]
  match l, h with
  | [a, b, c, d], _ => 
    show down ((((0 * 256 + a) * 256 + b) * 256 + c) * 256 + d) = down (256 * (256 * (256 * a + b) + c) + d)
    congr 1; omega
/-- A number's byte at a place, of so many. -/
def byteAt (n : Int) (s : Nat) : Int := n / ((2 ^ s : Nat) : Int) % 256
theorem byteAt_in (n : Int) (s : Nat) : 0 ≤ byteAt n s ∧ byteAt n s < 256 := by unfold byteAt; omega
def wbytes (n : Int) (m : Nat) : List Int := (List.range m).map fun i => byteAt n (8 * (m - 1 - i))
theorem wbytes_len (n : Int) (m : Nat) : (wbytes n m).length = m := by simp [wbytes]
theorem wbytes_next (n : Int) (m k : Nat) (h : k < m) : (wbytes n m).take (k + 1) = (wbytes n m).take k ++ [byteAt n (8 * (m - 1 - k))] := by
  rw [List.take_succ_eq_append_getElem (by rw [wbytes_len]; exact h)]; simp [wbytes]
theorem wbytes_2 {n : Int} (h : in2 n = true) : wbytes n 2 = put2 n := by
  have := (in2_iff n).1 h
  rw [put2_yes h]
  show [n / 256 % 256, n / 1 % 256] = [n / 256, n % 256]
  have e1 : n / 256 % 256 = n / 256 := by omega
  have e2 : n / 1 % 256 = n % 256 := by omega
  rw [e1, e2]
theorem wbytes_4 {n : Int} (h : in4 n = true) : wbytes n 4 = put4 n := by
  have hn := (in4_iff n).1 h
  rw [put4_yes h]
  show [n / 16777216 % 256, n / 65536 % 256, n / 256 % 256, n / 1 % 256] = [up n / 16777216, up n / 65536 % 256, up n / 256 % 256, up n % 256]
  have e1 : n / 16777216 % 256 = up n / 16777216 := by unfold up; split <;> omega
  have e2 : n / 65536 % 256 = up n / 65536 % 256 := by unfold up; split <;> omega
  have e3 : n / 256 % 256 = up n / 256 % 256 := by unfold up; split <;> omega
  have e4 : n / 1 % 256 = up n % 256 := by unfold up; split <;> omega
  rw [e1, e2, e3, e4]
/-- One more cell of a piece is written. -/
theorem splice_nil (cur : List Int) (off : Nat) : splice cur off [] = cur := by unfold splice; simp
theorem splice_len (cur : List Int) (off : Nat) (c : List Int) (h : off + c.length ≤ cur.length) : (splice cur off c).length = cur.length := by unfold splice; simp; omega
theorem splice_next (cur : List Int) (off : Nat) (c : List Int) (x : Int) (h : off + c.length < cur.length) : (splice cur off c).set (off + c.length) x = splice cur off (c ++ [x]) := by
  unfold splice
  rw [List.set_append_right _ _ (by rw [List.length_take]; omega), List.length_take, Nat.min_eq_left (by omega), Nat.add_sub_cancel_left, List.set_append_right _ _ (Nat.le_refl _), Nat.sub_self]
  have e : cur.drop (off + c.length) = cur[off + c.length] :: cur.drop (off + c.length + 1) := List.drop_eq_getElem_cons h
  rw [e, List.set_cons_zero, List.length_append, List.length_singleton, ← Nat.add_assoc]; simp
/-- A row of bytes that is filled with numbers' bytes, piece by piece, in whatever order. -/
def fillB (l : List Int) : List Nat → List Int := List.foldl (fun cur i => splice cur (4 * i) (put4 (l.getD i 0))) (List.replicate (4 * l.length) 0)
theorem fillB_snoc (l : List Int) (p : List Nat) (i : Nat) : fillB l (p ++ [i]) = splice (fillB l p) (4 * i) (put4 (l.getD i 0)) := by unfold fillB; rw [List.foldl_append]; rfl
theorem in4_at {l : List Int} (h : l.all in4 = true) {i : Nat} (hi : i < l.length) : in4 (l.getD i 0) = true := by
  rw [List.all_eq_true] at h
  have := h (l[i]) (List.getElem_mem hi)
  simpa [List.getD_eq_getElem?_getD, hi] using this
theorem fillB_len {l : List Int} (h : l.all in4 = true) (p : List Nat) (hp : ∀ i ∈ p, i < l.length) : (fillB l p).length = 4 * l.length := by
  have key : ∀ (p : List Nat) (cur : List Int), cur.length = 4 * l.length → (∀ i ∈ p, i < l.length) → (p.foldl (fun cur i => splice cur (4 * i) (put4 (l.getD i 0))) cur).length = 4 * l.length := by
    intro p
    induction p with
    | nil => intro cur hc _; exact hc
    | cons i p ih =>
      intro cur hc hp
      have hi := hp i (by simp)
      rw [List.foldl_cons]
      refine ih _ ?_ (fun j hj => hp j (by simp [hj]))
      rw [splice_len _ _ _ (by rw [put4_len (in4_at h hi), hc]; omega), hc]
  exact key p _ (by simp) hp
theorem fillB_range {l : List Int} (h : l.all in4 = true) (k : Nat) (hk : k ≤ l.length) : fillB l (List.range k) = fours (l.take k) ++ List.replicate (4 * (l.length - k)) 0 := by
  induction k with
  | zero => simp [fillB, fours]
  | succ k ih =>
    have hin := in4_at h (show k < l.length by omega)
    have hl : (fours (l.take k)).length = 4 * k := by
      rw [fours_len _ (by rw [List.all_eq_true] at h ⊢; exact fun x hx => h x (List.mem_of_mem_take hx)), List.length_take]; omega
    rw [List.range_succ, fillB_snoc, ih (by omega), fours_next l k (by omega)]
    unfold splice
    rw [put4_len hin, List.take_append_of_le_length (by omega), List.take_of_length_le (by omega), List.drop_append, List.drop_of_length_le (by omega), hl]
    simp; omega
theorem fillB_all {l : List Int} (h : l.all in4 = true) : fillB l (List.range l.length) = putAll l := by
  rw [fillB_range h _ (Nat.le_refl _), putAll_yes h, List.take_of_length_le (Nat.le_refl _)]; simp
/-- A row of numbers that is filled one by one, in whatever order. -/
def fillI (l : List Int) (m : Nat) : List Nat → List Int := List.foldl (fun cur i => cur.set i (get4v ((l.drop (4 * i)).take 4))) (List.replicate m 0)
theorem fillI_snoc (l : List Int) (m : Nat) (p : List Nat) (i : Nat) : fillI l m (p ++ [i]) = (fillI l m p).set i (get4v ((l.drop (4 * i)).take 4)) := by unfold fillI; rw [List.foldl_append]; rfl
theorem fillI_len (l : List Int) (m : Nat) (p : List Nat) : (fillI l m p).length = m := by
  have key : ∀ (p : List Nat) (cur : List Int), cur.length = m → (p.foldl (fun cur i => cur.set i (get4v ((l.drop (4 * i)).take 4))) cur).length = m := by
    intro p
    induction p with
    | nil => intro cur hc; exact hc
    | cons i p ih => intro cur hc; rw [List.foldl_cons]; exact ih _ (by rw [List.length_set, hc])
  exact key p _ (by simp)
theorem fillI_range (l : List Int) (m : Nat) (hl : l.length = 4 * m) (k : Nat) (hk : k ≤ m) : fillI l m (List.range k) = nums (l.take (4 * k)) ++ List.replicate (m - k) 0 := by
  induction k with
  | zero => simp [fillI, nums]
  | succ k ih =>
    have hn : (nums (l.take (4 * k))).length = k := nums_len k _ (by rw [List.length_take]; omega)
    rw [List.range_succ, fillI_snoc, ih (by omega), nums_next l k (by omega), List.set_append_right _ _ (by omega), hn, Nat.sub_self]
    obtain ⟨j, hj⟩ : ∃ j, m - k = j + 1 := ⟨m - k - 1, by omega⟩
    rw [hj, List.replicate_succ, List.set_cons_zero, show m - (k + 1) = j by omega]; simp
theorem fillI_all (l : List Int) (m : Nat) (hl : l.length = 4 * m) : fillI l m (List.range m) = getAll l := by
  rw [fillI_range l m hl m (Nat.le_refl _), getAll_yes (by omega), List.take_of_length_le (by omega)]; simp
theorem piece_bytes {l : List Int} (h : Bytes l) (i : Nat) : Bytes ((l.drop (4 * i)).take 4) := (h.drop _).take _
theorem piece_len {l : List Int} {m i : Nat} (hl : l.length = 4 * m) (h : i < m) : ((l.drop (4 * i)).take 4).length = 4 := by rw [List.length_take, List.length_drop]; omega
end Wd
end Go.Proofs.Ytpamegkbhdbheaa
