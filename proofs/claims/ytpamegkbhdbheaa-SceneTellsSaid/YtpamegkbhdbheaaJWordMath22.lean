/-
  Plain mathematics for layer 4 (word), in the numbers that Go's text has: bytes read one by one, bytes written one by one, a row that is filled piece by piece. No Go text is reached here. No conditions.
  Plain mathematics for layer 5 (frame): a frame's bytes, the reject of bytes, the frame of bytes; there and back; one byte changed. No Go text is reached here. No conditions.
-/
import Derived.Test.YtpamegkbhdbheaaJWordMath2
import Derived.Test.YtpamegkbhdbheaaCrcMath2
import Derived.Laws.CopyOwn
namespace Go.Proofs.Ytpamegkbhdbheaa
set_option maxRecDepth 100000
open Go.RowKit
namespace Wd
open Cr (Bytes)

/-- Go's 'or' of a number moved by eight bits and a byte. -/
theorem or_i64_wide (a b : Nat) (ha : a < 1099511627776) (hb : b < 1099511627776) : Go.bits .or .i64 (a : Int) (b : Int) = ((a ||| b : Nat) : Int) := by
  have h : a ||| b < 2 ^ 40 := Nat.or_lt_two_pow (by omega) (by omega)
  show IntKind.i64.wrap ((BitVec.ofInt 64 (a : Int) ||| BitVec.ofInt 64 (b : Int)).toNat : Int) = _
  rw [BitVec.toNat_or, Cr.ofInt64 a (by omega), Cr.ofInt64 b (by omega), IntKind.wrap_i64]; omega
theorem or_next (h l : Int) (hh : 0 ≤ h ∧ h < 16777216) (hl : 0 ≤ l ∧ l < 256) : Go.bits .or .i64 (h * 256) l = h * 256 + l := by
  obtain ⟨a, rfl⟩ := Int.eq_ofNat_of_zero_le hh.1
  obtain ⟨b, rfl⟩ := Int.eq_ofNat_of_zero_le hl.1
  have e := or_i64_wide (2 ^ 8 * a) b (by omega) (by omega)
  rw [← Nat.two_pow_add_eq_or_of_lt (i := 8) (b := b) (by omega) a] at e
  rw [show (a : Int) * 256 = ((2 ^ 8 * a : Nat) : Int) by omega]
  rw [e]; omega

/-- Bytes, the highest first, as one number. -/
def val (l : List Int) : Int := l.foldl (fun n c => n * 256 + c) 0
theorem val_snoc (l : List Int) (c : Int) : val (l ++ [c]) = val l * 256 + c := by unfold val; rw [List.foldl_append]; rfl
theorem val_next (l : List Int) (k : Nat) (h : k < l.length) : val (l.take (k + 1)) = val (l.take k) * 256 + l.getD k 0 := by
  rw [List.take_succ_eq_append_getElem h, val_snoc]; simp [List.getD_eq_getElem?_getD, h]
theorem val_in {l : List Int} (hy : Bytes l) (k : Nat) (hk : k ≤ l.length) (h4 : k ≤ 4) : 0 ≤ val (l.take k) ∧ val (l.take k) < 4294967296 ∧ (k < 4 → val (l.take k) < 16777216) := by
  have h0 : val (l.take 0) = 0 := by rw [List.take_zero]; rfl
  have s := fun j (hj : j < l.length) => val_next l j hj
  have b := fun j => hy.getD j
  have c : k = 0 ∨ k = 1 ∨ k = 2 ∨ k = 3 ∨ k = 4 := by omega
  rcases c with rfl | rfl | rfl | rfl | rfl
  · omega
  · have s0 := s 0 (by omega); have b0 := b 0; simp only [Nat.zero_add] at s0; omega
  · have s0 := s 0 (by omega); have b0 := b 0; have s1 := s 1 (by omega); have b1 := b 1; simp only [Nat.zero_add, Nat.reduceAdd] at s0 s1; omega
  · have s0 := s 0 (by omega); have b0 := b 0; have s1 := s 1 (by omega); have b1 := b 1; have s2 := s 2 (by omega); have b2 := b 2; simp only [Nat.zero_add, Nat.reduceAdd] at s0 s1 s2; omega
  · have s0 := s 0 (by omega); have b0 := b 0; have s1 := s 1 (by omega); have b1 := b 1; have s2 := s 2 (by omega); have b2 := b 2; have s3 := s 3 (by omega); have b3 := b 3; simp only [Nat.zero_add, Nat.reduceAdd] at s0 s1 s2 s3; omega
theorem val_all (l : List Int) : val (l.take l.length) = val l := by rw [List.take_of_length_le (Nat.le_refl _)]
theorem val_two {l : List Int} (h : l.length = 2) : val l = get2v l := by
  rw [get2v_yes h]
  match l, h with
  | [a, b], _ => show (0 * 256 + a) * 256 + b = 256 * a + b; omega
theorem val_four' {l : List Int} (h : l.length = 4) : down (val l) = get4v l := by
  rw [get4v_yes h]
  match l, h with
  | [a, b, c, d], _ => 
    show down ((((0 * 256 + a) * 256 + b) * 256 + c) * 256 + d) = down (256 * (256 * (256 * a + b) + c) + d)
    congr 1; omega
/-- A number's byte at a place, of so many. -/
def byteAt (n : Int) (s : Nat) : Int := n / ((2 ^ s : Nat) : Int) % 256
theorem byteAt_in (n : Int) (s : Nat) : 0 ≤ byteAt n s ∧ byteAt n s < 256 := by unfold byteAt; omega
def wbytes (n : Int) (m : Nat) : List Int := (List.range m).map fun i => byteAt n (8 * (m - 1 - i))
theorem wbytes_len (n : Int) (m : Nat) : (wbytes n m).length = m := by simp [wbytes]
theorem wbytes_next (n : Int) (m k : Nat) (h : k < m) : (wbytes n m).take (k + 1) = (wbytes n m).take k ++ [byteAt n (8 * (m - 1 - k))] := by
  rw [List.take_succ_eq_append_getElem (by rw [wbytes_len]; exact h)]; simp [wbytes]
theorem wbytes_2 {n : Int} (h : in2 n = true) : wbytes n 2 = put2 n := by
  have := (in2_iff n).1 h
  rw [put2_yes h]
  show [n / 256 % 256, n / 1 % 256] = [n / 256, n % 256]
  have e1 : n / 256 % 256 = n / 256 := by omega
  have e2 : n / 1 % 256 = n % 256 := by omega
  rw [e1, e2]
theorem wbytes_4 {n : Int} (h : in4 n = true) : wbytes n 4 = put4 n := by
  have hn := (in4_iff n).1 h
  rw [put4_yes h]
  show [n / 16777216 % 256, n / 65536 % 256, n / 256 % 256, n / 1 % 256] = [up n / 16777216, up n / 65536 % 256, up n / 256 % 256, up n % 256]
  have e1 : n / 16777216 % 256 = up n / 16777216 := by unfold up; split <;> omega
  have e2 : n / 65536 % 256 = up n / 65536 % 256 := by unfold up; split <;> omega
  have e3 : n / 256 % 256 = up n / 256 % 256 := by unfold up; split <;> omega
  have e4 : n / 1 % 256 = up n % 256 := by unfold up; split <;> omega
  rw [e1, e2, e3, e4]
/-- One more cell of a piece is written. -/
theorem splice_nil (cur : List Int) (off : Nat) : splice cur off [] = cur := by unfold splice; simp
theorem splice_len (cur : List Int) (off : Nat) (c : List Int) (h : off + c.length ≤ cur.length) : (splice cur off c).length = cur.length := by unfold splice; simp; omega
theorem splice_next (cur : List Int) (off : Nat) (c : List Int) (x : Int) (h : off + c.length < cur.length) : (splice cur off c).set (off + c.length) x = splice cur off (c ++ [x]) := by
  unfold splice
  rw [List.set_append_right _ _ (by rw [List.length_take]; omega), List.length_take, Nat.min_eq_left (by omega), Nat.add_sub_cancel_left, List.set_append_right _ _ (Nat.le_refl _), Nat.sub_self]
  have e : cur.drop (off + c.length) = cur[off + c.length] :: cur.drop (off + c.length + 1) := List.drop_eq_getElem_cons h
  rw [e, List.set_cons_zero, List.length_append, List.length_singleton, ← Nat.add_assoc]; simp
/-- A row of bytes that is filled with numbers' bytes, piece by piece, in whatever order. -/
def fillB (l : List Int) : List Nat → List Int := List.foldl (fun cur i => splice cur (4 * i) (put4 (l.getD i 0))) (List.replicate (4 * l.length) 0)
theorem fillB_snoc (l : List Int) (p : List Nat) (i : Nat) : fillB l (p ++ [i]) = splice (fillB l p) (4 * i) (put4 (l.getD i 0)) := by unfold fillB; rw [List.foldl_append]; rfl
theorem in4_at {l : List Int} (h : l.all in4 = true) {i : Nat} (hi : i < l.length) : in4 (l.getD i 0) = true := by
  rw [List.all_eq_true] at h
  have := h (l[i]) (List.getElem_mem hi)
  simpa [List.getD_eq_getElem?_getD, hi] using this
theorem fillB_len {l : List Int} (h : l.all in4 = true) (p : List Nat) (hp : ∀ i ∈ p, i < l.length) : (fillB l p).length = 4 * l.length := by
  have key : ∀ (p : List Nat) (cur : List Int), cur.length = 4 * l.length → (∀ i ∈ p, i < l.length) → (p.foldl (fun cur i => splice cur (4 * i) (put4 (l.getD i 0))) cur).length = 4 * l.length := by
    intro p
    induction p with
    | nil => intro cur hc _; exact hc
    | cons i p ih =>
      intro cur hc hp
      have hi := hp i (by simp)
      rw [List.foldl_cons]
      refine ih _ ?_ (fun j hj => hp j (by simp [hj]))
      rw [splice_len _ _ _ (by rw [put4_len (in4_at h hi), hc]; omega), hc]
  exact key p _ (by simp) hp
theorem fillB_range {l : List Int} (h : l.all in4 = true) (k : Nat) (hk : k ≤ l.length) : fillB l (List.range k) = fours (l.take k) ++ List.replicate (4 * (l.length - k)) 0 := by
  induction k with
  | zero => simp [fillB, fours]
  | succ k ih =>
    have hin := in4_at h (show k < l.length by omega)
    have hl : (fours (l.take k)).length = 4 * k := by
      rw [fours_len _ (by rw [List.all_eq_true] at h ⊢; exact fun x hx => h x (List.mem_of_mem_take hx)), List.length_take]; omega
    rw [List.range_succ, fillB_snoc, ih (by omega), fours_next l k (by omega)]
    unfold splice
    rw [put4_len hin, List.take_append_of_le_length (by omega), List.take_of_length_le (by omega), List.drop_append, List.drop_of_length_le (by omega), hl]
    simp; omega
theorem fillB_all {l : List Int} (h : l.all in4 = true) : fillB l (List.range l.length) = putAll l := by
  rw [fillB_range h _ (Nat.le_refl _), putAll_yes h, List.take_of_length_le (Nat.le_refl _)]; simp
/-- A row of numbers that is filled one by one, in whatever order. -/
def fillI (l : List Int) (m : Nat) : List Nat → List Int := List.foldl (fun cur i => cur.set i (get4v ((l.drop (4 * i)).take 4))) (List.replicate m 0)
theorem fillI_snoc (l : List Int) (m : Nat) (p : List Nat) (i : Nat) : fillI l m (p ++ [i]) = (fillI l m p).set i (get4v ((l.drop (4 * i)).take 4)) := by unfold fillI; rw [List.foldl_append]; rfl
theorem fillI_len (l : List Int) (m : Nat) (p : List Nat) : (fillI l m p).length = m := by
  have key : ∀ (p : List Nat) (cur : List Int), cur.length = m → (p.foldl (fun cur i => cur.set i (get4v ((l.drop (4 * i)).take 4))) cur).length = m := by
    intro p
    induction p with
    | nil => intro cur hc; exact hc
    | cons i p ih => intro cur hc; rw [List.foldl_cons]; exact ih _ (by rw [List.length_set, hc])
  exact key p _ (by simp)
theorem fillI_range (l : List Int) (m : Nat) (hl : l.length = 4 * m) (k : Nat) (hk : k ≤ m) : fillI l m (List.range k) = nums (l.take (4 * k)) ++ List.replicate (m - k) 0 := by
  induction k with
  | zero => simp [fillI, nums]
  | succ k ih =>
    have hn : (nums (l.take (4 * k))).length = k := nums_len k _ (by rw [List.length_take]; omega)
    rw [List.range_succ, fillI_snoc, ih (by omega), nums_next l k (by omega), List.set_append_right _ _ (by omega), hn, Nat.sub_self]
    obtain ⟨j, hj⟩ : ∃ j, m - k = j + 1 := ⟨m - k - 1, by omega⟩
    rw [hj, List.replicate_succ, List.set_cons_zero, show m - (k + 1) = j by omega]; simp
theorem fillI_all (l : List Int) (m : Nat) (hl : l.length = 4 * m) : fillI l m (List.range m) = getAll l := by
  rw [fillI_range l m hl m (Nat.le_refl _), getAll_yes (by omega), List.take_of_length_le (by omega)]; simp
theorem piece_bytes {l : List Int} (h : Bytes l) (i : Nat) : Bytes ((l.drop (4 * i)).take 4) := (h.drop _).take _
theorem piece_len {l : List Int} {m i : Nat} (hl : l.length = 4 * m) (h : i < m) : ((l.drop (4 * i)).take 4).length = 4 := by rw [List.length_take, List.length_drop]; omega
end Wd
end Go.Proofs.Ytpamegkbhdbheaa

namespace Go.Proofs.Ytpamegkbhdbheaa
set_option maxRecDepth 100000
open Go.RowKit
namespace Fm
open Wd
open Cr (Bytes sealed opens opened sum sealed_len sealed_bytes sealed_opens sealed_sum opens_zero spoilt spoilt_not plus plus_in opens_iff)

/-- May a frame be? Is there such a channel? -/
def right (s : Int) (vs : List Int) : Bool := vs.all in4 && in2 s
def chan (c : Int) : Bool := decide (0 ≤ c) && decide (c ≤ 3)
theorem chan_iff (c : Int) : chan c = true ↔ 0 ≤ c ∧ c ≤ 3 := by unfold chan; simp
theorem right_iff (s : Int) (vs : List Int) : right s vs = true ↔ vs.all in4 = true ∧ in2 s = true := by unfold right; simp
/-- A frame's bytes ahead of their sum, and all of them. -/
def head (c s : Int) (vs : List Int) : List Int := [165, c] ++ (put2 s ++ fours vs)
def enc (c s : Int) (vs : List Int) : List Int := if right s vs = true ∧ chan c = true then sealed (head c s vs) else []
def encE (c s : Int) (vs : List Int) : Int := if right s vs = true ∧ chan c = true then 0 else 1
theorem enc_yes {c s : Int} {vs : List Int} (h : right s vs = true) (k : chan c = true) : enc c s vs = sealed (head c s vs) := by unfold enc; rw [if_pos ⟨h, k⟩]
theorem enc_no {c s : Int} {vs : List Int} (h : ¬ (right s vs = true ∧ chan c = true)) : enc c s vs = [] := by unfold enc; rw [if_neg h]
theorem encE_yes {c s : Int} {vs : List Int} (h : right s vs = true) (k : chan c = true) : encE c s vs = 0 := by unfold encE; rw [if_pos ⟨h, k⟩]
theorem encE_no {c s : Int} {vs : List Int} (h : ¬ (right s vs = true ∧ chan c = true)) : encE c s vs = 1 := by unfold encE; rw [if_neg h]
theorem put2_len {s : Int} (h : in2 s = true) : (put2 s).length = 2 := by rw [put2_yes h]; rfl
theorem head_len {c s : Int} {vs : List Int} (h : right s vs = true) (h8 : vs.length = 8) : (head c s vs).length = 36 := by
  obtain ⟨h1, h2⟩ := (right_iff s vs).1 h
  unfold head
  rw [List.length_append, List.length_append, put2_len h2, fours_len vs h1, h8]; rfl
theorem head_bytes {c s : Int} {vs : List Int} (k : chan c = true) : Bytes (head c s vs) := by
  have := (chan_iff c).1 k
  intro x hx
  unfold head at hx
  rcases List.mem_append.1 hx with hx | hx
  · simp at hx; rcases hx with rfl | rfl <;> omega
  · rcases List.mem_append.1 hx with hx | hx
    · exact put2_bytes s x hx
    · exact fours_bytes vs x hx
theorem enc_len {c s : Int} {vs : List Int} (h : right s vs = true) (k : chan c = true) (h8 : vs.length = 8) : (enc c s vs).length = 38 := by rw [enc_yes h k, sealed_len, head_len h h8]
theorem enc_bytes {c s : Int} {vs : List Int} : Bytes (enc c s vs) := by
  unfold enc
  split
  · rename_i h; exact sealed_bytes (head_bytes h.2)
  · intro x hx; cases hx
/-- The reject of bytes. -/
def rej (c : Int) (is : Bool) (b : List Int) : Int :=
  if is = false then 1 else if b.length ≠ 38 then 2 else if b.getD 0 0 ≠ 165 then 3 else if b.getD 1 0 ≠ c then 4 else if opens b = false then 5 else 0
def fseq (b : List Int) : Int := get2v ((b.drop 2).take 2)
def fvals (b : List Int) : List Int := nums ((b.drop 4).take 32)
/-- The frame of bytes, as its numbers. -/
def dec (c : Int) (is : Bool) (b : List Int) : List Int := if rej c is b = 0 then fseq b :: fvals b else List.replicate 9 0
theorem rej_absent (c : Int) (b : List Int) : rej c false b = 1 := by unfold rej; simp
theorem rej_length {c : Int} {b : List Int} (h : b.length ≠ 38) : rej c true b = 2 := by unfold rej; simp [h]
theorem rej_sync {c : Int} {b : List Int} (h : b.length = 38) (h0 : b.getD 0 0 ≠ 165) : rej c true b = 3 := by
  unfold rej; rw [if_neg (by simp), if_neg (by simp [h]), if_pos h0]
theorem rej_other {c : Int} {b : List Int} (h : b.length = 38) (h0 : b.getD 0 0 = 165) (h1 : b.getD 1 0 ≠ c) : rej c true b = 4 := by
  unfold rej; rw [if_neg (by simp), if_neg (by simp [h]), if_neg (by simpa using h0), if_pos h1]
theorem rej_sum {c : Int} {b : List Int} (h : b.length = 38) (h0 : b.getD 0 0 = 165) (h1 : b.getD 1 0 = c) (h2 : opens b = false) : rej c true b = 5 := by
  unfold rej; rw [if_neg (by simp), if_neg (by simp [h]), if_neg (by simpa using h0), if_neg (by simpa using h1), if_pos h2]
theorem rej_fine {c : Int} {b : List Int} (h : b.length = 38) (h0 : b.getD 0 0 = 165) (h1 : b.getD 1 0 = c) (h2 : opens b = true) : rej c true b = 0 := by
  unfold rej; rw [if_neg (by simp), if_neg (by simp [h]), if_neg (by simpa using h0), if_neg (by simpa using h1), if_neg (by simp [h2])]
theorem fine_iff {c : Int} {is : Bool} {b : List Int} (h : rej c is b = 0) : is = true ∧ b.length = 38 ∧ b.getD 0 0 = 165 ∧ b.getD 1 0 = c ∧ opens b = true := by
  unfold rej at h
  cases is
  · simp at h
  · refine ⟨rfl, ?_⟩
    by_cases h1 : b.length = 38
    · by_cases h2 : b.getD 0 0 = 165
      · by_cases h3 : b.getD 1 0 = c
        · cases h4 : opens b
          · rw [if_neg (by simp), if_neg (by simp [h1]), if_neg (by simpa using h2), if_neg (by simpa using h3), if_pos h4] at h; cases h
          · exact ⟨h1, h2, h3, rfl⟩
        · rw [if_neg (by simp), if_neg (by simp [h1]), if_neg (by simpa using h2), if_pos h3] at h; cases h
      · rw [if_neg (by simp), if_neg (by simp [h1]), if_pos h2] at h; cases h
    · rw [if_neg (by simp), if_pos h1] at h; cases h
theorem dec_no {c : Int} {is : Bool} {b : List Int} (h : rej c is b ≠ 0) : dec c is b = List.replicate 9 0 := by unfold dec; rw [if_neg h]
theorem dec_yes {c : Int} {is : Bool} {b : List Int} (h : rej c is b = 0) : dec c is b = fseq b :: fvals b := by unfold dec; rw [if_pos h]

/-- There and back: a frame from its bytes. -/
theorem enc_shape {c s : Int} {vs : List Int} (h : right s vs = true) (k : chan c = true) : ∃ p q, enc c s vs = [165, c] ++ (put2 s ++ (fours vs ++ [p, q])) := by
  rw [enc_yes h k]
  unfold sealed head
  exact ⟨_, _, by rw [List.append_assoc, List.append_assoc]⟩
theorem enc_at {c s : Int} {vs : List Int} (h : right s vs = true) (k : chan c = true) : (enc c s vs).getD 0 0 = 165 ∧ (enc c s vs).getD 1 0 = c := by
  obtain ⟨p, q, e⟩ := enc_shape h k
  rw [e]; exact ⟨rfl, rfl⟩
theorem enc_opens {c s : Int} {vs : List Int} (h : right s vs = true) (k : chan c = true) : opens (enc c s vs) = true := by rw [enc_yes h k]; exact sealed_opens (head_bytes k)
theorem enc_sum {c s : Int} {vs : List Int} (h : right s vs = true) (k : chan c = true) : sum (enc c s vs) = 0 := by rw [enc_yes h k]; exact sealed_sum _
theorem enc_parts {c s : Int} {vs : List Int} (h : right s vs = true) (k : chan c = true) (h8 : vs.length = 8) : fseq (enc c s vs) = s ∧ fvals (enc c s vs) = vs := by
  obtain ⟨h1, h2⟩ := (right_iff s vs).1 h
  obtain ⟨p, q, e⟩ := enc_shape h k
  have l2 := put2_len h2
  have lf := fours_len vs h1
  have d2 : (enc c s vs).drop 2 = put2 s ++ (fours vs ++ [p, q]) := by rw [e]; rfl
  have d4 : (enc c s vs).drop 4 = fours vs ++ [p, q] := by
    rw [show (4 : Nat) = 2 + 2 by rfl, ← List.drop_drop, d2, List.drop_append, l2, List.drop_of_length_le (by omega)]; simp
  unfold fseq fvals
  rw [d2, d4, List.take_append_of_le_length (by omega), List.take_of_length_le (by omega), List.take_append_of_le_length (by omega), List.take_of_length_le (by omega)]
  exact ⟨(get2_put2 s).2 h2, nums_fours vs h1⟩
theorem enc_rej {c s : Int} {vs : List Int} (h : right s vs = true) (k : chan c = true) (h8 : vs.length = 8) (j : Int) : rej j true (enc c s vs) = if j = c then 0 else 4 := by
  obtain ⟨e0, e1⟩ := enc_at h k
  split
  · rename_i hj; subst hj; exact rej_fine (enc_len h k h8) e0 e1 (enc_opens h k)
  · rename_i hj; exact rej_other (enc_len h k h8) e0 (by rw [e1]; exact fun q => hj q.symm)
theorem enc_dec {c s : Int} {vs : List Int} (h : right s vs = true) (k : chan c = true) (h8 : vs.length = 8) : dec c true (enc c s vs) = s :: vs := by
  obtain ⟨p1, p2⟩ := enc_parts h k h8
  rw [dec_yes (by rw [enc_rej h k h8, if_pos rfl]), p1, p2]
/-- There and back: bytes from their frame. -/
theorem cut2 (l : List Int) (h : l.length = 2) : ∃ x y, l = [x, y] := by
  match l, h with
  | [x, y], _ => exact ⟨x, y, rfl⟩
theorem dec_right {b : List Int} (hl : b.length = 38) (hy : Bytes b) : right (fseq b) (fvals b) = true ∧ (fvals b).length = 8 ∧ put2 (fseq b) = (b.drop 2).take 2 ∧ fours (fvals b) = (b.drop 4).take 32 := by
  have y2 : Bytes ((b.drop 2).take 2) := (hy.drop _).take _
  have y4 : Bytes ((b.drop 4).take 32) := (hy.drop _).take _
  have l2 : ((b.drop 2).take 2).length = 2 := by rw [List.length_take, List.length_drop]; omega
  have l4 : ((b.drop 4).take 32).length = 4 * 8 := by rw [List.length_take, List.length_drop]; omega
  obtain ⟨x, y, e⟩ := cut2 _ l2
  have hx := y2 x (by rw [e]; simp)
  have hyy := y2 y (by rw [e]; simp)
  have ef : fseq b = 256 * x + y := by unfold fseq; rw [e]; rfl
  have i2 : in2 (fseq b) = true := (in2_iff _).2 (by omega)
  refine ⟨(right_iff _ _).2 ⟨nums_in 8 _ l4 y4, i2⟩, nums_len 8 _ l4, ?_, fours_nums 8 _ l4 y4⟩
  rw [put2_yes i2, e, ef]
  have e1 : (256 * x + y) / 256 = x := by omega
  have e2 : (256 * x + y) % 256 = y := by omega
  rw [e1, e2]
theorem back {c : Int} {is : Bool} {b : List Int} (h : rej c is b = 0) (k : chan c = true) (hy : Bytes b) : right (fseq b) (fvals b) = true ∧ (fvals b).length = 8 ∧ enc c (fseq b) (fvals b) = b := by
  obtain ⟨_, hl, h0, h1, ho⟩ := fine_iff h
  obtain ⟨r, l8, p2, p4⟩ := dec_right hl hy
  refine ⟨r, l8, ?_⟩
  rw [enc_yes r k]
  have hh : head c (fseq b) (fvals b) = b.take 36 := by
    unfold head
    rw [p2, p4]
    apply List.ext_getElem
    · simp; omega
    · intro i i1 i2
      simp at i2
      have hi : i < b.length := by omega
      by_cases c0 : i < 2
      · have hb0 : b[0]'(by omega) = 165 := by simpa [List.getD_eq_getElem?_getD, show 0 < b.length by omega] using h0
        have hb1 : b[1]'(by omega) = c := by simpa [List.getD_eq_getElem?_getD, show 1 < b.length by omega] using h1
        have : i = 0 ∨ i = 1 := by omega
        rcases this with rfl | rfl
        · simpa using hb0.symm
        · simpa using hb1.symm
      · rw [List.getElem_append_right (by simpa using (by omega : 2 ≤ i))]
        by_cases c1 : i < 4
        · rw [List.getElem_append_left (by simp; omega)]
          simp
          congr 1; omega
        · rw [List.getElem_append_right (by simp; omega)]
          simp
          congr 1; omega
  obtain ⟨_, o1, o2⟩ := (opens_iff b).1 ho
  rw [hl] at o1 o2
  unfold sealed
  rw [hh]
  have t := Cr.take_getD b 36 hl
  rw [show 38 - 2 = 36 by rfl] at o1 o2
  rw [show 38 - 1 = 37 by rfl] at o2
  rw [← o1, ← o2]
  exact t.symm
/-- One byte changed. -/
def bad (b : List Int) (k : Nat) (d : Int) : List Int := b.set k (plus (b.getD k 0) d)
theorem bad_len (b : List Int) (k : Nat) (d : Int) : (bad b k d).length = b.length := by unfold bad; simp
theorem bad_bytes {b : List Int} (hy : Bytes b) (k : Nat) (d : Int) : Bytes (bad b k d) := by
  intro x hx
  unfold bad at hx
  rcases List.mem_or_eq_of_mem_set hx with hx | rfl
  · exact hy x hx
  · exact plus_in _ _
theorem plus_zero {x : Int} (h : 0 ≤ x ∧ x < 256) : plus x 0 = x := by unfold plus; omega
theorem bad_not {b : List Int} (hy : Bytes b) (hz : sum b = 0) (k : Nat) (d : Int) (hk : k < b.length) (h2 : 2 ≤ b.length) (hd : 0 < d ∧ d < 256) : opens (bad b k d) = false := by
  by_cases h : k + 1 < b.length
  · have e : bad b k d = spoilt b k d 0 := by
      unfold bad spoilt
      rw [plus_zero (hy.getD (k + 1))]
      apply List.ext_getElem
      · simp
      · intro i i1 i2
        simp at i1
        rw [List.getElem_set, List.getElem_set, List.getElem_set]
        by_cases c1 : k + 1 = i
        · subst c1; simp [List.getD_eq_getElem?_getD, h]
        · simp [c1]
    rw [e]
    exact spoilt_not hy hz k d 0 h (by omega) (by omega) (by omega)
  · obtain ⟨j, rfl⟩ : ∃ j, k = j + 1 := ⟨k - 1, by omega⟩
    have e : bad b (j + 1) d = spoilt b j 0 d := by
      unfold bad spoilt
      rw [plus_zero (hy.getD j)]
      have e1 : b.set j (b.getD j 0) = b := by
        apply List.ext_getElem
        · simp
        · intro i i1 i2
          rw [List.getElem_set]
          by_cases c1 : j = i
          · subst c1; simp [List.getD_eq_getElem?_getD, show j < b.length by omega]
          · simp [c1]
      rw [e1]
    rw [e]
    exact spoilt_not hy hz j 0 d (by omega) (by omega) (by omega) (by omega)
theorem bad_at {b : List Int} (k : Nat) (d : Int) (j : Nat) (h : j ≠ k) : (bad b k d).getD j 0 = b.getD j 0 := by
  unfold bad; simp [List.getD_eq_getElem?_getD, Ne.symm h]
theorem bad_here {b : List Int} (hy : Bytes b) (k : Nat) (d : Int) (hk : k < b.length) (hd : 0 < d ∧ d < 256) : (bad b k d).getD k 0 ≠ b.getD k 0 := by
  have hb := hy.getD k
  have : (bad b k d).getD k 0 = plus (b.getD k 0) d := by unfold bad; simp [List.getD_eq_getElem?_getD, hk]
  rw [this]; unfold plus; omega
theorem bad_rej {c s : Int} {vs : List Int} (h : right s vs = true) (k : chan c = true) (h8 : vs.length = 8) (j : Nat) (hj : j < 38) (d : Int) (hd : 0 < d ∧ d < 256) :
    rej c true (bad (enc c s vs) j d) = if j = 0 then 3 else if j = 1 then 4 else 5 := by
  obtain ⟨e0, e1⟩ := enc_at h k
  have hl := enc_len h k h8
  have hy : Bytes (enc c s vs) := enc_bytes
  have hbl : (bad (enc c s vs) j d).length = 38 := by rw [bad_len, hl]
  have hne := bad_here hy j d (by omega) hd
  by_cases c0 : j = 0
  · subst c0; rw [if_pos rfl]; exact rej_sync hbl (by rw [e0] at hne; exact hne)
  · rw [if_neg c0]
    have b0 : (bad (enc c s vs) j d).getD 0 0 = 165 := by rw [bad_at j d 0 (fun q => c0 q.symm), e0]
    by_cases c1 : j = 1
    · subst c1; rw [if_pos rfl]; exact rej_other hbl b0 (by rw [e1] at hne; exact hne)
    · rw [if_neg c1]
      exact rej_sum hbl b0 (by rw [bad_at j d 1 (fun q => c1 q.symm), e1]) (bad_not hy (enc_sum h k) j d (by omega) (by omega) hd)
theorem name_cases (r : Int) : r = 0 ∨ r = 1 ∨ r = 2 ∨ r = 3 ∨ r = 4 ∨ r = 5 ∨ r = 6 ∨ (r < 0 ∨ 6 < r) := by omega
end Fm
end Go.Proofs.Ytpamegkbhdbheaa
