/-
 Plain mathematics for layer 4 (word): numbers as bytes, there and back, one alone and lists; the numbers of 16 bits, round and round. No Go text is reached here. No conditions.
 Plain mathematics for layer 3 (crc): the sum of bytes as a number of 16 bits; part by part; what is sealed has the sum 0; two bytes next to each other, changed, do not leave it so. No Go text is reached here. No conditions.
 Plain mathematics for layer 3 (crc), in the numbers that Go's text has: bytes as a list of whole numbers, their sum, what is sealed, what is opened. No Go text is reached here. No conditions.
 Plain mathematics for layer 4 (word), in the numbers that Go's text has: bytes read one by one, bytes written one by one, a row that is filled piece by piece. No Go text is reached here. No conditions.
 Plain mathematics for layer 5 (frame): a frame's bytes, the reject of bytes, the frame of bytes; there and back; one byte changed. No Go text is reached here. No conditions.
 Plain mathematics for layer 6 (fresh): what a track tells of a slot, and what it holds behind it. No Go text is reached here. No conditions.
-/
import Derived.KernelRfl
import Derived.WalkKit
import Derived.Laws.BitsAllLaws
import Derived.IntWalk
import Derived.Laws.CopyOwn
namespace Go.Proofs.YticidhbnljdidaaGreatDoor
set_option maxRecDepth 100000
open Go.RowKit
namespace Wd
def in2 (n : Int) : Bool := decide (0 ≤ n) && decide (n ≤ 65535)
def in4 (n : Int) : Bool := decide (-2147483648 ≤ n) && decide (n ≤ 2147483647)
theorem in2_iff (n : Int) : in2 n = true ↔ 0 ≤ n ∧ n ≤ 65535 := by unfold in2; simp
theorem in4_iff (n : Int) : in4 n = true ↔ -2147483648 ≤ n ∧ n ≤ 2147483647 := by unfold in4; simp
theorem in2_no {n : Int} (h : ¬ (0 ≤ n ∧ n ≤ 65535)) : in2 n = false := by
 cases e : in2 n
 · rfl
 · exact absurd ((in2_iff n).1 e) h
theorem in4_no {n : Int} (h : ¬ (-2147483648 ≤ n ∧ n ≤ 2147483647)) : in4 n = false := by
 cases e : in4 n
 · rfl
 · exact absurd ((in4_iff n).1 e) h
def up (n : Int) : Int := if n < 0 then n + 4294967296 else n
def down (u : Int) : Int := if 2147483648 ≤ u then u - 4294967296 else u
theorem up_in {n : Int} (h : in4 n = true) : 0 ≤ up n ∧ up n < 4294967296 := by
 have := (in4_iff n).1 h; unfold up; split <;> omega
theorem down_up {n : Int} (h : in4 n = true) : down (up n) = n := by
 have := (in4_iff n).1 h; unfold up down; split <;> split <;> omega
theorem up_down {u : Int} (h : 0 ≤ u ∧ u < 4294967296) : up (down u) = u := by unfold up down; split <;> split <;> omega
theorem down_in {u : Int} (h : 0 ≤ u ∧ u < 4294967296) : in4 (down u) = true := by rw [in4_iff]; unfold down; split <;> omega
def put2 (n : Int) : List Int := if in2 n = true then [n / 256,n % 256] else []
def four (u : Int) : List Int := [u / 16777216,u / 65536 % 256,u / 256 % 256,u % 256]
def put4 (n : Int) : List Int := if in4 n = true then four (up n) else []
def val4 (a b c d : Int) : Int := 256 * (256 * (256 * a + b) + c) + d
theorem put2_yes {n : Int} (h : in2 n = true) : put2 n = [n / 256,n % 256] := by unfold put2; rw [if_pos h]
theorem put2_no {n : Int} (h : in2 n = false) : put2 n = [] := by unfold put2; rw [if_neg (by rw [h]; simp)]
theorem put4_yes {n : Int} (h : in4 n = true) : put4 n = four (up n) := by unfold put4; rw [if_pos h]
theorem put4_no {n : Int} (h : in4 n = false) : put4 n = [] := by unfold put4; rw [if_neg (by rw [h]; simp)]
theorem put4_len {n : Int} (h : in4 n = true) : (put4 n).length = 4 := by rw [put4_yes h]; rfl
theorem val4_in {a b c d : Int} (ha : 0 ≤ a ∧ a < 256) (hb : 0 ≤ b ∧ b < 256) (hc : 0 ≤ c ∧ c < 256) (hd : 0 ≤ d ∧ d < 256) : 0 ≤ val4 a b c d ∧ val4 a b c d < 4294967296 := by unfold val4; omega
theorem four_val {a b c d : Int} (_ha : 0 ≤ a ∧ a < 256) (hb : 0 ≤ b ∧ b < 256) (hc : 0 ≤ c ∧ c < 256) (hd : 0 ≤ d ∧ d < 256) : four (val4 a b c d) = [a,b,c,d] := by
 unfold four val4
 have h1 : (256 * (256 * (256 * a + b) + c) + d) / 16777216 = a := by omega
 have h2 : (256 * (256 * (256 * a + b) + c) + d) / 65536 % 256 = b := by omega
 have h3 : (256 * (256 * (256 * a + b) + c) + d) / 256 % 256 = c := by omega
 have h4 : (256 * (256 * (256 * a + b) + c) + d) % 256 = d := by omega
 rw [h1,h2,h3,h4]
theorem val_four {u : Int} (_h : 0 ≤ u ∧ u < 4294967296) : val4 (u / 16777216) (u / 65536 % 256) (u / 256 % 256) (u % 256) = u := by unfold val4; omega
theorem four_bytes {u : Int} (h : 0 ≤ u ∧ u < 4294967296) : ∀ x ∈ four u,0 ≤ x ∧ x < 256 := by
 intro x hx
 unfold four at hx
 simp at hx
 rcases hx with rfl | rfl | rfl | rfl <;> omega
theorem put4_bytes (n : Int) : ∀ x ∈ put4 n,0 ≤ x ∧ x < 256 := by
 intro x hx
 cases h : in4 n
 · rw [put4_no h] at hx; cases hx
 · rw [put4_yes h] at hx; exact four_bytes (up_in h) x hx
theorem put2_bytes (n : Int) : ∀ x ∈ put2 n,0 ≤ x ∧ x < 256 := by
 intro x hx
 cases h : in2 n
 · rw [put2_no h] at hx; cases hx
 · rw [put2_yes h] at hx
   have := (in2_iff n).1 h
   simp at hx
   rcases hx with rfl | rfl <;> omega
def get2b (l : List Int) : Bool := l.length == 2
def get2v (l : List Int) : Int := if l.length = 2 then 256 * l.getD 0 0 + l.getD 1 0 else 0
def get4v (l : List Int) : Int := if l.length = 4 then down (val4 (l.getD 0 0) (l.getD 1 0) (l.getD 2 0) (l.getD 3 0)) else 0
theorem get2v_yes {l : List Int} (h : l.length = 2) : get2v l = 256 * l.getD 0 0 + l.getD 1 0 := by unfold get2v; rw [if_pos h]
theorem get2v_no {l : List Int} (h : ¬ l.length = 2) : get2v l = 0 := by unfold get2v; rw [if_neg h]
theorem get4v_yes {l : List Int} (h : l.length = 4) : get4v l = down (val4 (l.getD 0 0) (l.getD 1 0) (l.getD 2 0) (l.getD 3 0)) := by unfold get4v; rw [if_pos h]
theorem get2b_iff (l : List Int) : get2b l = true ↔ l.length = 2 := by unfold get2b; simp
theorem get2_put2 (n : Int) : get2b (put2 n) = in2 n ∧ (in2 n = true → get2v (put2 n) = n) := by
 cases h : in2 n
 · rw [put2_no h]; exact ⟨rfl,fun h => by cases h⟩
 · rw [put2_yes h]
   have := (in2_iff n).1 h
   refine ⟨rfl,fun _ => ?_⟩
   show 256 * (n / 256) + n % 256 = n
   omega
def nums : List Int → List Int
 | a :: b :: c :: d :: t => down (val4 a b c d) :: nums t
 | _ => []
def getAllb (l : List Int) : Bool := l.length % 4 == 0
def getAll (l : List Int) : List Int := if l.length % 4 = 0 then nums l else []
theorem getAllb_iff (l : List Int) : getAllb l = true ↔ l.length % 4 = 0 := by unfold getAllb; simp
theorem getAll_yes {l : List Int} (h : l.length % 4 = 0) : getAll l = nums l := by unfold getAll; rw [if_pos h]
theorem getAll_no {l : List Int} (h : ¬ l.length % 4 = 0) : getAll l = [] := by unfold getAll; rw [if_neg h]
theorem split4 {l : List Int} (h : 4 ≤ l.length) : ∃ a b c d t,l = a :: b :: c :: d :: t := by
 match l,h with
 | a :: b :: c :: d :: t,_ => exact ⟨a,b,c,d,t,rfl⟩
theorem nums_nil {l : List Int} (h : l.length < 4) : nums l = [] := by
 match l,h with
 | [],_ => rfl
 | [_],_ => rfl
 | [_,_],_ => rfl
 | [_,_,_],_ => rfl
 | _ :: _ :: _ :: _ :: _,h => simp at h; omega
theorem nums_len (m : Nat) (l : List Int) (h : l.length = 4 * m) : (nums l).length = m := by
 induction m generalizing l with
 | zero => rw [nums_nil (by omega)]; rfl
 | succ m ih =>
   obtain ⟨a,b,c,d,t,rfl⟩ := split4 (show 4 ≤ l.length by omega)
   show (nums t).length + 1 = m + 1
   rw [ih t (by simp at h; omega)]
theorem nums_app (m : Nat) (l r : List Int) (h : l.length = 4 * m) : nums (l ++ r) = nums l ++ nums r := by
 induction m generalizing l with
 | zero =>
   obtain rfl : l = [] := List.eq_nil_of_length_eq_zero (by omega)
   rfl
 | succ m ih =>
   obtain ⟨a,b,c,d,t,rfl⟩ := split4 (show 4 ≤ l.length by omega)
   show down (val4 a b c d) :: nums (t ++ r) = down (val4 a b c d) :: (nums t ++ nums r)
   rw [ih t (by simp at h; omega)]
theorem take_four (l : List Int) (k : Nat) (h : k + 4 ≤ l.length) : (l.drop k).take 4 = [l.getD k 0,l.getD (k + 1) 0,l.getD (k + 2) 0,l.getD (k + 3) 0] := by
 apply List.ext_getElem
 · simp; omega
 · intro i h1 h2
   simp at h2
   have : i = 0 ∨ i = 1 ∨ i = 2 ∨ i = 3 := by omega
   rcases this with rfl | rfl | rfl | rfl <;> simp [List.getD_eq_getElem?_getD,show k < l.length by omega,show k + 1 < l.length by omega,show k + 2 < l.length by omega,show k + 3 < l.length by omega]
theorem nums_next (l : List Int) (m : Nat) (h : 4 * m + 4 ≤ l.length) : nums (l.take (4 * (m + 1))) = nums (l.take (4 * m)) ++ [get4v ((l.drop (4 * m)).take 4)] := by
 have e : l.take (4 * (m + 1)) = l.take (4 * m) ++ (l.drop (4 * m)).take 4 := by
  rw [show 4 * (m + 1) = 4 * m + 4 by omega,List.take_add]
 rw [e,nums_app m _ _ (by rw [List.length_take]; omega)]
 congr 1
 rw [take_four l (4 * m) (by omega)]
 rfl
def fours (l : List Int) : List Int := l.flatMap put4
def putAll (l : List Int) : List Int := if l.all in4 = true then fours l else []
theorem putAll_yes {l : List Int} (h : l.all in4 = true) : putAll l = fours l := by unfold putAll; rw [if_pos h]
theorem putAll_no {l : List Int} (h : l.all in4 = false) : putAll l = [] := by unfold putAll; rw [if_neg (by rw [h]; simp)]
theorem fours_cons (n : Int) (l : List Int) : fours (n :: l) = put4 n ++ fours l := by unfold fours; rw [List.flatMap_cons]
theorem fours_next (l : List Int) (k : Nat) (h : k < l.length) : fours (l.take (k + 1)) = fours (l.take k) ++ put4 (l.getD k 0) := by
 rw [List.take_succ_eq_append_getElem h]
 unfold fours
 rw [List.flatMap_append]
 simp [List.getD_eq_getElem?_getD,h]
theorem fours_len (l : List Int) (h : l.all in4 = true) : (fours l).length = 4 * l.length := by
 induction l with
 | nil => rfl
 | cons n t ih =>
   rw [List.all_cons,Bool.and_eq_true] at h
   rw [fours_cons,List.length_append,put4_len h.1,ih h.2,List.length_cons]; omega
theorem fours_bytes (l : List Int) : ∀ x ∈ fours l,0 ≤ x ∧ x < 256 := by
 intro x hx
 unfold fours at hx
 obtain ⟨n,_,hn⟩ := List.mem_flatMap.1 hx
 exact put4_bytes n x hn
theorem nums_fours (l : List Int) (h : l.all in4 = true) : nums (fours l) = l := by
 induction l with
 | nil => rfl
 | cons n t ih =>
   rw [List.all_cons,Bool.and_eq_true] at h
   rw [fours_cons,nums_app 1 _ _ (by rw [put4_len h.1]),ih h.2,put4_yes h.1]
   show [down (val4 (up n / 16777216) (up n / 65536 % 256) (up n / 256 % 256) (up n % 256))] ++ t = n :: t
   rw [val_four (up_in h.1),down_up h.1]; rfl
theorem nums_in (m : Nat) (l : List Int) (hl : l.length = 4 * m) (h : ∀ x ∈ l,0 ≤ x ∧ x < 256) : (nums l).all in4 = true := by
 induction m generalizing l with
 | zero => rw [nums_nil (by omega)]; rfl
 | succ m ih =>
   obtain ⟨a,b,c,d,t,rfl⟩ := split4 (show 4 ≤ l.length by omega)
   show (in4 (down (val4 a b c d)) && (nums t).all in4) = true
   rw [down_in (val4_in (h a (by simp)) (h b (by simp)) (h c (by simp)) (h d (by simp))),ih t (by simp at hl; omega) (fun x hx => h x (by simp [hx]))]; rfl
theorem fours_nums (m : Nat) (l : List Int) (hl : l.length = 4 * m) (h : ∀ x ∈ l,0 ≤ x ∧ x < 256) : fours (nums l) = l := by
 induction m generalizing l with
 | zero =>
   obtain rfl : l = [] := List.eq_nil_of_length_eq_zero (by omega)
   rfl
 | succ m ih =>
   obtain ⟨a,b,c,d,t,rfl⟩ := split4 (show 4 ≤ l.length by omega)
   have ha := h a (by simp)
   have hb := h b (by simp)
   have hc := h c (by simp)
   have hd := h d (by simp)
   have hv := val4_in ha hb hc hd
   show fours (down (val4 a b c d) :: nums t) = _
   rw [fours_cons,ih t (by simp at hl; omega) (fun x hx => h x (by simp [hx])),put4_yes (down_in hv),up_down hv,four_val ha hb hc hd]; rfl
def next (n : Int) : Int := if 0 ≤ n ∧ n < 65535 then n + 1 else 0
theorem next_mod {n : Int} (h : 0 ≤ n ∧ n ≤ 65535) : next n = (n + 1) % 65536 := by unfold next; split <;> omega
end Wd
namespace Cr
def bit1 (s : Nat) : Nat := if 32768 ≤ s then (2 * s % 65536) ^^^ 4129 else 2 * s % 65536
def bits : Nat → Nat → Nat
 | 0,s => s
 | n + 1,s => bit1 (bits n s)
def feed (s b : Nat) : Nat := bits 8 (s ^^^ (256 * b))
def more (s : Nat) (l : List Nat) : Nat := l.foldl feed s
theorem xor_lt {a b : Nat} (ha : a < 65536) (hb : b < 65536) : a ^^^ b < 65536 := Nat.xor_lt_two_pow (n := 16) ha hb
theorem bit1_lt (s : Nat) : bit1 s < 65536 := by
 unfold bit1; split
 · exact xor_lt (Nat.mod_lt _ (by omega)) (by omega)
 · exact Nat.mod_lt _ (by omega)
theorem bits_lt (n s : Nat) (h : s < 65536) : bits n s < 65536 := by
 induction n with
 | zero => exact h
 | succ n _ => exact bit1_lt _
theorem bits_succ (n s : Nat) : bits (n + 1) s = bit1 (bits n s) := rfl
theorem feed_def (s b : Nat) : feed s b = bits 8 (s ^^^ (256 * b)) := by unfold feed; rfl
theorem feed_lt (s b : Nat) : feed s b < 65536 := by
 rw [feed_def,show 8 = 7 + 1 by omega,bits_succ]; exact bit1_lt _
theorem more_nil (s : Nat) : more s [] = s := by unfold more; rw [List.foldl_nil]
theorem more_cons (s b : Nat) (l : List Nat) : more s (b :: l) = more (feed s b) l := by unfold more; rw [List.foldl_cons]
theorem more_two (s x y : Nat) : more s [x,y] = feed (feed s x) y := by rw [more_cons,more_cons,more_nil]
theorem more_lt (s : Nat) (l : List Nat) (h : s < 65536) : more s l < 65536 := by
 induction l generalizing s with
 | nil => rw [more_nil]; exact h
 | cons b t ih => rw [more_cons]; exact ih _ (feed_lt _ _)
theorem more_app (s : Nat) (l r : List Nat) : more s (l ++ r) = more (more s l) r := by unfold more; exact List.foldl_append ..
theorem high (s : Nat) (h : s < 65536) : 32768 ≤ s ↔ s.testBit 15 = true := by
 rw [Nat.testBit_eq_decide_div_mod_eq]
 simp; omega
theorem two_mod (a b : Nat) : 2 * (a ^^^ b) % 65536 = (2 * a % 65536) ^^^ (2 * b % 65536) := by
 rw [← Nat.xor_mod_two_pow (n := 16)]
 congr 1
 have := Nat.shiftLeft_xor_distrib (a := a) (b := b) (i := 1)
 simpa [Nat.shiftLeft_eq,Nat.mul_comm] using this
theorem bit1_xor (a b : Nat) (ha : a < 65536) (hb : b < 65536) : bit1 (a ^^^ b) = bit1 a ^^^ bit1 b := by
 have h := high (a ^^^ b) (xor_lt ha hb)
 rw [Nat.testBit_xor] at h
 have h1 := high a ha
 have h2 := high b hb
 unfold bit1
 rw [two_mod]
 by_cases c1 : 32768 ≤ a <;> by_cases c2 : 32768 ≤ b
 · have n : ¬ 32768 ≤ a ^^^ b := by rw [h,h1.1 c1,h2.1 c2]; simp
   rw [if_neg n,if_pos c1,if_pos c2]
   rw [Nat.xor_assoc,Nat.xor_comm 4129,Nat.xor_assoc,Nat.xor_self,Nat.xor_zero]
 · have t2 : b.testBit 15 = false := by cases e : b.testBit 15; rfl; exact absurd (h2.2 e) c2
   have n : 32768 ≤ a ^^^ b := by rw [h,h1.1 c1,t2]; rfl
   rw [if_pos n,if_pos c1,if_neg c2,Nat.xor_assoc,Nat.xor_assoc,Nat.xor_comm 4129]
 · have t1 : a.testBit 15 = false := by cases e : a.testBit 15; rfl; exact absurd (h1.2 e) c1
   have n : 32768 ≤ a ^^^ b := by rw [h,t1,h2.1 c2]; rfl
   rw [if_pos n,if_neg c1,if_pos c2,Nat.xor_assoc]
 · have t1 : a.testBit 15 = false := by cases e : a.testBit 15; rfl; exact absurd (h1.2 e) c1
   have t2 : b.testBit 15 = false := by cases e : b.testBit 15; rfl; exact absurd (h2.2 e) c2
   have n : ¬ 32768 ≤ a ^^^ b := by rw [h,t1,t2]; simp
   rw [if_neg n,if_neg c1,if_neg c2]
theorem xor_zero_eq {a b : Nat} (h : a ^^^ b = 0) : a = b := by
 have : a ^^^ b ^^^ b = b := by rw [h,Nat.zero_xor]
 rwa [Nat.xor_assoc,Nat.xor_self,Nat.xor_zero] at this
theorem bit1_zero {s : Nat} (h : s < 65536) (e : bit1 s = 0) : s = 0 := by
 unfold bit1 at e
 split at e
 · have := xor_zero_eq e; omega
 · omega
theorem bits_xor (n a b : Nat) (ha : a < 65536) (hb : b < 65536) : bits n (a ^^^ b) = bits n a ^^^ bits n b := by
 induction n with
 | zero => rfl
 | succ n ih => unfold bits; rw [ih,bit1_xor _ _ (bits_lt n a ha) (bits_lt n b hb)]
theorem bits_zero (n s : Nat) (h : s < 65536) (e : bits n s = 0) : s = 0 := by
 induction n with
 | zero => exact e
 | succ n ih => exact ih (bit1_zero (bits_lt n s h) e)
theorem bits_inj (n a b : Nat) (ha : a < 65536) (hb : b < 65536) (e : bits n a = bits n b) : a = b :=
 xor_zero_eq (bits_zero n _ (xor_lt ha hb) (by rw [bits_xor n a b ha hb,e,Nat.xor_self]))
theorem bits_low (n b : Nat) (hb : b < 256) (hn : n ≤ 8) : bits n b = 2 ^ n * b := by
 induction n with
 | zero => simp [bits]
 | succ n ih =>
   unfold bits
   rw [ih (by omega)]
   have h7 : 2 ^ n ≤ 128 := by
    have : n ≤ 7 := by omega
    calc 2 ^ n ≤ 2 ^ 7 := Nat.pow_le_pow_right (by omega) this
     _ = 128 := rfl
   have hm : 2 ^ n * b ≤ 128 * 255 := Nat.mul_le_mul h7 (by omega)
   unfold bit1
   rw [if_neg (by omega),Nat.mod_eq_of_lt (by omega),Nat.pow_succ,Nat.mul_assoc,Nat.mul_left_comm]
theorem bits8_low (b : Nat) (hb : b < 256) : bits 8 b = 256 * b := bits_low 8 b hb (by omega)
theorem xor_high (s : Nat) : s ^^^ (256 * (s / 256)) = s % 256 := by
 have h1 : s = (256 * (s / 256)) ^^^ (s % 256) := by
  have := Nat.two_pow_add_eq_or_of_lt (i := 8) (b := s % 256) (Nat.mod_lt _ (by omega)) (s / 256)
  have h2 : s = 2 ^ 8 * (s / 256) + s % 256 := by omega
  have h3 : (2 ^ 8 * (s / 256)) ^^^ (s % 256) = (2 ^ 8 * (s / 256)) ||| (s % 256) := by
   apply Nat.eq_of_testBit_eq
   intro i
   rw [Nat.testBit_xor,Nat.testBit_or]
   by_cases hi : i < 8
   · have h8 : decide (8 ≤ i) = false := by simp; omega
     rw [Nat.testBit_two_pow_mul,h8]; simp
   · have : (s % 256).testBit i = false := Nat.testBit_lt_two_pow (Nat.lt_of_lt_of_le (Nat.mod_lt _ (by omega)) (show 256 ≤ 2 ^ i from by
      calc 256 = 2 ^ 8 := rfl
       _ ≤ 2 ^ i := Nat.pow_le_pow_right (by omega) (by omega)))
     rw [this]; simp
  rw [← this] at h3
  show s = (2 ^ 8 * (s / 256)) ^^^ (s % 256)
  rw [h3]; exact h2
 calc s ^^^ (256 * (s / 256)) = ((256 * (s / 256)) ^^^ (s % 256)) ^^^ (256 * (s / 256)) := by rw [← h1]
  _ = s % 256 := by rw [Nat.xor_comm,← Nat.xor_assoc,Nat.xor_self,Nat.zero_xor]
theorem bits8_zero : bits 8 0 = 0 := by decide +kernel
theorem seal_zero (s : Nat) : more s [s / 256,s % 256] = 0 := by
 rw [more_two]
 have h1 : feed s (s / 256) = 256 * (s % 256) := by
  rw [feed_def,xor_high,bits8_low _ (Nat.mod_lt _ (by omega))]
 rw [h1,feed_def,Nat.xor_self,bits8_zero]
theorem split_low (h l : Nat) (hl : l < 256) : l ^^^ (256 * h) = 256 * h + l := by
 have := xor_high (256 * h + l)
 have q1 : (256 * h + l) / 256 = h := by omega
 have q2 : (256 * h + l) % 256 = l := by omega
 rw [q1,q2] at this
 generalize 256 * h + l = m at *
 rw [← this,Nat.xor_assoc,Nat.xor_self,Nat.xor_zero]
theorem open_of_zero (s h l : Nat) (hs : s < 65536) (hh : h < 256) (hl : l < 256) (e : more s [h,l] = 0) : h = s / 256 ∧ l = s % 256 := by
 rw [more_two,feed_def] at e
 have b1 : 256 * l < 65536 := by omega
 have b2 : 256 * h < 65536 := by omega
 have b3 : l < 65536 := by omega
 have h2 : feed s h ^^^ (256 * l) = 0 := bits_zero 8 _ (xor_lt (feed_lt _ _) b1) e
 have h3 : feed s h = 256 * l := xor_zero_eq h2
 rw [← bits8_low l hl,feed_def] at h3
 have h4 : s ^^^ (256 * h) = l := bits_inj 8 _ _ (xor_lt hs b2) b3 h3
 have h5 : s = l ^^^ (256 * h) := by rw [← h4,Nat.xor_assoc,Nat.xor_self,Nat.xor_zero]
 rw [split_low h l hl] at h5
 omega
theorem open_iff (s h l : Nat) (hs : s < 65536) (hh : h < 256) (hl : l < 256) : more s [h,l] = 0 ↔ (h = s / 256 ∧ l = s % 256) :=
 ⟨open_of_zero s h l hs hh hl,fun ⟨e1,e2⟩ => by rw [e1,e2]; exact seal_zero s⟩
theorem feed_inj (x a b : Nat) (ha : a < 65536) (hb : b < 65536) (hx : x < 256) (e : feed a x = feed b x) : a = b := by
 rw [feed_def,feed_def] at e
 have b1 : 256 * x < 65536 := by omega
 have h2 : a ^^^ (256 * x) = b ^^^ (256 * x) := bits_inj 8 _ _ (xor_lt ha b1) (xor_lt hb b1) e
 have : a ^^^ (256 * x) ^^^ (256 * x) = b ^^^ (256 * x) ^^^ (256 * x) := by rw [h2]
 rwa [Nat.xor_assoc,Nat.xor_self,Nat.xor_zero,Nat.xor_assoc,Nat.xor_self,Nat.xor_zero] at this
theorem more_inj (l : List Nat) (a b : Nat) (ha : a < 65536) (hb : b < 65536) (hl : ∀ x ∈ l,x < 256) (e : more a l = more b l) : a = b := by
 induction l generalizing a b with
 | nil => rw [more_nil,more_nil] at e; exact e
 | cons x t ih =>
   rw [more_cons,more_cons] at e
   exact feed_inj x a b ha hb (hl x (List.mem_cons_self ..)) (ih _ _ (feed_lt _ _) (feed_lt _ _) (fun y hy => hl y (List.mem_cons_of_mem _ hy)) e)
theorem mul_xor (x y : Nat) : 256 * (x ^^^ y) = (256 * x) ^^^ (256 * y) := by
 have := Nat.shiftLeft_xor_distrib (a := x) (b := y) (i := 8)
 simpa [Nat.shiftLeft_eq,Nat.mul_comm] using this
theorem xor_swap (u a b : Nat) : (u ^^^ a) ^^^ (u ^^^ b) = a ^^^ b := by
 rw [Nat.xor_comm u a,Nat.xor_assoc,← Nat.xor_assoc u u,Nat.xor_self,Nat.zero_xor]
theorem pair_inj (u x y x' y' : Nat) (hu : u < 65536) (hx : x < 256) (hy : y < 256) (hx' : x' < 256) (hy' : y' < 256) (e : more u [x,y] = more u [x',y']) : x = x' ∧ y = y' := by
 rw [more_two,more_two,feed_def (feed u x) y,feed_def (feed u x') y'] at e
 have b1 : 256 * y < 65536 := by omega
 have b2 : 256 * y' < 65536 := by omega
 have b3 : 256 * x < 65536 := by omega
 have b4 : 256 * x' < 65536 := by omega
 have e2 : feed u x ^^^ (256 * y) = feed u x' ^^^ (256 * y') := bits_inj 8 _ _ (xor_lt (feed_lt _ _) b1) (xor_lt (feed_lt _ _) b2) e
 have e3 : feed u x ^^^ feed u x' = 256 * (y ^^^ y') := by
  rw [mul_xor]
  generalize feed u x = A at *
  generalize feed u x' = B at *
  generalize 256 * y = C at *
  generalize 256 * y' = D at *
  have h1 : A = B ^^^ D ^^^ C := by rw [← e2,Nat.xor_assoc,Nat.xor_self,Nat.xor_zero]
  rw [h1,Nat.xor_assoc,Nat.xor_assoc,Nat.xor_comm B,Nat.xor_assoc,Nat.xor_assoc,Nat.xor_self,Nat.xor_zero,Nat.xor_comm]
 have hd : x ^^^ x' < 256 := Nat.xor_lt_two_pow (n := 8) hx hx'
 have he : y ^^^ y' < 256 := Nat.xor_lt_two_pow (n := 8) hy hy'
 have e4 : feed u x ^^^ feed u x' = bits 8 (256 * (x ^^^ x')) := by
  rw [feed_def,feed_def,← bits_xor 8 _ _ (xor_lt hu b3) (xor_lt hu b4),xor_swap,mul_xor]
 rw [e4,← bits8_low _ he] at e3
 have z : x ^^^ x' = 0 ∧ y ^^^ y' = 0 := by
  generalize x ^^^ x' = d at *
  generalize y ^^^ y' = f at *
  have b5 : 256 * d < 65536 := by omega
  have b6 : f < 65536 := by omega
  have e5 := bits_inj 8 _ _ b5 b6 e3
  omega
 exact ⟨xor_zero_eq z.1,xor_zero_eq z.2⟩
theorem pair_told (s : Nat) (p q : List Nat) (x y x' y' : Nat) (hs : s < 65536) (hq : ∀ b ∈ q,b < 256) (hx : x < 256) (hy : y < 256) (hx' : x' < 256) (hy' : y' < 256)
 (e : more s (p ++ ([x,y] ++ q)) = more s (p ++ ([x',y'] ++ q))) : x = x' ∧ y = y' := by
 rw [more_app,more_app,more_app,more_app] at e
 have h1 := more_lt s p hs
 exact pair_inj _ x y x' y' h1 hx hy hx' hy' (more_inj q _ _ (more_lt _ _ h1) (more_lt _ _ h1) hq e)
end Cr
namespace Cr
def Bytes (l : List Int) : Prop := ∀ n ∈ l,0 ≤ n ∧ n < 256
theorem bytes_wf {l : List Int} (h : ∀ n ∈ l,(Lit.int .u8 n).wf = true) : Bytes l := by
 intro n hn
 have := h n hn
 simp only [Lit.wf,Bool.and_eq_true,decide_eq_true_eq] at this
 have hmin : IntKind.u8.min = 0 := rfl
 have hmax : IntKind.u8.max = 255 := rfl
 omega
theorem Bytes.take {l : List Int} (h : Bytes l) (k : Nat) : Bytes (l.take k) := fun n hn => h n (List.mem_of_mem_take hn)
theorem Bytes.drop {l : List Int} (h : Bytes l) (k : Nat) : Bytes (l.drop k) := fun n hn => h n (List.mem_of_mem_drop hn)
theorem Bytes.app {l r : List Int} (h : Bytes l) (k : Bytes r) : Bytes (l ++ r) := fun n hn => (List.mem_append.1 hn).elim (h n) (k n)
theorem Bytes.getD {l : List Int} (h : Bytes l) (k : Nat) : 0 ≤ l.getD k 0 ∧ l.getD k 0 < 256 := by
 by_cases hk : k < l.length
 · have : l.getD k 0 = l[k] := by simp [List.getD_eq_getElem?_getD,hk]
   rw [this]; exact h _ (List.getElem_mem _)
 · have : l.getD k 0 = 0 := by simp [List.getD_eq_getElem?_getD,hk]
   rw [this]; omega
def nats (l : List Int) : List Nat := l.map Int.toNat
theorem nats_app (l r : List Int) : nats (l ++ r) = nats l ++ nats r := by unfold nats; exact List.map_append
theorem nats_lt {l : List Int} (h : Bytes l) : ∀ x ∈ nats l,x < 256 := by
 intro x hx
 obtain ⟨n,hn,rfl⟩ := List.mem_map.1 hx
 have := h n hn; omega
def upto (s : Nat) (l : List Int) (k : Nat) : Nat := more s (nats (l.take k))
theorem upto_0 (s : Nat) (l : List Int) : upto s l 0 = s := by unfold upto; rw [List.take_zero]; exact more_nil s
theorem upto_lt (s : Nat) (l : List Int) (k : Nat) (h : s < 65536) : upto s l k < 65536 := more_lt _ _ h
theorem upto_succ (s : Nat) (l : List Int) (k : Nat) (h : k < l.length) : upto s l (k + 1) = feed (upto s l k) (l.getD k 0).toNat := by
 unfold upto
 rw [List.take_succ_eq_append_getElem h,nats_app,more_app,show nats [l[k]] = [l[k].toNat] from rfl,more_cons,more_nil]
 simp [List.getD_eq_getElem?_getD,h]
theorem upto_all (s : Nat) (l : List Int) : upto s l l.length = more s (nats l) := by unfold upto; rw [List.take_of_length_le (Nat.le_refl _)]
def sum (l : List Int) : Nat := more 65535 (nats l)
theorem sum_lt (l : List Int) : sum l < 65536 := more_lt _ _ (by omega)
def moreI (s : Int) (l : List Int) : Int := if 0 ≤ s ∧ s ≤ 65535 then (more s.toNat (nats l) : Nat) else 0
theorem moreI_in (s : Nat) (l : List Int) (h : s < 65536) : moreI s l = (more s (nats l) : Nat) := by
 unfold moreI; rw [if_pos (by omega)]; rfl
theorem moreI_out (s : Int) (l : List Int) (h : ¬ (0 ≤ s ∧ s ≤ 65535)) : moreI s l = 0 := by unfold moreI; rw [if_neg h]
def sealed (l : List Int) : List Int := l ++ [((sum l / 256 : Nat) : Int),((sum l % 256 : Nat) : Int)]
theorem sealed_len (l : List Int) : (sealed l).length = l.length + 2 := by simp [sealed]
theorem sealed_bytes {l : List Int} (h : Bytes l) : Bytes (sealed l) := by
 have := sum_lt l
 refine h.app ?_
 intro n hn
 simp at hn
 rcases hn with rfl | rfl <;> omega
def opens (l : List Int) : Bool := decide (2 ≤ l.length) && decide (l.getD (l.length - 2) 0 = ((sum (l.take (l.length - 2)) / 256 : Nat) : Int)) && decide (l.getD (l.length - 1) 0 = ((sum (l.take (l.length - 2)) % 256 : Nat) : Int))
def opened (l : List Int) : List Int := if opens l then l.take (l.length - 2) else []
theorem opens_iff (l : List Int) : opens l = true ↔ 2 ≤ l.length ∧ l.getD (l.length - 2) 0 = ((sum (l.take (l.length - 2)) / 256 : Nat) : Int) ∧ l.getD (l.length - 1) 0 = ((sum (l.take (l.length - 2)) % 256 : Nat) : Int) := by
 unfold opens; simp only [Bool.and_eq_true,decide_eq_true_eq,and_assoc]
theorem opens_false {l : List Int} (h : ¬ (2 ≤ l.length ∧ l.getD (l.length - 2) 0 = ((sum (l.take (l.length - 2)) / 256 : Nat) : Int) ∧ l.getD (l.length - 1) 0 = ((sum (l.take (l.length - 2)) % 256 : Nat) : Int))) : opens l = false := by
 cases e : opens l
 · rfl
 · exact absurd ((opens_iff l).1 e) h
theorem opened_yes {l : List Int} (h : opens l = true) : opened l = l.take (l.length - 2) := by unfold opened; rw [if_pos h]
theorem opened_no {l : List Int} (h : opens l = false) : opened l = [] := by unfold opened; rw [if_neg (by rw [h]; simp)]
theorem take_getD (l : List Int) (n : Nat) (h : l.length = n + 2) : l = l.take n ++ [l.getD n 0,l.getD (n + 1) 0] := by
 apply List.ext_getElem
 · simp; omega
 · intro i h1 h2
   by_cases hi : i < n
   · rw [List.getElem_append_left (by simp; omega)]; simp
   · rw [List.getElem_append_right (by simp; omega)]
     have : i = n ∨ i = n + 1 := by omega
     rcases this with rfl | rfl
     · simp [List.getD_eq_getElem?_getD,h1,Nat.min_eq_left (show i ≤ l.length by omega)]
     · simp [List.getD_eq_getElem?_getD,h1,Nat.min_eq_left (show n ≤ l.length by omega)]
theorem opens_zero {l : List Int} (hb : Bytes l) (h2 : 2 ≤ l.length) : opens l = true ↔ sum l = 0 := by
 obtain ⟨n,hn⟩ : ∃ n,l.length = n + 2 := ⟨l.length - 2,by omega⟩
 have g1 := hb.getD n
 have g2 := hb.getD (n + 1)
 have e : sum l = more (sum (l.take n)) [(l.getD n 0).toNat,(l.getD (n + 1) 0).toNat] := by
  have e1 := take_getD l n hn
  have e2 := congrArg nats e1
  rw [nats_app] at e2
  show more 65535 (nats l) = _
  rw [e2,more_app]; rfl
 rw [e,open_iff _ _ _ (sum_lt _) (by omega) (by omega),opens_iff,hn,show n + 2 - 2 = n by omega,show n + 2 - 1 = n + 1 by omega]
 constructor
 · rintro ⟨_,q1,q2⟩; omega
 · rintro ⟨q1,q2⟩; omega
theorem sealed_sum (l : List Int) : sum (sealed l) = 0 := by
 have : nats (sealed l) = nats l ++ [sum l / 256,sum l % 256] := by unfold sealed; rw [nats_app]; rfl
 unfold sum at this ⊢
 rw [this,more_app]; exact seal_zero _
theorem sealed_opens {l : List Int} (h : Bytes l) : opens (sealed l) = true := (opens_zero (sealed_bytes h) (by rw [sealed_len]; omega)).2 (sealed_sum l)
theorem sealed_opened {l : List Int} (h : Bytes l) : opened (sealed l) = l := by
 rw [opened_yes (sealed_opens h),sealed_len]; unfold sealed; simp
def plus (x d : Int) : Int := (x + d) % 256
theorem plus_in (x d : Int) : 0 ≤ plus x d ∧ plus x d < 256 := by unfold plus; omega
theorem plus_same {x d : Int} (hd : 0 ≤ d ∧ d < 256) (h : plus x d = x) : d = 0 := by unfold plus at h; omega
def spoilt (l : List Int) (k : Nat) (d e : Int) : List Int := (l.set k (plus (l.getD k 0) d)).set (k + 1) (plus (l.getD (k + 1) 0) e)
theorem spoilt_len (l : List Int) (k : Nat) (d e : Int) : (spoilt l k d e).length = l.length := by unfold spoilt; simp
theorem split2 (l : List Int) (k : Nat) (x y : Int) (h : k + 1 < l.length) : (l.set k x).set (k + 1) y = l.take k ++ ([x,y] ++ l.drop (k + 2)) := by
 apply List.ext_getElem
 · simp; omega
 · intro i h1 h2
   have hl : i < l.length := by simpa using h1
   by_cases hi : i < k
   · rw [List.getElem_append_left (by simp; omega),List.getElem_set_ne (by omega),List.getElem_set_ne (by omega)]; simp
   · rw [List.getElem_append_right (by simp; omega)]
     have hk : (l.take k).length = k := by simp; omega
     by_cases e1 : i = k
     · subst e1; rw [List.getElem_set_ne (by omega),List.getElem_set_self]; simp [hk]
     · by_cases e2 : i = k + 1
       · subst e2; rw [List.getElem_set_self]; simp [hk]
       · rw [List.getElem_set_ne (by omega),List.getElem_set_ne (by omega),List.getElem_append_right (by simp [hk]; omega)]
         simp only [List.getElem_drop,hk]
         congr 1
         simp; omega
theorem spoilt_bytes {l : List Int} (h : Bytes l) (k : Nat) (d e : Int) (hk : k + 1 < l.length) : Bytes (spoilt l k d e) := by
 unfold spoilt; rw [split2 l k _ _ hk]
 refine (h.take k).app (Bytes.app ?_ (h.drop _))
 intro n hn; simp at hn; rcases hn with rfl | rfl <;> exact plus_in _ _
theorem spoilt_not {l : List Int} (h : Bytes l) (hz : sum l = 0) (k : Nat) (d e : Int) (hk : k + 1 < l.length) (hd : 0 ≤ d ∧ d < 256) (he : 0 ≤ e ∧ e < 256) (hne : ¬ (d = 0 ∧ e = 0)) : opens (spoilt l k d e) = false := by
 cases ho : opens (spoilt l k d e)
 · rfl
 · exfalso
   have hs := (opens_zero (spoilt_bytes h k d e hk) (by rw [spoilt_len]; omega)).1 ho
   have own : l = (l.set k (l.getD k 0)).set (k + 1) (l.getD (k + 1) 0) := by
    apply List.ext_getElem
    · simp
    · intro i h1 h2
      by_cases e2 : i = k + 1
      · subst e2; simp [List.getD_eq_getElem?_getD,h1]
      · rw [List.getElem_set_ne (by omega)]
        by_cases e1 : i = k
        · subst e1; simp [List.getD_eq_getElem?_getD,h1]
        · rw [List.getElem_set_ne (by omega)]
   have e1 := congrArg nats (own.trans (split2 l k _ _ hk))
   have e2 : nats (spoilt l k d e) = _ := congrArg nats (split2 l k (plus (l.getD k 0) d) (plus (l.getD (k + 1) 0) e) hk)
   rw [nats_app,nats_app] at e1 e2
   unfold sum at hz hs
   rw [e1] at hz
   rw [e2] at hs
   have g1 := h.getD k
   have g2 := h.getD (k + 1)
   have p1 := plus_in (l.getD k 0) d
   have p2 := plus_in (l.getD (k + 1) 0) e
   have t := pair_told 65535 (nats (l.take k)) (nats (l.drop (k + 2))) (l.getD k 0).toNat (l.getD (k + 1) 0).toNat (plus (l.getD k 0) d).toNat (plus (l.getD (k + 1) 0) e).toNat (by omega) (nats_lt (h.drop _)) (by omega) (by omega) (by omega) (by omega) (hz.trans hs.symm)
   have q1 : plus (l.getD k 0) d = l.getD k 0 := by omega
   have q2 : plus (l.getD (k + 1) 0) e = l.getD (k + 1) 0 := by omega
   exact hne ⟨plus_same hd q1,plus_same he q2⟩
theorem ofInt64 (a : Nat) (ha : a < 9223372036854775808) : (BitVec.ofInt 64 (a : Int)).toNat = a := by
 rw [BitVec.toNat_ofInt]; omega
theorem xor_i64_nat (a b : Nat) (ha : a < 65536) (hb : b < 65536) : Go.bits .xor .i64 (a : Int) (b : Int) = ((a ^^^ b : Nat) : Int) := by
 have h := xor_lt ha hb
 show IntKind.i64.wrap ((BitVec.ofInt 64 (a : Int) ^^^ BitVec.ofInt 64 (b : Int)).toNat : Int) = _
 rw [BitVec.toNat_xor,ofInt64 a (by omega),ofInt64 b (by omega),IntKind.wrap_i64]; omega
theorem and_i64_nat (a b : Nat) (ha : a < 9223372036854775808) (hb : b < 9223372036854775808) : Go.bits .and .i64 (a : Int) (b : Int) = ((a &&& b : Nat) : Int) := by
 have h : a &&& b ≤ a := Nat.and_le_left
 show IntKind.i64.wrap ((BitVec.ofInt 64 (a : Int) &&& BitVec.ofInt 64 (b : Int)).toNat : Int) = _
 rw [BitVec.toNat_and,ofInt64 a ha,ofInt64 b hb,IntKind.wrap_i64]; omega
theorem or_i64_nat (a b : Nat) (ha : a < 65536) (hb : b < 65536) : Go.bits .or .i64 (a : Int) (b : Int) = ((a ||| b : Nat) : Int) := by
 have h : a ||| b < 2 ^ 16 := Nat.or_lt_two_pow ha hb
 show IntKind.i64.wrap ((BitVec.ofInt 64 (a : Int) ||| BitVec.ofInt 64 (b : Int)).toNat : Int) = _
 rw [BitVec.toNat_or,ofInt64 a (by omega),ofInt64 b (by omega),IntKind.wrap_i64]; omega
theorem xor_byte (s c : Nat) (hs : s < 65536) (hc : c < 256) : Go.bits .xor .i64 (s : Int) ((c : Int) * 256) = ((s ^^^ (256 * c) : Nat) : Int) := by
 rw [← xor_i64_nat s (256 * c) hs (by omega)]; congr 1; omega
theorem and_low (x : Nat) (h : x < 65536) : Go.bits .and .i64 ((x : Int) * 2) 65535 = ((2 * x % 65536 : Nat) : Int) := by
 have e := and_i64_nat (2 * x) 65535 (by omega) (by omega)
 rw [show (65535 : Nat) = 2 ^ 16 - 1 by decide,Nat.and_two_pow_sub_one_eq_mod] at e
 rw [show (x : Int) * 2 = ((2 * x : Nat) : Int) by omega]
 exact e
theorem and_top (x : Nat) (h : x < 65536) : Go.bits .and .i64 (x : Int) 32768 = if 32768 ≤ x then 32768 else 0 := by
 have e := and_i64_nat x 32768 (by omega) (by omega)
 have q : x &&& 32768 = x % 65536 / 32768 * 32768 := nat_midmask 16 15 x (by decide)
 refine e.trans ?_
 rw [q]
 split <;> omega
theorem top_yes {x : Nat} (h : x < 65536) (k : 32768 ≤ x) : (Go.bits .and .i64 (x : Int) 32768 != 0) = true := by rw [and_top x h,if_pos k]; rfl
theorem top_no {x : Nat} (h : x < 65536) (k : ¬ 32768 ≤ x) : (Go.bits .and .i64 (x : Int) 32768 != 0) = false := by rw [and_top x h,if_neg k]; rfl
theorem bit1_yes {x : Nat} (k : 32768 ≤ x) : bit1 x = (2 * x % 65536) ^^^ 4129 := by unfold bit1; rw [if_pos k]
theorem bit1_no {x : Nat} (k : ¬ 32768 ≤ x) : bit1 x = 2 * x % 65536 := by unfold bit1; rw [if_neg k]
theorem step_yes {x : Nat} (h : x < 65536) (k : 32768 ≤ x) : Go.bits .xor .i64 (Go.bits .and .i64 ((x : Int) * 2) 65535) 4129 = ((bit1 x : Nat) : Int) := by
 rw [and_low x h,bit1_yes k]; exact xor_i64_nat _ 4129 (Nat.mod_lt _ (by omega)) (by omega)
theorem step_no {x : Nat} (h : x < 65536) (k : ¬ 32768 ≤ x) : Go.bits .and .i64 ((x : Int) * 2) 65535 = ((bit1 x : Nat) : Int) := by
 rw [and_low x h,bit1_no k]
theorem or_pair (h l : Int) (hh : 0 ≤ h ∧ h < 256) (hl : 0 ≤ l ∧ l < 256) : Go.bits .or .i64 (h * 256) l = h * 256 + l := by
 obtain ⟨a,rfl⟩ := Int.eq_ofNat_of_zero_le hh.1
 obtain ⟨b,rfl⟩ := Int.eq_ofNat_of_zero_le hl.1
 have e := or_i64_nat (2 ^ 8 * a) b (by omega) (by omega)
 rw [← Nat.two_pow_add_eq_or_of_lt (i := 8) (b := b) (by omega) a] at e
 rw [show (a : Int) * 256 = ((2 ^ 8 * a : Nat) : Int) by omega]
 rw [e]; omega
end Cr
namespace Wd
open Cr (Bytes)
theorem or_i64_wide (a b : Nat) (ha : a < 1099511627776) (hb : b < 1099511627776) : Go.bits .or .i64 (a : Int) (b : Int) = ((a ||| b : Nat) : Int) := by
 have h : a ||| b < 2 ^ 40 := Nat.or_lt_two_pow (by omega) (by omega)
 show IntKind.i64.wrap ((BitVec.ofInt 64 (a : Int) ||| BitVec.ofInt 64 (b : Int)).toNat : Int) = _
 rw [BitVec.toNat_or,Cr.ofInt64 a (by omega),Cr.ofInt64 b (by omega),IntKind.wrap_i64]; omega
theorem or_next (h l : Int) (hh : 0 ≤ h ∧ h < 16777216) (hl : 0 ≤ l ∧ l < 256) : Go.bits .or .i64 (h * 256) l = h * 256 + l := by
 obtain ⟨a,rfl⟩ := Int.eq_ofNat_of_zero_le hh.1
 obtain ⟨b,rfl⟩ := Int.eq_ofNat_of_zero_le hl.1
 have e := or_i64_wide (2 ^ 8 * a) b (by omega) (by omega)
 rw [← Nat.two_pow_add_eq_or_of_lt (i := 8) (b := b) (by omega) a] at e
 rw [show (a : Int) * 256 = ((2 ^ 8 * a : Nat) : Int) by omega]
 rw [e]; omega
def val (l : List Int) : Int := l.foldl (fun n c => n * 256 + c) 0
theorem val_snoc (l : List Int) (c : Int) : val (l ++ [c]) = val l * 256 + c := by unfold val; rw [List.foldl_append]; rfl
theorem val_next (l : List Int) (k : Nat) (h : k < l.length) : val (l.take (k + 1)) = val (l.take k) * 256 + l.getD k 0 := by
 rw [List.take_succ_eq_append_getElem h,val_snoc]; simp [List.getD_eq_getElem?_getD,h]
theorem val_in {l : List Int} (hy : Bytes l) (k : Nat) (hk : k ≤ l.length) (h4 : k ≤ 4) : 0 ≤ val (l.take k) ∧ val (l.take k) < 4294967296 ∧ (k < 4 → val (l.take k) < 16777216) := by
 have h0 : val (l.take 0) = 0 := by rw [List.take_zero]; rfl
 have s := fun j (hj : j < l.length) => val_next l j hj
 have b := fun j => hy.getD j
 have c : k = 0 ∨ k = 1 ∨ k = 2 ∨ k = 3 ∨ k = 4 := by omega
 rcases c with rfl | rfl | rfl | rfl | rfl
 · omega
 · have s0 := s 0 (by omega); have b0 := b 0; simp only [Nat.zero_add] at s0; omega
 · have s0 := s 0 (by omega); have b0 := b 0; have s1 := s 1 (by omega); have b1 := b 1; simp only [Nat.zero_add,Nat.reduceAdd] at s0 s1; omega
 · have s0 := s 0 (by omega); have b0 := b 0; have s1 := s 1 (by omega); have b1 := b 1; have s2 := s 2 (by omega); have b2 := b 2; simp only [Nat.zero_add,Nat.reduceAdd] at s0 s1 s2; omega
 · have s0 := s 0 (by omega); have b0 := b 0; have s1 := s 1 (by omega); have b1 := b 1; have s2 := s 2 (by omega); have b2 := b 2; have s3 := s 3 (by omega); have b3 := b 3; simp only [Nat.zero_add,Nat.reduceAdd] at s0 s1 s2 s3; omega
theorem val_all (l : List Int) : val (l.take l.length) = val l := by rw [List.take_of_length_le (Nat.le_refl _)]
theorem val_two {l : List Int} (h : l.length = 2) : val l = get2v l := by
 rw [get2v_yes h]
 match l,h with
 | [a,b],_ => show (0 * 256 + a) * 256 + b = 256 * a + b; omega
theorem val_four' {l : List Int} (h : l.length = 4) : down (val l) = get4v l := by
 rw [get4v_yes h]
 match l,h with
 | [a,b,c,d],_ => 
   show down ((((0 * 256 + a) * 256 + b) * 256 + c) * 256 + d) = down (256 * (256 * (256 * a + b) + c) + d)
   congr 1; omega
def byteAt (n : Int) (s : Nat) : Int := n / ((2 ^ s : Nat) : Int) % 256
def wbytes (n : Int) (m : Nat) : List Int := (List.range m).map fun i => byteAt n (8 * (m - 1 - i))
theorem wbytes_len (n : Int) (m : Nat) : (wbytes n m).length = m := by simp [wbytes]
theorem wbytes_next (n : Int) (m k : Nat) (h : k < m) : (wbytes n m).take (k + 1) = (wbytes n m).take k ++ [byteAt n (8 * (m - 1 - k))] := by
 rw [List.take_succ_eq_append_getElem (by rw [wbytes_len]; exact h)]; simp [wbytes]
theorem wbytes_2 {n : Int} (h : in2 n = true) : wbytes n 2 = put2 n := by
 have := (in2_iff n).1 h
 rw [put2_yes h]
 show [n / 256 % 256,n / 1 % 256] = [n / 256,n % 256]
 have e1 : n / 256 % 256 = n / 256 := by omega
 have e2 : n / 1 % 256 = n % 256 := by omega
 rw [e1,e2]
theorem wbytes_4 {n : Int} (h : in4 n = true) : wbytes n 4 = put4 n := by
 have hn := (in4_iff n).1 h
 rw [put4_yes h]
 show [n / 16777216 % 256,n / 65536 % 256,n / 256 % 256,n / 1 % 256] = [up n / 16777216,up n / 65536 % 256,up n / 256 % 256,up n % 256]
 have e1 : n / 16777216 % 256 = up n / 16777216 := by unfold up; split <;> omega
 have e2 : n / 65536 % 256 = up n / 65536 % 256 := by unfold up; split <;> omega
 have e3 : n / 256 % 256 = up n / 256 % 256 := by unfold up; split <;> omega
 have e4 : n / 1 % 256 = up n % 256 := by unfold up; split <;> omega
 rw [e1,e2,e3,e4]
theorem splice_nil (cur : List Int) (off : Nat) : splice cur off [] = cur := by unfold splice; simp
theorem splice_len (cur : List Int) (off : Nat) (c : List Int) (h : off + c.length ≤ cur.length) : (splice cur off c).length = cur.length := by unfold splice; simp; omega
theorem splice_next (cur : List Int) (off : Nat) (c : List Int) (x : Int) (h : off + c.length < cur.length) : (splice cur off c).set (off + c.length) x = splice cur off (c ++ [x]) := by
 unfold splice
 rw [List.set_append_right _ _ (by rw [List.length_take]; omega),List.length_take,Nat.min_eq_left (by omega),Nat.add_sub_cancel_left,List.set_append_right _ _ (Nat.le_refl _),Nat.sub_self]
 have e : cur.drop (off + c.length) = cur[off + c.length] :: cur.drop (off + c.length + 1) := List.drop_eq_getElem_cons h
 rw [e,List.set_cons_zero,List.length_append,List.length_singleton,← Nat.add_assoc]; simp
def fillB (l : List Int) : List Nat → List Int := List.foldl (fun cur i => splice cur (4 * i) (put4 (l.getD i 0))) (List.replicate (4 * l.length) 0)
theorem fillB_snoc (l : List Int) (p : List Nat) (i : Nat) : fillB l (p ++ [i]) = splice (fillB l p) (4 * i) (put4 (l.getD i 0)) := by unfold fillB; rw [List.foldl_append]; rfl
theorem in4_at {l : List Int} (h : l.all in4 = true) {i : Nat} (hi : i < l.length) : in4 (l.getD i 0) = true := by
 rw [List.all_eq_true] at h
 have := h (l[i]) (List.getElem_mem hi)
 simpa [List.getD_eq_getElem?_getD,hi] using this
theorem fillB_len {l : List Int} (h : l.all in4 = true) (p : List Nat) (hp : ∀ i ∈ p,i < l.length) : (fillB l p).length = 4 * l.length := by
 have key : ∀ (p : List Nat) (cur : List Int),cur.length = 4 * l.length → (∀ i ∈ p,i < l.length) → (p.foldl (fun cur i => splice cur (4 * i) (put4 (l.getD i 0))) cur).length = 4 * l.length := by
  intro p
  induction p with
  | nil => intro cur hc _; exact hc
  | cons i p ih =>
    intro cur hc hp
    have hi := hp i (by simp)
    rw [List.foldl_cons]
    refine ih _ ?_ (fun j hj => hp j (by simp [hj]))
    rw [splice_len _ _ _ (by rw [put4_len (in4_at h hi),hc]; omega),hc]
 exact key p _ (by simp) hp
theorem fillB_range {l : List Int} (h : l.all in4 = true) (k : Nat) (hk : k ≤ l.length) : fillB l (List.range k) = fours (l.take k) ++ List.replicate (4 * (l.length - k)) 0 := by
 induction k with
 | zero => simp [fillB,fours]
 | succ k ih =>
   have hin := in4_at h (show k < l.length by omega)
   have hl : (fours (l.take k)).length = 4 * k := by
    rw [fours_len _ (by rw [List.all_eq_true] at h ⊢; exact fun x hx => h x (List.mem_of_mem_take hx)),List.length_take]; omega
   rw [List.range_succ,fillB_snoc,ih (by omega),fours_next l k (by omega)]
   unfold splice
   rw [put4_len hin,List.take_append_of_le_length (by omega),List.take_of_length_le (by omega),List.drop_append,List.drop_of_length_le (by omega),hl]
   simp; omega
theorem fillB_all {l : List Int} (h : l.all in4 = true) : fillB l (List.range l.length) = putAll l := by
 rw [fillB_range h _ (Nat.le_refl _),putAll_yes h,List.take_of_length_le (Nat.le_refl _)]; simp
def fillI (l : List Int) (m : Nat) : List Nat → List Int := List.foldl (fun cur i => cur.set i (get4v ((l.drop (4 * i)).take 4))) (List.replicate m 0)
theorem fillI_snoc (l : List Int) (m : Nat) (p : List Nat) (i : Nat) : fillI l m (p ++ [i]) = (fillI l m p).set i (get4v ((l.drop (4 * i)).take 4)) := by unfold fillI; rw [List.foldl_append]; rfl
theorem fillI_len (l : List Int) (m : Nat) (p : List Nat) : (fillI l m p).length = m := by
 have key : ∀ (p : List Nat) (cur : List Int),cur.length = m → (p.foldl (fun cur i => cur.set i (get4v ((l.drop (4 * i)).take 4))) cur).length = m := by
  intro p
  induction p with
  | nil => intro cur hc; exact hc
  | cons i p ih => intro cur hc; rw [List.foldl_cons]; exact ih _ (by rw [List.length_set,hc])
 exact key p _ (by simp)
theorem fillI_range (l : List Int) (m : Nat) (hl : l.length = 4 * m) (k : Nat) (hk : k ≤ m) : fillI l m (List.range k) = nums (l.take (4 * k)) ++ List.replicate (m - k) 0 := by
 induction k with
 | zero => simp [fillI,nums]
 | succ k ih =>
   have hn : (nums (l.take (4 * k))).length = k := nums_len k _ (by rw [List.length_take]; omega)
   rw [List.range_succ,fillI_snoc,ih (by omega),nums_next l k (by omega),List.set_append_right _ _ (by omega),hn,Nat.sub_self]
   obtain ⟨j,hj⟩ : ∃ j,m - k = j + 1 := ⟨m - k - 1,by omega⟩
   rw [hj,List.replicate_succ,List.set_cons_zero,show m - (k + 1) = j by omega]; simp
theorem fillI_all (l : List Int) (m : Nat) (hl : l.length = 4 * m) : fillI l m (List.range m) = getAll l := by
 rw [fillI_range l m hl m (Nat.le_refl _),getAll_yes (by omega),List.take_of_length_le (by omega)]; simp
theorem piece_bytes {l : List Int} (h : Bytes l) (i : Nat) : Bytes ((l.drop (4 * i)).take 4) := (h.drop _).take _
theorem piece_len {l : List Int} {m i : Nat} (hl : l.length = 4 * m) (h : i < m) : ((l.drop (4 * i)).take 4).length = 4 := by rw [List.length_take,List.length_drop]; omega
end Wd
namespace Fm
open Wd
open Cr (Bytes sealed opens opened sum sealed_len sealed_bytes sealed_opens sealed_sum opens_zero spoilt spoilt_not plus plus_in opens_iff)
def right (s : Int) (vs : List Int) : Bool := vs.all in4 && in2 s
def chan (c : Int) : Bool := decide (0 ≤ c) && decide (c ≤ 3)
theorem chan_iff (c : Int) : chan c = true ↔ 0 ≤ c ∧ c ≤ 3 := by unfold chan; simp
theorem right_iff (s : Int) (vs : List Int) : right s vs = true ↔ vs.all in4 = true ∧ in2 s = true := by unfold right; simp
def head (c s : Int) (vs : List Int) : List Int := [165,c] ++ (put2 s ++ fours vs)
def enc (c s : Int) (vs : List Int) : List Int := if right s vs = true ∧ chan c = true then sealed (head c s vs) else []
def encE (c s : Int) (vs : List Int) : Int := if right s vs = true ∧ chan c = true then 0 else 1
theorem enc_yes {c s : Int} {vs : List Int} (h : right s vs = true) (k : chan c = true) : enc c s vs = sealed (head c s vs) := by unfold enc; rw [if_pos ⟨h,k⟩]
theorem encE_yes {c s : Int} {vs : List Int} (h : right s vs = true) (k : chan c = true) : encE c s vs = 0 := by unfold encE; rw [if_pos ⟨h,k⟩]
theorem put2_len {s : Int} (h : in2 s = true) : (put2 s).length = 2 := by rw [put2_yes h]; rfl
theorem head_len {c s : Int} {vs : List Int} (h : right s vs = true) (h8 : vs.length = 8) : (head c s vs).length = 36 := by
 obtain ⟨h1,h2⟩ := (right_iff s vs).1 h
 unfold head
 rw [List.length_append,List.length_append,put2_len h2,fours_len vs h1,h8]; rfl
theorem head_bytes {c s : Int} {vs : List Int} (k : chan c = true) : Bytes (head c s vs) := by
 have := (chan_iff c).1 k
 intro x hx
 unfold head at hx
 rcases List.mem_append.1 hx with hx | hx
 · simp at hx; rcases hx with rfl | rfl <;> omega
 · rcases List.mem_append.1 hx with hx | hx
   · exact put2_bytes s x hx
   · exact fours_bytes vs x hx
theorem enc_len {c s : Int} {vs : List Int} (h : right s vs = true) (k : chan c = true) (h8 : vs.length = 8) : (enc c s vs).length = 38 := by rw [enc_yes h k,sealed_len,head_len h h8]
theorem enc_bytes {c s : Int} {vs : List Int} : Bytes (enc c s vs) := by
 unfold enc
 split
 · rename_i h; exact sealed_bytes (head_bytes h.2)
 · intro x hx; cases hx
def rej (c : Int) (is : Bool) (b : List Int) : Int :=
 if is = false then 1 else if b.length ≠ 38 then 2 else if b.getD 0 0 ≠ 165 then 3 else if b.getD 1 0 ≠ c then 4 else if opens b = false then 5 else 0
def fseq (b : List Int) : Int := get2v ((b.drop 2).take 2)
def fvals (b : List Int) : List Int := nums ((b.drop 4).take 32)
def dec (c : Int) (is : Bool) (b : List Int) : List Int := if rej c is b = 0 then fseq b :: fvals b else List.replicate 9 0
theorem rej_other {c : Int} {b : List Int} (h : b.length = 38) (h0 : b.getD 0 0 = 165) (h1 : b.getD 1 0 ≠ c) : rej c true b = 4 := by
 unfold rej; rw [if_neg (by simp),if_neg (by simp [h]),if_neg (by simpa using h0),if_pos h1]
theorem rej_fine {c : Int} {b : List Int} (h : b.length = 38) (h0 : b.getD 0 0 = 165) (h1 : b.getD 1 0 = c) (h2 : opens b = true) : rej c true b = 0 := by
 unfold rej; rw [if_neg (by simp),if_neg (by simp [h]),if_neg (by simpa using h0),if_neg (by simpa using h1),if_neg (by simp [h2])]
theorem fine_iff {c : Int} {is : Bool} {b : List Int} (h : rej c is b = 0) : is = true ∧ b.length = 38 ∧ b.getD 0 0 = 165 ∧ b.getD 1 0 = c ∧ opens b = true := by
 unfold rej at h
 cases is
 · simp at h
 · refine ⟨rfl,?_⟩
   by_cases h1 : b.length = 38
   · by_cases h2 : b.getD 0 0 = 165
     · by_cases h3 : b.getD 1 0 = c
       · cases h4 : opens b
         · rw [if_neg (by simp),if_neg (by simp [h1]),if_neg (by simpa using h2),if_neg (by simpa using h3),if_pos h4] at h; cases h
         · exact ⟨h1,h2,h3,rfl⟩
       · rw [if_neg (by simp),if_neg (by simp [h1]),if_neg (by simpa using h2),if_pos h3] at h; cases h
     · rw [if_neg (by simp),if_neg (by simp [h1]),if_pos h2] at h; cases h
   · rw [if_neg (by simp),if_pos h1] at h; cases h
theorem dec_no {c : Int} {is : Bool} {b : List Int} (h : rej c is b ≠ 0) : dec c is b = List.replicate 9 0 := by unfold dec; rw [if_neg h]
theorem dec_yes {c : Int} {is : Bool} {b : List Int} (h : rej c is b = 0) : dec c is b = fseq b :: fvals b := by unfold dec; rw [if_pos h]
theorem enc_shape {c s : Int} {vs : List Int} (h : right s vs = true) (k : chan c = true) : ∃ p q,enc c s vs = [165,c] ++ (put2 s ++ (fours vs ++ [p,q])) := by
 rw [enc_yes h k]
 unfold sealed head
 exact ⟨_,_,by rw [List.append_assoc,List.append_assoc]⟩
theorem enc_at {c s : Int} {vs : List Int} (h : right s vs = true) (k : chan c = true) : (enc c s vs).getD 0 0 = 165 ∧ (enc c s vs).getD 1 0 = c := by
 obtain ⟨p,q,e⟩ := enc_shape h k
 rw [e]; exact ⟨rfl,rfl⟩
theorem enc_opens {c s : Int} {vs : List Int} (h : right s vs = true) (k : chan c = true) : opens (enc c s vs) = true := by rw [enc_yes h k]; exact sealed_opens (head_bytes k)
theorem enc_parts {c s : Int} {vs : List Int} (h : right s vs = true) (k : chan c = true) (h8 : vs.length = 8) : fseq (enc c s vs) = s ∧ fvals (enc c s vs) = vs := by
 obtain ⟨h1,h2⟩ := (right_iff s vs).1 h
 obtain ⟨p,q,e⟩ := enc_shape h k
 have l2 := put2_len h2
 have lf := fours_len vs h1
 have d2 : (enc c s vs).drop 2 = put2 s ++ (fours vs ++ [p,q]) := by rw [e]; rfl
 have d4 : (enc c s vs).drop 4 = fours vs ++ [p,q] := by
  rw [show (4 : Nat) = 2 + 2 by rfl,← List.drop_drop,d2,List.drop_append,l2,List.drop_of_length_le (by omega)]; simp
 unfold fseq fvals
 rw [d2,d4,List.take_append_of_le_length (by omega),List.take_of_length_le (by omega),List.take_append_of_le_length (by omega),List.take_of_length_le (by omega)]
 exact ⟨(get2_put2 s).2 h2,nums_fours vs h1⟩
theorem enc_rej {c s : Int} {vs : List Int} (h : right s vs = true) (k : chan c = true) (h8 : vs.length = 8) (j : Int) : rej j true (enc c s vs) = if j = c then 0 else 4 := by
 obtain ⟨e0,e1⟩ := enc_at h k
 split
 · rename_i hj; subst hj; exact rej_fine (enc_len h k h8) e0 e1 (enc_opens h k)
 · rename_i hj; exact rej_other (enc_len h k h8) e0 (by rw [e1]; exact fun q => hj q.symm)
theorem enc_dec {c s : Int} {vs : List Int} (h : right s vs = true) (k : chan c = true) (h8 : vs.length = 8) : dec c true (enc c s vs) = s :: vs := by
 obtain ⟨p1,p2⟩ := enc_parts h k h8
 rw [dec_yes (by rw [enc_rej h k h8,if_pos rfl]),p1,p2]
theorem cut2 (l : List Int) (h : l.length = 2) : ∃ x y,l = [x,y] := by
 match l,h with
 | [x,y],_ => exact ⟨x,y,rfl⟩
theorem dec_right {b : List Int} (hl : b.length = 38) (hy : Bytes b) : right (fseq b) (fvals b) = true ∧ (fvals b).length = 8 ∧ put2 (fseq b) = (b.drop 2).take 2 ∧ fours (fvals b) = (b.drop 4).take 32 := by
 have y2 : Bytes ((b.drop 2).take 2) := (hy.drop _).take _
 have y4 : Bytes ((b.drop 4).take 32) := (hy.drop _).take _
 have l2 : ((b.drop 2).take 2).length = 2 := by rw [List.length_take,List.length_drop]; omega
 have l4 : ((b.drop 4).take 32).length = 4 * 8 := by rw [List.length_take,List.length_drop]; omega
 obtain ⟨x,y,e⟩ := cut2 _ l2
 have hx := y2 x (by rw [e]; simp)
 have hyy := y2 y (by rw [e]; simp)
 have ef : fseq b = 256 * x + y := by unfold fseq; rw [e]; rfl
 have i2 : in2 (fseq b) = true := (in2_iff _).2 (by omega)
 refine ⟨(right_iff _ _).2 ⟨nums_in 8 _ l4 y4,i2⟩,nums_len 8 _ l4,?_,fours_nums 8 _ l4 y4⟩
 rw [put2_yes i2,e,ef]
 have e1 : (256 * x + y) / 256 = x := by omega
 have e2 : (256 * x + y) % 256 = y := by omega
 rw [e1,e2]
theorem back {c : Int} {is : Bool} {b : List Int} (h : rej c is b = 0) (k : chan c = true) (hy : Bytes b) : right (fseq b) (fvals b) = true ∧ (fvals b).length = 8 ∧ enc c (fseq b) (fvals b) = b := by
 obtain ⟨_,hl,h0,h1,ho⟩ := fine_iff h
 obtain ⟨r,l8,p2,p4⟩ := dec_right hl hy
 refine ⟨r,l8,?_⟩
 rw [enc_yes r k]
 have hh : head c (fseq b) (fvals b) = b.take 36 := by
  unfold head
  rw [p2,p4]
  apply List.ext_getElem
  · simp; omega
  · intro i i1 i2
    simp at i2
    have hi : i < b.length := by omega
    by_cases c0 : i < 2
    · have hb0 : b[0]'(by omega) = 165 := by simpa [List.getD_eq_getElem?_getD,show 0 < b.length by omega] using h0
      have hb1 : b[1]'(by omega) = c := by simpa [List.getD_eq_getElem?_getD,show 1 < b.length by omega] using h1
      have : i = 0 ∨ i = 1 := by omega
      rcases this with rfl | rfl
      · simpa using hb0.symm
      · simpa using hb1.symm
    · rw [List.getElem_append_right (by simpa using (by omega : 2 ≤ i))]
      by_cases c1 : i < 4
      · rw [List.getElem_append_left (by simp; omega)]
        simp
        congr 1; omega
      · rw [List.getElem_append_right (by simp; omega)]
        simp
        congr 1; omega
 obtain ⟨_,o1,o2⟩ := (opens_iff b).1 ho
 rw [hl] at o1 o2
 unfold sealed
 rw [hh]
 have t := Cr.take_getD b 36 hl
 rw [show 38 - 2 = 36 by rfl] at o1 o2
 rw [show 38 - 1 = 37 by rfl] at o2
 rw [← o1,← o2]
 exact t.symm
end Fm
namespace Fh
open Wd Fm
open Cr (Bytes)
def jr (c last : Int) (has is : Bool) (l : List Int) : Int := if rej c is l = 0 then (if has = true ∧ fseq l ≠ next last then 6 else 0) else rej c is l
def jf (c last : Int) (has is : Bool) (l : List Int) : List Int := if jr c last has is l = 0 then dec c is l else List.replicate 9 0
def jl (c last : Int) (is : Bool) (l : List Int) : Int := if rej c is l = 0 then fseq l else last
def jh (c : Int) (has is : Bool) (l : List Int) : Bool := if rej c is l = 0 then true else has
theorem rej_range (c : Int) (is : Bool) (l : List Int) : 0 ≤ rej c is l ∧ rej c is l ≤ 5 := by
 unfold rej
 repeat' split
 all_goals omega
theorem jr_range (c last : Int) (has is : Bool) (l : List Int) : 0 ≤ jr c last has is l ∧ jr c last has is l ≤ 6 := by
 have := rej_range c is l
 unfold jr
 repeat' split
 all_goals omega
section
variable {c last : Int} {has is : Bool} {l : List Int}
theorem jr_no (h : rej c is l ≠ 0) : jr c last has is l = rej c is l := by unfold jr; rw [if_neg h]
theorem jf_no (h : rej c is l ≠ 0) : jf c last has is l = List.replicate 9 0 := by unfold jf; rw [jr_no h,if_neg h]
theorem jl_no (h : rej c is l ≠ 0) : jl c last is l = last := by unfold jl; rw [if_neg h]
theorem jh_no (h : rej c is l ≠ 0) : jh c has is l = has := by unfold jh; rw [if_neg h]
theorem jl_yes (h : rej c is l = 0) : jl c last is l = fseq l := by unfold jl; rw [if_pos h]
theorem jh_yes (h : rej c is l = 0) : jh c has is l = true := by unfold jh; rw [if_pos h]
theorem jr_stale (h : rej c is l = 0) (hh : has = true) (hs : fseq l ≠ next last) : jr c last has is l = 6 := by unfold jr; rw [if_pos h,if_pos ⟨hh,hs⟩]
theorem jf_stale (h : rej c is l = 0) (hh : has = true) (hs : fseq l ≠ next last) : jf c last has is l = List.replicate 9 0 := by unfold jf; rw [jr_stale h hh hs,if_neg (by decide)]
theorem jr_fine (h : rej c is l = 0) (hs : has = false ∨ fseq l = next last) : jr c last has is l = 0 := by
 unfold jr; rw [if_pos h,if_neg]; rintro ⟨h1,h2⟩; rcases hs with hs | hs
 · rw [hs] at h1; cases h1
 · exact h2 hs
theorem jf_fine (h : rej c is l = 0) (hs : has = false ∨ fseq l = next last) : jf c last has is l = fseq l :: fvals l := by unfold jf; rw [jr_fine h hs,if_pos rfl,dec_yes h]
end
def one (n : List Int) (r : Nat) : List Int := n.set r (n.getD r 0 + 1)
end Fh
end Go.Proofs.YticidhbnljdidaaGreatDoor
