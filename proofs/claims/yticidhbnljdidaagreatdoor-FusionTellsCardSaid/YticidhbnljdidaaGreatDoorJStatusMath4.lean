/-
 What is told of a signal, as mathematics: whether a status may be, its word, the status of a word, its mode, its text. No function of the program is walked here. No conditions.
 What a cycle sends, as mathematics: whether an output may be, its bytes, the output of bytes; there and back; one byte changed. No function of the program is walked here. No conditions.
 Trips as texts, in numbers and lists: names, texts, what a text's pieces come to, what is in a mask. Nothing of a program here. No conditions.
 Notes, their texts, and a ring's last ones, in numbers and lists. Nothing of a program here. No conditions.
-/
import Derived.Test.YticidhbnljdidaaGreatDoorFixMath
import Derived.Lib.Join
import Derived.Test.YticidhbnljdidaaGreatDoorJWordMath6
import Derived.Lib.Bytealg
import Derived.Lib.ItoaNum
import Derived.Lib.ItoaLen
namespace Go.Proofs.YticidhbnljdidaaGreatDoor
set_option maxRecDepth 100000
open Go.RowKit
namespace Ss
open Fx
structure St where
 i : Int
 l : Int
 s : Int
 f : Bool
def mk (n : Int) : Bool := decide (0 ≤ n ∧ n < 16)
def rgt (s : St) : Bool := mk s.i && mk s.l && (s.f == (s.i == 0)) && (s.s == -1 || has s.i s.s)
def sw (s : Int) : Int := if s = -1 then 7 else s
def fw (f : Bool) : Int := if f then 2048 else 0
def wrd (s : St) : Int := s.i + s.l * 16 + sw s.s * 256 + fw s.f
def wdv (s : St) : Int := if rgt s then wrd s else 0
def wde (s : St) : Int := if rgt s then 0 else 1
def zer : St := ⟨0,0,0,false⟩
def sp (q : Int) : Int := if q = 7 then -1 else q
def parts (n : Int) : St := ⟨n.tmod 16,(n.tmod 256).tdiv 16,sp ((n.tmod 2048).tdiv 256),n.tdiv 2048 == 1⟩
def isw (n : Int) : Bool := rgt (parts n) && (wrd (parts n) == n)
def prs (n : Int) : St := if isw n then parts n else zer
def pre (n : Int) : Int := if isw n then 0 else 3
theorem mk_iff (n : Int) : mk n = true ↔ 0 ≤ n ∧ n < 16 := by unfold mk; simp
theorem tab_has : ((List.range 16).all fun m => (List.range 16).all fun i => !has (m : Int) (i : Int) || decide (i < 4)) = true := by decide +kernel
theorem has_lt {m i : Int} (h : mk m = true) (hh : has m i = true) : 0 ≤ i ∧ i < 4 := by
 have hm := (mk_iff m).1 h
 by_cases hi : 0 ≤ m ∧ m < 65536 ∧ 0 ≤ i ∧ i < 16
 · have := List.all_eq_true.1 (List.all_eq_true.1 tab_has m.toNat (List.mem_range.2 (by omega))) i.toNat (List.mem_range.2 (by omega))
   rw [show ((m.toNat : Nat) : Int) = m by omega,show ((i.toNat : Nat) : Int) = i by omega,hh] at this
   simp at this
   omega
 · rw [has_out m i hi] at hh; cases hh
theorem rgt_bd {s : St} (h : rgt s = true) : (0 ≤ s.i ∧ s.i < 16) ∧ (0 ≤ s.l ∧ s.l < 16) ∧ (-1 ≤ s.s ∧ s.s < 4) ∧ s.f = (s.i == 0) ∧ (s.s = -1 ∨ has s.i s.s = true) := by
 unfold rgt at h
 simp only [Bool.and_eq_true,Bool.or_eq_true] at h
 obtain ⟨⟨⟨h1,h2⟩,h3⟩,h4⟩ := h
 have e3 : s.f = (s.i == 0) := by simpa using h3
 have e4 : s.s = -1 ∨ has s.i s.s = true := by simpa using h4
 refine ⟨(mk_iff _).1 h1,(mk_iff _).1 h2,?_,e3,e4⟩
 rcases e4 with e | e
 · omega
 · have := has_lt h1 e; omega
theorem wrd_bd {s : St} (h : rgt s = true) : 0 ≤ wrd s ∧ wrd s < 4096 := by
 obtain ⟨a,b,c,_,_⟩ := rgt_bd h
 unfold wrd sw fw
 split <;> split <;> omega
theorem back {s : St} (h : rgt s = true) : parts (wrd s) = s := by
 have hb := wrd_bd h
 obtain ⟨a,b,c,d,e⟩ := rgt_bd h
 unfold parts
 obtain ⟨i,l,q,f⟩ := s
 simp only at *
 have e1 : (wrd ⟨i,l,q,f⟩).tmod 16 = i := by
  rw [Int.tmod_eq_emod_of_nonneg hb.1]
  unfold wrd sw fw; simp only
  split <;> split <;> omega
 have e2 : ((wrd ⟨i,l,q,f⟩).tmod 256).tdiv 16 = l := by
  rw [Int.tmod_eq_emod_of_nonneg hb.1,Int.tdiv_eq_ediv_of_nonneg (by omega)]
  unfold wrd sw fw; simp only
  split <;> split <;> omega
 have e3 : sp (((wrd ⟨i,l,q,f⟩).tmod 2048).tdiv 256) = q := by
  rw [Int.tmod_eq_emod_of_nonneg hb.1,Int.tdiv_eq_ediv_of_nonneg (by omega)]
  unfold sp wrd sw fw; simp only
  split <;> split <;> split <;> omega
 have e4 : ((wrd ⟨i,l,q,f⟩).tdiv 2048 == 1) = f := by
  rw [Int.tdiv_eq_ediv_of_nonneg hb.1]
  unfold wrd sw fw; simp only
  cases f
  · simp; split <;> omega
  · simp; split <;> omega
 rw [e1,e2,e3,e4]
theorem isw_wrd {s : St} (h : rgt s = true) : isw (wrd s) = true := by
 unfold isw; rw [back h,h]; simp
theorem prs_wrd {s : St} (h : rgt s = true) : prs (wrd s) = s := by unfold prs; rw [if_pos (isw_wrd h),back h]
end Ss
namespace Ot
open Wd Fm
open Ss (St rgt wrd prs pre isw zer)
open Cr (Bytes sealed opens opened sum sealed_len sealed_bytes sealed_opens sealed_opened sealed_sum opens_iff opened_yes)
structure Ou where
 q : Int
 v : List Int
 s : List St
structure Ok (o : Ou) : Prop where
 v : o.v.length = 8
 s : o.s.length = 8
def zou : Ou := ⟨0,List.replicate 8 0,List.replicate 8 zer⟩
theorem ok_zou : Ok zou := ⟨rfl,rfl⟩
def orgt (o : Ou) : Bool := in2 o.q && o.v.all in4 && o.s.all rgt
def fl (l : List St) : Nat := (l.filter fun s => s.f).length
def wds (l : List St) : List Int := l.flatMap fun s => put2 (wrd s)
def head (o : Ou) : List Int := [90,(fl o.s : Int)] ++ (put2 o.q ++ (fours o.v ++ wds o.s))
def enc (o : Ou) : List Int := if orgt o = true then sealed (head o) else []
def encE (o : Ou) : Int := if orgt o = true then 0 else 1
def wd (x : List Int) (i : Nat) : Int := get2v ((x.drop (36 + 2 * i)).take 2)
def oq (x : List Int) : Int := get2v ((x.drop 2).take 2)
def ov (x : List Int) : List Int := nums ((x.drop 4).take 32)
def sts (x : List Int) (n : Nat) : List St := (List.range n).map fun i => prs (wd x i)
def parts (x : List Int) : Ou := ⟨oq x,ov x,sts x 8⟩
def woks (x : List Int) (n : Nat) : Bool := (List.range n).all fun i => isw (wd x i)
def iso (b : List Int) : Bool := b.length == 54 && b.getD 0 0 == 90 && opens b && woks (b.take 52) 8 && ((fl (parts (b.take 52)).s : Int) == b.getD 1 0)
def dec (b : List Int) : Ou := if iso b = true then parts (b.take 52) else zou
def decE (b : List Int) : Int := if iso b = true then 0 else 3
theorem orgt_iff (o : Ou) : orgt o = true ↔ in2 o.q = true ∧ o.v.all in4 = true ∧ o.s.all rgt = true := by unfold orgt; simp [and_assoc]
theorem enc_yes {o : Ou} (h : orgt o = true) : enc o = sealed (head o) := by unfold enc; rw [if_pos h]
theorem encE_yes {o : Ou} (h : orgt o = true) : encE o = 0 := by unfold encE; rw [if_pos h]
theorem dec_yes {b : List Int} (h : iso b = true) : dec b = parts (b.take 52) := by unfold dec; rw [if_pos h]
theorem dec_no {b : List Int} (h : iso b = false) : dec b = zou := by unfold dec; rw [if_neg (by rw [h]; decide)]
theorem decE_yes {b : List Int} (h : iso b = true) : decE b = 0 := by unfold decE; rw [if_pos h]
theorem decE_no {b : List Int} (h : iso b = false) : decE b = 3 := by unfold decE; rw [if_neg (by rw [h]; decide)]
theorem fl_le (l : List St) : fl l ≤ l.length := List.length_filter_le _ _
theorem wrd_in2 {s : St} (h : rgt s = true) : in2 (wrd s) = true := by
 have := Ss.wrd_bd h
 exact (in2_iff _).2 (by omega)
theorem wds_len {l : List St} (h : l.all rgt = true) : (wds l).length = 2 * l.length := by
 induction l with
 | nil => rfl
 | cons a t ih =>
   rw [List.all_cons,Bool.and_eq_true] at h
   have e : wds (a :: t) = put2 (wrd a) ++ wds t := by unfold wds; rw [List.flatMap_cons]
   rw [e,List.length_append,ih h.2,put2_len (wrd_in2 h.1),List.length_cons]; omega
theorem wds_bytes (l : List St) : Bytes (wds l) := by
 intro x hx
 unfold wds at hx
 obtain ⟨s,_,h⟩ := List.mem_flatMap.1 hx
 exact put2_bytes _ x h
theorem wds_snoc (l : List St) (s : St) : wds (l ++ [s]) = wds l ++ put2 (wrd s) := by unfold wds; rw [List.flatMap_append]; simp
theorem wds_next (l : List St) (k : Nat) (h : k < l.length) : wds (l.take (k + 1)) = wds (l.take k) ++ put2 (wrd (l.getD k zer)) := by
 rw [List.take_succ_eq_append_getElem h,wds_snoc]; simp [List.getD_eq_getElem?_getD,h]
theorem fl_snoc (l : List St) (s : St) : fl (l ++ [s]) = fl l + if s.f = true then 1 else 0 := by
 unfold fl; rw [List.filter_append]
 cases h : s.f <;> simp [h]
theorem fl_next (l : List St) (k : Nat) (h : k < l.length) : fl (l.take (k + 1)) = fl (l.take k) + if (l.getD k zer).f = true then 1 else 0 := by
 rw [List.take_succ_eq_append_getElem h,fl_snoc]; simp [List.getD_eq_getElem?_getD,h]
theorem head_len {o : Ou} (h : orgt o = true) (k : Ok o) : (head o).length = 52 := by
 obtain ⟨h1,h2,h3⟩ := (orgt_iff o).1 h
 unfold head
 rw [List.length_append,List.length_append,List.length_append,put2_len h1,fours_len _ h2,wds_len h3,k.v,k.s]; rfl
theorem head_bytes {o : Ou} (k : Ok o) : Bytes (head o) := by
 have hf := fl_le o.s
 rw [k.s] at hf
 unfold head
 refine Bytes.app (fun x hx => ?_) (Bytes.app (put2_bytes _) (Bytes.app (fours_bytes _) (wds_bytes _)))
 simp at hx; rcases hx with rfl | rfl <;> omega
theorem enc_len {o : Ou} (h : orgt o = true) (k : Ok o) : (enc o).length = 54 := by rw [enc_yes h,sealed_len,head_len h k]
theorem enc_bytes {o : Ou} (k : Ok o) : Bytes (enc o) := by
 unfold enc; split
 · exact sealed_bytes (head_bytes k)
 · intro x hx; cases hx
theorem enc_opens {o : Ou} (h : orgt o = true) (k : Ok o) : opens (enc o) = true := by rw [enc_yes h]; exact sealed_opens (head_bytes k)
theorem enc_take {o : Ou} (h : orgt o = true) (k : Ok o) : (enc o).take 52 = head o := by
 have e := opened_yes (enc_opens h k)
 rw [enc_len h k,enc_yes h,sealed_opened (head_bytes k)] at e
 rw [enc_yes h]; exact e.symm
theorem head_drop2 {o : Ou} : (head o).drop 2 = put2 o.q ++ (fours o.v ++ wds o.s) := by unfold head; rfl
theorem head_drop4 {o : Ou} (h : orgt o = true) : (head o).drop 4 = fours o.v ++ wds o.s := by
 obtain ⟨h1,-,-⟩ := (orgt_iff o).1 h
 rw [show (4 : Nat) = 2 + 2 by rfl,← List.drop_drop,head_drop2,List.drop_append,put2_len h1,List.drop_of_length_le (by rw [put2_len h1]; omega)]; simp
theorem head_drop36 {o : Ou} (h : orgt o = true) (k : Ok o) : (head o).drop 36 = wds o.s := by
 obtain ⟨-,h2,-⟩ := (orgt_iff o).1 h
 rw [show (36 : Nat) = 4 + 32 by rfl,← List.drop_drop,head_drop4 h,List.drop_append,fours_len _ h2,k.v,List.drop_of_length_le (by rw [fours_len _ h2,k.v]; omega)]; simp
theorem wds_at {l : List St} (h : l.all rgt = true) : ∀ (i : Nat),i < l.length → ((wds l).drop (2 * i)).take 2 = put2 (wrd (l.getD i zer)) := by
 induction l with
 | nil => intro i hi; simp at hi
 | cons a t ih =>
   intro i hi
   rw [List.all_cons,Bool.and_eq_true] at h
   have e : wds (a :: t) = put2 (wrd a) ++ wds t := by unfold wds; rw [List.flatMap_cons]
   have l2 := put2_len (wrd_in2 h.1)
   rw [e]
   cases i with
   | zero => rw [Nat.mul_zero,List.drop_zero,List.take_append_of_le_length (by omega),List.take_of_length_le (by omega)]; rfl
   | succ j =>
     rw [List.drop_append,l2,List.drop_of_length_le (by omega),List.nil_append,show 2 * (j + 1) - 2 = 2 * j by omega,ih h.2 j (by simpa using hi)]; rfl
theorem head_wd {o : Ou} (h : orgt o = true) (k : Ok o) (i : Nat) (hi : i < 8) : wd (head o) i = wrd (o.s.getD i zer) := by
 obtain ⟨-,-,h3⟩ := (orgt_iff o).1 h
 unfold wd
 rw [← List.drop_drop,head_drop36 h k,wds_at h3 i (by rw [k.s]; exact hi)]
 have hr : rgt (o.s.getD i zer) = true := by
  have hl : i < o.s.length := by rw [k.s]; exact hi
  rw [List.getD_eq_getElem?_getD,List.getElem?_eq_getElem hl]
  exact List.all_eq_true.1 h3 _ (List.getElem_mem hl)
 exact (get2_put2 _).2 (wrd_in2 hr)
theorem at_rgt {l : List St} (h : l.all rgt = true) {i : Nat} (hi : i < l.length) : rgt (l.getD i zer) = true := by
 rw [List.getD_eq_getElem?_getD,List.getElem?_eq_getElem hi]
 exact List.all_eq_true.1 h _ (List.getElem_mem hi)
theorem range_getD {α : Type} (l : List α) (d : α) (n : Nat) (h : l.length = n) : (List.range n).map (fun i => l.getD i d) = l := by
 subst h
 apply List.ext_getElem
 · simp
 · intro i h1 h2
   simp at h1
   simp [List.getD_eq_getElem?_getD,h1]
theorem head_parts {o : Ou} (h : orgt o = true) (k : Ok o) : parts (head o) = o := by
 obtain ⟨h1,h2,h3⟩ := (orgt_iff o).1 h
 have e1 : oq (head o) = o.q := by
  unfold oq
  rw [head_drop2,List.take_append_of_le_length (by rw [put2_len h1]; omega),List.take_of_length_le (by rw [put2_len h1]; omega)]
  exact (get2_put2 _).2 h1
 have e2 : ov (head o) = o.v := by
  unfold ov
  rw [head_drop4 h,List.take_append_of_le_length (by rw [fours_len _ h2,k.v]; omega),List.take_of_length_le (by rw [fours_len _ h2,k.v]; omega)]
  exact nums_fours _ h2
 have e3 : sts (head o) 8 = o.s := by
  unfold sts
  rw [← range_getD o.s zer 8 k.s]
  refine List.map_congr_left fun i hi => ?_
  have hi8 := List.mem_range.1 hi
  rw [head_wd h k i hi8]
  exact Ss.prs_wrd (at_rgt h3 (by rw [k.s]; exact hi8))
 unfold parts
 rw [e1,e2,e3]
theorem head_woks {o : Ou} (h : orgt o = true) (k : Ok o) : woks (head o) 8 = true := by
 obtain ⟨-,-,h3⟩ := (orgt_iff o).1 h
 unfold woks
 rw [List.all_eq_true]
 intro i hi
 have hi8 := List.mem_range.1 hi
 rw [head_wd h k i hi8]
 exact Ss.isw_wrd (at_rgt h3 (by rw [k.s]; exact hi8))
theorem enc_at {o : Ou} (h : orgt o = true) : (enc o).getD 0 0 = 90 ∧ (enc o).getD 1 0 = (fl o.s : Int) := by
 rw [enc_yes h]; unfold sealed head; exact ⟨rfl,rfl⟩
theorem enc_iso {o : Ou} (h : orgt o = true) (k : Ok o) : iso (enc o) = true := by
 obtain ⟨a0,a1⟩ := enc_at h
 unfold iso
 rw [enc_len h k,a0,enc_opens h k,enc_take h k,head_woks h k,head_parts h k,a1]
 simp
theorem enc_dec {o : Ou} (h : orgt o = true) (k : Ok o) : dec (enc o) = o := by rw [dec_yes (enc_iso h k),enc_take h k,head_parts h k]
theorem iso_iff (b : List Int) : iso b = true ↔ b.length = 54 ∧ b.getD 0 0 = 90 ∧ opens b = true ∧ woks (b.take 52) 8 = true ∧ (fl (parts (b.take 52)).s : Int) = b.getD 1 0 := by
 unfold iso; simp [and_assoc]
theorem wd_in {x : List Int} (hy : Bytes x) (hl : x.length = 52) (i : Nat) (hi : i < 8) : 0 ≤ wd x i ∧ wd x i ≤ 65535 ∧ put2 (wd x i) = (x.drop (36 + 2 * i)).take 2 := by
 have y2 : Bytes ((x.drop (36 + 2 * i)).take 2) := (hy.drop _).take _
 have l2 : ((x.drop (36 + 2 * i)).take 2).length = 2 := by rw [List.length_take,List.length_drop]; omega
 obtain ⟨a,b,e⟩ := cut2 _ l2
 have ha := y2 a (by rw [e]; simp)
 have hb := y2 b (by rw [e]; simp)
 have ew : wd x i = 256 * a + b := by unfold wd; rw [e]; rfl
 refine ⟨by omega,by omega,?_⟩
 rw [put2_yes ((in2_iff _).2 (by omega)),e,ew]
 have e1 : (256 * a + b) / 256 = a := by omega
 have e2 : (256 * a + b) % 256 = b := by omega
 rw [e1,e2]
theorem sts_len (x : List Int) (n : Nat) : (sts x n).length = n := by unfold sts; simp
theorem sts_next (x : List Int) (n : Nat) : sts x (n + 1) = sts x n ++ [prs (wd x n)] := by unfold sts; rw [List.range_succ,List.map_append]; rfl
theorem woks_next (x : List Int) (n : Nat) : woks x (n + 1) = (woks x n && isw (wd x n)) := by unfold woks; rw [List.range_succ,List.all_append]; simp
theorem woks_at {x : List Int} {n i : Nat} (h : woks x n = true) (hi : i < n) : isw (wd x i) = true := by
 unfold woks at h
 exact List.all_eq_true.1 h i (List.mem_range.2 hi)
theorem woks_no {x : List Int} {n i : Nat} (h : isw (wd x i) = false) (hi : i < n) : woks x n = false := by
 cases e : woks x n
 · rfl
 · rw [woks_at e hi] at h; cases h
theorem parts_ok {x : List Int} (hl : x.length = 52) : Ok (parts x) := by
 refine ⟨?_,sts_len _ _⟩
 show (nums ((x.drop 4).take 32)).length = 8
 exact nums_len 8 _ (by rw [List.length_take,List.length_drop]; omega)
end Ot
namespace Tp
open Fx
def nms : List (List UInt8) := [[102,114,97,109,101],[114,97,110,103,101],[115,112,105,107,101],[115,116,117,99,107],[100,114,105,102,116],[109,105,115]]
def nm (i : Nat) : List UInt8 := nms.getD i []
def bitOf (m i : Nat) : Bool := m / 2 ^ i % 2 == 1
def parts (m k : Nat) : List (List UInt8) := ((List.range k).filter (bitOf m)).map nm
def tx (m : Nat) : List UInt8 := if m = 0 then [45] else Lib.join (parts m 6) [43]
def txt (m : Int) : List UInt8 := if 0 ≤ m ∧ m ≤ 63 then tx m.toNat else []
def inn (m b : Int) : Bool := decide (0 ≤ m ∧ m ≤ 63) && (List.range 6).any fun i => b == 2 ^ i && bitOf m.toNat i
def fnd (p : List UInt8) (i : Nat) : Option Nat := (List.range 6).find? fun j => decide (i ≤ j) && decide (nm j = p)
theorem fnd_some {p : List UInt8} {i j : Nat} (hi : i ≤ j) (hj : j < 6) (hp : nm j = p) (hn : ∀ k,i ≤ k → k < j → nm k ≠ p) : fnd p i = some j := by
 unfold fnd
 rw [List.find?_eq_some_iff_append]
 refine ⟨by simp [hi,hp],List.range j,List.range' (j + 1) (5 - j),?_,?_⟩
 · have : j ∈ [0,1,2,3,4,5] := by simp; omega
   simp only [List.mem_cons,List.mem_nil_iff,or_false] at this
   rcases this with rfl | rfl | rfl | rfl | rfl | rfl <;> rfl
 · intro k hk
   have hk' : k < j := by simpa using hk
   by_cases h1 : i ≤ k
   · simp [h1,hn k h1 hk']
   · simp [h1]
theorem tab_in : ((List.range 64).all fun m => (List.range 64).all fun b => ((count b == 1 && (Nat.land m b == b)) == (List.range 6).any fun i => (b == 2 ^ i) && bitOf m i)) = true := by decide +kernel
theorem bit_small {b : Int} (h : count b = 1) : 0 ≤ b ∧ b < 65536 := by
 by_cases c : 0 ≤ b ∧ b < 65536
 · exact c
 · have : ∀ k,countTo b k = 0 := by
    intro k
    induction k with
    | zero => rfl
    | succ k ih => unfold countTo; rw [ih,has_out _ _ (by omega)]; rfl
   have e : count b = ((0 : Nat) : Int) := congrArg (fun q : Nat => (q : Int)) (this 16)
   rw [e] at h
   exact absurd h (by decide)
theorem in_eq {m b : Int} (h0 : 0 ≤ m) (h1 : m ≤ 63) (h : count b = 1) : (Go.bits .and .i64 m b == b) = inn m b := by
 obtain ⟨b0,b1⟩ := bit_small h
 obtain ⟨m,rfl⟩ : ∃ k : Nat,m = k := ⟨m.toNat,by omega⟩
 obtain ⟨b,rfl⟩ : ∃ k : Nat,b = k := ⟨b.toNat,by omega⟩
 rw [and_i64_nat m b (by omega) (by omega)]
 unfold inn
 have e1 : decide (0 ≤ (m : Int) ∧ (m : Int) ≤ 63) = true := by simp; omega
 rw [e1,Bool.true_and]
 have hl : Nat.land m b ≤ m := Nat.and_le_left
 by_cases hb : b < 64
 · have h2 := List.all_eq_true.1 tab_in m (List.mem_range.2 (by omega))
   have h3 := List.all_eq_true.1 h2 b (List.mem_range.2 hb)
   have h4 : (count (b : Int) == 1) = true := by rw [h]; rfl
   rw [h4,Bool.true_and] at h3
   have h5 := eq_of_beq h3
   have e2 : ((((m &&& b : Nat) : Int)) == (b : Int)) = (Nat.land m b == b) := by
    rw [Bool.eq_iff_iff]; simp; exact Int.ofNat_inj
   have hf : (fun i : Nat => (b == 2 ^ i) && bitOf m i) = fun i : Nat => ((b : Int) == 2 ^ i) && bitOf ((m : Int)).toNat i := by
    funext i
    have e3 : (b == 2 ^ i) = ((b : Int) == 2 ^ i) := by
     rw [Bool.eq_iff_iff,beq_iff_eq,beq_iff_eq]
     exact ⟨fun q => by rw [q]; simp,fun q => by exact_mod_cast q⟩
    rw [e3,Int.toNat_natCast]
   rw [e2,h5,hf]
 · have e2 : ((((m &&& b : Nat) : Int)) == (b : Int)) = false := by
    simp
    have : m &&& b ≤ m := Nat.and_le_left
    omega
   rw [e2]
   symm
   rw [List.any_eq_false]
   intro i hi
   have hi' : i < 6 := by simpa using hi
   have : (2 : Int) ^ i ≤ 2 ^ 5 := pow_mono2 i 5 (by omega)
   have hne : ((b : Int) == 2 ^ i) = false := by simp; omega
   simp [hne]
theorem in_out {m b : Int} (h : ¬ (0 ≤ m ∧ m ≤ 63)) : inn m b = false := by
 unfold inn
 rw [show decide (0 ≤ m ∧ m ≤ 63) = false by simpa using h,Bool.false_and]
theorem in_no {m b : Int} (h : count b ≠ 1) : inn m b = false := by
 unfold inn
 rw [Bool.and_eq_false_iff]
 right
 rw [List.any_eq_false]
 intro i hi
 have hi' : i < 6 := by simpa using hi
 have hb : b ≠ 2 ^ i := by
  intro e
  have : i ∈ [0,1,2,3,4,5] := by simp; omega
  simp only [List.mem_cons,List.mem_nil_iff,or_false] at this
  subst e
  rcases this with rfl | rfl | rfl | rfl | rfl | rfl <;> exact absurd (by decide +kernel) h
 simp [hb]
theorem in_pow {m i : Nat} (hm : m < 64) (hi : i < 6) : inn (m : Int) (2 ^ i) = bitOf m i := by
 unfold inn
 rw [show decide (0 ≤ (m : Int) ∧ (m : Int) ≤ 63) = true by simp; omega,Bool.true_and,Int.toNat_natCast]
 have : i ∈ [0,1,2,3,4,5] := by simp; omega
 simp only [List.mem_cons,List.mem_nil_iff,or_false] at this
 rcases this with rfl | rfl | rfl | rfl | rfl | rfl <;> simp [List.range,List.range.loop]
end Tp
namespace Rg
open Fx
structure Nt where
 y : Int
 c : Int
 s : Int
 k : Int
 t : Int
def nz : Nt := ⟨0,0,0,0,0⟩
def rgn (n : Nt) : Bool := decide (0 ≤ n.y) && (decide (0 ≤ n.c) && decide (n.c ≤ 3)) && (decide (0 ≤ n.s) && decide (n.s ≤ 7)) && (decide (0 ≤ n.k) && decide (n.k ≤ 2)) && (decide (0 ≤ n.t) && decide (n.t ≤ 63))
theorem rgn_iff (n : Nt) : rgn n = true ↔ 0 ≤ n.y ∧ 0 ≤ n.c ∧ n.c ≤ 3 ∧ 0 ≤ n.s ∧ n.s ≤ 7 ∧ 0 ≤ n.k ∧ n.k ≤ 2 ∧ 0 ≤ n.t ∧ n.t ≤ 63 := by unfold rgn; simp [and_assoc]
theorem txt_tab : ((List.range 64).all fun m => decide (Tp.tx m ≠ [])) = true := by decide +kernel
theorem txt_ne (m : Int) : (Tp.txt m ≠ []) ↔ (0 ≤ m ∧ m ≤ 63) := by
 unfold Tp.txt
 by_cases h : 0 ≤ m ∧ m ≤ 63
 · rw [if_pos h]
   have := List.all_eq_true.1 txt_tab m.toNat (List.mem_range.2 (by omega))
   simp only [decide_eq_true_eq] at this
   exact ⟨fun _ => h,fun _ => this⟩
 · rw [if_neg h]
   exact ⟨fun q => absurd rfl q,fun q => absurd q h⟩
def mkd (m : Int) : Bool := decide (0 ≤ m) && decide (m ≤ 63)
theorem mkd_iff (m : Int) : mkd m = true ↔ (0 ≤ m ∧ m ≤ 63) := by unfold mkd; simp
def nl (n : Nt) : List Int := [n.y,n.c,n.s,n.k,n.t]
def flat (l : List Nt) : List Int := l.flatMap nl
theorem flat_cons (n : Nt) (l : List Nt) : flat (n :: l) = nl n ++ flat l := rfl
theorem flat_app (a b : List Nt) : flat (a ++ b) = flat a ++ flat b := by unfold flat; simp
theorem flat_len (l : List Nt) : (flat l).length = l.length * 5 := by
 induction l with
 | nil => rfl
 | cons n l ih => rw [flat_cons,List.length_append,ih]; simp [nl]; omega
theorem flat_get (l : List Nt) (i : Nat) (n : Nt) (h : l[i]? = some n) : (flat l).getD (i * 5) 0 = n.y ∧ (flat l).getD (i * 5 + 1) 0 = n.c ∧ (flat l).getD (i * 5 + 2) 0 = n.s ∧ (flat l).getD (i * 5 + 3) 0 = n.k ∧ (flat l).getD (i * 5 + 4) 0 = n.t := by
 induction l generalizing i with
 | nil => simp at h
 | cons m l ih =>
   rw [flat_cons]
   cases i with
   | zero => simp at h; subst h; simp [nl]
   | succ i =>
     rw [List.getElem?_cons_succ] at h
     obtain ⟨h0,h1,h2,h3,h4⟩ := ih i h
     have e : ∀ j,(nl m ++ flat l).getD ((i + 1) * 5 + j) 0 = (flat l).getD (i * 5 + j) 0 := by
      intro j
      rw [show (i + 1) * 5 + j = (i * 5 + j) + 5 by omega]
      simp [nl,List.getD_eq_getElem?_getD]
     refine ⟨?_,?_,?_,?_,?_⟩
     · have := e 0; simp only [Nat.add_zero] at this; rw [this]; exact h0
     · rw [e]; exact h1
     · rw [e]; exact h2
     · rw [e]; exact h3
     · rw [e]; exact h4
theorem flat_set (l : List Nt) (i : Nat) (n : Nt) (r : List Int) (h : i < l.length) :
 (((((flat l ++ r).set (i * 5) n.y).set (i * 5 + 1) n.c).set (i * 5 + 2) n.s).set (i * 5 + 3) n.k).set (i * 5 + 4) n.t = flat (l.set i n) ++ r := by
 induction l generalizing i with
 | nil => simp at h
 | cons m l ih =>
   cases i with
   | zero => simp [flat_cons,nl]
   | succ i =>
     have ih' := ih i (by simpa using h)
     have e : ∀ (q : List Int) (j : Nat) (x : Int),(nl m ++ q).set ((i + 1) * 5 + j) x = nl m ++ q.set (i * 5 + j) x := by
      intro q j x
      rw [show (i + 1) * 5 + j = i * 5 + j + 5 by omega]
      simp [nl]
     rw [List.set_cons_succ,flat_cons,flat_cons,List.append_assoc,List.append_assoc,← ih']
     have e0 := e (flat l ++ r) 0 n.y
     simp only [Nat.add_zero] at e0
     rw [e0,e,e,e,e]
theorem flat_drop (l : List Nt) (i : Nat) : flat (l.drop i) = (flat l).drop (i * 5) := by
 induction i generalizing l with
 | zero => simp
 | succ i ih =>
   cases l with
   | nil => simp [flat]
   | cons m l => rw [List.drop_succ_cons,ih,flat_cons,show (i + 1) * 5 = i * 5 + 5 by omega]; simp [nl]
def stp (p : List Nt × Nat) (n : Nt) : List Nt × Nat := (p.1.set (p.2 % 32) n,p.2 + 1)
def rst (l : List Nt) : List Nt × Nat := l.foldl stp (List.replicate 32 nz,0)
def arr (l : List Nt) : List Nt := (rst l).1
theorem rst_snoc (l : List Nt) (n : Nt) : rst (l ++ [n]) = stp (rst l) n := by unfold rst; rw [List.foldl_append]; rfl
theorem fold_two (l : List Nt) (p : List Nt × Nat) : (l.foldl stp p).2 = p.2 + l.length ∧ (l.foldl stp p).1.length = p.1.length := by
 induction l generalizing p with
 | nil => exact ⟨rfl,rfl⟩
 | cons n l ih =>
   obtain ⟨a,b⟩ := ih (stp p n)
   rw [List.foldl_cons]
   refine ⟨by rw [a]; simp [stp]; omega,by rw [b]; simp [stp]⟩
theorem rst_two (l : List Nt) : (rst l).2 = l.length := by have := (fold_two l (List.replicate 32 nz,0)).1; simpa [rst] using this
theorem arr_len (l : List Nt) : (arr l).length = 32 := by have := (fold_two l (List.replicate 32 nz,0)).2; simpa [arr,rst] using this
theorem arr_snoc (l : List Nt) (n : Nt) : arr (l ++ [n]) = (arr l).set (l.length % 32) n := by unfold arr; rw [rst_snoc]; unfold stp; rw [rst_two]
theorem arr_at (l : List Nt) : ∀ j n,l[j]? = some n → l.length ≤ j + 32 → (arr l)[j % 32]? = some n := by
 have key : ∀ r : List Nt,(∀ j n,r.reverse[j]? = some n → r.length ≤ j + 32 → (arr r.reverse)[j % 32]? = some n) := by
  intro r
  induction r with
  | nil => intro j n h; simp at h
  | cons x r ih =>
    intro j n h hl
    rw [List.reverse_cons] at h ⊢
    rw [arr_snoc]
    have hr : r.reverse.length = r.length := List.length_reverse
    have h32 := arr_len r.reverse
    rw [List.length_cons] at hl
    by_cases e : j = r.length
    · subst e
      rw [List.getElem?_append_right (by omega),hr] at h
      simp at h
      subst h
      rw [hr,List.getElem?_set_self (by omega)]
    · have hj : j < r.length := by
       have := (List.getElem?_eq_some_iff.1 h).1
       simp at this; omega
      rw [List.getElem?_append_left (by omega)] at h
      rw [List.getElem?_set_ne (by omega)]
      exact ih j n h (by omega)
 intro j n h hl
 have := key l.reverse j n (by rw [List.reverse_reverse]; exact h) (by rw [List.length_reverse]; exact hl)
 rwa [List.reverse_reverse] at this
def lost (l : List Nt) : Nat := l.length - 32
def lasts (l : List Nt) : List Nt := l.drop (lost l)
theorem lasts_len (l : List Nt) : (lasts l).length = min l.length 32 := by unfold lasts lost; rw [List.length_drop]; omega
theorem lasts_at (l : List Nt) (i : Nat) (h : i < (lasts l).length) : ∃ n,(lasts l)[i]? = some n ∧ (arr l)[(lost l + i) % 32]? = some n := by
 rw [lasts_len] at h
 have hi : lost l + i < l.length := by unfold lost; omega
 refine ⟨l[lost l + i],?_,?_⟩
 · unfold lasts; rw [List.getElem?_drop,List.getElem?_eq_getElem hi]
 · exact arr_at l _ _ (List.getElem?_eq_getElem hi) (by unfold lost; omega)
def rgc (l : List Nt) : List Int := flat (arr l) ++ [(l.length : Int)]
theorem rgc_len (l : List Nt) : (rgc l).length = 161 := by unfold rgc; rw [List.length_append,flat_len,arr_len]; rfl
theorem rgc_last (l : List Nt) : (rgc l).getD 160 0 = (l.length : Int) := by
 unfold rgc
 have : (flat (arr l)).length = 160 := by rw [flat_len,arr_len]
 rw [List.getD_eq_getElem?_getD,List.getElem?_append_right (by omega),this]; rfl
theorem rgc_note (l : List Nt) (i : Nat) (n : Nt) (h : (arr l)[i]? = some n) : (rgc l).getD (i * 5) 0 = n.y ∧ (rgc l).getD (i * 5 + 1) 0 = n.c ∧ (rgc l).getD (i * 5 + 2) 0 = n.s ∧ (rgc l).getD (i * 5 + 3) 0 = n.k ∧ (rgc l).getD (i * 5 + 4) 0 = n.t := by
 have hi : i < 32 := by have := (List.getElem?_eq_some_iff.1 h).1; rw [arr_len] at this; exact this
 have hl : (flat (arr l)).length = 160 := by rw [flat_len,arr_len]
 have e : ∀ j,j < 160 → (rgc l).getD j 0 = (flat (arr l)).getD j 0 := by
  intro j hj
  unfold rgc
  rw [List.getD_eq_getElem?_getD,List.getD_eq_getElem?_getD,List.getElem?_append_left (by omega)]
 rw [e _ (by omega),e _ (by omega),e _ (by omega),e _ (by omega),e _ (by omega)]
 exact flat_get _ _ _ h
theorem rgc_add (l : List Nt) (n : Nt) : (((((((rgc l).set (l.length % 32 * 5) n.y).set (l.length % 32 * 5 + 1) n.c).set (l.length % 32 * 5 + 2) n.s).set (l.length % 32 * 5 + 3) n.k).set (l.length % 32 * 5 + 4) n.t).set 160 ((l.length : Int) + 1)) = rgc (l ++ [n]) := by
 have hl : (flat ((arr l).set (l.length % 32) n)).length = 160 := by rw [flat_len,List.length_set,arr_len]
 unfold rgc
 rw [flat_set _ _ _ _ (by rw [arr_len]; omega),arr_snoc,List.set_append_right _ _ (by omega),hl]
 simp
theorem rgc_nil : rgc [] = List.replicate 161 0 := by decide +kernel
end Rg
end Go.Proofs.YticidhbnljdidaaGreatDoor
