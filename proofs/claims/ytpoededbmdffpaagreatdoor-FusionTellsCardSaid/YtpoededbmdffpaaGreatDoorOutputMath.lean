/-
  What a cycle sends, as mathematics: whether an output may be, its bytes, the output of bytes; there and back; one byte changed. No function of the program is walked here. No conditions.
-/
import Derived.Test.YtpoededbmdffpaaGreatDoorFrameMath
import Derived.Test.YtpoededbmdffpaaGreatDoorStatusMath
namespace Go.Proofs.YtpoededbmdffpaaGreatDoor
set_option maxRecDepth 100000
open Go.RowKit
namespace Ot
open Wd Fm
open Ss (St rgt wrd prs pre isw zer)
open Cr (Bytes sealed opens opened sum sealed_len sealed_bytes sealed_opens sealed_opened sealed_sum opens_iff opened_yes)
/-- An output: its number, its values, its statuses. -/
structure Ou where
  q : Int
  v : List Int
  s : List St
structure Ok (o : Ou) : Prop where
  v : o.v.length = 8
  s : o.s.length = 8
def zou : Ou := ⟨0, List.replicate 8 0, List.replicate 8 zer⟩
theorem ok_zou : Ok zou := ⟨rfl, rfl⟩
def orgt (o : Ou) : Bool := in2 o.q && o.v.all in4 && o.s.all rgt
def fl (l : List St) : Nat := (l.filter fun s => s.f).length
def wds (l : List St) : List Int := l.flatMap fun s => put2 (wrd s)
def head (o : Ou) : List Int := [90, (fl o.s : Int)] ++ (put2 o.q ++ (fours o.v ++ wds o.s))
def enc (o : Ou) : List Int := if orgt o = true then sealed (head o) else []
def encE (o : Ou) : Int := if orgt o = true then 0 else 1
/-- The word of a signal in bytes that opened. -/
def wd (x : List Int) (i : Nat) : Int := get2v ((x.drop (36 + 2 * i)).take 2)
def oq (x : List Int) : Int := get2v ((x.drop 2).take 2)
def ov (x : List Int) : List Int := nums ((x.drop 4).take 32)
def sts (x : List Int) (n : Nat) : List St := (List.range n).map fun i => prs (wd x i)
def parts (x : List Int) : Ou := ⟨oq x, ov x, sts x 8⟩
def woks (x : List Int) (n : Nat) : Bool := (List.range n).all fun i => isw (wd x i)
/-- Are these bytes an output's? -/
def iso (b : List Int) : Bool := b.length == 54 && b.getD 0 0 == 90 && opens b && woks (b.take 52) 8 && ((fl (parts (b.take 52)).s : Int) == b.getD 1 0)
def dec (b : List Int) : Ou := if iso b = true then parts (b.take 52) else zou
def decE (b : List Int) : Int := if iso b = true then 0 else 3
theorem orgt_iff (o : Ou) : orgt o = true ↔ in2 o.q = true ∧ o.v.all in4 = true ∧ o.s.all rgt = true := by unfold orgt; simp [and_assoc]
theorem enc_yes {o : Ou} (h : orgt o = true) : enc o = sealed (head o) := by unfold enc; rw [if_pos h]
theorem encE_yes {o : Ou} (h : orgt o = true) : encE o = 0 := by unfold encE; rw [if_pos h]
theorem dec_yes {b : List Int} (h : iso b = true) : dec b = parts (b.take 52) := by unfold dec; rw [if_pos h]
theorem dec_no {b : List Int} (h : iso b = false) : dec b = zou := by unfold dec; rw [if_neg (by rw [h]; decide)]
theorem decE_yes {b : List Int} (h : iso b = true) : decE b = 0 := by unfold decE; rw [if_pos h]
theorem decE_no {b : List Int} (h : iso b = false) : decE b = 3 := by unfold decE; rw [if_neg (by rw [h]; decide)]
theorem fl_le (l : List St) : fl l ≤ l.length := List.length_filter_le _ _
theorem wrd_in2 {s : St} (h : rgt s = true) : in2 (wrd s) = true := by
  have := Ss.wrd_bd h
  exact (in2_iff _).2 (by omega)
theorem wds_len {l : List St} (h : l.all rgt = true) : (wds l).length = 2 * l.length := by
  induction l with
  | nil => rfl
  | cons a t ih =>
    rw [List.all_cons, Bool.and_eq_true] at h
    have e : wds (a :: t) = put2 (wrd a) ++ wds t := by unfold wds; rw [List.flatMap_cons]
    rw [e, List.length_append, ih h.2, put2_len (wrd_in2 h.1), List.length_cons]; omega
theorem wds_bytes (l : List St) : Bytes (wds l) := by
  intro x hx
  unfold wds at hx
  obtain ⟨s, _, h⟩ := List.mem_flatMap.1 hx
  exact put2_bytes _ x h
theorem wds_snoc (l : List St) (s : St) : wds (l ++ [s]) = wds l ++ put2 (wrd s) := by unfold wds; rw [List.flatMap_append]; simp
theorem wds_next (l : List St) (k : Nat) (h : k < l.length) : wds (l.take (k + 1)) = wds (l.take k) ++ put2 (wrd (l.getD k zer)) := by
  rw [List.take_succ_eq_append_getElem h, wds_snoc]; simp [List.getD_eq_getElem?_getD, h]
theorem fl_snoc (l : List St) (s : St) : fl (l ++ [s]) = fl l + if s.f = true then 1 else 0 := by
  unfold fl; rw [List.filter_append]
  cases h : s.f <;> simp [h]
theorem fl_next (l : List St) (k : Nat) (h : k < l.length) : fl (l.take (k + 1)) = fl (l.take k) + if (l.getD k zer).f = true then 1 else 0 := by
  rw [List.take_succ_eq_append_getElem h, fl_snoc]; simp [List.getD_eq_getElem?_getD, h]
theorem head_len {o : Ou} (h : orgt o = true) (k : Ok o) : (head o).length = 52 := by
  obtain ⟨h1, h2, h3⟩ := (orgt_iff o).1 h
  unfold head
  rw [List.length_append, List.length_append, List.length_append, put2_len h1, fours_len _ h2, wds_len h3, k.v, k.s]; rfl
theorem head_bytes {o : Ou} (k : Ok o) : Bytes (head o) := by
  have hf := fl_le o.s
  rw [k.s] at hf
  unfold head
  refine Bytes.app (fun x hx => ?_) (Bytes.app (put2_bytes _) (Bytes.app (fours_bytes _) (wds_bytes _)))
  simp at hx; rcases hx with rfl | rfl <;> omega
theorem enc_len {o : Ou} (h : orgt o = true) (k : Ok o) : (enc o).length = 54 := by rw [enc_yes h, sealed_len, head_len h k]
theorem enc_bytes {o : Ou} (k : Ok o) : Bytes (enc o) := by
  unfold enc; split
  · exact sealed_bytes (head_bytes k)
  · intro x hx; cases hx
theorem enc_opens {o : Ou} (h : orgt o = true) (k : Ok o) : opens (enc o) = true := by rw [enc_yes h]; exact sealed_opens (head_bytes k)
theorem enc_take {o : Ou} (h : orgt o = true) (k : Ok o) : (enc o).take 52 = head o := by
  have e := opened_yes (enc_opens h k)
  rw [enc_len h k, enc_yes h, sealed_opened (head_bytes k)] at e
  rw [enc_yes h]; exact e.symm
theorem head_drop2 {o : Ou} : (head o).drop 2 = put2 o.q ++ (fours o.v ++ wds o.s) := by unfold head; rfl
theorem head_drop4 {o : Ou} (h : orgt o = true) : (head o).drop 4 = fours o.v ++ wds o.s := by
  obtain ⟨h1, -, -⟩ := (orgt_iff o).1 h
  rw [show (4 : Nat) = 2 + 2 by rfl, ← List.drop_drop, head_drop2, List.drop_append, put2_len h1, List.drop_of_length_le (by rw [put2_len h1]; omega)]; simp
theorem head_drop36 {o : Ou} (h : orgt o = true) (k : Ok o) : (head o).drop 36 = wds o.s := by
  obtain ⟨-, h2, -⟩ := (orgt_iff o).1 h
  rw [show (36 : Nat) = 4 + 32 by rfl, ← List.drop_drop, head_drop4 h, List.drop_append, fours_len _ h2, k.v, List.drop_of_length_le (by rw [fours_len _ h2, k.v]; omega)]; simp
theorem wds_at {l : List St} (h : l.all rgt = true) : ∀ (i : Nat), i < l.length → ((wds l).drop (2 * i)).take 2 = put2 (wrd (l.getD i zer)) := by
  induction l with
  | nil => intro i hi; simp at hi
  | cons a t ih =>
    intro i hi
    rw [List.all_cons, Bool.and_eq_true] at h
    have e : wds (a :: t) = put2 (wrd a) ++ wds t := by unfold wds; rw [List.flatMap_cons]
    have l2 := put2_len (wrd_in2 h.1)
    rw [e]
    cases i with
    | zero => rw [Nat.mul_zero, List.drop_zero, List.take_append_of_le_length (by omega), List.take_of_length_le (by omega)]; rfl
    | succ j =>
      rw [List.drop_append, l2, List.drop_of_length_le (by omega), List.nil_append, show 2 * (j + 1) - 2 = 2 * j by omega, ih h.2 j (by simpa using hi)]; rfl
theorem head_wd {o : Ou} (h : orgt o = true) (k : Ok o) (i : Nat) (hi : i < 8) : wd (head o) i = wrd (o.s.getD i zer) := by
  obtain ⟨-, -, h3⟩ := (orgt_iff o).1 h
  unfold wd
  rw [← List.drop_drop, head_drop36 h k, wds_at h3 i (by rw [k.s]; exact hi)]
  have hr : rgt (o.s.getD i zer) = true := by
    have hl : i < o.s.length := by rw [k.s]; exact hi
    rw [List.getD_eq_getElem?_getD, List.getElem?_eq_getElem hl]
    exact List.all_eq_true.1 h3 _ (List.getElem_mem hl)
  exact (get2_put2 _).2 (wrd_in2 hr)
theorem at_rgt {l : List St} (h : l.all rgt = true) {i : Nat} (hi : i < l.length) : rgt (l.getD i zer) = true := by
  rw [List.getD_eq_getElem?_getD, List.getElem?_eq_getElem hi]
  exact List.all_eq_true.1 h _ (List.getElem_mem hi)
theorem range_getD {α : Type} (l : List α) (d : α) (n : Nat) (h : l.length = n) : (List.range n).map (fun i => l.getD i d) = l := by
  subst h
  apply List.ext_getElem
  · simp
  · intro i h1 h2
    simp at h1
    simp [List.getD_eq_getElem?_getD, h1]
theorem head_parts {o : Ou} (h : orgt o = true) (k : Ok o) : parts (head o) = o := by
  obtain ⟨h1, h2, h3⟩ := (orgt_iff o).1 h
  have e1 : oq (head o) = o.q := by
    unfold oq
    rw [head_drop2, List.take_append_of_le_length (by rw [put2_len h1]; omega), List.take_of_length_le (by rw [put2_len h1]; omega)]
    exact (get2_put2 _).2 h1
  have e2 : ov (head o) = o.v := by
    unfold ov
    rw [head_drop4 h, List.take_append_of_le_length (by rw [fours_len _ h2, k.v]; omega), List.take_of_length_le (by rw [fours_len _ h2, k.v]; omega)]
    exact nums_fours _ h2
  have e3 : sts (head o) 8 = o.s := by
    unfold sts
    rw [← range_getD o.s zer 8 k.s]
    refine List.map_congr_left fun i hi => ?_
    have hi8 := List.mem_range.1 hi
    rw [head_wd h k i hi8]
    exact Ss.prs_wrd (at_rgt h3 (by rw [k.s]; exact hi8))
  unfold parts
  rw [e1, e2, e3]
theorem head_woks {o : Ou} (h : orgt o = true) (k : Ok o) : woks (head o) 8 = true := by
  obtain ⟨-, -, h3⟩ := (orgt_iff o).1 h
  unfold woks
  rw [List.all_eq_true]
  intro i hi
  have hi8 := List.mem_range.1 hi
  rw [head_wd h k i hi8]
  exact Ss.isw_wrd (at_rgt h3 (by rw [k.s]; exact hi8))
theorem enc_at {o : Ou} (h : orgt o = true) : (enc o).getD 0 0 = 90 ∧ (enc o).getD 1 0 = (fl o.s : Int) := by
  rw [enc_yes h]; unfold sealed head; exact ⟨rfl, rfl⟩
/-- There and back: an output from its bytes. -/
theorem enc_iso {o : Ou} (h : orgt o = true) (k : Ok o) : iso (enc o) = true := by
  obtain ⟨a0, a1⟩ := enc_at h
  unfold iso
  rw [enc_len h k, a0, enc_opens h k, enc_take h k, head_woks h k, head_parts h k, a1]
  simp
theorem enc_dec {o : Ou} (h : orgt o = true) (k : Ok o) : dec (enc o) = o := by rw [dec_yes (enc_iso h k), enc_take h k, head_parts h k]
theorem iso_iff (b : List Int) : iso b = true ↔ b.length = 54 ∧ b.getD 0 0 = 90 ∧ opens b = true ∧ woks (b.take 52) 8 = true ∧ (fl (parts (b.take 52)).s : Int) = b.getD 1 0 := by
  unfold iso; simp [and_assoc]
theorem wd_in {x : List Int} (hy : Bytes x) (hl : x.length = 52) (i : Nat) (hi : i < 8) : 0 ≤ wd x i ∧ wd x i ≤ 65535 ∧ put2 (wd x i) = (x.drop (36 + 2 * i)).take 2 := by
  have y2 : Bytes ((x.drop (36 + 2 * i)).take 2) := (hy.drop _).take _
  have l2 : ((x.drop (36 + 2 * i)).take 2).length = 2 := by rw [List.length_take, List.length_drop]; omega
  obtain ⟨a, b, e⟩ := cut2 _ l2
  have ha := y2 a (by rw [e]; simp)
  have hb := y2 b (by rw [e]; simp)
  have ew : wd x i = 256 * a + b := by unfold wd; rw [e]; rfl
  refine ⟨by omega, by omega, ?_⟩
  rw [put2_yes ((in2_iff _).2 (by omega)), e, ew]
  have e1 : (256 * a + b) / 256 = a := by omega
  have e2 : (256 * a + b) % 256 = b := by omega
  rw [e1, e2]
theorem sts_len (x : List Int) (n : Nat) : (sts x n).length = n := by unfold sts; simp
theorem sts_next (x : List Int) (n : Nat) : sts x (n + 1) = sts x n ++ [prs (wd x n)] := by unfold sts; rw [List.range_succ, List.map_append]; rfl
theorem woks_next (x : List Int) (n : Nat) : woks x (n + 1) = (woks x n && isw (wd x n)) := by unfold woks; rw [List.range_succ, List.all_append]; simp
theorem woks_at {x : List Int} {n i : Nat} (h : woks x n = true) (hi : i < n) : isw (wd x i) = true := by
  unfold woks at h
  exact List.all_eq_true.1 h i (List.mem_range.2 hi)
theorem woks_no {x : List Int} {n i : Nat} (h : isw (wd x i) = false) (hi : i < n) : woks x n = false := by
  cases e : woks x n
  · rfl
  · rw [woks_at e hi] at h; cases h
theorem sts_rgt {x : List Int} {n : Nat} (h : woks x n = true) : (sts x n).all rgt = true := by
  rw [List.all_eq_true]
  intro s hs
  unfold sts at hs
  obtain ⟨i, hi, rfl⟩ := List.mem_map.1 hs
  exact (Ss.rgt_prs (woks_at h (List.mem_range.1 hi))).1
theorem wds_sts {x : List Int} (hy : Bytes x) (hl : x.length = 52) : ∀ n, n ≤ 8 → woks x n = true → wds (sts x n) = (x.drop 36).take (2 * n)
  | 0, _, _ => by simp [sts, wds]
  | n + 1, hn, h => by
    rw [woks_next, Bool.and_eq_true] at h
    rw [sts_next, wds_snoc, wds_sts hy hl n (by omega) h.1, (Ss.rgt_prs h.2).2, (wd_in hy hl n (by omega)).2.2, show 2 * (n + 1) = 2 * n + 2 by omega, List.take_add, List.drop_drop]
theorem parts_ok {x : List Int} (hl : x.length = 52) : Ok (parts x) := by
  refine ⟨?_, sts_len _ _⟩
  show (nums ((x.drop 4).take 32)).length = 8
  exact nums_len 8 _ (by rw [List.length_take, List.length_drop]; omega)
/-- There and back: bytes from their output. -/
theorem back {b : List Int} (h : iso b = true) (hy : Bytes b) : orgt (dec b) = true ∧ Ok (dec b) ∧ enc (dec b) = b := by
  obtain ⟨hl, h0, ho, hw, hf⟩ := (iso_iff b).1 h
  rw [dec_yes h]
  have hx : (b.take 52).length = 52 := by rw [List.length_take]; omega
  have yx : Bytes (b.take 52) := hy.take _
  have k := parts_ok hx
  have y2 : Bytes (((b.take 52).drop 2).take 2) := (yx.drop _).take _
  have y4 : Bytes (((b.take 52).drop 4).take 32) := (yx.drop _).take _
  have l2 : (((b.take 52).drop 2).take 2).length = 2 := by rw [List.length_take, List.length_drop]; omega
  have l4 : (((b.take 52).drop 4).take 32).length = 4 * 8 := by rw [List.length_take, List.length_drop]; omega
  obtain ⟨x, y, e⟩ := cut2 _ l2
  have hxx := y2 x (by rw [e]; simp)
  have hyy := y2 y (by rw [e]; simp)
  have eq : oq (b.take 52) = 256 * x + y := by unfold oq; rw [e]; rfl
  have i2 : in2 (oq (b.take 52)) = true := (in2_iff _).2 (by omega)
  have r : orgt (parts (b.take 52)) = true := (orgt_iff _).2 ⟨i2, nums_in 8 _ l4 y4, sts_rgt hw⟩
  refine ⟨r, k, ?_⟩
  have p2 : put2 (oq (b.take 52)) = ((b.take 52).drop 2).take 2 := by
    rw [put2_yes i2, e, eq]
    have e1 : (256 * x + y) / 256 = x := by omega
    have e2 : (256 * x + y) % 256 = y := by omega
    rw [e1, e2]
  have p4 : fours (ov (b.take 52)) = ((b.take 52).drop 4).take 32 := fours_nums 8 _ l4 y4
  have p36 : wds (sts (b.take 52) 8) = (b.take 52).drop 36 := by
    rw [wds_sts yx hx 8 (Nat.le_refl _) hw, List.take_of_length_le (by rw [List.length_drop]; omega)]
  have hh : head (parts (b.take 52)) = b.take 52 := by
    have s : b.take 52 = (b.take 52).take 2 ++ (((b.take 52).drop 2).take 2 ++ (((b.take 52).drop 4).take 32 ++ (b.take 52).drop 36)) := by
      rw [show (b.take 52).drop 36 = ((b.take 52).drop 4).drop 32 by rw [List.drop_drop], List.take_append_drop, show (b.take 52).drop 4 = ((b.take 52).drop 2).drop 2 by rw [List.drop_drop], List.take_append_drop, List.take_append_drop]
    have s2 : (b.take 52).take 2 = [90, ((fl (parts (b.take 52)).s : Nat) : Int)] := by
      rw [hf, ← h0]
      match b, hl with
      | u :: v :: t, _ => rfl
    conv => rhs; rw [s]
    unfold head
    rw [s2]
    show _ ++ (put2 (oq (b.take 52)) ++ (fours (ov (b.take 52)) ++ wds (sts (b.take 52) 8))) = _
    rw [p2, p4, p36]
  rw [enc_yes r]
  unfold sealed
  rw [hh]
  obtain ⟨_, o1, o2⟩ := (opens_iff b).1 ho
  rw [hl] at o1 o2
  rw [show 54 - 2 = 52 by rfl] at o1 o2
  rw [show 54 - 1 = 53 by rfl] at o2
  have t := Cr.take_getD b 52 hl
  rw [← o1, ← o2]
  exact t.symm
end Ot
end Go.Proofs.YtpoededbmdffpaaGreatDoor
