/-
 All signals, cycle by cycle, as functions of numbers and lists: what a cycle does to a fusion, and what it tells. No Go text is reached here. No conditions.
 What the small functions of package word do (counted, told, read, readFour, Next, After, Get2, Get4): contracts by walking the Go text. Their conditions: where the bytes lie.
 What Right of package frame does: its contract by walking the Go text. No conditions.
 What headReject and Name of package frame do: contracts by walking the Go text. Conditions: where the bytes lie; that the table of names holds the names.
 What laid of package frame does: its contract by walking the Go text. Conditions: eight numbers, and where they lie.
 What write, Put2 and Put4 of package word do: contracts by walking the Go text. Conditions of write: a row of bytes that is known whole, and the piece of it.
-/
import Derived.Test.YticidhbnljdidaaGreatDoorJSignalBound10
import Derived.Test.YticidhbnljdidaaGreatDoorJWordMath6
import Derived.Test.YticidhbnljdidaaGreatDoorJStatusMath4
import Derived.Test.YticidhbnljdidaaGreatDoorJAgg8
import Derived.Deep.LoopGhost
import Derived.IntWalk
import Derived.WalkSmall
import Derived.Laws.BitsAll
import Derived.Maps.AppendAt
import Derived.OwnWalk
namespace Go.Proofs.YticidhbnljdidaaGreatDoor
set_option maxRecDepth 100000
namespace Fu
open Cf (G)
open Sg (NN Si Rw rw0 mk4)
open Rg (Nt)
open Cr (Bytes)
structure Sl where
 is : Bool
 l : List Int
structure Tk where
 last : Int
 has : Bool
 n : List Int
structure Fs where
 t : Nat → Tk
 s : Nat → Si
 notes : List Nt
 k : Nat
def tk0 : Tk := ⟨0,false,[0,0,0,0,0,0,0]⟩
def begin (c : List Int) : Fs := ⟨fun _ => tk0,fun _ => Sg.begin c,[],0⟩
section
variable (c : List Int) (m : Fs) (y : Nat → Sl)
def rj (i : Nat) : Int := Fh.jr i (m.t i).last (m.t i).has (y i).is (y i).l
def fr (i : Nat) : List Int := Fh.jf i (m.t i).last (m.t i).has (y i).is (y i).l
def tkn (i : Nat) : Tk := ⟨Fh.jl i (m.t i).last (y i).is (y i).l,Fh.jh i (m.t i).has (y i).is (y i).l,Fh.one (m.t i).n (rj m y i).toNat⟩
def raw (j i : Nat) : Rw := if i < NN c ∧ rj m y i = 0 then ⟨true,(fr m y i).getD (1 + j) 0⟩ else rw0
def lac (i j : Nat) : Bool := decide (i < NN c) && ((m.s j).ch i).st.la
def lal (i : Nat) : List Bool := (List.range 8).map (lac c m i)
def lam (i : Nat) : Int := Fx.bits (lal c m i)
def isSh (i : Nat) : Bool := decide (i < NN c) && decide (G c 16 ≤ (Fx.trues (lal c m i) : Int))
def sh : Int := mk4 (isSh c m)
def sgn (j : Nat) : Si := Sg.nxt c (m.s j) (raw c m y j) (sh c m)
def evi (i j : Nat) : Int := Sg.evi c (m.s j) (raw c m y j) (sh c m) i
def tri (i j : Nat) : Int := Sg.tri c (m.s j) (raw c m y j) (sh c m) i
def nt (i j : Nat) : Nt := ⟨m.k,i,j,evi c m y i j - 1,tri c m y i j⟩
def ntr (i k : Nat) : List Nt := (List.range k).filterMap fun j => if evi c m y i j = 0 then none else some (nt c m y i j)
def nts (n : Nat) : List Nt := (List.range n).flatMap fun i => ntr c m y i 8
def nx : Fs := ⟨fun i => if i < NN c then tkn m y i else m.t i,fun j => if j < 8 then sgn c m y j else m.s j,m.notes ++ nts c m y (NN c),m.k + 1⟩
def sta (j : Nat) : Ss.St := ⟨Sg.inm c (m.s j) (raw c m y j) (sh c m),Sg.lam c (sgn c m y j),Sg.sus c (m.s j) (raw c m y j) (sh c m),!Sg.any c (m.s j) (raw c m y j) (sh c m)⟩
def vls (j : Nat) : Int := Sg.val c (m.s j) (raw c m y j) (sh c m)
def out : Ot.Ou := ⟨(m.k : Int) % 65536,(List.range 8).map (vls c m y),(List.range 8).map (sta c m y)⟩
end
structure Tok (t : Tk) (k : Nat) : Prop where
 len : t.n.length = 7
 cnt : ∀ j,0 ≤ t.n.getD j 0 ∧ t.n.getD j 0 ≤ (k : Int)
structure Ok (c : List Int) (m : Fs) : Prop where
 t : ∀ i,i < NN c → Tok (m.t i) m.k
 s : ∀ j,j < 8 → Sg.Ok c (m.s j) ∧ (m.s j).votes.length = m.k
 n : m.notes.length ≤ 32 * m.k
def Yok (c : List Int) (y : Nat → Sl) : Prop := ∀ i,i < NN c → Bytes (y i).l
section
variable {c : List Int} {m : Fs} {y : Nat → Sl}
theorem getD_in {l : List Int} {k : Nat} (h : k < l.length) : l.getD k 0 ∈ l := by
 rw [List.getD_eq_getElem?_getD,List.getElem?_eq_getElem h]; simp
theorem tok0 : Tok tk0 0 := by
 refine ⟨rfl,fun j => ?_⟩
 have h : (tk0.n).getD j 0 = 0 := by
  unfold tk0
  rcases Nat.lt_or_ge j 7 with h | h
  · have : j = 0 ∨ j = 1 ∨ j = 2 ∨ j = 3 ∨ j = 4 ∨ j = 5 ∨ j = 6 := by omega
    rcases this with rfl | rfl | rfl | rfl | rfl | rfl | rfl <;> rfl
  · rw [List.getD_eq_getElem?_getD,List.getElem?_eq_none (by simpa using h)]; rfl
 rw [h]; exact ⟨Int.le_refl _,Int.le_refl _⟩
theorem ok_begin (h : Cf.Right c) : Ok c (begin c) :=
 ⟨fun _ _ => tok0,fun _ _ => ⟨Sg.ok_begin h,rfl⟩,by simp [begin]⟩
theorem tok_next {t : Tk} {k r : Nat} (h : Tok t k) (last : Int) (has : Bool) : Tok ⟨last,has,Fh.one t.n r⟩ (k + 1) := by
 refine ⟨by unfold Fh.one; rw [List.length_set]; exact h.len,fun j => ?_⟩
 show 0 ≤ (Fh.one t.n r).getD j 0 ∧ (Fh.one t.n r).getD j 0 ≤ ((k + 1 : Nat) : Int)
 have hj := h.cnt j
 have hr := h.cnt r
 unfold Fh.one
 rw [List.getD_eq_getElem?_getD] at hj ⊢
 by_cases e : r = j
 · subst e
   by_cases hl : r < t.n.length
   · rw [List.getElem?_set_self hl]
     simp only [Option.getD_some]
     omega
   · rw [List.getElem?_eq_none (by rw [List.length_set]; omega)]
     simp
     omega
 · rw [List.getElem?_set_ne e]
   omega
theorem has_mk4 (f : Nat → Bool) {k : Nat} (hk : k < 4) : Fx.has (mk4 f) (k : Int) = f k := by
 have e : ((Fx.bitsN [f 0,f 1,f 2,f 3] : Nat) : Int) = mk4 f := by
  unfold mk4
  cases f 0 <;> cases f 1 <;> cases f 2 <;> cases f 3 <;> rfl
 rw [← e,Fx.has_bitsN _ (by simp) _ (by omega)]
 have : k = 0 ∨ k = 1 ∨ k = 2 ∨ k = 3 := by omega
 rcases this with rfl | rfl | rfl | rfl <;> rfl
theorem sh_bd : 0 ≤ sh c m ∧ sh c m ≤ 15 := Sg.mk4_bd _
theorem lal_len (i : Nat) : (lal c m i).length = 8 := by unfold lal; simp
theorem count_lam (i : Nat) : Fx.count (lam c m i) = (Fx.trues (lal c m i) : Int) := by
 have h := lal_len (c := c) (m := m) i
 unfold lam Fx.bits
 rw [if_pos (by omega),Fx.count_bitsN _ (by omega)]
theorem fr_in (hy : Yok c y) {i : Nat} (hi : i < NN c) (h4 : NN c ≤ 4) (h : rj m y i = 0) : (fr m y i).length = 9 ∧ ∀ j,j < 9 → -2147483648 ≤ (fr m y i).getD j 0 ∧ (fr m y i).getD j 0 ≤ 2147483647 := by
 have hr : Fm.rej (i : Int) (y i).is (y i).l = 0 := by
  by_cases q : Fm.rej (i : Int) (y i).is (y i).l = 0
  · exact q
  · unfold rj at h
    rw [Fh.jr_no q] at h
    exact absurd h q
 have hf : fr m y i = Fm.fseq (y i).l :: Fm.fvals (y i).l := by
  unfold fr Fh.jf
  unfold rj at h
  rw [if_pos h,Fm.dec_yes hr]
 obtain ⟨b1,b2,-⟩ := Fm.back hr ((Fm.chan_iff _).2 ⟨by omega,by omega⟩) (hy i hi)
 obtain ⟨r1,r2⟩ := (Fm.right_iff _ _).1 b1
 rw [hf]
 refine ⟨by simp [b2],fun j hj => ?_⟩
 cases j with
 | zero =>
   have := (Wd.in2_iff _).1 r2
   simp only [List.getD_cons_zero]
   omega
 | succ j =>
   rw [List.getD_cons_succ]
   have := List.all_eq_true.1 r1 _ (getD_in (l := Fm.fvals (y i).l) (k := j) (by omega))
   have := (Wd.in4_iff _).1 this
   omega
theorem raw_ok (hR : Cf.Right c) (hy : Yok c y) (j : Nat) (hj : j < 8) : Sg.Rok c (raw c m y j) := by
 intro i hi his
 unfold raw at his ⊢
 split at his
 · rename_i h
   rw [if_pos h]
   have h4 : NN c ≤ 4 := by have := Sg.NN_34 hR; omega
   exact (fr_in hy hi h4 h.2).2 (1 + j) (by omega)
 · cases his
theorem okr_any (hR : Cf.Right c) (hy : Yok c y) (j : Nat) (hj : j < 8) : Sg.okr c (raw c m y j) (sh c m) := ⟨raw_ok hR hy j hj,sh_bd.1,sh_bd.2⟩
theorem ntr_len (i k : Nat) : (ntr c m y i k).length ≤ k := by
 unfold ntr
 have := List.length_filterMap_le (fun j => if evi c m y i j = 0 then none else some (nt c m y i j)) (List.range k)
 rwa [List.length_range] at this
theorem nts_next (n : Nat) : nts c m y (n + 1) = nts c m y n ++ ntr c m y n 8 := by
 unfold nts
 rw [List.range_succ,List.flatMap_append]
 simp
theorem nts_len (n : Nat) : (nts c m y n).length ≤ 8 * n := by
 induction n with
 | zero => simp [nts]
 | succ n ih =>
   rw [nts_next,List.length_append]
   have := ntr_len (c := c) (m := m) (y := y) n 8
   omega
theorem ok_nx (hR : Cf.Right c) (hy : Yok c y) (h : Ok c m) : Ok c (nx c m y) := by
 refine ⟨fun i hi => ?_,fun j hj => ?_,?_⟩
 · show Tok (if i < NN c then tkn m y i else m.t i) (m.k + 1)
   rw [if_pos hi]
   exact tok_next (h.t i hi) _ _
 · show Sg.Ok c (if j < 8 then sgn c m y j else m.s j) ∧ (if j < 8 then sgn c m y j else m.s j).votes.length = m.k + 1
   rw [if_pos hj]
   obtain ⟨h1,h2⟩ := h.s j hj
   refine ⟨Sg.ok_nxt hR (raw_ok hR hy j hj) h1,?_⟩
   show ((m.s j).votes ++ [_]).length = m.k + 1
   rw [List.length_append,h2]; rfl
 · show (m.notes ++ nts c m y (NN c)).length ≤ 32 * (m.k + 1)
   rw [List.length_append]
   have h1 := h.n
   have h2 := nts_len (c := c) (m := m) (y := y) (NN c)
   have := Sg.NN_34 hR
   omega
end
section
variable {c : List Int} {s : Si} {r : Nat → Rw} {sh : Int}
theorem trp_bd (i : Nat) : 0 ≤ Sg.trp c s r sh i ∧ Sg.trp c s r sh i ≤ 63 := by
 unfold Sg.trp Sg.ahd Jp.trips
 repeat' split
 all_goals omega
theorem tri_bd (i : Nat) : 0 ≤ Sg.tri c s r sh i ∧ Sg.tri c s r sh i ≤ 63 := by
 unfold Sg.tri
 have := trp_bd (c := c) (s := s) (r := r) (sh := sh) i
 split <;> omega
theorem evi_bd (i : Nat) : 0 ≤ Sg.evi c s r sh i ∧ Sg.evi c s r sh i ≤ 3 := by
 unfold Sg.evi Sg.wha Lc.wha
 repeat' split
 all_goals omega
theorem inm_bit {i : Nat} (hi : i < 4) : Fx.has (Sg.inm c s r sh) (i : Int) = (decide (i < NN c) && Sg.isin c s r sh i) := has_mk4 _ hi
theorem lam_bit {i : Nat} (hi : i < 4) : Fx.has (Sg.lam c s) (i : Int) = (decide (i < NN c) && (s.ch i).st.la) := has_mk4 _ hi
theorem inm_zero (hR : Cf.Right c) : (Sg.inm c s r sh = 0) ↔ Sg.any c s r sh = false := by
 have h4 : NN c ≤ 4 := by have := Sg.NN_34 hR; omega
 constructor
 · intro h
   rw [Bool.eq_false_iff]
   intro ha
   obtain ⟨i,hi⟩ := List.exists_mem_of_ne_nil _ (Sg.any_iff.1 ha)
   obtain ⟨h1,h2⟩ := Sg.inl_iff.1 hi
   have := inm_bit (c := c) (s := s) (r := r) (sh := sh) (i := i) (by omega)
   rw [h,Sg.has_zero,h2,decide_eq_true h1] at this
   cases this
 · intro ha
   have h0 : ∀ i,(decide (i < NN c) && Sg.isin c s r sh i) = false := by
    intro i
    rw [Bool.eq_false_iff]
    intro q
    rw [Bool.and_eq_true,decide_eq_true_eq] at q
    have : Sg.any c s r sh = true := Sg.any_iff.2 (fun e => by
     have := Sg.inl_iff.2 q
     rw [e] at this; cases this)
    rw [ha] at this; cases this
   unfold Sg.inm mk4
   simp [h0]
theorem sus_lt {l : List Int} {b : Int} (h : 0 ≤ Pa.sus l b) : Pa.sus l b < (l.length : Int) := by
 have hb := Pa.last_bd b (Pa.res l) (Pa.res l).length
 have hl : (Pa.res l).length ≤ l.length := by
  unfold Pa.res
  split
  · unfold Pa.resTo; simp
  · simp
 unfold Pa.sus Pa.susOf at h ⊢
 split at h
 · omega
 · rename_i q
   rw [if_neg q]
   split at h
   · rename_i q2
     rw [if_pos q2]
     omega
   · omega
theorem sus_bd (hR : Cf.Right c) : Sg.sus c s r sh = -1 ∨ Fx.has (Sg.inm c s r sh) (Sg.sus c s r sh) = true := by
 have h4 : NN c ≤ 4 := by have := Sg.NN_34 hR; omega
 unfold Sg.sus
 split
 · exact Or.inl rfl
 · rename_i h
   right
   have hl : (Pa.sus (Sg.evs c s r sh) (G c 9)).toNat < (Sg.inl c s r sh).length := by
    have := sus_lt (l := Sg.evs c s r sh) (b := G c 9) (by omega)
    have e : (Sg.evs c s r sh).length = (Sg.inl c s r sh).length := by unfold Sg.evs; rw [List.length_map]
    omega
   obtain ⟨h1,h2⟩ := Sg.inl_iff.1 (Sg.getD_mem hl)
   rw [inm_bit (by omega),h2,decide_eq_true h1]; rfl
end
section
variable {c : List Int} {m : Fs} {y : Nat → Sl}
theorem sta_rgt (hR : Cf.Right c) (j : Nat) : Ss.rgt (sta c m y j) = true := by
 have h1 := Sg.mk4_bd (fun i => decide (i < NN c) && Sg.isin c (m.s j) (raw c m y j) (sh c m) i)
 have h2 := Sg.mk4_bd (fun i => decide (i < NN c) && ((sgn c m y j).ch i).st.la)
 have h3 := inm_zero (s := m.s j) (r := raw c m y j) (sh := sh c m) hR
 have h4 := sus_bd (s := m.s j) (r := raw c m y j) (sh := sh c m) hR
 unfold Ss.rgt
 rw [Bool.and_eq_true,Bool.and_eq_true,Bool.and_eq_true,Ss.mk_iff,Ss.mk_iff,Bool.or_eq_true]
 refine ⟨⟨⟨?_,?_⟩,?_⟩,?_⟩
 · show 0 ≤ Sg.inm c (m.s j) (raw c m y j) (sh c m) ∧ _
   unfold Sg.inm; exact ⟨h1.1,Int.lt_of_le_of_lt h1.2 (by decide)⟩
 · show 0 ≤ Sg.lam c (sgn c m y j) ∧ _
   unfold Sg.lam; exact ⟨h2.1,Int.lt_of_le_of_lt h2.2 (by decide)⟩
 · show ((!Sg.any c (m.s j) (raw c m y j) (sh c m)) == (Sg.inm c (m.s j) (raw c m y j) (sh c m) == 0)) = true
   cases ha : Sg.any c (m.s j) (raw c m y j) (sh c m)
   · rw [h3.2 ha]; rfl
   · have : (Sg.inm c (m.s j) (raw c m y j) (sh c m) == 0) = false := by
      rw [Bool.eq_false_iff]
      intro q
      have := h3.1 (by simpa using q)
      rw [ha] at this; cases this
     rw [this]; rfl
 · rcases h4 with q | q
   · left; show (Sg.sus _ _ _ _ == -1) = true; rw [q]; rfl
   · exact Or.inr q
theorem vls_in (h : Ok c m) (j : Nat) (hj : j < 8) : G c 1 ≤ vls c m y j ∧ vls c m y j ≤ G c 2 := Sg.val_in (h.s j hj).1
theorem out_ok : Ot.Ok (out c m y) := ⟨by simp [out],by simp [out]⟩
theorem out_rgt (hR : Cf.Right c) (h : Ok c m) : Ot.orgt (out c m y) = true := by
 rw [Ot.orgt_iff]
 refine ⟨?_,?_,?_⟩
 · rw [Wd.in2_iff]
   show 0 ≤ (m.k : Int) % 65536 ∧ (m.k : Int) % 65536 ≤ 65535
   omega
 · rw [List.all_eq_true]
   intro v hv
   obtain ⟨j,hj,rfl⟩ := List.mem_map.1 hv
   have h1 := vls_in (y := y) h j (List.mem_range.1 hj)
   rw [Wd.in4_iff]
   obtain ⟨-,l1,l2,-⟩ := hR
   omega
 · rw [List.all_eq_true]
   intro v hv
   obtain ⟨j,-,rfl⟩ := List.mem_map.1 hv
   exact sta_rgt hR j
theorem shut_out {i j : Nat} (hi : i < 4) (h : isSh c m i = true) : Sg.isin c (m.s j) (raw c m y j) (sh c m) i = false := by
 rw [Bool.eq_false_iff]
 intro q
 have := (Sg.isin_iff.1 q).2.2.2.1
 unfold sh at this
 rw [has_mk4 _ hi,h] at this
 cases this
end
end Fu
open Go.ChangeShapes Go.WideShapes Go.ChangeAt Go.RowKit Go.Deep
namespace Wd
open Cr (Bytes)
theorem ret_int {k : IntKind} {n m : Int} (h : n = m) : Ending.returned (.int k n) = .returned (.int k m) := by rw [h]
theorem ret_bool {a b : Bool} (h : a = b) : Ending.returned (.bool a) = .returned (.bool b) := by rw [h]
theorem ret_ib {n m : Int} {a b : Bool} (h : n = m) (k : a = b) : Ending.returned (.tuple #[.int .i64 n,.bool a]) = .returned (.tuple #[.int .i64 m,.bool b]) := by rw [h,k]
theorem counted_any (n : Int) (w : World) :
 Calls Tryz.prog 71 #[.int .i64 n] w fun e w' => e = .returned (.bool (in2 n)) ∧ w = w' := by
 by_cases h1 : 0 ≤ n
 · by_cases h2 : n ≤ 65535
   · have HF := Lib.hid ((in2_iff n).2 ⟨h1,h2⟩)
     have d : decide (n < 65536) = true := by simp; omega
     go_enter Tryz.func71,Tryz.ntmps71
     go_wp2
     go_ret
     exact ⟨ret_bool HF.out.symm,rfl⟩
   · have HF := Lib.hid (in2_no (n := n) (by omega))
     have d : decide (n < 65536) = false := by simp; omega
     go_enter Tryz.func71,Tryz.ntmps71
     go_wp2
     go_ret
     exact ⟨ret_bool HF.out.symm,rfl⟩
 · have HF := Lib.hid (in2_no (n := n) (by omega))
   have d : decide (0 ≤ n) = false := by simpa using h1
   go_enter Tryz.func71,Tryz.ntmps71
   go_wp2
   go_ret
   exact ⟨ret_bool HF.out.symm,rfl⟩
theorem told_any (n : Int) (w : World) :
 Calls Tryz.prog 126 #[.int .i64 n] w fun e w' => e = .returned (.bool (in4 n)) ∧ w = w' := by
 by_cases h1 : -2147483648 ≤ n
 · by_cases h2 : n ≤ 2147483647
   · have HF := Lib.hid ((in4_iff n).2 ⟨h1,h2⟩)
     go_enter Tryz.func126,Tryz.ntmps126
     go_wp2
     go_ret
     exact ⟨ret_bool HF.out.symm,rfl⟩
   · have HF := Lib.hid (in4_no (n := n) (by omega))
     have d : decide (n ≤ 2147483647) = false := by simpa using h2
     go_enter Tryz.func126,Tryz.ntmps126
     go_wp2
     go_ret
     exact ⟨ret_bool HF.out.symm,rfl⟩
 · have HF := Lib.hid (in4_no (n := n) (by omega))
   have d : decide (-2147483648 ≤ n) = false := by simpa using h1
   go_enter Tryz.func126,Tryz.ntmps126
   go_wp2
   go_ret
   exact ⟨ret_bool HF.out.symm,rfl⟩
theorem next_any (n : Int) (w : World) :
 Calls Tryz.prog 28 #[.int .i64 n] w fun e w' => e = .returned (.int .i64 (next n)) ∧ w = w' := by
 have C := counted_any n w
 cases h : in2 n
 · rw [h] at C
   have HF := Lib.hid (show next n = 0 by
    unfold next
    rw [if_neg (fun q => by rw [(in2_iff n).2 ⟨q.1,by omega⟩] at h; cases h)])
   go_enter Tryz.func28,Tryz.ntmps28
   go_wp2_with fail
   refine C.mono ?_; rintro e w1 ⟨rfl,rfl⟩
   go_wp2
   go_ret
   exact ⟨ret_int HF.out.symm,rfl⟩
 · rw [h] at C
   have hn := (in2_iff n).1 h
   have HF := Lib.hid (next_mod hn)
   go_enter Tryz.func28,Tryz.ntmps28
   go_wp2_with fail
   refine C.mono ?_; rintro e w1 ⟨rfl,rfl⟩
   go_wp2
   go_ret
   exact ⟨ret_int HF.out.symm,rfl⟩
set_option maxHeartbeats 800000 in
theorem read_any (a : Option Addr) (cap : Nat) (l : List Int) (w : World) (hl : l.length ≤ 4) (hy : Bytes l) (hb : IntsAt .u8 w a l) :
 Calls Tryz.prog 150 #[.slice a l.length cap] w fun e w' => e = .returned (.int .i64 (val l)) ∧ w = w' := by
 have HY := Lib.hid hy
 have HB := Lib.hid hb
 clear hy hb
 go_enter Tryz.func150,Tryz.ntmps150
 go_wp2
 go_loopg [3,8] l.length (fun gg s3 s8 wr => ∃ k : Nat,k + gg = l.length ∧ s8 = .int .i64 k ∧ s3 = .int .i64 (val (l.take k)) ∧ w = wr)
 case atStart => exact ⟨0,by omega,rfl,by rw [List.take_zero]; rfl,rfl⟩
 case round =>
  obtain ⟨k,hkg,rfl,rfl,rfl⟩ := hrel
  by_cases hk : k < l.length
  · rcases HB.out with hnil | ⟨b,off,rfl,hc⟩
    · rw [hnil] at hk; simp at hk
    have hki : (k : Int) < (l.length : Int) := by omega
    have hcx := hc k hk
    have hg := HY.out.getD k
    have HU := Lib.hid (val_next l k hk)
    have hV := val_in HY.out k (by omega) (by omega)
    have hV2 := hV.2.2 (by omega)
    have HO := or_next (val (l.take k)) (l.getD k 0) ⟨hV.1,hV2⟩ hg
    have hV1 := hV.1
    clear hc hV
    generalize val (l.take k) = X at *
    generalize l.getD k 0 = c at *
    go_wp2
    go_roundg (gk - 1)
    case rel => exact ⟨k + 1,by omega,by go_num,by rw [HU.out],rfl⟩
    case measure => omega
  · obtain rfl : k = l.length := by omega
    go_wp2
    go_ret
    exact ⟨ret_int (val_all l),rfl⟩
theorem readFour_any (a : Option Addr) (cap : Nat) (l : List Int) (w : World) (h4 : l.length = 4) (hy : Bytes l) (hb : IntsAt .u8 w a l) :
 Calls Tryz.prog 151 #[.slice a 4 cap] w fun e w' => e = .returned (.int .i64 (get4v l)) ∧ w = w' := by
 have C := read_any a cap l w (by omega) hy hb
 have hV := val_in hy l.length (Nat.le_refl _) (by omega)
 rw [val_all] at hV
 have HF := Lib.hid (val_four' h4)
 rw [h4] at C
 clear hy hb h4
 have hV1 := hV.1
 have hV2 := hV.2.1
 clear hV
 generalize val l = X at *
 by_cases hx : 2147483647 < X
 · have HD := Lib.hid (show X - 4294967296 = down X by unfold down; rw [if_pos (by omega)])
   have d : decide (2147483647 < X) = true := by simpa using hx
   go_enter Tryz.func151,Tryz.ntmps151
   go_wp2_with fail
   refine C.mono ?_; rintro e w1 ⟨rfl,rfl⟩
   go_wp2
   go_ret
   exact ⟨ret_int (HD.out.trans HF.out),rfl⟩
 · have HD := Lib.hid (show X = down X by unfold down; rw [if_neg (by omega)])
   have d : decide (2147483647 < X) = false := by simpa using hx
   go_enter Tryz.func151,Tryz.ntmps151
   go_wp2_with fail
   refine C.mono ?_; rintro e w1 ⟨rfl,rfl⟩
   go_wp2
   go_ret
   exact ⟨ret_int (HD.out.trans HF.out),rfl⟩
theorem get2_any (a : Option Addr) (cap : Nat) (l : List Int) (w : World) (_hl : l.length ≤ 9223372036854775807) (hy : Bytes l) (hb : IntsAt .u8 w a l) :
 Calls Tryz.prog 103 #[.slice a l.length cap] w fun e w' => e = .returned (.tuple #[.int .i64 (get2v l),.bool (get2b l)]) ∧ w = w' := by
 by_cases h : l.length = 2
 · have C := read_any a cap l w (by omega) hy hb
   have HF := Lib.hid (val_two h)
   have HG := Lib.hid ((get2b_iff l).2 h)
   rw [h] at C ⊢
   clear hy hb
   go_enter Tryz.func103,Tryz.ntmps103
   go_wp2_with fail
   refine C.mono ?_; rintro e w1 ⟨rfl,rfl⟩
   go_wp2
   go_ret2
   exact ⟨ret_ib HF.out HG.out.symm,rfl⟩
 · have HF := Lib.hid (get2v_no h)
   have HG := Lib.hid (show get2b l = false by cases e : get2b l; rfl; exact absurd ((get2b_iff l).1 e) h)
   have d : ((l.length : Int) != 2) = true := by simp; omega
   have d2 : ((l.length : Int) == 2) = false := by simp; omega
   clear hy hb
   go_enter Tryz.func103,Tryz.ntmps103
   go_wp2
   go_ret2
   exact ⟨ret_ib HF.out.symm HG.out.symm,rfl⟩
end Wd
namespace Fm
open Wd
open Cr (Bytes)
theorem nine (l : List Int) (h : l.length = 9) : ∃ s v0 v1 v2 v3 v4 v5 v6 v7,l = [s,v0,v1,v2,v3,v4,v5,v6,v7] := by
 match l,h with
 | [s,v0,v1,v2,v3,v4,v5,v6,v7],_ => exact ⟨s,v0,v1,v2,v3,v4,v5,v6,v7,rfl⟩
theorem eight (l : List Int) (h : l.length = 8) : ∃ v0 v1 v2 v3 v4 v5 v6 v7,l = [v0,v1,v2,v3,v4,v5,v6,v7] := by
 match l,h with
 | [v0,v1,v2,v3,v4,v5,v6,v7],_ => exact ⟨v0,v1,v2,v3,v4,v5,v6,v7,rfl⟩
theorem lt8 {k : Nat} (h : k < 8) : k = 0 ∨ k = 1 ∨ k = 2 ∨ k = 3 ∨ k = 4 ∨ k = 5 ∨ k = 6 ∨ k = 7 := by omega
theorem at8 (v0 v1 v2 v3 v4 v5 v6 v7 : Int) (k : Nat) (h : k < 8) (w : World) : (Instr.index 35 (.agg #[.int .i64 v0,.int .i64 v1,.int .i64 v2,.int .i64 v3,.int .i64 v4,.int .i64 v5,.int .i64 v6,.int .i64 v7]) (.int .i64 k)).run Tryz.prog w = .ok (.int .i64 ([v0,v1,v2,v3,v4,v5,v6,v7].getD k 0)) w := by
 rcases lt8 h with rfl | rfl | rfl | rfl | rfl | rfl | rfl | rfl <;> kernel_rfl
theorem right_seq {s : Int} (vs : List Int) (h : ¬ (0 ≤ s ∧ s ≤ 65535)) : right s vs = false := by
 cases e : right s vs
 · rfl
 · exact absurd ((in2_iff s).1 ((right_iff s vs).1 e).2) h
theorem right_val {s : Int} {vs : List Int} (k : Nat) (hk : k < vs.length) (h : in4 (vs.getD k 0) = false) : right s vs = false := by
 cases e : right s vs
 · rfl
 · have := List.all_eq_true.1 ((right_iff s vs).1 e).1 (vs[k]) (List.getElem_mem _)
   rw [List.getD_eq_getElem?_getD,List.getElem?_eq_getElem hk] at h
   simp at h this
   rw [h] at this; cases this
theorem all_next {vs : List Int} (k : Nat) (hk : k < vs.length) (h : (vs.take k).all in4 = true) (h1 : in4 (vs.getD k 0) = true) : (vs.take (k + 1)).all in4 = true := by
 rw [List.take_add_one,List.all_append,h]
 rw [List.getD_eq_getElem?_getD] at h1
 rw [List.getElem?_eq_getElem hk] at h1 ⊢
 simpa using h1
set_option maxHeartbeats 800000 in
theorem right_any (s v0 v1 v2 v3 v4 v5 v6 v7 : Int) (w : World) :
 Calls Tryz.prog 109 #[.agg #[.int .i64 s,.int .i64 v0,.int .i64 v1,.int .i64 v2,.int .i64 v3,.int .i64 v4,.int .i64 v5,.int .i64 v6,.int .i64 v7]] w fun e w' => e = .returned (.bool (right s [v0,v1,v2,v3,v4,v5,v6,v7])) ∧ Below w.heap.size w w' := by
 have BA := Lib.hid ((Below.refl w.heap.size w).alloc (Nat.le_refl _) (.cells #[.int .i64 s,.int .i64 v0,.int .i64 v1,.int .i64 v2,.int .i64 v3,.int .i64 v4,.int .i64 v5,.int .i64 v6,.int .i64 v7] 123))
 by_cases h1 : 0 ≤ s
 · by_cases h2 : s ≤ 65535
   · have IX := at8 v0 v1 v2 v3 v4 v5 v6 v7
     have d1 : decide (s < 0) = false := by simp; omega
     have d2 : decide (65536 ≤ s) = false := by simp; omega
     have H2 := Lib.hid ((in2_iff s).2 ⟨h1,h2⟩)
     go_enter Tryz.func109,Tryz.ntmps109
     go_wp2
     go_loopg [15] 8 (fun gg s15 wr => ∃ k : Nat,k + gg = 8 ∧ s15 = .int .i64 k ∧ Hid (([v0,v1,v2,v3,v4,v5,v6,v7].take k).all in4 = true) ∧ Hid (Below w.heap.size w wr))
     case atStart => exact ⟨0,by omega,rfl,Lib.hid rfl,BA⟩
     case round =>
      obtain ⟨k,hkg,rfl,HA,HB⟩ := hrel
      by_cases hk : k < 8
      · have hx := fun W => IX k hk W
        have hki : (k : Int) < 8 := by omega
        have HN := Lib.hid (fun h1 => all_next (vs := [v0,v1,v2,v3,v4,v5,v6,v7]) k (by simpa using hk) HA.out h1)
        have HV := Lib.hid (fun h1 => right_val (s := s) (vs := [v0,v1,v2,v3,v4,v5,v6,v7]) k (by simpa using hk) h1)
        clear IX
        generalize [v0,v1,v2,v3,v4,v5,v6,v7].getD k 0 = c at *
        by_cases c1 : -2147483648 ≤ c
        · by_cases c2 : c ≤ 2147483647
          · have e1 : decide (c < -2147483648) = false := by simp; omega
            have e2 : decide (2147483647 < c) = false := by simp; omega
            have H4 := Lib.hid ((in4_iff c).2 ⟨c1,c2⟩)
            go_wp2
            go_roundg (gk - 1)
            case rel => exact ⟨k + 1,by omega,by go_num,Lib.hid (HN.out H4.out),HB⟩
            case measure => omega
          · have e1 : decide (c < -2147483648) = false := by simp; omega
            have e2 : decide (2147483647 < c) = true := by simp; omega
            have H4 := Lib.hid (in4_no (n := c) (by omega))
            go_wp2
            go_ret
            exact ⟨ret_bool (HV.out H4.out).symm,HB.out⟩
        · have e1 : decide (c < -2147483648) = true := by simp; omega
          have H4 := Lib.hid (in4_no (n := c) (by omega))
          go_wp2
          go_ret
          exact ⟨ret_bool (HV.out H4.out).symm,HB.out⟩
      · obtain rfl : k = 8 := by omega
        go_wp2
        go_ret
        exact ⟨ret_bool ((right_iff s [v0,v1,v2,v3,v4,v5,v6,v7]).2 ⟨HA.out,H2.out⟩).symm,HB.out⟩
   · have d1 : decide (s < 0) = false := by simp; omega
     have d2 : decide (65536 ≤ s) = true := by simp; omega
     have HF := Lib.hid (right_seq (s := s) [v0,v1,v2,v3,v4,v5,v6,v7] (by omega))
     go_enter Tryz.func109,Tryz.ntmps109
     go_wp2
     go_ret
     exact ⟨ret_bool HF.out.symm,BA.out⟩
 · have d1 : decide (s < 0) = true := by simp; omega
   have HF := Lib.hid (right_seq (s := s) [v0,v1,v2,v3,v4,v5,v6,v7] (by omega))
   go_enter Tryz.func109,Tryz.ntmps109
   go_wp2
   go_ret
   exact ⟨ret_bool HF.out.symm,BA.out⟩
end Fm
namespace Fm
open Wd
open Cr (Bytes)
def hrej (c : Int) (is : Bool) (b : List Int) : Int :=
 if is = false then 1 else if b.length ≠ 38 then 2 else if b.getD 0 0 ≠ 165 then 3 else if b.getD 1 0 ≠ c then 4 else 0
theorem hrej_rej (c : Int) (is : Bool) (b : List Int) : rej c is b = if hrej c is b = 0 then (if Cr.opens b = true then 0 else 5) else hrej c is b := by
 unfold hrej rej
 generalize b.getD 0 0 = x
 generalize b.getD 1 0 = y
 generalize Cr.opens b = o
 by_cases h0 : is = false
 · rw [if_pos h0,if_pos h0,if_neg (by omega)]
 · rw [if_neg h0,if_neg h0]
   by_cases h1 : b.length ≠ 38
   · rw [if_pos h1,if_pos h1,if_neg (by omega)]
   · rw [if_neg h1,if_neg h1]
     by_cases h2 : x ≠ 165
     · rw [if_pos h2,if_pos h2,if_neg (by omega)]
     · rw [if_neg h2,if_neg h2]
       by_cases h3 : y ≠ c
       · rw [if_pos h3,if_pos h3,if_neg (by omega)]
       · rw [if_neg h3,if_neg h3,if_pos rfl]
         cases o <;> rfl
theorem hrej_fine {c : Int} {is : Bool} {b : List Int} (h : hrej c is b = 0) : is = true ∧ b.length = 38 ∧ b.getD 0 0 = 165 ∧ b.getD 1 0 = c := by
 unfold hrej at h
 cases is
 · simp at h
 · refine ⟨rfl,?_⟩
   by_cases h1 : b.length = 38
   · by_cases h2 : b.getD 0 0 = 165
     · by_cases h3 : b.getD 1 0 = c
       · exact ⟨h1,h2,h3⟩
       · rw [if_neg (by simp),if_neg (by simp [h1]),if_neg (by simpa using h2),if_pos h3] at h; cases h
     · rw [if_neg (by simp),if_neg (by simp [h1]),if_pos h2] at h; cases h
   · rw [if_neg (by simp),if_pos h1] at h; cases h
set_option maxHeartbeats 800000 in
theorem head_any (c : Int) (is : Bool) (a : Option Addr) (cap : Nat) (l : List Int) (w : World) (hy : Bytes l) (hb : IntsAt .u8 w a l) :
 Calls Tryz.prog 210 #[.int .i64 c,.agg #[.bool is,.slice a l.length cap]] w fun e w' => e = .returned (.int .i64 (hrej c is l)) ∧ Below w.heap.size w w' := by
 have BA := Lib.hid ((Below.refl w.heap.size w).alloc (Nat.le_refl _) (.cells #[.bool is,.slice a l.length cap] 45))
 cases is
 · have HF := Lib.hid (show hrej c false l = 1 by unfold hrej; simp)
   clear hb hy
   generalize l.length = n at *
   go_enter Tryz.func210,Tryz.ntmps210
   go_wp2
   go_ret
   exact ⟨ret_int HF.out.symm,BA.out⟩
 · by_cases h1 : l.length = 38
   · rcases hb with hnil | ⟨b,off,rfl,hc⟩
     · rw [hnil] at h1; simp at h1
     have c0 := hc 0 (by omega)
     have c1 := hc 1 (by omega)
     have hbl := cell_lt c0
     have hy1 := hy.getD 1
     rw [Nat.add_zero] at c0
     have HR := Lib.hid (show hrej c true l = if l.getD 0 0 ≠ 165 then 3 else if l.getD 1 0 ≠ c then 4 else 0 by unfold hrej; rw [if_neg (by simp),if_neg (by simp [h1])])
     rw [h1] at *
     clear hc hy
     generalize l.getD 0 0 = x at *
     generalize l.getD 1 0 = y at *
     have c0' : (w.alloc (.cells #[.bool true,.slice (some ⟨b,off,none⟩) 38 cap] 45)).cell? ⟨b,off,none⟩ = some (.int .u8 x) := by
      rw [(Below.refl w.heap.size w |>.alloc (Nat.le_refl _) _).cell (p := ⟨b,off,none⟩) hbl]; exact c0
     have c1' : (w.alloc (.cells #[.bool true,.slice (some ⟨b,off,none⟩) 38 cap] 45)).cell? ⟨b,off + 1,none⟩ = some (.int .u8 y) := by
      rw [(Below.refl w.heap.size w |>.alloc (Nat.le_refl _) _).cell (p := ⟨b,off + 1,none⟩) hbl]; exact c1
     by_cases h2 : x = 165
     · subst h2
       by_cases h3 : y = c
       · subst h3
         have HF := Lib.hid (show hrej y true l = 0 by rw [HR.out,if_neg (by simp),if_neg (by simp)])
         clear HR
         go_enter Tryz.func210,Tryz.ntmps210
         go_wp2
         go_ret
         exact ⟨ret_int HF.out.symm,BA.out⟩
       · have HF := Lib.hid (show hrej c true l = 4 by rw [HR.out,if_neg (by simp),if_pos h3])
         have d : (y != c) = true := by simpa using h3
         clear HR
         go_enter Tryz.func210,Tryz.ntmps210
         go_wp2
         go_ret
         exact ⟨ret_int HF.out.symm,BA.out⟩
     · have HF := Lib.hid (show hrej c true l = 3 by rw [HR.out,if_pos h2])
       have d : (x != 165) = true := by simpa using h2
       clear HR
       go_enter Tryz.func210,Tryz.ntmps210
       go_wp2
       go_ret
       exact ⟨ret_int HF.out.symm,BA.out⟩
   · have HF := Lib.hid (show hrej c true l = 2 by unfold hrej; simp [h1])
     have d : ((l.length : Int) != 38) = true := by simp; omega
     clear hb hy
     generalize l.length = n at *
     go_enter Tryz.func210,Tryz.ntmps210
     go_wp2
     go_ret
     exact ⟨ret_int HF.out.symm,BA.out⟩
end Fm
namespace Fm
open Wd
open Cr (Bytes)
theorem intSize : (Tryz.prog.info? 3).map (·.size) = some 1 := by kernel_rfl
theorem two_laid (w : World) (t : TypeId) : Below (w.heap.size + 1) (w.alloc (.cells (cellsI .i64 (List.replicate 8 0)).toArray t)) ((w.alloc (.cells (cellsI .i64 (List.replicate 8 0)).toArray t)).alloc (.cells (cellsI .i64 (List.replicate 8 0)).toArray t)) :=
 (Below.refl _ _).alloc (by simp) _
theorem two_row (w : World) (t : TypeId) : IRow .i64 ((w.alloc (.cells (cellsI .i64 (List.replicate 8 0)).toArray t)).alloc (.cells (cellsI .i64 (List.replicate 8 0)).toArray t)) (w.heap.size + 1) t (List.replicate 8 0) := by
 have := heap_alloc_new (w.alloc (.cells (cellsI .i64 (List.replicate 8 0)).toArray t)) (.cells (cellsI .i64 (List.replicate 8 0)).toArray t)
 rw [show (w.alloc (.cells (cellsI .i64 (List.replicate 8 0)).toArray t)).heap.size = w.heap.size + 1 by simp] at this
 exact this
theorem one_row (w : World) (t : TypeId) : IRow .i64 (w.alloc (.cells (cellsI .i64 (List.replicate 8 0)).toArray t)) w.heap.size t (List.replicate 8 0) := heap_alloc_new w _
theorem row8 {w : World} {g : Nat} {t : TypeId} {v0 v1 v2 v3 v4 v5 v6 v7 : Int} (h : IRow .i64 w g t [v0,v1,v2,v3,v4,v5,v6,v7]) : (w.cell? ⟨g,0,none⟩ = some (.int .i64 v0) ∧ w.cell? ⟨g,1,none⟩ = some (.int .i64 v1) ∧ w.cell? ⟨g,2,none⟩ = some (.int .i64 v2) ∧ w.cell? ⟨g,3,none⟩ = some (.int .i64 v3) ∧ w.cell? ⟨g,4,none⟩ = some (.int .i64 v4) ∧ w.cell? ⟨g,5,none⟩ = some (.int .i64 v5) ∧ w.cell? ⟨g,6,none⟩ = some (.int .i64 v6) ∧ w.cell? ⟨g,7,none⟩ = some (.int .i64 v7)) :=
 ⟨h.cell 0 (by simp),h.cell 1 (by simp),h.cell 2 (by simp),h.cell 3 (by simp),h.cell 4 (by simp),h.cell 5 (by simp),h.cell 6 (by simp),h.cell 7 (by simp)⟩
theorem row8_frozen {w : World} {g : Nat} {t : TypeId} {l : List Int} (h : IRow .i64 w g t l) : w.frozen? ⟨g,0,none⟩ = false ∧ w.frozen? ⟨g,1,none⟩ = false ∧ w.frozen? ⟨g,2,none⟩ = false ∧ w.frozen? ⟨g,3,none⟩ = false ∧ w.frozen? ⟨g,4,none⟩ = false ∧ w.frozen? ⟨g,5,none⟩ = false ∧ w.frozen? ⟨g,6,none⟩ = false ∧ w.frozen? ⟨g,7,none⟩ = false :=
 ⟨h.frozen 0,h.frozen 1,h.frozen 2,h.frozen 3,h.frozen 4,h.frozen 5,h.frozen 6,h.frozen 7⟩
theorem stored8 {w : World} {g : Nat} {t : TypeId} (v0 v1 v2 v3 v4 v5 v6 v7 : Int) (h : IRow .i64 w g t (List.replicate 8 0)) : IRow .i64 ((((((((w.setCell ⟨g,0,none⟩ (.int .i64 v0)).setCell ⟨g,1,none⟩ (.int .i64 v1)).setCell ⟨g,2,none⟩ (.int .i64 v2)).setCell ⟨g,3,none⟩ (.int .i64 v3)).setCell ⟨g,4,none⟩ (.int .i64 v4)).setCell ⟨g,5,none⟩ (.int .i64 v5)).setCell ⟨g,6,none⟩ (.int .i64 v6)).setCell ⟨g,7,none⟩ (.int .i64 v7)) g t [v0,v1,v2,v3,v4,v5,v6,v7] :=
 ((((((((h.set 0 v0).set 1 v1).set 2 v2).set 3 v3).set 4 v4).set 5 v5).set 6 v6).set 7 v7)
theorem stored8_below {B : Nat} {a w : World} {g : Nat} (v0 v1 v2 v3 v4 v5 v6 v7 : Int) (h : Below B a w) (hg : B ≤ g) : Below B a ((((((((w.setCell ⟨g,0,none⟩ (.int .i64 v0)).setCell ⟨g,1,none⟩ (.int .i64 v1)).setCell ⟨g,2,none⟩ (.int .i64 v2)).setCell ⟨g,3,none⟩ (.int .i64 v3)).setCell ⟨g,4,none⟩ (.int .i64 v4)).setCell ⟨g,5,none⟩ (.int .i64 v5)).setCell ⟨g,6,none⟩ (.int .i64 v6)).setCell ⟨g,7,none⟩ (.int .i64 v7)) :=
 ((((((((h.setCell (p := ⟨g,0,none⟩) hg _).setCell (p := ⟨g,1,none⟩) hg _).setCell (p := ⟨g,2,none⟩) hg _).setCell (p := ⟨g,3,none⟩) hg _).setCell (p := ⟨g,4,none⟩) hg _).setCell (p := ⟨g,5,none⟩) hg _).setCell (p := ⟨g,6,none⟩) hg _).setCell (p := ⟨g,7,none⟩) hg _)
theorem agg8 (w : World) : (isAgg 35).run Tryz.prog w = .ok true w := by simp [isAgg,run_underlying Tryz.underlying35]
theorem size8 : (Tryz.prog.info? 35).map (·.size) = some 8 := by kernel_rfl
set_option maxHeartbeats 800000 in
theorem laid_any (a : Option Addr) (cap : Nat) (v0 v1 v2 v3 v4 v5 v6 v7 : Int) (w : World) (hb : IntsAt .i64 w a [v0,v1,v2,v3,v4,v5,v6,v7]) :
 Calls Tryz.prog 228 #[.slice a 8 cap] w fun e w' => e = .returned (.agg #[.int .i64 v0,.int .i64 v1,.int .i64 v2,.int .i64 v3,.int .i64 v4,.int .i64 v5,.int .i64 v6,.int .i64 v7]) ∧ Below w.heap.size w w' := by
 have HB := Lib.hid ((hb.below ((Below.refl w.heap.size w).alloc (Nat.le_refl _) (.cells (cellsI .i64 (List.replicate 8 0)).toArray 35))).below ((Below.refl _ _).alloc (Nat.le_refl _) (.cells (cellsI .i64 (List.replicate 8 0)).toArray 35)))
 have HR := Lib.hid (two_row w 35)
 have HL := Lib.hid (two_laid w 35)
 have HO := Lib.hid (one_row w 35)
 clear hb
 go_enter Tryz.func228,Tryz.ntmps228
 go_wp2_with ((with_reducible show wpList _ _ _ (⟨some 6,_,_,_,_,_⟩ :: _) _ _); refine wpList_copyI rfl (.tmp 4) (.tmp 5) _ rfl 3 Tryz.underlying144 intSize .i64 (w.heap.size + 1) 0 (List.replicate 8 0) [v0,v1,v2,v3,v4,v5,v6,v7] 35 _ _ _ _ _ _ rfl rfl HR.out (by simp) (fun _ => rfl) HB.out (by simp) (w.heap.size + 1) _ HL.out (Nat.le_refl _) ?_
              intro w2 R2' B2'; have R2 := Lib.hid (show IRow _ _ _ _ [v0,v1,v2,v3,v4,v5,v6,v7] from (splice_whole (List.replicate 8 0) [v0,v1,v2,v3,v4,v5,v6,v7] (by simp)) ▸ R2'.out); have B2 := Lib.hid B2'; clear R2' B2'; 
              have R0 := Lib.hid (HO.out.below B2.out (by simp))
              obtain ⟨r0,r1,r2,r3,r4,r5,r6,r7⟩ := row8 R2.out
              obtain ⟨z0,z1,z2,z3,z4,z5,z6,z7⟩ := row8 (show IRow .i64 w2 w.heap.size 35 [0,0,0,0,0,0,0,0] from R0.out)
              obtain ⟨q0,q1,q2,q3,q4,q5,q6,q7⟩ := row8_frozen R0.out)
 have R3 := stored8 v0 v1 v2 v3 v4 v5 v6 v7 R0.out
 have B3 := stored8_below (g := w.heap.size) v0 v1 v2 v3 v4 v5 v6 v7 (((Below.refl w.heap.size w).alloc (Nat.le_refl _) _).trans (B2.out.mono (Nat.le_succ _))) (Nat.le_refl _)
 refine bodyPost_ret (v := .agg #[.int .i64 v0,.int .i64 v1,.int .i64 v2,.int .i64 v3,.int .i64 v4,.int .i64 v5,.int .i64 v6,.int .i64 v7]) ?_ rfl ⟨rfl,B3⟩
 exact Agg.ret_row (l := [v0,v1,v2,v3,v4,v5,v6,v7]) rfl rfl (agg8 _) size8 R3
end Fm
namespace Wd
open Cr (Bytes)
theorem byteInfo : (Tryz.prog.info? 5).map (fun i => (i.zero,i.size,i.bytes)) = some (some (.int .u8 0),1,1) := by kernel_rfl
theorem intInfo : (Tryz.prog.info? 3).map (fun i => (i.zero,i.size,i.bytes)) = some (some (.int .i64 0),1,8) := by kernel_rfl
theorem zeros_cells8 (n : Nat) : (madeCells (Value.int .u8 0).cells (n * 1)).toList = cellsI .u8 (List.replicate n 0) := by
 have : (Value.int .u8 0).cells = #[Value.int .u8 0] := rfl
 rw [this,toList_madeCells_one]; simp [cellsI]
theorem grown_set (W : World) (g i : Nat) (v : Value) : W.grownBy (W.setCell ⟨g,i,none⟩ v) (some g) :=
 ⟨rfl,rfl,rfl,by simp,fun k _ hk => heap_setCell_other W ⟨g,i,none⟩ k v (fun e => hk (by simp [e]))⟩
set_option maxHeartbeats 800000 in
theorem write_any (g off m cap : Nat) (cur : List Int) (t : TypeId) (n : Int) (w : World) (hm : 0 < m ∧ m ≤ 4) (hg : IRow .u8 w g t cur) (hf : off + m ≤ cur.length) :
 Calls Tryz.prog 125 #[.slice (some ⟨g,off,none⟩) m cap,.int .i64 n] w fun e w' => e = .returned (.tuple #[]) ∧ IRow .u8 w' g t (splice cur off (wbytes n m)) ∧ w.grownBy w' (some g) := by
 have HG := Lib.hid hg
 clear hg
 go_enter Tryz.func125,Tryz.ntmps125
 go_wp2
 go_loopg [11] m (fun gg s11 wr => ∃ k : Nat,k + gg = m ∧ s11 = .int .i64 k ∧ Hid (IRow .u8 wr g t (splice cur off ((wbytes n m).take k))) ∧ Hid (w.grownBy wr (some g)))
 case atStart => exact ⟨0,by omega,rfl,Lib.hid (by rw [List.take_zero,splice_nil]; exact HG.out),Lib.hid (World.grownBy.refl w _)⟩
 case round =>
  obtain ⟨k,hkg,rfl,R,B⟩ := hrel
  by_cases hk : k < m
  · have hT : ((wbytes n m).take k).length = k := by rw [List.length_take,wbytes_len]; omega
    have hL : (splice cur off ((wbytes n m).take k)).length = cur.length := splice_len _ _ _ (by rw [hT]; omega)
    have hcl := R.out.cell (off + k) (by omega)
    have hfz := R.out.frozen (off + k)
    have HX := Lib.hid (wbytes_next n m k hk)
    have HS := Lib.hid (splice_next cur off ((wbytes n m).take k) (byteAt n (8 * (m - 1 - k))) (by rw [hT]; omega))
    rw [hT] at HS
    have hki : (k : Int) < (m : Int) := by omega
    generalize (splice cur off ((wbytes n m).take k)).getD (off + k) 0 = old at *
    go_wp2
    go_roundg (gk - 1)
    case rel => exact ⟨k + 1,by omega,by go_num,Lib.hid (by rw [HX.out,← HS.out]; exact R.out.set (off + k) _),Lib.hid (B.out.trans (grown_set _ _ _ _))⟩
    case measure => omega
  · obtain rfl : k = m := by omega
    go_wp2
    go_end0
    have := R.out
    rw [List.take_of_length_le (by rw [wbytes_len]; omega)] at this
    exact ⟨rfl,this,B.out⟩
set_option maxHeartbeats 800000 in
theorem put2_any (n : Int) (w : World) :
 Calls Tryz.prog 82 #[.int .i64 n] w (RetI .u8 w (put2 n)) := by
 have C := counted_any n w
 obtain ⟨i0,hi0,hz0,hz1,hz2⟩ := info_parts byteInfo
 cases h : in2 n
 · rw [h] at C
   have HF := Lib.hid (put2_no h)
   go_enter Tryz.func82,Tryz.ntmps82
   go_wp2_with fail
   refine C.mono ?_; rintro e w1 ⟨rfl,rfl⟩
   go_wp2
   go_ret
   exact retI_nil HF.out (Below.refl _ _)
 · rw [h] at C
   have HF := Lib.hid (wbytes_2 h)
   have D := fun W (hr : IRow .u8 W w.heap.size 5 (List.replicate 2 0)) => write_any w.heap.size 0 2 2 (List.replicate 2 0) 5 n W (by omega) hr (by simp)
   go_enter Tryz.func82,Tryz.ntmps82
   go_wp2_with fail
   refine C.mono ?_; rintro e w1 ⟨rfl,rfl⟩
   go_wp2_with (first
    | (at_make; refine wpList_make_full _ rfl _ _ _ rfl w.heap.size 5 i0 (.int .u8 0) 1 Tryz.underlying41 hi0 hz0 hz1 .i64 .i64 _ _ 2 rfl rfl (by omega) (by omega) (by rw [hz2]; omega) (by unfold maxLen; omega) (Nat.le_refl _) ?_; intro w2 own1 grown1
       have R1 := Lib.hid (IRow.of_own own1 (zeros_cells8 _)); have B1 := Lib.hid ((Below.refl w.heap.size w).grown grown1 (Nat.le_refl _) (by simp)); clear own1 grown1)
    | (go_at_call 125; refine (D _ R1.out).mono ?_; rintro e w3 ⟨rfl,r3,b3⟩; have R3 := Lib.hid r3; have B3 := Lib.hid b3; clear r3 b3))
   go_ret
   have R4 := R3.out
   rw [splice_whole _ _ (by rw [wbytes_len]; simp),HF.out] at R4
   have hlen := wbytes_len n 2
   rw [HF.out] at hlen
   exact retI_mk rfl hlen R4.ints (B1.out.grown B3.out B1.out.size (fun k e => by cases e; exact Nat.le_refl _))
end Wd
end Go.Proofs.YticidhbnljdidaaGreatDoor
