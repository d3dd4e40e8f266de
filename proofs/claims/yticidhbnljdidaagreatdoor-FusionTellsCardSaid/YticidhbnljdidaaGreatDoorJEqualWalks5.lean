/-
 What the calls of package equal do, but Learn: their contracts by walking the Go text. Conditions: where the trim, and what a closure captured, lie; that its offset may be one.
 How a signal lies in memory, as package signal lays it; a cycle's own struct beside it; what may be written of both. No function of the program is walked here. No conditions.
 A region that draws its order, within a round of a range over a function: what holds of it outside of rounds holds there, where none of its operations is a defer statement. No function of the program is walked here. No conditions beyond those said.
 What goes through the channels of a signal, in package signal (all, valued: ranges over functions, one within the other's rounds), and what only reads: contracts by walking the Go text. Conditions: how a signal lies.
 What the small calls of package signal return, and what trip and miss write: contracts by walking the Go text. Conditions: how a signal lies.
-/
import Derived.Test.YticidhbnljdidaaGreatDoorJAgg8
import Derived.Test.YticidhbnljdidaaGreatDoorFixWalks
import Derived.Test.YticidhbnljdidaaGreatDoorTail
import Derived.Test.YticidhbnljdidaaGreatDoorJSignalBound10
import Derived.Deep.LoopGhost
import Derived.RegionTactic
import Derived.StillTailTactics
import Derived.BigQuiet
import Derived.Lib.QuietBelow
import Derived.Test.YticidhbnljdidaaGreatDoorJTripSeq2
import Derived.Test.YticidhbnljdidaaGreatDoorJJumpWalks3
import Derived.OrdersIn
import Derived.RangeFuncCalls
import Derived.TacticsIn
import Derived.RangeFuncNested
import Derived.RangeFuncBound
import Derived.RangeFuncLeaves
import Derived.Shelf.Abstract
import Derived.Shelf.RegionOpen
import Derived.OwnWalkIn
import Derived.TacticsInMore
import Derived.LoopNIn
import Derived.LoopIn
namespace Go.Proofs.YticidhbnljdidaaGreatDoor
set_option maxRecDepth 100000
open Go.ChangeShapes Go.WideShapes Go.ChangeAt Go.RowKit Go.Deep
namespace Ql
open Fx (ret_bool)
open Jp (val val_iff val_no out)
theorem lit1 (W : World) (x : Int) (t : TypeId) : IRow .i64 (W.alloc (.cells #[.int .i64 x] t)) W.heap.size t [x] := heap_alloc_new W _
theorem lit2 (W : World) (x y : Int) (t : TypeId) : IRow .i64 (W.alloc (.cells #[.int .i64 x,.int .i64 y] t)) W.heap.size t [x,y] := heap_alloc_new W _
theorem clo_any (lo hi n : Int) (p q : Nat) (w : World) (hp : w.cell? ⟨p,0,none⟩ = some (.int .i64 lo)) (hq : w.cell? ⟨q,0,none⟩ = some (.int .i64 hi)) :
 Calls Tryz.prog 190 #[.int .i64 n,.pointer (some ⟨p,0,none⟩),.pointer (some ⟨q,0,none⟩)] w fun e w' => e = .returned (.bool (out lo hi n)) ∧ w = w' := by
 have HF := Lib.hid (show out lo hi n = (decide (n < lo) || decide (hi < n)) from rfl)
 generalize out lo hi n = X at *
 cases d : decide (n < lo)
 · rw [d,Bool.false_or] at HF
   go_enter Tryz.func190,Tryz.ntmps190
   go_wp2
   go_ret
   exact ⟨ret_bool HF.out.symm,rfl⟩
 · rw [d,Bool.true_or] at HF
   go_enter Tryz.func190,Tryz.ntmps190
   go_wp2
   go_ret
   exact ⟨ret_bool HF.out.symm,rfl⟩
theorem any_at {f : Int → Bool} {l : List Int} {k : Nat} (hk : k < l.length) (h : f (l.getD k 0) = true) : l.any f = true := by
 rw [List.any_eq_true]
 exact ⟨l.getD k 0,by rw [List.getD_eq_getElem?_getD,List.getElem?_eq_getElem hk]; exact List.getElem_mem hk,h⟩
theorem any_none {f : Int → Bool} {l : List Int} (h : ∀ j,j < l.length → f (l.getD j 0) = false) : l.any f = false := by
 rw [List.any_eq_false]
 intro x hx
 obtain ⟨j,hj,rfl⟩ := List.getElem_of_mem hx
 have := h j hj
 rw [List.getD_eq_getElem?_getD,List.getElem?_eq_getElem hj] at this
 simpa using this
set_option maxHeartbeats 1600000 in
theorem index_any (lo hi : Int) (p q : Nat) (a : Option Addr) (cap : Nat) (l : List Int) (w : World) (hl : l.length ≤ 9223372036854775807) (hb : IntsAt .i64 w a l)
 (hp : w.cell? ⟨p,0,none⟩ = some (.int .i64 lo)) (hq : w.cell? ⟨q,0,none⟩ = some (.int .i64 hi)) :
 Calls Tryz.prog 217 #[.slice a l.length cap,.func (.func 190) #[] #[.pointer (some ⟨p,0,none⟩),.pointer (some ⟨q,0,none⟩)]] w
  fun e w' => (∃ r,e = .returned (.int .i64 r) ∧ decide (0 ≤ r) = l.any (out lo hi)) ∧ w = w' := by
 have CC := fun n => clo_any lo hi n p q w hp hq
 have HS := Lib.hid hb
 clear hp hq hb
 generalize hn : l.length = m at *
 have HN := Lib.hid hn
 clear hn
 go_enter Tryz.func217,Tryz.ntmps217
 go_wp2_with fail
 go_loopg [8] m (fun gg s8 wr => ∃ (k : Nat),k + gg = m ∧ s8 = .int .i64 k ∧ (∀ j,j < k → out lo hi (l.getD j 0) = false) ∧ w = wr)
 case atStart => exact ⟨0,by omega,rfl,fun _ h => absurd h (Nat.not_lt_zero _),rfl⟩
 case round =>
  obtain ⟨k,hk,rfl,hj,rfl⟩ := hrel
  have HJ := Lib.hid hj
  clear hj
  by_cases hlt : k < m
  · have hli : (k : Int) < m := by omega
    have hkl : k < l.length := by have := HN.out; omega
    obtain ⟨b,off,rfl,hc⟩ : ∃ b off,a = some ⟨b,off,none⟩ ∧ ∀ i,i < l.length → w.cell? ⟨b,off + i,none⟩ = some (.int .i64 (l.getD i 0)) := by
     rcases HS.out with h | h
     · rw [h] at hkl; simp at hkl
     · exact h
    have c0 := hc k hkl
    have CX := CC (l.getD k 0)
    clear hc CC
    cases hx : out lo hi (l.getD k 0)
    · rw [hx] at CX
      have HJ2 := Lib.hid (show ∀ j,j < k + 1 → out lo hi (l.getD j 0) = false from fun j hj => by
       rcases Nat.lt_succ_iff_lt_or_eq.1 hj with h | rfl
       · exact HJ.out j h
       · exact hx)
      clear hx HJ
      generalize l.getD k 0 = x at *
      go_wp2_with (go_at_call 190; refine CX.mono ?_; rintro e w' ⟨rfl,rfl⟩)
      go_roundg (gk - 1)
      case rel => exact ⟨k + 1,by omega,by go_num,HJ2.out,rfl⟩
      case measure => omega
    · rw [hx] at CX
      have HA := Lib.hid (any_at hkl hx)
      generalize l.getD k 0 = x at *
      go_wp2_with (go_at_call 190; refine CX.mono ?_; rintro e w' ⟨rfl,rfl⟩)
      go_ret
      exact ⟨⟨_,rfl,by rw [HA.out]; simp⟩,rfl⟩
  · obtain rfl : k = m := by omega
    have HA := Lib.hid (any_none (f := out lo hi) (l := l) (fun j hj => HJ.out j (by have := HN.out; omega)))
    go_wp2_with fail
    go_ret
    exact ⟨⟨_,rfl,by rw [HA.out]; rfl⟩,rfl⟩
theorem contains_any (lo hi : Int) (p q : Nat) (a : Option Addr) (cap : Nat) (l : List Int) (w : World) (hl : l.length ≤ 9223372036854775807) (hb : IntsAt .i64 w a l)
 (hp : w.cell? ⟨p,0,none⟩ = some (.int .i64 lo)) (hq : w.cell? ⟨q,0,none⟩ = some (.int .i64 hi)) :
 Calls Tryz.prog 189 #[.slice a l.length cap,.func (.func 190) #[] #[.pointer (some ⟨p,0,none⟩),.pointer (some ⟨q,0,none⟩)]] w
  fun e w' => e = .returned (.bool (l.any (out lo hi))) ∧ w = w' := by
 have CI := index_any lo hi p q a cap l w hl hb hp hq
 generalize l.any (out lo hi) = X at *
 clear hl hb hp hq
 generalize l.length = m at *
 go_enter Tryz.func189,Tryz.ntmps189
 go_wp2_with (go_at_call 217; refine CI.mono ?_; rintro e w' ⟨⟨r,rfl,hr⟩,rfl⟩)
 go_ret
 exact ⟨rfl,rfl⟩
set_option maxHeartbeats 800000 in
theorem outside_any (lo hi : Int) (a : Option Addr) (cap : Nat) (l : List Int) (w : World) (hl : l.length ≤ 9223372036854775807) (hb : IntsAt .i64 w a l) :
 Calls Tryz.prog 155 #[.int .i64 lo,.int .i64 hi,.slice a l.length cap] w fun e w' => e = .returned (.bool (l.any (out lo hi))) ∧ Below w.heap.size w w' := by
 have B1 := (Below.refl w.heap.size w).alloc (Nat.le_refl _) (.cells #[.int .i64 lo] 3)
 have B2 := Lib.hid (B1.alloc (by simp) (.cells #[.int .i64 hi] 3))
 have R1 := (show IRow .i64 (w.alloc (.cells #[.int .i64 lo] 3)) w.heap.size 3 [lo] from heap_alloc_new w _).alloc (.cells #[.int .i64 hi] 3)
 have R2 := (show IRow .i64 ((w.alloc (.cells #[.int .i64 lo] 3)).alloc (.cells #[.int .i64 hi] 3)) (w.heap.size + 1) 3 [hi] from by
  have h := lit1 (w.alloc (.cells #[.int .i64 lo] 3)) hi 3
  rw [show (w.alloc (.cells #[.int .i64 lo] 3)).heap.size = w.heap.size + 1 by simp] at h
  exact h)
 have CI := contains_any lo hi w.heap.size (w.heap.size + 1) a cap l _ hl (hb.below B2.out) (R1.cell 0 (by simp)) (R2.cell 0 (by simp))
 clear B1 R1 R2 hl hb
 generalize l.any (out lo hi) = X at *
 generalize l.length = m at *
 go_enter Tryz.func155,Tryz.ntmps155
 go_wp2_with (go_at_call 189; refine CI.mono ?_; rintro e w' ⟨rfl,rfl⟩)
 go_ret
 exact ⟨rfl,B2.out⟩
theorem outside_1 (lo hi n : Int) (b : Nat) (t : TypeId) (x : Bool) (w : World) (hb : IRow .i64 w b t [n]) (hx : out lo hi n = x) :
 Calls Tryz.prog 155 #[.int .i64 lo,.int .i64 hi,.slice (some ⟨b,0,none⟩) 1 1] w fun e w' => e = .returned (.bool x) ∧ Below w.heap.size w w' := by
 have h := outside_any lo hi (some ⟨b,0,none⟩) 1 [n] w (by simp) hb.ints
 rw [one_out,hx] at h
 exact h
theorem outside_2 (n vote : Int) (b : Nat) (t : TypeId) (x : Bool) (w : World) (hb : IRow .i64 w b t [n,vote]) (hx : both n vote = !x) :
 Calls Tryz.prog 155 #[.int .i64 (-2147483648),.int .i64 2147483647,.slice (some ⟨b,0,none⟩) 2 2] w fun e w' => e = .returned (.bool x) ∧ Below w.heap.size w w' := by
 have h := outside_any (-2147483648) 2147483647 (some ⟨b,0,none⟩) 2 [n,vote] w (by simp) hb.ints
 rw [both_outs,hx,Bool.not_not] at h
 exact h
set_option maxHeartbeats 1600000 in
theorem new_yes (auth gain : Int) (w : World) (h : may auth gain = true) :
 Calls Tryz.prog 112 #[.int .i64 auth,.int .i64 gain] w fun e w' => ∃ g,e = .returned (.tuple #[.pointer (some ⟨g,0,none⟩),.int .i64 0]) ∧ Kp.Kept w w' g 273 (tri auth gain 0) := by
 rw [may_outs] at h
 have B := Lib.hid (Below.refl w.heap.size w)
 have d1 : out 0 2147483647 auth = false := by revert h; cases out 0 2147483647 auth <;> simp
 have d2 : out 0 8 gain = false := by revert h; cases out 0 8 gain <;> simp
 clear h
 go_enter Tryz.func112,Tryz.ntmps112
 go_wp2_with (go_at_call 155; refine (outside_1 _ _ _ _ _ _ _ (lit1 _ _ _) (by first | exact d1 | exact d2)).mono ?_; rintro e w1 ⟨rfl,b1⟩; have B := Lib.hid (grow_alloc B.out b1); clear b1)
 go_ret2
 exact ⟨_,rfl,Kp.kept_new w _ (tri auth gain 0) 273 (by have := B.out; assumption)⟩
theorem even_no (g : Nat) (n : Int) (w : World) (hn : val n = false) :
 Calls Tryz.prog 204 #[.pointer (some ⟨g,0,none⟩),.int .i64 n] w fun e w' => e = .returned (.tuple #[.int .i64 0,.int .i64 1]) ∧ Below w.heap.size w w' := by
 have B := Lib.hid (Below.refl w.heap.size w)
 have d1 : out (-2147483648) 2147483647 n = true := by rw [val_out,hn]; rfl
 clear hn
 go_enter Tryz.func204,Tryz.ntmps204
 go_wp2_with (go_at_call 155; refine (outside_1 _ _ _ _ _ _ _ (lit1 _ _ _) d1).mono ?_; rintro e w1 ⟨rfl,b1⟩; have B := Lib.hid (grow_alloc B.out b1); clear b1)
 go_ret2
 exact ⟨rfl,by have := B.out; assumption⟩
set_option maxHeartbeats 800000 in
theorem even_yes (g : Nat) (auth gain offset n : Int) (w : World) (hT : VRow w g 273 (tri auth gain offset)) (ho : -2147483647 ≤ offset ∧ offset ≤ 2147483647) (hn : val n = true) :
 Calls Tryz.prog 204 #[.pointer (some ⟨g,0,none⟩),.int .i64 n] w fun e w' => e = .returned (.tuple #[.int .i64 (n - offset),.int .i64 0]) ∧ Below w.heap.size w w' := by
 have B := Lib.hid (Below.refl w.heap.size w)
 have T := Lib.hid hT
 have d1 : out (-2147483648) 2147483647 n = false := by rw [val_out,hn]; rfl
 have hv := (val_iff n).1 hn
 have n1 : -9223372036854775808 ≤ n - offset := by omega
 have n2 : n - offset ≤ 9223372036854775807 := by omega
 clear hn hT hv ho
 go_enter Tryz.func204,Tryz.ntmps204
 go_wp2_with (go_at_call 155; refine (outside_1 _ _ _ _ _ _ _ (lit1 _ _ _) d1).mono ?_; rintro e w1 ⟨rfl,b1⟩; have B := Lib.hid (grow_alloc B.out b1); have c2 := (T.out.below B.out T.out.lt).cell 2 (v := .int .i64 offset) rfl; clear b1)
 go_ret2
 exact ⟨rfl,by have := B.out; assumption⟩
theorem even_any (g : Nat) (auth gain offset n : Int) (w : World) (hT : VRow w g 273 (tri auth gain offset)) (ho : -2147483647 ≤ offset ∧ offset ≤ 2147483647) :
 Calls Tryz.prog 204 #[.pointer (some ⟨g,0,none⟩),.int .i64 n] w fun e w' => e = .returned (.tuple #[.int .i64 (ev offset n),.int .i64 (ee n)]) ∧ Below w.heap.size w w' := by
 cases hn : val n
 · rw [ev_no hn,ee_no hn]; exact even_no g n w hn
 · rw [ev_yes hn,ee_yes hn]; exact even_yes g auth gain offset n w hT ho hn
end Ql
namespace Sg
open Cf (G CA Box)
def xb (b : Nat → Nat) (i : Nat) : Nat := b (3 + 5 * i)
def jb (b : Nat → Nat) (i : Nat) : Nat := b (4 + 5 * i)
def fb (b : Nat → Nat) (i : Nat) : Nat := b (5 + 5 * i)
def lb (b : Nat → Nat) (i : Nat) : Nat := b (6 + 5 * i)
def tb (b : Nat → Nat) (i : Nat) : Nat := b (7 + 5 * i)
def pn (c : List Int) : Nat := 3 + 5 * NN c
def In (b : Nat → Nat) (c : List Int) (k : Nat) : Prop := ∃ p,p < pn c ∧ k = b p
def Of (b : Nat → Nat) (i : Nat) (k : Nat) : Prop := k = xb b i ∨ k = jb b i ∨ k = fb b i ∨ k = lb b i ∨ k = tb b i
def sgr (c : List Int) (rm ar n cap : Nat) (v : Int) : List Value := cellsI .i64 c ++ [.pointer (some ⟨rm,0,none⟩),.slice (some ⟨ar,0,none⟩) n cap,.int .i64 v]
def chr (b : Nat → Nat) (i : Nat) (s : Lc.St) : List Value := [.pointer (some ⟨jb b i,0,none⟩),.pointer (some ⟨fb b i,0,none⟩),.pointer (some ⟨lb b i,0,none⟩),.pointer (some ⟨tb b i,0,none⟩),.bool s.la,.bool s.ou,.int .i64 s.st,.int .i64 s.cl,.int .i64 s.bk]
def tnr (g : Nat) (r : Nat → Rw) (sh : Int) (T : Nat → Int) (m : Int) : List Value :=
 [.pointer (some ⟨g,0,none⟩),.bool (r 0).is,.int .i64 (r 0).n,.bool (r 1).is,.int .i64 (r 1).n,.bool (r 2).is,.int .i64 (r 2).n,.bool (r 3).is,.int .i64 (r 3).n,.int .i64 sh,.int .i64 (T 0),.int .i64 (T 1),.int .i64 (T 2),.int .i64 (T 3),.int .i64 m]
structure Chan (W : World) (b : Nat → Nat) (c : List Int) (i : Nat) (h : Ch) : Prop where
 own : VRow W (xb b i) 201 (chr b i h.st)
 jw : VRow W (jb b i) 266 (Jp.wat (G c 1) (G c 2) (G c 4) h.last h.has)
 fw : ∃ last,VRow W (fb b i) 275 (Sk.wt (b 1) last ((min h.k (PW c + 1) : Nat) : Int)) ∧ (h.k = 0 ∨ last = h.last)
 fl : VRow W (lb b i) 270 (Dr.fil (G c 8) (G c 7) h.lev)
 tr : VRow W (tb b i) 273 (Ql.tri (G c 10) (G c 11) h.off)
structure Lie (W : World) (b : Nat → Nat) (c : List Int) (s : Si) : Prop where
 inj : ∀ p q,p < pn c → q < pn c → b p = b q → p = q
 sig : ∃ cap,VRow W (b 0) 176 (sgr c (b 1) (b 2) (NN c) cap s.val)
 room : Sk.Room W (b 1) (PW c) (G c 5) (Sk.lastN (PW c) s.votes)
 arr : ∃ cs t,VRow W (b 2) t cs ∧ ∀ i,i < NN c → cs[i]? = some (.pointer (some ⟨xb b i,0,none⟩))
 chs : ∀ i,i < NN c → Chan W b c i (s.ch i)
def put (s : Si) (i : Nat) (h : Ch) : Si := { s with ch := fun k => if k = i then h else s.ch k }
@[simp] theorem put_val (s : Si) (i : Nat) (h : Ch) : (put s i h).val = s.val := rfl
@[simp] theorem put_votes (s : Si) (i : Nat) (h : Ch) : (put s i h).votes = s.votes := rfl
theorem put_same (s : Si) (i : Nat) (h : Ch) : (put s i h).ch i = h := if_pos rfl
theorem put_other (s : Si) (i k : Nat) (h : Ch) (e : k ≠ i) : (put s i h).ch k = s.ch k := if_neg e
section
variable {W W' : World} {b : Nat → Nat} {c : List Int} {s s' : Si} {i : Nat} {h h' : Ch} {T : Nat → Prop}
theorem of_in (hi : i < NN c) {k : Nat} (h : Of b i k) : In b c k := by
 unfold Of xb jb fb lb tb at h
 unfold In pn
 rcases h with e | e | e | e | e
 · exact ⟨_,by omega,e⟩
 · exact ⟨_,by omega,e⟩
 · exact ⟨_,by omega,e⟩
 · exact ⟨_,by omega,e⟩
 · exact ⟨_,by omega,e⟩
theorem Chan.but (H : Chan W b c i h) (B : But T W W') (hT : ∀ k,Of b i k → ¬ T k) : Chan W' b c i h := by
 obtain ⟨l,f1,f2⟩ := H.fw
 exact ⟨H.own.but B (hT _ (.inl rfl)),H.jw.but B (hT _ (.inr (.inl rfl))),⟨l,f1.but B (hT _ (.inr (.inr (.inl rfl)))),f2⟩,H.fl.but B (hT _ (.inr (.inr (.inr (.inl rfl))))),H.tr.but B (hT _ (.inr (.inr (.inr (.inr rfl)))))⟩
theorem Chan.lt (H : Chan W b c i h) {k : Nat} (hk : Of b i k) : k < W.heap.size := by
 obtain ⟨l,f1,f2⟩ := H.fw
 rcases hk with rfl | rfl | rfl | rfl | rfl
 · exact H.own.lt
 · exact H.jw.lt
 · exact f1.lt
 · exact H.fl.lt
 · exact H.tr.lt
theorem room_but {g P : Nat} {bound : Int} {V : List Int} (h : Sk.Room W g P bound V) (B : But T W W') (hT : ¬ T g) : Sk.Room W' g P bound V := by
 obtain ⟨a,e,k,r⟩ := h; exact ⟨a,e,k,r.but B hT⟩
theorem Lie.lt (H : Lie W b c s) {k : Nat} (hk : In b c k) : k < W.heap.size := by
 obtain ⟨p,hp,rfl⟩ := hk
 unfold pn at hp
 rcases (show p = 0 ∨ p = 1 ∨ p = 2 ∨ 3 ≤ p by omega) with rfl | rfl | rfl | h3
 · obtain ⟨_,h⟩ := H.sig; exact h.lt
 · exact H.room.lt
 · obtain ⟨_,_,h,_⟩ := H.arr; exact h.lt
 · have hi : (p - 3) / 5 < NN c := by omega
   refine (H.chs _ hi).lt ?_
   unfold Of xb jb fb lb tb
   rcases (show p = 3 + 5 * ((p - 3) / 5) ∨ p = 4 + 5 * ((p - 3) / 5) ∨ p = 5 + 5 * ((p - 3) / 5) ∨ p = 6 + 5 * ((p - 3) / 5) ∨ p = 7 + 5 * ((p - 3) / 5) by omega) with e | e | e | e | e
   · exact .inl (congrArg b e)
   · exact .inr (.inl (congrArg b e))
   · exact .inr (.inr (.inl (congrArg b e)))
   · exact .inr (.inr (.inr (.inl (congrArg b e))))
   · exact .inr (.inr (.inr (.inr (congrArg b e))))
theorem Lie.keep (H : Lie W b c s) (B : But T W W') (hT : ∀ k,In b c k → ¬ T k) : Lie W' b c s := by
 obtain ⟨cap,h1⟩ := H.sig
 obtain ⟨cs,t,h2,h3⟩ := H.arr
 exact ⟨H.inj,⟨cap,h1.but B (hT _ ⟨0,by unfold pn; omega,rfl⟩)⟩,room_but H.room B (hT _ ⟨1,by unfold pn; omega,rfl⟩),⟨cs,t,h2.but B (hT _ ⟨2,by unfold pn; omega,rfl⟩),h3⟩,
  fun i hi => (H.chs i hi).but B fun k hk => hT k (of_in hi hk)⟩
theorem vrow_cells {g : Nat} {t : TypeId} {cs : List Value} {o : Obj} (h : VRow W g t cs) (hk : W.heap[g]? = some o) : o.isCells = true := by
 unfold VRow at h; rw [h] at hk; cases hk; rfl
theorem Lie.cells (H : Lie W b c s) {k : Nat} (hk : In b c k) {o : Obj} (ho : W.heap[k]? = some o) : o.isCells = true := by
 obtain ⟨p,hp,rfl⟩ := hk
 unfold pn at hp
 rcases (show p = 0 ∨ p = 1 ∨ p = 2 ∨ 3 ≤ p by omega) with rfl | rfl | rfl | h3
 · obtain ⟨_,h⟩ := H.sig; exact vrow_cells h ho
 · obtain ⟨_,_,_,h⟩ := H.room; exact vrow_cells h.vrow ho
 · obtain ⟨_,_,h,_⟩ := H.arr; exact vrow_cells h ho
 · have hi : (p - 3) / 5 < NN c := by omega
   have C := H.chs _ hi
   obtain ⟨l,f1,-⟩ := C.fw
   rcases (show p = 3 + 5 * ((p - 3) / 5) ∨ p = 4 + 5 * ((p - 3) / 5) ∨ p = 5 + 5 * ((p - 3) / 5) ∨ p = 6 + 5 * ((p - 3) / 5) ∨ p = 7 + 5 * ((p - 3) / 5) by omega) with e | e | e | e | e
   · rw [e] at ho; exact vrow_cells (show VRow W (b _) _ _ from C.own) ho
   · rw [e] at ho; exact vrow_cells (show VRow W (b _) _ _ from C.jw) ho
   · rw [e] at ho; exact vrow_cells (show VRow W (b _) _ _ from f1) ho
   · rw [e] at ho; exact vrow_cells (show VRow W (b _) _ _ from C.fl) ho
   · rw [e] at ho; exact vrow_cells (show VRow W (b _) _ _ from C.tr) ho
theorem Lie.apart (H : Lie W b c s) {j : Nat} (hi : i < NN c) (hj : j < NN c) (hij : j ≠ i) {k : Nat} (h : Of b j k) : ¬ Of b i k := by
 intro h'
 have q := H.inj
 unfold Of xb jb fb lb tb at h h'
 unfold pn at q
 rcases h with e | e | e | e | e <;> rcases h' with e' | e' | e' | e' | e' <;> (have := q _ _ (by omega) (by omega) (e.symm.trans e'); omega)
theorem Lie.apart3 (H : Lie W b c s) (hi : i < NN c) {p : Nat} (hp : p < 3) : ¬ Of b i (b p) := by
 intro h'
 have q := H.inj
 unfold Of xb jb fb lb tb at h'
 unfold pn at q
 rcases h' with e' | e' | e' | e' | e' <;> (have := q _ _ (by omega) (by omega) e'; omega)
theorem Lie.five (H : Lie W b c s) (hi : i < NN c) : xb b i ≠ jb b i ∧ xb b i ≠ fb b i ∧ xb b i ≠ lb b i ∧ xb b i ≠ tb b i ∧ jb b i ≠ fb b i ∧ jb b i ≠ lb b i ∧ jb b i ≠ tb b i ∧ fb b i ≠ lb b i ∧ fb b i ≠ tb b i ∧ lb b i ≠ tb b i ∧ b 1 ≠ fb b i := by
 have q := H.inj
 unfold pn at q
 unfold xb jb fb lb tb
 refine ⟨?_,?_,?_,?_,?_,?_,?_,?_,?_,?_,?_⟩ <;> (intro e; have := q _ _ (by omega) (by omega) e; omega)
theorem Lie.set (H : Lie W b c s) (hi : i < NN c) (B : But (Of b i) W W') (C : Chan W' b c i h) : Lie W' b c (put s i h) := by
 obtain ⟨cap,h1⟩ := H.sig
 obtain ⟨cs,t,h2,h3⟩ := H.arr
 refine ⟨H.inj,⟨cap,h1.but B (H.apart3 hi (by omega))⟩,room_but H.room B (H.apart3 hi (by omega)),⟨cs,t,h2.but B (H.apart3 hi (by omega)),h3⟩,fun j hj => ?_⟩
 by_cases e : j = i
 · subst e; rw [put_same]; exact C
 · rw [put_other _ _ _ _ e]
   exact (H.chs j hj).but B fun k hk => H.apart hi hj e hk
theorem Lie.setVal (H : Lie W b c s) (hc : c.length = 21) (v : Int) : Lie (W.setCell ⟨b 0,23,none⟩ (.int .i64 v)) b c { s with val := v } ∧ But (In b c) W (W.setCell ⟨b 0,23,none⟩ (.int .i64 v)) := by
 obtain ⟨cap,h1⟩ := H.sig
 have B : But (· = b 0) W (W.setCell ⟨b 0,23,none⟩ (.int .i64 v)) := But.setCell (p := ⟨_,_,none⟩) (But.refl (· = _) W) (Or.inl rfl) _
 have e : (sgr c (b 1) (b 2) (NN c) cap s.val).set 23 (.int .i64 v) = sgr c (b 1) (b 2) (NN c) cap v := by
  unfold sgr
  rw [List.set_append_right _ _ (by simp [cellsI_len,hc])]
  simp [cellsI_len,hc]
 have q := H.inj
 unfold pn at q
 obtain ⟨cs,t,h2,h3⟩ := H.arr
 refine ⟨⟨H.inj,⟨cap,e ▸ h1.set 23 _⟩,room_but H.room B (fun e => by have := q _ _ (by omega) (by omega) e; omega),⟨cs,t,h2.but B (fun e => by have := q _ _ (by omega) (by omega) e; omega),h3⟩,fun j hj => (H.chs j hj).but B fun k hk e => ?_⟩,B.mono fun k e => ⟨0,by unfold pn; omega,e⟩⟩
 subst e
 exact H.apart3 hj (by omega) hk
theorem Lie.setRoom (H : Lie W b c s) (l : List Int) (B : But (· = b 1) W W') (R : Sk.Room W' (b 1) (PW c) (G c 5) (Sk.lastN (PW c) l)) : Lie W' b c { s with votes := l } := by
 obtain ⟨cap,h1⟩ := H.sig
 obtain ⟨cs,t,h2,h3⟩ := H.arr
 have q := H.inj
 unfold pn at q
 refine ⟨H.inj,⟨cap,h1.but B (fun e => by have := q _ _ (by omega) (by omega) e; omega)⟩,R,⟨cs,t,h2.but B (fun e => by have := q _ _ (by omega) (by omega) e; omega),h3⟩,fun j hj => (H.chs j hj).but B fun k hk e => ?_⟩
 subst e
 exact H.apart3 hj (by omega) hk
theorem Lie.congr (H : Lie W b c s) (h1 : s.val = s'.val) (h2 : s.votes = s'.votes) (h3 : ∀ i,i < NN c → s.ch i = s'.ch i) : Lie W b c s' :=
 ⟨H.inj,h1 ▸ H.sig,h2 ▸ H.room,H.arr,fun i hi => h3 i hi ▸ H.chs i hi⟩
theorem sgr_cfg (hc : c.length = 21) {rm ar n cap : Nat} {v : Int} {k : Nat} (hk : k < 21) : (sgr c rm ar n cap v)[k]? = some (.int .i64 (G c k)) := by
 unfold sgr
 rw [List.getElem?_append_left (by rw [cellsI_len]; omega),cellsI_get _ _ _ (by omega)]
 rfl
theorem sgr_room (hc : c.length = 21) {rm ar n cap : Nat} {v : Int} : (sgr c rm ar n cap v)[21]? = some (.pointer (some ⟨rm,0,none⟩)) := by
 unfold sgr
 rw [List.getElem?_append_right (by rw [cellsI_len]; omega),cellsI_len,hc]; rfl
theorem sgr_row (hc : c.length = 21) {rm ar n cap : Nat} {v : Int} : (sgr c rm ar n cap v)[22]? = some (.slice (some ⟨ar,0,none⟩) n cap) := by
 unfold sgr
 rw [List.getElem?_append_right (by rw [cellsI_len]; omega),cellsI_len,hc]; rfl
theorem sgr_val (hc : c.length = 21) {rm ar n cap : Nat} {v : Int} : (sgr c rm ar n cap v)[23]? = some (.int .i64 v) := by
 unfold sgr
 rw [List.getElem?_append_right (by rw [cellsI_len]; omega),cellsI_len,hc]; rfl
theorem Lie.cfg (H : Lie W b c s) (hc : c.length = 21) (k : Nat) (hk : k < 21) : W.cell? ⟨b 0,k,none⟩ = some (.int .i64 (G c k)) := by
 obtain ⟨cap,h1⟩ := H.sig; exact h1.cell k (sgr_cfg hc hk)
theorem Lie.val (H : Lie W b c s) (hc : c.length = 21) : W.cell? ⟨b 0,23,none⟩ = some (.int .i64 s.val) := by
 obtain ⟨cap,h1⟩ := H.sig; exact h1.cell 23 (sgr_val hc)
theorem Lie.rm (H : Lie W b c s) (hc : c.length = 21) : W.cell? ⟨b 0,21,none⟩ = some (.pointer (some ⟨b 1,0,none⟩)) := by
 obtain ⟨cap,h1⟩ := H.sig; exact h1.cell 21 (sgr_room hc)
theorem Lie.row (H : Lie W b c s) (hc : c.length = 21) : ∃ cap,W.cell? ⟨b 0,22,none⟩ = some (.slice (some ⟨b 2,0,none⟩) (NN c) cap) := by
 obtain ⟨cap,h1⟩ := H.sig; exact ⟨cap,h1.cell 22 (sgr_row hc)⟩
theorem Lie.at (H : Lie W b c s) (hi : i < NN c) : W.cell? ⟨b 2,i,none⟩ = some (.pointer (some ⟨xb b i,0,none⟩)) := by
 obtain ⟨cs,t,h2,h3⟩ := H.arr; exact h2.cell i (h3 i hi)
end
structure Tn (W : World) (b : Nat → Nat) (c : List Int) (s : Si) (u : Nat) (r : Nat → Rw) (sh : Int) (T : Nat → Int) (m : Int) : Prop where
 lie : Lie W b c s
 trn : VRow W u 236 (tnr (b 0) r sh T m)
 out : ¬ In b c u
def Us (b : Nat → Nat) (c : List Int) (u : Nat) (k : Nat) : Prop := In b c k ∨ k = u
section
variable {W W' : World} {b : Nat → Nat} {c : List Int} {s s' : Si} {u : Nat} {r : Nat → Rw} {sh : Int} {T : Nat → Int} {m : Int} {S : Nat → Prop} {i : Nat} {h : Ch}
theorem Tn.keep (H : Tn W b c s u r sh T m) (B : But S W W') (hS : ∀ k,Us b c u k → ¬ S k) : Tn W' b c s u r sh T m :=
 ⟨H.lie.keep B fun k hk => hS k (.inl hk),H.trn.but B (hS u (.inr rfl)),H.out⟩
theorem Tn.lt (H : Tn W b c s u r sh T m) {k : Nat} (hk : Us b c u k) : k < W.heap.size := by
 rcases hk with hk | rfl
 · exact H.lie.lt hk
 · exact H.trn.lt
theorem Tn.on (H : Tn W b c s u r sh T m) (B : Below W.heap.size W W') : Tn W' b c s u r sh T m :=
 H.keep (But.of_below (S := fun _ => False) B) fun _ _ q => q
theorem Tn.drew (H : Tn W b c s u r sh T m) : Tn W.drew b c s u r sh T m := H.keep (S := fun _ => False) (But.refl _ W).drew fun _ _ q => q
theorem Tn.cells (H : Tn W b c s u r sh T m) {k : Nat} (hk : Us b c u k) {o : Obj} (ho : W.heap[k]? = some o) : o.isCells = true := by
 rcases hk with hk | rfl
 · exact H.lie.cells hk ho
 · exact vrow_cells H.trn ho
theorem Tn.grown (H : Tn W b c s u r sh T m) (B : But S W W') (hS : ∀ k,S k → ∃ o : Obj,W.heap[k]? = some o ∧ o.isCells = false) : Tn W' b c s u r sh T m :=
 H.keep B fun k hk q => by
  obtain ⟨o,h1,h2⟩ := hS k q
  rw [H.cells hk h1] at h2; cases h2
theorem Tn.set (H : Tn W b c s u r sh T m) (hi : i < NN c) (B : But (Of b i) W W') (C : Chan W' b c i h) : Tn W' b c (put s i h) u r sh T m :=
 ⟨H.lie.set hi B C,H.trn.but B fun q => H.out (of_in hi q),H.out⟩
theorem Tn.congr (H : Tn W b c s u r sh T m) (h1 : s.val = s'.val) (h2 : s.votes = s'.votes) (h3 : ∀ i,i < NN c → s.ch i = s'.ch i) : Tn W b c s' u r sh T m := ⟨H.lie.congr h1 h2 h3,H.trn,H.out⟩
theorem of_us (hi : i < NN c) {k : Nat} (h : Of b i k) : Us b c u k := .inl (of_in hi h)
def tup (T : Nat → Int) (i : Nat) (x : Int) : Nat → Int := fun k => if k = i then x else T k
theorem tnr_set {g : Nat} (hi : i < 4) (x : Int) : (tnr g r sh T m).set (10 + i) (.int .i64 x) = tnr g r sh (tup T i x) m := by
 have : i = 0 ∨ i = 1 ∨ i = 2 ∨ i = 3 := by omega
 rcases this with rfl | rfl | rfl | rfl <;> rfl
theorem Tn.trip (H : Tn W b c s u r sh T m) (hi : i < 4) (x : Int) : Tn (W.setCell ⟨u,10 + i,none⟩ (.int .i64 x)) b c s u r sh (tup T i x) m ∧ But (· = u) W (W.setCell ⟨u,10 + i,none⟩ (.int .i64 x)) := by
 have B : But (· = u) W (W.setCell ⟨u,10 + i,none⟩ (.int .i64 x)) := But.setCell (p := ⟨_,_,none⟩) (But.refl (· = _) W) (Or.inl rfl) _
 exact ⟨⟨H.lie.keep B fun k hk e => H.out (e ▸ hk),tnr_set hi x ▸ H.trn.set (10 + i) _,H.out⟩,B⟩
theorem Tn.value (H : Tn W b c s u r sh T m) (hc : c.length = 21) (v : Int) : Tn (W.setCell ⟨b 0,23,none⟩ (.int .i64 v)) b c { s with val := v } u r sh T m ∧ But (Us b c u) W (W.setCell ⟨b 0,23,none⟩ (.int .i64 v)) := by
 obtain ⟨h1,h2⟩ := H.lie.setVal hc v
 exact ⟨⟨h1,H.trn.but h2 H.out,H.out⟩,h2.mono fun _ q => .inl q⟩
theorem Tn.sig (H : Tn W b c s u r sh T m) : W.cell? ⟨u,0,none⟩ = some (.pointer (some ⟨b 0,0,none⟩)) := H.trn.cell 0 rfl
theorem Tn.is (H : Tn W b c s u r sh T m) (hi : i < 4) : W.cell? ⟨u,1 + i * 2,none⟩ = some (.bool (r i).is) := by
 have : i = 0 ∨ i = 1 ∨ i = 2 ∨ i = 3 := by omega
 rcases this with rfl | rfl | rfl | rfl <;> exact H.trn.cell _ rfl
theorem Tn.trp (H : Tn W b c s u r sh T m) (hi : i < 4) : W.cell? ⟨u,10 + i,none⟩ = some (.int .i64 (T i)) := by
 have : i = 0 ∨ i = 1 ∨ i = 2 ∨ i = 3 := by omega
 rcases this with rfl | rfl | rfl | rfl <;> exact H.trn.cell _ rfl
theorem Tn.shut (H : Tn W b c s u r sh T m) : W.cell? ⟨u,9,none⟩ = some (.int .i64 sh) := H.trn.cell 9 rfl
theorem Tn.inn (H : Tn W b c s u r sh T m) : W.cell? ⟨u,14,none⟩ = some (.int .i64 m) := H.trn.cell 14 rfl
end
end Sg
namespace Rn
section
variable {P : Program} {ops : Array Oper} {Q : Exit → Act → World → Prop} {md : Region.Mode}
theorem rows_wide {n l : Nat} {row : String} {args : Array Value} {w : World} {R : Value → World → Prop} (h : Rows P row args w R) : RowsIn (Fence.wide.inRound l) n P row args w R :=
 fun c cs _ => let ⟨v,w',r,s⟩ := h c cs; ⟨v,w',r,stepsIn_wide.2 s⟩
theorem oper_in {n l : Nat} {o : Oper} {a : Act} {w : World} {K : Act → World → Prop} (hd : ∀ c,o.op ≠ .defer c) (h : o.wp P a w K Q) : o.wpIn (Fence.wide.inRound l) n P a w K Q := by
 unfold Oper.wp at h
 unfold Oper.wpIn
 refine ⟨fun _ _ => trivial,?_⟩
 rw [show Oper.semAt (Fence.wide.inRound l).round a.eval o = execOp a.eval o from Oper.semAt_some l _ _ hd]
 generalize (execOp a.eval o).run P w = r at *
 cases r with
 | ok x w' =>
   cases x <;> simp only [Oper.upon] at h <;> simp only [Oper.uponIn]
   all_goals first
    | exact h
    | exact ⟨fun q => (by cases q),CallsIn.inRound l (callsIn_wide.2 h)⟩
    | exact ⟨fun q => (by cases q),rows_wide h⟩
 | halt x w' => cases x <;> simp only [Oper.upon] at h <;> simp only [Oper.uponIn] <;> exact h
theorem op_in {n l i : Nat} {K : Act → World → Prop} {a : Act} {w : World} (hd : ∀ o ∈ ops,∀ c,o.op ≠ .defer c) (hL : ¬ LetsOut Q) (h : wpOp P ops Q i K a w) : wpOpIn (Fence.wide.inRound l) n P ops Q i K a w := by
 unfold wpOp at h
 unfold wpOpIn
 cases ho : ops[i]? with
 | none => simpa [ho] using h
 | some o =>
   simp only [ho] at h ⊢
   split
   · rename_i hw
     rw [if_pos hw] at h
     rcases h with h | h
     · exact oper_in (hd o (Array.mem_of_getElem? ho)) h
     · exact absurd h.2 hL
   · rename_i hw
     rw [if_neg hw] at h
     exact ⟨fun _ _ => trivial,h⟩
theorem any_in {n l : Nat} (hd : ∀ o ∈ ops,∀ c,o.op ≠ .defer c) (hL : ¬ LetsOut Q) : ∀ (fuel : Nat) (listed : Array Bool) (a : Act) (w : World),wpAny P md ops Q fuel listed a w → wpAnyIn (Fence.wide.inRound l) n P md ops Q fuel listed a w
 | 0,_,_,_,h => h
 | fuel + 1,_,_,_,h => ⟨h.1,fun i hi => op_in hd hL (wpOp_mono (fun a' w' q => any_in hd hL fuel _ a' w' q) (h.2 i hi))⟩
def calm (ops : List Oper) : Bool := ops.all fun o => match o.op with | .defer _ => false | _ => true
theorem calm_of {ops : List Oper} (h : calm ops = true) : ∀ o ∈ ops.toArray,∀ c,o.op ≠ .defer c := by
 intro o ho c hc
 have := List.all_eq_true.1 h o (by simpa using ho)
 rw [hc] at this; cases this
theorem wpIn_region_quiet_tail {m lp : Nat} {id : Nat} {a : Act} {w : World} {l : List Oper} (n : Nat) (hm : P.follows .mixedOrders = true) (hB : Region.lexTailB .any l.toArray n = true) (hc : calm l = true) (hL : ¬ LetsOut Q)
 (h : wpQuiet P l.toArray (fun w' => w' = w.drew) (fun a' => wpList P l.toArray Q (l.drop n) a' w.drew) (l.take n) a) : (Code.region id l.toArray true).wpIn (Fence.wide.inRound lp) m P Q a w := by
 refine wpIn_region_any hm (any_in (calm_of hc) hL _ _ _ _ ?_)
 have h := Tail.wpStill_of_quiet _ _ h
 simp only [Region.lexTailB,Bool.and_eq_true,decide_eq_true_eq] at hB
 obtain ⟨⟨⟨⟨b1,b2⟩,b3⟩,b4⟩,b5⟩ := hB
 have k1 : n < l.length := by simpa using b2
 have k2 : (l.take n).length = n := by simp; omega
 have k3 : (l.drop n).length = l.toArray.size - n := by simp
 have start : HeadInv .any l.toArray n (Array.replicate l.toArray.size false) :=
  ⟨by simp,fun j oj _ q => (by rw [getD_replicate_false] at q; cases q),fun t _ q => getD_in (by simpa using q) (getD_replicate_false _ _)⟩
 have H := wpAnyL_lex (md := .any) (g := l.toArray.size - n) b1 b3 b4 b2 (l.take n) 0 _ a (fun j q => by
  rw [k2] at q; simp [q]) (by simpa using k2) start (by rw [k2]; exact b5) h
 have G := wpAny_of_head (Q' := Q) (g := l.toArray.size - n) (fun listed a' q => by
  have z := wpAny_of_seq (md := .any) (Q' := Q) (l.drop n) n listed a' w.drew (fun j => by simp [List.getElem?_drop]) (by rw [k3]; exact q.1) q.2
  rwa [k3] at z) _ _ _ H
 rw [k2,show n + (l.toArray.size - n) = l.toArray.size by omega] at G
 exact G
end
end Rn
open Go.ChangeShapes Go.WideShapes Go.ChangeAt Go.RowKit Go.Deep Go.Shelf
namespace Sg
open Cf (G CA)
open Rf
attribute [local go_sem] Oper.semAt_some
def enca (b : Nat → Nat) (N : Nat) (x : Fin N) : Array Value := #[.int .i64 x.val,.pointer (some ⟨xb b x.val,0,none⟩)]
theorem all_any (g : Nat) (w : World) :
 Calls Tryz.prog 100 #[.pointer (some ⟨g,0,none⟩)] w fun e w' => e = .returned (.func (.func 146) #[] #[.pointer (some ⟨w.heap.size,0,none⟩)]) ∧ w' = w.alloc (.cells #[.pointer (some ⟨g,0,none⟩)] 90) := by
 go_enter Tryz.func100,Tryz.ntmps100
 go_wp2
 go_ret
 exact ⟨rfl,rfl⟩
theorem valued_any (u : Nat) (w : World) :
 Calls Tryz.prog 156 #[.pointer (some ⟨u,0,none⟩)] w fun e w' => e = .returned (.func (.func 191) #[] #[.pointer (some ⟨w.heap.size,0,none⟩)]) ∧ w' = w.alloc (.cells #[.pointer (some ⟨u,0,none⟩)] 234) := by
 go_enter Tryz.func156,Tryz.ntmps156
 go_wp2
 go_ret
 exact ⟨rfl,rfl⟩
set_option maxHeartbeats 1600000 in
theorem all_goes (n : Nat) (hn : 1 ≤ n) (B g ar cap : Nat) (b : Nat → Nat) (N l Bk : Nat) (hN : N ≤ 4) (D : Addr → Prop) (V : World) (hB : V.cell? ⟨B,0,none⟩ = some (.pointer (some ⟨g,0,none⟩)))
 (hs : V.cell? ⟨g,22,none⟩ = some (.slice (some ⟨ar,0,none⟩) N cap)) (ha : ∀ i,i < N → V.cell? ⟨ar,i,none⟩ = some (.pointer (some ⟨xb b i,0,none⟩))) (hD : ∀ i,D ⟨ar,i,none⟩) :
 Goes Fence.wide n Tryz.prog 146 #[.pointer (some ⟨B,0,none⟩)] (enca b N) (Kc D Bk) (fun xs => xs.map Fin.val = List.range N) (fun _ => True) N (fun pre x => x.val ∉ pre.map Fin.val) l V := by
 intro J Jx _ _ hY h0
 refine callsIn_of_wp Tryz.func146 rfl trivial ?_ rfl
 simp only [Tryz.ntmps146,List.size_toArray,List.length_cons,List.length_nil,Nat.reduceAdd,Nat.reduceSub,Array.replicate_succ,Array.replicate_zero,List.push_toArray,List.append_toArray,List.nil_append,List.cons_append]
 gi_wp2
 have HA := Lib.hid ha
 clear ha hs hB
 gi_loopw [10] (fun i wr => ∃ (k : Nat) (pre : List (Fin N)),k ≤ N ∧ i = .int .i64 k ∧ pre.map Fin.val = List.range k ∧ J pre wr ∧ ∀ i,i < N → wr.cell? ⟨ar,i,none⟩ = some (.pointer (some ⟨xb b i,0,none⟩)))
  (fun i _ => N - (intOf i).toNat)
 case atStart => exact ⟨0,[],Nat.zero_le _,rfl,rfl,h0,HA.out⟩
 case round =>
  obtain ⟨k,pre,hk,rfl,hpre,hJs,hc⟩ := hrel
  have hlenp : pre.length = k := by have := congrArg List.length hpre; simpa using this
  by_cases hlt : k < N
  · obtain ⟨fn,tmps,assign,body,hy,hYR⟩ := hY pre ⟨k,hlt⟩ wr hJs (by omega) (by rw [hpre]; simp)
    dsimp only [enca] at hy
    have hki : (k : Int) < (N : Int) := by omega
    have h1 := hc k hlt
    have HC := Lib.hid hc
    clear hc
    gi_wp2
    refine hYR.mono ?_
    rintro e W3 (⟨rfl,hJ3,hk3⟩ | ⟨rfl,hJx3,hk3⟩)
    · gi_wp2
      go_roundw
      case rel => exact ⟨k + 1,pre ++ [⟨k,hlt⟩],by omega,by simp,by rw [List.map_append,hpre,List.range_succ]; rfl,hJ3,fun i hi => hk3.1 _ _ (hD i) (HC.out i hi)⟩
      case measure => simp [intOf]; omega
    · gi_wp2
      refine bodyPost_ret (results_none rfl _ _ _) rfl ?_
      exact ⟨⟨_,rfl⟩,.inr ⟨_,trivial,hJx3⟩⟩
  · obtain rfl : k = N := by omega
    gi_wp2
    go_end0
    exact ⟨⟨_,rfl⟩,.inl ⟨pre,hpre,hJs⟩⟩
theorem cel {W : World} {p : Addr} {v : Value} (o : Obj) (h : W.cell? p = some v) : (W.alloc o).cell? p = some v := (((Below.refl W.heap.size W).alloc (Nat.le_refl _) o).cell (p := p) (cell_blk h)).trans h
theorem round_any {n m lp l : Nat} {P : Program} {fn : FuncId} {tmps : Array Value} {assign body : Code} {w : World} {R : Ending → World → Prop} (h : RoundIn Fence.wide n P l fn tmps assign body w R) : RoundIn (Fence.wide.inRound lp) m P l fn tmps assign body w R :=
 ⟨trivial,fun c cs _ => h.2 c cs (fun _ q => by cases q)⟩
abbrev Vd (N : Nat) (r : Nat → Rw) : Type := { i : Nat // i < N ∧ (r i).is = true }
def encv (b : Nat → Nat) (N : Nat) (r : Nat → Rw) (x : Vd N r) : Array Value := #[.int .i64 x.1,.pointer (some ⟨xb b x.1,0,none⟩)]
def only (N : Nat) (r : Nat → Rw) (xs : List (Fin N)) : List (Vd N r) := xs.filterMap fun x => if h : (r x.val).is = true then some ⟨x.val,x.isLt,h⟩ else none
theorem only_yes {N : Nat} {r : Nat → Rw} (xs : List (Fin N)) (x : Fin N) (h : (r x.val).is = true) : only N r (xs ++ [x]) = only N r xs ++ [⟨x.val,x.isLt,h⟩] := by
 unfold only; rw [List.filterMap_append]; simp [h]
theorem only_no {N : Nat} {r : Nat → Rw} (xs : List (Fin N)) (x : Fin N) (h : (r x.val).is = false) : only N r (xs ++ [x]) = only N r xs := by
 unfold only; rw [List.filterMap_append]; simp [h]
theorem only_len {N : Nat} {r : Nat → Rw} (xs : List (Fin N)) : (only N r xs).length ≤ xs.length := List.length_filterMap_le _ _
theorem only_map {N : Nat} {r : Nat → Rw} (xs : List (Fin N)) : (only N r xs).map (·.1) = (xs.map Fin.val).filter fun i => (r i).is := by
 induction xs with
 | nil => rfl
 | cons x t ih =>
   unfold only at ih ⊢
   cases h : (r x.val).is
   · simp [h,ih]
   · simp [h,ih]
set_option maxRecDepth 100000 in
set_option maxHeartbeats 1600000 in
theorem valued_goes (n : Nat) (hn : 2 ≤ n) (B u g ar cap : Nat) (b : Nat → Nat) (r : Nat → Rw) (N l Bk : Nat) (hN : N ≤ 4) (D : Addr → Prop) (V : World) (hB : V.cell? ⟨B,0,none⟩ = some (.pointer (some ⟨u,0,none⟩))) (hg : V.cell? ⟨u,0,none⟩ = some (.pointer (some ⟨g,0,none⟩)))
 (hs : V.cell? ⟨g,22,none⟩ = some (.slice (some ⟨ar,0,none⟩) N cap)) (ha : ∀ i,i < N → V.cell? ⟨ar,i,none⟩ = some (.pointer (some ⟨xb b i,0,none⟩))) (hr : ∀ i,i < N → V.cell? ⟨u,1 + i * 2,none⟩ = some (.bool (r i).is))
 (hDa : ∀ i,D ⟨ar,i,none⟩) (hDr : ∀ i,i < N → D ⟨u,1 + i * 2,none⟩) (hDB : D ⟨B,0,none⟩) (hDn : ∀ p : Addr,V.heap.size ≤ p.block → D p) (hBk : Bk ≤ V.heap.size) :
 Goes Fence.wide n Tryz.prog 191 #[.pointer (some ⟨B,0,none⟩)] (encv b N r) (Kc D Bk) (fun xs => xs.map (·.1) = (List.range N).filter fun i => (r i).is) (fun _ => True) N (fun pre x => x.1 ∉ pre.map (·.1)) l V := by
 intro J Jx hJ hJx hY h0
 have HD := Lib.hid (And.intro hDa (And.intro hDr (And.intro hDB hDn)))
 have HC := Lib.hid (And.intro hs (And.intro ha hr))
 clear hDa hDr hDB hDn hs ha hr
 refine callsIn_of_wp_marks Tryz.func191 rfl trivial ?_ rfl
 simp only [Tryz.ntmps191,List.size_toArray,List.length_cons,List.length_nil,Nat.reduceAdd,Nat.reduceSub,Array.replicate_succ,Array.replicate_zero,List.push_toArray,List.append_toArray,List.nil_append,List.cons_append]
 have hn1 : 1 ≤ n := by omega
 have BD := Lib.hid (And.intro hB hg)
 have k0 := (Boxed.new V 260 (.func (.yield l) #[] #[])).cell
 have k1 := cel (.cells #[.func (.yield l) #[] #[]] 260) hB
 have k2 := cel (.cells #[.func (.yield l) #[] #[]] 260) hg
 clear hB hg
 gi_wp2
 refine wpIn_wide.2 ?_
 go_step3
 refine (wpIn_wide (n := n)).1 ?_
 gi_wp2
 refine wpIn_label ?_
 gi_wp2_with (refine ⟨trivial,?_⟩; gi_at_call 100; refine (callsIn_wide.2 (all_any _ _)).mono ?_; rintro e w2 ⟨rfl,rfl⟩)
 have HV := Lib.hid (((Below.refl V.heap.size V).alloc (Nat.le_refl _) (.cells #[.func (.yield l) #[] #[]] 260)).alloc (by simp) (.cells #[.pointer (some ⟨g,0,none⟩)] 90))
 have hsz : ((V.alloc (.cells #[.func (.yield l) #[] #[]] 260)).alloc (.cells #[.pointer (some ⟨g,0,none⟩)] 90)).heap.size = V.heap.size + 2 := by simp
 have j0 := Lib.hid (cel (.cells #[.pointer (some ⟨g,0,none⟩)] 90) k0)
 have j1 : ((V.alloc (.cells #[.func (.yield l) #[] #[]] 260)).alloc (.cells #[.pointer (some ⟨g,0,none⟩)] 90)).cell? ⟨V.heap.size + 1,0,none⟩ = some (.pointer (some ⟨g,0,none⟩)) := by
  have := (Boxed.new (V.alloc (.cells #[.func (.yield l) #[] #[]] 260)) 90 (.pointer (some ⟨g,0,none⟩))).cell
  rwa [World.size_alloc] at this
 have J1 := Lib.hid j1
 have J0 := Lib.hid (hJ.alloc (.cells #[.pointer (some ⟨g,0,none⟩)] 90) (hJ.alloc (.cells #[.func (.yield l) #[] #[]] 260) h0))
 clear k0 k1 k2 h0 j1
 generalize (V.alloc (.cells #[.func (.yield l) #[] #[]] 260)).alloc (.cells #[.pointer (some ⟨g,0,none⟩)] 90) = W0 at *
 have up : ∀ {p : Addr} {v : Value},V.cell? p = some v → W0.cell? p = some v := fun {p v} h => (HV.out.cell (p := p) (cell_blk h)).trans h
 have C0 := Lib.hid (And.intro (up BD.out.1) (And.intro j0.out fun i (hi : i < N) => up (HC.out.2.2 i hi)))
 have hq : ∀ V',Below W0.heap.size W0 V' → V'.heap.size = W0.heap.size + 2 → Goes Fence.wide (n - 1) Tryz.prog 146 #[.pointer (some ⟨V.heap.size + 1,0,none⟩)] (enca b N) (Kc D (W0.heap.size + 2)) (fun xs => xs.map Fin.val = List.range N) (fun _ => True) N (fun pre x => x.val ∉ pre.map Fin.val) (W0.heap.size + 1) V' := fun V' b' _ => by
  have uq : ∀ {p : Addr} {v : Value},W0.cell? p = some v → V'.cell? p = some v := fun {p v} h => (b'.cell (p := p) (cell_blk h)).trans h
  exact all_goes _ (by omega) (V.heap.size + 1) g ar cap b N _ _ hN D V' (uq J1.out) (uq (up HC.out.1)) (fun i hi => uq (up (HC.out.2.1 i hi))) HD.out.1
 refine range_goes rfl (by omega) (gf := 146) (lb := #[.pointer (some ⟨V.heap.size + 1,0,none⟩)]) rfl trivial (enters_of Tryz.func146 (by kernel_rfl) rfl) hq
  Kc.trans (fun X k o o' _ h2 h3 h4 => Kc.put h2 h3 h4) (fun _ => rfl)
  (fun pre X => J (only N r pre) X ∧ X.cell? ⟨B,0,none⟩ = some (.pointer (some ⟨u,0,none⟩)) ∧ X.cell? ⟨V.heap.size,0,none⟩ = some (.func (.yield l) #[] #[]) ∧ ∀ i,i < N → X.cell? ⟨u,1 + i * 2,none⟩ = some (.bool (r i).is))
  (fun c pre X => c = .exit 0 ∧ Jx (only N r pre) X)
  (OwnFrom.and (fun s X Y row hs hg hr => hJ _ X Y row hs hg fun k e => ⟨by have := (hr k e).1; omega,(hr k e).2⟩) (own_but fun _ X Y S h Bu hS =>
   ⟨cell_turned Bu (fun k q => (hS k q).2) h.1,cell_turned Bu (fun k q => (hS k q).2) h.2.1,fun i hi => cell_turned Bu (fun k q => (hS k q).2) (h.2.2 i hi)⟩))
  (fun c => OwnFrom.and (ownFrom_pure _ _) (fun s X Y row hs hg hr => hJx _ X Y row hs hg fun k e => ⟨by have := (hr k e).1; omega,(hr k e).2⟩))
  ⟨J0.out,C0.out⟩
  (fun x => { tmps := #[.func (.yield l) #[] #[],.pointer (some ⟨B,0,none⟩),.pointer (some ⟨V.heap.size,0,none⟩),.int .i64 x.val,.pointer (some ⟨xb b x.val,0,none⟩),.pointer (some ⟨u,0,none⟩),.pointer (some ⟨u,0,none⟩),.pointer (some ⟨u,0,none⟩),.pointer (some ⟨g,0,none⟩),
   .func (.func 146) #[] #[.pointer (some ⟨V.heap.size + 1,0,none⟩)],.int .i64 x.val,.pointer (some ⟨xb b x.val,0,none⟩),undef,undef,undef,undef,undef,undef,undef,undef,undef,undef,undef,undef,undef,undef,undef],defers := [] }) ?assign ?body ?done ?stop
 case assign =>
  intro lp x W K hK
  dsimp only [enca]
  gi_wp2
  exact hK
 case body =>
  rintro lp pre x W ⟨hj,c1,c2,c3⟩ hlen hG
  have hx := x.isLt
  have c4 := c3 x.val hx
  have C3 := Lib.hid c3
  have hxi : (x.val : Int) < 4 := by omega
  clear c3
  cases hi : (r x.val).is
  · rw [hi] at c4
    have HF := Lib.hid (only_no pre x hi)
    gi_wp2
    exact ⟨KeepsFrom.refl _ _,Kc.refl _ _ _,by rw [HF.out]; exact hj,c1,c2,C3.out⟩
  · rw [hi] at c4
    have HF := Lib.hid (only_yes pre x hi)
    obtain ⟨fn,tmps,assign,body,hy,hYR⟩ := hY _ ⟨x.val,x.isLt,hi⟩ W hj (by have := only_len (r := r) pre; omega) (fun q => hG (by rw [only_map] at q; exact (List.mem_filter.1 q).1))
    dsimp only [encv] at hy
    gi_wp2
    refine ⟨fun q => (by cases q),(round_any hYR).mono ?_⟩
    have low {X Y : World} (k : Kc D Bk X Y) : KeepsFrom W0.heap.size X Y ∧ Kc D (W0.heap.size + 2) X Y := ⟨KeepsFrom.mono k.2 (by omega),k.1,KeepsFrom.mono k.2 (by omega)⟩
    have BL := Lib.hid (cell_blk (p := ⟨V.heap.size,0,none⟩) j0.out)
    rintro e W3 (⟨rfl,hJ3,hk3⟩ | ⟨rfl,hJx3,hk3⟩)
    · have L3 := Lib.hid (low hk3)
      have M3 := Lib.hid (And.intro (hk3.1 _ _ HD.out.2.2.1 c1) (And.intro (hk3.1 _ _ (HD.out.2.2.2 ⟨V.heap.size,0,none⟩ (Nat.le_refl _)) c2) fun i (hi : i < N) => hk3.1 _ _ (HD.out.2.1 i hi) (C3.out i hi)))
      clear hk3 c1 c2 c4
      gi_wp2
      exact ⟨L3.out.1,L3.out.2,by rw [HF.out]; exact hJ3,M3.out⟩
    · have L3 := Lib.hid (low hk3)
      clear hk3 c1 c2 c4
      gi_wp2
      exact ⟨L3.out.1,L3.out.2,rfl,by rw [HF.out]; exact hJx3⟩
 case done =>
  rintro D' xs W hD' hxs ⟨hj,-⟩ hK
  gi_wp2
  rw [Exit.noGoto_normal]
  refine ⟨by simp,.inl ⟨_,_,rfl,run_takeDeferred hK,?_⟩⟩
  exact ⟨_,results_none rfl _ _ _,⟨_,rfl⟩,.inl ⟨_,(only_map xs).trans (by rw [hxs]),hJ.putObj _ hj (by omega) hK rfl⟩⟩
 case stop =>
  rintro D' c pre W hD' - ⟨rfl,hj⟩ hK
  gi_wp2
  rw [Exit.noGoto_normal]
  refine ⟨by simp,.inl ⟨_,_,rfl,run_takeDeferred hK,?_⟩⟩
  exact ⟨_,results_none rfl _ _ _,⟨_,rfl⟩,.inr ⟨_,trivial,hJx.putObj _ hj (by omega) hK rfl⟩⟩
end Sg
namespace Sg
open Cf (G CA)
theorem raw_row {W : World} {u g : Nat} {r : Nat → Rw} {sh : Int} {T : Nat → Int} {m : Int} (H : VRow W u 236 (tnr g r sh T m)) (i : Nat) (hi : i < 4) :
 Calls Tryz.prog 157 #[.pointer (some ⟨u,0,none⟩),.int .i64 i] W fun e w' => e = .returned (.int .i64 (r i).n) ∧ W = w' := by
 have h1 : W.cell? ⟨u,1 + i * 2 + 1,none⟩ = some (.int .i64 (r i).n) := by
  have : i = 0 ∨ i = 1 ∨ i = 2 ∨ i = 3 := by omega
  rcases this with rfl | rfl | rfl | rfl <;> exact H.cell _ rfl
 have hii : (i : Int) < 4 := by omega
 clear H
 generalize (r i).n = x at *
 go_enter Tryz.func157,Tryz.ntmps157
 go_wp2
 go_ret
 exact ⟨rfl,rfl⟩
theorem raw_any {W : World} {b : Nat → Nat} {c : List Int} {s : Si} {u : Nat} {r : Nat → Rw} {sh : Int} {T : Nat → Int} {m : Int} (H : Tn W b c s u r sh T m) (i : Nat) (hi : i < 4) :
 Calls Tryz.prog 157 #[.pointer (some ⟨u,0,none⟩),.int .i64 i] W fun e w' => e = .returned (.int .i64 (r i).n) ∧ W = w' :=
 raw_row H.trn i hi
theorem number_any (i : Int) (W : World) : Calls Tryz.prog 170 #[.int .i64 i] W fun e w' => e = .returned (.int .i64 i) ∧ W = w' := by
 go_enter Tryz.func170,Tryz.ntmps170
 go_wp2
 go_ret
 exact ⟨rfl,rfl⟩
theorem weight_any {W : World} {b : Nat → Nat} {c : List Int} {s : Si} {u : Nat} {r : Nat → Rw} {sh : Int} {T : Nat → Int} {m : Int} (hc : c.length = 21) (H : Tn W b c s u r sh T m) (i : Nat) (hi : i < 4) :
 Calls Tryz.prog 167 #[.pointer (some ⟨u,0,none⟩),.int .i64 i] W fun e w' => e = .returned (.int .i64 (G c (17 + i))) ∧ W = w' := by
 have h1 := H.sig
 have h2 := H.lie.cfg hc (17 + i) (by omega)
 have hii : (i : Int) < 4 := by omega
 clear H
 generalize G c (17 + i) = x at *
 generalize b 0 = g at *
 go_enter Tryz.func167,Tryz.ntmps167
 go_wp2
 go_ret
 exact ⟨rfl,rfl⟩
set_option maxHeartbeats 1600000 in
theorem even_any {W : World} {b : Nat → Nat} {c : List Int} {s : Si} {u : Nat} {r : Nat → Rw} {sh : Int} {T : Nat → Int} {m : Int} (hc : c.length = 21) (hR : Cf.Right c) (hO : Ok c s) (H : Tn W b c s u r sh T m) (i : Nat) (hi : i < NN c) (hv : Jp.val (r i).n = true) :
 Calls Tryz.prog 166 #[.pointer (some ⟨u,0,none⟩),.int .i64 i] W fun e w' => e = .returned (.int .i64 ((r i).n - (s.ch i).off)) ∧ Below W.heap.size W w' := by
 have hN := NN_34 hR
 have h1 := H.sig
 obtain ⟨cap,h2⟩ := H.lie.row hc
 have h3 := H.lie.at hi
 have C := H.lie.chs i hi
 have h4 := C.own.cell 3 (v := .pointer (some ⟨tb b i,0,none⟩)) rfl
 have CR := fun w (B : Below W.heap.size W w) => raw_any (H.on B) i (by omega)
 have CE := fun w (B : Below W.heap.size W w) => Ql.even_any (tb b i) (G c 10) (G c 11) (s.ch i).off (r i).n w (C.tr.below B C.tr.lt) (by
  have := (hO.ch i hi).off
  obtain ⟨-,-,-,-,-,-,-,-,-,-,h10,-⟩ := hR
  omega)
 rw [Ql.ev_yes hv,Ql.ee_yes hv] at CE
 have hki : (i : Int) < (NN c : Nat) := by omega
 have hii : (i : Int) < 4 := by omega
 have HF := Lib.hid (show (r i).n - (s.ch i).off = (r i).n - (s.ch i).off from rfl)
 clear C H hO hR hv
 generalize (r i).n - (s.ch i).off = z at *
 generalize (r i).n = x at *
 generalize (s.ch i).off = o at *
 generalize b 0 = g at *
 generalize b 2 = ar at *
 generalize xb b i = xx at *
 generalize tb b i = tt at *
 generalize NN c = N at *
 go_enter Tryz.func166,Tryz.ntmps166
 go_wp2_with fail
 have k1 := cell_regrown h1
 have k2 := cell_regrown h2
 have k3 := cell_regrown h3
 have k4 := cell_regrown h4
 have cR := reg_call (w := W) (fun w B => (CR w B).mono fun e w' q => ⟨q.1,q.2 ▸ Below.refl _ _⟩)
 have cE := reg_call (w := W) CE
 clear CR CE
 refine wp_region_quiet_below (by kernel_rfl) (by kernel_rfl) ?_
 repeat (go_big_quiet_step (first | exact cR _ _ | exact cE _ _))
 refine wpQuiet_nil ?_
 intro _ hw'
 obtain ⟨⟨dq,osq⟩,hw''⟩ := hw'
 subst hw''
 go_wp2
 go_ret
 exact ⟨rfl,below_regrown W dq osq⟩
def chan (c : List Int) (k : Int) : Bool := decide (0 ≤ k) && decide (k < NN c)
theorem has_any {W : World} {b : Nat → Nat} {c : List Int} {s : Si} (hc : c.length = 21) (H : Lie W b c s) (k : Int) :
 Calls Tryz.prog 98 #[.pointer (some ⟨b 0,0,none⟩),.int .i64 k] W fun e w' => e = .returned (.bool (chan c k)) ∧ W = w' := by
 obtain ⟨cap,h2⟩ := H.row hc
 have HF := Lib.hid (show chan c k = (decide (0 ≤ k) && decide (k < NN c)) from rfl)
 clear H
 generalize chan c k = x at *
 generalize b 0 = g at *
 generalize b 2 = ar at *
 generalize NN c = N at *
 cases d1 : decide (0 ≤ k)
 · rw [d1,Bool.false_and] at HF
   go_enter Tryz.func98,Tryz.ntmps98
   go_wp2
   go_ret
   exact ⟨Fx.ret_bool HF.out.symm,rfl⟩
 · rw [d1,Bool.true_and] at HF
   cases d2 : decide (k < (N : Int))
   · rw [d2] at HF
     go_enter Tryz.func98,Tryz.ntmps98
     go_wp2
     go_ret
     exact ⟨Fx.ret_bool HF.out.symm,rfl⟩
   · rw [d2] at HF
     go_enter Tryz.func98,Tryz.ntmps98
     go_wp2
     go_ret
     exact ⟨Fx.ret_bool HF.out.symm,rfl⟩
theorem chan_yes {c : List Int} {k : Nat} (h : k < NN c) : chan c k = true := by unfold chan; simp; omega
theorem chan_no {c : List Int} {k : Int} (h : k < 0 ∨ (NN c : Int) ≤ k) : chan c k = false := by
 unfold chan
 rcases h with h | h
 · rw [decide_eq_false (show ¬ 0 ≤ k by omega)]; rfl
 · rw [decide_eq_false (show ¬ k < (NN c : Int) by omega)]; simp
end Sg
end Go.Proofs.YticidhbnljdidaaGreatDoor
