/-
 What Vote of package stuck does: its contract by walking the Go text. Conditions: where the room lies.
 What the calls of package latch return, but Run: contracts by walking the Go text. No conditions.
 What the three modes of package latch tell of a state, and do in a cycle: contracts by walking the Go text. Conditions: the numbers are small.
 What the three modes of package latch do in a cycle, what Fine and Next tell: contracts by walking the Go text. No conditions but that the state may be, where a mode is asked for the state behind a cycle.
 What Fine of package latch tells: a contract by walking the Go text. No conditions.
-/
import Derived.Test.YticidhbnljdidaaGreatDoorJJumpWalks3
import Derived.Test.YticidhbnljdidaaGreatDoorJOrderMidMath6
import Derived.Test.YticidhbnljdidaaGreatDoorTailC
import Derived.Handy
import Derived.RegionTactic
import Derived.BigQuiet
namespace Go.Proofs.YticidhbnljdidaaGreatDoor
set_option maxRecDepth 100000
open Go.ChangeShapes Go.WideShapes Go.ChangeAt Go.RowKit Go.Deep
namespace Sk
open Fx (ret_bool)
open Jp (val)
theorem vote_no (g : Nat) (n : Int) (w : World) (hn : val n = false) :
 Calls Tryz.prog 172 #[.pointer (some ⟨g,0,none⟩),.int .i64 n] w fun e w' => e = .returned (.int .i64 1) ∧ w = w' := by
 have V := fun W => value_any n W
 rw [hn] at V
 go_enter Tryz.func172,Tryz.ntmps172
 go_wp2_with (go_at_call 195; (refine (V _).mono ?_; rintro e w' ⟨rfl,rfl⟩))
 go_ret
 exact ⟨rfl,rfl⟩
theorem vote_end {w W : World} {g P up cnt : Nat} {bound x : Int} {ring V : List Int} (RV : Ring P ring up V) (R : IRow .i64 W g 222 (room ((P : Int) + 1) bound ring up cnt)) (O : But (· = g) w W) (hx : x = (V.length : Int)) :
 Room ((W.setCell ⟨g,18,none⟩ (.int .i64 x)).drew) g P bound V ∧ Only g w ((W.setCell ⟨g,18,none⟩ (.int .i64 x)).drew) := by
 subst hx
 refine ⟨⟨ring,up,RV,?_⟩,(O.setCell (p := ⟨g,18,none⟩) (Or.inl rfl) _).drew⟩
 exact room_set_count RV.len (V.length : Int) ▸ (R.set 18 _).drew
set_option maxHeartbeats 3200000 in
theorem vote_yes (g P : Nat) (bound : Int) (V : List Int) (n : Int) (w : World) (hn : val n = true) (hR : Room w g P bound V) :
 Calls Tryz.prog 172 #[.pointer (some ⟨g,0,none⟩),.int .i64 n] w fun e w' => e = .returned (.int .i64 0) ∧ Room w' g P bound (lastN P (V ++ [n])) ∧ Only g w w' := by
 have VA := fun W => value_any n W
 rw [hn] at VA
 obtain ⟨ring,next,hr,R⟩ := hR
 have hl := hr.len
 have nx := hr.nx
 have p15 := hr.p15
 have le := hr.le
 have hl2 : (ring.set next n).length = 15 := by simpa using hl
 have HR := Lib.hid hr
 have c0 := R.cell 0 (by rw [room_len hl]; omega)
 have c17 := R.cell 17 (by rw [room_len hl]; omega)
 have ck := R.cell (2 + next) (by rw [room_len hl]; omega)
 rw [room_next hl] at c17
 have fk := R.frozen (2 + next)
 have nx' : (next : Int) < 15 := by omega
 have R1 := Lib.hid (show IRow .i64 ((w.setCell ⟨g,2 + next,none⟩ (.int .i64 n)).drew) g 222 (room ((P : Int) + 1) bound (ring.set next n) next V.length) from (room_set_ring next (by omega) hl n) ▸ (R.set (2 + next) n).drew)
 have O1 := Lib.hid (show But (· = g) w ((w.setCell ⟨g,2 + next,none⟩ (.int .i64 n)).drew) from ((But.refl (· = g) w).setCell (p := ⟨g,2 + next,none⟩) (Or.inl rfl) _).drew)
 have CP := fun W h => places_cell g P W p15 h
 have UT := up_tmod nx
 have LT : min ((V.length : Int) + 1) P = ((lastN P (V ++ [n])).length : Int) := by rw [lastN_len]; simp; omega
 have RV := Lib.hid (hr.vote n)
 clear hn hr R
 go_enter Tryz.func172,Tryz.ntmps172
 go_wp2_with (go_at_call 195; (refine (VA _).mono ?_; rintro e w' ⟨rfl,rfl⟩))
 go_region
 clear c0 c17 ck fk nx' VA
 go_wp2_with fail
 generalize (w.setCell ⟨g,2 + next,none⟩ (.int .i64 n)).drew = W1 at *
 have c0 := (R1.out.cell 0 (by rw [room_len hl2]; omega) : _ = some (Value.int IntKind.i64 ((P : Int) + 1)))
 have c17 := R1.out.cell 17 (by rw [room_len hl2]; omega)
 rw [room_next hl2] at c17
 have f17 := R1.out.frozen 17
 have CP1 := CP W1.drew c0
 refine Tail.wp_region_quiet_tail 11 (by kernel_rfl) (by kernel_rfl) ?_
 simp only [List.take_succ_cons,List.take_zero,List.drop_succ_cons,List.drop_zero]
 repeat (first | go_big_quiet_step (fail) | (go_big_quiet_want; go_big_quiet_op; refine ⟨_,CP1.mono (fun e w' q => ⟨q.1,q.2.symm⟩),?_⟩; go_big_quiet_on))
 refine wpQuiet_nil ?_
 have R2 := Lib.hid (show IRow .i64 ((W1.setCell ⟨g,17,none⟩ (.int .i64 (up P next : Int))).drew) g 222 (room ((P : Int) + 1) bound (ring.set next n) (up P next : Int) V.length) from room_set_next hl2 (up P next : Int) ▸ (R1.out.set 17 _).drew)
 have O2 := Lib.hid (show But (· = g) w ((W1.setCell ⟨g,17,none⟩ (.int .i64 (up P next : Int))).drew) from (O1.out.setCell (p := ⟨g,17,none⟩) (Or.inl rfl) _).drew)
 clear CP1
 go_wp2_with fail
 clear c0 c17 f17
 generalize (W1.setCell ⟨g,17,none⟩ (.int .i64 (up P next : Int))).drew = W2 at *
 have c0 := (R2.out.cell 0 (by rw [room_len hl2]; omega) : _ = some (Value.int IntKind.i64 ((P : Int) + 1)))
 have c18 := R2.out.cell 18 (by rw [room_len hl2]; omega)
 rw [room_count hl2] at c18
 have f18 := R2.out.frozen 18
 have CP1 := CP W2.drew c0
 refine Tail.wp_region_quiet_tail 11 (by kernel_rfl) (by kernel_rfl) ?_
 simp only [List.take_succ_cons,List.take_zero,List.drop_succ_cons,List.drop_zero]
 repeat (first | go_big_quiet_step (fail) | (go_big_quiet_want; go_big_quiet_op; refine ⟨_,CP1.mono (fun e w' q => ⟨q.1,q.2.symm⟩),?_⟩; go_big_quiet_on))
 refine wpQuiet_nil ?_
 clear CP1
 go_wp2_with fail
 all_goals
  go_ret
  exact ⟨rfl,vote_end RV.out R2.out O2.out (by rw [← LT]; try (clear CP; omega))⟩
end Sk
namespace Lc
theorem ret_bool {a b : Bool} (h : a = b) : Ending.returned (.bool a) = .returned (.bool b) := by rw [h]
theorem within_any (n lo hi : Int) (w : World) :
 Calls Tryz.prog 233 #[.int .i64 n,.int .i64 lo,.int .i64 hi] w fun e w' => e = .returned (.bool (inb n lo hi)) ∧ w = w' := by
 have HF := Lib.hid (show inb n lo hi = (decide (lo ≤ n) && decide (n ≤ hi)) from rfl)
 generalize inb n lo hi = X at *
 cases d : decide (lo ≤ n)
 · rw [d,Bool.false_and] at HF
   go_enter Tryz.func233,Tryz.ntmps233
   go_wp2
   go_ret
   exact ⟨ret_bool HF.out.symm,rfl⟩
 · rw [d,Bool.true_and] at HF
   go_enter Tryz.func233,Tryz.ntmps233
   go_wp2
   go_ret
   exact ⟨ret_bool HF.out.symm,rfl⟩
theorem within_eq (n lo hi : Int) (x : Bool) (w : World) (h : inb n lo hi = x) :
 Calls Tryz.prog 233 #[.int .i64 n,.int .i64 lo,.int .i64 hi] w fun e w' => e = .returned (.bool x) ∧ w = w' := by subst h; exact within_any n lo hi w
set_option maxHeartbeats 800000 in
theorem right_any (L C B : Int) (w : World) :
 Calls Tryz.prog 227 #[.agg #[.int .i64 L,.int .i64 C,.int .i64 B]] w fun e w' => e = .returned (.bool (rgt L C B)) ∧ Below w.heap.size w w' := by
 have HF := Lib.hid (show rgt L C B = (inb L 1 100 && inb C 1 1000 && inb B 0 10) from rfl)
 have BB := Lib.hid ((Below.refl w.heap.size w).alloc (Nat.le_refl _) (.cells #[.int .i64 L,.int .i64 C,.int .i64 B] 285))
 generalize rgt L C B = r at *
 cases d1 : inb L 1 100 <;> cases d2 : inb C 1 1000 <;> cases d3 : inb B 0 10
 all_goals
  rw [d1,d2,d3] at HF
  have D1 := Lib.hid d1
  have D2 := Lib.hid d2
  have D3 := Lib.hid d3
  clear d1 d2 d3
  go_enter Tryz.func227,Tryz.ntmps227
  go_wp2_with (go_at_call 233; refine (within_eq _ _ _ _ _ (by first | exact D1.out | exact D2.out | exact D3.out)).mono ?_; rintro e w' ⟨rfl,rfl⟩)
  go_ret
  exact ⟨ret_bool HF.out.symm,BB.out⟩
def mde (la ou : Bool) : Value := if ou then .iface 315 (.agg #[]) else if la then .iface 316 (.agg #[]) else .iface 317 (.agg #[])
theorem modeOf_any (la ou : Bool) (st cl bk : Int) (w : World) :
 Calls Tryz.prog 209 #[.agg #[.bool la,.bool ou,.int .i64 st,.int .i64 cl,.int .i64 bk]] w fun e w' => e = .returned (mde la ou) ∧ Below w.heap.size w w' := by
 have BB := Lib.hid ((Below.refl w.heap.size w).alloc (Nat.le_refl _) (.cells #[.bool la,.bool ou,.int .i64 st,.int .i64 cl,.int .i64 bk] 54))
 cases ou <;> cases la
 all_goals
  go_enter Tryz.func209,Tryz.ntmps209
  go_wp2
  go_ret
  exact ⟨rfl,BB.out⟩
end Lc
namespace Lc
theorem boxes (w : World) (a b c : Obj) : Below w.heap.size w (((w.alloc a).alloc b).alloc c) := (((Below.refl w.heap.size w).alloc (Nat.le_refl _) a).alloc (by simp) b).alloc (by simp; omega) c
set_option maxHeartbeats 800000 in
theorem out_fine (L C B : Int) (la ou : Bool) (st cl bk : Int) (w : World) :
 Calls Tryz.prog 261 #[.agg #[],.agg #[.int .i64 L,.int .i64 C,.int .i64 B],.agg #[.bool la,.bool ou,.int .i64 st,.int .i64 cl,.int .i64 bk]] w fun e w' => e = .returned (.bool (la && st == L && cl == 0 && bk == B)) ∧ Below w.heap.size w w' := by
 have BB := Lib.hid (boxes w (.cells #[] 315) (.cells #[.int .i64 L,.int .i64 C,.int .i64 B] 285) (.cells #[.bool la,.bool ou,.int .i64 st,.int .i64 cl,.int .i64 bk] 54))
 cases la <;> cases d1 : (st == L) <;> cases d2 : (cl == 0)
 all_goals
  go_enter Tryz.func261,Tryz.ntmps261
  go_wp2
  go_ret
  exact ⟨rfl,BB.out⟩
set_option maxHeartbeats 800000 in
theorem latched_fine (L C B : Int) (la ou : Bool) (st cl bk : Int) (w : World) (hR : Rt L C B) :
 Calls Tryz.prog 263 #[.agg #[],.agg #[.int .i64 L,.int .i64 C,.int .i64 B],.agg #[.bool la,.bool ou,.int .i64 st,.int .i64 cl,.int .i64 bk]] w fun e w' => e = .returned (.bool (st == L && inb cl 0 (C - 1) && inb bk 0 (B - 1))) ∧ Below w.heap.size w w' := by
 have BB := Lib.hid (boxes w (.cells #[] 316) (.cells #[.int .i64 L,.int .i64 C,.int .i64 B] 285) (.cells #[.bool la,.bool ou,.int .i64 st,.int .i64 cl,.int .i64 bk] 54))
 obtain ⟨h1,h2,h3,h4,h5,h6⟩ := hR
 cases d1 : (st == L) <;> cases d2 : inb cl 0 (C - 1) <;> cases d3 : inb bk 0 (B - 1)
 all_goals
  have D2 := Lib.hid d2
  have D3 := Lib.hid d3
  clear d2 d3
  go_enter Tryz.func263,Tryz.ntmps263
  go_wp2_with (go_at_call 233; refine (within_eq _ _ _ _ _ (by first | exact D2.out | exact D3.out)).mono ?_; rintro e w' ⟨rfl,rfl⟩)
  go_ret
  exact ⟨rfl,BB.out⟩
set_option maxHeartbeats 800000 in
theorem in_fine (L C B : Int) (la ou : Bool) (st cl bk : Int) (w : World) (hR : Rt L C B) :
 Calls Tryz.prog 265 #[.agg #[],.agg #[.int .i64 L,.int .i64 C,.int .i64 B],.agg #[.bool la,.bool ou,.int .i64 st,.int .i64 cl,.int .i64 bk]] w fun e w' => e = .returned (.bool (inb st 0 (L - 1) && cl == 0 && inb bk 0 B)) ∧ Below w.heap.size w w' := by
 have BB := Lib.hid (boxes w (.cells #[] 317) (.cells #[.int .i64 L,.int .i64 C,.int .i64 B] 285) (.cells #[.bool la,.bool ou,.int .i64 st,.int .i64 cl,.int .i64 bk] 54))
 obtain ⟨h1,h2,h3,h4,h5,h6⟩ := hR
 cases d1 : (cl == 0) <;> cases d2 : inb st 0 (L - 1) <;> cases d3 : inb bk 0 B
 all_goals
  have D2 := Lib.hid d2
  have D3 := Lib.hid d3
  clear d2 d3
  go_enter Tryz.func265,Tryz.ntmps265
  go_wp2_with (go_at_call 233; refine (within_eq _ _ _ _ _ (by first | exact D2.out | exact D3.out)).mono ?_; rintro e w' ⟨rfl,rfl⟩)
  go_ret
  exact ⟨rfl,BB.out⟩
end Lc
namespace Lc
def rlv (L C B : Int) : Value := .agg #[.int .i64 L,.int .i64 C,.int .i64 B]
def stv (s : St) : Value := .agg #[.bool s.la,.bool s.ou,.int .i64 s.st,.int .i64 s.cl,.int .i64 s.bk]
theorem boxes4 (w : World) (a b c d : Obj) : Below w.heap.size w ((((w.alloc a).alloc b).alloc c).alloc d) := (boxes w a b c).alloc (by simp; omega) d
def RetS (w : World) (L C B : Int) (s : St) (t : Bool) (e : Ending) (w' : World) : Prop := e = .returned (.tuple #[stv (ste L C B s t),.int .i64 (wha L C B s t)]) ∧ Below w.heap.size w w'
theorem out_behind (L C B : Int) (t : Bool) (w : World) :
 Calls Tryz.prog 260 #[.agg #[],rlv L C B,stv ⟨true,true,L,0,B⟩,.bool t] w (RetS w L C B ⟨true,true,L,0,B⟩ t) := by
 unfold rlv stv
 go_enter Tryz.func260,Tryz.ntmps260
 go_wp2
 go_returns
 exact ⟨rfl,boxes4 _ _ _ _ _⟩
set_option maxHeartbeats 800000 in
theorem latched_behind (L C B c b : Int) (t : Bool) (w : World) (hc : 0 ≤ c ∧ c < C) (hC : C ≤ 1000) (hb : 0 ≤ b ∧ b ≤ 10) :
 Calls Tryz.prog 262 #[.agg #[],rlv L C B,stv ⟨true,false,L,c,b⟩,.bool t] w (RetS w L C B ⟨true,false,L,c,b⟩ t) := by
 unfold rlv stv RetS
 cases t
 · by_cases d : c + 1 < C
   · have e1 : ste L C B ⟨true,false,L,c,b⟩ false = ⟨true,false,L,c + 1,b⟩ := by simp [ste,d]
     have e2 : wha L C B ⟨true,false,L,c,b⟩ false = 0 := by simp [wha,d]
     rw [e1,e2]
     clear e1 e2
     go_enter Tryz.func262,Tryz.ntmps262
     go_wp2
     go_returns
     exact ⟨rfl,boxes4 _ _ _ _ _⟩
   · have e1 : ste L C B ⟨true,false,L,c,b⟩ false = ⟨false,false,0,0,b + 1⟩ := by simp [ste,d]
     have e2 : wha L C B ⟨true,false,L,c,b⟩ false = 2 := by simp [wha,d]
     rw [e1,e2]
     clear e1 e2
     go_enter Tryz.func262,Tryz.ntmps262
     go_wp2
     go_returns
     exact ⟨rfl,boxes4 _ _ _ _ _⟩
 · have e1 : ste L C B ⟨true,false,L,c,b⟩ true = ⟨true,false,L,0,b⟩ := by simp [ste]
   have e2 : wha L C B ⟨true,false,L,c,b⟩ true = 0 := by simp [wha]
   rw [e1,e2]
   clear e1 e2
   go_enter Tryz.func262,Tryz.ntmps262
   go_wp2
   go_returns
   exact ⟨rfl,boxes4 _ _ _ _ _⟩
set_option maxHeartbeats 800000 in
theorem in_behind (L C B s b : Int) (t : Bool) (w : World) (hs : 0 ≤ s ∧ s < L) (hL : L ≤ 100) :
 Calls Tryz.prog 264 #[.agg #[],rlv L C B,stv ⟨false,false,s,0,b⟩,.bool t] w (RetS w L C B ⟨false,false,s,0,b⟩ t) := by
 unfold rlv stv RetS
 cases t
 · have e1 : ste L C B ⟨false,false,s,0,b⟩ false = ⟨false,false,0,0,b⟩ := by simp [ste]
   have e2 : wha L C B ⟨false,false,s,0,b⟩ false = 0 := by simp [wha]
   rw [e1,e2]
   clear e1 e2
   go_enter Tryz.func264,Tryz.ntmps264
   go_wp2
   go_returns
   exact ⟨rfl,boxes4 _ _ _ _ _⟩
 · by_cases d : s + 1 < L
   · have e1 : ste L C B ⟨false,false,s,0,b⟩ true = ⟨false,false,s + 1,0,b⟩ := by simp [ste,d]
     have e2 : wha L C B ⟨false,false,s,0,b⟩ true = 0 := by simp [wha,d]
     rw [e1,e2]
     clear e1 e2
     go_enter Tryz.func264,Tryz.ntmps264
     go_wp2
     go_returns
     exact ⟨rfl,boxes4 _ _ _ _ _⟩
   · by_cases p : b < B
     · have e1 : ste L C B ⟨false,false,s,0,b⟩ true = ⟨true,false,s + 1,0,b⟩ := by simp [ste,d,p]
       have e2 : wha L C B ⟨false,false,s,0,b⟩ true = 1 := by simp [wha,d,p]
       rw [e1,e2]
       clear e1 e2
       go_enter Tryz.func264,Tryz.ntmps264
       go_wp2
       go_returns
       exact ⟨rfl,boxes4 _ _ _ _ _⟩
     · have e1 : ste L C B ⟨false,false,s,0,b⟩ true = ⟨true,true,s + 1,0,b⟩ := by simp [ste,d,p]
       have e2 : wha L C B ⟨false,false,s,0,b⟩ true = 3 := by simp [wha,d,p]
       rw [e1,e2]
       clear e1 e2
       go_enter Tryz.func264,Tryz.ntmps264
       go_wp2
       go_returns
       exact ⟨rfl,boxes4 _ _ _ _ _⟩
end Lc
namespace Lc
def rlr (L C B : Int) : List Value := [.int .i64 L,.int .i64 C,.int .i64 B]
def str (s : St) : List Value := [.bool s.la,.bool s.ou,.int .i64 s.st,.int .i64 s.cl,.int .i64 s.bk]
theorem rl_cells {w : World} {g : Nat} {t : TypeId} {L C B : Int} (h : VRow w g t (rlr L C B)) : w.cell? ⟨g,0,none⟩ = some (.int .i64 L) ∧ w.cell? ⟨g,1,none⟩ = some (.int .i64 C) ∧ w.cell? ⟨g,2,none⟩ = some (.int .i64 B) :=
 ⟨h.cell 0 rfl,h.cell 1 rfl,h.cell 2 rfl⟩
theorem st_cells {w : World} {g : Nat} {t : TypeId} {s : St} (h : VRow w g t (str s)) : w.cell? ⟨g,0,none⟩ = some (.bool s.la) ∧ w.cell? ⟨g,1,none⟩ = some (.bool s.ou) ∧ w.cell? ⟨g,2,none⟩ = some (.int .i64 s.st) ∧ w.cell? ⟨g,3,none⟩ = some (.int .i64 s.cl) ∧ w.cell? ⟨g,4,none⟩ = some (.int .i64 s.bk) :=
 ⟨h.cell 0 rfl,h.cell 1 rfl,h.cell 2 rfl,h.cell 3 rfl,h.cell 4 rfl⟩
structure Two (w W : World) (t u : TypeId) (L C B : Int) (s : St) : Prop where
 below : Below w.heap.size w W
 rule : VRow W w.heap.size t (rlr L C B)
 state : VRow W (w.heap.size + 1) u (str s)
theorem two_new (w : World) (L C B : Int) (s : St) (t u : TypeId) : Two w ((w.alloc (.cells #[.int .i64 L,.int .i64 C,.int .i64 B] t)).alloc (.cells #[.bool s.la,.bool s.ou,.int .i64 s.st,.int .i64 s.cl,.int .i64 s.bk] u)) t u L C B s := by
 refine ⟨((Below.refl w.heap.size w).alloc (Nat.le_refl _) _).alloc (by simp) _,(VRow.new w (rlr L C B) t).alloc _,?_⟩
 have := VRow.new (w.alloc (.cells (rlr L C B).toArray t)) (str s) u
 rwa [show (w.alloc (.cells (rlr L C B).toArray t)).heap.size = w.heap.size + 1 by simp] at this
set_option maxHeartbeats 1600000 in
theorem fine_no (L C B : Int) (s : St) (w : World) (h : rgt L C B = false) :
 Calls Tryz.prog 208 #[rlv L C B,stv s] w fun e w' => e = .returned (.bool (fne L C B s)) ∧ Below w.heap.size w w' := by
 have e1 : fne L C B s = false := by unfold fne; rw [h]; rfl
 have C1 := fun W => right_any L C B W
 rw [h] at C1
 rw [e1]
 have T := Lib.hid (two_new w L C B s 285 54)
 clear h e1
 unfold rlv stv
 go_enter Tryz.func208,Tryz.ntmps208
 go_wp2
 generalize ((w.alloc (.cells #[.int .i64 L,.int .i64 C,.int .i64 B] 285)).alloc (.cells #[.bool s.la,.bool s.ou,.int .i64 s.st,.int .i64 s.cl,.int .i64 s.bk] 54)) = W0 at *
 obtain ⟨c0,c1,c2⟩ := rl_cells T.out.rule
 replace c0 := cell_regrown c0
 replace c1 := cell_regrown c1
 replace c2 := cell_regrown c2
 have cR := reg_call (w := W0) (fun W _ => C1 W)
 clear C1
 refine wp_region_quiet_below (by kernel_rfl) (by kernel_rfl) ?_
 repeat (go_big_quiet_step (exact cR _ _))
 refine wpQuiet_nil ?_
 intro _ hw'
 obtain ⟨⟨dq,osq⟩,hw''⟩ := hw'
 subst hw''
 go_wp2
 go_returns
 exact ⟨rfl,grow T.out.below (below_regrown W0 dq osq)⟩
theorem m_in_fine (d : Nat) (W : World) : (method (d + 1) 317 (.agg #[]) "rudder/latch.fine").run Tryz.prog W = .ok (265,.agg #[]) W := by kernel_rfl
theorem m_latched_fine (d : Nat) (W : World) : (method (d + 1) 316 (.agg #[]) "rudder/latch.fine").run Tryz.prog W = .ok (263,.agg #[]) W := by kernel_rfl
theorem m_out_fine (d : Nat) (W : World) : (method (d + 1) 315 (.agg #[]) "rudder/latch.fine").run Tryz.prog W = .ok (261,.agg #[]) W := by kernel_rfl
theorem m_in_behind (d : Nat) (W : World) : (method (d + 1) 317 (.agg #[]) "rudder/latch.behind").run Tryz.prog W = .ok (264,.agg #[]) W := by kernel_rfl
theorem m_latched_behind (d : Nat) (W : World) : (method (d + 1) 316 (.agg #[]) "rudder/latch.behind").run Tryz.prog W = .ok (262,.agg #[]) W := by kernel_rfl
theorem m_out_behind (d : Nat) (W : World) : (method (d + 1) 315 (.agg #[]) "rudder/latch.behind").run Tryz.prog W = .ok (260,.agg #[]) W := by kernel_rfl
set_option maxHeartbeats 3200000 in
theorem fine_yes (L C B : Int) (s : St) (w : World) (h : rgt L C B = true) :
 Calls Tryz.prog 208 #[rlv L C B,stv s] w fun e w' => e = .returned (.bool (fne L C B s)) ∧ Below w.heap.size w w' := by
 have e1 : fne L C B s = fin L C B s := by unfold fne; rw [h]; rfl
 have hR := rgt_iff.1 h
 have C1 := fun W => right_any L C B W
 rw [h] at C1
 rw [e1]
 have T := Lib.hid (two_new w L C B s 285 54)
 clear h e1
 obtain ⟨la,ou,st,cl,bk⟩ := s
 unfold rlv stv
 dsimp only at *
 cases ou
 · cases la
   · have CM := fun W => modeOf_any false false st cl bk W
     have CF := fun W => in_fine L C B false false st cl bk W hR
     have m1 := m_in_fine
     have HF := Lib.hid (show (inb st 0 (L - 1) && cl == 0 && inb bk 0 B) = fin L C B ⟨false,false,st,cl,bk⟩ from rfl)
     generalize fin L C B ⟨false,false,st,cl,bk⟩ = x at *
     rw [HF.out] at CF
     clear hR HF
     go_enter Tryz.func208,Tryz.ntmps208
     go_wp2
     generalize ((w.alloc (.cells #[.int .i64 L,.int .i64 C,.int .i64 B] 285)).alloc (.cells #[.bool false,.bool false,.int .i64 st,.int .i64 cl,.int .i64 bk] 54)) = W0 at *
     obtain ⟨c0,c1,c2⟩ := rl_cells T.out.rule
     replace c0 := cell_regrown c0
     replace c1 := cell_regrown c1
     replace c2 := cell_regrown c2
     obtain ⟨q0,q1,q2,q3,q4⟩ := st_cells T.out.state
     replace q0 := cell_regrown q0
     replace q1 := cell_regrown q1
     replace q2 := cell_regrown q2
     replace q3 := cell_regrown q3
     replace q4 := cell_regrown q4
     have cR := reg_call (w := W0) (fun W _ => C1 W)
     have cM := reg_call (w := W0) (v := .iface 317 (.agg #[])) (fun W _ => CM W)
     have cF := reg_call (w := W0) (fun W _ => CF W)
     clear C1 CM CF
     refine wp_region_quiet_below (by kernel_rfl) (by kernel_rfl) ?_
     repeat (go_big_quiet_step (first | exact cR _ _ | exact cM _ _ | exact cF _ _))
     refine wpQuiet_nil ?_
     intro _ hw'
     obtain ⟨⟨dq,osq⟩,hw''⟩ := hw'
     subst hw''
     go_wp2
     go_returns
     exact ⟨rfl,grow T.out.below (below_regrown W0 dq osq)⟩
   · have CM := fun W => modeOf_any true false st cl bk W
     have CF := fun W => latched_fine L C B true false st cl bk W hR
     have m1 := m_latched_fine
     have HF := Lib.hid (show (st == L && inb cl 0 (C - 1) && inb bk 0 (B - 1)) = fin L C B ⟨true,false,st,cl,bk⟩ from rfl)
     generalize fin L C B ⟨true,false,st,cl,bk⟩ = x at *
     rw [HF.out] at CF
     clear hR HF
     go_enter Tryz.func208,Tryz.ntmps208
     go_wp2
     generalize ((w.alloc (.cells #[.int .i64 L,.int .i64 C,.int .i64 B] 285)).alloc (.cells #[.bool true,.bool false,.int .i64 st,.int .i64 cl,.int .i64 bk] 54)) = W0 at *
     obtain ⟨c0,c1,c2⟩ := rl_cells T.out.rule
     replace c0 := cell_regrown c0
     replace c1 := cell_regrown c1
     replace c2 := cell_regrown c2
     obtain ⟨q0,q1,q2,q3,q4⟩ := st_cells T.out.state
     replace q0 := cell_regrown q0
     replace q1 := cell_regrown q1
     replace q2 := cell_regrown q2
     replace q3 := cell_regrown q3
     replace q4 := cell_regrown q4
     have cR := reg_call (w := W0) (fun W _ => C1 W)
     have cM := reg_call (w := W0) (v := .iface 316 (.agg #[])) (fun W _ => CM W)
     have cF := reg_call (w := W0) (fun W _ => CF W)
     clear C1 CM CF
     refine wp_region_quiet_below (by kernel_rfl) (by kernel_rfl) ?_
     repeat (go_big_quiet_step (first | exact cR _ _ | exact cM _ _ | exact cF _ _))
     refine wpQuiet_nil ?_
     intro _ hw'
     obtain ⟨⟨dq,osq⟩,hw''⟩ := hw'
     subst hw''
     go_wp2
     go_returns
     exact ⟨rfl,grow T.out.below (below_regrown W0 dq osq)⟩
 · have CM := fun W => modeOf_any la true st cl bk W
   have CF := fun W => out_fine L C B la true st cl bk W
   have m1 := m_out_fine
   have HF := Lib.hid (show (la && st == L && cl == 0 && bk == B) = fin L C B ⟨la,true,st,cl,bk⟩ from rfl)
   generalize fin L C B ⟨la,true,st,cl,bk⟩ = x at *
   rw [HF.out] at CF
   clear hR HF
   go_enter Tryz.func208,Tryz.ntmps208
   go_wp2
   generalize ((w.alloc (.cells #[.int .i64 L,.int .i64 C,.int .i64 B] 285)).alloc (.cells #[.bool la,.bool true,.int .i64 st,.int .i64 cl,.int .i64 bk] 54)) = W0 at *
   obtain ⟨c0,c1,c2⟩ := rl_cells T.out.rule
   replace c0 := cell_regrown c0
   replace c1 := cell_regrown c1
   replace c2 := cell_regrown c2
   obtain ⟨q0,q1,q2,q3,q4⟩ := st_cells T.out.state
   replace q0 := cell_regrown q0
   replace q1 := cell_regrown q1
   replace q2 := cell_regrown q2
   replace q3 := cell_regrown q3
   replace q4 := cell_regrown q4
   have cR := reg_call (w := W0) (fun W _ => C1 W)
   have cM := reg_call (w := W0) (v := .iface 315 (.agg #[])) (fun W _ => CM W)
   have cF := reg_call (w := W0) (fun W _ => CF W)
   clear C1 CM CF
   refine wp_region_quiet_below (by kernel_rfl) (by kernel_rfl) ?_
   repeat (go_big_quiet_step (first | exact cR _ _ | exact cM _ _ | exact cF _ _))
   refine wpQuiet_nil ?_
   intro _ hw'
   obtain ⟨⟨dq,osq⟩,hw''⟩ := hw'
   subst hw''
   go_wp2
   go_returns
   exact ⟨rfl,grow T.out.below (below_regrown W0 dq osq)⟩
theorem fine_any (L C B : Int) (s : St) (w : World) :
 Calls Tryz.prog 208 #[rlv L C B,stv s] w fun e w' => e = .returned (.bool (fne L C B s)) ∧ Below w.heap.size w w' := by
 cases h : rgt L C B
 · exact fine_no L C B s w h
 · exact fine_yes L C B s w h
end Lc
end Go.Proofs.YticidhbnljdidaaGreatDoor
