/-
  What Moved of package stuck tells: its contract by walking the Go text. Conditions: where the room lies.
  What Come of package stuck does: its contract by walking the Go text. Conditions: where the room and the watch lie.
-/
import Derived.Test.YtmlhmmfgdioclaaStuckVotes
import Derived.Test.YtmlhmmfgdioclaaOrderWalks2
import Derived.Test.YtmlhmmfgdioclaaFlowG
import Derived.Lib.QuietBelow
namespace Go.Proofs.Ytmlhmmfgdioclaa
set_option maxRecDepth 100000
open Go.ChangeShapes Go.WideShapes Go.ChangeAt Go.RowKit Go.Deep
namespace Sk
open Fx (ret_bool)

theorem moved_no (g P : Nat) (bound : Int) (V : List Int) (w : World) (hR : Room w g P bound V) (hn : V.length ≠ P) :
    Calls Try.prog 64 #[.pointer (some ⟨g, 0, none⟩)] w fun e w' => e = .returned (.bool false) ∧ Below w.heap.size w w' := by
  have c18 := hR.count
  have c0 := hR.win
  have hle := hR.le
  have CP := fun m => places_cell g P (w.drewN m) hle.2.2 c0
  have d : ((V.length : Int) == (P : Int)) = false := by simp; omega
  clear hR c0
  go_enter Try.func64, Try.ntmps64
  go_wp2
  go_quiet (exact Calls.quiet_of_same ((CP _).mono fun e w' q => ⟨q.1, q.2.symm⟩))
  go_wp2
  go_ret
  exact ⟨rfl, below_drewN (Below.refl _ w) _⟩

/-! ### The test of a full room, in whatever order -/
inductive Kd
  | ptr (j : Nat)
  | num (n : Int)
  | bool (b : Bool)
  | votes
  | any
def sk (P : Nat) (bound : Int) (V : List Int) (t : Nat) : Kd :=
  [.ptr 0, .any, .bool (decide (bound < Od.spread V)), .ptr 0, .bool true, .bool true, .ptr 0, .ptr 0, .ptr 18, .num V.length, .ptr 0, .num P, .bool true, .bool true, .bool true, .ptr 0, .votes, .num (Od.spread V), .ptr 0, .ptr 0, .ptr 1, .num bound, .bool (decide (bound < Od.spread V)), .bool (decide (bound < Od.spread V))].getD t .any
def Is (g : Nat) (V : List Int) : Kd → Value → World → Prop
  | .ptr j, v, _ => v = .pointer (some ⟨g, j, none⟩)
  | .num n, v, _ => v = .int .i64 n
  | .bool b, v, _ => v = .bool b
  | .votes, v, w => ∃ a cap, v = .slice a V.length cap ∧ IntsAt .i64 w a V
  | .any, _, _ => True
def MV (g P : Nat) (bound : Int) (V : List Int) (t : Tmp) (v : Value) (w : World) : Prop := Room w g P bound V ∧ Is g V (sk P bound V t) v w
theorem MV.on {g P : Nat} {bound : Int} {V : List Int} {t : Tmp} {v : Value} {w w' : World} (h : MV g P bound V t v w) (hb : Below w.heap.size w w') : MV g P bound V t v w' := by
  refine ⟨h.1.below hb h.1.lt, ?_⟩
  have h2 := h.2
  generalize sk P bound V t = k at *
  cases k with
  | ptr j => exact h2
  | num n => exact h2
  | bool b => exact h2
  | votes => obtain ⟨a, cap, e, i⟩ := h2; exact ⟨a, cap, e, i.below hb⟩
  | any => trivial
section
variable {g P : Nat} {bound : Int} {V : List Int} {Q : Exit → Act → World → Prop} {d t u : Tmp} {ty : TypeId} {pos : String} {after : Array Edge} {gd : Option (Nat × Bool)}
open FlowG
theorem step_move (h : sk P bound V d = sk P bound V t) : Step Try.prog (MV g P bound V) Q ⟨some d, .move (.tmp t), ty, pos, after, gd⟩ := by
  intro a w hl
  have h1 := hl t (List.Mem.head _)
  refine ⟨_, rfl, Below.refl _ _, fun d' hd' => ?_⟩
  cases hd'
  exact ⟨h1.1, by rw [h]; exact h1.2⟩
theorem step_assign (h : sk P bound V d = sk P bound V t) : Step Try.prog (MV g P bound V) Q ⟨some d, .assign (.tmp t), ty, pos, after, gd⟩ := by
  intro a w hl
  have h1 := hl t (List.Mem.head _)
  refine ⟨_, rfl, Below.refl _ _, fun d' hd' => ?_⟩
  cases hd'
  exact ⟨h1.1, by rw [h]; exact h1.2⟩
theorem MV.at {k : Kd} {v : Value} {w : World} (h : MV g P bound V t v w) (hk : sk P bound V t = k) : Room w g P bound V ∧ Is g V k v w := ⟨h.1, hk ▸ h.2⟩
theorem step_nil {j : Nat} (ht : sk P bound V t = .ptr j) (hd : sk P bound V d = .ptr j) : Step Try.prog (MV g P bound V) Q ⟨some d, .nilCheck (.tmp t), ty, pos, after, gd⟩ := by
  intro a w hl
  obtain ⟨hr, e⟩ := (hl t (List.Mem.head _)).at ht
  have e1 : a.eval (.tmp t) = .pointer (some ⟨g, j, none⟩) := e
  have HR := Lib.hid hr
  unfold Oper.wp execOp
  simp only [e1]
  go_simp
  exact ⟨_, rfl, Below.refl _ _, HR.out, by rw [hd]; rfl⟩
theorem step_addr1 (ht : sk P bound V t = .ptr 0) (hd : sk P bound V d = .ptr 1) : Step Try.prog (MV g P bound V) Q ⟨some d, .fieldAddr 78 (.tmp t) 1, ty, pos, after, gd⟩ := by
  intro a w hl
  obtain ⟨hr, e⟩ := (hl t (List.Mem.head _)).at ht
  have e1 : a.eval (.tmp t) = .pointer (some ⟨g, 0, none⟩) := e
  have HR := Lib.hid hr
  unfold Oper.wp execOp
  simp only [e1]
  go_simp
  exact ⟨_, rfl, Below.refl _ _, HR.out, by rw [hd]; rfl⟩
theorem step_addr4 (ht : sk P bound V t = .ptr 0) (hd : sk P bound V d = .ptr 18) : Step Try.prog (MV g P bound V) Q ⟨some d, .fieldAddr 78 (.tmp t) 4, ty, pos, after, gd⟩ := by
  intro a w hl
  obtain ⟨hr, e⟩ := (hl t (List.Mem.head _)).at ht
  have e1 : a.eval (.tmp t) = .pointer (some ⟨g, 0, none⟩) := e
  have HR := Lib.hid hr
  unfold Oper.wp execOp
  simp only [e1]
  go_simp
  exact ⟨_, rfl, Below.refl _ _, HR.out, by rw [hd]; rfl⟩
theorem step_load {j : Nat} {n : Int} (ht : sk P bound V t = .ptr j) (hd : sk P bound V d = .num n) (hc : ∀ w, Room w g P bound V → w.cell? ⟨g, j, none⟩ = some (.int .i64 n)) : Step Try.prog (MV g P bound V) Q ⟨some d, .load 3 (.tmp t), ty, pos, after, gd⟩ := by
  intro a w hl
  obtain ⟨hr, e⟩ := (hl t (List.Mem.head _)).at ht
  have e1 : a.eval (.tmp t) = .pointer (some ⟨g, j, none⟩) := e
  have hcell := hc w hr
  have HR := Lib.hid hr
  clear hc
  unfold Oper.wp execOp
  simp only [e1]
  go_simp
  exact ⟨_, rfl, Below.refl _ _, HR.out, by rw [hd]; rfl⟩
theorem step_pick {b : Bool} (ht : sk P bound V t = .bool true) (hu : sk P bound V u = .bool b) (hd : sk P bound V d = .bool b) : Step Try.prog (MV g P bound V) Q ⟨some d, .pick (.tmp t) (.tmp u) (.const (.bool false)), ty, pos, after, gd⟩ := by
  intro a w hl
  obtain ⟨hr, e⟩ := (hl t (List.Mem.head _)).at ht
  obtain ⟨_, e'⟩ := (hl u (List.Mem.tail _ (List.Mem.head _))).at hu
  have e1 : a.eval (.tmp t) = .bool true := e
  have e2 : a.eval (.tmp u) = .bool b := e'
  have HR := Lib.hid hr
  unfold Oper.wp execOp
  simp only [e1, e2]
  go_simp
  exact ⟨_, rfl, Below.refl _ _, HR.out, by rw [hd]; rfl⟩
theorem step_neq (ht : sk P bound V t = .ptr 0) (hd : sk P bound V d = .bool true) : Step Try.prog (MV g P bound V) Q ⟨some d, .binOp .neq 45 (.tmp t) (.const (.pointer none)) 45, ty, pos, after, gd⟩ := by
  intro a w hl
  obtain ⟨hr, e⟩ := (hl t (List.Mem.head _)).at ht
  have e1 : a.eval (.tmp t) = .pointer (some ⟨g, 0, none⟩) := e
  have HR := Lib.hid hr
  unfold Oper.wp execOp
  simp only [e1]
  go_simp
  exact ⟨_, rfl, Below.refl _ _, HR.out, by rw [hd]; rfl⟩
theorem step_eql {x y : Int} (ht : sk P bound V t = .num x) (hu : sk P bound V u = .num y) (hxy : x = y) (hd : sk P bound V d = .bool true) : Step Try.prog (MV g P bound V) Q ⟨some d, .binOp .eql 3 (.tmp t) (.tmp u) 3, ty, pos, after, gd⟩ := by
  intro a w hl
  obtain ⟨hr, e⟩ := (hl t (List.Mem.head _)).at ht
  obtain ⟨_, e'⟩ := (hl u (List.Mem.tail _ (List.Mem.head _))).at hu
  subst hxy
  have e1 : a.eval (.tmp t) = .int .i64 x := e
  have e2 : a.eval (.tmp u) = .int .i64 x := e'
  have HR := Lib.hid hr
  unfold Oper.wp execOp
  simp only [e1, e2]
  go_simp
  exact ⟨_, rfl, Below.refl _ _, HR.out, by rw [hd]; rfl⟩
theorem step_gtr {x y : Int} (ht : sk P bound V t = .num x) (hu : sk P bound V u = .num y) (hd : sk P bound V d = .bool (decide (y < x))) : Step Try.prog (MV g P bound V) Q ⟨some d, .binOp .gtr 3 (.tmp t) (.tmp u) 3, ty, pos, after, gd⟩ := by
  intro a w hl
  obtain ⟨hr, e⟩ := (hl t (List.Mem.head _)).at ht
  obtain ⟨_, e'⟩ := (hl u (List.Mem.tail _ (List.Mem.head _))).at hu
  have e1 : a.eval (.tmp t) = .int .i64 x := e
  have e2 : a.eval (.tmp u) = .int .i64 y := e'
  have HR := Lib.hid hr
  unfold Oper.wp execOp
  simp only [e1, e2]
  go_simp
  exact ⟨_, rfl, Below.refl _ _, HR.out, by rw [hd]; rfl⟩
/-- A call: what it is handed, what it hands back. -/
theorem step_call {f : FuncId} {at_ : TypeId} (hf : ∀ v w, (callFunc f #[v]).run Try.prog w = .ok (.enter f #[v]) w) (h : ∀ (v : Value) w, MV g P bound V t v w → Calls Try.prog f #[v] w fun e w' => ∃ r, e = .returned r ∧ Below w.heap.size w w' ∧ Is g V (sk P bound V d) r w') :
    Step Try.prog (MV g P bound V) Q ⟨some d, .call { callee := .value (.func f), args := #[.tmp t], argTypes := #[at_] }, ty, pos, after, gd⟩ := by
  intro a w hl
  have hm : t ∈ looks ⟨some d, .call { callee := .value (.func f), args := #[.tmp t], argTypes := #[at_] }, ty, pos, after, gd⟩ := by
    simp only [looks, List.mem_filterMap]
    exact ⟨.tmp t, (show Operand.tmp t ∈ [Operand.func f, .tmp t] by simp), rfl⟩
  obtain ⟨v, e1⟩ : ∃ v, a.eval (.tmp t) = v := ⟨_, rfl⟩
  have h1 : MV g P bound V t v w := e1 ▸ hl t hm
  have C := h v w h1
  have HR := Lib.hid h1.1
  clear h hl h1 hm
  unfold Oper.wp execOp
  simp only [resolve, e1, List.map_toArray, List.map_cons, List.map_nil]
  go_simp
  refine C.mono ?_
  rintro e w' ⟨r, rfl, hb, hi⟩
  exact ⟨_, rfl, hb, HR.out.below hb HR.out.lt, hi⟩
theorem step_places (ht : sk P bound V t = .ptr 0) (hd : sk P bound V d = .num P) : Step Try.prog (MV g P bound V) Q ⟨some d, .call { callee := .value (.func 75), args := #[.tmp t], argTypes := #[45] }, ty, pos, after, gd⟩ :=
  step_call (fun _ _ => by go_simp) fun v w h => by
    obtain ⟨hr, e⟩ := h.at ht
    obtain rfl : v = .pointer (some ⟨g, 0, none⟩) := e
    refine (places_cell g P w hr.le.2.2 hr.win).mono ?_
    rintro e w' ⟨rfl, rfl⟩
    exact ⟨_, rfl, Below.refl _ _, by rw [hd]; rfl⟩
theorem step_votes (ht : sk P bound V t = .ptr 0) (hd : sk P bound V d = .votes) : Step Try.prog (MV g P bound V) Q ⟨some d, .call { callee := .value (.func 81), args := #[.tmp t], argTypes := #[45] }, ty, pos, after, gd⟩ :=
  step_call (fun _ _ => by go_simp) fun v w h => by
    obtain ⟨hr, e⟩ := h.at ht
    obtain rfl : v = .pointer (some ⟨g, 0, none⟩) := e
    refine (votes_any g P bound V w hr).mono ?_
    rintro e w' ⟨a, cap, rfl, hi, hb⟩
    exact ⟨_, rfl, hb, by rw [hd]; exact ⟨a, cap, rfl, hi⟩⟩
theorem step_spread (ht : sk P bound V t = .votes) (hd : sk P bound V d = .num (Od.spread V)) : Step Try.prog (MV g P bound V) Q ⟨some d, .call { callee := .value (.func 80), args := #[.tmp t], argTypes := #[89] }, ty, pos, after, gd⟩ :=
  step_call (fun _ _ => by go_simp) fun v w h => by
    obtain ⟨hr, a, cap, rfl, hi⟩ := h.at ht
    have := hr.le
    refine (Od.spread_any a cap V w (by omega) hi).mono ?_
    rintro e w' ⟨rfl, hb⟩
    exact ⟨_, rfl, hb, by rw [hd]; rfl⟩
theorem forall_cons {α : Type} {p : α → Prop} {x : α} {l : List α} (h : p x) (k : ∀ o ∈ l, p o) : ∀ o ∈ x :: l, p o := by
  intro o ho
  rcases List.mem_cons.1 ho with rfl | ho
  · exact h
  · exact k o ho
end

set_option maxHeartbeats 3200000 in
theorem moved_yes (g P : Nat) (bound : Int) (V : List Int) (w : World) (hR : Room w g P bound V) (hn : V.length = P) :
    Calls Try.prog 64 #[.pointer (some ⟨g, 0, none⟩)] w fun e w' => e = .returned (.bool (decide (bound < Od.spread V))) ∧ Below w.heap.size w w' := by
  have HR := Lib.hid hR
  clear hR
  go_enter Try.func64, Try.ntmps64
  go_wp2
  rename_i Q' K hK
  refine FlowG.wp_region_flow (MV g P bound V) [0] 24 (by kernel_rfl) (by kernel_rfl) (fun t v w w' h hb => h.on hb) rfl ?_ ?_ ?_ ?_
  · intro t ht
    obtain rfl : t = 0 := by simpa using ht
    exact ⟨HR.out, rfl⟩
  · repeat (refine forall_cons ?_ ?_; focus first
      | (intro j b h; cases h; done)
      | (intro j b h; cases h; exact ⟨_, _, rfl, rfl, fun v w q => q.2⟩))
    intro o ho; cases ho
  · refine forall_cons (step_move rfl) ?_
    refine forall_cons (step_neq rfl rfl) ?_
    refine forall_cons (step_move rfl) ?_
    refine forall_cons (step_move rfl) ?_
    refine forall_cons (step_nil rfl rfl) ?_
    refine forall_cons (step_addr4 rfl rfl) ?_
    refine forall_cons (step_load rfl rfl (fun w h => h.count)) ?_
    refine forall_cons (step_move rfl) ?_
    refine forall_cons (step_places rfl rfl) ?_
    refine forall_cons (step_eql rfl rfl (by omega) rfl) ?_
    refine forall_cons (step_pick rfl rfl rfl) ?_
    refine forall_cons (step_move rfl) ?_
    refine forall_cons (step_move rfl) ?_
    refine forall_cons (step_votes rfl rfl) ?_
    refine forall_cons (step_spread rfl rfl) ?_
    refine forall_cons (step_move rfl) ?_
    refine forall_cons (step_nil rfl rfl) ?_
    refine forall_cons (step_addr1 rfl rfl) ?_
    refine forall_cons (step_load rfl rfl (fun w h => h.bnd)) ?_
    refine forall_cons (step_gtr rfl rfl rfl) ?_
    refine forall_cons (step_pick rfl rfl rfl) ?_
    refine forall_cons (step_assign rfl) ?_
    intro o ho; cases ho
  · intro a' w' hb hs hdf hold hv
    have e2 := (hv 21 _ 2 rfl rfl).2
    refine hK _ _ (wp_ret (bodyPost_ret (v := .bool (decide (bound < Od.spread V))) ((results_tmp rfl _ _ _).trans (by rw [show a'.tmps.getD 2 undef = _ from e2])) hdf ⟨rfl, hb⟩))

/-- Have the votes moved? -/
theorem moved_any (g P : Nat) (bound : Int) (V : List Int) (w : World) (hR : Room w g P bound V) :
    Calls Try.prog 64 #[.pointer (some ⟨g, 0, none⟩)] w fun e w' => e = .returned (.bool (moved P bound V)) ∧ Below w.heap.size w w' := by
  by_cases hn : V.length = P
  · rw [show moved P bound V = decide (bound < Od.spread V) by unfold moved; simp [hn]]
    exact moved_yes g P bound V w hR hn
  · rw [show moved P bound V = false by unfold moved; simp [hn]]
    exact moved_no g P bound V w hR hn
end Sk
end Go.Proofs.Ytmlhmmfgdioclaa

namespace Go.Proofs.Ytmlhmmfgdioclaa
set_option maxRecDepth 100000
open Go.ChangeShapes Go.WideShapes Go.ChangeAt Go.RowKit Go.Deep
namespace Sk
open Fx (ret_bool)
open Jp (val)

theorem come_no (g : Nat) (n : Int) (w : World) (hn : val n = false) :
    Calls Try.prog 39 #[.pointer (some ⟨g, 0, none⟩), .int .i64 n] w fun e w' => e = .returned (.tuple #[.bool false, .int .i64 1]) ∧ w = w' := by
  have V := fun W => value_any n W
  rw [hn] at V
  go_enter Try.func39, Try.ntmps39
  go_wp2_with (go_at_call 63; (refine (V _).mono ?_; rintro e w' ⟨rfl, rfl⟩))
  go_ret2
  exact ⟨rfl, rfl⟩

set_option maxHeartbeats 1600000 in
theorem come_on (g r P : Nat) (bound last run n : Int) (V : List Int) (w : World) (hn : val n = true) (hR : Room w r P bound V) (hT : VRow w g 124 (wt r last run)) (hne : r ≠ g) (h0 : 0 ≤ run) (_h1 : run ≤ (P : Int) + 1) (hq : n = last) (hm : run + 1 < (P : Int) + 1) :
    Calls Try.prog 39 #[.pointer (some ⟨g, 0, none⟩), .int .i64 n] w fun e w' => e = .returned (.tuple #[.bool false, .int .i64 0]) ∧ VRow w' g 124 (wt r n (run + 1)) ∧ Only g w w' := by
  have VA := fun W => value_any n W
  rw [hn] at VA
  have hle := hR.le
  have c0 := hT.cell 0 (v := .pointer (some ⟨r, 0, none⟩)) rfl
  have c1 := hT.cell 1 (v := .int .i64 last) rfl
  have c2 := hT.cell 2 (v := .int .i64 run) rfl
  have f1 := hT.frozen 1
  have f2 := hT.frozen 2
  have rw_ := hR.win
  subst hq
  have d1 : (n != n) = false := by simp
  have T := Lib.hid hT
  have R := Lib.hid hR
  have O := Lib.hid (But.refl (· = g) w)
  clear hn hT hR
  go_enter Try.func39, Try.ntmps39
  go_wp2_with (go_at_call 63; (refine (VA _).mono ?_; rintro e w' ⟨rfl, rfl⟩))
  clear VA
  refine Tail.wp_region_quiet_tail 16 (by kernel_rfl) (by kernel_rfl) ?_
  simp only [List.take_succ_cons, List.take_zero, List.drop_succ_cons, List.drop_zero]
  repeat (go_big_quiet_step (fail))
  refine wpQuiet_nil ?_
  have T2 := Lib.hid (show VRow ((w.setCell ⟨g, 2, none⟩ (.int .i64 (run + 1))).drew) g 124 (wt r n (run + 1)) from T.out.set 2 (.int .i64 (run + 1)))
  have O2 := Lib.hid (show But (· = g) w ((w.setCell ⟨g, 2, none⟩ (.int .i64 (run + 1))).drew) from (O.out.setCell (p := ⟨g, 2, none⟩) (Or.inl rfl) _).drew)
  have R2 := Lib.hid (show Room ((w.setCell ⟨g, 2, none⟩ (.int .i64 (run + 1))).drew) r P bound V from (R.out.only ((But.refl (· = g) w).setCell (p := ⟨g, 2, none⟩) (Or.inl rfl) _) hne).drew)
  go_wp2_with fail
  clear c0 c1 c2 f1 f2 rw_ d1
  generalize (w.setCell ⟨g, 2, none⟩ (.int .i64 (run + 1))).drew = W2 at *
  have c0 := T2.out.cell 0 (v := .pointer (some ⟨r, 0, none⟩)) rfl
  have c2 := T2.out.cell 2 (v := .int .i64 (run + 1)) rfl
  have rw_ := R2.out.win
  have d2 : (((run + 1) : Int) == (P : Int) + 1) = false := by simp; omega
  go_quiet (fail)
  go_wp2
  go_ret2
  exact ⟨rfl, T2.out.drewN _, O2.out.drewN _⟩

set_option maxHeartbeats 1600000 in
theorem come_full (g r P : Nat) (bound last run n : Int) (V : List Int) (w : World) (hn : val n = true) (hR : Room w r P bound V) (hT : VRow w g 124 (wt r last run)) (hne : r ≠ g) (h0 : 0 ≤ run) (h1 : run ≤ (P : Int) + 1) (hq : n = last) (hm : run = (P : Int)) :
    Calls Try.prog 39 #[.pointer (some ⟨g, 0, none⟩), .int .i64 n] w fun e w' => e = .returned (.tuple #[.bool (moved P bound V), .int .i64 0]) ∧ VRow w' g 124 (wt r n ((P : Int) + 1)) ∧ Only g w w' := by
  have VA := fun W => value_any n W
  rw [hn] at VA
  have hle := hR.le
  have c0 := hT.cell 0 (v := .pointer (some ⟨r, 0, none⟩)) rfl
  have c1 := hT.cell 1 (v := .int .i64 last) rfl
  have c2 := hT.cell 2 (v := .int .i64 run) rfl
  have f1 := hT.frozen 1
  have f2 := hT.frozen 2
  have rw_ := hR.win
  subst hq
  subst hm
  have d1 : (n != n) = false := by simp
  have T := Lib.hid hT
  have R := Lib.hid hR
  have O := Lib.hid (But.refl (· = g) w)
  clear hn hT hR
  go_enter Try.func39, Try.ntmps39
  go_wp2_with (go_at_call 63; (refine (VA _).mono ?_; rintro e w' ⟨rfl, rfl⟩))
  clear VA
  refine Tail.wp_region_quiet_tail 16 (by kernel_rfl) (by kernel_rfl) ?_
  simp only [List.take_succ_cons, List.take_zero, List.drop_succ_cons, List.drop_zero]
  repeat (go_big_quiet_step (fail))
  refine wpQuiet_nil ?_
  have T2 := Lib.hid (show VRow ((w.setCell ⟨g, 2, none⟩ (.int .i64 ((P : Int) + 1))).drew) g 124 (wt r n ((P : Int) + 1)) from T.out.set 2 (.int .i64 ((P : Int) + 1)))
  have O2 := Lib.hid (show But (· = g) w ((w.setCell ⟨g, 2, none⟩ (.int .i64 ((P : Int) + 1))).drew) from (O.out.setCell (p := ⟨g, 2, none⟩) (Or.inl rfl) _).drew)
  have R2 := Lib.hid (show Room ((w.setCell ⟨g, 2, none⟩ (.int .i64 ((P : Int) + 1))).drew) r P bound V from (R.out.only ((But.refl (· = g) w).setCell (p := ⟨g, 2, none⟩) (Or.inl rfl) _) hne).drew)
  go_wp2_with fail
  clear c0 c1 c2 f1 f2 rw_ d1
  generalize (w.setCell ⟨g, 2, none⟩ (.int .i64 ((P : Int) + 1))).drew = W2 at *
  have c0 := T2.out.cell 0 (v := .pointer (some ⟨r, 0, none⟩)) rfl
  have c2 := T2.out.cell 2 (v := .int .i64 ((P : Int) + 1)) rfl
  have rw_ := R2.out.win
  have d2 : ((((P : Int) + 1) : Int) == (P : Int) + 1) = true := by simp
  have k0 := cell_regrown c0
  have k2 := cell_regrown c2
  have kw := cell_regrown rw_
  have cM := reg_call (w := W2) (fun W hW => moved_any r P bound V W (R2.out.below hW R2.out.lt))
  clear c0 c2 rw_
  refine wp_region_quiet_below (by kernel_rfl) (by kernel_rfl) ?_
  repeat (go_big_quiet_step (exact cM _ _))
  refine wpQuiet_nil ?_
  intro _ hw'
  obtain ⟨⟨dq, osq⟩, hw''⟩ := hw'
  subst hw''
  go_wp2
  go_ret2
  have b := below_regrown W2 dq osq
  exact ⟨rfl, T2.out.below b T2.out.lt, O2.out.grow b⟩

set_option maxHeartbeats 1600000 in
theorem come_past (g r P : Nat) (bound last run n : Int) (V : List Int) (w : World) (hn : val n = true) (hR : Room w r P bound V) (hT : VRow w g 124 (wt r last run)) (hne : r ≠ g) (h0 : 0 ≤ run) (h1 : run ≤ (P : Int) + 1) (hq : n = last) (hm : run = (P : Int) + 1) :
    Calls Try.prog 39 #[.pointer (some ⟨g, 0, none⟩), .int .i64 n] w fun e w' => e = .returned (.tuple #[.bool (moved P bound V), .int .i64 0]) ∧ VRow w' g 124 (wt r n ((P : Int) + 1)) ∧ Only g w w' := by
  have VA := fun W => value_any n W
  rw [hn] at VA
  have hle := hR.le
  have c0 := hT.cell 0 (v := .pointer (some ⟨r, 0, none⟩)) rfl
  have c1 := hT.cell 1 (v := .int .i64 last) rfl
  have c2 := hT.cell 2 (v := .int .i64 run) rfl
  have f1 := hT.frozen 1
  have f2 := hT.frozen 2
  have rw_ := hR.win
  subst hq
  subst hm
  have d1 : (n != n) = false := by simp
  have T := Lib.hid hT
  have R := Lib.hid hR
  have O := Lib.hid (But.refl (· = g) w)
  clear hn hT hR
  go_enter Try.func39, Try.ntmps39
  go_wp2_with (go_at_call 63; (refine (VA _).mono ?_; rintro e w' ⟨rfl, rfl⟩))
  clear VA
  refine Tail.wp_region_quiet_tail 16 (by kernel_rfl) (by kernel_rfl) ?_
  simp only [List.take_succ_cons, List.take_zero, List.drop_succ_cons, List.drop_zero]
  repeat (go_big_quiet_step (fail))
  refine wpQuiet_nil ?_
  have T2 := Lib.hid (show VRow ((w.setCell ⟨g, 2, none⟩ (.int .i64 ((P : Int) + 1))).drew) g 124 (wt r n ((P : Int) + 1)) from T.out.set 2 (.int .i64 ((P : Int) + 1)))
  have O2 := Lib.hid (show But (· = g) w ((w.setCell ⟨g, 2, none⟩ (.int .i64 ((P : Int) + 1))).drew) from (O.out.setCell (p := ⟨g, 2, none⟩) (Or.inl rfl) _).drew)
  have R2 := Lib.hid (show Room ((w.setCell ⟨g, 2, none⟩ (.int .i64 ((P : Int) + 1))).drew) r P bound V from (R.out.only ((But.refl (· = g) w).setCell (p := ⟨g, 2, none⟩) (Or.inl rfl) _) hne).drew)
  go_wp2_with fail
  clear c0 c1 c2 f1 f2 rw_ d1
  generalize (w.setCell ⟨g, 2, none⟩ (.int .i64 ((P : Int) + 1))).drew = W2 at *
  have c0 := T2.out.cell 0 (v := .pointer (some ⟨r, 0, none⟩)) rfl
  have c2 := T2.out.cell 2 (v := .int .i64 ((P : Int) + 1)) rfl
  have rw_ := R2.out.win
  have d2 : ((((P : Int) + 1) : Int) == (P : Int) + 1) = true := by simp
  have k0 := cell_regrown c0
  have k2 := cell_regrown c2
  have kw := cell_regrown rw_
  have cM := reg_call (w := W2) (fun W hW => moved_any r P bound V W (R2.out.below hW R2.out.lt))
  clear c0 c2 rw_
  refine wp_region_quiet_below (by kernel_rfl) (by kernel_rfl) ?_
  repeat (go_big_quiet_step (exact cM _ _))
  refine wpQuiet_nil ?_
  intro _ hw'
  obtain ⟨⟨dq, osq⟩, hw''⟩ := hw'
  subst hw''
  go_wp2
  go_ret2
  have b := below_regrown W2 dq osq
  exact ⟨rfl, T2.out.below b T2.out.lt, O2.out.grow b⟩

set_option maxHeartbeats 1600000 in
theorem come_anew (g r P : Nat) (bound last run n : Int) (V : List Int) (w : World) (hn : val n = true) (hR : Room w r P bound V) (hT : VRow w g 124 (wt r last run)) (hne : r ≠ g) (_h0 : 0 ≤ run) (_h1 : run ≤ (P : Int) + 1) (hq : n ≠ last) :
    Calls Try.prog 39 #[.pointer (some ⟨g, 0, none⟩), .int .i64 n] w fun e w' => e = .returned (.tuple #[.bool false, .int .i64 0]) ∧ VRow w' g 124 (wt r n (1)) ∧ Only g w w' := by
  have VA := fun W => value_any n W
  rw [hn] at VA
  have hle := hR.le
  have c0 := hT.cell 0 (v := .pointer (some ⟨r, 0, none⟩)) rfl
  have c1 := hT.cell 1 (v := .int .i64 last) rfl
  have c2 := hT.cell 2 (v := .int .i64 run) rfl
  have f1 := hT.frozen 1
  have f2 := hT.frozen 2
  have rw_ := hR.win
  have d1 : (n != last) = true := by simpa using hq
  have T := Lib.hid (show VRow ((w.setCell ⟨g, 1, none⟩ (.int .i64 n)).setCell ⟨g, 2, none⟩ (.int .i64 0)) g 124 (wt r n 0) from (hT.set 1 (.int .i64 n)).set 2 (.int .i64 0))
  have O := Lib.hid (show But (· = g) w ((w.setCell ⟨g, 1, none⟩ (.int .i64 n)).setCell ⟨g, 2, none⟩ (.int .i64 0)) from ((But.refl (· = g) w).setCell (p := ⟨g, 1, none⟩) (Or.inl rfl) _).setCell (p := ⟨g, 2, none⟩) (Or.inl rfl) _)
  have R := Lib.hid (hR.only O.out hne)
  clear hn hT hR
  go_enter Try.func39, Try.ntmps39
  go_wp2_with (go_at_call 63; (refine (VA _).mono ?_; rintro e w' ⟨rfl, rfl⟩))
  clear VA c0 c1 c2 f1 f2 rw_
  generalize (w.setCell ⟨g, 1, none⟩ (.int .i64 n)).setCell ⟨g, 2, none⟩ (.int .i64 0) = W at *
  have c0 := T.out.cell 0 (v := .pointer (some ⟨r, 0, none⟩)) rfl
  have c2 := T.out.cell 2 (v := .int .i64 0) rfl
  have f2 := T.out.frozen 2
  have rw_ := R.out.win
  refine Tail.wp_region_quiet_tail 16 (by kernel_rfl) (by kernel_rfl) ?_
  simp only [List.take_succ_cons, List.take_zero, List.drop_succ_cons, List.drop_zero]
  repeat (go_big_quiet_step (fail))
  refine wpQuiet_nil ?_
  have T2 := Lib.hid (show VRow ((W.setCell ⟨g, 2, none⟩ (.int .i64 (1))).drew) g 124 (wt r n (1)) from T.out.set 2 (.int .i64 (1)))
  have O2 := Lib.hid (show But (· = g) w ((W.setCell ⟨g, 2, none⟩ (.int .i64 (1))).drew) from (O.out.setCell (p := ⟨g, 2, none⟩) (Or.inl rfl) _).drew)
  have R2 := Lib.hid (show Room ((W.setCell ⟨g, 2, none⟩ (.int .i64 (1))).drew) r P bound V from (R.out.only ((But.refl (· = g) W).setCell (p := ⟨g, 2, none⟩) (Or.inl rfl) _) hne).drew)
  go_wp2_with fail
  clear c0 c2 f2 rw_ d1
  generalize (W.setCell ⟨g, 2, none⟩ (.int .i64 (1))).drew = W2 at *
  have c0 := T2.out.cell 0 (v := .pointer (some ⟨r, 0, none⟩)) rfl
  have c2 := T2.out.cell 2 (v := .int .i64 (1)) rfl
  have rw_ := R2.out.win
  have d2 : (((1) : Int) == (P : Int) + 1) = false := by simp; omega
  go_quiet (fail)
  go_wp2
  go_ret2
  exact ⟨rfl, T2.out.drewN _, O2.out.drewN _⟩

/-- Is a value frozen? -/
def froz (P : Nat) (bound : Int) (V : List Int) (last run n : Int) : Bool := decide (Sk.run ((P : Int) + 1) last run n = (P : Int) + 1) && moved P bound V
theorem run_same {win r n : Int} : Sk.run win n r n = min (r + 1) win := by unfold Sk.run; rw [if_pos rfl]
theorem run_other {win last r n : Int} (h : n ≠ last) : Sk.run win last r n = min 1 win := by unfold Sk.run; rw [if_neg h]; rfl
theorem come_yes (g r P : Nat) (bound last run n : Int) (V : List Int) (w : World) (hn : val n = true) (hR : Room w r P bound V) (hT : VRow w g 124 (wt r last run)) (hne : r ≠ g) (h0 : 0 ≤ run) (h1 : run ≤ (P : Int) + 1) :
    Calls Try.prog 39 #[.pointer (some ⟨g, 0, none⟩), .int .i64 n] w fun e w' => e = .returned (.tuple #[.bool (froz P bound V last run n), .int .i64 0]) ∧ VRow w' g 124 (wt r n (Sk.run ((P : Int) + 1) last run n)) ∧ Only g w w' := by
  have hle := hR.le
  by_cases hq : n = last
  · subst hq
    unfold froz
    rw [run_same]
    rcases (show run + 1 < (P : Int) + 1 ∨ run = P ∨ run = (P : Int) + 1 by omega) with h | h | h
    · rw [show min (run + 1) ((P : Int) + 1) = run + 1 by omega, show decide (run + 1 = (P : Int) + 1) = false by simp; omega, Bool.false_and]
      exact come_on g r P bound n run n V w hn hR hT hne h0 h1 rfl h
    · rw [show min (run + 1) ((P : Int) + 1) = (P : Int) + 1 by omega, show decide ((P : Int) + 1 = (P : Int) + 1) = true by simp, Bool.true_and]
      exact come_full g r P bound n run n V w hn hR hT hne h0 h1 rfl h
    · rw [show min (run + 1) ((P : Int) + 1) = (P : Int) + 1 by omega, show decide ((P : Int) + 1 = (P : Int) + 1) = true by simp, Bool.true_and]
      exact come_past g r P bound n run n V w hn hR hT hne h0 h1 rfl h
  · unfold froz
    rw [run_other hq, show min 1 ((P : Int) + 1) = 1 by omega, show decide (1 = (P : Int) + 1) = false by simp; omega, Bool.false_and]
    exact come_anew g r P bound last run n V w hn hR hT hne h0 h1 hq
end Sk
end Go.Proofs.Ytmlhmmfgdioclaa
