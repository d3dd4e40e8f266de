/-
  What Moved of package stuck tells: its contract by walking the Go text. Conditions: where the room lies.
-/
import Derived.Test.YtpoededbmdffpaaGreatDoorStuckVotes
import Derived.Test.YtpoededbmdffpaaGreatDoorOrderWalks2
import Derived.Test.YtpoededbmdffpaaGreatDoorFlowG
namespace Go.Proofs.YtpoededbmdffpaaGreatDoor
set_option maxRecDepth 100000
open Go.ChangeShapes Go.WideShapes Go.ChangeAt Go.RowKit Go.Deep
namespace Sk
open Fx (ret_bool)
theorem moved_no (g P : Nat) (bound : Int) (V : List Int) (w : World) (hR : Room w g P bound V) (hn : V.length ≠ P) :
    Calls Tryz.prog 196 #[.pointer (some ⟨g, 0, none⟩)] w fun e w' => e = .returned (.bool false) ∧ Below w.heap.size w w' := by
  have c18 := hR.count
  have c0 := hR.win
  have hle := hR.le
  have CP := fun m => places_cell g P (w.drewN m) hle.2.2 c0
  have d : ((V.length : Int) == (P : Int)) = false := by simp; omega
  clear hR c0
  go_enter Tryz.func196, Tryz.ntmps196
  go_wp2
  go_quiet (exact Calls.quiet_of_same ((CP _).mono fun e w' q => ⟨q.1, q.2.symm⟩))
  go_wp2
  go_ret
  exact ⟨rfl, below_drewN (Below.refl _ w) _⟩
/-! ### The test of a full room, in whatever order -/
inductive Kd
  | ptr (j : Nat)
  | num (n : Int)
  | bool (b : Bool)
  | votes
  | any
def sk (P : Nat) (bound : Int) (V : List Int) (t : Nat) : Kd :=
  [.ptr 0, .any, .bool (decide (bound < Od.spread V)), .ptr 0, .bool true, .bool true, .ptr 0, .ptr 0, .ptr 18, .num V.length, .ptr 0, .num P, .bool true, .bool true, .bool true, .ptr 0, .votes, .num (Od.spread V), .ptr 0, .ptr 0, .ptr 1, .num bound, .bool (decide (bound < Od.spread V)), .bool (decide (bound < Od.spread V))].getD t .any
def Is (g : Nat) (V : List Int) : Kd → Value → World → Prop
  | .ptr j, v, _ => v = .pointer (some ⟨g, j, none⟩)
  | .num n, v, _ => v = .int .i64 n
  | .bool b, v, _ => v = .bool b
  | .votes, v, w => ∃ a cap, v = .slice a V.length cap ∧ IntsAt .i64 w a V
  | .any, _, _ => True
def MV (g P : Nat) (bound : Int) (V : List Int) (t : Tmp) (v : Value) (w : World) : Prop := Room w g P bound V ∧ Is g V (sk P bound V t) v w
theorem MV.on {g P : Nat} {bound : Int} {V : List Int} {t : Tmp} {v : Value} {w w' : World} (h : MV g P bound V t v w) (hb : Below w.heap.size w w') : MV g P bound V t v w' := by
  refine ⟨h.1.below hb h.1.lt, ?_⟩
  have h2 := h.2
  generalize sk P bound V t = k at *
  cases k with
  | ptr j => exact h2
  | num n => exact h2
  | bool b => exact h2
  | votes => obtain ⟨a, cap, e, i⟩ := h2; exact ⟨a, cap, e, i.below hb⟩
  | any => trivial
section
variable {g P : Nat} {bound : Int} {V : List Int} {Q : Exit → Act → World → Prop} {d t u : Tmp} {ty : TypeId} {pos : String} {after : Array Edge} {gd : Option (Nat × Bool)}
open FlowG
theorem step_move (h : sk P bound V d = sk P bound V t) : Step Tryz.prog (MV g P bound V) Q ⟨some d, .move (.tmp t), ty, pos, after, gd⟩ := by
  intro a w hl
  have h1 := hl t (List.Mem.head _)
  refine ⟨_, rfl, Below.refl _ _, fun d' hd' => ?_⟩
  cases hd'
  exact ⟨h1.1, by rw [h]; exact h1.2⟩
theorem step_assign (h : sk P bound V d = sk P bound V t) : Step Tryz.prog (MV g P bound V) Q ⟨some d, .assign (.tmp t), ty, pos, after, gd⟩ := by
  intro a w hl
  have h1 := hl t (List.Mem.head _)
  refine ⟨_, rfl, Below.refl _ _, fun d' hd' => ?_⟩
  cases hd'
  exact ⟨h1.1, by rw [h]; exact h1.2⟩
theorem MV.at {k : Kd} {v : Value} {w : World} (h : MV g P bound V t v w) (hk : sk P bound V t = k) : Room w g P bound V ∧ Is g V k v w := ⟨h.1, hk ▸ h.2⟩
theorem step_nil {j : Nat} (ht : sk P bound V t = .ptr j) (hd : sk P bound V d = .ptr j) : Step Tryz.prog (MV g P bound V) Q ⟨some d, .nilCheck (.tmp t), ty, pos, after, gd⟩ := by
  intro a w hl
  obtain ⟨hr, e⟩ := (hl t (List.Mem.head _)).at ht
  have e1 : a.eval (.tmp t) = .pointer (some ⟨g, j, none⟩) := e
  have HR := Lib.hid hr
  unfold Oper.wp execOp
  simp only [e1]
  go_simp
  exact ⟨_, rfl, Below.refl _ _, HR.out, by rw [hd]; rfl⟩
theorem step_addr1 (ht : sk P bound V t = .ptr 0) (hd : sk P bound V d = .ptr 1) : Step Tryz.prog (MV g P bound V) Q ⟨some d, .fieldAddr 222 (.tmp t) 1, ty, pos, after, gd⟩ := by
  intro a w hl
  obtain ⟨hr, e⟩ := (hl t (List.Mem.head _)).at ht
  have e1 : a.eval (.tmp t) = .pointer (some ⟨g, 0, none⟩) := e
  have HR := Lib.hid hr
  unfold Oper.wp execOp
  simp only [e1]
  go_simp
  exact ⟨_, rfl, Below.refl _ _, HR.out, by rw [hd]; rfl⟩
theorem step_addr4 (ht : sk P bound V t = .ptr 0) (hd : sk P bound V d = .ptr 18) : Step Tryz.prog (MV g P bound V) Q ⟨some d, .fieldAddr 222 (.tmp t) 4, ty, pos, after, gd⟩ := by
  intro a w hl
  obtain ⟨hr, e⟩ := (hl t (List.Mem.head _)).at ht
  have e1 : a.eval (.tmp t) = .pointer (some ⟨g, 0, none⟩) := e
  have HR := Lib.hid hr
  unfold Oper.wp execOp
  simp only [e1]
  go_simp
  exact ⟨_, rfl, Below.refl _ _, HR.out, by rw [hd]; rfl⟩
theorem step_load {j : Nat} {n : Int} (ht : sk P bound V t = .ptr j) (hd : sk P bound V d = .num n) (hc : ∀ w, Room w g P bound V → w.cell? ⟨g, j, none⟩ = some (.int .i64 n)) : Step Tryz.prog (MV g P bound V) Q ⟨some d, .load 3 (.tmp t), ty, pos, after, gd⟩ := by
  intro a w hl
  obtain ⟨hr, e⟩ := (hl t (List.Mem.head _)).at ht
  have e1 : a.eval (.tmp t) = .pointer (some ⟨g, j, none⟩) := e
  have hcell := hc w hr
  have HR := Lib.hid hr
  clear hc
  unfold Oper.wp execOp
  simp only [e1]
  go_simp
  exact ⟨_, rfl, Below.refl _ _, HR.out, by rw [hd]; rfl⟩
theorem step_pick {b : Bool} (ht : sk P bound V t = .bool true) (hu : sk P bound V u = .bool b) (hd : sk P bound V d = .bool b) : Step Tryz.prog (MV g P bound V) Q ⟨some d, .pick (.tmp t) (.tmp u) (.const (.bool false)), ty, pos, after, gd⟩ := by
  intro a w hl
  obtain ⟨hr, e⟩ := (hl t (List.Mem.head _)).at ht
  obtain ⟨_, e'⟩ := (hl u (List.Mem.tail _ (List.Mem.head _))).at hu
  have e1 : a.eval (.tmp t) = .bool true := e
  have e2 : a.eval (.tmp u) = .bool b := e'
  have HR := Lib.hid hr
  unfold Oper.wp execOp
  simp only [e1, e2]
  go_simp
  exact ⟨_, rfl, Below.refl _ _, HR.out, by rw [hd]; rfl⟩
theorem step_neq (ht : sk P bound V t = .ptr 0) (hd : sk P bound V d = .bool true) : Step Tryz.prog (MV g P bound V) Q ⟨some d, .binOp .neq 171 (.tmp t) (.const (.pointer none)) 171, ty, pos, after, gd⟩ := by
  intro a w hl
  obtain ⟨hr, e⟩ := (hl t (List.Mem.head _)).at ht
  have e1 : a.eval (.tmp t) = .pointer (some ⟨g, 0, none⟩) := e
  have HR := Lib.hid hr
  unfold Oper.wp execOp
  simp only [e1]
  go_simp
  exact ⟨_, rfl, Below.refl _ _, HR.out, by rw [hd]; rfl⟩
theorem step_eql {x y : Int} (ht : sk P bound V t = .num x) (hu : sk P bound V u = .num y) (hxy : x = y) (hd : sk P bound V d = .bool true) : Step Tryz.prog (MV g P bound V) Q ⟨some d, .binOp .eql 3 (.tmp t) (.tmp u) 3, ty, pos, after, gd⟩ := by
  intro a w hl
  obtain ⟨hr, e⟩ := (hl t (List.Mem.head _)).at ht
  obtain ⟨_, e'⟩ := (hl u (List.Mem.tail _ (List.Mem.head _))).at hu
  subst hxy
  have e1 : a.eval (.tmp t) = .int .i64 x := e
  have e2 : a.eval (.tmp u) = .int .i64 x := e'
  have HR := Lib.hid hr
  unfold Oper.wp execOp
  simp only [e1, e2]
  go_simp
  exact ⟨_, rfl, Below.refl _ _, HR.out, by rw [hd]; rfl⟩
theorem step_gtr {x y : Int} (ht : sk P bound V t = .num x) (hu : sk P bound V u = .num y) (hd : sk P bound V d = .bool (decide (y < x))) : Step Tryz.prog (MV g P bound V) Q ⟨some d, .binOp .gtr 3 (.tmp t) (.tmp u) 3, ty, pos, after, gd⟩ := by
  intro a w hl
  obtain ⟨hr, e⟩ := (hl t (List.Mem.head _)).at ht
  obtain ⟨_, e'⟩ := (hl u (List.Mem.tail _ (List.Mem.head _))).at hu
  have e1 : a.eval (.tmp t) = .int .i64 x := e
  have e2 : a.eval (.tmp u) = .int .i64 y := e'
  have HR := Lib.hid hr
  unfold Oper.wp execOp
  simp only [e1, e2]
  go_simp
  exact ⟨_, rfl, Below.refl _ _, HR.out, by rw [hd]; rfl⟩
/-- A call: what it is handed, what it hands back. -/
theorem step_call {f : FuncId} {at_ : TypeId} (hf : ∀ v w, (callFunc f #[v]).run Tryz.prog w = .ok (.enter f #[v]) w) (h : ∀ (v : Value) w, MV g P bound V t v w → Calls Tryz.prog f #[v] w fun e w' => ∃ r, e = .returned r ∧ Below w.heap.size w w' ∧ Is g V (sk P bound V d) r w') :
    Step Tryz.prog (MV g P bound V) Q ⟨some d, .call { callee := .value (.func f), args := #[.tmp t], argTypes := #[at_] }, ty, pos, after, gd⟩ := by
  intro a w hl
  have hm : t ∈ looks ⟨some d, .call { callee := .value (.func f), args := #[.tmp t], argTypes := #[at_] }, ty, pos, after, gd⟩ := by
    simp only [looks, List.mem_filterMap]
    exact ⟨.tmp t, (show Operand.tmp t ∈ [Operand.func f, .tmp t] by simp), rfl⟩
  obtain ⟨v, e1⟩ : ∃ v, a.eval (.tmp t) = v := ⟨_, rfl⟩
  have h1 : MV g P bound V t v w := e1 ▸ hl t hm
  have C := h v w h1
  have HR := Lib.hid h1.1
  clear h hl h1 hm
  unfold Oper.wp execOp
  simp only [resolve, e1, List.map_toArray, List.map_cons, List.map_nil]
  go_simp
  refine C.mono ?_
  rintro e w' ⟨r, rfl, hb, hi⟩
  exact ⟨_, rfl, hb, HR.out.below hb HR.out.lt, hi⟩
theorem step_places (ht : sk P bound V t = .ptr 0) (hd : sk P bound V d = .num P) : Step Tryz.prog (MV g P bound V) Q ⟨some d, .call { callee := .value (.func 207), args := #[.tmp t], argTypes := #[171] }, ty, pos, after, gd⟩ :=
  step_call (fun _ _ => by go_simp) fun v w h => by
    obtain ⟨hr, e⟩ := h.at ht
    obtain rfl : v = .pointer (some ⟨g, 0, none⟩) := e
    refine (places_cell g P w hr.le.2.2 hr.win).mono ?_
    rintro e w' ⟨rfl, rfl⟩
    exact ⟨_, rfl, Below.refl _ _, by rw [hd]; rfl⟩
theorem step_votes (ht : sk P bound V t = .ptr 0) (hd : sk P bound V d = .votes) : Step Tryz.prog (MV g P bound V) Q ⟨some d, .call { callee := .value (.func 219), args := #[.tmp t], argTypes := #[171] }, ty, pos, after, gd⟩ :=
  step_call (fun _ _ => by go_simp) fun v w h => by
    obtain ⟨hr, e⟩ := h.at ht
    obtain rfl : v = .pointer (some ⟨g, 0, none⟩) := e
    refine (votes_any g P bound V w hr).mono ?_
    rintro e w' ⟨a, cap, rfl, hi, hb⟩
    exact ⟨_, rfl, hb, by rw [hd]; exact ⟨a, cap, rfl, hi⟩⟩
theorem step_spread (ht : sk P bound V t = .votes) (hd : sk P bound V d = .num (Od.spread V)) : Step Tryz.prog (MV g P bound V) Q ⟨some d, .call { callee := .value (.func 218), args := #[.tmp t], argTypes := #[144] }, ty, pos, after, gd⟩ :=
  step_call (fun _ _ => by go_simp) fun v w h => by
    obtain ⟨hr, a, cap, rfl, hi⟩ := h.at ht
    have := hr.le
    refine (Od.spread_any a cap V w (by omega) hi).mono ?_
    rintro e w' ⟨rfl, hb⟩
    exact ⟨_, rfl, hb, by rw [hd]; rfl⟩
theorem forall_cons {α : Type} {p : α → Prop} {x : α} {l : List α} (h : p x) (k : ∀ o ∈ l, p o) : ∀ o ∈ x :: l, p o := by
  intro o ho
  rcases List.mem_cons.1 ho with rfl | ho
  · exact h
  · exact k o ho
end
set_option maxHeartbeats 3200000 in
theorem moved_yes (g P : Nat) (bound : Int) (V : List Int) (w : World) (hR : Room w g P bound V) (hn : V.length = P) :
    Calls Tryz.prog 196 #[.pointer (some ⟨g, 0, none⟩)] w fun e w' => e = .returned (.bool (decide (bound < Od.spread V))) ∧ Below w.heap.size w w' := by
  have HR := Lib.hid hR
  clear hR
  go_enter Tryz.func196, Tryz.ntmps196
  go_wp2
  rename_i Q' K hK
  refine FlowG.wp_region_flow (MV g P bound V) [0] 24 (by kernel_rfl) (by kernel_rfl) (fun t v w w' h hb => h.on hb) rfl ?_ ?_ ?_ ?_
  · intro t ht
    obtain rfl : t = 0 := by simpa using ht
    exact ⟨HR.out, rfl⟩
  · repeat (refine forall_cons ?_ ?_; focus first
      | (intro j b h; cases h; done)
      | (intro j b h; cases h; exact ⟨_, _, rfl, rfl, fun v w q => q.2⟩))
    intro o ho; cases ho
  · refine forall_cons (step_move rfl) ?_
    refine forall_cons (step_neq rfl rfl) ?_
    refine forall_cons (step_move rfl) ?_
    refine forall_cons (step_move rfl) ?_
    refine forall_cons (step_nil rfl rfl) ?_
    refine forall_cons (step_addr4 rfl rfl) ?_
    refine forall_cons (step_load rfl rfl (fun w h => h.count)) ?_
    refine forall_cons (step_move rfl) ?_
    refine forall_cons (step_places rfl rfl) ?_
    refine forall_cons (step_eql rfl rfl (by omega) rfl) ?_
    refine forall_cons (step_pick rfl rfl rfl) ?_
    refine forall_cons (step_move rfl) ?_
    refine forall_cons (step_move rfl) ?_
    refine forall_cons (step_votes rfl rfl) ?_
    refine forall_cons (step_spread rfl rfl) ?_
    refine forall_cons (step_move rfl) ?_
    refine forall_cons (step_nil rfl rfl) ?_
    refine forall_cons (step_addr1 rfl rfl) ?_
    refine forall_cons (step_load rfl rfl (fun w h => h.bnd)) ?_
    refine forall_cons (step_gtr rfl rfl rfl) ?_
    refine forall_cons (step_pick rfl rfl rfl) ?_
    refine forall_cons (step_assign rfl) ?_
    intro o ho; cases ho
  · intro a' w' hb hs hdf hold hv
    have e2 := (hv 21 _ 2 rfl rfl).2
    refine hK _ _ (wp_ret (bodyPost_ret (v := .bool (decide (bound < Od.spread V))) ((results_tmp rfl _ _ _).trans (by rw [show a'.tmps.getD 2 undef = _ from e2])) hdf ⟨rfl, hb⟩))
/-- Have the votes moved? -/
theorem moved_any (g P : Nat) (bound : Int) (V : List Int) (w : World) (hR : Room w g P bound V) :
    Calls Tryz.prog 196 #[.pointer (some ⟨g, 0, none⟩)] w fun e w' => e = .returned (.bool (moved P bound V)) ∧ Below w.heap.size w w' := by
  by_cases hn : V.length = P
  · rw [show moved P bound V = decide (bound < Od.spread V) by unfold moved; simp [hn]]
    exact moved_yes g P bound V w hR hn
  · rw [show moved P bound V = false by unfold moved; simp [hn]]
    exact moved_no g P bound V w hR hn
end Sk
end Go.Proofs.YtpoededbmdffpaaGreatDoor
