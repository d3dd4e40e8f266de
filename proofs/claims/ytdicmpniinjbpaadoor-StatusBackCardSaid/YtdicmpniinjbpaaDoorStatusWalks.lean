/-
  What Right and Word of package status, and the like of rudderref16, tell: contracts by walking the Go text. No conditions beyond the numbers' kinds.
-/
import Derived.Test.YtdicmpniinjbpaaDoorStatusMath
import Derived.Test.YtdicmpniinjbpaaDoorFixMaskRef
import Derived.Test.YtdicmpniinjbpaaDoorVBox
import Derived.Handy
import Derived.RegionTactic
import Derived.BigQuiet
namespace Go.Proofs.YtdicmpniinjbpaaDoor
open Go.ChangeShapes Go.WideShapes Go.ChangeAt Go.RowKit Go.Deep
namespace Ss
open Fx

def stv (s : St) : Value := .agg #[.int .i64 s.i, .int .i64 s.l, .int .i64 s.s, .bool s.f]
def str (s : St) : List Value := [.int .i64 s.i, .int .i64 s.l, .int .i64 s.s, .bool s.f]
theorem st_cells {w : World} {g : Nat} {t : TypeId} {s : St} (h : VRow w g t (str s)) : w.cell? ⟨g, 0, none⟩ = some (.int .i64 s.i) ∧ w.cell? ⟨g, 1, none⟩ = some (.int .i64 s.l) ∧ w.cell? ⟨g, 2, none⟩ = some (.int .i64 s.s) ∧ w.cell? ⟨g, 3, none⟩ = some (.bool s.f) :=
  ⟨h.cell 0 rfl, h.cell 1 rfl, h.cell 2 rfl, h.cell 3 rfl⟩
theorem str_one (s : St) : (str s).toArray.all (·.oneCell') = true := by simp [str, Value.oneCell']
theorem onB {w w' : World} {g : Nat} {t : TypeId} {cs : List Value} (h : VRow w g t cs) (b : Below w.heap.size w w') : VRow w' g t cs := h.below b h.lt
theorem carry {w w' : World} {g : Nat} {t : TypeId} {cs : List Value} (h : VRow w g t cs) (o : Obj) (b : Below (w.alloc o).heap.size (w.alloc o) w') : VRow w' g t cs := (h.alloc o).below b (h.alloc o).lt
theorem sizeS : (Tryd.prog.info? 23).map (·.size) = some 4 := by kernel_rfl
theorem aggS (w : World) : (isAgg 23).run Tryd.prog w = .ok true w := by simp [isAgg, run_underlying Tryd.underlying23]
theorem box_new (w : World) (s : St) (t : TypeId) : VRow (w.alloc (.cells #[.int .i64 s.i, .int .i64 s.l, .int .i64 s.s, .bool s.f] t)) w.heap.size t (str s) := VRow.new w (str s) t

theorem masked_any (n : Int) (w : World) :
    Calls Tryd.prog 20 #[.int .i64 n] w fun e w' => e = .returned (.bool (mk n)) ∧ w = w' := by
  have HF := Lib.hid (show mk n = (decide (0 ≤ n) && decide (n < 16)) by unfold mk; rw [Bool.decide_and])
  generalize mk n = x at *
  cases d : decide (0 ≤ n)
  · rw [d, Bool.false_and] at HF
    go_enter Tryd.func20, Tryd.ntmps20
    go_wp2
    go_ret
    exact ⟨ret_bool HF.out.symm, rfl⟩
  · rw [d, Bool.true_and] at HF
    go_enter Tryd.func20, Tryd.ntmps20
    go_wp2
    go_ret
    exact ⟨ret_bool HF.out.symm, rfl⟩
theorem masked_eq (n : Int) (x : Bool) (w : World) (h : mk n = x) :
    Calls Tryd.prog 20 #[.int .i64 n] w fun e w' => e = .returned (.bool x) ∧ w = w' := by subst h; exact masked_any n w

set_option maxHeartbeats 1600000 in
theorem right_any (s : St) (w : World) :
    Calls Tryd.prog 10 #[stv s] w fun e w' => e = .returned (.bool (rgt s)) ∧ Below w.heap.size w w' := by
  obtain ⟨i, l, q, f⟩ := s
  have HF := Lib.hid (show rgt ⟨i, l, q, f⟩ = (mk i && mk l && (f == (i == 0)) && (q == -1 || has i q)) from rfl)
  have BB := Lib.hid ((Below.refl w.heap.size w).alloc (Nat.le_refl _) (.cells #[.int .i64 i, .int .i64 l, .int .i64 q, .bool f] 23))
  have CH := fun W => has_any i q W
  unfold stv
  generalize rgt ⟨i, l, q, f⟩ = r at *
  generalize has i q = h at *
  cases d1 : mk i <;> cases d2 : mk l <;> cases d3 : (i == 0) <;> cases d4 : (q == -1) <;> cases f
  all_goals
    rw [d1, d2, d3, d4] at HF
    have D1 := Lib.hid d1
    have D2 := Lib.hid d2
    clear d1 d2
    go_enter Tryd.func10, Tryd.ntmps10
    go_wp2_with (first | (go_at_call 20; refine (masked_eq _ _ _ (by first | exact D1.out | exact D2.out)).mono ?_; rintro e w' ⟨rfl, rfl⟩) | (go_at_call 18; refine (CH _).mono ?_; rintro e w' ⟨rfl, rfl⟩))
    go_ret
    exact ⟨ret_bool (by rw [HF.out]; first | rfl | simp), BB.out⟩
end Ss
end Go.Proofs.YtdicmpniinjbpaaDoor
