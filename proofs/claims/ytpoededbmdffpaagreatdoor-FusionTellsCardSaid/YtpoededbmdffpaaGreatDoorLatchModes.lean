/-
  What the three modes of package latch tell of a state, and do in a cycle: contracts by walking the Go text. Conditions: the numbers are small.
-/
import Derived.Test.YtpoededbmdffpaaGreatDoorLatchWalks
namespace Go.Proofs.YtpoededbmdffpaaGreatDoor
set_option maxRecDepth 100000
open Go.ChangeShapes Go.WideShapes Go.ChangeAt Go.RowKit Go.Deep
namespace Lc
/-- Three boxes, laid by a call. -/
theorem boxes (w : World) (a b c : Obj) : Below w.heap.size w (((w.alloc a).alloc b).alloc c) := (((Below.refl w.heap.size w).alloc (Nat.le_refl _) a).alloc (by simp) b).alloc (by simp; omega) c
set_option maxHeartbeats 800000 in
theorem out_fine (L C B : Int) (la ou : Bool) (st cl bk : Int) (w : World) :
    Calls Tryz.prog 261 #[.agg #[], .agg #[.int .i64 L, .int .i64 C, .int .i64 B], .agg #[.bool la, .bool ou, .int .i64 st, .int .i64 cl, .int .i64 bk]] w fun e w' => e = .returned (.bool (la && st == L && cl == 0 && bk == B)) ∧ Below w.heap.size w w' := by
  have BB := Lib.hid (boxes w (.cells #[] 315) (.cells #[.int .i64 L, .int .i64 C, .int .i64 B] 285) (.cells #[.bool la, .bool ou, .int .i64 st, .int .i64 cl, .int .i64 bk] 54))
  cases la <;> cases d1 : (st == L) <;> cases d2 : (cl == 0)
  all_goals
    go_enter Tryz.func261, Tryz.ntmps261
    go_wp2
    go_ret
    exact ⟨rfl, BB.out⟩
set_option maxHeartbeats 800000 in
theorem latched_fine (L C B : Int) (la ou : Bool) (st cl bk : Int) (w : World) (hR : Rt L C B) :
    Calls Tryz.prog 263 #[.agg #[], .agg #[.int .i64 L, .int .i64 C, .int .i64 B], .agg #[.bool la, .bool ou, .int .i64 st, .int .i64 cl, .int .i64 bk]] w fun e w' => e = .returned (.bool (st == L && inb cl 0 (C - 1) && inb bk 0 (B - 1))) ∧ Below w.heap.size w w' := by
  have BB := Lib.hid (boxes w (.cells #[] 316) (.cells #[.int .i64 L, .int .i64 C, .int .i64 B] 285) (.cells #[.bool la, .bool ou, .int .i64 st, .int .i64 cl, .int .i64 bk] 54))
  obtain ⟨h1, h2, h3, h4, h5, h6⟩ := hR
  cases d1 : (st == L) <;> cases d2 : inb cl 0 (C - 1) <;> cases d3 : inb bk 0 (B - 1)
  all_goals
    have D2 := Lib.hid d2
    have D3 := Lib.hid d3
    clear d2 d3
    go_enter Tryz.func263, Tryz.ntmps263
    go_wp2_with (go_at_call 233; refine (within_eq _ _ _ _ _ (by first | exact D2.out | exact D3.out)).mono ?_; rintro e w' ⟨rfl, rfl⟩)
    go_ret
    exact ⟨rfl, BB.out⟩
set_option maxHeartbeats 800000 in
theorem in_fine (L C B : Int) (la ou : Bool) (st cl bk : Int) (w : World) (hR : Rt L C B) :
    Calls Tryz.prog 265 #[.agg #[], .agg #[.int .i64 L, .int .i64 C, .int .i64 B], .agg #[.bool la, .bool ou, .int .i64 st, .int .i64 cl, .int .i64 bk]] w fun e w' => e = .returned (.bool (inb st 0 (L - 1) && cl == 0 && inb bk 0 B)) ∧ Below w.heap.size w w' := by
  have BB := Lib.hid (boxes w (.cells #[] 317) (.cells #[.int .i64 L, .int .i64 C, .int .i64 B] 285) (.cells #[.bool la, .bool ou, .int .i64 st, .int .i64 cl, .int .i64 bk] 54))
  obtain ⟨h1, h2, h3, h4, h5, h6⟩ := hR
  cases d1 : (cl == 0) <;> cases d2 : inb st 0 (L - 1) <;> cases d3 : inb bk 0 B
  all_goals
    have D2 := Lib.hid d2
    have D3 := Lib.hid d3
    clear d2 d3
    go_enter Tryz.func265, Tryz.ntmps265
    go_wp2_with (go_at_call 233; refine (within_eq _ _ _ _ _ (by first | exact D2.out | exact D3.out)).mono ?_; rintro e w' ⟨rfl, rfl⟩)
    go_ret
    exact ⟨rfl, BB.out⟩
end Lc
end Go.Proofs.YtpoededbmdffpaaGreatDoor
