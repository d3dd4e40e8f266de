/-
  What the three modes of package latch tell of a state, and do in a cycle: contracts by walking the Go text. Conditions: the numbers are small.
-/
import Derived.Test.YtcpfdohodadcaaaLatchWalks
namespace Go.Proofs.Ytcpfdohodadcaaa
open Go.ChangeShapes Go.WideShapes Go.ChangeAt Go.RowKit Go.Deep
namespace Lc

/-- Three boxes, laid by a call. -/
theorem boxes (w : World) (a b c : Obj) : Below w.heap.size w (((w.alloc a).alloc b).alloc c) := (((Below.refl w.heap.size w).alloc (Nat.le_refl _) a).alloc (by simp) b).alloc (by simp; omega) c

set_option maxHeartbeats 800000 in
theorem out_fine (L C B : Int) (la ou : Bool) (st cl bk : Int) (w : World) :
    Calls Try.prog 37 #[.agg #[], .agg #[.int .i64 L, .int .i64 C, .int .i64 B], .agg #[.bool la, .bool ou, .int .i64 st, .int .i64 cl, .int .i64 bk]] w fun e w' => e = .returned (.bool (la && st == L && cl == 0 && bk == B)) ∧ Below w.heap.size w w' := by
  have BB := Lib.hid (boxes w (.cells #[] 57) (.cells #[.int .i64 L, .int .i64 C, .int .i64 B] 23) (.cells #[.bool la, .bool ou, .int .i64 st, .int .i64 cl, .int .i64 bk] 25))
  cases la <;> cases d1 : (st == L) <;> cases d2 : (cl == 0)
  all_goals
    go_enter Try.func37, Try.ntmps37
    go_wp2
    go_ret
    exact ⟨rfl, BB.out⟩

set_option maxHeartbeats 800000 in
theorem latched_fine (L C B : Int) (la ou : Bool) (st cl bk : Int) (w : World) (hR : Rt L C B) :
    Calls Try.prog 39 #[.agg #[], .agg #[.int .i64 L, .int .i64 C, .int .i64 B], .agg #[.bool la, .bool ou, .int .i64 st, .int .i64 cl, .int .i64 bk]] w fun e w' => e = .returned (.bool (st == L && inb cl 0 (C - 1) && inb bk 0 (B - 1))) ∧ Below w.heap.size w w' := by
  have BB := Lib.hid (boxes w (.cells #[] 58) (.cells #[.int .i64 L, .int .i64 C, .int .i64 B] 23) (.cells #[.bool la, .bool ou, .int .i64 st, .int .i64 cl, .int .i64 bk] 25))
  obtain ⟨h1, h2, h3, h4, h5, h6⟩ := hR
  cases d1 : (st == L) <;> cases d2 : inb cl 0 (C - 1) <;> cases d3 : inb bk 0 (B - 1)
  all_goals
    have D2 := Lib.hid d2
    have D3 := Lib.hid d3
    clear d2 d3
    go_enter Try.func39, Try.ntmps39
    go_wp2_with (go_at_call 20; refine (within_eq _ _ _ _ _ (by first | exact D2.out | exact D3.out)).mono ?_; rintro e w' ⟨rfl, rfl⟩)
    go_ret
    exact ⟨rfl, BB.out⟩

set_option maxHeartbeats 800000 in
theorem in_fine (L C B : Int) (la ou : Bool) (st cl bk : Int) (w : World) (hR : Rt L C B) :
    Calls Try.prog 41 #[.agg #[], .agg #[.int .i64 L, .int .i64 C, .int .i64 B], .agg #[.bool la, .bool ou, .int .i64 st, .int .i64 cl, .int .i64 bk]] w fun e w' => e = .returned (.bool (inb st 0 (L - 1) && cl == 0 && inb bk 0 B)) ∧ Below w.heap.size w w' := by
  have BB := Lib.hid (boxes w (.cells #[] 59) (.cells #[.int .i64 L, .int .i64 C, .int .i64 B] 23) (.cells #[.bool la, .bool ou, .int .i64 st, .int .i64 cl, .int .i64 bk] 25))
  obtain ⟨h1, h2, h3, h4, h5, h6⟩ := hR
  cases d1 : (cl == 0) <;> cases d2 : inb st 0 (L - 1) <;> cases d3 : inb bk 0 B
  all_goals
    have D2 := Lib.hid d2
    have D3 := Lib.hid d3
    clear d2 d3
    go_enter Try.func41, Try.ntmps41
    go_wp2_with (go_at_call 20; refine (within_eq _ _ _ _ _ (by first | exact D2.out | exact D3.out)).mono ?_; rintro e w' ⟨rfl, rfl⟩)
    go_ret
    exact ⟨rfl, BB.out⟩
end Lc
end Go.Proofs.Ytcpfdohodadcaaa
