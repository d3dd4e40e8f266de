/-
  What Covers of package config does: its contract by walking the Go text. Conditions: the numbers' kinds.
-/
import Derived.Test.YtpoededbmdffpaaGreatDoorConfigFault
namespace Go.Proofs.YtpoededbmdffpaaGreatDoor
set_option maxRecDepth 100000
open Go.ChangeShapes Go.WideShapes Go.ChangeAt Go.RowKit Go.Deep
namespace Cf
theorem ret_bool {a b : Bool} (h : a = b) : Ending.returned (.bool a) = .returned (.bool b) := by rw [h]
theorem wp_loadC {o : Oper} {a : Act} {w : World} {K : Act → World → Prop} {Q : Exit → Act → World → Prop} (x : Operand) (ho : o.op = .load 24 x)
    (b : Nat) (c : List Int) (hx : a.eval x = .pointer (some ⟨b, 0, none⟩)) (hb : Box w b c) (hc : c.length = 21)
    (h : K (a.put o.dst (.agg (CA c))) w) : o.wp Tryz.prog a w K Q :=
  wp_load_row 24 x ho b hx 24 (CA c) (0, 0) _ hb Tryz.underlying24 rfl (by rw [CA_size, hc]; exact sizeC) h
/-- A whole configuration loaded, where the operation is wanted. -/
theorem wpList_loadW {ops : Array Oper} {rest : List Oper} {o : Oper} {a : Act} {w : World} {Q : Exit → Act → World → Prop} (hw : Region.wanted o (yielded ops a.tmps) = true) (x : Operand) (ho : o.op = .load 24 x)
    (b : Nat) (c : List Int) (hx : a.eval x = .pointer (some ⟨b, 0, none⟩)) (hb : Box w b c) (hc : c.length = 21)
    (h : wpList Tryz.prog ops Q rest (a.put o.dst (.agg (CA c))) w) : wpList Tryz.prog ops Q (o :: rest) a w := by
  unfold wpList
  rw [if_pos hw]
  exact .inl (wp_loadC x ho b c hx hb hc h)
end Cf
end Go.Proofs.YtpoededbmdffpaaGreatDoor
