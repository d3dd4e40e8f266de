/-
 What the laws' own helpers of layer 18 tell: small, moved: contracts by walking the Go text. Conditions: the numbers' bounds.
-/
import Derived.Test.YticidhbnljdidaaGreatDoorJSignalBound10
import Derived.Test.YticidhbnljdidaaGreatDoorTailC
import Derived.Lib.MinMax
namespace Go.Proofs.YticidhbnljdidaaGreatDoor
set_option maxRecDepth 100000
open Go.ChangeShapes Go.WideShapes Go.ChangeAt Go.RowKit Go.Deep
namespace Sg
open Cf (G CA Box)
theorem wpList_buildTo {P : Program} {ops : Array Oper} {rest : List Oper} {o : Oper} {a : Act} {w : World} {Q : Exit → Act → World → Prop} (hg : o.guard = none) (t : TypeId) (parts : Array (Nat × Operand)) (ho : o.op = .build t parts)
 (cells : Array Value) (hf : P.built t (parts.map fun (i,x) => (i,a.eval x)).toList = some cells) (h : wpList P ops Q rest (a.put o.dst (.agg cells)) w) : wpList P ops Q (o :: rest) a w :=
 wpList_build hg t parts ho (by rw [hf]; rfl) (by rw [hf]; exact h)
theorem wpList_storeC {ops : Array Oper} {rest : List Oper} {o : Oper} {a : Act} {w : World} {Q : Exit → Act → World → Prop} (hgd : o.guard = none) (x y : Operand) (ho : o.op = .store 24 x y)
 (b : Nat) (c c' : List Int) (hx : a.eval x = .pointer (some ⟨b,0,none⟩)) (hy : a.eval y = .agg (CA c')) (hb : Box w b c) (hc : c.length = 21) (hc' : c'.length = 21)
 (h : wpList Tryz.prog ops Q rest (a.put o.dst undef) (w.setRow b (CA c'))) : wpList Tryz.prog ops Q (o :: rest) a w :=
 wpList_store_row hgd 24 x y ho b (CA c') hx hy 24 (CA c) hb (by rw [Cf.CA_size,hc']; exact Cf.sizeC) (by rw [Cf.CA_size,Cf.CA_size,hc,hc']) (Cf.CA_one c') h
end Sg
end Go.Proofs.YticidhbnljdidaaGreatDoor
