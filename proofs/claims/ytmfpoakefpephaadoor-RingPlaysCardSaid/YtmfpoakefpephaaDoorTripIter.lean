/-
  strings.SplitSeq at the separator '+': its iterator hands over the pieces one by one, to every loop body that leaves the iterator's own three variables as they are. Conditions: none but that.
-/
import Derived.Test.YtmfpoakefpephaaDoorTripSeq
import Derived.Test.YtmfpoakefpephaaDoorTripMath
import Derived.Test.YtmfpoakefpephaaDoorStrShelf
import Derived.Shelf.Abstract
import Derived.Shelf.RegionOpen
import Derived.OwnWalkIn
import Derived.TacticsInMore
import Derived.LoopNIn
import Derived.LoopIn
namespace Go.Proofs.YtmfpoakefpephaaDoor
open Go.ChangeShapes Go.WideShapes Go.ChangeAt Go.RowKit Go.Deep Go.Shelf
namespace Tp
attribute [local go_sem] Oper.semAt_some

/-- A text's bytes. -/
def tl (s : ByteArray) : List UInt8 := s.data.toList
def encp (s : ByteArray) : Array Value := #[.string s]
/-- What a round leaves as it is: the three blocks from B on. -/
def Keep (B : Nat) (W W' : World) : Prop := ∀ k, B ≤ k → k < B + 3 → W'.heap[k]? = W.heap[k]?
theorem Keep.refl (B : Nat) (W : World) : Keep B W W := fun _ _ _ => rfl
theorem Keep.trans {B : Nat} {X Y Z : World} (h : Keep B X Y) (k : Keep B Y Z) : Keep B X Z := fun i h1 h2 => (k i h1 h2).trans (h i h1 h2)
theorem Keep.box {B i : Nat} {W W' : World} {t : TypeId} {v : Value} (h : Keep B W W') (hi : i < 3) (b : Boxed W (B + i) t v) : Boxed W' (B + i) t v := (h (B + i) (by omega) (by omega)).trans b
theorem Keep.put {B : Nat} {w : World} (hB : B + 3 ≤ w.heap.size) (X : World) (l : Nat) (o : Obj) (hl : w.heap.size ≤ l) : Keep B X (X.putObj l o) := fun _ _ _ => World.putObj_heap_other (by omega)
theorem Keep.allocs {B : Nat} {w : World} (hB : B + 3 ≤ w.heap.size) (o o' : Obj) : Keep B w ((w.alloc o).alloc o') := fun k _ h2 => by
  have b := ((Below.refl w.heap.size w).alloc (Nat.le_refl _) o).alloc (by simp) o'
  exact b.block k (by omega)

/-- How much is left, in the iterator's own variable. -/
def left (B : Nat) (W : World) : Nat := match W.cell? ⟨B, 0, none⟩ with
  | some (.string s) => s.size
  | _ => 0
theorem left_eq {B : Nat} {W : World} {t : TypeId} {s : ByteArray} (h : Boxed W B t (.string s)) : left B W = s.size := by unfold left; rw [h.cell]

theorem extract_size (r : ByteArray) (m : Nat) : (r.extract m r.size).size = r.size - m := by simp
theorem tl_take (r : ByteArray) (m : Nat) (_ : m ≤ r.size) : tl (r.extract 0 m) = (tl r).take m := by
  unfold tl; simp
theorem tl_drop (r : ByteArray) (m : Nat) : tl (r.extract m r.size) = (tl r).drop m := by
  unfold tl
  have e : r.size = r.data.toList.length := rfl
  simp
  rw [List.take_of_length_le (by rw [List.length_drop, e]; omega)]

end Tp
end Go.Proofs.YtmfpoakefpephaaDoor
