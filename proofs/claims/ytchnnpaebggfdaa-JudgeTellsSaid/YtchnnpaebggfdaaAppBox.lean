/-
  'x = append(x, f(..)...)' where x lies in a box, in a region that draws its order: what the call, the append and the store do, phase by phase. No function of the program is walked here. No conditions beyond those said.
-/
import Derived.Test.YtchnnpaebggfdaaJSignalWrites3
import Derived.Test.YtchnnpaebggfdaaJTripSeq4
import Derived.Test.YtchnnpaebggfdaaJAppend3
import Derived.RangeFuncLeaves
import Derived.Maps.AppendAt
import Derived.Shelf.Abstract
namespace Go.Proofs.Ytchnnpaebggfdaa
set_option maxRecDepth 100000
open Go.ChangeShapes Go.WideShapes Go.ChangeAt Go.RowKit Go.Deep Go.Shelf
namespace Ab
theorem owns_grow {base : Nat} {e : TypeId} {n : Nat} {X Y : World} {v : Value} {k : Nat} {xs : List Value} (h : X.ownsRow base e n v k xs) (b : Below X.heap.size X Y) : Y.ownsRow base e n v k xs := by
  rcases h with ⟨hl, ⟨rfl, h0⟩ | ⟨g, cap, cur, rfl, hb, hh, q⟩⟩
  · exact ⟨hl, Or.inl ⟨rfl, h0⟩⟩
  · refine ⟨hl, Or.inr ⟨g, cap, cur, rfl, hb, (b.block g ?_).trans hh, q⟩⟩
    rcases Nat.lt_or_ge g X.heap.size with k | k
    · exact k
    · rw [Array.getElem?_eq_none k] at hh; cases hh
theorem keeps_below {X Y : World} (b : Below X.heap.size X Y) : KeepsOthers X Y :=
  ⟨b.size, fun k _ hk _ => (b.block k (Array.getElem?_eq_some_iff.1 hk).1).trans hk⟩
theorem boxed_on {X Y : World} {g : Nat} {t : TypeId} {v : Value} (h : Boxed X g t v) (b : Below X.heap.size X Y) : Boxed Y g t v := (b.block g h.lt).trans h
section
variable {P : Program} {X Y Z : World} {base bx : Nat} {T te : TypeId} {v : Value} {ls ns : List Int}
/-- The phases: ahead of the call; behind it (its result is the first place); behind the append (the second place); behind the store. -/
def Ph (X : World) (base bx : Nat) (T te : TypeId) (v : Value) (ls ns : List Int) : Nat → List Value → World → Prop
  | 0, _, Y => Below X.heap.size X Y
  | 1, vs, Y => Below X.heap.size X Y ∧ ∃ a cap, vs.getD 0 undef = .slice a ns.length cap ∧ IntsAt .u8 Y a ns
  | 2, vs, Y => (Below base X Y ∧ KeepsOthers X Y) ∧ Boxed Y bx T v ∧ OwnI .u8 base te Y (vs.getD 1 undef) (ls ++ ns)
  | _, _, Y => (Below base X Y ∧ KeepsOthers X Y) ∧ ∃ v', Boxed Y bx T v' ∧ OwnI .u8 base te Y v' (ls ++ ns)
theorem Ph.grow (hX : base ≤ X.heap.size) : ∀ (k : Nat) (vs : List Value) {Y Z : World}, Ph X base bx T te v ls ns k vs Y → Below Y.heap.size Y Z → Ph X base bx T te v ls ns k vs Z
  | 0, _, _, _, h, b => Go.Proofs.Ytchnnpaebggfdaa.grow h b
  | 1, _, _, _, ⟨h, a, cap, e, i⟩, b => ⟨Go.Proofs.Ytchnnpaebggfdaa.grow h b, a, cap, e, i.below b⟩
  | 2, _, _, _, ⟨⟨h1, h2⟩, h3, h4⟩, b => ⟨⟨h1.trans (b.mono (Nat.le_trans hX h1.size)), h2.trans (keeps_below b)⟩, boxed_on h3 b, owns_grow h4 b⟩
  | _ + 3, _, _, _, ⟨⟨h1, h2⟩, v', h3, h4⟩, b => ⟨⟨h1.trans (b.mono (Nat.le_trans hX h1.size)), h2.trans (keeps_below b)⟩, v', boxed_on h3 b, owns_grow h4 b⟩
/-- Up to the append the box is as it was. -/
theorem Ph.box (hb : Boxed X bx T v) : ∀ (k : Nat) (vs : List Value) {Y : World}, k ≤ 2 → Ph X base bx T te v ls ns k vs Y → Boxed Y bx T v
  | 0, _, _, _, h => boxed_on hb h
  | 1, _, _, _, h => boxed_on hb h.1
  | 2, _, _, _, h => h.2.1
  | _ + 3, _, _, h, _ => by omega
theorem Ph.low : ∀ (k : Nat) (vs : List Value) {Y : World}, base ≤ X.heap.size → Ph X base bx T te v ls ns k vs Y → Below base X Y
  | 0, _, _, h, q => q.mono h
  | 1, _, _, h, q => q.1.mono h
  | 2, _, _, _, q => q.1.1
  | _ + 3, _, _, _, q => q.1.1
end
end Ab
end Go.Proofs.Ytchnnpaebggfdaa
