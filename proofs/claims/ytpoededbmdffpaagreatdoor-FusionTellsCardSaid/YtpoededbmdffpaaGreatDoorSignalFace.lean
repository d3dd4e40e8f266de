/-
  What a law of layer 18 asks of package signal: as a bundle of contracts over whatever lies in memory for a signal; the values that go in and out. Nothing of the program is walked here. No conditions.
-/
import Derived.Test.YtpoededbmdffpaaGreatDoorSignalBound
import Derived.Test.YtpoededbmdffpaaGreatDoorVBox
namespace Go.Proofs.YtpoededbmdffpaaGreatDoor
set_option maxRecDepth 100000
open Go.ChangeShapes Go.WideShapes Go.ChangeAt Go.RowKit Go.Deep
namespace Sg
open Cf (G CA)
/-- Four raw values as cells. -/
def raw8 (r : Nat → Rw) : List Value := [.bool (r 0).is, .int .i64 (r 0).n, .bool (r 1).is, .int .i64 (r 1).n, .bool (r 2).is, .int .i64 (r 2).n, .bool (r 3).is, .int .i64 (r 3).n]
def raws (l : List Rw) (i : Nat) : Rw := l.getD i rw0
/-- A mask of four. -/
def mk4 (f : Nat → Bool) : Int := (if f 0 = true then 1 else 0) + (if f 1 = true then 2 else 0) + (if f 2 = true then 4 else 0) + (if f 3 = true then 8 else 0)
section
variable (c : List Int) (s : Si) (r : Nat → Rw) (sh : Int)
def inm : Int := mk4 fun i => decide (i < NN c) && isin c s r sh i
def lam : Int := mk4 fun i => decide (i < NN c) && (s.ch i).st.la
def tri (i : Nat) : Int := if i < NN c then trp c s r sh i else 0
def evi (i : Nat) : Int := if i < NN c then wha c s r sh i else 0
/-- What a cycle tells, as cells. -/
def res : List Value := [.int .i64 (val c s r sh), .int .i64 (inm c s r sh), .int .i64 (lam c (nxt c s r sh)), .int .i64 (sus c s r sh), .bool (!any c s r sh),
  .int .i64 (tri c s r sh 0), .int .i64 (tri c s r sh 1), .int .i64 (tri c s r sh 2), .int .i64 (tri c s r sh 3), .int .i64 (evi c s r sh 0), .int .i64 (evi c s r sh 1), .int .i64 (evi c s r sh 2), .int .i64 (evi c s r sh 3)]
end
def zres : List Value := [.int .i64 0, .int .i64 0, .int .i64 0, .int .i64 0, .bool false, .int .i64 0, .int .i64 0, .int .i64 0, .int .i64 0, .int .i64 0, .int .i64 0, .int .i64 0, .int .i64 0]
def lav (s : Lc.St) : List Value := [.bool s.la, .bool s.ou, .int .i64 s.st, .int .i64 s.cl, .int .i64 s.bk]
def okr (c : List Int) (r : Nat → Rw) (sh : Int) : Prop := Rok c r ∧ 0 ≤ sh ∧ sh ≤ 15
/-- The package, as a law meets it: a signal lies in the blocks S, behind a pointer to block g. -/
structure Face where
  At : World → (Nat → Prop) → Nat → List Int → Si → Prop
  lt : ∀ {W S g c s}, At W S g c s → ∀ j, S j → j < W.heap.size
  keep : ∀ {W W' : World} {S T : Nat → Prop} {g c s}, At W S g c s → But T W W' → (∀ j, S j → ¬ T j) → At W' S g c s
  new_yes : ∀ (c : List Int) (w : World), c.length = 21 → Cf.Right c →
    Calls Tryz.prog 34 #[.agg (CA c)] w fun e w' => (∃ g S, e = .returned (.tuple #[.pointer (some ⟨g, 0, none⟩), .int .i64 0]) ∧ At w' S g c (begin c) ∧ ∀ j, S j → w.heap.size ≤ j) ∧ Below w.heap.size w w'
  new_no : ∀ (c : List Int) (w : World), c.length = 21 → ¬ Cf.Right c →
    Calls Tryz.prog 34 #[.agg (CA c)] w fun e w' => e = .returned (.tuple #[.pointer none, .int .i64 2]) ∧ Below w.heap.size w w'
  step_yes : ∀ {W S g c s} (r : Nat → Rw) (sh : Int), At W S g c s → Cf.Right c → Ok c s → okr c r sh → s.votes.length < 1099511627776 →
    Calls Tryz.prog 79 #[.pointer (some ⟨g, 0, none⟩), .agg (raw8 r).toArray, .int .i64 sh] W fun e w' => e = .returned (.tuple #[.agg (res c s r sh).toArray, .int .i64 0]) ∧ ∃ S', At w' S' g c (nxt c s r sh) ∧ But S W w' ∧ ∀ j, S' j → S j ∨ W.heap.size ≤ j
  step_no : ∀ {W S g c s} (r : Nat → Rw) (sh : Int), At W S g c s → Cf.Right c → Ok c s → ¬ okr c r sh →
    Calls Tryz.prog 79 #[.pointer (some ⟨g, 0, none⟩), .agg (raw8 r).toArray, .int .i64 sh] W fun e w' => e = .returned (.tuple #[.agg zres.toArray, .int .i64 1]) ∧ Below W.heap.size W w'
  latched : ∀ {W S g c s}, At W S g c s → Cf.Right c → Calls Tryz.prog 61 #[.pointer (some ⟨g, 0, none⟩)] W fun e w' => e = .returned (.int .i64 (lam c s)) ∧ Below W.heap.size W w'
  state_yes : ∀ {W S g c s} (k : Nat), At W S g c s → Cf.Right c → k < NN c → Calls Tryz.prog 56 #[.pointer (some ⟨g, 0, none⟩), .int .i64 k] W fun e w' => e = .returned (.tuple #[.agg (lav (s.ch k).st).toArray, .bool true]) ∧ Below W.heap.size W w'
  state_no : ∀ {W S g c s} (k : Int), At W S g c s → Cf.Right c → (k < 0 ∨ (NN c : Int) ≤ k) → Calls Tryz.prog 56 #[.pointer (some ⟨g, 0, none⟩), .int .i64 k] W fun e w' => e = .returned (.tuple #[.agg (lav Lc.zer).toArray, .bool false]) ∧ Below W.heap.size W w'
theorem Face.on (F : Face) {W W' : World} {S : Nat → Prop} {g : Nat} {c : List Int} {s : Si} (h : F.At W S g c s) (b : Below W.heap.size W W') : F.At W' S g c s :=
  F.keep h (But.of_below (S := fun _ => False) b) (fun _ _ q => q)
/-- A signal that the law has made, while the law goes on: all its blocks are new since w. -/
structure Held (F : Face) (w W : World) (S : Nat → Prop) (g : Nat) (c : List Int) (s : Si) : Prop where
  below : Below w.heap.size w W
  at_ : F.At W S g c s
  new : ∀ j, S j → w.heap.size ≤ j
  ok : Ok c s
section
variable {F : Face} {w W W' : World} {S S' : Nat → Prop} {g : Nat} {c : List Int} {s s' : Si}
theorem Held.on (H : Held F w W S g c s) (b : Below W.heap.size W W') : Held F w W' S g c s := ⟨grow H.below b, F.on H.at_ b, H.new, H.ok⟩
theorem Held.alloc (H : Held F w W S g c s) (o : Obj) : Held F w (W.alloc o) S g c s := H.on ((Below.refl _ _).alloc (Nat.le_refl _) o)
theorem Held.put {j : Nat} (H : Held F w W S g c s) (hj : ¬ S j) (hw : w.heap.size ≤ j) (cs : Array Value) : Held F w (W.setRow j cs) S g c s :=
  ⟨Below.put H.below hw cs, F.keep H.at_ ((But.refl (· = j) W).put (Or.inl rfl) cs) (fun _ hk e => hj (e ▸ hk)), H.new, H.ok⟩
theorem Held.step (H : Held F w W S g c s) (a : F.At W' S' g c s') (b : But S W W') (n : ∀ j, S' j → S j ∨ W.heap.size ≤ j) (o : Ok c s') : Held F w W' S' g c s' :=
  ⟨But.below H.below b H.below.size H.new, a, fun j hj => (n j hj).elim (H.new j) (fun q => Nat.le_trans H.below.size q), o⟩
end
end Sg
end Go.Proofs.YtpoededbmdffpaaGreatDoor
