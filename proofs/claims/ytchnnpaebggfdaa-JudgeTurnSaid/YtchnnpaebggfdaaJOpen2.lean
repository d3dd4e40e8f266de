/-
  How arguments are opened: slices of numbers and of bools, as lists that lie in memory. No Go text is reached here. No conditions.
  Slices of numbers that a call makes: a row that is known whole, a row that grows by append, what is handed back. No function of the program is walked here. No conditions.
-/
import Derived.KernelRfl
import Derived.WalkKit
import Derived.ProofKit
import Derived.OpenShut
import Derived.Deep.Grids
import Derived.Deep.QuietTactic
import Derived.BigQuiet
import Derived.WalkSmall
import Derived.Test.YtchnnpaebggfdaaChecked
import Derived.OwnWalk
import Derived.Laws.OwnMore
import Derived.Laws.CopyOwn
import Derived.Lib.Hide
import Derived.Lib.QuietBelow
namespace Go.Proofs.Ytchnnpaebggfdaa
set_option maxRecDepth 100000
open Go.ChangeShapes Go.WideShapes Go.ChangeAt Go.RowKit Go.Deep
/-- A list of bools that a slice leads to (nil, or cells in memory). -/
def BoolsAt (w : World) (a : Option Addr) (l : List Bool) : Prop :=
  l = [] ∨ ∃ b off, a = some ⟨b, off, none⟩ ∧ ∀ i, i < l.length → w.cell? ⟨b, off + i, none⟩ = some (.bool (l.getD i false))
/-- A list of ints that a slice leads to (nil, or cells in memory). -/
def IntsAt (k : IntKind) (w : World) (a : Option Addr) (l : List Int) : Prop :=
  l = [] ∨ ∃ b off, a = some ⟨b, off, none⟩ ∧ ∀ i, i < l.length → w.cell? ⟨b, off + i, none⟩ = some (.int k (l.getD i 0))
theorem add_plain (b off i : Nat) : (⟨b, off, none⟩ : Addr).add i = ⟨b, off + i, none⟩ := by
  by_cases h : i = 0
  · subst h; simp [Addr.add]
  · simp [Addr.add, h]
theorem cell_lt {w : World} {b o : Nat} {v : Value} (h : w.cell? ⟨b, o, none⟩ = some v) : b < w.heap.size := by
  by_cases e : b < w.heap.size
  · exact e
  · have : w.heap[b]? = none := by simp; omega
    simp [World.cell?, this] at h
theorem BoolsAt.below {w w' : World} {a : Option Addr} {l : List Bool} (h : BoolsAt w a l) (hb : Below w.heap.size w w') : BoolsAt w' a l := by
  rcases h with rfl | ⟨b, off, rfl, hc⟩
  · exact Or.inl rfl
  · refine Or.inr ⟨b, off, rfl, fun i hi => ?_⟩
    rw [hb.cell (p := ⟨b, off + i, none⟩) (cell_lt (hc i hi))]; exact hc i hi
theorem IntsAt.below {k : IntKind} {w w' : World} {a : Option Addr} {l : List Int} (h : IntsAt k w a l) (hb : Below w.heap.size w w') : IntsAt k w' a l := by
  rcases h with rfl | ⟨b, off, rfl, hc⟩
  · exact Or.inl rfl
  · refine Or.inr ⟨b, off, rfl, fun i hi => ?_⟩
    rw [hb.cell (p := ⟨b, off + i, none⟩) (cell_lt (hc i hi))]; exact hc i hi
/-- Worlds that grow one behind the other. -/
theorem grow {w w1 w2 : World} (h : Below w.heap.size w w1) (k : Below w1.heap.size w1 w2) : Below w.heap.size w w2 :=
  h.trans (k.mono h.size)
section
variable {H : Type} {enc : TypeId × Value → H} {P : Program} {w : World}
end
end Go.Proofs.Ytchnnpaebggfdaa

namespace Go.Proofs.Ytchnnpaebggfdaa
set_option maxRecDepth 100000
open Go.ChangeShapes Go.WideShapes Go.ChangeAt Go.RowKit Go.Deep
/-- A callee that writes nothing that was there, met in a region that draws its order (wp_region_quiet_below). -/
theorem reg_call {P : Program} {f : FuncId} {args : Array Value} {w : World} {v : Value} (h : ∀ W, Below w.heap.size w W → Calls P f args W fun e w' => e = .returned v ∧ Below W.heap.size W w') :
    ∀ d os, Calls P f args (Sort.grow (redrawn w d) os) fun e w'' => e = .returned v ∧ ∃ p : Regrown, w'' = Sort.grow (redrawn w p.d) p.os :=
  fun d os => Calls.regrown_of (h _ (below_regrown w d os))
/-- What a call hands back: a slice that reads as the list l; nothing that was there is written. -/
def RetI (k : IntKind) (w : World) (l : List Int) (e : Ending) (w' : World) : Prop :=
  ∃ a cap, e = .returned (.slice a l.length cap) ∧ IntsAt k w' a l ∧ Below w.heap.size w w'
theorem RetI.congr {k : IntKind} {w : World} {l l' : List Int} {e : Ending} {w' : World} (h : RetI k w l e w') (he : l = l') : RetI k w l' e w' := he ▸ h
/-- The cells of a list of numbers. -/
def cellsI (k : IntKind) (l : List Int) : List Value := l.map (Value.int k)
theorem cellsI_len (k : IntKind) (l : List Int) : (cellsI k l).length = l.length := by simp [cellsI]
theorem cellsI_get (k : IntKind) (l : List Int) (i : Nat) (h : i < l.length) : (cellsI k l)[i]? = some (.int k (l.getD i 0)) := by
  simp [cellsI, List.getD_eq_getElem?_getD, h]
theorem cellsI_one (k : IntKind) (l : List Int) : ∀ v ∈ cellsI k l, v.oneCell' = true := ints_oneCell k l
theorem cellsI_set (k : IntKind) (l : List Int) (i : Nat) (x : Int) : cellsI k (l.set i x) = (cellsI k l).set i (.int k x) := by
  simp [cellsI, List.map_set]
theorem cellsI_app (k : IntKind) (l r : List Int) : cellsI k (l ++ r) = cellsI k l ++ cellsI k r := by simp [cellsI]
/-- A block that is known whole: just the numbers of l. -/
def IRow (k : IntKind) (w : World) (g : Nat) (t : TypeId) (l : List Int) : Prop := w.heap[g]? = some (.cells (cellsI k l).toArray t (0, 0))
section
variable {k : IntKind} {w w' : World} {g : Nat} {t : TypeId} {l : List Int}
theorem IRow.lt (h : IRow k w g t l) : g < w.heap.size := by
  rcases Nat.lt_or_ge g w.heap.size with hlt | hge
  · exact hlt
  · unfold IRow at h; rw [Array.getElem?_eq_none hge] at h; cases h
theorem IRow.cell (h : IRow k w g t l) (i : Nat) (hi : i < l.length) : w.cell? ⟨g, i, none⟩ = some (.int k (l.getD i 0)) := by
  rw [cell_of_row w g i _ t (0, 0) h]; simpa using cellsI_get k l i hi
theorem IRow.frozen (h : IRow k w g t l) (i : Nat) : w.frozen? ⟨g, i, none⟩ = false := by
  unfold IRow at h; simp [World.frozen?, h]
theorem IRow.drew (h : IRow k w g t l) : IRow k w.drew g t l := h
theorem IRow.drewN (h : IRow k w g t l) (n : Nat) : IRow k (w.drewN n) g t l := h
theorem IRow.alloc (h : IRow k w g t l) (o : Obj) : IRow k (w.alloc o) g t l := (Below.heap_alloc w o g h.lt).trans h
theorem IRow.set (h : IRow k w g t l) (i : Nat) (x : Int) : IRow k (w.setCell ⟨g, i, none⟩ (.int k x)) g t (l.set i x) := by
  unfold IRow at h ⊢
  rw [cellsI_set]
  simp [World.setCell, Array.getElem?_modify, h]
theorem IRow.below {B : Nat} (h : IRow k w g t l) (hb : Below B w w') (hg : g < B) : IRow k w' g t l := (hb.block g hg).trans h
theorem IRow.ints (h : IRow k w g t l) : IntsAt k w (some ⟨g, 0, none⟩) l :=
  Or.inr ⟨g, 0, rfl, fun i hi => by rw [Nat.zero_add]; exact h.cell i hi⟩
theorem IRow.of_own {base n : Nat} {xs : List Value} (h : w.ownsRow base t 1 (.slice (some ⟨g, 0, none⟩) n n) n xs) (hx : xs = cellsI k l) : IRow k w g t l := by
  subst hx
  rcases h with ⟨hl, ⟨h0, _⟩ | ⟨g', cap, cur, hv, _, hh, _, _, hs, ht⟩⟩
  · cases h0
  · injection hv with h1 h2 h3
    injection h1 with h1; injection h1 with h1
    subst h1; subst h3
    unfold IRow
    rw [hh]
    have : cur = (cellsI k l).toArray := by
      apply Array.toList_inj.1
      rw [← ht, List.take_of_length_le (by simp [hs])]
    rw [this]
theorem below_drewN {B : Nat} {a w : World} (h : Below B a w) (n : Nat) : Below B a (w.drewN n) := ⟨h.os, h.tape, h.output, h.size, h.block⟩
end
/-- A slice's cells, as the source of a copy or of an append. -/
theorem IntsAt.source {k : IntKind} {w : World} {a : Option Addr} {l : List Int} (h : IntsAt k w a l) (hp : 0 < l.length) :
    ∃ ad, a = some ad ∧ ∀ (j : Nat) (v : Value), (cellsI k l)[j]? = some v → w.cell? (ad.add j) = some v := by
  rcases h with rfl | ⟨b, off, rfl, hc⟩
  · simp at hp
  · refine ⟨_, rfl, fun j v hv => ?_⟩
    rw [add_plain]
    by_cases hj : j < l.length
    · rw [cellsI_get k l j hj] at hv; cases hv; exact hc j hj
    · rw [List.getElem?_eq_none (by rw [cellsI_len]; omega)] at hv; cases hv
theorem IntsAt.drew {k : IntKind} {w : World} {a : Option Addr} {l : List Int} (h : IntsAt k w a l) : IntsAt k w.drew a l := h
theorem IntsAt.drewN {k : IntKind} {w : World} {a : Option Addr} {l : List Int} (h : IntsAt k w a l) (n : Nat) : IntsAt k (w.drewN n) a l := h
theorem IntsAt.take {k : IntKind} {w : World} {a : Option Addr} {l : List Int} (h : IntsAt k w a l) (j : Nat) : IntsAt k w a (l.take j) := by
  rcases h with rfl | ⟨b, off, rfl, hc⟩
  · exact Or.inl (by simp)
  · refine Or.inr ⟨b, off, rfl, fun i hi => ?_⟩
    rw [List.length_take] at hi
    rw [hc i (by omega)]; simp [List.getD_eq_getElem?_getD, List.getElem?_take_of_lt (show i < j by omega)]
theorem intsAt_drop {k : IntKind} {w : World} {b off : Nat} {l : List Int} (j : Nat) (hc : ∀ i, i < l.length → w.cell? ⟨b, off + i, none⟩ = some (.int k (l.getD i 0))) : IntsAt k w (some ⟨b, off + j, none⟩) (l.drop j) := by
  refine Or.inr ⟨b, off + j, rfl, fun i hi => ?_⟩
  rw [List.length_drop] at hi
  rw [Nat.add_assoc, hc (j + i) (by omega)]; simp [List.getD_eq_getElem?_getD]
/-- A row that the call itself made, and that may grow. -/
def OwnI (k : IntKind) (base : Nat) (t : TypeId) (w : World) (v : Value) (l : List Int) : Prop := w.ownsRow base t 1 v l.length (cellsI k l)
section
variable {k : IntKind} {base : Nat} {t : TypeId} {w w' : World} {v : Value} {l : List Int}
theorem OwnI.nil : OwnI k base t w (.slice none 0 0) [] := World.ownsRow_nil _ _ _ _
theorem OwnI.form (h : OwnI k base t w v l) : ∃ a cap, v = .slice a l.length cap ∧ IntsAt k w a l := by
  have hc : ∀ g, v.ownBlock = some g → _ := fun g hg => World.ownsRow.cells h (g := g) hg
  rcases h with ⟨hl, ⟨rfl, h0⟩ | ⟨g, cap, cur, rfl, _⟩⟩
  · rw [h0]; exact ⟨none, 0, rfl, Or.inl (List.eq_nil_of_length_eq_zero h0)⟩
  · refine ⟨_, cap, rfl, Or.inr ⟨g, 0, rfl, fun i hi => ?_⟩⟩
    have := hc g rfl i _ (cellsI_get k l i hi)
    rw [add_plain] at this; exact this
theorem OwnI.drewN (h : OwnI k base t w v l) (n : Nat) : OwnI k base t (w.drewN n) v l := h
theorem OwnI.alloc (h : OwnI k base t w v l) (o : Obj) : OwnI k base t (w.alloc o) v l := World.ownsRow.alloc h o
theorem OwnI.blk (h : OwnI k base t w v l) : ∀ j, v.ownBlock = some j → base ≤ j := fun j hj => (World.ownsRow.lt h j hj).1
end
section
variable {P : Program}
/-- copy(dst, src): dst lies in a row that is known whole, src wherever. -/
theorem wpList_copyI {w : World} {ops : Array Oper} {rest : List Oper} {o : Oper} {a : Act} {Q : Exit → Act → World → Prop} (hgd : o.guard = none) (d s : Operand) (dT : TypeId)
    (ho : o.op = .call { callee := .builtin .copy, args := #[d, s], argTypes := #[dT, dT] }) (elem : TypeId) (hu : P.underlying dT = some (.slice elem)) (hsz : (P.info? elem).map (·.size) = some 1)
    (k : IntKind) (g off : Nat) (cur cs : List Int) (t : TypeId) (dp sp : Option Addr) (dLen dCap sLen sCap : Nat) (hd : a.eval d = .slice dp dLen dCap) (hs : a.eval s = .slice sp sLen sCap)
    (hg : IRow k w g t cur) (hn : cs.length = Nat.min sLen dLen) (hdp : 0 < cs.length → dp = some ⟨g, off, none⟩) (hsp : IntsAt k w sp cs)
    (hfit : off + cs.length ≤ cur.length) (B : Nat) (w0 : World) (hb : Below B w0 w) (hBg : B ≤ g)
    (h : ∀ w', Hid (IRow k w' g t (splice cur off cs)) → Below B w0 w' → wpList P ops Q rest (a.put o.dst (goInt cs.length)) w') :
    wpList P ops Q (o :: rest) a w := by
  refine wpList_copy_splice hgd d s dT dT ho elem hu hsz dp sp dLen dCap sLen sCap hd hs g off (cellsI k cur) t hg (cellsI k cs) (by rw [cellsI_len]; exact hn)
    (fun hp => ?_) (by rw [cellsI_len, cellsI_len]; exact hfit) (cellsI_one _ _) B w0 hb hBg ?_
  · rw [cellsI_len] at hp; exact ⟨hdp hp, hsp.source hp⟩
  · intro w' h1 h2
    rw [cellsI_len]
    refine h w' ?_ h2
    show IRow k w' g t (splice cur off cs)
    have := h1.out
    unfold IRow
    rw [this]
    simp [splice, cellsI]
theorem splice_whole {α : Type} (z c : List α) (h : z.length = c.length) : splice z 0 c = c := by
  unfold splice; rw [List.drop_eq_nil_of_le (by omega)]; simp
end
end Go.Proofs.Ytchnnpaebggfdaa
