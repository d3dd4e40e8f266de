/-
  'x = append(x, f(..)...)' where x lies in a box, in a region that draws its order: what the call, the append and the store do, phase by phase. No function of the program is walked here. No conditions beyond those said.
-/
import Derived.Test.YtpoededbmdffpaaGreatDoorSignalWrites
import Derived.Test.YtpoededbmdffpaaGreatDoorSignalRange
import Derived.Test.YtpoededbmdffpaaGreatDoorAppend
import Derived.RangeFuncLeaves
import Derived.Maps.AppendAt
import Derived.Shelf.Abstract
namespace Go.Proofs.YtpoededbmdffpaaGreatDoor
set_option maxRecDepth 100000
open Go.ChangeShapes Go.WideShapes Go.ChangeAt Go.RowKit Go.Deep Go.Shelf
namespace Ab
theorem owns_grow {base : Nat} {e : TypeId} {n : Nat} {X Y : World} {v : Value} {k : Nat} {xs : List Value} (h : X.ownsRow base e n v k xs) (b : Below X.heap.size X Y) : Y.ownsRow base e n v k xs := by
  rcases h with ⟨hl, ⟨rfl, h0⟩ | ⟨g, cap, cur, rfl, hb, hh, q⟩⟩
  · exact ⟨hl, Or.inl ⟨rfl, h0⟩⟩
  · refine ⟨hl, Or.inr ⟨g, cap, cur, rfl, hb, (b.block g ?_).trans hh, q⟩⟩
    rcases Nat.lt_or_ge g X.heap.size with k | k
    · exact k
    · rw [Array.getElem?_eq_none k] at hh; cases hh
theorem keeps_below {X Y : World} (b : Below X.heap.size X Y) : KeepsOthers X Y :=
  ⟨b.size, fun k _ hk _ => (b.block k (Array.getElem?_eq_some_iff.1 hk).1).trans hk⟩
theorem boxed_on {X Y : World} {g : Nat} {t : TypeId} {v : Value} (h : Boxed X g t v) (b : Below X.heap.size X Y) : Boxed Y g t v := (b.block g h.lt).trans h
theorem boxed_row {X Y : World} {g : Nat} {t e : TypeId} {u v : Value} {base n k : Nat} {xs : List Value} (h : Boxed X g t u) (ht : t ≠ e) (hr : X.ownsRow base e n v k xs) (hg : X.grownBy Y v.ownBlock) : Boxed Y g t u := h.kept hg (h.not_row ht hr)
section
variable {P : Program} {X Y Z : World} {base bx : Nat} {T te : TypeId} {v : Value} {ls ns : List Int}
/-- The phases: ahead of the call; behind it (its result is the first place); behind the append (the second place); behind the store. -/
def Ph (X : World) (base bx : Nat) (T te : TypeId) (v : Value) (ls ns : List Int) : Nat → List Value → World → Prop
  | 0, _, Y => Below X.heap.size X Y
  | 1, vs, Y => Below X.heap.size X Y ∧ ∃ a cap, vs.getD 0 undef = .slice a ns.length cap ∧ IntsAt .u8 Y a ns
  | 2, vs, Y => (Below base X Y ∧ KeepsOthers X Y) ∧ Boxed Y bx T v ∧ OwnI .u8 base te Y (vs.getD 1 undef) (ls ++ ns)
  | _, _, Y => (Below base X Y ∧ KeepsOthers X Y) ∧ ∃ v', Boxed Y bx T v' ∧ OwnI .u8 base te Y v' (ls ++ ns)
theorem Ph.grow (hX : base ≤ X.heap.size) : ∀ (k : Nat) (vs : List Value) {Y Z : World}, Ph X base bx T te v ls ns k vs Y → Below Y.heap.size Y Z → Ph X base bx T te v ls ns k vs Z
  | 0, _, _, _, h, b => Go.Proofs.YtpoededbmdffpaaGreatDoor.grow h b
  | 1, _, _, _, ⟨h, a, cap, e, i⟩, b => ⟨Go.Proofs.YtpoededbmdffpaaGreatDoor.grow h b, a, cap, e, i.below b⟩
  | 2, _, _, _, ⟨⟨h1, h2⟩, h3, h4⟩, b => ⟨⟨h1.trans (b.mono (Nat.le_trans hX h1.size)), h2.trans (keeps_below b)⟩, boxed_on h3 b, owns_grow h4 b⟩
  | _ + 3, _, _, _, ⟨⟨h1, h2⟩, v', h3, h4⟩, b => ⟨⟨h1.trans (b.mono (Nat.le_trans hX h1.size)), h2.trans (keeps_below b)⟩, v', boxed_on h3 b, owns_grow h4 b⟩
/-- Up to the append the box is as it was. -/
theorem Ph.box (hb : Boxed X bx T v) : ∀ (k : Nat) (vs : List Value) {Y : World}, k ≤ 2 → Ph X base bx T te v ls ns k vs Y → Boxed Y bx T v
  | 0, _, _, _, h => boxed_on hb h
  | 1, _, _, _, h => boxed_on hb h.1
  | 2, _, _, _, h => h.2.1
  | _ + 3, _, _, h, _ => by omega
theorem Ph.low : ∀ (k : Nat) (vs : List Value) {Y : World}, base ≤ X.heap.size → Ph X base bx T te v ls ns k vs Y → Below base X Y
  | 0, _, _, h, q => q.mono h
  | 1, _, _, h, q => q.1.mono h
  | 2, _, _, _, q => q.1.1
  | _ + 3, _, _, _, q => q.1.1
theorem du_call {o : Oper} {a : Act} {f : FuncId} {args : Array Value} {vs : List Value} (h : Ph X base bx T te v ls ns 0 vs Y) (hx : (execOp a.eval o).run P Y = .ok (.enter f args) Y) (hc : Calls P f args Y (RetI .u8 Y ns)) {R : Act → World → Prop}
    (hR : ∀ al cap Z, Ph X base bx T te v ls ns 1 [.slice al ns.length cap, undef] Z → R (a.put o.dst (.slice al ns.length cap)) Z) : o.wp P a Y R (fun _ _ _ => False) := by
  refine Wr.wp_fn hx hc fun e W' q => ?_
  obtain ⟨al, cap, rfl, i, b⟩ := q
  exact ⟨_, rfl, hR al cap W' ⟨Go.Proofs.YtpoededbmdffpaaGreatDoor.grow (show Below X.heap.size X Y from h) b, al, cap, rfl, i⟩⟩
theorem du_append {o : Oper} {a : Act} (s x : Operand) (t : TypeId) (ho : o.op = .call { callee := .builtin .append, args := #[s, x], argTypes := #[t, t] }) (i : TypeInfo) (h1 : P.underlying t = some (.slice te)) (h2 : P.info? te = some i) (h3 : i.zero = some (.int .u8 0)) (h4 : i.size = 1) (h5 : i.bytes = 1)
    (hX : base ≤ X.heap.size) (hT : T ≠ te) (hb : Boxed X bx T v) (hr : OwnI .u8 base te X v ls) (hn : 0 < ns.length) (hl : ls.length + ns.length ≤ 1000000) {x1 x2 : Value} (h : Ph X base bx T te v ls ns 1 [x1, x2] Y) (hs : a.eval s = v) (hx : a.eval x = x1) {R : Act → World → Prop}
    (hR : ∀ v' Z, Ph X base bx T te v ls ns 2 [x1, v'] Z → R (a.put o.dst v') Z) : o.wp P a Y R (fun _ _ _ => False) := by
  obtain ⟨hB, al, cap, e, hi⟩ := h
  have e' : x1 = .slice al ns.length cap := e
  subst e'
  obtain ⟨ad, rfl, hc⟩ := hi.source hn
  have hrY := owns_grow hr hB
  have hYs := hB.size
  refine wp_append_own _ s x t ho base te i (.int .u8 0) 1 1 h1 h2 h3 h4 h5 rfl (by decide) v ls.length (cellsI .u8 ls) hs hrY ad ns.length cap (cellsI .u8 ns) hx (by rw [cellsI_len]; omega) hc (cellsI_one _ _) (by unfold maxLen; omega) (by omega) (by omega) ?_
  intro v' w' q1 q2 _
  have hgb : Below base X w' := ((hB.mono hX).grown q2 (by omega) fun k e => (World.ownsRow.lt hrY k e).1)
  have hcl : ∀ (k : Nat) (o : Obj), v.ownBlock = some k → Y.heap[k]? = some o → o.isCells = true := fun k o e ho => by
    rcases hrY.2 with ⟨rfl, -⟩ | ⟨g, cap, cur, rfl, -, hh, -⟩
    · cases e
    · obtain rfl : g = k := by simpa [Value.ownBlock] using e
      rw [hh] at ho; cases ho; rfl
  refine hR v' w' ⟨⟨hgb, (keeps_below hB).trans (KeepsOthers.of_grownBy q2 hcl)⟩, boxed_row (boxed_on hb hB) hT hrY q2, ?_⟩
  show OwnI .u8 base te w' v' (ls ++ ns)
  unfold OwnI
  rw [cellsI_app, List.length_append]; exact q1
theorem ph_store (hbx : base ≤ bx) (hT : T ≠ te) {x1 x2 : Value} (h : Ph X base bx T te v ls ns 2 [x1, x2] Y) : Ph X base bx T te v ls ns 3 [x1, x2] (Y.setCell ⟨bx, 0, none⟩ x2) := by
  obtain ⟨⟨h1, h2⟩, h3, h4⟩ := h
  have h4' : OwnI .u8 base te Y x2 (ls ++ ns) := h4
  have hne : some bx ≠ x2.ownBlock := h3.not_row hT h4'
  exact ⟨⟨h1.setCell (p := ⟨bx, 0, none⟩) hbx _, h2.trans (KeepsOthers.setCell _ _ _)⟩, x2, h3.set _, World.ownsRow.kept h4' (grownBy_setCell' Y bx _) (.inr (Ne.symm hne))⟩
end
end Ab
end Go.Proofs.YtpoededbmdffpaaGreatDoor
