/-
  Slices of bools that a call makes: a row that grows by append, by a list, by zeros ('append(l, make([]bool, n)...)'), or is made; what reads there. No function of the program is walked here. No conditions beyond those said.
-/
import Derived.Test.YtmlhmmfgdioclaaJAgg3
import Derived.Test.YtmlhmmfgdioclaaJAppend4
import Derived.Lib.AppendZeros
namespace Go.Proofs.Ytmlhmmfgdioclaa
set_option maxRecDepth 100000
open Go.ChangeShapes Go.WideShapes Go.ChangeAt Go.RowKit Go.Deep

/-- The cells of a list of bools. -/
def cellsB (l : List Bool) : List Value := l.map Value.bool
theorem cellsB_len (l : List Bool) : (cellsB l).length = l.length := by simp [cellsB]
theorem cellsB_get (l : List Bool) (i : Nat) (h : i < l.length) : (cellsB l)[i]? = some (.bool (l.getD i false)) := by
  simp [cellsB, List.getD_eq_getElem?_getD, h]
theorem cellsB_one (l : List Bool) : ∀ v ∈ cellsB l, v.oneCell' = true := by
  intro v hv
  obtain ⟨b, _, rfl⟩ := List.mem_map.1 hv
  rfl
theorem cellsB_app (l r : List Bool) : cellsB (l ++ r) = cellsB l ++ cellsB r := by simp [cellsB]
theorem zeros_cellsB (n : Nat) : (Builtin.zeroCells (Value.bool false).cells n).toList = cellsB (List.replicate n false) := by
  have : (Value.bool false).cells = #[Value.bool false] := rfl
  rw [this]
  apply List.ext_getElem?
  intro i
  simp [Builtin.zeroCells, cellsB, List.getElem?_replicate]
  by_cases h : i < n
  · simp [h, Nat.mod_one]
  · simp [h]
theorem BoolsAt.source {w : World} {a : Option Addr} {l : List Bool} (h : BoolsAt w a l) (hp : 0 < l.length) :
    ∃ ad, a = some ad ∧ ∀ (j : Nat) (v : Value), (cellsB l)[j]? = some v → w.cell? (ad.add j) = some v := by
  rcases h with rfl | ⟨b, off, rfl, hc⟩
  · simp at hp
  · refine ⟨_, rfl, fun j v hv => ?_⟩
    rw [add_plain]
    by_cases hj : j < l.length
    · rw [cellsB_get l j hj] at hv; cases hv; exact hc j hj
    · rw [List.getElem?_eq_none (by rw [cellsB_len]; omega)] at hv; cases hv

/-- A row of bools that the call itself made, and that may grow. -/
def OwnB (base : Nat) (t : TypeId) (w : World) (v : Value) (l : List Bool) : Prop := w.ownsRow base t 1 v l.length (cellsB l)
section
variable {base : Nat} {t : TypeId} {w w' : World} {v : Value} {l : List Bool}
theorem OwnB.nil : OwnB base t w (.slice none 0 0) [] := World.ownsRow_nil _ _ _ _
theorem OwnB.lit0 {te : TypeId} (hb : base ≤ w.heap.size) : OwnB base te (w.alloc (.cells #[] te)) (.slice (some ⟨w.heap.size, 0, none⟩) 0 0) [] :=
  World.ownsRow_lit w #[] 0 hb (by simp) rfl
theorem OwnB.form (h : OwnB base t w v l) : ∃ a cap, v = .slice a l.length cap ∧ BoolsAt w a l ∧ l.length ≤ cap ∧ cap ≤ maxLen := by
  have hc : ∀ g, v.ownBlock = some g → _ := fun g hg => World.ownsRow.cells h (g := g) hg
  rcases h with ⟨hl, ⟨rfl, h0⟩ | ⟨g, cap, cur, rfl, _, _, h1, h2, _⟩⟩
  · rw [h0]; exact ⟨none, 0, rfl, Or.inl (List.eq_nil_of_length_eq_zero h0), Nat.le_refl _, Nat.zero_le _⟩
  · refine ⟨_, cap, rfl, Or.inr ⟨g, 0, rfl, fun i hi => ?_⟩, h1, h2⟩
    have := hc g rfl i _ (cellsB_get l i hi)
    rw [add_plain] at this; exact this
theorem OwnB.alloc (h : OwnB base t w v l) (o : Obj) : OwnB base t (w.alloc o) v l := World.ownsRow.alloc h o
theorem OwnB.blk (h : OwnB base t w v l) : ∀ j, v.ownBlock = some j → base ≤ j := fun j hj => (World.ownsRow.lt h j hj).1
theorem OwnB.below (h : OwnB base t w v l) (hb : Below w.heap.size w w') : OwnB base t w' v l := by
  rcases h with ⟨hl, h0 | ⟨g, cap, cur, hv, hbg, hh, rest⟩⟩
  · exact ⟨hl, Or.inl h0⟩
  · have hlt : g < w.heap.size := by
      rcases Nat.lt_or_ge g w.heap.size with hlt | hge
      · exact hlt
      · rw [Array.getElem?_eq_none hge] at hh; cases hh
    exact ⟨hl, Or.inr ⟨g, cap, cur, hv, hbg, (hb.block g hlt).trans hh, rest⟩⟩
end

section
variable {P : Program}
/-- append(out, x) of one bool, out the call's own row (nil or not). -/
theorem wpList_append1B {wr : World} {ops : Array Oper} {rest : List Oper} {o : Oper} {a : Act} {Q : Exit → Act → World → Prop} (hgd : o.guard = none) (s x : Operand) (t : TypeId)
    (ho : o.op = .call { callee := .builtin .append, args := #[s, x], argTypes := #[t, t] })
    (base : Nat) (e : TypeId) (bytes : Nat) (ht : P.underlying t = some (.slice e)) (hi : (P.info? e).map (fun i => (i.zero, i.size, i.bytes)) = some (some (.bool false), 1, bytes))
    (v : Value) (l : List Bool) (y : Bool) (te : TypeId) (hs : a.eval s = v) (hx : a.eval x = .slice (some ⟨wr.heap.size, 0, none⟩) 1 1) (hown : OwnB base e wr v l)
    (hl : l.length < 1099511627776) (hby : bytes ≤ 64) (w0 : World) (hb : Below base w0 wr) (hbase : base ≤ w0.heap.size)
    (h : ∀ v' w', OwnB base e w' v' (l ++ [y]) → Below base w0 w' → wpList P ops Q rest (a.put o.dst v') w') :
    wpList P ops Q (o :: rest) a (wr.alloc (.cells #[.bool y] te)) := by
  obtain ⟨i0, hi0, hz0, hz1, hz2⟩ := info_parts hi
  have hsz := hb.size
  refine wpList_append_own _ hgd s x t ho base e i0 _ 1 bytes ht hi0 hz0 hz1 hz2 rfl (by omega) v l.length (cellsB l) hs (hown.alloc _) ⟨wr.heap.size, 0, none⟩ 1 1 [.bool y] hx rfl ?_ ?_ (by unfold maxLen; omega) ?_ (by simp; omega) ?_
  · intro j u hj
    match j, hj with
    | 0, hj => simp at hj; subst hj; simp [Addr.add]
  · intro u hu; simp at hu; subst hu; rfl
  · calc (l.length + 1) * bytes ≤ 1099511627776 * 64 := Nat.mul_le_mul (by omega) hby
      _ ≤ 140737488355328 := by omega
  · intro v' w' h1 h2 _
    refine h v' w' ?_ ?_
    · unfold OwnB; rw [cellsB_app, List.length_append]; exact h1
    · exact (hb.alloc (by omega) _).grown h2 (by simp; omega) (fun j hj => hown.blk j hj)

/-- append of a whole list. -/
theorem run_appendB {w : World} (base : Nat) (t ty e : TypeId) (bytes : Nat) (ht : P.underlying t = some (.slice e)) (hi : (P.info? e).map (fun i => (i.zero, i.size, i.bytes)) = some (some (.bool false), 1, bytes))
    (v : Value) (l : List Bool) (a : Option Addr) (c : Nat) (r : List Bool) (hown : OwnB base e w v l) (hr : BoolsAt w a r)
    (h63 : l.length + r.length ≤ maxLen) (hbytes : (l.length + r.length) * bytes ≤ 140737488355328) (hbase : base ≤ w.heap.size) :
    ∃ v' w', (Builtin.append_ #[t, t] ty #[v, .slice a r.length c]).run P w = .ok v' w' ∧ OwnB base e w' v' (l ++ r) ∧ w.grownBy w' v.ownBlock := by
  obtain ⟨i0, hi0, hz0, hz1, hz2⟩ := info_parts hi
  rcases a with _ | ad
  · have h0 : r = [] := by
      rcases hr with h0 | ⟨_, _, h0, _⟩
      · exact h0
      · cases h0
    subst h0
    refine ⟨v, w, ?_, by rw [List.append_nil]; exact hown, ⟨rfl, rfl, rfl, Nat.le_refl _, fun _ _ _ => rfl⟩⟩
    rcases hown.2 with ⟨rfl, h0⟩ | ⟨g, cap, cur, rfl, _, _, hnc, _⟩
    · simp [Builtin.append_, run_underlying ht, sizeOf, typeInfo, hi0, Builtin.lenOf, Builtin.firstCells]
    · simp [Builtin.append_, run_underlying ht, sizeOf, typeInfo, hi0, Builtin.lenOf, Builtin.firstCells, hnc, storeCells]
  · have hcells : ∀ j u, (cellsB r)[j]? = some u → w.cell? (ad.add j) = some u := by
      intro j u hj
      rcases Nat.eq_zero_or_pos r.length with h0 | h0
      · rw [List.eq_nil_of_length_eq_zero h0] at hj; simp [cellsB] at hj
      · obtain ⟨ad', he, hc⟩ := hr.source h0
        injection he with he; subst he
        exact hc j u hj
    obtain ⟨v', w', h1, h2, h3, _⟩ := run_append_own (P := P) (w := w) base t ty e i0 _ 1 bytes ht hi0 hz0 hz1 hz2 rfl (by omega) v l.length (cellsB l) hown ad r.length c (cellsB r) (by rw [cellsB_len]; omega) hcells (cellsB_one r) h63 hbytes hbase
    refine ⟨v', w', h1, ?_, h3⟩
    unfold OwnB; rw [cellsB_app, List.length_append]; exact h2

/-- append(l, make([]bool, m)...). -/
theorem run_append_zerosB {w : World} (base : Nat) (t tn ty e : TypeId) (k kn : IntKind) (bytes : Nat) (ht : P.underlying t = some (.slice e)) (htn : P.underlying tn = some (.int kn)) (hi : (P.info? e).map (fun i => (i.zero, i.size, i.bytes)) = some (some (.bool false), 1, bytes))
    (v : Value) (l : List Bool) (m : Nat) (hm : 0 < m) (hown : OwnB base e w v l)
    (h63 : l.length + m ≤ maxLen) (hbytes : (l.length + m) * bytes ≤ 140737488355328) (hbase : base ≤ w.heap.size) :
    ∃ v' w', (Builtin.append_ #[t, tn] ty #[v, .int k m]).run P w = .ok v' w' ∧ OwnB base e w' v' (l ++ List.replicate m false) ∧ w.grownBy w' v.ownBlock := by
  obtain ⟨i, hi, hz, hsize, hby⟩ := info_parts hi
  have hsmall : l.length + m ≤ 9223372036854775807 := h63
  have hw : IntKind.i64.wrap (m : Int) = m := by rw [IntKind.wrap_i64]; omega
  have hneg : ¬ ((m : Int) < 0) := by omega
  have hmb : m * bytes ≤ (l.length + m) * bytes := Nat.mul_le_mul_right _ (by omega)
  have h48i : ¬ (281474976710656 < (m : Int) * (bytes : Int)) := by rw [← Int.natCast_mul]; omega
  have hm0 : m ≠ 0 := by omega
  have hlen : (cellsB (l ++ List.replicate m false)).length = (l.length + m) * 1 := by rw [cellsB_len]; simp
  have hnews : (Builtin.zeroCells (Value.bool false).cells m).toList = cellsB (List.replicate m false) := zeros_cellsB m
  have grown : ∀ (old : Nat), old < l.length + m → ∀ (row : Option Nat),
      (w.drew.alloc (.cells ((cellsB l).toArray ++ (cellsB (List.replicate m false)).toArray ++ Builtin.zeroCells (Value.bool false).cells (grownCap w (l.length + m) old e - (l.length + m))) e)).ownsRow base e 1
        (.slice (some ⟨w.heap.size, 0, none⟩) (l.length + m) (grownCap w (l.length + m) old e)) (l.length + m) (cellsB (l ++ List.replicate m false)) ∧
      w.grownBy (w.drew.alloc (.cells ((cellsB l).toArray ++ (cellsB (List.replicate m false)).toArray ++ Builtin.zeroCells (Value.bool false).cells (grownCap w (l.length + m) old e - (l.length + m))) e)) row := by
    intro old ho row
    have hge := grownCap_ge w (l.length + m) old e
    have hcm : grownCap w (l.length + m) old e ≤ maxLen := grownCap_le_maxLen w (l.length + m) old e h63
    refine ⟨⟨hlen, .inr ⟨w.heap.size, _, _, rfl, hbase, heap_alloc_new w.drew _, hge, hcm, ?_, ?_⟩⟩, ⟨rfl, rfl, rfl, by simp, fun j hk _ => by first | exact heap_alloc_old w.drew _ hk | exact Below.heap_alloc w.drew _ j hk⟩⟩
    · have : (Value.bool false).cells.size = 1 := rfl
      simp only [Array.size_append, List.size_toArray, size_zeroCells, cellsB_len, List.length_replicate, this]
      omega
    · simp only [Array.toList_append, List.append_assoc]
      rw [← List.append_assoc, ← cellsB_app, ← hlen]
      exact List.take_left
  have hcz : (Builtin.zeroCells (Value.bool false).cells m) = (cellsB (List.replicate m false)).toArray := by
    apply Array.ext'; rw [hnews]
  unfold OwnB
  rw [show (l ++ List.replicate m false).length = l.length + m by simp]
  rcases hown.2 with ⟨rfl, h0⟩ | ⟨g, cap, cur, rfl, hbg, hg, hnc, hcm, hcs, htake⟩
  · have hx : l = [] := List.eq_nil_of_length_eq_zero h0
    subst hx
    have hgr := grown 0 (by simpa using hm) (Value.ownBlock (.slice none 0 0))
    simp only [List.length_nil, Nat.zero_add, List.nil_append] at hgr hbytes hsmall ⊢
    have hr := Lib.run_append_nil_zeros (P := P) w t tn ty e i (.bool false) k kn ht htn hi hz m hm (by omega) (by omega) (by rw [hby]; omega)
    refine ⟨_, _, hr, ?_, ?_⟩
    · rw [hcz]
      have := hgr.1
      rwa [show (cellsB ([] : List Bool)).toArray = #[] from rfl, Array.empty_append] at this
    · rw [hcz]
      have := hgr.2
      rwa [show (cellsB ([] : List Bool)).toArray = #[] from rfl, Array.empty_append] at this
  · by_cases hroom : l.length + m ≤ cap
    · have hfit : l.length + 0 + (cellsB (List.replicate m false)).length ≤ cur.size := by rw [cellsB_len, List.length_replicate, hcs]; omega
      have hst := run_storeCells_at P g l.length e (cellsB (List.replicate m false)) 0 cur w hg hfit (cellsB_one _)
      simp only [Nat.add_zero] at hst
      have hr : (Builtin.append_ #[t, tn] ty #[.slice (some ⟨g, 0, none⟩) l.length cap, .int k m]).run P w =
          .ok (.slice (some ⟨g, 0, none⟩) (l.length + m) cap) (w.setRow g (cur.toList.take l.length ++ cellsB (List.replicate m false) ++ cur.toList.drop (l.length + (cellsB (List.replicate m false)).length)).toArray) := by
        simp [Builtin.append_, run_underlying ht, run_underlying htn, sizeOf, typeInfo, zeroValue, hi, hz, hsize, hby, asInt, asIntOf, hw, hneg, h48i, hm0, hroom, hcz, Addr.add_lit, hst]
      refine ⟨_, _, hr, ⟨hlen, .inr ⟨g, cap, _, rfl, hbg, setRow_heap w g cur _ e _ hg, hroom, hcm, ?_, ?_⟩⟩, ⟨rfl, rfl, rfl, by simp, fun k _ hk => setRow_other w g k _ (fun e => hk (by simp [Value.ownBlock, e]))⟩⟩
      · simp only [List.size_toArray, List.length_append, List.length_take, List.length_drop, Array.length_toList, cellsB_len, List.length_replicate]
        omega
      · rw [Nat.mul_one] at htake
        rw [htake, ← cellsB_app, ← hlen]
        exact List.take_left
    · have holds : ∀ j u, (cellsB l)[j]? = some u → w.cell? ((⟨g, 0, none⟩ : Addr).add j) = some u := World.ownsRow.cells hown (g := g) rfl
      have hgr := grown cap (by omega) (Value.ownBlock (.slice (some ⟨g, 0, none⟩) l.length cap))
      have hfit : Builtin.nextslicecap (l.length + m) cap * bytes ≤ 281474976710656 := growslice_fits (by omega) hbytes
      have h48' : ¬ (281474976710656 < Builtin.nextslicecap (l.length + m) cap * bytes) := by omega
      have h63' : ¬ (9223372036854775807 < ((l.length : Int) + (m : Int))) := by omega
      have hfo := run_firstCells_some (P := P) w.drew 1 l.length ⟨g, 0, none⟩ l.length cap (cellsB l) (by rw [cellsB_len]; omega) (by simpa using holds)
      have hr : (Builtin.append_ #[t, tn] ty #[.slice (some ⟨g, 0, none⟩) l.length cap, .int k m]).run P w =
          .ok (.slice (some ⟨w.heap.size, 0, none⟩) (l.length + m) (grownCap w (l.length + m) cap e)) (w.drew.alloc (.cells ((cellsB l).toArray ++ (cellsB (List.replicate m false)).toArray ++ Builtin.zeroCells (Value.bool false).cells (grownCap w (l.length + m) cap e - (l.length + m))) e)) := by
        simp [Builtin.append_, run_underlying ht, run_underlying htn, sizeOf, typeInfo, zeroValue, hi, hz, hsize, hby, asInt, asIntOf, hw, hneg, h48i, hm0, hroom, h63', h48', hcz, Question.forced, hfo, newRow, grownCap]
        congr 2
        apply Array.ext'
        simp [List.append_assoc]
      exact ⟨_, _, hr, hgr.1, hgr.2⟩
end
end Go.Proofs.Ytmlhmmfgdioclaa
