/-
  What Of of package rudderlaw22 does: its contract by walking the Go text. Conditions: how the scene lies; no more than sixty points.
  What Of of package rudderlaw22 does: its contract by walking the Go text. Conditions: how the scene lies; no more than sixty points.
-/
import Derived.Test.YtchnnpaebggfdaaJTwoRows3
import Derived.Test.YtchnnpaebggfdaaSceneFits
namespace Go.Proofs.Ytchnnpaebggfdaa
set_option maxRecDepth 100000
open Go.ChangeShapes Go.WideShapes Go.ChangeAt Go.RowKit Go.Deep
namespace Sc
open Cf (G CA)
theorem eights {o : List Int} (h : o.length = 32) : ∃ a b c d : List Int, o = a ++ (b ++ (c ++ d)) ∧ a.length = 8 ∧ b.length = 8 ∧ c.length = 8 ∧ d.length = 8 := by
  refine ⟨o.take 8, (o.drop 8).take 8, ((o.drop 8).drop 8).take 8, ((o.drop 8).drop 8).drop 8, ?_, ?_, ?_, ?_, ?_⟩
  · rw [List.take_append_drop, List.take_append_drop, List.take_append_drop]
  all_goals simp [h]
theorem five {l : List Int} (h : l.length = 5) : ∃ a b c d e, l = [a, b, c, d, e] := by
  match l, h with
  | [a, b, c, d, e], _ => exact ⟨a, b, c, d, e, rfl⟩
theorem four {l : List Int} (h : l.length = 4) : ∃ a b c d, l = [a, b, c, d] := by
  match l, h with
  | [a, b, c, d], _ => exact ⟨a, b, c, d, rfl⟩
theorem twentyone {o : List Int} (h : o.length = 21) : ∃ a b c : List Int, o = a ++ (b ++ c) ∧ a.length = 8 ∧ b.length = 8 ∧ c.length = 5 := by
  refine ⟨o.take 8, (o.drop 8).take 8, (o.drop 8).drop 8, ?_, ?_, ?_, ?_⟩
  · rw [List.take_append_drop, List.take_append_drop]
  all_goals simp [h]
theorem ptInfo : (Try.prog.info? 69).map (fun i => (i.zero, i.size, i.bytes)) = some (some (.agg #[.int .i64 0, .int .i64 0, .int .i64 0, .int .i64 0, .int .i64 0, .int .i64 0, .int .i64 0, .int .i64 0, .int .i64 0, .int .i64 0, .int .i64 0, .int .i64 0, .int .i64 0, .int .i64 0, .int .i64 0, .int .i64 0, .int .i64 0, .int .i64 0, .int .i64 0, .int .i64 0, .int .i64 0, .int .i64 0, .int .i64 0, .int .i64 0, .int .i64 0, .int .i64 0, .int .i64 0, .int .i64 0, .int .i64 0, .int .i64 0, .int .i64 0, .int .i64 0, .int .i64 0, .int .i64 0, .int .i64 0, .int .i64 0, .int .i64 0, .int .i64 0, .int .i64 0, .int .i64 0, .bool false, .slice none 0 0]), 42, 352) := by kernel_rfl
theorem built_pt {p : Pt} (h8 : p.t.length = 8) (h32 : p.o.length = 32) :
    Try.prog.built 69 [(0, .agg (cellsI .i64 p.t).toArray), (1, .agg (cellsI .i64 p.o).toArray), (2, .agg #[.bool p.is, .slice p.a p.l.length p.cap])] = some (ptv p).toArray := by
  unfold ptv
  obtain ⟨a, b, c, d, ho, ha, hb, hc, hd⟩ := eights h32
  rw [ho]
  generalize p.t = t at *
  clear ho h32
  obtain ⟨t0, t1, t2, t3, t4, t5, t6, t7, rfl⟩ := Fm.eight t h8
  obtain ⟨a0, a1, a2, a3, a4, a5, a6, a7, rfl⟩ := Fm.eight a ha
  obtain ⟨b0, b1, b2, b3, b4, b5, b6, b7, rfl⟩ := Fm.eight b hb
  obtain ⟨c0, c1, c2, c3, c4, c5, c6, c7, rfl⟩ := Fm.eight c hc
  obtain ⟨d0, d1, d2, d3, d4, d5, d6, d7, rfl⟩ := Fm.eight d hd
  kernel_rfl
theorem lit_pt {p : Pt} (h8 : p.t.length = 8) (h32 : p.o.length = 32) :
    Try.prog.builtSlice 69 1 [(0, .agg (ptv p).toArray)] = some (ptv p).toArray := by
  unfold ptv
  obtain ⟨a, b, c, d, ho, ha, hb, hc, hd⟩ := eights h32
  rw [ho]
  generalize p.t = t at *
  clear ho h32
  obtain ⟨t0, t1, t2, t3, t4, t5, t6, t7, rfl⟩ := Fm.eight t h8
  obtain ⟨a0, a1, a2, a3, a4, a5, a6, a7, rfl⟩ := Fm.eight a ha
  obtain ⟨b0, b1, b2, b3, b4, b5, b6, b7, rfl⟩ := Fm.eight b hb
  obtain ⟨c0, c1, c2, c3, c4, c5, c6, c7, rfl⟩ := Fm.eight c hc
  obtain ⟨d0, d1, d2, d3, d4, d5, d6, d7, rfl⟩ := Fm.eight d hd
  kernel_rfl
/-- A scene's cells with whatever in the place of its points. -/
def scn (s : Sn) (v : Value) : List Value := cellsI .i64 (s.c ++ ([s.e, s.r, s.odd] ++ s.q)) ++ [v]
theorem scn_last {s : Sn} {v : Value} (L : Lens s) : (scn s v)[28]? = some v := by
  unfold scn
  rw [List.getElem?_append_right (by simp [cellsI, L.c, L.q])]; simp [cellsI, L.c, L.q]
theorem scn_set {s : Sn} {v v' : Value} (L : Lens s) : (scn s v).set 28 v' = scn s v' := by
  unfold scn
  rw [List.set_append_right _ _ (by simp [cellsI, L.c, L.q])]; simp [cellsI, L.c, L.q]
theorem built_sc {s : Sn} (L : Lens s) :
    Try.prog.built 68 [(0, .agg (CA s.c)), (1, .int .i64 s.e), (2, .int .i64 s.r), (3, .int .i64 s.odd), (4, .agg (cellsI .i64 s.q).toArray)] = some (scn s (.slice none 0 0)).toArray := by
  have hc := L.c
  have hq := L.q
  unfold scn
  clear L
  generalize s.c = c at *
  generalize s.q = q at *
  generalize s.e = e
  generalize s.r = r
  generalize s.odd = od
  obtain ⟨a, b, d, rfl, ha, hb, hd⟩ := twentyone hc
  clear hc
  obtain ⟨a0, a1, a2, a3, a4, a5, a6, a7, rfl⟩ := Fm.eight a ha
  obtain ⟨b0, b1, b2, b3, b4, b5, b6, b7, rfl⟩ := Fm.eight b hb
  obtain ⟨d0, d1, d2, d3, d4, rfl⟩ := five hd
  obtain ⟨q0, q1, q2, q3, rfl⟩ := four hq
  show _ = _
  kernel_rfl
def flatP (l : List Pt) : List Value := l.flatMap ptv
theorem flatP_app (l : List Pt) (p : Pt) : flatP (l ++ [p]) = flatP l ++ ptv p := by simp [flatP]
theorem flatP_get : ∀ (l : List Pt), (∀ p ∈ l, (ptv p).length = 42) → ∀ i j p, l[i]? = some p → j < 42 → (flatP l)[i * 42 + j]? = (ptv p)[j]?
  | [], _, i, j, p, h, _ => by simp at h
  | x :: l, hl, 0, j, p, h, hj => by
    obtain rfl : x = p := by simpa using h
    show (ptv x ++ flatP l)[0 * 42 + j]? = _
    rw [List.getElem?_append_left (by rw [hl x List.mem_cons_self]; omega), Nat.zero_mul, Nat.zero_add]
  | x :: l, hl, i + 1, j, p, h, hj => by
    show (ptv x ++ flatP l)[(i + 1) * 42 + j]? = _
    have hx := hl x List.mem_cons_self
    rw [List.getElem?_append_right (by omega), hx, show (i + 1) * 42 + j - 42 = i * 42 + j by omega]
    exact flatP_get l (fun p hp => hl p (List.mem_cons_of_mem _ hp)) i j p (by simpa using h) hj
theorem butRow {S : Nat → Prop} {w w' : World} {g : Nat} {t : TypeId} {cs : List Value} (h : But S w w') (hr : VRow w g t cs) (hn : ¬ S g) : VRow w' g t cs := (h.block g hr.lt hn).trans hr
/-- While Of goes on: the first i points have come. -/
structure Om (w W : World) (g mg base : Nat) (s : Sn) (a : Option Addr) (cap i : Nat) (v : Value) : Prop where
  at_ : At W g s a cap
  below : Below w.heap.size w W
  row : VRow W mg 68 (scn s v)
  own : W.ownsRow base 69 42 v i (flatP (s.ps.take i))
  lt : g < base ∧ mg < base ∧ w.heap.size ≤ mg ∧ g ≠ mg ∧ w.heap.size ≤ base ∧ base ≤ W.heap.size
section
variable {w W W' : World} {g mg base : Nat} {s : Sn} {a : Option Addr} {cap i : Nat} {v : Value}
theorem Om.on (h : Om w W g mg base s a cap i v) (b : Below W.heap.size W W') : Om w W' g mg base s a cap i v :=
  ⟨h.at_.on b, grow h.below b, h.row.below b h.row.lt, ownsR_on h.own b, by have := h.lt; have := b.size; omega⟩
theorem Om.put (h : Om w W g mg base s a cap i v) (hp : PsAt w a s.ps) (hi : i < s.ps.length) (b : But (fun k => v.ownBlock = some k) W W') {v' : Value}
    (o : W'.ownsRow base 69 42 v' (i + 1) (flatP (s.ps.take i) ++ ptv (pt s i))) : Om w (W'.setCell ⟨mg, 28, none⟩ v') g mg base s a cap (i + 1) v' := by
  obtain ⟨l1, l2, l3, l4, l5, l6⟩ := h.lt
  have hn : ∀ k, k < base → ¬ v.ownBlock = some k := fun k hk e => by have := (World.ownsRow.lt h.own k e).1; omega
  have r := butRow b h.row (hn mg l2)
  have r2 := butRow b h.at_.row (hn g l1)
  have bb : Below w.heap.size w (W'.setCell ⟨mg, 28, none⟩ v') := (But.below h.below b h.below.size (fun k e => by have := (World.ownsRow.lt h.own k e).1; omega)).setCell (p := ⟨mg, 28, none⟩) l3 _
  have et : s.ps.take (i + 1) = s.ps.take i ++ [pt s i] := by
    rw [List.take_add_one, List.getElem?_eq_getElem hi]; unfold pt; rw [List.getD_eq_getElem?_getD, List.getElem?_eq_getElem hi]; rfl
  refine ⟨⟨r2.setOther (p := ⟨mg, 28, none⟩) l4 _, hp.below bb, h.at_.len⟩, bb, ?_, ?_, l1, l2, l3, l4, l5, ?_⟩
  · have := r.set 28 v'
    rwa [scn_set h.at_.len] at this
  · rw [et, flatP_app]
    refine World.ownsRow.kept o (row := some mg) ⟨rfl, rfl, rfl, by simp [World.setCell], fun k hk hne => ?_⟩ ?_
    · exact Below.heap_setCell W' ⟨mg, 28, none⟩ v' k (fun e => hne (congrArg some e))
    · cases ho : v'.ownBlock with
      | none => exact .inl rfl
      | some k => exact .inr (fun e => by cases e; have := (World.ownsRow.lt o _ ho).1; omega)
  · have := b.size
    simp [World.setCell]; omega
theorem Om.done (h : Om w W g mg base s a cap s.ps.length v) (hp : PsAt w a s.ps) : ∃ a' cap', v = .slice a' s.ps.length cap' ∧ RAt W mg s a' cap' := by
  have own := h.own
  have row := h.row
  rw [List.take_length] at own
  have hc : ∀ g', v.ownBlock = some g' → _ := fun g' hg => World.ownsRow.cells own (g := g') hg
  rcases own with ⟨hl, ⟨rfl, h0⟩ | ⟨g', cap', cur, rfl, hb, hh, hcap, _⟩⟩
  · refine ⟨none, 0, by rw [h0], ?_, Or.inl (List.eq_nil_of_length_eq_zero h0), h.at_.len⟩
    rw [show scv s none 0 = scn s (.slice none 0 0) by unfold scv scn; rw [h0]]; exact row
  · refine ⟨_, cap', rfl, row, Or.inr ⟨g', 0, rfl, fun i p hi => ?_⟩, h.at_.len⟩
    have hp' := hp.below h.below
    have hi' : i < s.ps.length := (List.getElem?_eq_some_iff.1 hi).1
    rcases hp' with e | ⟨b, off, rfl, hs⟩
    · rw [e] at hi; simp at hi
    have P := hs i p hi
    refine ⟨fun j x hj => ?_, P.t8, P.o32, P.cap, P.wf, P.bytes, P.size, P.nil⟩
    have hj' : j < 42 := by have := (List.getElem?_eq_some_iff.1 hj).1; rw [ptv_len P.t8 P.o32] at this; exact this
    have := hc g' rfl (i * 42 + j) x (by
      rw [flatP_get s.ps (fun q hq => by obtain ⟨k, hk⟩ := List.mem_iff_getElem?.1 hq; exact ptv_len (hs k q hk).t8 (hs k q hk).o32) i j p hi hj']; exact hj)
    rw [add_plain] at this
    rw [Nat.zero_add]; rw [Nat.zero_add] at this; exact this
end
end Sc
end Go.Proofs.Ytchnnpaebggfdaa

namespace Go.Proofs.Ytchnnpaebggfdaa
set_option maxRecDepth 100000
open Go.ChangeShapes Go.WideShapes Go.ChangeAt Go.RowKit Go.Deep
namespace Sc
open Cf (G CA)
theorem wpList_buildAs {P : Program} {ops : Array Oper} {rest : List Oper} {o : Oper} {a : Act} {w : World} {Q : Exit → Act → World → Prop} (hg : o.guard = none) (t : TypeId) (parts : Array (Nat × Operand)) (ho : o.op = .build t parts)
    (cells : Array Value) (ps : List (Nat × Value)) (hl : (parts.map fun (i, x) => (i, a.eval x)).toList = ps) (hf : P.built t ps = some cells) (h : wpList P ops Q rest (a.put o.dst (.agg cells)) w) : wpList P ops Q (o :: rest) a w := by
  subst hl
  exact wpList_buildTo hg t parts ho cells hf h
theorem size4 {l : List Int} (h : l.length = 4) : (Try.prog.info? 22).map (·.size) = some (cellsI .i64 l).length := by rw [cellsI, List.length_map, h]; kernel_rfl
theorem size32 {l : List Int} (h : l.length = 32) : (Try.prog.info? 58).map (·.size) = some (cellsI .i64 l).length := by rw [cellsI, List.length_map, h]; kernel_rfl
theorem At.rq {w : World} {g : Nat} {s : Sn} {a : Option Addr} {cap : Nat} (h : At w g s a cap) : w.rangeAt g 24 (cellsI .i64 s.q) := fun j v hv => by
  have hj : j < s.q.length := by have := (List.getElem?_eq_some_iff.1 hv).1; simpa [cellsI] using this
  rw [cellsI_get .i64 s.q j hj] at hv
  cases hv
  exact h.q j (by rw [← h.len.q]; exact hj)
theorem rowT {W : World} {g : Nat} {t : TypeId} {p : Pt} (h : VRow W g t (ptv p)) (h8 : p.t.length = 8) (h32 : p.o.length = 32) : W.rangeAt g 0 (cellsI .i64 p.t) := fun j v hv => by
  have hj : j < p.t.length := by have := (List.getElem?_eq_some_iff.1 hv).1; simpa [cellsI] using this
  rw [cellsI_get .i64 _ j hj] at hv; cases hv
  rw [Nat.zero_add]
  exact h.cell j (ptv_t h8 h32 j (by omega))
theorem rowO {W : World} {g : Nat} {t : TypeId} {p : Pt} (h : VRow W g t (ptv p)) (h8 : p.t.length = 8) (h32 : p.o.length = 32) : W.rangeAt g 8 (cellsI .i64 p.o) := fun j v hv => by
  have hj : j < p.o.length := by have := (List.getElem?_eq_some_iff.1 hv).1; simpa [cellsI] using this
  rw [cellsI_get .i64 _ j hj] at hv; cases hv
  exact h.cell (8 + j) (ptv_o h8 h32 j (by omega))
theorem rowS {W : World} {g : Nat} {t : TypeId} {p : Pt} (h : VRow W g t (ptv p)) (h8 : p.t.length = 8) (h32 : p.o.length = 32) : W.rangeAt g 40 [.bool p.is, .slice p.a p.l.length p.cap] := fun j v hv => by
  rcases j with _ | _ | j
  · cases hv; exact h.cell 40 (ptv_is h8 h32)
  · cases hv; exact h.cell 41 (ptv_l h8 h32)
  · simp at hv
section
variable (s : Sn) (a : Option Addr) (cap : Nat) (w : World) (L : Lens s) (hp : PsAt w a s.ps)
include L hp
set_option maxRecDepth 100000 in
set_option maxHeartbeats 6400000 in
theorem of_any (h60 : s.ps.length ≤ 60) :
    Calls Try.prog 8 #[.agg (scv s a cap).toArray] w fun e w' => ∃ mg a' cap', e = .returned (.pointer (some ⟨mg, 0, none⟩)) ∧ RAt w' mg s a' cap' ∧ Below w.heap.size w w' := by
  have X0 := Lib.hid (Bd.new (cap := cap) L hp)
  have HP := Lib.hid hp
  have HL := Lib.hid L
  have S4 := Lib.hid (size4 L.q)
  have BS := Lib.hid (built_sc L)
  clear L hp
  obtain ⟨m, hm⟩ : ∃ m, m = s.ps.length := ⟨_, rfl⟩
  have HM := Lib.hid hm
  rw [← hm] at h60
  clear hm
  go_enter Try.func8, Try.ntmps8
  go_upto_region 1 with fail
  generalize w.alloc (.cells (scv s a cap).toArray 27) = w0 at *
  generalize hg : w.heap.size = g at *
  have q1 := X0.out.at_.e
  have q2 := X0.out.at_.r
  have q3 := X0.out.at_.odd
  go_upto_region 2 with (first
    | ((with_reducible show wpList _ _ _ (⟨some 7, _, _, _, _, _⟩ :: _) _ _); refine loadK rfl _ rfl g rfl X0.out.at_ ?_)
    | ((with_reducible show wpList _ _ _ (⟨some 15, _, _, _, _, _⟩ :: _) _ _); refine wpList_load_mid rfl _ _ rfl g 24 rfl (cellsI .i64 s.q) _ X0.out.at_.rq Try.underlying22 rfl S4.out ?_)
    | ((with_reducible show wpList _ _ _ (⟨some 16, _, _, _, _, _⟩ :: _) _ _); refine wpList_buildAs rfl _ _ rfl (scn s (.slice none 0 0)).toArray [(0, .agg (CA s.c)), (1, .int .i64 s.e), (2, .int .i64 s.r), (3, .int .i64 s.odd), (4, .agg (cellsI .i64 s.q).toArray)] (by kernel_rfl) BS.out ?_))
  clear q1 q2 q3
  have O := Lib.hid (show Om w (w0.alloc (.cells (scn s (.slice none 0 0)).toArray 68)) g w0.heap.size (w0.heap.size + 1) s a cap 0 (.slice none 0 0) from by
    have b := below_new w0 (scn s (.slice none 0 0)).toArray 68
    have hlt := X0.out.at_.row.lt
    have hsz := X0.out.below.size
    exact ⟨X0.out.at_.on b, grow X0.out.below b, VRow.new _ _ _, World.ownsRow_nil _ _ _ _, by omega, by omega, by omega, by omega, by omega, by simp⟩)
  clear X0
  generalize w0.alloc (.cells (scn s (.slice none 0 0)).toArray 68) = w1 at *
  generalize w0.heap.size + 1 = base at *
  generalize w0.heap.size = mg at *
  go_wp2_with fail
  go_loopg [4, 5] m (fun gg s4 _ wr => ∃ (i : Nat) (v : Value), i + gg = m ∧ s4 = .int .i64 i ∧ Hid (Om w wr g mg base s a cap i v))
  case atStart => exact ⟨0, _, by omega, rfl, O⟩
  case round =>
    clear O
    rename World => W
    obtain ⟨i, v, hi, rfl, O⟩ := hrel
    have HI := Lib.hid hi
    clear hi
    have q5 := O.out.at_.p
    rw [← HM.out] at q5
    by_cases hlt : i < m
    · have hli : (i : Int) < m := by omega
      have HLT := Lib.hid (show i < s.ps.length by have := HM.out; omega)
      clear hlt
      obtain ⟨b, off, hab, P⟩ := O.out.at_.ps.at_ HLT.out
      rw [hab] at q5
      have RP := Lib.hid (show W.rangeAt b (off + i * 42) (ptv (pt s i)) from P.cell)
      have h8 := Lib.hid P.t8
      have h32 := Lib.hid P.o32
      have SP := Lib.hid (sizeP P.t8 P.o32)
      have LP := Lib.hid (show ([.int .i64 0, .int .i64 0, .int .i64 0, .int .i64 0, .int .i64 0, .int .i64 0, .int .i64 0, .int .i64 0, .int .i64 0, .int .i64 0, .int .i64 0, .int .i64 0, .int .i64 0, .int .i64 0, .int .i64 0, .int .i64 0, .int .i64 0, .int .i64 0, .int .i64 0, .int .i64 0, .int .i64 0, .int .i64 0, .int .i64 0, .int .i64 0, .int .i64 0, .int .i64 0, .int .i64 0, .int .i64 0, .int .i64 0, .int .i64 0, .int .i64 0, .int .i64 0, .int .i64 0, .int .i64 0, .int .i64 0, .int .i64 0, .int .i64 0, .int .i64 0, .int .i64 0, .int .i64 0, .bool false, .slice none 0 0] : List Value).length = (ptv (pt s i)).length by rw [ptv_len P.t8 P.o32]; rfl)
      clear P hab
      have V1 := Lib.hid ((VRow.new W [.int .i64 0, .int .i64 0, .int .i64 0, .int .i64 0, .int .i64 0, .int .i64 0, .int .i64 0, .int .i64 0, .int .i64 0, .int .i64 0, .int .i64 0, .int .i64 0, .int .i64 0, .int .i64 0, .int .i64 0, .int .i64 0, .int .i64 0, .int .i64 0, .int .i64 0, .int .i64 0, .int .i64 0, .int .i64 0, .int .i64 0, .int .i64 0, .int .i64 0, .int .i64 0, .int .i64 0, .int .i64 0, .int .i64 0, .int .i64 0, .int .i64 0, .int .i64 0, .int .i64 0, .int .i64 0, .int .i64 0, .int .i64 0, .int .i64 0, .int .i64 0, .int .i64 0, .int .i64 0, .bool false, .slice none 0 0] 63).put (ptv (pt s i)))
      have B1 : Below W.heap.size W ((W.alloc (.cells #[.int .i64 0, .int .i64 0, .int .i64 0, .int .i64 0, .int .i64 0, .int .i64 0, .int .i64 0, .int .i64 0, .int .i64 0, .int .i64 0, .int .i64 0, .int .i64 0, .int .i64 0, .int .i64 0, .int .i64 0, .int .i64 0, .int .i64 0, .int .i64 0, .int .i64 0, .int .i64 0, .int .i64 0, .int .i64 0, .int .i64 0, .int .i64 0, .int .i64 0, .int .i64 0, .int .i64 0, .int .i64 0, .int .i64 0, .int .i64 0, .int .i64 0, .int .i64 0, .int .i64 0, .int .i64 0, .int .i64 0, .int .i64 0, .int .i64 0, .int .i64 0, .int .i64 0, .int .i64 0, .bool false, .slice none 0 0] 63)).setRow W.heap.size (ptv (pt s i)).toArray) := Below.put ((Below.refl _ W).alloc (Nat.le_refl _) _) (Nat.le_refl _) _
      have O1 := Lib.hid (O.out.on B1)
      have HN := Lib.hid (show (∀ k, v.ownBlock = some k → base ≤ k ∧ k < W.heap.size) from fun k e => World.ownsRow.lt O.out.own k e)
      go_upto_region 6 with (first
        | ((with_reducible show wpList _ _ _ (⟨some 29, _, _, _, _, _⟩ :: _) _ _); refine wpList_load_mid rfl _ _ rfl b (off + i * 42) rfl (ptv (pt s i)) _ RP.out Try.underlying63 rfl SP.out ?_)
        | ((with_reducible show wpList _ _ _ (⟨none, .store _ (.tmp 5) _, _, _, _, _⟩ :: _) _ _); refine VB.store rfl _ _ rfl W.heap.size (ptv (pt s i)) rfl rfl (VRow.new W [.int .i64 0, .int .i64 0, .int .i64 0, .int .i64 0, .int .i64 0, .int .i64 0, .int .i64 0, .int .i64 0, .int .i64 0, .int .i64 0, .int .i64 0, .int .i64 0, .int .i64 0, .int .i64 0, .int .i64 0, .int .i64 0, .int .i64 0, .int .i64 0, .int .i64 0, .int .i64 0, .int .i64 0, .int .i64 0, .int .i64 0, .int .i64 0, .int .i64 0, .int .i64 0, .int .i64 0, .int .i64 0, .int .i64 0, .int .i64 0, .int .i64 0, .int .i64 0, .int .i64 0, .int .i64 0, .int .i64 0, .int .i64 0, .int .i64 0, .int .i64 0, .int .i64 0, .int .i64 0, .bool false, .slice none 0 0] 63) SP.out LP.out ptv_all ?_))
      clear RP LP O q5 B1 SP
      generalize (W.alloc (.cells #[.int .i64 0, .int .i64 0, .int .i64 0, .int .i64 0, .int .i64 0, .int .i64 0, .int .i64 0, .int .i64 0, .int .i64 0, .int .i64 0, .int .i64 0, .int .i64 0, .int .i64 0, .int .i64 0, .int .i64 0, .int .i64 0, .int .i64 0, .int .i64 0, .int .i64 0, .int .i64 0, .int .i64 0, .int .i64 0, .int .i64 0, .int .i64 0, .int .i64 0, .int .i64 0, .int .i64 0, .int .i64 0, .int .i64 0, .int .i64 0, .int .i64 0, .int .i64 0, .int .i64 0, .int .i64 0, .int .i64 0, .int .i64 0, .int .i64 0, .int .i64 0, .int .i64 0, .int .i64 0, .bool false, .slice none 0 0] 63)).setRow W.heap.size (ptv (pt s i)).toArray = X at *
      generalize W.heap.size = pg at *
      have LT := Lib.hid O1.out.lt
      refine wp_appR (aF := ?_) 16 12 13 42 43 47 [true, true, true, true, true, true, true, true, true, true, true, true, false, false, true, true] base 69 66 42 352 _ v i (flatP (s.ps.take i)) (ptv (pt s i)) _ _ (.tmp 34) (.tmp 42) (by kernel_rfl) (by kernel_rfl) (by kernel_rfl) (by kernel_rfl) (by kernel_rfl) rfl rfl rfl (by kernel_rfl) rfl rfl O1.out.own LT.out.2.2.2.2.2 Try.underlying66 ptInfo rfl (by omega) (ptv_len h8.out h32.out) (fun u hu => by have := ptv_all (p := pt s i); rw [Array.all_eq_true_iff_forall_mem] at this; exact this u (by simpa using hu)) (by unfold maxLen; omega) (by omega) rfl ?hq ?h1 ?h2 ?g1 ?g2 ?hend
      case hq =>
        intro Y hY
        have VM := butRow hY O1.out.row (fun e => by have := HN.out mg e; have := LT.out; omega)
        have VP := butRow hY V1.out (fun e => by have := HN.out pg e; omega)
        have HT := Lib.hid (show ∀ W', (∃ z : Regrown, W' = Sort.grow (redrawn Y z.d) z.os) → W'.rangeAt pg 0 (cellsI .i64 (pt s i).t) by
          rintro W' ⟨z, rfl⟩
          exact rowT (VP.below (below_regrown Y z.d z.os) VP.lt) h8.out h32.out)
        have HO := Lib.hid (show ∀ W', (∃ z : Regrown, W' = Sort.grow (redrawn Y z.d) z.os) → W'.rangeAt pg 8 (cellsI .i64 (pt s i).o) by
          rintro W' ⟨z, rfl⟩
          exact rowO (VP.below (below_regrown Y z.d z.os) VP.lt) h8.out h32.out)
        have HS := Lib.hid (show ∀ W', (∃ z : Regrown, W' = Sort.grow (redrawn Y z.d) z.os) → W'.rangeAt pg 40 [.bool (pt s i).is, .slice (pt s i).a (pt s i).l.length (pt s i).cap] by
          rintro W' ⟨z, rfl⟩
          exact rowS (VP.below (below_regrown Y z.d z.os) VP.lt) h8.out h32.out)
        have BP := Lib.hid (built_pt h8.out h32.out)
        have Z8 := Lib.hid (size8 h8.out)
        have Z32 := Lib.hid (size32 h32.out)
        have k28 := cell_regrown (VM.cell 28 (scn_last HL.out))
        clear VM VP hY
        simp only [Lt.sel, Lt.putAll, List.take_succ_cons, List.take_zero, List.zip_cons_cons, List.zip_nil_right, List.foldl_cons, List.foldl_nil, Act.put, List.setIfInBounds_toArray, List.set_cons_succ, List.set_cons_zero]
        repeat (first
          | (with_reducible show wpQuiet _ _ _ _ (⟨some 36, _, _, _, _, _⟩ :: _) _
             refine wpQuiet_loadR rfl _ rfl pg 0 (cellsI .i64 (pt s i).t) rfl HT.out _ Try.underlying52 rfl Z8.out ?_
             simp only [Act.put, List.setIfInBounds_toArray, List.set_cons_succ, List.set_cons_zero])
          | (with_reducible show wpQuiet _ _ _ _ (⟨some 38, _, _, _, _, _⟩ :: _) _
             refine wpQuiet_loadR rfl _ rfl pg 8 (cellsI .i64 (pt s i).o) rfl HO.out _ Try.underlying58 rfl Z32.out ?_
             simp only [Act.put, List.setIfInBounds_toArray, List.set_cons_succ, List.set_cons_zero])
          | (with_reducible show wpQuiet _ _ _ _ (⟨some 40, _, _, _, _, _⟩ :: _) _
             refine wpQuiet_loadR rfl _ rfl pg 40 [.bool (pt s i).is, .slice (pt s i).a (pt s i).l.length (pt s i).cap] rfl HS.out _ Try.underlying61 rfl (by kernel_rfl) ?_
             simp only [Act.put, List.setIfInBounds_toArray, List.set_cons_succ, List.set_cons_zero])
          | (with_reducible show wpQuiet _ _ _ _ (⟨some 41, _, _, _, _, _⟩ :: _) _
             refine wpQuiet_buildTo rfl _ _ rfl (ptv (pt s i)).toArray [(0, .agg (cellsI .i64 (pt s i).t).toArray), (1, .agg (cellsI .i64 (pt s i).o).toArray), (2, .agg #[.bool (pt s i).is, .slice (pt s i).a (pt s i).l.length (pt s i).cap])] (by kernel_rfl) BP.out ?_
             simp only [Act.put, List.setIfInBounds_toArray, List.set_cons_succ, List.set_cons_zero])
          | go_big_quiet_step (fail))
        exact rfl
      case h1 =>
        intro x0 x1 Z
        exact run_lit 66 69 (.tmp 41) rfl _ _ (by kernel_rfl) Try.underlying66 (lit_pt h8.out h32.out) Z
      case h2 => exact fun _ _ => ⟨by kernel_rfl, by kernel_rfl⟩
      case g1 => exact fun _ _ _ => by kernel_rfl
      case g2 => exact fun _ _ _ => by kernel_rfl
      case hend =>
        intro x0 v' Y own' B'
        obtain ⟨a2, n2, k2, rfl⟩ : ∃ a n c, v' = .slice a n c := by
          rcases own' with ⟨-, ⟨rfl, -⟩ | ⟨g', cap', cur, rfl, -⟩⟩
          · exact ⟨_, _, _, rfl⟩
          · exact ⟨_, _, _, rfl⟩
        have VM := butRow B' O1.out.row (fun e => by have := HN.out mg e; have := LT.out; omega)
        have c28 := VM.cell 28 (scn_last HL.out)
        have f28 := VM.frozen 28
        have O2 := Lib.hid (O1.out.put HP.out HLT.out B' own')
        clear own' B' VM O1 V1
        simp only [Lt.putAll, List.drop_succ_cons, List.drop_zero, List.zip_cons_cons, List.zip_nil_right, List.foldl_cons, List.foldl_nil, Act.put, List.setIfInBounds_toArray, List.set_cons_succ, List.set_cons_zero]
        go_wp2_with fail
        go_roundg (m - i - 1)
        case rel => exact ⟨i + 1, _, by have := HI.out; omega, by go_num, O2⟩
        case measure => have := HI.out; omega
    · obtain rfl : i = m := by have := HI.out; omega
      rw [HM.out] at O
      obtain ⟨a', cap', rfl, R⟩ := O.out.done HP.out
      have R := Lib.hid R
      have B := Lib.hid O.out.below
      go_wp2_with fail
      go_ret
      exact ⟨mg, a', cap', rfl, R.out, hg ▸ B.out⟩
end
end Sc
end Go.Proofs.Ytchnnpaebggfdaa
