/-
  What AppendSeq and Collect of package slices hand back of the iterator of complaints: contracts by walking the Go text. Conditions: that the scene is right, has as many points as there are outputs, and how they lie.
  The iterators of package output (statuses, words): contracts by walking the Go text, for every loop body that leaves what the second one reads as it is. Conditions: how an output, and bytes, lie.
  What Failed and Right of package output tell: contracts by walking the Go text (ranges over the iterator statuses). Conditions: that an output has eight values and eight statuses.
  What Right of package output tells: a contract by walking the Go text (a loop over the values, a range over the iterator statuses). Conditions: that an output has eight values and eight statuses.
-/
import Derived.Test.YtchnnpaebggfdaaJJudgePlaces4
import Derived.Test.YtchnnpaebggfdaaJTwoRows3
import Derived.Maps.AppendAt
import Derived.Test.YtchnnpaebggfdaaJFixMaskRef3
import Derived.Test.YtchnnpaebggfdaaJTripSeq4
import Derived.Test.YtchnnpaebggfdaaJAppend3
import Derived.RangeFuncNested
import Derived.RangeFuncBound
import Derived.RangeFuncCalls
import Derived.RangeFuncLeaves
import Derived.Shelf.Abstract
import Derived.Shelf.RegionOpen
import Derived.OwnWalkIn
import Derived.TacticsInMore
import Derived.LoopNIn
import Derived.LoopIn
import Derived.Test.YtchnnpaebggfdaaJRounds4
import Derived.RegionTactic
import Derived.BigQuiet
namespace Go.Proofs.Ytchnnpaebggfdaa
set_option maxRecDepth 100000
open Go.ChangeShapes Go.WideShapes Go.ChangeAt Go.RowKit Go.Deep Go.Shelf
namespace Jd
open Cf (G CA)
open Sc (Sn Pt Ok PsAt PtOk pt scv ptv Lens At Bd loadS NN far)
open Ot (Ou ouc)
open Rf
attribute [local go_sem] Oper.semAt_some
/-- The cells of a complaint; of some. -/
def cmc (f : Nat → ByteArray) (p : Nat) : List Value := [.int .i64 ((p / 8 : Nat) : Int), .int .i64 ((p % 8 : Nat) : Int), .string (f p)]
def cmf (f : Nat → ByteArray) (ps : List Nat) : List Value := ps.flatMap (cmc f)
theorem cmf_app (f : Nat → ByteArray) (ps qs : List Nat) : cmf f (ps ++ qs) = cmf f ps ++ cmf f qs := by unfold cmf; rw [List.flatMap_append]
theorem cmf_one (f : Nat → ByteArray) (p : Nat) : cmf f [p] = cmc f p := by unfold cmf; simp
theorem cmf_at (f : Nat → ByteArray) : ∀ (ps : List Nat) (i p j : Nat), ps[i]? = some p → j < 3 → (cmf f ps)[i * 3 + j]? = (cmc f p)[j]?
  | [], i, p, j, h, _ => by simp at h
  | q :: t, 0, p, j, h, hj => by
    obtain rfl : q = p := by simpa using h
    unfold cmf; rw [List.flatMap_cons, Nat.zero_mul, Nat.zero_add, List.getElem?_append_left (by simpa [cmc] using hj)]
  | q :: t, i + 1, p, j, h, hj => by
    have := cmf_at f t i p j (by simpa using h) hj
    unfold cmf at this ⊢
    rw [List.flatMap_cons, List.getElem?_append_right (by simp [cmc]; omega), ← this]
    congr 1
    simp [cmc]; omega
theorem cmc_one (f : Nat → ByteArray) (p : Nat) : ∀ v ∈ cmc f p, v.oneCell' = true := by
  intro v hv
  simp [cmc] at hv
  rcases hv with rfl | rfl | rfl <;> rfl
/-- A slice that reads as these complaints. -/
def CmAt (w : World) (a : Option Addr) (f : Nat → ByteArray) (ps : List Nat) : Prop := ps = [] ∨ ∃ b off, a = some ⟨b, off, none⟩ ∧ ∀ i p, ps[i]? = some p → w.rangeAt b (off + i * 3) (cmc f p)
theorem CmAt.on {w w' : World} {a : Option Addr} {f : Nat → ByteArray} {ps : List Nat} (h : CmAt w a f ps) (b : Below w.heap.size w w') : CmAt w' a f ps := by
  rcases h with rfl | ⟨g, off, rfl, hs⟩
  · exact Or.inl rfl
  · exact Or.inr ⟨g, off, rfl, fun i p hi => range_below (hs i p hi) b⟩
theorem own_form {base : Nat} {w : World} {v : Value} {f : Nat → ByteArray} {ps : List Nat} {te : TypeId} (h : w.ownsRow base te 3 v ps.length (cmf f ps)) : ∃ a cap, v = .slice a ps.length cap ∧ CmAt w a f ps := by
  have hc : ∀ g, v.ownBlock = some g → _ := fun g hg => World.ownsRow.cells h (g := g) hg
  rcases h with ⟨hl, ⟨rfl, h0⟩ | ⟨g, cap, cur, rfl, hb, hh, hcap, _⟩⟩
  · have := List.eq_nil_of_length_eq_zero h0
    subst this
    exact ⟨none, 0, rfl, Or.inl rfl⟩
  · refine ⟨_, cap, rfl, Or.inr ⟨g, 0, rfl, fun i p hi j u hj => ?_⟩⟩
    have h3 : j < 3 := by have := (List.getElem?_eq_some_iff.1 hj).1; simpa [cmc] using this
    have := hc g rfl (i * 3 + j) u (by rw [cmf_at f ps i p j hi h3]; exact hj)
    rw [add_plain] at this
    rw [← this, Nat.add_assoc]
theorem cmInfo : (Try.prog.info? 49).map (fun i => (i.zero, i.size, i.bytes)) = some (some (.agg #[.int .i64 0, .int .i64 0, .string ⟨#[]⟩]), 3, 32) := by kernel_rfl
theorem sizeCm (f : Nat → ByteArray) (p : Nat) : (Try.prog.info? 49).map (·.size) = some (cmc f p).length := by show _ = some 3; kernel_rfl
/-- An append into a row of one's own, and the store of it in a box. -/
theorem appended {W w1 : World} {M B : Nat} {t e : TypeId} {v v' : Value} {k m : Nat} {xs ys : List Value} {tmp : Obj} (hv : Boxed W B t v) (hte : t ≠ e) (hrow : W.ownsRow M e 3 v k xs) (hown' : w1.ownsRow M e 3 v' m ys) (hgrow : (W.alloc tmp).grownBy w1 v.ownBlock) :
    Boxed w1 B t v ∧ Boxed (w1.setCell ⟨B, 0, none⟩ v') B t v' ∧ (w1.setCell ⟨B, 0, none⟩ v').ownsRow M e 3 v' m ys ∧ KeepsOthers W (w1.setCell ⟨B, 0, none⟩ v') ∧ But (fun k => k = B ∨ M ≤ k) W (w1.setCell ⟨B, 0, none⟩ v') := by
  have hv1 : Boxed w1 B t v := (hv.alloc tmp).kept hgrow (hv.not_row hte hrow)
  refine ⟨hv1, hv1.set v', hown'.kept (grownBy_setCell' w1 B v') (.inr (hv1.not_row hte hown').symm), ?_, ?_⟩
  · refine ((KeepsOthers.alloc W tmp).trans (KeepsOthers.of_grownBy hgrow fun j o ej hj => ?_)).trans (KeepsOthers.setCell _ _ _)
    rcases hrow.2 with ⟨rfl, -⟩ | ⟨g, cap, cur, rfl, -, hh, -⟩
    · cases ej
    · obtain rfl : g = j := by simpa [Value.ownBlock] using ej
      have h2 := (Below.heap_alloc W tmp g (Array.getElem?_eq_some_iff.1 hh).1).trans hh
      rw [h2] at hj; cases hj; rfl
  · have h1 : But (fun k => k = B ∨ M ≤ k) W w1 := (But.alloc (But.refl _ _) tmp).trans ⟨hgrow.os, hgrow.tape, hgrow.output, hgrow.size, fun k hk hn => hgrow.block k hk (fun q => hn (Or.inr (World.ownsRow.lt hrow k q.symm).1))⟩
    exact h1.setCell (p := ⟨B, 0, none⟩) (Or.inl (Or.inl rfl)) v'
/-- A slice of one element, made in a round. -/
theorem wpListIn_lit {F : Fence} {n : Nat} {P : Program} {ops : Array Oper} {rest : List Oper} {o : Oper} {a : Act} {w : World} {Q : Exit → Act → World → Prop} (hg : o.guard = none) (t e : TypeId) (x : Operand) (ho : o.op = .buildSlice t 1 #[(0, x)]) (cells : Array Value) (v : Value) (hv : a.eval x = v)
    (hu : P.underlying t = some (.slice e)) (hf : P.builtSlice e 1 [(0, v)] = some cells) (h : wpListIn F n P ops Q rest (a.put o.dst (.slice (some ⟨w.heap.size, 0, none⟩) 1 1)) (w.alloc (.cells cells e))) : wpListIn F n P ops Q (o :: rest) a w := by
  refine wpListIn_plain hg fun K hK => ?_
  unfold Oper.wpIn
  refine ⟨by simp [Oper.about, ho], ?_⟩
  rw [Oper.semAt_plain F _ _ (by rw [ho]; intro c hc'; cases hc'), Sc.run_lit t e x ho cells v hv hu hf]
  exact hK _ _ h
/-- The loop variable's box, made and filled. -/
theorem lay_cm (X : World) (f : Nat → ByteArray) (p : Nat) : X.grownBy ((X.alloc (.cells #[.int .i64 0, .int .i64 0, .string ⟨#[]⟩] 49)).setRow X.heap.size (cmc f p).toArray) none ∧
    VRow ((X.alloc (.cells #[.int .i64 0, .int .i64 0, .string ⟨#[]⟩] 49)).setRow X.heap.size (cmc f p).toArray) X.heap.size 49 (cmc f p) :=
  ⟨⟨rfl, rfl, rfl, by simp, fun k hk _ => (setRow_other _ _ _ _ (by omega)).trans (Below.heap_alloc X _ k hk)⟩, (VRow.new X [.int .i64 0, .int .i64 0, .string ⟨#[]⟩] 49).put (cmc f p)⟩
theorem kb_grown {A gs gl v : Nat} {X Y : World} (h : X.grownBy Y none) : Kb A gs gl v X Y := ⟨(but_grown h).mono (fun k e => by cases e), KeepsFrom.of_grownBy h (fun j e => by cases e)⟩
theorem kb_put {A gs gl v : Nat} (X : World) (k : Nat) (o' : Obj) (hA : A ≤ k) (hs : gs < k) (hl : gl < k) (hv : k < v) : Kb A gs gl v X (X.putObj k o') :=
  ⟨(but_grown (grownBy_putObj' X k o')).mono (fun j e => by cases e; omega), KeepsFrom.of_grownBy (grownBy_putObj' X k o') (fun j e => by cases e; exact hv)⟩
set_option maxRecDepth 100000 in
set_option maxHeartbeats 6400000 in
theorem seq_any (w0 : World) (s : Sn) (a : Option Addr) (cap : Nat) (al : Option Addr) (lcap : Nat) (ls : List Ou) (L : Lens s) (H : Ok s) (hp : PsAt w0 a s.ps) (hcap : s.ps.length ≤ cap) (ho : OutsAt w0 al ls) (hlen : ls.length = s.ps.length)
    (gs gl : Nat) (w : World) (hV : Below w0.heap.size w0 w) (hs : VRow w gs 27 (scv s a cap)) (hl : VRow w gl 28 [.slice al ls.length lcap]) :
    Calls Try.prog 32 #[.slice none 0 0, .func (.func 33) #[] #[.pointer (some ⟨gl, 0, none⟩), .pointer (some ⟨gs, 0, none⟩)]] w
      fun e w' => ∃ a' cap', e = .returned (.slice a' (bads s ls (8 * ls.length)).length cap') ∧ CmAt w' a' (wa s ls) (bads s ls (8 * ls.length)) ∧ Below w.heap.size w w' := by
  have hsl := hs.lt
  have hll := hl.lt
  have hvv := hV.size
  obtain ⟨i0, hi0, hz0, hz1, hz2⟩ := info_parts cmInfo
  have b1 := Boxed.new w 36 (.slice none 0 0)
  have B1 := (Below.refl w.heap.size w).alloc (Nat.le_refl _) (.cells #[.slice none 0 0] 36)
  have hsz : (w.alloc (.cells #[.slice none 0 0] 36)).heap.size = w.heap.size + 1 := by simp
  have GO := Lib.hid (fun V (hVb : Below w.heap.size w V) (hVs : V.heap.size = w.heap.size + 1 + 2) n (hn : 2 ≤ n) l => by
    have h := complaints_goes n hn w0 s a cap al lcap ls L H hp hcap ho hlen gs gl l V (hV.trans (hVb.mono hvv)) (hs.below hVb hsl) (hl.below hVb hll)
    rw [hVs] at h
    exact h)
  have HM := Lib.hid (show 8 * ls.length ≤ 80000 by have := H.few; omega)
  clear L H hp hcap ho hlen hs hl hV
  refine (callsIn_wide (n := 5)).1 ?_
  refine callsIn_of_wp_marks Try.func32 rfl trivial ?_ rfl
  simp only [Try.ntmps32, List.size_toArray, List.length_cons, List.length_nil, Nat.reduceAdd, Nat.reduceSub, Array.replicate_succ, Array.replicate_zero, List.push_toArray, List.append_toArray, List.nil_append, List.cons_append]
  gi_wp2
  generalize w.alloc (.cells #[.slice none 0 0] 36) = W0 at *
  refine range_m rfl (by omega) (gf := 33) (lb := #[.pointer (some ⟨gl, 0, none⟩), .pointer (some ⟨gs, 0, none⟩)]) rfl trivial (enters_of Try.func33 (by kernel_rfl) rfl)
    (Kp := Kb w0.heap.size gs gl (w.heap.size + 1 + 2)) (encs := encc s ls) (M := w.heap.size + 1 + 2 + 3)
    (fun V hVb hVs => by rw [hsz] at hVs; rw [hsz]; exact GO.out V (B1.trans (hVb.mono (by omega))) hVs _ (by omega) _)
    Kb.trans (fun X k o o' h1 h2 _ _ => kb_put X k o' (by omega) (by omega) (by omega) (by omega)) (fun _ => rfl)
    (fun pre X => ∃ v, Boxed X w.heap.size 36 v ∧ X.ownsRow (w.heap.size + 1 + 2 + 3) 49 3 v pre.length (cmf (wa s ls) (pre.map (·.1))) ∧ Below w.heap.size w X)
    (fun _ _ _ => False)
    (fun t X Y row h hg hr => by
      obtain ⟨v, h1, h2, h3⟩ := h
      exact ⟨v, row_to (cs := [v]) h1 hg (Or.inl (by omega)) hr, owns_to h2 (Nat.le_refl _) hg hr, h3.grown hg h3.size (fun k e => by have := (hr k e).1; omega)⟩)
    (fun t X Y row h hg hr => by
      obtain ⟨v, h1, h2, h3⟩ := h
      have hr' : ∀ r, row = some r → W0.heap.size ≤ r ∧ (r < w.heap.size + 1 + 2 + 3 ∨ ∃ o : Obj, X.heap[r]? = some o ∧ o.isCells = false) := fun r e => ⟨(hr r e).1, Or.inr (hr r e).2⟩
      exact ⟨v, row_to (cs := [v]) h1 hg (Or.inl (by omega)) hr', owns_to h2 (Nat.le_refl _) hg hr', h3.grown hg h3.size (fun k e => by have := (hr k e).1; omega)⟩)
    (fun _ => ownTo_false) (fun _ _ _ _ _ hs _ _ => hs)
    ⟨_, b1, World.ownsRow_nil _ _ _ _, B1⟩
    (fun pre x a' X => (∃ v, Boxed X w.heap.size 36 v ∧ X.ownsRow (w.heap.size + 1 + 2 + 3) 49 3 v pre.length (cmf (wa s ls) (pre.map (·.1))) ∧ Below w.heap.size w X) ∧ ∃ g, VRow X g 49 (cmc (wa s ls) x.1) ∧
      a' = { tmps := #[.slice none 0 0, .func (.func 33) #[] #[.pointer (some ⟨gl, 0, none⟩), .pointer (some ⟨gs, 0, none⟩)], .pointer (some ⟨w.heap.size, 0, none⟩), undef, .slice none 0 0, .pointer (some ⟨g, 0, none⟩),
        .func (.func 33) #[] #[.pointer (some ⟨gl, 0, none⟩), .pointer (some ⟨gs, 0, none⟩)], .agg (cmc (wa s ls) x.1).toArray, undef, undef, undef, undef, undef], defers := [] })
    (fun pre x a' A B row h hg hr => ?hib) ?assign ?body ?done ?stop
  case hib =>
    obtain ⟨⟨v, h1, h2, h3⟩, g, h4, h5⟩ := h
    have hr' : ∀ r, row = some r → W0.heap.size ≤ r ∧ (r < w.heap.size + 1 + 2 + 3 ∨ ∃ o : Obj, A.heap[r]? = some o ∧ o.isCells = false) := fun r e => ⟨(hr r e).1, Or.inr (hr r e).2⟩
    exact ⟨⟨v, row_to (cs := [v]) h1 hg (Or.inl (by omega)) hr', owns_to h2 (Nat.le_refl _) hg hr', h3.grown hg h3.size (fun k e => by have := (hr k e).1; omega)⟩, g, own_row (β := Unit) W0.heap.size g _ (fun _ => _) () A B row h4 hg hr, h5⟩
  case assign =>
    rintro l pre x X ⟨v, h1, h2, h3⟩ - - -
    obtain ⟨q1, q2⟩ := lay_cm X (wa s ls) x.1
    refine ⟨_, _, q1, kb_grown q1, ⟨⟨v, VRow.below (cs := [v]) h1 ⟨q1.os, q1.tape, q1.output, q1.size, fun k hk => q1.block k hk (by simp)⟩ (VRow.lt (cs := [v]) h1), owns_to (B := 0) h2 (Nat.le_refl _) q1 (fun r e => by cases e), h3.grown q1 h3.size (fun k e => by cases e)⟩, X.heap.size, q2, rfl⟩, fun K hK => ?_⟩
    have RN := Lib.hid (VRow.new X [.int .i64 0, .int .i64 0, .string ⟨#[]⟩] 49)
    have HS := Lib.hid (sizeCm (wa s ls) x.1)
    have HO := Lib.hid (all_oneCell_toArray (cmc_one (wa s ls) x.1))
    have HC := Lib.hid (show encc s ls x = #[.agg (cmc (wa s ls) x.1).toArray] from rfl)
    rw [HC.out]
    have HLN := Lib.hid (show (cmc (wa s ls) x.1).length = 3 from rfl)
    clear h1 h2 h3 q1 q2 GO
    generalize cmc (wa s ls) x.1 = cm at *
    gi_wp2_with ((with_reducible show wpListIn _ _ _ _ _ (⟨none, .store _ (.tmp 5) _, _, _, _, _⟩ :: _) _ _); refine Ot.wpListIn_storeW rfl _ _ _ _ rfl X.heap.size [.int .i64 0, .int .i64 0, .string ⟨#[]⟩] cm rfl rfl RN.out HS.out (by rw [HLN.out]; rfl) HO.out ?_)
    exact hK
  case body =>
    rintro lp pre x a' X ⟨⟨v, h1, h2, h3⟩, g, h4, rfl⟩ hlen hG hM
    have HR := Lib.hid h2
    have HB := Lib.hid h3
    have HBX := Lib.hid h1
    have HL := Lib.hid (show pre.length < 80000 by have := HM.out; omega)
    have HX := Lib.hid hM
    have RG := Lib.hid (row_rng h4)
    have HS := Lib.hid (sizeCm (wa s ls) x.1)
    have HCF := Lib.hid (show Try.prog.builtSlice 49 1 [(0, .agg (cmc (wa s ls) x.1).toArray)] = some (cmc (wa s ls) x.1).toArray by kernel_rfl)
    have HCO := Lib.hid (cmc_one (wa s ls) x.1)
    have HCL := Lib.hid (show (cmc (wa s ls) x.1).length = 3 from rfl)
    have HNX := Lib.hid (show cmf (wa s ls) ((pre ++ [x]).map (·.1)) = cmf (wa s ls) (pre.map (·.1)) ++ cmc (wa s ls) x.1 ∧ (pre ++ [x]).length = pre.length + 1 by rw [List.map_append, cmf_app]; simp [cmf])
    have c1 := h1.cell
    clear h1 h2 h3 h4 hlen hG hM GO
    generalize cmc (wa s ls) x.1 = cm at *
    generalize cmf (wa s ls) (pre.map (·.1)) = xs at *
    generalize pre.length = m at *
    gi_wp2_with (first
      | ((with_reducible show wpListIn _ _ _ _ _ (⟨some 9, _, _, _, _, _⟩ :: _) _ _); refine Ot.wpListIn_loadR rfl _ _ rfl g 0 rfl cm _ RG.out Try.underlying49 rfl HS.out ?_)
      | ((with_reducible show wpListIn _ _ _ _ _ (⟨some 10, _, _, _, _, _⟩ :: _) _ _); refine wpListIn_lit rfl _ _ _ rfl cm.toArray _ rfl Try.underlying36 HCF.out ?_)
      | (gi_at_builtin; (refine wpListIn_append_own _ rfl _ _ 36 rfl (w.heap.size + 1 + 2 + 3) 49 i0 _ 3 32 Try.underlying36 hi0 hz0 hz1 hz2 rfl (by decide) v m xs rfl (HR.out.alloc _) ⟨X.heap.size, 0, none⟩ 1 1 cm rfl (by rw [HCL.out]) (fun j u hj => by rw [add_plain, Nat.zero_add]; exact VRow.cell (VRow.new X cm _) j hj) HCO.out (by have := HL.out; unfold maxLen; omega) (by have := HL.out; omega) (by have := HX.out; simp; omega) ?_; intro v' w1 hown' hgrow _; obtain ⟨g', cap', rfl⟩ := ownsRow_succ hown'; obtain ⟨hv1, hv2, hr2, hk2, hb2⟩ := appended HBX.out (by decide) HR.out hown' hgrow; have hc1 := hv1.cell; have hf1 := hv1.frozen)))
    refine ⟨hk2.from _, ⟨hb2.mono (fun k e => by rintro (h | h | h | h) <;> rcases e with e | e <;> omega), hk2.from _⟩, _, hv2, ?_, But.below HB.out hb2 HB.out.size (fun k e => by rcases e with e | e <;> omega)⟩
    rw [HNX.out.1, HNX.out.2]
    exact hr2
  case done =>
    rintro D ys W hD hys ⟨v, h1, h2, h3⟩ hK
    have h2' := ownsRow_putObj h2 (.deferred none) hK rfl
    have hyl : ys.length = (bads s ls (8 * ls.length)).length := by rw [← hys, List.length_map]
    rw [hys, hyl] at h2 h2'
    obtain ⟨a1, cap1, rfl, -⟩ := own_form h2
    obtain ⟨a2, cap2, he, hcm⟩ := own_form h2'
    cases he
    have c1 := h1.cell
    clear GO
    gi_wp2
    refine ⟨by simp, .inl ⟨_, _, rfl, run_takeDeferred hK, ?_⟩⟩
    refine ⟨_, results_tmp rfl _ _ _, ?_⟩
    exact ⟨_, _, rfl, hcm, h3.trans (belowK_b (w := w) (Nat.le_refl _) W D _ _ (by omega) hK rfl rfl)⟩
  case stop =>
    rintro D c pre W _ _ h _
    exact h.elim
end Jd
end Go.Proofs.Ytchnnpaebggfdaa

namespace Go.Proofs.Ytchnnpaebggfdaa
set_option maxRecDepth 100000
open Go.ChangeShapes Go.WideShapes Go.ChangeAt Go.RowKit Go.Deep Go.Shelf
namespace Ot
open Ss (St str zer stv)
open Rf
open Wd (get2v get2b)
open Cr (Bytes)
attribute [local go_sem] Oper.semAt_some
def encs (o : Ou) (x : Fin 8) : Array Value := #[.agg (str (o.s.getD x.val zer)).toArray]
end Ot
end Go.Proofs.Ytchnnpaebggfdaa

namespace Go.Proofs.Ytchnnpaebggfdaa
set_option maxRecDepth 100000
open Go.ChangeShapes Go.WideShapes Go.ChangeAt Go.RowKit Go.Deep Go.Shelf
namespace Ot
open Ss (St str zer stv rgt)
open Rf
attribute [local go_sem] Oper.semAt_some
theorem all_no {α : Type} {p : α → Bool} {l : List α} {k : Nat} (h : (l.take k).all p = false) : l.all p = false := by
  rw [Bool.eq_false_iff] at h ⊢
  intro q
  exact h (List.all_eq_true.2 fun x hx => List.all_eq_true.1 q x (List.mem_of_mem_take hx))
end Ot
end Go.Proofs.Ytchnnpaebggfdaa

namespace Go.Proofs.Ytchnnpaebggfdaa
set_option maxRecDepth 100000
open Go.ChangeShapes Go.WideShapes Go.ChangeAt Go.RowKit Go.Deep Go.Shelf
namespace Ot
open Ss (St str zer stv rgt)
open Rf
attribute [local go_sem] Oper.semAt_some
end Ot
end Go.Proofs.Ytchnnpaebggfdaa
