/-
  The live question of layer 23, operation by operation: what each place holds, whatever order is drawn; the scene and the outputs that it asks about, in numbers. Conditions: how the scene lies.
  The live question of layer 23, operation by operation, continued: complaints, scenes, outputs, calls. Conditions: how the scene lies.
-/
import Derived.Test.YtchnnpaebggfdaaJOutputRead2
import Derived.Test.YtchnnpaebggfdaaJJudgeAll4
import Derived.Test.YtchnnpaebggfdaaFlowG
import Derived.Test.YtchnnpaebggfdaaSceneFits
import Derived.Great.Walk
namespace Go.Proofs.Ytchnnpaebggfdaa
set_option maxRecDepth 100000
open Go.ChangeShapes Go.WideShapes Go.ChangeAt Go.RowKit Go.Deep
namespace Jd
open Cf (G CA)
open Sc (Sn Pt Ok PsAt PtOk pt scv ptv Lens At Bd loadS NN far fault)
open Ot (Ou ouc)
open FlowG
def cT : List Int := [3, -100, 100, 5, 40, 20, 3, 30, 0, 20, 2, 0, 4, 2, 2, 1, 4, 1, 1, 2, 0]
def pA : Pt := ⟨List.replicate 8 0, List.replicate 32 0, true, none, 0, []⟩
def sA : Sn := ⟨cT, 2, 5, 2, [0, 0, 0, 0], [pA, pA]⟩
theorem sA_len : Lens sA := ⟨rfl, rfl, by show 2 ≤ 9223372036854775807; decide⟩
theorem sA_ok : Ok sA := Sc.fault_ok.1 (by kernel_rfl)
theorem sA_fit : fitb sA 2 = true := by kernel_rfl
theorem sA_fit0 : fitb sA 0 = false := by kernel_rfl
def lsA : List Ou := [tld 6 3 0, tld (-6) 3 4]
def lsB : List Ou := [tld 7 3 0, tld 0 3 0]
def lsD : List Ou := [tld 0 1 0, tld 0 7 1]
theorem bA : bads sA lsA (8 * lsA.length) = [] := by kernel_rfl
theorem bB : bads sA lsB (8 * lsB.length) = List.range 16 := by kernel_rfl
theorem bD : bads sA lsD (8 * lsD.length) = List.range 16 := by kernel_rfl
theorem gA : good sA lsA = true := by kernel_rfl
theorem gN : good sA [] = false := by kernel_rfl
theorem rA : rowc sA 0 2 = 2 := by kernel_rfl
theorem hA2 : Sc.has sA 2 0 = false := by kernel_rfl
theorem wD0 : wa sA lsD 0 = ⟨#[111, 117, 116]⟩ := by kernel_rfl
theorem wD8 : wa sA lsD 8 = ⟨#[108, 97, 116, 99, 104, 101, 100]⟩ := by kernel_rfl
theorem ps_at {W : World} {b : Nat} (h : VRow W b 63 (ptv pA ++ ptv pA)) : PsAt W (some ⟨b, 0, none⟩) sA.ps := by
  refine Or.inr ⟨b, 0, rfl, fun i p hi => ?_⟩
  have hl : (ptv pA).length = 42 := rfl
  have hp : i < 2 ∧ p = pA := by
    have hi' : ([pA, pA] : List Pt)[i]? = some p := hi
    match i, hi' with
    | 0, h => exact ⟨by omega, by cases h; rfl⟩
    | 1, h => exact ⟨by omega, by cases h; rfl⟩
    | i + 2, h => simp at h
  obtain ⟨h2, rfl⟩ := hp
  refine ⟨fun j v hv => ?_, rfl, rfl, ⟨Nat.le_refl _, Nat.zero_le _⟩, fun n hn => (by cases hn), Or.inl rfl, Nat.zero_le _, fun _ => rfl⟩
  have hj : j < 42 := by rw [← hl]; exact (List.getElem?_eq_some_iff.1 hv).1
  refine VRow.cell h _ ?_
  rcases (show i = 0 ∨ i = 1 by omega) with rfl | rfl
  · rw [List.getElem?_append_left (by omega), show 0 + 0 * 42 + j = j by omega]; exact hv
  · rw [List.getElem?_append_right (by omega), show 0 + 1 * 42 + j - (ptv pA).length = j by omega]; exact hv
/-- Two outputs in a block of their own. -/
theorem outs_two {W : World} {g : Nat} {o1 o2 : Ou} (k1 : Ot.Ok o1) (k2 : Ot.Ok o2) (h : VRow W g 57 (ouc o1 ++ ouc o2)) : OutsAt W (some ⟨g, 0, none⟩) [o1, o2] := by
  refine Or.inr ⟨g, 0, rfl, fun i o hi => ?_⟩
  have hl := Ot.ouc_len k1
  match i, hi with
  | 0, hi =>
    obtain rfl : o1 = o := by simpa using hi
    refine ⟨k1, fun j v hv => VRow.cell h _ ?_⟩
    rw [List.getElem?_append_left (by have := (List.getElem?_eq_some_iff.1 hv).1; omega), show 0 + 0 * 41 + j = j by omega]; exact hv
  | 1, hi =>
    obtain rfl : o2 = o := by simpa using hi
    refine ⟨k2, fun j v hv => VRow.cell h _ ?_⟩
    rw [List.getElem?_append_right (by omega), show 0 + 1 * 41 + j - (ouc o1).length = j by omega]; exact hv
  | i + 2, hi => simp at hi
/-! ### What each place holds -/
inductive Kd
  | val (v : Value)
  | scn
  | sag
  | outs (o1 o2 : Ou)
  | coms (f : Nat → ByteArray) (ps : List Nat)
  | pair (f : Nat → ByteArray) (ps : List Nat) (e : Int)
  | elm (f : Nat → ByteArray) (p j : Nat)
  | any
def Is (sb lb : Nat) : Kd → Value → World → Prop
  | .val x, v, _ => v = x
  | .scn, v, w => v = .pointer (some ⟨sb, 0, none⟩) ∧ At w sb sA (some ⟨lb, 0, none⟩) 2
  | .sag, v, w => v = .agg (scv sA (some ⟨lb, 0, none⟩) 2).toArray ∧ PsAt w (some ⟨lb, 0, none⟩) sA.ps
  | .outs o1 o2, v, w => (Ot.Ok o1 ∧ Ot.Ok o2) ∧ ∃ g, v = .slice (some ⟨g, 0, none⟩) 2 2 ∧ VRow w g 57 (ouc o1 ++ ouc o2)
  | .coms f ps, v, w => ∃ a cap, v = .slice a ps.length cap ∧ CmAt w a f ps
  | .pair f ps e, v, w => ∃ a cap, v = .tuple #[.slice a ps.length cap, .int .i64 e] ∧ CmAt w a f ps
  | .elm f p j, v, w => ∃ b off, v = .pointer (some ⟨b, off + j, none⟩) ∧ w.rangeAt b off (cmc f p)
  | .any, _, _ => True
theorem Is.on {sb lb : Nat} {k : Kd} {v : Value} {w w' : World} (h : Is sb lb k v w) (b : Below w.heap.size w w') : Is sb lb k v w' := by
  cases k with
  | val x => exact h
  | scn => exact ⟨h.1, h.2.on b⟩
  | sag => exact ⟨h.1, h.2.below b⟩
  | outs o1 o2 => obtain ⟨h0, g, e, r⟩ := h; exact ⟨h0, g, e, r.below b r.lt⟩
  | coms f ps => obtain ⟨a, cap, e, r⟩ := h; exact ⟨a, cap, e, r.on b⟩
  | pair f ps x => obtain ⟨a, cap, e, r⟩ := h; exact ⟨a, cap, e, r.on b⟩
  | elm f p j => obtain ⟨g, off, e, r⟩ := h; exact ⟨g, off, e, range_below r b⟩
  | any => trivial
def LV (sk : Nat → Kd) (sb lb : Nat) (t : Tmp) (v : Value) (w : World) : Prop := Is sb lb (sk t) v w
theorem LV.on {sk : Nat → Kd} {sb lb : Nat} (t : Tmp) (v : Value) (w w' : World) (h : LV sk sb lb t v w) (b : Below w.heap.size w w') : LV sk sb lb t v w' := Is.on h b
theorem LV.at {sk : Nat → Kd} {sb lb : Nat} {t : Tmp} {v : Value} {w : World} {k : Kd} (h : LV sk sb lb t v w) (hk : sk t = k) : Is sb lb k v w := hk ▸ h
section
variable {sk : Nat → Kd} {sb lb : Nat} {Q : Exit → Act → World → Prop} {d t u : Tmp} {ty : TypeId} {pos : String} {after : Array Edge} {gd : Option (Nat × Bool)}
theorem step_move (h : sk d = sk t) : Step Try.prog (LV sk sb lb) Q ⟨some d, .move (.tmp t), ty, pos, after, gd⟩ := by
  intro a w hl
  have h1 := hl t (List.Mem.head _)
  refine ⟨_, rfl, Below.refl _ _, fun d' hd' => ?_⟩
  cases hd'
  unfold LV; rw [h]; exact h1
theorem step_assign (h : sk d = sk t) : Step Try.prog (LV sk sb lb) Q ⟨some d, .assign (.tmp t), ty, pos, after, gd⟩ := by
  intro a w hl
  have h1 := hl t (List.Mem.head _)
  refine ⟨_, rfl, Below.refl _ _, fun d' hd' => ?_⟩
  cases hd'
  unfold LV; rw [h]; exact h1
theorem step_pick {b : Bool} (ht : sk t = .val (.bool true)) (hu : sk u = .val (.bool b)) (hd : sk d = .val (.bool b)) : Step Try.prog (LV sk sb lb) Q ⟨some d, .pick (.tmp t) (.tmp u) (.const (.bool false)), ty, pos, after, gd⟩ := by
  intro a w hl
  have e := (hl t (List.Mem.head _)).at ht
  have e' := (hl u (List.Mem.tail _ (List.Mem.head _))).at hu
  have e1 : a.eval (.tmp t) = .bool true := e
  have e2 : a.eval (.tmp u) = .bool b := e'
  unfold Oper.wp execOp
  simp only [e1, e2]
  go_simp
  exact ⟨_, rfl, Below.refl _ _, by unfold LV; rw [hd]; rfl⟩
theorem step_not {b : Bool} (ht : sk t = .val (.bool b)) (hd : sk d = .val (.bool !b)) : Step Try.prog (LV sk sb lb) Q ⟨some d, .unOp .not 4 (.tmp t), ty, pos, after, gd⟩ := by
  intro a w hl
  have e := (hl t (List.Mem.head _)).at ht
  have e1 : a.eval (.tmp t) = .bool b := e
  unfold Oper.wp execOp
  simp only [e1]
  go_simp
  exact ⟨_, rfl, Below.refl _ _, by unfold LV; rw [hd]; rfl⟩
theorem step_len {f : Nat → ByteArray} {ps : List Nat} (ht : sk t = .coms f ps) (hd : sk d = .val (.int .i64 ps.length)) : Step Try.prog (LV sk sb lb) Q ⟨some d, .call { callee := .builtin .len, args := #[.tmp t], argTypes := #[36] }, 3, pos, after, gd⟩ := by
  intro a w hl
  have hm : t ∈ looks ⟨some d, .call { callee := .builtin .len, args := #[.tmp t], argTypes := #[36] }, 3, pos, after, gd⟩ := by
    simp only [looks, List.mem_filterMap]
    exact ⟨.tmp t, (show Operand.tmp t ∈ [.tmp t] by simp), rfl⟩
  obtain ⟨x, cap, e, -⟩ := (hl t hm).at ht
  have e1 : a.eval (.tmp t) = .slice x ps.length cap := e
  unfold Oper.wp execOp
  simp only [resolve, e1, List.map_toArray, List.map_cons, List.map_nil]
  go_simp
  exact ⟨_, rfl, Below.refl _ _, by unfold LV; rw [hd]; rfl⟩
theorem step_ext0 {f : Nat → ByteArray} {ps : List Nat} {x : Int} (ht : sk t = .pair f ps x) (hd : sk d = .coms f ps) : Step Try.prog (LV sk sb lb) Q ⟨some d, .extract (.tmp t) 0, ty, pos, after, gd⟩ := by
  intro a w hl
  obtain ⟨y, cap, e, hc⟩ := (hl t (List.Mem.head _)).at ht
  have e1 : a.eval (.tmp t) = .tuple #[.slice y ps.length cap, .int .i64 x] := e
  have HC := Lib.hid hc
  clear hc
  unfold Oper.wp execOp
  simp only [e1]
  go_simp
  exact ⟨_, rfl, Below.refl _ _, by unfold LV; rw [hd]; exact ⟨_, _, rfl, HC.out⟩⟩
theorem step_ext1 {f : Nat → ByteArray} {ps : List Nat} {x : Int} (ht : sk t = .pair f ps x) (hd : sk d = .val (.int .i64 x)) : Step Try.prog (LV sk sb lb) Q ⟨some d, .extract (.tmp t) 1, ty, pos, after, gd⟩ := by
  intro a w hl
  obtain ⟨y, cap, e, -⟩ := (hl t (List.Mem.head _)).at ht
  have e1 : a.eval (.tmp t) = .tuple #[.slice y ps.length cap, .int .i64 x] := e
  unfold Oper.wp execOp
  simp only [e1]
  go_simp
  exact ⟨_, rfl, Below.refl _ _, by unfold LV; rw [hd]; rfl⟩
theorem step_eqi {x : Int} (ht : sk t = .val (.int .i64 x)) (hd : sk d = .val (.bool true)) : Step Try.prog (LV sk sb lb) Q ⟨some d, .binOp .eql 3 (.tmp t) (.const (.int .i64 x)) 3, ty, pos, after, gd⟩ := by
  intro a w hl
  have e := (hl t (List.Mem.head _)).at ht
  have e1 : a.eval (.tmp t) = .int .i64 x := e
  unfold Oper.wp execOp
  simp only [e1]
  go_simp
  exact ⟨_, rfl, Below.refl _ _, by unfold LV; rw [hd]; rfl⟩
theorem step_eqe {x : Int} (ht : sk t = .val (.int .i64 x)) (hd : sk d = .val (.bool true)) : Step Try.prog (LV sk sb lb) Q ⟨some d, .binOp .eql 37 (.tmp t) (.const (.int .i64 x)) 37, ty, pos, after, gd⟩ := by
  intro a w hl
  have e := (hl t (List.Mem.head _)).at ht
  have e1 : a.eval (.tmp t) = .int .i64 x := e
  unfold Oper.wp execOp
  simp only [e1]
  go_simp
  exact ⟨_, rfl, Below.refl _ _, by unfold LV; rw [hd]; rfl⟩
theorem step_eqs {s : ByteArray} (ht : sk t = .val (.string s)) (hd : sk d = .val (.bool true)) : Step Try.prog (LV sk sb lb) Q ⟨some d, .binOp .eql 9 (.tmp t) (.const (.string s)) 9, ty, pos, after, gd⟩ := by
  intro a w hl
  have e := (hl t (List.Mem.head _)).at ht
  have e1 : a.eval (.tmp t) = .string s := e
  unfold Oper.wp execOp
  simp only [e1]
  go_simp
  exact ⟨_, rfl, Below.refl _ _, by unfold LV; rw [hd]; rfl⟩
end
end Jd
end Go.Proofs.Ytchnnpaebggfdaa

namespace Go.Proofs.Ytchnnpaebggfdaa
set_option maxRecDepth 100000
open Go.ChangeShapes Go.WideShapes Go.ChangeAt Go.RowKit Go.Deep
namespace Jd
open Cf (G CA)
open Sc (Sn Pt Ok PsAt PtOk pt scv ptv Lens At Bd loadS NN far fault)
open Ot (Ou ouc)
open FlowG
theorem run_lit2 {P : Program} {ρ : Operand → Value} {o : Oper} (t e : TypeId) (x y : Operand) (ho : o.op = .buildSlice t 2 #[(0, x), (1, y)]) (cells : Array Value) (v v' : Value) (hv : ρ x = v) (hv' : ρ y = v') (hu : P.underlying t = some (.slice e)) (hf : P.builtSlice e 2 [(0, v), (1, v')] = some cells) (w : World) :
    (execOp ρ o).run P w = .ok (.value (.slice (some ⟨w.heap.size, 0, none⟩) 2 2)) (w.alloc (.cells cells e)) := by
  subst hv
  subst hv'
  unfold Program.builtSlice at hf
  cases hie : P.info? e with
  | none => simp [hie] at hf
  | some ie =>
    simp only [hie] at hf
    cases hz : ie.zero with
    | none => simp [hz] at hf
    | some z =>
      simp only [hz] at hf
      by_cases hc : 2 * ie.size > 2 ^ 24 ∨ 2 * ie.size = 0
      · rw [if_pos hc] at hf; cases hf
      · rw [if_neg hc] at hf
        have e1 := run_buildSlice (P := P) w t e 2 ((#[(0, x), (1, y)] : Array (Nat × Operand)).map fun (q : Nat × Operand) => ((q.1, ρ q.2) : Nat × Value)) cells ie z hu hie hz (fun h' => hc (Or.inl h')) (fun h' => hc (Or.inr h')) (by rw [Array.toList_map]; exact hf)
        unfold execOp
        simp only [ho, Sem.run_bind, e1, Result.andThen_ok]
        rfl
section
variable {sk : Nat → Kd} {sb lb : Nat} {Q : Exit → Act → World → Prop} {d t u : Tmp} {ty : TypeId} {pos : String} {after : Array Edge} {gd : Option (Nat × Bool)}
theorem step_idx {f : Nat → ByteArray} {ps : List Nat} {j p : Nat} (ht : sk t = .coms f ps) (hj : ps[j]? = some p) (hd : sk d = .elm f p 0) : Step Try.prog (LV sk sb lb) Q ⟨some d, .indexAddr 36 (.tmp t) (.const (.int .i64 (j : Int))), ty, pos, after, gd⟩ := by
  intro a w hl
  obtain ⟨x, cap, e, hc⟩ := (hl t (List.Mem.head _)).at ht
  have hjl : j < ps.length := (List.getElem?_eq_some_iff.1 hj).1
  rcases hc with hc | ⟨b, off, rfl, hc⟩
  · rw [hc] at hj; simp at hj
  · have hcj := Lib.hid (hc j p hj)
    have e1 : a.eval (.tmp t) = .slice (some ⟨b, off, none⟩) ps.length cap := e
    have h1 : (j : Int) < (ps.length : Int) := by omega
    clear hc hj
    unfold Oper.wp execOp
    simp only [e1]
    go_simp
    exact ⟨_, rfl, Below.refl _ _, by unfold LV; rw [hd]; exact ⟨_, _, rfl, hcj.out⟩⟩
theorem step_fld {f : Nat → ByteArray} {p : Nat} (ht : sk t = .elm f p 0) (hd : sk d = .elm f p 2) : Step Try.prog (LV sk sb lb) Q ⟨some d, .fieldAddr 49 (.tmp t) 2, ty, pos, after, gd⟩ := by
  intro a w hl
  obtain ⟨b, off, e, hc⟩ := (hl t (List.Mem.head _)).at ht
  have e1 : a.eval (.tmp t) = .pointer (some ⟨b, off, none⟩) := e
  have HC := Lib.hid hc
  clear hc
  unfold Oper.wp execOp
  simp only [e1]
  go_simp
  exact ⟨_, rfl, Below.refl _ _, by unfold LV; rw [hd]; exact ⟨_, _, rfl, HC.out⟩⟩
theorem step_ldc {f : Nat → ByteArray} {p : Nat} {cs : List Value} (ht : sk t = .elm f p 0) (hc : cmc f p = cs) (hd : sk d = .val (.agg cs.toArray)) : Step Try.prog (LV sk sb lb) Q ⟨some d, .load 49 (.tmp t), ty, pos, after, gd⟩ := by
  intro a w hl
  obtain ⟨b, off, e, h1⟩ := (hl t (List.Mem.head _)).at ht
  have e1 : a.eval (.tmp t) = .pointer (some ⟨b, off, none⟩) := e
  have e2 := run_loadVar_mid (P := Try.prog) w b off 49 (cmc f p) _ h1 Try.underlying49 rfl (sizeCm f p)
  unfold Oper.wp execOp
  simp only [e1, Instr.loadAt, Instr.sureAddr, Sem.run_bind, Sem.run_pure, Result.andThen_ok, e2]
  exact ⟨_, rfl, Below.refl _ _, fun d' hd' => by cases hd'; unfold LV; rw [hd, ← hc]; rfl⟩
theorem step_lds {f : Nat → ByteArray} {p : Nat} {s : ByteArray} (ht : sk t = .elm f p 2) (hs : f p = s) (hd : sk d = .val (.string s)) : Step Try.prog (LV sk sb lb) Q ⟨some d, .load 9 (.tmp t), ty, pos, after, gd⟩ := by
  intro a w hl
  obtain ⟨b, off, e, h1⟩ := (hl t (List.Mem.head _)).at ht
  have e1 : a.eval (.tmp t) = .pointer (some ⟨b, off + 2, none⟩) := e
  have c2 := h1 2 (.string s) (by rw [← hs]; rfl)
  clear h1 hs
  unfold Oper.wp execOp
  simp only [e1]
  go_simp
  exact ⟨_, rfl, Below.refl _ _, by unfold LV; rw [hd]; rfl⟩
theorem step_bld {parts : Array (Nat × Operand)} {ps : List (Nat × Value)} {cs : Array Value} {tt : TypeId} (hp : ∀ a : Act, (parts.map fun (i, x) => (i, a.eval x)).toList = ps) (hf : Try.prog.built tt ps = some cs) (hd : sk d = .val (.agg cs)) : Step Try.prog (LV sk sb lb) Q ⟨some d, .build tt parts, ty, pos, after, gd⟩ := by
  intro a w _
  have e := run_build (P := Try.prog) w tt _ cs (by rw [hp a]; exact hf)
  unfold Oper.wp execOp
  simp only [e, Sem.run_bind, Sem.run_pure, Result.andThen_ok]
  exact ⟨_, rfl, Below.refl _ _, fun d' hd' => by cases hd'; unfold LV; rw [hd]; rfl⟩
theorem step_eqc {cs : Array Value} {tt : TypeId} (ht : sk t = .val (.agg cs)) (hu : sk u = .val (.agg cs)) (he : ∀ w, (execOp (fun _ => .agg cs) ⟨some d, .binOp .eql tt (.tmp t) (.tmp u) tt, ty, pos, after, gd⟩).run Try.prog w = .ok (.value (.bool true)) w) (hd : sk d = .val (.bool true)) : Step Try.prog (LV sk sb lb) Q ⟨some d, .binOp .eql tt (.tmp t) (.tmp u) tt, ty, pos, after, gd⟩ := by
  intro a w hl
  have e := (hl t (List.Mem.head _)).at ht
  have e' := (hl u (List.Mem.tail _ (List.Mem.head _))).at hu
  have e1 : a.eval (.tmp t) = .agg cs := e
  have e2 : a.eval (.tmp u) = .agg cs := e'
  have h := he w
  have hx : (execOp a.eval ⟨some d, .binOp .eql tt (.tmp t) (.tmp u) tt, ty, pos, after, gd⟩).run Try.prog w = .ok (.value (.bool true)) w := by
    rw [← h]
    simp only [execOp, e1, e2]
  unfold Oper.wp
  rw [hx, Oper.upon_value]
  exact ⟨_, rfl, Below.refl _ _, fun d' hd' => by cases hd'; unfold LV; rw [hd]; rfl⟩
theorem step_loadS (ht : sk t = .scn) (hd : sk d = .sag) : Step Try.prog (LV sk sb lb) Q ⟨some d, .load 27 (.tmp t), ty, pos, after, gd⟩ := by
  intro a w hl
  obtain ⟨e, hr⟩ := (hl t (List.Mem.head _)).at ht
  have e1 : a.eval (.tmp t) = .pointer (some ⟨sb, 0, none⟩) := e
  have e2 := run_loadVar_mid (P := Try.prog) w sb 0 27 _ _ (row_rng hr.row) Try.underlying27 rfl (Sc.sizeS (a := some ⟨lb, 0, none⟩) (cap := 2) sA_len)
  unfold Oper.wp execOp
  simp only [e1, Instr.loadAt, Instr.sureAddr, Sem.run_bind, Sem.run_pure, Result.andThen_ok, e2]
  exact ⟨_, rfl, Below.refl _ _, fun d' hd' => by cases hd'; unfold LV; rw [hd]; exact ⟨rfl, hr.ps⟩⟩
theorem mem_looks {t : Tmp} {o : Oper} (h : Operand.tmp t ∈ o.op.operands.toList) : t ∈ looks o := by
  unfold looks
  rw [List.mem_filterMap]
  exact ⟨_, h, rfl⟩
/-- A call of constants: what it hands back. -/
theorem step_told {n i l : Int} {at_ : Array TypeId} (hd : sk d = .val (.agg (ouc (tld n i l)).toArray)) :
    Step Try.prog (LV sk sb lb) Q ⟨some d, .call { callee := .value (.func 18), args := #[.const (.int .i64 n), .const (.int .i64 i), .const (.int .i64 l)], argTypes := at_ }, ty, pos, after, gd⟩ := by
  intro a w _
  have C := told_any n i l w
  unfold Oper.wp execOp
  simp only [resolve, List.map_toArray, List.map_cons, List.map_nil, Act.eval]
  go_simp
  refine C.mono ?_
  rintro e w' ⟨rfl, hb⟩
  exact ⟨_, rfl, hb, by unfold LV; rw [hd]; rfl⟩
theorem step_lit {o1 o2 : Ou} (k1 : Ot.Ok o1) (k2 : Ot.Ok o2) (ht : sk t = .val (.agg (ouc o1).toArray)) (hu : sk u = .val (.agg (ouc o2).toArray)) (hf : Try.prog.builtSlice 57 2 [(0, .agg (ouc o1).toArray), (1, .agg (ouc o2).toArray)] = some (ouc o1 ++ ouc o2).toArray) (hd : sk d = .outs o1 o2) :
    Step Try.prog (LV sk sb lb) Q ⟨some d, .buildSlice 28 2 #[(0, .tmp t), (1, .tmp u)], ty, pos, after, gd⟩ := by
  intro a w hl
  have e := (hl t (List.Mem.head _)).at ht
  have e' := (hl u (List.Mem.tail _ (List.Mem.head _))).at hu
  have e1 : a.eval (.tmp t) = .agg (ouc o1).toArray := e
  have e2 : a.eval (.tmp u) = .agg (ouc o2).toArray := e'
  have hx : (execOp a.eval ⟨some d, .buildSlice 28 2 #[(0, .tmp t), (1, .tmp u)], ty, pos, after, gd⟩).run Try.prog w = .ok (.value (.slice (some ⟨w.heap.size, 0, none⟩) 2 2)) (w.alloc (.cells (ouc o1 ++ ouc o2).toArray 57)) := by
    exact run_lit2 28 57 (.tmp t) (.tmp u) rfl _ _ _ e1 e2 Try.underlying28 hf w
  unfold Oper.wp
  rw [hx, Oper.upon_value]
  exact ⟨_, rfl, (Below.refl _ _).alloc (Nat.le_refl _) _, fun d' hd' => by cases hd'; unfold LV; rw [hd]; exact ⟨⟨k1, k2⟩, _, rfl, VRow.new _ _ _⟩⟩
theorem step_all {o1 o2 : Ou} {at_ : Array TypeId} (ht : sk t = .sag) (hu : sk u = .outs o1 o2) (hd : sk d = .pair (wa sA [o1, o2]) (bads sA [o1, o2] 16) 0) :
    Step Try.prog (LV sk sb lb) Q ⟨some d, .call { callee := .value (.func 9), args := #[.tmp t, .tmp u], argTypes := at_ }, ty, pos, after, gd⟩ := by
  intro a w hl
  obtain ⟨e, hp⟩ := (hl t (mem_looks (by show Operand.tmp t ∈ [Operand.func _, .tmp t, .tmp u]; simp))).at ht
  obtain ⟨⟨k1, k2⟩, g, e', hv⟩ := (hl u (mem_looks (by show Operand.tmp u ∈ [Operand.func _, .tmp t, .tmp u]; simp))).at hu
  have e1 : a.eval (.tmp t) = .agg (scv sA (some ⟨lb, 0, none⟩) 2).toArray := e
  have e2 : a.eval (.tmp u) = .slice (some ⟨g, 0, none⟩) 2 2 := e'
  have C := all_yes sA (some ⟨lb, 0, none⟩) 2 (some ⟨g, 0, none⟩) 2 [o1, o2] w sA_len hp (outs_two k1 k2 hv) (Nat.le_refl _) sA_fit
  clear hl hp hv e e'
  unfold Oper.wp execOp
  simp only [resolve, List.map_toArray, List.map_cons, List.map_nil, e1, e2]
  go_simp
  refine C.mono ?_
  rintro e w' ⟨a', cap', rfl, hc, hb⟩
  exact ⟨_, rfl, hb, by unfold LV; rw [hd]; exact ⟨a', cap', rfl, hc⟩⟩
theorem step_good {o1 o2 : Ou} {at_ : Array TypeId} (ht : sk t = .sag) (hu : sk u = .outs o1 o2) (hd : sk d = .val (.bool (good sA [o1, o2]))) :
    Step Try.prog (LV sk sb lb) Q ⟨some d, .call { callee := .value (.func 11), args := #[.tmp t, .tmp u], argTypes := at_ }, ty, pos, after, gd⟩ := by
  intro a w hl
  obtain ⟨e, hp⟩ := (hl t (mem_looks (by show Operand.tmp t ∈ [Operand.func _, .tmp t, .tmp u]; simp))).at ht
  obtain ⟨⟨k1, k2⟩, g, e', hv⟩ := (hl u (mem_looks (by show Operand.tmp u ∈ [Operand.func _, .tmp t, .tmp u]; simp))).at hu
  have e1 : a.eval (.tmp t) = .agg (scv sA (some ⟨lb, 0, none⟩) 2).toArray := e
  have e2 : a.eval (.tmp u) = .slice (some ⟨g, 0, none⟩) 2 2 := e'
  have C := good_any sA (some ⟨lb, 0, none⟩) 2 (some ⟨g, 0, none⟩) 2 [o1, o2] w sA_len hp (outs_two k1 k2 hv) (Nat.le_refl _)
  clear hl hp hv e e'
  unfold Oper.wp execOp
  simp only [resolve, List.map_toArray, List.map_cons, List.map_nil, e1, e2]
  go_simp
  refine C.mono ?_
  rintro e w' ⟨rfl, hb⟩
  exact ⟨_, rfl, hb, by unfold LV; rw [hd]; rfl⟩
theorem step_goodn {at_ : Array TypeId} (ht : sk t = .sag) (hd : sk d = .val (.bool false)) :
    Step Try.prog (LV sk sb lb) Q ⟨some d, .call { callee := .value (.func 11), args := #[.tmp t, .const (.slice none 0 0)], argTypes := at_ }, ty, pos, after, gd⟩ := by
  intro a w hl
  obtain ⟨e, hp⟩ := (hl t (mem_looks (by show Operand.tmp t ∈ [Operand.func _, .tmp t, _]; simp))).at ht
  have e1 : a.eval (.tmp t) = .agg (scv sA (some ⟨lb, 0, none⟩) 2).toArray := e
  have C := good_any sA (some ⟨lb, 0, none⟩) 2 none 0 [] w sA_len hp (Or.inl rfl) (Nat.le_refl _)
  rw [gN] at C
  clear hl hp e
  unfold Oper.wp execOp
  simp only [resolve, List.map_toArray, List.map_cons, List.map_nil, e1]
  go_simp
  refine C.mono ?_
  rintro e w' ⟨rfl, hb⟩
  exact ⟨_, rfl, hb, by unfold LV; rw [hd]; rfl⟩
theorem step_row1 {at_ : Array TypeId} (ht : sk t = .sag) (hd : sk d = .val (.int .i64 2)) :
    Step Try.prog (LV sk sb lb) Q ⟨some d, .call { callee := .value (.func 10), args := #[.tmp t, .const (.int .i64 1), .const (.int .i64 0)], argTypes := at_ }, ty, pos, after, gd⟩ := by
  intro a w hl
  obtain ⟨e, hp⟩ := (hl t (mem_looks (by show Operand.tmp t ∈ [Operand.func _, .tmp t, _, _]; simp))).at ht
  have e1 : a.eval (.tmp t) = .agg (scv sA (some ⟨lb, 0, none⟩) 2).toArray := e
  have C : Calls Try.prog 10 #[.agg (scv sA (some ⟨lb, 0, none⟩) 2).toArray, .int .i64 1, .int .i64 0] w _ := row_yes sA (some ⟨lb, 0, none⟩) 2 w sA_len hp sA_ok (Nat.le_refl _) 1 0 (by decide) (by decide)
  rw [show 1 + 1 = 2 from rfl, rA] at C
  clear hl hp e
  unfold Oper.wp execOp
  simp only [resolve, List.map_toArray, List.map_cons, List.map_nil, e1]
  go_simp
  refine C.mono ?_
  rintro e w' ⟨rfl, hb⟩
  exact ⟨_, rfl, hb, by unfold LV; rw [hd]; rfl⟩
theorem step_row2 {at_ : Array TypeId} (ht : sk t = .sag) (hd : sk d = .val (.int .i64 0)) :
    Step Try.prog (LV sk sb lb) Q ⟨some d, .call { callee := .value (.func 10), args := #[.tmp t, .const (.int .i64 2), .const (.int .i64 0)], argTypes := at_ }, ty, pos, after, gd⟩ := by
  intro a w hl
  obtain ⟨e, hp⟩ := (hl t (mem_looks (by show Operand.tmp t ∈ [Operand.func _, .tmp t, _, _]; simp))).at ht
  have e1 : a.eval (.tmp t) = .agg (scv sA (some ⟨lb, 0, none⟩) 2).toArray := e
  have C := row_no sA (some ⟨lb, 0, none⟩) 2 w sA_len hp 2 0 hA2
  clear hl hp e
  unfold Oper.wp execOp
  simp only [resolve, List.map_toArray, List.map_cons, List.map_nil, e1]
  go_simp
  refine C.mono ?_
  rintro e w' ⟨rfl, hb⟩
  exact ⟨_, rfl, hb, by unfold LV; rw [hd]; rfl⟩
end
end Jd
end Go.Proofs.Ytchnnpaebggfdaa
