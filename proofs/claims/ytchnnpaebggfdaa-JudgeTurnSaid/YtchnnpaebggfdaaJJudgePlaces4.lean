/-
  The iterator of places of package judge (points, and signals, both rising): a contract by walking the Go text, for every loop body. Conditions: how many points there are.
  'x = append(x, f(..)...)' where x lies in a box, in a region that draws its order: what the call, the append and the store do, phase by phase. No function of the program is walked here. No conditions beyond those said.
  The iterator of complaints of package judge: a contract by walking the Go text, for every loop body that leaves what it holds as it is. Conditions: that the scene is right, has as many points as there are outputs, and how they lie.
  The iterator of complaints of package judge, walked: what it tells, in turn. Conditions: that the scene is right, has as many points as there are outputs, and how they lie.
-/
import Derived.Test.YtchnnpaebggfdaaJJudgeMem2
import Derived.Test.YtchnnpaebggfdaaJTripSeq4
import Derived.Test.YtchnnpaebggfdaaJRounds4
import Derived.RegionTactic
import Derived.BigQuiet
import Derived.RangeFuncNested
import Derived.RangeFuncBound
import Derived.RangeFuncCalls
import Derived.RangeFuncLeaves
import Derived.Shelf.Abstract
import Derived.Shelf.RegionOpen
import Derived.OwnWalkIn
import Derived.TacticsInMore
import Derived.LoopNIn
import Derived.LoopIn
import Derived.Test.YtchnnpaebggfdaaJAppend3
import Derived.Maps.AppendAt
import Derived.Test.YtchnnpaebggfdaaJJudgeWord2
import Derived.Test.YtchnnpaebggfdaaJFixMaskRef3
namespace Go.Proofs.Ytchnnpaebggfdaa
set_option maxRecDepth 100000
open Go.ChangeShapes Go.WideShapes Go.ChangeAt Go.RowKit Go.Deep Go.Shelf
namespace Jd
open Rf
attribute [local go_sem] Oper.semAt_some
def encp (m : Nat) (x : Fin (8 * m)) : Array Value := #[.int .i64 ((x.val / 8 : Nat) : Int), .int .i64 ((x.val % 8 : Nat) : Int)]
theorem range_snoc {m k : Nat} {pre : List (Fin m)} (h : pre.map Fin.val = List.range k) (hk : k < m) : (pre ++ [(⟨k, hk⟩ : Fin m)]).map Fin.val = List.range (k + 1) := by
  rw [List.map_append, h, List.range_succ]; rfl
set_option maxRecDepth 100000 in
set_option maxHeartbeats 1600000 in
theorem places_goes (n : Nat) (hn : 1 ≤ n) (B m l : Nat) (hm : m ≤ 10000) (V : World) (hB : V.cell? ⟨B, 0, none⟩ = some (.int .i64 m)) :
    Goes Fence.wide n Try.prog 47 #[.pointer (some ⟨B, 0, none⟩)] (encp m) (fun _ _ => True) (fun xs => xs.map Fin.val = List.range (8 * m)) (fun _ => True) (8 * m) (fun pre x => pre.map Fin.val = List.range x.val) l V := by
  intro J Jx _ _ hY h0
  refine callsIn_of_wp Try.func47 rfl trivial ?_ rfl
  simp only [Try.ntmps47, List.size_toArray, List.length_cons, List.length_nil, Nat.reduceAdd, Nat.reduceSub, Array.replicate_succ, Array.replicate_zero, List.push_toArray, List.append_toArray, List.nil_append, List.cons_append]
  gi_wp2
  clear hB
  gi_loopw [6, 9] (fun s6 _ wr => ∃ (i : Nat) (pre : List (Fin (8 * m))), i ≤ m ∧ s6 = .int .i64 i ∧ pre.map Fin.val = List.range (8 * i) ∧ J pre wr)
    (fun s6 _ _ => m - (intOf s6).toNat)
  case atStart => exact ⟨0, [], Nat.zero_le _, rfl, rfl, h0⟩
  case round =>
    obtain ⟨i, pre, hi, rfl, hpre, hJs⟩ := hrel
    by_cases hlt : i < m
    · have hli : (i : Int) < (m : Int) := by omega
      gi_wp2
      gi_loopw [9] (fun s9 wr => ∃ (k : Nat) (pre : List (Fin (8 * m))), k ≤ 8 ∧ s9 = .int .i64 k ∧ pre.map Fin.val = List.range (8 * i + k) ∧ J pre wr)
        (fun s9 _ => 8 - (intOf s9).toNat)
      case atStart => exact ⟨0, pre, Nat.zero_le _, rfl, hpre, hJs⟩
      case round =>
        clear hpre hJs
        obtain ⟨k, pre, hk, rfl, hpre, hJs⟩ := hrel
        have hlenp : pre.length = 8 * i + k := by have := congrArg List.length hpre; simpa using this
        by_cases hl8 : k < 8
        · have hki : (k : Int) < 8 := by omega
          have hp : 8 * i + k < 8 * m := by omega
          obtain ⟨fn, tmps, assign, body, hy, hYR⟩ := hY pre ⟨8 * i + k, hp⟩ wr hJs (by omega) hpre
          dsimp only [encp] at hy
          rw [show (8 * i + k) / 8 = i by omega, show (8 * i + k) % 8 = k by omega] at hy
          have HS := Lib.hid (range_snoc hpre hp)
          clear hpre
          gi_wp2
          refine hYR.mono ?_
          rintro e W3 (⟨rfl, hJ3, -⟩ | ⟨rfl, hJx3, -⟩)
          · gi_wp2
            go_roundw
            case rel => exact ⟨k + 1, pre ++ [⟨8 * i + k, hp⟩], by omega, by simp, by rw [HS.out, Nat.add_assoc], hJ3⟩
            case measure => simp [intOf]; omega
          · gi_wp2
            refine bodyPost_ret (results_none rfl _ _ _) rfl ?_
            exact ⟨⟨_, rfl⟩, .inr ⟨_, trivial, hJx3⟩⟩
        · obtain rfl : k = 8 := by omega
          have HP := Lib.hid hpre
          clear hpre
          gi_wp2
          go_roundw
          case rel => exact ⟨i + 1, pre, by omega, by simp, by rw [HP.out, Nat.mul_add], hJs⟩
          case measure => simp [intOf]; omega
    · obtain rfl : i = m := by omega
      gi_wp2
      go_end0
      exact ⟨⟨_, rfl⟩, .inl ⟨pre, hpre, hJs⟩⟩
end Jd
end Go.Proofs.Ytchnnpaebggfdaa

namespace Go.Proofs.Ytchnnpaebggfdaa
set_option maxRecDepth 100000
open Go.ChangeShapes Go.WideShapes Go.ChangeAt Go.RowKit Go.Deep Go.Shelf
namespace Ab
theorem owns_grow {base : Nat} {e : TypeId} {n : Nat} {X Y : World} {v : Value} {k : Nat} {xs : List Value} (h : X.ownsRow base e n v k xs) (b : Below X.heap.size X Y) : Y.ownsRow base e n v k xs := by
  rcases h with ⟨hl, ⟨rfl, h0⟩ | ⟨g, cap, cur, rfl, hb, hh, q⟩⟩
  · exact ⟨hl, Or.inl ⟨rfl, h0⟩⟩
  · refine ⟨hl, Or.inr ⟨g, cap, cur, rfl, hb, (b.block g ?_).trans hh, q⟩⟩
    rcases Nat.lt_or_ge g X.heap.size with k | k
    · exact k
    · rw [Array.getElem?_eq_none k] at hh; cases hh
theorem keeps_below {X Y : World} (b : Below X.heap.size X Y) : KeepsOthers X Y :=
  ⟨b.size, fun k _ hk _ => (b.block k (Array.getElem?_eq_some_iff.1 hk).1).trans hk⟩
theorem boxed_on {X Y : World} {g : Nat} {t : TypeId} {v : Value} (h : Boxed X g t v) (b : Below X.heap.size X Y) : Boxed Y g t v := (b.block g h.lt).trans h
section
variable {P : Program} {X Y Z : World} {base bx : Nat} {T te : TypeId} {v : Value} {ls ns : List Int}
/-- The phases: ahead of the call; behind it (its result is the first place); behind the append (the second place); behind the store. -/
def Ph (X : World) (base bx : Nat) (T te : TypeId) (v : Value) (ls ns : List Int) : Nat → List Value → World → Prop
  | 0, _, Y => Below X.heap.size X Y
  | 1, vs, Y => Below X.heap.size X Y ∧ ∃ a cap, vs.getD 0 undef = .slice a ns.length cap ∧ IntsAt .u8 Y a ns
  | 2, vs, Y => (Below base X Y ∧ KeepsOthers X Y) ∧ Boxed Y bx T v ∧ OwnI .u8 base te Y (vs.getD 1 undef) (ls ++ ns)
  | _, _, Y => (Below base X Y ∧ KeepsOthers X Y) ∧ ∃ v', Boxed Y bx T v' ∧ OwnI .u8 base te Y v' (ls ++ ns)
theorem Ph.grow (hX : base ≤ X.heap.size) : ∀ (k : Nat) (vs : List Value) {Y Z : World}, Ph X base bx T te v ls ns k vs Y → Below Y.heap.size Y Z → Ph X base bx T te v ls ns k vs Z
  | 0, _, _, _, h, b => Go.Proofs.Ytchnnpaebggfdaa.grow h b
  | 1, _, _, _, ⟨h, a, cap, e, i⟩, b => ⟨Go.Proofs.Ytchnnpaebggfdaa.grow h b, a, cap, e, i.below b⟩
  | 2, _, _, _, ⟨⟨h1, h2⟩, h3, h4⟩, b => ⟨⟨h1.trans (b.mono (Nat.le_trans hX h1.size)), h2.trans (keeps_below b)⟩, boxed_on h3 b, owns_grow h4 b⟩
  | _ + 3, _, _, _, ⟨⟨h1, h2⟩, v', h3, h4⟩, b => ⟨⟨h1.trans (b.mono (Nat.le_trans hX h1.size)), h2.trans (keeps_below b)⟩, v', boxed_on h3 b, owns_grow h4 b⟩
/-- Up to the append the box is as it was. -/
theorem Ph.box (hb : Boxed X bx T v) : ∀ (k : Nat) (vs : List Value) {Y : World}, k ≤ 2 → Ph X base bx T te v ls ns k vs Y → Boxed Y bx T v
  | 0, _, _, _, h => boxed_on hb h
  | 1, _, _, _, h => boxed_on hb h.1
  | 2, _, _, _, h => h.2.1
  | _ + 3, _, _, h, _ => by omega
theorem Ph.low : ∀ (k : Nat) (vs : List Value) {Y : World}, base ≤ X.heap.size → Ph X base bx T te v ls ns k vs Y → Below base X Y
  | 0, _, _, h, q => q.mono h
  | 1, _, _, h, q => q.1.mono h
  | 2, _, _, _, q => q.1.1
  | _ + 3, _, _, _, q => q.1.1
end
end Ab
end Go.Proofs.Ytchnnpaebggfdaa

namespace Go.Proofs.Ytchnnpaebggfdaa
set_option maxRecDepth 100000
open Go.ChangeShapes Go.WideShapes Go.ChangeAt Go.RowKit Go.Deep Go.Shelf
namespace Jd
open Cf (G CA)
open Sc (Sn Pt Ok PsAt PtOk pt scv ptv Lens At Bd loadS NN far)
open Ot (Ou ouc)
open Rf
attribute [local go_sem] Oper.semAt_some
/-- A place of which there is something to complain. -/
abbrev Cp (s : Sn) (ls : List Ou) : Type := { p : Nat // p < 8 * ls.length ∧ bad s ls p = true }
def cmv (s : Sn) (ls : List Ou) (p : Nat) : List Value := [.int .i64 ((p / 8 : Nat) : Int), .int .i64 ((p % 8 : Nat) : Int), .string (wa s ls p)]
def encc (s : Sn) (ls : List Ou) (x : Cp s ls) : Array Value := #[.agg (cmv s ls x.1).toArray]
def selc (s : Sn) (ls : List Ou) (xs : List (Fin (8 * ls.length))) : List (Cp s ls) := xs.filterMap fun x => if h : bad s ls x.val = true then some ⟨x.val, x.isLt, h⟩ else none
section
variable {s : Sn} {ls : List Ou}
theorem selc_yes (xs : List (Fin (8 * ls.length))) (x : Fin (8 * ls.length)) (h : bad s ls x.val = true) : selc s ls (xs ++ [x]) = selc s ls xs ++ [⟨x.val, x.isLt, h⟩] := by
  unfold selc; rw [List.filterMap_append]; simp [h]
theorem selc_no (xs : List (Fin (8 * ls.length))) (x : Fin (8 * ls.length)) (h : bad s ls x.val = false) : selc s ls (xs ++ [x]) = selc s ls xs := by
  unfold selc; rw [List.filterMap_append]; simp [h]
theorem selc_len (xs : List (Fin (8 * ls.length))) : (selc s ls xs).length ≤ xs.length := List.length_filterMap_le _ _
theorem selc_map (xs : List (Fin (8 * ls.length))) : (selc s ls xs).map (·.1) = (xs.map Fin.val).filter (bad s ls) := by
  induction xs with
  | nil => rfl
  | cons x t ih =>
    unfold selc at ih ⊢
    cases h : bad s ls x.val
    · simp [h, ih]
    · simp [h, ih]
end
theorem round_any {n m lp l : Nat} {P : Program} {fn : FuncId} {tmps : Array Value} {assign body : Code} {w : World} {R : Ending → World → Prop} (h : RoundIn Fence.wide n P l fn tmps assign body w R) : RoundIn (Fence.wide.inRound lp) m P l fn tmps assign body w R :=
  ⟨trivial, fun c cs _ => h.2 c cs (fun _ q => by cases q)⟩
/-- What a round of such an iterator leaves as it is. -/
def Kb (A gs gl v : Nat) (X Y : World) : Prop := But (fun k => ¬ (k < A ∨ k = gs ∨ k = gl ∨ (v ≤ k ∧ k < v + 3))) X Y ∧ KeepsFrom v X Y
theorem Kb.trans {A gs gl v : Nat} {X Y Z : World} (h : Kb A gs gl v X Y) (k : Kb A gs gl v Y Z) : Kb A gs gl v X Z := ⟨h.1.trans k.1, h.2.trans k.2⟩
theorem kb_two {g v : Nat} {w0 X Y : World} {t : TypeId} {cs : List Value} (h : Below w0.heap.size w0 X) (r : VRow X g t cs) (k : Kb w0.heap.size g g v X Y) : Below w0.heap.size w0 Y ∧ VRow Y g t cs :=
  ⟨⟨k.1.os.trans h.os, k.1.tape.trans h.tape, k.1.output.trans h.output, Nat.le_trans h.size k.1.size, fun i hi => (k.1.block i (Nat.lt_of_lt_of_le hi h.size) (fun e => e (Or.inl hi))).trans (h.block i hi)⟩, r.but k.1 (fun e => e (Or.inr (Or.inl rfl)))⟩
theorem range_cells {w0 X : World} {b off : Nat} {cs : List Value} (h : Below w0.heap.size w0 X) (r : w0.rangeAt b off cs) : X.rangeAt b off cs := range_below r h
/-- What the iterator holds, behind p places. -/
structure Iv (w0 X : World) (s : Sn) (a : Option Addr) (cap : Nat) (al : Option Addr) (m lcap gs gl v l p : Nat) : Prop where
  b : Below w0.heap.size w0 X
  sc : VRow X gs 27 (scv s a cap)
  ou : VRow X gl 28 [.slice al m lcap]
  y : VRow X v 86 [.func (.yield l) #[] #[]]
  r : VRow X (v + 1) 52 (cellsI .i64 (rw8 s p))
  z : v + 3 ≤ X.heap.size
section
variable {w0 X Y : World} {s : Sn} {a : Option Addr} {cap : Nat} {al : Option Addr} {m lcap gs gl v l p : Nat}
theorem Iv.on (h : Iv w0 X s a cap al m lcap gs gl v l p) (hb : Below X.heap.size X Y) : Iv w0 Y s a cap al m lcap gs gl v l p :=
  ⟨h.b.trans (hb.mono h.b.size), h.sc.below hb h.sc.lt, h.ou.below hb h.ou.lt, h.y.below hb h.y.lt, h.r.below hb h.r.lt, Nat.le_trans h.z hb.size⟩
theorem Iv.kept (h : Iv w0 X s a cap al m lcap gs gl v l p) (k : Kb w0.heap.size gs gl v X Y) : Iv w0 Y s a cap al m lcap gs gl v l p := by
  have st : ∀ {g : Nat} {t : TypeId} {cs : List Value}, VRow X g t cs → (g < w0.heap.size ∨ g = gs ∨ g = gl ∨ (v ≤ g ∧ g < v + 3)) → VRow Y g t cs := fun r q => r.but k.1 (fun e => e q)
  exact ⟨⟨k.1.os.trans h.b.os, k.1.tape.trans h.b.tape, k.1.output.trans h.b.output, Nat.le_trans h.b.size k.1.size, fun i hi => (k.1.block i (Nat.lt_of_lt_of_le hi h.b.size) (fun e => e (Or.inl hi))).trans (h.b.block i hi)⟩,
    st h.sc (Or.inr (Or.inl rfl)), st h.ou (Or.inr (Or.inr (Or.inl rfl))), st h.y (Or.inr (Or.inr (Or.inr (by omega)))), st h.r (Or.inr (Or.inr (Or.inr (by omega)))), Nat.le_trans h.z k.1.size⟩
theorem Iv.row (h : Iv w0 X s a cap al m lcap gs gl v l p) (hs : gs < v) (hl : gl < v) (hv : w0.heap.size ≤ v) (x : Int) (hx : x = (rowc s (p % 8) (p / 8 + 1) : Int)) : Iv w0 (X.setCell ⟨v + 1, p % 8, none⟩ (.int .i64 x)) s a cap al m lcap gs gl v l (p + 1) := by
  refine ⟨h.b.setCell (p := ⟨v + 1, p % 8, none⟩) (show w0.heap.size ≤ v + 1 by omega) _, h.sc.setOther (p := ⟨v + 1, p % 8, none⟩) (show gs ≠ v + 1 by omega) _, h.ou.setOther (p := ⟨v + 1, p % 8, none⟩) (show gl ≠ v + 1 by omega) _, h.y.setOther (p := ⟨v + 1, p % 8, none⟩) (show v ≠ v + 1 by omega) _, ?_, by simpa [World.setCell] using h.z⟩
  have := h.r.set (p % 8) (.int .i64 x)
  rwa [← cellsI_set, hx, rw8_next, ← hx] at this
theorem grown_on {X Y : World} (b : Below X.heap.size X Y) : X.grownBy Y none := ⟨b.os, b.tape, b.output, b.size, fun k hk _ => b.block k hk⟩
theorem grown_set (X : World) (g j : Nat) (u : Value) : X.grownBy (X.setCell ⟨g, j, none⟩ u) (some g) :=
  ⟨rfl, rfl, rfl, by simp [World.setCell], fun k _ hk => heap_setCell_other X ⟨g, j, none⟩ k u (fun e => hk (by rw [e]))⟩
theorem Iv.own {n₀ : Nat} (hs : gs < v) (hl : gl < v) (hv : w0.heap.size ≤ v) (hn : v + 3 ≤ n₀) {row : Option Nat} (h : Iv w0 X s a cap al m lcap gs gl v l p) (hg : X.grownBy Y row) (hr : ∀ r, row = some r → n₀ ≤ r ∧ ∃ o : Obj, X.heap[r]? = some o ∧ o.isCells = false) : Iv w0 Y s a cap al m lcap gs gl v l p := by
  have st : ∀ {g : Nat} {t : TypeId} {cs : List Value}, VRow X g t cs → g < n₀ → VRow Y g t cs := fun r q => (hg.block _ r.lt (fun e => by have := (hr _ e.symm).1; omega)).trans r
  exact ⟨h.b.grown hg h.b.size (fun k e => by have := (hr k e).1; omega), st h.sc (by omega), st h.ou (by omega), st h.y (by omega), st h.r (by omega), Nat.le_trans h.z hg.size⟩
end
/-- It all, while a round goes on that began in the world W. -/
structure Cu (J : World → Prop) (W w0 X : World) (s : Sn) (a : Option Addr) (cap : Nat) (al : Option Addr) (m lcap gs gl v l p : Nat) : Prop where
  iv : Iv w0 X s a cap al m lcap gs gl v l p
  j : J X
  k : KeepsFrom (v + 3) W X
section
variable {J : World → Prop} {W w0 X Y : World} {s : Sn} {a : Option Addr} {cap : Nat} {al : Option Addr} {m lcap gs gl v l p : Nat}
theorem Cu.on (hJ : OwnTo (β := Unit) v (v + 3) (fun _ => J)) (h : Cu J W w0 X s a cap al m lcap gs gl v l p) (b : Below X.heap.size X Y) : Cu J W w0 Y s a cap al m lcap gs gl v l p :=
  ⟨h.iv.on b, hJ () _ _ none h.j (grown_on b) (fun r e => by cases e), h.k.trans ((Ab.keeps_below b).from _)⟩
theorem Cu.row (hJ : OwnTo (β := Unit) v (v + 3) (fun _ => J)) (h : Cu J W w0 X s a cap al m lcap gs gl v l p) (hs : gs < v) (hl : gl < v) (hv : w0.heap.size ≤ v) (x : Int) (hx : x = (rowc s (p % 8) (p / 8 + 1) : Int)) :
    Cu J W w0 (X.setCell ⟨v + 1, p % 8, none⟩ (.int .i64 x)) s a cap al m lcap gs gl v l (p + 1) :=
  ⟨h.iv.row hs hl hv x hx, hJ () _ _ (some (v + 1)) h.j (grown_set _ _ _ _) (fun r e => by cases e; exact ⟨by omega, Or.inl (by omega)⟩), h.k.trans ((KeepsOthers.setCell _ _ _).from _)⟩
end
end Jd
end Go.Proofs.Ytchnnpaebggfdaa

namespace Go.Proofs.Ytchnnpaebggfdaa
set_option maxRecDepth 100000
open Go.ChangeShapes Go.WideShapes Go.ChangeAt Go.RowKit Go.Deep Go.Shelf
namespace Jd
open Cf (G CA)
open Sc (Sn Pt Ok PsAt PtOk pt scv ptv Lens At Bd loadS NN far)
open Ot (Ou ouc)
open Rf
attribute [local go_sem] Oper.semAt_some
theorem row_rng {w : World} {g : Nat} {t : TypeId} {cs : List Value} (h : VRow w g t cs) : w.rangeAt g 0 cs := fun j v hv => by rw [Nat.zero_add]; exact h.cell j hv
set_option maxRecDepth 100000 in
set_option maxHeartbeats 6400000 in
theorem complaints_goes (n : Nat) (hn : 2 ≤ n) (w0 : World) (s : Sn) (a : Option Addr) (cap : Nat) (al : Option Addr) (lcap : Nat) (ls : List Ou) (L : Lens s) (H : Ok s) (hp : PsAt w0 a s.ps) (hcap : s.ps.length ≤ cap) (ho : OutsAt w0 al ls) (hlen : ls.length = s.ps.length)
    (gs gl l : Nat) (V : World) (hV : Below w0.heap.size w0 V) (hs : VRow V gs 27 (scv s a cap)) (hl : VRow V gl 28 [.slice al ls.length lcap]) :
    GoesM Fence.wide n Try.prog 33 #[.pointer (some ⟨gl, 0, none⟩), .pointer (some ⟨gs, 0, none⟩)] (encc s ls) (Kb w0.heap.size gs gl V.heap.size) (fun xs => xs.map (·.1) = bads s ls (8 * ls.length)) (fun _ => True)
      (8 * ls.length) (fun pre x => pre.map (·.1) = bads s ls x.1) (V.heap.size + 3) l V := by
  intro J Jx hJ hJx hY h0
  have hsl := hs.lt
  have hll := hl.lt
  have hvv := hV.size
  have hm := H.few
  rw [← hlen] at hm
  have D0 := Lib.hid (And.intro L (And.intro hp (And.intro ho (And.intro H (And.intro hcap hlen)))))
  refine callsIn_of_wp_marks Try.func33 rfl trivial ?_ rfl
  simp only [Try.ntmps33, List.size_toArray, List.length_cons, List.length_nil, Nat.reduceAdd, Nat.reduceSub, Array.replicate_succ, Array.replicate_zero, List.push_toArray, List.append_toArray, List.nil_append, List.cons_append]
  have hn1 : 1 ≤ n := by omega
  have B1 := Lib.hid ((Below.refl V.heap.size V).alloc (Nat.le_refl _) (.cells #[.func (.yield l) #[] #[]] 86))
  have B2 := Lib.hid (B1.out.alloc (by simp) (.cells #[.int .i64 0, .int .i64 0, .int .i64 0, .int .i64 0, .int .i64 0, .int .i64 0, .int .i64 0, .int .i64 0] 52))
  have B3 := Lib.hid (B2.out.alloc (by simp; omega) (.cells #[.int .i64 (ls.length : Nat)] 3))
  have r1 := VRow.new V [.func (.yield l) #[] #[]] 86
  have r2 := VRow.new (V.alloc (.cells #[.func (.yield l) #[] #[]] 86)) [.int .i64 0, .int .i64 0, .int .i64 0, .int .i64 0, .int .i64 0, .int .i64 0, .int .i64 0, .int .i64 0] 52
  rw [World.size_alloc] at r2
  have r3 := VRow.new ((V.alloc (.cells #[.func (.yield l) #[] #[]] 86)).alloc (.cells #[.int .i64 0, .int .i64 0, .int .i64 0, .int .i64 0, .int .i64 0, .int .i64 0, .int .i64 0, .int .i64 0] 52)) [.int .i64 (ls.length : Nat)] 3
  rw [World.size_alloc, World.size_alloc] at r3
  have cl := ((hl.below B2.out hll).cell 0 (v := .slice al ls.length lcap) rfl)
  have I0 := Lib.hid (show Iv w0 (((V.alloc (.cells #[.func (.yield l) #[] #[]] 86)).alloc (.cells #[.int .i64 0, .int .i64 0, .int .i64 0, .int .i64 0, .int .i64 0, .int .i64 0, .int .i64 0, .int .i64 0] 52)).alloc (.cells #[.int .i64 (ls.length : Nat)] 3)) s a cap al ls.length lcap gs gl V.heap.size l 0 from
    ⟨hV.trans (B3.out.mono hvv), hs.below B3.out hsl, hl.below B3.out hll, (r1.alloc _).alloc _, r2.alloc _, by simp⟩)
  have J0 := Lib.hid (hJ.from.alloc (.cells #[.int .i64 (ls.length : Nat)] 3) (hJ.from.alloc (.cells #[.int .i64 0, .int .i64 0, .int .i64 0, .int .i64 0, .int .i64 0, .int .i64 0, .int .i64 0, .int .i64 0] 52) (hJ.from.alloc (.cells #[.func (.yield l) #[] #[]] 86) h0)))
  have R3 := Lib.hid r3
  have CP := Lib.hid (fun W => callsIn_wide (n := n - 1) |>.2 (places_any (ls.length : Nat) W))
  clear h0 hs hl hV L H hp hcap ho r1 r2 r3 B1 B2
  have HLEN := Lib.hid hlen
  have hm8 : ls.length ≤ 9223372036854775807 := by omega
  have HM := Lib.hid hm
  clear hlen hm
  gi_wp2_with (refine ⟨trivial, ?_⟩; gi_at_call 34; refine (CP.out _).mono ?_; rintro e w2 ⟨rfl, rfl⟩)
  have hsz : (((V.alloc (.cells #[.func (.yield l) #[] #[]] 86)).alloc (.cells #[.int .i64 0, .int .i64 0, .int .i64 0, .int .i64 0, .int .i64 0, .int .i64 0, .int .i64 0, .int .i64 0] 52)).alloc (.cells #[.int .i64 (ls.length : Nat)] 3)).heap.size = V.heap.size + 3 := by simp
  clear cl CP
  generalize ((V.alloc (.cells #[.func (.yield l) #[] #[]] 86)).alloc (.cells #[.int .i64 0, .int .i64 0, .int .i64 0, .int .i64 0, .int .i64 0, .int .i64 0, .int .i64 0, .int .i64 0] 52)).alloc (.cells #[.int .i64 (ls.length : Nat)] 3) = W0 at *
  refine range_goes rfl (by omega) (gf := 47) (lb := #[.pointer (some ⟨V.heap.size + 1 + 1, 0, none⟩)]) rfl trivial (enters_of Try.func47 (by kernel_rfl) rfl)
    (Kp := fun _ _ => True) (encs := encp ls.length) (fun V' b' _ => places_goes _ (by omega) (V.heap.size + 1 + 1) ls.length _ HM.out V' ((R3.out.below b' R3.out.lt).cell 0 rfl))
    (fun _ _ => trivial) (fun _ _ _ _ _ _ _ _ => trivial) (fun _ => rfl)
    (fun pre X => J (selc s ls pre) X ∧ Iv w0 X s a cap al ls.length lcap gs gl V.heap.size l pre.length)
    (fun c pre X => c = .ret ∧ Jx (selc s ls pre) X)
    (OwnFrom.and (fun t X Y row h hg hr => hJ.from _ X Y row h hg (fun r e => ⟨by have := (hr r e).1; omega, (hr r e).2⟩)) (fun t X Y row h hg hr => h.own hsl hll hvv (by omega) hg hr))
    (fun c => OwnFrom.and (ownFrom_pure _ _) (fun t X Y row h hg hr => hJx.from _ X Y row h hg (fun r e => ⟨by have := (hr r e).1; omega, (hr r e).2⟩)))
    ⟨J0.out, I0.out⟩
    (fun x => { tmps := #[.func (.yield l) #[] #[], .pointer (some ⟨gl, 0, none⟩), .pointer (some ⟨gs, 0, none⟩), .pointer (some ⟨V.heap.size, 0, none⟩), .pointer (some ⟨V.heap.size + 1, 0, none⟩), .int .i64 ((x.val / 8 : Nat) : Int), .int .i64 ((x.val % 8 : Nat) : Int), undef, undef, .slice al ls.length lcap, .int .i64 (ls.length : Nat),
      .func (.func 47) #[] #[.pointer (some ⟨V.heap.size + 1 + 1, 0, none⟩)], .int .i64 ((x.val / 8 : Nat) : Int), .int .i64 ((x.val % 8 : Nat) : Int), undef, undef, undef, undef, undef, undef, undef, undef, undef, undef, undef, undef, undef, undef, undef, undef, undef, undef, undef, undef, undef, undef, undef, undef, undef, undef, undef, undef, undef, undef, undef, undef, undef, undef], defers := [] }) ?assign ?body ?done ?stop
  case assign =>
    intro lp x W K hK
    dsimp only [encp]
    generalize ((x.val / 8 : Nat) : Int) = xi at *
    generalize ((x.val % 8 : Nat) : Int) = xk at *
    gi_wp2
    exact hK
  case body =>
    rintro lp pre x W ⟨hj, hI⟩ - hG
    have hpl : pre.length = x.val := by have := congrArg List.length hG; simpa using this
    have hx := x.isLt
    obtain ⟨L, hp, ho, H, hcap, hlen⟩ := D0.out
    have hi : x.val / 8 < ls.length := by omega
    have hi' : x.val / 8 < s.ps.length := by rw [← hlen]; exact hi
    have hk : x.val % 8 < 8 := Nat.mod_lt _ (by decide)
    obtain ⟨ob, off, rfl, KO, HRO⟩ := ho.at_ hi
    have HJ' := Lib.hid (show OwnTo (β := Unit) V.heap.size (V.heap.size + 3) (fun _ => J (selc s ls pre)) from fun _ X Y row h hg hr => hJ _ X Y row h hg hr)
    rw [hpl] at hI
    have C0 := Lib.hid (show Cu (J (selc s ls pre)) W w0 W s a cap _ ls.length lcap gs gl V.heap.size l x.val from ⟨hI, hj, KeepsFrom.refl _ _⟩)
    have HGs : (selc s ls pre).map (·.1) = bads s ls x.val := by rw [selc_map, hG]; rfl
    have HYS := Lib.hid (fun X h hz (hb : bad s ls x.val = true) => hY (selc s ls pre) ⟨x.val, x.isLt, hb⟩ X h (by have := selc_len (s := s) (ls := ls) pre; omega) HGs hz)
    have HSN := Lib.hid (fun h => selc_no (s := s) (ls := ls) pre x h)
    have HSY := Lib.hid (fun h => selc_yes (s := s) (ls := ls) pre x h)
    have HPL := Lib.hid (show (pre ++ [x]).length = x.val + 1 by rw [List.length_append, hpl]; rfl)
    have HP0 := Lib.hid hp
    have CA := Lib.hid (fun X (b : Below w0.heap.size w0 X) => alone_any s a cap X L (hp.below b) (x.val / 8) hi' hcap)
    have CF := Lib.hid (fun X a' cap' (P : PsAt X a' (one s (x.val / 8)).ps) => (show Calls Try.prog 22 #[.agg (scv (one s (x.val / 8)) a' cap').toArray, .int .i64 0, .int .i64 ((x.val % 8 : Nat) : Int)] X fun e w' => e = .returned (.bool (far s (x.val / 8) (x.val % 8))) ∧ Below X.heap.size X w' from Sc.far_yes (one s (x.val / 8)) a' cap' X (one_lens L _) P (one_ok H hi') 0 (x.val % 8) (by rw [one_len]; decide) hk))
    have CW := Lib.hid (fun X a' cap' (P : PsAt X a' (one s (x.val / 8)).ps) => (show Calls Try.prog 35 #[.agg (scv (one s (x.val / 8)) a' cap').toArray, .agg (ouc (ou ls (x.val / 8))).toArray, .int .i64 ((x.val % 8 : Nat) : Int), .int .i64 (rowc s (x.val % 8) (x.val / 8 + 1) : Nat)] X fun e w' => e = .returned (.string (wa s ls x.val)) ∧ Below X.heap.size X w' from by
      have h := word_any (one s (x.val / 8)) a' cap' X (one_lens L _) P (one_ok H hi') (by rw [one_len]; decide) (ou ls (x.val / 8)) KO (x.val % 8) hk (rowc s (x.val % 8) (x.val / 8 + 1) : Nat)
      rw [wd_one] at h
      exact h))
    have HZS := Lib.hid (Sc.sizeS (a := a) (cap := cap) L)
    have HZ1 := Lib.hid (fun a' cap' => Sc.sizeS (a := a') (cap := cap') (one_lens L (x.val / 8)))
    have HL1 := Lib.hid (fun a' cap' => Sc.scv_len (a := a') (cap := cap') (one_lens L (x.val / 8)))
    have HA1 := Lib.hid (fun a' cap' => Sc.scv_all (s := one s (x.val / 8)) (a := a') (cap := cap'))
    have HZO := Lib.hid (Ot.sizeO KO)
    have HR := Lib.hid HRO
    have HR8 := Lib.hid (show (cellsI .i64 (rw8 s x.val))[x.val % 8]? = some (.int .i64 (rowc s (x.val % 8) (x.val / 8) : Nat)) by rw [cellsI_get _ _ _ (by rw [rw8_len]; exact hk), rw8_here])
    have HR9 := Lib.hid (show (cellsI .i64 (rw8 s (x.val + 1)))[x.val % 8]? = some (.int .i64 (rowc s (x.val % 8) (x.val / 8 + 1) : Nat)) by rw [cellsI_get _ _ _ (by rw [rw8_len]; exact hk), ← rw8_next, List.getD_eq_getElem?_getD, List.getElem?_set_self (by rw [rw8_len]; exact hk)]; rfl)
    have HROW := Lib.hid (fun X (h : Cu (J (selc s ls pre)) W w0 X s a cap (some ⟨ob, off, none⟩) ls.length lcap gs gl V.heap.size l x.val) z hz => h.row HJ'.out hsl hll hvv z hz)
    have HRY := Lib.hid (fun h => rowc_yes (s := s) (n := x.val % 8) (i := x.val / 8) h)
    have HRN := Lib.hid (fun h => rowc_no (s := s) (n := x.val % 8) (i := x.val / 8) h)
    have HRL := rowc_le s (x.val % 8) (x.val / 8)
    have hk8 : ((x.val % 8 : Nat) : Int) < 8 := by omega
    have hiL : ((x.val / 8 : Nat) : Int) < (ls.length : Int) := by omega
    have hi2 : ((x.val / 8 : Nat) : Int) ≤ 10000 := by have := HM.out; omega
    have HCM := Lib.hid (show ∀ hb, encc s ls (⟨x.val, x.isLt, hb⟩ : Cp s ls) = #[.agg #[.int .i64 ((x.val / 8 : Nat) : Int), .int .i64 ((x.val % 8 : Nat) : Int), .string (wa s ls x.val)]] from fun _ => rfl)
    have HEM := Lib.hid (show (wa s ls x.val).toList.isEmpty = !(bad s ls x.val) by
      unfold bad
      rw [Bool.not_not, Bool.eq_iff_iff, decide_eq_true_eq, List.isEmpty_iff, ByteArray.toList_eq, ByteArray.ext_iff]
      simp)
    clear L hp ho H hcap hlen hi hi' hk KO HRO hI hj hpl HGs hG hx
    generalize x.val / 8 = i at *
    generalize x.val % 8 = k at *
    gi_wp2_with ((with_reducible show wpListIn _ _ _ _ _ (⟨some 14, _, _, _, _, _⟩ :: _) _ _); refine Ot.wpListIn_loadR rfl _ _ rfl gs 0 rfl (scv s a cap) _ (row_rng C0.out.iv.sc) Try.underlying27 rfl HZS.out ?_)
    refine ⟨trivial, fun q => (by cases q), (CallsIn.inRound lp (callsIn_wide.2 (CA.out _ C0.out.iv.b))).mono ?_⟩
    rintro e w2 ⟨a', cap', rfl, P2, b2⟩
    have P := Lib.hid (P2 w0 HP0.out)
    have C2 := Lib.hid (C0.out.on HJ'.out b2)
    have RN' := VRow.new w2 [.int .i64 0, .int .i64 0, .int .i64 0, .int .i64 0, .int .i64 0, .int .i64 0, .int .i64 0, .int .i64 0, .int .i64 0, .int .i64 0, .int .i64 0, .int .i64 0, .int .i64 0, .int .i64 0, .int .i64 0, .int .i64 0, .int .i64 0, .int .i64 0, .int .i64 0, .int .i64 0, .int .i64 0, .int .i64 0, .int .i64 0, .int .i64 0, .int .i64 0, .int .i64 0, .int .i64 0, .int .i64 0, .slice none 0 0] 27
    have RP' := VRow.put RN' (scv (one s i) a' cap')
    have C3 := Lib.hid (C2.out.on HJ'.out (Below.put ((Below.refl w2.heap.size w2).alloc (Nat.le_refl _) (.cells #[.int .i64 0, .int .i64 0, .int .i64 0, .int .i64 0, .int .i64 0, .int .i64 0, .int .i64 0, .int .i64 0, .int .i64 0, .int .i64 0, .int .i64 0, .int .i64 0, .int .i64 0, .int .i64 0, .int .i64 0, .int .i64 0, .int .i64 0, .int .i64 0, .int .i64 0, .int .i64 0, .int .i64 0, .int .i64 0, .int .i64 0, .int .i64 0, .int .i64 0, .int .i64 0, .int .i64 0, .int .i64 0, .slice none 0 0] 27)) (Nat.le_refl _) (scv (one s i) a' cap').toArray))
    have RN := Lib.hid RN'
    have RP := Lib.hid RP'
    clear b2 C0 C2 P2 RN' RP' CA
    gi_wp2_with (first
      | ((with_reducible show wpListIn _ _ _ _ _ (⟨none, .store _ (.tmp 7) _, _, _, _, _⟩ :: _) _ _); refine Ot.wpListIn_storeW rfl _ _ _ _ rfl w2.heap.size [.int .i64 0, .int .i64 0, .int .i64 0, .int .i64 0, .int .i64 0, .int .i64 0, .int .i64 0, .int .i64 0, .int .i64 0, .int .i64 0, .int .i64 0, .int .i64 0, .int .i64 0, .int .i64 0, .int .i64 0, .int .i64 0, .int .i64 0, .int .i64 0, .int .i64 0, .int .i64 0, .int .i64 0, .int .i64 0, .int .i64 0, .int .i64 0, .int .i64 0, .int .i64 0, .int .i64 0, .int .i64 0, .slice none 0 0] (scv (one s i) a' cap') rfl rfl RN.out (HZ1.out _ _) (by rw [HL1.out]; rfl) (HA1.out _ _) ?_)
      | ((with_reducible show wpListIn _ _ _ _ _ (⟨some 17, _, _, _, _, _⟩ :: _) _ _); refine Ot.wpListIn_loadR rfl _ _ rfl w2.heap.size 0 rfl (scv (one s i) a' cap') _ (row_rng RP.out) Try.underlying27 rfl (HZ1.out _ _) ?_))
    generalize (w2.alloc (.cells #[.int .i64 0, .int .i64 0, .int .i64 0, .int .i64 0, .int .i64 0, .int .i64 0, .int .i64 0, .int .i64 0, .int .i64 0, .int .i64 0, .int .i64 0, .int .i64 0, .int .i64 0, .int .i64 0, .int .i64 0, .int .i64 0, .int .i64 0, .int .i64 0, .int .i64 0, .int .i64 0, .int .i64 0, .int .i64 0, .int .i64 0, .int .i64 0, .int .i64 0, .int .i64 0, .int .i64 0, .int .i64 0, .slice none 0 0] 27)).setRow w2.heap.size (scv (one s i) a' cap').toArray = w3 at *
    generalize w2.heap.size = pb at *
    clear RN
    refine ⟨trivial, fun q => (by cases q), (CallsIn.inRound lp (callsIn_wide.2 (CF.out _ _ _ (P.out.below C3.out.iv.b)))).mono ?_⟩
    rintro e w4 ⟨rfl, b4⟩
    have C4 := Lib.hid (C3.out.on HJ'.out b4)
    have RP4 := Lib.hid (RP.out.below b4 RP.out.lt)
    clear b4 C3 RP CF
    have cr := C4.out.iv.r.cell k HR8.out
    have fr := C4.out.iv.r.frozen k
    have HNE := Lib.hid (show pb ≠ V.heap.size + 1 from Ws.row_ne RP4.out C4.out.iv.r (by decide))
    have STEP := Lib.hid (fun (z : Int) (hz : z = (rowc s k (i + 1) : Nat)) => And.intro (HROW.out w4 C4.out z hz) (RP4.out.setOther (p := ⟨V.heap.size + 1, k, none⟩) HNE.out (.int .i64 z)))
    clear HROW HR8 C4 RP4 HNE
    generalize hro : rowc s k i = ro at *
    generalize hrn : rowc s k (i + 1) = rn at *
    clear hro hrn
    cases hf : far s i k
    · have S5 := STEP.out 0 (by rw [HRN.out hf]; rfl)
      clear HRN HRY
      gi_wp2
      obtain ⟨C5', RP5'⟩ := S5
      generalize w4.setCell ⟨V.heap.size + 1, k, none⟩ (.int .i64 0) = w5 at *
      have C5 := Lib.hid C5'
      have HP5 := Lib.hid (P.out.below (C5.out.iv.b.drew))
      have RD5 := Lib.hid (show ∀ w', w' = w5.drew → w'.rangeAt pb 0 (scv (one s i) a' cap') by rintro _ rfl; exact row_rng RP5'.drew)
      have OD5 := Lib.hid (show ∀ w', w' = w5.drew → w'.rangeAt ob (off + i * 41) (ouc (ou ls i)) by rintro _ rfl; exact range_below HR.out C5.out.iv.b.drew)
      have cl5 := C5.out.iv.ou.cell 0 (v := .slice (some ⟨ob, off, none⟩) ls.length lcap) rfl
      have cr5 := C5.out.iv.r.cell k HR9.out
      clear C5' RP5' cr fr STEP
      refine Rn.wpIn_region_quiet_tail 9 (by kernel_rfl) (by kernel_rfl) (by kernel_rfl) (by rintro ⟨_, _, h⟩; exact h) ?_
      simp only [List.take_succ_cons, List.take_zero, List.drop_succ_cons, List.drop_zero]
      repeat (first
        | (with_reducible show wpQuiet _ _ _ _ (⟨some 27, _, _, _, _, _⟩ :: _) _
           refine wpQuiet_loadR rfl _ rfl pb 0 (scv (one s i) a' cap') rfl RD5.out _ Try.underlying27 rfl (HZ1.out _ _) ?_
           simp only [Act.put, List.setIfInBounds_toArray, List.set_cons_succ, List.set_cons_zero])
        | (with_reducible show wpQuiet _ _ _ _ (⟨some 31, _, _, _, _, _⟩ :: _) _
           refine wpQuiet_loadR rfl _ rfl ob (off + i * 41) (ouc (ou ls i)) rfl OD5.out _ Try.underlying57 rfl HZO.out ?_
           simp only [Act.put, List.setIfInBounds_toArray, List.set_cons_succ, List.set_cons_zero])
        | go_big_quiet_step (fail))
      refine wpQuiet_nil ?_
      go_wp2_with fail
      refine (CW.out _ _ _ HP5.out).mono ?_
      rintro e w6 ⟨rfl, b6⟩
      have C6 := Lib.hid (C5.out.on HJ'.out ((Below.refl w5.heap.size w5).drew.trans b6))
      clear b6 C5 HP5 RD5 OD5 cl5 cr5 CW
      have cy6 := C6.out.iv.y.cell 0 (v := .func (.yield l) #[] #[]) rfl
      cases hb : bad s ls x.val
      · have he : (wa s ls x.val).toList.isEmpty = true := by rw [HEM.out, hb]; rfl
        go_wp2_with fail
        gi_wp2
        refine ⟨fun f q => (by cases q), ?_⟩
        gi_wp2
        exact ⟨by rw [hsz]; exact C6.out.k, trivial, by rw [HSN.out hb]; exact C6.out.j, by rw [HPL.out]; exact C6.out.iv⟩
      · have he : (wa s ls x.val).toList.isEmpty = false := by rw [HEM.out, hb]; rfl
        obtain ⟨fn, tmps, assign, body, hy, hYR⟩ := HYS.out w6 C6.out.j C6.out.iv.z hb
        rw [HCM.out hb] at hy
        go_wp2_with fail
        gi_wp2
        refine ⟨fun q => (by cases q), (round_any hYR).mono ?_⟩
        rintro e W3 (⟨rfl, hJ3, hk3⟩ | ⟨rfl, hJx3, hk3⟩)
        · have K3 := Lib.hid hk3
          clear hk3
          gi_wp2
          exact ⟨by rw [hsz]; exact C6.out.k.trans (KeepsFrom.mono K3.out.2 (by omega)), trivial, by rw [HSY.out hb]; exact hJ3, by rw [HPL.out]; exact C6.out.iv.kept K3.out⟩
        · have K3 := Lib.hid hk3
          clear hk3
          gi_wp2
          exact ⟨by rw [hsz]; exact C6.out.k.trans (KeepsFrom.mono K3.out.2 (by omega)), trivial, rfl, by rw [HSY.out hb]; exact hJx3⟩
    · have S5 := STEP.out ((ro : Int) + 1) (by rw [HRY.out hf]; rfl)
      clear HRN HRY
      gi_wp2
      obtain ⟨C5', RP5'⟩ := S5
      generalize w4.setCell ⟨V.heap.size + 1, k, none⟩ (.int .i64 ((ro : Int) + 1)) = w5 at *
      have C5 := Lib.hid C5'
      have HP5 := Lib.hid (P.out.below (C5.out.iv.b.drew))
      have RD5 := Lib.hid (show ∀ w', w' = w5.drew → w'.rangeAt pb 0 (scv (one s i) a' cap') by rintro _ rfl; exact row_rng RP5'.drew)
      have OD5 := Lib.hid (show ∀ w', w' = w5.drew → w'.rangeAt ob (off + i * 41) (ouc (ou ls i)) by rintro _ rfl; exact range_below HR.out C5.out.iv.b.drew)
      have cl5 := C5.out.iv.ou.cell 0 (v := .slice (some ⟨ob, off, none⟩) ls.length lcap) rfl
      have cr5 := C5.out.iv.r.cell k HR9.out
      clear C5' RP5' cr fr STEP
      refine Rn.wpIn_region_quiet_tail 9 (by kernel_rfl) (by kernel_rfl) (by kernel_rfl) (by rintro ⟨_, _, h⟩; exact h) ?_
      simp only [List.take_succ_cons, List.take_zero, List.drop_succ_cons, List.drop_zero]
      repeat (first
        | (with_reducible show wpQuiet _ _ _ _ (⟨some 27, _, _, _, _, _⟩ :: _) _
           refine wpQuiet_loadR rfl _ rfl pb 0 (scv (one s i) a' cap') rfl RD5.out _ Try.underlying27 rfl (HZ1.out _ _) ?_
           simp only [Act.put, List.setIfInBounds_toArray, List.set_cons_succ, List.set_cons_zero])
        | (with_reducible show wpQuiet _ _ _ _ (⟨some 31, _, _, _, _, _⟩ :: _) _
           refine wpQuiet_loadR rfl _ rfl ob (off + i * 41) (ouc (ou ls i)) rfl OD5.out _ Try.underlying57 rfl HZO.out ?_
           simp only [Act.put, List.setIfInBounds_toArray, List.set_cons_succ, List.set_cons_zero])
        | go_big_quiet_step (fail))
      refine wpQuiet_nil ?_
      go_wp2_with fail
      refine (CW.out _ _ _ HP5.out).mono ?_
      rintro e w6 ⟨rfl, b6⟩
      have C6 := Lib.hid (C5.out.on HJ'.out ((Below.refl w5.heap.size w5).drew.trans b6))
      clear b6 C5 HP5 RD5 OD5 cl5 cr5 CW
      have cy6 := C6.out.iv.y.cell 0 (v := .func (.yield l) #[] #[]) rfl
      cases hb : bad s ls x.val
      · have he : (wa s ls x.val).toList.isEmpty = true := by rw [HEM.out, hb]; rfl
        go_wp2_with fail
        gi_wp2
        refine ⟨fun f q => (by cases q), ?_⟩
        gi_wp2
        exact ⟨by rw [hsz]; exact C6.out.k, trivial, by rw [HSN.out hb]; exact C6.out.j, by rw [HPL.out]; exact C6.out.iv⟩
      · have he : (wa s ls x.val).toList.isEmpty = false := by rw [HEM.out, hb]; rfl
        obtain ⟨fn, tmps, assign, body, hy, hYR⟩ := HYS.out w6 C6.out.j C6.out.iv.z hb
        rw [HCM.out hb] at hy
        go_wp2_with fail
        gi_wp2
        refine ⟨fun q => (by cases q), (round_any hYR).mono ?_⟩
        rintro e W3 (⟨rfl, hJ3, hk3⟩ | ⟨rfl, hJx3, hk3⟩)
        · have K3 := Lib.hid hk3
          clear hk3
          gi_wp2
          exact ⟨by rw [hsz]; exact C6.out.k.trans (KeepsFrom.mono K3.out.2 (by omega)), trivial, by rw [HSY.out hb]; exact hJ3, by rw [HPL.out]; exact C6.out.iv.kept K3.out⟩
        · have K3 := Lib.hid hk3
          clear hk3
          gi_wp2
          exact ⟨by rw [hsz]; exact C6.out.k.trans (KeepsFrom.mono K3.out.2 (by omega)), trivial, rfl, by rw [HSY.out hb]; exact hJx3⟩
  case done =>
    rintro D' xs W hD' hxs ⟨hj, -⟩ hK
    gi_wp2
    refine ⟨by simp, .inl ⟨_, _, rfl, run_takeDeferred hK, ?_⟩⟩
    exact ⟨_, results_none rfl _ _ _, ⟨_, rfl⟩, .inl ⟨_, (selc_map xs).trans (by rw [hxs]; rfl), hJ.from.putObj _ hj (by omega) hK rfl⟩⟩
  case stop =>
    rintro D' c pre W hD' - ⟨rfl, hj⟩ hK
    gi_wp2
    refine ⟨by simp, .inl ⟨_, _, rfl, run_takeDeferred hK, ?_⟩⟩
    exact ⟨_, results_none rfl _ _ _, ⟨_, rfl⟩, .inr ⟨_, trivial, hJx.from.putObj _ hj (by omega) hK rfl⟩⟩
end Jd
end Go.Proofs.Ytchnnpaebggfdaa
