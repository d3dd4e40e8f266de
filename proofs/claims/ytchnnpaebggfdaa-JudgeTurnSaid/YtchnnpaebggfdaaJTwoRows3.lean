/-
  Two rows of numbers that grow side by side: append onto the one leaves the other. No function of the program is walked here. No conditions.
  A region that draws its order, writes several times in its head (SetWrites), and ends with what waits for all of the head. No function of the program is walked here. No conditions beyond those said.
  'x = append(x, y)' of one element of many cells, in a region that draws its order; a struct's literal where only reads are drawn. No function of the program is walked here. No conditions beyond those said.
-/
import Derived.Test.YtchnnpaebggfdaaJAppend3
import Derived.Maps.AppendAt
import Derived.Test.YtchnnpaebggfdaaJRounds4
import Derived.Test.YtchnnpaebggfdaaJTail3
import Derived.Test.YtchnnpaebggfdaaJSceneLoad2
import Derived.Great.Walk
namespace Go.Proofs.Ytchnnpaebggfdaa
set_option maxRecDepth 100000
open Go.ChangeShapes Go.WideShapes Go.ChangeAt Go.RowKit Go.Deep
/-- They lie in two blocks. -/
def Apart (v u : Value) : Prop := ∀ g, v.ownBlock = some g → u.ownBlock ≠ some g
theorem Apart.symm {v u : Value} (h : Apart v u) : Apart u v := fun g h1 h2 => h g h2 h1
section
variable {k : IntKind} {base : Nat} {t : TypeId} {w w' : World} {v v' u : Value} {l : List Int}
theorem Apart.kept (h : Apart v u) (hu : OwnI k base t w u l) (hg : w.grownBy w' v.ownBlock) : OwnI k base t w' u l := by
  refine World.ownsRow.kept hu hg ?_
  cases hb : u.ownBlock with
  | none => exact .inl rfl
  | some g => exact .inr (fun e => h g e.symm hb)
end
/-- A list in a block that was not appended to. -/
theorem IntsAt.grown {k : IntKind} {W W' : World} {row : Option Nat} {g : Nat} {l : List Int} (h : IntsAt k W (some ⟨g, 0, none⟩) l) (hg : W.grownBy W' row) (hne : some g ≠ row) : IntsAt k W' (some ⟨g, 0, none⟩) l := by
  rcases h with rfl | ⟨b, off, e, hc⟩
  · exact Or.inl rfl
  · cases e
    exact Or.inr ⟨g, 0, rfl, fun i hi => hg.cell (hc i hi) hne⟩
section
variable {P : Program}
end
end Go.Proofs.Ytchnnpaebggfdaa

namespace Go.Proofs.Ytchnnpaebggfdaa
set_option maxRecDepth 100000
open Go.ChangeShapes Go.WideShapes Go.ChangeAt Go.RowKit Go.Deep
namespace Ws
open Lt Wr TailC
section
variable {P : Program} {md : Region.Mode} {l : List Oper} {n : Nat}
theorem wp_exits {Q Q1 : Exit → Act → World → Prop} {o : Oper} {a : Act} {w : World} {K : Act → World → Prop} (h1 : ∀ c a w, Q1 (.panic c) a w → Q (.panic c) a w) (h2 : LetsOut Q1 → LetsOut Q) (h : o.wp P a w K Q1) : o.wp P a w K Q := by
  unfold Oper.wp at h ⊢
  generalize (execOp a.eval o).run P w = res at *
  cases res with
  | ok nx w' =>
    cases nx with
    | value v => exact h
    | skip => exact h
    | defer d => exact h
    | enter f args =>
      refine Calls.mono (show Calls P f args w' _ from h) ?_
      intro e w2 q
      cases e with
      | returned v => exact q
      | panicked c => exact h1 _ _ _ q
      | outgrown => exact h2 q
    | row r args => exact h
    | _ => exact h
  | halt s w' =>
    cases s with
    | panic v => exact h1 _ _ _ h
    | _ => exact h
def tailQ (P : Program) (l : List Oper) (n : Nat) (Q : Exit → Act → World → Prop) : Exit → Act → World → Prop
  | .normal => fun a w => wpList P l.toArray Q (l.drop n) a w
  | e => Q e
theorem op_split (hlow : lowB md (l.take n) = true) {i : Nat} {Q : Exit → Act → World → Prop} {K K' : Act → World → Prop} {a : Act} {w : World} (hi : i < n) (h : ∀ a w, K a w → K' a w)
    (hh : wpOp P (l.take n).toArray (tailQ P l n Q) i K a w) : wpOp P l.toArray Q i K' a w := by
  have h1 := wpOp_mono h hh
  unfold wpOp at h1 ⊢
  rw [← hd_at hi]
  split
  · rename_i ho; simp only [ho] at h1; exact h1
  · rename_i o ho
    simp only [ho] at h1
    rw [← wanted_hd hlow ho]
    have e2 : LetsOut (tailQ P l n Q) → LetsOut Q := fun q => q
    split
    · rename_i hw
      rw [if_pos hw] at h1
      exact h1.imp (wp_exits (fun _ _ _ q => q) e2) (fun q => ⟨q.1, e2 q.2⟩)
    · rename_i hw
      rw [if_neg hw] at h1
      exact h1
theorem any_split {Q : Exit → Act → World → Prop} (hS : Region.sinkB md l.toArray n = true) (hCh : Region.chainB md l.toArray n = true) (hn : n < l.length) (hlow : lowB md (l.take n) = true)
    (hseq : Region.seqB md l.toArray (l.length - n) n (List.replicate n true ++ List.replicate (l.length - n) false).toArray = true) :
    ∀ (f : Nat) (hl listed : Array Bool) (a : Act) (w : World), Same n hl listed → HeadInv md l.toArray n listed → wpAny P md (l.take n).toArray (tailQ P l n Q) f hl a w → wpAny P md l.toArray Q (f + (l.length - n)) listed a w := by
  have hsz : l.toArray.size = l.length := by simp
  have done : ∀ (hl listed : Array Bool) (a : Act) (w : World), Same n hl listed → HeadInv md l.toArray n listed → Region.ready md (l.take n).toArray hl = [] → wpList P l.toArray Q (l.drop n) a w → wpAny P md l.toArray Q (l.length - n) listed a w := by
    intro hl listed a w hsm inv h0 hq
    have hall : ∀ i, i < n → listed.getD i true = true := fun i hi => by
      cases q : listed.getD i true with
      | true => rfl
      | false => exact absurd h0 (some_ready hlow hn hsm.1 i hi (by rw [hsm.2 i true hi]; exact q))
    have hls : listed.size = l.length := inv.size.trans hsz
    have he : listed = (List.replicate n true ++ List.replicate (l.length - n) false).toArray := by
      apply Array.ext_getElem?
      intro i
      by_cases h1 : i < l.length
      · have hx : listed[i]? = some (listed.getD i true) := by
          rw [Array.getElem?_eq_getElem (by omega)]; simp [hls, h1]
        rw [hx]
        by_cases h2 : i < n
        · rw [hall i h2]; simp [List.getElem?_append, h2]
        · rw [inv.tail i (by omega) (by omega)]; simp [List.getElem?_append, h2, List.getElem?_replicate]; omega
      · rw [Array.getElem?_eq_none (by omega)]; simp; omega
    rw [he]
    have := wpAny_of_seq (md := md) (Q' := Q) (l.drop n) n (List.replicate n true ++ List.replicate (l.length - n) false).toArray a w (fun j => by simp [List.getElem?_drop]) (by rw [List.length_drop]; exact hseq) hq
    rwa [List.length_drop] at this
  intro f
  induction f with
  | zero =>
    intro hl listed a w hsm inv h
    rw [Nat.zero_add]
    exact done hl listed a w hsm inv h.1 h.2
  | succ f ih =>
    intro hl listed a w hsm inv h
    by_cases h0 : Region.ready md (l.take n).toArray hl = []
    · exact any_more_by (done hl listed a w hsm inv h0 (h.1 h0)) (f + 1)
    · obtain ⟨i0, hi0⟩ := List.exists_mem_of_ne_nil _ h0
      obtain ⟨hun0, o0, ho0, _⟩ := mem_ready.1 hi0
      have hi0n := hd_lt ho0
      rw [show f + 1 + (l.length - n) = (f + (l.length - n)) + 1 by omega]
      refine ⟨fun hr => ?_, fun i hi => ?_⟩
      · have := ready_of hlow hsm hi0n hi0
        rw [hr] at this; cases this
      · have hin : i < n := by
          rcases Nat.lt_or_ge i n with q | q
          · exact q
          · exact absurd hi (tail_waits hS hCh (by omega) inv _ i0 rfl hi0n (by rw [← hsm.2 i0 true hi0n]; exact hun0) i q)
        exact op_split hlow hin (fun a' w' h' => ih _ _ a' w' (hsm.set (by rw [inv.size, hsz]; omega) i) (inv.set hi hin) h') (h.2 i (ready_to hlow hsm hin hi))
def tailB (l : List Oper) (n : Nat) : Bool :=
  decide (n < l.length) && (Region.sinkB .any l.toArray n && (Region.chainB .any l.toArray n && (lowB .any (l.take n) && Region.seqB .any l.toArray (l.length - n) n (List.replicate n true ++ List.replicate (l.length - n) false).toArray)))
theorem wp_split {id : Nat} {Q : Exit → Act → World → Prop} {a : Act} {w : World} (n : Nat) (hm : P.follows .mixedOrders = true) (hB : tailB l n = true)
    (h : wpAny P .any (l.take n).toArray (tailQ P l n Q) n (Array.replicate n false) a { w with drawn := w.drawn + 1 }) : (Code.region id l.toArray true).wp P Q a w := by
  simp only [tailB, Bool.and_eq_true, decide_eq_true_eq] at hB
  obtain ⟨hn, hS, hCh, hlow, hseq⟩ := hB
  have inv0 : HeadInv .any l.toArray n (Array.replicate l.toArray.size false) :=
    ⟨by simp, fun j oj _ hl => (by rw [getD_replicate_false] at hl; cases hl), fun t _ ht => getD_in (by simpa using ht) (getD_replicate_false _ _)⟩
  have hsm : Same n (Array.replicate n false) (Array.replicate l.toArray.size false) := ⟨by simp, fun j x hj => by
    have : j < l.length := by omega
    simp [hj, this]⟩
  have := any_split (Q := Q) hS hCh hn hlow hseq n (Array.replicate n false) (Array.replicate l.toArray.size false) a { w with drawn := w.drawn + 1 } hsm inv0 h
  refine wp_region_any hm ?_
  rw [show n + (l.length - n) = l.toArray.size by simp; omega] at this
  exact this
end
section
variable {P : Program} {l : List Oper}
theorem wp_sets_tail {id : Nat} {a w} {Q : Exit → Act → World → Prop} (n : Nat) (NC : List Tmp) (ss : List Nat) (N : Nat) (m : List Bool) (ds : List (Tmp × Value)) (M : List Bool → List Value → World → Prop) (C : World → Prop) {aF : Act} (hm : P.follows .mixedOrders = true) (hT : tailB l n = true) (hB : setsB (l.take n) ss N NC m = true) (hNC : (decide NC.Nodup && (NC.all fun t => decide (t < N))) = true) (hds : ds.map (·.1) = wdsts (l.take n) ss)
    (ha : a.tmps.size = N) (hMC : ∀ bs vs W, M bs vs W → C W) (hMg : ∀ bs vs W W', M bs vs W → Cl W W' → M bs vs W') (h0 : ∀ vs, vs.length = NC.length → M (List.replicate ss.length false) vs w)
    (hq : ∀ W, C W → wpQuiet P (l.take n).toArray (fun w' => ∃ p : Regrown, w' = Sort.grow (redrawn W p.d) p.os) (fun a' => a' = aF) (sel m (l.take n)) (putAll a (ds.map (·.1)) (ds.map (·.2))))
    (hw : ∀ (bs : List Bool) (k s : Nat) o, bs.length = ss.length → ss[k]? = some s → (l.take n)[s]? = some o → bs.getD k false = false → (∀ (k' s' : Nat), ss[k']? = some s' → waits o s' = true → bs.getD k' false = true) → ∀ vs W, vs.length = NC.length → M bs vs W →
      o.wp P (putAll aF NC vs) W (fun a' W' => ∃ v, a' = (putAll aF NC vs).put o.dst v ∧ (∀ d, o.dst = some d → d ∉ NC → v = got (putAll a (ds.map (·.1)) (ds.map (·.2))) d) ∧ M (bs.set k true) (NC.map (got a')) W') (fun _ _ _ => False))
    (hend : ∀ vs W, vs.length = NC.length → M (List.replicate ss.length true) vs W → wpList P l.toArray Q (l.drop n) (putAll aF NC vs) W) : (Code.region id l.toArray true).wp P Q a w := by
  have hn : NC.Nodup ∧ ∀ t ∈ NC, t < N := by
    rw [Bool.and_eq_true] at hNC
    exact ⟨of_decide_eq_true hNC.1, fun t ht => by have := List.all_eq_true.1 hNC.2 t ht; simpa using this⟩
  have ha1 : (putAll a (ds.map (·.1)) (ds.map (·.2))).tmps.size = N := by rw [size_putAll, ha]
  have hd1 : ∀ (NC : List Tmp) (vs : List Value) (a : Act), (putAll a NC vs).defers = a.defers := fun NC => by
    induction NC with
    | nil => intro vs a; rfl
    | cons x NC ih =>
      intro vs a
      cases vs with
      | nil => rfl
      | cons v vs =>
        have := ih vs (a.put (some x) v)
        exact this
  have O := fits_of hB
  have facts : ∀ W, C W → _ := fun W hW => lex_facts (sel m (l.take n)) (putAll a (ds.map (·.1)) (ds.map (·.2))) (fun o ho => O.nosel o (sel_sub m _ o ho)) O.lex ha1 (hq W hW)
  obtain ⟨f1, f2, f3, -⟩ := facts w (hMC _ _ _ (h0 (NC.map (got a)) (by simp)))
  have h0' := h0 (NC.map (got a)) (by simp)
  have hlen : (l.take n).length = n := by
    simp only [tailB, Bool.and_eq_true, decide_eq_true_eq] at hT
    rw [List.length_take]; omega
  refine wp_split n hm hT ?_
  have key := any_sets (P := P) (Q := tailQ P l n Q) (a0 := a) (a1 := putAll a (ds.map (·.1)) (ds.map (·.2))) (aF := aF) (M := M) O (fun t ht => ?_) f1 (by rw [f2, hd1]) (fun d hd _ => f3 d (O.wd d hd)) hMg (fun bs vs W hM i o ho his d hd w2 h2 => ?_) (duty_set hB hn f1 hw) hend n (Array.replicate n false) a { w with drawn := w.drawn + 1 } ?_ (by simp)
  · exact key
  · rw [f3 t (fun q => ht (dsts_sub m _ t q))]
    refine got_putAll_not _ _ _ _ ?_
    rw [hds]
    intro q
    obtain ⟨s, hs, h⟩ := List.mem_filterMap.1 q
    cases hp : (l.take n)[s]? with
    | none => rw [hp] at h; cases h
    | some p => rw [hp] at h; exact ht (mem_dsts hp h)
  · exact (facts W (hMC _ _ _ hM)).2.2.2 o (mem_sel m _ i o ho (O.cov i (List.getElem?_eq_some_iff.1 ho).1 his)) d hd w2 h2
  · exact ⟨by simp [hlen], ha, rfl, fun _ _ => rfl, fun i o d _ h => (by rw [getD_replicate_false] at h; cases h), ⟨List.replicate ss.length false, by simp, hMg _ _ w _ h0' (Cl.of (Below.refl _ w).drew), fun j s _ => by rw [getD_replicate_false]; simp [List.getD_eq_getElem?_getD, List.getElem?_replicate]; try (split <;> rfl)⟩⟩
end
/-! 'x = append(x, y)' with y told by what is read: the literal, the append, then the assignment. -/
section
variable {P : Program} {l : List Oper}
structure Ag (X : World) (base : Nat) (te : TypeId) (v : Value) (ls : List Int) (y : Int) (bs : List Bool) (vs : List Value) (Y : World) : Prop where
  but : But (fun k => v.ownBlock = some k) X Y
  low : bs.getD 1 false = false → Below X.heap.size X Y
  c0 : bs.getD 0 false = true → bs.getD 1 false = false → ∃ b o, vs.getD 0 undef = .slice (some ⟨b, o, none⟩) 1 1 ∧ Y.cell? ⟨b, o, none⟩ = some (.int .i64 y)
  c1 : bs.getD 1 false = true → OwnI .i64 base te Y (vs.getD 1 undef) (ls ++ [y]) ∧ ((vs.getD 1 undef).ownBlock = v.ownBlock ∨ ∃ g, (vs.getD 1 undef).ownBlock = some g ∧ X.heap.size ≤ g)
theorem owns_on {base : Nat} {te : TypeId} {X Y : World} {v : Value} {ls : List Int} (h : OwnI .i64 base te X v ls) (b : Below X.heap.size X Y) : OwnI .i64 base te Y v ls :=
  World.ownsRow.kept h (row := none) ⟨b.os, b.tape, b.output, b.size, fun k hk _ => b.block k hk⟩ (by
    cases v.ownBlock with
    | none => exact .inl rfl
    | some g => exact .inr (fun e => by cases e))
theorem Ag.on {X Y Z : World} {base : Nat} {te : TypeId} {v : Value} {ls : List Int} {y : Int} {bs : List Bool} {vs : List Value} (h : Ag X base te v ls y bs vs Y) (b : Below Y.heap.size Y Z) : Ag X base te v ls y bs vs Z :=
  ⟨h.but.grow b, fun e => grow (h.low e) b, fun e e2 => by obtain ⟨g, o, e3, hc⟩ := h.c0 e e2; exact ⟨g, o, e3, (b.cell (p := ⟨g, o, none⟩) (cell_lt hc)).trans hc⟩, fun e => ⟨owns_on (h.c1 e).1 b, (h.c1 e).2⟩⟩
end
end Ws
end Go.Proofs.Ytchnnpaebggfdaa

namespace Go.Proofs.Ytchnnpaebggfdaa
set_option maxRecDepth 100000
open Go.ChangeShapes Go.WideShapes Go.ChangeAt Go.RowKit Go.Deep
namespace Sc
open Lt Wr Ws
open Cf (G CA)
theorem wpQuiet_buildTo {P : Program} {ops : Array Oper} {C : World → Prop} {Q : Act → Prop} {o : Oper} {rest : List Oper} {a : Act} (hw : Region.wanted o (yielded ops a.tmps) = true) (t : TypeId) (parts : Array (Nat × Operand)) (ho : o.op = .build t parts)
    (cells : Array Value) (ps : List (Nat × Value)) (hl : (parts.map fun (i, x) => (i, a.eval x)).toList = ps) (hf : P.built t ps = some cells)
    (h : wpQuiet P ops C Q rest (a.put o.dst (.agg cells))) : wpQuiet P ops C Q (o :: rest) a := by
  subst hl
  unfold wpQuiet
  rw [if_pos hw]
  refine ⟨.agg cells, fun w hC => ?_, h⟩
  have e := run_build (P := P) w t _ cells hf
  unfold Oper.quietAt execOp
  simp only [ho, Sem.run_bind, Sem.run_pure, Result.andThen_ok, e]
  exact ⟨rfl, rfl⟩
theorem run_lit {P : Program} {ρ : Operand → Value} {o : Oper} (t e : TypeId) (x : Operand) (ho : o.op = .buildSlice t 1 #[(0, x)]) (cells : Array Value) (v : Value) (hv : ρ x = v) (hu : P.underlying t = some (.slice e)) (hf : P.builtSlice e 1 [(0, v)] = some cells) (w : World) :
    (execOp ρ o).run P w = .ok (.value (.slice (some ⟨w.heap.size, 0, none⟩) 1 1)) (w.alloc (.cells cells e)) := by
  subst hv
  unfold Program.builtSlice at hf
  cases hie : P.info? e with
  | none => simp [hie] at hf
  | some ie =>
    simp only [hie] at hf
    cases hz : ie.zero with
    | none => simp [hz] at hf
    | some z =>
      simp only [hz] at hf
      by_cases hc : 1 * ie.size > 2 ^ 24 ∨ 1 * ie.size = 0
      · rw [if_pos hc] at hf; cases hf
      · rw [if_neg hc] at hf
        have e1 := run_buildSlice (P := P) w t e 1 ((#[(0, x)] : Array (Nat × Operand)).map fun (q : Nat × Operand) => ((q.1, ρ q.2) : Nat × Value)) cells ie z hu hie hz (fun h' => hc (Or.inl h')) (fun h' => hc (Or.inr h')) (by rw [Array.toList_map]; exact hf)
        unfold execOp
        simp only [ho, Sem.run_bind, e1, Result.andThen_ok]
        rfl
section
variable {P : Program} {l : List Oper}
structure AgR (X : World) (base : Nat) (te : TypeId) (sz : Nat) (v : Value) (n : Nat) (xs news : List Value) (bs : List Bool) (vs : List Value) (Y : World) : Prop where
  but : But (fun k => v.ownBlock = some k) X Y
  low : bs.getD 1 false = false → Below X.heap.size X Y
  c0 : bs.getD 0 false = true → bs.getD 1 false = false → ∃ b, vs.getD 0 undef = .slice (some ⟨b, 0, none⟩) 1 1 ∧ VRow Y b te news
  c1 : bs.getD 1 false = true → Y.ownsRow base te sz (vs.getD 1 undef) (n + 1) (xs ++ news)
theorem ownsR_on {base sz n : Nat} {te : TypeId} {X Y : World} {v : Value} {xs : List Value} (h : X.ownsRow base te sz v n xs) (b : Below X.heap.size X Y) : Y.ownsRow base te sz v n xs :=
  World.ownsRow.kept h (row := none) ⟨b.os, b.tape, b.output, b.size, fun k hk _ => b.block k hk⟩ (by
    cases v.ownBlock with
    | none => exact .inl rfl
    | some g => exact .inr (fun e => by cases e))
theorem AgR.on {X Y Z : World} {base sz n : Nat} {te : TypeId} {v : Value} {xs news : List Value} {bs : List Bool} {vs : List Value} (h : AgR X base te sz v n xs news bs vs Y) (b : Below Y.heap.size Y Z) : AgR X base te sz v n xs news bs vs Z :=
  ⟨h.but.grow b, fun e => grow (h.low e) b, fun e e2 => by obtain ⟨g, e3, hc⟩ := h.c0 e e2; exact ⟨g, e3, hc.below b hc.lt⟩, fun e => ownsR_on (h.c1 e) b⟩
theorem wp_appR {id : Nat} {a : Act} {X : World} {Q : Exit → Act → World → Prop} (n s1 s2 : Nat) (d1 d2 : Tmp) (N : Nat) (m : List Bool) {aF : Act} (base : Nat) (te t : TypeId) (sz bytes : Nat) (z : Value) (v : Value) (k0 : Nat) (xs news : List Value) (o1 o2 : Oper) (s x : Operand)
    (hm : P.follows .mixedOrders = true) (hT : tailB l n = true) (hB : setsB (l.take n) [s1, s2] N [d1, d2] m = true) (hNC : (decide [d1, d2].Nodup && ([d1, d2].all fun t => decide (t < N))) = true) (hds : [d1, d2] = wdsts (l.take n) [s1, s2])
    (ha : a.tmps.size = N) (ho1 : (l.take n)[s1]? = some o1) (ho2 : (l.take n)[s2]? = some o2) (hw : waits o2 s1 = true) (hd1 : o1.dst = some d1) (hd2 : o2.dst = some d2)
    (hown : X.ownsRow base te sz v k0 xs) (hbase : base ≤ X.heap.size) (ht : P.underlying t = some (.slice te)) (hi : (P.info? te).map (fun i => (i.zero, i.size, i.bytes)) = some (some z, sz, bytes)) (hzs : z.cells.size = sz) (hsz : 0 < sz)
    (hl : news.length = sz) (hone : ∀ u ∈ news, u.oneCell' = true) (h63 : k0 + 1 ≤ maxLen) (hby : (k0 + 1) * bytes ≤ 140737488355328)
    (hop : o2.op = .call { callee := .builtin .append, args := #[s, x], argTypes := #[t, t] })
    (hq : ∀ Y, But (fun k => v.ownBlock = some k) X Y → wpQuiet P (l.take n).toArray (fun w' => ∃ p : Regrown, w' = Sort.grow (redrawn Y p.d) p.os) (fun a' => a' = aF) (sel m (l.take n)) (putAll a [d1, d2] [undef, undef]))
    (h1 : ∀ x0 x1 Y, (execOp (putAll aF [d1, d2] [x0, x1]).eval o1).run P Y = .ok (.value (.slice (some ⟨Y.heap.size, 0, none⟩) 1 1)) (Y.alloc (.cells news.toArray te)))
    (h2 : ∀ x0 x1, (putAll aF [d1, d2] [x0, x1]).eval s = v ∧ (putAll aF [d1, d2] [x0, x1]).eval x = x0)
    (g1 : ∀ x0 x1 z, [d1, d2].map (got ((putAll aF [d1, d2] [x0, x1]).put (some d1) z)) = [z, x1]) (g2 : ∀ x0 x1 z, [d1, d2].map (got ((putAll aF [d1, d2] [x0, x1]).put (some d2) z)) = [x0, z])
    (hend : ∀ x0 v' Y, Y.ownsRow base te sz v' (k0 + 1) (xs ++ news) → But (fun k => v.ownBlock = some k) X Y → wpList P l.toArray Q (l.drop n) (putAll aF [d1, d2] [x0, v']) Y) : (Code.region id l.toArray true).wp P Q a X := by
  obtain ⟨i0, hi0, hz0, hz1, hz2⟩ := info_parts hi
  have two : ∀ {α : Type} {q : List α}, q.length = 2 → ∃ x y, q = [x, y] := fun {α} {q} h => by
    match q, h with
    | [x, y], _ => exact ⟨x, y, rfl⟩
  refine wp_sets_tail (aF := aF) n [d1, d2] [s1, s2] N m [(d1, undef), (d2, undef)] (AgR X base te sz v k0 xs news) (fun Y => But (fun k => v.ownBlock = some k) X Y) hm hT hB hNC hds ha (fun _ _ _ h => h.but) (fun _ _ _ _ h c => h.on c.to)
    (fun vs _ => ⟨But.refl _ _, fun _ => Below.refl _ _, fun e => (by cases e), fun e => (by cases e)⟩) hq ?_ ?_
  · intro bs k st o hbl hs ho hk hpre vs Y hv hM
    obtain ⟨x0, x1, rfl⟩ := two hv
    obtain ⟨y0, y1, rfl⟩ := two hbl
    rcases k with _ | _ | k
    · obtain rfl : s1 = st := by simpa using hs
      obtain rfl : o1 = o := Option.some.inj (ho1.symm.trans ho)
      unfold Oper.wp
      rw [h1, Oper.upon_value]
      refine ⟨_, rfl, fun d hd hn => ?_, ?_⟩
      · rw [hd1] at hd; cases hd; exact absurd (List.mem_cons_self) hn
      · rw [hd1, g1]
        have hg := hM.on ((Below.refl Y.heap.size Y).alloc (Nat.le_refl _) (.cells news.toArray te))
        exact ⟨hg.but, hg.low, fun _ _ => ⟨Y.heap.size, rfl, VRow.new Y news te⟩, hg.c1⟩
    · obtain rfl : s2 = st := by simpa using hs
      obtain rfl : o2 = o := Option.some.inj (ho2.symm.trans ho)
      obtain rfl : y0 = true := hpre 0 s1 rfl hw
      obtain rfl : y1 = false := hk
      obtain ⟨b, e0, hc⟩ : ∃ b, x0 = .slice (some ⟨b, 0, none⟩) 1 1 ∧ VRow Y b te news := hM.c0 rfl rfl
      subst e0
      have hlow := hM.low rfl
      have hoY := ownsR_on hown hlow
      obtain ⟨e1, e2⟩ := h2 (.slice (some ⟨b, 0, none⟩) 1 1) x1
      obtain ⟨v', w', hrun, r1, r2, -⟩ := run_append_own (P := P) Y base t o2.type te i0 z sz bytes ht hi0 hz0 hz1 hz2 hzs hsz v k0 xs hoY ⟨b, 0, none⟩ 1 1 news (by omega) (fun j u hj => by rw [add_plain, Nat.zero_add]; exact hc.cell j hj) hone h63 hby (Nat.le_trans hbase hlow.size)
      have hx : (execOp (putAll aF [d1, d2] [.slice (some ⟨b, 0, none⟩) 1 1, x1]).eval o2).run P Y = .ok (.value v') w' := by
        simp [execOp, hop, resolve, invoke, builtin, e1, e2, hrun, Result.andThen]
      unfold Oper.wp
      rw [hx, Oper.upon_value]
      refine ⟨_, rfl, fun d hd hn => ?_, ?_⟩
      · rw [hd2] at hd; cases hd; exact absurd (List.mem_cons_of_mem _ List.mem_cons_self) hn
      · rw [hd2, g2]
        exact ⟨hM.but.trans ⟨r2.os, r2.tape, r2.output, r2.size, fun k hk hne => r2.block k hk (fun e => hne e.symm)⟩, fun e => (by cases e), fun _ e => (by cases e), fun _ => r1⟩
    · simp at hs
  · intro vs Y hv hM
    obtain ⟨x0, x1, rfl⟩ := two hv
    exact hend x0 x1 Y (hM.c1 rfl) hM.but
end
end Sc
end Go.Proofs.Ytchnnpaebggfdaa
