/-
  'x = append(x, y)' of one element of many cells, in a region that draws its order; a struct's literal where only reads are drawn. No function of the program is walked here. No conditions beyond those said.
  What Of of package rudderlaw22 does: its contract by walking the Go text. Conditions: how the scene lies; no more than sixty points.
-/
import Derived.Test.YtpamegkbhdbheaaJSceneCycles2
import Derived.Test.YtpamegkbhdbheaaSetTail
import Derived.Great.Walk
namespace Go.Proofs.Ytpamegkbhdbheaa
set_option maxRecDepth 100000
open Go.ChangeShapes Go.WideShapes Go.ChangeAt Go.RowKit Go.Deep
namespace Sc
open Lt Wr Ws
open Cf (G CA)

theorem wpQuiet_buildTo {P : Program} {ops : Array Oper} {C : World → Prop} {Q : Act → Prop} {o : Oper} {rest : List Oper} {a : Act} (hw : Region.wanted o (yielded ops a.tmps) = true) (t : TypeId) (parts : Array (Nat × Operand)) (ho : o.op = .build t parts)
    (cells : Array Value) (ps : List (Nat × Value)) (hl : (parts.map fun (i, x) => (i, a.eval x)).toList = ps) (hf : P.built t ps = some cells)
    (h : wpQuiet P ops C Q rest (a.put o.dst (.agg cells))) : wpQuiet P ops C Q (o :: rest) a := by
  subst hl
  unfold wpQuiet
  rw [if_pos hw]
  refine ⟨.agg cells, fun w hC => ?_, h⟩
  have e := run_build (P := P) w t _ cells hf
  unfold Oper.quietAt execOp
  simp only [ho, Sem.run_bind, Sem.run_pure, Result.andThen_ok, e]
  exact ⟨rfl, rfl⟩
theorem run_lit {P : Program} {ρ : Operand → Value} {o : Oper} (t e : TypeId) (x : Operand) (ho : o.op = .buildSlice t 1 #[(0, x)]) (cells : Array Value) (v : Value) (hv : ρ x = v) (hu : P.underlying t = some (.slice e)) (hf : P.builtSlice e 1 [(0, v)] = some cells) (w : World) :
    (execOp ρ o).run P w = .ok (.value (.slice (some ⟨w.heap.size, 0, none⟩) 1 1)) (w.alloc (.cells cells e)) := by
  subst hv
  unfold Program.builtSlice at hf
  cases hie : P.info? e with
  | none => simp [hie] at hf
  | some ie =>
    simp only [hie] at hf
    cases hz : ie.zero with
    | none => simp [hz] at hf
    | some z =>
      simp only [hz] at hf
      by_cases hc : 1 * ie.size > 2 ^ 24 ∨ 1 * ie.size = 0
      · rw [if_pos hc] at hf; cases hf
      · rw [if_neg hc] at hf
        have e1 := run_buildSlice (P := P) w t e 1 ((#[(0, x)] : Array (Nat × Operand)).map fun (q : Nat × Operand) => ((q.1, ρ q.2) : Nat × Value)) cells ie z hu hie hz (fun h' => hc (Or.inl h')) (fun h' => hc (Or.inr h')) (by rw [Array.toList_map]; exact hf)
        unfold execOp
        simp only [ho, Sem.run_bind, e1, Result.andThen_ok]
        rfl
section
variable {P : Program} {l : List Oper}
structure AgR (X : World) (base : Nat) (te : TypeId) (sz : Nat) (v : Value) (n : Nat) (xs news : List Value) (bs : List Bool) (vs : List Value) (Y : World) : Prop where
  but : But (fun k => v.ownBlock = some k) X Y
  low : bs.getD 1 false = false → Below X.heap.size X Y
  c0 : bs.getD 0 false = true → bs.getD 1 false = false → ∃ b, vs.getD 0 undef = .slice (some ⟨b, 0, none⟩) 1 1 ∧ VRow Y b te news
  c1 : bs.getD 1 false = true → Y.ownsRow base te sz (vs.getD 1 undef) (n + 1) (xs ++ news)
theorem ownsR_on {base sz n : Nat} {te : TypeId} {X Y : World} {v : Value} {xs : List Value} (h : X.ownsRow base te sz v n xs) (b : Below X.heap.size X Y) : Y.ownsRow base te sz v n xs :=
  World.ownsRow.kept h (row := none) ⟨b.os, b.tape, b.output, b.size, fun k hk _ => b.block k hk⟩ (by
    cases v.ownBlock with
    | none => exact .inl rfl
    | some g => exact .inr (fun e => by cases e))
theorem AgR.on {X Y Z : World} {base sz n : Nat} {te : TypeId} {v : Value} {xs news : List Value} {bs : List Bool} {vs : List Value} (h : AgR X base te sz v n xs news bs vs Y) (b : Below Y.heap.size Y Z) : AgR X base te sz v n xs news bs vs Z :=
  ⟨h.but.grow b, fun e => grow (h.low e) b, fun e e2 => by obtain ⟨g, e3, hc⟩ := h.c0 e e2; exact ⟨g, e3, hc.below b hc.lt⟩, fun e => ownsR_on (h.c1 e) b⟩
theorem wp_appR {id : Nat} {a : Act} {X : World} {Q : Exit → Act → World → Prop} (n s1 s2 : Nat) (d1 d2 : Tmp) (N : Nat) (m : List Bool) {aF : Act} (base : Nat) (te t : TypeId) (sz bytes : Nat) (z : Value) (v : Value) (k0 : Nat) (xs news : List Value) (o1 o2 : Oper) (s x : Operand)
    (hm : P.follows .mixedOrders = true) (hT : tailB l n = true) (hB : setsB (l.take n) [s1, s2] N [d1, d2] m = true) (hNC : (decide [d1, d2].Nodup && ([d1, d2].all fun t => decide (t < N))) = true) (hds : [d1, d2] = wdsts (l.take n) [s1, s2])
    (ha : a.tmps.size = N) (ho1 : (l.take n)[s1]? = some o1) (ho2 : (l.take n)[s2]? = some o2) (hw : waits o2 s1 = true) (hd1 : o1.dst = some d1) (hd2 : o2.dst = some d2)
    (hown : X.ownsRow base te sz v k0 xs) (hbase : base ≤ X.heap.size) (ht : P.underlying t = some (.slice te)) (hi : (P.info? te).map (fun i => (i.zero, i.size, i.bytes)) = some (some z, sz, bytes)) (hzs : z.cells.size = sz) (hsz : 0 < sz)
    (hl : news.length = sz) (hone : ∀ u ∈ news, u.oneCell' = true) (h63 : k0 + 1 ≤ maxLen) (hby : (k0 + 1) * bytes ≤ 140737488355328)
    (hop : o2.op = .call { callee := .builtin .append, args := #[s, x], argTypes := #[t, t] })
    (hq : ∀ Y, But (fun k => v.ownBlock = some k) X Y → wpQuiet P (l.take n).toArray (fun w' => ∃ p : Regrown, w' = Sort.grow (redrawn Y p.d) p.os) (fun a' => a' = aF) (sel m (l.take n)) (putAll a [d1, d2] [undef, undef]))
    (h1 : ∀ x0 x1 Y, (execOp (putAll aF [d1, d2] [x0, x1]).eval o1).run P Y = .ok (.value (.slice (some ⟨Y.heap.size, 0, none⟩) 1 1)) (Y.alloc (.cells news.toArray te)))
    (h2 : ∀ x0 x1, (putAll aF [d1, d2] [x0, x1]).eval s = v ∧ (putAll aF [d1, d2] [x0, x1]).eval x = x0)
    (g1 : ∀ x0 x1 z, [d1, d2].map (got ((putAll aF [d1, d2] [x0, x1]).put (some d1) z)) = [z, x1]) (g2 : ∀ x0 x1 z, [d1, d2].map (got ((putAll aF [d1, d2] [x0, x1]).put (some d2) z)) = [x0, z])
    (hend : ∀ x0 v' Y, Y.ownsRow base te sz v' (k0 + 1) (xs ++ news) → But (fun k => v.ownBlock = some k) X Y → wpList P l.toArray Q (l.drop n) (putAll aF [d1, d2] [x0, v']) Y) : (Code.region id l.toArray true).wp P Q a X := by
  obtain ⟨i0, hi0, hz0, hz1, hz2⟩ := info_parts hi
  have two : ∀ {α : Type} {q : List α}, q.length = 2 → ∃ x y, q = [x, y] := fun {α} {q} h => by
    match q, h with
    | [x, y], _ => exact ⟨x, y, rfl⟩
  refine wp_sets_tail (aF := aF) n [d1, d2] [s1, s2] N m [(d1, undef), (d2, undef)] (AgR X base te sz v k0 xs news) (fun Y => But (fun k => v.ownBlock = some k) X Y) hm hT hB hNC hds ha (fun _ _ _ h => h.but) (fun _ _ _ _ h c => h.on c.to)
    (fun vs _ => ⟨But.refl _ _, fun _ => Below.refl _ _, fun e => (by cases e), fun e => (by cases e)⟩) hq ?_ ?_
  · intro bs k st o hbl hs ho hk hpre vs Y hv hM
    obtain ⟨x0, x1, rfl⟩ := two hv
    obtain ⟨y0, y1, rfl⟩ := two hbl
    rcases k with _ | _ | k
    · obtain rfl : s1 = st := by simpa using hs
      obtain rfl : o1 = o := Option.some.inj (ho1.symm.trans ho)
      unfold Oper.wp
      rw [h1, Oper.upon_value]
      refine ⟨_, rfl, fun d hd hn => ?_, ?_⟩
      · rw [hd1] at hd; cases hd; exact absurd (List.mem_cons_self) hn
      · rw [hd1, g1]
        have hg := hM.on ((Below.refl Y.heap.size Y).alloc (Nat.le_refl _) (.cells news.toArray te))
        exact ⟨hg.but, hg.low, fun _ _ => ⟨Y.heap.size, rfl, VRow.new Y news te⟩, hg.c1⟩
    · obtain rfl : s2 = st := by simpa using hs
      obtain rfl : o2 = o := Option.some.inj (ho2.symm.trans ho)
      obtain rfl : y0 = true := hpre 0 s1 rfl hw
      obtain rfl : y1 = false := hk
      obtain ⟨b, e0, hc⟩ : ∃ b, x0 = .slice (some ⟨b, 0, none⟩) 1 1 ∧ VRow Y b te news := hM.c0 rfl rfl
      subst e0
      have hlow := hM.low rfl
      have hoY := ownsR_on hown hlow
      obtain ⟨e1, e2⟩ := h2 (.slice (some ⟨b, 0, none⟩) 1 1) x1
      obtain ⟨v', w', hrun, r1, r2, -⟩ := run_append_own (P := P) Y base t o2.type te i0 z sz bytes ht hi0 hz0 hz1 hz2 hzs hsz v k0 xs hoY ⟨b, 0, none⟩ 1 1 news (by omega) (fun j u hj => by rw [add_plain, Nat.zero_add]; exact hc.cell j hj) hone h63 hby (Nat.le_trans hbase hlow.size)
      have hx : (execOp (putAll aF [d1, d2] [.slice (some ⟨b, 0, none⟩) 1 1, x1]).eval o2).run P Y = .ok (.value v') w' := by
        simp [execOp, hop, resolve, invoke, builtin, e1, e2, hrun, Result.andThen]
      unfold Oper.wp
      rw [hx, Oper.upon_value]
      refine ⟨_, rfl, fun d hd hn => ?_, ?_⟩
      · rw [hd2] at hd; cases hd; exact absurd (List.mem_cons_of_mem _ List.mem_cons_self) hn
      · rw [hd2, g2]
        exact ⟨hM.but.trans ⟨r2.os, r2.tape, r2.output, r2.size, fun k hk hne => r2.block k hk (fun e => hne e.symm)⟩, fun e => (by cases e), fun _ e => (by cases e), fun _ => r1⟩
    · simp at hs
  · intro vs Y hv hM
    obtain ⟨x0, x1, rfl⟩ := two hv
    exact hend x0 x1 Y (hM.c1 rfl) hM.but
end
end Sc
end Go.Proofs.Ytpamegkbhdbheaa

namespace Go.Proofs.Ytpamegkbhdbheaa
set_option maxRecDepth 100000
open Go.ChangeShapes Go.WideShapes Go.ChangeAt Go.RowKit Go.Deep
namespace Sc
open Cf (G CA)

theorem eights {o : List Int} (h : o.length = 32) : ∃ a b c d : List Int, o = a ++ (b ++ (c ++ d)) ∧ a.length = 8 ∧ b.length = 8 ∧ c.length = 8 ∧ d.length = 8 := by
  refine ⟨o.take 8, (o.drop 8).take 8, ((o.drop 8).drop 8).take 8, ((o.drop 8).drop 8).drop 8, ?_, ?_, ?_, ?_, ?_⟩
  · rw [List.take_append_drop, List.take_append_drop, List.take_append_drop]
  all_goals simp [h]
theorem five {l : List Int} (h : l.length = 5) : ∃ a b c d e, l = [a, b, c, d, e] := by
  match l, h with
  | [a, b, c, d, e], _ => exact ⟨a, b, c, d, e, rfl⟩
theorem four {l : List Int} (h : l.length = 4) : ∃ a b c d, l = [a, b, c, d] := by
  match l, h with
  | [a, b, c, d], _ => exact ⟨a, b, c, d, rfl⟩
theorem twentyone {o : List Int} (h : o.length = 21) : ∃ a b c : List Int, o = a ++ (b ++ c) ∧ a.length = 8 ∧ b.length = 8 ∧ c.length = 5 := by
  refine ⟨o.take 8, (o.drop 8).take 8, (o.drop 8).drop 8, ?_, ?_, ?_, ?_⟩
  · rw [List.take_append_drop, List.take_append_drop]
  all_goals simp [h]
theorem ptInfo : (Try.prog.info? 64).map (fun i => (i.zero, i.size, i.bytes)) = some (some (.agg #[.int .i64 0, .int .i64 0, .int .i64 0, .int .i64 0, .int .i64 0, .int .i64 0, .int .i64 0, .int .i64 0, .int .i64 0, .int .i64 0, .int .i64 0, .int .i64 0, .int .i64 0, .int .i64 0, .int .i64 0, .int .i64 0, .int .i64 0, .int .i64 0, .int .i64 0, .int .i64 0, .int .i64 0, .int .i64 0, .int .i64 0, .int .i64 0, .int .i64 0, .int .i64 0, .int .i64 0, .int .i64 0, .int .i64 0, .int .i64 0, .int .i64 0, .int .i64 0, .int .i64 0, .int .i64 0, .int .i64 0, .int .i64 0, .int .i64 0, .int .i64 0, .int .i64 0, .int .i64 0, .bool false, .slice none 0 0]), 42, 352) := by kernel_rfl
theorem built_pt {p : Pt} (h8 : p.t.length = 8) (h32 : p.o.length = 32) :
    Try.prog.built 64 [(0, .agg (cellsI .i64 p.t).toArray), (1, .agg (cellsI .i64 p.o).toArray), (2, .agg #[.bool p.is, .slice p.a p.l.length p.cap])] = some (ptv p).toArray := by
  unfold ptv
  obtain ⟨a, b, c, d, ho, ha, hb, hc, hd⟩ := eights h32
  rw [ho]
  generalize p.t = t at *
  clear ho h32
  obtain ⟨t0, t1, t2, t3, t4, t5, t6, t7, rfl⟩ := Fm.eight t h8
  obtain ⟨a0, a1, a2, a3, a4, a5, a6, a7, rfl⟩ := Fm.eight a ha
  obtain ⟨b0, b1, b2, b3, b4, b5, b6, b7, rfl⟩ := Fm.eight b hb
  obtain ⟨c0, c1, c2, c3, c4, c5, c6, c7, rfl⟩ := Fm.eight c hc
  obtain ⟨d0, d1, d2, d3, d4, d5, d6, d7, rfl⟩ := Fm.eight d hd
  kernel_rfl
theorem lit_pt {p : Pt} (h8 : p.t.length = 8) (h32 : p.o.length = 32) :
    Try.prog.builtSlice 64 1 [(0, .agg (ptv p).toArray)] = some (ptv p).toArray := by
  unfold ptv
  obtain ⟨a, b, c, d, ho, ha, hb, hc, hd⟩ := eights h32
  rw [ho]
  generalize p.t = t at *
  clear ho h32
  obtain ⟨t0, t1, t2, t3, t4, t5, t6, t7, rfl⟩ := Fm.eight t h8
  obtain ⟨a0, a1, a2, a3, a4, a5, a6, a7, rfl⟩ := Fm.eight a ha
  obtain ⟨b0, b1, b2, b3, b4, b5, b6, b7, rfl⟩ := Fm.eight b hb
  obtain ⟨c0, c1, c2, c3, c4, c5, c6, c7, rfl⟩ := Fm.eight c hc
  obtain ⟨d0, d1, d2, d3, d4, d5, d6, d7, rfl⟩ := Fm.eight d hd
  kernel_rfl
/-- A scene's cells with whatever in the place of its points. -/
def scn (s : Sn) (v : Value) : List Value := cellsI .i64 (s.c ++ ([s.e, s.r, s.odd] ++ s.q)) ++ [v]
theorem scn_last {s : Sn} {v : Value} (L : Lens s) : (scn s v)[28]? = some v := by
  unfold scn
  rw [List.getElem?_append_right (by simp [cellsI, L.c, L.q])]; simp [cellsI, L.c, L.q]
theorem scn_set {s : Sn} {v v' : Value} (L : Lens s) : (scn s v).set 28 v' = scn s v' := by
  unfold scn
  rw [List.set_append_right _ _ (by simp [cellsI, L.c, L.q])]; simp [cellsI, L.c, L.q]
theorem built_sc {s : Sn} (L : Lens s) :
    Try.prog.built 63 [(0, .agg (CA s.c)), (1, .int .i64 s.e), (2, .int .i64 s.r), (3, .int .i64 s.odd), (4, .agg (cellsI .i64 s.q).toArray)] = some (scn s (.slice none 0 0)).toArray := by
  have hc := L.c
  have hq := L.q
  unfold scn
  clear L
  generalize s.c = c at *
  generalize s.q = q at *
  generalize s.e = e
  generalize s.r = r
  generalize s.odd = od
  obtain ⟨a, b, d, rfl, ha, hb, hd⟩ := twentyone hc
  clear hc
  obtain ⟨a0, a1, a2, a3, a4, a5, a6, a7, rfl⟩ := Fm.eight a ha
  obtain ⟨b0, b1, b2, b3, b4, b5, b6, b7, rfl⟩ := Fm.eight b hb
  obtain ⟨d0, d1, d2, d3, d4, rfl⟩ := five hd
  obtain ⟨q0, q1, q2, q3, rfl⟩ := four hq
  show _ = _
  kernel_rfl
def flatP (l : List Pt) : List Value := l.flatMap ptv
theorem flatP_app (l : List Pt) (p : Pt) : flatP (l ++ [p]) = flatP l ++ ptv p := by simp [flatP]
theorem flatP_get : ∀ (l : List Pt), (∀ p ∈ l, (ptv p).length = 42) → ∀ i j p, l[i]? = some p → j < 42 → (flatP l)[i * 42 + j]? = (ptv p)[j]?
  | [], _, i, j, p, h, _ => by simp at h
  | x :: l, hl, 0, j, p, h, hj => by
    obtain rfl : x = p := by simpa using h
    show (ptv x ++ flatP l)[0 * 42 + j]? = _
    rw [List.getElem?_append_left (by rw [hl x List.mem_cons_self]; omega), Nat.zero_mul, Nat.zero_add]
  | x :: l, hl, i + 1, j, p, h, hj => by
    show (ptv x ++ flatP l)[(i + 1) * 42 + j]? = _
    have hx := hl x List.mem_cons_self
    rw [List.getElem?_append_right (by omega), hx, show (i + 1) * 42 + j - 42 = i * 42 + j by omega]
    exact flatP_get l (fun p hp => hl p (List.mem_cons_of_mem _ hp)) i j p (by simpa using h) hj
theorem butRow {S : Nat → Prop} {w w' : World} {g : Nat} {t : TypeId} {cs : List Value} (h : But S w w') (hr : VRow w g t cs) (hn : ¬ S g) : VRow w' g t cs := (h.block g hr.lt hn).trans hr
/-- While Of goes on: the first i points have come. -/
structure Om (w W : World) (g mg base : Nat) (s : Sn) (a : Option Addr) (cap i : Nat) (v : Value) : Prop where
  at_ : At W g s a cap
  below : Below w.heap.size w W
  row : VRow W mg 63 (scn s v)
  own : W.ownsRow base 64 42 v i (flatP (s.ps.take i))
  lt : g < base ∧ mg < base ∧ w.heap.size ≤ mg ∧ g ≠ mg ∧ w.heap.size ≤ base ∧ base ≤ W.heap.size
section
variable {w W W' : World} {g mg base : Nat} {s : Sn} {a : Option Addr} {cap i : Nat} {v : Value}
theorem Om.on (h : Om w W g mg base s a cap i v) (b : Below W.heap.size W W') : Om w W' g mg base s a cap i v :=
  ⟨h.at_.on b, grow h.below b, h.row.below b h.row.lt, ownsR_on h.own b, by have := h.lt; have := b.size; omega⟩
theorem Om.put (h : Om w W g mg base s a cap i v) (hp : PsAt w a s.ps) (hi : i < s.ps.length) (b : But (fun k => v.ownBlock = some k) W W') {v' : Value}
    (o : W'.ownsRow base 64 42 v' (i + 1) (flatP (s.ps.take i) ++ ptv (pt s i))) : Om w (W'.setCell ⟨mg, 28, none⟩ v') g mg base s a cap (i + 1) v' := by
  obtain ⟨l1, l2, l3, l4, l5, l6⟩ := h.lt
  have hn : ∀ k, k < base → ¬ v.ownBlock = some k := fun k hk e => by have := (World.ownsRow.lt h.own k e).1; omega
  have r := butRow b h.row (hn mg l2)
  have r2 := butRow b h.at_.row (hn g l1)
  have bb : Below w.heap.size w (W'.setCell ⟨mg, 28, none⟩ v') := (But.below h.below b h.below.size (fun k e => by have := (World.ownsRow.lt h.own k e).1; omega)).setCell (p := ⟨mg, 28, none⟩) l3 _
  have et : s.ps.take (i + 1) = s.ps.take i ++ [pt s i] := by
    rw [List.take_add_one, List.getElem?_eq_getElem hi]; unfold pt; rw [List.getD_eq_getElem?_getD, List.getElem?_eq_getElem hi]; rfl
  refine ⟨⟨r2.setOther (p := ⟨mg, 28, none⟩) l4 _, hp.below bb, h.at_.len⟩, bb, ?_, ?_, l1, l2, l3, l4, l5, ?_⟩
  · have := r.set 28 v'
    rwa [scn_set h.at_.len] at this
  · rw [et, flatP_app]
    refine World.ownsRow.kept o (row := some mg) ⟨rfl, rfl, rfl, by simp [World.setCell], fun k hk hne => ?_⟩ ?_
    · exact Below.heap_setCell W' ⟨mg, 28, none⟩ v' k (fun e => hne (congrArg some e))
    · cases ho : v'.ownBlock with
      | none => exact .inl rfl
      | some k => exact .inr (fun e => by cases e; have := (World.ownsRow.lt o _ ho).1; omega)
  · have := b.size
    simp [World.setCell]; omega
theorem Om.done (h : Om w W g mg base s a cap s.ps.length v) (hp : PsAt w a s.ps) : ∃ a' cap', v = .slice a' s.ps.length cap' ∧ RAt W mg s a' cap' := by
  have own := h.own
  have row := h.row
  rw [List.take_length] at own
  have hc : ∀ g', v.ownBlock = some g' → _ := fun g' hg => World.ownsRow.cells own (g := g') hg
  rcases own with ⟨hl, ⟨rfl, h0⟩ | ⟨g', cap', cur, rfl, hb, hh, hcap, _⟩⟩
  · refine ⟨none, 0, by rw [h0], ?_, Or.inl (List.eq_nil_of_length_eq_zero h0), h.at_.len⟩
    rw [show scv s none 0 = scn s (.slice none 0 0) by unfold scv scn; rw [h0]]; exact row
  · refine ⟨_, cap', rfl, row, Or.inr ⟨g', 0, rfl, fun i p hi => ?_⟩, h.at_.len⟩
    have hp' := hp.below h.below
    have hi' : i < s.ps.length := (List.getElem?_eq_some_iff.1 hi).1
    rcases hp' with e | ⟨b, off, rfl, hs⟩
    · rw [e] at hi; simp at hi
    have P := hs i p hi
    refine ⟨fun j x hj => ?_, P.t8, P.o32, P.cap, P.wf, P.bytes, P.size, P.nil⟩
    have hj' : j < 42 := by have := (List.getElem?_eq_some_iff.1 hj).1; rw [ptv_len P.t8 P.o32] at this; exact this
    have := hc g' rfl (i * 42 + j) x (by
      rw [flatP_get s.ps (fun q hq => by obtain ⟨k, hk⟩ := List.mem_iff_getElem?.1 hq; exact ptv_len (hs k q hk).t8 (hs k q hk).o32) i j p hi hj']; exact hj)
    rw [add_plain] at this
    rw [Nat.zero_add]; rw [Nat.zero_add] at this; exact this
end
end Sc
end Go.Proofs.Ytpamegkbhdbheaa
