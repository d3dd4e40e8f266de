/-
  How a signal comes to lie while New makes its channels one by one: what lies when some are made, one more, the row that grows. No function of the program is walked here. No conditions beyond those said.
  What New of package signal returns: a contract by walking the Go text (channels made one by one, their row grows). Conditions: none beyond the configuration's length.
  The package as a law of layer 18 meets it: how a signal lies, and the contracts of all that a law calls. No function of the program is walked here. No conditions beyond those said.
-/
import Derived.Test.YtmlhmmfgdioclaaGreatSignalThose
import Derived.Test.YtmlhmmfgdioclaaGreatJSignalHelp2
import Derived.Test.YtmlhmmfgdioclaaGreatJConfigRows3
import Derived.Test.YtmlhmmfgdioclaaGreatJSignalSteps4
import Derived.Test.YtmlhmmfgdioclaaGreatSignalState
import Derived.Test.YtmlhmmfgdioclaaGreatJKept4
namespace Go.Proofs.YtmlhmmfgdioclaaGreat
set_option maxRecDepth 100000
open Go.ChangeShapes Go.WideShapes Go.ChangeAt Go.RowKit Go.Deep Go.Shelf
namespace Sg
open Cf (G CA Box)

theorem vrow_row {W Y : World} {g : Nat} {t e : TypeId} {cs : List Value} {base n k : Nat} {v : Value} {xs : List Value} (h : VRow W g t cs) (ht : t ≠ e) (hr : W.ownsRow base e n v k xs) (hg : W.grownBy Y v.ownBlock) : VRow Y g t cs := by
  refine (hg.block g h.lt fun q => ?_).trans h
  rcases hr.2 with ⟨rfl, -⟩ | ⟨g', cap, cur, rfl, -, hh, -⟩
  · cases q
  · obtain rfl : g = g' := by simpa [Value.ownBlock] using q
    unfold VRow at h
    rw [hh] at h
    injection h with h; injection h with h1 h2
    exact ht h2.symm
theorem vrow_set {W : World} {g : Nat} {t e : TypeId} {cs : List Value} {base n k i : Nat} {v : Value} {xs : List Value} (h : VRow W g t cs) (ht : t ≠ e) (hr : W.ownsRow base e n v k xs) (u : Value) : (W.setCell ⟨g, i, none⟩ u).ownsRow base e n v k xs := by
  rcases hr with ⟨hl, ⟨rfl, h0⟩ | ⟨g', cap, cur, rfl, hb, hh, q⟩⟩
  · exact ⟨hl, Or.inl ⟨rfl, h0⟩⟩
  · refine ⟨hl, Or.inr ⟨g', cap, cur, rfl, hb, (Below.heap_setCell W ⟨g, i, none⟩ u g' ?_).trans hh, q⟩⟩
    rintro e1
    have e2 : g' = g := e1
    subst e2
    unfold VRow at h
    rw [hh] at h
    injection h with h; injection h with h1 h2
    exact ht h2.symm

/-- A signal's cells, with any row. -/
def sgv (c : List Int) (rm : Nat) (v : Value) (x : Int) : List Value := cellsI .i64 c ++ [.pointer (some ⟨rm, 0, none⟩), v, .int .i64 x]
theorem built_sig (c : List Int) (rm : Nat) (v : Int) (hc : c.length = 21) : Tryz.prog.built 87 [(0, .agg (CA c)), (1, .pointer (some ⟨rm, 0, none⟩)), (3, .int .i64 v)] = some (sgv c rm (.slice none 0 0) v).toArray := by
  match c, hc with
  | [a0, a1, a2, a3, a4, a5, a6, a7, a8, a9, a10, a11, a12, a13, a14, a15, a16, a17, a18, a19, a20], _ =>
    refine Eq.trans ?_ rfl
    kernel_rfl
theorem sgv_row (c : List Int) (hc : c.length = 21) (rm : Nat) (v : Value) (x : Int) : (sgv c rm v x)[22]? = some v := by
  unfold sgv
  rw [List.getElem?_append_right (by simp [cellsI, hc])]
  simp [cellsI, hc]
theorem sgv_set (c : List Int) (hc : c.length = 21) (rm : Nat) (v v' : Value) (x : Int) : (sgv c rm v x).set 22 v' = sgv c rm v' x := by
  unfold sgv
  rw [List.set_append_right _ _ (by simp [cellsI, hc])]
  simp [cellsI, hc]

/-- A new channel's structs. -/
structure Nw (Y : World) (c : List Int) (rm x j f l t : Nat) : Prop where
  own : VRow Y x 115 [.pointer (some ⟨j, 0, none⟩), .pointer (some ⟨f, 0, none⟩), .pointer (some ⟨l, 0, none⟩), .pointer (some ⟨t, 0, none⟩), .bool false, .bool false, .int .i64 0, .int .i64 0, .int .i64 0]
  jw : VRow Y j 171 (Jp.wat (G c 1) (G c 2) (G c 4) 0 false)
  fw : VRow Y f 178 (Sk.wt rm 0 0)
  fl : VRow Y l 175 (Dr.fil (G c 8) (G c 7) 0)
  tr : VRow Y t 165 (Ql.tri (G c 10) (G c 11) 0)
theorem Nw.on {Y Z : World} {c : List Int} {rm x j f l t : Nat} (H : Nw Y c rm x j f l t) (B : Below Y.heap.size Y Z) : Nw Z c rm x j f l t :=
  ⟨H.own.below B H.own.lt, H.jw.below B H.jw.lt, H.fw.below B H.fw.lt, H.fl.below B H.fl.lt, H.tr.below B H.tr.lt⟩
/-- What lies when k channels are made, but for the row. -/
structure Sm (w X : World) (c : List Int) (bx g rm : Nat) (b : Nat → Nat) (k : Nat) (v : Value) : Prop where
  below : Below w.heap.size w X
  cfg : VRow X bx 24 (cellsI .i64 c)
  sig : VRow X g 87 (sgv c rm v (G c 3))
  room : VRow X rm 123 (cellsI .i64 (Sk.room (G c 6) (G c 5) (List.replicate 15 0) 0 0))
  b0 : b 0 = g
  b1 : b 1 = rm
  chs : ∀ i, i < k → Chan X b c i ch0
  inj : ∀ p q, p < 3 + 5 * k → q < 3 + 5 * k → p ≠ 2 → q ≠ 2 → b p = b q → p = q
  ge : ∀ p, p < 3 + 5 * k → p ≠ 2 → w.heap.size ≤ b p
section
variable {w X Y : World} {c : List Int} {bx g rm : Nat} {b : Nat → Nat} {k : Nat} {v v' : Value}
theorem Sm.on (H : Sm w X c bx g rm b k v) (B : Below X.heap.size X Y) : Sm w Y c bx g rm b k v :=
  ⟨grow H.below B, H.cfg.below B H.cfg.lt, H.sig.below B H.sig.lt, H.room.below B H.room.lt, H.b0, H.b1, fun i hi => (H.chs i hi).but (But.of_below (S := fun _ => False) B) fun _ _ q => q, H.inj, H.ge⟩
/-- What lies at a place. -/
theorem Sm.typ (H : Sm w X c bx g rm b k v) {p : Nat} (hp : p < 3 + 5 * k) (h2 : p ≠ 2) : ∃ t cs, VRow X (b p) t cs ∧ t ≠ 88 := by
  by_cases h0 : p = 0
  · subst h0; exact ⟨_, _, H.b0 ▸ H.sig, by decide⟩
  by_cases h1 : p = 1
  · subst h1; exact ⟨_, _, H.b1 ▸ H.room, by decide⟩
  obtain ⟨i, q, hi, hq, rfl⟩ : ∃ i q, i < k ∧ q < 5 ∧ p = 3 + q + 5 * i := ⟨(p - 3) / 5, (p - 3) % 5, by omega, by omega, by omega⟩
  have C := H.chs i hi
  obtain ⟨la, f, -⟩ := C.fw
  have : q = 0 ∨ q = 1 ∨ q = 2 ∨ q = 3 ∨ q = 4 := by omega
  rcases this with rfl | rfl | rfl | rfl | rfl
  · exact ⟨_, _, C.own, by decide⟩
  · exact ⟨_, _, C.jw, by decide⟩
  · exact ⟨_, _, f, by decide⟩
  · exact ⟨_, _, C.fl, by decide⟩
  · exact ⟨_, _, C.tr, by decide⟩
theorem Sm.lt (H : Sm w X c bx g rm b k v) {p : Nat} (hp : p < 3 + 5 * k) (h2 : p ≠ 2) : b p < X.heap.size := by
  obtain ⟨t, cs, h, -⟩ := H.typ hp h2
  exact h.lt
theorem Sm.grown (H : Sm w X c bx g rm b k v) {base : Nat} {u : Value} {n : Nat} {xs : List Value} (hr : X.ownsRow base 88 1 u n xs) (hb : w.heap.size ≤ base) (hg : X.grownBy Y u.ownBlock) : Sm w Y c bx g rm b k v := by
  refine ⟨H.below.grown hg H.below.size fun j e => Nat.le_trans hb (World.ownsRow.lt hr j e).1, vrow_row H.cfg (by decide) hr hg, vrow_row H.sig (by decide) hr hg, vrow_row H.room (by decide) hr hg, H.b0, H.b1, fun i hi => ?_, H.inj, H.ge⟩
  have C := H.chs i hi
  obtain ⟨la, f1, f2⟩ := C.fw
  exact ⟨vrow_row C.own (by decide) hr hg, vrow_row C.jw (by decide) hr hg, ⟨la, vrow_row f1 (by decide) hr hg, f2⟩, vrow_row C.fl (by decide) hr hg, vrow_row C.tr (by decide) hr hg⟩
theorem Nw.grown {x j f l t : Nat} (H : Nw X c rm x j f l t) {base : Nat} {u : Value} {n : Nat} {xs : List Value} (hr : X.ownsRow base 88 1 u n xs) (hg : X.grownBy Y u.ownBlock) : Nw Y c rm x j f l t :=
  ⟨vrow_row H.own (by decide) hr hg, vrow_row H.jw (by decide) hr hg, vrow_row H.fw (by decide) hr hg, vrow_row H.fl (by decide) hr hg, vrow_row H.tr (by decide) hr hg⟩
/-- Its row is stored. -/
theorem Sm.row (H : Sm w X c bx g rm b k v) (hc : c.length = 21) (v' : Value) (hbx : bx ≠ g) : Sm w (X.setCell ⟨g, 22, none⟩ v') c bx g rm b k v' := by
  have hw : w.heap.size ≤ g := H.b0 ▸ H.ge 0 (by omega) (by omega)
  have no : ∀ p, p < 3 + 5 * k → p ≠ 2 → p ≠ 0 → b p ≠ g := fun p h1 h2 h3 e => h3 (H.inj p 0 h1 (by omega) h2 (by omega) (e.trans H.b0.symm))
  refine ⟨H.below.setCell (p := ⟨g, 22, none⟩) hw _, H.cfg.setOther (p := ⟨g, 22, none⟩) hbx _, ?_, H.room.setOther (p := ⟨g, 22, none⟩) ?_ _, H.b0, H.b1, fun i hi => ?_, H.inj, H.ge⟩
  · rw [← sgv_set c hc rm v v']; exact H.sig.set 22 _
  · exact H.b1 ▸ no 1 (by omega) (by omega) (by omega)
  · have C := H.chs i hi
    obtain ⟨la, f1, f2⟩ := C.fw
    exact ⟨C.own.setOther (p := ⟨g, 22, none⟩) (no _ (by omega) (by omega) (by omega)) _, C.jw.setOther (p := ⟨g, 22, none⟩) (no _ (by omega) (by omega) (by omega)) _, ⟨la, f1.setOther (p := ⟨g, 22, none⟩) (no _ (by omega) (by omega) (by omega)) _, f2⟩, C.fl.setOther (p := ⟨g, 22, none⟩) (no _ (by omega) (by omega) (by omega)) _, C.tr.setOther (p := ⟨g, 22, none⟩) (no _ (by omega) (by omega) (by omega)) _⟩
/-- The places with those of one more channel. -/
def ext (b : Nat → Nat) (k x j f l t p : Nat) : Nat := if p = 3 + 5 * k then x else if p = 4 + 5 * k then j else if p = 5 + 5 * k then f else if p = 6 + 5 * k then l else if p = 7 + 5 * k then t else b p
theorem ext_old {k x j f l t p : Nat} (h : p < 3 + 5 * k) : ext b k x j f l t p = b p := by
  unfold ext
  rw [if_neg (by omega), if_neg (by omega), if_neg (by omega), if_neg (by omega), if_neg (by omega)]
theorem Chan.re {b' : Nat → Nat} {i : Nat} {h : Ch} (H : Chan X b c i h) (e1 : b' 1 = b 1) (e : ∀ q, 3 + 5 * i ≤ q → q < 8 + 5 * i → b' q = b q) : Chan X b' c i h := by
  have a3 : xb b' i = xb b i := e _ (by omega) (by omega)
  have a4 : jb b' i = jb b i := e _ (by omega) (by omega)
  have a5 : fb b' i = fb b i := e _ (by omega) (by omega)
  have a6 : lb b' i = lb b i := e _ (by omega) (by omega)
  have a7 : tb b' i = tb b i := e _ (by omega) (by omega)
  have ec : chr b' i h.st = chr b i h.st := by unfold chr; rw [a4, a5, a6, a7]
  obtain ⟨h1, h2, ⟨la, h3, h3'⟩, h4, h5⟩ := H
  exact ⟨by rw [a3, ec]; exact h1, by rw [a4]; exact h2, ⟨la, by rw [a5, e1]; exact h3, h3'⟩, by rw [a6]; exact h4, by rw [a7]; exact h5⟩
/-- One more. -/
theorem Sm.next {x j f l t n : Nat} (H : Sm w X c bx g rm b k v) (N : Nw X c rm x j f l t) (hn : ∀ p, p < 3 + 5 * k → p ≠ 2 → b p < n) (hw : w.heap.size ≤ n) (ho : n ≤ j ∧ j < l ∧ l < t ∧ t < f ∧ f < x) : Sm w X c bx g rm (ext b k x j f l t) (k + 1) v := by
  obtain ⟨o1, o2, o3, o4, o5⟩ := ho
  refine ⟨H.below, H.cfg, H.sig, H.room, (ext_old (by omega)).trans H.b0, (ext_old (by omega)).trans H.b1, fun i hi => ?_, fun p q hp hq p2 q2 he => ?_, fun p hp p2 => ?_⟩
  · by_cases hk : i = k
    · subst hk
      have a3 : xb (ext b i x j f l t) i = x := by unfold xb ext; rw [if_pos rfl]
      have a4 : jb (ext b i x j f l t) i = j := by unfold jb ext; rw [if_neg (by omega), if_pos rfl]
      have a5 : fb (ext b i x j f l t) i = f := by unfold fb ext; rw [if_neg (by omega), if_neg (by omega), if_pos rfl]
      have a6 : lb (ext b i x j f l t) i = l := by unfold lb ext; rw [if_neg (by omega), if_neg (by omega), if_neg (by omega), if_pos rfl]
      have a7 : tb (ext b i x j f l t) i = t := by unfold tb ext; rw [if_neg (by omega), if_neg (by omega), if_neg (by omega), if_neg (by omega), if_pos rfl]
      have a1 : ext b i x j f l t 1 = rm := (ext_old (by omega)).trans H.b1
      have ec : chr (ext b i x j f l t) i ch0.st = [.pointer (some ⟨j, 0, none⟩), .pointer (some ⟨f, 0, none⟩), .pointer (some ⟨l, 0, none⟩), .pointer (some ⟨t, 0, none⟩), .bool false, .bool false, .int .i64 0, .int .i64 0, .int .i64 0] := by unfold chr; rw [a4, a5, a6, a7]; rfl
      exact ⟨by rw [a3, ec]; exact N.own, by rw [a4]; exact N.jw, ⟨0, by rw [a5, a1]; simpa [ch0] using N.fw, .inl rfl⟩, by rw [a6]; exact N.fl, by rw [a7]; exact N.tr⟩
    · exact (H.chs i (by omega)).re (ext_old (by omega)) fun q h1 h2 => ext_old (by omega)
  · have key : ∀ p, p < 3 + 5 * (k + 1) → p ≠ 2 → (p < 3 + 5 * k ∧ ext b k x j f l t p = b p ∧ b p < n) ∨ (p = 3 + 5 * k ∧ ext b k x j f l t p = x) ∨ (p = 4 + 5 * k ∧ ext b k x j f l t p = j) ∨ (p = 5 + 5 * k ∧ ext b k x j f l t p = f) ∨ (p = 6 + 5 * k ∧ ext b k x j f l t p = l) ∨ (p = 7 + 5 * k ∧ ext b k x j f l t p = t) := by
      intro p hp p2
      by_cases h : p < 3 + 5 * k
      · exact .inl ⟨h, ext_old h, hn p h p2⟩
      · unfold ext
        have : p = 3 + 5 * k ∨ p = 4 + 5 * k ∨ p = 5 + 5 * k ∨ p = 6 + 5 * k ∨ p = 7 + 5 * k := by omega
        rcases this with e | e | e | e | e
        · exact .inr (.inl ⟨e, by rw [if_pos e]⟩)
        · exact .inr (.inr (.inl ⟨e, by rw [if_neg (by omega), if_pos e]⟩))
        · exact .inr (.inr (.inr (.inl ⟨e, by rw [if_neg (by omega), if_neg (by omega), if_pos e]⟩)))
        · exact .inr (.inr (.inr (.inr (.inl ⟨e, by rw [if_neg (by omega), if_neg (by omega), if_neg (by omega), if_pos e]⟩))))
        · exact .inr (.inr (.inr (.inr (.inr ⟨e, by rw [if_neg (by omega), if_neg (by omega), if_neg (by omega), if_neg (by omega), if_pos e]⟩))))
    rcases key p hp p2 with ⟨h1, h2, h3⟩ | ⟨h1, h2⟩ | ⟨h1, h2⟩ | ⟨h1, h2⟩ | ⟨h1, h2⟩ | ⟨h1, h2⟩ <;> rcases key q hq q2 with ⟨g1, g2, g3⟩ | ⟨g1, g2⟩ | ⟨g1, g2⟩ | ⟨g1, g2⟩ | ⟨g1, g2⟩ | ⟨g1, g2⟩ <;> rw [h2, g2] at he <;> first | omega | exact H.inj p q h1 g1 p2 q2 he
  · by_cases h : p < 3 + 5 * k
    · rw [ext_old h]; exact H.ge p h p2
    · unfold ext
      have : p = 3 + 5 * k ∨ p = 4 + 5 * k ∨ p = 5 + 5 * k ∨ p = 6 + 5 * k ∨ p = 7 + 5 * k := by omega
      rcases this with e | e | e | e | e
      · rw [if_pos e]; omega
      · rw [if_neg (by omega), if_pos e]; omega
      · rw [if_neg (by omega), if_neg (by omega), if_pos e]; omega
      · rw [if_neg (by omega), if_neg (by omega), if_neg (by omega), if_pos e]; omega
      · rw [if_neg (by omega), if_neg (by omega), if_neg (by omega), if_neg (by omega), if_pos e]; omega
/-- The channels' pointers. -/
def prow (b : Nat → Nat) (k : Nat) : List Value := (List.range k).map fun i => .pointer (some ⟨xb b i, 0, none⟩)
theorem prow_len (k : Nat) : (prow b k).length = k := by simp [prow]
theorem prow_ext (k x j f l t : Nat) : prow (ext b k x j f l t) (k + 1) = prow b k ++ [.pointer (some ⟨x, 0, none⟩)] := by
  unfold prow
  rw [List.range_succ, List.map_append]
  congr 1
  · refine List.map_congr_left fun i hi => ?_
    rw [List.mem_range] at hi
    unfold xb; rw [ext_old (by omega)]
  · simp [xb, ext]
/-- All are made. -/
theorem Sm.lie (H : Sm w X c bx g rm b (NN c) v) (hr : X.ownsRow w.heap.size 88 1 v (NN c) (prow b (NN c))) (hR : Cf.Right c) : ∃ b' : Nat → Nat, b' 0 = g ∧ Lie X b' c (begin c) ∧ ∀ k, In b' c k → w.heap.size ≤ k := by
  have hN := NN_34 hR
  rcases hr.2 with ⟨-, h0⟩ | ⟨ar, cap, cur, rfl, hb, hh, hk, hm, hcs, ht⟩
  · omega
  have hP6 : (PW c : Int) + 1 = G c 6 := by
    obtain ⟨-, -, -, -, -, -, h6, -⟩ := hR
    unfold PW; omega
  have hne : ∀ p, p < 3 + 5 * NN c → p ≠ 2 → b p ≠ ar := fun p h1 h2 e => by
    obtain ⟨t, cs, h3, h4⟩ := H.typ h1 h2
    unfold VRow at h3
    rw [e, hh] at h3
    injection h3 with h3; injection h3 with h5 h6
    exact h4 h6.symm
  refine ⟨fun p => if p = 2 then ar else b p, by simpa using H.b0, ⟨?_, ?_, ?_, ?_, ?_⟩, ?_⟩
  · intro p q hp hq he
    unfold pn at hp hq
    change (if p = 2 then ar else b p) = (if q = 2 then ar else b q) at he
    by_cases p2 : p = 2 <;> by_cases q2 : q = 2
    · omega
    · rw [if_pos p2, if_neg q2] at he; exact absurd he.symm (hne q hq q2)
    · rw [if_neg p2, if_pos q2] at he; exact absurd he (hne p hp p2)
    · rw [if_neg p2, if_neg q2] at he; exact H.inj p q hp hq p2 q2 he
  · refine ⟨cap, ?_⟩
    show VRow X (if (0 : Nat) = 2 then ar else b 0) _ _
    rw [if_neg (by decide), H.b0]
    have h := H.sig
    unfold sgv at h
    unfold sgr
    simpa [H.b1, begin] using h
  · show Sk.Room X (if (1 : Nat) = 2 then ar else b 1) _ _ _
    rw [if_neg (by decide), H.b1]
    have hPW := PW_bd hR
    rw [show Sk.lastN (PW c) (begin c).votes = [] from Sk.lastN_short (by simp [begin])]
    exact ⟨_, 0, Sk.Ring.new hPW.1 hPW.2, by rw [hP6]; exact VRow.irow H.room⟩
  · refine ⟨cur.toList, 88, ?_, fun i hi => ?_⟩
    · show VRow X (if (2 : Nat) = 2 then ar else b 2) _ _
      rw [if_pos rfl]
      unfold VRow
      simpa using hh
    · have h1 : (cur.toList.take (NN c * 1))[i]? = some (.pointer (some ⟨xb b i, 0, none⟩)) := by
        rw [ht]; unfold prow; simp [hi]
      rw [List.getElem?_take] at h1
      rw [if_pos (by omega)] at h1
      rw [h1]
      have : xb (fun p => if p = 2 then ar else b p) i = xb b i := by unfold xb; exact if_neg (by omega)
      rw [this]
  · intro i hi
    exact (H.chs i hi).re (if_neg (by decide)) fun q h1 h2 => if_neg (by omega)
  · rintro k ⟨p, hp, rfl⟩
    unfold pn at hp
    show _ ≤ if p = 2 then ar else b p
    split
    · exact hb
    · exact H.ge p hp (by assumption)
end
end Sg
end Go.Proofs.YtmlhmmfgdioclaaGreat

namespace Go.Proofs.YtmlhmmfgdioclaaGreat
set_option maxRecDepth 100000
open Go.ChangeShapes Go.WideShapes Go.ChangeAt Go.RowKit Go.Deep Go.Shelf
namespace Sg
open Cf (G CA Box)
open Rf

theorem ptrInfo : (Tryz.prog.info? 88).map (fun i => (i.zero, i.size, i.bytes)) = some (some (.pointer none), 1, 8) := by kernel_rfl
/-- A whole configuration loaded, in a region that draws. -/
theorem wpQuiet_cfg {ops : Array Oper} {C : World → Prop} {Q : Act → Prop} {o : Oper} {rest : List Oper} {a : Act} (hw : Region.wanted o (yielded ops a.tmps) = true) (x : Operand) (ho : o.op = .load 24 x)
    (b : Nat) (c : List Int) (hx : a.eval x = .pointer (some ⟨b, 0, none⟩)) (hb : ∀ w, C w → Box w b c) (hc : c.length = 21)
    (h : wpQuiet Tryz.prog ops C Q rest (a.put o.dst (.agg (CA c)))) : wpQuiet Tryz.prog ops C Q (o :: rest) a := by
  unfold wpQuiet
  rw [if_pos hw]
  refine ⟨.agg (CA c), fun w hC => ?_, h⟩
  unfold Oper.quietAt execOp
  simp only [ho, hx, Instr.loadAt, Instr.sureAddr, Sem.run_bind, Sem.run_pure, Result.andThen_ok, run_loadVar_row w b 24 24 (CA c) (0, 0) _ (hb w hC) Tryz.underlying24 rfl (by rw [Cf.CA_size, hc]; exact Cf.sizeC)]
  exact ⟨rfl, rfl⟩

theorem new_no (c : List Int) (w : World) (hc : c.length = 21) (hR : ¬ Cf.Right c) :
    Calls Tryz.prog 7 #[.agg (CA c)] w fun e w' => e = .returned (.tuple #[.pointer none, .int .i64 2]) ∧ Below w.heap.size w w' := by
  have CR := fun W => Cf.right_any c W hc
  have hrt : Cf.rt c = false := by
    cases h : Cf.rt c
    · rfl
    · exact absurd (of_decide_eq_true h) hR
  rw [hrt] at CR
  have B1 := Lib.hid (Box.new w c)
  have HC := Lib.hid hc
  have b1 := Lib.hid ((Below.refl w.heap.size w).alloc (Nat.le_refl _) (.cells (CA c) 24))
  clear hc hR hrt
  go_enter Tryz.func7, Tryz.ntmps7
  go_wp2_with (first | ((with_reducible show wpList _ _ _ (⟨some 7, _, _, _, _, _⟩ :: _) _ _); refine Cf.wpList_loadC rfl _ rfl w.heap.size c rfl B1.out HC.out ?_) | (go_at_call 24; refine (CR _).mono ?_; rintro e w2 ⟨rfl, b2⟩; have HB2 := Lib.hid (grow b1.out b2); clear b2))
  go_ret2
  exact ⟨rfl, HB2.out⟩
set_option maxRecDepth 100000 in
set_option maxHeartbeats 1600000 in
/-- A channel: its watches, its filter, its trim, itself: all new. -/
theorem newChannel_any (c : List Int) (rm : Nat) (w : World) (hc : c.length = 21) (hR : Cf.Right c) :
    Calls Tryz.prog 26 #[.agg (CA c), .pointer (some ⟨rm, 0, none⟩)] w fun e w' => ∃ x j f l t, e = .returned (.pointer (some ⟨x, 0, none⟩)) ∧ Below w.heap.size w w' ∧ (w.heap.size ≤ j ∧ j < l ∧ l < t ∧ t < f ∧ f < x) ∧
      VRow w' x 115 [.pointer (some ⟨j, 0, none⟩), .pointer (some ⟨f, 0, none⟩), .pointer (some ⟨l, 0, none⟩), .pointer (some ⟨t, 0, none⟩), .bool false, .bool false, .int .i64 0, .int .i64 0, .int .i64 0] ∧
      VRow w' j 171 (Jp.wat (G c 1) (G c 2) (G c 4) 0 false) ∧ VRow w' f 178 (Sk.wt rm 0 0) ∧ VRow w' l 175 (Dr.fil (G c 8) (G c 7) 0) ∧ VRow w' t 165 (Ql.tri (G c 10) (G c 11) 0) := by
  have B1 := Box.new w c
  have k1 := B1.at hc 1 (by omega)
  have k2 := B1.at hc 2 (by omega)
  have k4 := B1.at hc 4 (by omega)
  have b1 := Lib.hid ((Below.refl w.heap.size w).alloc (Nat.le_refl _) (.cells (CA c) 24))
  obtain ⟨h0, h1, h2, h3, h4, h5, h6, h7, h8, h9, h10, h11, -⟩ := hR
  have CJ := fun W => (Jp.new_yes (G c 1) (G c 2) (G c 4) W ((Jp.may_iff _ _ _).2 ⟨(Jp.val_iff _).2 (by omega), (Jp.val_iff _).2 (by omega), by omega, by omega, by omega⟩)).mono fun e w' q => (show ∃ g, e = .returned (.tuple #[.pointer (some ⟨g, 0, none⟩), .int .i64 0]) ∧ Kp.Kept W w' g 171 (Jp.wat (G c 1) (G c 2) (G c 4) 0 false) from ⟨_, q.1, by rw [q.2]; exact ⟨(Below.refl _ _).alloc (Nat.le_refl _) _, VRow.new _ _ _, Nat.le_refl _⟩⟩)
  have CD := fun W => (Dr.new_yes (G c 8) (G c 7) W ((Dr.may_iff _ _).2 ⟨h8.1, h8.2, h7.1, h7.2⟩)).mono fun e w' q => (show ∃ g, e = .returned (.tuple #[.pointer (some ⟨g, 0, none⟩), .int .i64 0]) ∧ Kp.Kept W w' g 175 (Dr.fil (G c 8) (G c 7) 0) from ⟨_, q.1, by rw [q.2]; exact ⟨(Below.refl _ _).alloc (Nat.le_refl _) _, VRow.new _ _ _, Nat.le_refl _⟩⟩)
  have CT := fun W => Ql.new_yes (G c 10) (G c 11) W ((Ql.may_iff _ _).2 ⟨h10.1, h10.2, h11.1, h11.2⟩)
  have CW := fun W => (Sk.watch_any rm W).mono fun e w' q => (show ∃ g, e = .returned (.pointer (some ⟨g, 0, none⟩)) ∧ Kp.Kept W w' g 178 (Sk.wt rm 0 0) from ⟨_, q.1, by rw [q.2]; exact ⟨(Below.refl _ _).alloc (Nat.le_refl _) _, VRow.new _ _ _, Nat.le_refl _⟩⟩)
  have BB := Lib.hid B1
  have HC := Lib.hid hc
  clear B1 hc h0 h1 h2 h3 h4 h5 h6 h7 h8 h9 h10 h11
  go_enter Tryz.func26, Tryz.ntmps26
  go_wp2_with (first | (go_at_call 52; refine (CJ _).mono ?_; clear CJ k1 k2 k4; rintro e w2 ⟨j, rfl, kj⟩; have X2 := Lib.hid (BB.out.on kj.below); have q8 := X2.out.at HC.out 8 (by omega); have q7 := X2.out.at HC.out 7 (by omega); have KJ := Lib.hid kj; clear kj) | (go_at_call 53; refine (CD _).mono ?_; clear CD q7 q8; rintro e w3 ⟨l, rfl, kl⟩; have X3 := Lib.hid (X2.out.on kl.below); have q10 := X3.out.at HC.out 10 (by omega); have q11 := X3.out.at HC.out 11 (by omega); have KL := Lib.hid kl; clear kl) | (go_at_call 54; refine (CT _).mono ?_; clear CT q10 q11; rintro e w4 ⟨t, rfl, kt⟩; have KT := Lib.hid kt; clear kt) | (go_at_call 55; refine (CW _).mono ?_; clear CW; rintro e w5 ⟨f, rfl, kf⟩; have KF := Lib.hid kf; clear kf))
  go_ret
  obtain ⟨bj, vj, gj⟩ := KJ.out
  obtain ⟨bl, vl, gl⟩ := KL.out
  obtain ⟨bt, vt, gt⟩ := KT.out
  obtain ⟨bf, vf, gf⟩ := KF.out
  have ww : (w.alloc (Obj.cells (CA c) 24)).heap.size = w.heap.size + 1 := by simp
  have b5 := (Below.refl w5.heap.size w5).alloc (Nat.le_refl _) (.cells #[.pointer (some ⟨j, 0, none⟩), .pointer (some ⟨f, 0, none⟩), .pointer (some ⟨l, 0, none⟩), .pointer (some ⟨t, 0, none⟩), .bool false, .bool false, .int .i64 0, .int .i64 0, .int .i64 0] 115)
  have lj := vj.lt
  have ll := vl.lt
  have lt := vt.lt
  have lf := vf.lt
  have b4 := grow bf b5
  have b3 := grow bt b4
  have b2 := grow bl b3
  exact ⟨_, j, f, l, t, rfl, grow b1.out (grow bj b2), ⟨by omega, by omega, by omega, by omega, by omega⟩, VRow.new w5 _ _, vj.below b2 lj, vf.below b5 lf, vl.below b3 ll, vt.below b4 lt⟩

set_option maxRecDepth 100000 in
set_option maxHeartbeats 3200000 in
theorem new_yes (c : List Int) (w : World) (hc : c.length = 21) (hR : Cf.Right c) :
    Calls Tryz.prog 7 #[.agg (CA c)] w fun e w' => ∃ b : Nat → Nat, e = .returned (.tuple #[.pointer (some ⟨b 0, 0, none⟩), .int .i64 0]) ∧ Lie w' b c (begin c) ∧ (∀ k, In b c k → w.heap.size ≤ k) ∧ Below w.heap.size w w' := by
  have CR := fun W => Cf.right_any c W hc
  have hrt : Cf.rt c = true := decide_eq_true hR
  rw [hrt] at CR
  have hPW := PW_bd hR
  have CS := fun W => (Sk.new_yes (PW c) (G c 5) W hPW.1 hPW.2 (by obtain ⟨-, -, -, -, -, h5, -⟩ := hR; exact h5.1) (by obtain ⟨-, -, -, -, -, h5, -⟩ := hR; exact h5.2)).mono fun e w' q => (show ∃ g, e = .returned (.tuple #[.pointer (some ⟨g, 0, none⟩), .int .i64 0]) ∧ Kp.Kept W w' g 123 (cellsI .i64 (Sk.room ((PW c : Int) + 1) (G c 5) (List.replicate 15 0) 0 0)) from ⟨_, q.1, by rw [q.2]; exact ⟨(Below.refl _ _).alloc (Nat.le_refl _) _, VRow.new _ _ _, Nat.le_refl _⟩⟩)
  have hP6 : (PW c : Int) + 1 = G c 6 := by
    obtain ⟨-, -, -, -, -, -, h6, -⟩ := hR
    unfold PW; omega
  rw [hP6] at CS
  have B1 := Lib.hid (Box.new w c)
  have HC := Lib.hid hc
  have b1 := Lib.hid ((Below.refl w.heap.size w).alloc (Nat.le_refl _) (.cells (CA c) 24))
  have BS := Lib.hid (fun rm => built_sig c rm (G c 3) hc)
  have HN := NN_34 hR
  obtain ⟨z, hz⟩ : ∃ z, z = fun rm => (sgv c rm (.slice none 0 0) (G c 3)).toArray := ⟨_, rfl⟩
  have HZ := Lib.hid hz
  clear hc hrt hz
  go_enter Tryz.func7, Tryz.ntmps7
  go_wp2_with (first | ((with_reducible show wpList _ _ _ (⟨some 7, _, _, _, _, _⟩ :: _) _ _); refine Cf.wpList_loadC rfl _ rfl w.heap.size c rfl B1.out HC.out ?_) | (go_at_call 24; refine (CR _).mono ?_; rintro e w2 ⟨rfl, b2⟩; have HB2 := Lib.hid (grow b1.out b2); have X2 := Lib.hid (B1.out.on b2); have q5 := X2.out.at HC.out 5 (by omega); have q6 := X2.out.at HC.out 6 (by omega); clear b2) | (go_at_call 25; refine (CS _).mono ?_; clear CS q5 q6; rintro e w3 ⟨rm, rfl, kr⟩; have KR := Lib.hid kr; have X3 := Lib.hid (X2.out.on kr.below); have q3 := X3.out.at HC.out 3 (by omega); have q0 := ((X3.out.below ((Below.refl w3.heap.size w3).alloc (Nat.le_refl _) (.cells (z rm) 87)) X3.out.lt)).at HC.out 0 (by omega); clear kr) | ((with_reducible show wpList _ _ _ (⟨some 22, _, _, _, _, _⟩ :: _) _ _); refine wpList_buildTo rfl _ _ rfl (z rm) (by rw [HZ.out]; simp only [List.map_toArray, List.map_cons, List.map_nil]; exact BS.out rm) ?_) | ((with_reducible show wpList _ _ _ (⟨some 18, _, _, _, _, _⟩ :: _) _ _); refine Cf.wpList_loadC rfl _ rfl w.heap.size c rfl X3.out HC.out ?_))
  clear q3 q0 CR
  have CN := Lib.hid (fun (W : World) => newChannel_any c rm W HC.out hR)
  have HHR := Lib.hid hR
  have hg : w.heap.size ≤ w3.heap.size := by have := X3.out.lt; omega
  have hgl : w.heap.size < w3.heap.size := X3.out.lt
  obtain ⟨g, hg0⟩ : ∃ g, g = w3.heap.size := ⟨_, rfl⟩
  obtain ⟨br, vr, gr⟩ := KR.out
  have hb0 : Below w.heap.size w w3 := grow HB2.out br
  have h2 := HB2.out.size
  have S0 : Sm w (w3.alloc (.cells (z rm) 87)) c w.heap.size g rm (fun p => if p = 0 then g else rm) 0 (.slice none 0 0) := by
    have hal := (Below.refl w3.heap.size w3).alloc (Nat.le_refl _) (.cells (z rm) 87)
    refine ⟨grow hb0 hal, VRow.below (w := w3) X3.out hal X3.out.lt, ?_, vr.below hal vr.lt, rfl, rfl, fun i hi => by omega, fun p q hp hq p2 q2 he => ?_, fun p hp p2 => ?_⟩
    · rw [hg0, HZ.out]; exact VRow.new _ _ _
    · have := vr.lt
      have h5 : p = 0 ∨ p = 1 := by omega
      have h6 : q = 0 ∨ q = 1 := by omega
      rcases h5 with rfl | rfl <;> rcases h6 with rfl | rfl <;> simp at he ⊢ <;> omega
    · show _ ≤ if p = 0 then g else rm
      split <;> omega
  have SS := Lib.hid S0
  clear S0 hb0 br vr gr h2 KR X3 X2 HB2 b1 B1 hR hP6 BS HZ
  generalize w3.alloc (.cells (z rm) 87) = W0 at *
  rw [← hg0] at hg hgl ⊢
  clear hg0
  obtain ⟨N0, hN0⟩ : ∃ N0, N0 = NN c := ⟨_, rfl⟩
  have hG0 : G c 0 = (N0 : Int) := by rw [hN0]; unfold NN at HN ⊢; omega
  rw [hG0]
  obtain ⟨i0, hi0, hz0, hz1, hz2⟩ := info_parts ptrInfo
  go_loopg [26] N0 (fun gn s26 wr => ∃ k : Nat, k + gn = N0 ∧ s26 = .int .i64 k ∧ Hid (∃ b v, Sm w wr c w.heap.size g rm b k v ∧ wr.ownsRow w.heap.size 88 1 v k (prow b k)))
  case atStart => exact ⟨0, by omega, rfl, Lib.hid ⟨_, _, SS.out, World.ownsRow_nil _ _ _ _⟩⟩
  case round =>
    obtain ⟨k, hk, rfl, HM⟩ := hrel
    clear SS
    cases gk with
    | zero =>
      obtain rfl : k = N0 := by omega
      have d0 : decide ((k : Int) < (k : Int)) = false := by simp
      go_wp2_with fail
      go_ret2
      obtain ⟨b, v, h1, h2⟩ := HM.out
      subst hN0
      obtain ⟨b', e0, h3, h4⟩ := h1.lie h2 HHR.out
      exact ⟨b', by rw [e0]; rfl, h3, h4, h1.below⟩
    | succ gn =>
      obtain ⟨b, v, HS, HO⟩ := HM.out
      have d0 : decide ((k : Int) < (N0 : Int)) = true := by simp; omega
      have hv : ∃ a cap, v = .slice a k cap := by
        rcases HO.2 with ⟨rfl, h0⟩ | ⟨g, cap, cur, rfl, _⟩
        · rw [h0]; exact ⟨none, 0, rfl⟩
        · exact ⟨_, cap, rfl⟩
      obtain ⟨va, vc, hv⟩ := hv
      have HSS := Lib.hid HS
      have HOO := Lib.hid HO
      have hk4 : k ≤ 4 := by omega
      have hXw := HS.below.size
      clear HS HO HM
      go_wp2_with fail
      refine Wr.wp_writes (aF := ?_) [35, 36, 37] [7, 8, 9, 12] 42 3 [true, true, true, true, true, true, true, false, false, false, true, true, false] [false, false, false, false, false, false, false, false, false, false, true, false, false] [(35, undef), (36, undef), (37, undef)]
        (fun q vs Y => match q with
          | 0 => Below wr.heap.size wr Y
          | 1 => Below wr.heap.size wr Y ∧ ∃ x j f l t, vs.getD 0 undef = .pointer (some ⟨x, 0, none⟩) ∧ (wr.heap.size ≤ j ∧ j < l ∧ l < t ∧ t < f ∧ f < x) ∧ Nw Y c rm x j f l t
          | 2 => Below wr.heap.size wr Y ∧ ∃ x j f l t, vs.getD 0 undef = .pointer (some ⟨x, 0, none⟩) ∧ (wr.heap.size ≤ j ∧ j < l ∧ l < t ∧ t < f ∧ f < x) ∧ Nw Y c rm x j f l t ∧ ∃ ad : Addr, vs.getD 1 undef = .slice (some ad) 1 1 ∧ Y.cell? ad = some (.pointer (some ⟨x, 0, none⟩))
          | 3 => Sm w Y c w.heap.size g rm b k v ∧ ∃ x j f l t, (wr.heap.size ≤ j ∧ j < l ∧ l < t ∧ t < f ∧ f < x) ∧ Nw Y c rm x j f l t ∧ ∃ ar cap, vs.getD 2 undef = .slice (some ⟨ar, 0, none⟩) (k + 1) cap ∧ Y.ownsRow w.heap.size 88 1 (.slice (some ⟨ar, 0, none⟩) (k + 1) cap) (k + 1) (prow b k ++ [.pointer (some ⟨x, 0, none⟩)])
          | _ => ∃ b' v', Sm w Y c w.heap.size g rm b' (k + 1) v' ∧ Y.ownsRow w.heap.size 88 1 v' (k + 1) (prow b' (k + 1)))
        (fun Y => Box Y w.heap.size c ∧ VRow Y g 87 (sgv c rm v (G c 3)))
        (by kernel_rfl) (by kernel_rfl) (by kernel_rfl) (by kernel_rfl) (by kernel_rfl) ?ha ?hMC ?hMg ?h0 ?hq ?hq2 ?hw ?hend
      case hq =>
        rintro Y ⟨hb, hs⟩
        have k1 := cell_regrown (hs.cell 22 (v := v) (sgv_row c HC.out rm v _))
        have HBX := Lib.hid (show ∀ W, (∃ p : Regrown, W = Sort.grow (redrawn Y p.d) p.os) → Box W w.heap.size c by rintro W ⟨p, rfl⟩; exact hb.on (below_regrown Y p.d p.os))
        clear hb hs
        subst hv
        simp only [Lt.sel, Lt.putAll, List.map_cons, List.map_nil, List.zip_cons_cons, List.zip_nil_right, List.foldl_cons, List.foldl_nil, Act.put, List.setIfInBounds_toArray, List.set_cons_succ, List.set_cons_zero]
        repeat (first
          | (with_reducible show wpQuiet _ _ _ _ (⟨some 33, _, _, _, _, _⟩ :: _) _
             refine wpQuiet_cfg rfl _ rfl w.heap.size c rfl HBX.out HC.out ?_
             simp only [Act.put, List.setIfInBounds_toArray, List.set_cons_succ, List.set_cons_zero])
          | go_big_quiet_step (fail))
        exact rfl
      case ha => rfl
      case hMC =>
        have key : ∀ Y, Sm w Y c w.heap.size g rm b k v → Box Y w.heap.size c ∧ VRow Y g 87 (sgv c rm v (G c 3)) := fun Y h => ⟨h.cfg, h.sig⟩
        rintro (_ | _ | _ | _ | q) vs Y hq hM
        · exact key _ (HSS.out.on hM)
        · exact key _ (HSS.out.on hM.1)
        · exact key _ (HSS.out.on hM.1)
        · exact key _ hM.1
        · omega
      case hMg =>
        rintro (_ | _ | _ | _ | q) vs Y Z hM hC
        · exact grow hM hC.to
        · obtain ⟨h1, x, j, f, l, t, h2, h3, h4⟩ := hM
          exact ⟨grow h1 hC.to, x, j, f, l, t, h2, h3, h4.on hC.to⟩
        · obtain ⟨h1, x, j, f, l, t, h2, h3, h4, ad, h5, h6⟩ := hM
          exact ⟨grow h1 hC.to, x, j, f, l, t, h2, h3, h4.on hC.to, ad, h5, (hC.to.cell (p := ad) (cell_blk h6)).trans h6⟩
        · obtain ⟨h1, x, j, f, l, t, h3, h4, ar, cap, h5, h6⟩ := hM
          exact ⟨h1.on hC.to, x, j, f, l, t, h3, h4.on hC.to, ar, cap, h5, owns_grow h6 hC.to⟩
        · obtain ⟨b', v', h1, h2⟩ := hM
          exact ⟨b', v', h1.on hC.to, owns_grow h2 hC.to⟩
      case h0 => exact fun _ _ => Below.refl _ _
      case hq2 =>
        intro q vs Y _ _ _
        simp only [Lt.sel]
        repeat (go_big_quiet_step (fail))
        exact rfl
      case hw =>
        rintro (_ | _ | _ | _ | q) st o hs ho vs Y hl hM
        · obtain rfl : 7 = st := by simpa using hs
          obtain rfl := Option.some.inj ho
          match vs, hl with
          | [x1, x2, x3], _ =>
            refine Wr.wp_fn (f := 26) (args := #[.agg (CA c), .pointer (some ⟨rm, 0, none⟩)]) (by kernel_rfl) (CN.out Y) ?_
            rintro e Z ⟨x, j, f, l, t, rfl, hb, ho, z1, z2, z3, z4, z5⟩
            have hMs := hM.size
            exact ⟨_, rfl, _, rfl, fun d hd hn => absurd (by cases hd; simp) hn, grow hM hb, x, j, f, l, t, rfl, ⟨by omega, ho.2⟩, ⟨z1, z2, z3, z4, z5⟩⟩
        · obtain rfl : 8 = st := by simpa using hs
          obtain rfl := Option.some.inj ho
          match vs, hl with
          | [x1, x2, x3], _ =>
            obtain ⟨h1, x, j, f, l, t, h2, h3, h4⟩ := hM
            obtain rfl : x1 = .pointer (some ⟨x, 0, none⟩) := h2
            have hnew := (Boxed.new Y 88 (.pointer (some ⟨x, 0, none⟩))).cell
            have hal := (Below.refl Y.heap.size Y).alloc (Nat.le_refl _) (.cells #[.pointer (some ⟨x, 0, none⟩)] 88)
            have HK := Lib.hid (And.intro (grow h1 hal) (And.intro h3 (And.intro (h4.on hal) hnew)))
            clear hal hnew h1 h3 h4
            simp only [Lt.putAll, List.zip_cons_cons, List.zip_nil_right, List.foldl_cons, List.foldl_nil, Act.put, List.setIfInBounds_toArray, List.set_cons_succ, List.set_cons_zero]
            unfold Oper.wp
            go_simp
            exact ⟨HK.out.1, x, rfl, j, f, l, t, HK.out.2.1, HK.out.2.2.1, ⟨Y.heap.size, 0, none⟩, rfl, HK.out.2.2.2⟩
        · obtain rfl : 9 = st := by simpa using hs
          obtain rfl := Option.some.inj ho
          match vs, hl with
          | [x1, x2, x3], _ =>
            obtain ⟨h1, x, j, f, l, t, h2, h3, h4, ad, h5, h6⟩ := hM
            obtain rfl : x1 = .pointer (some ⟨x, 0, none⟩) := h2
            obtain rfl : x2 = .slice (some ad) 1 1 := h5
            have hrY := owns_grow HOO.out h1
            have hYs := h1.size
            simp only [Lt.putAll, List.zip_cons_cons, List.zip_nil_right, List.foldl_cons, List.foldl_nil, Act.put, List.setIfInBounds_toArray, List.set_cons_succ, List.set_cons_zero]
            refine wp_append_own _ (.tmp 32) (.tmp 36) 85 rfl w.heap.size 88 i0 (.pointer none) 1 8 Tryz.underlying85 hi0 hz0 hz1 hz2 rfl (by decide) v k (prow b k) (by rw [hv]; rfl) hrY ad 1 1 [.pointer (some ⟨x, 0, none⟩)] rfl rfl ?_ (by simp [Value.oneCell']) (by unfold maxLen; omega) (by omega) (by omega) ?_
            · intro j w hj
              match j, hj with
              | 0, hj => simp at hj; subst hj; simpa [Addr.add] using h6
            · intro v' w' g1 g2 _
              obtain ⟨g', cap', rfl⟩ := ownsRow_succ g1
              refine ⟨_, rfl, fun d hd hn => absurd (by cases hd; simp) hn, (HSS.out.on h1).grown hrY (Nat.le_refl _) g2, x, j, f, l, t, h3, h4.grown hrY g2, g', cap', rfl, g1⟩
        · obtain rfl : 12 = st := by simpa using hs
          obtain rfl := Option.some.inj ho
          match vs, hl with
          | [x1, x2, x3], _ =>
            obtain ⟨h1, x, j, f, l, t, h3, h4, ar, cap, h5, h6⟩ := hM
            obtain rfl : x3 = .slice (some ⟨ar, 0, none⟩) (k + 1) cap := h5
            have cl := h1.sig.cell 22 (v := v) (sgv_row c HC.out rm v _)
            have fl := h1.sig.frozen 22
            have HK := Lib.hid (show ∃ b' v', Sm w (Y.setCell ⟨g, 22, none⟩ (.slice (some ⟨ar, 0, none⟩) (k + 1) cap)) c w.heap.size g rm b' (k + 1) v' ∧ (Y.setCell ⟨g, 22, none⟩ (.slice (some ⟨ar, 0, none⟩) (k + 1) cap)).ownsRow w.heap.size 88 1 v' (k + 1) (prow b' (k + 1)) from
              ⟨ext b k x j f l t, _, (h1.next h4 (fun p hp p2 => HSS.out.lt hp p2) hXw h3).row HC.out _ (by omega), by rw [prow_ext]; exact vrow_set h1.sig (by decide) h6 _⟩)
            clear h1 h3 h4 h6
            subst hv
            simp only [Lt.putAll, List.zip_cons_cons, List.zip_nil_right, List.foldl_cons, List.foldl_nil, Act.put, List.setIfInBounds_toArray, List.set_cons_succ, List.set_cons_zero]
            unfold Oper.wp
            go_simp
            exact HK.out
        · simp at hs
      case hend =>
        intro vs Y hl hM
        have HK := Lib.hid (show ∃ b' v', Sm w Y c w.heap.size g rm b' (k + 1) v' ∧ Y.ownsRow w.heap.size 88 1 v' (k + 1) (prow b' (k + 1)) from hM)
        clear hM
        match vs, hl with
        | [x1, x2, x3], _ =>
          simp only [Lt.putAll, List.zip_cons_cons, List.zip_nil_right, List.foldl_cons, List.foldl_nil, Act.put, List.setIfInBounds_toArray, List.set_cons_succ, List.set_cons_zero]
          go_wp2_with fail
          go_roundg gn
          case rel => exact ⟨k + 1, by omega, by go_num, HK⟩
          case measure => omega
end Sg
end Go.Proofs.YtmlhmmfgdioclaaGreat

namespace Go.Proofs.YtmlhmmfgdioclaaGreat
set_option maxRecDepth 100000
open Go.ChangeShapes Go.WideShapes Go.ChangeAt Go.RowKit Go.Deep Go.Shelf
namespace Sg
open Cf (G CA)

theorem okr_rok {c : List Int} {r : Nat → Rw} {sh : Int} (h : okr c r sh) : Rok c r := h.1
/-- The face of the package. -/
def faced : Face where
  At W S g c s := ∃ b, Lie W b c s ∧ S = In b c ∧ g = b 0 ∧ c.length = 21
  lt := by
    rintro W S g c s ⟨b, H, rfl, rfl, hc⟩ j hj
    exact H.lt hj
  keep := by
    rintro W W' S T g c s ⟨b, H, rfl, rfl, hc⟩ B hT
    exact ⟨b, H.keep B hT, rfl, rfl, hc⟩
  new_yes := fun c w hc hR => (new_yes c w hc hR).mono fun e w' q => by
    obtain ⟨b, e1, h1, h2, h3⟩ := q
    exact ⟨⟨b 0, In b c, e1, ⟨b, h1, rfl, rfl, hc⟩, h2⟩, h3⟩
  new_no := fun c w hc hR => new_no c w hc hR
  step_yes := by
    rintro W S g c s r sh ⟨b, H, rfl, rfl, hc⟩ hR hO hr _
    refine (step_yes hc hR hr.1 hO H (okb_iff.2 hr)).mono fun e w' q => ?_
    exact ⟨q.1, In b c, ⟨b, q.2.1, rfl, rfl, hc⟩, q.2.2, fun j hj => .inl hj⟩
  step_no := by
    rintro W S g c s r sh ⟨b, H, rfl, rfl, hc⟩ hR hO hr
    refine step_no hc hR H ?_
    cases h : okb c r sh
    · rfl
    · exact absurd (okb_iff.1 h) hr
  value := by
    rintro W S g c s ⟨b, H, rfl, rfl, hc⟩
    exact (value_any hc H).mono fun e w' q => by
      obtain ⟨h1, h2⟩ := q
      subst h2
      exact ⟨h1, Below.refl _ _⟩
  latched := by
    rintro W S g c s ⟨b, H, rfl, rfl, hc⟩ hR
    exact latched_any hc hR H
  state_yes := by
    rintro W S g c s k ⟨b, H, rfl, rfl, hc⟩ hR hk
    exact state_yes hc H k hk
  state_no := by
    rintro W S g c s k ⟨b, H, rfl, rfl, hc⟩ hR hk
    exact state_no hc H k hk
  offset_yes := by
    rintro W S g c s k ⟨b, H, rfl, rfl, hc⟩ hR hk
    exact (offset_yes hc H k hk).mono fun e w' q => ⟨q.1, q.2 ▸ Below.refl _ _⟩
  offset_no := by
    rintro W S g c s k ⟨b, H, rfl, rfl, hc⟩ hR hk
    exact (offset_no hc H k hk).mono fun e w' q => ⟨q.1, q.2 ▸ Below.refl _ _⟩
end Sg
end Go.Proofs.YtmlhmmfgdioclaaGreat
