/-
  How a signal comes to lie while New makes its channels one by one: what lies when some are made, one more, the row that grows. No function of the program is walked here. No conditions beyond those said.
-/
import Derived.Test.YtpoededbmdffpaaGreatDoorSignalThose
namespace Go.Proofs.YtpoededbmdffpaaGreatDoor
set_option maxRecDepth 100000
open Go.ChangeShapes Go.WideShapes Go.ChangeAt Go.RowKit Go.Deep Go.Shelf
namespace Sg
open Cf (G CA Box)
theorem vrow_row {W Y : World} {g : Nat} {t e : TypeId} {cs : List Value} {base n k : Nat} {v : Value} {xs : List Value} (h : VRow W g t cs) (ht : t ≠ e) (hr : W.ownsRow base e n v k xs) (hg : W.grownBy Y v.ownBlock) : VRow Y g t cs := by
  refine (hg.block g h.lt fun q => ?_).trans h
  rcases hr.2 with ⟨rfl, -⟩ | ⟨g', cap, cur, rfl, -, hh, -⟩
  · cases q
  · obtain rfl : g = g' := by simpa [Value.ownBlock] using q
    unfold VRow at h
    rw [hh] at h
    injection h with h; injection h with h1 h2
    exact ht h2.symm
theorem vrow_set {W : World} {g : Nat} {t e : TypeId} {cs : List Value} {base n k i : Nat} {v : Value} {xs : List Value} (h : VRow W g t cs) (ht : t ≠ e) (hr : W.ownsRow base e n v k xs) (u : Value) : (W.setCell ⟨g, i, none⟩ u).ownsRow base e n v k xs := by
  rcases hr with ⟨hl, ⟨rfl, h0⟩ | ⟨g', cap, cur, rfl, hb, hh, q⟩⟩
  · exact ⟨hl, Or.inl ⟨rfl, h0⟩⟩
  · refine ⟨hl, Or.inr ⟨g', cap, cur, rfl, hb, (Below.heap_setCell W ⟨g, i, none⟩ u g' ?_).trans hh, q⟩⟩
    rintro e1
    have e2 : g' = g := e1
    subst e2
    unfold VRow at h
    rw [hh] at h
    injection h with h; injection h with h1 h2
    exact ht h2.symm
/-- A signal's cells, with any row. -/
def sgv (c : List Int) (rm : Nat) (v : Value) (x : Int) : List Value := cellsI .i64 c ++ [.pointer (some ⟨rm, 0, none⟩), v, .int .i64 x]
theorem built_sig (c : List Int) (rm : Nat) (v : Int) (hc : c.length = 21) : Tryz.prog.built 176 [(0, .agg (CA c)), (1, .pointer (some ⟨rm, 0, none⟩)), (3, .int .i64 v)] = some (sgv c rm (.slice none 0 0) v).toArray := by
  match c, hc with
  | [a0, a1, a2, a3, a4, a5, a6, a7, a8, a9, a10, a11, a12, a13, a14, a15, a16, a17, a18, a19, a20], _ =>
    refine Eq.trans ?_ rfl
    kernel_rfl
theorem sgv_row (c : List Int) (hc : c.length = 21) (rm : Nat) (v : Value) (x : Int) : (sgv c rm v x)[22]? = some v := by
  unfold sgv
  rw [List.getElem?_append_right (by simp [cellsI, hc])]
  simp [cellsI, hc]
theorem sgv_set (c : List Int) (hc : c.length = 21) (rm : Nat) (v v' : Value) (x : Int) : (sgv c rm v x).set 22 v' = sgv c rm v' x := by
  unfold sgv
  rw [List.set_append_right _ _ (by simp [cellsI, hc])]
  simp [cellsI, hc]
/-- A new channel's structs. -/
structure Nw (Y : World) (c : List Int) (rm x j f l t : Nat) : Prop where
  own : VRow Y x 201 [.pointer (some ⟨j, 0, none⟩), .pointer (some ⟨f, 0, none⟩), .pointer (some ⟨l, 0, none⟩), .pointer (some ⟨t, 0, none⟩), .bool false, .bool false, .int .i64 0, .int .i64 0, .int .i64 0]
  jw : VRow Y j 266 (Jp.wat (G c 1) (G c 2) (G c 4) 0 false)
  fw : VRow Y f 275 (Sk.wt rm 0 0)
  fl : VRow Y l 270 (Dr.fil (G c 8) (G c 7) 0)
  tr : VRow Y t 273 (Ql.tri (G c 10) (G c 11) 0)
theorem Nw.on {Y Z : World} {c : List Int} {rm x j f l t : Nat} (H : Nw Y c rm x j f l t) (B : Below Y.heap.size Y Z) : Nw Z c rm x j f l t :=
  ⟨H.own.below B H.own.lt, H.jw.below B H.jw.lt, H.fw.below B H.fw.lt, H.fl.below B H.fl.lt, H.tr.below B H.tr.lt⟩
/-- What lies when k channels are made, but for the row. -/
structure Sm (w X : World) (c : List Int) (bx g rm : Nat) (b : Nat → Nat) (k : Nat) (v : Value) : Prop where
  below : Below w.heap.size w X
  cfg : VRow X bx 24 (cellsI .i64 c)
  sig : VRow X g 176 (sgv c rm v (G c 3))
  room : VRow X rm 222 (cellsI .i64 (Sk.room (G c 6) (G c 5) (List.replicate 15 0) 0 0))
  b0 : b 0 = g
  b1 : b 1 = rm
  chs : ∀ i, i < k → Chan X b c i ch0
  inj : ∀ p q, p < 3 + 5 * k → q < 3 + 5 * k → p ≠ 2 → q ≠ 2 → b p = b q → p = q
  ge : ∀ p, p < 3 + 5 * k → p ≠ 2 → w.heap.size ≤ b p
section
variable {w X Y : World} {c : List Int} {bx g rm : Nat} {b : Nat → Nat} {k : Nat} {v v' : Value}
theorem Sm.on (H : Sm w X c bx g rm b k v) (B : Below X.heap.size X Y) : Sm w Y c bx g rm b k v :=
  ⟨grow H.below B, H.cfg.below B H.cfg.lt, H.sig.below B H.sig.lt, H.room.below B H.room.lt, H.b0, H.b1, fun i hi => (H.chs i hi).but (But.of_below (S := fun _ => False) B) fun _ _ q => q, H.inj, H.ge⟩
/-- What lies at a place. -/
theorem Sm.typ (H : Sm w X c bx g rm b k v) {p : Nat} (hp : p < 3 + 5 * k) (h2 : p ≠ 2) : ∃ t cs, VRow X (b p) t cs ∧ t ≠ 177 := by
  by_cases h0 : p = 0
  · subst h0; exact ⟨_, _, H.b0 ▸ H.sig, by decide⟩
  by_cases h1 : p = 1
  · subst h1; exact ⟨_, _, H.b1 ▸ H.room, by decide⟩
  obtain ⟨i, q, hi, hq, rfl⟩ : ∃ i q, i < k ∧ q < 5 ∧ p = 3 + q + 5 * i := ⟨(p - 3) / 5, (p - 3) % 5, by omega, by omega, by omega⟩
  have C := H.chs i hi
  obtain ⟨la, f, -⟩ := C.fw
  have : q = 0 ∨ q = 1 ∨ q = 2 ∨ q = 3 ∨ q = 4 := by omega
  rcases this with rfl | rfl | rfl | rfl | rfl
  · exact ⟨_, _, C.own, by decide⟩
  · exact ⟨_, _, C.jw, by decide⟩
  · exact ⟨_, _, f, by decide⟩
  · exact ⟨_, _, C.fl, by decide⟩
  · exact ⟨_, _, C.tr, by decide⟩
theorem Sm.lt (H : Sm w X c bx g rm b k v) {p : Nat} (hp : p < 3 + 5 * k) (h2 : p ≠ 2) : b p < X.heap.size := by
  obtain ⟨t, cs, h, -⟩ := H.typ hp h2
  exact h.lt
theorem Sm.grown (H : Sm w X c bx g rm b k v) {base : Nat} {u : Value} {n : Nat} {xs : List Value} (hr : X.ownsRow base 177 1 u n xs) (hb : w.heap.size ≤ base) (hg : X.grownBy Y u.ownBlock) : Sm w Y c bx g rm b k v := by
  refine ⟨H.below.grown hg H.below.size fun j e => Nat.le_trans hb (World.ownsRow.lt hr j e).1, vrow_row H.cfg (by decide) hr hg, vrow_row H.sig (by decide) hr hg, vrow_row H.room (by decide) hr hg, H.b0, H.b1, fun i hi => ?_, H.inj, H.ge⟩
  have C := H.chs i hi
  obtain ⟨la, f1, f2⟩ := C.fw
  exact ⟨vrow_row C.own (by decide) hr hg, vrow_row C.jw (by decide) hr hg, ⟨la, vrow_row f1 (by decide) hr hg, f2⟩, vrow_row C.fl (by decide) hr hg, vrow_row C.tr (by decide) hr hg⟩
theorem Nw.grown {x j f l t : Nat} (H : Nw X c rm x j f l t) {base : Nat} {u : Value} {n : Nat} {xs : List Value} (hr : X.ownsRow base 177 1 u n xs) (hg : X.grownBy Y u.ownBlock) : Nw Y c rm x j f l t :=
  ⟨vrow_row H.own (by decide) hr hg, vrow_row H.jw (by decide) hr hg, vrow_row H.fw (by decide) hr hg, vrow_row H.fl (by decide) hr hg, vrow_row H.tr (by decide) hr hg⟩
/-- Its row is stored. -/
theorem Sm.row (H : Sm w X c bx g rm b k v) (hc : c.length = 21) (v' : Value) (hbx : bx ≠ g) : Sm w (X.setCell ⟨g, 22, none⟩ v') c bx g rm b k v' := by
  have hw : w.heap.size ≤ g := H.b0 ▸ H.ge 0 (by omega) (by omega)
  have no : ∀ p, p < 3 + 5 * k → p ≠ 2 → p ≠ 0 → b p ≠ g := fun p h1 h2 h3 e => h3 (H.inj p 0 h1 (by omega) h2 (by omega) (e.trans H.b0.symm))
  refine ⟨H.below.setCell (p := ⟨g, 22, none⟩) hw _, H.cfg.setOther (p := ⟨g, 22, none⟩) hbx _, ?_, H.room.setOther (p := ⟨g, 22, none⟩) ?_ _, H.b0, H.b1, fun i hi => ?_, H.inj, H.ge⟩
  · rw [← sgv_set c hc rm v v']; exact H.sig.set 22 _
  · exact H.b1 ▸ no 1 (by omega) (by omega) (by omega)
  · have C := H.chs i hi
    obtain ⟨la, f1, f2⟩ := C.fw
    exact ⟨C.own.setOther (p := ⟨g, 22, none⟩) (no _ (by omega) (by omega) (by omega)) _, C.jw.setOther (p := ⟨g, 22, none⟩) (no _ (by omega) (by omega) (by omega)) _, ⟨la, f1.setOther (p := ⟨g, 22, none⟩) (no _ (by omega) (by omega) (by omega)) _, f2⟩, C.fl.setOther (p := ⟨g, 22, none⟩) (no _ (by omega) (by omega) (by omega)) _, C.tr.setOther (p := ⟨g, 22, none⟩) (no _ (by omega) (by omega) (by omega)) _⟩
/-- The places with those of one more channel. -/
def ext (b : Nat → Nat) (k x j f l t p : Nat) : Nat := if p = 3 + 5 * k then x else if p = 4 + 5 * k then j else if p = 5 + 5 * k then f else if p = 6 + 5 * k then l else if p = 7 + 5 * k then t else b p
theorem ext_old {k x j f l t p : Nat} (h : p < 3 + 5 * k) : ext b k x j f l t p = b p := by
  unfold ext
  rw [if_neg (by omega), if_neg (by omega), if_neg (by omega), if_neg (by omega), if_neg (by omega)]
theorem Chan.re {b' : Nat → Nat} {i : Nat} {h : Ch} (H : Chan X b c i h) (e1 : b' 1 = b 1) (e : ∀ q, 3 + 5 * i ≤ q → q < 8 + 5 * i → b' q = b q) : Chan X b' c i h := by
  have a3 : xb b' i = xb b i := e _ (by omega) (by omega)
  have a4 : jb b' i = jb b i := e _ (by omega) (by omega)
  have a5 : fb b' i = fb b i := e _ (by omega) (by omega)
  have a6 : lb b' i = lb b i := e _ (by omega) (by omega)
  have a7 : tb b' i = tb b i := e _ (by omega) (by omega)
  have ec : chr b' i h.st = chr b i h.st := by unfold chr; rw [a4, a5, a6, a7]
  obtain ⟨h1, h2, ⟨la, h3, h3'⟩, h4, h5⟩ := H
  exact ⟨by rw [a3, ec]; exact h1, by rw [a4]; exact h2, ⟨la, by rw [a5, e1]; exact h3, h3'⟩, by rw [a6]; exact h4, by rw [a7]; exact h5⟩
/-- One more. -/
theorem Sm.next {x j f l t n : Nat} (H : Sm w X c bx g rm b k v) (N : Nw X c rm x j f l t) (hn : ∀ p, p < 3 + 5 * k → p ≠ 2 → b p < n) (hw : w.heap.size ≤ n) (ho : n ≤ j ∧ j < l ∧ l < t ∧ t < f ∧ f < x) : Sm w X c bx g rm (ext b k x j f l t) (k + 1) v := by
  obtain ⟨o1, o2, o3, o4, o5⟩ := ho
  refine ⟨H.below, H.cfg, H.sig, H.room, (ext_old (by omega)).trans H.b0, (ext_old (by omega)).trans H.b1, fun i hi => ?_, fun p q hp hq p2 q2 he => ?_, fun p hp p2 => ?_⟩
  · by_cases hk : i = k
    · subst hk
      have a3 : xb (ext b i x j f l t) i = x := by unfold xb ext; rw [if_pos rfl]
      have a4 : jb (ext b i x j f l t) i = j := by unfold jb ext; rw [if_neg (by omega), if_pos rfl]
      have a5 : fb (ext b i x j f l t) i = f := by unfold fb ext; rw [if_neg (by omega), if_neg (by omega), if_pos rfl]
      have a6 : lb (ext b i x j f l t) i = l := by unfold lb ext; rw [if_neg (by omega), if_neg (by omega), if_neg (by omega), if_pos rfl]
      have a7 : tb (ext b i x j f l t) i = t := by unfold tb ext; rw [if_neg (by omega), if_neg (by omega), if_neg (by omega), if_neg (by omega), if_pos rfl]
      have a1 : ext b i x j f l t 1 = rm := (ext_old (by omega)).trans H.b1
      have ec : chr (ext b i x j f l t) i ch0.st = [.pointer (some ⟨j, 0, none⟩), .pointer (some ⟨f, 0, none⟩), .pointer (some ⟨l, 0, none⟩), .pointer (some ⟨t, 0, none⟩), .bool false, .bool false, .int .i64 0, .int .i64 0, .int .i64 0] := by unfold chr; rw [a4, a5, a6, a7]; rfl
      exact ⟨by rw [a3, ec]; exact N.own, by rw [a4]; exact N.jw, ⟨0, by rw [a5, a1]; simpa [ch0] using N.fw, .inl rfl⟩, by rw [a6]; exact N.fl, by rw [a7]; exact N.tr⟩
    · exact (H.chs i (by omega)).re (ext_old (by omega)) fun q h1 h2 => ext_old (by omega)
  · have key : ∀ p, p < 3 + 5 * (k + 1) → p ≠ 2 → (p < 3 + 5 * k ∧ ext b k x j f l t p = b p ∧ b p < n) ∨ (p = 3 + 5 * k ∧ ext b k x j f l t p = x) ∨ (p = 4 + 5 * k ∧ ext b k x j f l t p = j) ∨ (p = 5 + 5 * k ∧ ext b k x j f l t p = f) ∨ (p = 6 + 5 * k ∧ ext b k x j f l t p = l) ∨ (p = 7 + 5 * k ∧ ext b k x j f l t p = t) := by
      intro p hp p2
      by_cases h : p < 3 + 5 * k
      · exact .inl ⟨h, ext_old h, hn p h p2⟩
      · unfold ext
        have : p = 3 + 5 * k ∨ p = 4 + 5 * k ∨ p = 5 + 5 * k ∨ p = 6 + 5 * k ∨ p = 7 + 5 * k := by omega
        rcases this with e | e | e | e | e
        · exact .inr (.inl ⟨e, by rw [if_pos e]⟩)
        · exact .inr (.inr (.inl ⟨e, by rw [if_neg (by omega), if_pos e]⟩))
        · exact .inr (.inr (.inr (.inl ⟨e, by rw [if_neg (by omega), if_neg (by omega), if_pos e]⟩)))
        · exact .inr (.inr (.inr (.inr (.inl ⟨e, by rw [if_neg (by omega), if_neg (by omega), if_neg (by omega), if_pos e]⟩))))
        · exact .inr (.inr (.inr (.inr (.inr ⟨e, by rw [if_neg (by omega), if_neg (by omega), if_neg (by omega), if_neg (by omega), if_pos e]⟩))))
    rcases key p hp p2 with ⟨h1, h2, h3⟩ | ⟨h1, h2⟩ | ⟨h1, h2⟩ | ⟨h1, h2⟩ | ⟨h1, h2⟩ | ⟨h1, h2⟩ <;> rcases key q hq q2 with ⟨g1, g2, g3⟩ | ⟨g1, g2⟩ | ⟨g1, g2⟩ | ⟨g1, g2⟩ | ⟨g1, g2⟩ | ⟨g1, g2⟩ <;> rw [h2, g2] at he <;> first | omega | exact H.inj p q h1 g1 p2 q2 he
  · by_cases h : p < 3 + 5 * k
    · rw [ext_old h]; exact H.ge p h p2
    · unfold ext
      have : p = 3 + 5 * k ∨ p = 4 + 5 * k ∨ p = 5 + 5 * k ∨ p = 6 + 5 * k ∨ p = 7 + 5 * k := by omega
      rcases this with e | e | e | e | e
      · rw [if_pos e]; omega
      · rw [if_neg (by omega), if_pos e]; omega
      · rw [if_neg (by omega), if_neg (by omega), if_pos e]; omega
      · rw [if_neg (by omega), if_neg (by omega), if_neg (by omega), if_pos e]; omega
      · rw [if_neg (by omega), if_neg (by omega), if_neg (by omega), if_neg (by omega), if_pos e]; omega
/-- The channels' pointers. -/
def prow (b : Nat → Nat) (k : Nat) : List Value := (List.range k).map fun i => .pointer (some ⟨xb b i, 0, none⟩)
theorem prow_ext (k x j f l t : Nat) : prow (ext b k x j f l t) (k + 1) = prow b k ++ [.pointer (some ⟨x, 0, none⟩)] := by
  unfold prow
  rw [List.range_succ, List.map_append]
  congr 1
  · refine List.map_congr_left fun i hi => ?_
    rw [List.mem_range] at hi
    unfold xb; rw [ext_old (by omega)]
  · simp [xb, ext]
/-- All are made. -/
theorem Sm.lie (H : Sm w X c bx g rm b (NN c) v) (hr : X.ownsRow w.heap.size 177 1 v (NN c) (prow b (NN c))) (hR : Cf.Right c) : ∃ b' : Nat → Nat, b' 0 = g ∧ Lie X b' c (begin c) ∧ ∀ k, In b' c k → w.heap.size ≤ k := by
  have hN := NN_34 hR
  rcases hr.2 with ⟨-, h0⟩ | ⟨ar, cap, cur, rfl, hb, hh, hk, hm, hcs, ht⟩
  · omega
  have hP6 : (PW c : Int) + 1 = G c 6 := by
    obtain ⟨-, -, -, -, -, -, h6, -⟩ := hR
    unfold PW; omega
  have hne : ∀ p, p < 3 + 5 * NN c → p ≠ 2 → b p ≠ ar := fun p h1 h2 e => by
    obtain ⟨t, cs, h3, h4⟩ := H.typ h1 h2
    unfold VRow at h3
    rw [e, hh] at h3
    injection h3 with h3; injection h3 with h5 h6
    exact h4 h6.symm
  refine ⟨fun p => if p = 2 then ar else b p, by simpa using H.b0, ⟨?_, ?_, ?_, ?_, ?_⟩, ?_⟩
  · intro p q hp hq he
    unfold pn at hp hq
    change (if p = 2 then ar else b p) = (if q = 2 then ar else b q) at he
    by_cases p2 : p = 2 <;> by_cases q2 : q = 2
    · omega
    · rw [if_pos p2, if_neg q2] at he; exact absurd he.symm (hne q hq q2)
    · rw [if_neg p2, if_pos q2] at he; exact absurd he (hne p hp p2)
    · rw [if_neg p2, if_neg q2] at he; exact H.inj p q hp hq p2 q2 he
  · refine ⟨cap, ?_⟩
    show VRow X (if (0 : Nat) = 2 then ar else b 0) _ _
    rw [if_neg (by decide), H.b0]
    have h := H.sig
    unfold sgv at h
    unfold sgr
    simpa [H.b1, begin] using h
  · show Sk.Room X (if (1 : Nat) = 2 then ar else b 1) _ _ _
    rw [if_neg (by decide), H.b1]
    have hPW := PW_bd hR
    rw [show Sk.lastN (PW c) (begin c).votes = [] from Sk.lastN_short (by simp [begin])]
    exact ⟨_, 0, Sk.Ring.new hPW.1 hPW.2, by rw [hP6]; exact VRow.irow H.room⟩
  · refine ⟨cur.toList, 177, ?_, fun i hi => ?_⟩
    · show VRow X (if (2 : Nat) = 2 then ar else b 2) _ _
      rw [if_pos rfl]
      unfold VRow
      simpa using hh
    · have h1 : (cur.toList.take (NN c * 1))[i]? = some (.pointer (some ⟨xb b i, 0, none⟩)) := by
        rw [ht]; unfold prow; simp [hi]
      rw [List.getElem?_take] at h1
      rw [if_pos (by omega)] at h1
      rw [h1]
      have : xb (fun p => if p = 2 then ar else b p) i = xb b i := by unfold xb; exact if_neg (by omega)
      rw [this]
  · intro i hi
    exact (H.chs i hi).re (if_neg (by decide)) fun q h1 h2 => if_neg (by omega)
  · rintro k ⟨p, hp, rfl⟩
    unfold pn at hp
    show _ ≤ if p = 2 then ar else b p
    split
    · exact hb
    · exact H.ge p hp (by assumption)
end
end Sg
end Go.Proofs.YtpoededbmdffpaaGreatDoor
