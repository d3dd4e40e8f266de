/-
  What the walks of a cycle's steps share: what a round over the channels keeps, what abides the turn of what is no cells. No function of the program is walked here, but through the iterators' contracts. No conditions beyond those said. What right of package signal returns: a contract by walking the Go text (a range over the channels with a value). Conditions: how a signal lies.
  What Come of package jump does: its contract by walking the Go text. Conditions: where the watch lies; that a value that came may be one. The iterator of package stuck (fromOldest: the votes, the oldest one first): its contract, for every loop body that leaves the iterator's own variable and the room as they are. Conditions: where the room lies.
-/
import Derived.Test.YtmlhmmfgdioclaaGreatSignalState
import Derived.Test.YtmlhmmfgdioclaaGreatSignalWrites
import Derived.Test.YtmlhmmfgdioclaaGreatJJumpWalks4
import Derived.Test.YtmlhmmfgdioclaaGreatJFixWalks2
import Derived.RangeFuncNested
import Derived.RangeFuncBound
import Derived.RangeFuncCalls
import Derived.RangeFuncLeaves
import Derived.Shelf.Abstract
import Derived.Shelf.RegionOpen
import Derived.OwnWalkIn
import Derived.TacticsInMore
import Derived.LoopNIn
import Derived.LoopIn
namespace Go.Proofs.YtmlhmmfgdioclaaGreat
set_option maxRecDepth 100000
open Go.ChangeShapes Go.WideShapes Go.ChangeAt Go.RowKit Go.Deep Go.Shelf
namespace Sg
open Cf (G CA)
open Rf

/-- What a round must leave as it is: the row of channels, what the cycle's struct holds of the raw values, the iterator's box, and what the iterator has laid. -/
def Dv (b : Nat → Nat) (u B n₀ : Nat) (p : Addr) : Prop := p.block = b 2 ∨ (∃ o, o < 9 ∧ p = ⟨u, o, none⟩) ∨ p.block = B ∨ n₀ + 2 ≤ p.block
section
variable {W X Y : World} {b : Nat → Nat} {c : List Int} {s s' : Si} {u : Nat} {r : Nat → Rw} {sh : Int} {T T' : Nat → Int} {m m' : Int} {S : Nat → Prop} {B n₀ : Nat}
theorem tnr_low {g : Nat} {o : Nat} (ho : o < 9) : (tnr g r sh T m)[o]? = (tnr g r sh T' m')[o]? := by
  have : o = 0 ∨ o = 1 ∨ o = 2 ∨ o = 3 ∨ o = 4 ∨ o = 5 ∨ o = 6 ∨ o = 7 ∨ o = 8 := by omega
  rcases this with rfl | rfl | rfl | rfl | rfl | rfl | rfl | rfl | rfl <;> rfl
theorem tn_low (hX : Tn X b c s u r sh T m) (hY : Tn Y b c s' u r sh T' m') {o : Nat} (ho : o < 9) {v : Value} (h : X.cell? ⟨u, o, none⟩ = some v) : Y.cell? ⟨u, o, none⟩ = some v := by
  have h1 : (tnr (b 0) r sh T m)[o]? = some v := by
    rw [cell_of_row X u o _ _ (0, 0) hX.trn] at h; simpa using h
  exact hY.trn.cell o ((tnr_low ho).symm.trans h1)
theorem round_kc (hX : Tn X b c s u r sh T m) (hY : Tn Y b c s' u r sh T' m') (h : But S X Y) (hS : ∀ k, S k → k < n₀ ∧ k ≠ B ∧ k ≠ b 2) : KeepsFrom n₀ X Y ∧ Kc (Dv b u B n₀) (n₀ + 2) X Y := by
  have k := KeepsFrom.of_but h fun j hj => (hS j hj).1
  refine ⟨k, fun p v hp hv => ?_, KeepsFrom.mono k (by omega)⟩
  have same (hn : ¬ S p.block) : Y.cell? p = some v := (World.cell?_of_block (w := X) (a := p) (h.block p.block (cell_blk hv) hn)).trans hv
  rcases hp with e | ⟨o, ho, rfl⟩ | e | e
  · exact same fun q => (hS _ q).2.2 e
  · exact tn_low hX hY ho hv
  · exact same fun q => (hS _ q).2.1 e
  · exact same fun q => by have := (hS _ q).1; omega
theorem own_tn {β : Type} (n : Nat) (f : β → Si) (g : β → Nat → Int) (k : β → Int) : OwnFrom n fun x (W : World) => Tn W b c (f x) u r sh (g x) (k x) :=
  own_but fun _ _ _ _ hs hb hS => hs.grown hb fun j q => (hS j q).2
theorem own_box {β : Type} (n g : Nat) (t : TypeId) (v : Value) : OwnFrom n fun (_ : β) (W : World) => Boxed W g t v := Own.from (boxed_own g t fun _ => v) n
theorem but_put {w : World} (h : But S w X) {D : Nat} (hD : w.heap.size ≤ D) (o : Obj) : But S w (X.putObj D o) := But.call h (but_grown (grownBy_putObj' X D o)) fun i e => by cases e; exact .inr hD
theorem tn_put (H : Tn X b c s u r sh T m) {D : Nat} {o o' : Obj} (hD : X.heap[D]? = some o) (ho : o.isCells = false) : Tn (X.putObj D o') b c s u r sh T m :=
  H.grown (but_grown (grownBy_putObj' X D o')) fun k e => by cases e; exact ⟨o, hD, ho⟩
theorem tn_box {g : Nat} {t : TypeId} {v : Value} (h : Boxed X g t v) {D : Nat} {o o' : Obj} (hD : X.heap[D]? = some o) (ho : o.isCells = false) : Boxed (X.putObj D o') g t v :=
  h.kept (grownBy_putObj' X D o') (fun e => by cases e; unfold Boxed at h; rw [h] at hD; cases hD; cases ho)
theorem hseq_valued (n : Nat) (hn : 2 ≤ n) (hc : c.length = 21) (hR : Cf.Right c) (H : Tn X b c s u r sh T m) (hB : X.cell? ⟨B, 0, none⟩ = some (.pointer (some ⟨u, 0, none⟩))) :
    ∀ V, Below X.heap.size X V → V.heap.size = X.heap.size + 2 → Goes Fence.wide n Tryz.prog 97 #[.pointer (some ⟨B, 0, none⟩)] (encv b (NN c) r) (Kc (Dv b u B X.heap.size) (X.heap.size + 2)) (fun xs => xs.map (·.1) = (List.range (NN c)).filter fun i => (r i).is) (fun _ => True) (NN c) (fun pre x => x.1 ∉ pre.map (·.1)) (X.heap.size + 1) V := fun V hV hs => by
  have HV := H.on hV
  obtain ⟨cap, h2⟩ := HV.lie.row hc
  have hN := NN_34 hR
  exact valued_goes n hn B u (b 0) (b 2) cap b r (NN c) _ _ (by omega) _ V ((hV.cell (p := ⟨B, 0, none⟩) (cell_blk hB)).trans hB) HV.sig h2 (fun i hi => HV.lie.at hi) (fun i hi => HV.is (by omega)) (fun i => .inl rfl) (fun i hi => .inr (.inl ⟨_, by omega, rfl⟩)) (.inr (.inr (.inl rfl))) (fun p hp => .inr (.inr (.inr (by omega)))) (by omega)
theorem hseq_all (n : Nat) (hn : 1 ≤ n) (hc : c.length = 21) (hR : Cf.Right c) (H : Lie X b c s) (hB : X.cell? ⟨B, 0, none⟩ = some (.pointer (some ⟨b 0, 0, none⟩))) :
    ∀ V, Below X.heap.size X V → V.heap.size = X.heap.size + 2 → Goes Fence.wide n Tryz.prog 90 #[.pointer (some ⟨B, 0, none⟩)] (enca b (NN c)) (Kc (Dv b u B X.heap.size) (X.heap.size + 2)) (fun xs => xs.map Fin.val = List.range (NN c)) (fun _ => True) (NN c) (fun pre x => x.val ∉ pre.map Fin.val) (X.heap.size + 1) V := fun V hV hs => by
  have HV := H.keep (But.of_below (S := fun _ => False) hV) fun _ _ q => q
  obtain ⟨cap, h2⟩ := HV.row hc
  have hN := NN_34 hR
  exact all_goes n hn B (b 0) (b 2) cap b (NN c) _ _ (by omega) _ V ((hV.cell (p := ⟨B, 0, none⟩) (cell_blk hB)).trans hB) h2 (fun i hi => HV.at hi) (fun i => .inl rfl)
end

/-- Some of them are new. -/
def mx {α : Type} (l : List Nat) (new old : Nat → α) (i : Nat) : α := if i ∈ l then new i else old i
theorem mx_nil {α : Type} (new old : Nat → α) : mx [] new old = old := by funext i; simp [mx]
theorem mx_not {α : Type} {l : List Nat} {new old : Nat → α} {i : Nat} (h : i ∉ l) : mx l new old i = old i := if_neg h
theorem mx_yes {α : Type} {l : List Nat} {new old : Nat → α} {i : Nat} (h : i ∈ l) : mx l new old i = new i := if_pos h
theorem mx_snoc {α : Type} (l : List Nat) (new old : Nat → α) (i : Nat) (v : α) (hv : v = new i) : (fun k => if k = i then v else mx l new old k) = mx (l ++ [i]) new old := by
  funext k
  unfold mx
  by_cases e : k = i
  · subst e; simp [hv]
  · simp [e]
/-- The signal while its channels are gone through. -/
def mid (s : Si) (l : List Nat) (new : Nat → Ch) : Si := { s with ch := mx l new s.ch }
theorem mid_nil (s : Si) (new : Nat → Ch) : mid s [] new = s := by unfold mid; rw [mx_nil]
theorem put_mid (s : Si) (l : List Nat) (new : Nat → Ch) (i : Nat) (h : Ch) (e : h = new i) : put (mid s l new) i h = mid s (l ++ [i]) new := by
  unfold put mid; rw [← mx_snoc l new s.ch i h e]
theorem tup_mx (l : List Nat) (new old : Nat → Int) (i : Nat) (v : Int) (e : v = new i) : tup (mx l new old) i v = mx (l ++ [i]) new old := mx_snoc l new old i v e
end Sg
end Go.Proofs.YtmlhmmfgdioclaaGreat

namespace Go.Proofs.YtmlhmmfgdioclaaGreat
set_option maxRecDepth 100000
open Go.ChangeShapes Go.WideShapes Go.ChangeAt Go.RowKit Go.Deep Go.Shelf
namespace Sg
open Cf (G CA)
open Rf
attribute [local go_sem] Oper.semAt_some

/-- May this cycle be? -/
def okv (c : List Int) (r : Nat → Rw) : Bool := (List.range (NN c)).all fun i => !(r i).is || Jp.val (r i).n
def okb (c : List Int) (r : Nat → Rw) (sh : Int) : Bool := okv c r && (decide (0 ≤ sh) && decide (sh < 16))
theorem okv_no {c : List Int} {r : Nat → Rw} {i : Nat} (hi : i < NN c) (h : (r i).is = true) (hv : Jp.val (r i).n = false) : okv c r = false := by
  rw [Bool.eq_false_iff]
  intro q
  have := List.all_eq_true.1 q i (List.mem_range.2 hi)
  simp [h, hv] at this
theorem okv_yes {c : List Int} {r : Nat → Rw} {ys : List (Vd (NN c) r)} (h : ys.map (·.1) = (List.range (NN c)).filter fun i => (r i).is) (hy : ∀ y ∈ ys, Jp.val (r y.1).n = true) : okv c r = true := by
  refine List.all_eq_true.2 fun i hi => ?_
  cases q : (r i).is
  · rfl
  · have : i ∈ ys.map (·.1) := by rw [h]; exact List.mem_filter.2 ⟨hi, q⟩
    obtain ⟨y, hm, rfl⟩ := List.mem_map.1 this
    simpa using hy y hm
theorem okb_iff {c : List Int} {r : Nat → Rw} {sh : Int} : okb c r sh = true ↔ okr c r sh := by
  unfold okb okv okr Rok
  simp only [Bool.and_eq_true, List.all_eq_true, List.mem_range, Bool.or_eq_true, Bool.not_eq_true', decide_eq_true_eq, Jp.val]
  constructor
  · rintro ⟨h1, h2, h3⟩
    exact ⟨fun i hi q => by rcases h1 i hi with e | e; rw [q] at e; cases e; exact e, h2, by omega⟩
  · rintro ⟨h1, h2, h3⟩
    refine ⟨fun i hi => ?_, h2, by omega⟩
    cases q : (r i).is
    · exact .inl rfl
    · exact .inr (h1 i hi q)

set_option maxRecDepth 100000 in
set_option maxHeartbeats 1600000 in
theorem right_any {W : World} {b : Nat → Nat} {c : List Int} {s : Si} {u : Nat} {r : Nat → Rw} {sh : Int} {T : Nat → Int} {m : Int} (hc : c.length = 21) (hR : Cf.Right c) (H : Tn W b c s u r sh T m) :
    Calls Tryz.prog 30 #[.pointer (some ⟨u, 0, none⟩)] W fun e w' => e = .returned (.bool (okb c r sh)) ∧ Below W.heap.size W w' := by
  have hN := NN_34 hR
  refine (callsIn_wide (n := 5)).1 ?_
  refine callsIn_of_wp_marks Tryz.func30 rfl trivial ?_ rfl
  simp only [Tryz.ntmps30, List.size_toArray, List.length_cons, List.length_nil, Nat.reduceAdd, Nat.reduceSub, Array.replicate_succ, Array.replicate_zero, List.push_toArray, List.append_toArray, List.nil_append, List.cons_append]
  gi_wp2_with (refine ⟨trivial, ?_⟩; gi_at_call 57; refine (callsIn_wide.2 (valued_any _ _)).mono ?_; rintro e w2 ⟨rfl, rfl⟩)
  have b1 := ((Boxed.new W 93 (.pointer (some ⟨u, 0, none⟩))).alloc (.cells #[.bool false] 4)).alloc (.cells #[.pointer (some ⟨u, 0, none⟩)] 93)
  have bR := (Boxed.new (W.alloc (.cells #[.pointer (some ⟨u, 0, none⟩)] 93)) 4 (.bool false)).alloc (.cells #[.pointer (some ⟨u, 0, none⟩)] 93)
  have b3 := Boxed.new ((W.alloc (.cells #[.pointer (some ⟨u, 0, none⟩)] 93)).alloc (.cells #[.bool false] 4)) 93 (.pointer (some ⟨u, 0, none⟩))
  rw [World.size_alloc] at bR
  rw [World.size_alloc, World.size_alloc] at b3
  have hB0 := (((Below.refl W.heap.size W).alloc (Nat.le_refl _) (.cells #[.pointer (some ⟨u, 0, none⟩)] 93)).alloc (by simp) (.cells #[.bool false] 4)).alloc (by simp; omega) (.cells #[.pointer (some ⟨u, 0, none⟩)] 93)
  have hsz : (((W.alloc (.cells #[.pointer (some ⟨u, 0, none⟩)] 93)).alloc (.cells #[.bool false] 4)).alloc (.cells #[.pointer (some ⟨u, 0, none⟩)] 93)).heap.size = W.heap.size + 3 := by simp
  generalize ((W.alloc (.cells #[.pointer (some ⟨u, 0, none⟩)] 93)).alloc (.cells #[.bool false] 4)).alloc (.cells #[.pointer (some ⟨u, 0, none⟩)] 93) = W0 at *
  have H0 := H.on hB0
  have HL := Lib.hid (fun k (hk : Us b c u k) => H.lt hk)
  clear H
  refine range_goes rfl (by omega) (gf := 97) (lb := #[.pointer (some ⟨W.heap.size + 1 + 1, 0, none⟩)]) rfl trivial (enters_of Tryz.func97 (by kernel_rfl) rfl)
    (hseq_valued _ (by omega) hc hR H0 b3.cell) Kc.trans (fun X k o o' _ h2 h3 h4 => Kc.put h2 h3 h4) (fun _ => rfl)
    (fun pre X => ((∀ y ∈ pre, Jp.val (r y.1).n = true) ∧ Tn X b c s u r sh T m) ∧ (Boxed X W.heap.size 93 (.pointer (some ⟨u, 0, none⟩)) ∧ Boxed X (W.heap.size + 1) 4 (.bool false)) ∧ Below W.heap.size W X)
    (fun cc _ X => ((cc = .ret ∧ okv c r = false) ∧ Tn X b c s u r sh T m) ∧ Boxed X (W.heap.size + 1) 4 (.bool false) ∧ Below W.heap.size W X)
    (OwnFrom.and (OwnFrom.and (ownFrom_pure _ _) (own_tn _ _ _ _)) (OwnFrom.and (OwnFrom.and (own_box _ _ _ _) (own_box _ _ _ _)) (ownFrom_below (Nat.le_refl _) (by omega))))
    (fun _ => OwnFrom.and (OwnFrom.and (ownFrom_pure _ _) (own_tn _ _ _ _)) (OwnFrom.and (own_box _ _ _ _) (ownFrom_below (Nat.le_refl _) (by omega))))
    ⟨⟨by simp, H0⟩, ⟨b1, bR⟩, hB0⟩
    (fun x => { tmps := #[.pointer (some ⟨u, 0, none⟩), .pointer (some ⟨W.heap.size, 0, none⟩), .pointer (some ⟨W.heap.size + 1, 0, none⟩), .int .i64 x.1, .pointer (some ⟨u, 0, none⟩), .func (.func 97) #[] #[.pointer (some ⟨W.heap.size + 1 + 1, 0, none⟩)], .int .i64 x.1, .pointer (some ⟨xb b x.1, 0, none⟩), undef, undef, undef, undef, undef, undef, undef, undef, undef, undef, undef, undef, undef, undef, undef, undef, undef, undef, undef, undef, undef, undef], defers := [] }) ?assign ?body ?done ?stop
  case assign =>
    intro l x W K hK
    dsimp only [encv]
    gi_wp2
    exact hK
  case body =>
    rintro lp pre x X ⟨⟨hp, HX⟩, ⟨bx1, bxR⟩, hB⟩ hlen -
    have hx := x.2.1
    have c1 := bx1.cell
    have cR := bxR.cell
    have fR := bxR.frozen
    have CW := fun l => CallsIn.inRound (n := 5 - 1 - 1 - 1) l (callsIn_wide.2 (raw_any HX x.1 (by omega)))
    have HV := Lib.hid (show Jp.val (r x.1).n = (decide (-2147483648 ≤ (r x.1).n) && decide ((r x.1).n ≤ 2147483647)) from rfl)
    have HY := Lib.hid (fun (h : Jp.val (r x.1).n = true) y (hy : y ∈ pre ++ [x]) => (show Jp.val (r y.1).n = true from by
      rcases List.mem_append.1 hy with q | q
      · exact hp y q
      · rw [List.mem_singleton.1 q]; exact h))
    have HNO := Lib.hid (okv_no (r := r) hx x.2.2)
    have HXX := Lib.hid HX
    have HBB := Lib.hid hB
    have B1 := Lib.hid bx1
    have BR := Lib.hid bxR
    clear hp HX hB bx1 bxR hlen H0 b1 bR b3 hB0
    generalize (r x.1).n = n at *
    have hu2 : b 2 < W.heap.size := HL.out _ (.inl ⟨2, by unfold pn; omega, rfl⟩)
    have huu : u < W.heap.size := HL.out _ (.inr rfl)
    have K2 := Lib.hid (show KeepsFrom W0.heap.size X (X.setCell ⟨W.heap.size + 1, 0, none⟩ (.bool false)) ∧ Kc (Dv b u (W.heap.size + 1 + 1) W0.heap.size) (W0.heap.size + 2) X (X.setCell ⟨W.heap.size + 1, 0, none⟩ (.bool false)) ∧ Tn (X.setCell ⟨W.heap.size + 1, 0, none⟩ (.bool false)) b c s u r sh T m ∧ Boxed (X.setCell ⟨W.heap.size + 1, 0, none⟩ (.bool false)) (W.heap.size + 1) 4 (.bool false) ∧ Below W.heap.size W (X.setCell ⟨W.heap.size + 1, 0, none⟩ (.bool false)) from by
      have bb : But (· = W.heap.size + 1) X (X.setCell ⟨W.heap.size + 1, 0, none⟩ (.bool false)) := But.setCell (p := ⟨_, _, none⟩) (But.refl (· = _) X) (Or.inl rfl) _
      have HT := HXX.out.keep bb fun k hk e => by have := HL.out k hk; omega
      obtain ⟨k1, k2⟩ := round_kc HXX.out HT bb (B := W.heap.size + 1 + 1) (n₀ := W0.heap.size) fun k e => ⟨by omega, by omega, by omega⟩
      exact ⟨k1, k2, HT, BR.out.set _, HBB.out.setCell (p := ⟨W.heap.size + 1, 0, none⟩) (by show W.heap.size ≤ W.heap.size + 1; omega) _⟩)
    cases d1 : decide (n < -2147483648)
    · cases d2 : decide (2147483647 < n)
      · have HYY := Lib.hid (HY.out (HV.out.trans (by simp at d1 d2; simp; omega)))
        gi_wp2_with (first | (refine ⟨trivial, ?_⟩; gi_at_call 58; refine (CW lp).mono ?_; rintro e w' ⟨rfl, rfl⟩) | (refine ⟨trivial, ?_⟩))
        exact ⟨KeepsFrom.refl _ _, Kc.refl _ _ _, ⟨HYY.out, HXX.out⟩, ⟨B1.out, BR.out⟩, HBB.out⟩
      · have HNN := Lib.hid (HNO.out (HV.out.trans (by simp at d1 d2; simp; omega)))
        gi_wp2_with (first | (refine ⟨trivial, ?_⟩; gi_at_call 58; refine (CW lp).mono ?_; rintro e w' ⟨rfl, rfl⟩) | (refine ⟨trivial, ?_⟩))
        exact ⟨K2.out.1, K2.out.2.1, ⟨⟨rfl, HNN.out⟩, K2.out.2.2.1⟩, K2.out.2.2.2.1, K2.out.2.2.2.2⟩
    · have HNN := Lib.hid (HNO.out (HV.out.trans (by simp at d1; simp; omega)))
      gi_wp2_with (first | (refine ⟨trivial, ?_⟩; gi_at_call 58; refine (CW lp).mono ?_; rintro e w' ⟨rfl, rfl⟩) | (refine ⟨trivial, ?_⟩))
      exact ⟨K2.out.1, K2.out.2.1, ⟨⟨rfl, HNN.out⟩, K2.out.2.2.1⟩, K2.out.2.2.2.1, K2.out.2.2.2.2⟩
  case done =>
    rintro D ys X hD hys ⟨⟨hp, HX⟩, ⟨bx1, bxR⟩, hB⟩ hK
    have HF := Lib.hid (show okb c r sh = (decide (0 ≤ sh) && decide (sh < 16)) by unfold okb; rw [okv_yes hys hp, Bool.true_and])
    have c1 := bx1.cell
    have cR := bxR.cell
    have fR := bxR.frozen
    have c9 := HX.shut
    clear hp hys HX H0 b1 bR b3 hB0
    obtain ⟨ok, hok⟩ : ∃ ok, okb c r sh = ok := ⟨_, rfl⟩
    rw [hok] at HF
    have HOK := Lib.hid hok
    clear hok
    cases d1 : decide (0 ≤ sh) <;> cases d2 : decide (sh < 16)
    all_goals
      rw [d1, d2] at HF
      gi_wp2_with (refine ⟨trivial, ?_⟩)
      have hK' := fun v => (KeepsOthers.setCell X ⟨W.heap.size + 1, 0, none⟩ v).same D _ hK rfl
      refine ⟨by simp, .inl ⟨_, _, rfl, run_takeDeferred (hK' _), ?_⟩⟩
      have hcc := fun v => (((bxR.set v).kept (grownBy_putObj' _ D (.deferred none)) (by simp; omega))).cell
      refine ⟨.bool ok, by simp [results, Tryz.f30, go_sem, hcc, HF.out], Fx.ret_bool HOK.out.symm, ?_⟩
      exact (hB.setCell (p := ⟨W.heap.size + 1, 0, none⟩) (by show W.heap.size ≤ W.heap.size + 1; omega) _).trans (belowK_b (w := W) (Nat.le_refl _) _ D _ _ (by omega) (hK' _) rfl rfl)
  case stop =>
    rintro D cc pre X hD - ⟨⟨⟨rfl, hno⟩, HX⟩, bxR, hB⟩ hK
    have HF := Lib.hid (show okb c r sh = false by unfold okb; rw [hno]; rfl)
    clear HX H0 b1 bR b3 hB0
    gi_wp2
    refine ⟨by simp, .inl ⟨_, _, rfl, run_takeDeferred hK, ?_⟩⟩
    have hcc := (bxR.kept (grownBy_putObj' _ D (.deferred none)) (by simp; omega)).cell
    exact ⟨.bool false, by simp [results, Tryz.f30, go_sem, hcc], Fx.ret_bool HF.out.symm,
      hB.trans (belowK_b (w := W) (Nat.le_refl _) X D _ _ (by omega) hK rfl rfl)⟩
end Sg
end Go.Proofs.YtmlhmmfgdioclaaGreat

namespace Go.Proofs.YtmlhmmfgdioclaaGreat
set_option maxRecDepth 100000
open Go.ChangeShapes Go.WideShapes Go.ChangeAt Go.RowKit Go.Deep
namespace Jp
open Fx (ret_bool)

/-- What the closure leaves, named. -/
theorem tell_to (g : Nat) (s t x : Int) (b : Bool) (w : World) (hs : 0 ≤ s ∧ s ≤ 1000) (ht : 0 ≤ t ∧ t ≤ 1000) (hx : (s + if b = true then t else 0) = x) (hg : IRow .i64 w g 3 [s]) :
    Calls Tryz.prog 100 #[.int .i64 t, .bool b, .pointer (some ⟨g, 0, none⟩)] w fun e w' => e = .returned (.tuple #[]) ∧ IRow .i64 w' g 3 [x] ∧ Below g w w' := hx ▸ tell_any g s t b w hs ht hg

/-- Behind both stores into the watch. -/
theorem come_end {w w2 : World} {g : Nat} {lo hi step last : Int} {has : Bool} (n : Int) (T : VRow w2 g 171 (wat lo hi step last has)) (b : Below w.heap.size w w2) :
    VRow ((w2.setCell ⟨g, 3, none⟩ (.int .i64 n)).setCell ⟨g, 4, none⟩ (.bool true)) g 171 (wat lo hi step n true) ∧ Only g w ((w2.setCell ⟨g, 3, none⟩ (.int .i64 n)).setCell ⟨g, 4, none⟩ (.bool true)) :=
  ⟨(T.set 3 (.int .i64 n)).set 4 (.bool true), ((show But (· = g) w w2 from But.of_below b).setCell (p := ⟨g, 3, none⟩) (Or.inl rfl) _).setCell (p := ⟨g, 4, none⟩) (Or.inl rfl) _⟩

set_option maxHeartbeats 3200000 in
theorem come_yes (g : Nat) (lo hi step last : Int) (has : Bool) (n : Int) (w : World) (hT : VRow w g 171 (wat lo hi step last has)) (hl : has = true → val last = true) (hs : 0 ≤ step) (hn : val n = true) :
    Calls Tryz.prog 60 #[.pointer (some ⟨g, 0, none⟩), .int .i64 n] w fun e w' => e = .returned (.tuple #[.int .i64 (trips lo hi step last has n), .int .i64 0]) ∧ VRow w' g 171 (wat lo hi step n true) ∧ Only g w w' := by
  have V := fun W => value_any n W
  rw [hn] at V
  have T := Lib.hid hT
  have c0 := (hT.alloc (.cells #[.int .i64 0] 3)).cell 0 (v := .int .i64 lo) rfl
  have c1 := (hT.alloc (.cells #[.int .i64 0] 3)).cell 1 (v := .int .i64 hi) rfl
  have R0 := Lib.hid (show IRow .i64 (w.alloc (.cells #[.int .i64 0] 3)) w.heap.size 3 [0] from heap_alloc_new w _)
  have B0 := Lib.hid ((Below.refl w.heap.size w).alloc (Nat.le_refl _) (.cells #[.int .i64 0] 3))
  have ng : w.heap.size ≠ g := by have := hT.lt; omega
  obtain ⟨S, hS⟩ : ∃ S, (if out lo hi n = true then (2 : Int) else 0) = S := ⟨_, rfl⟩
  have hSb : 0 ≤ S ∧ S ≤ 1000 := by rw [← hS]; split <;> decide
  have hF := fun (h : has = true) (hL : val last = true) => far_apart hn hL hs
  have hX : trips lo hi step last has n = S + if far step last has n = true then 4 else 0 := by unfold trips; rw [hS]
  generalize trips lo hi step last has n = x at *
  have CA := fun W => Fx.apart_any n last W
  generalize Fx.apart n last = D at *
  clear hT hn hs
  by_cases d : n < lo
  · cases has
    · have C1 := fun W h => tell_to w.heap.size 0 2 S true W (by omega) (by omega) (by rw [← hS]; unfold out; simp [d]) h
      have C2 := fun W h => tell_to w.heap.size S 4 x false W hSb (by omega) (by rw [hX, far_none]) h
      clear hS hSb hF hX hl
      go_enter Tryz.func60, Tryz.ntmps60
      go_wp2_with (first | (go_at_call 92; (refine (V _).mono ?_; rintro e w' ⟨rfl, rfl⟩)) | (go_at_call 100; refine (C1 _ R0.out).mono ?_; rintro e w1 ⟨rfl, r1, b1⟩))
      have T1 := Lib.hid ((T.out.alloc (.cells #[.int .i64 0] 3)).below b1 T.out.lt)
      have R1 := Lib.hid r1
      have B1 := Lib.hid (B0.out.trans b1)
      have c2 := T1.out.cell 2 (v := .int .i64 step) rfl
      have c3 := T1.out.cell 3 (v := .int .i64 last) rfl
      have c4 := T1.out.cell 4 (v := .bool false) rfl
      clear c0 c1 r1 b1 C1 B0 R0 V
      refine Tail.wp_region_quiet_tail 18 (by kernel_rfl) (by kernel_rfl) ?_
      simp only [List.take_succ_cons, List.take_zero, List.drop_succ_cons, List.drop_zero]
      repeat (first | go_big_quiet_step (fail) | (go_big_quiet_want; go_big_quiet_op; refine ⟨_, (CA _).mono (fun e w' q => ⟨q.1, q.2.symm⟩), ?_⟩; go_big_quiet_on))
      refine wpQuiet_nil ?_
      clear c2 c3 c4 CA
      go_wp2_with (go_at_call 100; refine (C2 _ R1.out.drew).mono ?_; rintro e w2 ⟨rfl, r2, b2⟩; have T2 := Lib.hid (T1.out.drew.below b2 T.out.lt); have B2 := Lib.hid (B1.out.drew.trans b2); have c3 := T2.out.cell 3 (v := .int .i64 last) rfl; have c4 := T2.out.cell 4 (v := .bool false) rfl; have f3 := T2.out.frozen 3; have f4 := T2.out.frozen 4; have z := r2.cell 0 (by simp); rw [show ([x] : List Int).getD 0 0 = x from rfl] at z)
      go_ret2
      exact ⟨rfl, come_end n T2.out B2.out⟩
    · have C1 := fun W h => tell_to w.heap.size 0 2 S true W (by omega) (by omega) (by rw [← hS]; unfold out; simp [d]) h
      have C2 := fun W h => tell_to w.heap.size S 4 x (decide (step < D)) W hSb (by omega) (by rw [hX, hF rfl (hl rfl)]) h
      clear hS hSb hF hX hl
      go_enter Tryz.func60, Tryz.ntmps60
      go_wp2_with (first | (go_at_call 92; (refine (V _).mono ?_; rintro e w' ⟨rfl, rfl⟩)) | (go_at_call 100; refine (C1 _ R0.out).mono ?_; rintro e w1 ⟨rfl, r1, b1⟩))
      have T1 := Lib.hid ((T.out.alloc (.cells #[.int .i64 0] 3)).below b1 T.out.lt)
      have R1 := Lib.hid r1
      have B1 := Lib.hid (B0.out.trans b1)
      have c2 := T1.out.cell 2 (v := .int .i64 step) rfl
      have c3 := T1.out.cell 3 (v := .int .i64 last) rfl
      have c4 := T1.out.cell 4 (v := .bool true) rfl
      clear c0 c1 r1 b1 C1 B0 R0 V
      refine Tail.wp_region_quiet_tail 18 (by kernel_rfl) (by kernel_rfl) ?_
      simp only [List.take_succ_cons, List.take_zero, List.drop_succ_cons, List.drop_zero]
      repeat (first | go_big_quiet_step (fail) | (go_big_quiet_want; go_big_quiet_op; refine ⟨_, (CA _).mono (fun e w' q => ⟨q.1, q.2.symm⟩), ?_⟩; go_big_quiet_on))
      refine wpQuiet_nil ?_
      clear c2 c3 c4 CA
      go_wp2_with (go_at_call 100; refine (C2 _ R1.out.drew).mono ?_; rintro e w2 ⟨rfl, r2, b2⟩; have T2 := Lib.hid (T1.out.drew.below b2 T.out.lt); have B2 := Lib.hid (B1.out.drew.trans b2); have c3 := T2.out.cell 3 (v := .int .i64 last) rfl; have c4 := T2.out.cell 4 (v := .bool true) rfl; have f3 := T2.out.frozen 3; have f4 := T2.out.frozen 4; have z := r2.cell 0 (by simp); rw [show ([x] : List Int).getD 0 0 = x from rfl] at z)
      go_ret2
      exact ⟨rfl, come_end n T2.out B2.out⟩
  · have dd : decide (n < lo) = false := by simpa using d
    cases has
    · have C1 := fun W h => tell_to w.heap.size 0 2 S (decide (hi < n)) W (by omega) (by omega) (by rw [← hS]; unfold out; simp [d]) h
      have C2 := fun W h => tell_to w.heap.size S 4 x false W hSb (by omega) (by rw [hX, far_none]) h
      clear d hS hSb hF hX hl
      go_enter Tryz.func60, Tryz.ntmps60
      go_wp2_with (first | (go_at_call 92; (refine (V _).mono ?_; rintro e w' ⟨rfl, rfl⟩)) | (go_at_call 100; refine (C1 _ R0.out).mono ?_; rintro e w1 ⟨rfl, r1, b1⟩))
      have T1 := Lib.hid ((T.out.alloc (.cells #[.int .i64 0] 3)).below b1 T.out.lt)
      have R1 := Lib.hid r1
      have B1 := Lib.hid (B0.out.trans b1)
      have c2 := T1.out.cell 2 (v := .int .i64 step) rfl
      have c3 := T1.out.cell 3 (v := .int .i64 last) rfl
      have c4 := T1.out.cell 4 (v := .bool false) rfl
      clear c0 c1 r1 b1 C1 B0 R0 V
      refine Tail.wp_region_quiet_tail 18 (by kernel_rfl) (by kernel_rfl) ?_
      simp only [List.take_succ_cons, List.take_zero, List.drop_succ_cons, List.drop_zero]
      repeat (first | go_big_quiet_step (fail) | (go_big_quiet_want; go_big_quiet_op; refine ⟨_, (CA _).mono (fun e w' q => ⟨q.1, q.2.symm⟩), ?_⟩; go_big_quiet_on))
      refine wpQuiet_nil ?_
      clear c2 c3 c4 CA
      go_wp2_with (go_at_call 100; refine (C2 _ R1.out.drew).mono ?_; rintro e w2 ⟨rfl, r2, b2⟩; have T2 := Lib.hid (T1.out.drew.below b2 T.out.lt); have B2 := Lib.hid (B1.out.drew.trans b2); have c3 := T2.out.cell 3 (v := .int .i64 last) rfl; have c4 := T2.out.cell 4 (v := .bool false) rfl; have f3 := T2.out.frozen 3; have f4 := T2.out.frozen 4; have z := r2.cell 0 (by simp); rw [show ([x] : List Int).getD 0 0 = x from rfl] at z)
      go_ret2
      exact ⟨rfl, come_end n T2.out B2.out⟩
    · have C1 := fun W h => tell_to w.heap.size 0 2 S (decide (hi < n)) W (by omega) (by omega) (by rw [← hS]; unfold out; simp [d]) h
      have C2 := fun W h => tell_to w.heap.size S 4 x (decide (step < D)) W hSb (by omega) (by rw [hX, hF rfl (hl rfl)]) h
      clear d hS hSb hF hX hl
      go_enter Tryz.func60, Tryz.ntmps60
      go_wp2_with (first | (go_at_call 92; (refine (V _).mono ?_; rintro e w' ⟨rfl, rfl⟩)) | (go_at_call 100; refine (C1 _ R0.out).mono ?_; rintro e w1 ⟨rfl, r1, b1⟩))
      have T1 := Lib.hid ((T.out.alloc (.cells #[.int .i64 0] 3)).below b1 T.out.lt)
      have R1 := Lib.hid r1
      have B1 := Lib.hid (B0.out.trans b1)
      have c2 := T1.out.cell 2 (v := .int .i64 step) rfl
      have c3 := T1.out.cell 3 (v := .int .i64 last) rfl
      have c4 := T1.out.cell 4 (v := .bool true) rfl
      clear c0 c1 r1 b1 C1 B0 R0 V
      refine Tail.wp_region_quiet_tail 18 (by kernel_rfl) (by kernel_rfl) ?_
      simp only [List.take_succ_cons, List.take_zero, List.drop_succ_cons, List.drop_zero]
      repeat (first | go_big_quiet_step (fail) | (go_big_quiet_want; go_big_quiet_op; refine ⟨_, (CA _).mono (fun e w' q => ⟨q.1, q.2.symm⟩), ?_⟩; go_big_quiet_on))
      refine wpQuiet_nil ?_
      clear c2 c3 c4 CA
      go_wp2_with (go_at_call 100; refine (C2 _ R1.out.drew).mono ?_; rintro e w2 ⟨rfl, r2, b2⟩; have T2 := Lib.hid (T1.out.drew.below b2 T.out.lt); have B2 := Lib.hid (B1.out.drew.trans b2); have c3 := T2.out.cell 3 (v := .int .i64 last) rfl; have c4 := T2.out.cell 4 (v := .bool true) rfl; have f3 := T2.out.frozen 3; have f4 := T2.out.frozen 4; have z := r2.cell 0 (by simp); rw [show ([x] : List Int).getD 0 0 = x from rfl] at z)
      go_ret2
      exact ⟨rfl, come_end n T2.out B2.out⟩

/-- Whatever comes. -/
theorem come_any (g : Nat) (lo hi step last : Int) (has : Bool) (n : Int) (w : World) (hT : VRow w g 171 (wat lo hi step last has)) (hl : has = true → val last = true) (hs : 0 ≤ step) :
    Calls Tryz.prog 60 #[.pointer (some ⟨g, 0, none⟩), .int .i64 n] w fun e w' => e = .returned (.tuple #[.int .i64 (ct lo hi step last has n), .int .i64 (ce n)]) ∧ VRow w' g 171 (wat lo hi step (cl last n) (ch has n)) ∧ Only g w w' := by
  cases hn : val n
  · rw [ct_no hn, ce_no hn, cl_no hn, ch_no hn]
    refine (come_no g n w hn).mono ?_
    rintro e w' ⟨rfl, rfl⟩
    exact ⟨rfl, hT, But.refl _ _⟩
  · rw [ct_yes hn, ce_yes hn, cl_yes hn, ch_yes hn]
    exact come_yes g lo hi step last has n w hT hl hs hn
end Jp
end Go.Proofs.YtmlhmmfgdioclaaGreat

namespace Go.Proofs.YtmlhmmfgdioclaaGreat
set_option maxRecDepth 100000
open Go.ChangeShapes Go.WideShapes Go.ChangeAt Go.RowKit Go.Deep Go.Shelf
namespace Sk
attribute [local go_sem] Oper.semAt_some
/-- The wide fence asks nothing. -/
theorem asked_wide (P : Program) (o : Oper) (a : Act) (C : World → Prop) : Oper.askedIn Fence.wide P o a C := fun _ _ _ _ => trivial

/-- What the iterator hands over: the vote with that number. -/
def vat (V : List Int) (x : Fin V.length) : Int := V.getD x.val 0
def encv (V : List Int) (x : Fin V.length) : Array Value := #[.int .i64 (vat V x)]
theorem vat_all (V : List Int) (ys : List (Fin V.length)) (h : ys.map Fin.val = List.range V.length) : ys.map (vat V) = V := by
  rw [show ys.map (vat V) = (ys.map Fin.val).map (fun i => V.getD i 0) by rw [List.map_map]; rfl, h]
  apply List.ext_getElem
  · simp
  · intro i h1 h2
    simp at h1
    simp [List.getD_eq_getElem?_getD, h1]
/-- What a round keeps: the iterator's own variable, and the room. -/
def KeepTwo (B g : Nat) (W W' : World) : Prop := W'.heap[B]? = W.heap[B]? ∧ W'.heap[g]? = W.heap[g]?
theorem KeepTwo.refl (B g : Nat) (W : World) : KeepTwo B g W W := ⟨rfl, rfl⟩
theorem KeepTwo.trans {B g : Nat} {X Y Z : World} (h : KeepTwo B g X Y) (k : KeepTwo B g Y Z) : KeepTwo B g X Z := ⟨k.1.trans h.1, k.2.trans h.2⟩
theorem KeepTwo.put {B g : Nat} {w : World} (hB : B < w.heap.size) (hg : g < w.heap.size) (W : World) (l : Nat) (o o' : Obj) (hl : w.heap.size ≤ l) (_ : W.heap[l]? = some o) (_ : o.isCells = false) (_ : o.isWalk = false) : KeepTwo B g W (W.putObj l o') :=
  ⟨World.putObj_heap_other (by omega), World.putObj_heap_other (by omega)⟩
theorem KeepTwo.box {B g : Nat} {W W' : World} {v : Value} (h : KeepTwo B g W W') (hc : W.cell? ⟨B, 0, none⟩ = some v) : W'.cell? ⟨B, 0, none⟩ = some v := (World.cell?_of_block (a := ⟨B, 0, none⟩) h.1).trans hc

theorem places_in (g P : Nat) (w : World) (h2 : P ≤ 15) (hc : w.cell? ⟨g, 0, none⟩ = some (.int .i64 ((P : Int) + 1))) {F : Fence} {n : Nat} (hF : F = Fence.wide) :
    CallsIn F n Tryz.prog 113 #[.pointer (some ⟨g, 0, none⟩)] w fun e w' => e = .returned (.int .i64 (P : Int)) ∧ w = w' := by
  subst hF
  exact callsIn_wide.2 (places_cell g P w h2 hc)

theorem grown_drewN (W : World) (n : Nat) (row : Option Nat) : W.grownBy (W.drewN n) row := ⟨rfl, rfl, rfl, Nat.le_refl _, fun _ _ _ => rfl⟩

set_option maxRecDepth 100000 in
set_option maxHeartbeats 2000000 in
theorem from1_in (n : Nat) (hn : 1 ≤ n) (l Bs g P : Nat) (bound : Int) (V : List Int) (J Jx : List (Fin V.length) → World → Prop) (B : Nat) (hJ : AbidesFrom B J)
    (hY : ∀ pre x W, J pre W → pre.length < V.length → YieldAt Fence.wide (n - 1) Tryz.prog l (encv V x) W fun e W' =>
      (e = .returned (.bool true) ∧ J (pre ++ [x]) W' ∧ KeepTwo Bs g W W') ∨ (e = .returned (.bool false) ∧ Jx (pre ++ [x]) W'))
    (W : World) (hBs : W.cell? ⟨Bs, 0, none⟩ = some (.pointer (some ⟨g, 0, none⟩))) (hR : Room W g P bound V) (h0 : J [] W) :
    CallsIn Fence.wide n Tryz.prog 146 #[.func (.yield l) #[] #[], .pointer (some ⟨Bs, 0, none⟩)] W fun e W' => (∃ v, e = .returned v) ∧
      ((∃ ys : List (Fin V.length), ys.map Fin.val = List.range V.length ∧ J ys W') ∨ (∃ pre, True ∧ Jx pre W')) := by
  have c18 := hR.count
  have hle := hR.le
  have HR := Lib.hid hR
  clear hR
  obtain ⟨N, hN⟩ : ∃ N, N = V.length := ⟨_, rfl⟩
  refine callsIn_of_wp Tryz.func146 rfl trivial ?_ rfl
  simp only [Tryz.ntmps146, List.size_toArray, List.length_cons, List.length_nil, Nat.reduceAdd, Nat.reduceSub, Array.replicate_succ, Array.replicate_zero, List.push_toArray, List.append_toArray, List.nil_append, List.cons_append]
  gi_wp2
  gi_loopw [9] (fun i wr => ∃ (k : Nat) (pre : List (Fin V.length)), k ≤ V.length ∧ i = .int .i64 k ∧ pre.map Fin.val = List.range k ∧ J pre wr ∧ KeepTwo Bs g W wr)
    (fun i _ => V.length - (intOf i).toNat)
  case atStart => exact ⟨0, [], Nat.zero_le _, rfl, rfl, h0, KeepTwo.refl _ _ _⟩
  case round =>
    obtain ⟨k, pre, hk, rfl, hpre, hJs, hnx⟩ := hrel
    have hlenp : pre.length = k := by have := congrArg List.length hpre; simpa using this
    by_cases hlt : k < V.length
    · have hbx := hnx.box hBs
      have HR2 := HR.out.block hnx.2
      obtain ⟨ring, next, hr, R⟩ := HR2
      have e0 := (R.cell 0 (by rw [room_len hr.len]; omega) : _ = some (Value.int IntKind.i64 ((P : Int) + 1)))
      have e17 := R.cell 17 (by rw [room_len hr.len]; omega)
      rw [room_next hr.len] at e17
      have e18 := R.cell 18 (by rw [room_len hr.len]; omega)
      rw [room_count hr.len] at e18
      have sl := spot_lt hr.nx hlt hr.le
      have ek := R.cell (2 + spot P next V.length k) (by rw [room_len hr.len]; have := hr.p15; omega)
      rw [room_ring _ (by have := hr.p15; omega) hr.len, hr.at_ k hlt] at ek
      have ST := spot_tmod hr.nx hlt hr.le
      have p15 := hr.p15
      have hnx' := hr.nx
      generalize spot P next V.length k = s at *
      have hki : (k : Int) < (V.length : Int) := by omega
      have s15 : (s : Int) < 15 := by omega
      clear hr R
      have CP := fun (r m : Nat) => (callsIn_wide (n := r)).2 ((places_cell g P (wr.drewN m) p15 e0).mono (fun e w' q => (show e = .returned (.int .i64 (P : Int)) ∧ ∃ m', w' = wr.drewN m' from ⟨q.1, m, q.2.symm⟩)))
      have HY := fun m => hY pre ⟨k, hlt⟩ (wr.drewN m) (hJ _ _ _ none hJs (grown_drewN wr m _) (fun r e => by cases e)) (by omega)
      dsimp only [encv, vat] at HY
      generalize V.getD k 0 = x at *
      gi_wp2
      refine wpIn_region_quiet_lit rfl (by kernel_rfl) (by kernel_rfl) ?_
      repeat (first
        | gi_big_quiet_step (fail)
        | (refine wpQuietIn_step (asked_wide _ _ _ _) (fun K hK => ?_); go_simp; refine ⟨_, fun _ => CP _ _, hK _ ?_⟩; clear hK K))
      refine wpQuietIn_nil ?_
      intro _ hw'
      obtain ⟨nq, hw''⟩ := hw'
      subst hw''
      obtain ⟨fn, tmps, assign, body, hy, hYR⟩ := HY nq
      gi_wp2
      refine hYR.mono ?_
      rintro e W3 (⟨rfl, hJ3, hk3⟩ | ⟨rfl, hJx3⟩)
      · gi_wp2
        go_roundw
        case rel => exact ⟨k + 1, pre ++ [⟨k, hlt⟩], by omega, by simp, by rw [List.map_append, hpre, List.range_succ]; rfl, hJ3, hnx.trans hk3⟩
        case measure => simp [intOf]; omega
      · gi_wp2
        refine bodyPost_ret (results_none rfl _ _ _) rfl ?_
        exact ⟨⟨_, rfl⟩, .inr ⟨_, trivial, hJx3⟩⟩
    · obtain rfl : k = V.length := by omega
      gi_wp2
      go_end0
      exact ⟨⟨_, rfl⟩, .inl ⟨pre, hpre, hJs⟩⟩
/-- The iterator's value keeps its contract in every world that has grown out of this one. -/
theorem from_stops (n : Nat) (hn : 1 ≤ n) (Bs g P : Nat) (bound : Int) (V : List Int) (w : World) (hB : Bs < w.heap.size) (hc : w.cell? ⟨Bs, 0, none⟩ = some (.pointer (some ⟨g, 0, none⟩))) (hR : Room w g P bound V) :
    SeqStopsK Fence.wide n Tryz.prog 146 #[.pointer (some ⟨Bs, 0, none⟩)] (encv V) (KeepTwo Bs g) (fun ys => ys.map Fin.val = List.range V.length) (fun _ => True) V.length w := fun l J Jx W hW hJ _ hY h0 =>
  from1_in n hn l Bs g P bound V J Jx _ hJ hY W ((hW.cell (p := ⟨Bs, 0, none⟩) hB).trans hc) (hR.below hW hR.lt) h0

/-- fromOldest itself: the room's pointer is laid in a box; the function value has the box. -/
theorem from_any (g : Nat) (w : World) :
    Calls Tryz.prog 143 #[.pointer (some ⟨g, 0, none⟩)] w fun e w' => e = .returned (.func (.func 146) #[] #[.pointer (some ⟨w.heap.size, 0, none⟩)]) ∧ w' = w.alloc (.cells #[.pointer (some ⟨g, 0, none⟩)] 82) := by
  go_enter Tryz.func143, Tryz.ntmps143
  go_wp2
  go_ret
  exact ⟨rfl, rfl⟩
end Sk
end Go.Proofs.YtmlhmmfgdioclaaGreat
