/-
  What the walks of a cycle's steps share: what a round over the channels keeps, what abides the turn of what is no cells. No function of the program is walked here, but through the iterators' contracts. No conditions beyond those said.
  What right of package signal returns: a contract by walking the Go text (a range over the channels with a value). Conditions: how a signal lies.
-/
import Derived.Test.YtmlhmmfgdioclaaGreatSignalState
import Derived.Test.YtmlhmmfgdioclaaGreatSignalWrites
namespace Go.Proofs.YtmlhmmfgdioclaaGreat
set_option maxRecDepth 100000
open Go.ChangeShapes Go.WideShapes Go.ChangeAt Go.RowKit Go.Deep Go.Shelf
namespace Sg
open Cf (G CA)
open Rf

/-- What a round must leave as it is: the row of channels, what the cycle's struct holds of the raw values, the iterator's box, and what the iterator has laid. -/
def Dv (b : Nat → Nat) (u B n₀ : Nat) (p : Addr) : Prop := p.block = b 2 ∨ (∃ o, o < 9 ∧ p = ⟨u, o, none⟩) ∨ p.block = B ∨ n₀ + 2 ≤ p.block
section
variable {W X Y : World} {b : Nat → Nat} {c : List Int} {s s' : Si} {u : Nat} {r : Nat → Rw} {sh : Int} {T T' : Nat → Int} {m m' : Int} {S : Nat → Prop} {B n₀ : Nat}
theorem tnr_low {g : Nat} {o : Nat} (ho : o < 9) : (tnr g r sh T m)[o]? = (tnr g r sh T' m')[o]? := by
  have : o = 0 ∨ o = 1 ∨ o = 2 ∨ o = 3 ∨ o = 4 ∨ o = 5 ∨ o = 6 ∨ o = 7 ∨ o = 8 := by omega
  rcases this with rfl | rfl | rfl | rfl | rfl | rfl | rfl | rfl | rfl <;> rfl
theorem tn_low (hX : Tn X b c s u r sh T m) (hY : Tn Y b c s' u r sh T' m') {o : Nat} (ho : o < 9) {v : Value} (h : X.cell? ⟨u, o, none⟩ = some v) : Y.cell? ⟨u, o, none⟩ = some v := by
  have h1 : (tnr (b 0) r sh T m)[o]? = some v := by
    rw [cell_of_row X u o _ _ (0, 0) hX.trn] at h; simpa using h
  exact hY.trn.cell o ((tnr_low ho).symm.trans h1)
theorem round_kc (hX : Tn X b c s u r sh T m) (hY : Tn Y b c s' u r sh T' m') (h : But S X Y) (hS : ∀ k, S k → k < n₀ ∧ k ≠ B ∧ k ≠ b 2) : KeepsFrom n₀ X Y ∧ Kc (Dv b u B n₀) (n₀ + 2) X Y := by
  have k := KeepsFrom.of_but h fun j hj => (hS j hj).1
  refine ⟨k, fun p v hp hv => ?_, KeepsFrom.mono k (by omega)⟩
  have same (hn : ¬ S p.block) : Y.cell? p = some v := (World.cell?_of_block (w := X) (a := p) (h.block p.block (cell_blk hv) hn)).trans hv
  rcases hp with e | ⟨o, ho, rfl⟩ | e | e
  · exact same fun q => (hS _ q).2.2 e
  · exact tn_low hX hY ho hv
  · exact same fun q => (hS _ q).2.1 e
  · exact same fun q => by have := (hS _ q).1; omega
theorem own_tn {β : Type} (n : Nat) (f : β → Si) (g : β → Nat → Int) (k : β → Int) : OwnFrom n fun x (W : World) => Tn W b c (f x) u r sh (g x) (k x) :=
  own_but fun _ _ _ _ hs hb hS => hs.grown hb fun j q => (hS j q).2
theorem own_box {β : Type} (n g : Nat) (t : TypeId) (v : Value) : OwnFrom n fun (_ : β) (W : World) => Boxed W g t v := Own.from (boxed_own g t fun _ => v) n
theorem but_put {w : World} (h : But S w X) {D : Nat} (hD : w.heap.size ≤ D) (o : Obj) : But S w (X.putObj D o) := But.call h (but_grown (grownBy_putObj' X D o)) fun i e => by cases e; exact .inr hD
theorem tn_put (H : Tn X b c s u r sh T m) {D : Nat} {o o' : Obj} (hD : X.heap[D]? = some o) (ho : o.isCells = false) : Tn (X.putObj D o') b c s u r sh T m :=
  H.grown (but_grown (grownBy_putObj' X D o')) fun k e => by cases e; exact ⟨o, hD, ho⟩
theorem tn_box {g : Nat} {t : TypeId} {v : Value} (h : Boxed X g t v) {D : Nat} {o o' : Obj} (hD : X.heap[D]? = some o) (ho : o.isCells = false) : Boxed (X.putObj D o') g t v :=
  h.kept (grownBy_putObj' X D o') (fun e => by cases e; unfold Boxed at h; rw [h] at hD; cases hD; cases ho)
theorem hseq_valued (n : Nat) (hn : 2 ≤ n) (hc : c.length = 21) (hR : Cf.Right c) (H : Tn X b c s u r sh T m) (hB : X.cell? ⟨B, 0, none⟩ = some (.pointer (some ⟨u, 0, none⟩))) :
    ∀ V, Below X.heap.size X V → V.heap.size = X.heap.size + 2 → Goes Fence.wide n Tryz.prog 97 #[.pointer (some ⟨B, 0, none⟩)] (encv b (NN c) r) (Kc (Dv b u B X.heap.size) (X.heap.size + 2)) (fun xs => xs.map (·.1) = (List.range (NN c)).filter fun i => (r i).is) (fun _ => True) (NN c) (fun pre x => x.1 ∉ pre.map (·.1)) (X.heap.size + 1) V := fun V hV hs => by
  have HV := H.on hV
  obtain ⟨cap, h2⟩ := HV.lie.row hc
  have hN := NN_34 hR
  exact valued_goes n hn B u (b 0) (b 2) cap b r (NN c) _ _ (by omega) _ V ((hV.cell (p := ⟨B, 0, none⟩) (cell_blk hB)).trans hB) HV.sig h2 (fun i hi => HV.lie.at hi) (fun i hi => HV.is (by omega)) (fun i => .inl rfl) (fun i hi => .inr (.inl ⟨_, by omega, rfl⟩)) (.inr (.inr (.inl rfl))) (fun p hp => .inr (.inr (.inr (by omega)))) (by omega)
theorem hseq_all (n : Nat) (hn : 1 ≤ n) (hc : c.length = 21) (hR : Cf.Right c) (H : Lie X b c s) (hB : X.cell? ⟨B, 0, none⟩ = some (.pointer (some ⟨b 0, 0, none⟩))) :
    ∀ V, Below X.heap.size X V → V.heap.size = X.heap.size + 2 → Goes Fence.wide n Tryz.prog 90 #[.pointer (some ⟨B, 0, none⟩)] (enca b (NN c)) (Kc (Dv b u B X.heap.size) (X.heap.size + 2)) (fun xs => xs.map Fin.val = List.range (NN c)) (fun _ => True) (NN c) (fun pre x => x.val ∉ pre.map Fin.val) (X.heap.size + 1) V := fun V hV hs => by
  have HV := H.keep (But.of_below (S := fun _ => False) hV) fun _ _ q => q
  obtain ⟨cap, h2⟩ := HV.row hc
  have hN := NN_34 hR
  exact all_goes n hn B (b 0) (b 2) cap b (NN c) _ _ (by omega) _ V ((hV.cell (p := ⟨B, 0, none⟩) (cell_blk hB)).trans hB) h2 (fun i hi => HV.at hi) (fun i => .inl rfl)
end

/-- Some of them are new. -/
def mx {α : Type} (l : List Nat) (new old : Nat → α) (i : Nat) : α := if i ∈ l then new i else old i
theorem mx_nil {α : Type} (new old : Nat → α) : mx [] new old = old := by funext i; simp [mx]
theorem mx_not {α : Type} {l : List Nat} {new old : Nat → α} {i : Nat} (h : i ∉ l) : mx l new old i = old i := if_neg h
theorem mx_yes {α : Type} {l : List Nat} {new old : Nat → α} {i : Nat} (h : i ∈ l) : mx l new old i = new i := if_pos h
theorem mx_snoc {α : Type} (l : List Nat) (new old : Nat → α) (i : Nat) (v : α) (hv : v = new i) : (fun k => if k = i then v else mx l new old k) = mx (l ++ [i]) new old := by
  funext k
  unfold mx
  by_cases e : k = i
  · subst e; simp [hv]
  · simp [e]
/-- The signal while its channels are gone through. -/
def mid (s : Si) (l : List Nat) (new : Nat → Ch) : Si := { s with ch := mx l new s.ch }
theorem mid_nil (s : Si) (new : Nat → Ch) : mid s [] new = s := by unfold mid; rw [mx_nil]
theorem put_mid (s : Si) (l : List Nat) (new : Nat → Ch) (i : Nat) (h : Ch) (e : h = new i) : put (mid s l new) i h = mid s (l ++ [i]) new := by
  unfold put mid; rw [← mx_snoc l new s.ch i h e]
theorem tup_mx (l : List Nat) (new old : Nat → Int) (i : Nat) (v : Int) (e : v = new i) : tup (mx l new old) i v = mx (l ++ [i]) new old := mx_snoc l new old i v e
end Sg
end Go.Proofs.YtmlhmmfgdioclaaGreat

namespace Go.Proofs.YtmlhmmfgdioclaaGreat
set_option maxRecDepth 100000
open Go.ChangeShapes Go.WideShapes Go.ChangeAt Go.RowKit Go.Deep Go.Shelf
namespace Sg
open Cf (G CA)
open Rf
attribute [local go_sem] Oper.semAt_some

/-- May this cycle be? -/
def okv (c : List Int) (r : Nat → Rw) : Bool := (List.range (NN c)).all fun i => !(r i).is || Jp.val (r i).n
def okb (c : List Int) (r : Nat → Rw) (sh : Int) : Bool := okv c r && (decide (0 ≤ sh) && decide (sh < 16))
theorem okv_no {c : List Int} {r : Nat → Rw} {i : Nat} (hi : i < NN c) (h : (r i).is = true) (hv : Jp.val (r i).n = false) : okv c r = false := by
  rw [Bool.eq_false_iff]
  intro q
  have := List.all_eq_true.1 q i (List.mem_range.2 hi)
  simp [h, hv] at this
theorem okv_yes {c : List Int} {r : Nat → Rw} {ys : List (Vd (NN c) r)} (h : ys.map (·.1) = (List.range (NN c)).filter fun i => (r i).is) (hy : ∀ y ∈ ys, Jp.val (r y.1).n = true) : okv c r = true := by
  refine List.all_eq_true.2 fun i hi => ?_
  cases q : (r i).is
  · rfl
  · have : i ∈ ys.map (·.1) := by rw [h]; exact List.mem_filter.2 ⟨hi, q⟩
    obtain ⟨y, hm, rfl⟩ := List.mem_map.1 this
    simpa using hy y hm
theorem okb_iff {c : List Int} {r : Nat → Rw} {sh : Int} : okb c r sh = true ↔ okr c r sh := by
  unfold okb okv okr Rok
  simp only [Bool.and_eq_true, List.all_eq_true, List.mem_range, Bool.or_eq_true, Bool.not_eq_true', decide_eq_true_eq, Jp.val]
  constructor
  · rintro ⟨h1, h2, h3⟩
    exact ⟨fun i hi q => by rcases h1 i hi with e | e; rw [q] at e; cases e; exact e, h2, by omega⟩
  · rintro ⟨h1, h2, h3⟩
    refine ⟨fun i hi => ?_, h2, by omega⟩
    cases q : (r i).is
    · exact .inl rfl
    · exact .inr (h1 i hi q)

set_option maxRecDepth 100000 in
set_option maxHeartbeats 1600000 in
theorem right_any {W : World} {b : Nat → Nat} {c : List Int} {s : Si} {u : Nat} {r : Nat → Rw} {sh : Int} {T : Nat → Int} {m : Int} (hc : c.length = 21) (hR : Cf.Right c) (H : Tn W b c s u r sh T m) :
    Calls Tryz.prog 30 #[.pointer (some ⟨u, 0, none⟩)] W fun e w' => e = .returned (.bool (okb c r sh)) ∧ Below W.heap.size W w' := by
  have hN := NN_34 hR
  refine (callsIn_wide (n := 5)).1 ?_
  refine callsIn_of_wp_marks Tryz.func30 rfl trivial ?_ rfl
  simp only [Tryz.ntmps30, List.size_toArray, List.length_cons, List.length_nil, Nat.reduceAdd, Nat.reduceSub, Array.replicate_succ, Array.replicate_zero, List.push_toArray, List.append_toArray, List.nil_append, List.cons_append]
  gi_wp2_with (refine ⟨trivial, ?_⟩; gi_at_call 57; refine (callsIn_wide.2 (valued_any _ _)).mono ?_; rintro e w2 ⟨rfl, rfl⟩)
  have b1 := ((Boxed.new W 93 (.pointer (some ⟨u, 0, none⟩))).alloc (.cells #[.bool false] 4)).alloc (.cells #[.pointer (some ⟨u, 0, none⟩)] 93)
  have bR := (Boxed.new (W.alloc (.cells #[.pointer (some ⟨u, 0, none⟩)] 93)) 4 (.bool false)).alloc (.cells #[.pointer (some ⟨u, 0, none⟩)] 93)
  have b3 := Boxed.new ((W.alloc (.cells #[.pointer (some ⟨u, 0, none⟩)] 93)).alloc (.cells #[.bool false] 4)) 93 (.pointer (some ⟨u, 0, none⟩))
  rw [World.size_alloc] at bR
  rw [World.size_alloc, World.size_alloc] at b3
  have hB0 := (((Below.refl W.heap.size W).alloc (Nat.le_refl _) (.cells #[.pointer (some ⟨u, 0, none⟩)] 93)).alloc (by simp) (.cells #[.bool false] 4)).alloc (by simp; omega) (.cells #[.pointer (some ⟨u, 0, none⟩)] 93)
  have hsz : (((W.alloc (.cells #[.pointer (some ⟨u, 0, none⟩)] 93)).alloc (.cells #[.bool false] 4)).alloc (.cells #[.pointer (some ⟨u, 0, none⟩)] 93)).heap.size = W.heap.size + 3 := by simp
  generalize ((W.alloc (.cells #[.pointer (some ⟨u, 0, none⟩)] 93)).alloc (.cells #[.bool false] 4)).alloc (.cells #[.pointer (some ⟨u, 0, none⟩)] 93) = W0 at *
  have H0 := H.on hB0
  have HL := Lib.hid (fun k (hk : Us b c u k) => H.lt hk)
  clear H
  refine range_goes rfl (by omega) (gf := 97) (lb := #[.pointer (some ⟨W.heap.size + 1 + 1, 0, none⟩)]) rfl trivial (enters_of Tryz.func97 (by kernel_rfl) rfl)
    (hseq_valued _ (by omega) hc hR H0 b3.cell) Kc.trans (fun X k o o' _ h2 h3 h4 => Kc.put h2 h3 h4) (fun _ => rfl)
    (fun pre X => ((∀ y ∈ pre, Jp.val (r y.1).n = true) ∧ Tn X b c s u r sh T m) ∧ (Boxed X W.heap.size 93 (.pointer (some ⟨u, 0, none⟩)) ∧ Boxed X (W.heap.size + 1) 4 (.bool false)) ∧ Below W.heap.size W X)
    (fun cc _ X => ((cc = .ret ∧ okv c r = false) ∧ Tn X b c s u r sh T m) ∧ Boxed X (W.heap.size + 1) 4 (.bool false) ∧ Below W.heap.size W X)
    (OwnFrom.and (OwnFrom.and (ownFrom_pure _ _) (own_tn _ _ _ _)) (OwnFrom.and (OwnFrom.and (own_box _ _ _ _) (own_box _ _ _ _)) (ownFrom_below (Nat.le_refl _) (by omega))))
    (fun _ => OwnFrom.and (OwnFrom.and (ownFrom_pure _ _) (own_tn _ _ _ _)) (OwnFrom.and (own_box _ _ _ _) (ownFrom_below (Nat.le_refl _) (by omega))))
    ⟨⟨by simp, H0⟩, ⟨b1, bR⟩, hB0⟩
    (fun x => { tmps := #[.pointer (some ⟨u, 0, none⟩), .pointer (some ⟨W.heap.size, 0, none⟩), .pointer (some ⟨W.heap.size + 1, 0, none⟩), .int .i64 x.1, .pointer (some ⟨u, 0, none⟩), .func (.func 97) #[] #[.pointer (some ⟨W.heap.size + 1 + 1, 0, none⟩)], .int .i64 x.1, .pointer (some ⟨xb b x.1, 0, none⟩), undef, undef, undef, undef, undef, undef, undef, undef, undef, undef, undef, undef, undef, undef, undef, undef, undef, undef, undef, undef, undef, undef], defers := [] }) ?assign ?body ?done ?stop
  case assign =>
    intro l x W K hK
    dsimp only [encv]
    gi_wp2
    exact hK
  case body =>
    rintro lp pre x X ⟨⟨hp, HX⟩, ⟨bx1, bxR⟩, hB⟩ hlen -
    have hx := x.2.1
    have c1 := bx1.cell
    have cR := bxR.cell
    have fR := bxR.frozen
    have CW := fun l => CallsIn.inRound (n := 5 - 1 - 1 - 1) l (callsIn_wide.2 (raw_any HX x.1 (by omega)))
    have HV := Lib.hid (show Jp.val (r x.1).n = (decide (-2147483648 ≤ (r x.1).n) && decide ((r x.1).n ≤ 2147483647)) from rfl)
    have HY := Lib.hid (fun (h : Jp.val (r x.1).n = true) y (hy : y ∈ pre ++ [x]) => (show Jp.val (r y.1).n = true from by
      rcases List.mem_append.1 hy with q | q
      · exact hp y q
      · rw [List.mem_singleton.1 q]; exact h))
    have HNO := Lib.hid (okv_no (r := r) hx x.2.2)
    have HXX := Lib.hid HX
    have HBB := Lib.hid hB
    have B1 := Lib.hid bx1
    have BR := Lib.hid bxR
    clear hp HX hB bx1 bxR hlen H0 b1 bR b3 hB0
    generalize (r x.1).n = n at *
    have hu2 : b 2 < W.heap.size := HL.out _ (.inl ⟨2, by unfold pn; omega, rfl⟩)
    have huu : u < W.heap.size := HL.out _ (.inr rfl)
    have K2 := Lib.hid (show KeepsFrom W0.heap.size X (X.setCell ⟨W.heap.size + 1, 0, none⟩ (.bool false)) ∧ Kc (Dv b u (W.heap.size + 1 + 1) W0.heap.size) (W0.heap.size + 2) X (X.setCell ⟨W.heap.size + 1, 0, none⟩ (.bool false)) ∧ Tn (X.setCell ⟨W.heap.size + 1, 0, none⟩ (.bool false)) b c s u r sh T m ∧ Boxed (X.setCell ⟨W.heap.size + 1, 0, none⟩ (.bool false)) (W.heap.size + 1) 4 (.bool false) ∧ Below W.heap.size W (X.setCell ⟨W.heap.size + 1, 0, none⟩ (.bool false)) from by
      have bb : But (· = W.heap.size + 1) X (X.setCell ⟨W.heap.size + 1, 0, none⟩ (.bool false)) := But.setCell (p := ⟨_, _, none⟩) (But.refl (· = _) X) (Or.inl rfl) _
      have HT := HXX.out.keep bb fun k hk e => by have := HL.out k hk; omega
      obtain ⟨k1, k2⟩ := round_kc HXX.out HT bb (B := W.heap.size + 1 + 1) (n₀ := W0.heap.size) fun k e => ⟨by omega, by omega, by omega⟩
      exact ⟨k1, k2, HT, BR.out.set _, HBB.out.setCell (p := ⟨W.heap.size + 1, 0, none⟩) (by show W.heap.size ≤ W.heap.size + 1; omega) _⟩)
    cases d1 : decide (n < -2147483648)
    · cases d2 : decide (2147483647 < n)
      · have HYY := Lib.hid (HY.out (HV.out.trans (by simp at d1 d2; simp; omega)))
        gi_wp2_with (first | (refine ⟨trivial, ?_⟩; gi_at_call 58; refine (CW lp).mono ?_; rintro e w' ⟨rfl, rfl⟩) | (refine ⟨trivial, ?_⟩))
        exact ⟨KeepsFrom.refl _ _, Kc.refl _ _ _, ⟨HYY.out, HXX.out⟩, ⟨B1.out, BR.out⟩, HBB.out⟩
      · have HNN := Lib.hid (HNO.out (HV.out.trans (by simp at d1 d2; simp; omega)))
        gi_wp2_with (first | (refine ⟨trivial, ?_⟩; gi_at_call 58; refine (CW lp).mono ?_; rintro e w' ⟨rfl, rfl⟩) | (refine ⟨trivial, ?_⟩))
        exact ⟨K2.out.1, K2.out.2.1, ⟨⟨rfl, HNN.out⟩, K2.out.2.2.1⟩, K2.out.2.2.2.1, K2.out.2.2.2.2⟩
    · have HNN := Lib.hid (HNO.out (HV.out.trans (by simp at d1; simp; omega)))
      gi_wp2_with (first | (refine ⟨trivial, ?_⟩; gi_at_call 58; refine (CW lp).mono ?_; rintro e w' ⟨rfl, rfl⟩) | (refine ⟨trivial, ?_⟩))
      exact ⟨K2.out.1, K2.out.2.1, ⟨⟨rfl, HNN.out⟩, K2.out.2.2.1⟩, K2.out.2.2.2.1, K2.out.2.2.2.2⟩
  case done =>
    rintro D ys X hD hys ⟨⟨hp, HX⟩, ⟨bx1, bxR⟩, hB⟩ hK
    have HF := Lib.hid (show okb c r sh = (decide (0 ≤ sh) && decide (sh < 16)) by unfold okb; rw [okv_yes hys hp, Bool.true_and])
    have c1 := bx1.cell
    have cR := bxR.cell
    have fR := bxR.frozen
    have c9 := HX.shut
    clear hp hys HX H0 b1 bR b3 hB0
    obtain ⟨ok, hok⟩ : ∃ ok, okb c r sh = ok := ⟨_, rfl⟩
    rw [hok] at HF
    have HOK := Lib.hid hok
    clear hok
    cases d1 : decide (0 ≤ sh) <;> cases d2 : decide (sh < 16)
    all_goals
      rw [d1, d2] at HF
      gi_wp2_with (refine ⟨trivial, ?_⟩)
      have hK' := fun v => (KeepsOthers.setCell X ⟨W.heap.size + 1, 0, none⟩ v).same D _ hK rfl
      refine ⟨by simp, .inl ⟨_, _, rfl, run_takeDeferred (hK' _), ?_⟩⟩
      have hcc := fun v => (((bxR.set v).kept (grownBy_putObj' _ D (.deferred none)) (by simp; omega))).cell
      refine ⟨.bool ok, by simp [results, Tryz.f30, go_sem, hcc, HF.out], Fx.ret_bool HOK.out.symm, ?_⟩
      exact (hB.setCell (p := ⟨W.heap.size + 1, 0, none⟩) (by show W.heap.size ≤ W.heap.size + 1; omega) _).trans (belowK_b (w := W) (Nat.le_refl _) _ D _ _ (by omega) (hK' _) rfl rfl)
  case stop =>
    rintro D cc pre X hD - ⟨⟨⟨rfl, hno⟩, HX⟩, bxR, hB⟩ hK
    have HF := Lib.hid (show okb c r sh = false by unfold okb; rw [hno]; rfl)
    clear HX H0 b1 bR b3 hB0
    gi_wp2
    refine ⟨by simp, .inl ⟨_, _, rfl, run_takeDeferred hK, ?_⟩⟩
    have hcc := (bxR.kept (grownBy_putObj' _ D (.deferred none)) (by simp; omega)).cell
    exact ⟨.bool false, by simp [results, Tryz.f30, go_sem, hcc], Fx.ret_bool HF.out.symm,
      hB.trans (belowK_b (w := W) (Nat.le_refl _) X D _ _ (by omega) hK rfl rfl)⟩
end Sg
end Go.Proofs.YtmlhmmfgdioclaaGreat
