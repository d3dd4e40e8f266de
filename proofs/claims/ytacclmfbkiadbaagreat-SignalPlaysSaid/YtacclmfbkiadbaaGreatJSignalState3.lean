/-
  What State of package signal returns, what trip, miss and rule do: contracts by walking the Go text. Conditions: how a signal lies.
  What the walks of a cycle's steps share: what a round over the channels keeps, what abides the turn of what is no cells. No function of the program is walked here, but through the iterators' contracts. No conditions beyond those said.
  What right of package signal returns: a contract by walking the Go text (a range over the channels with a value). Conditions: how a signal lies.
-/
import Derived.Test.YtacclmfbkiadbaaGreatJSignalMem3
import Derived.Test.YtacclmfbkiadbaaGreatJLatchMath8
import Derived.Test.YtacclmfbkiadbaaGreatJSetWrites2
import Derived.Test.YtacclmfbkiadbaaGreatStuckVote
import Derived.Test.YtacclmfbkiadbaaGreatJEqualRef5
import Derived.Test.YtacclmfbkiadbaaGreatJCrcMath2
import Derived.Test.YtacclmfbkiadbaaGreatSignalWrites
namespace Go.Proofs.YtacclmfbkiadbaaGreat
set_option maxRecDepth 100000
open Go.ChangeShapes Go.WideShapes Go.ChangeAt Go.RowKit Go.Deep
namespace Sg
open Cf (G CA)
theorem sizeL' : (Tryz.prog.info? 62).map (·.size) = some 5 := by kernel_rfl
theorem aggL (w : World) : (isAgg 62).run Tryz.prog w = .ok true w := by simp [isAgg, run_underlying Tryz.underlying62]
theorem lav_one' (s : Lc.St) : (lav s).toArray.all (·.oneCell') = true := by simp [lav, Value.oneCell']
theorem state_no {W : World} {b : Nat → Nat} {c : List Int} {s : Si} (hc : c.length = 21) (H : Lie W b c s) (k : Int) (hk : k < 0 ∨ (NN c : Int) ≤ k) :
    Calls Tryz.prog 15 #[.pointer (some ⟨b 0, 0, none⟩), .int .i64 k] W fun e w' => e = .returned (.tuple #[.agg (lav Lc.zer).toArray, .bool false]) ∧ Below W.heap.size W w' := by
  have V := Lib.hid (VRow.new W (lav Lc.zer) 62)
  have C := has_any hc (H.keep (But.of_below (S := fun _ => False) ((Below.refl _ W).alloc (Nat.le_refl _) (.cells (lav Lc.zer).toArray 62))) fun _ _ q => q) k
  rw [chan_no hk, show (lav Lc.zer).toArray = #[.bool false, .bool false, .int .i64 0, .int .i64 0, .int .i64 0] from rfl] at C
  clear H hk
  go_enter Tryz.func15, Tryz.ntmps15
  go_wp2_with (first | (go_at_call 43; refine C.mono ?_; rintro e w' ⟨rfl, rfl⟩) | ((with_reducible show wpList _ _ _ (⟨none, .store _ (.tmp 4) _, _, _, _, _⟩ :: _) _ _); refine VB.store rfl _ _ rfl W.heap.size (lav Lc.zer) rfl rfl V.out sizeL' rfl (lav_one' _) ?_))
  refine bodyPost_ret (v := .tuple #[.agg (lav Lc.zer).toArray, .bool false]) ?_ rfl ⟨rfl, Below.put ((Below.refl _ W).alloc (Nat.le_refl _) _) (Nat.le_refl _) _⟩
  exact (VB.ret2 (cs := lav Lc.zer) rfl rfl (aggL _) sizeL' (VRow.put V.out _)).trans rfl
theorem state_yes {W : World} {b : Nat → Nat} {c : List Int} {s : Si} (hc : c.length = 21) (H : Lie W b c s) (k : Nat) (hk : k < NN c) :
    Calls Tryz.prog 15 #[.pointer (some ⟨b 0, 0, none⟩), .int .i64 k] W fun e w' => e = .returned (.tuple #[.agg (lav (s.ch k).st).toArray, .bool true]) ∧ Below W.heap.size W w' := by
  have V := Lib.hid (VRow.new W (lav Lc.zer) 62)
  have H1 := H.keep (But.of_below (S := fun _ => False) ((Below.refl _ W).alloc (Nat.le_refl _) (.cells (lav Lc.zer).toArray 62))) fun _ _ q => q
  rw [show (lav Lc.zer).toArray = #[.bool false, .bool false, .int .i64 0, .int .i64 0, .int .i64 0] from rfl] at H1
  have C := has_any hc H1 k
  rw [chan_yes hk] at C
  obtain ⟨cap, h2⟩ := H1.row hc
  have h3 := H1.at hk
  have CH := H1.chs k hk
  have p4 := CH.own.cell 4 (v := .bool (s.ch k).st.la) rfl
  have p5 := CH.own.cell 5 (v := .bool (s.ch k).st.ou) rfl
  have p6 := CH.own.cell 6 (v := .int .i64 (s.ch k).st.st) rfl
  have p7 := CH.own.cell 7 (v := .int .i64 (s.ch k).st.cl) rfl
  have p8 := CH.own.cell 8 (v := .int .i64 (s.ch k).st.bk) rfl
  have hki : (k : Int) < (NN c : Nat) := by omega
  clear H CH H1
  generalize (s.ch k).st = st at *
  generalize b 0 = g at *
  generalize b 2 = ar at *
  generalize xb b k = xx at *
  generalize NN c = N at *
  go_enter Tryz.func15, Tryz.ntmps15
  go_wp2_with (first | (go_at_call 43; refine C.mono ?_; rintro e w' ⟨rfl, rfl⟩) | ((with_reducible show wpList _ _ _ (⟨none, .store _ (.tmp 4) _, _, _, _, _⟩ :: _) _ _); refine VB.store rfl _ _ rfl W.heap.size (lav st) rfl rfl V.out sizeL' rfl (lav_one' _) ?_))
  refine bodyPost_ret (v := .tuple #[.agg (lav st).toArray, .bool true]) ?_ rfl ⟨rfl, Below.put ((Below.refl _ W).alloc (Nat.le_refl _) _) (Nat.le_refl _) _⟩
  exact (VB.ret2 (cs := lav st) rfl rfl (aggL _) sizeL' (VRow.put V.out _)).trans rfl
/-- A trip's bit set, where all that are set are lesser ones. -/
theorem or_trip {t x : Int} (hx : x = 8 ∨ x = 16 ∨ x = 32) (ht : 0 ≤ t ∧ t < x) : Go.bits .or .i64 t x = t + x := by
  obtain ⟨n, rfl⟩ : ∃ n : Nat, t = n := ⟨t.toNat, by omega⟩
  have h (k : Nat) (hk : n < 2 ^ k) : n ||| 2 ^ k = n + 2 ^ k := by
    have := Nat.two_pow_add_eq_or_of_lt hk 1
    rw [Nat.mul_one] at this
    rw [Nat.or_comm, ← this, Nat.add_comm]
  rcases hx with rfl | rfl | rfl
  · have := Cr.or_i64_nat n 8 (by omega) (by omega)
    rw [h 3 (by omega)] at this
    simpa using this
  · have := Cr.or_i64_nat n 16 (by omega) (by omega)
    rw [h 4 (by omega)] at this
    simpa using this
  · have := Cr.or_i64_nat n 32 (by omega) (by omega)
    rw [h 5 (by omega)] at this
    simpa using this
/-- A trip, or none, set. -/
theorem trip_any {W : World} {b : Nat → Nat} {c : List Int} {s : Si} {u : Nat} {r : Nat → Rw} {sh : Int} {T : Nat → Int} {m : Int} (H : Tn W b c s u r sh T m) (i : Nat) (hi : i < 4) (x : Int) (is : Bool) (hx : x = 8 ∨ x = 16 ∨ x = 32) (ht : 0 ≤ T i ∧ T i < x) :
    Calls Tryz.prog 56 #[.pointer (some ⟨u, 0, none⟩), .int .i64 i, .int .i64 x, .bool is] W fun e w' => e = .returned (.tuple #[]) ∧ Tn w' b c s u r sh (tup T i (T i + if is = true then x else 0)) m ∧ But (· = u) W w' := by
  have HT := Lib.hid H
  have hii : (i : Int) < 4 := by omega
  cases is
  · have e : tup T i (T i + if false = true then x else 0) = T := by funext k; unfold tup; split <;> simp_all
    rw [e]
    clear H hx ht
    go_enter Tryz.func56, Tryz.ntmps56
    go_wp2
    go_end0
    exact ⟨rfl, HT.out, But.refl _ _⟩
  · have h1 := H.trp hi
    have f1 := H.trn.frozen (10 + i)
    have ho := or_trip hx ht
    have wz : IntKind.i64.wrap (T i + x) = T i + x := IntWalk.i64_in _ (by omega)
    clear H
    have R := Lib.hid (HT.out.trip hi (T i + x))
    rw [show (if true = true then x else 0) = x from rfl]
    clear hx
    generalize T i = t at *
    go_enter Tryz.func56, Tryz.ntmps56
    go_wp2_with fail
    go_region
    go_end0
    exact ⟨rfl, R.out.1.drew, R.out.2.drew⟩
theorem miss_any {W : World} {b : Nat → Nat} {c : List Int} {s : Si} (H : Lie W b c s) (i : Nat) (hi : i < NN c) :
    Calls Tryz.prog 53 #[.pointer (some ⟨xb b i, 0, none⟩)] W fun e w' => e = .returned (.tuple #[]) ∧ Chan w' b c i { s.ch i with last := 0, has := false, k := 0 } ∧ But (Of b i) W w' := by
  have C := H.chs i hi
  obtain ⟨n1, n2, n3, n4, n5, n6, n7, n8, n9, n10, n11⟩ := H.five hi
  obtain ⟨la, f1, -⟩ := C.fw
  have h0 := C.own.cell 0 (v := .pointer (some ⟨jb b i, 0, none⟩)) rfl
  have CJ := Jp.miss_any _ _ _ _ _ _ W C.jw
  have CF := fun w (o : Only (jb b i) W w) => Sk.miss_any _ _ _ _ w (f1.only o (by omega))
  have HC := Lib.hid C
  have K := Lib.hid (fun w w' (o : Only (jb b i) W w) (t : VRow w (jb b i) 157 (Jp.wat (G c 1) (G c 2) (G c 4) 0 false)) (o' : Only (fb b i) w w') (t' : VRow w' (fb b i) 164 (Sk.wt (b 1) la 0)) =>
    show Chan w' b c i { s.ch i with last := 0, has := false, k := 0 } ∧ But (Of b i) W w' from
      ⟨⟨(C.own.only o (by omega)).only o' (by omega), t.only o' (by omega), ⟨la, by simpa using t', Or.inl rfl⟩, (C.fl.only o (by omega)).only o' (by omega), (C.tr.only o (by omega)).only o' (by omega)⟩,
        (o.mono fun k e => Or.inr (Or.inl e)).trans (o'.mono fun k e => Or.inr (Or.inr (Or.inl e)))⟩)
  have hx := fun w (o : Only (jb b i) W w) => (C.own.only o (by omega)).cell 1 (v := .pointer (some ⟨fb b i, 0, none⟩)) rfl
  clear C f1 H
  generalize xb b i = x at *
  generalize jb b i = j at *
  generalize fb b i = f at *
  go_enter Tryz.func53, Tryz.ntmps53
  go_wp2_with (go_at_call 92; refine CJ.mono ?_; clear CJ; rintro e w2 ⟨rfl, t2, o2⟩; have h1 := hx w2 o2; have CF2 := CF w2 o2; have T2 := Lib.hid t2; have O2 := Lib.hid o2; clear CF hx t2 o2)
  refine CF2.mono ?_; rintro e w3 ⟨rfl, t3, o3⟩
  go_wp2
  go_end0
  exact ⟨rfl, K.out w2 w3 O2.out T2.out o3 t3⟩
set_option maxHeartbeats 1600000 in
theorem rule_any {W : World} {b : Nat → Nat} {c : List Int} {s : Si} (hc : c.length = 21) (H : Lie W b c s) :
    Calls Tryz.prog 70 #[.pointer (some ⟨b 0, 0, none⟩)] W fun e w' => e = .returned (Lc.rlv (G c 13) (G c 14) (G c 15)) ∧ Below W.heap.size W w' := by
  have V := Lib.hid (VRow.new W [.int .i64 0, .int .i64 0, .int .i64 0] 137)
  have H1 := H.keep (But.of_below (S := fun _ => False) ((Below.refl _ W).alloc (Nat.le_refl _) (.cells #[.int .i64 0, .int .i64 0, .int .i64 0] 137))) fun _ _ q => q
  have h1 := H1.cfg hc 13 (by omega)
  have h2 := H1.cfg hc 14 (by omega)
  have h3 := H1.cfg hc 15 (by omega)
  unfold Lc.rlv
  clear H H1
  generalize G c 13 = L at *
  generalize G c 14 = C at *
  generalize G c 15 = B at *
  generalize b 0 = g at *
  go_enter Tryz.func70, Tryz.ntmps70
  go_wp2_with fail
  refine Tail.wp_region_quiet_tail 16 (by kernel_rfl) (by kernel_rfl) ?_
  simp only [List.take_succ_cons, List.take_zero, List.drop_succ_cons, List.drop_zero]
  repeat (go_big_quiet_step (fail))
  refine wpQuiet_nil ?_
  clear h1 h2 h3
  go_wp2_with ((with_reducible show wpList _ _ _ (⟨none, .store _ (.tmp 2) _, _, _, _, _⟩ :: _) _ _); refine VB.store rfl _ _ rfl W.heap.size [.int .i64 L, .int .i64 C, .int .i64 B] rfl rfl V.out.drew (by kernel_rfl) rfl (by simp [Value.oneCell']) ?_)
  refine bodyPost_ret (v := .agg #[.int .i64 L, .int .i64 C, .int .i64 B]) ?_ rfl ⟨rfl, Below.put ((Below.refl _ W).alloc (Nat.le_refl _) _).drew (Nat.le_refl _) _⟩
  exact (VB.ret1 (cs := [.int .i64 L, .int .i64 C, .int .i64 B]) rfl rfl (by simp [isAgg, run_underlying Tryz.underlying137]) (by kernel_rfl) (VRow.put V.out.drew _)).trans rfl
end Sg
end Go.Proofs.YtacclmfbkiadbaaGreat

namespace Go.Proofs.YtacclmfbkiadbaaGreat
set_option maxRecDepth 100000
open Go.ChangeShapes Go.WideShapes Go.ChangeAt Go.RowKit Go.Deep Go.Shelf
namespace Sg
open Cf (G CA)
open Rf
/-- What a round must leave as it is: the row of channels, what the cycle's struct holds of the raw values, the iterator's box, and what the iterator has laid. -/
def Dv (b : Nat → Nat) (u B n₀ : Nat) (p : Addr) : Prop := p.block = b 2 ∨ (∃ o, o < 9 ∧ p = ⟨u, o, none⟩) ∨ p.block = B ∨ n₀ + 2 ≤ p.block
section
variable {W X Y : World} {b : Nat → Nat} {c : List Int} {s s' : Si} {u : Nat} {r : Nat → Rw} {sh : Int} {T T' : Nat → Int} {m m' : Int} {S : Nat → Prop} {B n₀ : Nat}
theorem tnr_low {g : Nat} {o : Nat} (ho : o < 9) : (tnr g r sh T m)[o]? = (tnr g r sh T' m')[o]? := by
  have : o = 0 ∨ o = 1 ∨ o = 2 ∨ o = 3 ∨ o = 4 ∨ o = 5 ∨ o = 6 ∨ o = 7 ∨ o = 8 := by omega
  rcases this with rfl | rfl | rfl | rfl | rfl | rfl | rfl | rfl | rfl <;> rfl
theorem tn_low (hX : Tn X b c s u r sh T m) (hY : Tn Y b c s' u r sh T' m') {o : Nat} (ho : o < 9) {v : Value} (h : X.cell? ⟨u, o, none⟩ = some v) : Y.cell? ⟨u, o, none⟩ = some v := by
  have h1 : (tnr (b 0) r sh T m)[o]? = some v := by
    rw [cell_of_row X u o _ _ (0, 0) hX.trn] at h; simpa using h
  exact hY.trn.cell o ((tnr_low ho).symm.trans h1)
theorem round_kc (hX : Tn X b c s u r sh T m) (hY : Tn Y b c s' u r sh T' m') (h : But S X Y) (hS : ∀ k, S k → k < n₀ ∧ k ≠ B ∧ k ≠ b 2) : KeepsFrom n₀ X Y ∧ Kc (Dv b u B n₀) (n₀ + 2) X Y := by
  have k := KeepsFrom.of_but h fun j hj => (hS j hj).1
  refine ⟨k, fun p v hp hv => ?_, KeepsFrom.mono k (by omega)⟩
  have same (hn : ¬ S p.block) : Y.cell? p = some v := (World.cell?_of_block (w := X) (a := p) (h.block p.block (cell_blk hv) hn)).trans hv
  rcases hp with e | ⟨o, ho, rfl⟩ | e | e
  · exact same fun q => (hS _ q).2.2 e
  · exact tn_low hX hY ho hv
  · exact same fun q => (hS _ q).2.1 e
  · exact same fun q => by have := (hS _ q).1; omega
theorem own_tn {β : Type} (n : Nat) (f : β → Si) (g : β → Nat → Int) (k : β → Int) : OwnFrom n fun x (W : World) => Tn W b c (f x) u r sh (g x) (k x) :=
  own_but fun _ _ _ _ hs hb hS => hs.grown hb fun j q => (hS j q).2
theorem own_box {β : Type} (n g : Nat) (t : TypeId) (v : Value) : OwnFrom n fun (_ : β) (W : World) => Boxed W g t v := Own.from (boxed_own g t fun _ => v) n
theorem but_put {w : World} (h : But S w X) {D : Nat} (hD : w.heap.size ≤ D) (o : Obj) : But S w (X.putObj D o) := But.call h (but_grown (grownBy_putObj' X D o)) fun i e => by cases e; exact .inr hD
theorem tn_put (H : Tn X b c s u r sh T m) {D : Nat} {o o' : Obj} (hD : X.heap[D]? = some o) (ho : o.isCells = false) : Tn (X.putObj D o') b c s u r sh T m :=
  H.grown (but_grown (grownBy_putObj' X D o')) fun k e => by cases e; exact ⟨o, hD, ho⟩
theorem hseq_valued (n : Nat) (hn : 2 ≤ n) (hc : c.length = 21) (hR : Cf.Right c) (H : Tn X b c s u r sh T m) (hB : X.cell? ⟨B, 0, none⟩ = some (.pointer (some ⟨u, 0, none⟩))) :
    ∀ V, Below X.heap.size X V → V.heap.size = X.heap.size + 2 → Goes Fence.wide n Tryz.prog 91 #[.pointer (some ⟨B, 0, none⟩)] (encv b (NN c) r) (Kc (Dv b u B X.heap.size) (X.heap.size + 2)) (fun xs => xs.map (·.1) = (List.range (NN c)).filter fun i => (r i).is) (fun _ => True) (NN c) (fun pre x => x.1 ∉ pre.map (·.1)) (X.heap.size + 1) V := fun V hV hs => by
  have HV := H.on hV
  obtain ⟨cap, h2⟩ := HV.lie.row hc
  have hN := NN_34 hR
  exact valued_goes n hn B u (b 0) (b 2) cap b r (NN c) _ _ (by omega) _ V ((hV.cell (p := ⟨B, 0, none⟩) (cell_blk hB)).trans hB) HV.sig h2 (fun i hi => HV.lie.at hi) (fun i hi => HV.is (by omega)) (fun i => .inl rfl) (fun i hi => .inr (.inl ⟨_, by omega, rfl⟩)) (.inr (.inr (.inl rfl))) (fun p hp => .inr (.inr (.inr (by omega)))) (by omega)
theorem hseq_all (n : Nat) (hn : 1 ≤ n) (hc : c.length = 21) (hR : Cf.Right c) (H : Lie X b c s) (hB : X.cell? ⟨B, 0, none⟩ = some (.pointer (some ⟨b 0, 0, none⟩))) :
    ∀ V, Below X.heap.size X V → V.heap.size = X.heap.size + 2 → Goes Fence.wide n Tryz.prog 84 #[.pointer (some ⟨B, 0, none⟩)] (enca b (NN c)) (Kc (Dv b u B X.heap.size) (X.heap.size + 2)) (fun xs => xs.map Fin.val = List.range (NN c)) (fun _ => True) (NN c) (fun pre x => x.val ∉ pre.map Fin.val) (X.heap.size + 1) V := fun V hV hs => by
  have HV := H.keep (But.of_below (S := fun _ => False) hV) fun _ _ q => q
  obtain ⟨cap, h2⟩ := HV.row hc
  have hN := NN_34 hR
  exact all_goes n hn B (b 0) (b 2) cap b (NN c) _ _ (by omega) _ V ((hV.cell (p := ⟨B, 0, none⟩) (cell_blk hB)).trans hB) h2 (fun i hi => HV.at hi) (fun i => .inl rfl)
end
/-- Some of them are new. -/
def mx {α : Type} (l : List Nat) (new old : Nat → α) (i : Nat) : α := if i ∈ l then new i else old i
theorem mx_nil {α : Type} (new old : Nat → α) : mx [] new old = old := by funext i; simp [mx]
theorem mx_not {α : Type} {l : List Nat} {new old : Nat → α} {i : Nat} (h : i ∉ l) : mx l new old i = old i := if_neg h
theorem mx_yes {α : Type} {l : List Nat} {new old : Nat → α} {i : Nat} (h : i ∈ l) : mx l new old i = new i := if_pos h
theorem mx_snoc {α : Type} (l : List Nat) (new old : Nat → α) (i : Nat) (v : α) (hv : v = new i) : (fun k => if k = i then v else mx l new old k) = mx (l ++ [i]) new old := by
  funext k
  unfold mx
  by_cases e : k = i
  · subst e; simp [hv]
  · simp [e]
/-- The signal while its channels are gone through. -/
def mid (s : Si) (l : List Nat) (new : Nat → Ch) : Si := { s with ch := mx l new s.ch }
theorem mid_nil (s : Si) (new : Nat → Ch) : mid s [] new = s := by unfold mid; rw [mx_nil]
theorem put_mid (s : Si) (l : List Nat) (new : Nat → Ch) (i : Nat) (h : Ch) (e : h = new i) : put (mid s l new) i h = mid s (l ++ [i]) new := by
  unfold put mid; rw [← mx_snoc l new s.ch i h e]
theorem tup_mx (l : List Nat) (new old : Nat → Int) (i : Nat) (v : Int) (e : v = new i) : tup (mx l new old) i v = mx (l ++ [i]) new old := mx_snoc l new old i v e
end Sg
end Go.Proofs.YtacclmfbkiadbaaGreat

namespace Go.Proofs.YtacclmfbkiadbaaGreat
set_option maxRecDepth 100000
open Go.ChangeShapes Go.WideShapes Go.ChangeAt Go.RowKit Go.Deep Go.Shelf
namespace Sg
open Cf (G CA)
open Rf
attribute [local go_sem] Oper.semAt_some
/-- May this cycle be? -/
def okv (c : List Int) (r : Nat → Rw) : Bool := (List.range (NN c)).all fun i => !(r i).is || Jp.val (r i).n
def okb (c : List Int) (r : Nat → Rw) (sh : Int) : Bool := okv c r && (decide (0 ≤ sh) && decide (sh < 16))
theorem okv_no {c : List Int} {r : Nat → Rw} {i : Nat} (hi : i < NN c) (h : (r i).is = true) (hv : Jp.val (r i).n = false) : okv c r = false := by
  rw [Bool.eq_false_iff]
  intro q
  have := List.all_eq_true.1 q i (List.mem_range.2 hi)
  simp [h, hv] at this
theorem okv_yes {c : List Int} {r : Nat → Rw} {ys : List (Vd (NN c) r)} (h : ys.map (·.1) = (List.range (NN c)).filter fun i => (r i).is) (hy : ∀ y ∈ ys, Jp.val (r y.1).n = true) : okv c r = true := by
  refine List.all_eq_true.2 fun i hi => ?_
  cases q : (r i).is
  · rfl
  · have : i ∈ ys.map (·.1) := by rw [h]; exact List.mem_filter.2 ⟨hi, q⟩
    obtain ⟨y, hm, rfl⟩ := List.mem_map.1 this
    simpa using hy y hm
theorem okb_iff {c : List Int} {r : Nat → Rw} {sh : Int} : okb c r sh = true ↔ okr c r sh := by
  unfold okb okv okr Rok
  simp only [Bool.and_eq_true, List.all_eq_true, List.mem_range, Bool.or_eq_true, Bool.not_eq_true', decide_eq_true_eq, Jp.val]
  constructor
  · rintro ⟨h1, h2, h3⟩
    exact ⟨fun i hi q => by rcases h1 i hi with e | e; rw [q] at e; cases e; exact e, h2, by omega⟩
  · rintro ⟨h1, h2, h3⟩
    refine ⟨fun i hi => ?_, h2, by omega⟩
    cases q : (r i).is
    · exact .inl rfl
    · exact .inr (h1 i hi q)
set_option maxRecDepth 100000 in
set_option maxHeartbeats 1600000 in
theorem right_any {W : World} {b : Nat → Nat} {c : List Int} {s : Si} {u : Nat} {r : Nat → Rw} {sh : Int} {T : Nat → Int} {m : Int} (hc : c.length = 21) (hR : Cf.Right c) (H : Tn W b c s u r sh T m) :
    Calls Tryz.prog 25 #[.pointer (some ⟨u, 0, none⟩)] W fun e w' => e = .returned (.bool (okb c r sh)) ∧ Below W.heap.size W w' := by
  have hN := NN_34 hR
  refine (callsIn_wide (n := 5)).1 ?_
  refine callsIn_of_wp_marks Tryz.func25 rfl trivial ?_ rfl
  simp only [Tryz.ntmps25, List.size_toArray, List.length_cons, List.length_nil, Nat.reduceAdd, Nat.reduceSub, Array.replicate_succ, Array.replicate_zero, List.push_toArray, List.append_toArray, List.nil_append, List.cons_append]
  gi_wp2_with (refine ⟨trivial, ?_⟩; gi_at_call 51; refine (callsIn_wide.2 (valued_any _ _)).mono ?_; rintro e w2 ⟨rfl, rfl⟩)
  have b1 := ((Boxed.new W 80 (.pointer (some ⟨u, 0, none⟩))).alloc (.cells #[.bool false] 4)).alloc (.cells #[.pointer (some ⟨u, 0, none⟩)] 80)
  have bR := (Boxed.new (W.alloc (.cells #[.pointer (some ⟨u, 0, none⟩)] 80)) 4 (.bool false)).alloc (.cells #[.pointer (some ⟨u, 0, none⟩)] 80)
  have b3 := Boxed.new ((W.alloc (.cells #[.pointer (some ⟨u, 0, none⟩)] 80)).alloc (.cells #[.bool false] 4)) 80 (.pointer (some ⟨u, 0, none⟩))
  rw [World.size_alloc] at bR
  rw [World.size_alloc, World.size_alloc] at b3
  have hB0 := (((Below.refl W.heap.size W).alloc (Nat.le_refl _) (.cells #[.pointer (some ⟨u, 0, none⟩)] 80)).alloc (by simp) (.cells #[.bool false] 4)).alloc (by simp; omega) (.cells #[.pointer (some ⟨u, 0, none⟩)] 80)
  have hsz : (((W.alloc (.cells #[.pointer (some ⟨u, 0, none⟩)] 80)).alloc (.cells #[.bool false] 4)).alloc (.cells #[.pointer (some ⟨u, 0, none⟩)] 80)).heap.size = W.heap.size + 3 := by simp
  generalize ((W.alloc (.cells #[.pointer (some ⟨u, 0, none⟩)] 80)).alloc (.cells #[.bool false] 4)).alloc (.cells #[.pointer (some ⟨u, 0, none⟩)] 80) = W0 at *
  have H0 := H.on hB0
  have HL := Lib.hid (fun k (hk : Us b c u k) => H.lt hk)
  clear H
  refine range_goes rfl (by omega) (gf := 91) (lb := #[.pointer (some ⟨W.heap.size + 1 + 1, 0, none⟩)]) rfl trivial (enters_of Tryz.func91 (by kernel_rfl) rfl)
    (hseq_valued _ (by omega) hc hR H0 b3.cell) Kc.trans (fun X k o o' _ h2 h3 h4 => Kc.put h2 h3 h4) (fun _ => rfl)
    (fun pre X => ((∀ y ∈ pre, Jp.val (r y.1).n = true) ∧ Tn X b c s u r sh T m) ∧ (Boxed X W.heap.size 80 (.pointer (some ⟨u, 0, none⟩)) ∧ Boxed X (W.heap.size + 1) 4 (.bool false)) ∧ Below W.heap.size W X)
    (fun cc _ X => ((cc = .ret ∧ okv c r = false) ∧ Tn X b c s u r sh T m) ∧ Boxed X (W.heap.size + 1) 4 (.bool false) ∧ Below W.heap.size W X)
    (OwnFrom.and (OwnFrom.and (ownFrom_pure _ _) (own_tn _ _ _ _)) (OwnFrom.and (OwnFrom.and (own_box _ _ _ _) (own_box _ _ _ _)) (ownFrom_below (Nat.le_refl _) (by omega))))
    (fun _ => OwnFrom.and (OwnFrom.and (ownFrom_pure _ _) (own_tn _ _ _ _)) (OwnFrom.and (own_box _ _ _ _) (ownFrom_below (Nat.le_refl _) (by omega))))
    ⟨⟨by simp, H0⟩, ⟨b1, bR⟩, hB0⟩
    (fun x => { tmps := #[.pointer (some ⟨u, 0, none⟩), .pointer (some ⟨W.heap.size, 0, none⟩), .pointer (some ⟨W.heap.size + 1, 0, none⟩), .int .i64 x.1, .pointer (some ⟨u, 0, none⟩), .func (.func 91) #[] #[.pointer (some ⟨W.heap.size + 1 + 1, 0, none⟩)], .int .i64 x.1, .pointer (some ⟨xb b x.1, 0, none⟩), undef, undef, undef, undef, undef, undef, undef, undef, undef, undef, undef, undef, undef, undef, undef, undef, undef, undef, undef, undef, undef, undef], defers := [] }) ?assign ?body ?done ?stop
  case assign =>
    intro l x W K hK
    dsimp only [encv]
    gi_wp2
    exact hK
  case body =>
    rintro lp pre x X ⟨⟨hp, HX⟩, ⟨bx1, bxR⟩, hB⟩ hlen -
    have hx := x.2.1
    have c1 := bx1.cell
    have cR := bxR.cell
    have fR := bxR.frozen
    have CW := fun l => CallsIn.inRound (n := 5 - 1 - 1 - 1) l (callsIn_wide.2 (raw_any HX x.1 (by omega)))
    have HV := Lib.hid (show Jp.val (r x.1).n = (decide (-2147483648 ≤ (r x.1).n) && decide ((r x.1).n ≤ 2147483647)) from rfl)
    have HY := Lib.hid (fun (h : Jp.val (r x.1).n = true) y (hy : y ∈ pre ++ [x]) => (show Jp.val (r y.1).n = true from by
      rcases List.mem_append.1 hy with q | q
      · exact hp y q
      · rw [List.mem_singleton.1 q]; exact h))
    have HNO := Lib.hid (okv_no (r := r) hx x.2.2)
    have HXX := Lib.hid HX
    have HBB := Lib.hid hB
    have B1 := Lib.hid bx1
    have BR := Lib.hid bxR
    clear hp HX hB bx1 bxR hlen H0 b1 bR b3 hB0
    generalize (r x.1).n = n at *
    have hu2 : b 2 < W.heap.size := HL.out _ (.inl ⟨2, by unfold pn; omega, rfl⟩)
    have huu : u < W.heap.size := HL.out _ (.inr rfl)
    have K2 := Lib.hid (show KeepsFrom W0.heap.size X (X.setCell ⟨W.heap.size + 1, 0, none⟩ (.bool false)) ∧ Kc (Dv b u (W.heap.size + 1 + 1) W0.heap.size) (W0.heap.size + 2) X (X.setCell ⟨W.heap.size + 1, 0, none⟩ (.bool false)) ∧ Tn (X.setCell ⟨W.heap.size + 1, 0, none⟩ (.bool false)) b c s u r sh T m ∧ Boxed (X.setCell ⟨W.heap.size + 1, 0, none⟩ (.bool false)) (W.heap.size + 1) 4 (.bool false) ∧ Below W.heap.size W (X.setCell ⟨W.heap.size + 1, 0, none⟩ (.bool false)) from by
      have bb : But (· = W.heap.size + 1) X (X.setCell ⟨W.heap.size + 1, 0, none⟩ (.bool false)) := But.setCell (p := ⟨_, _, none⟩) (But.refl (· = _) X) (Or.inl rfl) _
      have HT := HXX.out.keep bb fun k hk e => by have := HL.out k hk; omega
      obtain ⟨k1, k2⟩ := round_kc HXX.out HT bb (B := W.heap.size + 1 + 1) (n₀ := W0.heap.size) fun k e => ⟨by omega, by omega, by omega⟩
      exact ⟨k1, k2, HT, BR.out.set _, HBB.out.setCell (p := ⟨W.heap.size + 1, 0, none⟩) (by show W.heap.size ≤ W.heap.size + 1; omega) _⟩)
    cases d1 : decide (n < -2147483648)
    · cases d2 : decide (2147483647 < n)
      · have HYY := Lib.hid (HY.out (HV.out.trans (by simp at d1 d2; simp; omega)))
        gi_wp2_with (first | (refine ⟨trivial, ?_⟩; gi_at_call 52; refine (CW lp).mono ?_; rintro e w' ⟨rfl, rfl⟩) | (refine ⟨trivial, ?_⟩))
        exact ⟨KeepsFrom.refl _ _, Kc.refl _ _ _, ⟨HYY.out, HXX.out⟩, ⟨B1.out, BR.out⟩, HBB.out⟩
      · have HNN := Lib.hid (HNO.out (HV.out.trans (by simp at d1 d2; simp; omega)))
        gi_wp2_with (first | (refine ⟨trivial, ?_⟩; gi_at_call 52; refine (CW lp).mono ?_; rintro e w' ⟨rfl, rfl⟩) | (refine ⟨trivial, ?_⟩))
        exact ⟨K2.out.1, K2.out.2.1, ⟨⟨rfl, HNN.out⟩, K2.out.2.2.1⟩, K2.out.2.2.2.1, K2.out.2.2.2.2⟩
    · have HNN := Lib.hid (HNO.out (HV.out.trans (by simp at d1; simp; omega)))
      gi_wp2_with (first | (refine ⟨trivial, ?_⟩; gi_at_call 52; refine (CW lp).mono ?_; rintro e w' ⟨rfl, rfl⟩) | (refine ⟨trivial, ?_⟩))
      exact ⟨K2.out.1, K2.out.2.1, ⟨⟨rfl, HNN.out⟩, K2.out.2.2.1⟩, K2.out.2.2.2.1, K2.out.2.2.2.2⟩
  case done =>
    rintro D ys X hD hys ⟨⟨hp, HX⟩, ⟨bx1, bxR⟩, hB⟩ hK
    have HF := Lib.hid (show okb c r sh = (decide (0 ≤ sh) && decide (sh < 16)) by unfold okb; rw [okv_yes hys hp, Bool.true_and])
    have c1 := bx1.cell
    have cR := bxR.cell
    have fR := bxR.frozen
    have c9 := HX.shut
    clear hp hys HX H0 b1 bR b3 hB0
    obtain ⟨ok, hok⟩ : ∃ ok, okb c r sh = ok := ⟨_, rfl⟩
    rw [hok] at HF
    have HOK := Lib.hid hok
    clear hok
    cases d1 : decide (0 ≤ sh) <;> cases d2 : decide (sh < 16)
    all_goals
      rw [d1, d2] at HF
      gi_wp2_with (refine ⟨trivial, ?_⟩)
      have hK' := fun v => (KeepsOthers.setCell X ⟨W.heap.size + 1, 0, none⟩ v).same D _ hK rfl
      refine ⟨by simp, .inl ⟨_, _, rfl, run_takeDeferred (hK' _), ?_⟩⟩
      have hcc := fun v => (((bxR.set v).kept (grownBy_putObj' _ D (.deferred none)) (by simp; omega))).cell
      refine ⟨.bool ok, by simp [results, Tryz.f25, go_sem, hcc, HF.out], Fx.ret_bool HOK.out.symm, ?_⟩
      exact (hB.setCell (p := ⟨W.heap.size + 1, 0, none⟩) (by show W.heap.size ≤ W.heap.size + 1; omega) _).trans (belowK_b (w := W) (Nat.le_refl _) _ D _ _ (by omega) (hK' _) rfl rfl)
  case stop =>
    rintro D cc pre X hD - ⟨⟨⟨rfl, hno⟩, HX⟩, bxR, hB⟩ hK
    have HF := Lib.hid (show okb c r sh = false by unfold okb; rw [hno]; rfl)
    clear HX H0 b1 bR b3 hB0
    gi_wp2
    refine ⟨by simp, .inl ⟨_, _, rfl, run_takeDeferred hK, ?_⟩⟩
    have hcc := (bxR.kept (grownBy_putObj' _ D (.deferred none)) (by simp; omega)).cell
    exact ⟨.bool false, by simp [results, Tryz.f25, go_sem, hcc], Fx.ret_bool HF.out.symm,
      hB.trans (belowK_b (w := W) (Nat.le_refl _) X D _ _ (by omega) hK rfl rfl)⟩
end Sg
end Go.Proofs.YtacclmfbkiadbaaGreat
