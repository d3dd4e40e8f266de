/-
  What State of package signal returns, what trip, miss and rule do: contracts by walking the Go text. Conditions: how a signal lies.
-/
import Derived.Test.YtpoededbmdffpaaGreatDoorSignalReads
import Derived.Test.YtpoededbmdffpaaGreatDoorVBox
import Derived.Test.YtpoededbmdffpaaGreatDoorLateKit
import Derived.Test.YtpoededbmdffpaaGreatDoorStuckVote
import Derived.Test.YtpoededbmdffpaaGreatDoorLatchFine
import Derived.Test.YtpoededbmdffpaaGreatDoorCrcMath2
namespace Go.Proofs.YtpoededbmdffpaaGreatDoor
set_option maxRecDepth 100000
open Go.ChangeShapes Go.WideShapes Go.ChangeAt Go.RowKit Go.Deep
namespace Sg
open Cf (G CA)
theorem sizeL' : (Tryz.prog.info? 54).map (·.size) = some 5 := by kernel_rfl
theorem aggL (w : World) : (isAgg 54).run Tryz.prog w = .ok true w := by simp [isAgg, run_underlying Tryz.underlying54]
theorem lav_one' (s : Lc.St) : (lav s).toArray.all (·.oneCell') = true := by simp [lav, Value.oneCell']
theorem state_no {W : World} {b : Nat → Nat} {c : List Int} {s : Si} (hc : c.length = 21) (H : Lie W b c s) (k : Int) (hk : k < 0 ∨ (NN c : Int) ≤ k) :
    Calls Tryz.prog 56 #[.pointer (some ⟨b 0, 0, none⟩), .int .i64 k] W fun e w' => e = .returned (.tuple #[.agg (lav Lc.zer).toArray, .bool false]) ∧ Below W.heap.size W w' := by
  have V := Lib.hid (VRow.new W (lav Lc.zer) 54)
  have C := has_any hc (H.keep (But.of_below (S := fun _ => False) ((Below.refl _ W).alloc (Nat.le_refl _) (.cells (lav Lc.zer).toArray 54))) fun _ _ q => q) k
  rw [chan_no hk, show (lav Lc.zer).toArray = #[.bool false, .bool false, .int .i64 0, .int .i64 0, .int .i64 0] from rfl] at C
  clear H hk
  go_enter Tryz.func56, Tryz.ntmps56
  go_wp2_with (first | (go_at_call 98; refine C.mono ?_; rintro e w' ⟨rfl, rfl⟩) | ((with_reducible show wpList _ _ _ (⟨none, .store _ (.tmp 4) _, _, _, _, _⟩ :: _) _ _); refine VB.store rfl _ _ rfl W.heap.size (lav Lc.zer) rfl rfl V.out sizeL' rfl (lav_one' _) ?_))
  refine bodyPost_ret (v := .tuple #[.agg (lav Lc.zer).toArray, .bool false]) ?_ rfl ⟨rfl, Below.put ((Below.refl _ W).alloc (Nat.le_refl _) _) (Nat.le_refl _) _⟩
  exact (VB.ret2 (cs := lav Lc.zer) rfl rfl (aggL _) sizeL' (VRow.put V.out _)).trans rfl
theorem state_yes {W : World} {b : Nat → Nat} {c : List Int} {s : Si} (hc : c.length = 21) (H : Lie W b c s) (k : Nat) (hk : k < NN c) :
    Calls Tryz.prog 56 #[.pointer (some ⟨b 0, 0, none⟩), .int .i64 k] W fun e w' => e = .returned (.tuple #[.agg (lav (s.ch k).st).toArray, .bool true]) ∧ Below W.heap.size W w' := by
  have V := Lib.hid (VRow.new W (lav Lc.zer) 54)
  have H1 := H.keep (But.of_below (S := fun _ => False) ((Below.refl _ W).alloc (Nat.le_refl _) (.cells (lav Lc.zer).toArray 54))) fun _ _ q => q
  rw [show (lav Lc.zer).toArray = #[.bool false, .bool false, .int .i64 0, .int .i64 0, .int .i64 0] from rfl] at H1
  have C := has_any hc H1 k
  rw [chan_yes hk] at C
  obtain ⟨cap, h2⟩ := H1.row hc
  have h3 := H1.at hk
  have CH := H1.chs k hk
  have p4 := CH.own.cell 4 (v := .bool (s.ch k).st.la) rfl
  have p5 := CH.own.cell 5 (v := .bool (s.ch k).st.ou) rfl
  have p6 := CH.own.cell 6 (v := .int .i64 (s.ch k).st.st) rfl
  have p7 := CH.own.cell 7 (v := .int .i64 (s.ch k).st.cl) rfl
  have p8 := CH.own.cell 8 (v := .int .i64 (s.ch k).st.bk) rfl
  have hki : (k : Int) < (NN c : Nat) := by omega
  clear H CH H1
  generalize (s.ch k).st = st at *
  generalize b 0 = g at *
  generalize b 2 = ar at *
  generalize xb b k = xx at *
  generalize NN c = N at *
  go_enter Tryz.func56, Tryz.ntmps56
  go_wp2_with (first | (go_at_call 98; refine C.mono ?_; rintro e w' ⟨rfl, rfl⟩) | ((with_reducible show wpList _ _ _ (⟨none, .store _ (.tmp 4) _, _, _, _, _⟩ :: _) _ _); refine VB.store rfl _ _ rfl W.heap.size (lav st) rfl rfl V.out sizeL' rfl (lav_one' _) ?_))
  refine bodyPost_ret (v := .tuple #[.agg (lav st).toArray, .bool true]) ?_ rfl ⟨rfl, Below.put ((Below.refl _ W).alloc (Nat.le_refl _) _) (Nat.le_refl _) _⟩
  exact (VB.ret2 (cs := lav st) rfl rfl (aggL _) sizeL' (VRow.put V.out _)).trans rfl
/-- A trip's bit set, where all that are set are lesser ones. -/
theorem or_trip {t x : Int} (hx : x = 8 ∨ x = 16 ∨ x = 32) (ht : 0 ≤ t ∧ t < x) : Go.bits .or .i64 t x = t + x := by
  obtain ⟨n, rfl⟩ : ∃ n : Nat, t = n := ⟨t.toNat, by omega⟩
  have h (k : Nat) (hk : n < 2 ^ k) : n ||| 2 ^ k = n + 2 ^ k := by
    have := Nat.two_pow_add_eq_or_of_lt hk 1
    rw [Nat.mul_one] at this
    rw [Nat.or_comm, ← this, Nat.add_comm]
  rcases hx with rfl | rfl | rfl
  · have := Cr.or_i64_nat n 8 (by omega) (by omega)
    rw [h 3 (by omega)] at this
    simpa using this
  · have := Cr.or_i64_nat n 16 (by omega) (by omega)
    rw [h 4 (by omega)] at this
    simpa using this
  · have := Cr.or_i64_nat n 32 (by omega) (by omega)
    rw [h 5 (by omega)] at this
    simpa using this
/-- A trip, or none, set. -/
theorem trip_any {W : World} {b : Nat → Nat} {c : List Int} {s : Si} {u : Nat} {r : Nat → Rw} {sh : Int} {T : Nat → Int} {m : Int} (H : Tn W b c s u r sh T m) (i : Nat) (hi : i < 4) (x : Int) (is : Bool) (hx : x = 8 ∨ x = 16 ∨ x = 32) (ht : 0 ≤ T i ∧ T i < x) :
    Calls Tryz.prog 161 #[.pointer (some ⟨u, 0, none⟩), .int .i64 i, .int .i64 x, .bool is] W fun e w' => e = .returned (.tuple #[]) ∧ Tn w' b c s u r sh (tup T i (T i + if is = true then x else 0)) m ∧ But (· = u) W w' := by
  have HT := Lib.hid H
  have hii : (i : Int) < 4 := by omega
  cases is
  · have e : tup T i (T i + if false = true then x else 0) = T := by funext k; unfold tup; split <;> simp_all
    rw [e]
    clear H hx ht
    go_enter Tryz.func161, Tryz.ntmps161
    go_wp2
    go_end0
    exact ⟨rfl, HT.out, But.refl _ _⟩
  · have h1 := H.trp hi
    have f1 := H.trn.frozen (10 + i)
    have ho := or_trip hx ht
    have wz : IntKind.i64.wrap (T i + x) = T i + x := IntWalk.i64_in _ (by omega)
    clear H
    have R := Lib.hid (HT.out.trip hi (T i + x))
    rw [show (if true = true then x else 0) = x from rfl]
    clear hx
    generalize T i = t at *
    go_enter Tryz.func161, Tryz.ntmps161
    go_wp2_with fail
    go_region
    go_end0
    exact ⟨rfl, R.out.1.drew, R.out.2.drew⟩
theorem miss_any {W : World} {b : Nat → Nat} {c : List Int} {s : Si} (H : Lie W b c s) (i : Nat) (hi : i < NN c) :
    Calls Tryz.prog 158 #[.pointer (some ⟨xb b i, 0, none⟩)] W fun e w' => e = .returned (.tuple #[]) ∧ Chan w' b c i { s.ch i with last := 0, has := false, k := 0 } ∧ But (Of b i) W w' := by
  have C := H.chs i hi
  obtain ⟨n1, n2, n3, n4, n5, n6, n7, n8, n9, n10, n11⟩ := H.five hi
  obtain ⟨la, f1, -⟩ := C.fw
  have h0 := C.own.cell 0 (v := .pointer (some ⟨jb b i, 0, none⟩)) rfl
  have CJ := Jp.miss_any _ _ _ _ _ _ W C.jw
  have CF := fun w (o : Only (jb b i) W w) => Sk.miss_any _ _ _ _ w (f1.only o (by omega))
  have HC := Lib.hid C
  have K := Lib.hid (fun w w' (o : Only (jb b i) W w) (t : VRow w (jb b i) 266 (Jp.wat (G c 1) (G c 2) (G c 4) 0 false)) (o' : Only (fb b i) w w') (t' : VRow w' (fb b i) 275 (Sk.wt (b 1) la 0)) =>
    show Chan w' b c i { s.ch i with last := 0, has := false, k := 0 } ∧ But (Of b i) W w' from
      ⟨⟨(C.own.only o (by omega)).only o' (by omega), t.only o' (by omega), ⟨la, by simpa using t', Or.inl rfl⟩, (C.fl.only o (by omega)).only o' (by omega), (C.tr.only o (by omega)).only o' (by omega)⟩,
        (o.mono fun k e => Or.inr (Or.inl e)).trans (o'.mono fun k e => Or.inr (Or.inr (Or.inl e)))⟩)
  have hx := fun w (o : Only (jb b i) W w) => (C.own.only o (by omega)).cell 1 (v := .pointer (some ⟨fb b i, 0, none⟩)) rfl
  clear C f1 H
  generalize xb b i = x at *
  generalize jb b i = j at *
  generalize fb b i = f at *
  go_enter Tryz.func158, Tryz.ntmps158
  go_wp2_with (go_at_call 192; refine CJ.mono ?_; clear CJ; rintro e w2 ⟨rfl, t2, o2⟩; have h1 := hx w2 o2; have CF2 := CF w2 o2; have T2 := Lib.hid t2; have O2 := Lib.hid o2; clear CF hx t2 o2)
  refine CF2.mono ?_; rintro e w3 ⟨rfl, t3, o3⟩
  go_wp2
  go_end0
  exact ⟨rfl, K.out w2 w3 O2.out T2.out o3 t3⟩
set_option maxHeartbeats 1600000 in
theorem rule_any {W : World} {b : Nat → Nat} {c : List Int} {s : Si} (hc : c.length = 21) (H : Lie W b c s) :
    Calls Tryz.prog 174 #[.pointer (some ⟨b 0, 0, none⟩)] W fun e w' => e = .returned (Lc.rlv (G c 13) (G c 14) (G c 15)) ∧ Below W.heap.size W w' := by
  have V := Lib.hid (VRow.new W [.int .i64 0, .int .i64 0, .int .i64 0] 285)
  have H1 := H.keep (But.of_below (S := fun _ => False) ((Below.refl _ W).alloc (Nat.le_refl _) (.cells #[.int .i64 0, .int .i64 0, .int .i64 0] 285))) fun _ _ q => q
  have h1 := H1.cfg hc 13 (by omega)
  have h2 := H1.cfg hc 14 (by omega)
  have h3 := H1.cfg hc 15 (by omega)
  unfold Lc.rlv
  clear H H1
  generalize G c 13 = L at *
  generalize G c 14 = C at *
  generalize G c 15 = B at *
  generalize b 0 = g at *
  go_enter Tryz.func174, Tryz.ntmps174
  go_wp2_with fail
  refine Tail.wp_region_quiet_tail 16 (by kernel_rfl) (by kernel_rfl) ?_
  simp only [List.take_succ_cons, List.take_zero, List.drop_succ_cons, List.drop_zero]
  repeat (go_big_quiet_step (fail))
  refine wpQuiet_nil ?_
  clear h1 h2 h3
  go_wp2_with ((with_reducible show wpList _ _ _ (⟨none, .store _ (.tmp 2) _, _, _, _, _⟩ :: _) _ _); refine VB.store rfl _ _ rfl W.heap.size [.int .i64 L, .int .i64 C, .int .i64 B] rfl rfl V.out.drew (by kernel_rfl) rfl (by simp [Value.oneCell']) ?_)
  refine bodyPost_ret (v := .agg #[.int .i64 L, .int .i64 C, .int .i64 B]) ?_ rfl ⟨rfl, Below.put ((Below.refl _ W).alloc (Nat.le_refl _) _).drew (Nat.le_refl _) _⟩
  exact (VB.ret1 (cs := [.int .i64 L, .int .i64 C, .int .i64 B]) rfl rfl (by simp [isAgg, run_underlying Tryz.underlying285]) (by kernel_rfl) (VRow.put V.out.drew _)).trans rfl
end Sg
end Go.Proofs.YtpoededbmdffpaaGreatDoor
