/-
  What Text of package ring, and that of rudderref17, tell: contracts by walking the Go text. Condition, of the first: the tables of trips, of kinds, and of powers of ten lie in memory as the text lays them.
-/
import Derived.Test.YtmfpoakefpephaaDoorRingFig
import Derived.Test.YtmfpoakefpephaaDoorItoaShelf
import Derived.Test.YtmfpoakefpephaaDoorTailC
import Derived.Test.YtmfpoakefpephaaDoorTripRefText
import Derived.WalkSmall
import Derived.Lib.LaidTab
namespace Go.Proofs.YtmfpoakefpephaaDoor
open Go.ChangeShapes Go.WideShapes Go.ChangeAt Go.RowKit Go.Deep
namespace Rg
open Fx

/-- The tables, where they lie. -/
structure Tabs (w : World) : Prop where
  trips : Tp.TabAt w
  kinds : ∀ i, i < 3 → w.cell? ⟨0, i, none⟩ = some (.string ⟨(knm (i : Nat)).toArray⟩)
  tens : Lib.TabIs Tryd.prog w "internal/strconv.uint64pow10" .u64 Lib.pow10Tab
theorem tens_named : Tryd.prog.globalNamed "internal/strconv.uint64pow10" = some 3 := by kernel_rfl
theorem Tabs.below {w w' : World} (h : Tabs w) (hb : Below w.heap.size w w') : Tabs w' :=
  ⟨h.trips.below hb, fun i hi => (hb.cell (p := ⟨_, i, none⟩) (cell_lt (h.kinds i hi))).trans (h.kinds i hi),
    var?_below hb tens_named (cell_lt (h.tens.cell tens_named 0 (by decide))) h.tens⟩
theorem below_grow (w : World) (k : Nat) (os : Array Obj) : Below w.heap.size w (Sort.grow (w.drewN k) os) :=
  ⟨rfl, rfl, rfl, by simp [Sort.grow, World.drewN], fun j hj => by simp [Sort.grow, World.drewN, Array.getElem?_append_left hj]⟩
theorem itoa_any (n : Int) (w : World) (h0 : -9223372036854775808 ≤ n) (h1 : n ≤ 9223372036854775807) (hT : Lib.TabIs Tryd.prog w "internal/strconv.uint64pow10" .u64 Lib.pow10Tab) :
    Calls Tryd.prog 20 #[.int .i64 n] w fun e w' => e = .returned (.string ⟨(Lib.itoa n).toArray⟩) ∧ Below w.heap.size w w' :=
  (Sh.strconv_Itoa n h0 h1 w hT).mono fun _ _ ⟨a, k, os, b⟩ => ⟨a, b ▸ below_grow w k os⟩

/-- A region whose head calls makers of memory, and whose tail is walked in the order of the text. -/
theorem region_below_tail {P : Program} {id : Nat} {Q : Exit → Act → World → Prop} {a : Act} {w : World} {l : List Oper} (n : Nat) (hm : P.follows .mixedOrders = true) (hB : TailC.headTailB .any l n = true)
    (h : wpQuiet P l.toArray (fun w' => ∃ p : Regrown, w' = Sort.grow (redrawn w p.d) p.os) (fun a' => ∀ w', (∃ p : Regrown, w' = Sort.grow (redrawn w p.d) p.os) → wpList P l.toArray Q (l.drop n) a' w') (l.take n) a) : (Code.region id l.toArray true).wp P Q a w :=
  TailC.wp_region_class_tail (C := fun w' => ∃ p : Regrown, w' = Sort.grow (redrawn w p.d) p.os) n hm hB ⟨⟨w.drawn + 1, #[]⟩, by rw [Sort.grow_empty]; rfl⟩ h

/-- Eight texts, just laid, joined by a blank. -/
theorem join8 (W : World) (l : List (List UInt8)) (h8 : l.length = 8) (hl : (Lib.join l [32]).length ≤ 200) :
    Calls Tryd.prog 19 #[.slice (some ⟨W.heap.size, 0, none⟩) 8 8, .string ⟨#[32]⟩] (W.alloc (.cells (Tp.strs l).toArray 9))
      fun r w' => r = .returned (.string ⟨(Lib.join l [32]).toArray⟩) ∧ Below W.heap.size W w' := by
  have e0 : ((l.map fun x => (⟨x.toArray⟩ : ByteArray)).map (·.data.toList)) = l := by
    rw [List.map_map]
    exact (List.map_congr_left (g := id) fun x _ => by simp).trans (List.map_id l)
  have J := Sh.strings_Join W.heap.size 0 8 (l.map fun x => (⟨x.toArray⟩ : ByteArray)) ⟨#[32]⟩ (W.alloc (.cells (Tp.strs l).toArray 9))
    (fun j x hj => by
      rw [Nat.zero_add]
      exact VRow.cell (VRow.new W (Tp.strs l) 9) j (v := .string x) (by
        unfold Tp.strs
        rw [List.getElem?_map] at hj ⊢
        generalize l[j]? = o at *
        cases o
        · simp at hj
        · simp only [Option.map_some, Option.some.injEq] at hj ⊢; rw [hj])) (by simp) (by simp; omega) (by simp; omega) (by rw [e0]; exact Nat.le_trans hl (by omega))
  rw [e0, List.length_map, h8] at J
  refine J.mono ?_
  rintro r w' ⟨h, k⟩
  exact ⟨h, ((Below.refl W.heap.size W).alloc (Nat.le_refl _) _).trans (k.mono (by simp))⟩
theorem txn_yes {n : Nt} (h : rgn n = true) : txn n = Lib.join (txp n) [32] := by unfold txn; rw [if_pos h]
theorem txn_no {n : Nt} (h : rgn n = false) : txn n = [] := by unfold txn; rw [if_neg (by simp [h])]
theorem txp_eq (n : Nt) : Lib.join (txp n) [32] = [99, 121, 99, 108, 101, 32] ++ Lib.itoa n.y ++ [32, 99, 104, 97, 110, 110, 101, 108, 32] ++ Lib.itoa n.c ++ [32, 115, 105, 103, 110, 97, 108, 32] ++ Lib.itoa n.s ++ [32] ++ knm n.k ++ [32] ++ Tp.txt n.t := by
  simp [txp, Lib.join, List.intercalate, List.intersperse]
theorem txp_len {n : Nt} (h : rgn n = true) (hy : n.y ≤ 9223372036854775807) : (Lib.join (txp n) [32]).length ≤ 200 := by
  obtain ⟨h0, h1, h2, h3, h4, -⟩ := (rgn_iff n).1 h
  have l1 := Lib.itoa_length_le n.y (by omega) hy
  have l2 := Lib.itoa_length_le n.c (by omega) (by omega)
  have l3 := Lib.itoa_length_le n.s (by omega) (by omega)
  have l4 := knm_len n.k
  have l5 := Tp.txt_short n.t
  rw [txp_eq]
  simp only [List.length_append, List.length_cons, List.length_nil]
  omega

set_option maxHeartbeats 3200000 in
theorem text_any (n : Nt) (w : World) (hy : n.y ≤ 9223372036854775807) (hT : Tabs w) :
    Calls Tryd.prog 15 #[ntv n] w fun e w' => e = .returned (.string ⟨(txn n).toArray⟩) ∧ Below w.heap.size w w' := by
  have V := Lib.hid (box_new w n 29)
  have B0 := Lib.hid ((Below.refl w.heap.size w).alloc (Nat.le_refl _) (.cells #[.int .i64 n.y, .int .i64 n.c, .int .i64 n.s, .int .i64 n.k, .int .i64 n.t] 29))
  have C := right_any n _ (hT.below B0.out).trips
  cases h : rgn n
  · rw [txn_no h]
    rw [h] at C
    clear h hT
    unfold ntv at *
    go_enter Tryd.func15, Tryd.ntmps15
    go_wp2_with (go_at_call 14; refine C.mono ?_; rintro e w1 ⟨rfl, b1⟩; have B1 := Lib.hid (grow B0.out b1); clear b1)
    go_ret
    exact ⟨rfl, B1.out⟩
  · rw [txn_yes h]
    have HL := Lib.hid (txp_len h hy)
    have HT := Lib.hid hT
    obtain ⟨h0, h1, h2, h3, h4, h5, h6, -⟩ := (rgn_iff n).1 h
    rw [h] at C
    clear h hT
    have CI := fun m W a b c => itoa_any m W a b c
    have CT := fun W c => Tp.text_any n.t W c
    unfold txp at HL ⊢
    obtain ⟨y, c, s, k, t⟩ := n
    unfold ntv at *
    dsimp only at *
    have hki : k ∈ [0, 1, 2] := by simp; omega
    simp only [List.mem_cons, List.mem_nil_iff, or_false] at hki
    have CY := fun W c => CI y W (by omega) hy c
    have CC := fun W d => CI c W (by omega) (by omega) d
    have CS := fun W d => CI s W (by omega) (by omega) d
    clear CI h1 h2 h3 h4 h5 h6 hy h0
    generalize Lib.itoa y = xy at *
    generalize Lib.itoa c = xc at *
    generalize Lib.itoa s = xs at *
    generalize Tp.txt t = xt at *
    rcases hki with rfl | rfl | rfl
    all_goals
      go_enter Tryd.func15, Tryd.ntmps15
      go_wp2_with (go_at_call 14; refine C.mono ?_; rintro e w1 ⟨rfl, b1⟩; have B1 := Lib.hid (grow B0.out b1); have V1 := Lib.hid (onB V.out b1); clear b1)
      have T1 := HT.out.below B1.out
      obtain ⟨c0, c1, c2, c3, c4⟩ := nt_cells V1.out
      replace c0 := cell_regrown c0
      replace c1 := cell_regrown c1
      replace c2 := cell_regrown c2
      replace c3 := cell_regrown c3
      replace c4 := cell_regrown c4
      have k0 := cell_regrown (T1.kinds 0 (by omega))
      have k1 := cell_regrown (T1.kinds 1 (by omega))
      have k2 := cell_regrown (T1.kinds 2 (by omega))
      have cY := reg_call (w := w1) (fun W h => CY W (T1.below h).tens)
      have cC := reg_call (w := w1) (fun W h => CC W (T1.below h).tens)
      have cS := reg_call (w := w1) (fun W h => CS W (T1.below h).tens)
      have cT := reg_call (w := w1) (fun W h => CT W (T1.below h).trips)
      refine region_below_tail 16 (by kernel_rfl) (by kernel_rfl) ?_
      simp only [List.take_succ_cons, List.take_zero, List.drop_succ_cons, List.drop_zero]
      repeat (go_big_quiet_step (first | exact cY _ _ | exact cC _ _ | exact cS _ _ | exact cT _ _))
      refine wpQuiet_nil ?_
      rintro W2 ⟨p, rfl⟩
      have B2 := Lib.hid (grow B1.out (below_regrown w1 p.d p.os))
      generalize Sort.grow (redrawn w1 p.d) p.os = W2 at *
      have J := join8 W2 _ rfl HL.out
      go_wp2_with (go_at_call 19; refine J.mono ?_; rintro e w3 ⟨rfl, b3⟩; have B3 := Lib.hid (grow B2.out b3))
      go_ret
      exact ⟨rfl, B3.out⟩

set_option maxHeartbeats 3200000 in
theorem rtext_any (n : Nt) (w : World) (hy : n.y ≤ 9223372036854775807) :
    Calls Tryd.prog 16 #[ntv n] w fun e w' => e = .returned (.string ⟨(txn n).toArray⟩) ∧ Below w.heap.size w w' := by
  have V := Lib.hid (box_new w n 29)
  have B0 := Lib.hid ((Below.refl w.heap.size w).alloc (Nat.le_refl _) (.cells #[.int .i64 n.y, .int .i64 n.c, .int .i64 n.s, .int .i64 n.k, .int .i64 n.t] 29))
  have C := fun W => rright_any n W
  cases h : rgn n
  · rw [txn_no h]
    rw [h] at C
    clear h
    unfold ntv at *
    go_enter Tryd.func16, Tryd.ntmps16
    go_wp2_with (go_at_call 8; refine (C _).mono ?_; rintro e w1 ⟨rfl, b1⟩; have B1 := Lib.hid (grow B0.out b1); clear b1)
    go_ret
    exact ⟨rfl, B1.out⟩
  · have HX := Lib.hid ((txn_yes h).trans (txp_eq n))
    obtain ⟨h0, h1, h2, h3, h4, h5, h6, -⟩ := (rgn_iff n).1 h
    rw [h] at C
    clear h
    have fg := fun (m : Int) (a : 0 ≤ m) (b : m ≤ 9223372036854775807) W => (show Calls Tryd.prog 22 #[.int .i64 m] W fun e w' => e = .returned (.string ⟨(Lib.itoa m).toArray⟩) ∧ Below W.heap.size W w' by
      obtain ⟨u, rfl⟩ : ∃ u : Nat, m = u := ⟨m.toNat, by omega⟩
      rw [itoa_nat]
      exact fig_any u W (by omega))
    have CT := fun W => Tp.rtext_any n.t W
    have l1 := Lib.itoa_length_le n.y (by omega) hy
    have l2 := Lib.itoa_length_le n.c (by omega) (by omega)
    have l3 := Lib.itoa_length_le n.s (by omega) (by omega)
    have l5 := Tp.txt_short n.t
    generalize txn n = out at *
    obtain ⟨y, c, s, k, t⟩ := n
    unfold ntv at *
    dsimp only at *
    have hki : k ∈ [0, 1, 2] := by simp; omega
    simp only [List.mem_cons, List.mem_nil_iff, or_false] at hki
    have CY := fun W => fg y h0 hy W
    have CC := fun W => fg c h1 (by omega) W
    have CS := fun W => fg s h3 (by omega) W
    clear fg h1 h2 h3 h4 h5 h6 hy h0
    obtain ⟨x1, e1⟩ : ∃ x1 : ByteArray, x1 = ⟨(Lib.itoa y).toArray⟩ := ⟨_, rfl⟩
    obtain ⟨x2, e2⟩ : ∃ x2 : ByteArray, x2 = ⟨(Lib.itoa c).toArray⟩ := ⟨_, rfl⟩
    obtain ⟨x3, e3⟩ : ∃ x3 : ByteArray, x3 = ⟨(Lib.itoa s).toArray⟩ := ⟨_, rfl⟩
    obtain ⟨x5, e5⟩ : ∃ x5 : ByteArray, x5 = ⟨(Tp.txt t).toArray⟩ := ⟨_, rfl⟩
    have z1 : x1.size ≤ 21 := by rw [e1]; exact l1
    have z2 : x2.size ≤ 21 := by rw [e2]; exact l2
    have z3 : x3.size ≤ 21 := by rw [e3]; exact l3
    have z5 : x5.size ≤ 64 := by rw [e5]; exact l5
    have H1 := Lib.hid (show tl x1 = Lib.itoa y by rw [e1, tl_mk])
    have H2 := Lib.hid (show tl x2 = Lib.itoa c by rw [e2, tl_mk])
    have H3 := Lib.hid (show tl x3 = Lib.itoa s by rw [e3, tl_mk])
    have H5 := Lib.hid (show tl x5 = Tp.txt t by rw [e5, tl_mk])
    rw [← e1] at CY
    rw [← e2] at CC
    rw [← e3] at CS
    rw [← e5] at CT
    clear e1 e2 e3 e5 l1 l2 l3 l5
    generalize Lib.itoa y = i1 at *
    generalize Lib.itoa c = i2 at *
    generalize Lib.itoa s = i3 at *
    generalize Tp.txt t = i5 at *
    rcases hki with rfl | rfl | rfl
    all_goals
      go_enter Tryd.func16, Tryd.ntmps16
      go_wp2_with (go_at_call 8; refine (C _).mono ?_; rintro e w1 ⟨rfl, b1⟩; have B1 := Lib.hid (grow B0.out b1); have V1 := Lib.hid (onB V.out b1); obtain ⟨c0, c1, c2, c3, c4⟩ := nt_cells V1.out; clear b1)
      refine (CY _).mono ?_; rintro e w2 ⟨rfl, b2⟩
      have B2 := Lib.hid (grow B1.out b2)
      have V2 := Lib.hid (onB V1.out b2)
      clear c0 c1 c2 c3 c4 b2 B1 V1
      obtain ⟨c0, c1, c2, c3, c4⟩ := nt_cells V2.out
      go_wp2_with fail
      refine (CC _).mono ?_; rintro e w3 ⟨rfl, b3⟩
      have B3 := Lib.hid (grow B2.out b3)
      have V3 := Lib.hid (onB V2.out b3)
      clear c0 c1 c2 c3 c4 b3 B2 V2
      obtain ⟨c0, c1, c2, c3, c4⟩ := nt_cells V3.out
      go_wp2_with fail
      refine (CS _).mono ?_; rintro e w4 ⟨rfl, b4⟩
      have B4 := Lib.hid (grow B3.out b4)
      have V4 := Lib.hid (onB V3.out b4)
      clear c0 c1 c2 c3 c4 b4 B3 V3
      obtain ⟨c0, c1, c2, c3, c4⟩ := nt_cells V4.out
      go_wp2_with fail
      refine (CT _).mono ?_; rintro e w5 ⟨rfl, b5⟩
      have B5 := Lib.hid (grow B4.out b5)
      clear c0 c1 c2 c3 c4 b5 B4 V4
      go_wp2
      go_ret
      exact ⟨ret_str (of_tl (by simp only [tl_app, H1.out, H2.out, H3.out, H5.out]; rw [HX.out]; rfl)), B5.out⟩
end Rg
end Go.Proofs.YtmfpoakefpephaaDoor
