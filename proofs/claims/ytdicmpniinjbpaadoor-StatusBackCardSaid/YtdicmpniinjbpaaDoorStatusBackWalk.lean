/-
  The walk of the law StatusBack: for every status and every number it returns true, and writes nothing that was there. Condition: the table of modes lies in memory as the text lays it.
-/
import Derived.Test.YtdicmpniinjbpaaDoorStatusAlive
import Derived.Test.YtdicmpniinjbpaaDoorWordPut
import Derived.Lib.QuietBelow
namespace Go.Proofs.YtdicmpniinjbpaaDoor
open Go.ChangeShapes Go.WideShapes Go.ChangeAt Go.RowKit Go.Deep
namespace Ss.StatusBack
open Ss

theorem put2_word {s : St} (h : rgt s = true) (W : World) : Calls Tryd.prog 16 #[.int .i64 (wrd s)] W fun e w' => ∃ a cap, e = .returned (.slice a 2 cap) ∧ Below W.heap.size W w' := by
  refine (Wd.put2_any (wrd s) W).mono ?_
  rintro e w' ⟨a, cap, rfl, -, b⟩
  have hb := wrd_bd h
  have hl : (Wd.put2 (wrd s)).length = 2 := by rw [Wd.put2_yes (by unfold Wd.in2; simp; omega)]; rfl
  exact ⟨a, cap, by rw [hl], b⟩
theorem wrd_wf {s : St} (h : rgt s = true) : (Lit.int .i64 (wrd s)).wf = true := by
  have := wrd_bd h
  have hmin : IntKind.i64.min = -9223372036854775808 := rfl
  have hmax : IntKind.i64.max = 9223372036854775807 := rfl
  simp [Lit.wf]
  omega
theorem str_ne {l : List UInt8} (h : l ≠ []) : ((⟨l.toArray⟩ : ByteArray).toList == []) = false := by
  rw [ByteArray.toList_eq]; simpa using h
theorem md_some {s : St} (h : rgt s = true) : md s.i ≠ [] := md_ne (rgt_bd h).1
theorem txs_some {s : St} (h : rgt s = true) : txs s ≠ [] := by
  have := txs_nil s
  rw [h] at this
  intro e; rw [e] at this; cases this
theorem str_hold {s : St} (h : rgt s = true) : ((⟨(md s.i).toArray⟩ : ByteArray).toList == [104, 111, 108, 100]) = s.f := by
  rw [ByteArray.toList_eq, (rgt_bd h).2.2.2.1, ← md_hold (rgt_bd h).1]
  rfl
theorem count_fail {s : St} (h : rgt s = true) : (Fx.count s.i == 0) = s.f := by rw [(rgt_bd h).2.2.2.1, (count_bd (rgt_bd h).1).2.2]
theorem prs_no {n : Int} (h : isw n = false) : prs n = zer ∧ pre n = 3 := by unfold prs pre; rw [h]; exact ⟨rfl, rfl⟩
theorem pre_yes {n : Int} (h : isw n = true) : pre n = 0 := by unfold pre; rw [h]; rfl
theorem wdv_yes {p : St} (h : rgt p = true) : wdv p = wrd p := by unfold wdv; rw [h]; rfl
theorem wde_yes {p : St} (h : rgt p = true) : wde p = 0 := by unfold wde; rw [h]; rfl
theorem wdv_no {p : St} (h : rgt p = false) : wdv p = 0 := by unfold wdv; rw [h]; rfl
theorem wde_no {p : St} (h : rgt p = false) : wde p = 1 := by unfold wde; rw [h]; rfl

set_option maxRecDepth 100000 in
set_option maxHeartbeats 3200000 in
theorem back_no_no (s : St) (n : Int) (w : World) (hn : (Lit.int .i64 n).wf = true) (hT : TabAt w) (hs : rgt s = false) (hi : isw n = false) :
    Calls Tryd.prog 4 #[stv s, .int .i64 n] w fun e w' => e = .returned (.bool true) ∧ Below w.heap.size w w' := by
  have R0 := Lib.hid (box_new w s 23)
  have B0 := Lib.hid ((Below.refl w.heap.size w).alloc (Nat.le_refl _) (.cells #[.int .i64 s.i, .int .i64 s.l, .int .i64 s.s, .bool s.f] 23))
  have HT := Lib.hid hT
  have CA := fun W h => alive_any W h
  have C1 := fun W => word_any s W
  rw [wdv_no hs, wde_no hs] at C1
  have CR := fun W => right_any s W
  rw [hs] at CR
  have C3 := fun W => parse_any n W hn
  unfold RetP at C3
  rw [(prs_no hi).1, (prs_no hi).2] at C3
  clear hT hn hs hi
  dsimp only [stv, zer] at *
  go_enter Tryd.func4, Tryd.ntmps4
  go_wp2_with fail
  refine (C1 _).mono ?_; rintro e w1 ⟨rfl, b⟩
  have B1 := Lib.hid (grow B0.out b)
  have R1 := Lib.hid (onB R0.out b)
  clear b C1 B0 R0
  obtain ⟨c0, c1, c2, c3⟩ := st_cells R1.out
  go_wp2_with fail
  refine (CR _).mono ?_; rintro e w2 ⟨rfl, b⟩
  have B2 := Lib.hid (grow B1.out b)
  clear b CR B1 R1 c0 c1 c2 c3
  go_wp2_with fail
  refine (C3 _).mono ?_; rintro e w3 ⟨rfl, b⟩
  have B3 := Lib.hid (grow B2.out b)
  clear b C3 B2
  go_wp2_with (((with_reducible show wpList _ _ _ (⟨none, .store _ (.tmp 9) _, _, _, _, _⟩ :: _) _ _); refine VB.store rfl _ _ rfl w3.heap.size (str zer) rfl rfl (VRow.new w3 (str zer) _) sizeS rfl (str_one zer) ?_; have BA := Lib.hid (lay_below B3.out zer); have RA := Lib.hid (lay_new w3 zer); generalize (w3.alloc zob).setRow w3.heap.size (str zer).toArray = WA at *; clear B3))
  refine (CA _ (HT.out.below BA.out)).mono ?_; rintro e w9 ⟨rfl, b⟩
  have B9 := Lib.hid (grow BA.out b)
  have R9 := Lib.hid (onB RA.out b)
  clear b CA BA RA
  obtain ⟨c0, c1, c2, c3⟩ := st_cells R9.out
  unfold zer at c0 c1 c2 c3
  dsimp only at c0 c1 c2 c3
  go_wp2
  go_ret
  exact ⟨rfl, B9.out⟩

set_option maxRecDepth 100000 in
set_option maxHeartbeats 3200000 in
theorem back_no_yes (s : St) (n : Int) (w : World) (hn : (Lit.int .i64 n).wf = true) (hT : TabAt w) (hs : rgt s = false) (hi : isw n = true) :
    Calls Tryd.prog 4 #[stv s, .int .i64 n] w fun e w' => e = .returned (.bool true) ∧ Below w.heap.size w w' := by
  have R0 := Lib.hid (box_new w s 23)
  have B0 := Lib.hid ((Below.refl w.heap.size w).alloc (Nat.le_refl _) (.cells #[.int .i64 s.i, .int .i64 s.l, .int .i64 s.s, .bool s.f] 23))
  have HT := Lib.hid hT
  have CA := fun W h => alive_any W h
  have C1 := fun W => word_any s W
  rw [wdv_no hs, wde_no hs] at C1
  have CR := fun W => right_any s W
  rw [hs] at CR
  have C3 := fun W => parse_any n W hn
  unfold RetP at C3
  rw [pre_yes hi] at C3
  obtain ⟨rp, wp⟩ := rgt_prs hi
  generalize prs n = p at *
  have D1 := fun W => word_any p W
  rw [wdv_yes rp, wde_yes rp, wp] at D1
  have D2 := fun W => Fx.count_any p.i W
  have D3 := fun W h => mode_any p W h
  rw [mds_yes rp] at D3
  have D4 := fun W => Fx.has_any p.i p.s W
  have g1 := count_fail rp
  have g2 := str_hold rp
  have HS := Lib.hid (rgt_bd rp).2.2.2.2
  generalize Fx.count p.i = cn at *
  generalize (⟨(md p.i).toArray⟩ : ByteArray) = x3 at *
  clear hT hn hs hi rp wp
  unfold stv at *
  obtain ⟨pi, pl, pq, pf⟩ := p
  dsimp only at *
  by_cases hq : pq = -1
  · subst hq
    go_enter Tryd.func4, Tryd.ntmps4
    go_wp2_with fail
    refine (C1 _).mono ?_; rintro e w1 ⟨rfl, b⟩
    have B1 := Lib.hid (grow B0.out b)
    have R1 := Lib.hid (onB R0.out b)
    clear b C1 B0 R0
    obtain ⟨c0, c1, c2, c3⟩ := st_cells R1.out
    go_wp2_with fail
    refine (CR _).mono ?_; rintro e w2 ⟨rfl, b⟩
    have B2 := Lib.hid (grow B1.out b)
    clear b CR B1 R1 c0 c1 c2 c3
    go_wp2_with fail
    refine (C3 _).mono ?_; rintro e w3 ⟨rfl, b⟩
    have B3 := Lib.hid (grow B2.out b)
    clear b C3 B2
    go_wp2_with (((with_reducible show wpList _ _ _ (⟨none, .store _ (.tmp 9) _, _, _, _, _⟩ :: _) _ _); refine VB.store rfl _ _ rfl w3.heap.size (str ⟨pi, pl, -1, pf⟩) rfl rfl (VRow.new w3 (str zer) _) sizeS rfl (str_one _) ?_; have BA := Lib.hid (lay_below B3.out ⟨pi, pl, -1, pf⟩); have RA := Lib.hid (lay_new w3 ⟨pi, pl, -1, pf⟩); generalize (w3.alloc zob).setRow w3.heap.size (str ⟨pi, pl, -1, pf⟩).toArray = WA at *; obtain ⟨c0, c1, c2, c3⟩ := st_cells RA.out; clear B3))
    refine (D1 _).mono ?_; rintro e w9 ⟨rfl, b⟩
    have B9 := Lib.hid (grow BA.out b)
    have R9 := Lib.hid (onB RA.out b)
    clear b D1 BA RA c0 c1 c2 c3
    go_wp2_with fail
    have TM := HT.out.below B9.out
    obtain ⟨c0, c1, c2, c3⟩ := st_cells R9.out
    replace c0 := cell_regrown c0
    replace c1 := cell_regrown c1
    replace c2 := cell_regrown c2
    replace c3 := cell_regrown c3
    have cA := reg_call (w := w9) (fun W h => CA W (TM.below h))
    have cM := reg_call (w := w9) (fun W h => D3 W (TM.below h))
    have cC := reg_call (w := w9) (fun W _ => (D2 W).mono fun e w' q => ⟨q.1, by rw [← q.2]; exact Below.refl _ _⟩)
    have cH := reg_call (w := w9) (fun W _ => (D4 W).mono fun e w' q => ⟨q.1, by rw [← q.2]; exact Below.refl _ _⟩)
    clear CA D2 D3 D4 TM
    refine wp_region_quiet_below (by kernel_rfl) (by kernel_rfl) ?_
    repeat (go_big_quiet_step (first | exact cA _ _ | exact cM _ _ | exact cC _ _ | exact cH _ _))
    refine wpQuiet_nil ?_
    intro _ hw'
    obtain ⟨⟨dq, osq⟩, hw''⟩ := hw'
    subst hw''
    go_wp2
    go_ret
    exact ⟨rfl, grow B9.out (below_regrown w9 dq osq)⟩
  · have d1 : (pq == -1) = false := by simpa using hq
    have eH : Fx.has pi pq = true := by rcases HS.out with e | e
                                        · exact absurd e hq
                                        · exact e
    rw [eH] at D4
    clear hq eH
    go_enter Tryd.func4, Tryd.ntmps4
    go_wp2_with fail
    refine (C1 _).mono ?_; rintro e w1 ⟨rfl, b⟩
    have B1 := Lib.hid (grow B0.out b)
    have R1 := Lib.hid (onB R0.out b)
    clear b C1 B0 R0
    obtain ⟨c0, c1, c2, c3⟩ := st_cells R1.out
    go_wp2_with fail
    refine (CR _).mono ?_; rintro e w2 ⟨rfl, b⟩
    have B2 := Lib.hid (grow B1.out b)
    clear b CR B1 R1 c0 c1 c2 c3
    go_wp2_with fail
    refine (C3 _).mono ?_; rintro e w3 ⟨rfl, b⟩
    have B3 := Lib.hid (grow B2.out b)
    clear b C3 B2
    go_wp2_with (((with_reducible show wpList _ _ _ (⟨none, .store _ (.tmp 9) _, _, _, _, _⟩ :: _) _ _); refine VB.store rfl _ _ rfl w3.heap.size (str ⟨pi, pl, pq, pf⟩) rfl rfl (VRow.new w3 (str zer) _) sizeS rfl (str_one _) ?_; have BA := Lib.hid (lay_below B3.out ⟨pi, pl, pq, pf⟩); have RA := Lib.hid (lay_new w3 ⟨pi, pl, pq, pf⟩); generalize (w3.alloc zob).setRow w3.heap.size (str ⟨pi, pl, pq, pf⟩).toArray = WA at *; obtain ⟨c0, c1, c2, c3⟩ := st_cells RA.out; clear B3))
    refine (D1 _).mono ?_; rintro e w9 ⟨rfl, b⟩
    have B9 := Lib.hid (grow BA.out b)
    have R9 := Lib.hid (onB RA.out b)
    clear b D1 BA RA c0 c1 c2 c3
    go_wp2_with fail
    have TM := HT.out.below B9.out
    obtain ⟨c0, c1, c2, c3⟩ := st_cells R9.out
    replace c0 := cell_regrown c0
    replace c1 := cell_regrown c1
    replace c2 := cell_regrown c2
    replace c3 := cell_regrown c3
    have cA := reg_call (w := w9) (fun W h => CA W (TM.below h))
    have cM := reg_call (w := w9) (fun W h => D3 W (TM.below h))
    have cC := reg_call (w := w9) (fun W _ => (D2 W).mono fun e w' q => ⟨q.1, by rw [← q.2]; exact Below.refl _ _⟩)
    have cH := reg_call (w := w9) (fun W _ => (D4 W).mono fun e w' q => ⟨q.1, by rw [← q.2]; exact Below.refl _ _⟩)
    clear CA D2 D3 D4 TM
    refine wp_region_quiet_below (by kernel_rfl) (by kernel_rfl) ?_
    repeat (go_big_quiet_step (first | exact cA _ _ | exact cM _ _ | exact cC _ _ | exact cH _ _))
    refine wpQuiet_nil ?_
    intro _ hw'
    obtain ⟨⟨dq, osq⟩, hw''⟩ := hw'
    subst hw''
    go_wp2
    go_ret
    exact ⟨rfl, grow B9.out (below_regrown w9 dq osq)⟩

set_option maxRecDepth 100000 in
set_option maxHeartbeats 3200000 in
theorem back_yes_no (s : St) (n : Int) (w : World) (hn : (Lit.int .i64 n).wf = true) (hT : TabAt w) (hs : rgt s = true) (hi : isw n = false) :
    Calls Tryd.prog 4 #[stv s, .int .i64 n] w fun e w' => e = .returned (.bool true) ∧ Below w.heap.size w w' := by
  have R0 := Lib.hid (box_new w s 23)
  have B0 := Lib.hid ((Below.refl w.heap.size w).alloc (Nat.le_refl _) (.cells #[.int .i64 s.i, .int .i64 s.l, .int .i64 s.s, .bool s.f] 23))
  have HT := Lib.hid hT
  have CA := fun W h => alive_any W h
  have CP0 := fun W => parse_any (wrd s) W (wrd_wf hs)
  have C1 := fun W => word_any s W
  rw [wdv_yes hs, wde_yes hs] at C1
  have CR := fun W => right_any s W
  rw [hs] at CR
  have CP := CP0
  unfold RetP at CP
  rw [prs_wrd hs, pre_wrd hs] at CP
  clear CP0
  have P2 := fun W => put2_word hs W
  have CM := fun W h => mode_any s W h
  rw [mds_yes hs] at CM
  have CT := fun W h => text_any s W h
  have m1 := str_ne (md_some hs)
  have m2 := str_ne (txs_some hs)
  generalize (⟨(md s.i).toArray⟩ : ByteArray) = x1 at *
  generalize (⟨(txs s).toArray⟩ : ByteArray) = x2 at *
  generalize wrd s = v at *
  have C3 := fun W => parse_any n W hn
  unfold RetP at C3
  rw [(prs_no hi).1, (prs_no hi).2] at C3
  clear hT hn hs hi
  dsimp only [stv, zer] at *
  go_enter Tryd.func4, Tryd.ntmps4
  go_wp2_with fail
  refine (C1 _).mono ?_; rintro e w1 ⟨rfl, b⟩
  have B1 := Lib.hid (grow B0.out b)
  have R1 := Lib.hid (onB R0.out b)
  clear b C1 B0 R0
  obtain ⟨c0, c1, c2, c3⟩ := st_cells R1.out
  go_wp2_with fail
  refine (CR _).mono ?_; rintro e w2 ⟨rfl, b⟩
  have B2 := Lib.hid (grow B1.out b)
  have R2 := Lib.hid (onB R1.out b)
  clear b CR B1 R1 c0 c1 c2 c3
  go_wp2_with fail
  refine (CP _).mono ?_; rintro e w4 ⟨rfl, b⟩
  have B4 := Lib.hid (grow B2.out b)
  have R4 := Lib.hid (onB R2.out b)
  clear b CP B2 R2
  go_wp2_with (((with_reducible show wpList _ _ _ (⟨none, .store _ (.tmp 7) _, _, _, _, _⟩ :: _) _ _); refine VB.store rfl _ _ rfl w4.heap.size (str s) rfl rfl (VRow.new w4 (str zer) _) sizeS rfl (str_one s) ?_; have B5 := Lib.hid (lay_below B4.out s); have R5 := Lib.hid (lay_keep R4.out s); have S5 := Lib.hid (lay_new w4 s); generalize (w4.alloc zob).setRow w4.heap.size (str s).toArray = W5 at *; obtain ⟨c0, c1, c2, c3⟩ := st_cells R5.out; obtain ⟨p0, p1, p2, p3⟩ := st_cells S5.out; clear B4 R4))
  refine (P2 _).mono ?_; rintro e w6 ⟨ap, cp, rfl, b⟩
  have B6 := Lib.hid (grow B5.out b)
  have R6 := Lib.hid (onB R5.out b)
  clear b P2 B5 R5 S5 c0 c1 c2 c3 p0 p1 p2 p3
  obtain ⟨c0, c1, c2, c3⟩ := st_cells R6.out
  go_wp2_with fail
  refine (CM _ (HT.out.below B6.out)).mono ?_; rintro e w7 ⟨rfl, b⟩
  have B7 := Lib.hid (grow B6.out b)
  have R7 := Lib.hid (onB R6.out b)
  clear b CM B6 R6 c0 c1 c2 c3
  obtain ⟨c0, c1, c2, c3⟩ := st_cells R7.out
  go_wp2_with fail
  refine (CT _ (HT.out.below B7.out)).mono ?_; rintro e w8 ⟨rfl, b⟩
  have B8 := Lib.hid (grow B7.out b)
  clear b CT B7 R7 c0 c1 c2 c3
  go_wp2_with fail
  refine (C3 _).mono ?_; rintro e w3 ⟨rfl, b⟩
  have B3 := Lib.hid (grow B8.out b)
  clear b C3 B8
  go_wp2_with (((with_reducible show wpList _ _ _ (⟨none, .store _ (.tmp 9) _, _, _, _, _⟩ :: _) _ _); refine VB.store rfl _ _ rfl w3.heap.size (str zer) rfl rfl (VRow.new w3 (str zer) _) sizeS rfl (str_one zer) ?_; have BA := Lib.hid (lay_below B3.out zer); have RA := Lib.hid (lay_new w3 zer); generalize (w3.alloc zob).setRow w3.heap.size (str zer).toArray = WA at *; clear B3))
  refine (CA _ (HT.out.below BA.out)).mono ?_; rintro e w9 ⟨rfl, b⟩
  have B9 := Lib.hid (grow BA.out b)
  have R9 := Lib.hid (onB RA.out b)
  clear b CA BA RA
  obtain ⟨c0, c1, c2, c3⟩ := st_cells R9.out
  unfold zer at c0 c1 c2 c3
  dsimp only at c0 c1 c2 c3
  go_wp2
  go_ret
  exact ⟨rfl, B9.out⟩

set_option maxRecDepth 100000 in
set_option maxHeartbeats 3200000 in
theorem back_yes_yes (s : St) (n : Int) (w : World) (hn : (Lit.int .i64 n).wf = true) (hT : TabAt w) (hs : rgt s = true) (hi : isw n = true) :
    Calls Tryd.prog 4 #[stv s, .int .i64 n] w fun e w' => e = .returned (.bool true) ∧ Below w.heap.size w w' := by
  have R0 := Lib.hid (box_new w s 23)
  have B0 := Lib.hid ((Below.refl w.heap.size w).alloc (Nat.le_refl _) (.cells #[.int .i64 s.i, .int .i64 s.l, .int .i64 s.s, .bool s.f] 23))
  have HT := Lib.hid hT
  have CA := fun W h => alive_any W h
  have CP0 := fun W => parse_any (wrd s) W (wrd_wf hs)
  have C1 := fun W => word_any s W
  rw [wdv_yes hs, wde_yes hs] at C1
  have CR := fun W => right_any s W
  rw [hs] at CR
  have CP := CP0
  unfold RetP at CP
  rw [prs_wrd hs, pre_wrd hs] at CP
  clear CP0
  have P2 := fun W => put2_word hs W
  have CM := fun W h => mode_any s W h
  rw [mds_yes hs] at CM
  have CT := fun W h => text_any s W h
  have m1 := str_ne (md_some hs)
  have m2 := str_ne (txs_some hs)
  generalize (⟨(md s.i).toArray⟩ : ByteArray) = x1 at *
  generalize (⟨(txs s).toArray⟩ : ByteArray) = x2 at *
  generalize wrd s = v at *
  have C3 := fun W => parse_any n W hn
  unfold RetP at C3
  rw [pre_yes hi] at C3
  obtain ⟨rp, wp⟩ := rgt_prs hi
  generalize prs n = p at *
  have D1 := fun W => word_any p W
  rw [wdv_yes rp, wde_yes rp, wp] at D1
  have D2 := fun W => Fx.count_any p.i W
  have D3 := fun W h => mode_any p W h
  rw [mds_yes rp] at D3
  have D4 := fun W => Fx.has_any p.i p.s W
  have g1 := count_fail rp
  have g2 := str_hold rp
  have HS := Lib.hid (rgt_bd rp).2.2.2.2
  generalize Fx.count p.i = cn at *
  generalize (⟨(md p.i).toArray⟩ : ByteArray) = x3 at *
  clear hT hn hs hi rp wp
  unfold stv at *
  obtain ⟨pi, pl, pq, pf⟩ := p
  dsimp only at *
  by_cases hq : pq = -1
  · subst hq
    go_enter Tryd.func4, Tryd.ntmps4
    go_wp2_with fail
    refine (C1 _).mono ?_; rintro e w1 ⟨rfl, b⟩
    have B1 := Lib.hid (grow B0.out b)
    have R1 := Lib.hid (onB R0.out b)
    clear b C1 B0 R0
    obtain ⟨c0, c1, c2, c3⟩ := st_cells R1.out
    go_wp2_with fail
    refine (CR _).mono ?_; rintro e w2 ⟨rfl, b⟩
    have B2 := Lib.hid (grow B1.out b)
    have R2 := Lib.hid (onB R1.out b)
    clear b CR B1 R1 c0 c1 c2 c3
    go_wp2_with fail
    refine (CP _).mono ?_; rintro e w4 ⟨rfl, b⟩
    have B4 := Lib.hid (grow B2.out b)
    have R4 := Lib.hid (onB R2.out b)
    clear b CP B2 R2
    go_wp2_with (((with_reducible show wpList _ _ _ (⟨none, .store _ (.tmp 7) _, _, _, _, _⟩ :: _) _ _); refine VB.store rfl _ _ rfl w4.heap.size (str s) rfl rfl (VRow.new w4 (str zer) _) sizeS rfl (str_one s) ?_; have B5 := Lib.hid (lay_below B4.out s); have R5 := Lib.hid (lay_keep R4.out s); have S5 := Lib.hid (lay_new w4 s); generalize (w4.alloc zob).setRow w4.heap.size (str s).toArray = W5 at *; obtain ⟨c0, c1, c2, c3⟩ := st_cells R5.out; obtain ⟨p0, p1, p2, p3⟩ := st_cells S5.out; clear B4 R4))
    refine (P2 _).mono ?_; rintro e w6 ⟨ap, cp, rfl, b⟩
    have B6 := Lib.hid (grow B5.out b)
    have R6 := Lib.hid (onB R5.out b)
    clear b P2 B5 R5 S5 c0 c1 c2 c3 p0 p1 p2 p3
    obtain ⟨c0, c1, c2, c3⟩ := st_cells R6.out
    go_wp2_with fail
    refine (CM _ (HT.out.below B6.out)).mono ?_; rintro e w7 ⟨rfl, b⟩
    have B7 := Lib.hid (grow B6.out b)
    have R7 := Lib.hid (onB R6.out b)
    clear b CM B6 R6 c0 c1 c2 c3
    obtain ⟨c0, c1, c2, c3⟩ := st_cells R7.out
    go_wp2_with fail
    refine (CT _ (HT.out.below B7.out)).mono ?_; rintro e w8 ⟨rfl, b⟩
    have B8 := Lib.hid (grow B7.out b)
    clear b CT B7 R7 c0 c1 c2 c3
    go_wp2_with fail
    refine (C3 _).mono ?_; rintro e w3 ⟨rfl, b⟩
    have B3 := Lib.hid (grow B8.out b)
    clear b C3 B8
    go_wp2_with (((with_reducible show wpList _ _ _ (⟨none, .store _ (.tmp 9) _, _, _, _, _⟩ :: _) _ _); refine VB.store rfl _ _ rfl w3.heap.size (str ⟨pi, pl, -1, pf⟩) rfl rfl (VRow.new w3 (str zer) _) sizeS rfl (str_one _) ?_; have BA := Lib.hid (lay_below B3.out ⟨pi, pl, -1, pf⟩); have RA := Lib.hid (lay_new w3 ⟨pi, pl, -1, pf⟩); generalize (w3.alloc zob).setRow w3.heap.size (str ⟨pi, pl, -1, pf⟩).toArray = WA at *; obtain ⟨c0, c1, c2, c3⟩ := st_cells RA.out; clear B3))
    refine (D1 _).mono ?_; rintro e w9 ⟨rfl, b⟩
    have B9 := Lib.hid (grow BA.out b)
    have R9 := Lib.hid (onB RA.out b)
    clear b D1 BA RA c0 c1 c2 c3
    go_wp2_with fail
    have TM := HT.out.below B9.out
    obtain ⟨c0, c1, c2, c3⟩ := st_cells R9.out
    replace c0 := cell_regrown c0
    replace c1 := cell_regrown c1
    replace c2 := cell_regrown c2
    replace c3 := cell_regrown c3
    have cA := reg_call (w := w9) (fun W h => CA W (TM.below h))
    have cM := reg_call (w := w9) (fun W h => D3 W (TM.below h))
    have cC := reg_call (w := w9) (fun W _ => (D2 W).mono fun e w' q => ⟨q.1, by rw [← q.2]; exact Below.refl _ _⟩)
    have cH := reg_call (w := w9) (fun W _ => (D4 W).mono fun e w' q => ⟨q.1, by rw [← q.2]; exact Below.refl _ _⟩)
    clear CA D2 D3 D4 TM
    refine wp_region_quiet_below (by kernel_rfl) (by kernel_rfl) ?_
    repeat (go_big_quiet_step (first | exact cA _ _ | exact cM _ _ | exact cC _ _ | exact cH _ _))
    refine wpQuiet_nil ?_
    intro _ hw'
    obtain ⟨⟨dq, osq⟩, hw''⟩ := hw'
    subst hw''
    go_wp2
    go_ret
    exact ⟨rfl, grow B9.out (below_regrown w9 dq osq)⟩
  · have d1 : (pq == -1) = false := by simpa using hq
    have eH : Fx.has pi pq = true := by rcases HS.out with e | e
                                        · exact absurd e hq
                                        · exact e
    rw [eH] at D4
    clear hq eH
    go_enter Tryd.func4, Tryd.ntmps4
    go_wp2_with fail
    refine (C1 _).mono ?_; rintro e w1 ⟨rfl, b⟩
    have B1 := Lib.hid (grow B0.out b)
    have R1 := Lib.hid (onB R0.out b)
    clear b C1 B0 R0
    obtain ⟨c0, c1, c2, c3⟩ := st_cells R1.out
    go_wp2_with fail
    refine (CR _).mono ?_; rintro e w2 ⟨rfl, b⟩
    have B2 := Lib.hid (grow B1.out b)
    have R2 := Lib.hid (onB R1.out b)
    clear b CR B1 R1 c0 c1 c2 c3
    go_wp2_with fail
    refine (CP _).mono ?_; rintro e w4 ⟨rfl, b⟩
    have B4 := Lib.hid (grow B2.out b)
    have R4 := Lib.hid (onB R2.out b)
    clear b CP B2 R2
    go_wp2_with (((with_reducible show wpList _ _ _ (⟨none, .store _ (.tmp 7) _, _, _, _, _⟩ :: _) _ _); refine VB.store rfl _ _ rfl w4.heap.size (str s) rfl rfl (VRow.new w4 (str zer) _) sizeS rfl (str_one s) ?_; have B5 := Lib.hid (lay_below B4.out s); have R5 := Lib.hid (lay_keep R4.out s); have S5 := Lib.hid (lay_new w4 s); generalize (w4.alloc zob).setRow w4.heap.size (str s).toArray = W5 at *; obtain ⟨c0, c1, c2, c3⟩ := st_cells R5.out; obtain ⟨p0, p1, p2, p3⟩ := st_cells S5.out; clear B4 R4))
    refine (P2 _).mono ?_; rintro e w6 ⟨ap, cp, rfl, b⟩
    have B6 := Lib.hid (grow B5.out b)
    have R6 := Lib.hid (onB R5.out b)
    clear b P2 B5 R5 S5 c0 c1 c2 c3 p0 p1 p2 p3
    obtain ⟨c0, c1, c2, c3⟩ := st_cells R6.out
    go_wp2_with fail
    refine (CM _ (HT.out.below B6.out)).mono ?_; rintro e w7 ⟨rfl, b⟩
    have B7 := Lib.hid (grow B6.out b)
    have R7 := Lib.hid (onB R6.out b)
    clear b CM B6 R6 c0 c1 c2 c3
    obtain ⟨c0, c1, c2, c3⟩ := st_cells R7.out
    go_wp2_with fail
    refine (CT _ (HT.out.below B7.out)).mono ?_; rintro e w8 ⟨rfl, b⟩
    have B8 := Lib.hid (grow B7.out b)
    clear b CT B7 R7 c0 c1 c2 c3
    go_wp2_with fail
    refine (C3 _).mono ?_; rintro e w3 ⟨rfl, b⟩
    have B3 := Lib.hid (grow B8.out b)
    clear b C3 B8
    go_wp2_with (((with_reducible show wpList _ _ _ (⟨none, .store _ (.tmp 9) _, _, _, _, _⟩ :: _) _ _); refine VB.store rfl _ _ rfl w3.heap.size (str ⟨pi, pl, pq, pf⟩) rfl rfl (VRow.new w3 (str zer) _) sizeS rfl (str_one _) ?_; have BA := Lib.hid (lay_below B3.out ⟨pi, pl, pq, pf⟩); have RA := Lib.hid (lay_new w3 ⟨pi, pl, pq, pf⟩); generalize (w3.alloc zob).setRow w3.heap.size (str ⟨pi, pl, pq, pf⟩).toArray = WA at *; obtain ⟨c0, c1, c2, c3⟩ := st_cells RA.out; clear B3))
    refine (D1 _).mono ?_; rintro e w9 ⟨rfl, b⟩
    have B9 := Lib.hid (grow BA.out b)
    have R9 := Lib.hid (onB RA.out b)
    clear b D1 BA RA c0 c1 c2 c3
    go_wp2_with fail
    have TM := HT.out.below B9.out
    obtain ⟨c0, c1, c2, c3⟩ := st_cells R9.out
    replace c0 := cell_regrown c0
    replace c1 := cell_regrown c1
    replace c2 := cell_regrown c2
    replace c3 := cell_regrown c3
    have cA := reg_call (w := w9) (fun W h => CA W (TM.below h))
    have cM := reg_call (w := w9) (fun W h => D3 W (TM.below h))
    have cC := reg_call (w := w9) (fun W _ => (D2 W).mono fun e w' q => ⟨q.1, by rw [← q.2]; exact Below.refl _ _⟩)
    have cH := reg_call (w := w9) (fun W _ => (D4 W).mono fun e w' q => ⟨q.1, by rw [← q.2]; exact Below.refl _ _⟩)
    clear CA D2 D3 D4 TM
    refine wp_region_quiet_below (by kernel_rfl) (by kernel_rfl) ?_
    repeat (go_big_quiet_step (first | exact cA _ _ | exact cM _ _ | exact cC _ _ | exact cH _ _))
    refine wpQuiet_nil ?_
    intro _ hw'
    obtain ⟨⟨dq, osq⟩, hw''⟩ := hw'
    subst hw''
    go_wp2
    go_ret
    exact ⟨rfl, grow B9.out (below_regrown w9 dq osq)⟩

theorem back_any (s : St) (n : Int) (w : World) (hn : (Lit.int .i64 n).wf = true) (hT : TabAt w) :
    Calls Tryd.prog 4 #[stv s, .int .i64 n] w fun e w' => e = .returned (.bool true) ∧ Below w.heap.size w w' := by
  cases hs : rgt s <;> cases hi : isw n
  · exact back_no_no s n w hn hT hs hi
  · exact back_no_yes s n w hn hT hs hi
  · exact back_yes_no s n w hn hT hs hi
  · exact back_yes_yes s n w hn hT hs hi
end Ss.StatusBack
namespace statusBack
theorem walk (i l q : Int) (f : Bool) (n : Int) (w : World) (_ : (Lit.int .i64 i).wf = true) (_ : (Lit.int .i64 l).wf = true) (_ : (Lit.int .i64 q).wf = true) (hn : (Lit.int .i64 n).wf = true) (hT : Ss.TabAt w) :
    Calls Tryd.prog 4 #[.agg #[.int .i64 i, .int .i64 l, .int .i64 q, .bool f], .int .i64 n] w fun e w' => e = .returned (.bool true) ∧ Below w.heap.size w w' :=
  Ss.StatusBack.back_any ⟨i, l, q, f⟩ n w hn hT
end statusBack
end Go.Proofs.YtdicmpniinjbpaaDoor
