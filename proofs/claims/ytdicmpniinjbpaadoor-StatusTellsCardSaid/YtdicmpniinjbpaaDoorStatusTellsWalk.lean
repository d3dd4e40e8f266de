/-
  The walk of the law StatusTells: for every status and every number it returns true, and writes nothing that was there. Condition: the table of modes lies in memory as the text lays it.
-/
import Derived.Test.YtdicmpniinjbpaaDoorStatusAlive
import Derived.Lib.QuietBelow
namespace Go.Proofs.YtdicmpniinjbpaaDoor
open Go.ChangeShapes Go.WideShapes Go.ChangeAt Go.RowKit Go.Deep
namespace Ss.StatusTells
open Ss

set_option maxRecDepth 100000 in
set_option maxHeartbeats 3200000 in
theorem tells_any (s : St) (n : Int) (w : World) (hn : (Lit.int .i64 n).wf = true) (hT : TabAt w) :
    Calls Tryd.prog 3 #[stv s, .int .i64 n] w fun e w' => e = .returned (.bool true) ∧ Below w.heap.size w w' := by
  have C1 := fun W => word_any s W
  have C2 := fun W => rword_any s W
  have C3 := fun W => parse_any n W hn
  have C4 := fun W => rparse_any n W
  have CA := fun W h => alive_any W h
  have CR := fun W => right_any s W
  have CQ := fun W => rright_any s W
  have CM := fun W h => mode_any s W h
  have CN := fun W => rmode_any s W
  have CT := fun W h => text_any s W h
  have CU := fun W => rtext_any s W
  have R0 := Lib.hid (box_new w s 23)
  have B0 := Lib.hid ((Below.refl w.heap.size w).alloc (Nat.le_refl _) (.cells #[.int .i64 s.i, .int .i64 s.l, .int .i64 s.s, .bool s.f] 23))
  have HT := Lib.hid hT
  clear hT hn
  unfold RetP at C3 C4
  generalize wdv s = v1 at *
  generalize wde s = v2 at *
  generalize rgt s = v3 at *
  generalize mds s = v4 at *
  generalize txs s = v5 at *
  generalize pre n = v6 at *
  generalize prs n = p at *
  unfold stv at *
  go_enter Tryd.func3, Tryd.ntmps3
  go_wp2_with fail
  refine (C1 _).mono ?_; rintro e w1 ⟨rfl, b⟩
  have B1 := Lib.hid (grow B0.out b)
  have R1 := Lib.hid (onB R0.out b)
  clear b C1 B0 R0
  obtain ⟨c0, c1, c2, c3⟩ := st_cells R1.out
  go_wp2_with fail
  refine (C2 _).mono ?_; rintro e w2 ⟨rfl, b⟩
  have B2 := Lib.hid (grow B1.out b)
  have R2 := Lib.hid (onB R1.out b)
  clear b C2 B1 R1 c0 c1 c2 c3
  go_wp2_with fail
  refine (C3 _).mono ?_; rintro e w3 ⟨rfl, b⟩
  have B3 := Lib.hid (grow B2.out b)
  have R3 := Lib.hid (onB R2.out b)
  clear b C3 B2 R2
  go_wp2_with (((with_reducible show wpList _ _ _ (⟨none, .store _ (.tmp 9) _, _, _, _, _⟩ :: _) _ _); refine VB.store rfl _ _ rfl w3.heap.size (str p) rfl rfl (VRow.new w3 (str zer) _) sizeS rfl (str_one p) ?_; have B4 := Lib.hid (lay_below B3.out p); have R4 := Lib.hid (lay_keep R3.out p); have S4 := Lib.hid (lay_new w3 p); generalize (w3.alloc zob).setRow w3.heap.size (str p).toArray = W4 at *; clear B3 R3))
  refine (C4 _).mono ?_; rintro e w5 ⟨rfl, b⟩
  have B5 := Lib.hid (grow B4.out b)
  have R5 := Lib.hid (onB R4.out b)
  have S5 := Lib.hid (onB S4.out b)
  clear b C4 B4 R4 S4
  go_wp2_with (((with_reducible show wpList _ _ _ (⟨none, .store _ (.tmp 11) _, _, _, _, _⟩ :: _) _ _); refine VB.store rfl _ _ rfl w5.heap.size (str p) rfl rfl (VRow.new w5 (str zer) _) sizeS rfl (str_one p) ?_; have B6 := Lib.hid (lay_below B5.out p); have R6 := Lib.hid (lay_keep R5.out p); have S6 := Lib.hid (lay_keep S5.out p); have T6 := Lib.hid (lay_new w5 p); generalize (w5.alloc zob).setRow w5.heap.size (str p).toArray = W6 at *; clear B5 R5 S5))
  have TM := HT.out.below B6.out
  obtain ⟨c0, c1, c2, c3⟩ := st_cells R6.out
  replace c0 := cell_regrown c0
  replace c1 := cell_regrown c1
  replace c2 := cell_regrown c2
  replace c3 := cell_regrown c3
  obtain ⟨p0, p1, p2, p3⟩ := st_cells S6.out
  replace p0 := cell_regrown p0
  replace p1 := cell_regrown p1
  replace p2 := cell_regrown p2
  replace p3 := cell_regrown p3
  obtain ⟨q0, q1, q2, q3⟩ := st_cells T6.out
  replace q0 := cell_regrown q0
  replace q1 := cell_regrown q1
  replace q2 := cell_regrown q2
  replace q3 := cell_regrown q3
  have cA := reg_call (w := W6) (fun W h => CA W (TM.below h))
  have cR := reg_call (w := W6) (fun W _ => CR W)
  have cQ := reg_call (w := W6) (fun W _ => CQ W)
  have cM := reg_call (w := W6) (fun W h => CM W (TM.below h))
  have cN := reg_call (w := W6) (fun W _ => CN W)
  have cT := reg_call (w := W6) (fun W h => CT W (TM.below h))
  have cU := reg_call (w := W6) (fun W _ => CU W)
  clear CA CR CQ CM CN CT CU TM
  refine wp_region_quiet_below (by kernel_rfl) (by kernel_rfl) ?_
  repeat (go_big_quiet_step (first | exact cA _ _ | exact cR _ _ | exact cQ _ _ | exact cM _ _ | exact cN _ _ | exact cT _ _ | exact cU _ _))
  refine wpQuiet_nil ?_
  intro _ hw'
  obtain ⟨⟨dq, osq⟩, hw''⟩ := hw'
  subst hw''
  go_wp2
  go_ret
  exact ⟨rfl, grow B6.out (below_regrown W6 dq osq)⟩
end Ss.StatusTells
namespace statusTells
theorem walk (i l q : Int) (f : Bool) (n : Int) (w : World) (_ : (Lit.int .i64 i).wf = true) (_ : (Lit.int .i64 l).wf = true) (_ : (Lit.int .i64 q).wf = true) (hn : (Lit.int .i64 n).wf = true) (hT : Ss.TabAt w) :
    Calls Tryd.prog 3 #[.agg #[.int .i64 i, .int .i64 l, .int .i64 q, .bool f], .int .i64 n] w fun e w' => e = .returned (.bool true) ∧ Below w.heap.size w w' :=
  Ss.StatusTells.tells_any ⟨i, l, q, f⟩ n w hn hT
end statusTells
end Go.Proofs.YtdicmpniinjbpaaDoor
