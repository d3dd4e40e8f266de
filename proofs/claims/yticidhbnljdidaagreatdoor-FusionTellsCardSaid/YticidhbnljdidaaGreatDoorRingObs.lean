/-
 What New, Lost and Add of package ring do: contracts by walking the Go text. Conditions: where the ring lies; of Add: the table of trips lies in memory as the text lays it.
-/
import Derived.Test.YticidhbnljdidaaGreatDoorJTripWalks4
import Derived.Test.YticidhbnljdidaaGreatDoorTail
import Derived.Lib.MinMax
import Derived.Deep.MidRow
namespace Go.Proofs.YticidhbnljdidaaGreatDoor
set_option maxRecDepth 100000
open Go.ChangeShapes Go.WideShapes Go.ChangeAt Go.RowKit Go.Deep
namespace Rg
open Fx
def RingAt (w : World) (g : Nat) (l : List Nt) : Prop := IRow .i64 w g 168 (rgc l)
theorem RingAt.came {w : World} {g : Nat} {l : List Nt} (h : RingAt w g l) : w.cell? ⟨g,160,none⟩ = some (.int .i64 (l.length : Int)) := by
 have := IRow.cell h 160 (by rw [rgc_len]; omega)
 rwa [rgc_last] at this
theorem wpList_buildTo {P : Program} {ops : Array Oper} {rest : List Oper} {o : Oper} {a : Act} {w : World} {Q : Exit → Act → World → Prop} (hg : o.guard = none) (t : TypeId) (parts : Array (Nat × Operand)) (ho : o.op = .build t parts)
 (cells : Array Value) (hf : P.built t (parts.map fun (i,x) => (i,a.eval x)).toList = some cells) (h : wpList P ops Q rest (a.put o.dst (.agg cells)) w) : wpList P ops Q (o :: rest) a w :=
 wpList_build hg t parts ho (by rw [hf]; rfl) (by rw [hf]; exact h)
set_option maxRecDepth 100000 in
set_option maxHeartbeats 1600000 in
theorem new_any (w : World) :
 Calls Tryz.prog 32 #[] w fun e w' => e = .returned (.pointer (some ⟨w.heap.size,0,none⟩)) ∧ w' = w.alloc (.cells (cellsI .i64 (rgc [])).toArray 168) := by
 have HZ := Lib.hid (show (cellsI .i64 (rgc [])).toArray = (cellsI .i64 (List.replicate 161 0)).toArray by rw [rgc_nil])
 generalize (cellsI .i64 (rgc [])).toArray = z at *
 go_enter Tryz.func32,Tryz.ntmps32
 go_wp2_with ((with_reducible show wpList _ _ _ (⟨some 1,_,_,_,_,_⟩ :: _) _ _); refine wpList_buildTo rfl _ _ rfl z (by rw [HZ.out]; kernel_rfl) ?_)
 go_ret
 exact ⟨rfl,rfl⟩
set_option maxHeartbeats 800000 in
theorem lost_any (g : Nat) (l : List Nt) (w : World) (h : RingAt w g l) (hl : l.length < 1099511627776) :
 Calls Tryz.prog 59 #[.pointer (some ⟨g,0,none⟩)] w fun e w' => e = .returned (.int .i64 (lost l : Nat)) ∧ w = w' := by
 have c := h.came
 have HM := Lib.hid (show max 0 ((l.length : Int) - 32) = ((lost l : Nat) : Int) by unfold lost; omega)
 generalize lost l = q at *
 generalize l.length = m at *
 clear h
 go_enter Tryz.func59,Tryz.ntmps59
 go_wp2
 go_ret
 exact ⟨ret_int HM.out,rfl⟩
theorem ring_there {w : World} {g : Nat} {l : List Nt} (h : RingAt w g l) {m : Nat} (hm : m = 5 := by rfl) : w.there g (l.length % 32 * 5) m := fun j hj => by
 have hl := rgc_len l
 exact ⟨by rw [IRow.cell h (l.length % 32 * 5 + j) (by omega)]; rfl,IRow.frozen h _⟩
theorem ring_put {w : World} {g : Nat} {l : List Nt} (n : Nt) (h : RingAt w g l) :
 IRow .i64 (w.setCells g (l.length % 32 * 5) (ntr n).toArray.toList) g 168 (((((rgc l).set (l.length % 32 * 5) n.y).set (l.length % 32 * 5 + 1) n.c).set (l.length % 32 * 5 + 2) n.s).set (l.length % 32 * 5 + 3) n.k |>.set (l.length % 32 * 5 + 4) n.t) := by
 have h' : IRow .i64 w g 168 (rgc l) := h
 have := ((((h'.set (l.length % 32 * 5) n.y).set (l.length % 32 * 5 + 1) n.c).set (l.length % 32 * 5 + 2) n.s).set (l.length % 32 * 5 + 3) n.k).set (l.length % 32 * 5 + 4) n.t
 exact this
theorem put_only {S : Nat → Prop} {w W : World} {g : Nat} (h : But S w W) (o : Nat) (n : Nt) (hg : S g := by rfl) : But S w (W.setCells g o (ntr n).toArray.toList) := by
 have q1 := h.setCell (p := ⟨g,o,none⟩) (Or.inl hg) (.int .i64 n.y)
 have q2 := q1.setCell (p := ⟨g,o + 1,none⟩) (Or.inl hg) (.int .i64 n.c)
 have q3 := q2.setCell (p := ⟨g,o + 2,none⟩) (Or.inl hg) (.int .i64 n.s)
 have q4 := q3.setCell (p := ⟨g,o + 3,none⟩) (Or.inl hg) (.int .i64 n.k)
 have q5 := q4.setCell (p := ⟨g,o + 4,none⟩) (Or.inl hg) (.int .i64 n.t)
 exact q5
theorem five_160 (l : List Nt) (a b c d e : Int) : ((((((rgc l).set (l.length % 32 * 5) a).set (l.length % 32 * 5 + 1) b).set (l.length % 32 * 5 + 2) c).set (l.length % 32 * 5 + 3) d).set (l.length % 32 * 5 + 4) e).getD 160 0 = (l.length : Int) := by
 rw [← rgc_last]
 simp only [List.getD_eq_getElem?_getD]
 rw [List.getElem?_set_ne (by omega),List.getElem?_set_ne (by omega),List.getElem?_set_ne (by omega),List.getElem?_set_ne (by omega),List.getElem?_set_ne (by omega)]
set_option maxHeartbeats 800000 in
theorem add_yes (g : Nat) (l : List Nt) (n : Nt) (w : World) (hT : Tp.TabAt w) (h : RingAt w g l) (hl : l.length < 1099511627776) (hn : rgn n = true) :
 Calls Tryz.prog 81 #[.pointer (some ⟨g,0,none⟩),ntv n] w fun e w' => e = .returned (.int .i64 0) ∧ RingAt w' g (l ++ [n]) ∧ Only g w w' := by
 have V := Lib.hid (box_new w n 86)
 have B0 := Lib.hid ((Below.refl w.heap.size w).alloc (Nat.le_refl _) (.cells #[.int .i64 n.y,.int .i64 n.c,.int .i64 n.s,.int .i64 n.k,.int .i64 n.t] 86))
 have C := right_any n _ (hT.below B0.out)
 have HR := Lib.hid h
 have HA := Lib.hid (rgc_add l n)
 rw [hn] at C
 clear hT hn
 unfold ntv at *
 go_enter Tryz.func81,Tryz.ntmps81
 go_wp2_with (go_at_call 124; refine C.mono ?_; rintro e w1 ⟨rfl,b1⟩; have B1 := Lib.hid (grow B0.out b1); have V1 := Lib.hid (onB V.out b1); have R1 := Lib.hid (onI HR.out B1.out); clear b1)
 obtain ⟨c0,c1,c2,c3,c4⟩ := nt_cells V1.out
 have c160 := RingAt.came (show RingAt w1 g l from R1.out)
 have R2 := Lib.hid (ring_put n (show RingAt w1.drew g l from R1.out))
 have HT := Lib.hid (ring_there (show RingAt w1.drew g l from R1.out))
 have O2 := Lib.hid (put_only (show But (· = g) w w1.drew from (But.of_below B1.out).drew) (l.length % 32 * 5) n)
 have hmod : l.length % 32 < 32 := by omega
 clear HR
 refine Tail.wp_region_quiet_tail 10 (by kernel_rfl) (by kernel_rfl) ?_
 simp only [List.take_succ_cons,List.take_zero,List.drop_succ_cons,List.drop_zero]
 repeat (go_big_quiet_step (fail))
 refine wpQuiet_nil ?_
 refine wpList_store_mid rfl _ _ _ rfl g (l.length % 32 * 5) (ntr n).toArray rfl rfl HT.out sizeN (ntr_one n) ?_
 generalize w1.drew.setCells g (l.length % 32 * 5) (ntr n).toArray.toList = W2 at *
 have c2 := R2.out.cell 160 (by simp only [List.length_set,rgc_len]; omega)
 rw [five_160] at c2
 have f2 := R2.out.frozen 160
 have r3 := R2.out.set 160 ((l.length : Int) + 1)
 rw [HA.out] at r3
 have R3 := Lib.hid (show RingAt (W2.setCell ⟨g,160,none⟩ (.int .i64 ((l.length : Int) + 1))) g (l ++ [n]) from r3)
 clear r3
 have O3 := Lib.hid (O2.out.setCell (p := ⟨g,160,none⟩) (Or.inl rfl) (.int .i64 ((l.length : Int) + 1)))
 clear c0 c1 c3 c4 c160 R1 V1 B1
 go_wp2
 go_ret
 exact ⟨rfl,R3.out,O3.out⟩
end Rg
end Go.Proofs.YticidhbnljdidaaGreatDoor
