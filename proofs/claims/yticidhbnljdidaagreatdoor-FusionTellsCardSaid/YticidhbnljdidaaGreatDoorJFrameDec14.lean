/-
 What Decode of package frame does: its contract by walking the Go text. Conditions: where the bytes lie.
 What PutAll of package word returns: a contract by walking the Go text (a range over the iterator fours). Conditions: where the numbers lie, and how many they are.
 What Encode of package frame does: its contract by walking the Go text. No conditions.
 The live question of layer 5 is answered with true: a contract by walking the Go text. Its condition: that the table of names holds the names.
 What Right of rudderref05 does: its contract by walking the Go text. No conditions.
 What the document's own answers for layer 3 (package rudderref03: cross, More, Sum, Same) return: contracts by walking the Go text. No conditions beyond the numbers' kinds and where the bytes lie.
 What the document's own answers for layer 3 (package rudderref03: More, Sum, Same) return: contracts by walking the Go text. No conditions beyond where the bytes lie.
 What the document's own answers for layer 3 (package rudderref03: Seal, Open) return, for at most 1000000 bytes: contracts by walking the Go text. Their conditions: where the bytes lie, and that they are so few.
 What the document's own answers for layer 4 (package rudderref04) return: contracts by walking the Go text. No conditions beyond where the bytes lie, and how many they are.
 What Encode of rudderref05 does: its contract by walking the Go text. No conditions.
 What Decode of rudderref05 does, where the head rejects: its contract by walking the Go text. Conditions: where the bytes lie.
 What Decode of rudderref05 does: its contract by walking the Go text. Conditions: where the bytes lie.
 The walk of the law FrameTells: for every channel, every frame and every slot it returns true, and writes nothing that was there. Its condition: that the table of names holds the names.
 What judge of package fresh does: its contract by walking the Go text. Conditions: where the track and the bytes lie.
-/
import Derived.Test.YticidhbnljdidaaGreatDoorJWordFours3
import Derived.Test.YticidhbnljdidaaGreatDoorJCrcStep4
import Derived.Test.YticidhbnljdidaaGreatDoorJWordMath6
import Derived.Test.YticidhbnljdidaaGreatDoorJOpen2
import Derived.Deep.LoopGhost
import Derived.Deep.QuietTactic
import Derived.BigQuiet
import Derived.IntWalk
import Derived.WalkSmall
import Derived.Test.YticidhbnljdidaaGreatDoorJAgg8
import Derived.Laws.BitsAll
import Derived.Deep.RegionWith
import Derived.Deep.DeepCutAuto
import Derived.Deep.RegionHeld
namespace Go.Proofs.YticidhbnljdidaaGreatDoor
set_option maxRecDepth 100000
open Go.ChangeShapes Go.WideShapes Go.ChangeAt Go.RowKit Go.Deep
namespace Fm
open Wd
open Cr (Bytes opens opened opened_yes opened_no)
def RetFR (w : World) (l : List Int) (r : Int) (e : Ending) (w' : World) : Prop :=
 e = .returned (.tuple #[.agg (cellsI .i64 l).toArray,.int .i64 r]) ∧ Below w.heap.size w w'
theorem fseq_take (l : List Int) : get2v (((l.take 36).drop 2).take 2) = fseq l := by
 unfold fseq; rw [List.drop_take,List.take_take]; rfl
theorem fvals_take (l : List Int) : nums ((l.take 36).drop 4) = fvals l := by
 unfold fvals; rw [List.drop_take]
theorem intsAt_some {k : IntKind} {w : World} {a : Option Addr} {l : List Int} (h : IntsAt k w a l) (hp : 0 < l.length) : ∃ b off,a = some ⟨b,off,none⟩ ∧ IntsAt k w (some ⟨b,off,none⟩) l := by
 rcases h with rfl | ⟨b,off,rfl,hc⟩
 · simp at hp
 · exact ⟨b,off,rfl,Or.inr ⟨b,off,rfl,hc⟩⟩
theorem dec_start (w : World) (x : Value) (v : Value) : IRow .i64 ((w.alloc (.cells #[x,v] 45)).alloc (.cells #[.int .i64 0,.int .i64 0,.int .i64 0,.int .i64 0,.int .i64 0,.int .i64 0,.int .i64 0,.int .i64 0,.int .i64 0] 123)) (w.heap.size + 1) 123 (List.replicate 9 0) ∧
 ((w.alloc (.cells #[x,v] 45)).alloc (.cells #[.int .i64 0,.int .i64 0,.int .i64 0,.int .i64 0,.int .i64 0,.int .i64 0,.int .i64 0,.int .i64 0,.int .i64 0] 123)).cell? ⟨w.heap.size,1,none⟩ = some v ∧
 ((w.alloc (.cells #[x,v] 45)).alloc (.cells #[.int .i64 0,.int .i64 0,.int .i64 0,.int .i64 0,.int .i64 0,.int .i64 0,.int .i64 0,.int .i64 0,.int .i64 0] 123)).heap.size = w.heap.size + 2 ∧
 Below w.heap.size w ((w.alloc (.cells #[x,v] 45)).alloc (.cells #[.int .i64 0,.int .i64 0,.int .i64 0,.int .i64 0,.int .i64 0,.int .i64 0,.int .i64 0,.int .i64 0,.int .i64 0] 123)) := by
 refine ⟨?_,?_,by simp,((Below.refl w.heap.size w).alloc (Nat.le_refl _) _).alloc (by simp) _⟩
 · have := heap_alloc_new (w.alloc (.cells #[x,v] 45)) (.cells #[.int .i64 0,.int .i64 0,.int .i64 0,.int .i64 0,.int .i64 0,.int .i64 0,.int .i64 0,.int .i64 0,.int .i64 0] 123)
   rw [show (w.alloc (.cells #[x,v] 45)).heap.size = w.heap.size + 1 by simp] at this
   exact this
 · rw [((Below.refl _ (w.alloc (.cells #[x,v] 45))).alloc (Nat.le_refl _) (.cells #[.int .i64 0,.int .i64 0,.int .i64 0,.int .i64 0,.int .i64 0,.int .i64 0,.int .i64 0,.int .i64 0,.int .i64 0] 123)).cell (p := ⟨w.heap.size,1,none⟩) (by simp)]
   rw [cell_of_row _ _ 1 _ _ (0,0) (heap_alloc_new w _)]; rfl
section
variable (c : Int) (is : Bool) (a : Option Addr) (cap : Nat) (l : List Int) (w : World)
set_option maxHeartbeats 800000 in
theorem dec_head_any (hy : Bytes l) (hb : IntsAt .u8 w a l) (h : hrej c is l ≠ 0) :
 Calls Tryz.prog 175 #[.int .i64 c,.agg #[.bool is,.slice a l.length cap]] w (RetFR w (dec c is l) (rej c is l)) := by
 obtain ⟨s1,s2,s3,s4⟩ := dec_start w (.bool is) (.slice a l.length cap)
 have S4 := Lib.hid s4
 have CH := head_any c is a cap l ((w.alloc (.cells #[.bool is,.slice a l.length cap] 45)).alloc (.cells #[.int .i64 0,.int .i64 0,.int .i64 0,.int .i64 0,.int .i64 0,.int .i64 0,.int .i64 0,.int .i64 0,.int .i64 0] 123)) hy (hb.below s4)
 have S1 := Lib.hid s1
 have HR := Lib.hid (show hrej c is l = rej c is l by rw [hrej_rej,if_neg h])
 have HD := Lib.hid (show List.replicate 9 0 = dec c is l from (dec_no (by rw [← HR.out]; exact h)).symm)
 have d : (hrej c is l != 0) = true := by simpa using h
 clear s1 s4 hy hb h
 generalize hrej c is l = r at *
 generalize l.length = n at *
 go_enter Tryz.func175,Tryz.ntmps175
 go_wp2_with (go_at_call 210; refine CH.mono ?_; rintro e w1 ⟨rfl,b1⟩
              have R1 := Lib.hid (S1.out.below b1 (by rw [s3]; omega)); have B1 := Lib.hid (S4.out.trans (b1.mono (by rw [s3]; omega))); clear b1
              obtain ⟨z0,z1,z2,z3,z4,z5,z6,z7,z8⟩ := row9 (show IRow .i64 w1 (w.heap.size + 1) 123 [0,0,0,0,0,0,0,0,0] from R1.out)
              obtain ⟨q0,q1,q2,q3,q4,q5,q6,q7,q8⟩ := row9_frozen R1.out)
 have R2 := stored9 0 0 0 0 0 0 0 0 0 R1.out
 have B2 := stored9_below (g := w.heap.size + 1) 0 0 0 0 0 0 0 0 0 B1.out (Nat.le_succ _)
 refine bodyPost_ret (v := .tuple #[.agg #[.int .i64 0,.int .i64 0,.int .i64 0,.int .i64 0,.int .i64 0,.int .i64 0,.int .i64 0,.int .i64 0,.int .i64 0],.int .i64 r]) ?_ rfl ⟨by rw [← HR.out,← HD.out]; rfl,B2⟩
 exact (Agg.ret_row2 (l := [0,0,0,0,0,0,0,0,0]) rfl rfl (agg9 _) size9 R2).trans rfl
set_option maxHeartbeats 800000 in
theorem dec_sum_any (hm : l.length ≤ cap) (hy : Bytes l) (hb : IntsAt .u8 w a l) (h : hrej c is l = 0) (ho : opens l = false) :
 Calls Tryz.prog 175 #[.int .i64 c,.agg #[.bool is,.slice a l.length cap]] w (RetFR w (dec c is l) (rej c is l)) := by
 obtain ⟨rfl,h38,-,-⟩ := hrej_fine h
 obtain ⟨s1,s2,s3,s4⟩ := dec_start w (.bool true) (.slice a l.length cap)
 have S4 := Lib.hid s4
 have CH := head_any c true a cap l ((w.alloc (.cells #[.bool true,.slice a l.length cap] 45)).alloc (.cells #[.int .i64 0,.int .i64 0,.int .i64 0,.int .i64 0,.int .i64 0,.int .i64 0,.int .i64 0,.int .i64 0,.int .i64 0] 123)) hy (hb.below s4)
 rw [h] at CH
 have S1 := Lib.hid s1
 have HR := Lib.hid (show rej c true l = 5 by rw [hrej_rej,if_pos h,if_neg (by rw [ho]; simp)])
 have HD := Lib.hid (show List.replicate 9 0 = dec c true l from (dec_no (by rw [HR.out]; simp)).symm)
 have HB := Lib.hid hb
 have CO := Lib.hid (fun W hb => Cr.open_cap a cap l W (by omega) hm hy hb)
 rw [opened_no ho,ho,h38] at CO
 rw [h38] at CH s2 s3 S1 S4 ⊢
 clear s1 s4 hy hb h ho h38
 go_enter Tryz.func175,Tryz.ntmps175
 go_wp2_with (first
  | (go_at_call 210; refine CH.mono ?_; rintro e w1 ⟨rfl,b1⟩
     have R1 := Lib.hid (S1.out.below b1 (by rw [s3]; omega)); have B1 := Lib.hid (S4.out.trans (b1.mono (by rw [s3]; omega)))
     have c1 : w1.cell? ⟨w.heap.size,1,none⟩ = some (.slice a 38 cap) := (b1.cell (p := ⟨w.heap.size,1,none⟩) (by rw [s3]; show w.heap.size < _; omega)).trans s2
     clear b1)
  | (go_at_call 65; refine (CO.out _ (HB.out.below B1.out)).mono ?_; rintro e w2 ⟨a2,cap2,rfl,i2,m2,b2⟩
     have R2 := Lib.hid (R1.out.below b2 R1.out.lt); have B2 := Lib.hid (grow B1.out b2); clear b2 i2
     obtain ⟨z0,z1,z2,z3,z4,z5,z6,z7,z8⟩ := row9 (show IRow .i64 w2 (w.heap.size + 1) 123 [0,0,0,0,0,0,0,0,0] from R2.out)
     obtain ⟨q0,q1,q2,q3,q4,q5,q6,q7,q8⟩ := row9_frozen R2.out))
 have R3 := stored9 0 0 0 0 0 0 0 0 0 R2.out
 have B3 := stored9_below (g := w.heap.size + 1) 0 0 0 0 0 0 0 0 0 B2.out (Nat.le_succ _)
 refine bodyPost_ret (v := .tuple #[.agg #[.int .i64 0,.int .i64 0,.int .i64 0,.int .i64 0,.int .i64 0,.int .i64 0,.int .i64 0,.int .i64 0,.int .i64 0],.int .i64 5]) ?_ rfl ⟨by rw [HR.out,← HD.out]; rfl,B3⟩
 exact (Agg.ret_row2 (l := [0,0,0,0,0,0,0,0,0]) rfl rfl (agg9 _) size9 R3).trans rfl
set_option maxHeartbeats 800000 in
theorem dec_fine_any (hm : l.length ≤ cap) (hy : Bytes l) (hb : IntsAt .u8 w a l) (h : hrej c is l = 0) (ho : opens l = true) :
 Calls Tryz.prog 175 #[.int .i64 c,.agg #[.bool is,.slice a l.length cap]] w (RetFR w (dec c is l) (rej c is l)) := by
 obtain ⟨rfl,h38,-,-⟩ := hrej_fine h
 obtain ⟨s1,s2,s3,s4⟩ := dec_start w (.bool true) (.slice a l.length cap)
 have S4 := Lib.hid s4
 have CH := head_any c true a cap l ((w.alloc (.cells #[.bool true,.slice a l.length cap] 45)).alloc (.cells #[.int .i64 0,.int .i64 0,.int .i64 0,.int .i64 0,.int .i64 0,.int .i64 0,.int .i64 0,.int .i64 0,.int .i64 0] 123)) hy (hb.below s4)
 rw [h] at CH
 have S1 := Lib.hid s1
 have HR := Lib.hid (show rej c true l = 0 by rw [hrej_rej,if_pos h,if_pos ho])
 have HD := Lib.hid (show fseq l :: fvals l = dec c true l from (dec_yes HR.out).symm)
 have HB := Lib.hid hb
 have CO := Lib.hid (fun W hb => Cr.open_cap a cap l W (by omega) hm hy hb)
 have l36 : (l.take 36).length = 36 := by rw [List.length_take]; omega
 rw [opened_yes ho,ho,h38,show 38 - 2 = 36 from rfl] at CO
 rw [h38] at CH s2 s3 S1 S4 ⊢
 obtain ⟨-,e8,-,-⟩ := dec_right h38 hy
 have CD := Lib.hid (fun b off cap W (hc : 36 ≤ cap) hb => Fm.read_any b off cap (l.take 36) W l36 hc (hy.take 36) hb)
 rw [fseq_take,fvals_take] at CD
 clear s1 s4 hy hb h ho h38
 generalize fseq l = s at *
 generalize fvals l = vs at *
 obtain ⟨v0,v1,v2,v3,v4,v5,v6,v7,rfl⟩ := eight vs e8
 generalize l.take 36 = told at *
 go_enter Tryz.func175,Tryz.ntmps175
 go_wp2_with (first
  | (go_at_call 210; refine CH.mono ?_; rintro e w1 ⟨rfl,b1⟩
     have R1 := Lib.hid (S1.out.below b1 (by rw [s3]; omega)); have B1 := Lib.hid (S4.out.trans (b1.mono (by rw [s3]; omega)))
     have c1 : w1.cell? ⟨w.heap.size,1,none⟩ = some (.slice a 38 cap) := (b1.cell (p := ⟨w.heap.size,1,none⟩) (by rw [s3]; show w.heap.size < _; omega)).trans s2
     clear b1)
  | (go_at_call 65; refine (CO.out _ (HB.out.below B1.out)).mono ?_; rintro e w2 ⟨a2,cap2,rfl,i2,m2,b2⟩
     have R2 := Lib.hid (R1.out.below b2 R1.out.lt); have B2 := Lib.hid (grow B1.out b2); clear b2
     obtain ⟨bb,off,rfl,i3⟩ := intsAt_some i2 (by rw [l36]; omega)
     rw [l36] at m2 ⊢
     have CD2 := Lib.hid (CD.out bb off cap2 w2 m2 i3); clear i2 i3)
  | (go_at_call 211; refine CD2.out.mono ?_; rintro e w3 ⟨h3,b3⟩; have h3' : e = .returned (.agg #[.int .i64 s,.int .i64 v0,.int .i64 v1,.int .i64 v2,.int .i64 v3,.int .i64 v4,.int .i64 v5,.int .i64 v6,.int .i64 v7]) := h3; subst h3'; clear h3
     have R3 := Lib.hid (R2.out.below b3 R2.out.lt); have B3 := Lib.hid (grow B2.out b3); clear b3
     obtain ⟨z0,z1,z2,z3,z4,z5,z6,z7,z8⟩ := row9 (show IRow .i64 w3 (w.heap.size + 1) 123 [0,0,0,0,0,0,0,0,0] from R3.out)
     obtain ⟨q0,q1,q2,q3,q4,q5,q6,q7,q8⟩ := row9_frozen R3.out))
 have R4 := stored9 s v0 v1 v2 v3 v4 v5 v6 v7 R3.out
 have B4 := stored9_below (g := w.heap.size + 1) s v0 v1 v2 v3 v4 v5 v6 v7 B3.out (Nat.le_succ _)
 refine bodyPost_ret (v := .tuple #[.agg #[.int .i64 s,.int .i64 v0,.int .i64 v1,.int .i64 v2,.int .i64 v3,.int .i64 v4,.int .i64 v5,.int .i64 v6,.int .i64 v7],.int .i64 0]) ?_ rfl ⟨by rw [HR.out,← HD.out]; rfl,B4⟩
 exact (Agg.ret_row2 (l := [s,v0,v1,v2,v3,v4,v5,v6,v7]) rfl rfl (agg9 _) size9 R4).trans rfl
theorem dec_any (hm : l.length ≤ cap) (hy : Bytes l) (hb : IntsAt .u8 w a l) :
 Calls Tryz.prog 175 #[.int .i64 c,.agg #[.bool is,.slice a l.length cap]] w (RetFR w (dec c is l) (rej c is l)) := by
 by_cases h : hrej c is l = 0
 · cases ho : opens l
   · exact dec_sum_any c is a cap l w hm hy hb h ho
   · exact dec_fine_any c is a cap l w hm hy hb h ho
 · exact dec_head_any c is a cap l w hy hb h
end
end Fm
open Go.ChangeShapes Go.WideShapes Go.ChangeAt Go.RowKit Go.Deep Go.Shelf
namespace Wd
open Cr (Bytes)
attribute [local go_sem] Oper.semAt_some
theorem take_all_next (l : List Int) (k : Nat) (h : k < l.length) : (l.take (k + 1)).all in4 = ((l.take k).all in4 && in4 (l.getD k 0)) := by
 rw [List.take_succ_eq_append_getElem h,List.all_append]; simp [List.getD_eq_getElem?_getD,h]
set_option maxHeartbeats 800000 in
theorem putAll_no_any (a : Option Addr) (cap : Nat) (l : List Int) (w : World) (hl : l.length ≤ 9223372036854775807) (hb : IntsAt .i64 w a l) (hno : l.all in4 = false) :
 Calls Tryz.prog 83 #[.slice a l.length cap] w (RetC .u8 w (putAll l)) := by
 have HF := Lib.hid (putAll_no hno)
 have HN := Lib.hid hno
 have HB := Lib.hid (hb.below ((Below.refl _ w).alloc (Nat.le_refl _) (.cells #[.slice a l.length cap] 144)))
 have HW := Lib.hid ((Below.refl _ w).alloc (Nat.le_refl _) (.cells #[.slice a l.length cap] 144))
 clear hb hno
 go_enter Tryz.func83,Tryz.ntmps83
 go_wp2
 generalize w.alloc (.cells #[.slice a l.length cap] 144) = w0 at *
 go_loopg [10] l.length (fun gg s10 wr => ∃ k : Nat,k + gg = l.length ∧ s10 = .int .i64 k ∧ Hid ((l.take k).all in4 = true) ∧ w0 = wr)
 case atStart => exact ⟨0,by omega,rfl,Lib.hid rfl,rfl⟩
 case round =>
  obtain ⟨k,hkg,rfl,HT,rfl⟩ := hrel
  by_cases hk : k < l.length
  · rcases HB.out with hnil | ⟨b,off,rfl,hc⟩
    · rw [hnil] at hk; simp at hk
    have hki : (k : Int) < (l.length : Int) := by omega
    have hcx := hc k hk
    have HX := Lib.hid (take_all_next l k hk)
    generalize l.getD k 0 = x at *
    clear hc
    have C := told_any x w0
    cases hx : in4 x
    · rw [hx] at C
      go_wp2_with (go_at_call 126; refine C.mono ?_; rintro e w2 ⟨rfl,rfl⟩)
      go_ret
      exact retC_nil HF.out HW.out
    · rw [hx] at C
      go_wp2_with (go_at_call 126; refine C.mono ?_; rintro e w2 ⟨rfl,rfl⟩)
      go_roundg (gk - 1)
      case rel => exact ⟨k + 1,by omega,by go_num,Lib.hid (by rw [HX.out,HT.out,hx]; rfl),rfl⟩
      case measure => omega
  · exfalso
    have := HT.out
    rw [List.take_of_length_le (by omega),HN.out] at this
    cases this
set_option maxRecDepth 100000 in
set_option maxHeartbeats 2000000 in
theorem putAll_yes_any (a : Option Addr) (cap N : Nat) (l : List Int) (w : World) (hl : l.length = N) (hN : N ≤ 100000000) (hb : IntsAt .i64 w a l) (hall : l.all in4 = true) :
 Calls Tryz.prog 83 #[.slice a N cap] w (RetC .u8 w (putAll l)) := by
 have e4 : ((4 * N : Nat) : Int) / 4 = (N : Int) := by omega
 have HA := Lib.hid hall
 have HB := Lib.hid hb
 clear hb hall
 obtain ⟨i0,hi0,hz0,hz1,hz2⟩ := info_parts byteInfo
 refine (callsIn_wide (n := 5)).1 ?_
 refine callsIn_of_wp_marks Tryz.func83 rfl trivial ?_ rfl
 simp only [Tryz.ntmps83,List.size_toArray,List.length_cons,List.length_nil,Nat.reduceAdd,Nat.reduceSub,Array.replicate_succ,Array.replicate_zero,List.push_toArray,List.append_toArray,List.nil_append,List.cons_append]
 gi_wp2
 have bX := Boxed.new w 144 (.slice a N cap)
 have hB0 := (Below.refl w.heap.size w).alloc (Nat.le_refl _) (.cells #[.slice a N cap] 144)
 have hsz : (w.alloc (.cells #[.slice a N cap] 144)).heap.size = w.heap.size + 1 := by simp
 generalize w.alloc (.cells #[.slice a N cap] 144) = w0 at *
 gi_loopw [10] (fun i wr => ∃ k : Nat,k ≤ N ∧ i = .int .i64 k ∧ w0 = wr) (fun i _ => N - (intOf i).toNat)
 case atStart => exact ⟨0,by omega,rfl,rfl⟩
 case round =>
  obtain ⟨k,hkN,rfl,rfl⟩ := hrel
  by_cases hk : k < N
  · rcases HB.out.below hB0 with hnil | ⟨b,off,rfl,hc⟩
    · rw [hnil] at hl; simp at hl; omega
    have hki : (k : Int) < (N : Int) := by omega
    have hcx := hc k (by omega)
    have C := told_any (l.getD k 0) w0
    rw [in4_at HA.out (by omega)] at C
    generalize l.getD k 0 = x at *
    clear hc
    gi_wp2_with (refine ⟨trivial,?_⟩; gi_at_call 126; refine (callsIn_wide.2 C).mono ?_; rintro e w2 ⟨rfl,rfl⟩)
    go_roundw
    case rel => exact ⟨k + 1,by omega,by go_num,by trivial⟩
    case measure => simp [intOf]; omega
  · obtain rfl : k = N := by omega
    have hbc := bX.cell
    gi_wp2_with (first
     | (gi_at_make; refine wpListIn_make_full _ rfl _ _ _ rfl w0.heap.size 5 i0 (.int .u8 0) 1 Tryz.underlying41 hi0 hz0 hz1 .i64 .i64 _ _ (4 * k) rfl rfl (by omega) (by omega) (by rw [hz2]; omega) (by unfold maxLen; omega) (Nat.le_refl _) ?_; intro w1 own1 grown1
        have R1 := Lib.hid (IRow.of_own own1 (zeros_cells8 _)); have G1 := Lib.hid grown1; clear own1 grown1)
     | (refine ⟨trivial,?_⟩; gi_at_call 127; refine (callsIn_wide.2 (fours_any _ _ _ _)).mono ?_; rintro e w2 ⟨rfl,rfl⟩))
    have hR1 := R1.out
    rw [hsz] at hR1
    have hlt1 : w.heap.size + 1 < w1.heap.size := hR1.lt
    have bX1 : Boxed w1 w.heap.size 144 (.slice a k cap) := bX.kept G1.out (by simp)
    have hB1 : Below w.heap.size w w1 := hB0.grown G1.out hB0.size (by simp)
    have bS := Boxed.new w1 41 (.slice (some ⟨w.heap.size + 1,0,none⟩) (4 * k) (4 * k))
    have bX2 := bX1.alloc (.cells #[.slice (some ⟨w.heap.size + 1,0,none⟩) (4 * k) (4 * k)] 41)
    have hR2 := hR1.alloc (.cells #[.slice (some ⟨w.heap.size + 1,0,none⟩) (4 * k) (4 * k)] 41)
    have hB2 := hB1.alloc (by omega) (.cells #[.slice (some ⟨w.heap.size + 1,0,none⟩) (4 * k) (4 * k)] 41)
    have hsz2 : (w1.alloc (.cells #[.slice (some ⟨w.heap.size + 1,0,none⟩) (4 * k) (4 * k)] 41)).heap.size = w1.heap.size + 1 := by simp
    clear hR1 R1 G1 bX1 hB1 bX hB0 hsz hbc
    generalize w1.alloc (.cells #[.slice (some ⟨w.heap.size + 1,0,none⟩) (4 * k) (4 * k)] 41) = W0 at *
    refine wpIn_rangeFunc_ownG rfl (by omega) (gf := 178) (lb := #[.pointer (some ⟨w1.heap.size,0,none⟩)]) rfl trivial (enters_of Tryz.func178 (by kernel_rfl) rfl)
     (fours_stops _ (by omega) w1.heap.size (w.heap.size + 1) 0 (4 * k) k (some ⟨w.heap.size + 1,0,none⟩) (fun _ => rfl) (by omega) (Nat.le_refl _) W0 (by omega) bS.cell) KeepAt.trans (KeepAt.put (by omega)) (Below.refl _ _) (fun _ => rfl)
     (fun pre W => (IRow .u8 W (w.heap.size + 1) 5 (fillB l (pre.map Fin.val)) ∧ (Boxed W w.heap.size 144 (.slice a k cap) ∧ Boxed W w1.heap.size 41 (.slice (some ⟨w.heap.size + 1,0,none⟩) (4 * k) (4 * k)))) ∧ Below w.heap.size w W)
     (fun _ _ _ => False)
     (OwnFrom.and (OwnFrom.and (Own.from (irow_own _ _ _ _) _) (OwnFrom.and (Own.from (boxed_own _ _ _) _) (Own.from (boxed_own _ _ _) _))) (ownFrom_below (Nat.le_refl _) (by omega)))
     (fun _ _ _ _ _ hs _ _ => hs)
     ⟨⟨by simpa [fillB,hl] using hR2,bX2,bS⟩,hB2⟩
     (fun x => { tmps := #[.slice a k cap,.pointer (some ⟨w.heap.size,0,none⟩),u2,undef,u4,.slice (some ⟨w.heap.size + 1,0,none⟩) (4 * k) (4 * k),.int .i64 (x.val : Int),.slice (some ⟨w.heap.size + 1,0 + 4 * x.val,none⟩) 4 4,.slice a k cap,.int .i64 k,.int .i64 k,.bool false,u12,u13,u14,u15,u16,u17,.slice a k cap,.int .i64 k,.int .i64 (4 * k),.slice (some ⟨w.heap.size + 1,0,none⟩) (4 * k) (4 * k),.slice (some ⟨w.heap.size + 1,0,none⟩) (4 * k) (4 * k),.func (.func 178) #[] #[.pointer (some ⟨w1.heap.size,0,none⟩)],.int .i64 (x.val : Int),.slice (some ⟨w.heap.size + 1,0 + 4 * x.val,none⟩) 4 4,undef,undef,undef,undef,undef,undef,undef],defers := [] }) ?assign ?body ?done ?stop
    case assign =>
     intro l x W K hK
     dsimp only [encs]
     gi_wp2
     simpa using hK
    case body =>
     rintro lp pre x W ⟨⟨hR,hBx,hBy⟩,hB⟩ _
     have hx := x.isLt
     obtain ⟨i,hi⟩ : ∃ i,i = x.val := ⟨_,rfl⟩
     have HS := Lib.hid (show fillB l ((pre ++ [x]).map Fin.val) = splice (fillB l (pre.map Fin.val)) (4 * x.val) (put4 (l.getD x.val 0)) by rw [List.map_append]; exact fillB_snoc l (pre.map Fin.val) x.val)
     have hL := fillB_len HA.out (pre.map Fin.val) (fun j hj => by obtain ⟨y,_,rfl⟩ := List.mem_map.1 hj; have := y.isLt; omega)
     rw [← hi] at hx HS ⊢
     have hbc := hBx.cell
     have hxi : (i : Int) < (k : Int) := by omega
     rcases HB.out.below hB with hnil | ⟨b,off,rfl,hc⟩
     · rw [hnil] at hl; simp at hl; omega
     have hcx := hc i (by omega)
     have h4 := in4_at HA.out (show i < l.length by omega)
     have C := write_any (w.heap.size + 1) (4 * i) 4 4 (fillB l (pre.map Fin.val)) 5 (l.getD i 0) W (by omega) hR (by omega)
     rw [wbytes_4 h4,← HS.out] at C
     have HBx := Lib.hid hBx
     have HBy := Lib.hid hBy
     have HBB := Lib.hid hB
     have HC := Lib.hid (fun o (ho : W.heap[w.heap.size + 1]? = some o) => show o.isCells = true by rw [show W.heap[w.heap.size + 1]? = _ from hR] at ho; cases ho; rfl)
     clear hR hBx hBy hB hi hc HS hL h4
     generalize l.getD i 0 = y at *
     gi_wp2_with (refine ⟨trivial,?_⟩; gi_at_call 125; refine (CallsIn.inRound lp (callsIn_wide.2 C)).mono ?_; rintro e w3 ⟨rfl,r3,g3⟩; have R3 := Lib.hid r3; have G3 := Lib.hid g3; clear r3 g3)
     exact ⟨(KeepsOthers.of_grownBy G3.out (fun j o ej hj => by cases ej; exact HC.out o hj)).from _,G3.out.block w1.heap.size HBy.out.lt (by simp; omega),⟨R3.out,HBx.out.kept G3.out (by simp),HBy.out.kept G3.out (by simp; omega)⟩,HBB.out.grown G3.out HBB.out.size (fun k e => by cases e; omega)⟩
    case done =>
     rintro D ys W hD hys ⟨⟨hR,hBx⟩,hB⟩ hK
     gi_wp2
     refine ⟨by simp,.inl ⟨_,_,rfl,run_takeDeferred hK,?_⟩⟩
     have hall := fillB_all HA.out
     rw [hl] at hall
     have hlen : (putAll l).length = 4 * k := by rw [← hall]; have := fillB_len HA.out (List.range k) (fun j hj => by have := List.mem_range.1 hj; omega); omega
     have R' : IRow .u8 (W.putObj D (.deferred none)) (w.heap.size + 1) 5 (putAll l) := by
      rw [hys,hall] at hR
      exact (World.putObj_heap_other (by omega)).trans hR
     refine ⟨_,results_tmp rfl _ _ _,?_⟩
     exact retC_mk rfl hlen (Nat.le_refl _) R'.ints (hB.trans (belowK_b (w := w) (Nat.le_refl _) W D _ _ (by omega) hK rfl rfl))
    case stop =>
     rintro D c pre W _ _ h _
     exact h.elim
theorem putAll_any (a : Option Addr) (cap : Nat) (l : List Int) (w : World) (hl : l.length ≤ 100000000) (hb : IntsAt .i64 w a l) :
 Calls Tryz.prog 83 #[.slice a l.length cap] w (RetC .u8 w (putAll l)) := by
 cases h : l.all in4
 · exact putAll_no_any a cap l w (by omega) hb h
 · exact putAll_yes_any a cap l.length l w rfl hl hb h
end Wd
namespace Fm
open Wd
open Cr (Bytes)
def RetCE (w : World) (l : List Int) (x : Int) (e : Ending) (w' : World) : Prop :=
 ∃ a cap,e = .returned (.tuple #[.slice a l.length cap,.int .i64 x]) ∧ IntsAt .u8 w' a l ∧ l.length ≤ cap ∧ Below w.heap.size w w'
theorem retCE_mk {w w' : World} {a : Option Addr} {l l' : List Int} {n cap : Nat} {x : Int} (he : l' = l) (hn : l'.length = n) (hx : x = 0) (hc : n ≤ cap) (hi : IntsAt .u8 w' a l') (hb : Below w.heap.size w w') :
 RetCE w l x (.returned (.tuple #[.slice a n cap,.int .i64 0])) w' := by subst he; subst hn; subst hx; exact ⟨a,cap,rfl,hi,hc,hb⟩
theorem ownLit2 {k : IntKind} {base : Nat} {w : World} {te : TypeId} (x y : Int) (hb : base ≤ w.heap.size) : OwnI k base te (w.alloc (.cells #[.int k x,.int k y] te)) (.slice (some ⟨w.heap.size,0,none⟩) 2 2) [x,y] :=
 World.ownsRow_lit w #[.int k x,.int k y] 2 hb (by decide) rfl
theorem box_row (s v0 v1 v2 v3 v4 v5 v6 v7 : Int) (w : World) : IRow .i64 (w.alloc (.cells #[.int .i64 s,.int .i64 v0,.int .i64 v1,.int .i64 v2,.int .i64 v3,.int .i64 v4,.int .i64 v5,.int .i64 v6,.int .i64 v7] 123)) w.heap.size 123 [s,v0,v1,v2,v3,v4,v5,v6,v7] := heap_alloc_new w _
theorem box_vals {W : World} {g : Nat} {t : TypeId} {s v0 v1 v2 v3 v4 v5 v6 v7 : Int} (h : IRow .i64 W g t [s,v0,v1,v2,v3,v4,v5,v6,v7]) : IntsAt .i64 W (some ⟨g,1,none⟩) [v0,v1,v2,v3,v4,v5,v6,v7] := by
 rcases h.ints with h0 | ⟨b,off,he,hc⟩
 · cases h0
 · cases he; exact intsAt_drop (l := [s,v0,v1,v2,v3,v4,v5,v6,v7]) 1 hc
set_option maxHeartbeats 1600000 in
theorem enc_yes_any (c s v0 v1 v2 v3 v4 v5 v6 v7 : Int) (w : World) (hr : right s [v0,v1,v2,v3,v4,v5,v6,v7] = true) (hk : chan c = true) :
 Calls Tryz.prog 70 #[.int .i64 c,.agg #[.int .i64 s,.int .i64 v0,.int .i64 v1,.int .i64 v2,.int .i64 v3,.int .i64 v4,.int .i64 v5,.int .i64 v6,.int .i64 v7]] w (RetCE w (enc c s [v0,v1,v2,v3,v4,v5,v6,v7]) (encE c s [v0,v1,v2,v3,v4,v5,v6,v7])) := by
 have BA := Lib.hid ((Below.refl w.heap.size w).alloc (Nat.le_refl _) (.cells #[.int .i64 s,.int .i64 v0,.int .i64 v1,.int .i64 v2,.int .i64 v3,.int .i64 v4,.int .i64 v5,.int .i64 v6,.int .i64 v7] 123))
 have HBX := Lib.hid (box_row s v0 v1 v2 v3 v4 v5 v6 v7 w)
 have CR := right_any s v0 v1 v2 v3 v4 v5 v6 v7 (w.alloc (.cells #[.int .i64 s,.int .i64 v0,.int .i64 v1,.int .i64 v2,.int .i64 v3,.int .i64 v4,.int .i64 v5,.int .i64 v6,.int .i64 v7] 123))
 rw [hr] at CR
 have CP := fun W => put2_any s W
 have CA := fun W h => putAll_any (some ⟨w.heap.size,1,none⟩) 8 [v0,v1,v2,v3,v4,v5,v6,v7] W (by simp) h
 obtain ⟨ha,h2⟩ := (right_iff s [v0,v1,v2,v3,v4,v5,v6,v7]).1 hr
 have l2 := put2_len h2
 have l4 : (putAll [v0,v1,v2,v3,v4,v5,v6,v7]).length = 32 := by rw [putAll_yes ha,fours_len _ ha]; rfl
 have HH := Lib.hid (show ([165,c] ++ put2 s) ++ putAll [v0,v1,v2,v3,v4,v5,v6,v7] = head c s [v0,v1,v2,v3,v4,v5,v6,v7] by unfold head; rw [putAll_yes ha,List.append_assoc])
 have HL := head_len (c := c) hr (show [v0,v1,v2,v3,v4,v5,v6,v7].length = 8 from rfl)
 have HY := Lib.hid (head_bytes (s := s) (vs := [v0,v1,v2,v3,v4,v5,v6,v7]) hk)
 have HE := Lib.hid (enc_yes hr hk)
 have HZ := Lib.hid (encE_yes hr hk)
 obtain ⟨k1,k2⟩ := (chan_iff c).1 hk
 have d1 : decide (c < 0) = false := by simp; omega
 have d2 : decide (4 ≤ c) = false := by simp; omega
 have hsz : w.heap.size + 1 = (w.alloc (.cells #[.int .i64 s,.int .i64 v0,.int .i64 v1,.int .i64 v2,.int .i64 v3,.int .i64 v4,.int .i64 v5,.int .i64 v6,.int .i64 v7] 123)).heap.size := by simp
 have CS := fun W a cap h => Cr.seal_cap a cap (head c s [v0,v1,v2,v3,v4,v5,v6,v7]) W (by omega) HY.out h
 rw [HL] at CS
 clear hr hk ha h2
 generalize put2 s = p2 at *
 generalize putAll [v0,v1,v2,v3,v4,v5,v6,v7] = p4 at *
 generalize Cr.sealed (head c s [v0,v1,v2,v3,v4,v5,v6,v7]) = sl at *
 generalize head c s [v0,v1,v2,v3,v4,v5,v6,v7] = hd at *
 go_enter Tryz.func70,Tryz.ntmps70
 go_wp2_with (first
  | (go_at_call 109; refine CR.mono ?_; rintro e w1 ⟨rfl,b1⟩
     have R1 := Lib.hid (HBX.out.below b1 (by simp))
     have B1 := Lib.hid (b1.mono (Nat.le_of_eq hsz))
     have hs1 : w.heap.size + 1 ≤ w1.heap.size := by have := b1.size; simp at this; omega
     have R2 := Lib.hid (R1.out.alloc (.cells #[.int .u8 165,.int .u8 c] 5))
     have c2 : (w1.alloc (.cells #[.int .u8 165,.int .u8 c] 5)).cell? ⟨w.heap.size,0,none⟩ = some (.int .i64 s) := R2.out.cell 0 (by simp)
     have O2 := Lib.hid (ownLit2 (k := .u8) (te := 5) (w := w1) 165 c hs1)
     have B2 := Lib.hid (B1.out.alloc hs1 (.cells #[.int .u8 165,.int .u8 c] 5))
     clear b1 B1)
  | (go_at_call 82; refine (CP _).mono ?_; rintro e w3 ⟨a3,cap3,rfl,i3,b3⟩
     have I3 := Lib.hid i3
     have hs2 : w.heap.size + 1 ≤ (w1.alloc (.cells #[.int .u8 165,.int .u8 c] 5)).heap.size := by simp; omega
     have O3 := Lib.hid (O2.out.below b3)
     have B3 := Lib.hid (grow_from B2.out b3 hs2)
     clear i3 b3 B2 O2)
  | ((with_reducible show wpList _ _ _ (⟨some 25,_,_,_,_,_⟩ :: _) _ _); (refine wpList_appendI rfl (.tmp 21) (.tmp 24) _ rfl .u8 (w.heap.size + 1) 5 1 Tryz.underlying41 Wd.byteInfo _ [165,c] a3 2 cap3 p2 rfl rfl l2 O3.out I3.out (by simp [l2,maxLen]) (by simp [l2]) _ B3.out (Nat.le_of_eq hsz) ?_)
     intro v4 w4 O4' B4'; have O4 := Lib.hid O4'; have B4 := Lib.hid B4'; clear O4' B4' O3 I3 B3
     have hs4 : w.heap.size + 1 ≤ w4.heap.size := by have := B4.out.size; simp at this; omega
     have R4 := Lib.hid (HBX.out.below B4.out (Nat.lt_succ_self _))
     have CA4 := Lib.hid (CA w4 (box_vals R4.out)))
  | (go_at_call 83; refine CA4.out.mono ?_; rintro e w5 ⟨a5,cap5,rfl,i5,m5,b5⟩
     have I5 := Lib.hid i5
     have O5 := Lib.hid (O4.out.below b5)
     have B5 := Lib.hid (grow_from B4.out b5 hs4)
     clear i5 m5 b5 B4 O4 CA4)
  | ((with_reducible show wpList _ _ _ (⟨some 30,_,_,_,_,_⟩ :: _) _ _); refine wpList_appendI rfl (.tmp 26) (.tmp 29) _ rfl .u8 (w.heap.size + 1) 5 1 Tryz.underlying41 Wd.byteInfo v4 ([165,c] ++ p2) a5 32 cap5 p4 rfl rfl l4 O5.out I5.out (by simp [l2,l4,maxLen]) (by simp [l2,l4]) _ B5.out (Nat.le_of_eq hsz) ?_
     intro v6 w6 O6' B6'; rw [HH.out] at O6'; obtain ⟨a6,cap6,rfl,i6⟩ := O6'.form; have I6 := Lib.hid i6; have B6 := Lib.hid B6'; clear O6' B6' i6 O5 I5 B5
     rw [HL]
     have hs6 : w.heap.size + 1 ≤ w6.heap.size := by have := B6.out.size; simp at this; omega)
  | (go_at_call 85; refine (CS _ _ _ I6.out).mono ?_; rintro e w7 ⟨a7,cap7,rfl,i7,m7,b7⟩
     have I7 := Lib.hid i7
     have B7 := Lib.hid (BA.out.trans ((grow_from B6.out b7 hs6).mono (Nat.le_succ _)))
     clear i7 b7))
 go_ret2
 exact retCE_mk HE.out.symm rfl HZ.out m7 I7.out B7.out
end Fm
namespace Fm
open Wd
open Cr (Bytes sealed)
theorem dec_form {w : World} {l : List Int} {r : Int} {vs : List Value} {e : Ending} {w' : World} (h : RetFR w l r e w') (hv : cellsI .i64 l = vs) : e = .returned (.tuple #[.agg vs.toArray,.int .i64 r]) ∧ Below w.heap.size w w' := by
 subst hv; exact h
end Fm
namespace Fm
open Wd
open Cr (Bytes)
end Fm
namespace Cr
theorem half (a k : Nat) : a / 2 ^ (k + 1) = a / 2 ^ k / 2 := by rw [Nat.pow_succ,Nat.div_div_eq_div_mul]
end Cr
namespace Cr
end Cr
namespace Cr
end Cr
namespace Wr
open Wd Cr
end Wr
namespace Fm
open Wd
open Cr (Bytes)
end Fm
namespace Fm
open Wd
open Cr (Bytes opens opened opened_yes opened_no)
section
variable (c : Int) (is : Bool) (a : Option Addr) (cap : Nat) (l : List Int) (w : World)
end
end Fm
namespace Fm
open Wd
open Cr (Bytes opens opened opened_yes opened_no)
section
variable (c : Int) (is : Bool) (a : Option Addr) (cap : Nat) (l : List Int) (w : World)
end
end Fm
namespace Fm
open Wd
open Cr (Bytes bytes_wf)
theorem dec_len {c : Int} {is : Bool} {b : List Int} (hy : Bytes b) : (dec c is b).length = 9 := by
 by_cases h : rej c is b = 0
 · rw [dec_yes h]
   obtain ⟨_,hl,_⟩ := fine_iff h
   obtain ⟨_,l8,_⟩ := dec_right hl hy
   simp [l8]
 · rw [dec_no h]; rfl
theorem slot_box (w : World) (is : Bool) (v : Value) (g : Nat) (h : w.heap.size = g) :
 (w.alloc (.cells #[.bool is,v] 45)).cell? ⟨g,0,none⟩ = some (.bool is) ∧ (w.alloc (.cells #[.bool is,v] 45)).cell? ⟨g,1,none⟩ = some v := by
 subst h
 exact ⟨by rw [cell_of_row _ _ 0 _ _ (0,0) (heap_alloc_new w _)]; rfl,by rw [cell_of_row _ _ 1 _ _ (0,0) (heap_alloc_new w _)]; rfl⟩
end Fm
namespace frameTells
open Fm
open Cr (Bytes bytes_wf)
end frameTells
namespace Fh
open Wd Fm
open Cr (Bytes)
def trk (c last : Int) (has : Bool) (n : List Int) : List Value := .int .i64 c :: .int .i64 last :: .bool has :: cellsI .i64 n
def JudgeR (w : World) (g : Nat) (t : TypeId) (c last : Int) (has : Bool) (n : List Int) (is : Bool) (l : List Int) (e : Ending) (w' : World) : Prop :=
 e = .returned (.tuple #[.agg (cellsI .i64 (jf c last has is l)).toArray,.int .i64 (jr c last has is l)]) ∧ VRow w' g t (trk c (jl c last is l) (jh c has is l) n) ∧ Only g w w'
structure Begun (w W : World) (g : Nat) (cs : List Value) (t : TypeId) (is : Bool) (a : Option Addr) (cap : Nat) (l : List Int) : Prop where
 size : W.heap.size = w.heap.size + 2
 below : Below w.heap.size w W
 s0 : W.cell? ⟨w.heap.size,0,none⟩ = some (.bool is)
 s1 : W.cell? ⟨w.heap.size,1,none⟩ = some (.slice a l.length cap)
 out : IRow .i64 W (w.heap.size + 1) 123 (List.replicate 9 0)
 trk : VRow W g t cs
 bytes : IntsAt .u8 W a l
theorem begun (w : World) (g : Nat) (cs : List Value) (t : TypeId) (is : Bool) (a : Option Addr) (cap : Nat) (l : List Int) (hT : VRow w g t cs) (hb : IntsAt .u8 w a l) :
 Begun w ((w.alloc (.cells #[.bool is,.slice a l.length cap] 45)).alloc (.cells #[.int .i64 0,.int .i64 0,.int .i64 0,.int .i64 0,.int .i64 0,.int .i64 0,.int .i64 0,.int .i64 0,.int .i64 0] 123)) g cs t is a cap l := by
 obtain ⟨s1,s2,s3,s4⟩ := dec_start w (.bool is) (.slice a l.length cap)
 refine ⟨s3,s4,?_,s2,s1,(hT.alloc _).alloc _,hb.below s4⟩
 rw [((Below.refl _ (w.alloc (.cells #[.bool is,.slice a l.length cap] 45))).alloc (Nat.le_refl _) _).cell (p := ⟨w.heap.size,0,none⟩) (by simp)]
 exact (slot_box w is _ _ rfl).1
structure Lying (w W : World) (g6 g : Nat) (cs : List Value) (t : TypeId) (f : List Int) : Prop where
 below : Below w.heap.size w W
 out : IRow .i64 W (w.heap.size + 1) 123 (List.replicate 9 0)
 trk : VRow W g t cs
 box : IRow .i64 W g6 123 f
 le : w.heap.size + 2 ≤ g6
 lt : g < w.heap.size
theorem alloc_cell {W : World} {b o : Nat} {v : Value} (x : Obj) (h : W.cell? ⟨b,o,none⟩ = some v) : (W.alloc x).cell? ⟨b,o,none⟩ = some v :=
 (((Below.refl _ W).alloc (Nat.le_refl _) x).cell (p := ⟨b,o,none⟩) (cell_lt h)).trans h
theorem box_after {W w1 : World} (h : Below (W.alloc (.cells #[.int .i64 0,.int .i64 0,.int .i64 0,.int .i64 0,.int .i64 0,.int .i64 0,.int .i64 0,.int .i64 0,.int .i64 0] 123)).drew.heap.size (W.alloc (.cells #[.int .i64 0,.int .i64 0,.int .i64 0,.int .i64 0,.int .i64 0,.int .i64 0,.int .i64 0,.int .i64 0,.int .i64 0] 123)).drew w1) : IRow .i64 w1 W.heap.size 123 [0,0,0,0,0,0,0,0,0] :=
 (IRow.drew (show IRow .i64 (W.alloc (.cells #[.int .i64 0,.int .i64 0,.int .i64 0,.int .i64 0,.int .i64 0,.int .i64 0,.int .i64 0,.int .i64 0,.int .i64 0] 123)) W.heap.size 123 [0,0,0,0,0,0,0,0,0] from heap_alloc_new W _)).below h (by simp)
theorem lying_a {w W w1 : World} {g : Nat} {cs : List Value} {t : TypeId} {is : Bool} {a : Option Addr} {cap : Nat} {l : List Int} (B : Begun w W g cs t is a cap l) (h : Below W.drew.heap.size W.drew w1) (hg : g < w.heap.size) (s v0 v1 v2 v3 v4 v5 v6 v7 : Int) :
 Lying w (w1.alloc (.cells #[.int .i64 s,.int .i64 v0,.int .i64 v1,.int .i64 v2,.int .i64 v3,.int .i64 v4,.int .i64 v5,.int .i64 v6,.int .i64 v7] 123)) w1.heap.size g cs t [s,v0,v1,v2,v3,v4,v5,v6,v7] := by
 have h' : Below W.heap.size W w1 := ⟨h.os,h.tape,h.output,h.size,h.block⟩
 have hs := B.size
 have k := h'.alloc h'.size (.cells #[.int .i64 s,.int .i64 v0,.int .i64 v1,.int .i64 v2,.int .i64 v3,.int .i64 v4,.int .i64 v5,.int .i64 v6,.int .i64 v7] 123)
 have hz := h'.size
 exact ⟨grow B.below k,B.out.below k B.out.lt,B.trk.below k B.trk.lt,box_row s v0 v1 v2 v3 v4 v5 v6 v7 w1,by omega,hg⟩
theorem lying_b {w W w1 : World} {g : Nat} {cs : List Value} {t : TypeId} {is : Bool} {a : Option Addr} {cap : Nat} {l : List Int} (B : Begun w W g cs t is a cap l) (h : Below (W.alloc (.cells #[.int .i64 0,.int .i64 0,.int .i64 0,.int .i64 0,.int .i64 0,.int .i64 0,.int .i64 0,.int .i64 0,.int .i64 0] 123)).drew.heap.size (W.alloc (.cells #[.int .i64 0,.int .i64 0,.int .i64 0,.int .i64 0,.int .i64 0,.int .i64 0,.int .i64 0,.int .i64 0,.int .i64 0] 123)).drew w1) (hg : g < w.heap.size) (s v0 v1 v2 v3 v4 v5 v6 v7 : Int) :
 Lying w ((((((((((w1.setCell ⟨W.heap.size,0,none⟩ (.int .i64 s)).setCell ⟨W.heap.size,1,none⟩ (.int .i64 v0)).setCell ⟨W.heap.size,2,none⟩ (.int .i64 v1)).setCell ⟨W.heap.size,3,none⟩ (.int .i64 v2)).setCell ⟨W.heap.size,4,none⟩ (.int .i64 v3)).setCell ⟨W.heap.size,5,none⟩ (.int .i64 v4)).setCell ⟨W.heap.size,6,none⟩ (.int .i64 v5)).setCell ⟨W.heap.size,7,none⟩ (.int .i64 v6)).setCell ⟨W.heap.size,8,none⟩ (.int .i64 v7))) W.heap.size g cs t [s,v0,v1,v2,v3,v4,v5,v6,v7] := by
 have h' : Below (W.alloc (.cells #[.int .i64 0,.int .i64 0,.int .i64 0,.int .i64 0,.int .i64 0,.int .i64 0,.int .i64 0,.int .i64 0,.int .i64 0] 123)).heap.size (W.alloc (.cells #[.int .i64 0,.int .i64 0,.int .i64 0,.int .i64 0,.int .i64 0,.int .i64 0,.int .i64 0,.int .i64 0,.int .i64 0] 123)) w1 := ⟨h.os,h.tape,h.output,h.size,h.block⟩
 have hs := B.size
 have k : Below W.heap.size W w1 := ((Below.refl W.heap.size W).alloc (Nat.le_refl _) (.cells #[.int .i64 0,.int .i64 0,.int .i64 0,.int .i64 0,.int .i64 0,.int .i64 0,.int .i64 0,.int .i64 0,.int .i64 0] 123)).trans (h'.mono (by simp))
 have k9 : Below W.heap.size W ((((((((((w1.setCell ⟨W.heap.size,0,none⟩ (.int .i64 s)).setCell ⟨W.heap.size,1,none⟩ (.int .i64 v0)).setCell ⟨W.heap.size,2,none⟩ (.int .i64 v1)).setCell ⟨W.heap.size,3,none⟩ (.int .i64 v2)).setCell ⟨W.heap.size,4,none⟩ (.int .i64 v3)).setCell ⟨W.heap.size,5,none⟩ (.int .i64 v4)).setCell ⟨W.heap.size,6,none⟩ (.int .i64 v5)).setCell ⟨W.heap.size,7,none⟩ (.int .i64 v6)).setCell ⟨W.heap.size,8,none⟩ (.int .i64 v7))) := stored9_below s v0 v1 v2 v3 v4 v5 v6 v7 k (Nat.le_refl _)
 exact ⟨grow B.below k9,B.out.below k9 B.out.lt,B.trk.below k9 B.trk.lt,stored9 s v0 v1 v2 v3 v4 v5 v6 v7 (box_after h),by omega,hg⟩
theorem lying_end {w U : World} {g o : Nat} {cs : List Value} {t t' : TypeId} (T : VRow U g t cs) (R : IRow .i64 U o t' (List.replicate 9 0)) (B : Only g w U) (hg : g ≠ o) (ho : w.heap.size ≤ o) (s v0 v1 v2 v3 v4 v5 v6 v7 : Int) :
 IRow .i64 ((((((((((U.setCell ⟨o,0,none⟩ (.int .i64 s)).setCell ⟨o,1,none⟩ (.int .i64 v0)).setCell ⟨o,2,none⟩ (.int .i64 v1)).setCell ⟨o,3,none⟩ (.int .i64 v2)).setCell ⟨o,4,none⟩ (.int .i64 v3)).setCell ⟨o,5,none⟩ (.int .i64 v4)).setCell ⟨o,6,none⟩ (.int .i64 v5)).setCell ⟨o,7,none⟩ (.int .i64 v6)).setCell ⟨o,8,none⟩ (.int .i64 v7))) o t' [s,v0,v1,v2,v3,v4,v5,v6,v7] ∧ VRow ((((((((((U.setCell ⟨o,0,none⟩ (.int .i64 s)).setCell ⟨o,1,none⟩ (.int .i64 v0)).setCell ⟨o,2,none⟩ (.int .i64 v1)).setCell ⟨o,3,none⟩ (.int .i64 v2)).setCell ⟨o,4,none⟩ (.int .i64 v3)).setCell ⟨o,5,none⟩ (.int .i64 v4)).setCell ⟨o,6,none⟩ (.int .i64 v5)).setCell ⟨o,7,none⟩ (.int .i64 v6)).setCell ⟨o,8,none⟩ (.int .i64 v7))) g t cs ∧ Only g w ((((((((((U.setCell ⟨o,0,none⟩ (.int .i64 s)).setCell ⟨o,1,none⟩ (.int .i64 v0)).setCell ⟨o,2,none⟩ (.int .i64 v1)).setCell ⟨o,3,none⟩ (.int .i64 v2)).setCell ⟨o,4,none⟩ (.int .i64 v3)).setCell ⟨o,5,none⟩ (.int .i64 v4)).setCell ⟨o,6,none⟩ (.int .i64 v5)).setCell ⟨o,7,none⟩ (.int .i64 v6)).setCell ⟨o,8,none⟩ (.int .i64 v7))) := by
 refine ⟨stored9 s v0 v1 v2 v3 v4 v5 v6 v7 R,?_,?_⟩
 · exact (((((((((T.setOther (p := ⟨o,0,none⟩) hg _).setOther (p := ⟨o,1,none⟩) hg _).setOther (p := ⟨o,2,none⟩) hg _).setOther (p := ⟨o,3,none⟩) hg _).setOther (p := ⟨o,4,none⟩) hg _).setOther (p := ⟨o,5,none⟩) hg _).setOther (p := ⟨o,6,none⟩) hg _).setOther (p := ⟨o,7,none⟩) hg _).setOther (p := ⟨o,8,none⟩) hg _)
 · have h (W : World) (i : Nat) (v : Value) (q : But (· = g) w W) : But (· = g) w (W.setCell ⟨o,i,none⟩ v) := q.setCell (p := ⟨o,i,none⟩) (Or.inr ho) v
   exact h _ 8 _ (h _ 7 _ (h _ 6 _ (h _ 5 _ (h _ 4 _ (h _ 3 _ (h _ 2 _ (h _ 1 _ (h _ 0 _ B))))))))
theorem lying_marked {w W : World} {g6 g : Nat} {c last : Int} {has : Bool} {n : List Int} {t : TypeId} {f : List Int} (L : Lying w W g6 g (trk c last has n) t f) (nq : Nat) (s : Int) :
 VRow (((W.drewN nq).setCell ⟨g,1,none⟩ (.int .i64 s)).setCell ⟨g,2,none⟩ (.bool true)) g t (trk c s true n) ∧ IRow .i64 (((W.drewN nq).setCell ⟨g,1,none⟩ (.int .i64 s)).setCell ⟨g,2,none⟩ (.bool true)) (w.heap.size + 1) 123 (List.replicate 9 0) ∧
  Only g w (((W.drewN nq).setCell ⟨g,1,none⟩ (.int .i64 s)).setCell ⟨g,2,none⟩ (.bool true)) := by
 have hl := L.lt
 have ne : w.heap.size + 1 ≠ g := by omega
 refine ⟨((L.trk.drewN nq).set 1 _).set 2 _,?_,?_⟩
 · exact ((L.out.drewN nq).vrow.setOther (p := ⟨g,1,none⟩) ne _).setOther (p := ⟨g,2,none⟩) ne _
 · have b0 : But (· = g) w (W.drewN nq) := (But.of_below L.below).drewN nq
   exact (b0.setCell (p := ⟨g,1,none⟩) (Or.inl rfl) _).setCell (p := ⟨g,2,none⟩) (Or.inl rfl) _
section
variable (g : Nat) (c last : Int) (has : Bool) (n : List Int) (is : Bool) (a : Option Addr) (cap : Nat) (l : List Int) (w : World)
theorem judge_facts (hy : Bytes l) : ∃ s v0 v1 v2 v3 v4 v5 v6 v7 : Int,dec c is l = [s,v0,v1,v2,v3,v4,v5,v6,v7] ∧
 (rej c is l ≠ 0 → jr c last has is l = rej c is l ∧ jf c last has is l = List.replicate 9 0 ∧ jl c last is l = last ∧ jh c has is l = has) ∧
 (rej c is l = 0 → has = false ∨ s = next last → jr c last has is l = 0 ∧ jf c last has is l = [s,v0,v1,v2,v3,v4,v5,v6,v7] ∧ jl c last is l = s ∧ jh c has is l = true) ∧
 (rej c is l = 0 → has = true → s ≠ next last → jr c last has is l = 6 ∧ jf c last has is l = List.replicate 9 0 ∧ jl c last is l = s ∧ jh c has is l = true) := by
 obtain ⟨s,v0,v1,v2,v3,v4,v5,v6,v7,hd⟩ := nine (dec c is l) (dec_len hy)
 refine ⟨s,v0,v1,v2,v3,v4,v5,v6,v7,hd,fun h => ⟨jr_no h,jf_no h,jl_no h,jh_no h⟩,fun h k => ?_,fun h k k' => ?_⟩
 · have e := dec_yes h
   rw [hd] at e
   have es := (List.cons.inj e).1
   rw [es] at k
   exact ⟨jr_fine h k,(jf_fine h k).trans e.symm,(jl_yes h).trans es.symm,jh_yes h⟩
 · have e := dec_yes h
   rw [hd] at e
   have es := (List.cons.inj e).1
   rw [es] at k'
   exact ⟨jr_stale h k k',jf_stale h k k',(jl_yes h).trans es.symm,jh_yes h⟩
set_option maxHeartbeats 3200000 in
theorem judge_any (hT : VRow w g 170 (trk c last has n)) (hm : l.length ≤ cap) (hy : Bytes l) (hb : IntsAt .u8 w a l) :
 Calls Tryz.prog 123 #[.pointer (some ⟨g,0,none⟩),.agg #[.bool is,.slice a l.length cap]] w (JudgeR w g 170 c last has n is l) := by
 have B0 := Lib.hid (begun w g _ _ is a cap l hT hb)
 have hg := hT.lt
 obtain ⟨s,v0,v1,v2,v3,v4,v5,v6,v7,hd,j0,j1,j2⟩ := judge_facts c last has is l hy
 have CD := fun W hb => (dec_any c is a cap l W hm hy hb).mono fun e w' q => dec_form (vs := [.int .i64 s,.int .i64 v0,.int .i64 v1,.int .i64 v2,.int .i64 v3,.int .i64 v4,.int .i64 v5,.int .i64 v6,.int .i64 v7]) q (by rw [hd]; rfl)
 have J0 := Lib.hid j0
 have J1 := Lib.hid j1
 have J2 := Lib.hid j2
 clear hT hb hm hy j0 j1 j2 hd
 generalize rej c is l = r at *
 go_enter Tryz.func123,Tryz.ntmps123
 go_wp2
 generalize (w.alloc (.cells #[.bool is,.slice a l.length cap] 45)).alloc (.cells #[.int .i64 0,.int .i64 0,.int .i64 0,.int .i64 0,.int .i64 0,.int .i64 0,.int .i64 0,.int .i64 0,.int .i64 0] 123) = W at *
 have s0 := B0.out.s0
 have s1 := B0.out.s1
 have c0 := B0.out.trk.cell 0 (v := .int .i64 c) rfl
 have s0' := alloc_cell (.cells #[.int .i64 0,.int .i64 0,.int .i64 0,.int .i64 0,.int .i64 0,.int .i64 0,.int .i64 0,.int .i64 0,.int .i64 0] 123) s0
 have s1' := alloc_cell (.cells #[.int .i64 0,.int .i64 0,.int .i64 0,.int .i64 0,.int .i64 0,.int .i64 0,.int .i64 0,.int .i64 0,.int .i64 0] 123) s1
 have c0' := alloc_cell (.cells #[.int .i64 0,.int .i64 0,.int .i64 0,.int .i64 0,.int .i64 0,.int .i64 0,.int .i64 0,.int .i64 0,.int .i64 0] 123) c0
 go_upto_region 1 with fail
 go_cut [6,7] (fun s6 s7 wx => ∃ g6 : Nat,s6 = .pointer (some ⟨g6,0,none⟩) ∧ s7 = .int .i64 r ∧ Hid (Lying w wx g6 g (trk c last has n) 170 [s,v0,v1,v2,v3,v4,v5,v6,v7]))
 case first =>
  go_region_with (go_at_call 175; first
   | (refine (CD _ B0.out.bytes.drew).mono ?_; rintro e w1 ⟨rfl,b1⟩)
   | (refine (CD _ (B0.out.bytes.below ((Below.refl _ _).alloc (Nat.le_refl _) _)).drew).mono ?_; rintro e w1 ⟨rfl,b1⟩
      have P1 := Lib.hid (box_after b1); obtain ⟨z0,z1,z2,z3,z4,z5,z6,z7,z8⟩ := row9 P1.out; obtain ⟨q0,q1,q2,q3,q4,q5,q6,q7,q8⟩ := row9_frozen P1.out))
  all_goals (go_wp2_with fail; go_meet)
  all_goals first
   | exact ⟨_,rfl,rfl,Lib.hid (lying_a B0.out b1 hg s v0 v1 v2 v3 v4 v5 v6 v7)⟩
   | exact ⟨_,rfl,rfl,Lib.hid (lying_b B0.out b1 hg s v0 v1 v2 v3 v4 v5 v6 v7)⟩
 case rest =>
  obtain ⟨g6,rfl,rfl,L⟩ := hcut
  clear B0 s0 s1 c0 s0' s1' c0' CD
  obtain ⟨z0,z1,z2,z3,z4,z5,z6,z7,z8⟩ := row9 (show IRow .i64 wc (w.heap.size + 1) 123 [0,0,0,0,0,0,0,0,0] from L.out.out)
  obtain ⟨q0,q1,q2,q3,q4,q5,q6,q7,q8⟩ := row9_frozen L.out.out
  obtain ⟨y0,y1,y2,y3,y4,y5,y6,y7,y8⟩ := row9 L.out.box
  have c1 := L.out.trk.cell 1 (v := .int .i64 last) rfl
  have c2 := L.out.trk.cell 2 (v := .bool has) rfl
  have f1 := L.out.trk.frozen 1
  have f2 := L.out.trk.frozen 2
  have t2 := L.out.le
  have n1 : g ≠ g6 := by omega
  have n2 : g6 ≠ g := by omega
  have n3 : g ≠ w.heap.size + 1 := by omega
  have n4 : w.heap.size + 1 ≠ g := by omega
  have n5 : g6 ≠ w.heap.size + 1 := by omega
  have n6 : w.heap.size + 1 ≠ g6 := by omega
  clear t2
  by_cases hr : r = 0
  · subst hr
    cases has
    · go_wp2_with fail
      go_quiet (fail)
      go_wp2
      obtain ⟨e1,e2,e3⟩ := lying_marked L.out nq s
      obtain ⟨e4,e5,e6⟩ := lying_end e1 e2 e3 n3 (Nat.le_succ _) s v0 v1 v2 v3 v4 v5 v6 v7
      obtain ⟨i1,i2,i3,i4⟩ := J1.out (by simp) (Or.inl (by simp))
      refine bodyPost_ret (v := .tuple #[.agg #[.int .i64 s,.int .i64 v0,.int .i64 v1,.int .i64 v2,.int .i64 v3,.int .i64 v4,.int .i64 v5,.int .i64 v6,.int .i64 v7],.int .i64 0]) ?_ rfl ⟨by rw [i1,i2]; rfl,by rw [i3,i4]; exact e5,e6⟩
      exact (Agg.ret_row2 (l := [s,v0,v1,v2,v3,v4,v5,v6,v7]) rfl rfl (agg9 _) size9 e4).trans rfl
    · by_cases hs : s = next last
      · have ds : (s == next last) = true := by simpa using hs
        have HS := Lib.hid hs
        clear hs
        go_wp2_with fail
        go_quiet ((go_at_call 28; exact still_quiet (fun W => next_any _ W)))
        go_wp2
        obtain ⟨e1,e2,e3⟩ := lying_marked L.out nq s
        obtain ⟨e4,e5,e6⟩ := lying_end e1 e2 e3 n3 (Nat.le_succ _) s v0 v1 v2 v3 v4 v5 v6 v7
        obtain ⟨i1,i2,i3,i4⟩ := J1.out (by simp) (Or.inr HS.out)
        refine bodyPost_ret (v := .tuple #[.agg #[.int .i64 s,.int .i64 v0,.int .i64 v1,.int .i64 v2,.int .i64 v3,.int .i64 v4,.int .i64 v5,.int .i64 v6,.int .i64 v7],.int .i64 0]) ?_ rfl ⟨by rw [i1,i2]; rfl,by rw [i3,i4]; exact e5,e6⟩
        exact (Agg.ret_row2 (l := [s,v0,v1,v2,v3,v4,v5,v6,v7]) rfl rfl (agg9 _) size9 e4).trans rfl
      · have ds : (s == next last) = false := by simpa using hs
        have HS := Lib.hid hs
        clear hs
        go_wp2_with fail
        go_quiet ((go_at_call 28; exact still_quiet (fun W => next_any _ W)))
        go_wp2
        obtain ⟨e1,e2,e3⟩ := lying_marked L.out nq s
        obtain ⟨e4,e5,e6⟩ := lying_end e1 e2 e3 n3 (Nat.le_succ _) 0 0 0 0 0 0 0 0 0
        obtain ⟨i1,i2,i3,i4⟩ := J2.out (by simp) (by simp) HS.out
        refine bodyPost_ret (v := .tuple #[.agg #[.int .i64 0,.int .i64 0,.int .i64 0,.int .i64 0,.int .i64 0,.int .i64 0,.int .i64 0,.int .i64 0,.int .i64 0],.int .i64 6]) ?_ rfl ⟨by rw [i1,i2]; rfl,by rw [i3,i4]; exact e5,e6⟩
        exact (Agg.ret_row2 (l := [0,0,0,0,0,0,0,0,0]) rfl rfl (agg9 _) size9 e4).trans rfl
  · have dr : (r != 0) = true := by simpa using hr
    go_wp2
    obtain ⟨e4,e5,e6⟩ := lying_end L.out.trk L.out.out (But.of_below L.out.below) n3 (Nat.le_succ _) 0 0 0 0 0 0 0 0 0
    obtain ⟨i1,i2,i3,i4⟩ := J0.out hr
    refine bodyPost_ret (v := .tuple #[.agg #[.int .i64 0,.int .i64 0,.int .i64 0,.int .i64 0,.int .i64 0,.int .i64 0,.int .i64 0,.int .i64 0,.int .i64 0],.int .i64 r]) ?_ rfl ⟨by rw [i1,i2]; rfl,by rw [i3,i4]; exact e5,e6⟩
    exact (Agg.ret_row2 (l := [0,0,0,0,0,0,0,0,0]) rfl rfl (agg9 _) size9 e4).trans rfl
end
end Fh
end Go.Proofs.YticidhbnljdidaaGreatDoor
