/-
  What Decode of package frame does: its contract by walking the Go text. Conditions: where the bytes lie.
-/
import Derived.Test.YtchnnpaebggfdaaJWordFours3
import Derived.Test.YtchnnpaebggfdaaJCrcStep4
namespace Go.Proofs.Ytchnnpaebggfdaa
set_option maxRecDepth 100000
open Go.ChangeShapes Go.WideShapes Go.ChangeAt Go.RowKit Go.Deep
namespace Fm
open Wd
open Cr (Bytes opens opened opened_yes opened_no)
/-- What Decode hands back: a frame, and a reject. -/
def RetFR (w : World) (l : List Int) (r : Int) (e : Ending) (w' : World) : Prop :=
  e = .returned (.tuple #[.agg (cellsI .i64 l).toArray, .int .i64 r]) ∧ Below w.heap.size w w'
theorem fseq_take (l : List Int) : get2v (((l.take 36).drop 2).take 2) = fseq l := by
  unfold fseq; rw [List.drop_take, List.take_take]; rfl
theorem fvals_take (l : List Int) : nums ((l.take 36).drop 4) = fvals l := by
  unfold fvals; rw [List.drop_take]
theorem intsAt_some {k : IntKind} {w : World} {a : Option Addr} {l : List Int} (h : IntsAt k w a l) (hp : 0 < l.length) : ∃ b off, a = some ⟨b, off, none⟩ ∧ IntsAt k w (some ⟨b, off, none⟩) l := by
  rcases h with rfl | ⟨b, off, rfl, hc⟩
  · simp at hp
  · exact ⟨b, off, rfl, Or.inr ⟨b, off, rfl, hc⟩⟩
theorem ints_cell {k : IntKind} {w : World} {b off : Nat} {l : List Int} (h : IntsAt k w (some ⟨b, off, none⟩) l) (i : Nat) (hi : i < l.length) : w.cell? ⟨b, off + i, none⟩ = some (.int k (l.getD i 0)) := by
  rcases h with rfl | ⟨b', off', he, hc⟩
  · simp at hi
  · cases he; exact hc i hi
theorem dec_start (w : World) (x : Value) (v : Value) : IRow .i64 ((w.alloc (.cells #[x, v] 61)).alloc (.cells #[.int .i64 0, .int .i64 0, .int .i64 0, .int .i64 0, .int .i64 0, .int .i64 0, .int .i64 0, .int .i64 0, .int .i64 0] 92)) (w.heap.size + 1) 92 (List.replicate 9 0) ∧
    ((w.alloc (.cells #[x, v] 61)).alloc (.cells #[.int .i64 0, .int .i64 0, .int .i64 0, .int .i64 0, .int .i64 0, .int .i64 0, .int .i64 0, .int .i64 0, .int .i64 0] 92)).cell? ⟨w.heap.size, 1, none⟩ = some v ∧
    ((w.alloc (.cells #[x, v] 61)).alloc (.cells #[.int .i64 0, .int .i64 0, .int .i64 0, .int .i64 0, .int .i64 0, .int .i64 0, .int .i64 0, .int .i64 0, .int .i64 0] 92)).heap.size = w.heap.size + 2 ∧
    Below w.heap.size w ((w.alloc (.cells #[x, v] 61)).alloc (.cells #[.int .i64 0, .int .i64 0, .int .i64 0, .int .i64 0, .int .i64 0, .int .i64 0, .int .i64 0, .int .i64 0, .int .i64 0] 92)) := by
  refine ⟨?_, ?_, by simp, ((Below.refl w.heap.size w).alloc (Nat.le_refl _) _).alloc (by simp) _⟩
  · have := heap_alloc_new (w.alloc (.cells #[x, v] 61)) (.cells #[.int .i64 0, .int .i64 0, .int .i64 0, .int .i64 0, .int .i64 0, .int .i64 0, .int .i64 0, .int .i64 0, .int .i64 0] 92)
    rw [show (w.alloc (.cells #[x, v] 61)).heap.size = w.heap.size + 1 by simp] at this
    exact this
  · rw [((Below.refl _ (w.alloc (.cells #[x, v] 61))).alloc (Nat.le_refl _) (.cells #[.int .i64 0, .int .i64 0, .int .i64 0, .int .i64 0, .int .i64 0, .int .i64 0, .int .i64 0, .int .i64 0, .int .i64 0] 92)).cell (p := ⟨w.heap.size, 1, none⟩) (by simp)]
    rw [cell_of_row _ _ 1 _ _ (0, 0) (heap_alloc_new w _)]; rfl
section
variable (c : Int) (is : Bool) (a : Option Addr) (cap : Nat) (l : List Int) (w : World)
set_option maxHeartbeats 800000 in
theorem dec_head_any (hy : Bytes l) (hb : IntsAt .u8 w a l) (h : hrej c is l ≠ 0) :
    Calls Try.prog 36 #[.int .i64 c, .agg #[.bool is, .slice a l.length cap]] w (RetFR w (dec c is l) (rej c is l)) := by
  obtain ⟨s1, s2, s3, s4⟩ := dec_start w (.bool is) (.slice a l.length cap)
  have S4 := Lib.hid s4
  have CH := head_any c is a cap l ((w.alloc (.cells #[.bool is, .slice a l.length cap] 61)).alloc (.cells #[.int .i64 0, .int .i64 0, .int .i64 0, .int .i64 0, .int .i64 0, .int .i64 0, .int .i64 0, .int .i64 0, .int .i64 0] 92)) hy (hb.below s4)
  have S1 := Lib.hid s1
  have HR := Lib.hid (show hrej c is l = rej c is l by rw [hrej_rej, if_neg h])
  have HD := Lib.hid (show List.replicate 9 0 = dec c is l from (dec_no (by rw [← HR.out]; exact h)).symm)
  have d : (hrej c is l != 0) = true := by simpa using h
  clear s1 s4 hy hb h
  generalize hrej c is l = r at *
  generalize l.length = n at *
  go_enter Try.func36, Try.ntmps36
  go_wp2_with (go_at_call 50; refine CH.mono ?_; rintro e w1 ⟨rfl, b1⟩
               have R1 := Lib.hid (S1.out.below b1 (by rw [s3]; omega)); have B1 := Lib.hid (S4.out.trans (b1.mono (by rw [s3]; omega))); clear b1
               obtain ⟨z0, z1, z2, z3, z4, z5, z6, z7, z8⟩ := row9 (show IRow .i64 w1 (w.heap.size + 1) 92 [0, 0, 0, 0, 0, 0, 0, 0, 0] from R1.out)
               obtain ⟨q0, q1, q2, q3, q4, q5, q6, q7, q8⟩ := row9_frozen R1.out)
  have R2 := stored9 0 0 0 0 0 0 0 0 0 R1.out
  have B2 := stored9_below (g := w.heap.size + 1) 0 0 0 0 0 0 0 0 0 B1.out (Nat.le_succ _)
  refine bodyPost_ret (v := .tuple #[.agg #[.int .i64 0, .int .i64 0, .int .i64 0, .int .i64 0, .int .i64 0, .int .i64 0, .int .i64 0, .int .i64 0, .int .i64 0], .int .i64 r]) ?_ rfl ⟨by rw [← HR.out, ← HD.out]; rfl, B2⟩
  exact (Agg.ret_row2 (l := [0, 0, 0, 0, 0, 0, 0, 0, 0]) rfl rfl (agg9 _) size9 R2).trans rfl
set_option maxHeartbeats 800000 in
theorem dec_sum_any (hm : l.length ≤ cap) (hy : Bytes l) (hb : IntsAt .u8 w a l) (h : hrej c is l = 0) (ho : opens l = false) :
    Calls Try.prog 36 #[.int .i64 c, .agg #[.bool is, .slice a l.length cap]] w (RetFR w (dec c is l) (rej c is l)) := by
  obtain ⟨rfl, h38, -, -⟩ := hrej_fine h
  obtain ⟨s1, s2, s3, s4⟩ := dec_start w (.bool true) (.slice a l.length cap)
  have S4 := Lib.hid s4
  have CH := head_any c true a cap l ((w.alloc (.cells #[.bool true, .slice a l.length cap] 61)).alloc (.cells #[.int .i64 0, .int .i64 0, .int .i64 0, .int .i64 0, .int .i64 0, .int .i64 0, .int .i64 0, .int .i64 0, .int .i64 0] 92)) hy (hb.below s4)
  rw [h] at CH
  have S1 := Lib.hid s1
  have HR := Lib.hid (show rej c true l = 5 by rw [hrej_rej, if_pos h, if_neg (by rw [ho]; simp)])
  have HD := Lib.hid (show List.replicate 9 0 = dec c true l from (dec_no (by rw [HR.out]; simp)).symm)
  have HB := Lib.hid hb
  have CO := Lib.hid (fun W hb => Cr.open_cap a cap l W (by omega) hm hy hb)
  rw [opened_no ho, ho, h38] at CO
  rw [h38] at CH s2 s3 S1 S4 ⊢
  clear s1 s4 hy hb h ho h38
  go_enter Try.func36, Try.ntmps36
  go_wp2_with (first
    | (go_at_call 50; refine CH.mono ?_; rintro e w1 ⟨rfl, b1⟩
       have R1 := Lib.hid (S1.out.below b1 (by rw [s3]; omega)); have B1 := Lib.hid (S4.out.trans (b1.mono (by rw [s3]; omega)))
       have c1 : w1.cell? ⟨w.heap.size, 1, none⟩ = some (.slice a 38 cap) := (b1.cell (p := ⟨w.heap.size, 1, none⟩) (by rw [s3]; show w.heap.size < _; omega)).trans s2
       clear b1)
    | (go_at_call 51; refine (CO.out _ (HB.out.below B1.out)).mono ?_; rintro e w2 ⟨a2, cap2, rfl, i2, m2, b2⟩
       have R2 := Lib.hid (R1.out.below b2 R1.out.lt); have B2 := Lib.hid (grow B1.out b2); clear b2 i2
       obtain ⟨z0, z1, z2, z3, z4, z5, z6, z7, z8⟩ := row9 (show IRow .i64 w2 (w.heap.size + 1) 92 [0, 0, 0, 0, 0, 0, 0, 0, 0] from R2.out)
       obtain ⟨q0, q1, q2, q3, q4, q5, q6, q7, q8⟩ := row9_frozen R2.out))
  have R3 := stored9 0 0 0 0 0 0 0 0 0 R2.out
  have B3 := stored9_below (g := w.heap.size + 1) 0 0 0 0 0 0 0 0 0 B2.out (Nat.le_succ _)
  refine bodyPost_ret (v := .tuple #[.agg #[.int .i64 0, .int .i64 0, .int .i64 0, .int .i64 0, .int .i64 0, .int .i64 0, .int .i64 0, .int .i64 0, .int .i64 0], .int .i64 5]) ?_ rfl ⟨by rw [HR.out, ← HD.out]; rfl, B3⟩
  exact (Agg.ret_row2 (l := [0, 0, 0, 0, 0, 0, 0, 0, 0]) rfl rfl (agg9 _) size9 R3).trans rfl
set_option maxHeartbeats 800000 in
theorem dec_fine_any (hm : l.length ≤ cap) (hy : Bytes l) (hb : IntsAt .u8 w a l) (h : hrej c is l = 0) (ho : opens l = true) :
    Calls Try.prog 36 #[.int .i64 c, .agg #[.bool is, .slice a l.length cap]] w (RetFR w (dec c is l) (rej c is l)) := by
  obtain ⟨rfl, h38, -, -⟩ := hrej_fine h
  obtain ⟨s1, s2, s3, s4⟩ := dec_start w (.bool true) (.slice a l.length cap)
  have S4 := Lib.hid s4
  have CH := head_any c true a cap l ((w.alloc (.cells #[.bool true, .slice a l.length cap] 61)).alloc (.cells #[.int .i64 0, .int .i64 0, .int .i64 0, .int .i64 0, .int .i64 0, .int .i64 0, .int .i64 0, .int .i64 0, .int .i64 0] 92)) hy (hb.below s4)
  rw [h] at CH
  have S1 := Lib.hid s1
  have HR := Lib.hid (show rej c true l = 0 by rw [hrej_rej, if_pos h, if_pos ho])
  have HD := Lib.hid (show fseq l :: fvals l = dec c true l from (dec_yes HR.out).symm)
  have HB := Lib.hid hb
  have CO := Lib.hid (fun W hb => Cr.open_cap a cap l W (by omega) hm hy hb)
  have l36 : (l.take 36).length = 36 := by rw [List.length_take]; omega
  rw [opened_yes ho, ho, h38, show 38 - 2 = 36 from rfl] at CO
  rw [h38] at CH s2 s3 S1 S4 ⊢
  obtain ⟨-, e8, -, -⟩ := dec_right h38 hy
  have CD := Lib.hid (fun b off cap W (hc : 36 ≤ cap) hb => Fm.read_any b off cap (l.take 36) W l36 hc (hy.take 36) hb)
  rw [fseq_take, fvals_take] at CD
  clear s1 s4 hy hb h ho h38
  generalize fseq l = s at *
  generalize fvals l = vs at *
  obtain ⟨v0, v1, v2, v3, v4, v5, v6, v7, rfl⟩ := eight vs e8
  generalize l.take 36 = told at *
  go_enter Try.func36, Try.ntmps36
  go_wp2_with (first
    | (go_at_call 50; refine CH.mono ?_; rintro e w1 ⟨rfl, b1⟩
       have R1 := Lib.hid (S1.out.below b1 (by rw [s3]; omega)); have B1 := Lib.hid (S4.out.trans (b1.mono (by rw [s3]; omega)))
       have c1 : w1.cell? ⟨w.heap.size, 1, none⟩ = some (.slice a 38 cap) := (b1.cell (p := ⟨w.heap.size, 1, none⟩) (by rw [s3]; show w.heap.size < _; omega)).trans s2
       clear b1)
    | (go_at_call 51; refine (CO.out _ (HB.out.below B1.out)).mono ?_; rintro e w2 ⟨a2, cap2, rfl, i2, m2, b2⟩
       have R2 := Lib.hid (R1.out.below b2 R1.out.lt); have B2 := Lib.hid (grow B1.out b2); clear b2
       obtain ⟨bb, off, rfl, i3⟩ := intsAt_some i2 (by rw [l36]; omega)
       rw [l36] at m2 ⊢
       have CD2 := Lib.hid (CD.out bb off cap2 w2 m2 i3); clear i2 i3)
    | (go_at_call 52; refine CD2.out.mono ?_; rintro e w3 ⟨h3, b3⟩; have h3' : e = .returned (.agg #[.int .i64 s, .int .i64 v0, .int .i64 v1, .int .i64 v2, .int .i64 v3, .int .i64 v4, .int .i64 v5, .int .i64 v6, .int .i64 v7]) := h3; subst h3'; clear h3
       have R3 := Lib.hid (R2.out.below b3 R2.out.lt); have B3 := Lib.hid (grow B2.out b3); clear b3
       obtain ⟨z0, z1, z2, z3, z4, z5, z6, z7, z8⟩ := row9 (show IRow .i64 w3 (w.heap.size + 1) 92 [0, 0, 0, 0, 0, 0, 0, 0, 0] from R3.out)
       obtain ⟨q0, q1, q2, q3, q4, q5, q6, q7, q8⟩ := row9_frozen R3.out))
  have R4 := stored9 s v0 v1 v2 v3 v4 v5 v6 v7 R3.out
  have B4 := stored9_below (g := w.heap.size + 1) s v0 v1 v2 v3 v4 v5 v6 v7 B3.out (Nat.le_succ _)
  refine bodyPost_ret (v := .tuple #[.agg #[.int .i64 s, .int .i64 v0, .int .i64 v1, .int .i64 v2, .int .i64 v3, .int .i64 v4, .int .i64 v5, .int .i64 v6, .int .i64 v7], .int .i64 0]) ?_ rfl ⟨by rw [HR.out, ← HD.out]; rfl, B4⟩
  exact (Agg.ret_row2 (l := [s, v0, v1, v2, v3, v4, v5, v6, v7]) rfl rfl (agg9 _) size9 R4).trans rfl
theorem dec_any (hm : l.length ≤ cap) (hy : Bytes l) (hb : IntsAt .u8 w a l) :
    Calls Try.prog 36 #[.int .i64 c, .agg #[.bool is, .slice a l.length cap]] w (RetFR w (dec c is l) (rej c is l)) := by
  by_cases h : hrej c is l = 0
  · cases ho : opens l
    · exact dec_sum_any c is a cap l w hm hy hb h ho
    · exact dec_fine_any c is a cap l w hm hy hb h ho
  · exact dec_head_any c is a cap l w hy hb h
end
end Fm
end Go.Proofs.Ytchnnpaebggfdaa
