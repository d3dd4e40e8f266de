/-
  What Decode of rudderref05 does, where the head rejects: its contract by walking the Go text. Conditions: where the bytes lie.
  What Decode of rudderref05 does: its contract by walking the Go text. Conditions: where the bytes lie.
-/
import Derived.Test.YtchnnpaebggfdaaFrameDec
import Derived.Test.YtchnnpaebggfdaaJCrcRef4
namespace Go.Proofs.Ytchnnpaebggfdaa
set_option maxRecDepth 100000
open Go.ChangeShapes Go.WideShapes Go.ChangeAt Go.RowKit Go.Deep
namespace Fm
open Wd
open Cr (Bytes opens opened opened_yes opened_no)
theorem rdec_start (w : World) (x : Value) (v : Value) : IRow .i64 (((w.alloc (.cells #[x, v] 61)).alloc (.cells #[.int .i64 0, .int .i64 0, .int .i64 0, .int .i64 0, .int .i64 0, .int .i64 0, .int .i64 0, .int .i64 0, .int .i64 0] 92)).alloc (.cells #[.int .i64 0, .int .i64 0, .int .i64 0, .int .i64 0, .int .i64 0, .int .i64 0, .int .i64 0, .int .i64 0, .int .i64 0] 92)) (w.heap.size + 1) 92 (List.replicate 9 0) ∧
    IRow .i64 (((w.alloc (.cells #[x, v] 61)).alloc (.cells #[.int .i64 0, .int .i64 0, .int .i64 0, .int .i64 0, .int .i64 0, .int .i64 0, .int .i64 0, .int .i64 0, .int .i64 0] 92)).alloc (.cells #[.int .i64 0, .int .i64 0, .int .i64 0, .int .i64 0, .int .i64 0, .int .i64 0, .int .i64 0, .int .i64 0, .int .i64 0] 92)) (w.heap.size + 1 + 1) 92 (List.replicate 9 0) ∧
    (((w.alloc (.cells #[x, v] 61)).alloc (.cells #[.int .i64 0, .int .i64 0, .int .i64 0, .int .i64 0, .int .i64 0, .int .i64 0, .int .i64 0, .int .i64 0, .int .i64 0] 92)).alloc (.cells #[.int .i64 0, .int .i64 0, .int .i64 0, .int .i64 0, .int .i64 0, .int .i64 0, .int .i64 0, .int .i64 0, .int .i64 0] 92)).cell? ⟨w.heap.size, 1, none⟩ = some v ∧
    (((w.alloc (.cells #[x, v] 61)).alloc (.cells #[.int .i64 0, .int .i64 0, .int .i64 0, .int .i64 0, .int .i64 0, .int .i64 0, .int .i64 0, .int .i64 0, .int .i64 0] 92)).alloc (.cells #[.int .i64 0, .int .i64 0, .int .i64 0, .int .i64 0, .int .i64 0, .int .i64 0, .int .i64 0, .int .i64 0, .int .i64 0] 92)).heap.size = w.heap.size + 3 ∧
    Below w.heap.size w (((w.alloc (.cells #[x, v] 61)).alloc (.cells #[.int .i64 0, .int .i64 0, .int .i64 0, .int .i64 0, .int .i64 0, .int .i64 0, .int .i64 0, .int .i64 0, .int .i64 0] 92)).alloc (.cells #[.int .i64 0, .int .i64 0, .int .i64 0, .int .i64 0, .int .i64 0, .int .i64 0, .int .i64 0, .int .i64 0, .int .i64 0] 92)) := by
  obtain ⟨h1, h2, h3, h4⟩ := dec_start w x v
  refine ⟨h1.alloc _, ?_, ?_, by simp, h4.alloc (by rw [h3]; omega) _⟩
  · have := heap_alloc_new ((w.alloc (.cells #[x, v] 61)).alloc (.cells #[.int .i64 0, .int .i64 0, .int .i64 0, .int .i64 0, .int .i64 0, .int .i64 0, .int .i64 0, .int .i64 0, .int .i64 0] 92)) (.cells #[.int .i64 0, .int .i64 0, .int .i64 0, .int .i64 0, .int .i64 0, .int .i64 0, .int .i64 0, .int .i64 0, .int .i64 0] 92)
    rw [h3] at this
    exact this
  · rw [((Below.refl _ ((w.alloc (.cells #[x, v] 61)).alloc (.cells #[.int .i64 0, .int .i64 0, .int .i64 0, .int .i64 0, .int .i64 0, .int .i64 0, .int .i64 0, .int .i64 0, .int .i64 0] 92))).alloc (Nat.le_refl _) (.cells #[.int .i64 0, .int .i64 0, .int .i64 0, .int .i64 0, .int .i64 0, .int .i64 0, .int .i64 0, .int .i64 0, .int .i64 0] 92)).cell (p := ⟨w.heap.size, 1, none⟩) (by rw [h3]; show w.heap.size < _; omega)]
    exact h2
section
variable (c : Int) (is : Bool) (a : Option Addr) (cap : Nat) (l : List Int) (w : World)
set_option maxHeartbeats 800000 in
theorem rdec_absent_any :
    Calls Try.prog 40 #[.int .i64 c, .agg #[.bool false, .slice a l.length cap]] w (RetFR w (dec c false l) (rej c false l)) := by
  have HR := Lib.hid (rej_absent c l)
  have HD := Lib.hid (show List.replicate 9 0 = dec c false l from (dec_no (by rw [HR.out]; simp)).symm)
  obtain ⟨s1, -, -, -, s5⟩ := rdec_start w (.bool false) (.slice a l.length cap)
  have S1 := Lib.hid s1
  have S5 := Lib.hid s5
  clear s1 s5
  generalize l.length = n at *
  go_enter Try.func40, Try.ntmps40
  go_wp2
  refine bodyPost_ret (v := .tuple #[.agg #[.int .i64 0, .int .i64 0, .int .i64 0, .int .i64 0, .int .i64 0, .int .i64 0, .int .i64 0, .int .i64 0, .int .i64 0], .int .i64 1]) ?_ rfl ⟨by rw [HR.out, ← HD.out]; rfl, S5.out⟩
  exact (Agg.ret_row2 (l := [0, 0, 0, 0, 0, 0, 0, 0, 0]) rfl rfl (agg9 _) size9 S1.out).trans rfl
set_option maxHeartbeats 800000 in
theorem rdec_length_any (h : l.length ≠ 38) :
    Calls Try.prog 40 #[.int .i64 c, .agg #[.bool true, .slice a l.length cap]] w (RetFR w (dec c true l) (rej c true l)) := by
  have HR := Lib.hid (rej_length (c := c) h)
  have HD := Lib.hid (show List.replicate 9 0 = dec c true l from (dec_no (by rw [HR.out]; simp)).symm)
  obtain ⟨s1, -, -, -, s5⟩ := rdec_start w (.bool true) (.slice a l.length cap)
  have S1 := Lib.hid s1
  have S5 := Lib.hid s5
  have d : ((l.length : Int) != 38) = true := by simp; omega
  clear s1 s5 h
  generalize l.length = n at *
  go_enter Try.func40, Try.ntmps40
  go_wp2
  refine bodyPost_ret (v := .tuple #[.agg #[.int .i64 0, .int .i64 0, .int .i64 0, .int .i64 0, .int .i64 0, .int .i64 0, .int .i64 0, .int .i64 0, .int .i64 0], .int .i64 2]) ?_ rfl ⟨by rw [HR.out, ← HD.out]; rfl, S5.out⟩
  exact (Agg.ret_row2 (l := [0, 0, 0, 0, 0, 0, 0, 0, 0]) rfl rfl (agg9 _) size9 S1.out).trans rfl
set_option maxHeartbeats 800000 in
theorem rdec_sync_any (hb : IntsAt .u8 w a l) (h : l.length = 38) (h0 : l.getD 0 0 ≠ 165) :
    Calls Try.prog 40 #[.int .i64 c, .agg #[.bool true, .slice a l.length cap]] w (RetFR w (dec c true l) (rej c true l)) := by
  have HR := Lib.hid (rej_sync (c := c) h h0)
  have HD := Lib.hid (show List.replicate 9 0 = dec c true l from (dec_no (by rw [HR.out]; simp)).symm)
  obtain ⟨b, off, rfl, hb'⟩ := intsAt_some hb (by omega)
  obtain ⟨s1, -, -, -, s5⟩ := rdec_start w (.bool true) (.slice (some ⟨b, off, none⟩) l.length cap)
  have c0 := ints_cell (hb'.below s5) 0 (by omega)
  rw [Nat.add_zero] at c0
  have S1 := Lib.hid s1
  have S5 := Lib.hid s5
  rw [h] at *
  have d : (l.getD 0 0 != 165) = true := by simpa using h0
  clear s1 s5 h hb hb' h0
  generalize l.getD 0 0 = x at *
  go_enter Try.func40, Try.ntmps40
  go_wp2
  refine bodyPost_ret (v := .tuple #[.agg #[.int .i64 0, .int .i64 0, .int .i64 0, .int .i64 0, .int .i64 0, .int .i64 0, .int .i64 0, .int .i64 0, .int .i64 0], .int .i64 3]) ?_ rfl ⟨by rw [HR.out, ← HD.out]; rfl, S5.out⟩
  exact (Agg.ret_row2 (l := [0, 0, 0, 0, 0, 0, 0, 0, 0]) rfl rfl (agg9 _) size9 S1.out).trans rfl
set_option maxHeartbeats 800000 in
theorem rdec_other_any (hy : Bytes l) (hb : IntsAt .u8 w a l) (h : l.length = 38) (h0 : l.getD 0 0 = 165) (h1 : l.getD 1 0 ≠ c) :
    Calls Try.prog 40 #[.int .i64 c, .agg #[.bool true, .slice a l.length cap]] w (RetFR w (dec c true l) (rej c true l)) := by
  have HR := Lib.hid (rej_other (c := c) h h0 h1)
  have HD := Lib.hid (show List.replicate 9 0 = dec c true l from (dec_no (by rw [HR.out]; simp)).symm)
  obtain ⟨b, off, rfl, hb'⟩ := intsAt_some hb (by omega)
  obtain ⟨s1, -, -, -, s5⟩ := rdec_start w (.bool true) (.slice (some ⟨b, off, none⟩) l.length cap)
  have c0 := ints_cell (hb'.below s5) 0 (by omega)
  have c1 := ints_cell (hb'.below s5) 1 (by omega)
  rw [Nat.add_zero, h0] at c0
  have S1 := Lib.hid s1
  have S5 := Lib.hid s5
  rw [h] at *
  have hg := hy.getD 1
  have d : (l.getD 1 0 != c) = true := by simpa using h1
  clear s1 s5 h hb hb' h0 h1 hy
  generalize l.getD 1 0 = x at *
  go_enter Try.func40, Try.ntmps40
  go_wp2
  refine bodyPost_ret (v := .tuple #[.agg #[.int .i64 0, .int .i64 0, .int .i64 0, .int .i64 0, .int .i64 0, .int .i64 0, .int .i64 0, .int .i64 0, .int .i64 0], .int .i64 4]) ?_ rfl ⟨by rw [HR.out, ← HD.out]; rfl, S5.out⟩
  exact (Agg.ret_row2 (l := [0, 0, 0, 0, 0, 0, 0, 0, 0]) rfl rfl (agg9 _) size9 S1.out).trans rfl
end
end Fm
end Go.Proofs.Ytchnnpaebggfdaa

namespace Go.Proofs.Ytchnnpaebggfdaa
set_option maxRecDepth 100000
open Go.ChangeShapes Go.WideShapes Go.ChangeAt Go.RowKit Go.Deep
namespace Fm
open Wd
open Cr (Bytes opens opened opened_yes opened_no)
theorem other_block {w : World} {g b off : Nat} {t : TypeId} {l m : List Int} (h : IRow .i64 w g t l) (hm : IntsAt .u8 w (some ⟨b, off, none⟩) m) (hp : 0 < m.length) : b ≠ g := by
  intro e
  subst e
  have hc := ints_cell hm 0 hp
  rw [cell_of_row w b (off + 0) _ t (0, 0) h] at hc
  have : (cellsI .i64 l)[off + 0]? = some (.int .u8 (m.getD 0 0)) := by simpa using hc
  have hmem := List.mem_of_getElem? this
  unfold cellsI at hmem
  obtain ⟨x, _, hx⟩ := List.mem_map.1 hmem
  cases hx
theorem row_other {k : IntKind} {w : World} {g g' i : Nat} {t : TypeId} {l : List Int} {v : Value} (h : IRow k w g t l) (hne : g ≠ g') : IRow k (w.setCell ⟨g', i, none⟩ v) g t l :=
  (heap_setCell_other w ⟨g', i, none⟩ g v (by first | exact hne | exact hne.symm)).trans h
theorem ints_other {k : IntKind} {w : World} {b off g' i : Nat} {l : List Int} {v : Value} (h : IntsAt k w (some ⟨b, off, none⟩) l) (hne : b ≠ g') : IntsAt k (w.setCell ⟨g', i, none⟩ v) (some ⟨b, off, none⟩) l := by
  rcases Nat.eq_zero_or_pos l.length with h0 | hp
  · exact Or.inl (List.eq_nil_of_length_eq_zero h0)
  · refine Or.inr ⟨b, off, rfl, fun j hj => ?_⟩
    have hc := ints_cell h j hj
    have hh := heap_setCell_other w ⟨g', i, none⟩ b v (by first | exact hne | exact hne.symm)
    rw [← hc]
    simp only [World.cell?, hh]
/-- The numbers of bytes, one more laid. -/
def part (q : List Int) (k : Nat) : List Int := nums (q.take (4 * k)) ++ List.replicate (8 - k) 0
theorem part_0 (q : List Int) : part q 0 = List.replicate 8 0 := by unfold part; rw [Nat.mul_zero, List.take_zero]; rfl
theorem part_next {q : List Int} (hq : q.length = 32) (k : Nat) (hk : k < 8) : (part q k).set k (get4v ((q.drop (4 * k)).take 4)) = part q (k + 1) := by
  unfold part
  have hl : (nums (q.take (4 * k))).length = k := nums_len k _ (by rw [List.length_take]; omega)
  rw [nums_next q k (by omega), List.set_append_right _ _ (by omega), hl, Nat.sub_self, show 8 - k = (8 - (k + 1)) + 1 by omega, List.replicate_succ, List.set_cons_zero, List.append_assoc]
  rfl
theorem part_8 {q : List Int} (hq : q.length = 32) : part q 8 = nums q := by
  unfold part; rw [List.take_of_length_le (by omega)]; simp
theorem part_len {q : List Int} (hq : q.length = 32) (k : Nat) (hk : k ≤ 8) : (part q k).length = 8 := by
  unfold part
  rw [List.length_append, nums_len k _ (by rw [List.length_take]; omega), List.length_replicate]; omega
section
variable (c : Int) (is : Bool) (a : Option Addr) (cap : Nat) (l : List Int) (w : World)
set_option maxHeartbeats 800000 in
theorem rdec_sum_any (hm : l.length ≤ cap) (hy : Bytes l) (hb : IntsAt .u8 w a l) (h : l.length = 38) (h0 : l.getD 0 0 = 165) (h1 : l.getD 1 0 = c) (ho : opens l = false) :
    Calls Try.prog 40 #[.int .i64 c, .agg #[.bool true, .slice a l.length cap]] w (RetFR w (dec c true l) (rej c true l)) := by
  have HR := Lib.hid (rej_sum (c := c) h h0 h1 ho)
  have HD := Lib.hid (show List.replicate 9 0 = dec c true l from (dec_no (by rw [HR.out]; simp)).symm)
  obtain ⟨b, off, rfl, hb'⟩ := intsAt_some hb (by omega)
  obtain ⟨s1, s2, s3, s4, s5⟩ := rdec_start w (.bool true) (.slice (some ⟨b, off, none⟩) l.length cap)
  have c0 := ints_cell (hb'.below s5) 0 (by omega)
  have c1 := ints_cell (hb'.below s5) 1 (by omega)
  rw [Nat.add_zero, h0] at c0
  rw [h1] at c1
  have hg := hy.getD 1
  rw [h1] at hg
  have CO := Cr.ropen_cap (some ⟨b, off, none⟩) cap l (((w.alloc (.cells #[.bool true, .slice (some ⟨b, off, none⟩) l.length cap] 61)).alloc (.cells #[.int .i64 0, .int .i64 0, .int .i64 0, .int .i64 0, .int .i64 0, .int .i64 0, .int .i64 0, .int .i64 0, .int .i64 0] 92)).alloc (.cells #[.int .i64 0, .int .i64 0, .int .i64 0, .int .i64 0, .int .i64 0, .int .i64 0, .int .i64 0, .int .i64 0, .int .i64 0] 92)) (by omega) hm hy (hb'.below s5)
  rw [opened_no ho, ho] at CO
  have S1 := Lib.hid s1
  have S2 := Lib.hid s2
  have S5 := Lib.hid s5
  rw [h] at *
  clear s1 s2 s3 s5 hb hb' h0 h1 hy h ho
  go_enter Try.func40, Try.ntmps40
  go_wp2_with (go_at_call 55; refine CO.mono ?_; rintro e w1 ⟨a1, cap1, rfl, i1, m1, b1⟩
               have R1 := Lib.hid (S1.out.below b1 (by rw [s4]; omega)); have R2 := Lib.hid (S2.out.below b1 (by rw [s4]; omega)); have B1 := Lib.hid (S5.out.trans (b1.mono (by rw [s4]; omega))); clear b1 i1
               obtain ⟨z0, z1, z2, z3, z4, z5, z6, z7, z8⟩ := row9 (show IRow .i64 w1 (w.heap.size + 1) 92 [0, 0, 0, 0, 0, 0, 0, 0, 0] from R1.out)
               obtain ⟨q0, q1, q2, q3, q4, q5, q6, q7, q8⟩ := row9_frozen R1.out
               obtain ⟨y0, y1, y2, y3, y4, y5, y6, y7, y8⟩ := row9 (show IRow .i64 w1 (w.heap.size + 1 + 1) 92 [0, 0, 0, 0, 0, 0, 0, 0, 0] from R2.out))
  have R3 := stored9 0 0 0 0 0 0 0 0 0 R1.out
  have B3 := stored9_below (g := w.heap.size + 1) 0 0 0 0 0 0 0 0 0 B1.out (Nat.le_succ _)
  refine bodyPost_ret (v := .tuple #[.agg #[.int .i64 0, .int .i64 0, .int .i64 0, .int .i64 0, .int .i64 0, .int .i64 0, .int .i64 0, .int .i64 0, .int .i64 0], .int .i64 5]) ?_ rfl ⟨by rw [HR.out, ← HD.out]; rfl, B3⟩
  exact (Agg.ret_row2 (l := [0, 0, 0, 0, 0, 0, 0, 0, 0]) rfl rfl (agg9 _) size9 R3).trans rfl
set_option maxHeartbeats 1600000 in
theorem rdec_fine_any (hm : l.length ≤ cap) (hy : Bytes l) (hb : IntsAt .u8 w a l) (h : l.length = 38) (h0 : l.getD 0 0 = 165) (h1 : l.getD 1 0 = c) (ho : opens l = true) :
    Calls Try.prog 40 #[.int .i64 c, .agg #[.bool true, .slice a l.length cap]] w (RetFR w (dec c true l) (rej c true l)) := by
  have HR := Lib.hid (rej_fine (c := c) h h0 h1 ho)
  have HD := Lib.hid (show fseq l :: fvals l = dec c true l from (dec_yes HR.out).symm)
  obtain ⟨b, off, rfl, hb'⟩ := intsAt_some hb (by omega)
  obtain ⟨s1, s2, s3, s4, s5⟩ := rdec_start w (.bool true) (.slice (some ⟨b, off, none⟩) l.length cap)
  have c0 := ints_cell (hb'.below s5) 0 (by omega)
  have c1 := ints_cell (hb'.below s5) 1 (by omega)
  rw [Nat.add_zero, h0] at c0
  rw [h1] at c1
  have hg := hy.getD 1
  rw [h1] at hg
  have CO := Cr.ropen_cap (some ⟨b, off, none⟩) cap l (((w.alloc (.cells #[.bool true, .slice (some ⟨b, off, none⟩) l.length cap] 61)).alloc (.cells #[.int .i64 0, .int .i64 0, .int .i64 0, .int .i64 0, .int .i64 0, .int .i64 0, .int .i64 0, .int .i64 0, .int .i64 0] 92)).alloc (.cells #[.int .i64 0, .int .i64 0, .int .i64 0, .int .i64 0, .int .i64 0, .int .i64 0, .int .i64 0, .int .i64 0, .int .i64 0] 92)) (by omega) hm hy (hb'.below s5)
  rw [opened_yes ho, ho, h, show 38 - 2 = 36 from rfl] at CO
  have l36 : (l.take 36).length = 36 := by rw [List.length_take]; omega
  have HYT := Lib.hid (hy.take 36)
  have HSQ := Lib.hid (fseq_take l)
  have HVS := Lib.hid (fvals_take l)
  obtain ⟨-, e8, -, -⟩ := dec_right h hy
  have S1 := Lib.hid s1
  have S2 := Lib.hid s2
  have S5 := Lib.hid s5
  rw [h] at c0 c1 S1 S2 s4 S5 ⊢
  clear s1 s2 s3 s5 hb hb' h0 h1 hy h ho
  generalize l.take 36 = told at *
  have CG := Lib.hid (fun W b off cp h => Wr.rget2_any (some ⟨b, off + 2, none⟩) cp ((told.drop 2).take 2) W (by rw [List.length_take, List.length_drop]; omega) ((HYT.out.drop _).take _) h)
  rw [show ((told.drop 2).take 2).length = 2 by rw [List.length_take, List.length_drop]; omega, HSQ.out] at CG
  generalize fseq l = s at *
  generalize fvals l = vs at *
  go_enter Try.func40, Try.ntmps40
  go_wp2_with (first
    | (go_at_call 55; refine CO.mono ?_; rintro e w1 ⟨a1, cap1, rfl, i1, m1, b1⟩
       have R1 := Lib.hid (S1.out.below b1 (by rw [s4]; omega)); have R2 := Lib.hid (S2.out.below b1 (by rw [s4]; omega)); have B1 := Lib.hid (S5.out.trans (b1.mono (by rw [s4]; omega))); clear b1
       obtain ⟨bb, off1, rfl, i2⟩ := intsAt_some i1 (by rw [l36]; omega)
       rw [l36] at m1 ⊢
       have I2 := Lib.hid i2; clear i1 i2
       have IG := Lib.hid ((intsAt_drop 2 (fun i hi => ints_cell I2.out i hi)).take 2))
    | (go_at_call 56; refine (CG.out _ _ _ _ IG.out).mono ?_; rintro e w2 ⟨rfl, b2⟩
       have R3 := Lib.hid (R1.out.below b2 R1.out.lt); have R4 := Lib.hid (R2.out.below b2 R2.out.lt); have B2 := Lib.hid (grow B1.out b2); have I3 := Lib.hid (I2.out.below b2); clear b2 R1 R2 I2 IG
       have y0 := (show IRow .i64 w2 (w.heap.size + 1 + 1) 92 [0, 0, 0, 0, 0, 0, 0, 0, 0] from R4.out).cell 0 (by simp)
       have q0 := R4.out.frozen 0))
  have hne := other_block R4.out I3.out (by rw [l36]; omega)
  have hq : (told.drop 4).length = 32 := by rw [List.length_drop]; omega
  clear CO CG c0 c1 hg
  go_loopg [11] 8 (fun gg s11 wr => ∃ k : Nat, k + gg = 8 ∧ s11 = .int .i64 k ∧ Hid (IRow .i64 wr (w.heap.size + 1 + 1) 92 (s :: part (told.drop 4) k)) ∧ Hid (IRow .i64 wr (w.heap.size + 1) 92 (List.replicate 9 0)) ∧ Hid (IntsAt .u8 wr (some ⟨bb, off1, none⟩) told) ∧ Hid (Below w.heap.size w wr))
  case atStart => exact ⟨0, by omega, rfl, Lib.hid (by rw [part_0]; exact R4.out.set 0 s), Lib.hid (row_other R3.out (by omega)), Lib.hid (ints_other I3.out hne), Lib.hid (B2.out.setCell (p := ⟨w.heap.size + 1 + 1, 0, none⟩) (by show w.heap.size ≤ w.heap.size + 1 + 1; omega) _)⟩
  case round =>
    rename World => W1
    obtain ⟨k, hkg, rfl, P1, P2, P3, P4⟩ := hrel
    clear R3 R4 I3 B2 y0 q0
    have hpl := part_len hq k (by omega)
    by_cases hk : k < 8
    · have hki : (k : Int) < 8 := by omega
      have l4 : ((told.drop (4 + 4 * k)).take 4).length = 4 := by rw [List.length_take, List.length_drop]; omega
      have C4 := Lib.hid (fun cp => Wr.rget4_any (some ⟨bb, off1 + (4 + 4 * k), none⟩) cp ((told.drop (4 + 4 * k)).take 4) W1 (by omega) ((HYT.out.drop _).take _) ((intsAt_drop (4 + 4 * k) (fun i hi => ints_cell P3.out i hi)).take 4))
      rw [l4] at C4
      have HN := Lib.hid (part_next hq k hk)
      rw [List.drop_drop] at HN
      have old := P1.out.cell (1 + k) (by simp; omega)
      have fro := P1.out.frozen (1 + k)
      have a1 : (4 + 4 * (k : Int)).toNat = 4 + 4 * k := by omega
      have a2 : (8 + 4 * (k : Int)).toNat = 8 + 4 * k := by omega
      have a3 : 8 + 4 * k - (4 + 4 * k) = 4 := by omega
      have a4 : 4 + 4 * k ≤ 8 + 4 * k := by omega
      have a5 : 8 + 4 * k ≤ cap1 := by omega
      generalize (s :: part (told.drop 4) k).getD (1 + k) 0 = ov at *
      generalize get4v ((told.drop (4 + 4 * k)).take 4) = n at *
      generalize get4b ((told.drop (4 + 4 * k)).take 4) = bn at *
      go_wp2_with (go_at_call 57; refine (C4.out _).mono ?_; rintro e w3 ⟨rfl, rfl⟩)
      go_roundg (gk - 1)
      case rel => exact ⟨k + 1, by omega, by go_num, Lib.hid (by rw [← HN.out]; have := P1.out.set (1 + k) n; rw [Nat.add_comm 1 k] at this ⊢; exact this), Lib.hid (row_other P2.out (by omega)), Lib.hid (ints_other P3.out hne), Lib.hid (P4.out.setCell (p := ⟨w.heap.size + 1 + 1, 1 + k, none⟩) (by show w.heap.size ≤ w.heap.size + 1 + 1; omega) _)⟩
      case measure => omega
    · obtain rfl : k = 8 := by omega
      rw [part_8 hq, HVS.out] at P1
      obtain ⟨v0, v1, v2, v3, v4, v5, v6, v7, rfl⟩ := eight vs e8
      obtain ⟨y0, y1, y2, y3, y4, y5, y6, y7, y8⟩ := row9 P1.out
      obtain ⟨z0, z1, z2, z3, z4, z5, z6, z7, z8⟩ := row9 (show IRow .i64 W1 (w.heap.size + 1) 92 [0, 0, 0, 0, 0, 0, 0, 0, 0] from P2.out)
      obtain ⟨q0, q1, q2, q3, q4, q5, q6, q7, q8⟩ := row9_frozen P2.out
      go_wp2
      have R5 := stored9 s v0 v1 v2 v3 v4 v5 v6 v7 P2.out
      have B5 := stored9_below (g := w.heap.size + 1) s v0 v1 v2 v3 v4 v5 v6 v7 P4.out (Nat.le_succ _)
      refine bodyPost_ret (v := .tuple #[.agg #[.int .i64 s, .int .i64 v0, .int .i64 v1, .int .i64 v2, .int .i64 v3, .int .i64 v4, .int .i64 v5, .int .i64 v6, .int .i64 v7], .int .i64 0]) ?_ rfl ⟨by rw [HR.out, ← HD.out]; rfl, B5⟩
      exact (Agg.ret_row2 (l := [s, v0, v1, v2, v3, v4, v5, v6, v7]) rfl rfl (agg9 _) size9 R5).trans rfl
theorem rdec_any (hm : l.length ≤ cap) (hy : Bytes l) (hb : IntsAt .u8 w a l) :
    Calls Try.prog 40 #[.int .i64 c, .agg #[.bool is, .slice a l.length cap]] w (RetFR w (dec c is l) (rej c is l)) := by
  cases is
  · exact rdec_absent_any c a cap l w
  · by_cases h : l.length = 38
    · by_cases h0 : l.getD 0 0 = 165
      · by_cases h1 : l.getD 1 0 = c
        · cases ho : opens l
          · exact rdec_sum_any c a cap l w hm hy hb h h0 h1 ho
          · exact rdec_fine_any c a cap l w hm hy hb h h0 h1 ho
        · exact rdec_other_any c a cap l w hy hb h h0 h1
      · exact rdec_sync_any c a cap l w hb h h0
    · exact rdec_length_any c a cap l w h
end
end Fm
end Go.Proofs.Ytchnnpaebggfdaa
