/-
  What Decode of rudderref05 does, where the head rejects: its contract by walking the Go text. Conditions: where the bytes lie.
-/
import Derived.Test.YtngdaogcmgmmeaaFrameDec
import Derived.Test.YtngdaogcmgmmeaaCrcRef3
import Derived.Test.YtngdaogcmgmmeaaWordRef
namespace Go.Proofs.Ytngdaogcmgmmeaa
open Go.ChangeShapes Go.WideShapes Go.ChangeAt Go.RowKit Go.Deep
namespace Fm
open Wd
open Cr (Bytes opens opened opened_yes opened_no)

theorem rdec_start (w : World) (x : Value) (v : Value) : IRow .i64 (((w.alloc (.cells #[x, v] 39)).alloc (.cells #[.int .i64 0, .int .i64 0, .int .i64 0, .int .i64 0, .int .i64 0, .int .i64 0, .int .i64 0, .int .i64 0, .int .i64 0] 33)).alloc (.cells #[.int .i64 0, .int .i64 0, .int .i64 0, .int .i64 0, .int .i64 0, .int .i64 0, .int .i64 0, .int .i64 0, .int .i64 0] 33)) (w.heap.size + 1) 33 (List.replicate 9 0) ∧
    IRow .i64 (((w.alloc (.cells #[x, v] 39)).alloc (.cells #[.int .i64 0, .int .i64 0, .int .i64 0, .int .i64 0, .int .i64 0, .int .i64 0, .int .i64 0, .int .i64 0, .int .i64 0] 33)).alloc (.cells #[.int .i64 0, .int .i64 0, .int .i64 0, .int .i64 0, .int .i64 0, .int .i64 0, .int .i64 0, .int .i64 0, .int .i64 0] 33)) (w.heap.size + 1 + 1) 33 (List.replicate 9 0) ∧
    (((w.alloc (.cells #[x, v] 39)).alloc (.cells #[.int .i64 0, .int .i64 0, .int .i64 0, .int .i64 0, .int .i64 0, .int .i64 0, .int .i64 0, .int .i64 0, .int .i64 0] 33)).alloc (.cells #[.int .i64 0, .int .i64 0, .int .i64 0, .int .i64 0, .int .i64 0, .int .i64 0, .int .i64 0, .int .i64 0, .int .i64 0] 33)).cell? ⟨w.heap.size, 1, none⟩ = some v ∧
    (((w.alloc (.cells #[x, v] 39)).alloc (.cells #[.int .i64 0, .int .i64 0, .int .i64 0, .int .i64 0, .int .i64 0, .int .i64 0, .int .i64 0, .int .i64 0, .int .i64 0] 33)).alloc (.cells #[.int .i64 0, .int .i64 0, .int .i64 0, .int .i64 0, .int .i64 0, .int .i64 0, .int .i64 0, .int .i64 0, .int .i64 0] 33)).heap.size = w.heap.size + 3 ∧
    Below w.heap.size w (((w.alloc (.cells #[x, v] 39)).alloc (.cells #[.int .i64 0, .int .i64 0, .int .i64 0, .int .i64 0, .int .i64 0, .int .i64 0, .int .i64 0, .int .i64 0, .int .i64 0] 33)).alloc (.cells #[.int .i64 0, .int .i64 0, .int .i64 0, .int .i64 0, .int .i64 0, .int .i64 0, .int .i64 0, .int .i64 0, .int .i64 0] 33)) := by
  obtain ⟨h1, h2, h3, h4⟩ := dec_start w x v
  refine ⟨h1.alloc _, ?_, ?_, by simp, h4.alloc (by rw [h3]; omega) _⟩
  · have := heap_alloc_new ((w.alloc (.cells #[x, v] 39)).alloc (.cells #[.int .i64 0, .int .i64 0, .int .i64 0, .int .i64 0, .int .i64 0, .int .i64 0, .int .i64 0, .int .i64 0, .int .i64 0] 33)) (.cells #[.int .i64 0, .int .i64 0, .int .i64 0, .int .i64 0, .int .i64 0, .int .i64 0, .int .i64 0, .int .i64 0, .int .i64 0] 33)
    rw [h3] at this
    exact this
  · rw [((Below.refl _ ((w.alloc (.cells #[x, v] 39)).alloc (.cells #[.int .i64 0, .int .i64 0, .int .i64 0, .int .i64 0, .int .i64 0, .int .i64 0, .int .i64 0, .int .i64 0, .int .i64 0] 33))).alloc (Nat.le_refl _) (.cells #[.int .i64 0, .int .i64 0, .int .i64 0, .int .i64 0, .int .i64 0, .int .i64 0, .int .i64 0, .int .i64 0, .int .i64 0] 33)).cell (p := ⟨w.heap.size, 1, none⟩) (by rw [h3]; show w.heap.size < _; omega)]
    exact h2

section
variable (c : Int) (is : Bool) (a : Option Addr) (cap : Nat) (l : List Int) (w : World)
set_option maxHeartbeats 800000 in
theorem rdec_absent_any :
    Calls Try.prog 16 #[.int .i64 c, .agg #[.bool false, .slice a l.length cap]] w (RetFR w (dec c false l) (rej c false l)) := by
  have HR := Lib.hid (rej_absent c l)
  have HD := Lib.hid (show List.replicate 9 0 = dec c false l from (dec_no (by rw [HR.out]; simp)).symm)
  obtain ⟨s1, -, -, -, s5⟩ := rdec_start w (.bool false) (.slice a l.length cap)
  have S1 := Lib.hid s1
  have S5 := Lib.hid s5
  clear s1 s5
  generalize l.length = n at *
  go_enter Try.func16, Try.ntmps16
  go_wp2
  refine bodyPost_ret (v := .tuple #[.agg #[.int .i64 0, .int .i64 0, .int .i64 0, .int .i64 0, .int .i64 0, .int .i64 0, .int .i64 0, .int .i64 0, .int .i64 0], .int .i64 1]) ?_ rfl ⟨by rw [HR.out, ← HD.out]; rfl, S5.out⟩
  exact (Agg.ret_row2 (l := [0, 0, 0, 0, 0, 0, 0, 0, 0]) rfl rfl (agg9 _) size9 S1.out).trans rfl
set_option maxHeartbeats 800000 in
theorem rdec_length_any (h : l.length ≠ 38) :
    Calls Try.prog 16 #[.int .i64 c, .agg #[.bool true, .slice a l.length cap]] w (RetFR w (dec c true l) (rej c true l)) := by
  have HR := Lib.hid (rej_length (c := c) h)
  have HD := Lib.hid (show List.replicate 9 0 = dec c true l from (dec_no (by rw [HR.out]; simp)).symm)
  obtain ⟨s1, -, -, -, s5⟩ := rdec_start w (.bool true) (.slice a l.length cap)
  have S1 := Lib.hid s1
  have S5 := Lib.hid s5
  have d : ((l.length : Int) != 38) = true := by simp; omega
  clear s1 s5 h
  generalize l.length = n at *
  go_enter Try.func16, Try.ntmps16
  go_wp2
  refine bodyPost_ret (v := .tuple #[.agg #[.int .i64 0, .int .i64 0, .int .i64 0, .int .i64 0, .int .i64 0, .int .i64 0, .int .i64 0, .int .i64 0, .int .i64 0], .int .i64 2]) ?_ rfl ⟨by rw [HR.out, ← HD.out]; rfl, S5.out⟩
  exact (Agg.ret_row2 (l := [0, 0, 0, 0, 0, 0, 0, 0, 0]) rfl rfl (agg9 _) size9 S1.out).trans rfl
set_option maxHeartbeats 800000 in
theorem rdec_sync_any (hb : IntsAt .u8 w a l) (h : l.length = 38) (h0 : l.getD 0 0 ≠ 165) :
    Calls Try.prog 16 #[.int .i64 c, .agg #[.bool true, .slice a l.length cap]] w (RetFR w (dec c true l) (rej c true l)) := by
  have HR := Lib.hid (rej_sync (c := c) h h0)
  have HD := Lib.hid (show List.replicate 9 0 = dec c true l from (dec_no (by rw [HR.out]; simp)).symm)
  obtain ⟨b, off, rfl, hb'⟩ := intsAt_some hb (by omega)
  obtain ⟨s1, -, -, -, s5⟩ := rdec_start w (.bool true) (.slice (some ⟨b, off, none⟩) l.length cap)
  have c0 := ints_cell (hb'.below s5) 0 (by omega)
  rw [Nat.add_zero] at c0
  have S1 := Lib.hid s1
  have S5 := Lib.hid s5
  rw [h] at *
  have d : (l.getD 0 0 != 165) = true := by simpa using h0
  clear s1 s5 h hb hb' h0
  generalize l.getD 0 0 = x at *
  go_enter Try.func16, Try.ntmps16
  go_wp2
  refine bodyPost_ret (v := .tuple #[.agg #[.int .i64 0, .int .i64 0, .int .i64 0, .int .i64 0, .int .i64 0, .int .i64 0, .int .i64 0, .int .i64 0, .int .i64 0], .int .i64 3]) ?_ rfl ⟨by rw [HR.out, ← HD.out]; rfl, S5.out⟩
  exact (Agg.ret_row2 (l := [0, 0, 0, 0, 0, 0, 0, 0, 0]) rfl rfl (agg9 _) size9 S1.out).trans rfl
set_option maxHeartbeats 800000 in
theorem rdec_other_any (hy : Bytes l) (hb : IntsAt .u8 w a l) (h : l.length = 38) (h0 : l.getD 0 0 = 165) (h1 : l.getD 1 0 ≠ c) :
    Calls Try.prog 16 #[.int .i64 c, .agg #[.bool true, .slice a l.length cap]] w (RetFR w (dec c true l) (rej c true l)) := by
  have HR := Lib.hid (rej_other (c := c) h h0 h1)
  have HD := Lib.hid (show List.replicate 9 0 = dec c true l from (dec_no (by rw [HR.out]; simp)).symm)
  obtain ⟨b, off, rfl, hb'⟩ := intsAt_some hb (by omega)
  obtain ⟨s1, -, -, -, s5⟩ := rdec_start w (.bool true) (.slice (some ⟨b, off, none⟩) l.length cap)
  have c0 := ints_cell (hb'.below s5) 0 (by omega)
  have c1 := ints_cell (hb'.below s5) 1 (by omega)
  rw [Nat.add_zero, h0] at c0
  have S1 := Lib.hid s1
  have S5 := Lib.hid s5
  rw [h] at *
  have hg := hy.getD 1
  have d : (l.getD 1 0 != c) = true := by simpa using h1
  clear s1 s5 h hb hb' h0 h1 hy
  generalize l.getD 1 0 = x at *
  go_enter Try.func16, Try.ntmps16
  go_wp2
  refine bodyPost_ret (v := .tuple #[.agg #[.int .i64 0, .int .i64 0, .int .i64 0, .int .i64 0, .int .i64 0, .int .i64 0, .int .i64 0, .int .i64 0, .int .i64 0], .int .i64 4]) ?_ rfl ⟨by rw [HR.out, ← HD.out]; rfl, S5.out⟩
  exact (Agg.ret_row2 (l := [0, 0, 0, 0, 0, 0, 0, 0, 0]) rfl rfl (agg9 _) size9 S1.out).trans rfl
end
end Fm
end Go.Proofs.Ytngdaogcmgmmeaa
