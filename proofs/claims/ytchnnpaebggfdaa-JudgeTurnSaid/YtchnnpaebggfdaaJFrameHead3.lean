/-
  What headReject and Name of package frame do: contracts by walking the Go text. Conditions: where the bytes lie; that the table of names holds the names.
  What laid of package frame does: its contract by walking the Go text. Conditions: eight numbers, and where they lie.
  What write, Put2 and Put4 of package word do: contracts by walking the Go text. Conditions of write: a row of bytes that is known whole, and the piece of it.
-/
import Derived.Test.YtchnnpaebggfdaaJAppend3
import Derived.Test.YtchnnpaebggfdaaJAgg4
import Derived.Maps.AppendAt
import Derived.OwnWalk
namespace Go.Proofs.Ytchnnpaebggfdaa
set_option maxRecDepth 100000
open Go.ChangeShapes Go.WideShapes Go.ChangeAt Go.RowKit Go.Deep
namespace Fm
open Wd
open Cr (Bytes)
/-- The first reject that holds ahead of the sum. -/
def hrej (c : Int) (is : Bool) (b : List Int) : Int :=
  if is = false then 1 else if b.length ≠ 38 then 2 else if b.getD 0 0 ≠ 165 then 3 else if b.getD 1 0 ≠ c then 4 else 0
theorem hrej_rej (c : Int) (is : Bool) (b : List Int) : rej c is b = if hrej c is b = 0 then (if Cr.opens b = true then 0 else 5) else hrej c is b := by
  unfold hrej rej
  generalize b.getD 0 0 = x
  generalize b.getD 1 0 = y
  generalize Cr.opens b = o
  by_cases h0 : is = false
  · rw [if_pos h0, if_pos h0, if_neg (by omega)]
  · rw [if_neg h0, if_neg h0]
    by_cases h1 : b.length ≠ 38
    · rw [if_pos h1, if_pos h1, if_neg (by omega)]
    · rw [if_neg h1, if_neg h1]
      by_cases h2 : x ≠ 165
      · rw [if_pos h2, if_pos h2, if_neg (by omega)]
      · rw [if_neg h2, if_neg h2]
        by_cases h3 : y ≠ c
        · rw [if_pos h3, if_pos h3, if_neg (by omega)]
        · rw [if_neg h3, if_neg h3, if_pos rfl]
          cases o <;> rfl
theorem hrej_fine {c : Int} {is : Bool} {b : List Int} (h : hrej c is b = 0) : is = true ∧ b.length = 38 ∧ b.getD 0 0 = 165 ∧ b.getD 1 0 = c := by
  unfold hrej at h
  cases is
  · simp at h
  · refine ⟨rfl, ?_⟩
    by_cases h1 : b.length = 38
    · by_cases h2 : b.getD 0 0 = 165
      · by_cases h3 : b.getD 1 0 = c
        · exact ⟨h1, h2, h3⟩
        · rw [if_neg (by simp), if_neg (by simp [h1]), if_neg (by simpa using h2), if_pos h3] at h; cases h
      · rw [if_neg (by simp), if_neg (by simp [h1]), if_pos h2] at h; cases h
    · rw [if_neg (by simp), if_pos h1] at h; cases h
set_option maxHeartbeats 800000 in
theorem head_any (c : Int) (is : Bool) (a : Option Addr) (cap : Nat) (l : List Int) (w : World) (hy : Bytes l) (hb : IntsAt .u8 w a l) :
    Calls Try.prog 50 #[.int .i64 c, .agg #[.bool is, .slice a l.length cap]] w fun e w' => e = .returned (.int .i64 (hrej c is l)) ∧ Below w.heap.size w w' := by
  have BA := Lib.hid ((Below.refl w.heap.size w).alloc (Nat.le_refl _) (.cells #[.bool is, .slice a l.length cap] 61))
  cases is
  · have HF := Lib.hid (show hrej c false l = 1 by unfold hrej; simp)
    clear hb hy
    generalize l.length = n at *
    go_enter Try.func50, Try.ntmps50
    go_wp2
    go_ret
    exact ⟨ret_int HF.out.symm, BA.out⟩
  · by_cases h1 : l.length = 38
    · rcases hb with hnil | ⟨b, off, rfl, hc⟩
      · rw [hnil] at h1; simp at h1
      have c0 := hc 0 (by omega)
      have c1 := hc 1 (by omega)
      have hbl := cell_lt c0
      have hy1 := hy.getD 1
      rw [Nat.add_zero] at c0
      have HR := Lib.hid (show hrej c true l = if l.getD 0 0 ≠ 165 then 3 else if l.getD 1 0 ≠ c then 4 else 0 by unfold hrej; rw [if_neg (by simp), if_neg (by simp [h1])])
      rw [h1] at *
      clear hc hy
      generalize l.getD 0 0 = x at *
      generalize l.getD 1 0 = y at *
      have c0' : (w.alloc (.cells #[.bool true, .slice (some ⟨b, off, none⟩) 38 cap] 61)).cell? ⟨b, off, none⟩ = some (.int .u8 x) := by
        rw [(Below.refl w.heap.size w |>.alloc (Nat.le_refl _) _).cell (p := ⟨b, off, none⟩) hbl]; exact c0
      have c1' : (w.alloc (.cells #[.bool true, .slice (some ⟨b, off, none⟩) 38 cap] 61)).cell? ⟨b, off + 1, none⟩ = some (.int .u8 y) := by
        rw [(Below.refl w.heap.size w |>.alloc (Nat.le_refl _) _).cell (p := ⟨b, off + 1, none⟩) hbl]; exact c1
      by_cases h2 : x = 165
      · subst h2
        by_cases h3 : y = c
        · subst h3
          have HF := Lib.hid (show hrej y true l = 0 by rw [HR.out, if_neg (by simp), if_neg (by simp)])
          clear HR
          go_enter Try.func50, Try.ntmps50
          go_wp2
          go_ret
          exact ⟨ret_int HF.out.symm, BA.out⟩
        · have HF := Lib.hid (show hrej c true l = 4 by rw [HR.out, if_neg (by simp), if_pos h3])
          have d : (y != c) = true := by simpa using h3
          clear HR
          go_enter Try.func50, Try.ntmps50
          go_wp2
          go_ret
          exact ⟨ret_int HF.out.symm, BA.out⟩
      · have HF := Lib.hid (show hrej c true l = 3 by rw [HR.out, if_pos h2])
        have d : (x != 165) = true := by simpa using h2
        clear HR
        go_enter Try.func50, Try.ntmps50
        go_wp2
        go_ret
        exact ⟨ret_int HF.out.symm, BA.out⟩
    · have HF := Lib.hid (show hrej c true l = 2 by unfold hrej; simp [h1])
      have d : ((l.length : Int) != 38) = true := by simp; omega
      clear hb hy
      generalize l.length = n at *
      go_enter Try.func50, Try.ntmps50
      go_wp2
      go_ret
      exact ⟨ret_int HF.out.symm, BA.out⟩
theorem ret_str {a b : ByteArray} (h : a = b) : Ending.returned (.string a) = .returned (.string b) := by rw [h]
end Fm
end Go.Proofs.Ytchnnpaebggfdaa

namespace Go.Proofs.Ytchnnpaebggfdaa
set_option maxRecDepth 100000
open Go.ChangeShapes Go.WideShapes Go.ChangeAt Go.RowKit Go.Deep
namespace Fm
open Wd
open Cr (Bytes)
theorem intSize : (Try.prog.info? 3).map (·.size) = some 1 := by kernel_rfl
/-- Two blocks of eight noughts are laid; the second one is written. -/
theorem two_laid (w : World) (t : TypeId) : Below (w.heap.size + 1) (w.alloc (.cells (cellsI .i64 (List.replicate 8 0)).toArray t)) ((w.alloc (.cells (cellsI .i64 (List.replicate 8 0)).toArray t)).alloc (.cells (cellsI .i64 (List.replicate 8 0)).toArray t)) :=
  (Below.refl _ _).alloc (by simp) _
theorem two_row (w : World) (t : TypeId) : IRow .i64 ((w.alloc (.cells (cellsI .i64 (List.replicate 8 0)).toArray t)).alloc (.cells (cellsI .i64 (List.replicate 8 0)).toArray t)) (w.heap.size + 1) t (List.replicate 8 0) := by
  have := heap_alloc_new (w.alloc (.cells (cellsI .i64 (List.replicate 8 0)).toArray t)) (.cells (cellsI .i64 (List.replicate 8 0)).toArray t)
  rw [show (w.alloc (.cells (cellsI .i64 (List.replicate 8 0)).toArray t)).heap.size = w.heap.size + 1 by simp] at this
  exact this
theorem one_row (w : World) (t : TypeId) : IRow .i64 (w.alloc (.cells (cellsI .i64 (List.replicate 8 0)).toArray t)) w.heap.size t (List.replicate 8 0) := heap_alloc_new w _
theorem row8 {w : World} {g : Nat} {t : TypeId} {v0 v1 v2 v3 v4 v5 v6 v7 : Int} (h : IRow .i64 w g t [v0, v1, v2, v3, v4, v5, v6, v7]) : (w.cell? ⟨g, 0, none⟩ = some (.int .i64 v0) ∧ w.cell? ⟨g, 1, none⟩ = some (.int .i64 v1) ∧ w.cell? ⟨g, 2, none⟩ = some (.int .i64 v2) ∧ w.cell? ⟨g, 3, none⟩ = some (.int .i64 v3) ∧ w.cell? ⟨g, 4, none⟩ = some (.int .i64 v4) ∧ w.cell? ⟨g, 5, none⟩ = some (.int .i64 v5) ∧ w.cell? ⟨g, 6, none⟩ = some (.int .i64 v6) ∧ w.cell? ⟨g, 7, none⟩ = some (.int .i64 v7)) :=
  ⟨h.cell 0 (by simp), h.cell 1 (by simp), h.cell 2 (by simp), h.cell 3 (by simp), h.cell 4 (by simp), h.cell 5 (by simp), h.cell 6 (by simp), h.cell 7 (by simp)⟩
theorem row8_frozen {w : World} {g : Nat} {t : TypeId} {l : List Int} (h : IRow .i64 w g t l) : w.frozen? ⟨g, 0, none⟩ = false ∧ w.frozen? ⟨g, 1, none⟩ = false ∧ w.frozen? ⟨g, 2, none⟩ = false ∧ w.frozen? ⟨g, 3, none⟩ = false ∧ w.frozen? ⟨g, 4, none⟩ = false ∧ w.frozen? ⟨g, 5, none⟩ = false ∧ w.frozen? ⟨g, 6, none⟩ = false ∧ w.frozen? ⟨g, 7, none⟩ = false :=
  ⟨h.frozen 0, h.frozen 1, h.frozen 2, h.frozen 3, h.frozen 4, h.frozen 5, h.frozen 6, h.frozen 7⟩
theorem stored8 {w : World} {g : Nat} {t : TypeId} (v0 v1 v2 v3 v4 v5 v6 v7 : Int) (h : IRow .i64 w g t (List.replicate 8 0)) : IRow .i64 ((((((((w.setCell ⟨g, 0, none⟩ (.int .i64 v0)).setCell ⟨g, 1, none⟩ (.int .i64 v1)).setCell ⟨g, 2, none⟩ (.int .i64 v2)).setCell ⟨g, 3, none⟩ (.int .i64 v3)).setCell ⟨g, 4, none⟩ (.int .i64 v4)).setCell ⟨g, 5, none⟩ (.int .i64 v5)).setCell ⟨g, 6, none⟩ (.int .i64 v6)).setCell ⟨g, 7, none⟩ (.int .i64 v7)) g t [v0, v1, v2, v3, v4, v5, v6, v7] :=
  ((((((((h.set 0 v0).set 1 v1).set 2 v2).set 3 v3).set 4 v4).set 5 v5).set 6 v6).set 7 v7)
theorem stored8_below {B : Nat} {a w : World} {g : Nat} (v0 v1 v2 v3 v4 v5 v6 v7 : Int) (h : Below B a w) (hg : B ≤ g) : Below B a ((((((((w.setCell ⟨g, 0, none⟩ (.int .i64 v0)).setCell ⟨g, 1, none⟩ (.int .i64 v1)).setCell ⟨g, 2, none⟩ (.int .i64 v2)).setCell ⟨g, 3, none⟩ (.int .i64 v3)).setCell ⟨g, 4, none⟩ (.int .i64 v4)).setCell ⟨g, 5, none⟩ (.int .i64 v5)).setCell ⟨g, 6, none⟩ (.int .i64 v6)).setCell ⟨g, 7, none⟩ (.int .i64 v7)) :=
  ((((((((h.setCell (p := ⟨g, 0, none⟩) hg _).setCell (p := ⟨g, 1, none⟩) hg _).setCell (p := ⟨g, 2, none⟩) hg _).setCell (p := ⟨g, 3, none⟩) hg _).setCell (p := ⟨g, 4, none⟩) hg _).setCell (p := ⟨g, 5, none⟩) hg _).setCell (p := ⟨g, 6, none⟩) hg _).setCell (p := ⟨g, 7, none⟩) hg _)
theorem agg8 (w : World) : (isAgg 52).run Try.prog w = .ok true w := by simp [isAgg, run_underlying Try.underlying52]
theorem size8 : (Try.prog.info? 52).map (·.size) = some 8 := by kernel_rfl
set_option maxHeartbeats 800000 in
theorem laid_any (a : Option Addr) (cap : Nat) (v0 v1 v2 v3 v4 v5 v6 v7 : Int) (w : World) (hb : IntsAt .i64 w a [v0, v1, v2, v3, v4, v5, v6, v7]) :
    Calls Try.prog 64 #[.slice a 8 cap] w fun e w' => e = .returned (.agg #[.int .i64 v0, .int .i64 v1, .int .i64 v2, .int .i64 v3, .int .i64 v4, .int .i64 v5, .int .i64 v6, .int .i64 v7]) ∧ Below w.heap.size w w' := by
  have HB := Lib.hid ((hb.below ((Below.refl w.heap.size w).alloc (Nat.le_refl _) (.cells (cellsI .i64 (List.replicate 8 0)).toArray 52))).below ((Below.refl _ _).alloc (Nat.le_refl _) (.cells (cellsI .i64 (List.replicate 8 0)).toArray 52)))
  have HR := Lib.hid (two_row w 52)
  have HL := Lib.hid (two_laid w 52)
  have HO := Lib.hid (one_row w 52)
  clear hb
  go_enter Try.func64, Try.ntmps64
  go_wp2_with ((with_reducible show wpList _ _ _ (⟨some 6, _, _, _, _, _⟩ :: _) _ _); refine wpList_copyI rfl (.tmp 4) (.tmp 5) _ rfl 3 Try.underlying110 intSize .i64 (w.heap.size + 1) 0 (List.replicate 8 0) [v0, v1, v2, v3, v4, v5, v6, v7] 52 _ _ _ _ _ _ rfl rfl HR.out (by simp) (fun _ => rfl) HB.out (by simp) (w.heap.size + 1) _ HL.out (Nat.le_refl _) ?_
               intro w2 R2' B2'; have R2 := Lib.hid (show IRow _ _ _ _ [v0, v1, v2, v3, v4, v5, v6, v7] from (splice_whole (List.replicate 8 0) [v0, v1, v2, v3, v4, v5, v6, v7] (by simp)) ▸ R2'.out); have B2 := Lib.hid B2'; clear R2' B2'; 
               have R0 := Lib.hid (HO.out.below B2.out (by simp))
               obtain ⟨r0, r1, r2, r3, r4, r5, r6, r7⟩ := row8 R2.out
               obtain ⟨z0, z1, z2, z3, z4, z5, z6, z7⟩ := row8 (show IRow .i64 w2 w.heap.size 52 [0, 0, 0, 0, 0, 0, 0, 0] from R0.out)
               obtain ⟨q0, q1, q2, q3, q4, q5, q6, q7⟩ := row8_frozen R0.out)
  have R3 := stored8 v0 v1 v2 v3 v4 v5 v6 v7 R0.out
  have B3 := stored8_below (g := w.heap.size) v0 v1 v2 v3 v4 v5 v6 v7 (((Below.refl w.heap.size w).alloc (Nat.le_refl _) _).trans (B2.out.mono (Nat.le_succ _))) (Nat.le_refl _)
  refine bodyPost_ret (v := .agg #[.int .i64 v0, .int .i64 v1, .int .i64 v2, .int .i64 v3, .int .i64 v4, .int .i64 v5, .int .i64 v6, .int .i64 v7]) ?_ rfl ⟨rfl, B3⟩
  exact Agg.ret_row (l := [v0, v1, v2, v3, v4, v5, v6, v7]) rfl rfl (agg8 _) size8 R3
end Fm
end Go.Proofs.Ytchnnpaebggfdaa

namespace Go.Proofs.Ytchnnpaebggfdaa
set_option maxRecDepth 100000
open Go.ChangeShapes Go.WideShapes Go.ChangeAt Go.RowKit Go.Deep
namespace Wd
open Cr (Bytes)
theorem byteInfo : (Try.prog.info? 5).map (fun i => (i.zero, i.size, i.bytes)) = some (some (.int .u8 0), 1, 1) := by kernel_rfl
theorem intInfo : (Try.prog.info? 3).map (fun i => (i.zero, i.size, i.bytes)) = some (some (.int .i64 0), 1, 8) := by kernel_rfl
theorem zeros_cells8 (n : Nat) : (madeCells (Value.int .u8 0).cells (n * 1)).toList = cellsI .u8 (List.replicate n 0) := by
  have : (Value.int .u8 0).cells = #[Value.int .u8 0] := rfl
  rw [this, toList_madeCells_one]; simp [cellsI]
theorem grown_set (W : World) (g i : Nat) (v : Value) : W.grownBy (W.setCell ⟨g, i, none⟩ v) (some g) :=
  ⟨rfl, rfl, rfl, by simp, fun k _ hk => heap_setCell_other W ⟨g, i, none⟩ k v (fun e => hk (by simp [e]))⟩
end Wd
end Go.Proofs.Ytchnnpaebggfdaa
