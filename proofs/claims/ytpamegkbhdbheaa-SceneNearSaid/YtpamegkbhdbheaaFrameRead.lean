/-
  What read of package frame does: its contract by walking the Go text. Conditions: 36 bytes, and where they lie.
-/
import Derived.Test.YtpamegkbhdbheaaFrameLaid
import Derived.Test.YtpamegkbhdbheaaJWordFours2
namespace Go.Proofs.Ytpamegkbhdbheaa
set_option maxRecDepth 100000
open Go.ChangeShapes Go.WideShapes Go.ChangeAt Go.RowKit Go.Deep
namespace Fm
open Wd
open Cr (Bytes)

theorem agg9 (w : World) : (isAgg 52).run Try.prog w = .ok true w := by simp [isAgg, run_underlying Try.underlying52]
theorem size9 : (Try.prog.info? 52).map (·.size) = some 9 := by kernel_rfl
theorem nine_row (w : World) (t : TypeId) : IRow .i64 (w.alloc (.cells (cellsI .i64 (List.replicate 9 0)).toArray t)) w.heap.size t (List.replicate 9 0) := heap_alloc_new w _
theorem stored9 {w : World} {g : Nat} {t : TypeId} (s v0 v1 v2 v3 v4 v5 v6 v7 : Int) (h : IRow .i64 w g t (List.replicate 9 0)) : IRow .i64 (((((((((w.setCell ⟨g, 0, none⟩ (.int .i64 s)).setCell ⟨g, 1, none⟩ (.int .i64 v0)).setCell ⟨g, 2, none⟩ (.int .i64 v1)).setCell ⟨g, 3, none⟩ (.int .i64 v2)).setCell ⟨g, 4, none⟩ (.int .i64 v3)).setCell ⟨g, 5, none⟩ (.int .i64 v4)).setCell ⟨g, 6, none⟩ (.int .i64 v5)).setCell ⟨g, 7, none⟩ (.int .i64 v6)).setCell ⟨g, 8, none⟩ (.int .i64 v7)) g t [s, v0, v1, v2, v3, v4, v5, v6, v7] :=
  (((((((((h.set 0 s).set 1 v0).set 2 v1).set 3 v2).set 4 v3).set 5 v4).set 6 v5).set 7 v6).set 8 v7)
theorem stored9_below {B : Nat} {a w : World} {g : Nat} (s v0 v1 v2 v3 v4 v5 v6 v7 : Int) (h : Below B a w) (hg : B ≤ g) : Below B a (((((((((w.setCell ⟨g, 0, none⟩ (.int .i64 s)).setCell ⟨g, 1, none⟩ (.int .i64 v0)).setCell ⟨g, 2, none⟩ (.int .i64 v1)).setCell ⟨g, 3, none⟩ (.int .i64 v2)).setCell ⟨g, 4, none⟩ (.int .i64 v3)).setCell ⟨g, 5, none⟩ (.int .i64 v4)).setCell ⟨g, 6, none⟩ (.int .i64 v5)).setCell ⟨g, 7, none⟩ (.int .i64 v6)).setCell ⟨g, 8, none⟩ (.int .i64 v7)) :=
  (((((((((h.setCell (p := ⟨g, 0, none⟩) hg _).setCell (p := ⟨g, 1, none⟩) hg _).setCell (p := ⟨g, 2, none⟩) hg _).setCell (p := ⟨g, 3, none⟩) hg _).setCell (p := ⟨g, 4, none⟩) hg _).setCell (p := ⟨g, 5, none⟩) hg _).setCell (p := ⟨g, 6, none⟩) hg _).setCell (p := ⟨g, 7, none⟩) hg _).setCell (p := ⟨g, 8, none⟩) hg _)
theorem row9 {w : World} {g : Nat} {t : TypeId} {s v0 v1 v2 v3 v4 v5 v6 v7 : Int} (h : IRow .i64 w g t [s, v0, v1, v2, v3, v4, v5, v6, v7]) : (w.cell? ⟨g, 0, none⟩ = some (.int .i64 s) ∧ w.cell? ⟨g, 1, none⟩ = some (.int .i64 v0) ∧ w.cell? ⟨g, 2, none⟩ = some (.int .i64 v1) ∧ w.cell? ⟨g, 3, none⟩ = some (.int .i64 v2) ∧ w.cell? ⟨g, 4, none⟩ = some (.int .i64 v3) ∧ w.cell? ⟨g, 5, none⟩ = some (.int .i64 v4) ∧ w.cell? ⟨g, 6, none⟩ = some (.int .i64 v5) ∧ w.cell? ⟨g, 7, none⟩ = some (.int .i64 v6) ∧ w.cell? ⟨g, 8, none⟩ = some (.int .i64 v7)) :=
  ⟨h.cell 0 (by simp), h.cell 1 (by simp), h.cell 2 (by simp), h.cell 3 (by simp), h.cell 4 (by simp), h.cell 5 (by simp), h.cell 6 (by simp), h.cell 7 (by simp), h.cell 8 (by simp)⟩
theorem row9_frozen {w : World} {g : Nat} {t : TypeId} {l : List Int} (h : IRow .i64 w g t l) : w.frozen? ⟨g, 0, none⟩ = false ∧ w.frozen? ⟨g, 1, none⟩ = false ∧ w.frozen? ⟨g, 2, none⟩ = false ∧ w.frozen? ⟨g, 3, none⟩ = false ∧ w.frozen? ⟨g, 4, none⟩ = false ∧ w.frozen? ⟨g, 5, none⟩ = false ∧ w.frozen? ⟨g, 6, none⟩ = false ∧ w.frozen? ⟨g, 7, none⟩ = false ∧ w.frozen? ⟨g, 8, none⟩ = false :=
  ⟨h.frozen 0, h.frozen 1, h.frozen 2, h.frozen 3, h.frozen 4, h.frozen 5, h.frozen 6, h.frozen 7, h.frozen 8⟩
theorem getAll_eight {l : List Int} (h : l.length = 32) : (getAll l).length = 8 ∧ getAll l = nums l := by
  have e : getAll l = nums l := by unfold getAll; rw [if_pos (by omega)]
  exact ⟨by rw [e]; exact nums_len 8 l (by omega), e⟩
theorem intsAt_piece {k : IntKind} {w : World} {a : Option Addr} {l : List Int} (i n : Nat) (h : IntsAt k w a l) (hp : 0 < l.length) : ∃ b off, a = some ⟨b, off, none⟩ ∧ IntsAt k w (some ⟨b, off + i, none⟩) ((l.drop i).take n) := by
  rcases h with rfl | ⟨b, off, rfl, hc⟩
  · simp at hp
  · exact ⟨b, off, rfl, (intsAt_drop i hc).take n⟩

set_option maxHeartbeats 800000 in
theorem read_any (b off cap : Nat) (l : List Int) (w : World) (hl : l.length = 36) (hcap : 36 ≤ cap) (hy : Bytes l) (hb : IntsAt .u8 w (some ⟨b, off, none⟩) l) :
    Calls Try.prog 35 #[.slice (some ⟨b, off, none⟩) 36 cap] w fun e w' => e = .returned (.agg (cellsI .i64 (get2v ((l.drop 2).take 2) :: nums (l.drop 4))).toArray) ∧ Below w.heap.size w w' := by
  have hc : ∀ i, i < l.length → w.cell? ⟨b, off + i, none⟩ = some (.int .u8 (l.getD i 0)) := by
    rcases hb with rfl | ⟨b', off', he, hc⟩
    · simp at hl
    · cases he; exact hc
  have hbl : b < w.heap.size := cell_lt (hc 0 (by omega))
  have I2 := Lib.hid (((intsAt_drop 2 hc).take 2).below ((Below.refl w.heap.size w).alloc (Nat.le_refl _) (.cells (cellsI .i64 (List.replicate 9 0)).toArray 52)))
  have I4 := Lib.hid ((intsAt_drop 4 hc).below ((Below.refl w.heap.size w).alloc (Nat.le_refl _) (.cells (cellsI .i64 (List.replicate 9 0)).toArray 52)))
  have y2 : Bytes ((l.drop 2).take 2) := (hy.drop _).take _
  have y4 : Bytes (l.drop 4) := hy.drop _
  have l2 : ((l.drop 2).take 2).length = 2 := by rw [List.length_take, List.length_drop]; omega
  have l4 : (l.drop 4).length = 32 := by rw [List.length_drop]; omega
  obtain ⟨g8, ge⟩ := getAll_eight l4
  have C2 := fun W cp h => get2_any (some ⟨b, off + 2, none⟩) cp ((l.drop 2).take 2) W (by omega) y2 h
  have C4 := fun W cp (hcp : 32 ≤ cp) h => getAll_any (some ⟨b, off + 4, none⟩) cp (l.drop 4) W (by omega) (by omega) y4 h
  rw [l2] at C2
  rw [l4, ge] at C4
  rw [ge] at g8
  clear hc hb hy y2 y4 ge
  generalize get2v ((l.drop 2).take 2) = s at *
  generalize (l.drop 2).take 2 = q2 at *
  generalize get2b q2 = bb at *
  generalize getAllb (l.drop 4) = bb4 at *
  generalize hnum : nums (l.drop 4) = vs at *
  generalize l.drop 4 = q4 at *
  obtain ⟨v0, v1, v2, v3, v4, v5, v6, v7, rfl⟩ := eight vs g8
  have HO := Lib.hid (nine_row w 52)
  have BA := Lib.hid ((Below.refl w.heap.size w).alloc (Nat.le_refl _) (.cells (cellsI .i64 (List.replicate 9 0)).toArray 52))
  go_enter Try.func35, Try.ntmps35
  go_wp2_with (first
    | (go_at_call 52; refine (C2 _ _ I2.out).mono ?_; rintro e w1 ⟨rfl, rfl⟩)
    | (go_at_call 53; refine (C4 _ _ (by omega) I4.out).mono ?_; rintro e w2 ⟨a2, cap2, rfl, i2, b2⟩; have R0 := Lib.hid (HO.out.below b2 (by simp)); have B2 := Lib.hid (BA.out.trans (b2.mono (by simp))); have CL := Lib.hid (laid_any a2 cap2 v0 v1 v2 v3 v4 v5 v6 v7 w2 i2); clear b2 i2)
    | (go_at_call 54; refine CL.out.mono ?_; rintro e w3 ⟨rfl, b3⟩; have R3 := Lib.hid (R0.out.below b3 (by have := B2.out.size; have := R0.out.lt; omega)); have B3 := Lib.hid (grow B2.out b3); clear b3 R0
       obtain ⟨z0, z1, z2, z3, z4, z5, z6, z7, z8⟩ := row9 (show IRow .i64 w3 w.heap.size 52 [0, 0, 0, 0, 0, 0, 0, 0, 0] from R3.out)
       obtain ⟨q0, q1, q2, q3, q4, q5, q6, q7, q8⟩ := row9_frozen R3.out))
  have R4 := stored9 s v0 v1 v2 v3 v4 v5 v6 v7 R3.out
  have B4 := stored9_below (g := w.heap.size) s v0 v1 v2 v3 v4 v5 v6 v7 B3.out (Nat.le_refl _)
  refine bodyPost_ret (v := .agg #[.int .i64 s, .int .i64 v0, .int .i64 v1, .int .i64 v2, .int .i64 v3, .int .i64 v4, .int .i64 v5, .int .i64 v6, .int .i64 v7]) ?_ rfl ⟨rfl, B4⟩
  exact Agg.ret_row (l := [s, v0, v1, v2, v3, v4, v5, v6, v7]) rfl rfl (agg9 _) size9 R4
end Fm
end Go.Proofs.Ytpamegkbhdbheaa
