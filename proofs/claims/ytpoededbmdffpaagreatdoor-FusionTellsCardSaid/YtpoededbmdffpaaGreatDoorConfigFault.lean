/-
  What Fault and Right of package config do: their contracts by walking the Go text. No conditions.
-/
import Derived.Test.YtpoededbmdffpaaGreatDoorConfigRows
import Derived.Deep.LoopGhost
import Derived.WalkMore
namespace Go.Proofs.YtpoededbmdffpaaGreatDoor
set_option maxRecDepth 100000
open Go.ChangeShapes Go.WideShapes Go.ChangeAt Go.RowKit Go.Deep
namespace Cf
/-- What lies about while the rows are looked at. -/
structure Lie (w W : World) (p : Nat) (c : List Int) : Prop where
  below : Below w.heap.size w W
  rows : ∀ i, i < 19 → RowAt W p i (rowC c i)
theorem Lie.on {w W W' : World} {p : Nat} {c : List Int} (h : Lie w W p c) (b : Below W.heap.size W W') : Lie w W' p c :=
  ⟨grow h.below b, fun i hi => (h.rows i hi).on b⟩
/-- A row taken out into a box. -/
structure In (W : World) (g : Nat) (r : Row) (a : Option Addr) (cap : Nat) : Prop where
  name : W.cell? ⟨g, 0, none⟩ = some (.string r.name)
  lo : W.cell? ⟨g, 1, none⟩ = some (.int .i64 r.lo)
  hi : W.cell? ⟨g, 2, none⟩ = some (.int .i64 r.hi)
  nums : W.cell? ⟨g, 3, none⟩ = some (.slice a r.nums.length cap)
  ints : IntsAt .i64 W a r.nums
theorem in_new {W : World} {r : Row} {a : Option Addr} {cap : Nat} {t : TypeId} (h : IntsAt .i64 W a r.nums) :
    In (W.alloc (.cells #[.string r.name, .int .i64 r.lo, .int .i64 r.hi, .slice a r.nums.length cap] t)) W.heap.size r a cap := by
  have b := (Below.refl W.heap.size W).alloc (Nat.le_refl _) (.cells #[.string r.name, .int .i64 r.lo, .int .i64 r.hi, .slice a r.nums.length cap] t)
  have hg := heap_alloc_new W (.cells #[.string r.name, .int .i64 r.lo, .int .i64 r.hi, .slice a r.nums.length cap] t)
  exact ⟨(cell_of_row _ _ _ _ _ _ hg).trans rfl, (cell_of_row _ _ _ _ _ _ hg).trans rfl, (cell_of_row _ _ _ _ _ _ hg).trans rfl, (cell_of_row _ _ _ _ _ _ hg).trans rfl, h.below b⟩
theorem nums_few (c : List Int) (k : Nat) : (rowC c k).nums.length ≤ 4 := by
  have h : ∀ r ∈ rows c, r.nums.length ≤ 4 := by
    intro r hr
    simp only [rows, List.mem_cons, List.not_mem_nil, or_false] at hr
    rcases hr with rfl | rfl | rfl | rfl | rfl | rfl | rfl | rfl | rfl | rfl | rfl | rfl | rfl | rfl | rfl | rfl | rfl | rfl | rfl <;> first | exact Nat.le_of_ble_eq_true rfl | (simp only [own, others]; split <;> exact Nat.le_of_ble_eq_true rfl)
  unfold rowC
  by_cases hk : k < (rows c).length
  · rw [List.getD_eq_getElem?_getD, List.getElem?_eq_getElem hk]; exact h _ (List.getElem_mem hk)
  · rw [List.getD_eq_getElem?_getD, List.getElem?_eq_none (by omega)]; exact Nat.zero_le _
theorem fault_step (c : List Int) (k : Nat) (h : k < 19) : first ((rows c).drop k) = if fine (rowC c k) = true then first ((rows c).drop (k + 1)) else (rowC c k).name := first_drop _ _ h
theorem take_ok {r : Row} {j : Nat} (h : j < r.nums.length) (hj : (r.nums.take j).all (ok r) = true) (hx : r.lo ≤ r.nums.getD j 0 ∧ r.nums.getD j 0 ≤ r.hi) : (r.nums.take (j + 1)).all (ok r) = true := by
  rw [List.take_succ_eq_append_getElem h, List.all_append, hj]
  simp [List.getD_eq_getElem?_getD, h] at hx
  simp [ok, hx]
theorem not_fine {r : Row} {j : Nat} (h : j < r.nums.length) (hx : r.nums.getD j 0 < r.lo ∨ r.hi < r.nums.getD j 0) : fine r = false := by
  unfold fine
  rw [List.all_eq_false]
  refine ⟨r.nums[j], List.getElem_mem h, ?_⟩
  simp [List.getD_eq_getElem?_getD, h] at hx
  simp [ok]; omega
set_option maxHeartbeats 3200000 in
theorem fault_any (c : List Int) (w : World) (hc : c.length = 21) :
    Calls Tryz.prog 64 #[.agg (CA c)] w fun e w' => e = .returned (.string (fault c)) ∧ Below w.heap.size w w' := by
  have B0 := Lib.hid (Box.new w c)
  have b0 := Lib.hid ((Below.refl w.heap.size w).alloc (Nat.le_refl _) (.cells (CA c) 24))
  have FI := fun W => fields_any c W hc
  go_enter Tryz.func64, Tryz.ntmps64
  go_wp2
  go_step3
  go_wp2
  go_step3
  go_wp2_with (with_reducible show wpList _ _ _ (⟨some 8, _, _, _, _, _⟩ :: _) _ _; refine wpList_loadC rfl _ rfl w.heap.size c rfl B0.out hc ?_)
  refine (FI _).mono ?_; rintro e w1 ⟨p, rfl, hr, b1⟩
  have L := Lib.hid (show Lie w w1 p c from ⟨grow b0.out b1, hr⟩)
  clear hr b1 FI B0 b0
  go_wp2_with fail
  go_loopg [3, 11] 19 (fun gg s3 s11 wx => ∃ k : Nat, k + gg = 19 ∧ s11 = .int .i64 k ∧ s3 = .string ⟨#[]⟩ ∧ Hid (first ((rows c).drop k) = fault c) ∧ Hid (Lie w wx p c))
  case atStart => exact ⟨0, rfl, rfl, rfl, Lib.hid rfl, L⟩
  case round =>
    obtain ⟨k, hkg, rfl, rfl, HF, HL⟩ := hrel
    cases gk with
    | zero =>
      have hk : k = 19 := by omega
      subst hk
      go_wp2_with fail
      go_ret
      exact ⟨by rw [← HF.out]; rfl, HL.out.below⟩
    | succ g =>
      have hk : k < 19 := by omega
      have HS := Lib.hid (fault_step c k hk)
      obtain ⟨z0, z1, z2, a, cap, z3, hi⟩ := HL.out.rows k hk
      have Z := Lib.hid (in_new (t := 209) (cap := cap) hi)
      have Y := Lib.hid (HL.out.on ((Below.refl wr.heap.size wr).alloc (Nat.le_refl _) (.cells #[.string (rowC c k).name, .int .i64 (rowC c k).lo, .int .i64 (rowC c k).hi, .slice a (rowC c k).nums.length cap] 209)))
      have hf := nums_few c k
      clear hi
      generalize rowC c k = r at *
      go_wp2_with fail
      generalize wr.alloc (.cells #[.string r.name, .int .i64 r.lo, .int .i64 r.hi, .slice a r.nums.length cap] 209) = W1 at *
      generalize wr.heap.size = q at *
      clear z0 z1 z2 z3 HL
      go_loopg [3, 18] r.nums.length (fun gg s3 s18 wx => ∃ j : Nat, j + gg = r.nums.length ∧ s18 = .int .i64 j ∧ s3 = .string ⟨#[]⟩ ∧ Hid ((r.nums.take j).all (ok r) = true) ∧ wx = W1)
      case atStart => exact ⟨0, by omega, rfl, rfl, Lib.hid (by simp), rfl⟩
      case round =>
        obtain ⟨j, hj, rfl, rfl, HA, rfl⟩ := hrel
        have y0 := Z.out.name
        have y1 := Z.out.lo
        have y2 := Z.out.hi
        cases gk with
        | zero =>
          have hjl : j = r.nums.length := by omega
          subst hjl
          have HN := Lib.hid (show fine r = true by have := HA.out; rw [List.take_of_length_le (Nat.le_refl _)] at this; exact this)
          go_wp2_with fail
          go_roundg g
          case rel => exact ⟨k + 1, by omega, by go_num, rfl, Lib.hid (by have h := HS.out; rw [HN.out, if_pos rfl] at h; rw [← h]; exact HF.out), Y⟩
          case measure => omega
        | succ g2 =>
          have hlt : j < r.nums.length := by omega
          rcases Z.out.ints with e | ⟨bb, off, rfl, hcell⟩
          · rw [e] at hlt; exact absurd hlt (Nat.not_lt_zero _)
          have cx := hcell j hlt
          have HG := Lib.hid (fun h1 h2 => take_ok hlt HA.out (And.intro h1 h2))
          have HB := Lib.hid (fun h => not_fine hlt h)
          clear hcell
          generalize r.nums.getD j 0 = x at *
          by_cases hx : r.lo ≤ x
          · by_cases hy : x ≤ r.hi
            · have d1 : decide (x < r.lo) = false := by simpa using hx
              have d2 : decide (r.hi < x) = false := by simpa using hy
              have HX := Lib.hid hx
              have HY := Lib.hid hy
              clear hx hy
              go_wp2_with fail
              go_roundg g2
              case rel => exact ⟨j + 1, by omega, by go_num, rfl, Lib.hid (HG.out HX.out HY.out), rfl⟩
              case measure => omega
            · have d1 : decide (x < r.lo) = false := by simpa using hx
              have d2 : decide (r.hi < x) = true := by simp; omega
              have HX := Lib.hid (HB.out (Or.inr (by omega)))
              clear hx hy
              go_wp2_with fail
              rw [Exit.noGoto_ret]
              go_ret
              exact ⟨by have h := HS.out; rw [HX.out] at h; rw [← HF.out, h]; rfl, Y.out.below⟩
          · have d1 : decide (x < r.lo) = true := by simp; omega
            have HX := Lib.hid (HB.out (Or.inl (by omega)))
            clear hx
            go_wp2_with fail
            rw [Exit.noGoto_ret]
            go_ret
            exact ⟨by have h := HS.out; rw [HX.out] at h; rw [← HF.out, h]; rfl, Y.out.below⟩
theorem rt_empty (c : List Int) : (fault c).toList.isEmpty = rt c := by
  rw [← rt_fault, beq_bytes, Bool.eq_iff_iff, decide_eq_true_eq, List.isEmpty_iff, ByteArray.toList_eq, ByteArray.ext_iff]
  simp
theorem right_any (c : List Int) (w : World) (hc : c.length = 21) :
    Calls Tryz.prog 23 #[.agg (CA c)] w fun e w' => e = .returned (.bool (rt c)) ∧ Below w.heap.size w w' := by
  have B0 := Lib.hid (Box.new w c)
  have b0 := Lib.hid ((Below.refl w.heap.size w).alloc (Nat.le_refl _) (.cells (CA c) 24))
  have FI := fun W => fault_any c W hc
  have HE := Lib.hid (rt_empty c)
  generalize fault c = s at *
  go_enter Tryz.func23, Tryz.ntmps23
  go_wp2_with (with_reducible show wpList _ _ _ (⟨some 3, _, _, _, _, _⟩ :: _) _ _; refine wpList_loadC rfl _ rfl w.heap.size c rfl B0.out hc ?_)
  refine (FI _).mono ?_; rintro e w1 ⟨rfl, b1⟩
  go_wp2_with fail
  go_ret
  exact ⟨by rw [← HE.out]; rfl, grow b0.out b1⟩
end Cf
end Go.Proofs.YtpoededbmdffpaaGreatDoor
