/-
  What fields of package config does: its contract by walking the Go text, its region that draws by the law of Flow. No conditions.
  What Fault and Right of package config do: their contracts by walking the Go text. No conditions.
  What Covers of package config does: its contract by walking the Go text. Conditions: the numbers' kinds.
-/
import Derived.Test.YtchnnpaebggfdaaConfigRow
import Derived.Deep.LoopGhost
import Derived.WalkMore
namespace Go.Proofs.Ytchnnpaebggfdaa
set_option maxRecDepth 100000
open Go.ChangeShapes Go.WideShapes Go.ChangeAt Go.RowKit Go.Deep
namespace Cf
set_option maxRecDepth 100000 in
set_option maxHeartbeats 1600000 in
theorem fields_any (c : List Int) (w : World) (hc : c.length = 21) :
    Calls Try.prog 75 #[.agg (CA c)] w fun e w' => ∃ p, e = .returned (.slice (some ⟨p, 0, none⟩) 19 19) ∧ (∀ i, i < 19 → RowAt w' p i (rowC c i)) ∧ Below w.heap.size w w' := by
  have B0 := Lib.hid (Box.new w c)
  have b0 := Lib.hid ((Below.refl w.heap.size w).alloc (Nat.le_refl _) (.cells (CA c) 24))
  have WE := fun W => weights_any c W hc
  go_enter Try.func75, Try.ntmps75
  change Code.wp _ (.seq _ (.seq _ (.seq (.region 2 fOps true) .ret))) _ _ _
  go_wp2_with (with_reducible show wpList _ _ _ (⟨some 6, _, _, _, _, _⟩ :: _) _ _; refine wpList_loadC rfl _ rfl w.heap.size c rfl B0.out hc ?_)
  refine (WE _).mono ?_; rintro e w1 ⟨a0, k0, a1, k1, rfl, i0, i1, b1⟩
  have F0 := Lib.hid (show Box w1 w.heap.size c ∧ IntsAt .i64 w1 a0 (own c) ∧ IntsAt .i64 w1 a1 (others c) ∧ Below w.heap.size w w1 from ⟨B0.out.on b1, i0, i1, grow b0.out b1⟩)
  clear i0 i1 b1 WE B0 b0
  go_wp2_with fail
  rename_i Q' K hK
  refine Flow.wp_region_flow (fun t => V w.heap.size c (sk t)) [1, 3, 4] 89 (by kernel_rfl) fOps_flow (fun t v w w' h hb => V.on h hb) rfl ?_ (steps hc) ?_
  · intro t ht
    simp only [List.mem_cons, List.not_mem_nil, or_false] at ht
    rcases ht with rfl | rfl | rfl
    · exact ⟨rfl, F0.out.1⟩
    · exact ⟨a0, k0, rfl, F0.out.2.1⟩
    · exact ⟨a1, k1, rfl, F0.out.2.2.1⟩
  · intro a' w' hb hn hd hold hv
    obtain ⟨o, ho, hd2⟩ := Option.bind_eq_some_iff.1 (show (fOps[79]?).bind (·.dst) = some 2 by kernel_rfl)
    obtain ⟨p, e2, hr⟩ : V w.heap.size c .all (a'.tmps.getD 2 undef) w' := hv 79 o 2 ho hd2
    refine hK _ _ (wp_ret (bodyPost_ret (v := .slice (some ⟨p, 0, none⟩) 19 19) ((results_tmp rfl _ _ _).trans (by rw [e2])) hd ⟨p, rfl, hr, grow F0.out.2.2.2 hb⟩))
end Cf
end Go.Proofs.Ytchnnpaebggfdaa

namespace Go.Proofs.Ytchnnpaebggfdaa
set_option maxRecDepth 100000
open Go.ChangeShapes Go.WideShapes Go.ChangeAt Go.RowKit Go.Deep
namespace Cf
/-- What lies about while the rows are looked at. -/
structure Lie (w W : World) (p : Nat) (c : List Int) : Prop where
  below : Below w.heap.size w W
  rows : ∀ i, i < 19 → RowAt W p i (rowC c i)
theorem Lie.on {w W W' : World} {p : Nat} {c : List Int} (h : Lie w W p c) (b : Below W.heap.size W W') : Lie w W' p c :=
  ⟨grow h.below b, fun i hi => (h.rows i hi).on b⟩
/-- A row taken out into a box. -/
structure In (W : World) (g : Nat) (r : Row) (a : Option Addr) (cap : Nat) : Prop where
  name : W.cell? ⟨g, 0, none⟩ = some (.string r.name)
  lo : W.cell? ⟨g, 1, none⟩ = some (.int .i64 r.lo)
  hi : W.cell? ⟨g, 2, none⟩ = some (.int .i64 r.hi)
  nums : W.cell? ⟨g, 3, none⟩ = some (.slice a r.nums.length cap)
  ints : IntsAt .i64 W a r.nums
theorem in_new {W : World} {r : Row} {a : Option Addr} {cap : Nat} {t : TypeId} (h : IntsAt .i64 W a r.nums) :
    In (W.alloc (.cells #[.string r.name, .int .i64 r.lo, .int .i64 r.hi, .slice a r.nums.length cap] t)) W.heap.size r a cap := by
  have b := (Below.refl W.heap.size W).alloc (Nat.le_refl _) (.cells #[.string r.name, .int .i64 r.lo, .int .i64 r.hi, .slice a r.nums.length cap] t)
  have hg := heap_alloc_new W (.cells #[.string r.name, .int .i64 r.lo, .int .i64 r.hi, .slice a r.nums.length cap] t)
  exact ⟨(cell_of_row _ _ _ _ _ _ hg).trans rfl, (cell_of_row _ _ _ _ _ _ hg).trans rfl, (cell_of_row _ _ _ _ _ _ hg).trans rfl, (cell_of_row _ _ _ _ _ _ hg).trans rfl, h.below b⟩
theorem nums_few (c : List Int) (k : Nat) : (rowC c k).nums.length ≤ 4 := by
  have h : ∀ r ∈ rows c, r.nums.length ≤ 4 := by
    intro r hr
    simp only [rows, List.mem_cons, List.not_mem_nil, or_false] at hr
    rcases hr with rfl | rfl | rfl | rfl | rfl | rfl | rfl | rfl | rfl | rfl | rfl | rfl | rfl | rfl | rfl | rfl | rfl | rfl | rfl <;> first | exact Nat.le_of_ble_eq_true rfl | (simp only [own, others]; split <;> exact Nat.le_of_ble_eq_true rfl)
  unfold rowC
  by_cases hk : k < (rows c).length
  · rw [List.getD_eq_getElem?_getD, List.getElem?_eq_getElem hk]; exact h _ (List.getElem_mem hk)
  · rw [List.getD_eq_getElem?_getD, List.getElem?_eq_none (by omega)]; exact Nat.zero_le _
theorem fault_step (c : List Int) (k : Nat) (h : k < 19) : first ((rows c).drop k) = if fine (rowC c k) = true then first ((rows c).drop (k + 1)) else (rowC c k).name := first_drop _ _ h
theorem take_ok {r : Row} {j : Nat} (h : j < r.nums.length) (hj : (r.nums.take j).all (ok r) = true) (hx : r.lo ≤ r.nums.getD j 0 ∧ r.nums.getD j 0 ≤ r.hi) : (r.nums.take (j + 1)).all (ok r) = true := by
  rw [List.take_succ_eq_append_getElem h, List.all_append, hj]
  simp [List.getD_eq_getElem?_getD, h] at hx
  simp [ok, hx]
theorem not_fine {r : Row} {j : Nat} (h : j < r.nums.length) (hx : r.nums.getD j 0 < r.lo ∨ r.hi < r.nums.getD j 0) : fine r = false := by
  unfold fine
  rw [List.all_eq_false]
  refine ⟨r.nums[j], List.getElem_mem h, ?_⟩
  simp [List.getD_eq_getElem?_getD, h] at hx
  simp [ok]; omega
set_option maxHeartbeats 3200000 in
theorem fault_any (c : List Int) (w : World) (hc : c.length = 21) :
    Calls Try.prog 69 #[.agg (CA c)] w fun e w' => e = .returned (.string (fault c)) ∧ Below w.heap.size w w' := by
  have B0 := Lib.hid (Box.new w c)
  have b0 := Lib.hid ((Below.refl w.heap.size w).alloc (Nat.le_refl _) (.cells (CA c) 24))
  have FI := fun W => fields_any c W hc
  go_enter Try.func69, Try.ntmps69
  go_wp2
  go_step3
  go_wp2
  go_step3
  go_wp2_with (with_reducible show wpList _ _ _ (⟨some 8, _, _, _, _, _⟩ :: _) _ _; refine wpList_loadC rfl _ rfl w.heap.size c rfl B0.out hc ?_)
  refine (FI _).mono ?_; rintro e w1 ⟨p, rfl, hr, b1⟩
  have L := Lib.hid (show Lie w w1 p c from ⟨grow b0.out b1, hr⟩)
  clear hr b1 FI B0 b0
  go_wp2_with fail
  go_loopg [3, 11] 19 (fun gg s3 s11 wx => ∃ k : Nat, k + gg = 19 ∧ s11 = .int .i64 k ∧ s3 = .string ⟨#[]⟩ ∧ Hid (first ((rows c).drop k) = fault c) ∧ Hid (Lie w wx p c))
  case atStart => exact ⟨0, rfl, rfl, rfl, Lib.hid rfl, L⟩
  case round =>
    obtain ⟨k, hkg, rfl, rfl, HF, HL⟩ := hrel
    cases gk with
    | zero =>
      have hk : k = 19 := by omega
      subst hk
      go_wp2_with fail
      go_ret
      exact ⟨by rw [← HF.out]; rfl, HL.out.below⟩
    | succ g =>
      have hk : k < 19 := by omega
      have HS := Lib.hid (fault_step c k hk)
      obtain ⟨z0, z1, z2, a, cap, z3, hi⟩ := HL.out.rows k hk
      have Z := Lib.hid (in_new (t := 125) (cap := cap) hi)
      have Y := Lib.hid (HL.out.on ((Below.refl wr.heap.size wr).alloc (Nat.le_refl _) (.cells #[.string (rowC c k).name, .int .i64 (rowC c k).lo, .int .i64 (rowC c k).hi, .slice a (rowC c k).nums.length cap] 125)))
      have hf := nums_few c k
      clear hi
      generalize rowC c k = r at *
      go_wp2_with fail
      generalize wr.alloc (.cells #[.string r.name, .int .i64 r.lo, .int .i64 r.hi, .slice a r.nums.length cap] 125) = W1 at *
      generalize wr.heap.size = q at *
      clear z0 z1 z2 z3 HL
      go_loopg [3, 18] r.nums.length (fun gg s3 s18 wx => ∃ j : Nat, j + gg = r.nums.length ∧ s18 = .int .i64 j ∧ s3 = .string ⟨#[]⟩ ∧ Hid ((r.nums.take j).all (ok r) = true) ∧ wx = W1)
      case atStart => exact ⟨0, by omega, rfl, rfl, Lib.hid (by simp), rfl⟩
      case round =>
        obtain ⟨j, hj, rfl, rfl, HA, rfl⟩ := hrel
        have y0 := Z.out.name
        have y1 := Z.out.lo
        have y2 := Z.out.hi
        cases gk with
        | zero =>
          have hjl : j = r.nums.length := by omega
          subst hjl
          have HN := Lib.hid (show fine r = true by have := HA.out; rw [List.take_of_length_le (Nat.le_refl _)] at this; exact this)
          go_wp2_with fail
          go_roundg g
          case rel => exact ⟨k + 1, by omega, by go_num, rfl, Lib.hid (by have h := HS.out; rw [HN.out, if_pos rfl] at h; rw [← h]; exact HF.out), Y⟩
          case measure => omega
        | succ g2 =>
          have hlt : j < r.nums.length := by omega
          rcases Z.out.ints with e | ⟨bb, off, rfl, hcell⟩
          · rw [e] at hlt; exact absurd hlt (Nat.not_lt_zero _)
          have cx := hcell j hlt
          have HG := Lib.hid (fun h1 h2 => take_ok hlt HA.out (And.intro h1 h2))
          have HB := Lib.hid (fun h => not_fine hlt h)
          clear hcell
          generalize r.nums.getD j 0 = x at *
          by_cases hx : r.lo ≤ x
          · by_cases hy : x ≤ r.hi
            · have d1 : decide (x < r.lo) = false := by simpa using hx
              have d2 : decide (r.hi < x) = false := by simpa using hy
              have HX := Lib.hid hx
              have HY := Lib.hid hy
              clear hx hy
              go_wp2_with fail
              go_roundg g2
              case rel => exact ⟨j + 1, by omega, by go_num, rfl, Lib.hid (HG.out HX.out HY.out), rfl⟩
              case measure => omega
            · have d1 : decide (x < r.lo) = false := by simpa using hx
              have d2 : decide (r.hi < x) = true := by simp; omega
              have HX := Lib.hid (HB.out (Or.inr (by omega)))
              clear hx hy
              go_wp2_with fail
              rw [Exit.noGoto_ret]
              go_ret
              exact ⟨by have h := HS.out; rw [HX.out] at h; rw [← HF.out, h]; rfl, Y.out.below⟩
          · have d1 : decide (x < r.lo) = true := by simp; omega
            have HX := Lib.hid (HB.out (Or.inl (by omega)))
            clear hx
            go_wp2_with fail
            rw [Exit.noGoto_ret]
            go_ret
            exact ⟨by have h := HS.out; rw [HX.out] at h; rw [← HF.out, h]; rfl, Y.out.below⟩
theorem rt_empty (c : List Int) : (fault c).toList.isEmpty = rt c := by
  rw [← rt_fault, beq_bytes, Bool.eq_iff_iff, decide_eq_true_eq, List.isEmpty_iff, ByteArray.toList_eq, ByteArray.ext_iff]
  simp
theorem right_any (c : List Int) (w : World) (hc : c.length = 21) :
    Calls Try.prog 58 #[.agg (CA c)] w fun e w' => e = .returned (.bool (rt c)) ∧ Below w.heap.size w w' := by
  have B0 := Lib.hid (Box.new w c)
  have b0 := Lib.hid ((Below.refl w.heap.size w).alloc (Nat.le_refl _) (.cells (CA c) 24))
  have FI := fun W => fault_any c W hc
  have HE := Lib.hid (rt_empty c)
  generalize fault c = s at *
  go_enter Try.func58, Try.ntmps58
  go_wp2_with (with_reducible show wpList _ _ _ (⟨some 3, _, _, _, _, _⟩ :: _) _ _; refine wpList_loadC rfl _ rfl w.heap.size c rfl B0.out hc ?_)
  refine (FI _).mono ?_; rintro e w1 ⟨rfl, b1⟩
  go_wp2_with fail
  go_ret
  exact ⟨by rw [← HE.out]; rfl, grow b0.out b1⟩
end Cf
end Go.Proofs.Ytchnnpaebggfdaa

namespace Go.Proofs.Ytchnnpaebggfdaa
set_option maxRecDepth 100000
open Go.ChangeShapes Go.WideShapes Go.ChangeAt Go.RowKit Go.Deep
namespace Cf
theorem ret_bool {a b : Bool} (h : a = b) : Ending.returned (.bool a) = .returned (.bool b) := by rw [h]
theorem wp_loadC {o : Oper} {a : Act} {w : World} {K : Act → World → Prop} {Q : Exit → Act → World → Prop} (x : Operand) (ho : o.op = .load 24 x)
    (b : Nat) (c : List Int) (hx : a.eval x = .pointer (some ⟨b, 0, none⟩)) (hb : Box w b c) (hc : c.length = 21)
    (h : K (a.put o.dst (.agg (CA c))) w) : o.wp Try.prog a w K Q :=
  wp_load_row 24 x ho b hx 24 (CA c) (0, 0) _ hb Try.underlying24 rfl (by rw [CA_size, hc]; exact sizeC) h
/-- A whole configuration loaded, where the operation is wanted. -/
theorem wpList_loadW {ops : Array Oper} {rest : List Oper} {o : Oper} {a : Act} {w : World} {Q : Exit → Act → World → Prop} (hw : Region.wanted o (yielded ops a.tmps) = true) (x : Operand) (ho : o.op = .load 24 x)
    (b : Nat) (c : List Int) (hx : a.eval x = .pointer (some ⟨b, 0, none⟩)) (hb : Box w b c) (hc : c.length = 21)
    (h : wpList Try.prog ops Q rest (a.put o.dst (.agg (CA c))) w) : wpList Try.prog ops Q (o :: rest) a w := by
  unfold wpList
  rw [if_pos hw]
  exact .inl (wp_loadC x ho b c hx hb hc h)
theorem cov_far (c : List Int) (e r : Int) (h : ¬ (0 ≤ e ∧ e ≤ 1073741824 ∧ 0 ≤ r ∧ r ≤ 1073741824)) : cov c e r = false := by
  unfold cov; rw [decide_eq_false_iff_not]; exact fun q => h q.1
theorem cov_wrong (c : List Int) (e r : Int) (h : rt c = false) : cov c e r = false := by
  unfold cov; rw [decide_eq_false_iff_not]; exact fun q => (of_decide_eq_false h) q.2.1
theorem cov_right (c : List Int) (e r : Int) (h : 0 ≤ e ∧ e ≤ 1073741824 ∧ 0 ≤ r ∧ r ≤ 1073741824) (hr : rt c = true) :
    cov c e r = (decide (2 * e + 2 * G c 10 + G c 12 ≤ G c 9) && (decide (r + 2 * e ≤ G c 4) && (decide (2 * e ≤ G c 7) && (decide (4 * e + 2 * G c 10 + 2 * G c 12 ≤ G c 5) && decide (2 * e ≤ G c 2 - G c 1))))) := by
  have hR : Right c := of_decide_eq_true hr
  unfold cov
  simp only [h, hR, true_and, Bool.decide_and, and_self]
theorem right_small (c : List Int) (hr : rt c = true) : (-2147483648 ≤ G c 1 ∧ G c 1 ≤ 2147483647) ∧ (-2147483648 ≤ G c 2 ∧ G c 2 ≤ 2147483647) ∧ (0 ≤ G c 4 ∧ G c 4 ≤ 2147483647) ∧ (0 ≤ G c 5 ∧ G c 5 ≤ 2147483647) ∧ (0 ≤ G c 7 ∧ G c 7 ≤ 2147483647) ∧ (0 ≤ G c 9 ∧ G c 9 ≤ 2147483647) ∧ (0 ≤ G c 10 ∧ G c 10 ≤ 2147483647) ∧ (0 ≤ G c 12 ∧ G c 12 ≤ 2147483647) := by
  have hR : Right c := of_decide_eq_true hr
  unfold Right at hR
  omega
set_option maxHeartbeats 6400000 in
theorem covers_any (c : List Int) (e r : Int) (w : World) (hc : c.length = 21) :
    Calls Try.prog 44 #[.agg (CA c), .int .i64 e, .int .i64 r] w fun en w' => en = .returned (.bool (cov c e r)) ∧ Below w.heap.size w w' := by
  have B0 := Lib.hid (Box.new w c)
  have b0 := Lib.hid ((Below.refl w.heap.size w).alloc (Nat.le_refl _) (.cells (CA c) 24))
  have RI := fun W => right_any c W hc
  by_cases hin : 0 ≤ e ∧ e ≤ 1073741824 ∧ 0 ≤ r ∧ r ≤ 1073741824
  · have HIN := Lib.hid hin
    obtain ⟨h1, h2, h3, h4⟩ := hin
    have d1 : decide (e < 0) = false := by simpa using h1
    have d2 : decide (1073741824 < e) = false := by simpa using h2
    have d3 : decide (r < 0) = false := by simpa using h3
    have d4 : decide (1073741824 < r) = false := by simpa using h4
    cases hR : rt c
    · have HF := Lib.hid (cov_wrong c e r hR)
      rw [hR] at RI
      clear hR
      go_enter Try.func44, Try.ntmps44
      go_wp2_with (with_reducible show wpList _ _ _ (⟨some 22, _, _, _, _, _⟩ :: _) _ _; refine wpList_loadW rfl _ rfl w.heap.size c rfl B0.out hc ?_)
      refine (RI _).mono ?_; rintro en w1 ⟨rfl, b1⟩
      go_wp2_with fail
      go_ret
      exact ⟨ret_bool (by rw [HF.out]), grow b0.out b1⟩
    · have HC := Lib.hid (cov_right c e r HIN.out hR)
      have HS := Lib.hid (right_small c hR)
      rw [hR] at RI
      clear hR
      go_enter Try.func44, Try.ntmps44
      go_wp2_with (with_reducible show wpList _ _ _ (⟨some 22, _, _, _, _, _⟩ :: _) _ _; refine wpList_loadW rfl _ rfl w.heap.size c rfl B0.out hc ?_)
      refine (RI _).mono ?_; rintro en w1 ⟨rfl, b1⟩
      have B1 := B0.out.on b1
      have y1 := B1.at hc 1 (by omega)
      have y2 := B1.at hc 2 (by omega)
      have y4 := B1.at hc 4 (by omega)
      have y5 := B1.at hc 5 (by omega)
      have y7 := B1.at hc 7 (by omega)
      have y9 := B1.at hc 9 (by omega)
      have y10 := B1.at hc 10 (by omega)
      have y12 := B1.at hc 12 (by omega)
      clear B1
      obtain ⟨⟨g1, g1'⟩, ⟨g2, g2'⟩, ⟨g4, g4'⟩, ⟨g5, g5'⟩, ⟨g7, g7'⟩, ⟨g9, g9'⟩, ⟨g10, g10'⟩, ⟨g12, g12'⟩⟩ := HS.out
      generalize G c 1 = x1 at *
      generalize G c 2 = x2 at *
      generalize G c 4 = x4 at *
      generalize G c 5 = x5 at *
      generalize G c 7 = x7 at *
      generalize G c 9 = x9 at *
      generalize G c 10 = x10 at *
      generalize G c 12 = x12 at *
      cases q0 : decide (2 * e + 2 * x10 + x12 ≤ x9)
      · have HC := Lib.hid (show cov c e r = false by rw [HC.out]; simp [q0])
        go_wp2_with fail
        go_ret
        exact ⟨ret_bool (by rw [HC.out]), grow b0.out b1⟩
      cases q1 : decide (r + 2 * e ≤ x4)
      · have HC := Lib.hid (show cov c e r = false by rw [HC.out]; simp [q0, q1])
        go_wp2_with fail
        go_ret
        exact ⟨ret_bool (by rw [HC.out]), grow b0.out b1⟩
      cases q2 : decide (2 * e ≤ x7)
      · have HC := Lib.hid (show cov c e r = false by rw [HC.out]; simp [q0, q1, q2])
        go_wp2_with fail
        go_ret
        exact ⟨ret_bool (by rw [HC.out]), grow b0.out b1⟩
      cases q3 : decide (4 * e + 2 * x10 + 2 * x12 ≤ x5)
      · have HC := Lib.hid (show cov c e r = false by rw [HC.out]; simp [q0, q1, q2, q3])
        go_wp2_with fail
        go_ret
        exact ⟨ret_bool (by rw [HC.out]), grow b0.out b1⟩
      cases q4 : decide (2 * e ≤ x2 - x1)
      · have HC := Lib.hid (show cov c e r = false by rw [HC.out]; simp [q0, q1, q2, q3, q4])
        go_wp2_with fail
        go_ret
        exact ⟨ret_bool (by rw [HC.out]), grow b0.out b1⟩
      · have HC := Lib.hid (show cov c e r = true by rw [HC.out]; simp [q0, q1, q2, q3, q4])
        go_wp2_with fail
        go_ret
        exact ⟨ret_bool (by rw [HC.out]), grow b0.out b1⟩
  · have HF := Lib.hid (cov_far c e r hin)
    cases d1 : decide (e < 0)
    · cases d2 : decide (1073741824 < e)
      · cases d3 : decide (r < 0)
        · have d4 : decide (1073741824 < r) = true := by simp at d1 d2 d3 ⊢; omega
          clear hin
          go_enter Try.func44, Try.ntmps44
          go_wp2_with fail
          go_ret
          exact ⟨ret_bool HF.out.symm, b0.out⟩
        · clear hin
          go_enter Try.func44, Try.ntmps44
          go_wp2_with fail
          go_ret
          exact ⟨ret_bool HF.out.symm, b0.out⟩
      · clear hin
        go_enter Try.func44, Try.ntmps44
        go_wp2_with fail
        go_ret
        exact ⟨ret_bool HF.out.symm, b0.out⟩
    · clear hin
      go_enter Try.func44, Try.ntmps44
      go_wp2_with fail
      go_ret
      exact ⟨ret_bool HF.out.symm, b0.out⟩
end Cf
end Go.Proofs.Ytchnnpaebggfdaa
