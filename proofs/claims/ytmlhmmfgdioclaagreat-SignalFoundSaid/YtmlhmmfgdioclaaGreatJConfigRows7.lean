/-
  What fields of package config does: its contract by walking the Go text, its region that draws by the law of Flow. No conditions.
  What Fault and Right of package config do: their contracts by walking the Go text. No conditions.
  What Covers of package config does: its contract by walking the Go text. Conditions: the numbers' kinds.
  A region that draws its order and ends with what all else goes ahead of: the head only reads, and is walked once, in the order of the text; the tail may write. No function of the program is walked here. No conditions.
  A region that draws its order and ends with what all else goes ahead of: the head reads and calls, and what it calls may lay new blocks (whatever class of worlds is given); it is walked once, in the order of the text; the tail may write. No function of the program is walked here. No conditions.
  What the laws' own helpers of layer 18 tell: small, moved: contracts by walking the Go text. Conditions: the numbers' bounds.
  What the laws' own helper told tells: a contract by walking the Go text. Conditions: the numbers' bounds.
-/
import Derived.Test.YtmlhmmfgdioclaaGreatConfigRow
import Derived.Deep.LoopGhost
import Derived.WalkMore
import Derived.Test.YtmlhmmfgdioclaaGreatJOpen5
import Derived.StillTail
import Derived.BigQuiet
import Derived.Lib.QuietBelow
import Derived.Test.YtmlhmmfgdioclaaGreatJLatchMath7
import Derived.Lib.MinMax
namespace Go.Proofs.YtmlhmmfgdioclaaGreat
set_option maxRecDepth 100000
open Go.ChangeShapes Go.WideShapes Go.ChangeAt Go.RowKit Go.Deep
namespace Cf

set_option maxRecDepth 100000 in
set_option maxHeartbeats 1600000 in
theorem fields_any (c : List Int) (w : World) (hc : c.length = 21) :
    Calls Tryz.prog 91 #[.agg (CA c)] w fun e w' => ∃ p, e = .returned (.slice (some ⟨p, 0, none⟩) 19 19) ∧ (∀ i, i < 19 → RowAt w' p i (rowC c i)) ∧ Below w.heap.size w w' := by
  have B0 := Lib.hid (Box.new w c)
  have b0 := Lib.hid ((Below.refl w.heap.size w).alloc (Nat.le_refl _) (.cells (CA c) 24))
  have WE := fun W => weights_any c W hc
  go_enter Tryz.func91, Tryz.ntmps91
  change Code.wp _ (.seq _ (.seq _ (.seq (.region 2 fOps true) .ret))) _ _ _
  go_wp2_with (with_reducible show wpList _ _ _ (⟨some 6, _, _, _, _, _⟩ :: _) _ _; refine wpList_loadC rfl _ rfl w.heap.size c rfl B0.out hc ?_)
  refine (WE _).mono ?_; rintro e w1 ⟨a0, k0, a1, k1, rfl, i0, i1, b1⟩
  have F0 := Lib.hid (show Box w1 w.heap.size c ∧ IntsAt .i64 w1 a0 (own c) ∧ IntsAt .i64 w1 a1 (others c) ∧ Below w.heap.size w w1 from ⟨B0.out.on b1, i0, i1, grow b0.out b1⟩)
  clear i0 i1 b1 WE B0 b0
  go_wp2_with fail
  rename_i Q' K hK
  refine Flow.wp_region_flow (fun t => V w.heap.size c (sk t)) [1, 3, 4] 89 (by kernel_rfl) fOps_flow (fun t v w w' h hb => V.on h hb) rfl ?_ (steps hc) ?_
  · intro t ht
    simp only [List.mem_cons, List.not_mem_nil, or_false] at ht
    rcases ht with rfl | rfl | rfl
    · exact ⟨rfl, F0.out.1⟩
    · exact ⟨a0, k0, rfl, F0.out.2.1⟩
    · exact ⟨a1, k1, rfl, F0.out.2.2.1⟩
  · intro a' w' hb hn hd hold hv
    obtain ⟨o, ho, hd2⟩ := Option.bind_eq_some_iff.1 (show (fOps[79]?).bind (·.dst) = some 2 by kernel_rfl)
    obtain ⟨p, e2, hr⟩ : V w.heap.size c .all (a'.tmps.getD 2 undef) w' := hv 79 o 2 ho hd2
    refine hK _ _ (wp_ret (bodyPost_ret (v := .slice (some ⟨p, 0, none⟩) 19 19) ((results_tmp rfl _ _ _).trans (by rw [e2])) hd ⟨p, rfl, hr, grow F0.out.2.2.2 hb⟩))
end Cf
end Go.Proofs.YtmlhmmfgdioclaaGreat

namespace Go.Proofs.YtmlhmmfgdioclaaGreat
set_option maxRecDepth 100000
open Go.ChangeShapes Go.WideShapes Go.ChangeAt Go.RowKit Go.Deep
namespace Cf

/-- What lies about while the rows are looked at. -/
structure Lie (w W : World) (p : Nat) (c : List Int) : Prop where
  below : Below w.heap.size w W
  rows : ∀ i, i < 19 → RowAt W p i (rowC c i)
theorem Lie.on {w W W' : World} {p : Nat} {c : List Int} (h : Lie w W p c) (b : Below W.heap.size W W') : Lie w W' p c :=
  ⟨grow h.below b, fun i hi => (h.rows i hi).on b⟩
/-- A row taken out into a box. -/
structure In (W : World) (g : Nat) (r : Row) (a : Option Addr) (cap : Nat) : Prop where
  name : W.cell? ⟨g, 0, none⟩ = some (.string r.name)
  lo : W.cell? ⟨g, 1, none⟩ = some (.int .i64 r.lo)
  hi : W.cell? ⟨g, 2, none⟩ = some (.int .i64 r.hi)
  nums : W.cell? ⟨g, 3, none⟩ = some (.slice a r.nums.length cap)
  ints : IntsAt .i64 W a r.nums
theorem in_new {W : World} {r : Row} {a : Option Addr} {cap : Nat} {t : TypeId} (h : IntsAt .i64 W a r.nums) :
    In (W.alloc (.cells #[.string r.name, .int .i64 r.lo, .int .i64 r.hi, .slice a r.nums.length cap] t)) W.heap.size r a cap := by
  have b := (Below.refl W.heap.size W).alloc (Nat.le_refl _) (.cells #[.string r.name, .int .i64 r.lo, .int .i64 r.hi, .slice a r.nums.length cap] t)
  have hg := heap_alloc_new W (.cells #[.string r.name, .int .i64 r.lo, .int .i64 r.hi, .slice a r.nums.length cap] t)
  exact ⟨(cell_of_row _ _ _ _ _ _ hg).trans rfl, (cell_of_row _ _ _ _ _ _ hg).trans rfl, (cell_of_row _ _ _ _ _ _ hg).trans rfl, (cell_of_row _ _ _ _ _ _ hg).trans rfl, h.below b⟩

theorem nums_few (c : List Int) (k : Nat) : (rowC c k).nums.length ≤ 4 := by
  have h : ∀ r ∈ rows c, r.nums.length ≤ 4 := by
    intro r hr
    simp only [rows, List.mem_cons, List.not_mem_nil, or_false] at hr
    rcases hr with rfl | rfl | rfl | rfl | rfl | rfl | rfl | rfl | rfl | rfl | rfl | rfl | rfl | rfl | rfl | rfl | rfl | rfl | rfl <;> first | exact Nat.le_of_ble_eq_true rfl | (simp only [own, others]; split <;> exact Nat.le_of_ble_eq_true rfl)
  unfold rowC
  by_cases hk : k < (rows c).length
  · rw [List.getD_eq_getElem?_getD, List.getElem?_eq_getElem hk]; exact h _ (List.getElem_mem hk)
  · rw [List.getD_eq_getElem?_getD, List.getElem?_eq_none (by omega)]; exact Nat.zero_le _
theorem fault_step (c : List Int) (k : Nat) (h : k < 19) : first ((rows c).drop k) = if fine (rowC c k) = true then first ((rows c).drop (k + 1)) else (rowC c k).name := first_drop _ _ h
theorem take_ok {r : Row} {j : Nat} (h : j < r.nums.length) (hj : (r.nums.take j).all (ok r) = true) (hx : r.lo ≤ r.nums.getD j 0 ∧ r.nums.getD j 0 ≤ r.hi) : (r.nums.take (j + 1)).all (ok r) = true := by
  rw [List.take_succ_eq_append_getElem h, List.all_append, hj]
  simp [List.getD_eq_getElem?_getD, h] at hx
  simp [ok, hx]
theorem not_fine {r : Row} {j : Nat} (h : j < r.nums.length) (hx : r.nums.getD j 0 < r.lo ∨ r.hi < r.nums.getD j 0) : fine r = false := by
  unfold fine
  rw [List.all_eq_false]
  refine ⟨r.nums[j], List.getElem_mem h, ?_⟩
  simp [List.getD_eq_getElem?_getD, h] at hx
  simp [ok]; omega

set_option maxHeartbeats 3200000 in
theorem fault_any (c : List Int) (w : World) (hc : c.length = 21) :
    Calls Tryz.prog 51 #[.agg (CA c)] w fun e w' => e = .returned (.string (fault c)) ∧ Below w.heap.size w w' := by
  have B0 := Lib.hid (Box.new w c)
  have b0 := Lib.hid ((Below.refl w.heap.size w).alloc (Nat.le_refl _) (.cells (CA c) 24))
  have FI := fun W => fields_any c W hc
  go_enter Tryz.func51, Tryz.ntmps51
  go_wp2
  go_step3
  go_wp2
  go_step3
  go_wp2_with (with_reducible show wpList _ _ _ (⟨some 8, _, _, _, _, _⟩ :: _) _ _; refine wpList_loadC rfl _ rfl w.heap.size c rfl B0.out hc ?_)
  refine (FI _).mono ?_; rintro e w1 ⟨p, rfl, hr, b1⟩
  have L := Lib.hid (show Lie w w1 p c from ⟨grow b0.out b1, hr⟩)
  clear hr b1 FI B0 b0
  go_wp2_with fail
  go_loopg [3, 11] 19 (fun gg s3 s11 wx => ∃ k : Nat, k + gg = 19 ∧ s11 = .int .i64 k ∧ s3 = .string ⟨#[]⟩ ∧ Hid (first ((rows c).drop k) = fault c) ∧ Hid (Lie w wx p c))
  case atStart => exact ⟨0, rfl, rfl, rfl, Lib.hid rfl, L⟩
  case round =>
    obtain ⟨k, hkg, rfl, rfl, HF, HL⟩ := hrel
    cases gk with
    | zero =>
      have hk : k = 19 := by omega
      subst hk
      go_wp2_with fail
      go_ret
      exact ⟨by rw [← HF.out]; rfl, HL.out.below⟩
    | succ g =>
      have hk : k < 19 := by omega
      have HS := Lib.hid (fault_step c k hk)
      obtain ⟨z0, z1, z2, a, cap, z3, hi⟩ := HL.out.rows k hk
      have Z := Lib.hid (in_new (t := 169) (cap := cap) hi)
      have Y := Lib.hid (HL.out.on ((Below.refl wr.heap.size wr).alloc (Nat.le_refl _) (.cells #[.string (rowC c k).name, .int .i64 (rowC c k).lo, .int .i64 (rowC c k).hi, .slice a (rowC c k).nums.length cap] 169)))
      have hf := nums_few c k
      clear hi
      generalize rowC c k = r at *
      go_wp2_with fail
      generalize wr.alloc (.cells #[.string r.name, .int .i64 r.lo, .int .i64 r.hi, .slice a r.nums.length cap] 169) = W1 at *
      generalize wr.heap.size = q at *
      clear z0 z1 z2 z3 HL
      go_loopg [3, 18] r.nums.length (fun gg s3 s18 wx => ∃ j : Nat, j + gg = r.nums.length ∧ s18 = .int .i64 j ∧ s3 = .string ⟨#[]⟩ ∧ Hid ((r.nums.take j).all (ok r) = true) ∧ wx = W1)
      case atStart => exact ⟨0, by omega, rfl, rfl, Lib.hid (by simp), rfl⟩
      case round =>
        obtain ⟨j, hj, rfl, rfl, HA, rfl⟩ := hrel
        have y0 := Z.out.name
        have y1 := Z.out.lo
        have y2 := Z.out.hi
        cases gk with
        | zero =>
          have hjl : j = r.nums.length := by omega
          subst hjl
          have HN := Lib.hid (show fine r = true by have := HA.out; rw [List.take_of_length_le (Nat.le_refl _)] at this; exact this)
          go_wp2_with fail
          go_roundg g
          case rel => exact ⟨k + 1, by omega, by go_num, rfl, Lib.hid (by have h := HS.out; rw [HN.out, if_pos rfl] at h; rw [← h]; exact HF.out), Y⟩
          case measure => omega
        | succ g2 =>
          have hlt : j < r.nums.length := by omega
          rcases Z.out.ints with e | ⟨bb, off, rfl, hcell⟩
          · rw [e] at hlt; exact absurd hlt (Nat.not_lt_zero _)
          have cx := hcell j hlt
          have HG := Lib.hid (fun h1 h2 => take_ok hlt HA.out (And.intro h1 h2))
          have HB := Lib.hid (fun h => not_fine hlt h)
          clear hcell
          generalize r.nums.getD j 0 = x at *
          by_cases hx : r.lo ≤ x
          · by_cases hy : x ≤ r.hi
            · have d1 : decide (x < r.lo) = false := by simpa using hx
              have d2 : decide (r.hi < x) = false := by simpa using hy
              have HX := Lib.hid hx
              have HY := Lib.hid hy
              clear hx hy
              go_wp2_with fail
              go_roundg g2
              case rel => exact ⟨j + 1, by omega, by go_num, rfl, Lib.hid (HG.out HX.out HY.out), rfl⟩
              case measure => omega
            · have d1 : decide (x < r.lo) = false := by simpa using hx
              have d2 : decide (r.hi < x) = true := by simp; omega
              have HX := Lib.hid (HB.out (Or.inr (by omega)))
              clear hx hy
              go_wp2_with fail
              rw [Exit.noGoto_ret]
              go_ret
              exact ⟨by have h := HS.out; rw [HX.out] at h; rw [← HF.out, h]; rfl, Y.out.below⟩
          · have d1 : decide (x < r.lo) = true := by simp; omega
            have HX := Lib.hid (HB.out (Or.inl (by omega)))
            clear hx
            go_wp2_with fail
            rw [Exit.noGoto_ret]
            go_ret
            exact ⟨by have h := HS.out; rw [HX.out] at h; rw [← HF.out, h]; rfl, Y.out.below⟩

theorem rt_empty (c : List Int) : (fault c).toList.isEmpty = rt c := by
  rw [← rt_fault, beq_bytes, Bool.eq_iff_iff, decide_eq_true_eq, List.isEmpty_iff, ByteArray.toList_eq, ByteArray.ext_iff]
  simp
theorem right_any (c : List Int) (w : World) (hc : c.length = 21) :
    Calls Tryz.prog 24 #[.agg (CA c)] w fun e w' => e = .returned (.bool (rt c)) ∧ Below w.heap.size w w' := by
  have B0 := Lib.hid (Box.new w c)
  have b0 := Lib.hid ((Below.refl w.heap.size w).alloc (Nat.le_refl _) (.cells (CA c) 24))
  have FI := fun W => fault_any c W hc
  have HE := Lib.hid (rt_empty c)
  generalize fault c = s at *
  go_enter Tryz.func24, Tryz.ntmps24
  go_wp2_with (with_reducible show wpList _ _ _ (⟨some 3, _, _, _, _, _⟩ :: _) _ _; refine wpList_loadC rfl _ rfl w.heap.size c rfl B0.out hc ?_)
  refine (FI _).mono ?_; rintro e w1 ⟨rfl, b1⟩
  go_wp2_with fail
  go_ret
  exact ⟨by rw [← HE.out]; rfl, grow b0.out b1⟩
end Cf
end Go.Proofs.YtmlhmmfgdioclaaGreat

namespace Go.Proofs.YtmlhmmfgdioclaaGreat
set_option maxRecDepth 100000
open Go.ChangeShapes Go.WideShapes Go.ChangeAt Go.RowKit Go.Deep
namespace Cf

theorem ret_bool {a b : Bool} (h : a = b) : Ending.returned (.bool a) = .returned (.bool b) := by rw [h]
theorem wp_loadC {o : Oper} {a : Act} {w : World} {K : Act → World → Prop} {Q : Exit → Act → World → Prop} (x : Operand) (ho : o.op = .load 24 x)
    (b : Nat) (c : List Int) (hx : a.eval x = .pointer (some ⟨b, 0, none⟩)) (hb : Box w b c) (hc : c.length = 21)
    (h : K (a.put o.dst (.agg (CA c))) w) : o.wp Tryz.prog a w K Q :=
  wp_load_row 24 x ho b hx 24 (CA c) (0, 0) _ hb Tryz.underlying24 rfl (by rw [CA_size, hc]; exact sizeC) h

/-- A whole configuration loaded, where the operation is wanted. -/
theorem wpList_loadW {ops : Array Oper} {rest : List Oper} {o : Oper} {a : Act} {w : World} {Q : Exit → Act → World → Prop} (hw : Region.wanted o (yielded ops a.tmps) = true) (x : Operand) (ho : o.op = .load 24 x)
    (b : Nat) (c : List Int) (hx : a.eval x = .pointer (some ⟨b, 0, none⟩)) (hb : Box w b c) (hc : c.length = 21)
    (h : wpList Tryz.prog ops Q rest (a.put o.dst (.agg (CA c))) w) : wpList Tryz.prog ops Q (o :: rest) a w := by
  unfold wpList
  rw [if_pos hw]
  exact .inl (wp_loadC x ho b c hx hb hc h)
theorem cov_far (c : List Int) (e r : Int) (h : ¬ (0 ≤ e ∧ e ≤ 1073741824 ∧ 0 ≤ r ∧ r ≤ 1073741824)) : cov c e r = false := by
  unfold cov; rw [decide_eq_false_iff_not]; exact fun q => h q.1
theorem cov_wrong (c : List Int) (e r : Int) (h : rt c = false) : cov c e r = false := by
  unfold cov; rw [decide_eq_false_iff_not]; exact fun q => (of_decide_eq_false h) q.2.1
theorem cov_right (c : List Int) (e r : Int) (h : 0 ≤ e ∧ e ≤ 1073741824 ∧ 0 ≤ r ∧ r ≤ 1073741824) (hr : rt c = true) :
    cov c e r = (decide (2 * e + 2 * G c 10 + G c 12 ≤ G c 9) && (decide (r + 2 * e ≤ G c 4) && (decide (2 * e ≤ G c 7) && (decide (4 * e + 2 * G c 10 + 2 * G c 12 ≤ G c 5) && decide (2 * e ≤ G c 2 - G c 1))))) := by
  have hR : Right c := of_decide_eq_true hr
  unfold cov
  simp only [h, hR, true_and, Bool.decide_and, and_self]
theorem right_small (c : List Int) (hr : rt c = true) : (-2147483648 ≤ G c 1 ∧ G c 1 ≤ 2147483647) ∧ (-2147483648 ≤ G c 2 ∧ G c 2 ≤ 2147483647) ∧ (0 ≤ G c 4 ∧ G c 4 ≤ 2147483647) ∧ (0 ≤ G c 5 ∧ G c 5 ≤ 2147483647) ∧ (0 ≤ G c 7 ∧ G c 7 ≤ 2147483647) ∧ (0 ≤ G c 9 ∧ G c 9 ≤ 2147483647) ∧ (0 ≤ G c 10 ∧ G c 10 ≤ 2147483647) ∧ (0 ≤ G c 12 ∧ G c 12 ≤ 2147483647) := by
  have hR : Right c := of_decide_eq_true hr
  unfold Right at hR
  omega

set_option maxHeartbeats 6400000 in
theorem covers_any (c : List Int) (e r : Int) (w : World) (hc : c.length = 21) :
    Calls Tryz.prog 50 #[.agg (CA c), .int .i64 e, .int .i64 r] w fun en w' => en = .returned (.bool (cov c e r)) ∧ Below w.heap.size w w' := by
  have B0 := Lib.hid (Box.new w c)
  have b0 := Lib.hid ((Below.refl w.heap.size w).alloc (Nat.le_refl _) (.cells (CA c) 24))
  have RI := fun W => right_any c W hc
  by_cases hin : 0 ≤ e ∧ e ≤ 1073741824 ∧ 0 ≤ r ∧ r ≤ 1073741824
  · have HIN := Lib.hid hin
    obtain ⟨h1, h2, h3, h4⟩ := hin
    have d1 : decide (e < 0) = false := by simpa using h1
    have d2 : decide (1073741824 < e) = false := by simpa using h2
    have d3 : decide (r < 0) = false := by simpa using h3
    have d4 : decide (1073741824 < r) = false := by simpa using h4
    cases hR : rt c
    · have HF := Lib.hid (cov_wrong c e r hR)
      rw [hR] at RI
      clear hR
      go_enter Tryz.func50, Tryz.ntmps50
      go_wp2_with (with_reducible show wpList _ _ _ (⟨some 22, _, _, _, _, _⟩ :: _) _ _; refine wpList_loadW rfl _ rfl w.heap.size c rfl B0.out hc ?_)
      refine (RI _).mono ?_; rintro en w1 ⟨rfl, b1⟩
      go_wp2_with fail
      go_ret
      exact ⟨ret_bool (by rw [HF.out]), grow b0.out b1⟩
    · have HC := Lib.hid (cov_right c e r HIN.out hR)
      have HS := Lib.hid (right_small c hR)
      rw [hR] at RI
      clear hR
      go_enter Tryz.func50, Tryz.ntmps50
      go_wp2_with (with_reducible show wpList _ _ _ (⟨some 22, _, _, _, _, _⟩ :: _) _ _; refine wpList_loadW rfl _ rfl w.heap.size c rfl B0.out hc ?_)
      refine (RI _).mono ?_; rintro en w1 ⟨rfl, b1⟩
      have B1 := B0.out.on b1
      have y1 := B1.at hc 1 (by omega)
      have y2 := B1.at hc 2 (by omega)
      have y4 := B1.at hc 4 (by omega)
      have y5 := B1.at hc 5 (by omega)
      have y7 := B1.at hc 7 (by omega)
      have y9 := B1.at hc 9 (by omega)
      have y10 := B1.at hc 10 (by omega)
      have y12 := B1.at hc 12 (by omega)
      clear B1
      obtain ⟨⟨g1, g1'⟩, ⟨g2, g2'⟩, ⟨g4, g4'⟩, ⟨g5, g5'⟩, ⟨g7, g7'⟩, ⟨g9, g9'⟩, ⟨g10, g10'⟩, ⟨g12, g12'⟩⟩ := HS.out
      generalize G c 1 = x1 at *
      generalize G c 2 = x2 at *
      generalize G c 4 = x4 at *
      generalize G c 5 = x5 at *
      generalize G c 7 = x7 at *
      generalize G c 9 = x9 at *
      generalize G c 10 = x10 at *
      generalize G c 12 = x12 at *
      cases q0 : decide (2 * e + 2 * x10 + x12 ≤ x9)
      · have HC := Lib.hid (show cov c e r = false by rw [HC.out]; simp [q0])
        go_wp2_with fail
        go_ret
        exact ⟨ret_bool (by rw [HC.out]), grow b0.out b1⟩
      cases q1 : decide (r + 2 * e ≤ x4)
      · have HC := Lib.hid (show cov c e r = false by rw [HC.out]; simp [q0, q1])
        go_wp2_with fail
        go_ret
        exact ⟨ret_bool (by rw [HC.out]), grow b0.out b1⟩
      cases q2 : decide (2 * e ≤ x7)
      · have HC := Lib.hid (show cov c e r = false by rw [HC.out]; simp [q0, q1, q2])
        go_wp2_with fail
        go_ret
        exact ⟨ret_bool (by rw [HC.out]), grow b0.out b1⟩
      cases q3 : decide (4 * e + 2 * x10 + 2 * x12 ≤ x5)
      · have HC := Lib.hid (show cov c e r = false by rw [HC.out]; simp [q0, q1, q2, q3])
        go_wp2_with fail
        go_ret
        exact ⟨ret_bool (by rw [HC.out]), grow b0.out b1⟩
      cases q4 : decide (2 * e ≤ x2 - x1)
      · have HC := Lib.hid (show cov c e r = false by rw [HC.out]; simp [q0, q1, q2, q3, q4])
        go_wp2_with fail
        go_ret
        exact ⟨ret_bool (by rw [HC.out]), grow b0.out b1⟩
      · have HC := Lib.hid (show cov c e r = true by rw [HC.out]; simp [q0, q1, q2, q3, q4])
        go_wp2_with fail
        go_ret
        exact ⟨ret_bool (by rw [HC.out]), grow b0.out b1⟩
  · have HF := Lib.hid (cov_far c e r hin)
    cases d1 : decide (e < 0)
    · cases d2 : decide (1073741824 < e)
      · cases d3 : decide (r < 0)
        · have d4 : decide (1073741824 < r) = true := by simp at d1 d2 d3 ⊢; omega
          clear hin
          go_enter Tryz.func50, Tryz.ntmps50
          go_wp2_with fail
          go_ret
          exact ⟨ret_bool HF.out.symm, b0.out⟩
        · clear hin
          go_enter Tryz.func50, Tryz.ntmps50
          go_wp2_with fail
          go_ret
          exact ⟨ret_bool HF.out.symm, b0.out⟩
      · clear hin
        go_enter Tryz.func50, Tryz.ntmps50
        go_wp2_with fail
        go_ret
        exact ⟨ret_bool HF.out.symm, b0.out⟩
    · clear hin
      go_enter Tryz.func50, Tryz.ntmps50
      go_wp2_with fail
      go_ret
      exact ⟨ret_bool HF.out.symm, b0.out⟩
end Cf
end Go.Proofs.YtmlhmmfgdioclaaGreat

namespace Go.Proofs.YtmlhmmfgdioclaaGreat
set_option maxRecDepth 100000
open Go.ChangeShapes Go.WideShapes Go.ChangeAt Go.RowKit Go.Deep
namespace Tail
section
variable {P : Program} {ops : Array Oper} {w : World}
/-- What is quiet where there is but one world, is still. -/
theorem still_of_quiet {o : Oper} {a : Act} {K K' : Act → Prop} (hk : ∀ a, K a → K' a) (h : o.quiet P a (fun w' => w' = w) K) : o.still P a w K' := by
  obtain ⟨v, h1, h2⟩ := h
  have h3 := h1 w rfl
  unfold Oper.quietAt at h3
  unfold Oper.still
  generalize (execOp a.eval o).run P w = r at *
  cases r with
  | ok n w' =>
    cases n <;> simp only [Oper.quietUpon] at h3 <;> simp only [Oper.stillUpon]
    case value u => exact ⟨h3.1, h3.2 ▸ hk _ h2⟩
    case skip => exact ⟨h3.1, h3.2 ▸ hk _ h2⟩
    case enter f args => exact ⟨h3.1, v, h3.2, hk _ h2⟩
  | halt x w' => simp only [Oper.quietUpon] at h3
theorem wpStill_of_quiet {Q : Act → Prop} : ∀ (l : List Oper) (a : Act), wpQuiet P ops (fun w' => w' = w) Q l a → wpStill P ops w Q l a
  | [], _, h => h
  | o :: l, a, h => by
    unfold wpQuiet at h
    unfold wpStill
    split
    · rename_i hw
      rw [if_pos hw] at h
      exact still_of_quiet (fun a' h' => wpStill_of_quiet l a' h') h
    · rename_i hw
      rw [if_neg hw] at h
      exact wpStill_of_quiet l _ h
theorem wp_region_quiet_tail {id : Nat} {Q : Exit → Act → World → Prop} {a : Act} {l : List Oper} (n : Nat) (hm : P.follows .mixedOrders = true) (hB : Region.lexTailB .any l.toArray n = true)
    (h : wpQuiet P l.toArray (fun w' => w' = w.drew) (fun a' => wpList P l.toArray Q (l.drop n) a' w.drew) (l.take n) a) : (Code.region id l.toArray true).wp P Q a w :=
  wp_region_still_tail n hm hB (wpStill_of_quiet _ _ h)
end
end Tail
end Go.Proofs.YtmlhmmfgdioclaaGreat

namespace Go.Proofs.YtmlhmmfgdioclaaGreat
set_option maxRecDepth 100000
open Go.ChangeShapes Go.WideShapes Go.ChangeAt Go.RowKit Go.Deep
namespace TailC
section
variable {P : Program} {md : Region.Mode} {C : World → Prop}

/-- The head's own operations wait for earlier ones alone, and are guarded by earlier ones alone. -/
def lowB (md : Region.Mode) (hd : List Oper) : Bool :=
  hd.zipIdx.all fun q => (q.1.after.all fun e => !Region.binds md e || decide (e.on < q.2)) && (match q.1.guard with | some (g, _) => decide (g < q.2) | none => true)
def headTailB (md : Region.Mode) (l : List Oper) (n : Nat) : Bool :=
  Region.lexB md (l.take n).toArray && decide (n < l.length) && Region.sinkB md l.toArray n && Region.chainB md l.toArray n && lowB md (l.take n) &&
  Region.seqB md l.toArray (l.length - n) n (List.replicate n true ++ List.replicate (l.length - n) false).toArray

/-- More turns than are needed do no harm. -/
theorem any_more {ops : Array Oper} {Q : Exit → Act → World → Prop} : ∀ (f : Nat) (listed : Array Bool) (a : Act) (w : World), wpAny P md ops Q f listed a w → wpAny P md ops Q (f + 1) listed a w
  | 0, _, _, _, h => ⟨fun _ => h.2, fun i hi => by rw [h.1] at hi; cases hi⟩
  | f + 1, _, _, _, h => ⟨h.1, fun i hi => wpOp_mono (fun a' w' h' => any_more f _ a' w' h') (h.2 i hi)⟩
theorem any_more_by {ops : Array Oper} {Q : Exit → Act → World → Prop} {f : Nat} {listed : Array Bool} {a : Act} {w : World} (h : wpAny P md ops Q f listed a w) : ∀ k, wpAny P md ops Q (k + f) listed a w
  | 0 => by rwa [Nat.zero_add]
  | k + 1 => by rw [show k + 1 + f = (k + f) + 1 by omega]; exact any_more _ _ _ _ (any_more_by h k)

variable {l : List Oper} {n : Nat}
theorem hd_at {i : Nat} (hi : i < n) : (l.take n).toArray[i]? = l.toArray[i]? := by simp [List.getElem?_take_of_lt hi]
theorem hd_lt {i : Nat} {o : Oper} (h : (l.take n).toArray[i]? = some o) : i < n := by
  rcases Nat.lt_or_ge i n with q | q
  · exact q
  · simp [List.getElem?_take, Nat.not_lt.2 q] at h
theorem low_at (h : lowB md (l.take n) = true) {i : Nat} {o : Oper} (ho : (l.take n).toArray[i]? = some o) :
    (∀ e ∈ o.after, Region.binds md e = true → e.on < i) ∧ ∀ g b, o.guard = some (g, b) → g < i := by
  have h1 := List.all_eq_true.1 h (o, i) (by rw [List.mem_zipIdx_iff_getElem?]; simpa using ho)
  simp only [Bool.and_eq_true] at h1
  refine ⟨fun e he hb => ?_, fun g b hg => ?_⟩
  · have := Array.all_eq_true_iff_forall_mem.1 h1.1 e he
    simpa [hb] using this
  · have := h1.2
    rw [hg] at this
    simpa using this

theorem wanted_hd (h : lowB md (l.take n) = true) {i : Nat} {o : Oper} (ho : (l.take n).toArray[i]? = some o) (tmps : Array Value) :
    Region.wanted o (yielded (l.take n).toArray tmps) = Region.wanted o (yielded l.toArray tmps) := by
  have hi := hd_lt ho
  have hg := (low_at h ho).2
  unfold Region.wanted
  split
  · rfl
  · rename_i g b hq
    unfold yielded
    rw [hd_at (show g < n by have := hg g b hq; omega)]

/-- The two lists of what has been carried out say the same of the head. -/
def Same (n : Nat) (hl listed : Array Bool) : Prop := hl.size = n ∧ ∀ j x, j < n → hl.getD j x = listed.getD j x
theorem Same.set {hl listed : Array Bool} (h : Same n hl listed) (hs : n ≤ listed.size) (i : Nat) : Same n (hl.setIfInBounds i true) (listed.setIfInBounds i true) := by
  refine ⟨by simp [h.1], fun j x hj => ?_⟩
  by_cases hij : i = j
  · subst hij
    have h1 : i < hl.size := by rw [h.1]; exact hj
    have h2 : i < listed.size := by omega
    simp [h1, h2]
  · rw [getD_set_ne x hij, getD_set_ne x hij]; exact h.2 j x hj

theorem ready_to (hlow : lowB md (l.take n) = true) {hl listed : Array Bool} (h : Same n hl listed) {i : Nat} (hi : i < n) (hr : i ∈ Region.ready md l.toArray listed) : i ∈ Region.ready md (l.take n).toArray hl := by
  obtain ⟨h1, o, ho, h2⟩ := mem_ready.1 hr
  have ho' : (l.take n).toArray[i]? = some o := (hd_at hi).trans ho
  exact mem_ready.2 ⟨by rw [h.2 i true hi]; exact h1, o, ho', fun e he hb => by rw [h.2 e.on false (by have := (low_at hlow ho').1 e he hb; omega)]; exact h2 e he hb⟩
theorem ready_of (hlow : lowB md (l.take n) = true) {hl listed : Array Bool} (h : Same n hl listed) {i : Nat} (hi : i < n) (hr : i ∈ Region.ready md (l.take n).toArray hl) : i ∈ Region.ready md l.toArray listed := by
  obtain ⟨h1, o, ho, h2⟩ := mem_ready.1 hr
  exact mem_ready.2 ⟨by rw [← h.2 i true hi]; exact h1, o, (hd_at hi).symm.trans ho, fun e he hb => by rw [← h.2 e.on false (by have := (low_at hlow ho).1 e he hb; omega)]; exact h2 e he hb⟩

/-- As long as something of the head is left, something of it is ready. -/
theorem some_ready (hlow : lowB md (l.take n) = true) (hn : n < l.length) {hl : Array Bool} (hs : hl.size = n) : ∀ i, i < n → hl.getD i true = false → Region.ready md (l.take n).toArray hl ≠ [] := by
  intro i
  induction i using Nat.strongRecOn with
  | _ i ih =>
    intro hi hun
    obtain ⟨o, ho⟩ : ∃ o, (l.take n).toArray[i]? = some o := ⟨l[i]'(by omega), by rw [hd_at hi]; simp⟩
    by_cases hall : ∀ e ∈ o.after, Region.binds md e = true → hl.getD e.on false = true
    · intro h0
      have := mem_ready.2 ⟨hun, o, ho, hall⟩
      rw [h0] at this; cases this
    · obtain ⟨e, h1⟩ := Classical.not_forall.1 hall
      obtain ⟨he, h2⟩ := Classical.not_forall.1 h1
      obtain ⟨hb, hne⟩ := Classical.not_forall.1 h2
      have hlt := (low_at hlow ho).1 e he hb
      refine ih e.on hlt (by omega) (getD_in (by omega) ?_)
      simpa using hne

theorem op_of_head (hlow : lowB md (l.take n) = true) {i : Nat} {Q' : Exit → Act → World → Prop} {K : Act → Prop} {K' : Act → World → Prop} {a : Act} {w : World} (hi : i < n) (hw : C w) (h : ∀ a w', C w' → K a → K' a w')
    (hh : qOp P (l.take n).toArray C i K a) : wpOp P l.toArray Q' i K' a w := by
  have h1 := wpOp_of_qOp (Q' := Q') hw h hh
  unfold wpOp at h1 ⊢
  rw [← hd_at hi]
  split
  · rename_i ho; simp only [ho] at h1; exact h1
  · rename_i o ho
    simp only [ho] at h1
    rw [← wanted_hd hlow ho]
    exact h1

theorem any_of_head {Q : Act → Prop} {Q' : Exit → Act → World → Prop} (hS : Region.sinkB md l.toArray n = true) (hCh : Region.chainB md l.toArray n = true) (hn : n < l.length) (hlow : lowB md (l.take n) = true)
    (hseq : Region.seqB md l.toArray (l.length - n) n (List.replicate n true ++ List.replicate (l.length - n) false).toArray = true) (hQ : ∀ a w, C w → Q a → wpList P l.toArray Q' (l.drop n) a w) :
    ∀ (f : Nat) (hl listed : Array Bool) (a : Act) (w : World), Same n hl listed → HeadInv md l.toArray n listed → C w → wpAnyQ P md (l.take n).toArray C Q f hl a → wpAny P md l.toArray Q' (f + (l.length - n)) listed a w := by
  have hsz : l.toArray.size = l.length := by simp
  have done : ∀ (hl listed : Array Bool) (a : Act) (w : World), Same n hl listed → HeadInv md l.toArray n listed → C w → Region.ready md (l.take n).toArray hl = [] → Q a → wpAny P md l.toArray Q' (l.length - n) listed a w := by
    intro hl listed a w hsm inv hw h0 hq
    have hall : ∀ i, i < n → listed.getD i true = true := fun i hi => by
      cases q : listed.getD i true with
      | true => rfl
      | false => exact absurd h0 (some_ready hlow hn hsm.1 i hi (by rw [hsm.2 i true hi]; exact q))
    have hls : listed.size = l.length := inv.size.trans hsz
    have he : listed = (List.replicate n true ++ List.replicate (l.length - n) false).toArray := by
      apply Array.ext_getElem?
      intro i
      by_cases h1 : i < l.length
      · have hx : listed[i]? = some (listed.getD i true) := by
          rw [Array.getElem?_eq_getElem (by omega)]; simp [hls, h1]
        rw [hx]
        by_cases h2 : i < n
        · rw [hall i h2]; simp [List.getElem?_append, h2]
        · rw [inv.tail i (by omega) (by omega)]; simp [List.getElem?_append, h2, List.getElem?_replicate]; omega
      · rw [Array.getElem?_eq_none (by omega)]; simp; omega
    rw [he]
    have := wpAny_of_seq (md := md) (Q' := Q') (l.drop n) n (List.replicate n true ++ List.replicate (l.length - n) false).toArray a w (fun j => by simp [List.getElem?_drop]) (by rw [List.length_drop]; exact hseq) (hQ a w hw hq)
    rwa [List.length_drop] at this
  intro f
  induction f with
  | zero =>
    intro hl listed a w hsm inv hw h
    rw [Nat.zero_add]
    exact done hl listed a w hsm inv hw h.1 h.2
  | succ f ih =>
    intro hl listed a w hsm inv hw h
    by_cases h0 : Region.ready md (l.take n).toArray hl = []
    · exact any_more_by (done hl listed a w hsm inv hw h0 (h.1 h0)) (f + 1)
    · obtain ⟨i0, hi0⟩ := List.exists_mem_of_ne_nil _ h0
      obtain ⟨hun0, o0, ho0, _⟩ := mem_ready.1 hi0
      have hi0n := hd_lt ho0
      rw [show f + 1 + (l.length - n) = (f + (l.length - n)) + 1 by omega]
      refine ⟨fun hr => ?_, fun i hi => ?_⟩
      · have := ready_of hlow hsm hi0n hi0
        rw [hr] at this; cases this
      · have hin : i < n := by
          rcases Nat.lt_or_ge i n with q | q
          · exact q
          · exact absurd hi (tail_waits hS hCh (by omega) inv _ i0 rfl hi0n (by rw [← hsm.2 i0 true hi0n]; exact hun0) i q)
        exact op_of_head hlow hin hw (fun a' w' hw' h' => ih _ _ a' w' (hsm.set (by rw [inv.size, hsz]; omega) i) (inv.set hi hin) hw' h') (h.2 i (ready_to hlow hsm hin hi))

theorem quiet_hd (hlow : lowB md (l.take n) = true) {Q : Act → Prop} : ∀ (r : List Oper) (k : Nat) (a : Act), (∀ j, r[j]? = (l.take n)[k + j]?) → wpQuiet P l.toArray C Q r a → wpQuiet P (l.take n).toArray C Q r a
  | [], _, _, _, h => h
  | o :: r, k, a, hr, h => by
    have h0 : (l.take n).toArray[k]? = some o := by simpa using (hr 0).symm
    have hr' : ∀ j, r[j]? = (l.take n)[k + 1 + j]? := fun j => by have := hr (j + 1); simpa [Nat.add_assoc, Nat.add_comm 1 j] using this
    unfold wpQuiet at h ⊢
    rw [wanted_hd hlow h0]
    split
    · rename_i hw
      rw [if_pos hw] at h
      exact Oper.quiet_mono (fun a' h' => quiet_hd hlow r (k + 1) a' hr' h') h
    · rename_i hw
      rw [if_neg hw] at h
      exact quiet_hd hlow r (k + 1) _ hr' h

theorem wp_region_class_tail {id : Nat} {Q : Exit → Act → World → Prop} {a : Act} {w : World} (n : Nat) (hm : P.follows .mixedOrders = true) (hB : headTailB .any l n = true) (hC : C { w with drawn := w.drawn + 1 })
    (h : wpQuiet P l.toArray C (fun a' => ∀ w', C w' → wpList P l.toArray Q (l.drop n) a' w') (l.take n) a) : (Code.region id l.toArray true).wp P Q a w := by
  simp only [headTailB, Bool.and_eq_true, decide_eq_true_eq] at hB
  obtain ⟨⟨⟨⟨⟨hlex, hn⟩, hS⟩, hCh⟩, hlow⟩, hseq⟩ := hB
  simp only [Region.lexB, Bool.and_eq_true] at hlex
  have htl : (l.take n).length = n := by rw [List.length_take]; omega
  have inv0 : HeadInv .any l.toArray n (Array.replicate l.toArray.size false) :=
    ⟨by simp, fun j oj _ hl => (by rw [getD_replicate_false] at hl; cases hl), fun t _ ht => getD_in (by simpa using ht) (getD_replicate_false _ _)⟩
  have hsm : Same n (Array.replicate n false) (Array.replicate l.toArray.size false) := ⟨by simp, fun j x hj => by
    have : j < l.length := by omega
    simp [hj, this]⟩
  have H := wpAnyQ_lex (C := C) (md := .any) hlex.1 (l.take n) 0 (Array.replicate (l.take n).toArray.size false) a (by simp) (by simpa using hlex.2) (quiet_hd hlow (l.take n) 0 a (by simp) h)
  rw [htl, show (l.take n).toArray.size = n by simp [htl]] at H
  have := any_of_head (Q' := Q) hS hCh hn hlow hseq (fun a' w' hw' hq => hq w' hw') n (Array.replicate n false) (Array.replicate l.toArray.size false) a { w with drawn := w.drawn + 1 } hsm inv0 hC H
  refine wp_region_any hm ?_
  rw [show n + (l.length - n) = l.toArray.size by simp; omega] at this
  exact this

/-- The class of worlds in which nothing that was there was written. -/
theorem wp_region_below_tail {id : Nat} {Q : Exit → Act → World → Prop} {a : Act} {w : World} (n : Nat) (hm : P.follows .mixedOrders = true) (hB : headTailB .any l n = true)
    (h : wpQuiet P l.toArray (fun w' => ∃ p : Regrown, w' = Sort.grow (redrawn w p.d) p.os) (fun a' => ∀ w', (∃ p : Regrown, w' = Sort.grow (redrawn w p.d) p.os) → wpList P l.toArray Q (l.drop n) a' w') (l.take n) a) : (Code.region id l.toArray true).wp P Q a w :=
  wp_region_class_tail (C := fun w' => ∃ p : Regrown, w' = Sort.grow (redrawn w p.d) p.os) n hm hB ⟨⟨w.drawn + 1, #[]⟩, by rw [Sort.grow_empty]; rfl⟩ h
end
end TailC
end Go.Proofs.YtmlhmmfgdioclaaGreat

namespace Go.Proofs.YtmlhmmfgdioclaaGreat
set_option maxRecDepth 100000
open Go.ChangeShapes Go.WideShapes Go.ChangeAt Go.RowKit Go.Deep
namespace Sg
open Cf (G CA Box)

def smallc : List Int := [3, -100, 100, 5, 40, 9, 3, 30, 0, 20, 2, 0, 4, 2, 2, 1, 4, 1, 1, 2, 0]
theorem wpList_buildTo {P : Program} {ops : Array Oper} {rest : List Oper} {o : Oper} {a : Act} {w : World} {Q : Exit → Act → World → Prop} (hg : o.guard = none) (t : TypeId) (parts : Array (Nat × Operand)) (ho : o.op = .build t parts)
    (cells : Array Value) (hf : P.built t (parts.map fun (i, x) => (i, a.eval x)).toList = some cells) (h : wpList P ops Q rest (a.put o.dst (.agg cells)) w) : wpList P ops Q (o :: rest) a w :=
  wpList_build hg t parts ho (by rw [hf]; rfl) (by rw [hf]; exact h)
theorem wpList_storeC {ops : Array Oper} {rest : List Oper} {o : Oper} {a : Act} {w : World} {Q : Exit → Act → World → Prop} (hgd : o.guard = none) (x y : Operand) (ho : o.op = .store 24 x y)
    (b : Nat) (c c' : List Int) (hx : a.eval x = .pointer (some ⟨b, 0, none⟩)) (hy : a.eval y = .agg (CA c')) (hb : Box w b c) (hc : c.length = 21) (hc' : c'.length = 21)
    (h : wpList Tryz.prog ops Q rest (a.put o.dst undef) (w.setRow b (CA c'))) : wpList Tryz.prog ops Q (o :: rest) a w :=
  wpList_store_row hgd 24 x y ho b (CA c') hx hy 24 (CA c) hb (by rw [Cf.CA_size, hc']; exact Cf.sizeC) (by rw [Cf.CA_size, Cf.CA_size, hc, hc']) (Cf.CA_one c') h
theorem aggC (w : World) : (isAgg 24).run Tryz.prog w = .ok true w := by simp [isAgg, run_underlying Tryz.underlying24]
set_option maxHeartbeats 1600000 in
theorem small_any (w : World) : Calls Tryz.prog 23 #[] w fun e w' => e = .returned (.agg (CA smallc)) ∧ Below w.heap.size w w' := by
  have B0 := Lib.hid (Box.new w (List.replicate 21 0))
  have b0 := Lib.hid ((Below.refl w.heap.size w).alloc (Nat.le_refl _) (.cells (CA (List.replicate 21 0)) 24))
  go_enter Tryz.func23, Tryz.ntmps23
  go_wp2_with (first | ((with_reducible show wpList _ _ _ (⟨some 2, _, _, _, _, _⟩ :: _) _ _); refine wpList_buildTo rfl _ _ rfl (CA smallc) (by kernel_rfl) ?_) | ((with_reducible show wpList _ _ _ (⟨none, .store _ (.tmp 0) _, _, _, _, _⟩ :: _) _ _); refine wpList_storeC rfl _ _ rfl w.heap.size (List.replicate 21 0) smallc rfl rfl B0.out (by simp) rfl ?_))
  refine bodyPost_ret (v := .agg (CA smallc)) ?_ rfl ⟨rfl, Below.put b0.out (Nat.le_refl _) _⟩
  exact (VB.ret1 (cs := cellsI .i64 smallc) rfl rfl (aggC _) (by kernel_rfl) (VRow.put (show VRow _ _ 24 (cellsI .i64 (List.replicate 21 0)) from B0.out) (cellsI .i64 smallc))).trans rfl

/-- A point: by how much the truth moves, how far each channel is from it, and what the odd one tells. -/
structure Pt where
  mv : Int
  f0 : Int
  f1 : Int
  f2 : Int
  f3 : Int
  raw : Rw
def ptv (p : Pt) : List Value := [.int .i16 p.mv, .int .i16 p.f0, .int .i16 p.f1, .int .i16 p.f2, .int .i16 p.f3, .bool p.raw.is, .int .i64 p.raw.n]
structure Pok (p : Pt) : Prop where
  mv : -32768 ≤ p.mv ∧ p.mv ≤ 32767
  f0 : -32768 ≤ p.f0 ∧ p.f0 ≤ 32767
  f1 : -32768 ≤ p.f1 ∧ p.f1 ≤ 32767
  f2 : -32768 ≤ p.f2 ∧ p.f2 ≤ 32767
  f3 : -32768 ≤ p.f3 ∧ p.f3 ≤ 32767
def trv (E R O : Int) (a : Option Addr) (n cap : Nat) : List Value := [.int .i64 E, .int .i64 R, .int .i64 O, .slice a n cap]
/-- Where the truth is, behind a move. -/
def mvd (c : List Int) (E R a m : Int) : Int := max (G c 1 + E) (min (G c 2 - E) (a + m.tmod (R + 1)))
theorem tmod_bd {m b : Int} (hb : 0 ≤ b) : -b ≤ m.tmod (b + 1) ∧ m.tmod (b + 1) ≤ b := by
  have h1 := Int.tmod_lt_of_pos m (show 0 < b + 1 by omega)
  have h2 := Int.lt_tmod_of_pos m (show 0 < b + 1 by omega)
  omega
set_option maxHeartbeats 1600000 in
theorem moved_any (c : List Int) (E R O : Int) (a : Option Addr) (n cap : Nat) (at_ : Int) (p : Pt) (w : World) (hc : c.length = 21) (C : Cov c E R) (hp : Pok p) (ha : -4294967296 ≤ at_ ∧ at_ ≤ 4294967296) :
    Calls Tryz.prog 21 #[.agg (CA c), .agg (trv E R O a n cap).toArray, .int .i64 at_, .agg (ptv p).toArray] w fun e w' => e = .returned (.int .i64 (mvd c E R at_ p.mv)) ∧ Below w.heap.size w w' := by
  have V1 := Box.new w c
  have V2 := VRow.new (w.alloc (.cells (CA c) 24)) (trv E R O a n cap) 70
  have V3 := VRow.new ((w.alloc (.cells (CA c) 24)).alloc (.cells (trv E R O a n cap).toArray 70)) (ptv p) 77
  have B3 := Lib.hid ((((Below.refl w.heap.size w).alloc (Nat.le_refl _) (.cells (CA c) 24)).alloc (by simp) (.cells (trv E R O a n cap).toArray 70)).alloc (by simp; omega) (.cells (ptv p).toArray 77))
  replace V1 := VRow.alloc (VRow.alloc (show VRow _ _ 24 (cellsI .i64 c) from V1) (.cells (trv E R O a n cap).toArray 70)) (.cells (ptv p).toArray 77)
  replace V2 := V2.alloc (.cells (ptv p).toArray 77)
  have s1 : (w.alloc (.cells (CA c) 24)).heap.size = w.heap.size + 1 := by simp
  have s2 : ((w.alloc (.cells (CA c) 24)).alloc (.cells (trv E R O a n cap).toArray 70)).heap.size = w.heap.size + 1 + 1 := by simp
  rw [s1] at V2
  rw [s2] at V3
  have k1 := Cf.Box.at (c := c) V1 hc 1 (by omega)
  have k2 := Cf.Box.at (c := c) V1 hc 2 (by omega)
  have e0 := V2.cell 0 (v := .int .i64 E) rfl
  have e1 := V2.cell 1 (v := .int .i64 R) rfl
  have m0 := V3.cell 0 (v := .int .i16 p.mv) rfl
  have HM := Lib.hid (show mvd c E R at_ p.mv = max (G c 1 + E) (min (G c 2 - E) (at_ + p.mv.tmod (R + 1))) from rfl)
  have tb := tmod_bd (m := p.mv) C.r0
  obtain ⟨-, r1, r2, -⟩ := C.right
  have := C.e0; have := C.e1; have := C.r0; have := C.r1; have := hp.mv
  clear V1 V2 V3 s1 s2
  generalize mvd c E R at_ p.mv = out at *
  generalize G c 1 = lo at *
  generalize G c 2 = hi at *
  unfold trv ptv at *
  go_enter Tryz.func21, Tryz.ntmps21
  go_wp2_with fail
  generalize ((w.alloc (.cells (CA c) 24)).alloc (.cells #[.int .i64 E, .int .i64 R, .int .i64 O, .slice a n cap] 70)).alloc (.cells #[.int .i16 p.mv, .int .i16 p.f0, .int .i16 p.f1, .int .i16 p.f2, .int .i16 p.f3, .bool p.raw.is, .int .i64 p.raw.n] 77) = W at *
  have w1 : IntKind.i64.wrap (lo + E) = lo + E := IntWalk.i64_in _ (by omega)
  have w2 : IntKind.i64.wrap (hi - E) = hi - E := IntWalk.i64_in _ (by omega)
  have w3 : IntKind.i64.wrap (R + 1) = R + 1 := IntWalk.i64_in _ (by omega)
  have w4 : IntKind.i64.wrap p.mv = p.mv := IntWalk.i64_in _ (by omega)
  have w5 : IntKind.i64.wrap (at_ + p.mv.tmod (R + 1)) = at_ + p.mv.tmod (R + 1) := IntWalk.i64_in _ (by omega)
  have w6 : IntKind.i64.wrap (p.mv.tmod (R + 1)) = p.mv.tmod (R + 1) := IntWalk.i64_in _ (by omega)
  have z1 : ((R + 1) == 0) = false := by simp; omega
  have z2 : ¬ (R + 1 = 0) := by omega
  go_quiet (fail)
  go_wp2
  go_ret
  exact ⟨Fx.ret_int HM.out.symm, below_drewN B3.out _⟩
end Sg
end Go.Proofs.YtmlhmmfgdioclaaGreat

namespace Go.Proofs.YtmlhmmfgdioclaaGreat
set_option maxRecDepth 100000
open Go.ChangeShapes Go.WideShapes Go.ChangeAt Go.RowKit Go.Deep
namespace Sg
open Cf (G CA Box)

def pf (p : Pt) (i : Nat) : Int := if i = 0 then p.f0 else if i = 1 then p.f1 else if i = 2 then p.f2 else p.f3
/-- What a channel tells. -/
def tel (E O a : Int) (p : Pt) (i : Nat) : Rw := if (i : Int) = O then p.raw else ⟨true, a + (pf p i).tmod (E + 1)⟩
def upto (f : Nat → Rw) (k i : Nat) : Rw := if i < k then f i else rw0
def llo (E O a : Int) (p : Pt) : Nat → Int
  | 0 => 4294967296
  | k + 1 => if (k : Int) = O then llo E O a p k else min (llo E O a p k) (tel E O a p k).n
def lhi (E O a : Int) (p : Pt) : Nat → Int
  | 0 => -4294967296
  | k + 1 => if (k : Int) = O then lhi E O a p k else max (lhi E O a p k) (tel E O a p k).n
/-- What lies about, while the channels are gone through. -/
structure Tl (w W : World) (c : List Int) (E R O : Int) (a : Option Addr) (n cap : Nat) (p : Pt) (r : Nat → Rw) : Prop where
  below : Below w.heap.size w W
  cfg : Box W w.heap.size c
  trc : VRow W (w.heap.size + 1) 70 (trv E R O a n cap)
  pnt : VRow W (w.heap.size + 2) 77 (ptv p)
  rsl : VRow W (w.heap.size + 3) 42 (raw8 fun _ => rw0)
  out : VRow W (w.heap.size + 4) 42 (raw8 r)
theorem raw_cells {w : World} {g : Nat} {t : TypeId} {r : Nat → Rw} (h : VRow w g t (raw8 r)) : w.cell? ⟨g, 0, none⟩ = some (.bool (r 0).is) ∧ w.cell? ⟨g, 1, none⟩ = some (.int .i64 (r 0).n) ∧ w.cell? ⟨g, 2, none⟩ = some (.bool (r 1).is) ∧ w.cell? ⟨g, 3, none⟩ = some (.int .i64 (r 1).n) ∧ w.cell? ⟨g, 4, none⟩ = some (.bool (r 2).is) ∧ w.cell? ⟨g, 5, none⟩ = some (.int .i64 (r 2).n) ∧ w.cell? ⟨g, 6, none⟩ = some (.bool (r 3).is) ∧ w.cell? ⟨g, 7, none⟩ = some (.int .i64 (r 3).n) :=
  ⟨h.cell 0 rfl, h.cell 1 rfl, h.cell 2 rfl, h.cell 3 rfl, h.cell 4 rfl, h.cell 5 rfl, h.cell 6 rfl, h.cell 7 rfl⟩
theorem Tl.drew {w W : World} {c : List Int} {E R O : Int} {a : Option Addr} {n cap : Nat} {p : Pt} {r : Nat → Rw} (h : Tl w W c E R O a n cap p r) : Tl w W.drew c E R O a n cap p r := ⟨h.below.drew, h.cfg, h.trc, h.pnt, h.rsl, h.out⟩
/-- One more stored. -/
theorem Tl.put {w W : World} {c : List Int} {E R O : Int} {a : Option Addr} {n cap : Nat} {p : Pt} {r r' : Nat → Rw} (h : Tl w W c E R O a n cap p r) (k : Nat) (x : Rw) (hx : ((raw8 r).set (2 * k) (.bool x.is)).set (2 * k + 1) (.int .i64 x.n) = raw8 r') :
    Tl w ((W.setCell ⟨w.heap.size + 4, 2 * k, none⟩ (.bool x.is)).setCell ⟨w.heap.size + 4, 2 * k + 1, none⟩ (.int .i64 x.n)) c E R O a n cap p r' := by
  have b := (But.refl (· = w.heap.size + 4) W).setCell (p := ⟨w.heap.size + 4, 2 * k, none⟩) (Or.inl rfl) (.bool x.is)
  have b := b.setCell (p := ⟨w.heap.size + 4, 2 * k + 1, none⟩) (Or.inl rfl) (.int .i64 x.n)
  have o := (h.out.set (2 * k) (.bool x.is)).set (2 * k + 1) (.int .i64 x.n)
  rw [hx] at o
  exact ⟨But.below h.below b h.below.size (fun i hi => by omega), VRow.but (show VRow _ _ 24 (cellsI .i64 c) from h.cfg) b (by omega), h.trc.but b (by omega), h.pnt.but b (by omega), h.rsl.but b (by omega), o⟩
theorem tl_new (w : World) (c : List Int) (E R O : Int) (a : Option Addr) (n cap : Nat) (p : Pt) (f : Nat → Rw) :
    Tl w (((((w.alloc (.cells (CA c) 24)).alloc (.cells (trv E R O a n cap).toArray 70)).alloc (.cells (ptv p).toArray 77)).alloc (.cells (raw8 fun _ => rw0).toArray 42)).alloc (.cells (raw8 fun _ => rw0).toArray 42)) c E R O a n cap p (upto f 0) := by
  have e1 : (w.alloc (.cells (CA c) 24)).heap.size = w.heap.size + 1 := by simp
  have v1 : VRow (w.alloc (.cells (CA c) 24)) w.heap.size 24 (cellsI .i64 c) := Box.new w c
  have b1 := (Below.refl w.heap.size w).alloc (Nat.le_refl _) (.cells (CA c) 24)
  generalize w.alloc (.cells (CA c) 24) = W1 at *
  have e2 : (W1.alloc (.cells (trv E R O a n cap).toArray 70)).heap.size = w.heap.size + 2 := by simp [e1]
  have v2 := VRow.new W1 (trv E R O a n cap) 70
  rw [e1] at v2
  have u1 := v1.alloc (.cells (trv E R O a n cap).toArray 70)
  have b2 := b1.alloc (by omega) (.cells (trv E R O a n cap).toArray 70)
  generalize W1.alloc (.cells (trv E R O a n cap).toArray 70) = W2 at *
  have e3 : (W2.alloc (.cells (ptv p).toArray 77)).heap.size = w.heap.size + 3 := by simp [e2]
  have v3 := VRow.new W2 (ptv p) 77
  rw [e2] at v3
  have u2 := u1.alloc (.cells (ptv p).toArray 77)
  have q2 := v2.alloc (.cells (ptv p).toArray 77)
  have b3 := b2.alloc (by omega) (.cells (ptv p).toArray 77)
  generalize W2.alloc (.cells (ptv p).toArray 77) = W3 at *
  have e4 : (W3.alloc (.cells (raw8 fun _ => rw0).toArray 42)).heap.size = w.heap.size + 4 := by simp [e3]
  have v4 := VRow.new W3 (raw8 fun _ => rw0) 42
  rw [e3] at v4
  have u3 := u2.alloc (.cells (raw8 fun _ => rw0).toArray 42)
  have q3 := q2.alloc (.cells (raw8 fun _ => rw0).toArray 42)
  have p3 := v3.alloc (.cells (raw8 fun _ => rw0).toArray 42)
  have b4 := b3.alloc (by omega) (.cells (raw8 fun _ => rw0).toArray 42)
  generalize W3.alloc (.cells (raw8 fun _ => rw0).toArray 42) = W4 at *
  have v5 := VRow.new W4 (raw8 fun _ => rw0) 42
  rw [e4] at v5
  exact ⟨b4.alloc (by omega) _, u3.alloc _, q3.alloc _, p3.alloc _, v4.alloc _, v5⟩

theorem sizeR : (Tryz.prog.info? 42).map (·.size) = some 8 := by kernel_rfl
theorem aggR (w : World) : (isAgg 42).run Tryz.prog w = .ok true w := by simp [isAgg, run_underlying Tryz.underlying42]
theorem raw_one (r : Nat → Rw) : (raw8 r).toArray.all (·.oneCell') = true := by simp [raw8, Value.oneCell']
theorem put_eq (f : Nat → Rw) (k : Nat) (hk : k < 4) : ((raw8 (upto f k)).set (2 * k) (.bool (f k).is)).set (2 * k + 1) (.int .i64 (f k).n) = raw8 (upto f (k + 1)) := by
  have : k ∈ [0, 1, 2, 3] := by simp; omega
  simp only [List.mem_cons, List.mem_nil_iff, or_false] at this
  rcases this with rfl | rfl | rfl | rfl <;> simp [raw8, upto]
set_option maxHeartbeats 6400000 in
theorem told_any (c : List Int) (E R O : Int) (a : Option Addr) (n cap : Nat) (at_ : Int) (p : Pt) (w : World) (hc : c.length = 21) (C : Cov c E R) (hp : Pok p) (ha : -4294967296 ≤ at_ ∧ at_ ≤ 4294967296) :
    Calls Tryz.prog 22 #[.agg (CA c), .agg (trv E R O a n cap).toArray, .int .i64 at_, .agg (ptv p).toArray] w fun e w' => e = .returned (.tuple #[.agg (raw8 (upto (tel E O at_ p) (NN c))).toArray, .int .i64 (llo E O at_ p (NN c)), .int .i64 (lhi E O at_ p (NN c))]) ∧ Below w.heap.size w w' := by
  have T0 := Lib.hid (tl_new w c E R O a n cap p (tel E O at_ p))
  have h34 := NN_34 C.right
  have hNN := NN_eq C.right
  have HC := Lib.hid hc
  have e0 := C.e0
  have e1 := C.e1
  have HP := Lib.hid hp
  generalize NN c = m at *
  have W0eq : (((((w.alloc (.cells (CA c) 24)).alloc (.cells (trv E R O a n cap).toArray 70)).alloc (.cells (ptv p).toArray 77)).alloc (.cells (raw8 fun _ => rw0).toArray 42)).alloc (.cells (raw8 fun _ => rw0).toArray 42)) = (((((w.alloc (.cells (CA c) 24)).alloc (.cells #[.int .i64 E, .int .i64 R, .int .i64 O, .slice a n cap] 70)).alloc (.cells #[.int .i16 p.mv, .int .i16 p.f0, .int .i16 p.f1, .int .i16 p.f2, .int .i16 p.f3, .bool p.raw.is, .int .i64 p.raw.n] 77)).alloc (.cells #[.bool false, .int .i64 0, .bool false, .int .i64 0, .bool false, .int .i64 0, .bool false, .int .i64 0] 42)).alloc (.cells #[.bool false, .int .i64 0, .bool false, .int .i64 0, .bool false, .int .i64 0, .bool false, .int .i64 0] 42)) := rfl
  rw [W0eq] at T0
  clear W0eq hc hp
  unfold trv ptv
  go_enter Tryz.func22, Tryz.ntmps22
  go_wp2_with fail
  generalize (((((w.alloc (.cells (CA c) 24)).alloc (.cells #[.int .i64 E, .int .i64 R, .int .i64 O, .slice a n cap] 70)).alloc (.cells #[.int .i16 p.mv, .int .i16 p.f0, .int .i16 p.f1, .int .i16 p.f2, .int .i16 p.f3, .bool p.raw.is, .int .i64 p.raw.n] 77)).alloc (.cells #[.bool false, .int .i64 0, .bool false, .int .i64 0, .bool false, .int .i64 0, .bool false, .int .i64 0] 42)).alloc (.cells #[.bool false, .int .i64 0, .bool false, .int .i64 0, .bool false, .int .i64 0, .bool false, .int .i64 0] 42)) = W0 at *
  go_loopg [12, 13, 14] m (fun gg s12 s13 s14 wr => ∃ k : Nat, k + gg = m ∧ s14 = .int .i64 k ∧ s12 = .int .i64 (llo E O at_ p k) ∧ s13 = .int .i64 (lhi E O at_ p k) ∧ Hid (Tl w wr c E R O a n cap p (upto (tel E O at_ p) k)))
  case atStart => exact ⟨0, by omega, rfl, rfl, rfl, T0⟩
  case round =>
    obtain ⟨k, hk, rfl, rfl, rfl, T⟩ := hrel
    clear T0
    have q0 := T.out.cfg.at HC.out 0 (by omega)
    rw [← hNN] at q0
    have t0 := T.out.trc.cell 0 (v := .int .i64 E) rfl
    have t2 := T.out.trc.cell 2 (v := .int .i64 O) rfl
    by_cases hlt : k < m
    · have hk4 : k < 4 := by omega
      have HK := Lib.hid hk
      have hli : (k : Int) < m := by omega
      obtain ⟨o0, o1, o2, o3, o4, o5, o6, o7⟩ := raw_cells T.out.out
      have fz := T.out.out.frozen
      have PE := put_eq (tel E O at_ p) k hk4
      have TP := Lib.hid (T.out.drew.put k (tel E O at_ p k) PE)
      have TQ := Lib.hid (T.out.put k (tel E O at_ p k) PE)
      obtain ⟨k', hk'⟩ : ∃ k', k' = k + 1 := ⟨_, rfl⟩
      have HLO := Lib.hid (show llo E O at_ p k' = if (k : Int) = O then llo E O at_ p k else min (llo E O at_ p k) (tel E O at_ p k).n by rw [hk']; rfl)
      have HHI := Lib.hid (show lhi E O at_ p k' = if (k : Int) = O then lhi E O at_ p k else max (lhi E O at_ p k) (tel E O at_ p k).n by rw [hk']; rfl)
      rw [← hk'] at TP TQ
      have HKK := Lib.hid hk'
      have hki : k ∈ [0, 1, 2, 3] := by simp; omega
      simp only [List.mem_cons, List.mem_nil_iff, or_false] at hki
      clear PE hk
      by_cases hO : (k : Int) = O
      · have et : tel E O at_ p k = p.raw := if_pos hO
        rw [if_pos hO] at HLO HHI
        rw [et] at TQ
        have dO : ((k : Int) == O) = true := by simpa using hO
        have p5 := T.out.pnt.cell 5 (v := .bool p.raw.is) rfl
        have p6 := T.out.pnt.cell 6 (v := .int .i64 p.raw.n) rfl
        clear TP hO et hk'
        generalize llo E O at_ p k = l1 at *
        generalize lhi E O at_ p k = l2 at *
        generalize upto (tel E O at_ p) k = uk at *
        rcases hki with rfl | rfl | rfl | rfl
        all_goals
          go_wp2
          go_roundg (gk - 1)
          case rel => exact ⟨k', by have := HK.out; have := HKK.out; omega, by rw [HKK.out]; rfl, by rw [HLO.out], by rw [HHI.out], TQ⟩
          case measure => have := HK.out; omega
      · have et : tel E O at_ p k = ⟨true, at_ + (pf p k).tmod (E + 1)⟩ := if_neg hO
        rw [if_neg hO] at HLO HHI
        rw [et] at TP HLO HHI
        have dO : ((k : Int) == O) = false := by simpa using hO
        have pp : -32768 ≤ pf p k ∧ pf p k ≤ 32767 := by
          have h := HP.out
          unfold pf
          split
          · exact h.f0
          · split
            · exact h.f1
            · split
              · exact h.f2
              · exact h.f3
        have pc : wr.cell? ⟨w.heap.size + 2, 1 + k, none⟩ = some (.int .i16 (pf p k)) := by
          rcases hki with rfl | rfl | rfl | rfl
          · exact T.out.pnt.cell 1 rfl
          · exact T.out.pnt.cell 2 rfl
          · exact T.out.pnt.cell 3 rfl
          · exact T.out.pnt.cell 4 rfl
        have tb := tmod_bd (m := pf p k) e0
        have w3 : IntKind.i64.wrap (E + 1) = E + 1 := IntWalk.i64_in _ (by omega)
        have w4 : IntKind.i64.wrap (pf p k) = pf p k := IntWalk.i64_in _ (by omega)
        have w5 : IntKind.i64.wrap (at_ + (pf p k).tmod (E + 1)) = at_ + (pf p k).tmod (E + 1) := IntWalk.i64_in _ (by omega)
        have w7 : wrap64 (at_ + (pf p k).tmod (E + 1)) = at_ + (pf p k).tmod (E + 1) := by unfold wrap64; omega
        have w6 : IntKind.i64.wrap ((pf p k).tmod (E + 1)) = (pf p k).tmod (E + 1) := IntWalk.i64_in _ (by omega)
        have z1 : ((E + 1) == 0) = false := by simp; omega
        have z2 : ¬ (E + 1 = 0) := by omega
        have tcf : ∀ W : World, Tl w W c E R O a n cap p (upto (tel E O at_ p) k') → W.cell? ⟨w.heap.size + 4, 2 * k + 1, none⟩ = some (.int .i64 (at_ + (pf p k).tmod (E + 1))) := fun W h => by
          have := VRow.cell (Tl.out h) (2 * k + 1) (v := .int .i64 (tel E O at_ p k).n) (by
            rw [hk']
            rcases hki with rfl | rfl | rfl | rfl <;> simp [raw8, upto])
          rwa [et] at this
        have TC := Lib.hid tcf
        clear tcf
        clear TQ hO et hk'
        generalize llo E O at_ p k = l1 at *
        generalize lhi E O at_ p k = l2 at *
        generalize upto (tel E O at_ p) k = uk at *
        rcases hki with rfl | rfl | rfl | rfl
        all_goals
          go_wp2_with fail
          refine Tail.wp_region_quiet_tail 14 (by kernel_rfl) (by kernel_rfl) ?_
          simp only [List.take_succ_cons, List.take_zero, List.drop_succ_cons, List.drop_zero]
          repeat (go_big_quiet_step (fail))
          refine wpQuiet_nil ?_
          go_wp2
          go_roundg (gk - 1)
          case rel => exact ⟨k', by have := HK.out; have := HKK.out; omega, by rw [HKK.out]; rfl, by rw [HLO.out], by rw [HHI.out], TP⟩
          case measure => have := HK.out; omega
    · obtain rfl : k = m := by omega
      go_wp2_with (first | ((with_reducible show wpList _ _ _ (⟨some 55, _, _, _, _, _⟩ :: _) _ _); refine VB.loaded rfl _ rfl (w.heap.size + 4) rfl T.out.out Tryz.underlying42 rfl sizeR ?_) | ((with_reducible show wpList _ _ _ (⟨none, .store _ (.tmp 8) _, _, _, _, _⟩ :: _) _ _); refine VB.store rfl _ _ rfl (w.heap.size + 3) (raw8 (upto (tel E O at_ p) k)) rfl rfl T.out.rsl sizeR rfl (raw_one _) ?_))
      refine bodyPost_ret (v := .tuple #[.agg (raw8 (upto (tel E O at_ p) k)).toArray, .int .i64 (llo E O at_ p k), .int .i64 (lhi E O at_ p k)]) ?_ rfl ⟨rfl, Below.put T.out.below (by omega) _⟩
      exact (VB.ret3 (cs := raw8 (upto (tel E O at_ p) k)) rfl rfl (aggR _) sizeR (VRow.put T.out.rsl (raw8 (upto (tel E O at_ p) k)))).trans rfl
end Sg
end Go.Proofs.YtmlhmmfgdioclaaGreat
