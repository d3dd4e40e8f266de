/-
  What fields of package config does: its contract by walking the Go text, its region that draws by the law of Flow. No conditions.
  What Fault and Right of package config do: their contracts by walking the Go text. No conditions.
  What Covers of package config does: its contract by walking the Go text. Conditions: the numbers' kinds.
  What the walks of layer 18's laws have in common: whole structs loaded in a region that draws, sizes, masks of four. No function of the program is walked here. No conditions.
  SignalNear in numbers: the least and the greatest of who is in, the value near them, that who is not in has a trip. Mathematics alone. No conditions.
-/
import Derived.Test.YtmlhmmfgdioclaaConfigRow
import Derived.Deep.LoopGhost
import Derived.WalkMore
import Derived.Test.YtmlhmmfgdioclaaJKept4
namespace Go.Proofs.Ytmlhmmfgdioclaa
set_option maxRecDepth 100000
open Go.ChangeShapes Go.WideShapes Go.ChangeAt Go.RowKit Go.Deep
namespace Cf

set_option maxRecDepth 100000 in
set_option maxHeartbeats 1600000 in
theorem fields_any (c : List Int) (w : World) (hc : c.length = 21) :
    Calls Try.prog 33 #[.agg (CA c)] w fun e w' => ∃ p, e = .returned (.slice (some ⟨p, 0, none⟩) 19 19) ∧ (∀ i, i < 19 → RowAt w' p i (rowC c i)) ∧ Below w.heap.size w w' := by
  have B0 := Lib.hid (Box.new w c)
  have b0 := Lib.hid ((Below.refl w.heap.size w).alloc (Nat.le_refl _) (.cells (CA c) 24))
  have WE := fun W => weights_any c W hc
  go_enter Try.func33, Try.ntmps33
  change Code.wp _ (.seq _ (.seq _ (.seq (.region 2 fOps true) .ret))) _ _ _
  go_wp2_with (with_reducible show wpList _ _ _ (⟨some 6, _, _, _, _, _⟩ :: _) _ _; refine wpList_loadC rfl _ rfl w.heap.size c rfl B0.out hc ?_)
  refine (WE _).mono ?_; rintro e w1 ⟨a0, k0, a1, k1, rfl, i0, i1, b1⟩
  have F0 := Lib.hid (show Box w1 w.heap.size c ∧ IntsAt .i64 w1 a0 (own c) ∧ IntsAt .i64 w1 a1 (others c) ∧ Below w.heap.size w w1 from ⟨B0.out.on b1, i0, i1, grow b0.out b1⟩)
  clear i0 i1 b1 WE B0 b0
  go_wp2_with fail
  rename_i Q' K hK
  refine Flow.wp_region_flow (fun t => V w.heap.size c (sk t)) [1, 3, 4] 89 (by kernel_rfl) fOps_flow (fun t v w w' h hb => V.on h hb) rfl ?_ (steps hc) ?_
  · intro t ht
    simp only [List.mem_cons, List.not_mem_nil, or_false] at ht
    rcases ht with rfl | rfl | rfl
    · exact ⟨rfl, F0.out.1⟩
    · exact ⟨a0, k0, rfl, F0.out.2.1⟩
    · exact ⟨a1, k1, rfl, F0.out.2.2.1⟩
  · intro a' w' hb hn hd hold hv
    obtain ⟨o, ho, hd2⟩ := Option.bind_eq_some_iff.1 (show (fOps[79]?).bind (·.dst) = some 2 by kernel_rfl)
    obtain ⟨p, e2, hr⟩ : V w.heap.size c .all (a'.tmps.getD 2 undef) w' := hv 79 o 2 ho hd2
    refine hK _ _ (wp_ret (bodyPost_ret (v := .slice (some ⟨p, 0, none⟩) 19 19) ((results_tmp rfl _ _ _).trans (by rw [e2])) hd ⟨p, rfl, hr, grow F0.out.2.2.2 hb⟩))
end Cf
end Go.Proofs.Ytmlhmmfgdioclaa

namespace Go.Proofs.Ytmlhmmfgdioclaa
set_option maxRecDepth 100000
open Go.ChangeShapes Go.WideShapes Go.ChangeAt Go.RowKit Go.Deep
namespace Cf

/-- What lies about while the rows are looked at. -/
structure Lie (w W : World) (p : Nat) (c : List Int) : Prop where
  below : Below w.heap.size w W
  rows : ∀ i, i < 19 → RowAt W p i (rowC c i)
theorem Lie.on {w W W' : World} {p : Nat} {c : List Int} (h : Lie w W p c) (b : Below W.heap.size W W') : Lie w W' p c :=
  ⟨grow h.below b, fun i hi => (h.rows i hi).on b⟩
/-- A row taken out into a box. -/
structure In (W : World) (g : Nat) (r : Row) (a : Option Addr) (cap : Nat) : Prop where
  name : W.cell? ⟨g, 0, none⟩ = some (.string r.name)
  lo : W.cell? ⟨g, 1, none⟩ = some (.int .i64 r.lo)
  hi : W.cell? ⟨g, 2, none⟩ = some (.int .i64 r.hi)
  nums : W.cell? ⟨g, 3, none⟩ = some (.slice a r.nums.length cap)
  ints : IntsAt .i64 W a r.nums
theorem in_new {W : World} {r : Row} {a : Option Addr} {cap : Nat} {t : TypeId} (h : IntsAt .i64 W a r.nums) :
    In (W.alloc (.cells #[.string r.name, .int .i64 r.lo, .int .i64 r.hi, .slice a r.nums.length cap] t)) W.heap.size r a cap := by
  have b := (Below.refl W.heap.size W).alloc (Nat.le_refl _) (.cells #[.string r.name, .int .i64 r.lo, .int .i64 r.hi, .slice a r.nums.length cap] t)
  have hg := heap_alloc_new W (.cells #[.string r.name, .int .i64 r.lo, .int .i64 r.hi, .slice a r.nums.length cap] t)
  exact ⟨(cell_of_row _ _ _ _ _ _ hg).trans rfl, (cell_of_row _ _ _ _ _ _ hg).trans rfl, (cell_of_row _ _ _ _ _ _ hg).trans rfl, (cell_of_row _ _ _ _ _ _ hg).trans rfl, h.below b⟩

theorem nums_few (c : List Int) (k : Nat) : (rowC c k).nums.length ≤ 4 := by
  have h : ∀ r ∈ rows c, r.nums.length ≤ 4 := by
    intro r hr
    simp only [rows, List.mem_cons, List.not_mem_nil, or_false] at hr
    rcases hr with rfl | rfl | rfl | rfl | rfl | rfl | rfl | rfl | rfl | rfl | rfl | rfl | rfl | rfl | rfl | rfl | rfl | rfl | rfl <;> first | exact Nat.le_of_ble_eq_true rfl | (simp only [own, others]; split <;> exact Nat.le_of_ble_eq_true rfl)
  unfold rowC
  by_cases hk : k < (rows c).length
  · rw [List.getD_eq_getElem?_getD, List.getElem?_eq_getElem hk]; exact h _ (List.getElem_mem hk)
  · rw [List.getD_eq_getElem?_getD, List.getElem?_eq_none (by omega)]; exact Nat.zero_le _
theorem fault_step (c : List Int) (k : Nat) (h : k < 19) : first ((rows c).drop k) = if fine (rowC c k) = true then first ((rows c).drop (k + 1)) else (rowC c k).name := first_drop _ _ h
theorem take_ok {r : Row} {j : Nat} (h : j < r.nums.length) (hj : (r.nums.take j).all (ok r) = true) (hx : r.lo ≤ r.nums.getD j 0 ∧ r.nums.getD j 0 ≤ r.hi) : (r.nums.take (j + 1)).all (ok r) = true := by
  rw [List.take_succ_eq_append_getElem h, List.all_append, hj]
  simp [List.getD_eq_getElem?_getD, h] at hx
  simp [ok, hx]
theorem not_fine {r : Row} {j : Nat} (h : j < r.nums.length) (hx : r.nums.getD j 0 < r.lo ∨ r.hi < r.nums.getD j 0) : fine r = false := by
  unfold fine
  rw [List.all_eq_false]
  refine ⟨r.nums[j], List.getElem_mem h, ?_⟩
  simp [List.getD_eq_getElem?_getD, h] at hx
  simp [ok]; omega

set_option maxHeartbeats 3200000 in
theorem fault_any (c : List Int) (w : World) (hc : c.length = 21) :
    Calls Try.prog 15 #[.agg (CA c)] w fun e w' => e = .returned (.string (fault c)) ∧ Below w.heap.size w w' := by
  have B0 := Lib.hid (Box.new w c)
  have b0 := Lib.hid ((Below.refl w.heap.size w).alloc (Nat.le_refl _) (.cells (CA c) 24))
  have FI := fun W => fields_any c W hc
  go_enter Try.func15, Try.ntmps15
  go_wp2
  go_step3
  go_wp2
  go_step3
  go_wp2_with (with_reducible show wpList _ _ _ (⟨some 8, _, _, _, _, _⟩ :: _) _ _; refine wpList_loadC rfl _ rfl w.heap.size c rfl B0.out hc ?_)
  refine (FI _).mono ?_; rintro e w1 ⟨p, rfl, hr, b1⟩
  have L := Lib.hid (show Lie w w1 p c from ⟨grow b0.out b1, hr⟩)
  clear hr b1 FI B0 b0
  go_wp2_with fail
  go_loopg [3, 11] 19 (fun gg s3 s11 wx => ∃ k : Nat, k + gg = 19 ∧ s11 = .int .i64 k ∧ s3 = .string ⟨#[]⟩ ∧ Hid (first ((rows c).drop k) = fault c) ∧ Hid (Lie w wx p c))
  case atStart => exact ⟨0, rfl, rfl, rfl, Lib.hid rfl, L⟩
  case round =>
    obtain ⟨k, hkg, rfl, rfl, HF, HL⟩ := hrel
    cases gk with
    | zero =>
      have hk : k = 19 := by omega
      subst hk
      go_wp2_with fail
      go_ret
      exact ⟨by rw [← HF.out]; rfl, HL.out.below⟩
    | succ g =>
      have hk : k < 19 := by omega
      have HS := Lib.hid (fault_step c k hk)
      obtain ⟨z0, z1, z2, a, cap, z3, hi⟩ := HL.out.rows k hk
      have Z := Lib.hid (in_new (t := 91) (cap := cap) hi)
      have Y := Lib.hid (HL.out.on ((Below.refl wr.heap.size wr).alloc (Nat.le_refl _) (.cells #[.string (rowC c k).name, .int .i64 (rowC c k).lo, .int .i64 (rowC c k).hi, .slice a (rowC c k).nums.length cap] 91)))
      have hf := nums_few c k
      clear hi
      generalize rowC c k = r at *
      go_wp2_with fail
      generalize wr.alloc (.cells #[.string r.name, .int .i64 r.lo, .int .i64 r.hi, .slice a r.nums.length cap] 91) = W1 at *
      generalize wr.heap.size = q at *
      clear z0 z1 z2 z3 HL
      go_loopg [3, 18] r.nums.length (fun gg s3 s18 wx => ∃ j : Nat, j + gg = r.nums.length ∧ s18 = .int .i64 j ∧ s3 = .string ⟨#[]⟩ ∧ Hid ((r.nums.take j).all (ok r) = true) ∧ wx = W1)
      case atStart => exact ⟨0, by omega, rfl, rfl, Lib.hid (by simp), rfl⟩
      case round =>
        obtain ⟨j, hj, rfl, rfl, HA, rfl⟩ := hrel
        have y0 := Z.out.name
        have y1 := Z.out.lo
        have y2 := Z.out.hi
        cases gk with
        | zero =>
          have hjl : j = r.nums.length := by omega
          subst hjl
          have HN := Lib.hid (show fine r = true by have := HA.out; rw [List.take_of_length_le (Nat.le_refl _)] at this; exact this)
          go_wp2_with fail
          go_roundg g
          case rel => exact ⟨k + 1, by omega, by go_num, rfl, Lib.hid (by have h := HS.out; rw [HN.out, if_pos rfl] at h; rw [← h]; exact HF.out), Y⟩
          case measure => omega
        | succ g2 =>
          have hlt : j < r.nums.length := by omega
          rcases Z.out.ints with e | ⟨bb, off, rfl, hcell⟩
          · rw [e] at hlt; exact absurd hlt (Nat.not_lt_zero _)
          have cx := hcell j hlt
          have HG := Lib.hid (fun h1 h2 => take_ok hlt HA.out (And.intro h1 h2))
          have HB := Lib.hid (fun h => not_fine hlt h)
          clear hcell
          generalize r.nums.getD j 0 = x at *
          by_cases hx : r.lo ≤ x
          · by_cases hy : x ≤ r.hi
            · have d1 : decide (x < r.lo) = false := by simpa using hx
              have d2 : decide (r.hi < x) = false := by simpa using hy
              have HX := Lib.hid hx
              have HY := Lib.hid hy
              clear hx hy
              go_wp2_with fail
              go_roundg g2
              case rel => exact ⟨j + 1, by omega, by go_num, rfl, Lib.hid (HG.out HX.out HY.out), rfl⟩
              case measure => omega
            · have d1 : decide (x < r.lo) = false := by simpa using hx
              have d2 : decide (r.hi < x) = true := by simp; omega
              have HX := Lib.hid (HB.out (Or.inr (by omega)))
              clear hx hy
              go_wp2_with fail
              rw [Exit.noGoto_ret]
              go_ret
              exact ⟨by have h := HS.out; rw [HX.out] at h; rw [← HF.out, h]; rfl, Y.out.below⟩
          · have d1 : decide (x < r.lo) = true := by simp; omega
            have HX := Lib.hid (HB.out (Or.inl (by omega)))
            clear hx
            go_wp2_with fail
            rw [Exit.noGoto_ret]
            go_ret
            exact ⟨by have h := HS.out; rw [HX.out] at h; rw [← HF.out, h]; rfl, Y.out.below⟩

theorem rt_empty (c : List Int) : (fault c).toList.isEmpty = rt c := by
  rw [← rt_fault, beq_bytes, Bool.eq_iff_iff, decide_eq_true_eq, List.isEmpty_iff, ByteArray.toList_eq, ByteArray.ext_iff]
  simp
theorem right_any (c : List Int) (w : World) (hc : c.length = 21) :
    Calls Try.prog 6 #[.agg (CA c)] w fun e w' => e = .returned (.bool (rt c)) ∧ Below w.heap.size w w' := by
  have B0 := Lib.hid (Box.new w c)
  have b0 := Lib.hid ((Below.refl w.heap.size w).alloc (Nat.le_refl _) (.cells (CA c) 24))
  have FI := fun W => fault_any c W hc
  have HE := Lib.hid (rt_empty c)
  generalize fault c = s at *
  go_enter Try.func6, Try.ntmps6
  go_wp2_with (with_reducible show wpList _ _ _ (⟨some 3, _, _, _, _, _⟩ :: _) _ _; refine wpList_loadC rfl _ rfl w.heap.size c rfl B0.out hc ?_)
  refine (FI _).mono ?_; rintro e w1 ⟨rfl, b1⟩
  go_wp2_with fail
  go_ret
  exact ⟨by rw [← HE.out]; rfl, grow b0.out b1⟩
end Cf
end Go.Proofs.Ytmlhmmfgdioclaa

namespace Go.Proofs.Ytmlhmmfgdioclaa
set_option maxRecDepth 100000
open Go.ChangeShapes Go.WideShapes Go.ChangeAt Go.RowKit Go.Deep
namespace Cf

theorem ret_bool {a b : Bool} (h : a = b) : Ending.returned (.bool a) = .returned (.bool b) := by rw [h]
theorem wp_loadC {o : Oper} {a : Act} {w : World} {K : Act → World → Prop} {Q : Exit → Act → World → Prop} (x : Operand) (ho : o.op = .load 24 x)
    (b : Nat) (c : List Int) (hx : a.eval x = .pointer (some ⟨b, 0, none⟩)) (hb : Box w b c) (hc : c.length = 21)
    (h : K (a.put o.dst (.agg (CA c))) w) : o.wp Try.prog a w K Q :=
  wp_load_row 24 x ho b hx 24 (CA c) (0, 0) _ hb Try.underlying24 rfl (by rw [CA_size, hc]; exact sizeC) h

/-- A whole configuration loaded, where the operation is wanted. -/
theorem wpList_loadW {ops : Array Oper} {rest : List Oper} {o : Oper} {a : Act} {w : World} {Q : Exit → Act → World → Prop} (hw : Region.wanted o (yielded ops a.tmps) = true) (x : Operand) (ho : o.op = .load 24 x)
    (b : Nat) (c : List Int) (hx : a.eval x = .pointer (some ⟨b, 0, none⟩)) (hb : Box w b c) (hc : c.length = 21)
    (h : wpList Try.prog ops Q rest (a.put o.dst (.agg (CA c))) w) : wpList Try.prog ops Q (o :: rest) a w := by
  unfold wpList
  rw [if_pos hw]
  exact .inl (wp_loadC x ho b c hx hb hc h)
theorem cov_far (c : List Int) (e r : Int) (h : ¬ (0 ≤ e ∧ e ≤ 1073741824 ∧ 0 ≤ r ∧ r ≤ 1073741824)) : cov c e r = false := by
  unfold cov; rw [decide_eq_false_iff_not]; exact fun q => h q.1
theorem cov_wrong (c : List Int) (e r : Int) (h : rt c = false) : cov c e r = false := by
  unfold cov; rw [decide_eq_false_iff_not]; exact fun q => (of_decide_eq_false h) q.2.1
theorem cov_right (c : List Int) (e r : Int) (h : 0 ≤ e ∧ e ≤ 1073741824 ∧ 0 ≤ r ∧ r ≤ 1073741824) (hr : rt c = true) :
    cov c e r = (decide (2 * e + 2 * G c 10 + G c 12 ≤ G c 9) && (decide (r + 2 * e ≤ G c 4) && (decide (2 * e ≤ G c 7) && (decide (4 * e + 2 * G c 10 + 2 * G c 12 ≤ G c 5) && decide (2 * e ≤ G c 2 - G c 1))))) := by
  have hR : Right c := of_decide_eq_true hr
  unfold cov
  simp only [h, hR, true_and, Bool.decide_and, and_self]
theorem right_small (c : List Int) (hr : rt c = true) : (-2147483648 ≤ G c 1 ∧ G c 1 ≤ 2147483647) ∧ (-2147483648 ≤ G c 2 ∧ G c 2 ≤ 2147483647) ∧ (0 ≤ G c 4 ∧ G c 4 ≤ 2147483647) ∧ (0 ≤ G c 5 ∧ G c 5 ≤ 2147483647) ∧ (0 ≤ G c 7 ∧ G c 7 ≤ 2147483647) ∧ (0 ≤ G c 9 ∧ G c 9 ≤ 2147483647) ∧ (0 ≤ G c 10 ∧ G c 10 ≤ 2147483647) ∧ (0 ≤ G c 12 ∧ G c 12 ≤ 2147483647) := by
  have hR : Right c := of_decide_eq_true hr
  unfold Right at hR
  omega

end Cf
end Go.Proofs.Ytmlhmmfgdioclaa

namespace Go.Proofs.Ytmlhmmfgdioclaa
set_option maxRecDepth 100000
open Go.ChangeShapes Go.WideShapes Go.ChangeAt Go.RowKit Go.Deep
namespace Sg
open Cf (G CA Box)

theorem raw_cells {w : World} {g : Nat} {t : TypeId} {r : Nat → Rw} (h : VRow w g t (raw8 r)) : w.cell? ⟨g, 0, none⟩ = some (.bool (r 0).is) ∧ w.cell? ⟨g, 1, none⟩ = some (.int .i64 (r 0).n) ∧ w.cell? ⟨g, 2, none⟩ = some (.bool (r 1).is) ∧ w.cell? ⟨g, 3, none⟩ = some (.int .i64 (r 1).n) ∧ w.cell? ⟨g, 4, none⟩ = some (.bool (r 2).is) ∧ w.cell? ⟨g, 5, none⟩ = some (.int .i64 (r 2).n) ∧ w.cell? ⟨g, 6, none⟩ = some (.bool (r 3).is) ∧ w.cell? ⟨g, 7, none⟩ = some (.int .i64 (r 3).n) :=
  ⟨h.cell 0 rfl, h.cell 1 rfl, h.cell 2 rfl, h.cell 3 rfl, h.cell 4 rfl, h.cell 5 rfl, h.cell 6 rfl, h.cell 7 rfl⟩
theorem sizeR : (Try.prog.info? 41).map (·.size) = some 8 := by kernel_rfl
theorem aggR (w : World) : (isAgg 41).run Try.prog w = .ok true w := by simp [isAgg, run_underlying Try.underlying41]
theorem raw_one (r : Nat → Rw) : (raw8 r).toArray.all (·.oneCell') = true := by simp [raw8, Value.oneCell']
/-- A bit of a mask of four. -/
theorem mk4_bit (f : Nat → Bool) {k : Nat} (hk : k < 4) : ((mk4 f).tdiv (2 ^ k)).tmod 2 = if f k = true then 1 else 0 := by
  have : k ∈ [0, 1, 2, 3] := by simp; omega
  simp only [List.mem_cons, List.mem_nil_iff, or_false] at this
  unfold mk4
  cases h0 : f 0 <;> cases h1 : f 1 <;> cases h2 : f 2 <;> cases h3 : f 3 <;> rcases this with rfl | rfl | rfl | rfl <;> simp [h0, h1, h2, h3] <;> decide
theorem mk4_bd (f : Nat → Bool) : 0 ≤ mk4 f ∧ mk4 f ≤ 15 := by
  unfold mk4
  refine ⟨?_, ?_⟩ <;> split <;> split <;> split <;> split <;> omega
/-- A whole struct loaded, in a region that draws, wherever its cells lie. -/
theorem wpQuiet_loadR {ops : Array Oper} {C : World → Prop} {Q : Act → Prop} {o : Oper} {rest : List Oper} {a : Act} {t : TypeId} (hw : Region.wanted o (yielded ops a.tmps) = true) (x : Operand) (ho : o.op = .load t x)
    (b off : Nat) (cs : List Value) (hx : a.eval x = .pointer (some ⟨b, off, none⟩)) (hb : ∀ w, C w → ∀ (j : Nat) v, cs[j]? = some v → w.cell? ⟨b, off + j, none⟩ = some v) (hA : ∀ w, (isAgg t).run Try.prog w = .ok true w) (hi : (Try.prog.info? t).map (·.size) = some cs.length)
    (h : wpQuiet Try.prog ops C Q rest (a.put o.dst (.agg cs.toArray))) : wpQuiet Try.prog ops C Q (o :: rest) a := by
  unfold wpQuiet
  rw [if_pos hw]
  refine ⟨.agg cs.toArray, fun w hC => ?_, h⟩
  have e : (loadVar t ⟨b, off, none⟩).run Try.prog w = .ok (.agg cs.toArray) w := by
    have h1 := run_loadCells_list (P := Try.prog) w ⟨b, off, none⟩ cs (fun j v hv => by rw [add_plain]; exact hb w hC j v hv)
    cases hq : Try.prog.info? t with
    | none => simp [hq] at hi
    | some i =>
      have hs : i.size = cs.length := by simpa [hq] using hi
      simp [loadVar, hA, sizeOf, typeInfo, hq, hs, h1, Result.andThen]
  unfold Oper.quietAt execOp
  simp only [ho, hx, Instr.loadAt, Instr.sureAddr, Sem.run_bind, Sem.run_pure, Result.andThen_ok, e]
  exact ⟨rfl, rfl⟩
/-- A whole configuration loaded, in a region that draws. -/
theorem wpQuiet_loadK {ops : Array Oper} {C : World → Prop} {Q : Act → Prop} {o : Oper} {rest : List Oper} {a : Act} (hw : Region.wanted o (yielded ops a.tmps) = true) (x : Operand) (ho : o.op = .load 24 x)
    (b : Nat) (c : List Int) (hx : a.eval x = .pointer (some ⟨b, 0, none⟩)) (hb : ∀ w, C w → Box w b c) (hc : c.length = 21)
    (h : wpQuiet Try.prog ops C Q rest (a.put o.dst (.agg (CA c)))) : wpQuiet Try.prog ops C Q (o :: rest) a :=
  wpQuiet_loadR hw x ho b 0 (cellsI .i64 c) hx (fun w hw j v hv => by rw [Nat.zero_add]; exact VRow.cell (show VRow w b 24 (cellsI .i64 c) from hb w hw) j hv) (fun w => by simp [isAgg, run_underlying Try.underlying24]) (by rw [show (cellsI .i64 c).length = 21 by simp [cellsI, hc]]; exact Cf.sizeC) h
theorem sizeS : (Try.prog.info? 36).map (·.size) = some 13 := by kernel_rfl
theorem sizeL : (Try.prog.info? 55).map (·.size) = some 5 := by kernel_rfl
theorem res_one (c : List Int) (s : Si) (r : Nat → Rw) (sh : Int) : (res c s r sh).toArray.all (·.oneCell') = true := by simp [res, Value.oneCell']
theorem lav_one (s : Lc.St) : (lav s).toArray.all (·.oneCell') = true := by simp [lav, Value.oneCell']
theorem allocR (W : World) : (Instr.alloc 41 true (.tuple #[])).run Try.prog W = .ok (.pointer (some ⟨W.heap.size, 0, none⟩)) (W.alloc (.cells (raw8 fun _ => rw0).toArray 41)) := by exact rfl

/-- '!=' of a latch's state and none. -/
theorem eqL_any (s : Lc.St) : ∃ b : Bool, ∀ w : World, (Op.equalIn 10000 55 (.agg #[.bool s.la, .bool s.ou, .int .i64 s.st, .int .i64 s.cl, .int .i64 s.bk]) (.agg #[.bool false, .bool false, .int .i64 0, .int .i64 0, .int .i64 0])).run Try.prog w = .ok b w := by
  obtain ⟨la, ou, st, cl, bk⟩ := s
  cases la
  · cases ou
    · rcases st with (_ | st) | st
      · rcases cl with (_ | cl) | cl
        · rcases bk with (_ | bk) | bk
          · exact ⟨true, fun w => by kernel_rfl⟩
          · exact ⟨false, fun w => by kernel_rfl⟩
          · exact ⟨false, fun w => by kernel_rfl⟩
        · exact ⟨false, fun w => by kernel_rfl⟩
        · exact ⟨false, fun w => by kernel_rfl⟩
      · exact ⟨false, fun w => by kernel_rfl⟩
      · exact ⟨false, fun w => by kernel_rfl⟩
    · exact ⟨false, fun w => by kernel_rfl⟩
  · exact ⟨false, fun w => by kernel_rfl⟩
theorem eqL_zer (w : World) : (Op.equalIn 10000 55 (.agg #[.bool false, .bool false, .int .i64 0, .int .i64 0, .int .i64 0]) (.agg #[.bool false, .bool false, .int .i64 0, .int .i64 0, .int .i64 0])).run Try.prog w = .ok true w := by kernel_rfl
theorem quo_bd {x P : Int} (hx : 0 ≤ x ∧ x ≤ 15) (hP : P = 1 ∨ P = 2 ∨ P = 4 ∨ P = 8) : (0 ≤ x.tdiv P ∧ x.tdiv P ≤ 15) ∧ 0 ≤ (x.tdiv P).tmod 2 ∧ (x.tdiv P).tmod 2 ≤ 1 := by
  rw [Int.tdiv_eq_ediv_of_nonneg hx.1]
  have h : 0 ≤ x / P ∧ x / P ≤ 15 := by rcases hP with rfl | rfl | rfl | rfl <;> omega
  rw [Int.tmod_eq_emod_of_nonneg h.1]
  omega
end Sg
end Go.Proofs.Ytmlhmmfgdioclaa

namespace Go.Proofs.Ytmlhmmfgdioclaa
set_option maxRecDepth 100000
open Go.ChangeShapes Go.WideShapes Go.ChangeAt Go.RowKit Go.Deep
namespace Sg
open Cf (G CA Box)

def nlo (f : Nat → Bool) (r : Nat → Rw) : Nat → Int
  | 0 => 4294967296
  | k + 1 => if f k = true then min (nlo f r k) (r k).n else nlo f r k
def nhi (f : Nat → Bool) (r : Nat → Rw) : Nat → Int
  | 0 => -4294967296
  | k + 1 => if f k = true then max (nhi f r k) (r k).n else nhi f r k
theorem nlo_le {f : Nat → Bool} {r : Nat → Rw} : ∀ (k : Nat) {i : Nat}, i < k → f i = true → nlo f r k ≤ (r i).n
  | k + 1, i, h, hf => by
    unfold nlo
    by_cases e : i = k
    · subst e; rw [if_pos hf]; omega
    · have := nlo_le (r := r) k (show i < k by omega) hf
      split <;> omega
theorem nhi_ge {f : Nat → Bool} {r : Nat → Rw} : ∀ (k : Nat) {i : Nat}, i < k → f i = true → (r i).n ≤ nhi f r k
  | k + 1, i, h, hf => by
    unfold nhi
    by_cases e : i = k
    · subst e; rw [if_pos hf]; omega
    · have := nhi_ge (r := r) k (show i < k by omega) hf
      split <;> omega
theorem nlo_bd {f : Nat → Bool} {r : Nat → Rw} (h : ∀ i, f i = true → -2147483648 ≤ (r i).n ∧ (r i).n ≤ 2147483647) : ∀ k, -2147483648 ≤ nlo f r k ∧ nlo f r k ≤ 4294967296
  | 0 => by unfold nlo; omega
  | k + 1 => by
    have := nlo_bd h k
    unfold nlo
    split
    · rename_i q; have := h k q; omega
    · exact this
theorem nhi_bd {f : Nat → Bool} {r : Nat → Rw} (h : ∀ i, f i = true → -2147483648 ≤ (r i).n ∧ (r i).n ≤ 2147483647) : ∀ k, -4294967296 ≤ nhi f r k ∧ nhi f r k ≤ 2147483647
  | 0 => by unfold nhi; omega
  | k + 1 => by
    have := nhi_bd h k
    unfold nhi
    split
    · rename_i q; have := h k q; omega
    · exact this
section
variable {c : List Int} {s : Si} {r : Nat → Rw} {sh : Int}
/-- Is a channel there, and in? -/
def inq (c : List Int) (s : Si) (r : Nat → Rw) (sh : Int) (i : Nat) : Bool := decide (i < NN c) && isin c s r sh i
theorem inq_iff {i : Nat} : inq c s r sh i = true ↔ i ∈ inl c s r sh := by unfold inq; rw [inl_iff]; simp
theorem inq_yes {i : Nat} (h : inq c s r sh i = true) : i < NN c ∧ (r i).is = true ∧ (G c 1 ≤ (r i).n ∧ (r i).n ≤ G c 2) ∧ Fx.has sh i = false ∧ (s.ch i).st.la = false := by
  obtain ⟨h1, h2⟩ := inl_iff.1 (inq_iff.1 h)
  obtain ⟨k1, k2, -, k4, k5⟩ := isin_iff.1 h2
  exact ⟨h1, k1, out_no k2, k4, k5⟩
theorem inq_bd (hr : Rok c r) {i : Nat} (h : inq c s r sh i = true) : -2147483648 ≤ (r i).n ∧ (r i).n ≤ 2147483647 := hr i (inq_yes h).1 (inq_yes h).2.1
theorem near_in (hR : Cf.Right c) (hr : Rok c r) (hO : Ok c s) (ha : any c s r sh = true) : nlo (inq c s r sh) r 4 - G c 10 - G c 12 ≤ val c s r sh ∧ val c s r sh ≤ nhi (inq c s r sh) r 4 + G c 10 + G c 12 := by
  have h34 := NN_34 hR
  refine near hR hr hO ha fun i hi => ?_
  have := (inl_iff.1 hi).1
  exact ⟨nlo_le 4 (by omega) (inq_iff.2 hi), nhi_ge 4 (by omega) (inq_iff.2 hi)⟩
theorem inm_no (ha : any c s r sh = false) : inm c s r sh = 0 := by
  have h : ∀ i, inq c s r sh i = false := fun i => by
    cases e : inq c s r sh i
    · rfl
    · have := inq_iff.1 e
      have h2 : any c s r sh = true := any_iff.2 (fun q => by rw [q] at this; cases this)
      rw [ha] at h2; cases h2
  show mk4 (inq c s r sh) = 0
  unfold mk4; rw [h, h, h, h]; rfl
theorem inm_yes (hR : Cf.Right c) (ha : any c s r sh = true) : 0 < inm c s r sh := by
  obtain ⟨i, hi⟩ := List.exists_mem_of_ne_nil _ (any_iff.1 ha)
  have h34 := NN_34 hR
  have h4 : i < 4 := by have := (inl_iff.1 hi).1; omega
  have b := mk4_bit (inq c s r sh) h4
  rw [if_pos (inq_iff.2 hi)] at b
  have bd := mk4_bd (inq c s r sh)
  show 0 < mk4 (inq c s r sh)
  rcases Int.lt_or_eq_of_le bd.1 with q | q
  · exact q
  · rw [← q] at b; simp at b
/-- Who is not in, though it is neither latched nor shut, has a trip. -/
theorem trp_yes {i : Nat} (h : isin c s r sh i = false) (hs : Fx.has sh i = false) (hl : (s.ch i).st.la = false) : trp c s r sh i ≠ 0 := by
  have ha : 0 < ahd c s r i := by
    unfold ahd
    cases e : (r i).is
    · simp
    · rw [if_pos rfl]
      unfold isin at h
      rw [e, hs, hl] at h
      unfold outr spk at h
      unfold Jp.trips
      cases o : Jp.out (G c 1) (G c 2) (r i).n
      · cases f : Jp.far (G c 4) (s.ch i).last (s.ch i).has (r i).n
        · rw [o, f] at h; simp at h
        · simp; split <;> omega
      · simp; split <;> split <;> omega
  unfold trp
  split <;> split <;> omega
theorem has_bit {i : Nat} (h : 0 ≤ sh ∧ sh ≤ 15) (hi : i < 4) : (sh.tdiv (2 ^ i)).tmod 2 = if Fx.has sh i = true then 1 else 0 := by
  have hs : sh = 0 ∨ sh = 1 ∨ sh = 2 ∨ sh = 3 ∨ sh = 4 ∨ sh = 5 ∨ sh = 6 ∨ sh = 7 ∨ sh = 8 ∨ sh = 9 ∨ sh = 10 ∨ sh = 11 ∨ sh = 12 ∨ sh = 13 ∨ sh = 14 ∨ sh = 15 := by omega
  have hj : i = 0 ∨ i = 1 ∨ i = 2 ∨ i = 3 := by omega
  rcases hj with rfl | rfl | rfl | rfl <;> rcases hs with rfl | rfl | rfl | rfl | rfl | rfl | rfl | rfl | rfl | rfl | rfl | rfl | rfl | rfl | rfl | rfl <;> decide
theorem lam_bit {i : Nat} (hi : i < 4) : ((lam c s).tdiv (2 ^ i)).tmod 2 = if (decide (i < NN c) && (s.ch i).st.la) = true then 1 else 0 := mk4_bit _ hi
theorem inm_bit {i : Nat} (hi : i < 4) : ((inm c s r sh).tdiv (2 ^ i)).tmod 2 = if inq c s r sh i = true then 1 else 0 := mk4_bit _ hi
end
end Sg
end Go.Proofs.Ytmlhmmfgdioclaa
