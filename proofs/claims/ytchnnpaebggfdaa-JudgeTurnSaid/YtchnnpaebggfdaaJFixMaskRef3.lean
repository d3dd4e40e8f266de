/-
  What Has and Count of the document's answers for layer 1 (package rudderref01) return: contracts by walking the Go text (cut out of FixMasksWalk, for later layers). No conditions.
  What Right and Word of package status, and the like of rudderref16, tell: contracts by walking the Go text. No conditions beyond the numbers' kinds.
  How an output lies in memory: its cells, and what is loaded of them. No function of the program is walked here. No conditions.
-/
import Derived.Test.YtchnnpaebggfdaaFixWalks
import Derived.Test.YtchnnpaebggfdaaJFixMath3
import Derived.Test.YtchnnpaebggfdaaJJudgeMath3
import Derived.Handy
import Derived.RegionTactic
import Derived.BigQuiet
import Derived.Deep.MidRow
import Derived.OwnWalkIn
namespace Go.Proofs.Ytchnnpaebggfdaa
set_option maxRecDepth 100000
open Go.ChangeShapes Go.WideShapes Go.ChangeAt Go.RowKit
namespace Fx
theorem half_pow (m : Int) (k : Nat) : m / 2 ^ (k + 1) = m / 2 ^ k / 2 := by
  rw [pow_succ2, Int.mul_comm, div_div m (2 ^ k) 2 (by have := pow_pos2 k; omega)]
set_option maxHeartbeats 400000 in
theorem rhas_any (m i : Int) (w : World) :
    Calls Try.prog 41 #[.int .i64 m, .int .i64 i] w fun e w' => e = .returned (.bool (has m i)) ∧ w = w' := by
  by_cases h1 : m < 0
  · have HF := Lib.hid (has_out m i (by omega))
    go_enter Try.func41, Try.ntmps41
    go_wp2
    go_ret
    exact ⟨ret_bool (by rw [HF.out]), rfl⟩
  · have d1 : decide (m < 0) = false := by simpa using h1
    by_cases h2 : 65535 < m
    · have HF := Lib.hid (has_out m i (by omega))
      go_enter Try.func41, Try.ntmps41
      go_wp2
      go_ret
      exact ⟨ret_bool (by rw [HF.out]), rfl⟩
    · have d2 : decide (65535 < m) = false := by simpa using h2
      by_cases h3 : i < 0
      · have HF := Lib.hid (has_out m i (by omega))
        go_enter Try.func41, Try.ntmps41
        go_wp2
        go_ret
        exact ⟨ret_bool (by rw [HF.out]), rfl⟩
      · have d3 : decide (i < 0) = false := by simpa using h3
        by_cases h4 : 15 < i
        · have HF := Lib.hid (has_out m i (by omega))
          go_enter Try.func41, Try.ntmps41
          go_wp2
          go_ret
          exact ⟨ret_bool (by rw [HF.out]), rfl⟩
        · have HF := Lib.hid (has_in m i (by omega))
          obtain ⟨j, rfl⟩ := Int.eq_ofNat_of_zero_le (show 0 ≤ i by omega)
          have d4 : decide (15 < (j : Int)) = false := by simpa using h4
          have hj : j ≤ 15 := by omega
          clear h3 h4
          go_enter Try.func41, Try.ntmps41
          go_wp2
          go_loop [5, 6] (fun n k => ∃ t : Nat, t ≤ j ∧ k = .int .i64 t ∧ n = .int .i64 (m / 2 ^ t)) (fun _ k => j - (intOf k).toNat)
          case atStart => exact ⟨0, by omega, rfl, by simp⟩
          case round =>
            obtain ⟨t, ht, rfl, rfl⟩ := hrel
            have hb := div_pow_lt m t (by omega) (by omega)
            have HP := Lib.hid (half_pow m t)
            by_cases hlt : t < j
            · generalize m / 2 ^ t = x at *
              go_wp2
              go_round
              case rel => exact ⟨t + 1, by omega, by go_num, by rw [HP.out]⟩
              case measure => simp [intOf]; omega
            · obtain rfl : t = j := by omega
              rw [Int.toNat_natCast] at HF
              generalize m / 2 ^ t = x at *
              go_wp2
              go_ret
              exact ⟨ret_bool (by rw [HF.out]), rfl⟩
end Fx
end Go.Proofs.Ytchnnpaebggfdaa

namespace Go.Proofs.Ytchnnpaebggfdaa
set_option maxRecDepth 100000
open Go.ChangeShapes Go.WideShapes Go.ChangeAt Go.RowKit Go.Deep
namespace Ss
open Fx
def stv (s : St) : Value := .agg #[.int .i64 s.i, .int .i64 s.l, .int .i64 s.s, .bool s.f]
def str (s : St) : List Value := [.int .i64 s.i, .int .i64 s.l, .int .i64 s.s, .bool s.f]
theorem str_one (s : St) : (str s).toArray.all (·.oneCell') = true := by simp [str, Value.oneCell']
theorem onB {w w' : World} {g : Nat} {t : TypeId} {cs : List Value} (h : VRow w g t cs) (b : Below w.heap.size w w') : VRow w' g t cs := h.below b h.lt
theorem sizeS : (Try.prog.info? 54).map (·.size) = some 4 := by kernel_rfl
end Ss
end Go.Proofs.Ytchnnpaebggfdaa

namespace Go.Proofs.Ytchnnpaebggfdaa
set_option maxRecDepth 100000
open Go.ChangeShapes Go.WideShapes Go.ChangeAt Go.RowKit Go.Deep
namespace Ot
open Ss (St str zer stv)
/-! Steps inside a fence: a struct or an array loaded, or stored, an array's element. -/
section
variable {F : Fence} {n : Nat} {P : Program} {ops : Array Oper} {rest : List Oper} {o : Oper} {a : Act} {w : World} {Q : Exit → Act → World → Prop}
theorem wpListIn_loadR (hg : o.guard = none) (t : TypeId) (x : Operand) (ho : o.op = .load t x) (b off : Nat) (hx : a.eval x = .pointer (some ⟨b, off, none⟩)) (cs : List Value) (d : TypeDesc) (hc : w.rangeAt b off cs)
    (hu : P.underlying t = some d) (hd : d.isRow = true) (hi : (P.info? t).map (·.size) = some cs.length) (h : wpListIn F n P ops Q rest (a.put o.dst (.agg cs.toArray)) w) : wpListIn F n P ops Q (o :: rest) a w := by
  refine wpListIn_plain hg fun K hK => ?_
  unfold Oper.wpIn
  refine ⟨by simp [Oper.about, ho], ?_⟩
  rw [Oper.semAt_plain F _ _ (by rw [ho]; intro c hc'; cases hc')]
  simp only [execOp, ho, hx, Instr.loadAt, Instr.sureAddr, run_loadVar_mid w b off t cs d hc hu hd hi, Sem.run_bind, Result.andThen_ok, Sem.run_pure]
  exact hK _ _ h
theorem wpListIn_storeW (hg : o.guard = none) (t tt : TypeId) (x y : Operand) (ho : o.op = .store t x y) (g : Nat) (cs cs' : List Value) (hx : a.eval x = .pointer (some ⟨g, 0, none⟩)) (hy : a.eval y = .agg cs'.toArray) (hr : VRow w g tt cs)
    (hi : (P.info? t).map (·.size) = some cs'.length) (hl : cs.length = cs'.length) (h1 : cs'.toArray.all (·.oneCell') = true) (h : wpListIn F n P ops Q rest (a.put o.dst undef) (w.setRow g cs'.toArray)) : wpListIn F n P ops Q (o :: rest) a w := by
  refine wpListIn_plain hg fun K hK => ?_
  unfold Oper.wpIn
  refine ⟨by simp [Oper.about, ho], ?_⟩
  rw [Oper.semAt_plain F _ _ (by rw [ho]; intro c hc'; cases hc')]
  have e := run_storeVar_row (P := P) w g tt t cs.toArray cs'.toArray hr (by simpa using hi) (by simpa using hl) h1
  simp only [execOp, ho, hx, hy, Instr.storeAt, Instr.sureAddr, e, Sem.run_bind, Result.andThen_ok, Sem.run_pure]
  exact hK _ _ h
end
/-! Cells spliced into a block that is known whole. -/
theorem VRow.setCells {g : Nat} {t : TypeId} : ∀ (vs : List Value) (off : Nat) (w : World) (cs : List Value), VRow w g t cs → off + vs.length ≤ cs.length → VRow (w.setCells g off vs) g t (splice cs off vs)
  | [], off, w, cs, h, _ => by rw [show splice cs off [] = cs by unfold splice; simp]; exact h
  | v :: r, off, w, cs, h, hl => by
    rw [World.setCells]
    have h1 := VRow.setCells r (off + 1) _ _ (h.set off v) (by simpa using (by simp at hl; omega : off + 1 + r.length ≤ cs.length))
    have e : splice (cs.set off v) (off + 1) r = splice cs off (v :: r) := by
      simp at hl
      unfold splice
      rw [List.take_set, List.take_succ_eq_append_getElem (show off < cs.length by omega), List.set_append_right _ _ (by rw [List.length_take]; omega), List.drop_set_of_lt (by omega), List.length_take, show min off cs.length = off by omega, Nat.sub_self]
      simp
      congr 1; omega
    rwa [e] at h1
/-- An output as cells. -/
def ouc (o : Ou) : List Value := .int .i64 o.q :: (cellsI .i64 o.v ++ o.s.flatMap str)
theorem str_len (s : St) : (str s).length = 4 := rfl
theorem strs_len (l : List St) : (l.flatMap str).length = 4 * l.length := by
  induction l with
  | nil => rfl
  | cons a t ih => rw [List.flatMap_cons, List.length_append, ih, str_len, List.length_cons]; omega
theorem ouc_len {o : Ou} (k : Ok o) : (ouc o).length = 41 := by
  unfold ouc; rw [List.length_cons, List.length_append, cellsI_len, strs_len, k.v, k.s]
theorem ouc_one (o : Ou) : ∀ v ∈ ouc o, v.oneCell' = true := by
  intro v hv
  unfold ouc at hv
  rcases List.mem_cons.1 hv with rfl | hv
  · rfl
  · rcases List.mem_append.1 hv with hv | hv
    · exact cellsI_one _ _ v hv
    · obtain ⟨s, _, h⟩ := List.mem_flatMap.1 hv
      simp [str] at h
      rcases h with rfl | rfl | rfl | rfl <;> rfl
theorem ouc_all (o : Ou) : (ouc o).toArray.all (·.oneCell') = true := all_oneCell_toArray (ouc_one o)
theorem ouc_v {o : Ou} (k : Ok o) (i : Nat) (hi : i < 8) : (ouc o)[1 + i]? = some (.int .i64 (o.v.getD i 0)) := by
  unfold ouc
  rw [Nat.add_comm, List.getElem?_cons_succ, List.getElem?_append_left (by rw [cellsI_len, k.v]; exact hi)]
  exact cellsI_get _ _ _ (by rw [k.v]; exact hi)
theorem ouc_s {o : Ou} (k : Ok o) (j : Nat) : (ouc o)[9 + j]? = (o.s.flatMap str)[j]? := by
  unfold ouc
  rw [show 9 + j = (8 + j) + 1 by omega, List.getElem?_cons_succ, List.getElem?_append_right (by rw [cellsI_len, k.v]; omega), cellsI_len, k.v]
  congr 1; omega
theorem str_at : ∀ (l : List St) (i : Nat), i < l.length → ((l.flatMap str).drop (i * 4)).take 4 = str (l.getD i zer)
  | [], i, h => by simp at h
  | a :: t, 0, _ => by rw [List.flatMap_cons, Nat.zero_mul, List.drop_zero, List.take_append_of_le_length (by rw [str_len]; omega), List.take_of_length_le (by rw [str_len]; omega)]; rfl
  | a :: t, i + 1, h => by
    rw [List.flatMap_cons, List.drop_append, str_len, List.drop_of_length_le (by rw [str_len]; omega), List.nil_append, show (i + 1) * 4 - 4 = i * 4 by omega, str_at t i (by simpa using h)]; rfl
theorem str_get (l : List St) (i j : Nat) (h : i < l.length) (hj : j < 4) : (l.flatMap str)[i * 4 + j]? = (str (l.getD i zer))[j]? := by
  rw [← str_at l i h, List.getElem?_take_of_lt hj, List.getElem?_drop]
theorem ouc_st {o : Ou} (k : Ok o) (i j : Nat) (hi : i < 8) (hj : j < 4) : (ouc o)[9 + (i * 4 + j)]? = (str (o.s.getD i zer))[j]? := by
  rw [ouc_s k, str_get _ _ _ (by rw [k.s]; exact hi) hj]
section
variable {w : World} {g : Nat} {t : TypeId} {o : Ou}
theorem range_st (h : VRow w g t (ouc o)) (k : Ok o) (i : Nat) (hi : i < 8) : w.rangeAt g (9 + i * 4) (str (o.s.getD i zer)) := fun j v hv => VRow.cell h (9 + i * 4 + j) (by
  rw [Nat.add_assoc, ouc_st k i j hi (List.getElem?_eq_some_iff.1 hv).1]; exact hv)
theorem there_st (h : VRow w g t (ouc o)) (k : Ok o) (i : Nat) (hi : i < 8) : w.there g (9 + i * 4) 4 := fun j hj => ⟨by
  have hl : 9 + i * 4 + j < (ouc o).length := by rw [ouc_len k]; omega
  rw [VRow.cell h _ (List.getElem?_eq_getElem hl)]; rfl, h.frozen _⟩
theorem set_v (k : Ok o) (i : Nat) (hi : i < 8) (x : Int) : (ouc o).set (1 + i) (.int .i64 x) = ouc { o with v := o.v.set i x } := by
  unfold ouc
  rw [Nat.add_comm, List.set_cons_succ, List.set_append_left _ _ (by rw [cellsI_len, k.v]; exact hi), cellsI_set]
theorem splice_app (A B c : List Value) (k : Nat) : splice (A ++ B) (A.length + k) c = A ++ splice B k c := by
  unfold splice
  rw [List.take_length_add_append, Nat.add_assoc, List.drop_length_add_append]
  simp
theorem strs_set : ∀ (l : List St) (i : Nat) (s : St), i < l.length → (l.set i s).flatMap str = splice (l.flatMap str) (i * 4) (str s)
  | [], i, s, h => by simp at h
  | a :: t, 0, s, _ => by rw [List.set_cons_zero, List.flatMap_cons, List.flatMap_cons]; unfold splice; rw [Nat.zero_mul, List.take_zero, List.nil_append, str_len, Nat.zero_add, List.drop_append, str_len, List.drop_of_length_le (by rw [str_len]; omega)]; simp
  | a :: t, i + 1, s, h => by
    rw [List.set_cons_succ, List.flatMap_cons, List.flatMap_cons, strs_set t i s (by simpa using h), show (i + 1) * 4 = (str a).length + i * 4 by rw [str_len]; omega, splice_app]
theorem set_s (k : Ok o) (i : Nat) (hi : i < 8) (s : St) : splice (ouc o) (9 + i * 4) (str s) = ouc { o with s := o.s.set i s } := by
  unfold ouc
  rw [strs_set _ _ _ (by rw [k.s]; exact hi), ← List.cons_append, ← List.cons_append, ← splice_app, List.length_cons, cellsI_len, k.v]
end
theorem Ok.sv {o : Ou} (k : Ok o) (i : Nat) (x : Int) : Ok { o with v := o.v.set i x } := ⟨by simp [k.v], k.s⟩
theorem Ok.ss {o : Ou} (k : Ok o) (i : Nat) (x : St) : Ok { o with s := o.s.set i x } := ⟨k.v, by simp [k.s]⟩
theorem Ok.vs {o : Ou} (k : Ok o) {l : List Int} (h : l.length = 8) : Ok { o with v := l } := ⟨h, k.s⟩
/-! The program's types. -/
theorem sizeO {o : Ou} (k : Ok o) : (Try.prog.info? 57).map (·.size) = some (ouc o).length := by rw [ouc_len k]; kernel_rfl
theorem size4 (w : World) : (sizeOf 54).run Try.prog w = .ok 4 w := by kernel_rfl
end Ot
end Go.Proofs.Ytchnnpaebggfdaa
