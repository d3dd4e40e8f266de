/-
  What the walks of layer 18's laws have in common: whole structs loaded in a region that draws, sizes, masks of four. No function of the program is walked here. No conditions.
-/
import Derived.Test.YtpoededbmdffpaaGreatDoorSignalFace
import Derived.Test.YtpoededbmdffpaaGreatDoorConfigCovers
namespace Go.Proofs.YtpoededbmdffpaaGreatDoor
set_option maxRecDepth 100000
open Go.ChangeShapes Go.WideShapes Go.ChangeAt Go.RowKit Go.Deep
namespace Sg
open Cf (G CA Box)
/-- A bit of a mask of four. -/
theorem mk4_bit (f : Nat → Bool) {k : Nat} (hk : k < 4) : ((mk4 f).tdiv (2 ^ k)).tmod 2 = if f k = true then 1 else 0 := by
  have : k ∈ [0, 1, 2, 3] := by simp; omega
  simp only [List.mem_cons, List.mem_nil_iff, or_false] at this
  unfold mk4
  cases h0 : f 0 <;> cases h1 : f 1 <;> cases h2 : f 2 <;> cases h3 : f 3 <;> rcases this with rfl | rfl | rfl | rfl <;> simp [h0, h1, h2, h3] <;> decide
theorem mk4_bd (f : Nat → Bool) : 0 ≤ mk4 f ∧ mk4 f ≤ 15 := by
  unfold mk4
  refine ⟨?_, ?_⟩ <;> split <;> split <;> split <;> split <;> omega
/-- A whole struct loaded, in a region that draws, wherever its cells lie. -/
theorem wpQuiet_loadR {ops : Array Oper} {C : World → Prop} {Q : Act → Prop} {o : Oper} {rest : List Oper} {a : Act} {t : TypeId} (hw : Region.wanted o (yielded ops a.tmps) = true) (x : Operand) (ho : o.op = .load t x)
    (b off : Nat) (cs : List Value) (hx : a.eval x = .pointer (some ⟨b, off, none⟩)) (hb : ∀ w, C w → ∀ (j : Nat) v, cs[j]? = some v → w.cell? ⟨b, off + j, none⟩ = some v) (hA : ∀ w, (isAgg t).run Tryz.prog w = .ok true w) (hi : (Tryz.prog.info? t).map (·.size) = some cs.length)
    (h : wpQuiet Tryz.prog ops C Q rest (a.put o.dst (.agg cs.toArray))) : wpQuiet Tryz.prog ops C Q (o :: rest) a := by
  unfold wpQuiet
  rw [if_pos hw]
  refine ⟨.agg cs.toArray, fun w hC => ?_, h⟩
  have e : (loadVar t ⟨b, off, none⟩).run Tryz.prog w = .ok (.agg cs.toArray) w := by
    have h1 := run_loadCells_list (P := Tryz.prog) w ⟨b, off, none⟩ cs (fun j v hv => by rw [add_plain]; exact hb w hC j v hv)
    cases hq : Tryz.prog.info? t with
    | none => simp [hq] at hi
    | some i =>
      have hs : i.size = cs.length := by simpa [hq] using hi
      simp [loadVar, hA, sizeOf, typeInfo, hq, hs, h1, Result.andThen]
  unfold Oper.quietAt execOp
  simp only [ho, hx, Instr.loadAt, Instr.sureAddr, Sem.run_bind, Sem.run_pure, Result.andThen_ok, e]
  exact ⟨rfl, rfl⟩
theorem sizeS : (Tryz.prog.info? 109).map (·.size) = some 13 := by kernel_rfl
theorem res_one (c : List Int) (s : Si) (r : Nat → Rw) (sh : Int) : (res c s r sh).toArray.all (·.oneCell') = true := by simp [res, Value.oneCell']
theorem lav_one (s : Lc.St) : (lav s).toArray.all (·.oneCell') = true := by simp [lav, Value.oneCell']
theorem quo_bd {x P : Int} (hx : 0 ≤ x ∧ x ≤ 15) (hP : P = 1 ∨ P = 2 ∨ P = 4 ∨ P = 8) : (0 ≤ x.tdiv P ∧ x.tdiv P ≤ 15) ∧ 0 ≤ (x.tdiv P).tmod 2 ∧ (x.tdiv P).tmod 2 ≤ 1 := by
  rw [Int.tdiv_eq_ediv_of_nonneg hx.1]
  have h : 0 ≤ x / P ∧ x / P ≤ 15 := by rcases hP with rfl | rfl | rfl | rfl <;> omega
  rw [Int.tmod_eq_emod_of_nonneg h.1]
  omega
end Sg
end Go.Proofs.YtpoededbmdffpaaGreatDoor
