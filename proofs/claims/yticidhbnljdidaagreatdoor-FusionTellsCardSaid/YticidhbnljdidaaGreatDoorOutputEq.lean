/-
 '==' of an output and itself, as the model runs it. No conditions.
-/
import Derived.Test.YticidhbnljdidaaGreatDoorJFixMaskRef3
import Derived.Test.YticidhbnljdidaaGreatDoorJAgg8
import Derived.DeepKeys
namespace Go.Proofs.YticidhbnljdidaaGreatDoor
set_option maxRecDepth 100000
open Go.ChangeShapes Go.WideShapes Go.ChangeAt Go.RowKit Go.Deep
namespace Ot
open Ss (St str zer stv)
theorem eight {α : Type} {l : List α} (h : l.length = 8) : ∃ a b c d e f g i,l = [a,b,c,d,e,f,g,i] := by
 match l,h with
 | [a,b,c,d,e,f,g,i],_ => exact ⟨a,b,c,d,e,f,g,i,rfl⟩
theorem eq_field {P : Program} {W : World} {d : Nat} {xs : Array Value} {f : Field} {fs : List Field} {a : Value} (hn : (f.name == "_") = false) (ha : (part f.type xs f.offset).run P W = .ok a W) (he : (Op.equalIn d f.type a a).run P W = .ok true W)
 (h : (Op.eqFields d xs xs fs).run P W = .ok true W) : (Op.eqFields d xs xs (f :: fs)).run P W = .ok true W := by
 have hn' : f.name ≠ "_" := by simpa using hn
 simp only [Op.eqFields,hn',ne_eq,not_false_eq_true,if_true,Sem.run_bind,ha,he,Result.andThen_ok]
 simpa using h
theorem eq_done {P : Program} {W : World} {d : Nat} {xs : Array Value} : (Op.eqFields d xs xs []).run P W = .ok true W := by simp [Op.eqFields]
theorem eq_items {P : Program} {W : World} {d c : Nat} {e : TypeId} {xs : Array Value} : ∀ (is : List Nat),(∀ i ∈ is,∃ a,(part e xs (i * c)).run P W = .ok a W ∧ (Op.equalIn d e a a).run P W = .ok true W) → (Op.eqItems d e c xs xs is).run P W = .ok true W
 | [],_ => by simp [Op.eqItems]
 | i :: is,h => by
   obtain ⟨a,h1,h2⟩ := h i (by simp)
   simp only [Op.eqItems,Sem.run_bind,h1,h2,Result.andThen_ok]
   simpa using eq_items is (fun j hj => h j (by simp [hj]))
theorem eq_st (s : St) (d : Nat) (W : World) : (Op.equalIn (d + 2) 37 (.agg (str s).toArray) (.agg (str s).toArray)).run Tryz.prog W = .ok true W := by
 refine (run_equalIn_struct W (d + 1) _ _ _ (by kernel_rfl) (by kernel_rfl)).trans ?_
 refine eq_field (a := .int .i64 s.i) (by kernel_rfl) (by kernel_rfl) ((run_equalIn_int W d _ .i64 .i64 _ _ (by kernel_rfl)).trans (by simp)) ?_
 refine eq_field (a := .int .i64 s.l) (by kernel_rfl) (by kernel_rfl) ((run_equalIn_int W d _ .i64 .i64 _ _ (by kernel_rfl)).trans (by simp)) ?_
 refine eq_field (a := .int .i64 s.s) (by kernel_rfl) (by kernel_rfl) ((run_equalIn_int W d _ .i64 .i64 _ _ (by kernel_rfl)).trans (by simp)) ?_
 refine eq_field (a := .bool s.f) (by kernel_rfl) (by kernel_rfl) ((run_equalIn_bool' W d _ _ _ (by kernel_rfl)).trans (by simp)) ?_
 exact eq_done
theorem eq_self {o : Ou} (k : Ok o) (W : World) : (Op.equalIn 10000 40 (.agg (ouc o).toArray) (.agg (ouc o).toArray)).run Tryz.prog W = .ok true W := by
 obtain ⟨q,v,s⟩ := o
 obtain ⟨v0,v1,v2,v3,v4,v5,v6,v7,rfl⟩ := eight k.v
 obtain ⟨s0,s1,s2,s3,s4,s5,s6,s7,rfl⟩ := eight k.s
 refine (run_equalIn_struct W 9999 _ _ _ (by kernel_rfl) (by kernel_rfl)).trans ?_
 refine eq_field (a := .int .i64 q) (by kernel_rfl) (by kernel_rfl) ((run_equalIn_int W 9998 _ .i64 .i64 _ _ (by kernel_rfl)).trans (by simp)) ?_
 have hv : ∀ W,(Op.equalIn 9999 35 (.agg #[.int .i64 v0,.int .i64 v1,.int .i64 v2,.int .i64 v3,.int .i64 v4,.int .i64 v5,.int .i64 v6,.int .i64 v7]) (.agg #[.int .i64 v0,.int .i64 v1,.int .i64 v2,.int .i64 v3,.int .i64 v4,.int .i64 v5,.int .i64 v6,.int .i64 v7])).run Tryz.prog W = .ok true W := fun W => by
  have h := Agg.run_equalIn_ints W 9997 _ _ 8 .i64 Tryz.underlying35 Tryz.underlying3 (fun w => by kernel_rfl) [v0,v1,v2,v3,v4,v5,v6,v7] [v0,v1,v2,v3,v4,v5,v6,v7] rfl rfl
  rw [show 9997 + 2 = 9999 from rfl,show (([v0,v1,v2,v3,v4,v5,v6,v7] : List Int) == [v0,v1,v2,v3,v4,v5,v6,v7]) = true by simp] at h
  exact h
 refine eq_field (by kernel_rfl) (by kernel_rfl) (hv W) ?_
 refine eq_field (a := .agg ([s0,s1,s2,s3,s4,s5,s6,s7].flatMap str).toArray) (by kernel_rfl) (by kernel_rfl) ?_ eq_done
 obtain ⟨i,hi⟩ : ∃ i,Tryz.prog.info? 37 = some i := ⟨_,rfl⟩
 refine (run_equalIn_array W 9998 _ _ (n := 8) (e := 37) (by kernel_rfl) hi).trans ?_
 refine eq_items _ fun j hj => ?_
 have hj8 := List.mem_range.1 hj
 have : j = 0 ∨ j = 1 ∨ j = 2 ∨ j = 3 ∨ j = 4 ∨ j = 5 ∨ j = 6 ∨ j = 7 := by omega
 rcases this with rfl | rfl | rfl | rfl | rfl | rfl | rfl | rfl
 · exact ⟨_,show _ = Result.ok (.agg (str s0).toArray) W by kernel_rfl,eq_st s0 9996 W⟩
 · exact ⟨_,show _ = Result.ok (.agg (str s1).toArray) W by kernel_rfl,eq_st s1 9996 W⟩
 · exact ⟨_,show _ = Result.ok (.agg (str s2).toArray) W by kernel_rfl,eq_st s2 9996 W⟩
 · exact ⟨_,show _ = Result.ok (.agg (str s3).toArray) W by kernel_rfl,eq_st s3 9996 W⟩
 · exact ⟨_,show _ = Result.ok (.agg (str s4).toArray) W by kernel_rfl,eq_st s4 9996 W⟩
 · exact ⟨_,show _ = Result.ok (.agg (str s5).toArray) W by kernel_rfl,eq_st s5 9996 W⟩
 · exact ⟨_,show _ = Result.ok (.agg (str s6).toArray) W by kernel_rfl,eq_st s6 9996 W⟩
 · exact ⟨_,show _ = Result.ok (.agg (str s7).toArray) W by kernel_rfl,eq_st s7 9996 W⟩
end Ot
end Go.Proofs.YticidhbnljdidaaGreatDoor
