/-
  What Step of package signal does: a contract by walking the Go text. Conditions: how a signal lies, that the configuration and the state may be.
-/
import Derived.Test.YtpoededbmdffpaaGreatDoorSignalSteps
import Derived.Test.YtpoededbmdffpaaGreatDoorSignalLatched
import Derived.Test.YtpoededbmdffpaaGreatDoorSignalHelp
namespace Go.Proofs.YtpoededbmdffpaaGreatDoor
set_option maxRecDepth 100000
open Go.ChangeShapes Go.WideShapes Go.ChangeAt Go.RowKit Go.Deep Go.Shelf
namespace Sg
open Cf (G CA)
theorem zres_one : zres.toArray.all (·.oneCell') = true := by simp [zres, Value.oneCell']
theorem sizeRw : (Tryz.prog.info? 114).map (·.size) = some 8 := by kernel_rfl
theorem sizeRs : (Tryz.prog.info? 109).map (·.size) = some 13 := by kernel_rfl
theorem aggRs (w : World) : (isAgg 109).run Tryz.prog w = .ok true w := by simp [isAgg, run_underlying Tryz.underlying109]
theorem sizeE4 : (Tryz.prog.info? 22).map (·.size) = some 4 := by kernel_rfl
theorem aggE4 (w : World) : (isAgg 22).run Tryz.prog w = .ok true w := by simp [isAgg, run_underlying Tryz.underlying22]
theorem built_turn (g : Nat) (r : Nat → Rw) (sh : Int) : Tryz.prog.built 236 [(0, .pointer (some ⟨g, 0, none⟩)), (1, .agg (raw8 r).toArray), (2, .int .i64 sh)] = some (tnr g r sh z4 0).toArray := by
  refine Eq.trans ?_ rfl
  kernel_rfl
/-- A whole struct loaded, in a region that draws, wherever its cells lie. -/
theorem wpQuiet_row {ops : Array Oper} {C : World → Prop} {Q : Act → Prop} {o : Oper} {rest : List Oper} {a : Act} {t : TypeId} (hw : Region.wanted o (yielded ops a.tmps) = true) (x : Operand) (ho : o.op = .load t x)
    (b off : Nat) (cs : List Value) (hx : a.eval x = .pointer (some ⟨b, off, none⟩)) (hb : ∀ w, C w → ∀ (j : Nat) v, cs[j]? = some v → w.cell? ⟨b, off + j, none⟩ = some v) (hA : ∀ w, (isAgg t).run Tryz.prog w = .ok true w) (hi : (Tryz.prog.info? t).map (·.size) = some cs.length)
    (h : wpQuiet Tryz.prog ops C Q rest (a.put o.dst (.agg cs.toArray))) : wpQuiet Tryz.prog ops C Q (o :: rest) a := by
  unfold wpQuiet
  rw [if_pos hw]
  refine ⟨.agg cs.toArray, fun w hC => ?_, h⟩
  have e : (loadVar t ⟨b, off, none⟩).run Tryz.prog w = .ok (.agg cs.toArray) w := by
    have h1 := run_loadCells_list (P := Tryz.prog) w ⟨b, off, none⟩ cs (fun j v hv => by rw [add_plain]; exact hb w hC j v hv)
    cases hq : Tryz.prog.info? t with | none => simp [hq] at hi | some i =>
      have hs : i.size = cs.length := by simpa [hq] using hi
      simp [loadVar, hA, sizeOf, typeInfo, hq, hs, h1, Result.andThen]
  unfold Oper.quietAt execOp
  simp only [ho, hx, Instr.loadAt, Instr.sureAddr, Sem.run_bind, Sem.run_pure, Result.andThen_ok, e]
  exact ⟨rfl, rfl⟩
set_option maxRecDepth 100000 in
set_option maxHeartbeats 800000 in
theorem step_no {W : World} {b : Nat → Nat} {c : List Int} {s : Si} {r : Nat → Rw} {sh : Int} (hc : c.length = 21) (hR : Cf.Right c) (H : Lie W b c s) (hn : okb c r sh = false) :
    Calls Tryz.prog 79 #[.pointer (some ⟨b 0, 0, none⟩), .agg (raw8 r).toArray, .int .i64 sh] W fun e w' => e = .returned (.tuple #[.agg zres.toArray, .int .i64 1]) ∧ Below W.heap.size W w' := by
  have hlW := fun k (hk : In b c k) => H.lt hk
  have RA := Lib.hid (show VRow ((W.alloc (.cells (raw8 r).toArray 114)).alloc (.cells zres.toArray 109)) W.heap.size 114 (raw8 r) from (VRow.new W (raw8 r) _).alloc _)
  have hs1 : (W.alloc (.cells (raw8 r).toArray 114)).heap.size = W.heap.size + 1 := by simp
  have hs2 : ((W.alloc (.cells (raw8 r).toArray 114)).alloc (.cells zres.toArray 109)).heap.size = W.heap.size + 2 := by simp
  have b2 := ((Below.refl W.heap.size W).alloc (Nat.le_refl _) (.cells (raw8 r).toArray 114)).alloc (by omega) (.cells zres.toArray 109)
  have RB0 := VRow.new (W.alloc (.cells (raw8 r).toArray 114)) zres 109
  rw [hs1] at RB0
  obtain ⟨z, hz⟩ : ∃ z, z = (tnr (b 0) r sh z4 0).toArray := ⟨_, rfl⟩
  have HZ := Lib.hid hz
  have b3 := b2.alloc (by omega) (.cells z 236)
  have RB := Lib.hid (RB0.alloc (.cells z 236))
  have TT := Lib.hid (show Tn (((W.alloc (.cells (raw8 r).toArray 114)).alloc (.cells zres.toArray 109)).alloc (.cells z 236)) b c s (W.heap.size + 2) r sh z4 0 from
    ⟨H.keep (But.of_below (S := fun _ => False) b3) fun _ _ q => q, by rw [hz, ← hs2]; exact VRow.new _ _ _, fun q => by have := hlW _ q; omega⟩)
  have BB := Lib.hid b3
  have hnU : ¬ Us b c (W.heap.size + 2) (W.heap.size + 1) := by
    rintro (q | q)
    · have := hlW _ q; omega
    · omega
  have BT := Lib.hid (built_turn (b 0) r sh)
  clear hs1 hs2 b2 b3 RB0 hz
  have CRT := right_any hc hR TT.out
  rw [hn] at CRT
  rw [show zres.toArray = #[.int .i64 0, .int .i64 0, .int .i64 0, .int .i64 0, .bool false, .int .i64 0, .int .i64 0, .int .i64 0, .int .i64 0, .int .i64 0, .int .i64 0, .int .i64 0, .int .i64 0] from rfl] at CRT TT BB RB RA
  clear H hlW hnU hn hR
  go_enter Tryz.func79, Tryz.ntmps79
  go_wp2_with (first | ((with_reducible show wpList _ _ _ (⟨some 15, _, _, _, _, _⟩ :: _) _ _); refine VB.loaded rfl _ rfl W.heap.size rfl RA.out Tryz.underlying114 rfl sizeRw ?_) | ((with_reducible show wpList _ _ _ (⟨some 17, _, _, _, _, _⟩ :: _) _ _); refine wpList_buildTo rfl _ _ rfl z (by rw [HZ.out]; simp only [List.map_toArray, List.map_cons, List.map_nil]; exact BT.out) ?_) | (go_at_call 114; refine CRT.mono ?_; clear CRT; rintro e w2 ⟨rfl, b2⟩; have RB2 := Lib.hid (RB.out.below b2 RB.out.lt); have BB2 := Lib.hid (grow BB.out b2); have TT2 := Lib.hid (TT.out.on b2); clear b2) | ((with_reducible show wpList _ _ _ (⟨none, .store _ (.tmp 6) _, _, _, _, _⟩ :: _) _ _); refine VB.store rfl _ _ rfl (W.heap.size + 1) zres rfl rfl RB2.out sizeRs rfl zres_one ?_))
  have hbw := Below.put BB2.out (g := W.heap.size + 1) (by omega) zres.toArray
  have hrw := VRow.put RB2.out zres
  generalize w2.setRow (W.heap.size + 1) zres.toArray = w3 at *
  refine bodyPost_ret (v := .tuple #[.agg zres.toArray, .int .i64 1]) ?_ rfl ⟨rfl, hbw⟩
  exact (VB.ret2 (cs := zres) (p := 6) (u := 7) (ty := 109) rfl rfl (aggRs _) sizeRs hrw).trans rfl
end Sg
end Go.Proofs.YtpoededbmdffpaaGreatDoor
