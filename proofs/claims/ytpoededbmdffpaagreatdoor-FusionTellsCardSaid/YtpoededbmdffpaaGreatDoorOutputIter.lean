/-
  The iterators of package output (statuses, words): contracts by walking the Go text, for every loop body that leaves what the second one reads as it is. Conditions: how an output, and bytes, lie.
-/
import Derived.Test.YtpoededbmdffpaaGreatDoorOutputMem
import Derived.Test.YtpoededbmdffpaaGreatDoorSignalRange
import Derived.Test.YtpoededbmdffpaaGreatDoorWordStep
import Derived.RangeFuncNested
import Derived.RangeFuncBound
import Derived.RangeFuncCalls
import Derived.RangeFuncLeaves
import Derived.Shelf.Abstract
import Derived.Shelf.RegionOpen
import Derived.OwnWalkIn
import Derived.TacticsInMore
import Derived.LoopNIn
import Derived.LoopIn
namespace Go.Proofs.YtpoededbmdffpaaGreatDoor
set_option maxRecDepth 100000
open Go.ChangeShapes Go.WideShapes Go.ChangeAt Go.RowKit Go.Deep Go.Shelf
namespace Ot
open Ss (St str zer stv)
open Rf
open Wd (get2v get2b)
open Cr (Bytes)
attribute [local go_sem] Oper.semAt_some
def encs (o : Ou) (x : Fin 8) : Array Value := #[.agg (str (o.s.getD x.val zer)).toArray]
def encw (l : List Int) (x : Fin 8) : Array Value := #[.int .i64 x.val, .int .i64 (wd l x.val)]
theorem row_range {w : World} {g : Nat} {t : TypeId} {cs : List Value} (h : VRow w g t cs) : w.rangeAt g 0 cs := fun j v hv => VRow.cell h (0 + j) (by rw [Nat.zero_add]; exact hv)
theorem grown_lay (W : World) (o : Obj) (cs : Array Value) : W.grownBy ((W.alloc o).setRow W.heap.size cs) none :=
  ⟨rfl, rfl, rfl, by simp, fun k hk _ => (setRow_other _ _ _ _ (by omega)).trans (Below.heap_alloc W o k hk)⟩
theorem statuses_any (o : Ou) (w : World) :
    Calls Tryz.prog 68 #[.agg (ouc o).toArray] w fun e w' => e = .returned (.func (.func 107) #[] #[.pointer (some ⟨w.heap.size, 0, none⟩)]) ∧ w' = w.alloc (.cells (ouc o).toArray 40) := by
  generalize (ouc o).toArray = cs
  go_enter Tryz.func68, Tryz.ntmps68
  go_wp2
  go_ret
  exact ⟨rfl, rfl⟩
theorem words_any (a : Option Addr) (n cap : Nat) (w : World) :
    Calls Tryz.prog 105 #[.slice a n cap] w fun e w' => e = .returned (.func (.func 152) #[] #[.pointer (some ⟨w.heap.size, 0, none⟩)]) ∧ w' = w.alloc (.cells #[.slice a n cap] 41) := by
  go_enter Tryz.func105, Tryz.ntmps105
  go_wp2
  go_ret
  exact ⟨rfl, rfl⟩
set_option maxRecDepth 100000 in
set_option maxHeartbeats 1600000 in
/-- The iterator of all statuses: it reads them all ahead of the first round. -/
theorem statuses_goes (n : Nat) (hn : 1 ≤ n) (B : Nat) (o : Ou) (k : Ok o) (l : Nat) (V : World) (hB : VRow V B 40 (ouc o)) :
    Goes Fence.wide n Tryz.prog 107 #[.pointer (some ⟨B, 0, none⟩)] (encs o) (fun _ _ => True) (fun xs => xs.map Fin.val = List.range 8) (fun _ => True) 8 (fun pre x => x.val = pre.length) l V := by
  intro J Jx hJ _ hY h0
  have HR := Lib.hid (range_s hB k)
  have HZ := Lib.hid (sizeSS k)
  have HK := Lib.hid k
  clear hB k
  refine callsIn_of_wp Tryz.func107 rfl trivial ?_ rfl
  simp only [Tryz.ntmps107, List.size_toArray, List.length_cons, List.length_nil, Nat.reduceAdd, Nat.reduceSub, Array.replicate_succ, Array.replicate_zero, List.push_toArray, List.append_toArray, List.nil_append, List.cons_append]
  gi_wp2_with ((with_reducible show wpListIn _ _ _ _ _ (⟨some 6, _, _, _, _, _⟩ :: _) _ _); refine wpListIn_loadR rfl _ _ rfl B 9 rfl (o.s.flatMap str) _ HR.out Tryz.underlying38 rfl HZ.out ?_)
  gi_loopw [7] (fun i wr => ∃ (k : Nat) (pre : List (Fin 8)), k ≤ 8 ∧ i = .int .i64 k ∧ pre.map Fin.val = List.range k ∧ J pre wr)
    (fun i _ => 8 - (intOf i).toNat)
  case atStart => exact ⟨0, [], Nat.zero_le _, rfl, rfl, h0⟩
  case round =>
    obtain ⟨k, pre, hk, rfl, hpre, hJs⟩ := hrel
    have hlenp : pre.length = k := by have := congrArg List.length hpre; simpa using this
    by_cases hlt : k < 8
    · have hki : (k : Int) < 8 := by omega
      have HI := Lib.hid (fun W => index_s HK.out k hlt W)
      have RN := Lib.hid (VRow.new wr (str zer) 37)
      obtain ⟨fn, tmps, assign, body, hy, hYR⟩ := hY pre ⟨k, hlt⟩ ((wr.alloc (.cells #[.int .i64 0, .int .i64 0, .int .i64 0, .bool false] 37)).setRow wr.heap.size (str (o.s.getD k zer)).toArray) (hJ _ _ _ none hJs (grown_lay _ _ _) (fun r e => by cases e)) (by omega) hlenp.symm
      dsimp only [encs] at hy
      generalize o.s.getD k zer = s at *
      have L0 : VRow ((wr.alloc (.cells #[.int .i64 0, .int .i64 0, .int .i64 0, .bool false] 37)).setRow wr.heap.size (str s).toArray) wr.heap.size 37 (str s) := ((VRow.new wr (str zer) 37).put (str s))
      gi_wp2_with (first
        | ((with_reducible show wpListIn _ _ _ _ _ (⟨some 9, _, _, _, _, _⟩ :: _) _ _); refine wpListIn_index rfl _ _ _ rfl _ k _ rfl rfl (HI.out _) ?_)
        | ((with_reducible show wpListIn _ _ _ _ _ (⟨none, .store _ (.tmp 4) _, _, _, _, _⟩ :: _) _ _); refine wpListIn_storeW rfl _ _ _ _ rfl wr.heap.size (str zer) (str s) rfl rfl RN.out Ss.sizeS rfl (Ss.str_one s) ?_)
        | ((with_reducible show wpListIn _ _ _ _ _ (⟨some 11, _, _, _, _, _⟩ :: _) _ _); refine wpListIn_loadR rfl _ _ rfl wr.heap.size 0 rfl (str s) _ (row_range L0) Tryz.underlying37 rfl Ss.sizeS ?_))
      refine hYR.mono ?_
      rintro e W3 (⟨rfl, hJ3, -⟩ | ⟨rfl, hJx3, -⟩)
      · gi_wp2
        go_roundw
        case rel => exact ⟨k + 1, pre ++ [⟨k, hlt⟩], by omega, by simp, by rw [List.map_append, hpre, List.range_succ]; rfl, hJ3⟩
        case measure => simp [intOf]; omega
      · gi_wp2
        refine bodyPost_ret (results_none rfl _ _ _) rfl ?_
        exact ⟨⟨_, rfl⟩, .inr ⟨_, trivial, hJx3⟩⟩
    · obtain rfl : k = 8 := by omega
      gi_wp2
      go_end0
      exact ⟨⟨_, rfl⟩, .inl ⟨pre, hpre, hJs⟩⟩
/-- What the iterator of words reads: its box, and the bytes. -/
def Dw (B : Nat) (a : Option Addr) (p : Addr) : Prop := p.block = B ∨ ∃ ad, a = some ad ∧ p.block = ad.block
theorem kc_ints {B Bk : Nat} {a : Option Addr} {l : List Int} {X Y : World} (h : Kc (Dw B a) Bk X Y) (q : IntsAt .u8 X a l) : IntsAt .u8 Y a l := by
  rcases q with rfl | ⟨b, off, rfl, hc⟩
  · exact Or.inl rfl
  · exact Or.inr ⟨b, off, rfl, fun i hi => h.1 _ _ (Or.inr ⟨_, rfl, rfl⟩) (hc i hi)⟩
theorem ints_cut {W : World} {a : Option Addr} {l : List Int} (h : IntsAt .u8 W a l) (hl : l.length = 52) (b off : Nat) (ha : a = some ⟨b, off, none⟩) (i : Nat) : IntsAt .u8 W (some ⟨b, off + (36 + 2 * i), none⟩) ((l.drop (36 + 2 * i)).take 2) := by
  rcases h with rfl | ⟨b', off', h1, hc⟩
  · simp at hl
  · rw [ha] at h1
    cases h1
    exact (intsAt_drop (36 + 2 * i) hc).take 2
theorem ints_some {W : World} {a : Option Addr} {l : List Int} (h : IntsAt .u8 W a l) (hl : 0 < l.length) : ∃ b off, a = some ⟨b, off, none⟩ := by
  rcases h with rfl | ⟨b, off, rfl, -⟩
  · simp at hl
  · exact ⟨b, off, rfl⟩
set_option maxRecDepth 100000 in
set_option maxHeartbeats 1600000 in
/-- The iterator of all words. -/
theorem words_goes (n : Nat) (hn : 1 ≤ n) (B b off cap : Nat) (x : List Int) (hl : x.length = 52) (hy : Bytes x) (hcap : 52 ≤ cap) (l Bk : Nat) (V : World) (hB : V.cell? ⟨B, 0, none⟩ = some (.slice (some ⟨b, off, none⟩) 52 cap)) (hx : IntsAt .u8 V (some ⟨b, off, none⟩) x) :
    Goes Fence.wide n Tryz.prog 152 #[.pointer (some ⟨B, 0, none⟩)] (encw x) (Kc (Dw B (some ⟨b, off, none⟩)) Bk) (fun xs => xs.map Fin.val = List.range 8) (fun _ => True) 8 (fun pre y => y.val = pre.length) l V := by
  intro J Jx hJ _ hY h0
  refine callsIn_of_wp Tryz.func152 rfl trivial ?_ rfl
  simp only [Tryz.ntmps152, List.size_toArray, List.length_cons, List.length_nil, Nat.reduceAdd, Nat.reduceSub, Array.replicate_succ, Array.replicate_zero, List.push_toArray, List.append_toArray, List.nil_append, List.cons_append]
  have HB := Lib.hid hB
  clear hB
  gi_wp2
  gi_loopw [7] (fun i wr => ∃ (k : Nat) (pre : List (Fin 8)), k ≤ 8 ∧ i = .int .i64 k ∧ pre.map Fin.val = List.range k ∧ J pre wr ∧ wr.cell? ⟨B, 0, none⟩ = some (.slice (some ⟨b, off, none⟩) 52 cap) ∧ IntsAt .u8 wr (some ⟨b, off, none⟩) x)
    (fun i _ => 8 - (intOf i).toNat)
  case atStart => exact ⟨0, [], Nat.zero_le _, rfl, rfl, h0, HB.out, hx⟩
  case round =>
    obtain ⟨k, pre, hk, rfl, hpre, hJs, hb, hi⟩ := hrel
    have hlenp : pre.length = k := by have := congrArg List.length hpre; simpa using this
    by_cases hlt : k < 8
    · have hki : (k : Int) < 8 := by omega
      obtain ⟨fn, tmps, assign, body, hyy, hYR⟩ := hY pre ⟨k, hlt⟩ wr hJs (by omega) hlenp.symm
      dsimp only [encw] at hyy
      have HI := Lib.hid hi
      have HBX := Lib.hid hb
      have hl2 : ((x.drop (36 + 2 * k)).take 2).length = 2 := by rw [List.length_take, List.length_drop]; omega
      have C := Wd.get2_any (some ⟨b, off + (36 + 2 * k), none⟩) (cap - (36 + 2 * k)) ((x.drop (36 + 2 * k)).take 2) wr (by omega) ((hy.drop _).take _) (ints_cut hi hl b off rfl k)
      rw [hl2] at C
      have HW := Lib.hid (show get2v ((x.drop (36 + 2 * k)).take 2) = wd x k from rfl)
      rw [HW.out] at C
      clear hi hl2
      generalize wd x k = v at *
      generalize get2b ((x.drop (36 + 2 * k)).take 2) = vb at *
      gi_wp2_with fail
      refine ⟨trivial, (callsIn_wide.2 C).mono ?_⟩
      rintro e w' ⟨rfl, rfl⟩
      gi_wp2
      refine hYR.mono ?_
      rintro e W3 (⟨rfl, hJ3, hk3⟩ | ⟨rfl, hJx3, hk3⟩)
      · gi_wp2
        go_roundw
        case rel => exact ⟨k + 1, pre ++ [⟨k, hlt⟩], by omega, by simp, by rw [List.map_append, hpre, List.range_succ]; rfl, hJ3, hk3.1 _ _ (Or.inl rfl) HBX.out, kc_ints hk3 HI.out⟩
        case measure => simp [intOf]; omega
      · gi_wp2
        refine bodyPost_ret (results_none rfl _ _ _) rfl ?_
        exact ⟨⟨_, rfl⟩, .inr ⟨_, trivial, hJx3⟩⟩
    · obtain rfl : k = 8 := by omega
      gi_wp2
      go_end0
      exact ⟨⟨_, rfl⟩, .inl ⟨pre, hpre, hJs⟩⟩
end Ot
end Go.Proofs.YtpoededbmdffpaaGreatDoor
