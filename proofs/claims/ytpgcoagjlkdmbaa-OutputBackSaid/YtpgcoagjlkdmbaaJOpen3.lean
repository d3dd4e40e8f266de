/-
  How arguments are opened: slices of numbers and of bools, as lists that lie in memory. No Go text is reached here. No conditions.
  What the calls of package fix return, for every argument: contracts by walking the Go text. No conditions beyond the numbers' kinds.
  What Has and Count of the document's answers for layer 1 (package rudderref01) return: contracts by walking the Go text (cut out of FixMasksWalk, for later layers). No conditions.
-/
import Derived.KernelRfl
import Derived.WalkKit
import Derived.ProofKit
import Derived.OpenShut
import Derived.Deep.Grids
import Derived.Deep.QuietTactic
import Derived.BigQuiet
import Derived.WalkSmall
import Derived.Test.YtpgcoagjlkdmbaaChecked
import Derived.Test.YtpgcoagjlkdmbaaFixMath
import Derived.Lib.Hide
import Derived.Handy
namespace Go.Proofs.Ytpgcoagjlkdmbaa
set_option maxRecDepth 100000
open Go.ChangeShapes Go.WideShapes Go.ChangeAt Go.RowKit Go.Deep

/-- A list of bools that a slice leads to (nil, or cells in memory). -/
def BoolsAt (w : World) (a : Option Addr) (l : List Bool) : Prop :=
  l = [] ∨ ∃ b off, a = some ⟨b, off, none⟩ ∧ ∀ i, i < l.length → w.cell? ⟨b, off + i, none⟩ = some (.bool (l.getD i false))

/-- A list of ints that a slice leads to (nil, or cells in memory). -/
def IntsAt (k : IntKind) (w : World) (a : Option Addr) (l : List Int) : Prop :=
  l = [] ∨ ∃ b off, a = some ⟨b, off, none⟩ ∧ ∀ i, i < l.length → w.cell? ⟨b, off + i, none⟩ = some (.int k (l.getD i 0))

theorem add_plain (b off i : Nat) : (⟨b, off, none⟩ : Addr).add i = ⟨b, off + i, none⟩ := by
  by_cases h : i = 0
  · subst h; simp [Addr.add]
  · simp [Addr.add, h]

theorem cell_lt {w : World} {b o : Nat} {v : Value} (h : w.cell? ⟨b, o, none⟩ = some v) : b < w.heap.size := by
  by_cases e : b < w.heap.size
  · exact e
  · have : w.heap[b]? = none := by simp; omega
    simp [World.cell?, this] at h

theorem BoolsAt.below {w w' : World} {a : Option Addr} {l : List Bool} (h : BoolsAt w a l) (hb : Below w.heap.size w w') : BoolsAt w' a l := by
  rcases h with rfl | ⟨b, off, rfl, hc⟩
  · exact Or.inl rfl
  · refine Or.inr ⟨b, off, rfl, fun i hi => ?_⟩
    rw [hb.cell (p := ⟨b, off + i, none⟩) (cell_lt (hc i hi))]; exact hc i hi
theorem IntsAt.below {k : IntKind} {w w' : World} {a : Option Addr} {l : List Int} (h : IntsAt k w a l) (hb : Below w.heap.size w w') : IntsAt k w' a l := by
  rcases h with rfl | ⟨b, off, rfl, hc⟩
  · exact Or.inl rfl
  · refine Or.inr ⟨b, off, rfl, fun i hi => ?_⟩
    rw [hb.cell (p := ⟨b, off + i, none⟩) (cell_lt (hc i hi))]; exact hc i hi
/-- Worlds that grow one behind the other. -/
theorem grow {w w1 w2 : World} (h : Below w.heap.size w w1) (k : Below w1.heap.size w1 w2) : Below w.heap.size w w2 :=
  h.trans (k.mono h.size)

/-- A call that leaves every world as it is may stand in a region that draws its order. -/
theorem still_quiet {P : Program} {f : FuncId} {args : Array Value} {w : World} {n : Nat} {v : Value} (h : ∀ W : World, Calls P f args W fun e w' => e = .returned v ∧ W = w') :
    Calls P f args (w.drewN n) fun e w' => e = .returned v ∧ ∃ m, w' = w.drewN m :=
  (h _).mono fun _ _ r => ⟨r.1, n, r.2.symm⟩

theorem ints3 (w : World) (t : TypeId) (x y z : Int) : IntsAt .i64 (w.alloc (.cells #[.int .i64 x, .int .i64 y, .int .i64 z] t)) (some ⟨w.heap.size, 0, none⟩) [x, y, z] := by
  refine Or.inr ⟨_, 0, rfl, ?_⟩
  intro i hi
  simp at hi
  rcases i with _ | _ | _ | i <;> first | (simp [World.cell?_alloc_new]; done) | omega
theorem ints2 (w : World) (t : TypeId) (x y : Int) : IntsAt .i64 (w.alloc (.cells #[.int .i64 x, .int .i64 y] t)) (some ⟨w.heap.size, 0, none⟩) [x, y] := by
  refine Or.inr ⟨_, 0, rfl, ?_⟩
  intro i hi
  simp at hi
  rcases i with _ | _ | i <;> first | (simp [World.cell?_alloc_new]; done) | omega
theorem bools3 (w : World) (t : TypeId) (x y z : Bool) : BoolsAt (w.alloc (.cells #[.bool x, .bool y, .bool z] t)) (some ⟨w.heap.size, 0, none⟩) [x, y, z] := by
  refine Or.inr ⟨_, 0, rfl, ?_⟩
  intro i hi
  simp at hi
  rcases i with _ | _ | _ | i <;> first | (simp [World.cell?_alloc_new]; done) | omega

section
variable {H : Type} {enc : TypeId × Value → H} {P : Program} {w : World}

theorem openBools {t e : TypeId} {base : Nat} {v : Value} {d : DataW H} {p : List MemPlace} (ht : P.underlying t = some (.slice e)) (he : P.underlying e = some .bool) (hc : P.cellsOf e = 1)
    (hv : Value.okWide P w .any base t v) (h : DataW.Trod enc P w 0 (fun _ => true) true t v d p) :
    ∃ (a : Option Addr) (cap : Nat) (l : List Bool), v = .slice a l.length cap ∧ l.length ≤ maxLen ∧ BoolsAt w a l := by
  obtain ⟨a, len, cap, rfl⟩ := okWide_slice ht hv
  obtain ⟨fuel, hf⟩ := h
  rcases open_bools ht he hc hf with ⟨hcs, _⟩ | ⟨x, l, c, B, hcs, _, hl, hm, _, hcell⟩
  · simp [Value.cells] at hcs
    obtain ⟨rfl, rfl, rfl⟩ := hcs
    exact ⟨none, 0, [], rfl, by simp, Or.inl rfl⟩
  · simp [Value.cells] at hcs
    obtain ⟨rfl, rfl, rfl⟩ := hcs
    refine ⟨some x, cap, (List.range len).map B, by simp, by simp; omega, ?_⟩
    by_cases h0 : len = 0
    · exact Or.inl (by simp [h0])
    · have c0 := hcell 0 (by omega)
      obtain ⟨b, off, spot⟩ := x
      have hs : spot = none := by simpa [Addr.add] using World.cell?_spot c0
      subst hs
      refine Or.inr ⟨b, off, rfl, fun i hi => ?_⟩
      simp at hi
      have := hcell i (by omega)
      rw [add_plain] at this
      rw [this]; simp [List.getD_eq_getElem?_getD, hi]

theorem openInts {k : IntKind} {t e : TypeId} {base : Nat} {v : Value} {d : DataW H} {p : List MemPlace} (ht : P.underlying t = some (.slice e)) (he : P.underlying e = some (.int k)) (hc : P.cellsOf e = 1)
    (hv : Value.okWide P w .any base t v) (h : DataW.Trod enc P w 0 (fun _ => true) true t v d p) :
    ∃ (a : Option Addr) (cap : Nat) (l : List Int), v = .slice a l.length cap ∧ l.length ≤ maxLen ∧ (l.length ≤ cap ∧ cap ≤ maxLen) ∧
      (∀ B bound : Nat, (∀ el sp, d = .slice el sp → (el.length + sp.length) * B ≤ bound) → cap * B ≤ bound) ∧ (∀ n ∈ l, (Lit.int k n).wf = true) ∧ IntsAt k w a l := by
  obtain ⟨a, len, cap, rfl⟩ := okWide_slice ht hv
  obtain ⟨fuel, hf⟩ := h
  rcases open_ints ht he hc hf with ⟨hcs, _⟩ | ⟨x, l, c, zs, hcs, _, hl, hm, hz, hd, hcell, hwz⟩
  · simp [Value.cells] at hcs
    obtain ⟨rfl, rfl, rfl⟩ := hcs
    exact ⟨none, 0, [], rfl, by simp, by simp, fun B bound _ => by omega, by simp, Or.inl rfl⟩
  · simp [Value.cells] at hcs
    obtain ⟨rfl, rfl, rfl⟩ := hcs
    simp at hz
    have el : (zs.take len).length = len := by simp; omega
    have hd1 := congrArg Prod.fst hd
    simp only at hd1
    refine ⟨some x, cap, zs.take len, by rw [el], by rw [el]; omega, by rw [el]; omega, fun B bound hb => ?_, fun n hn => hwz n (List.mem_of_mem_take hn), ?_⟩
    · have := hb _ _ hd1
      simp only [lits, List.length_map, List.length_take, List.length_drop] at this
      have e2 : min len zs.length + (zs.length - len) = cap := by omega
      rwa [e2] at this
    · by_cases h0 : len = 0
      · exact Or.inl (by simp [h0])
      · have c0 := hcell 0 (by omega)
        obtain ⟨b, off, spot⟩ := x
        have hs : spot = none := by simpa [Addr.add] using World.cell?_spot c0
        subst hs
        refine Or.inr ⟨b, off, rfl, fun i hi => ?_⟩
        rw [el] at hi
        have := hcell i (by omega)
        rw [add_plain] at this
        rw [this]; simp only [List.getD_eq_getElem?_getD, List.getElem?_take_of_lt hi]
end
end Go.Proofs.Ytpgcoagjlkdmbaa

namespace Go.Proofs.Ytpgcoagjlkdmbaa
set_option maxRecDepth 100000
open Go.ChangeShapes Go.WideShapes Go.ChangeAt Go.RowKit

namespace Fx

set_option maxHeartbeats 400000 in
theorem has_any (m i : Int) (w : World) :
    Calls Try.prog 45 #[.int .i64 m, .int .i64 i] w fun e w' => e = .returned (.bool (has m i)) ∧ w = w' := by
  by_cases h1 : m < 0
  · have HF := Lib.hid (has_out m i (by omega))
    go_enter Try.func45, Try.ntmps45
    go_wp2
    go_ret
    exact ⟨ret_bool (by rw [HF.out]), rfl⟩
  · have d1 : decide (m < 0) = false := by simpa using h1
    by_cases h2 : 65536 ≤ m
    · have HF := Lib.hid (has_out m i (by omega))
      go_enter Try.func45, Try.ntmps45
      go_wp2
      go_ret
      exact ⟨ret_bool (by rw [HF.out]), rfl⟩
    · have d2 : decide (65536 ≤ m) = false := by simpa using h2
      by_cases h3 : i < 0
      · have HF := Lib.hid (has_out m i (by omega))
        go_enter Try.func45, Try.ntmps45
        go_wp2
        go_ret
        exact ⟨ret_bool (by rw [HF.out]), rfl⟩
      · have d3 : decide (i < 0) = false := by simpa using h3
        by_cases h4 : 16 ≤ i
        · have HF := Lib.hid (has_out m i (by omega))
          go_enter Try.func45, Try.ntmps45
          go_wp2
          go_ret
          exact ⟨ret_bool (by rw [HF.out]), rfl⟩
        · have d4 : decide (16 ≤ i) = false := by simpa using h4
          have HF := Lib.hid (has_go m i (by omega))
          go_enter Try.func45, Try.ntmps45
          go_wp2
          go_ret
          exact ⟨ret_bool HF.out, rfl⟩

end Fx
end Go.Proofs.Ytpgcoagjlkdmbaa

namespace Go.Proofs.Ytpgcoagjlkdmbaa
set_option maxRecDepth 100000
open Go.ChangeShapes Go.WideShapes Go.ChangeAt Go.RowKit
namespace Fx

theorem half_pow (m : Int) (k : Nat) : m / 2 ^ (k + 1) = m / 2 ^ k / 2 := by
  rw [pow_succ2, Int.mul_comm, div_div m (2 ^ k) 2 (by have := pow_pos2 k; omega)]

set_option maxHeartbeats 400000 in
theorem rhas_any (m i : Int) (w : World) :
    Calls Try.prog 46 #[.int .i64 m, .int .i64 i] w fun e w' => e = .returned (.bool (has m i)) ∧ w = w' := by
  by_cases h1 : m < 0
  · have HF := Lib.hid (has_out m i (by omega))
    go_enter Try.func46, Try.ntmps46
    go_wp2
    go_ret
    exact ⟨ret_bool (by rw [HF.out]), rfl⟩
  · have d1 : decide (m < 0) = false := by simpa using h1
    by_cases h2 : 65535 < m
    · have HF := Lib.hid (has_out m i (by omega))
      go_enter Try.func46, Try.ntmps46
      go_wp2
      go_ret
      exact ⟨ret_bool (by rw [HF.out]), rfl⟩
    · have d2 : decide (65535 < m) = false := by simpa using h2
      by_cases h3 : i < 0
      · have HF := Lib.hid (has_out m i (by omega))
        go_enter Try.func46, Try.ntmps46
        go_wp2
        go_ret
        exact ⟨ret_bool (by rw [HF.out]), rfl⟩
      · have d3 : decide (i < 0) = false := by simpa using h3
        by_cases h4 : 15 < i
        · have HF := Lib.hid (has_out m i (by omega))
          go_enter Try.func46, Try.ntmps46
          go_wp2
          go_ret
          exact ⟨ret_bool (by rw [HF.out]), rfl⟩
        · have HF := Lib.hid (has_in m i (by omega))
          obtain ⟨j, rfl⟩ := Int.eq_ofNat_of_zero_le (show 0 ≤ i by omega)
          have d4 : decide (15 < (j : Int)) = false := by simpa using h4
          have hj : j ≤ 15 := by omega
          clear h3 h4
          go_enter Try.func46, Try.ntmps46
          go_wp2
          go_loop [5, 6] (fun n k => ∃ t : Nat, t ≤ j ∧ k = .int .i64 t ∧ n = .int .i64 (m / 2 ^ t)) (fun _ k => j - (intOf k).toNat)
          case atStart => exact ⟨0, by omega, rfl, by simp⟩
          case round =>
            obtain ⟨t, ht, rfl, rfl⟩ := hrel
            have hb := div_pow_lt m t (by omega) (by omega)
            have HP := Lib.hid (half_pow m t)
            by_cases hlt : t < j
            · generalize m / 2 ^ t = x at *
              go_wp2
              go_round
              case rel => exact ⟨t + 1, by omega, by go_num, by rw [HP.out]⟩
              case measure => simp [intOf]; omega
            · obtain rfl : t = j := by omega
              rw [Int.toNat_natCast] at HF
              generalize m / 2 ^ t = x at *
              go_wp2
              go_ret
              exact ⟨ret_bool (by rw [HF.out]), rfl⟩

end Fx
end Go.Proofs.Ytpgcoagjlkdmbaa
