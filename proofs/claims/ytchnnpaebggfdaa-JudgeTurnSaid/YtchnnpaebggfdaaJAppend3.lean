/-
  append of a whole list of numbers onto a row that the call itself made, in a plain region and in one that draws its order. No function of the program is walked here. No conditions.
  What the small functions of package word do (counted, told, read, readFour, Next, After, Get2, Get4): contracts by walking the Go text. Their conditions: where the bytes lie.
  What Right of package frame does: its contract by walking the Go text. No conditions.
-/
import Derived.Test.YtchnnpaebggfdaaJOpen2
import Derived.Deep.RegionLaw
import Derived.Test.YtchnnpaebggfdaaJCrcMath23
import Derived.Deep.LoopGhost
import Derived.IntWalk
import Derived.WalkSmall
import Derived.Laws.BitsAll
namespace Go.Proofs.Ytchnnpaebggfdaa
set_option maxRecDepth 100000
open Go.ChangeShapes Go.WideShapes Go.ChangeAt Go.RowKit Go.Deep
section
variable {k : IntKind} {base : Nat} {t : TypeId} {w w' : World} {v : Value} {l : List Int}
theorem OwnI.form2 (h : OwnI k base t w v l) : ∃ a cap, v = .slice a l.length cap ∧ IntsAt k w a l ∧ l.length ≤ cap ∧ cap ≤ maxLen := by
  obtain ⟨a, cap, rfl, hi⟩ := h.form
  refine ⟨a, cap, rfl, hi, ?_⟩
  rcases h with ⟨_, ⟨h0, h1⟩ | ⟨g, cap', cur, hv, _, _, hc, hm, _⟩⟩
  · injection h0 with _ _ h3; omega
  · injection hv with _ _ h3; omega
theorem OwnI.lit0 {te : TypeId} (hb : base ≤ w.heap.size) : OwnI k base te (w.alloc (.cells #[] te)) (.slice (some ⟨w.heap.size, 0, none⟩) 0 0) [] :=
  World.ownsRow_lit w #[] 0 hb (by simp) rfl
/-- A row of the call's own that holds something: where it lies, what is read there, what is stored there. -/
theorem OwnI.row (h : OwnI k base t w v l) (hp : 0 < l.length) : ∃ g cap, v = .slice (some ⟨g, 0, none⟩) l.length cap ∧ base ≤ g ∧ l.length ≤ cap ∧ g < w.heap.size := by
  rcases h with ⟨_, ⟨_, h1⟩ | ⟨g, cap, cur, hv, hb, hh, hc, _⟩⟩
  · omega
  · refine ⟨g, cap, hv, hb, hc, ?_⟩
    rcases Nat.lt_or_ge g w.heap.size with hlt | hge
    · exact hlt
    · rw [Array.getElem?_eq_none hge] at hh; cases hh
theorem OwnI.cell {g cap : Nat} (h : OwnI k base t w (.slice (some ⟨g, 0, none⟩) l.length cap) l) (j : Nat) (hj : j < l.length) : w.cell? ⟨g, j, none⟩ = some (.int k (l.getD j 0)) := by
  rw [World.ownsRow.cellAt h j (by omega)]; exact cellsI_get k l j hj
theorem OwnI.frozen {g cap : Nat} (h : OwnI k base t w (.slice (some ⟨g, 0, none⟩) l.length cap) l) (j : Nat) : w.frozen? ⟨g, j, none⟩ = false := World.ownsRow.frozenAt h j
theorem OwnI.stored {g cap : Nat} (h : OwnI k base t w (.slice (some ⟨g, 0, none⟩) l.length cap) l) (j : Nat) (x : Int) : OwnI k base t (w.setCell ⟨g, j, none⟩ (.int k x)) (.slice (some ⟨g, 0, none⟩) l.length cap) (l.set j x) := by
  have := (World.ownsRow.stored h j (.int k x)).1
  unfold OwnI; rw [cellsI_set, List.length_set]; exact this
theorem OwnI.drew (h : OwnI k base t w v l) : OwnI k base t w.drew v l := h
end
section
variable {P : Program}
theorem run_appendI {w : World} (k : IntKind) (base : Nat) (t ty e : TypeId) (bytes : Nat) (ht : P.underlying t = some (.slice e)) (hi : (P.info? e).map (fun i => (i.zero, i.size, i.bytes)) = some (some (.int k 0), 1, bytes))
    (v : Value) (l : List Int) (a : Option Addr) (c : Nat) (r : List Int) (hown : OwnI k base e w v l) (hr : IntsAt k w a r)
    (h63 : l.length + r.length ≤ maxLen) (hbytes : (l.length + r.length) * bytes ≤ 140737488355328) (w0 : World) (hb : Below base w0 w) (hbase : base ≤ w0.heap.size) :
    ∃ v' w', (Builtin.append_ #[t, t] ty #[v, .slice a r.length c]).run P w = .ok v' w' ∧ OwnI k base e w' v' (l ++ r) ∧ Below base w0 w' := by
  obtain ⟨i0, hi0, hz0, hz1, hz2⟩ := info_parts hi
  have hsz := hb.size
  rcases a with _ | ad
  · have h0 : r = [] := by
      rcases hr with h0 | ⟨_, _, h0, _⟩
      · exact h0
      · cases h0
    subst h0
    refine ⟨v, w, ?_, by rw [List.append_nil]; exact hown, hb⟩
    rcases hown.2 with ⟨rfl, h0⟩ | ⟨g, cap, cur, rfl, _, _, hnc, _⟩
    · simp [Builtin.append_, run_underlying ht, sizeOf, typeInfo, hi0, Builtin.lenOf, Builtin.firstCells]
    · simp [Builtin.append_, run_underlying ht, sizeOf, typeInfo, hi0, Builtin.lenOf, Builtin.firstCells, hnc, storeCells]
  · have hcells : ∀ j u, (cellsI k r)[j]? = some u → w.cell? (ad.add j) = some u := by
      intro j u hj
      rcases Nat.eq_zero_or_pos r.length with h0 | h0
      · rw [List.eq_nil_of_length_eq_zero h0] at hj; simp [cellsI] at hj
      · obtain ⟨ad', he, hc⟩ := hr.source h0
        injection he with he; subst he
        exact hc j u hj
    obtain ⟨v', w', h1, h2, h3, _⟩ := run_append_own (P := P) (w := w) base t ty e i0 _ 1 bytes ht hi0 hz0 hz1 hz2 rfl (by omega) v l.length (cellsI k l) hown ad r.length c (cellsI k r) (by rw [cellsI_len]; omega) hcells (cellsI_one k r) h63 hbytes (by omega)
    refine ⟨v', w', h1, ?_, hb.grown h3 (by omega) (fun j hj => hown.blk j hj)⟩
    unfold OwnI; rw [cellsI_app, List.length_append]; exact h2
theorem wpList_appendI {w : World} {ops : Array Oper} {rest : List Oper} {o : Oper} {a : Act} {Q : Exit → Act → World → Prop} (hgd : o.guard = none) (s x : Operand) (t : TypeId)
    (ho : o.op = .call { callee := .builtin .append, args := #[s, x], argTypes := #[t, t] })
    (k : IntKind) (base : Nat) (e : TypeId) (bytes : Nat) (ht : P.underlying t = some (.slice e)) (hi : (P.info? e).map (fun i => (i.zero, i.size, i.bytes)) = some (some (.int k 0), 1, bytes))
    (v : Value) (l : List Int) (ad : Option Addr) (n c : Nat) (r : List Int) (hs : a.eval s = v) (hx : a.eval x = .slice ad n c) (hnl : r.length = n) (hown : OwnI k base e w v l) (hr : IntsAt k w ad r)
    (h63 : l.length + r.length ≤ maxLen) (hbytes : (l.length + r.length) * bytes ≤ 140737488355328) (w0 : World) (hb : Below base w0 w) (hbase : base ≤ w0.heap.size)
    (h : ∀ v' w', OwnI k base e w' v' (l ++ r) → Below base w0 w' → wpList P ops Q rest (a.put o.dst v') w') : wpList P ops Q (o :: rest) a w := by
  subst hnl
  refine wpList_plain hgd fun K hK => ?_
  obtain ⟨v', w', hrun, h1, h2⟩ := run_appendI (P := P) (w := w) k base t o.type e bytes ht hi v l ad c r hown hr h63 hbytes w0 hb hbase
  unfold Oper.wp
  simp [execOp, ho, resolve, invoke, builtin, hs, hx, hrun, Result.andThen]
  exact hK _ _ (h v' w' h1 h2)
end
end Go.Proofs.Ytchnnpaebggfdaa

namespace Go.Proofs.Ytchnnpaebggfdaa
set_option maxRecDepth 100000
open Go.ChangeShapes Go.WideShapes Go.ChangeAt Go.RowKit Go.Deep
namespace Wd
open Cr (Bytes)
theorem ret_int {k : IntKind} {n m : Int} (h : n = m) : Ending.returned (.int k n) = .returned (.int k m) := by rw [h]
theorem ret_bool {a b : Bool} (h : a = b) : Ending.returned (.bool a) = .returned (.bool b) := by rw [h]
theorem ret_ib {n m : Int} {a b : Bool} (h : n = m) (k : a = b) : Ending.returned (.tuple #[.int .i64 n, .bool a]) = .returned (.tuple #[.int .i64 m, .bool b]) := by rw [h, k]
set_option maxHeartbeats 800000 in
theorem read_any (a : Option Addr) (cap : Nat) (l : List Int) (w : World) (hl : l.length ≤ 4) (hy : Bytes l) (hb : IntsAt .u8 w a l) :
    Calls Try.prog 71 #[.slice a l.length cap] w fun e w' => e = .returned (.int .i64 (val l)) ∧ w = w' := by
  have HY := Lib.hid hy
  have HB := Lib.hid hb
  clear hy hb
  go_enter Try.func71, Try.ntmps71
  go_wp2
  go_loopg [3, 8] l.length (fun gg s3 s8 wr => ∃ k : Nat, k + gg = l.length ∧ s8 = .int .i64 k ∧ s3 = .int .i64 (val (l.take k)) ∧ w = wr)
  case atStart => exact ⟨0, by omega, rfl, by rw [List.take_zero]; rfl, rfl⟩
  case round =>
    obtain ⟨k, hkg, rfl, rfl, rfl⟩ := hrel
    by_cases hk : k < l.length
    · rcases HB.out with hnil | ⟨b, off, rfl, hc⟩
      · rw [hnil] at hk; simp at hk
      have hki : (k : Int) < (l.length : Int) := by omega
      have hcx := hc k hk
      have hg := HY.out.getD k
      have HU := Lib.hid (val_next l k hk)
      have hV := val_in HY.out k (by omega) (by omega)
      have hV2 := hV.2.2 (by omega)
      have HO := or_next (val (l.take k)) (l.getD k 0) ⟨hV.1, hV2⟩ hg
      have hV1 := hV.1
      clear hc hV
      generalize val (l.take k) = X at *
      generalize l.getD k 0 = c at *
      go_wp2
      go_roundg (gk - 1)
      case rel => exact ⟨k + 1, by omega, by go_num, by rw [HU.out], rfl⟩
      case measure => omega
    · obtain rfl : k = l.length := by omega
      go_wp2
      go_ret
      exact ⟨ret_int (val_all l), rfl⟩
theorem readFour_any (a : Option Addr) (cap : Nat) (l : List Int) (w : World) (h4 : l.length = 4) (hy : Bytes l) (hb : IntsAt .u8 w a l) :
    Calls Try.prog 73 #[.slice a 4 cap] w fun e w' => e = .returned (.int .i64 (get4v l)) ∧ w = w' := by
  have C := read_any a cap l w (by omega) hy hb
  have hV := val_in hy l.length (Nat.le_refl _) (by omega)
  rw [val_all] at hV
  have HF := Lib.hid (val_four' h4)
  rw [h4] at C
  clear hy hb h4
  have hV1 := hV.1
  have hV2 := hV.2.1
  clear hV
  generalize val l = X at *
  by_cases hx : 2147483647 < X
  · have HD := Lib.hid (show X - 4294967296 = down X by unfold down; rw [if_pos (by omega)])
    have d : decide (2147483647 < X) = true := by simpa using hx
    go_enter Try.func73, Try.ntmps73
    go_wp2_with fail
    refine C.mono ?_; rintro e w1 ⟨rfl, rfl⟩
    go_wp2
    go_ret
    exact ⟨ret_int (HD.out.trans HF.out), rfl⟩
  · have HD := Lib.hid (show X = down X by unfold down; rw [if_neg (by omega)])
    have d : decide (2147483647 < X) = false := by simpa using hx
    go_enter Try.func73, Try.ntmps73
    go_wp2_with fail
    refine C.mono ?_; rintro e w1 ⟨rfl, rfl⟩
    go_wp2
    go_ret
    exact ⟨ret_int (HD.out.trans HF.out), rfl⟩
theorem get2_any (a : Option Addr) (cap : Nat) (l : List Int) (w : World) (_hl : l.length ≤ 9223372036854775807) (hy : Bytes l) (hb : IntsAt .u8 w a l) :
    Calls Try.prog 62 #[.slice a l.length cap] w fun e w' => e = .returned (.tuple #[.int .i64 (get2v l), .bool (get2b l)]) ∧ w = w' := by
  by_cases h : l.length = 2
  · have C := read_any a cap l w (by omega) hy hb
    have HF := Lib.hid (val_two h)
    have HG := Lib.hid ((get2b_iff l).2 h)
    rw [h] at C ⊢
    clear hy hb
    go_enter Try.func62, Try.ntmps62
    go_wp2_with fail
    refine C.mono ?_; rintro e w1 ⟨rfl, rfl⟩
    go_wp2
    go_ret2
    exact ⟨ret_ib HF.out HG.out.symm, rfl⟩
  · have HF := Lib.hid (get2v_no h)
    have HG := Lib.hid (show get2b l = false by cases e : get2b l; rfl; exact absurd ((get2b_iff l).1 e) h)
    have d : ((l.length : Int) != 2) = true := by simp; omega
    have d2 : ((l.length : Int) == 2) = false := by simp; omega
    clear hy hb
    go_enter Try.func62, Try.ntmps62
    go_wp2
    go_ret2
    exact ⟨ret_ib HF.out.symm HG.out.symm, rfl⟩
end Wd
end Go.Proofs.Ytchnnpaebggfdaa

namespace Go.Proofs.Ytchnnpaebggfdaa
set_option maxRecDepth 100000
open Go.ChangeShapes Go.WideShapes Go.ChangeAt Go.RowKit Go.Deep
namespace Fm
open Wd
open Cr (Bytes)
theorem eight (l : List Int) (h : l.length = 8) : ∃ v0 v1 v2 v3 v4 v5 v6 v7, l = [v0, v1, v2, v3, v4, v5, v6, v7] := by
  match l, h with
  | [v0, v1, v2, v3, v4, v5, v6, v7], _ => exact ⟨v0, v1, v2, v3, v4, v5, v6, v7, rfl⟩
theorem lt8 {k : Nat} (h : k < 8) : k = 0 ∨ k = 1 ∨ k = 2 ∨ k = 3 ∨ k = 4 ∨ k = 5 ∨ k = 6 ∨ k = 7 := by omega
/-- An element of an array of eight numbers, by value. -/
theorem at8 (v0 v1 v2 v3 v4 v5 v6 v7 : Int) (k : Nat) (h : k < 8) (w : World) : (Instr.index 52 (.agg #[.int .i64 v0, .int .i64 v1, .int .i64 v2, .int .i64 v3, .int .i64 v4, .int .i64 v5, .int .i64 v6, .int .i64 v7]) (.int .i64 k)).run Try.prog w = .ok (.int .i64 ([v0, v1, v2, v3, v4, v5, v6, v7].getD k 0)) w := by
  rcases lt8 h with rfl | rfl | rfl | rfl | rfl | rfl | rfl | rfl <;> kernel_rfl
end Fm
end Go.Proofs.Ytchnnpaebggfdaa
