/-
  What Default of package config, and of the document's answers, returns: contracts by walking the Go text. No conditions.
-/
import Derived.Test.YtofhfgligkhoaaaConfigMost
import Derived.Laws.Tables
namespace Go.Proofs.Ytofhfgligkhoaaa
open Go.ChangeShapes Go.WideShapes Go.ChangeAt Go.RowKit Go.Deep
namespace Cf

def dflt (n w0 w1 w2 w3 : Int) : List Int := [n, -1000000, 1000000, 0, 400, 600, 8, 150, 4, 300, 40, 5, 60, 3, 10, 2, 4, w0, w1, w2, w3]
def zeros : List Int := [0, 0, 0, 0, 0, 0, 0, 0, 0, 0, 0, 0, 0, 0, 0, 0, 0, 0, 0, 0, 0]
def one (j k : Nat) : Int := if j < k then 1 else 0
/-- The default one, when k weights are laid. -/
def wts (n : Int) (k : Nat) : List Int := dflt n (one 0 k) (one 1 k) (one 2 k) (one 3 k)
theorem wts_set (n : Int) (k : Nat) (h : k < 4) : (wts n k).set (17 + k) 1 = wts n (k + 1) := by
  obtain rfl | rfl | rfl | rfl : k = 0 ∨ k = 1 ∨ k = 2 ∨ k = 3 := by omega
  all_goals rfl
theorem Box.row {w : World} {b : Nat} {c : List Int} (h : Box w b c) : w.heap[b]? = some (.cells (CA c) 24 (0, 0)) := h
theorem Box.of {w : World} {b : Nat} {c : List Int} (h : w.heap[b]? = some (.cells (CA c) 24 (0, 0))) : Box w b c := h
theorem Box.put {w : World} {b : Nat} {c c' : List Int} (h : Box w b c) : Box (w.setRow b (CA c')) b c' := setRow_heap w b (CA c) (CA c') _ _ h
theorem setRow_other (w : World) (b k : Nat) (cells : Array Value) (h : k ≠ b) : (w.setRow b cells).heap[k]? = w.heap[k]? := by
  show (w.heap.modify b _)[k]? = _
  rw [Array.getElem?_modify, if_neg (fun e => h e.symm)]
theorem below_setRow {B : Nat} {a w : World} {b : Nat} {cells : Array Value} (h : Below B a w) (hb : B ≤ b) : Below B a (w.setRow b cells) :=
  ⟨h.os, h.tape, h.output, by simpa [World.setRow] using h.size, fun k hk => (setRow_other w b k cells (by omega)).trans (h.block k hk)⟩
theorem Box.setOther {w : World} {b : Nat} {c : List Int} (h : Box w b c) {p : Addr} (hp : b ≠ p.block) (x : Value) : Box (w.setCell p x) b c := (Below.heap_setCell w p x b hp).trans h
theorem Box.set {w : World} {b : Nat} {c : List Int} (h : Box w b c) (i : Nat) (x : Int) : Box (w.setCell ⟨b, i, none⟩ (.int .i64 x)) b (c.set i x) := IRow.set h i x

theorem wpList_buildTo {P : Program} {ops : Array Oper} {rest : List Oper} {o : Oper} {a : Act} {w : World} {Q : Exit → Act → World → Prop} (hg : o.guard = none) (t : TypeId) (parts : Array (Nat × Operand)) (ho : o.op = .build t parts)
    (cells : Array Value) (hf : P.built t (parts.map fun (i, x) => (i, a.eval x)).toList = some cells) (h : wpList P ops Q rest (a.put o.dst (.agg cells)) w) : wpList P ops Q (o :: rest) a w :=
  wpList_build hg t parts ho (by rw [hf]; rfl) (by rw [hf]; exact h)
/-- A whole configuration stored. -/
theorem wpList_storeC {ops : Array Oper} {rest : List Oper} {o : Oper} {a : Act} {w : World} {Q : Exit → Act → World → Prop} (hgd : o.guard = none) (x y : Operand) (ho : o.op = .store 24 x y)
    (b : Nat) (c c' : List Int) (hx : a.eval x = .pointer (some ⟨b, 0, none⟩)) (hy : a.eval y = .agg (CA c')) (hb : Box w b c) (hc : c.length = 21) (hc' : c'.length = 21)
    (h : wpList Try.prog ops Q rest (a.put o.dst undef) (w.setRow b (CA c'))) : wpList Try.prog ops Q (o :: rest) a w :=
  wpList_store_row hgd 24 x y ho b (CA c') hx hy 24 (CA c) hb (by rw [CA_size, hc']; exact sizeC) (by rw [CA_size, CA_size, hc, hc']) (CA_one c') h
/-- What lies about: the result's box, the variable's. -/
structure Mk (w W : World) (n : Int) (k : Nat) : Prop where
  below : Below w.heap.size w W
  res : Box W w.heap.size zeros
  cur : Box W (w.heap.size + 1) (wts n k)
theorem mk_start (w : World) (n : Int) : Mk w (((w.alloc (.cells #[.int .i64 0, .int .i64 0, .int .i64 0, .int .i64 0, .int .i64 0, .int .i64 0, .int .i64 0, .int .i64 0, .int .i64 0, .int .i64 0, .int .i64 0, .int .i64 0, .int .i64 0, .int .i64 0, .int .i64 0, .int .i64 0, .int .i64 0, .int .i64 0, .int .i64 0, .int .i64 0, .int .i64 0] 24)).alloc (.cells #[.int .i64 0, .int .i64 0, .int .i64 0, .int .i64 0, .int .i64 0, .int .i64 0, .int .i64 0, .int .i64 0, .int .i64 0, .int .i64 0, .int .i64 0, .int .i64 0, .int .i64 0, .int .i64 0, .int .i64 0, .int .i64 0, .int .i64 0, .int .i64 0, .int .i64 0, .int .i64 0, .int .i64 0] 24)).setRow (w.heap.size + 1) (CA (wts n 0))) n 0 := by
  have b1 := (Below.refl w.heap.size w).alloc (Nat.le_refl _) (.cells #[.int .i64 0, .int .i64 0, .int .i64 0, .int .i64 0, .int .i64 0, .int .i64 0, .int .i64 0, .int .i64 0, .int .i64 0, .int .i64 0, .int .i64 0, .int .i64 0, .int .i64 0, .int .i64 0, .int .i64 0, .int .i64 0, .int .i64 0, .int .i64 0, .int .i64 0, .int .i64 0, .int .i64 0] 24)
  have b2 := b1.alloc (by simp) (.cells #[.int .i64 0, .int .i64 0, .int .i64 0, .int .i64 0, .int .i64 0, .int .i64 0, .int .i64 0, .int .i64 0, .int .i64 0, .int .i64 0, .int .i64 0, .int .i64 0, .int .i64 0, .int .i64 0, .int .i64 0, .int .i64 0, .int .i64 0, .int .i64 0, .int .i64 0, .int .i64 0, .int .i64 0] 24)
  refine ⟨below_setRow b2 (by omega), Box.of ?_, Box.put (c := zeros) (heap_alloc2_new w (.cells #[.int .i64 0, .int .i64 0, .int .i64 0, .int .i64 0, .int .i64 0, .int .i64 0, .int .i64 0, .int .i64 0, .int .i64 0, .int .i64 0, .int .i64 0, .int .i64 0, .int .i64 0, .int .i64 0, .int .i64 0, .int .i64 0, .int .i64 0, .int .i64 0, .int .i64 0, .int .i64 0, .int .i64 0] 24) (.cells #[.int .i64 0, .int .i64 0, .int .i64 0, .int .i64 0, .int .i64 0, .int .i64 0, .int .i64 0, .int .i64 0, .int .i64 0, .int .i64 0, .int .i64 0, .int .i64 0, .int .i64 0, .int .i64 0, .int .i64 0, .int .i64 0, .int .i64 0, .int .i64 0, .int .i64 0, .int .i64 0, .int .i64 0] 24))⟩
  rw [setRow_other _ _ _ _ (by omega)]
  exact heap_alloc2_old w (.cells #[.int .i64 0, .int .i64 0, .int .i64 0, .int .i64 0, .int .i64 0, .int .i64 0, .int .i64 0, .int .i64 0, .int .i64 0, .int .i64 0, .int .i64 0, .int .i64 0, .int .i64 0, .int .i64 0, .int .i64 0, .int .i64 0, .int .i64 0, .int .i64 0, .int .i64 0, .int .i64 0, .int .i64 0] 24) (.cells #[.int .i64 0, .int .i64 0, .int .i64 0, .int .i64 0, .int .i64 0, .int .i64 0, .int .i64 0, .int .i64 0, .int .i64 0, .int .i64 0, .int .i64 0, .int .i64 0, .int .i64 0, .int .i64 0, .int .i64 0, .int .i64 0, .int .i64 0, .int .i64 0, .int .i64 0, .int .i64 0, .int .i64 0] 24)
theorem mk_step {w W : World} {n : Int} {k : Nat} (h : Mk w W n k) (hk : k < 4) : Mk w (W.setCell ⟨w.heap.size + 1, 17 + k, none⟩ (.int .i64 1)) n (k + 1) :=
  ⟨h.below.setCell (p := ⟨w.heap.size + 1, 17 + k, none⟩) (by simp) _, h.res.setOther (p := ⟨w.heap.size + 1, 17 + k, none⟩) (by simp) _, by rw [← wts_set n k hk]; exact h.cur.set _ _⟩
theorem aggC (w : World) : (isAgg 24).run Try.prog w = .ok true w := by simp [isAgg, run_underlying Try.underlying24]

set_option maxHeartbeats 3200000 in
theorem default_yes (n : Nat) (w : World) (hn : n = 3 ∨ n = 4) :
    Calls Try.prog 6 #[.int .i64 n] w fun e w' => e = .returned (.tuple #[.agg (CA (wts n n)), .int .i64 0]) ∧ Below w.heap.size w w' := by
  have M0 := Lib.hid (mk_start w n)
  have HG := Lib.hid (show Box _ _ zeros from heap_alloc2_new w (.cells #[.int .i64 0, .int .i64 0, .int .i64 0, .int .i64 0, .int .i64 0, .int .i64 0, .int .i64 0, .int .i64 0, .int .i64 0, .int .i64 0, .int .i64 0, .int .i64 0, .int .i64 0, .int .i64 0, .int .i64 0, .int .i64 0, .int .i64 0, .int .i64 0, .int .i64 0, .int .i64 0, .int .i64 0] 24) (.cells #[.int .i64 0, .int .i64 0, .int .i64 0, .int .i64 0, .int .i64 0, .int .i64 0, .int .i64 0, .int .i64 0, .int .i64 0, .int .i64 0, .int .i64 0, .int .i64 0, .int .i64 0, .int .i64 0, .int .i64 0, .int .i64 0, .int .i64 0, .int .i64 0, .int .i64 0, .int .i64 0, .int .i64 0] 24))
  have d1 : decide ((n : Int) < 3) = false := by simp; omega
  have d2 : decide (4 < (n : Int)) = false := by simp; omega
  have hn4 : n ≤ 4 := by omega
  clear hn
  go_enter Try.func6, Try.ntmps6
  go_wp2_with (first
    | (with_reducible show wpList _ _ _ (⟨some 14, _, _, _, _, _⟩ :: _) _ _; refine wpList_buildTo rfl _ _ rfl (CA (wts n 0)) (by kernel_rfl) ?_)
    | (with_reducible show wpList _ _ _ (⟨none, .store _ (.tmp 4) _, _, _, _, _⟩ :: _) _ _; refine wpList_storeC rfl _ _ rfl (w.heap.size + 1) zeros (wts n 0) rfl rfl HG.out rfl rfl ?_))
  generalize ((w.alloc (.cells #[.int .i64 0, .int .i64 0, .int .i64 0, .int .i64 0, .int .i64 0, .int .i64 0, .int .i64 0, .int .i64 0, .int .i64 0, .int .i64 0, .int .i64 0, .int .i64 0, .int .i64 0, .int .i64 0, .int .i64 0, .int .i64 0, .int .i64 0, .int .i64 0, .int .i64 0, .int .i64 0, .int .i64 0] 24)).alloc (.cells #[.int .i64 0, .int .i64 0, .int .i64 0, .int .i64 0, .int .i64 0, .int .i64 0, .int .i64 0, .int .i64 0, .int .i64 0, .int .i64 0, .int .i64 0, .int .i64 0, .int .i64 0, .int .i64 0, .int .i64 0, .int .i64 0, .int .i64 0, .int .i64 0, .int .i64 0, .int .i64 0, .int .i64 0] 24)).setRow (w.heap.size + 1) (CA (wts n 0)) = W0 at *
  clear HG
  go_loopg [16] n (fun gg s5 wx => ∃ k : Nat, k + gg = n ∧ s5 = .int .i64 k ∧ Hid (Mk w wx n k))
  case atStart => exact ⟨0, by omega, rfl, M0⟩
  case round =>
    obtain ⟨k, hk, rfl, M⟩ := hrel
    cases gk with
    | zero =>
      obtain rfl : k = n := by omega
      go_wp2_with (first
        | (with_reducible show wpList _ _ _ (⟨some 23, _, _, _, _, _⟩ :: _) _ _; refine wpList_loadC rfl _ rfl (w.heap.size + 1) (wts k k) rfl M.out.cur rfl ?_)
        | (with_reducible show wpList _ _ _ (⟨none, .store _ (.tmp 2) _, _, _, _, _⟩ :: _) _ _; refine wpList_storeC rfl _ _ rfl w.heap.size zeros (wts k k) rfl rfl M.out.res rfl rfl ?_))
      refine bodyPost_ret (v := .tuple #[.agg (CA (wts k k)), .int .i64 0]) ?_ rfl ⟨rfl, below_setRow M.out.below (Nat.le_refl _)⟩
      exact (Agg.ret_row2 (l := wts k k) rfl rfl (aggC _) sizeC (Box.put M.out.res)).trans rfl
    | succ g =>
      have hk4 : k < 4 := by omega
      have hb := M.out.cur
      have y0 := hb.at rfl (17 + k) (by omega)
      have y1 := IRow.frozen hb (17 + k)
      have N := Lib.hid (mk_step M.out hk4)
      clear hb
      go_wp2_with fail
      go_roundg g
      case rel => exact ⟨k + 1, by omega, by go_num, N⟩
      case measure => omega

set_option maxHeartbeats 3200000 in
theorem default_no (n : Int) (w : World) (hn : ¬ (n = 3 ∨ n = 4)) :
    Calls Try.prog 6 #[.int .i64 n] w fun e w' => e = .returned (.tuple #[.agg (CA zeros), .int .i64 1]) ∧ Below w.heap.size w w' := by
  have hq : decide (n < 3) = true ∨ (decide (n < 3) = false ∧ decide (4 < n) = true) := by simp; omega
  have B0 := Lib.hid (show Box (w.alloc (.cells #[.int .i64 0, .int .i64 0, .int .i64 0, .int .i64 0, .int .i64 0, .int .i64 0, .int .i64 0, .int .i64 0, .int .i64 0, .int .i64 0, .int .i64 0, .int .i64 0, .int .i64 0, .int .i64 0, .int .i64 0, .int .i64 0, .int .i64 0, .int .i64 0, .int .i64 0, .int .i64 0, .int .i64 0] 24)) w.heap.size zeros from heap_alloc_new w (.cells #[.int .i64 0, .int .i64 0, .int .i64 0, .int .i64 0, .int .i64 0, .int .i64 0, .int .i64 0, .int .i64 0, .int .i64 0, .int .i64 0, .int .i64 0, .int .i64 0, .int .i64 0, .int .i64 0, .int .i64 0, .int .i64 0, .int .i64 0, .int .i64 0, .int .i64 0, .int .i64 0, .int .i64 0] 24))
  have b0 := Lib.hid ((Below.refl w.heap.size w).alloc (Nat.le_refl _) (.cells #[.int .i64 0, .int .i64 0, .int .i64 0, .int .i64 0, .int .i64 0, .int .i64 0, .int .i64 0, .int .i64 0, .int .i64 0, .int .i64 0, .int .i64 0, .int .i64 0, .int .i64 0, .int .i64 0, .int .i64 0, .int .i64 0, .int .i64 0, .int .i64 0, .int .i64 0, .int .i64 0, .int .i64 0] 24))
  clear hn
  rcases hq with d | ⟨d, d'⟩
  all_goals
    go_enter Try.func6, Try.ntmps6
    go_wp2_with (first
      | (with_reducible show wpList _ _ _ (⟨some 12, _, _, _, _, _⟩ :: _) _ _; refine wpList_buildTo rfl _ _ rfl (CA zeros) (by kernel_rfl) ?_)
      | (with_reducible show wpList _ _ _ (⟨none, .store _ (.tmp 2) _, _, _, _, _⟩ :: _) _ _; refine wpList_storeC rfl _ _ rfl w.heap.size zeros zeros rfl rfl B0.out rfl rfl ?_))
    refine bodyPost_ret (v := .tuple #[.agg (CA zeros), .int .i64 1]) ?_ rfl ⟨rfl, below_setRow b0.out (Nat.le_refl _)⟩
    exact (Agg.ret_row2 (l := zeros) rfl rfl (aggC _) sizeC (Box.put B0.out)).trans rfl

set_option maxHeartbeats 3200000 in
theorem rdefault_yes (n : Nat) (w : World) (hn : n = 3 ∨ n = 4) :
    Calls Try.prog 7 #[.int .i64 n] w fun e w' => e = .returned (.tuple #[.agg (CA (wts n n)), .int .i64 0]) ∧ Below w.heap.size w w' := by
  have M0 := Lib.hid (mk_start w n)
  have HG := Lib.hid (show Box _ _ zeros from heap_alloc2_new w (.cells #[.int .i64 0, .int .i64 0, .int .i64 0, .int .i64 0, .int .i64 0, .int .i64 0, .int .i64 0, .int .i64 0, .int .i64 0, .int .i64 0, .int .i64 0, .int .i64 0, .int .i64 0, .int .i64 0, .int .i64 0, .int .i64 0, .int .i64 0, .int .i64 0, .int .i64 0, .int .i64 0, .int .i64 0] 24) (.cells #[.int .i64 0, .int .i64 0, .int .i64 0, .int .i64 0, .int .i64 0, .int .i64 0, .int .i64 0, .int .i64 0, .int .i64 0, .int .i64 0, .int .i64 0, .int .i64 0, .int .i64 0, .int .i64 0, .int .i64 0, .int .i64 0, .int .i64 0, .int .i64 0, .int .i64 0, .int .i64 0, .int .i64 0] 24))
  have d1 : ((n : Int) != 3) = false ∨ (((n : Int) != 3) = true ∧ ((n : Int) != 4) = false) := by rcases hn with rfl | rfl <;> simp
  have hn4 : n ≤ 4 := by omega
  clear hn
  rcases d1 with d | ⟨d, d'⟩
  all_goals
    go_enter Try.func7, Try.ntmps7
    go_wp2_with (first
      | (with_reducible show wpList _ _ _ (⟨some 14, _, _, _, _, _⟩ :: _) _ _; refine wpList_buildTo rfl _ _ rfl (CA (wts n 0)) (by kernel_rfl) ?_)
      | (with_reducible show wpList _ _ _ (⟨none, .store _ (.tmp 4) _, _, _, _, _⟩ :: _) _ _; refine wpList_storeC rfl _ _ rfl (w.heap.size + 1) zeros (wts n 0) rfl rfl HG.out rfl rfl ?_))
    generalize ((w.alloc (.cells #[.int .i64 0, .int .i64 0, .int .i64 0, .int .i64 0, .int .i64 0, .int .i64 0, .int .i64 0, .int .i64 0, .int .i64 0, .int .i64 0, .int .i64 0, .int .i64 0, .int .i64 0, .int .i64 0, .int .i64 0, .int .i64 0, .int .i64 0, .int .i64 0, .int .i64 0, .int .i64 0, .int .i64 0] 24)).alloc (.cells #[.int .i64 0, .int .i64 0, .int .i64 0, .int .i64 0, .int .i64 0, .int .i64 0, .int .i64 0, .int .i64 0, .int .i64 0, .int .i64 0, .int .i64 0, .int .i64 0, .int .i64 0, .int .i64 0, .int .i64 0, .int .i64 0, .int .i64 0, .int .i64 0, .int .i64 0, .int .i64 0, .int .i64 0] 24)).setRow (w.heap.size + 1) (CA (wts n 0)) = W0 at *
    clear HG
    go_loopg [5] n (fun gg s5 wx => ∃ k : Nat, k + gg = n ∧ s5 = .int .i64 k ∧ Hid (Mk w wx n k))
    case atStart => exact ⟨0, by omega, rfl, M0⟩
    case round =>
      obtain ⟨k, hk, rfl, M⟩ := hrel
      cases gk with
      | zero =>
        obtain rfl : k = n := by omega
        go_wp2_with (first
          | (with_reducible show wpList _ _ _ (⟨some 23, _, _, _, _, _⟩ :: _) _ _; refine wpList_loadC rfl _ rfl (w.heap.size + 1) (wts k k) rfl M.out.cur rfl ?_)
          | (with_reducible show wpList _ _ _ (⟨none, .store _ (.tmp 2) _, _, _, _, _⟩ :: _) _ _; refine wpList_storeC rfl _ _ rfl w.heap.size zeros (wts k k) rfl rfl M.out.res rfl rfl ?_))
        refine bodyPost_ret (v := .tuple #[.agg (CA (wts k k)), .int .i64 0]) ?_ rfl ⟨rfl, below_setRow M.out.below (Nat.le_refl _)⟩
        exact (Agg.ret_row2 (l := wts k k) rfl rfl (aggC _) sizeC (Box.put M.out.res)).trans rfl
      | succ g =>
        have hk4 : k < 4 := by omega
        have hb := M.out.cur
        have y0 := hb.at rfl (17 + k) (by omega)
        have y1 := IRow.frozen hb (17 + k)
        have N := Lib.hid (mk_step M.out hk4)
        clear hb
        go_wp2_with fail
        go_roundg g
        case rel => exact ⟨k + 1, by omega, by go_num, N⟩
        case measure => omega

set_option maxHeartbeats 3200000 in
theorem rdefault_no (n : Int) (w : World) (hn : ¬ (n = 3 ∨ n = 4)) :
    Calls Try.prog 7 #[.int .i64 n] w fun e w' => e = .returned (.tuple #[.agg (CA zeros), .int .i64 1]) ∧ Below w.heap.size w w' := by
  have hq : (n != 3) = true ∧ (n != 4) = true := by simp; omega
  have B0 := Lib.hid (show Box (w.alloc (.cells #[.int .i64 0, .int .i64 0, .int .i64 0, .int .i64 0, .int .i64 0, .int .i64 0, .int .i64 0, .int .i64 0, .int .i64 0, .int .i64 0, .int .i64 0, .int .i64 0, .int .i64 0, .int .i64 0, .int .i64 0, .int .i64 0, .int .i64 0, .int .i64 0, .int .i64 0, .int .i64 0, .int .i64 0] 24)) w.heap.size zeros from heap_alloc_new w (.cells #[.int .i64 0, .int .i64 0, .int .i64 0, .int .i64 0, .int .i64 0, .int .i64 0, .int .i64 0, .int .i64 0, .int .i64 0, .int .i64 0, .int .i64 0, .int .i64 0, .int .i64 0, .int .i64 0, .int .i64 0, .int .i64 0, .int .i64 0, .int .i64 0, .int .i64 0, .int .i64 0, .int .i64 0] 24))
  have b0 := Lib.hid ((Below.refl w.heap.size w).alloc (Nat.le_refl _) (.cells #[.int .i64 0, .int .i64 0, .int .i64 0, .int .i64 0, .int .i64 0, .int .i64 0, .int .i64 0, .int .i64 0, .int .i64 0, .int .i64 0, .int .i64 0, .int .i64 0, .int .i64 0, .int .i64 0, .int .i64 0, .int .i64 0, .int .i64 0, .int .i64 0, .int .i64 0, .int .i64 0, .int .i64 0] 24))
  clear hn
  rcases hq with ⟨d, d'⟩
  all_goals
    go_enter Try.func7, Try.ntmps7
    go_wp2_with (first
      | (with_reducible show wpList _ _ _ (⟨some 12, _, _, _, _, _⟩ :: _) _ _; refine wpList_buildTo rfl _ _ rfl (CA zeros) (by kernel_rfl) ?_)
      | (with_reducible show wpList _ _ _ (⟨none, .store _ (.tmp 2) _, _, _, _, _⟩ :: _) _ _; refine wpList_storeC rfl _ _ rfl w.heap.size zeros zeros rfl rfl B0.out rfl rfl ?_))
    refine bodyPost_ret (v := .tuple #[.agg (CA zeros), .int .i64 1]) ?_ rfl ⟨rfl, below_setRow b0.out (Nat.le_refl _)⟩
    exact (Agg.ret_row2 (l := zeros) rfl rfl (aggC _) sizeC (Box.put B0.out)).trans rfl
end Cf
end Go.Proofs.Ytofhfgligkhoaaa
