/-
  What GetAll of package word returns: a contract by walking the Go text (a range over the iterator fours). Conditions: where the bytes lie, and how many they are.
-/
import Derived.Test.YtpoededbmdffpaaGreatDoorWordFours
namespace Go.Proofs.YtpoededbmdffpaaGreatDoor
set_option maxRecDepth 100000
open Go.ChangeShapes Go.WideShapes Go.ChangeAt Go.RowKit Go.Deep Go.Shelf
namespace Wd
open Cr (Bytes)
attribute [local go_sem] Oper.semAt_some
/-- make(..) of a whole row, inside a fence. -/
theorem wpListIn_make_full {F : Fence} {m : Nat} {P : Program} (w : World) {ops : Array Oper} {rest : List Oper} {o : Oper} {a : Act} {Q : Exit → Act → World → Prop}
    (hg : o.guard = none) (l c : Operand) (t : TypeId) (hop : o.op = Op.makeSlice t l c)
    (base : Nat) (e : TypeId) (i : TypeInfo) (z : Value) (size : Nat) (h1 : P.underlying t = some (.slice e)) (h2 : P.info? e = some i) (h3 : i.zero = some z) (h4 : i.size = size)
    (kl kc : IntKind) (L C : Int) (n : Nat) (hl : a.eval l = .int kl L) (hc : a.eval c = .int kc C) (hL : L = (n : Int)) (hC : C = (n : Int)) (b2 : i.bytes * n ≤ 281474976710656) (b3 : n ≤ maxLen) (b4 : base ≤ w.heap.size)
    (hK : ∀ w', w'.ownsRow base e size (.slice (some ⟨w.heap.size, 0, none⟩) n n) n (madeCells z.cells (n * size)).toList → w.grownBy w' none → wpListIn F m P ops Q rest (a.put o.dst (.slice (some ⟨w.heap.size, 0, none⟩) n n)) w') :
    wpListIn F m P ops Q (o :: rest) a w := by
  refine wpListIn_plain hg fun K hK' => ?_
  obtain ⟨w', hrun, r1, r2⟩ := run_make_full (P := P) w base t e i z size h1 h2 h3 h4 kl kc n b2 b3 b4
  subst hL
  subst hC
  unfold Oper.wpIn
  refine ⟨?_, ?_⟩
  · simp [Oper.about, hop]
  · rw [Oper.semAt_plain F _ _ (by rw [hop]; intro c hc'; cases hc')]
    simp [execOp, hop, hl, hc, hrun, Result.andThen]
    exact hK' _ _ (hK w' r1 r2)
/-- What a call hands back, with what it fits into. -/
def RetC (k : IntKind) (w : World) (l : List Int) (e : Ending) (w' : World) : Prop :=
  ∃ a cap, e = .returned (.slice a l.length cap) ∧ IntsAt k w' a l ∧ l.length ≤ cap ∧ Below w.heap.size w w'
theorem retC_mk {k : IntKind} {w w' : World} {a : Option Addr} {l l' : List Int} {n cap : Nat} (he : l' = l) (hn : l'.length = n) (hc : n ≤ cap) (hi : IntsAt k w' a l') (hb : Below w.heap.size w w') :
    RetC k w l (.returned (.slice a n cap)) w' := by subst he; subst hn; exact ⟨a, cap, rfl, hi, hc, hb⟩
theorem retC_nil {k : IntKind} {w w' : World} {l : List Int} (he : l = []) (hb : Below w.heap.size w w') : RetC k w l (.returned (.slice none 0 0)) w' := by
  subst he; exact ⟨none, 0, rfl, Or.inl rfl, Nat.le_refl _, hb⟩
/-- What GetAll hands back: a list, and whether there is one. -/
def RetIB (k : IntKind) (w : World) (l : List Int) (b : Bool) (e : Ending) (w' : World) : Prop :=
  ∃ a cap, e = .returned (.tuple #[.slice a l.length cap, .bool b]) ∧ IntsAt k w' a l ∧ Below w.heap.size w w'
theorem retIB_nil {k : IntKind} {w w' : World} {l : List Int} {b : Bool} (he : l = []) (hb : b = false) (h : Below w.heap.size w w') : RetIB k w l b (.returned (.tuple #[.slice none 0 0, .bool false])) w' := by
  subst he; subst hb; exact ⟨none, 0, rfl, Or.inl rfl, h⟩
theorem retIB_mk {k : IntKind} {w w' : World} {a : Option Addr} {l l' : List Int} {n cap : Nat} {b b' : Bool} (he : l' = l) (hn : l'.length = n) (hq : b' = b) (hi : IntsAt k w' a l') (hb : Below w.heap.size w w') :
    RetIB k w l b (.returned (.tuple #[.slice a n cap, .bool b'])) w' := by subst he; subst hn; subst hq; exact ⟨a, cap, rfl, hi, hb⟩
theorem zeros_cells64 (n : Nat) : (madeCells (Value.int .i64 0).cells (n * 1)).toList = cellsI .i64 (List.replicate n 0) := by
  have : (Value.int .i64 0).cells = #[Value.int .i64 0] := rfl
  rw [this, toList_madeCells_one]; simp [cellsI]
/-- A row that is known whole speaks of cells alone. -/
theorem irow_own {β : Type} (k : IntKind) (g : Nat) (t : TypeId) (f : β → List Int) : Own (fun s W => IRow k W g t (f s)) := fun s X Y row hs hg hrow =>
  (hg.block g hs.lt (fun e' => by obtain ⟨o, ho, hc⟩ := hrow g e'.symm; rw [show X.heap[g]? = _ from hs] at ho; cases ho; cases hc)).trans hs
set_option maxRecDepth 100000 in
set_option maxHeartbeats 2000000 in
theorem getAll_yes_any (a : Option Addr) (cap N : Nat) (l : List Int) (w : World) (hl : l.length = 4 * N) (hN : N ≤ 100000000) (hcap : 4 * N ≤ cap) (hy : Bytes l) (hb : IntsAt .u8 w a l) :
    Calls Tryz.prog 104 #[.slice a (4 * N) cap] w (RetIB .i64 w (getAll l) (getAllb l)) := by
  obtain ⟨b, off, ha⟩ : ∃ b off, 0 < N → a = some ⟨b, off, none⟩ := by
    rcases hb with rfl | ⟨b, off, rfl, _⟩
    · exact ⟨0, 0, fun h => by simp at hl; omega⟩
    · exact ⟨b, off, fun _ => rfl⟩
  have e4 : ((4 * N : Nat) : Int) / 4 = (N : Int) := by omega
  have e5 : ((4 * N : Nat) : Int) % 4 = 0 := by omega
  have HB := Lib.hid hb
  have HY := Lib.hid hy
  clear hb hy
  obtain ⟨i0, hi0, hz0, hz1, hz2⟩ := info_parts intInfo
  refine (callsIn_wide (n := 5)).1 ?_
  refine callsIn_of_wp_marks Tryz.func104 rfl trivial ?_ rfl
  simp only [Tryz.ntmps104, List.size_toArray, List.length_cons, List.length_nil, Nat.reduceAdd, Nat.reduceSub, Array.replicate_succ, Array.replicate_zero, List.push_toArray, List.append_toArray, List.nil_append, List.cons_append]
  gi_wp2_with (first
    | (gi_at_make; refine wpListIn_make_full _ rfl _ _ _ rfl w.heap.size 3 i0 (.int .i64 0) 1 Tryz.underlying144 hi0 hz0 hz1 .i64 .i64 _ _ N rfl rfl (by omega) (by omega) (by rw [hz2]; omega) (by unfold maxLen; omega) (Nat.le_refl _) ?_; intro w1 own1 grown1
       have R1 := Lib.hid (IRow.of_own own1 (zeros_cells64 _)); have B1 := Lib.hid ((Below.refl w.heap.size w).grown grown1 (Nat.le_refl _) (by simp)); clear own1 grown1)
    | (refine ⟨trivial, ?_⟩; gi_at_call 127; refine (callsIn_wide.2 (fours_any _ _ _ _)).mono ?_; rintro e w2 ⟨rfl, rfl⟩))
  have hlt1 : w.heap.size < w1.heap.size := R1.out.lt
  have bL := (Boxed.new w1 144 (.slice (some ⟨w.heap.size, 0, none⟩) N N)).alloc (.cells #[.slice a (4 * N) cap] 41)
  have bS := Boxed.new (w1.alloc (.cells #[.slice (some ⟨w.heap.size, 0, none⟩) N N] 144)) 41 (.slice a (4 * N) cap)
  rw [World.size_alloc] at bS
  have hR0 := (R1.out.alloc (.cells #[.slice (some ⟨w.heap.size, 0, none⟩) N N] 144)).alloc (.cells #[.slice a (4 * N) cap] 41)
  have hB0 := (B1.out.alloc (by omega) (.cells #[.slice (some ⟨w.heap.size, 0, none⟩) N N] 144)).alloc (by simp; omega) (.cells #[.slice a (4 * N) cap] 41)
  have hsz : ((w1.alloc (.cells #[.slice (some ⟨w.heap.size, 0, none⟩) N N] 144)).alloc (.cells #[.slice a (4 * N) cap] 41)).heap.size = w1.heap.size + 2 := by simp
  clear R1 B1
  generalize (w1.alloc (.cells #[.slice (some ⟨w.heap.size, 0, none⟩) N N] 144)).alloc (.cells #[.slice a (4 * N) cap] 41) = W0 at *
  refine wpIn_rangeFunc_ownG rfl (by omega) (gf := 178) (lb := #[.pointer (some ⟨w1.heap.size + 1, 0, none⟩)]) rfl trivial (enters_of Tryz.func178 (by kernel_rfl) rfl)
    (fours_stops _ (by omega) (w1.heap.size + 1) b off cap N a ha (by omega) hcap W0 (by omega) bS.cell) KeepAt.trans (KeepAt.put (by omega)) (Below.refl _ _) (fun _ => rfl)
    (fun pre W => (IRow .i64 W w.heap.size 3 (fillI l N (pre.map Fin.val)) ∧ Boxed W w1.heap.size 144 (.slice (some ⟨w.heap.size, 0, none⟩) N N)) ∧ Below w.heap.size w W)
    (fun _ _ _ => False)
    (OwnFrom.and (OwnFrom.and (Own.from (irow_own _ _ _ _) _) (Own.from (boxed_own _ _ _) _)) (ownFrom_below (Nat.le_refl _) (by omega)))
    (fun _ _ _ _ _ hs _ _ => hs)
    ⟨⟨by simpa [fillI] using hR0, bL⟩, hB0⟩
    (fun x => { tmps := #[.slice a (4 * N) cap, undef, .slice none 0 0, .bool false, .pointer (some ⟨w1.heap.size, 0, none⟩), .int .i64 (x.val : Int), .slice (some ⟨b, off + 4 * x.val, none⟩) 4 4, .slice a (4 * N) cap, .int .i64 (4 * N), .int .i64 0, .bool false, .slice a (4 * N) cap, .int .i64 (4 * N), .int .i64 N, .slice (some ⟨w.heap.size, 0, none⟩) N N, .slice a (4 * N) cap, .func (.func 178) #[] #[.pointer (some ⟨w1.heap.size + 1, 0, none⟩)], .int .i64 (x.val : Int), .slice (some ⟨b, off + 4 * x.val, none⟩) 4 4, undef, undef, undef, undef, undef, undef], defers := [] }) ?assign ?body ?done ?stop
  case assign =>
    intro l x W K hK
    dsimp only [encs]
    gi_wp2
    exact hK
  case body =>
    rintro lp pre x W ⟨⟨hR, hBx⟩, hB⟩ _
    have hx := x.isLt
    obtain ⟨i, hi⟩ : ∃ i, i = x.val := ⟨_, rfl⟩
    rw [← hi] at hx
    have HS := Lib.hid (show fillI l N ((pre ++ [x]).map Fin.val) = (fillI l N (pre.map Fin.val)).set x.val (get4v ((l.drop (4 * x.val)).take 4)) by rw [List.map_append]; exact fillI_snoc l N (pre.map Fin.val) x.val)
    rw [← hi] at HS ⊢
    have hbc := hBx.cell
    have hcl := hR.cell i (by rw [fillI_len]; exact hx)
    have hfz := hR.frozen i
    have hP : IntsAt .u8 W (some ⟨b, off + 4 * i, none⟩) ((l.drop (4 * i)).take 4) := by
      rcases HB.out.below hB with h0 | ⟨b', off', h1, hc⟩
      · rw [h0] at hl; simp at hl; omega
      · rw [ha (by omega)] at h1
        cases h1
        exact (intsAt_drop (4 * i) hc).take 4
    have C := fun W' (h : IntsAt .u8 W' (some ⟨b, off + 4 * i, none⟩) ((l.drop (4 * i)).take 4)) => readFour_any (some ⟨b, off + 4 * i, none⟩) 4 ((l.drop (4 * i)).take 4) W' (piece_len hl hx) (piece_bytes HY.out i) h
    have HP := Lib.hid hP
    have HR := Lib.hid hR
    have HBx := Lib.hid hBx
    have HBB := Lib.hid hB
    clear hP hR hBx hB hi
    generalize (fillI l N (pre.map Fin.val)).getD i 0 = old at *
    generalize hV : get4v ((l.drop (4 * i)).take 4) = V at *
    have hmx : Tryz.prog.follows .mixedOrders = true := by kernel_rfl
    gi_wp2
    gi_region_with_o (refine ⟨trivial, ?_⟩; gi_at_call 151; refine (CallsIn.inRound lp (callsIn_wide.2 (C _ (IntsAt.drew HP.out)))).mono ?_; rintro e w' ⟨rfl, rfl⟩)
    all_goals gi_wp2
    all_goals exact ⟨((KeepsOthers.setCell _ _ _).trans (KeepsOthers.drew _)).from _, heap_setCell_other W ⟨w.heap.size, i, none⟩ (w1.heap.size + 1) (.int .i64 V) (show w1.heap.size + 1 ≠ w.heap.size by omega),
      ⟨by rw [HS.out]; exact (HR.out.set i V).drew, (heap_setCell_other W ⟨w.heap.size, i, none⟩ w1.heap.size (.int .i64 V) (show w1.heap.size ≠ w.heap.size by omega)).trans HBx.out⟩, below_drewN (HBB.out.setCell (p := ⟨w.heap.size, i, none⟩) (Nat.le_refl _) (.int .i64 V)) 1⟩
  case done =>
    rintro D ys W hD hys ⟨⟨hR, hBx⟩, hB⟩ hK
    have hbc := hBx.cell
    gi_wp2
    refine ⟨by simp, .inl ⟨_, _, rfl, run_takeDeferred hK, ?_⟩⟩
    have R' : IRow .i64 (W.putObj D (.deferred none)) w.heap.size 3 (getAll l) := by
      rw [hys, fillI_all l N hl] at hR
      exact (World.putObj_heap_other (by omega)).trans hR
    have hlen : (getAll l).length = N := by rw [← fillI_all l N hl]; exact fillI_len _ _ _
    refine ⟨_, results_tmp2 rfl _ _ _, ?_⟩
    exact retIB_mk rfl hlen ((getAllb_iff l).2 (by omega)).symm R'.ints (hB.trans (belowK_b (w := w) (Nat.le_refl _) W D _ _ (by omega) hK rfl rfl))
  case stop =>
    rintro D c pre W _ _ h _
    exact h.elim
theorem getAll_any (a : Option Addr) (cap : Nat) (l : List Int) (w : World) (hl : l.length ≤ 100000000) (hcap : l.length ≤ cap) (hy : Bytes l) (hb : IntsAt .u8 w a l) :
    Calls Tryz.prog 104 #[.slice a l.length cap] w (RetIB .i64 w (getAll l) (getAllb l)) := by
  by_cases h : l.length % 4 = 0
  · obtain ⟨N, hN⟩ : ∃ N, l.length = 4 * N := ⟨l.length / 4, by omega⟩
    rw [hN]
    exact getAll_yes_any a cap N l w hN (by omega) (by omega) hy hb
  · have HF := Lib.hid (getAll_no h)
    have HG := Lib.hid (show getAllb l = false by cases e : getAllb l; rfl; exact absurd ((getAllb_iff l).1 e) h)
    have d : ((l.length : Int) % 4 != 0) = true := by simp; omega
    have d2 : ((l.length : Int) % 4 == 0) = false := by simp; omega
    clear hy hb
    go_enter Tryz.func104, Tryz.ntmps104
    go_wp2
    go_ret2
    exact retIB_nil HF.out HG.out (Below.refl _ _)
end Wd
end Go.Proofs.YtpoededbmdffpaaGreatDoor
