/-
  The live question of layer 15, and what its rule and state make: contracts by walking the Go text. No conditions.
-/
import Derived.Test.YtcpfdohodadcaaaLatchRefRun
import Derived.Test.YtcpfdohodadcaaaSame
namespace Go.Proofs.Ytcpfdohodadcaaa
open Go.ChangeShapes Go.WideShapes Go.ChangeAt Go.RowKit Go.Deep
namespace Lc

theorem bools_row {w : World} {g : Nat} {t : TypeId} {l : List Bool} (h : VRow w g t (l.map Value.bool)) : BoolsAt w (some ⟨g, 0, none⟩) l :=
  Or.inr ⟨g, 0, rfl, fun i hi => by
    have := h.cell i (v := .bool (l.getD i false)) (by simp [List.getD_eq_getElem?_getD, hi])
    rw [Nat.zero_add]; exact this⟩
theorem ints_row {w : World} {g : Nat} {t : TypeId} {l : List Int} (h : VRow w g t (cellsI .i64 l)) : IntsAt .i64 w (some ⟨g, 0, none⟩) l := IRow.ints h
/-- A struct's variable, made and stored. -/
theorem lay_box {W w1 : World} (b : Below W.heap.size W w1) (cs cs' : List Value) (t : TypeId) : Below W.heap.size W ((w1.alloc (.cells cs.toArray t)).setRow w1.heap.size cs'.toArray) ∧ VRow ((w1.alloc (.cells cs.toArray t)).setRow w1.heap.size cs'.toArray) w1.heap.size t cs' :=
  ⟨Below.put (b.alloc b.size _) b.size _, (VRow.new w1 cs t).put cs'⟩

theorem carry {w w' : World} {g : Nat} {t : TypeId} {cs : List Value} (h : VRow w g t cs) (o : Obj) (b : Below (w.alloc o).heap.size (w.alloc o) w') : VRow w' g t cs := (h.alloc o).below b (h.alloc o).lt
theorem onB {w w' : World} {g : Nat} {t : TypeId} {cs : List Value} (h : VRow w g t cs) (b : Below w.heap.size w w') : VRow w' g t cs := h.below b h.lt
theorem carryI {k : IntKind} {w w' : World} {a : Option Addr} {l : List Int} (h : IntsAt k w a l) (o : Obj) (b : Below (w.alloc o).heap.size (w.alloc o) w') : IntsAt k w' a l := (h.below ((Below.refl _ _).alloc (Nat.le_refl _) o)).below b
def bl : List Bool := [true, false, true, true, false, true, false, false, true, true, false, false]
def xl : List Int := [0, 0, 0, 1, 0, 0, 0, 2, 0, 3, 0, 0]
theorem bl_laid (w : World) : BoolsAt ((w.alloc (.cells #[.int .i64 2, .int .i64 2, .int .i64 1] 23)).alloc (.cells #[.bool true, .bool false, .bool true, .bool true, .bool false, .bool true, .bool false, .bool false, .bool true, .bool true, .bool false, .bool false] 4)) (some ⟨w.heap.size + 1, 0, none⟩) bl := by
  have := VRow.new (w.alloc (.cells #[.int .i64 2, .int .i64 2, .int .i64 1] 23)) (bl.map Value.bool) 4
  rw [show (w.alloc (.cells #[.int .i64 2, .int .i64 2, .int .i64 1] 23)).heap.size = w.heap.size + 1 by simp] at this
  exact bools_row this
theorem run_live (W : World) (a : Option Addr) (hb : BoolsAt W a bl) : Calls Try.prog 16 #[rlv 2 2 1, .slice a 12 12] W fun e w' => ∃ a' c, e = .returned (.tuple #[stv ⟨true, true, 2, 0, 1⟩, .slice a' 12 c, .int .i64 0]) ∧ IntsAt .i64 w' a' xl ∧ Below W.heap.size W w' := by
  refine (run_any 2 2 1 a 12 bl W (by decide) hb).mono ?_
  rintro e w' ⟨a', n, c, rfl, rfl, _, _, hi, b⟩
  exact ⟨a', c, rfl, hi, b⟩
theorem run_dead (W : World) : Calls Try.prog 16 #[rlv 0 0 0, .slice none 0 0] W fun e w' => ∃ a' c, e = .returned (.tuple #[stv zer, .slice a' 0 c, .int .i64 1]) ∧ Below W.heap.size W w' := by
  refine (run_any 0 0 0 none 0 [] W (by decide) (Or.inl rfl)).mono ?_
  rintro e w' ⟨a', n, c, rfl, rfl, _, _, hi, b⟩
  exact ⟨a', c, rfl, b⟩
theorem next_dead (W : World) : Calls Try.prog 7 #[rlv 2 2 1, stv ⟨false, true, 0, 0, 0⟩, .bool true] W fun e w' => e = .returned (.tuple #[stv zer, .int .i64 0, .int .i64 1]) ∧ Below W.heap.size W w' :=
  (next_any 2 2 1 ⟨false, true, 0, 0, 0⟩ true W).mono fun _ _ h => h
theorem next_live (W : World) : Calls Try.prog 7 #[rlv 2 2 1, stv ⟨false, false, 1, 0, 0⟩, .bool true] W fun e w' => e = .returned (.tuple #[stv ⟨true, false, 2, 0, 0⟩, .int .i64 1, .int .i64 0]) ∧ Below W.heap.size W w' :=
  (next_any 2 2 1 ⟨false, false, 1, 0, 0⟩ true W).mono fun _ _ h => h
theorem fine_live (W : World) : Calls Try.prog 14 #[rlv 2 2 1, stv ⟨true, true, 2, 0, 1⟩] W fun e w' => e = .returned (.bool true) ∧ Below W.heap.size W w' :=
  (fine_any 2 2 1 ⟨true, true, 2, 0, 1⟩ W).mono fun _ _ h => h
theorem right_live (W : World) : Calls Try.prog 12 #[rlv 2 2 1] W fun e w' => e = .returned (.bool true) ∧ Below W.heap.size W w' :=
  (right_any 2 2 1 W).mono fun _ _ h => h
theorem sizeR : (Try.prog.info? 23).map (·.size) = some 3 := by kernel_rfl

set_option maxHeartbeats 3200000 in
theorem alive_any (w : World) : Calls Try.prog 11 #[] w fun e w' => e = .returned (.bool true) ∧ Below w.heap.size w w' := by
  have CR := run_live
  have CD := run_dead
  have ND := next_dead
  have NL := next_live
  have CF := fine_live
  have CG := right_live
  unfold rlv stv at *
  unfold zer at *
  go_enter Try.func11, Try.ntmps11
  go_wp2_with fail
  refine (CR _ _ (bl_laid w)).mono ?_
  rintro e w1 ⟨a1, c1, rfl, i1, b1⟩
  have B1 := Lib.hid (grow_alloc ((Below.refl w.heap.size w).alloc (Nat.le_refl _) _) b1)
  have R1 := Lib.hid (carry (VRow.new w (rlr 2 2 1) 23) _ b1)
  have I1 := Lib.hid i1
  clear b1 i1 CR
  go_wp2_with (((with_reducible show wpList _ _ _ (⟨some 23, _, _, _, _, _⟩ :: _) _ _); refine VB.loaded (cs := rlr 2 2 1) rfl _ rfl w.heap.size rfl (R1.out.alloc _) Try.underlying23 rfl sizeR ?_))
  refine (ND _).mono ?_
  rintro e w2 ⟨rfl, b2⟩
  have B2 := Lib.hid (grow_alloc B1.out b2)
  have R2 := Lib.hid (carry R1.out _ b2)
  have S2 := Lib.hid (onB (VRow.new w1 (str ⟨true, true, 2, 0, 1⟩) 25) b2)
  have I2 := Lib.hid (carryI I1.out _ b2)
  clear b2 B1 R1 I1 ND
  go_wp2_with fail
  refine (CD _).mono ?_
  rintro e w3 ⟨a3, c3, rfl, b3⟩
  have B3 := Lib.hid (grow_alloc B2.out b3)
  have R3 := Lib.hid (carry R2.out _ b3)
  have S3 := Lib.hid (carry S2.out _ b3)
  have I3 := Lib.hid (carryI I2.out _ b3)
  clear b3 B2 R2 S2 I2 CD
  go_wp2_with (((with_reducible show wpList _ _ _ (⟨some 36, _, _, _, _, _⟩ :: _) _ _); refine VB.loaded (cs := rlr 2 2 1) rfl _ rfl w.heap.size rfl (R3.out.alloc _) Try.underlying23 rfl sizeR ?_))
  refine (NL _).mono ?_
  rintro e w4 ⟨rfl, b4⟩
  have B4 := Lib.hid (grow_alloc B3.out b4)
  have R4 := Lib.hid (carry R3.out _ b4)
  have S4 := Lib.hid (carry S3.out _ b4)
  have I4 := Lib.hid (carryI I3.out _ b4)
  clear b4 B3 R3 S3 I3 NL
  have LA := S4.out.alloc (.cells #[.bool true, .bool false, .int .i64 2, .int .i64 0, .int .i64 0] 25)
  obtain ⟨q0, q1, q2, q3, q4⟩ := st_cells LA
  clear LA
  go_wp2_with fail
  have LI := ints_row (l := xl) (VRow.new (w4.alloc (.cells #[.bool true, .bool false, .int .i64 2, .int .i64 0, .int .i64 0] 25)) (cellsI .i64 xl) 3)
  have LJ := (I4.out.below ((Below.refl _ w4).alloc (Nat.le_refl _) (.cells #[.bool true, .bool false, .int .i64 2, .int .i64 0, .int .i64 0] 25))).below ((Below.refl _ (w4.alloc (.cells #[.bool true, .bool false, .int .i64 2, .int .i64 0, .int .i64 0] 25))).alloc (Nat.le_refl _) (.cells (cellsI .i64 xl).toArray 3))
  rw [show (w4.alloc (.cells #[.bool true, .bool false, .int .i64 2, .int .i64 0, .int .i64 0] 25)).heap.size = w4.heap.size + 1 by simp] at LI
  refine (Sm.ints_any a1 (some ⟨w4.heap.size + 1, 0, none⟩) c1 12 xl xl _ (by decide) (by decide) LJ LI).mono ?_
  rintro e w5 ⟨rfl, b5⟩
  clear LI LJ
  have BB := (Below.refl _ (w4.alloc (.cells #[.bool true, .bool false, .int .i64 2, .int .i64 0, .int .i64 0] 25))).alloc (Nat.le_refl _) (.cells (cellsI .i64 xl).toArray 3)
  have BC := BB.trans (b5.mono (by simp))
  have B5 := Lib.hid (grow_alloc B4.out BC)
  have R5 := Lib.hid (carry R4.out _ BC)
  have S5 := Lib.hid (carry S4.out _ BC)
  have T5 := onB (VRow.new w4 (str ⟨true, false, 2, 0, 0⟩) 25) BC
  obtain ⟨p0, p1, p2, p3, p4⟩ := st_cells T5
  obtain ⟨r0, r1, r2⟩ := rl_cells R5.out
  obtain ⟨s0, s1, s2, s3, s4⟩ := st_cells S5.out
  clear b5 BB BC T5 B4 R4 S4 I4 q0 q1 q2 q3 q4
  rw [Sm.same_self]
  go_wp2_with fail
  refine (CF _).mono ?_
  rintro e w6 ⟨rfl, b6⟩
  have B6 := Lib.hid (grow B5.out b6)
  clear r0 r1 r2
  obtain ⟨r0, r1, r2⟩ := rl_cells (R5.out.below b6 R5.out.lt)
  clear b6
  go_wp2_with fail
  refine (CG _).mono ?_
  rintro e w7 ⟨rfl, b7⟩
  have B7 := Lib.hid (grow B6.out b7)
  clear b7
  go_wp2_with fail
  go_ret
  exact ⟨rfl, B7.out⟩

theorem rule_any (L C B : Int) (w : World) : Calls Try.prog 9 #[rlv L C B] w fun e w' => e = .returned (rlv L C B) ∧ Below w.heap.size w w' := by
  have BB := Lib.hid (((Below.refl w.heap.size w).alloc (Nat.le_refl _) (.cells #[.int .i64 L, .int .i64 C, .int .i64 B] 23)).alloc (by simp) (.cells #[.int .i64 L, .int .i64 C, .int .i64 B] 32))
  unfold rlv
  go_enter Try.func9, Try.ntmps9
  go_wp2
  go_returns
  exact ⟨rfl, BB.out⟩
theorem state_any (s : St) (w : World) : Calls Try.prog 10 #[stv s] w fun e w' => e = .returned (stv s) ∧ Below w.heap.size w w' := by
  have BB := Lib.hid (((Below.refl w.heap.size w).alloc (Nat.le_refl _) (.cells #[.bool s.la, .bool s.ou, .int .i64 s.st, .int .i64 s.cl, .int .i64 s.bk] 25)).alloc (by simp) (.cells #[.bool s.la, .bool s.ou, .int .i64 s.st, .int .i64 s.cl, .int .i64 s.bk] 29))
  unfold stv
  go_enter Try.func10, Try.ntmps10
  go_wp2
  go_returns
  exact ⟨rfl, BB.out⟩
end Lc
end Go.Proofs.Ytcpfdohodadcaaa
