/-
  The live question of layer 7's statements: it is answered with true, and writes nothing that was there. No conditions.
-/
import Derived.Test.YtofhfgligkhoaaaConfigDefault
namespace Go.Proofs.Ytofhfgligkhoaaa
open Go.ChangeShapes Go.WideShapes Go.ChangeAt Go.RowKit Go.Deep
namespace Cf

theorem Box.fresh (w : World) : Box (w.alloc (.cells #[.int .i64 0, .int .i64 0, .int .i64 0, .int .i64 0, .int .i64 0, .int .i64 0, .int .i64 0, .int .i64 0, .int .i64 0, .int .i64 0, .int .i64 0, .int .i64 0, .int .i64 0, .int .i64 0, .int .i64 0, .int .i64 0, .int .i64 0, .int .i64 0, .int .i64 0, .int .i64 0, .int .i64 0] 24)) w.heap.size zeros := heap_alloc_new w (.cells #[.int .i64 0, .int .i64 0, .int .i64 0, .int .i64 0, .int .i64 0, .int .i64 0, .int .i64 0, .int .i64 0, .int .i64 0, .int .i64 0, .int .i64 0, .int .i64 0, .int .i64 0, .int .i64 0, .int .i64 0, .int .i64 0, .int .i64 0, .int .i64 0, .int .i64 0, .int .i64 0, .int .i64 0] 24)
theorem lay (W : World) (c : List Int) : Box ((W.alloc (.cells #[.int .i64 0, .int .i64 0, .int .i64 0, .int .i64 0, .int .i64 0, .int .i64 0, .int .i64 0, .int .i64 0, .int .i64 0, .int .i64 0, .int .i64 0, .int .i64 0, .int .i64 0, .int .i64 0, .int .i64 0, .int .i64 0, .int .i64 0, .int .i64 0, .int .i64 0, .int .i64 0, .int .i64 0] 24)).setRow W.heap.size (CA c)) W.heap.size c ∧ Below W.heap.size W ((W.alloc (.cells #[.int .i64 0, .int .i64 0, .int .i64 0, .int .i64 0, .int .i64 0, .int .i64 0, .int .i64 0, .int .i64 0, .int .i64 0, .int .i64 0, .int .i64 0, .int .i64 0, .int .i64 0, .int .i64 0, .int .i64 0, .int .i64 0, .int .i64 0, .int .i64 0, .int .i64 0, .int .i64 0, .int .i64 0] 24)).setRow W.heap.size (CA c)) :=
  ⟨Box.put (Box.fresh W), below_setRow ((Below.refl _ _).alloc (Nat.le_refl _) _) (Nat.le_refl _)⟩
def c3 : List Int := wts 3 3
def cd : List Int := c3.set 2 (-1000001)
def cg : List Int := c3.set 20 1

structure Al1 (w W : World) (b1 : Nat) : Prop where
  below : Below w.heap.size w W
  x1 : Box W b1 c3
structure Al3 (w W : World) (b1 b5 b6 : Nat) : Prop where
  below : Below w.heap.size w W
  x1 : Box W b1 c3
  x5 : Box W b5 cd
  x6 : Box W b6 cg
theorem Al1.on {w W W' : World} {b1 : Nat} (h : Al1 w W b1) (b : Below W.heap.size W W') : Al1 w W' b1 := ⟨grow h.below b, h.x1.on b⟩
theorem Al3.on {w W W' : World} {b1 b5 b6 : Nat} (h : Al3 w W b1 b5 b6) (b : Below W.heap.size W W') : Al3 w W' b1 b5 b6 := ⟨grow h.below b, h.x1.on b, h.x5.on b, h.x6.on b⟩
theorem cells_of {W : World} {b : Nat} {c : List Int} (h : Box W b c) (j : Nat) : W.frozen? ⟨b, j, none⟩ = false := IRow.frozen h j
/-- Behind the second box's mark. -/
theorem al_mark {w W U : World} {b1 b5 : Nat} (h : Al1 w U b1) (h5 : Box U b5 c3) (hW : w.heap.size ≤ b5) (hn : b1 ≠ b5) (e : W = U.setCell ⟨b5, 2, none⟩ (.int .i64 (-1000001))) : Al1 w W b1 ∧ Box W b5 cd := by
  subst e
  exact ⟨⟨h.below.setCell (p := ⟨b5, 2, none⟩) hW _, h.x1.setOther (p := ⟨b5, 2, none⟩) hn _⟩, h5.set 2 (-1000001)⟩
theorem al_mark2 {w U : World} {b1 b5 b6 : Nat} (h : Al1 w U b1) (h5 : Box U b5 cd) (h6 : Box U b6 c3) (hW : w.heap.size ≤ b6) (hn : b1 ≠ b6) (hm : b5 ≠ b6) : Al3 w (U.setCell ⟨b6, 20, none⟩ (.int .i64 1)) b1 b5 b6 :=
  ⟨h.below.setCell (p := ⟨b6, 20, none⟩) hW _, h.x1.setOther (p := ⟨b6, 20, none⟩) hn _, h5.setOther (p := ⟨b6, 20, none⟩) hm _, h6.set 20 1⟩

set_option maxHeartbeats 6400000 in
theorem alive_any (w : World) : Calls Try.prog 8 #[] w fun e w' => e = .returned (.bool true) ∧ Below w.heap.size w w' := by
  have D3 : ∀ W, Calls Try.prog 6 #[.int .i64 3] W fun e w' => e = .returned (.tuple #[.agg (CA c3), .int .i64 0]) ∧ Below W.heap.size W w' := fun W => default_yes 3 W (Or.inl rfl)
  have D5 := fun W => default_no 5 W (by decide)
  have FA := fun W => (fault_any c3 W rfl).mono fun e w' q => (show e = .returned (.string ⟨#[]⟩) ∧ Below W.heap.size W w' from ⟨q.1.trans (by rw [show fault c3 = ⟨#[]⟩ by kernel_rfl]), q.2⟩)
  have RA := fun W => (right_any c3 W rfl).mono fun e w' q => (show e = .returned (.bool true) ∧ Below W.heap.size W w' from ⟨q.1.trans (by rw [show rt c3 = true by kernel_rfl]), q.2⟩)
  have FD := fun W => (fault_any cd W rfl).mono fun e w' q => (show e = .returned (.string ⟨#[72, 105]⟩) ∧ Below W.heap.size W w' from ⟨q.1.trans (by rw [show fault cd = ⟨#[72, 105]⟩ by kernel_rfl]), q.2⟩)
  have FG := fun W => (fault_any cg W rfl).mono fun e w' q => (show e = .returned (.string ⟨#[87, 101, 105, 103, 104, 116, 115]⟩) ∧ Below W.heap.size W w' from ⟨q.1.trans (by rw [show fault cg = ⟨#[87, 101, 105, 103, 104, 116, 115]⟩ by kernel_rfl]), q.2⟩)
  have RD := fun W => (right_any cd W rfl).mono fun e w' q => (show e = .returned (.bool false) ∧ Below W.heap.size W w' from ⟨q.1.trans (by rw [show rt cd = false by kernel_rfl]), q.2⟩)
  have C1 := fun W => (covers_any c3 75 250 W rfl).mono fun e w' q => (show e = .returned (.bool true) ∧ Below W.heap.size W w' from ⟨q.1.trans (by rw [show cov c3 75 250 = true by kernel_rfl]), q.2⟩)
  have C2 := fun W => (covers_any c3 76 250 W rfl).mono fun e w' q => (show e = .returned (.bool false) ∧ Below W.heap.size W w' from ⟨q.1.trans (by rw [show cov c3 76 250 = false by kernel_rfl]), q.2⟩)
  have M1 := fun W => (most_any c3 300 W rfl).mono fun e w' q => (show e = .returned (.int .i64 50) ∧ Below W.heap.size W w' from ⟨q.1.trans (by rw [show room c3 300 = 50 by kernel_rfl]), q.2⟩)
  have M2 := fun W => (most_any c3 401 W rfl).mono fun e w' q => (show e = .returned (.int .i64 (-1)) ∧ Below W.heap.size W w' from ⟨q.1.trans (by rw [show room c3 401 = -1 by kernel_rfl]), q.2⟩)
  have M3 := fun W => (most_any cd 0 W rfl).mono fun e w' q => (show e = .returned (.int .i64 (-1)) ∧ Below W.heap.size W w' from ⟨q.1.trans (by rw [show room cd 0 = -1 by kernel_rfl]), q.2⟩)
  go_enter Try.func8, Try.ntmps8
  go_wp2_with fail
  refine (D3 _).mono ?_; rintro e w1 ⟨rfl, b1⟩
  go_wp2_with (with_reducible show wpList _ _ _ (⟨none, .store _ (.tmp 1) _, _, _, _, _⟩ :: _) _ _; refine wpList_storeC rfl _ _ rfl w1.heap.size zeros c3 rfl rfl (Box.fresh w1) rfl rfl ?_)
  have S1 := Lib.hid (show Al1 w _ w1.heap.size from ⟨grow b1 (lay w1 c3).2, (lay w1 c3).1⟩)
  have n1 : w.heap.size ≤ w1.heap.size := b1.size
  generalize (w1.alloc (.cells #[.int .i64 0, .int .i64 0, .int .i64 0, .int .i64 0, .int .i64 0, .int .i64 0, .int .i64 0, .int .i64 0, .int .i64 0, .int .i64 0, .int .i64 0, .int .i64 0, .int .i64 0, .int .i64 0, .int .i64 0, .int .i64 0, .int .i64 0, .int .i64 0, .int .i64 0, .int .i64 0, .int .i64 0] 24)).setRow w1.heap.size (CA c3) = U1 at *
  clear b1 D3
  generalize w1.heap.size = a1 at *
  refine (D5 _).mono ?_; rintro e w2 ⟨rfl, b2⟩
  have S2 := Lib.hid (S1.out.on b2)
  clear D5 S1 b2
  go_wp2_with (first
    | (with_reducible show wpList _ _ _ (⟨none, .store _ (.tmp 3) _, _, _, _, _⟩ :: _) _ _
       refine wpList_storeC rfl _ _ rfl w2.heap.size zeros zeros rfl rfl (Box.fresh w2) rfl rfl ?_
       have S3 := Lib.hid (S2.out.on (lay w2 zeros).2)
       generalize (w2.alloc (.cells #[.int .i64 0, .int .i64 0, .int .i64 0, .int .i64 0, .int .i64 0, .int .i64 0, .int .i64 0, .int .i64 0, .int .i64 0, .int .i64 0, .int .i64 0, .int .i64 0, .int .i64 0, .int .i64 0, .int .i64 0, .int .i64 0, .int .i64 0, .int .i64 0, .int .i64 0, .int .i64 0, .int .i64 0] 24)).setRow w2.heap.size (CA zeros) = U3 at *)
    | (with_reducible show wpList _ _ _ (⟨some 15, _, _, _, _, _⟩ :: _) _ _
       refine wpList_loadC rfl _ rfl a1 c3 rfl S3.out.x1 rfl ?_)
    | (with_reducible show wpList _ _ _ (⟨none, .store _ (.tmp 5) _, _, _, _, _⟩ :: _) _ _
       refine wpList_storeC rfl _ _ rfl U3.heap.size zeros c3 rfl rfl (Box.fresh U3) rfl rfl ?_
       have S5 := Lib.hid (S3.out.on (lay U3 c3).2)
       have X5 := Lib.hid (lay U3 c3).1
       have n5 := Lib.hid (show w.heap.size ≤ U3.heap.size from S3.out.below.size)
       have e5 := Lib.hid (show a1 ≠ U3.heap.size from Nat.ne_of_lt S3.out.x1.lt)
       generalize (U3.alloc (.cells #[.int .i64 0, .int .i64 0, .int .i64 0, .int .i64 0, .int .i64 0, .int .i64 0, .int .i64 0, .int .i64 0, .int .i64 0, .int .i64 0, .int .i64 0, .int .i64 0, .int .i64 0, .int .i64 0, .int .i64 0, .int .i64 0, .int .i64 0, .int .i64 0, .int .i64 0, .int .i64 0, .int .i64 0] 24)).setRow U3.heap.size (CA c3) = U5 at *
       clear S3
       generalize U3.heap.size = a5 at *
       have y5 := X5.out.at rfl 2 (by omega)
       have z5 := cells_of X5.out 2)
    | (with_reducible show wpList _ _ _ (⟨some 17, _, _, _, _, _⟩ :: _) _ _
       obtain ⟨s6, x6⟩ := al_mark S5.out X5.out n5.out e5.out rfl
       have S6 := Lib.hid s6
       have X6 := Lib.hid x6
       clear s6 x6 y5 z5 S5 X5
       generalize U5.setCell ⟨a5, 2, none⟩ (.int .i64 (-1000001)) = U6 at *
       refine wpList_loadC rfl _ rfl a1 c3 rfl S6.out.x1 rfl ?_)
    | (with_reducible show wpList _ _ _ (⟨none, .store _ (.tmp 6) _, _, _, _, _⟩ :: _) _ _
       refine wpList_storeC rfl _ _ rfl U6.heap.size zeros c3 rfl rfl (Box.fresh U6) rfl rfl ?_
       have S7 := Lib.hid (S6.out.on (lay U6 c3).2)
       have X7 := Lib.hid (lay U6 c3).1
       have Y7 := Lib.hid (X6.out.on (lay U6 c3).2)
       have n7 := Lib.hid (show w.heap.size ≤ U6.heap.size from S6.out.below.size)
       have e7 := Lib.hid (show a1 ≠ U6.heap.size from Nat.ne_of_lt S6.out.x1.lt)
       have f7 := Lib.hid (show a5 ≠ U6.heap.size from Nat.ne_of_lt X6.out.lt)
       generalize (U6.alloc (.cells #[.int .i64 0, .int .i64 0, .int .i64 0, .int .i64 0, .int .i64 0, .int .i64 0, .int .i64 0, .int .i64 0, .int .i64 0, .int .i64 0, .int .i64 0, .int .i64 0, .int .i64 0, .int .i64 0, .int .i64 0, .int .i64 0, .int .i64 0, .int .i64 0, .int .i64 0, .int .i64 0, .int .i64 0] 24)).setRow U6.heap.size (CA c3) = U7 at *
       clear S6 X6
       generalize U6.heap.size = a6 at *
       have y7 := X7.out.at rfl 20 (by omega)
       have z7 := cells_of X7.out 20)
    | (with_reducible show wpList _ _ _ (⟨some 27, _, _, _, _, _⟩ :: _) _ _
       have S8 := Lib.hid (al_mark2 S7.out Y7.out X7.out n7.out e7.out f7.out)
       clear y7 z7 S7 X7 Y7
       generalize U7.setCell ⟨a6, 20, none⟩ (.int .i64 1) = U8 at *
       refine wpList_loadW rfl _ rfl a1 c3 rfl S8.out.x1 rfl ?_))
  refine (FA _).mono ?_; rintro e v0 ⟨rfl, b0⟩
  have S9 := Lib.hid (S8.out.on b0)
  clear FA S8 b0
  go_wp2_with (with_reducible show wpList _ _ _ (⟨some 32, _, _, _, _, _⟩ :: _) _ _; refine wpList_loadW rfl _ rfl a1 c3 rfl S9.out.x1 rfl ?_)
  refine (RA _).mono ?_; rintro e v1 ⟨rfl, b1⟩
  have S10 := Lib.hid (S9.out.on b1)
  clear RA S9 b1
  go_wp2_with (with_reducible show wpList _ _ _ (⟨some 36, _, _, _, _, _⟩ :: _) _ _; refine wpList_loadW rfl _ rfl a5 cd rfl S10.out.x5 rfl ?_)
  refine (FD _).mono ?_; rintro e v2 ⟨rfl, b2⟩
  have S11 := Lib.hid (S10.out.on b2)
  clear FD S10 b2
  go_wp2_with (with_reducible show wpList _ _ _ (⟨some 41, _, _, _, _, _⟩ :: _) _ _; refine wpList_loadW rfl _ rfl a6 cg rfl S11.out.x6 rfl ?_)
  refine (FG _).mono ?_; rintro e v3 ⟨rfl, b3⟩
  have S12 := Lib.hid (S11.out.on b3)
  clear FG S11 b3
  go_wp2_with (with_reducible show wpList _ _ _ (⟨some 46, _, _, _, _, _⟩ :: _) _ _; refine wpList_loadW rfl _ rfl a5 cd rfl S12.out.x5 rfl ?_)
  refine (RD _).mono ?_; rintro e v4 ⟨rfl, b4⟩
  have S13 := Lib.hid (S12.out.on b4)
  clear RD S12 b4
  go_wp2_with (with_reducible show wpList _ _ _ (⟨some 51, _, _, _, _, _⟩ :: _) _ _; refine wpList_loadW rfl _ rfl a1 c3 rfl S13.out.x1 rfl ?_)
  refine (C1 _).mono ?_; rintro e v5 ⟨rfl, b5⟩
  have S14 := Lib.hid (S13.out.on b5)
  clear C1 S13 b5
  go_wp2_with (with_reducible show wpList _ _ _ (⟨some 55, _, _, _, _, _⟩ :: _) _ _; refine wpList_loadW rfl _ rfl a1 c3 rfl S14.out.x1 rfl ?_)
  refine (C2 _).mono ?_; rintro e v6 ⟨rfl, b6⟩
  have S15 := Lib.hid (S14.out.on b6)
  clear C2 S14 b6
  go_wp2_with (with_reducible show wpList _ _ _ (⟨some 60, _, _, _, _, _⟩ :: _) _ _; refine wpList_loadW rfl _ rfl a1 c3 rfl S15.out.x1 rfl ?_)
  refine (M1 _).mono ?_; rintro e v7 ⟨rfl, b7⟩
  have S16 := Lib.hid (S15.out.on b7)
  clear M1 S15 b7
  go_wp2_with (with_reducible show wpList _ _ _ (⟨some 65, _, _, _, _, _⟩ :: _) _ _; refine wpList_loadW rfl _ rfl a1 c3 rfl S16.out.x1 rfl ?_)
  refine (M2 _).mono ?_; rintro e v8 ⟨rfl, b8⟩
  have S17 := Lib.hid (S16.out.on b8)
  clear M2 S16 b8
  go_wp2_with (with_reducible show wpList _ _ _ (⟨some 70, _, _, _, _, _⟩ :: _) _ _; refine wpList_loadW rfl _ rfl a5 cd rfl S17.out.x5 rfl ?_)
  refine (M3 _).mono ?_; rintro e v9 ⟨rfl, b9⟩
  have S18 := Lib.hid (S17.out.on b9)
  clear M3 S17 b9
  go_wp2_with fail
  go_ret
  exact ⟨rfl, S18.out.below⟩
end Cf
end Go.Proofs.Ytofhfgligkhoaaa
