/-
  The live question of layer 9 is answered with true: a contract by walking the Go text; a room and its watch, while the world goes on. No conditions.
-/
import Derived.Test.YthglaaidbelhoaaStuckCome
import Derived.Test.YthglaaidbelhoaaStuckVote
import Derived.Test.YthglaaidbelhoaaOrderRef2
namespace Go.Proofs.Ythglaaidbelhoaa
open Go.ChangeShapes Go.WideShapes Go.ChangeAt Go.RowKit Go.Deep
namespace Sk
open Jp (val)

/-- A room, and a watch of it, new since w. -/
structure Pair (w W : World) (r g P : Nat) (bound : Int) (V : List Int) (last run : Int) : Prop where
  below : Below w.heap.size w W
  room : Room W r P bound V
  wat : VRow W g 57 (wt r last run)
  ge1 : w.heap.size ≤ r
  ge2 : w.heap.size ≤ g
  ne : r ≠ g
section
variable {w W W1 : World} {r g P : Nat} {bound : Int} {V V' : List Int} {last run last' run' : Int}
theorem pair_new (w W : World) (P : Nat) (bound : Int) (h1 : 1 ≤ P) (h2 : P ≤ 15) (b : Below w.heap.size w W) :
    Pair w ((W.alloc (.cells (cellsI .i64 (room ((P : Int) + 1) bound (List.replicate 15 0) 0 0)).toArray 55)).alloc (.cells (wt W.heap.size 0 0).toArray 57)) W.heap.size (W.heap.size + 1) P bound [] 0 0 := by
  have hz := b.size
  have h := VRow.new (W.alloc (.cells (cellsI .i64 (room ((P : Int) + 1) bound (List.replicate 15 0) 0 0)).toArray 55)) (wt W.heap.size 0 0) 57
  rw [World.size_alloc] at h
  have b1 := b.alloc hz (.cells (cellsI .i64 (room ((P : Int) + 1) bound (List.replicate 15 0) 0 0)).toArray 55)
  exact ⟨b1.alloc b1.size _, (room_new W bound h1 h2).alloc _, h, hz, by omega, by omega⟩
theorem Pair.on (p : Pair w W r g P bound V last run) (b : Below W.heap.size W W1) : Pair w W1 r g P bound V last run :=
  ⟨grow p.below b, p.room.below b p.room.lt, p.wat.below b p.wat.lt, p.ge1, p.ge2, p.ne⟩
theorem Pair.take (p : Pair w W r g P bound V last run) (o : Only r W W1) (h : Room W1 r P bound V') : Pair w W1 r g P bound V' last run :=
  ⟨o.below p.below p.below.size p.ge1, h, p.wat.only o (Ne.symm p.ne), p.ge1, p.ge2, p.ne⟩
theorem Pair.turn (p : Pair w W r g P bound V last run) (o : Only g W W1) (h : VRow W1 g 57 (wt r last' run')) : Pair w W1 r g P bound V last' run' :=
  ⟨o.below p.below p.below.size p.ge2, p.room.only o p.ne, h, p.ge1, p.ge2, p.ne⟩
end

/-- A room of a window, and a watch of it. -/
theorem new_is (P : Nat) (x bound : Int) (w : World) (hx : (P : Int) + 1 = x) (h1 : 1 ≤ P) (h2 : P ≤ 15) (h3 : 0 ≤ bound) (h4 : bound ≤ 2147483647) :
    Calls Try.prog 6 #[.int .i64 x, .int .i64 bound] w fun e w' => e = .returned (.tuple #[.pointer (some ⟨w.heap.size, 0, none⟩), .int .i64 0]) ∧
      w' = w.alloc (.cells (cellsI .i64 (room ((P : Int) + 1) bound (List.replicate 15 0) 0 0)).toArray 55) := hx ▸ new_yes P bound w h1 h2 h3 h4
theorem watch_is (w W : World) (P : Nat) (bound : Int) (h1 : 1 ≤ P) (h2 : P ≤ 15) (b : Below w.heap.size w W) :
    Calls Try.prog 8 #[.pointer (some ⟨W.heap.size, 0, none⟩)] (W.alloc (.cells (cellsI .i64 (room ((P : Int) + 1) bound (List.replicate 15 0) 0 0)).toArray 55)) fun e w' =>
      ∃ g, e = .returned (.pointer (some ⟨g, 0, none⟩)) ∧ Pair w w' W.heap.size g P bound [] 0 0 := by
  refine (watch_any W.heap.size _).mono ?_
  rintro e w' ⟨rfl, rfl⟩
  refine ⟨_, rfl, ?_⟩
  rw [World.size_alloc]
  exact pair_new w W P bound h1 h2 b
/-- What Come tells, its words named. -/
theorem come_is (w W : World) (r g P : Nat) (bound : Int) (V : List Int) (last run n : Int) (b : Bool) (x : Int) (hn : val n = true) (hb : froz P bound V last run n = b) (hx : Sk.run ((P : Int) + 1) last run n = x) (h0 : 0 ≤ run) (h1 : run ≤ (P : Int) + 1) (p : Pair w W r g P bound V last run) :
    Calls Try.prog 13 #[.pointer (some ⟨g, 0, none⟩), .int .i64 n] W fun e w' => e = .returned (.tuple #[.bool b, .int .i64 0]) ∧ Pair w w' r g P bound V n x := by
  subst hb hx
  refine (come_yes g r P bound last run n V W hn p.room p.wat p.ne h0 h1).mono ?_
  rintro e w' ⟨rfl, h2, h3⟩
  exact ⟨rfl, p.turn h3 h2⟩
theorem vote_is (w W : World) (r g P : Nat) (bound : Int) (V : List Int) (last run n x : Int) (V' : List Int) (hx : Jp.ce n = x) (hV : vv P V n = V') (p : Pair w W r g P bound V last run) :
    Calls Try.prog 10 #[.pointer (some ⟨r, 0, none⟩), .int .i64 n] W fun e w' => e = .returned (.int .i64 x) ∧ Pair w w' r g P bound V' last run := by
  subst hx hV
  refine (vote_any r P bound V n W p.room).mono ?_
  rintro e w' ⟨rfl, h2, h3⟩
  exact ⟨rfl, p.take h3 h2⟩
theorem miss_is (w W : World) (r g P : Nat) (bound : Int) (V : List Int) (last run : Int) (p : Pair w W r g P bound V last run) :
    Calls Try.prog 12 #[.pointer (some ⟨g, 0, none⟩)] W fun e w' => e = .returned (.tuple #[]) ∧ Pair w w' r g P bound V last 0 := by
  refine (miss_any g r last run W p.wat).mono ?_
  rintro e w' ⟨rfl, h2, h3⟩
  exact ⟨rfl, p.turn h3 h2⟩

set_option maxHeartbeats 3200000 in
theorem alive_any (w : World) :
    Calls Try.prog 5 #[] w fun e w' => e = .returned (.bool true) ∧ Below w.heap.size w w' := by
  have C1 := Lib.hid (new_is 2 3 5 w (by decide) (by decide) (by decide) (by decide) (by decide))
  have C2 := Lib.hid (watch_is w w 2 5 (by decide) (by decide) (Below.refl _ _))
  have C3 := Lib.hid (fun W r g p => come_is w W r g 2 5 [] 0 0 7 false 1 (by decide) (by decide) (by decide) (by decide) (by decide) p)
  have C4 := Lib.hid (fun W r g p => vote_is w W r g 2 5 [] 7 1 0 0 [0] (by decide) (by decide) p)
  have C5 := Lib.hid (fun W r g p => come_is w W r g 2 5 [0] 7 1 7 false 2 (by decide) (by decide) (by decide) (by decide) (by decide) p)
  have C6 := Lib.hid (fun W r g p => vote_is w W r g 2 5 [0] 7 2 6 0 [0, 6] (by decide) (by decide) p)
  have C7 := Lib.hid (fun W r g p => come_is w W r g 2 5 [0, 6] 7 2 7 true 3 (by decide) (by decide) (by decide) (by decide) (by decide) p)
  have C8 := Lib.hid (fun W r g h => run_any g r 7 3 W h)
  have C9 := Lib.hid (fun W r g p => vote_is w W r g 2 5 [0, 6] 7 3 6 0 [6, 6] (by decide) (by decide) p)
  have C10 := Lib.hid (fun W r g p => come_is w W r g 2 5 [6, 6] 7 3 7 false 3 (by decide) (by decide) (by decide) (by decide) (by decide) p)
  have C11 := Lib.hid (fun W r g p => miss_is w W r g 2 5 [6, 6] 7 3 p)
  have C12 := Lib.hid (fun W r g h => run_any g r 7 0 W h)
  have C13 := Lib.hid (fun W r g p => vote_is w W r g 2 5 [6, 6] 7 0 2147483648 1 [6, 6] (by decide) (by decide) p)
  have C14 := Lib.hid (fun W => new_no 1 0 W (by decide))
  have C15 := Lib.hid (fun W r h => votes_any r 2 5 [6, 6] W h)
  have C16 := Lib.hid (fun W a b ca cb h1 h2 => Od.ints_any a b ca cb [6, 6] [6, 6] W (by decide) (by decide) h1 h2)
  have C17 := Lib.hid (fun W r h => moved_any r 2 5 [6, 6] W h)
  rw [show moved 2 5 [6, 6] = false by decide] at C17
  rw [Od.same_self] at C16
  go_enter Try.func5, Try.ntmps5
  go_wp2_with fail
  refine C1.out.mono ?_; rintro e w1 ⟨rfl, rfl⟩
  clear C1
  go_wp2_with fail
  refine C2.out.mono ?_; rintro e w2 ⟨g, rfl, p⟩
  have K2 := Lib.hid p; clear p C2
  generalize w.heap.size = r at K2 ⊢
  go_wp2_with fail
  refine (C3.out _ _ _ K2.out).mono ?_; rintro e w3 ⟨rfl, p⟩
  have K3 := Lib.hid p; clear K2 p C3
  go_wp2_with fail
  refine (C4.out _ _ _ K3.out).mono ?_; rintro e w4 ⟨rfl, p⟩
  have K4 := Lib.hid p; clear K3 p C4
  go_wp2_with fail
  refine (C5.out _ _ _ K4.out).mono ?_; rintro e w5 ⟨rfl, p⟩
  have K5 := Lib.hid p; clear K4 p C5
  go_wp2_with fail
  refine (C6.out _ _ _ K5.out).mono ?_; rintro e w6 ⟨rfl, p⟩
  have K6 := Lib.hid p; clear K5 p C6
  go_wp2_with fail
  refine (C7.out _ _ _ K6.out).mono ?_; rintro e w7 ⟨rfl, p⟩
  have K7 := Lib.hid p; clear K6 p C7
  go_wp2_with fail
  refine (C8.out _ _ _ K7.out.wat).mono ?_; rintro e w8 ⟨rfl, rfl⟩
  clear C8
  go_wp2_with fail
  refine (C9.out _ _ _ K7.out).mono ?_; rintro e w9 ⟨rfl, p⟩
  have K9 := Lib.hid p; clear K7 p C9
  go_wp2_with fail
  refine (C10.out _ _ _ K9.out).mono ?_; rintro e w10 ⟨rfl, p⟩
  have K10 := Lib.hid p; clear K9 p C10
  go_wp2_with fail
  refine (C11.out _ _ _ K10.out).mono ?_; rintro e w11 ⟨rfl, p⟩
  have K11 := Lib.hid p; clear K10 p C11
  go_wp2_with fail
  refine (C12.out _ _ _ K11.out.wat).mono ?_; rintro e w12 ⟨rfl, rfl⟩
  clear C12
  go_wp2_with fail
  refine (C13.out _ _ _ K11.out).mono ?_; rintro e w13 ⟨rfl, p⟩
  have K13 := Lib.hid p; clear K11 p C13
  go_wp2_with fail
  refine (C14.out _).mono ?_; rintro e w14 ⟨rfl, rfl⟩
  clear C14
  go_wp2_with fail
  refine (C15.out _ _ K13.out.room).mono ?_; rintro e w15 ⟨a15, c15, rfl, i15, b15⟩
  have K15 := Lib.hid (K13.out.on b15); clear K13 C15
  go_wp2_with fail
  have b16 := (Below.refl w15.heap.size w15).alloc (Nat.le_refl _) (.cells #[.int .i64 6, .int .i64 6] 3)
  refine (C16.out _ _ _ _ _ (i15.below b16) (ints2 w15 3 6 6)).mono ?_; rintro e w16 ⟨rfl, b17⟩
  have K16 := Lib.hid ((K15.out.on b16).on b17); clear K15 C16 b16 b17 i15
  go_wp2_with fail
  refine (C17.out _ _ K16.out.room).mono ?_; rintro e w17 ⟨rfl, b18⟩
  go_wp2
  go_ret
  exact ⟨rfl, grow K16.out.below b18⟩
end Sk
end Go.Proofs.Ythglaaidbelhoaa
