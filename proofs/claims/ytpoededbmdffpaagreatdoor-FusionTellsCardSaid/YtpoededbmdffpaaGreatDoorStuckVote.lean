/-
  What Vote of package stuck does: its contract by walking the Go text. Conditions: where the room lies.
-/
import Derived.Test.YtpoededbmdffpaaGreatDoorStuckWalks
namespace Go.Proofs.YtpoededbmdffpaaGreatDoor
set_option maxRecDepth 100000
open Go.ChangeShapes Go.WideShapes Go.ChangeAt Go.RowKit Go.Deep
namespace Sk
open Fx (ret_bool)
open Jp (val)
theorem vote_no (g : Nat) (n : Int) (w : World) (hn : val n = false) :
    Calls Tryz.prog 172 #[.pointer (some ⟨g, 0, none⟩), .int .i64 n] w fun e w' => e = .returned (.int .i64 1) ∧ w = w' := by
  have V := fun W => value_any n W
  rw [hn] at V
  go_enter Tryz.func172, Tryz.ntmps172
  go_wp2_with (go_at_call 195; (refine (V _).mono ?_; rintro e w' ⟨rfl, rfl⟩))
  go_ret
  exact ⟨rfl, rfl⟩
/-- Behind the last store. -/
theorem vote_end {w W : World} {g P up cnt : Nat} {bound x : Int} {ring V : List Int} (RV : Ring P ring up V) (R : IRow .i64 W g 222 (room ((P : Int) + 1) bound ring up cnt)) (O : But (· = g) w W) (hx : x = (V.length : Int)) :
    Room ((W.setCell ⟨g, 18, none⟩ (.int .i64 x)).drew) g P bound V ∧ Only g w ((W.setCell ⟨g, 18, none⟩ (.int .i64 x)).drew) := by
  subst hx
  refine ⟨⟨ring, up, RV, ?_⟩, (O.setCell (p := ⟨g, 18, none⟩) (Or.inl rfl) _).drew⟩
  exact room_set_count RV.len (V.length : Int) ▸ (R.set 18 _).drew
set_option maxHeartbeats 3200000 in
theorem vote_yes (g P : Nat) (bound : Int) (V : List Int) (n : Int) (w : World) (hn : val n = true) (hR : Room w g P bound V) :
    Calls Tryz.prog 172 #[.pointer (some ⟨g, 0, none⟩), .int .i64 n] w fun e w' => e = .returned (.int .i64 0) ∧ Room w' g P bound (lastN P (V ++ [n])) ∧ Only g w w' := by
  have VA := fun W => value_any n W
  rw [hn] at VA
  obtain ⟨ring, next, hr, R⟩ := hR
  have hl := hr.len
  have nx := hr.nx
  have p15 := hr.p15
  have le := hr.le
  have hl2 : (ring.set next n).length = 15 := by simpa using hl
  have HR := Lib.hid hr
  have c0 := R.cell 0 (by rw [room_len hl]; omega)
  have c17 := R.cell 17 (by rw [room_len hl]; omega)
  have ck := R.cell (2 + next) (by rw [room_len hl]; omega)
  rw [room_next hl] at c17
  have fk := R.frozen (2 + next)
  have nx' : (next : Int) < 15 := by omega
  have R1 := Lib.hid (show IRow .i64 ((w.setCell ⟨g, 2 + next, none⟩ (.int .i64 n)).drew) g 222 (room ((P : Int) + 1) bound (ring.set next n) next V.length) from (room_set_ring next (by omega) hl n) ▸ (R.set (2 + next) n).drew)
  have O1 := Lib.hid (show But (· = g) w ((w.setCell ⟨g, 2 + next, none⟩ (.int .i64 n)).drew) from ((But.refl (· = g) w).setCell (p := ⟨g, 2 + next, none⟩) (Or.inl rfl) _).drew)
  have CP := fun W h => places_cell g P W p15 h
  have UT := up_tmod nx
  have LT : min ((V.length : Int) + 1) P = ((lastN P (V ++ [n])).length : Int) := by rw [lastN_len]; simp; omega
  have RV := Lib.hid (hr.vote n)
  clear hn hr R
  go_enter Tryz.func172, Tryz.ntmps172
  go_wp2_with (go_at_call 195; (refine (VA _).mono ?_; rintro e w' ⟨rfl, rfl⟩))
  go_region
  clear c0 c17 ck fk nx' VA
  go_wp2_with fail
  generalize (w.setCell ⟨g, 2 + next, none⟩ (.int .i64 n)).drew = W1 at *
  have c0 := (R1.out.cell 0 (by rw [room_len hl2]; omega) : _ = some (Value.int IntKind.i64 ((P : Int) + 1)))
  have c17 := R1.out.cell 17 (by rw [room_len hl2]; omega)
  rw [room_next hl2] at c17
  have f17 := R1.out.frozen 17
  have CP1 := CP W1.drew c0
  refine Tail.wp_region_quiet_tail 11 (by kernel_rfl) (by kernel_rfl) ?_
  simp only [List.take_succ_cons, List.take_zero, List.drop_succ_cons, List.drop_zero]
  repeat (first | go_big_quiet_step (fail) | (go_big_quiet_want; go_big_quiet_op; refine ⟨_, CP1.mono (fun e w' q => ⟨q.1, q.2.symm⟩), ?_⟩; go_big_quiet_on))
  refine wpQuiet_nil ?_
  have R2 := Lib.hid (show IRow .i64 ((W1.setCell ⟨g, 17, none⟩ (.int .i64 (up P next : Int))).drew) g 222 (room ((P : Int) + 1) bound (ring.set next n) (up P next : Int) V.length) from room_set_next hl2 (up P next : Int) ▸ (R1.out.set 17 _).drew)
  have O2 := Lib.hid (show But (· = g) w ((W1.setCell ⟨g, 17, none⟩ (.int .i64 (up P next : Int))).drew) from (O1.out.setCell (p := ⟨g, 17, none⟩) (Or.inl rfl) _).drew)
  clear CP1
  go_wp2_with fail
  clear c0 c17 f17
  generalize (W1.setCell ⟨g, 17, none⟩ (.int .i64 (up P next : Int))).drew = W2 at *
  have c0 := (R2.out.cell 0 (by rw [room_len hl2]; omega) : _ = some (Value.int IntKind.i64 ((P : Int) + 1)))
  have c18 := R2.out.cell 18 (by rw [room_len hl2]; omega)
  rw [room_count hl2] at c18
  have f18 := R2.out.frozen 18
  have CP1 := CP W2.drew c0
  refine Tail.wp_region_quiet_tail 11 (by kernel_rfl) (by kernel_rfl) ?_
  simp only [List.take_succ_cons, List.take_zero, List.drop_succ_cons, List.drop_zero]
  repeat (first | go_big_quiet_step (fail) | (go_big_quiet_want; go_big_quiet_op; refine ⟨_, CP1.mono (fun e w' q => ⟨q.1, q.2.symm⟩), ?_⟩; go_big_quiet_on))
  refine wpQuiet_nil ?_
  clear CP1
  go_wp2_with fail
  all_goals
    go_ret
    exact ⟨rfl, vote_end RV.out R2.out O2.out (by rw [← LT]; clear CP; omega)⟩
/-- Whatever is voted. -/
def vv (P : Nat) (V : List Int) (n : Int) : List Int := if val n = true then lastN P (V ++ [n]) else V
theorem vote_any (g P : Nat) (bound : Int) (V : List Int) (n : Int) (w : World) (hR : Room w g P bound V) :
    Calls Tryz.prog 172 #[.pointer (some ⟨g, 0, none⟩), .int .i64 n] w fun e w' => e = .returned (.int .i64 (Jp.ce n)) ∧ Room w' g P bound (vv P V n) ∧ Only g w w' := by
  cases hn : val n
  · rw [Jp.ce_no hn]
    refine (vote_no g n w hn).mono ?_
    rintro e w' ⟨rfl, rfl⟩
    exact ⟨rfl, by unfold vv; rw [hn]; exact hR, But.refl _ _⟩
  · rw [Jp.ce_yes hn]
    refine (vote_yes g P bound V n w hn hR).mono ?_
    rintro e w' ⟨rfl, h1, h2⟩
    exact ⟨rfl, by unfold vv; rw [if_pos hn]; exact h1, h2⟩
end Sk
end Go.Proofs.YtpoededbmdffpaaGreatDoor
