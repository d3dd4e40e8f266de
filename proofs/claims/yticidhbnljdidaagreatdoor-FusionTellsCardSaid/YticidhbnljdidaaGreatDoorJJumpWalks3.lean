/-
 What the calls of package jump do: their contracts by walking the Go text. Conditions: where the watch lies; that a value that came may be one.
 What the small calls of package stuck do: their contracts by walking the Go text. Conditions: where the room and the watch lie.
 What the calls of package drift do: their contracts by walking the Go text. Conditions: where the filter lies; that its level may be one.
-/
import Derived.Test.YticidhbnljdidaaGreatDoorJAgg8
import Derived.Test.YticidhbnljdidaaGreatDoorFixWalks
import Derived.RegionTactic
import Derived.StillTailTactics
import Derived.BigQuiet
import Derived.Test.YticidhbnljdidaaGreatDoorTail
import Derived.ProofKit
import Derived.Handy
import Derived.Lib.QuietBelow
namespace Go.Proofs.YticidhbnljdidaaGreatDoor
set_option maxRecDepth 100000
open Go.ChangeShapes Go.WideShapes Go.ChangeAt Go.RowKit Go.Deep
namespace Jp
open Fx (ret_bool)
theorem value_any (n : Int) (w : World) :
 Calls Tryz.prog 154 #[.int .i64 n] w fun e w' => e = .returned (.bool (val n)) ∧ w = w' := by
 have HF := Lib.hid (show val n = (decide (-2147483648 ≤ n) && decide (n ≤ 2147483647)) from rfl)
 by_cases h1 : -2147483648 ≤ n
 · rw [show decide (-2147483648 ≤ n) = true by simpa using h1,Bool.true_and] at HF
   go_enter Tryz.func154,Tryz.ntmps154
   go_wp2
   go_ret
   exact ⟨ret_bool HF.out.symm,rfl⟩
 · have d1 : decide (-2147483648 ≤ n) = false := by simpa using h1
   rw [d1,Bool.false_and] at HF
   go_enter Tryz.func154,Tryz.ntmps154
   go_wp2
   go_ret
   exact ⟨ret_bool HF.out.symm,rfl⟩
set_option maxHeartbeats 800000 in
theorem new_yes (lo hi step : Int) (w : World) (h : may lo hi step = true) :
 Calls Tryz.prog 110 #[.int .i64 lo,.int .i64 hi,.int .i64 step] w fun e w' => e = .returned (.tuple #[.pointer (some ⟨w.heap.size,0,none⟩),.int .i64 0]) ∧ w' = w.alloc (.cells (wat lo hi step 0 false).toArray 266) := by
 obtain ⟨h1,h2,h3,h4,h5⟩ := (may_iff _ _ _).1 h
 have d3 : decide (hi < lo) = false := by simpa using h3
 have d4 : decide (step < 0) = false := by simpa using h4
 have d5 : decide (2147483647 < step) = false := by simpa using h5
 clear h h3 h4 h5
 go_enter Tryz.func110,Tryz.ntmps110
 go_wp2_with (go_at_call 154; refine (value_any _ _).mono ?_; rintro e w' ⟨rfl,rfl⟩)
 go_ret2
 exact ⟨rfl,rfl⟩
theorem tell_any (g : Nat) (s t : Int) (b : Bool) (w : World) (hs : 0 ≤ s ∧ s ≤ 1000) (ht : 0 ≤ t ∧ t ≤ 1000) (hg : IRow .i64 w g 3 [s]) :
 Calls Tryz.prog 194 #[.int .i64 t,.bool b,.pointer (some ⟨g,0,none⟩)] w fun e w' => e = .returned (.tuple #[]) ∧ IRow .i64 w' g 3 [s + if b = true then t else 0] ∧ Below g w w' := by
 have hcell : w.cell? ⟨g,0,none⟩ = some (.int .i64 s) := hg.cell 0 (by simp)
 have hfr := hg.frozen 0
 have G := Lib.hid hg
 have d1 : s + t ≤ 9223372036854775807 := by omega
 have d2 : -9223372036854775808 ≤ s + t := by omega
 clear hg
 cases b
 · go_enter Tryz.func194,Tryz.ntmps194
   go_wp2
   go_end0
   exact ⟨rfl,G.out,Below.refl _ _⟩
 · go_enter Tryz.func194,Tryz.ntmps194
   go_wp2
   go_end0
   exact ⟨rfl,G.out.set 0 _,(Below.refl g w).setCell (Nat.le_refl _) _⟩
theorem miss_any (g : Nat) (lo hi step last : Int) (has : Bool) (w : World) (hT : VRow w g 266 (wat lo hi step last has)) :
 Calls Tryz.prog 192 #[.pointer (some ⟨g,0,none⟩)] w fun e w' => e = .returned (.tuple #[]) ∧ VRow w' g 266 (wat lo hi step 0 false) ∧ Only g w w' := by
 have T := Lib.hid hT
 have c3 := hT.cell 3 (v := .int .i64 last) rfl
 have c4 := hT.cell 4 (v := .bool has) rfl
 have f3 := hT.frozen 3
 have f4 := hT.frozen 4
 clear hT
 go_enter Tryz.func192,Tryz.ntmps192
 go_wp2
 go_end0
 exact ⟨rfl,(T.out.set 3 (.int .i64 0)).set 4 (.bool false),((But.refl (· = g) w).setCell (p := ⟨g,3,none⟩) (Or.inl rfl) _).setCell (p := ⟨g,4,none⟩) (Or.inl rfl) _⟩
end Jp
namespace Sk
open Fx (ret_bool)
open Jp (val)
theorem value_any (n : Int) (w : World) :
 Calls Tryz.prog 195 #[.int .i64 n] w fun e w' => e = .returned (.bool (val n)) ∧ w = w' := by
 have HF := Lib.hid (show val n = (decide (-2147483648 ≤ n) && decide (n ≤ 2147483647)) from rfl)
 by_cases h1 : -2147483648 ≤ n
 · rw [show decide (-2147483648 ≤ n) = true by simpa using h1,Bool.true_and] at HF
   go_enter Tryz.func195,Tryz.ntmps195
   go_wp2
   go_ret
   exact ⟨ret_bool HF.out.symm,rfl⟩
 · have d1 : decide (-2147483648 ≤ n) = false := by simpa using h1
   rw [d1,Bool.false_and] at HF
   go_enter Tryz.func195,Tryz.ntmps195
   go_wp2
   go_ret
   exact ⟨ret_bool HF.out.symm,rfl⟩
def Room (w : World) (g P : Nat) (bound : Int) (V : List Int) : Prop :=
 ∃ ring next,Ring P ring next V ∧ IRow .i64 w g 222 (room ((P : Int) + 1) bound ring (next : Int) (V.length : Int))
section
variable {w w' : World} {g P j : Nat} {bound : Int} {V : List Int}
theorem Room.lt (h : Room w g P bound V) : g < w.heap.size := by obtain ⟨_,_,_,r⟩ := h; exact r.lt
theorem Room.below {B : Nat} (h : Room w g P bound V) (hb : Below B w w') (hg : g < B) : Room w' g P bound V := by obtain ⟨a,b,c,r⟩ := h; exact ⟨a,b,c,r.below hb hg⟩
theorem Room.only (h : Room w g P bound V) (hb : Only j w w') (hg : g ≠ j) : Room w' g P bound V := by obtain ⟨a,b,c,r⟩ := h; exact ⟨a,b,c,r.only hb hg⟩
theorem Room.alloc (h : Room w g P bound V) (o : Obj) : Room (w.alloc o) g P bound V := by obtain ⟨a,b,c,r⟩ := h; exact ⟨a,b,c,r.alloc o⟩
theorem Room.drewN (h : Room w g P bound V) (n : Nat) : Room (w.drewN n) g P bound V := h
theorem Room.drew (h : Room w g P bound V) : Room w.drew g P bound V := h
theorem Room.le (h : Room w g P bound V) : V.length ≤ P ∧ 1 ≤ P ∧ P ≤ 15 := by obtain ⟨_,_,c,_⟩ := h; exact ⟨c.le,c.p1,c.p15⟩
theorem Room.block (h : Room w g P bound V) (hb : w'.heap[g]? = w.heap[g]?) : Room w' g P bound V := by obtain ⟨a,b,c,r⟩ := h; exact ⟨a,b,c,hb.trans r⟩
theorem Room.win (h : Room w g P bound V) : w.cell? ⟨g,0,none⟩ = some (.int .i64 ((P : Int) + 1)) := by
 obtain ⟨a,b,c,r⟩ := h; have := r.cell 0 (by rw [room_len c.len]; omega); exact this
theorem Room.bnd (h : Room w g P bound V) : w.cell? ⟨g,1,none⟩ = some (.int .i64 bound) := by
 obtain ⟨a,b,c,r⟩ := h; have := r.cell 1 (by rw [room_len c.len]; omega); exact this
theorem Room.count (h : Room w g P bound V) : w.cell? ⟨g,18,none⟩ = some (.int .i64 (V.length : Int)) := by
 obtain ⟨a,b,c,r⟩ := h; have := r.cell 18 (by rw [room_len c.len]; omega); rw [room_count c.len] at this; exact this
end
set_option maxHeartbeats 800000 in
theorem new_yes (P : Nat) (bound : Int) (w : World) (h1 : 1 ≤ P) (h2 : P ≤ 15) (h3 : 0 ≤ bound) (h4 : bound ≤ 2147483647) :
 Calls Tryz.prog 72 #[.int .i64 ((P : Int) + 1),.int .i64 bound] w fun e w' => e = .returned (.tuple #[.pointer (some ⟨w.heap.size,0,none⟩),.int .i64 0]) ∧
  w' = w.alloc (.cells (cellsI .i64 (room ((P : Int) + 1) bound (List.replicate 15 0) 0 0)).toArray 222) := by
 have d1 : decide ((P : Int) + 1 < 2) = false := by simp; omega
 have d2 : decide (16 < (P : Int) + 1) = false := by simp; omega
 have d3 : decide (bound < 0) = false := by simpa using h3
 have d4 : decide (2147483647 < bound) = false := by simpa using h4
 clear h1 h2 h3 h4
 go_enter Tryz.func72,Tryz.ntmps72
 go_wp2
 go_ret2
 exact ⟨rfl,rfl⟩
theorem places_cell (g P : Nat) (w : World) (h2 : P ≤ 15) (hc : w.cell? ⟨g,0,none⟩ = some (.int .i64 ((P : Int) + 1))) :
 Calls Tryz.prog 207 #[.pointer (some ⟨g,0,none⟩)] w fun e w' => e = .returned (.int .i64 (P : Int)) ∧ w = w' := by
 go_enter Tryz.func207,Tryz.ntmps207
 go_wp2
 go_ret
 exact ⟨by first | rfl | (congr 2; omega),rfl⟩
def wt (r : Nat) (last run : Int) : List Value := [.pointer (some ⟨r,0,none⟩),.int .i64 last,.int .i64 run]
theorem watch_any (g : Nat) (w : World) :
 Calls Tryz.prog 113 #[.pointer (some ⟨g,0,none⟩)] w fun e w' => e = .returned (.pointer (some ⟨w.heap.size,0,none⟩)) ∧ w' = w.alloc (.cells (wt g 0 0).toArray 275) := by
 go_enter Tryz.func113,Tryz.ntmps113
 go_wp2
 go_ret
 exact ⟨rfl,rfl⟩
theorem miss_any (g r : Nat) (last run : Int) (w : World) (hT : VRow w g 275 (wt r last run)) :
 Calls Tryz.prog 193 #[.pointer (some ⟨g,0,none⟩)] w fun e w' => e = .returned (.tuple #[]) ∧ VRow w' g 275 (wt r last 0) ∧ Only g w w' := by
 have T := Lib.hid hT
 have c2 := hT.cell 2 (v := .int .i64 run) rfl
 have f2 := hT.frozen 2
 clear hT
 go_enter Tryz.func193,Tryz.ntmps193
 go_wp2
 go_end0
 exact ⟨rfl,T.out.set 2 (.int .i64 0),(But.refl (· = g) w).setCell (p := ⟨g,2,none⟩) (Or.inl rfl) _⟩
end Sk
namespace Dr
open Fx (ret_bool)
set_option maxHeartbeats 800000 in
theorem new_yes (lag bound : Int) (w : World) (h : may lag bound = true) :
 Calls Tryz.prog 111 #[.int .i64 lag,.int .i64 bound] w fun e w' => e = .returned (.tuple #[.pointer (some ⟨w.heap.size,0,none⟩),.int .i64 0]) ∧ w' = w.alloc (.cells (fil lag bound 0).toArray 270) := by
 obtain ⟨h1,h2,h3,h4⟩ := (may_iff _ _).1 h
 have d1 : decide (lag < 0) = false := by simpa using h1
 have d2 : decide (8 < lag) = false := by simpa using h2
 have d3 : decide (bound < 0) = false := by simpa using h3
 have d4 : decide (2147483647 < bound) = false := by simpa using h4
 clear h h1 h2 h3 h4
 go_enter Tryz.func111,Tryz.ntmps111
 go_wp2
 go_ret2
 exact ⟨rfl,rfl⟩
set_option maxHeartbeats 800000 in
theorem over_any (bound level : Int) (w : World) (hl : -4294967296 ≤ level ∧ level ≤ 4294967296) (h0 : 0 ≤ bound) :
 Calls Tryz.prog 199 #[.agg #[.int .i64 bound],.int .i64 level] w fun e w' => e = .returned (.bool (ov bound level)) ∧ Below w.heap.size w w' := by
 have HO := Lib.hid (ov_apart hl h0)
 have CA := fun W => Fx.apart_any level 0 W
 generalize Fx.apart level 0 = x at *
 have B0 := Lib.hid ((Below.refl w.heap.size w).alloc (Nat.le_refl _) (.cells #[.int .i64 bound] 268))
 have R0 := Lib.hid (show IRow .i64 (w.alloc (.cells #[.int .i64 bound] 268)) w.heap.size 268 [bound] from heap_alloc_new w _)
 have c0 := R0.out.cell 0 (by simp)
 clear hl h0
 go_enter Tryz.func199,Tryz.ntmps199
 go_wp2_with fail
 go_quiet (exact Calls.quiet_of_same ((CA _).mono fun e w' q => ⟨q.1,q.2.symm⟩))
 go_wp2
 go_ret
 exact ⟨ret_bool (by rw [HO.out]),below_drewN B0.out _⟩
end Dr
end Go.Proofs.YticidhbnljdidaaGreatDoor
