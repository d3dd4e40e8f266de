/-
  SceneTells: what is kept while it goes on; the program's cycle and the document's hold the same; the two ranges are one. No Go text is reached here. No conditions beyond those said.
  SceneTells, walked where the scene is too large, or has a fault. Its conditions: how the scene lies.
  SceneTells, walked where there is no such point or signal. Its conditions: how the scene lies.
  SceneTells, walked where the scene is right and there is such a point and signal. Its conditions: how the scene lies.
  SceneTells, walked: for every scene and any two numbers it returns true, and writes nothing that was there. Its conditions: how the scene lies.
-/
import Derived.Test.YtpamegkbhdbheaaSceneSame
import Derived.Test.YtpamegkbhdbheaaSceneOfWalk
import Derived.Test.YtpamegkbhdbheaaSceneRefMore
import Derived.Test.YtpamegkbhdbheaaSceneRefFault
import Derived.Test.YtpamegkbhdbheaaSceneAlive
namespace Go.Proofs.Ytpamegkbhdbheaa
set_option maxRecDepth 100000
open Go.ChangeShapes Go.WideShapes Go.ChangeAt Go.RowKit Go.Deep
namespace Sc
open Cf (G CA)

structure Te (w w1 W : World) (g mg gl : Nat) (s : Sn) (a : Option Addr) (cap : Nat) (a' : Option Addr) (cap' : Nat) (T : Nat → Sl4) : Prop where
  bd : Bd w W g s a cap
  rr : RAt W mg s a' cap'
  fl : Fill w1 W gl s s.ps.length T (4 * s.ps.length)
section
variable {w w1 W W' : World} {g mg gl : Nat} {s : Sn} {a a' : Option Addr} {cap cap' : Nat} {T U : Nat → Sl4} {i n : Nat}
theorem Te.on (h : Te w w1 W g mg gl s a cap a' cap' T) (b : Below W.heap.size W W') : Te w w1 W' g mg gl s a cap a' cap' T := ⟨h.bd.on b, h.rr.on b, h.fl.on b⟩
theorem cycAt (F : Fill w1 W gl s s.ps.length T (4 * s.ps.length)) (hi : i < s.ps.length) : W.rangeAt gl (i * 8) (cyl 4 (fun j => T (4 * i + j))) := fun j v hv => by
  have hj : j < 8 := by have := (List.getElem?_eq_some_iff.1 hv).1; rw [cyl_len] at this; exact this
  have e : j = 2 * (j / 2) + j % 2 := by omega
  rw [e, cyl_get _ 4 (j / 2) (j % 2) (by omega) (by omega)] at hv
  have h2 := cyl_get T (4 * s.ps.length) (4 * i + j / 2) (j % 2) (by omega) (by omega)
  rw [show i * 8 + j = 2 * (4 * i + j / 2) + j % 2 by omega]
  exact F.row.cell _ (h2.trans hv)
theorem alike (F : Fill w1 W gl s s.ps.length T (4 * s.ps.length)) (hi : i < s.ps.length) (g : ∀ j, j < 4 → GoodR W (U j) (sisC s i j) (sbyC s i j)) (hl : ∀ j, j < 4 → (sbyC s i j).length ≤ 9223372036854775807) : Alike W (fun j => T (4 * i + j)) U := by
  have e1 : ∀ j, j < 4 → cis s (4 * s.ps.length) (4 * i + j) = sisC s i j := fun j hj => by unfold cis; rw [if_pos (by omega), show (4 * i + j) / 4 = i by omega, show (4 * i + j) % 4 = j by omega]
  have e2 : ∀ j, j < 4 → cby s (4 * s.ps.length) (4 * i + j) = sbyC s i j := fun j hj => by unfold cby; rw [if_pos (by omega), show (4 * i + j) / 4 = i by omega, show (4 * i + j) % 4 = j by omega]
  have f := fun j (hj : j < 4) => F.good (4 * i + j) (by omega)
  refine ⟨fun j hj => ?_, fun j hj => ?_, fun j hj => ?_, fun j hj => ?_, fun j hj => ?_⟩
  · exact (f j hj).eis.trans ((e1 j hj).trans (g j hj).eis.symm)
  · exact (f j hj).el.trans ((e2 j hj).trans (g j hj).el.symm)
  · rw [(g j hj).el]; exact hl j hj
  · show IntsAt .u8 W (T (4 * i + j)).a (T (4 * i + j)).l
    rw [(f j hj).el]; exact (f j hj).at_
  · rw [(g j hj).el]; exact (g j hj).at_
theorem sbyC_len (H : Ok s) (hp : PsAt w a s.ps) (hi : i < s.ps.length) (j : Nat) : (sbyC s i j).length ≤ 9223372036854775807 := by
  unfold sbyC
  split
  · rename_i hj
    unfold sby
    split
    · obtain ⟨b, off, -, P⟩ := hp.at_ hi
      have := P.size; omega
    · rename_i ho
      obtain ⟨h1, h2⟩ := H.right hi hj ho
      rw [Fm.enc_len h1 h2 vs_len]; omega
  · simp
theorem lo_one (H : Ok s) (hi : i < s.ps.length) (hn : n < 8) : lo 2147483647 s i n (NN s) = lo 4294967296 s i n (NN s) := by
  have C := cv_of H.cov
  refine lo_base (some_in C) fun k hk ho => ?_
  have h1 := H.within hi hk hn ho
  have h2 := C.hi
  omega
theorem hi_one (H : Ok s) (hi' : i < s.ps.length) (hn : n < 8) : hi (-2147483648) s i n (NN s) = hi (-4294967296) s i n (NN s) := by
  have C := cv_of H.cov
  refine hi_base (some_in C) fun k hk ho => ?_
  have h1 := H.within hi' hk hn ho
  have h2 := C.lo
  omega
end
/-- A cycle of the document's comes; it is held against the program's. -/
structure Px (w w1 : World) (g mg gl : Nat) (s : Sn) (a : Option Addr) (cap : Nat) (a' : Option Addr) (cap' : Nat) (T : Nat → Sl4) (i : Nat) (x : Bool) (v : Value) (Y : World) : Prop where
  te : Te w w1 Y g mg gl s a cap a' cap' T
  call : x = true → ∃ U, v = .agg (cyl 4 U).toArray ∧ Alike Y (fun j => T (4 * i + j)) U
theorem Px.on {w w1 Y Z : World} {g mg gl : Nat} {s : Sn} {a a' : Option Addr} {cap cap' : Nat} {T : Nat → Sl4} {i : Nat} {x : Bool} {v : Value} (h : Px w w1 g mg gl s a cap a' cap' T i x v Y) (b : Below Y.heap.size Y Z) : Px w w1 g mg gl s a cap a' cap' T i x v Z :=
  ⟨h.te.on b, fun e => by obtain ⟨U, q, p⟩ := h.call e; exact ⟨U, q, p.on b⟩⟩
end Sc
end Go.Proofs.Ytpamegkbhdbheaa

namespace Go.Proofs.Ytpamegkbhdbheaa
set_option maxRecDepth 100000
open Go.ChangeShapes Go.WideShapes Go.ChangeAt Go.RowKit Go.Deep
namespace Sc
open Cf (G CA)

section
variable (s : Sn) (a : Option Addr) (cap : Nat) (i n : Int) (w : World) (L : Lens s) (hp : PsAt w a s.ps)
include L hp
set_option maxRecDepth 100000 in
set_option maxHeartbeats 3200000 in
theorem tells_large (hf : fits s = false) :
    Calls Try.prog 3 #[.agg (scv s a cap).toArray, .int .i64 i, .int .i64 n] w fun e w' => e = .returned (.bool true) ∧ Below w.heap.size w w' := by
  have X0 := Lib.hid (Bd.new (cap := cap) L hp)
  have CF := fun W (D : At W w.heap.size s a cap) => fits_any s a cap W D.len D.ps
  rw [hf] at CF
  clear L hp hf
  go_enter Try.func3, Try.ntmps3
  go_upto_region 1 with fail
  generalize w.alloc (.cells (scv s a cap).toArray 27) = w0 at *
  generalize hg : w.heap.size = g at *
  go_wp2_with ((with_reducible show wpList _ _ _ (⟨some 19, _, _, _, _, _⟩ :: _) _ _); refine loadS rfl _ rfl g rfl X0.out.at_ ?_)
  refine (CF _ X0.out.at_).mono ?_; rintro e w1 ⟨rfl, b1⟩
  have X1 := Lib.hid (X0.out.on b1)
  clear b1 X0 CF
  go_wp2_with fail
  refine (alive_any _).mono ?_; rintro e w3 ⟨rfl, b1⟩
  have X3 := Lib.hid (X1.out.on b1)
  clear b1 X1
  go_wp2_with fail
  go_ret
  exact ⟨rfl, hg ▸ X3.out.below⟩
set_option maxRecDepth 100000 in
set_option maxHeartbeats 6400000 in
theorem tells_wrong (hf : fits s = true) (H : ¬ Ok s) :
    Calls Try.prog 3 #[.agg (scv s a cap).toArray, .int .i64 i, .int .i64 n] w fun e w' => e = .returned (.bool true) ∧ Below w.heap.size w w' := by
  have X0 := Lib.hid (Bd.new (cap := cap) L hp)
  have CF := fun W (D : At W w.heap.size s a cap) => fits_any s a cap W D.len D.ps
  rw [hf] at CF
  have CO := Lib.hid (fun W (D : At W w.heap.size s a cap) => of_any s a cap W D.len D.ps (fits_len hf))
  have CC := Lib.hid (fun W (D : At W w.heap.size s a cap) => cycles_no s a cap W D.len D.ps H)
  have hh : has s i n = false := by unfold has; rw [decide_eq_false (fun h => H (fault_ok.1 h))]; simp
  have CG := Lib.hid (fun W (D : At W w.heap.size s a cap) => range_no s a cap W D.len D.ps i n hh)
  have CX := Lib.hid (fun W (D : At W w.heap.size s a cap) => far_no s a cap W D.len D.ps i n hh)
  have CA := fun W (D : At W w.heap.size s a cap) => fault_any s a cap W D.len D.ps
  have CR := fun W mg a' cap' (R : RAt W mg s a' cap') => rfault_any mg s a' cap' W R
  have HE := emp s
  rw [decide_eq_false (fun h => H (fault_ok.1 h))] at HE
  generalize fault s = ft at *
  clear L hp H hf hh
  go_enter Try.func3, Try.ntmps3
  go_upto_region 1 with fail
  generalize w.alloc (.cells (scv s a cap).toArray 27) = w0 at *
  generalize hg : w.heap.size = g at *
  go_wp2_with ((with_reducible show wpList _ _ _ (⟨some 19, _, _, _, _, _⟩ :: _) _ _); refine loadS rfl _ rfl g rfl X0.out.at_ ?_)
  refine (CF _ X0.out.at_).mono ?_; rintro e w1 ⟨rfl, b1⟩
  have X1 := Lib.hid (X0.out.on b1)
  clear b1 X0 CF
  go_wp2_with ((with_reducible show wpList _ _ _ (⟨some 24, _, _, _, _, _⟩ :: _) _ _); refine loadS rfl _ rfl g rfl X1.out.at_ ?_)
  refine (CO.out _ X1.out.at_).mono ?_; rintro e w2 ⟨mg, a', cap', rfl, R2, b1⟩
  have X2 := Lib.hid (X1.out.on b1)
  clear b1 X1 CO
  go_wp2_with fail
  refine (CR _ _ _ _ R2).mono ?_; rintro e w3 ⟨rfl, b1⟩
  have X3 := Lib.hid (X2.out.on b1)
  clear b1 X2 CR R2
  go_wp2_with ((with_reducible show wpList _ _ _ (⟨some 29, _, _, _, _, _⟩ :: _) _ _); refine loadS rfl _ rfl g rfl X3.out.at_ ?_)
  refine (CC.out _ X3.out.at_).mono ?_; rintro e w4 ⟨rfl, b1⟩
  have X4 := Lib.hid (X3.out.on b1)
  clear b1 X3 CC
  go_wp2_with ((with_reducible show wpList _ _ _ (⟨some 34, _, _, _, _, _⟩ :: _) _ _); refine loadS rfl _ rfl g rfl X4.out.at_ ?_)
  refine (CG.out _ X4.out.at_).mono ?_; rintro e w5 ⟨rfl, b1⟩
  have X5 := Lib.hid (X4.out.on b1)
  clear b1 X4 CG
  go_wp2_with ((with_reducible show wpList _ _ _ (⟨some 40, _, _, _, _, _⟩ :: _) _ _); refine loadS rfl _ rfl g rfl X5.out.at_ ?_)
  refine (CX.out _ X5.out.at_).mono ?_; rintro e w6 ⟨rfl, b1⟩
  have X6 := Lib.hid (X5.out.on b1)
  clear b1 X5 CX
  go_wp2_with ((with_reducible show wpList _ _ _ (⟨some 44, _, _, _, _, _⟩ :: _) _ _); refine loadS rfl _ rfl g rfl X6.out.at_ ?_)
  refine (CA _ X6.out.at_).mono ?_; rintro e w7 ⟨rfl, b1⟩
  have X7 := Lib.hid (X6.out.on b1)
  clear b1 X6 CA
  go_wp2_with fail
  refine (alive_any _).mono ?_; rintro e w8 ⟨rfl, b1⟩
  have X8 := Lib.hid (X7.out.on b1)
  clear b1 X7
  go_wp2_with fail
  go_ret
  exact ⟨rfl, hg ▸ X8.out.below⟩
end
end Sc
end Go.Proofs.Ytpamegkbhdbheaa

namespace Go.Proofs.Ytpamegkbhdbheaa
set_option maxRecDepth 100000
open Go.ChangeShapes Go.WideShapes Go.ChangeAt Go.RowKit Go.Deep
namespace Sc
open Cf (G CA)

section
variable (s : Sn) (a : Option Addr) (cap : Nat) (i n : Int) (w : World) (L : Lens s) (hp : PsAt w a s.ps)
include L hp
set_option maxRecDepth 100000 in
set_option maxHeartbeats 6400000 in
theorem tells_none (hf : fits s = true) (H : Ok s) (hh : has s i n = false) :
    Calls Try.prog 3 #[.agg (scv s a cap).toArray, .int .i64 i, .int .i64 n] w fun e w' => e = .returned (.bool true) ∧ Below w.heap.size w w' := by
  have X0 := Lib.hid (Bd.new (cap := cap) L hp)
  have CF := fun W (D : At W w.heap.size s a cap) => fits_any s a cap W D.len D.ps
  rw [hf] at CF
  have CO := Lib.hid (fun W (D : At W w.heap.size s a cap) => of_any s a cap W D.len D.ps (fits_len hf))
  have CC := Lib.hid (fun W (D : At W w.heap.size s a cap) => (cycles_yes s a cap W D.len D.ps H).mono (fun e w' q => (show ∃ gl T, e = .returned (.tuple #[.slice (some ⟨gl, 0, none⟩) s.ps.length s.ps.length, .int .i64 0]) ∧ Fill W w' gl s s.ps.length T (4 * s.ps.length) from q)))
  have CG := Lib.hid (fun W (D : At W w.heap.size s a cap) => range_no s a cap W D.len D.ps i n hh)
  have CX := Lib.hid (fun W (D : At W w.heap.size s a cap) => far_no s a cap W D.len D.ps i n hh)
  have CA := fun W (D : At W w.heap.size s a cap) => fault_any s a cap W D.len D.ps
  have CR := fun W mg a' cap' (R : RAt W mg s a' cap') => rfault_any mg s a' cap' W R
  have HE := emp s
  rw [decide_eq_true (fault_ok.2 H)] at HE
  have HC := Lib.hid (show i < 0 ∨ (¬ i < 0 ∧ (s.ps.length : Int) ≤ i) ∨ (¬ i < 0 ∧ ¬ (s.ps.length : Int) ≤ i ∧ n < 0) ∨ (¬ i < 0 ∧ ¬ (s.ps.length : Int) ≤ i ∧ ¬ n < 0 ∧ 7 < n) by
    unfold has at hh
    rw [decide_eq_true (fault_ok.2 H)] at hh
    simp at hh
    omega)
  generalize fault s = ft at *
  have HM := Lib.hid (show s.ps.length ≤ 60 from fits_len hf)
  clear L hp H hf hh
  go_enter Try.func3, Try.ntmps3
  go_upto_region 1 with fail
  generalize w.alloc (.cells (scv s a cap).toArray 27) = w0 at *
  generalize hg : w.heap.size = g at *
  go_wp2_with ((with_reducible show wpList _ _ _ (⟨some 19, _, _, _, _, _⟩ :: _) _ _); refine loadS rfl _ rfl g rfl X0.out.at_ ?_)
  refine (CF _ X0.out.at_).mono ?_; rintro e w1 ⟨rfl, b1⟩
  have X1 := Lib.hid (X0.out.on b1)
  clear b1 X0 CF
  go_wp2_with ((with_reducible show wpList _ _ _ (⟨some 24, _, _, _, _, _⟩ :: _) _ _); refine loadS rfl _ rfl g rfl X1.out.at_ ?_)
  refine (CO.out _ X1.out.at_).mono ?_; rintro e w2 ⟨mg, a', cap', rfl, R2, b1⟩
  have X2 := Lib.hid (X1.out.on b1)
  clear b1 X1 CO
  go_wp2_with fail
  refine (CR _ _ _ _ R2).mono ?_; rintro e w3 ⟨rfl, b1⟩
  have X3 := Lib.hid (X2.out.on b1)
  clear b1 X2 CR R2
  go_wp2_with ((with_reducible show wpList _ _ _ (⟨some 29, _, _, _, _, _⟩ :: _) _ _); refine loadS rfl _ rfl g rfl X3.out.at_ ?_)
  refine (CC.out _ X3.out.at_).mono ?_; rintro e w4 ⟨gl, T, rfl, F4⟩
  have X4 := Lib.hid (X3.out.on F4.below)
  clear F4 X3 CC
  go_wp2_with ((with_reducible show wpList _ _ _ (⟨some 34, _, _, _, _, _⟩ :: _) _ _); refine loadS rfl _ rfl g rfl X4.out.at_ ?_)
  refine (CG.out _ X4.out.at_).mono ?_; rintro e w5 ⟨rfl, b1⟩
  have X5 := Lib.hid (X4.out.on b1)
  clear b1 X4 CG
  go_wp2_with ((with_reducible show wpList _ _ _ (⟨some 40, _, _, _, _, _⟩ :: _) _ _); refine loadS rfl _ rfl g rfl X5.out.at_ ?_)
  refine (CX.out _ X5.out.at_).mono ?_; rintro e w6 ⟨rfl, b1⟩
  have X6 := Lib.hid (X5.out.on b1)
  clear b1 X5 CX
  go_wp2_with ((with_reducible show wpList _ _ _ (⟨some 44, _, _, _, _, _⟩ :: _) _ _); refine loadS rfl _ rfl g rfl X6.out.at_ ?_)
  refine (CA _ X6.out.at_).mono ?_; rintro e w7 ⟨rfl, b1⟩
  have X7 := Lib.hid (X6.out.on b1)
  clear b1 X6 CA
  have c28 := X7.out.at_.p
  generalize s.ps.length = m at *
  have hm : m ≤ 60 := HM.out
  rcases HC.out with h1 | ⟨h1, h2⟩ | ⟨h1, h2, h3⟩ | ⟨h1, h2, h3, h4⟩
  · have d1 : decide (i < 0) = true := by simpa using h1
    clear HC h1
    go_wp2_with fail
    refine (alive_any _).mono ?_; rintro e w8 ⟨rfl, b1⟩
    have X8 := Lib.hid (X7.out.on b1)
    clear b1 X7 c28
    go_wp2_with fail
    go_ret
    exact ⟨rfl, hg ▸ X8.out.below⟩
  · have d1 : decide (i < 0) = false := by simpa using h1
    have d2 : decide ((m : Int) ≤ i) = true := by simpa using h2
    clear HC h1 h2
    go_wp2_with fail
    refine (alive_any _).mono ?_; rintro e w8 ⟨rfl, b1⟩
    have X8 := Lib.hid (X7.out.on b1)
    clear b1 X7 c28
    go_wp2_with fail
    go_ret
    exact ⟨rfl, hg ▸ X8.out.below⟩
  · have d1 : decide (i < 0) = false := by simpa using h1
    have d2 : decide ((m : Int) ≤ i) = false := by simpa using h2
    have d3 : decide (n < 0) = true := by simpa using h3
    clear HC h1 h2 h3
    go_wp2_with fail
    refine (alive_any _).mono ?_; rintro e w8 ⟨rfl, b1⟩
    have X8 := Lib.hid (X7.out.on b1)
    clear b1 X7 c28
    go_wp2_with fail
    go_ret
    exact ⟨rfl, hg ▸ X8.out.below⟩
  · have d1 : decide (i < 0) = false := by simpa using h1
    have d2 : decide ((m : Int) ≤ i) = false := by simpa using h2
    have d3 : decide (n < 0) = false := by simpa using h3
    have d4 : decide (7 < n) = true := by simpa using h4
    clear HC h1 h2 h3 h4
    go_wp2_with fail
    refine (alive_any _).mono ?_; rintro e w8 ⟨rfl, b1⟩
    have X8 := Lib.hid (X7.out.on b1)
    clear b1 X7 c28
    go_wp2_with fail
    go_ret
    exact ⟨rfl, hg ▸ X8.out.below⟩
end
end Sc
end Go.Proofs.Ytpamegkbhdbheaa

namespace Go.Proofs.Ytpamegkbhdbheaa
set_option maxRecDepth 100000
open Go.ChangeShapes Go.WideShapes Go.ChangeAt Go.RowKit Go.Deep
namespace Sc
open Cf (G CA)

section
variable (s : Sn) (a : Option Addr) (cap : Nat) (i n : Nat) (w : World) (L : Lens s) (hp : PsAt w a s.ps)
include L hp
set_option maxRecDepth 100000 in
set_option maxHeartbeats 6400000 in
theorem tells_right (hf : fits s = true) (H : Ok s) (hi : i < s.ps.length) (hn : n < 8) :
    Calls Try.prog 3 #[.agg (scv s a cap).toArray, .int .i64 i, .int .i64 n] w fun e w' => e = .returned (.bool true) ∧ Below w.heap.size w w' := by
  have X0 := Lib.hid (Bd.new (cap := cap) L hp)
  have CF := fun W (D : At W w.heap.size s a cap) => fits_any s a cap W D.len D.ps
  rw [hf] at CF
  have CO := Lib.hid (fun W (D : At W w.heap.size s a cap) => of_any s a cap W D.len D.ps (fits_len hf))
  have CC := Lib.hid (fun W (D : At W w.heap.size s a cap) => (cycles_yes s a cap W D.len D.ps H).mono (fun e w' q => (show ∃ gl T, e = .returned (.tuple #[.slice (some ⟨gl, 0, none⟩) s.ps.length s.ps.length, .int .i64 0]) ∧ Fill W w' gl s s.ps.length T (4 * s.ps.length) from q)))
  have CG := Lib.hid (fun W (D : At W w.heap.size s a cap) => range_yes s a cap W D.len D.ps H i n hi hn)
  rw [lo_one H hi hn, hi_one H hi hn] at CG
  have CX := Lib.hid (fun W (D : At W w.heap.size s a cap) => far_yes s a cap W D.len D.ps H i n hi hn)
  have CA := fun W (D : At W w.heap.size s a cap) => fault_any s a cap W D.len D.ps
  have CR := fun W mg a' cap' (R : RAt W mg s a' cap') => rfault_any mg s a' cap' W R
  have CRG := Lib.hid (fun W mg a' cap' (R : RAt W mg s a' cap') => rrange_any mg s a' cap' W R H i n hi hn)
  have CRX := Lib.hid (fun W mg a' cap' (R : RAt W mg s a' cap') => rfar_any mg s a' cap' W R H i n hi hn)
  have CRC := Lib.hid (fun W mg a' cap' (R : RAt W mg s a' cap') x (hx : x < s.ps.length) => rcycle_any mg s a' cap' W R H x hx)
  have HSL := Lib.hid (fun x (hx : x < s.ps.length) j => sbyC_len H hp hx j)
  have HE := emp s
  rw [decide_eq_true (fault_ok.2 H)] at HE
  generalize fault s = ft at *
  have d1 : decide ((i : Int) < 0) = false := by simp
  have d2 : decide ((s.ps.length : Int) ≤ (i : Int)) = false := by simp; omega
  have d3 : decide ((n : Int) < 0) = false := by simp
  have d5 : decide (s.ps.length ≤ i) = false := by simp; omega
  have d6 : decide (7 < n) = false := by simp; omega
  have d4 : decide (7 < (n : Int)) = false := by simp; omega
  have HM := Lib.hid (show s.ps.length ≤ 60 from fits_len hf)
  clear L hp H hf hi hn
  generalize lo 4294967296 s i n (NN s) = lv at *
  generalize hi (-4294967296) s i n (NN s) = hv at *
  generalize far s i n = fr at *
  go_enter Try.func3, Try.ntmps3
  go_upto_region 1 with fail
  generalize w.alloc (.cells (scv s a cap).toArray 27) = w0 at *
  generalize hg : w.heap.size = g at *
  go_wp2_with ((with_reducible show wpList _ _ _ (⟨some 19, _, _, _, _, _⟩ :: _) _ _); refine loadS rfl _ rfl g rfl X0.out.at_ ?_)
  refine (CF _ X0.out.at_).mono ?_; rintro e w1 ⟨rfl, b1⟩
  have X1 := Lib.hid (X0.out.on b1)
  clear b1 X0 CF
  go_wp2_with ((with_reducible show wpList _ _ _ (⟨some 24, _, _, _, _, _⟩ :: _) _ _); refine loadS rfl _ rfl g rfl X1.out.at_ ?_)
  refine (CO.out _ X1.out.at_).mono ?_; rintro e w2 ⟨mg, a', cap', rfl, R2, b1⟩
  have X2 := Lib.hid (X1.out.on b1)
  clear b1 X1 CO
  go_wp2_with fail
  refine (CR _ _ _ _ R2).mono ?_; rintro e w3 ⟨rfl, b1⟩
  have X3 := Lib.hid (show Bd w w3 g s a cap ∧ RAt w3 mg s a' cap' from ⟨X2.out.on b1, R2.on b1⟩)
  clear b1 X2 CR R2
  go_wp2_with ((with_reducible show wpList _ _ _ (⟨some 29, _, _, _, _, _⟩ :: _) _ _); refine loadS rfl _ rfl g rfl X3.out.1.at_ ?_)
  refine (CC.out _ X3.out.1.at_).mono ?_; rintro e w4 ⟨gl, T, rfl, F4⟩
  have X4 := Lib.hid (show Te w w3 w4 g mg gl s a cap a' cap' T from ⟨X3.out.1.on F4.below, X3.out.2.on F4.below, F4⟩)
  clear F4 X3 CC
  go_wp2_with ((with_reducible show wpList _ _ _ (⟨some 34, _, _, _, _, _⟩ :: _) _ _); refine loadS rfl _ rfl g rfl X4.out.bd.at_ ?_)
  refine (CG.out _ X4.out.bd.at_).mono ?_; rintro e w5 ⟨rfl, b1⟩
  have X5 := Lib.hid (X4.out.on b1)
  clear b1 X4 CG
  go_wp2_with ((with_reducible show wpList _ _ _ (⟨some 40, _, _, _, _, _⟩ :: _) _ _); refine loadS rfl _ rfl g rfl X5.out.bd.at_ ?_)
  refine (CX.out _ X5.out.bd.at_).mono ?_; rintro e w6 ⟨rfl, b1⟩
  have X6 := Lib.hid (X5.out.on b1)
  clear b1 X5 CX
  go_wp2_with ((with_reducible show wpList _ _ _ (⟨some 44, _, _, _, _, _⟩ :: _) _ _); refine loadS rfl _ rfl g rfl X6.out.bd.at_ ?_)
  refine (CA _ X6.out.bd.at_).mono ?_; rintro e w7 ⟨rfl, b1⟩
  have X7 := Lib.hid (X6.out.on b1)
  clear b1 X6 CA
  have c28 := X7.out.bd.at_.p
  obtain ⟨m, hm⟩ : ∃ m, m = s.ps.length := ⟨_, rfl⟩
  have HMM := Lib.hid hm
  have h60 : m ≤ 60 := by have := HM.out; omega
  rw [← hm] at c28 d2 d5 ⊢
  clear hm
  go_upto_region 15 with fail
  clear c28 d1 d2 d3 d4 d5 d6
  go_wp2_with fail
  go_loopg [15, 16] m (fun gg s15 _ wr => ∃ x : Nat, x + gg = m ∧ s15 = .int .i64 x ∧ Hid (Te w w3 wr g mg gl s a cap a' cap' T))
  case atStart => exact ⟨0, by omega, rfl, X7⟩
  case round =>
    clear X7
    rename World => W
    obtain ⟨x, hx, rfl, D⟩ := hrel
    have HX := Lib.hid hx
    clear hx
    by_cases hlt : x < m
    · have hli : (x : Int) < m := by omega
      have HLT := Lib.hid (show x < s.ps.length by have := HMM.out; omega)
      clear hlt
      go_upto_region 18 with fail
      refine Ws.wp_sets (aF := ?_) [120] [6, 7] 150 [true, true, true, true, true, true, false, false, true] [(120, undef), (121, .bool true)]
        (fun bs vs Y => Px w w3 g mg gl s a cap a' cap' T x (bs.getD 0 false) (vs.getD 0 undef) Y)
        (fun Y => Te w w3 Y g mg gl s a cap a' cap' T)
        (by kernel_rfl) (by kernel_rfl) (by kernel_rfl) (by kernel_rfl) ?ha ?hMC ?hMg ?h0 ?hq ?hw ?hend
      case ha => rfl
      case hMC => exact fun bs vs Y h => h.te
      case hMg => exact fun bs vs Y Z h hC => h.on hC.to
      case h0 => exact fun vs _ => ⟨D.out, fun e => (by cases e)⟩
      case hq =>
        intro Y hY
        have HRG := Lib.hid (show ∀ W', (∃ z : Regrown, W' = Sort.grow (redrawn Y z.d) z.os) → W'.rangeAt gl (x * 8) (cyl 4 (fun j => T (4 * x + j))) by
          rintro W' ⟨z, rfl⟩
          exact cycAt (hY.on (below_regrown Y z.d z.os)).fl HLT.out)
        have SY := Lib.hid (sizeY (fun j => T (4 * x + j)))
        clear hY
        simp only [Lt.sel, Lt.putAll, List.map_cons, List.map_nil, List.zip_cons_cons, List.zip_nil_right, List.foldl_cons, List.foldl_nil, Act.put, List.setIfInBounds_toArray, List.set_cons_succ, List.set_cons_zero]
        repeat (first
          | (with_reducible show wpQuiet _ _ _ _ (⟨some 117, _, _, _, _, _⟩ :: _) _
             refine wpQuiet_loadR rfl _ rfl gl (x * 8) (cyl 4 (fun j => T (4 * x + j))) rfl HRG.out _ Try.underlying46 rfl SY.out ?_
             simp only [Act.put, List.setIfInBounds_toArray, List.set_cons_succ, List.set_cons_zero])
          | go_big_quiet_step (fail))
        exact rfl
      case hw =>
        rintro bs (_ | _ | q) st o hbl hs ho hk hpre vs Y hv hM
        · obtain rfl : 6 = st := by simpa using hs
          obtain rfl := Option.some.inj ho
          match vs, hv, bs, hbl with
          | [x1], _, [y0, y1], _ =>
            obtain rfl : y0 = false := hk
            refine Wr.wp_fn (f := 14) (args := #[.pointer (some ⟨mg, 0, none⟩), .int .i64 x]) (by kernel_rfl) (CRC.out Y mg a' cap' hM.te.rr x HLT.out) ?_
            rintro e Z ⟨U, rfl, gU, b1⟩
            have t1 := hM.te.on b1
            exact ⟨_, rfl, _, rfl, fun d hd hn => (by cases hd; exact absurd (by decide) hn), ⟨t1, fun _ => ⟨U, rfl, alike t1.fl HLT.out gU (fun j _ => HSL.out x HLT.out j)⟩⟩⟩
        · obtain rfl : 7 = st := by simpa using hs
          obtain rfl := Option.some.inj ho
          match vs, hv, bs, hbl with
          | [x1], _, [y0, y1], _ =>
            obtain rfl : y1 = false := hk
            obtain rfl : y0 = true := hpre 0 6 rfl (by kernel_rfl)
            obtain ⟨U, hU, al⟩ := hM.call rfl
            obtain rfl : x1 = .agg (cyl 4 U).toArray := hU
            refine Wr.wp_fn (f := 13) (args := #[.agg (cyl 4 (fun j => T (4 * x + j))).toArray, .agg (cyl 4 U).toArray]) (by kernel_rfl) (same_any _ _ Y al) ?_
            rintro e Z ⟨rfl, b1⟩
            exact ⟨_, rfl, _, rfl, fun d hd hn => (by cases hd; rfl), hM.on b1⟩
        · simp at hs
      case hend =>
        intro vs Y hv hM
        match vs, hv with
        | [x1], _ =>
          have D2 := Lib.hid hM.te
          clear hM D
          simp only [Lt.putAll, List.zip_cons_cons, List.zip_nil_right, List.foldl_cons, List.foldl_nil, Act.put, List.setIfInBounds_toArray, List.set_cons_succ, List.set_cons_zero]
          go_wp2_with fail
          go_roundg (m - x - 1)
          case rel => exact ⟨x + 1, by have := HX.out; omega, by go_num, D2⟩
          case measure => have := HX.out; omega
    · obtain rfl : x = m := by have := HX.out; omega
      go_wp2_with fail
      refine (CRG.out _ _ _ _ D.out.rr).mono ?_; rintro e w8 ⟨rfl, b1⟩
      have X8 := Lib.hid (D.out.on b1)
      clear b1 D CRG
      go_wp2_with fail
      refine (alive_any _).mono ?_; rintro e w9 ⟨rfl, b1⟩
      have X9 := Lib.hid (X8.out.on b1)
      clear b1 X8
      go_wp2_with fail
      refine (CRX.out _ _ _ _ X9.out.rr).mono ?_; rintro e wA ⟨rfl, b1⟩
      have XA := Lib.hid (X9.out.on b1)
      clear b1 X9 CRX
      go_wp2_with fail
      go_ret
      exact ⟨by simp, hg ▸ XA.out.bd.below⟩
end
end Sc
end Go.Proofs.Ytpamegkbhdbheaa

namespace Go.Proofs.Ytpamegkbhdbheaa.sceneTells
open Go.ChangeShapes Go.WideShapes Go.ChangeAt Go.RowKit Go.Deep

theorem walk (s : Sc.Sn) (a : Option Addr) (cap : Nat) (i n : Int) (w : World) (L : Sc.Lens s) (hp : Sc.PsAt w a s.ps) (_ : (Lit.int .i64 i).wf = true) (_ : (Lit.int .i64 n).wf = true) :
    Calls Try.prog 3 #[.agg (Sc.scv s a cap).toArray, .int .i64 i, .int .i64 n] w fun e w' => e = .returned (.bool true) ∧ Below w.heap.size w w' := by
  cases hf : Sc.fits s
  · exact Sc.tells_large s a cap i n w L hp hf
  · by_cases H : Sc.Ok s
    · cases hh : Sc.has s i n
      · exact Sc.tells_none s a cap i n w L hp hf H hh
      · unfold Sc.has at hh
        simp only [Bool.and_eq_true, decide_eq_true_eq] at hh
        obtain ⟨⟨h1, h2⟩, ⟨h3, h4⟩, -⟩ := hh
        obtain ⟨i', rfl⟩ := Int.eq_ofNat_of_zero_le h1
        obtain ⟨n', rfl⟩ := Int.eq_ofNat_of_zero_le h3
        exact Sc.tells_right s a cap i' n' w L hp hf H (by omega) (by omega)
    · exact Sc.tells_wrong s a cap i n w L hp hf H
end Go.Proofs.Ytpamegkbhdbheaa.sceneTells
