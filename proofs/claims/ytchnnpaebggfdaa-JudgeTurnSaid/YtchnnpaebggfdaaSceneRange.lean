/-
  What Range of package scene does: its contract by walking the Go text. Conditions: how the scene lies.
-/
import Derived.Test.YtchnnpaebggfdaaJSceneWalks4
import Derived.Lib.MinMax
namespace Go.Proofs.Ytchnnpaebggfdaa
set_option maxRecDepth 100000
open Go.ChangeShapes Go.WideShapes Go.ChangeAt Go.RowKit Go.Deep
namespace Sc
open Cf (G CA)
theorem PtOk.rp {w : World} {b off : Nat} {p : Pt} (h : PtOk w b off p) : w.rangeAt b off (ptv p) := fun j v hv => h.cell j v hv
theorem has_yes {s : Sn} (H : Ok s) {i n : Nat} (hi : i < s.ps.length) (hn : n < 8) : has s i n = true := by
  unfold has
  rw [fault_ok.2 H]
  simp
  omega
theorem has_is {s : Sn} {i n : Int} (h : has s i n = true) : Ok s ∧ ∃ i' n' : Nat, i = i' ∧ n = n' ∧ i' < s.ps.length ∧ n' < 8 := by
  unfold has at h
  simp only [Bool.and_eq_true, decide_eq_true_eq] at h
  obtain ⟨⟨h1, h2⟩, ⟨h3, h4⟩, h5⟩ := h
  exact ⟨fault_ok.1 h5, i.toNat, n.toNat, by omega, by omega, by omega, by omega⟩
section
variable (s : Sn) (a : Option Addr) (cap : Nat) (w : World) (L : Lens s) (hp : PsAt w a s.ps)
include L hp
set_option maxHeartbeats 3200000 in
theorem range_yes (H : Ok s) (i n : Nat) (hj : i < s.ps.length) (hn : n < 8) :
    Calls Try.prog 16 #[.agg (scv s a cap).toArray, .int .i64 i, .int .i64 n] w fun e w' => e = .returned (.tuple #[.int .i64 (lo 2147483647 s i n (NN s)), .int .i64 (hi (-2147483648) s i n (NN s))]) ∧ Below w.heap.size w w' := by
  have X0 := Lib.hid (Bd.new (cap := cap) L hp)
  have CH := fun W (D : At W w.heap.size s a cap) => has_any s a cap W D.len D.ps i n
  rw [has_yes H hj hn] at CH
  have C := cv_of H.cov
  obtain ⟨b, off, rfl, -⟩ := hp.at_ hj
  have HI := Lib.hid hj
  have hli : (i : Int) < s.ps.length := by omega
  have hN := C.nn
  have HW := Lib.hid (fun k (hk : k < NN s) (ho : ¬ (k : Int) = s.odd) => H.within hj hk hn ho)
  have c1 := C.lo
  have c2 := C.hi
  have HB := Lib.hid (show ∀ k, k < NN s → ¬ (k : Int) = s.odd → -9223372036854775808 ≤ val s i k n ∧ val s i k n ≤ 9223372036854775807 from fun k hk ho => by have := HW.out k hk ho; omega)
  have CT := Lib.hid (fun W (D : At W w.heap.size s (some ⟨b, off, none⟩) cap) k (hk : k < NN s) (ho : ¬ (k : Int) = s.odd) => told_any (pt s i) k n (val s i k n) W (D.ps.here hj).t8 (D.ps.here hj).o32 (by omega) hn rfl (HB.out k hk ho))
  have CE := C.eq
  clear L hp H C hj hn HW HB c1 c2
  generalize hm : NN s = m at *
  go_enter Try.func16, Try.ntmps16
  go_upto_region 1 with fail
  generalize w.alloc (.cells (scv s (some ⟨b, off, none⟩) cap).toArray 27) = w0 at *
  generalize hg : w.heap.size = g at *
  go_wp2_with ((with_reducible show wpList _ _ _ (⟨some 12, _, _, _, _, _⟩ :: _) _ _); refine loadS rfl _ rfl g rfl X0.out.at_ ?_)
  refine (CH _ X0.out.at_).mono ?_; rintro e w1 ⟨rfl, b1⟩
  have X1 := Lib.hid (X0.out.on b1)
  clear b1 X0 CH
  have c0 := X1.out.at_.c 0 (by omega)
  rw [CE] at c0
  go_wp2_with fail
  clear c0
  go_loopg [8, 9, 10, 11, 20] m (fun gg s8 s9 _ _ s20 wr => ∃ k : Nat, k + gg = m ∧ s20 = .int .i64 k ∧ s8 = .int .i64 (lo 2147483647 s i n k) ∧ s9 = .int .i64 (hi (-2147483648) s i n k) ∧ Hid (Bd w wr g s (some ⟨b, off, none⟩) cap))
  case atStart => exact ⟨0, by omega, rfl, rfl, rfl, X1⟩
  case round =>
    clear X1
    rename World => W
    obtain ⟨k, hk, rfl, rfl, rfl, D⟩ := hrel
    have HK := Lib.hid hk
    clear hk
    by_cases hlt : k < m
    · have hlk : (k : Int) < m := by omega
      have q1 := D.out.at_.odd
      by_cases hod : (k : Int) = s.odd
      · have d1 : ((k : Int) == s.odd) = true := by simp [hod]
        have HL := Lib.hid (show lo 2147483647 s i n (k + 1) = lo 2147483647 s i n k ∧ hi (-2147483648) s i n (k + 1) = hi (-2147483648) s i n k from ⟨by rw [lo, if_pos hod], by rw [hi, if_pos hod]⟩)
        clear hod hlt
        generalize s.odd = od at *
        go_wp2_with fail
        go_roundg (gk - 1)
        case rel => exact ⟨k + 1, by have := HK.out; omega, by go_num, by rw [HL.out.1], by rw [HL.out.2], D⟩
        case measure => have := HK.out; omega
      · have d1 : ((k : Int) == s.odd) = false := by simp [hod]
        have HL := Lib.hid (show lo 2147483647 s i n (k + 1) = min (lo 2147483647 s i n k) (val s i k n) ∧ hi (-2147483648) s i n (k + 1) = max (hi (-2147483648) s i n k) (val s i k n) from ⟨by rw [lo, if_neg hod], by rw [hi, if_neg hod]⟩)
        have CT1 := fun W (D : At W g s (some ⟨b, off, none⟩) cap) => CT.out W D k hlt hod
        have q2 := D.out.at_.p
        have P := D.out.at_.ps.here HI.out
        have RP := Lib.hid P.rp
        have SP := Lib.hid (sizeP P.t8 P.o32)
        clear hod hlt P
        generalize s.odd = od at *
        generalize val s i k n = x at *
        generalize lo 2147483647 s i n k = ll at *
        generalize hi (-2147483648) s i n k = hh at *
        go_wp2_with ((with_reducible show wpList _ _ _ (⟨some 31, _, _, _, _, _⟩ :: _) _ _); refine wpList_load_mid rfl _ _ rfl b (off + i * 42) rfl (ptv (pt s i)) _ RP.out Try.underlying63 rfl SP.out ?_)
        refine (CT1 _ D.out.at_).mono ?_; rintro e w2 ⟨rfl, b1⟩
        have D2 := Lib.hid (D.out.on b1)
        clear b1 D q1 q2 CT1 RP SP
        go_wp2_with fail
        go_roundg (gk - 1)
        case rel => exact ⟨k + 1, by have := HK.out; omega, by go_num, by rw [HL.out.1], by rw [HL.out.2], D2⟩
        case measure => have := HK.out; omega
    · obtain rfl : k = m := by have := HK.out; omega
      go_wp2_with fail
      go_ret2
      exact ⟨rfl, hg ▸ D.out.below⟩
end
end Sc
end Go.Proofs.Ytchnnpaebggfdaa
