/-
  A struct loaded whole where only reads are drawn; a whole scene's cells. No function of the program is walked here. No conditions beyond those said.
  How the document's scene lies in memory; what its Fault and off do: contracts by walking the Go text. Conditions: how the scene lies.
-/
import Derived.Test.YtchnnpaebggfdaaSceneLie
import Derived.Test.YtchnnpaebggfdaaJSceneWalks4
import Derived.Test.YtchnnpaebggfdaaConfigRef
namespace Go.Proofs.Ytchnnpaebggfdaa
set_option maxRecDepth 100000
open Go.ChangeShapes Go.WideShapes Go.ChangeAt Go.RowKit Go.Deep
namespace Sc
open Cf (G CA)
theorem wpQuiet_loadR {ops : Array Oper} {C : World → Prop} {Q : Act → Prop} {o : Oper} {rest : List Oper} {a : Act} {t : TypeId} (hw : Region.wanted o (yielded ops a.tmps) = true) (x : Operand) (ho : o.op = .load t x)
    (b off : Nat) (cs : List Value) (hx : a.eval x = .pointer (some ⟨b, off, none⟩)) (hb : ∀ w, C w → w.rangeAt b off cs) (d : TypeDesc) (hu : Try.prog.underlying t = some d) (hd : d.isRow = true) (hi : (Try.prog.info? t).map (·.size) = some cs.length)
    (h : wpQuiet Try.prog ops C Q rest (a.put o.dst (.agg cs.toArray))) : wpQuiet Try.prog ops C Q (o :: rest) a := by
  unfold wpQuiet
  rw [if_pos hw]
  refine ⟨.agg cs.toArray, fun w hC => ?_, h⟩
  have e := run_loadVar_mid (P := Try.prog) w b off t cs d (hb w hC) hu hd hi
  unfold Oper.quietAt execOp
  simp only [ho, hx, Instr.loadAt, Instr.sureAddr, Sem.run_bind, Sem.run_pure, Result.andThen_ok, e]
  exact ⟨rfl, rfl⟩
end Sc
end Go.Proofs.Ytchnnpaebggfdaa

namespace Go.Proofs.Ytchnnpaebggfdaa
set_option maxRecDepth 100000
open Go.ChangeShapes Go.WideShapes Go.ChangeAt Go.RowKit Go.Deep
namespace Sc
open Cf (G CA)
/-- A scene in a block of its own. -/
structure RAt (w : World) (g : Nat) (s : Sn) (a : Option Addr) (cap : Nat) : Prop where
  row : VRow w g 68 (scv s a cap)
  ps : PsAt w a s.ps
  len : Lens s
section
variable {w w' : World} {g : Nat} {s : Sn} {a : Option Addr} {cap : Nat}
theorem RAt.on (h : RAt w g s a cap) (b : Below w.heap.size w w') : RAt w' g s a cap := ⟨h.row.below b h.row.lt, h.ps.below b, h.len⟩
theorem RAt.new (L : Lens s) (h : PsAt w a s.ps) : RAt (w.alloc (.cells (scv s a cap).toArray 68)) w.heap.size s a cap :=
  ⟨VRow.new w _ _, h.below ((Below.refl _ w).alloc (Nat.le_refl _) _), L⟩
theorem RAt.c (h : RAt w g s a cap) (j : Nat) (hj : j < 21) : w.cell? ⟨g, j, none⟩ = some (.int .i64 (G s.c j)) := h.row.cell j (scv_c h.len j hj)
theorem RAt.e (h : RAt w g s a cap) : w.cell? ⟨g, 21, none⟩ = some (.int .i64 s.e) := h.row.cell 21 (scv_e h.len)
theorem RAt.r (h : RAt w g s a cap) : w.cell? ⟨g, 22, none⟩ = some (.int .i64 s.r) := h.row.cell 22 (scv_r h.len)
theorem RAt.odd (h : RAt w g s a cap) : w.cell? ⟨g, 23, none⟩ = some (.int .i64 s.odd) := h.row.cell 23 (scv_odd h.len)
theorem RAt.q (h : RAt w g s a cap) (k : Nat) (hk : k < 4) : w.cell? ⟨g, 24 + k, none⟩ = some (.int .i64 (qv s k)) := h.row.cell (24 + k) (scv_q h.len k hk)
theorem RAt.p (h : RAt w g s a cap) : w.cell? ⟨g, 28, none⟩ = some (.slice a s.ps.length cap) := h.row.cell 28 (scv_ps h.len)
theorem RAt.conf (h : RAt w g s a cap) : w.rangeAt g 0 (cellsI .i64 s.c) := fun j v hv => by
  have hj : j < s.c.length := by have := (List.getElem?_eq_some_iff.1 hv).1; simpa [cellsI] using this
  rw [cellsI_get .i64 s.c j hj] at hv
  cases hv
  rw [Nat.zero_add]
  exact h.c j (by rw [← h.len.c]; exact hj)
theorem rsizeK (h : RAt w g s a cap) : (Try.prog.info? 24).map (·.size) = some (cellsI .i64 s.c).length := by rw [cellsI, List.length_map, h.len.c]; kernel_rfl
end
/-- The document's scene while a call goes on. -/
structure RBd (w W : World) (g : Nat) (s : Sn) (a : Option Addr) (cap : Nat) : Prop where
  at_ : RAt W g s a cap
  below : Below w.heap.size w W
theorem RBd.on {w W W' : World} {g : Nat} {s : Sn} {a : Option Addr} {cap : Nat} (h : RBd w W g s a cap) (b : Below W.heap.size W W') : RBd w W' g s a cap := ⟨h.at_.on b, grow h.below b⟩
theorem RBd.start {w : World} {g : Nat} {s : Sn} {a : Option Addr} {cap : Nat} (h : RAt w g s a cap) : RBd w w g s a cap := ⟨h, Below.refl _ _⟩
section
variable (g : Nat) (s : Sn) (a : Option Addr) (cap : Nat) (w : World) (R : RAt w g s a cap)
include R
set_option maxRecDepth 100000 in
set_option maxHeartbeats 6400000 in
theorem roff_any (C : Cv s) :
    Calls Try.prog 26 #[.pointer (some ⟨g, 0, none⟩)] w fun e w' => e = .returned (.string (fv s s.ps.length)) ∧ Below w.heap.size w w' := by
  have X0 := Lib.hid (RBd.start R)
  have HC := Lib.hid C
  have CE := C.eq
  have h4 : (NN s : Int) ≤ 4 := by have := C.nn; omega
  have HLN := Lib.hid R.len.n
  have HN := Lib.hid (show ∀ i, i < s.ps.length → nok s i = false → fv s s.ps.length = ⟨#[111, 102, 102]⟩ from fun i hi h => fv_no (all_range_no hi h))
  have HY := Lib.hid (show (∀ i, i < s.ps.length → nok s i = true) → fv s s.ps.length = ⟨#[]⟩ from fun h => fv_yes (all_range.2 h))
  generalize fv s s.ps.length = ans at *
  obtain ⟨m, hm⟩ : ∃ m, m = s.ps.length := ⟨_, rfl⟩
  have HM := Lib.hid hm
  rw [← hm] at HN HY HLN
  clear R C hm
  generalize hnn : NN s = N at *
  have HNN := Lib.hid hnn
  clear hnn
  go_enter Try.func26, Try.ntmps26
  go_wp2_with fail
  go_loopg [3, 4, 5] m (fun gg s3 _ _ wr => ∃ i : Nat, i + gg = m ∧ s3 = .int .i64 i ∧ Hid (∀ j, j < i → nok s j = true) ∧ Hid (RBd w wr g s a cap))
  case atStart => exact ⟨0, by omega, rfl, Lib.hid (fun j hj => by omega), X0⟩
  case round =>
    clear X0
    rename World => W
    obtain ⟨i, hi, rfl, HA, D⟩ := hrel
    have HI := Lib.hid hi
    clear hi
    have hmx : (m : Int) ≤ 9223372036854775807 := by have := HLN.out; omega
    have q5 := D.out.at_.p
    rw [← HM.out] at q5
    by_cases hlt : i < m
    · have hli : (i : Int) < m := by omega
      have HLT := Lib.hid hlt
      have HI1 := Lib.hid (show nok s i = true → ∀ j, j < i + 1 → nok s j = true from fun hn j hj => by
        rcases Nat.lt_succ_iff_lt_or_eq.1 hj with h | rfl
        · exact HA.out j h
        · exact hn)
      clear hlt
      go_wp2_with fail
      clear q5
      go_loopg [4, 5] N (fun gg s4 _ wr => ∃ k : Nat, k + gg = N ∧ s4 = .int .i64 k ∧ Hid (∀ j, j < k → nok1 s i j = true) ∧ Hid (RBd w wr g s a cap))
      case atStart => exact ⟨0, by omega, rfl, Lib.hid (fun j hj => by omega), D⟩
      case round =>
        clear D
        rename World => W2
        obtain ⟨k, hk, rfl, HB, D⟩ := hrel
        have HK := Lib.hid hk
        clear hk
        have c0 := D.out.at_.c 0 (by omega)
        rw [CE] at c0
        by_cases hlk : k < N
        · have hlk' : (k : Int) < N := by omega
          have hk4 : (k : Int) < 4 := by omega
          have H1 := Lib.hid (show nok1 s i k = (decide ((k : Int) = s.odd) || (List.range 8).all (nok2 s i k)) from rfl)
          have HKN := Lib.hid hlk
          clear hlk
          go_wp2_with fail
          clear c0
          go_loopg [5] 8 (fun gg s5 wr => ∃ n : Nat, n + gg = 8 ∧ s5 = .int .i64 n ∧ Hid (¬ (k : Int) = s.odd → ∀ j, j < n → nok2 s i k j = true) ∧ Hid (RBd w wr g s a cap))
          case atStart => exact ⟨0, by omega, rfl, Lib.hid (fun _ j hj => by omega), D⟩
          case round =>
            clear D
            rename World => W3
            obtain ⟨n, hn, rfl, HD, D⟩ := hrel
            have HL := Lib.hid hn
            clear hn
            by_cases hln : n < 8
            · have hl8 : (n : Int) < 8 := by omega
              have q1 := D.out.at_.odd
              have HS0 := Lib.hid (show ¬ (k : Int) = s.odd → nok2 s i k n = true → ∀ j, j < n + 1 → nok2 s i k j = true from fun ho hx j hj => by
                rcases Nat.lt_succ_iff_lt_or_eq.1 hj with h | rfl
                · exact HD.out ho j h
                · exact hx)
              by_cases hod : (k : Int) = s.odd
              · have d1 : ((k : Int) != s.odd) = false := by simp [hod]
                have HS := Lib.hid (show ¬ (k : Int) = s.odd → ∀ j, j < n + 1 → nok2 s i k j = true from fun ho => absurd hod ho)
                clear hod hln
                go_upto_region 10 with fail
                go_quiet (fail)
                have D2 := Lib.hid (D.out.on (below_drewN (Below.refl W3.heap.size W3) nq))
                clear D q1
                generalize W3.drewN nq = W4 at *
                go_wp2_with fail
                go_roundg (gk - 1)
                case rel => exact ⟨n + 1, by have := HL.out; omega, by go_num, HS, D2⟩
                case measure => have := HL.out; omega
              · have d1 : ((k : Int) != s.odd) = true := by simp [hod]
                have q3 := D.out.at_.e
                have q5 := D.out.at_.p
                obtain ⟨b, off, hab, P⟩ := D.out.at_.ps.at_ (i := i) (by have := HLT.out; have := HM.out; omega)
                rw [hab] at q5
                rw [← HM.out] at q5
                have co := P.o (k * 8 + n) (by omega)
                rw [← Nat.add_assoc, ← Nat.add_assoc] at co
                have hov : (pt s i).o.getD (k * 8 + n) 0 = ov s i k n := rfl
                rw [hov] at co
                have HV := Lib.hid (show nok2 s i k n = (decide (-s.e ≤ ov s i k n) && decide (ov s i k n ≤ s.e)) from rfl)
                have HOD := Lib.hid hod
                have z3 := HC.out.e
                have HNO := Lib.hid (show nok2 s i k n = false → ans = ⟨#[111, 102, 102]⟩ from fun hx => HN.out i HLT.out (all_range_no (p := nok1 s i) (i := k) (by have := HKN.out; have := HNN.out; omega) (by rw [H1.out, all_range_no hln hx]; simp [hod])))
                clear P hov hod hln
                generalize ov s i k n = x at *
                generalize s.e = ee at *
                generalize s.odd = od at *
                have p1 : IntKind.i64.wrap (-ee) = -ee := IntWalk.i64_in _ (by omega)
                by_cases hx1 : ee < x
                · have d2 : decide (ee < x) = true := by simpa using hx1
                  have HF := Lib.hid (HNO.out (by rw [HV.out]; simp; omega))
                  clear hx1
                  go_upto_region 10 with fail
                  go_quiet (fail)
                  have D2 := Lib.hid (D.out.on (below_drewN (Below.refl W3.heap.size W3) nq))
                  clear D q1 q3 q5 co
                  generalize W3.drewN nq = W4 at *
                  go_wp2_with fail
                  go_ret
                  exact ⟨ret_str HF.out.symm, D2.out.below⟩
                · have d2 : decide (ee < x) = false := by simpa using hx1
                  by_cases hx2 : x < -ee
                  · have d3 : decide (x < -ee) = true := by simpa using hx2
                    have HF := Lib.hid (HNO.out (by rw [HV.out]; simp; omega))
                    clear hx1 hx2
                    go_upto_region 10 with fail
                    go_quiet (fail)
                    have D2 := Lib.hid (D.out.on (below_drewN (Below.refl W3.heap.size W3) nq))
                    clear D q1 q3 q5 co
                    generalize W3.drewN nq = W4 at *
                    go_wp2_with fail
                    go_ret
                    exact ⟨ret_str HF.out.symm, D2.out.below⟩
                  · have d3 : decide (x < -ee) = false := by simpa using hx2
                    have HS := Lib.hid (show ¬ (k : Int) = od → ∀ j, j < n + 1 → nok2 s i k j = true from fun ho => HS0.out ho (by rw [HV.out]; simp; omega))
                    clear hx1 hx2
                    go_upto_region 10 with fail
                    go_quiet (fail)
                    have D2 := Lib.hid (D.out.on (below_drewN (Below.refl W3.heap.size W3) nq))
                    clear D q1 q3 q5 co
                    generalize W3.drewN nq = W4 at *
                    go_wp2_with fail
                    go_roundg (gk - 1)
                    case rel => exact ⟨n + 1, by have := HL.out; omega, by go_num, HS, D2⟩
                    case measure => have := HL.out; omega
            · obtain rfl : n = 8 := by have := HL.out; omega
              have HS := Lib.hid (show ∀ j, j < k + 1 → nok1 s i j = true from fun j hj => by
                rcases Nat.lt_succ_iff_lt_or_eq.1 hj with h | rfl
                · exact HB.out j h
                · rw [H1.out]
                  by_cases ho : (j : Int) = s.odd
                  · simp [ho]
                  · rw [all_range.2 (HD.out ho)]; simp)
              go_wp2_with fail
              go_roundg (N - k - 1)
              case rel => exact ⟨k + 1, by have := HK.out; omega, by go_num, HS, D⟩
              case measure => have := HK.out; omega
        · obtain rfl : k = N := by have := HK.out; omega
          have HS := Lib.hid (HI1.out (all_range.2 (fun j hj => HB.out j (by have := HNN.out; omega))))
          go_wp2_with fail
          go_roundg (m - i - 1)
          case rel => exact ⟨i + 1, by have := HI.out; omega, by go_num, HS, D⟩
          case measure => have := HI.out; omega
    · obtain rfl : i = m := by have := HI.out; omega
      have HF := Lib.hid (HY.out HA.out)
      go_wp2_with fail
      go_ret
      exact ⟨ret_str HF.out.symm, D.out.below⟩
end
end Sc
end Go.Proofs.Ytchnnpaebggfdaa
