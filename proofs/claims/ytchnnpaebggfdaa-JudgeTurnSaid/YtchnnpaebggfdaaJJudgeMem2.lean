/-
  How outputs lie in memory, as a slice. No Go text is reached here. No conditions.
  What alone, some, places and complaints of package judge make, and what fits tells: contracts by walking the Go text. Conditions: how the scene, and the outputs lie.
-/
import Derived.Test.YtchnnpaebggfdaaJJudgeMath3
import Derived.Test.YtchnnpaebggfdaaSceneFar
import Derived.Test.YtchnnpaebggfdaaJFixMaskRef3
import Derived.Test.YtchnnpaebggfdaaSceneRange
namespace Go.Proofs.Ytchnnpaebggfdaa
set_option maxRecDepth 100000
open Go.ChangeShapes Go.WideShapes Go.ChangeAt Go.RowKit Go.Deep
namespace Jd
open Cf (G CA)
open Sc (Sn Pt Ok PsAt PtOk pt scv ptv Lens At Bd)
open Ot (Ou ouc)
def OutsAt (w : World) (a : Option Addr) (l : List Ou) : Prop := l = [] ∨ ∃ b off, a = some ⟨b, off, none⟩ ∧ ∀ (i : Nat) o, l[i]? = some o → Ot.Ok o ∧ w.rangeAt b (off + i * 41) (ouc o)
theorem range_below {w w' : World} {b off : Nat} {cs : List Value} (h : w.rangeAt b off cs) (hb : Below w.heap.size w w') : w'.rangeAt b off cs :=
  fun j v hv => (hb.cell (p := ⟨b, off + j, none⟩) (cell_lt (h j v hv))).trans (h j v hv)
theorem OutsAt.below {w w' : World} {a : Option Addr} {l : List Ou} (h : OutsAt w a l) (hb : Below w.heap.size w w') : OutsAt w' a l := by
  rcases h with rfl | ⟨b, off, rfl, hs⟩
  · exact Or.inl rfl
  · exact Or.inr ⟨b, off, rfl, fun i o hi => ⟨(hs i o hi).1, range_below (hs i o hi).2 hb⟩⟩
theorem ou_at {l : List Ou} {i : Nat} (h : i < l.length) : l[i]? = some (ou l i) := by
  unfold ou; rw [List.getD_eq_getElem?_getD, List.getElem?_eq_getElem h]; rfl
theorem OutsAt.at_ {w : World} {a : Option Addr} {l : List Ou} (h : OutsAt w a l) {i : Nat} (hi : i < l.length) : ∃ b off, a = some ⟨b, off, none⟩ ∧ Ot.Ok (ou l i) ∧ w.rangeAt b (off + i * 41) (ouc (ou l i)) := by
  rcases h with rfl | ⟨b, off, rfl, hs⟩
  · simp at hi
  · obtain ⟨h1, h2⟩ := hs i _ (ou_at hi)
    exact ⟨b, off, rfl, h1, h2⟩
/-- A scene whose data lie below a block, in a block beyond it. -/
theorem at_two {w0 X : World} {g : Nat} {s : Sn} {a : Option Addr} {cap : Nat} (L : Lens s) (hp : PsAt w0 a s.ps) (b : Below w0.heap.size w0 X) (r : VRow X g 27 (scv s a cap)) : At X g s a cap := ⟨r, hp.below b, L⟩
theorem one_lens {s : Sn} (L : Lens s) (i : Nat) : Lens (one s i) := ⟨L.c, L.q, by rw [one_len]; decide⟩
theorem ps_one {w : World} {b off : Nat} {s : Sn} {i : Nat} (h : PsAt w (some ⟨b, off, none⟩) s.ps) (hi : i < s.ps.length) : PsAt w (some ⟨b, off + i * 42, none⟩) (one s i).ps := by
  refine Or.inr ⟨b, off + i * 42, rfl, fun j p hj => ?_⟩
  cases j with
  | zero =>
    obtain rfl : pt s i = p := by simpa [one] using hj
    rw [Nat.zero_mul, Nat.add_zero]
    exact h.here hi
  | succ j => simp [one] at hj
theorem one_set {s : Sn} {a a' : Option Addr} {cap cap' i : Nat} (L : Lens s) : (scv s a cap).set 28 (.slice a' 1 cap') = scv (one s i) a' cap' := by
  unfold scv
  rw [List.set_append_right _ _ (by simp [cellsI, L.c, L.q])]
  simp [cellsI, L.c, L.q, one]
end Jd
end Go.Proofs.Ytchnnpaebggfdaa

namespace Go.Proofs.Ytchnnpaebggfdaa
set_option maxRecDepth 100000
open Go.ChangeShapes Go.WideShapes Go.ChangeAt Go.RowKit Go.Deep
namespace Jd
open Cf (G CA)
open Sc (Sn Pt Ok PsAt PtOk pt scv ptv Lens At Bd loadS NN)
open Ot (Ou ouc)
theorem aggSc (w : World) : (isAgg 27).run Try.prog w = .ok true w := by simp [isAgg, run_underlying Try.underlying27]
section
variable (s : Sn) (a : Option Addr) (cap : Nat) (w : World) (L : Lens s) (hp : PsAt w a s.ps)
include L hp
set_option maxHeartbeats 1600000 in
theorem alone_at (b off : Nat) (ha : a = some ⟨b, off, none⟩) (i : Nat) (hi : i < s.ps.length) (hcap : s.ps.length ≤ cap) :
    Calls Try.prog 24 #[.agg (scv s a cap).toArray, .int .i64 i] w fun e w' => e = .returned (.agg (scv (one s i) (some ⟨b, off + i * 42, none⟩) (cap - i)).toArray) ∧ Below w.heap.size w w' := by
  subst ha
  have X0 := Lib.hid (Bd.new (cap := cap) L hp)
  have HC28 := Lib.hid (Sc.scv_ps (a := some ⟨b, off, none⟩) (cap := cap) L)
  have hic : (i : Int) + 1 ≤ cap := by omega
  have hin : (i : Int) < 9223372036854775807 := by have := L.n; omega
  have hm1 : (i : Int) < s.ps.length := by omega
  have HS1 := Lib.hid (one_set (a := some ⟨b, off, none⟩) (a' := some ⟨b, off + i * 42, none⟩) (cap := cap) (cap' := cap - i) (i := i) L)
  have HL1 := Lib.hid (one_lens L i)
  have HZ := Lib.hid (Sc.sizeS (a := some ⟨b, off + i * 42, none⟩) (cap := cap - i) (one_lens L i))
  have HLN := Lib.hid (Sc.scv_len (a := some ⟨b, off + i * 42, none⟩) (cap := cap - i) (one_lens L i))
  have HA := Lib.hid (Sc.scv_all (s := one s i) (a := some ⟨b, off + i * 42, none⟩) (cap := cap - i))
  have HAG := Lib.hid aggSc
  clear L hp hi
  generalize s.ps.length = m at *
  go_enter Try.func24, Try.ntmps24
  go_upto_region 1 with fail
  have B0 := Lib.hid (X0.out.below.alloc (by simp) (.cells #[.int .i64 0, .int .i64 0, .int .i64 0, .int .i64 0, .int .i64 0, .int .i64 0, .int .i64 0, .int .i64 0, .int .i64 0, .int .i64 0, .int .i64 0, .int .i64 0, .int .i64 0, .int .i64 0, .int .i64 0, .int .i64 0, .int .i64 0, .int .i64 0, .int .i64 0, .int .i64 0, .int .i64 0, .int .i64 0, .int .i64 0, .int .i64 0, .int .i64 0, .int .i64 0, .int .i64 0, .int .i64 0, .slice none 0 0] 27))
  have R0 := Lib.hid (X0.out.at_.row.alloc (.cells #[.int .i64 0, .int .i64 0, .int .i64 0, .int .i64 0, .int .i64 0, .int .i64 0, .int .i64 0, .int .i64 0, .int .i64 0, .int .i64 0, .int .i64 0, .int .i64 0, .int .i64 0, .int .i64 0, .int .i64 0, .int .i64 0, .int .i64 0, .int .i64 0, .int .i64 0, .int .i64 0, .int .i64 0, .int .i64 0, .int .i64 0, .int .i64 0, .int .i64 0, .int .i64 0, .int .i64 0, .int .i64 0, .slice none 0 0] 27))
  have Z0' := VRow.new (w.alloc (.cells (scv s (some ⟨b, off, none⟩) cap).toArray 27)) [.int .i64 0, .int .i64 0, .int .i64 0, .int .i64 0, .int .i64 0, .int .i64 0, .int .i64 0, .int .i64 0, .int .i64 0, .int .i64 0, .int .i64 0, .int .i64 0, .int .i64 0, .int .i64 0, .int .i64 0, .int .i64 0, .int .i64 0, .int .i64 0, .int .i64 0, .int .i64 0, .int .i64 0, .int .i64 0, .int .i64 0, .int .i64 0, .int .i64 0, .int .i64 0, .int .i64 0, .int .i64 0, .slice none 0 0] 27
  rw [World.size_alloc] at Z0'
  have Z0 := Lib.hid Z0'
  clear Z0' X0
  generalize (w.alloc (.cells (scv s (some ⟨b, off, none⟩) cap).toArray 27)).alloc (.cells #[.int .i64 0, .int .i64 0, .int .i64 0, .int .i64 0, .int .i64 0, .int .i64 0, .int .i64 0, .int .i64 0, .int .i64 0, .int .i64 0, .int .i64 0, .int .i64 0, .int .i64 0, .int .i64 0, .int .i64 0, .int .i64 0, .int .i64 0, .int .i64 0, .int .i64 0, .int .i64 0, .int .i64 0, .int .i64 0, .int .i64 0, .int .i64 0, .int .i64 0, .int .i64 0, .int .i64 0, .int .i64 0, .slice none 0 0] 27) = w0 at *
  generalize hg : w.heap.size = g at *
  have c28 := R0.out.cell 28 HC28.out
  have f28 := R0.out.frozen 28
  go_upto_region 2 with fail
  have R1' := R0.out.set 28 (.slice (some ⟨b, off + i * 42, none⟩) 1 (cap - i))
  rw [HS1.out] at R1'
  have R1 := Lib.hid R1'
  have Z1 := Lib.hid (Z0.out.setOther (p := ⟨g, 28, none⟩) (by simp) (.slice (some ⟨b, off + i * 42, none⟩) 1 (cap - i)))
  have B1 := Lib.hid (B0.out.setCell (p := ⟨g, 28, none⟩) (Nat.le_refl g) (.slice (some ⟨b, off + i * 42, none⟩) 1 (cap - i)))
  clear R1' R0 Z0 B0 c28 f28
  generalize w0.setCell ⟨g, 28, none⟩ (.slice (some ⟨b, off + i * 42, none⟩) 1 (cap - i)) = w1 at *
  go_wp2_with (first
    | ((with_reducible show wpList _ _ _ (⟨some 12, _, _, _, _, _⟩ :: _) _ _); refine VB.loaded rfl _ rfl g rfl R1.out Try.underlying27 rfl HZ.out ?_)
    | ((with_reducible show wpList _ _ _ (⟨none, .store _ (.tmp 4) _, _, _, _, _⟩ :: _) _ _); refine VB.store rfl _ _ rfl (g + 1) (scv (one s i) (some ⟨b, off + i * 42, none⟩) (cap - i)) rfl rfl Z1.out HZ.out (by rw [HLN.out]; rfl) HA.out ?_))
  have B2 := Below.put (g := g + 1) B1.out (by omega) (scv (one s i) (some ⟨b, off + i * 42, none⟩) (cap - i)).toArray
  exact bodyPost_ret (VB.ret1 rfl rfl (HAG.out _) HZ.out (Z1.out.put _)) rfl ⟨rfl, by rw [hg]; exact B2⟩
theorem alone_any (i : Nat) (hi : i < s.ps.length) (hcap : s.ps.length ≤ cap) :
    Calls Try.prog 24 #[.agg (scv s a cap).toArray, .int .i64 i] w fun e w' => ∃ a' cap', e = .returned (.agg (scv (one s i) a' cap').toArray) ∧ (∀ X, PsAt X a s.ps → PsAt X a' (one s i).ps) ∧ Below w.heap.size w w' := by
  obtain ⟨b, off, rfl, -⟩ := hp.at_ hi
  exact (alone_at s _ cap w L hp b off rfl i hi hcap).mono fun e w' ⟨h1, h2⟩ => ⟨_, _, h1, fun X q => ps_one q hi, h2⟩
set_option maxHeartbeats 1600000 in
theorem some_any (m : Int) (bit : Bool) (hN : NN s = 3 ∨ NN s = 4) (hG : G s.c 0 = NN s) :
    Calls Try.prog 48 #[.agg (scv s a cap).toArray, .int .i64 m, .bool bit] w fun e w' => e = .returned (.bool (sm s m bit)) ∧ Below w.heap.size w w' := by
  have X0 := Lib.hid (Bd.new (cap := cap) L hp)
  have c0 := X0.out.at_.c 0 (by omega)
  rw [hG] at c0
  have HOD := Lib.hid (fun W (D : At W w.heap.size s a cap) => D.odd)
  have HN := Lib.hid (fun k h1 h2 => sm_yes (s := s) (m := m) (b := bit) (k := k) h1 h2)
  have HY := Lib.hid (fun h => sm_no (s := s) (m := m) (b := bit) h)
  have H1 := Lib.hid (fun k => show sm1 s m bit k = (!(decide ((k : Int) = s.odd)) && (Fx.has m k == bit)) from rfl)
  have CH := fun k W => Fx.has_any m k W
  have hN4 : NN s ≤ 4 := by omega
  clear L hp hN hG
  generalize sm s m bit = ans at *
  generalize NN s = N at *
  generalize s.odd = od at *
  go_enter Try.func48, Try.ntmps48
  go_upto_region 1 with fail
  generalize w.alloc (.cells (scv s a cap).toArray 27) = w0 at *
  generalize hg : w.heap.size = g at *
  go_wp2_with fail
  go_loopg [7, 11] N (fun gg _ s11 wr => ∃ k : Nat, k + gg = N ∧ s11 = .int .i64 k ∧ Hid (∀ j, j < k → sm1 s m bit j = false) ∧ Hid (Bd w wr g s a cap))
  case atStart => exact ⟨0, by omega, rfl, Lib.hid (fun j hj => by omega), X0⟩
  case round =>
    clear X0
    rename World => W
    obtain ⟨k, hk, rfl, HA, D⟩ := hrel
    have HK := Lib.hid hk
    clear hk
    by_cases hlt : k < N
    · have hli : (k : Int) < N := by omega
      have hk4 : (k : Int) < 4 := by omega
      have q23 := HOD.out W D.out.at_
      have H1k := Lib.hid (H1.out k)
      have HNk := Lib.hid (HN.out k hlt)
      have HAk := Lib.hid (show sm1 s m bit k = false → ∀ j, j < k + 1 → sm1 s m bit j = false from fun h j hj => by
        rcases Nat.lt_succ_iff_lt_or_eq.1 hj with h' | rfl
        · exact HA.out j h'
        · exact h)
      have CHk := fun W => CH k W
      clear hlt
      generalize sm1 s m bit k = x1 at *
      by_cases ho : (k : Int) = od
      · have e1 : ((k : Int) != od) = false := by simp [ho]
        have HX := Lib.hid (HAk.out (by rw [H1k.out]; simp [ho]))
        clear ho
        go_wp2_with fail
        go_roundg (gk - 1)
        case rel => exact ⟨k + 1, by have := HK.out; omega, by go_num, HX, D⟩
        case measure => have := HK.out; omega
      · have e1 : ((k : Int) != od) = true := by simp [ho]
        have H2 := Lib.hid (show x1 = (Fx.has m k == bit) by rw [H1k.out]; simp [ho])
        clear ho
        generalize Fx.has m k = hb at *
        cases he : hb == bit
        · have HX := Lib.hid (HAk.out (by rw [H2.out, he]))
          go_wp2_with fail
          refine (CHk _).mono ?_; rintro e w2 ⟨rfl, rfl⟩
          go_wp2_with fail
          go_roundg (gk - 1)
          case rel => exact ⟨k + 1, by have := HK.out; omega, by go_num, HX, D⟩
          case measure => have := HK.out; omega
        · have HX := Lib.hid (HNk.out (by rw [H2.out, he]))
          go_wp2_with fail
          refine (CHk _).mono ?_; rintro e w2 ⟨rfl, rfl⟩
          go_wp2_with fail
          go_ret
          exact ⟨Sc.ret_bool HX.out.symm, hg ▸ D.out.below⟩
    · obtain rfl : k = N := by have := HK.out; omega
      have HX := Lib.hid (HY.out HA.out)
      go_wp2_with fail
      go_ret
      exact ⟨Sc.ret_bool HX.out.symm, hg ▸ D.out.below⟩
end
theorem places_any (m : Int) (w : World) :
    Calls Try.prog 34 #[.int .i64 m] w fun e w' => e = .returned (.func (.func 47) #[] #[.pointer (some ⟨w.heap.size, 0, none⟩)]) ∧ w' = w.alloc (.cells #[.int .i64 m] 3) := by
  go_enter Try.func34, Try.ntmps34
  go_wp2
  go_ret
  exact ⟨rfl, rfl⟩
/-- The blocks of a scene, and of outputs, that the iterator of complaints holds. -/
def twoBox (w : World) (sv : List Value) (al : Option Addr) (m cap : Nat) : World := (w.alloc (.cells sv.toArray 27)).alloc (.cells #[.slice al m cap] 28)
theorem complaints_any (sv : List Value) (al : Option Addr) (m cap : Nat) (w : World) :
    Calls Try.prog 21 #[.agg sv.toArray, .slice al m cap] w fun e w' => e = .returned (.func (.func 33) #[] #[.pointer (some ⟨w.heap.size + 1, 0, none⟩), .pointer (some ⟨w.heap.size, 0, none⟩)]) ∧ w' = twoBox w sv al m cap := by
  generalize hs : sv.toArray = sa
  unfold twoBox
  rw [hs]
  go_enter Try.func21, Try.ntmps21
  go_wp2
  go_ret
  exact ⟨rfl, rfl⟩
end Jd
end Go.Proofs.Ytchnnpaebggfdaa
