/-
  What the document's own answers for layer 3 (package rudderref03: Seal, Open) return, for at most 1000000 bytes: contracts by walking the Go text. Their conditions: where the bytes lie, and that they are so few.
-/
import Derived.Test.YtngdaogcmgmmeaaCrcRef2
import Derived.Test.YtngdaogcmgmmeaaCrcOpen
import Derived.Test.YtngdaogcmgmmeaaAppend
namespace Go.Proofs.Ytngdaogcmgmmeaa
open Go.ChangeShapes Go.WideShapes Go.ChangeAt Go.RowKit Go.Deep
namespace Cr

theorem laid2 (w : World) (t : TypeId) (x y : Int) : IntsAt .u8 (w.alloc (.cells #[.int .u8 x, .int .u8 y] t)) (some ⟨w.heap.size, 0, none⟩) [x, y] :=
  IRow.ints (t := t) (heap_alloc_new w _)

set_option maxHeartbeats 800000 in
theorem ropen_cap (a : Option Addr) (cap : Nat) (l : List Int) (w : World) (hl : l.length ≤ 1000000) (hcap : l.length ≤ cap) (hy : Bytes l) (hb : IntsAt .u8 w a l) :
    Calls Try.prog 24 #[.slice a l.length cap] w (RetIBC .u8 w (opened l) (opens l)) := by
  by_cases h2 : l.length < 2
  · have ho : opens l = false := opens_false (by omega)
    have HO := Lib.hid ho
    have HP := Lib.hid (opened_no ho)
    clear ho
    have d1 : decide ((l.length : Int) < 2) = true := by simp; omega
    go_enter Try.func24, Try.ntmps24
    go_wp2
    go_ret2
    exact retIBC_nil HP.out HO.out (Below.refl _ _)
  · obtain ⟨n, hn⟩ : ∃ n, l.length = n + 2 := ⟨l.length - 2, by omega⟩
    rcases hb with hno | ⟨b, off, rfl, hc⟩
    · rw [hno] at h2; simp at h2
    have hT : (l.take n).length = n := by rw [List.length_take]; omega
    have hI : IntsAt .u8 w (some ⟨b, off, none⟩) (l.take n) := IntsAt.take (Or.inr ⟨b, off, rfl, hc⟩) n
    have hI2 := Lib.hid hI
    have C := rsum_any (some ⟨b, off, none⟩) cap (l.take n) w (by omega) (hy.take n) hI
    rw [hT] at C
    have q1 := hc n (by omega)
    have q2 := hc (n + 1) (by omega)
    have E := opens_at hn
    have HP := Lib.hid (opened_at hn)
    have HN := Lib.hid (opened_no (l := l))
    have hS := sum_lt (l.take n)
    have g1 := hy.getD n
    have g2 := hy.getD (n + 1)
    generalize sum (l.take n) = S at *
    generalize l.getD n 0 = x at *
    generalize l.getD (n + 1) 0 = y at *
    have s1 : ((S / 256 : Nat) : Int) = (S : Int) / 256 := by omega
    have s2 : ((S % 256 : Nat) : Int) = (S : Int) % 256 := by omega
    rw [s1, s2] at E
    have HE := Lib.hid E
    have d1 : decide ((n : Int) + 2 < 2) = false := by simp; omega
    have e1 : (n : Int) ≤ (cap : Int) := by omega
    have e2 : 0 ≤ (n : Int) := by omega
    have e3 : (n : Int) < ((n + 2 : Nat) : Int) := by omega
    have e4 : (n : Int) + 1 < ((n + 2 : Nat) : Int) := by omega
    have hn6 : n ≤ 1000000 := by omega
    have wj : wrap64 ((n : Int) + 1) = (n : Int) + 1 := by unfold wrap64; omega
    have wj2 : ((n : Int) + 1).toNat = n + 1 := by omega
    have wj3 : 0 ≤ (n : Int) + 1 := by omega
    rw [hn]
    clear hI hc hn h2 hy E s1 s2
    by_cases hx : x = (S : Int) / 256
    · have dx : (x != (S : Int) / 256) = false := by simpa using hx
      by_cases hz : y = (S : Int) % 256
      · have dz : (y != (S : Int) % 256) = false := by simpa using hz
        have ho : opens l = true := by rw [HE.out, decide_eq_true hx, decide_eq_true hz]; rfl
        have HO := Lib.hid ho
        have HQ := Lib.hid (HP.out ho)
        clear ho hx hz
        have HA1 := Lib.hid (show ([] : List Int).length + (l.take n).length ≤ maxLen by unfold maxLen; rw [hT]; simp; omega)
        have HA2 := Lib.hid (show (([] : List Int).length + (l.take n).length) * 1 ≤ 140737488355328 by rw [hT]; simp; omega)
        go_enter Try.func24, Try.ntmps24
        go_wp2_with fail
        refine C.mono ?_; rintro e w' ⟨rfl, rfl⟩
        go_wp2_with (first
          | ((with_reducible show wpList _ _ _ (⟨some 42, _, _, _, _, _⟩ :: _) _ _); refine wpList_appendI rfl (.tmp 36) (.tmp 41) _ rfl .u8 w.heap.size 5 1 Try.underlying37 byteInfo _ [] (some ⟨b, off, none⟩) n cap (l.take n) rfl rfl hT (OwnI.lit0 (Nat.le_refl _)) (hI2.out.below ((Below.refl _ _).alloc (Nat.le_refl _) _)) HA1.out HA2.out w ((Below.refl _ _).alloc (Nat.le_refl _) _) (Nat.le_refl _) ?_; intro v8 w8 O8' B8'; rw [List.nil_append] at O8'; obtain ⟨a8, c8, rfl, i8, M8, _⟩ := O8'.form2; rw [hT] at M8; have I8 := Lib.hid i8; have B8 := Lib.hid B8'; clear O8' B8' i8))
        go_ret2
        exact retIBC_mk HQ.out.symm hT HO.out.symm I8.out M8 B8.out
      · have dz : (y != (S : Int) % 256) = true := by simpa using hz
        have ho : opens l = false := by rw [HE.out, decide_eq_false hz, Bool.and_false]
        have HO := Lib.hid ho
        have HQ := Lib.hid (HN.out ho)
        clear ho hx hz
        go_enter Try.func24, Try.ntmps24
        go_wp2_with fail
        refine C.mono ?_; rintro e w' ⟨rfl, rfl⟩
        go_wp2
        go_ret2
        exact retIBC_nil HQ.out HO.out (Below.refl _ _)
    · have dx : (x != (S : Int) / 256) = true := by simpa using hx
      have ho : opens l = false := by rw [HE.out, decide_eq_false hx, Bool.false_and]
      have HO := Lib.hid ho
      have HQ := Lib.hid (HN.out ho)
      clear ho hx
      go_enter Try.func24, Try.ntmps24
      go_wp2_with fail
      refine C.mono ?_; rintro e w' ⟨rfl, rfl⟩
      go_wp2
      go_ret2
      exact retIBC_nil HQ.out HO.out (Below.refl _ _)
theorem ropen_any (a : Option Addr) (cap : Nat) (l : List Int) (w : World) (hl : l.length ≤ 1000000) (hcap : l.length ≤ cap) (hy : Bytes l) (hb : IntsAt .u8 w a l) :
    Calls Try.prog 24 #[.slice a l.length cap] w (RetIB .u8 w (opened l) (opens l)) := (ropen_cap a cap l w hl hcap hy hb).mono RetIBC.less
end Cr
end Go.Proofs.Ytngdaogcmgmmeaa
