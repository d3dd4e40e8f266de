/-
  What the document's own answers for layer 4 (package rudderref04) return: contracts by walking the Go text. No conditions beyond where the bytes lie, and how many they are.
-/
import Derived.Test.YtpgcoagjlkdmbaaWordMath2
import Derived.Test.YtpgcoagjlkdmbaaAppend
import Derived.Deep.LoopGhost
import Derived.IntWalk
import Derived.WalkSmall
import Derived.BigQuiet
import Derived.Laws.BitsAll
namespace Go.Proofs.Ytpgcoagjlkdmbaa
set_option maxRecDepth 100000
open Go.ChangeShapes Go.WideShapes Go.ChangeAt Go.RowKit Go.Deep
namespace Wr
open Wd Cr

theorem ret_int {k : IntKind} {n m : Int} (h : n = m) : Ending.returned (.int k n) = .returned (.int k m) := by rw [h]
theorem ret_ib {n m : Int} {a b : Bool} (h : n = m) (k : a = b) : Ending.returned (.tuple #[.int .i64 n, .bool a]) = .returned (.tuple #[.int .i64 m, .bool b]) := by rw [h, k]
def RetIBr (k : IntKind) (w : World) (l : List Int) (b : Bool) (e : Ending) (w' : World) : Prop :=
  ∃ a cap, e = .returned (.tuple #[.slice a l.length cap, .bool b]) ∧ IntsAt k w' a l ∧ Below w.heap.size w w'
theorem retIB_nil {k : IntKind} {w w' : World} {l : List Int} {b : Bool} (he : l = []) (hb : b = false) (h : Below w.heap.size w w') : RetIBr k w l b (.returned (.tuple #[.slice none 0 0, .bool false])) w' := by
  subst he; subst hb; exact ⟨none, 0, rfl, Or.inl rfl, h⟩
theorem retIB_mk {k : IntKind} {w w' : World} {a : Option Addr} {l l' : List Int} {n cap : Nat} {b b' : Bool} (he : l' = l) (hn : l'.length = n) (hq : b' = b) (hi : IntsAt k w' a l') (hb : Below w.heap.size w w') :
    RetIBr k w l b (.returned (.tuple #[.slice a n cap, .bool b'])) w' := by subst he; subst hn; subst hq; exact ⟨a, cap, rfl, hi, hb⟩
theorem rintInfo : (Try.prog.info? 3).map (fun i => (i.zero, i.size, i.bytes)) = some (some (.int .i64 0), 1, 8) := by kernel_rfl

theorem rput2_any (n : Int) (w : World) :
    Calls Try.prog 21 #[.int .i64 n] w (RetI .u8 w (put2 n)) := by
  by_cases h1 : n < 0
  · have HF := Lib.hid (put2_no (in2_no (n := n) (by omega)))
    have d1 : decide (n < 0) = true := by simpa using h1
    go_enter Try.func21, Try.ntmps21
    go_wp2
    go_ret
    exact retI_nil HF.out (Below.refl _ _)
  · have d1 : decide (n < 0) = false := by simpa using h1
    by_cases h2 : 65535 < n
    · have HF := Lib.hid (put2_no (in2_no (n := n) (by omega)))
      have d2 : decide (65535 < n) = true := by simpa using h2
      go_enter Try.func21, Try.ntmps21
      go_wp2
      go_ret
      exact retI_nil HF.out (Below.refl _ _)
    · have d2 : decide (65535 < n) = false := by simpa using h2
      have HF := Lib.hid (put2_yes ((in2_iff n).2 (by omega)))
      have hw1 : n / 256 % 256 = n / 256 := by omega
      go_enter Try.func21, Try.ntmps21
      go_wp2
      go_ret
      exact retI_mk HF.out.symm rfl (IRow.ints (l := [n / 256, n % 256]) (t := 5) (heap_alloc_new w _)) ((Below.refl _ _).alloc (Nat.le_refl _) _)

theorem four_laid (w : World) (u : Int) : IntsAt .u8 (w.alloc (.cells #[.int .u8 (u / 16777216), .int .u8 (u / 65536 % 256), .int .u8 (u / 256 % 256), .int .u8 (u % 256)] 5)) (some ⟨w.heap.size, 0, none⟩) (four u) :=
  IRow.ints (l := four u) (t := 5) (heap_alloc_new w _)
set_option maxHeartbeats 800000 in
theorem rput4_any (n : Int) (w : World) :
    Calls Try.prog 22 #[.int .i64 n] w (RetI .u8 w (put4 n)) := by
  by_cases h1 : n < -2147483648
  · have HF := Lib.hid (put4_no (in4_no (n := n) (by omega)))
    have d1 : decide (n < -2147483648) = true := by simpa using h1
    go_enter Try.func22, Try.ntmps22
    go_wp2
    go_ret
    exact retI_nil HF.out (Below.refl _ _)
  · have d1 : decide (n < -2147483648) = false := by simpa using h1
    by_cases h2 : 2147483647 < n
    · have HF := Lib.hid (put4_no (in4_no (n := n) (by omega)))
      have d2 : decide (2147483647 < n) = true := by simpa using h2
      go_enter Try.func22, Try.ntmps22
      go_wp2
      go_ret
      exact retI_nil HF.out (Below.refl _ _)
    · have d2 : decide (2147483647 < n) = false := by simpa using h2
      have HF := Lib.hid (put4_yes ((in4_iff n).2 (by omega)))
      by_cases h3 : n < 0
      · have d3 : decide (n < 0) = true := by simpa using h3
        have HU := Lib.hid (show up n = n + 4294967296 by unfold up; rw [if_pos h3])
        go_enter Try.func22, Try.ntmps22
        go_wp2
        go_ret
        exact retI_mk (by rw [HF.out, HU.out]) rfl (four_laid w _) ((Below.refl _ _).alloc (Nat.le_refl _) _)
      · have d3 : decide (n < 0) = false := by simpa using h3
        have HU := Lib.hid (show up n = n by unfold up; rw [if_neg h3])
        go_enter Try.func22, Try.ntmps22
        go_wp2
        go_ret
        exact retI_mk (by rw [HF.out, HU.out]) rfl (four_laid w _) ((Below.refl _ _).alloc (Nat.le_refl _) _)

set_option maxHeartbeats 800000 in
theorem rget2_any (a : Option Addr) (cap : Nat) (l : List Int) (w : World) (_hl : l.length ≤ 9223372036854775807) (hy : Bytes l) (hb : IntsAt .u8 w a l) :
    Calls Try.prog 28 #[.slice a l.length cap] w fun e w' => e = .returned (.tuple #[.int .i64 (get2v l), .bool (get2b l)]) ∧ Below w.heap.size w w' := by
  by_cases h : l.length = 2
  · have HF := Lib.hid (get2v_yes h)
    have HG := Lib.hid ((get2b_iff l).2 h)
    rcases hb with hno | ⟨b, off, rfl, hc⟩
    · rw [hno] at h; simp at h
    have q1 := hc 0 (by omega)
    have q2 := hc 1 (by omega)
    rw [Nat.add_zero] at q1
    have g1 := hy.getD 0
    have g2 := hy.getD 1
    rw [h]
    clear hy hc
    generalize l.getD 0 0 = x at *
    generalize l.getD 1 0 = y at *
    go_enter Try.func28, Try.ntmps28
    go_wp2
    go_quiet (fail)
    go_wp2
    go_ret2
    exact ⟨ret_ib HF.out.symm HG.out.symm, below_drewN (Below.refl _ _) _⟩
  · have HF := Lib.hid (get2v_no h)
    have HG := Lib.hid (show get2b l = false by cases e : get2b l; rfl; exact absurd ((get2b_iff l).1 e) h)
    have d : ((l.length : Int) != 2) = true := by simp; omega
    have d2 : ((l.length : Int) == 2) = false := by simp; omega
    clear hy hb
    go_enter Try.func28, Try.ntmps28
    go_wp2
    go_ret2
    exact ⟨ret_ib HF.out.symm HG.out.symm, Below.refl _ _⟩

set_option maxHeartbeats 800000 in
theorem rget4_any (a : Option Addr) (cap : Nat) (l : List Int) (w : World) (_hl : l.length ≤ 9223372036854775807) (hy : Bytes l) (hb : IntsAt .u8 w a l) :
    Calls Try.prog 29 #[.slice a l.length cap] w fun e w' => e = .returned (.tuple #[.int .i64 (get4v l), .bool (get4b l)]) ∧ w = w' := by
  by_cases h : l.length = 4
  · have HF := Lib.hid (val_four' h)
    have HG := Lib.hid ((get4b_iff l).2 h)
    have HY := Lib.hid hy
    rcases hb with hno | ⟨b, off, rfl, hc⟩
    · rw [hno] at h; simp at h
    have HC := Lib.hid hc
    have HL := Lib.hid h
    rw [h]
    clear hy hc h
    go_enter Try.func29, Try.ntmps29
    go_wp2
    go_loopg [4, 5] 4 (fun gg s4 s5 wr => ∃ k : Nat, k + gg = 4 ∧ s5 = .int .i64 k ∧ s4 = .int .i64 (val (l.take k)) ∧ w = wr)
    case atStart => exact ⟨0, by omega, rfl, by rw [List.take_zero]; rfl, rfl⟩
    case round =>
      obtain ⟨k, hkg, rfl, rfl, rfl⟩ := hrel
      have hV := val_in HY.out k (by have := HL.out; omega) (by omega)
      by_cases hk : k < 4
      · have hki : (k : Int) < 4 := by omega
        have hcx := HC.out k (by have := HL.out; omega)
        have hg := HY.out.getD k
        have HU := Lib.hid (show 256 * val (l.take k) + l.getD k 0 = val (l.take (k + 1)) by rw [val_next l k (by have := HL.out; omega)]; omega)
        have hV1 := hV.1
        have hV2 := hV.2.2 hk
        clear hV
        generalize val (l.take k) = X at *
        generalize l.getD k 0 = c at *
        go_wp2
        go_roundg (gk - 1)
        case rel => exact ⟨k + 1, by omega, by go_num, by rw [← HU.out], rfl⟩
        case measure => omega
      · obtain rfl : k = 4 := by omega
        have hV1 := hV.1
        have hV2 := hV.2.1
        have e4 : l.take 4 = l := List.take_of_length_le (by have := HL.out; omega)
        rw [e4] at hV1 hV2 ⊢
        clear hV e4
        generalize val l = X at *
        by_cases hx : 2147483648 ≤ X
        · have HD := Lib.hid (show X - 4294967296 = down X by unfold down; rw [if_pos hx])
          have d : decide (2147483648 ≤ X) = true := by simpa using hx
          go_wp2
          go_ret2
          exact ⟨ret_ib (HD.out.trans HF.out) HG.out.symm, rfl⟩
        · have HD := Lib.hid (show X = down X by unfold down; rw [if_neg hx])
          have d : decide (2147483648 ≤ X) = false := by simpa using hx
          go_wp2
          go_ret2
          exact ⟨ret_ib (HD.out.trans HF.out) HG.out.symm, rfl⟩
  · have HF := Lib.hid (get4v_no h)
    have HG := Lib.hid (show get4b l = false by cases e : get4b l; rfl; exact absurd ((get4b_iff l).1 e) h)
    have d : ((l.length : Int) != 4) = true := by simp; omega
    have d2 : ((l.length : Int) == 4) = false := by simp; omega
    clear hy hb
    go_enter Try.func29, Try.ntmps29
    go_wp2
    go_ret2
    exact ⟨ret_ib HF.out.symm HG.out.symm, rfl⟩

end Wr
end Go.Proofs.Ytpgcoagjlkdmbaa
