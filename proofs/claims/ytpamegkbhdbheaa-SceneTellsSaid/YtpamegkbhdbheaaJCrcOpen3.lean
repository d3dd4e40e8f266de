/-
  What Open of package crc returns, for at most 1000000 bytes: a contract by walking the Go text. Its conditions: where the bytes lie, and that they are so few.
  What the document's own answers for layer 3 (package rudderref03: Seal, Open) return, for at most 1000000 bytes: contracts by walking the Go text. Their conditions: where the bytes lie, and that they are so few.
  What the document's own answers for layer 4 (package rudderref04) return: contracts by walking the Go text. No conditions beyond where the bytes lie, and how many they are.
-/
import Derived.Test.YtpamegkbhdbheaaJCrcStep3
import Derived.BigQuiet
import Derived.Lib.QuietBelow
import Derived.Test.YtpamegkbhdbheaaJCrcRef2
import Derived.Test.YtpamegkbhdbheaaJKept3
import Derived.Test.YtpamegkbhdbheaaJWordMath22
import Derived.Deep.LoopGhost
import Derived.IntWalk
import Derived.WalkSmall
import Derived.Laws.BitsAll
namespace Go.Proofs.Ytpamegkbhdbheaa
set_option maxRecDepth 100000
open Go.ChangeShapes Go.WideShapes Go.ChangeAt Go.RowKit Go.Deep
namespace Cr

/-- What Open hands back: a list, and whether there is one. -/
def RetIB (k : IntKind) (w : World) (l : List Int) (b : Bool) (e : Ending) (w' : World) : Prop :=
  ∃ a cap, e = .returned (.tuple #[.slice a l.length cap, .bool b]) ∧ IntsAt k w' a l ∧ Below w.heap.size w w'
theorem retIB_nil {k : IntKind} {w w' : World} {l : List Int} {b : Bool} (he : l = []) (hb : b = false) (h : Below w.heap.size w w') : RetIB k w l b (.returned (.tuple #[.slice none 0 0, .bool false])) w' := by
  subst he; subst hb; exact ⟨none, 0, rfl, Or.inl rfl, h⟩
theorem retIB_mk {k : IntKind} {w w' : World} {a : Option Addr} {l l' : List Int} {n cap : Nat} {b b' : Bool} (he : l' = l) (hn : l'.length = n) (hq : b' = b) (hi : IntsAt k w' a l') (hb : Below w.heap.size w w') :
    RetIB k w l b (.returned (.tuple #[.slice a n cap, .bool b'])) w' := by subst he; subst hn; subst hq; exact ⟨a, cap, rfl, hi, hb⟩

/-- The same, with room enough. -/
def RetIBC (k : IntKind) (w : World) (l : List Int) (b : Bool) (e : Ending) (w' : World) : Prop :=
  ∃ a cap, e = .returned (.tuple #[.slice a l.length cap, .bool b]) ∧ IntsAt k w' a l ∧ l.length ≤ cap ∧ Below w.heap.size w w'
theorem retIBC_nil {k : IntKind} {w w' : World} {l : List Int} {b : Bool} (he : l = []) (hb : b = false) (h : Below w.heap.size w w') : RetIBC k w l b (.returned (.tuple #[.slice none 0 0, .bool false])) w' := by
  subst he; subst hb; exact ⟨none, 0, rfl, Or.inl rfl, Nat.le_refl _, h⟩
theorem retIBC_mk {k : IntKind} {w w' : World} {a : Option Addr} {l l' : List Int} {n cap : Nat} {b b' : Bool} (he : l' = l) (hn : l'.length = n) (hq : b' = b) (hi : IntsAt k w' a l') (hc : n ≤ cap) (hb : Below w.heap.size w w') :
    RetIBC k w l b (.returned (.tuple #[.slice a n cap, .bool b'])) w' := by subst he; subst hn; subst hq; exact ⟨a, cap, rfl, hi, hc, hb⟩
theorem RetIBC.less {k : IntKind} {w : World} {l : List Int} {b : Bool} (e : Ending) (w' : World) (h : RetIBC k w l b e w') : RetIB k w l b e w' := by
  obtain ⟨a, cap, h1, h2, _, h3⟩ := h; exact ⟨a, cap, h1, h2, h3⟩

theorem or_sum (S : Nat) (x y : Int) (hx : 0 ≤ x ∧ x < 256) (hy : 0 ≤ y ∧ y < 256) :
    ((S : Int) != Go.bits .or .i64 (x * 256) y) = !(decide (x = ((S / 256 : Nat) : Int)) && decide (y = ((S % 256 : Nat) : Int))) := by
  rw [or_pair x y hx hy]
  by_cases h : x = ((S / 256 : Nat) : Int) ∧ y = ((S % 256 : Nat) : Int)
  · rw [decide_eq_true h.1, decide_eq_true h.2]
    have : (S : Int) = x * 256 + y := by omega
    simp [this]
  · have : ¬ (S : Int) = x * 256 + y := by omega
    have h2 : (decide (x = ((S / 256 : Nat) : Int)) && decide (y = ((S % 256 : Nat) : Int))) = false := by
      rw [Bool.and_eq_false_iff, decide_eq_false_iff_not, decide_eq_false_iff_not]; omega
    rw [h2]; simpa using this
theorem opens_at {l : List Int} {n : Nat} (h : l.length = n + 2) : opens l = (decide (l.getD n 0 = ((sum (l.take n) / 256 : Nat) : Int)) && decide (l.getD (n + 1) 0 = ((sum (l.take n) % 256 : Nat) : Int))) := by
  unfold opens; rw [h, show n + 2 - 2 = n by omega, show n + 2 - 1 = n + 1 by omega, decide_eq_true (show 2 ≤ n + 2 by omega), Bool.true_and]
theorem opened_at {l : List Int} {n : Nat} (h : l.length = n + 2) (ho : opens l = true) : opened l = l.take n := by rw [opened_yes ho, h]; rfl

set_option maxHeartbeats 800000 in
theorem open_cap (a : Option Addr) (cap : Nat) (l : List Int) (w : World) (hl : l.length ≤ 1000000) (hcap : l.length ≤ cap) (hy : Bytes l) (hb : IntsAt .u8 w a l) :
    Calls Try.prog 34 #[.slice a l.length cap] w (RetIBC .u8 w (opened l) (opens l)) := by
  by_cases h2 : l.length < 2
  · have ho : opens l = false := opens_false (by omega)
    have HO := Lib.hid ho
    have HP := Lib.hid (opened_no ho)
    clear ho
    have d1 : decide ((l.length : Int) - 2 < 0) = true := by simp; omega
    go_enter Try.func34, Try.ntmps34
    go_wp2
    go_ret2
    exact retIBC_nil HP.out HO.out (Below.refl _ _)
  · obtain ⟨n, hn⟩ : ∃ n, l.length = n + 2 := ⟨l.length - 2, by omega⟩
    rcases hb with hno | ⟨b, off, rfl, hc⟩
    · rw [hno] at h2; simp at h2
    have HC := Lib.hid hc
    have hT : (l.take n).length = n := by rw [List.length_take]; omega
    have hI : IntsAt .u8 w (some ⟨b, off, none⟩) (l.take n) := IntsAt.take (Or.inr ⟨b, off, rfl, hc⟩) n
    have hI2 := Lib.hid hI
    have cS := reg_call (w := w) (fun W hW => sum_any (some ⟨b, off, none⟩) cap (l.take n) W (by omega) (hy.take n) (hI.below hW))
    rw [hT] at cS
    have q1 := cell_regrown (hc n (by omega))
    have q2 := cell_regrown (hc (n + 1) (by omega))
    have E := or_sum (sum (l.take n)) (l.getD n 0) (l.getD (n + 1) 0) (hy.getD n) (hy.getD (n + 1))
    rw [← opens_at hn] at E
    have HP := Lib.hid (opened_at hn)
    have HN := Lib.hid (opened_no (l := l))
    have g1 := hy.getD n
    have g2 := hy.getD (n + 1)
    generalize sum (l.take n) = S at *
    generalize l.getD n 0 = x at *
    generalize l.getD (n + 1) 0 = y at *
    have d1 : decide ((n : Int) < 0) = false := by simp
    have e1 : (n : Int) ≤ (cap : Int) := by omega
    have e2 : 0 ≤ (n : Int) := by omega
    have e3 : (n : Int) < ((n + 2 : Nat) : Int) := by omega
    have e4 : (n : Int) + 1 < ((n + 2 : Nat) : Int) := by omega
    have hn6 : n ≤ 1000000 := by omega
    have wj : wrap64 ((n : Int) + 1) = (n : Int) + 1 := by unfold wrap64; omega
    have wj2 : ((n : Int) + 1).toNat = n + 1 := by omega
    have wj3 : 0 ≤ (n : Int) + 1 := by omega
    rw [hn]
    clear hI hc hn h2 hy
    obtain ⟨i0, hi0, hz0, hz1, hz2⟩ := info_parts byteInfo
    cases ho : opens l
    · rw [ho, Bool.not_false] at E
      go_enter Try.func34, Try.ntmps34
      go_wp2
      refine wp_region_quiet_below (by kernel_rfl) (by kernel_rfl) ?_
      repeat (go_big_quiet_step (first | exact cS _ _))
      refine wpQuiet_nil ?_
      intro _ hw'
      obtain ⟨⟨dq, osq⟩, hw''⟩ := hw'
      subst hw''
      go_wp2
      go_ret2
      exact retIBC_nil (HN.out ho) rfl (below_regrown w dq osq)
    · rw [ho, Bool.not_true] at E
      go_enter Try.func34, Try.ntmps34
      go_wp2
      refine wp_region_quiet_below (by kernel_rfl) (by kernel_rfl) ?_
      repeat (go_big_quiet_step (first | exact cS _ _))
      refine wpQuiet_nil ?_
      intro w1 hw'
      obtain ⟨⟨dq, osq⟩, hw''⟩ := hw'
      have b0 : Hid (Below w.heap.size w w1) := Lib.hid (by rw [hw'']; exact below_regrown w dq osq)
      clear hw''
      clear cS q1 q2
      go_wp2_with (first
        | (at_make; refine wpList_make_full _ rfl _ _ _ rfl w1.heap.size 5 i0 (.int .u8 0) 1 Try.underlying42 hi0 hz0 hz1 .i64 .i64 _ _ n rfl rfl (by omega) (by omega) (by rw [hz2]; omega) (by unfold maxLen; omega) (Nat.le_refl _) ?_; intro w2 own1 grown1
           have R1 := Lib.hid (IRow.of_own own1 (zeros_cells8 _)); have B1 := Lib.hid ((Below.refl w1.heap.size w1).grown grown1 (Nat.le_refl _) (by simp)); clear own1 grown1)
        | ((with_reducible show wpList _ _ _ (⟨some 33, _, _, _, _, _⟩ :: _) _ _); refine wpList_copyI rfl (.tmp 31) (.tmp 32) _ rfl 5 Try.underlying42 byteSize .u8 w1.heap.size 0 (List.replicate n 0) (l.take n) 5 _ _ _ _ _ _ rfl rfl R1.out (by rw [hT]; show _ = min _ _; omega) (fun _ => rfl) (hI2.out.below (grow b0.out B1.out)) (by rw [hT]; simp) w1.heap.size w1 B1.out (Nat.le_refl _) ?_
           intro w3 R2' B2'; have R2 := Lib.hid (show IRow _ _ _ _ (l.take n) from (splice_whole (List.replicate n 0) (l.take n) (by rw [hT]; simp)) ▸ R2'.out); have B2 := Lib.hid B2'; clear R2' B2'))
      go_ret2
      exact retIBC_mk (HP.out ho).symm hT rfl R2.out.ints (Nat.le_refl _) (grow b0.out B2.out)
theorem open_any (a : Option Addr) (cap : Nat) (l : List Int) (w : World) (hl : l.length ≤ 1000000) (hcap : l.length ≤ cap) (hy : Bytes l) (hb : IntsAt .u8 w a l) :
    Calls Try.prog 34 #[.slice a l.length cap] w (RetIB .u8 w (opened l) (opens l)) := (open_cap a cap l w hl hcap hy hb).mono RetIBC.less
end Cr
end Go.Proofs.Ytpamegkbhdbheaa

namespace Go.Proofs.Ytpamegkbhdbheaa
set_option maxRecDepth 100000
open Go.ChangeShapes Go.WideShapes Go.ChangeAt Go.RowKit Go.Deep
namespace Cr

theorem laid2 (w : World) (t : TypeId) (x y : Int) : IntsAt .u8 (w.alloc (.cells #[.int .u8 x, .int .u8 y] t)) (some ⟨w.heap.size, 0, none⟩) [x, y] :=
  IRow.ints (t := t) (heap_alloc_new w _)

set_option maxHeartbeats 800000 in
theorem rseal_any (a : Option Addr) (cap : Nat) (l : List Int) (w : World) (hl : l.length ≤ 1000000) (hy : Bytes l) (hb : IntsAt .u8 w a l) :
    Calls Try.prog 47 #[.slice a l.length cap] w (RetI .u8 w (sealed l)) := by
  have C := rsum_any a cap l w (by omega) hy hb
  have hS := sum_lt l
  have HF := Lib.hid (show sealed l = l ++ [((sum l / 256 : Nat) : Int), ((sum l % 256 : Nat) : Int)] from rfl)
  generalize sum l = S at *
  have e1 : ((S / 256 : Nat) : Int) = (S : Int) / 256 := by omega
  have e2 : ((S % 256 : Nat) : Int) = (S : Int) % 256 := by omega
  rw [e1, e2] at HF
  have HB := Lib.hid hb
  have HA1 := Lib.hid (show ([] : List Int).length + l.length ≤ maxLen by unfold maxLen; simp; omega)
  have HA2 := Lib.hid (show (([] : List Int).length + l.length) * 1 ≤ 140737488355328 by simp; omega)
  have HA3 := Lib.hid (show l.length + [(S : Int) / 256, (S : Int) % 256].length ≤ maxLen by unfold maxLen; simp; omega)
  have HA4 := Lib.hid (show (l.length + [(S : Int) / 256, (S : Int) % 256].length) * 1 ≤ 140737488355328 by simp; omega)
  clear hb hy e1 e2
  go_enter Try.func47, Try.ntmps47
  go_wp2_with fail
  refine C.mono ?_; rintro e w' ⟨rfl, rfl⟩
  go_wp2_with (first
    | ((with_reducible show wpList _ _ _ (⟨some 8, _, _, _, _, _⟩ :: _) _ _); refine wpList_appendI rfl (.tmp 6) (.tmp 7) _ rfl .u8 w.heap.size 5 1 Try.underlying42 byteInfo _ [] a l.length cap l rfl rfl rfl (OwnI.lit0 (Nat.le_refl _)) (HB.out.below ((Below.refl _ _).alloc (Nat.le_refl _) _)) HA1.out HA2.out w ((Below.refl _ _).alloc (Nat.le_refl _) _) (Nat.le_refl _) ?_; intro v8 w8 O8' B8'; rw [List.nil_append] at O8'; have O8 := Lib.hid O8'; have B8 := Lib.hid B8'; clear O8' B8')
    | ((with_reducible show wpList _ _ _ (⟨some 16, _, _, _, _, _⟩ :: _) _ _); refine wpList_appendI rfl (.tmp 8) (.tmp 15) _ rfl .u8 w.heap.size 5 1 Try.underlying42 byteInfo v8 l (some ⟨w8.heap.size, 0, none⟩) 2 2 [(S : Int) / 256, (S : Int) % 256] rfl rfl rfl (O8.out.alloc _) (laid2 _ _ _ _) HA3.out HA4.out w (B8.out.alloc B8.out.size _) (Nat.le_refl _) ?_; intro v16 w16 O16' B16'; have B16 := Lib.hid B16'; obtain ⟨a16, c16, rfl, i16⟩ := O16'.form; have I16 := Lib.hid i16; clear O16' B16' i16))
  go_ret
  exact retI_mk HF.out.symm (by simp) I16.out B16.out

set_option maxHeartbeats 800000 in
theorem ropen_cap (a : Option Addr) (cap : Nat) (l : List Int) (w : World) (hl : l.length ≤ 1000000) (hcap : l.length ≤ cap) (hy : Bytes l) (hb : IntsAt .u8 w a l) :
    Calls Try.prog 48 #[.slice a l.length cap] w (RetIBC .u8 w (opened l) (opens l)) := by
  by_cases h2 : l.length < 2
  · have ho : opens l = false := opens_false (by omega)
    have HO := Lib.hid ho
    have HP := Lib.hid (opened_no ho)
    clear ho
    have d1 : decide ((l.length : Int) < 2) = true := by simp; omega
    go_enter Try.func48, Try.ntmps48
    go_wp2
    go_ret2
    exact retIBC_nil HP.out HO.out (Below.refl _ _)
  · obtain ⟨n, hn⟩ : ∃ n, l.length = n + 2 := ⟨l.length - 2, by omega⟩
    rcases hb with hno | ⟨b, off, rfl, hc⟩
    · rw [hno] at h2; simp at h2
    have hT : (l.take n).length = n := by rw [List.length_take]; omega
    have hI : IntsAt .u8 w (some ⟨b, off, none⟩) (l.take n) := IntsAt.take (Or.inr ⟨b, off, rfl, hc⟩) n
    have hI2 := Lib.hid hI
    have C := rsum_any (some ⟨b, off, none⟩) cap (l.take n) w (by omega) (hy.take n) hI
    rw [hT] at C
    have q1 := hc n (by omega)
    have q2 := hc (n + 1) (by omega)
    have E := opens_at hn
    have HP := Lib.hid (opened_at hn)
    have HN := Lib.hid (opened_no (l := l))
    have hS := sum_lt (l.take n)
    have g1 := hy.getD n
    have g2 := hy.getD (n + 1)
    generalize sum (l.take n) = S at *
    generalize l.getD n 0 = x at *
    generalize l.getD (n + 1) 0 = y at *
    have s1 : ((S / 256 : Nat) : Int) = (S : Int) / 256 := by omega
    have s2 : ((S % 256 : Nat) : Int) = (S : Int) % 256 := by omega
    rw [s1, s2] at E
    have HE := Lib.hid E
    have d1 : decide ((n : Int) + 2 < 2) = false := by simp; omega
    have e1 : (n : Int) ≤ (cap : Int) := by omega
    have e2 : 0 ≤ (n : Int) := by omega
    have e3 : (n : Int) < ((n + 2 : Nat) : Int) := by omega
    have e4 : (n : Int) + 1 < ((n + 2 : Nat) : Int) := by omega
    have hn6 : n ≤ 1000000 := by omega
    have wj : wrap64 ((n : Int) + 1) = (n : Int) + 1 := by unfold wrap64; omega
    have wj2 : ((n : Int) + 1).toNat = n + 1 := by omega
    have wj3 : 0 ≤ (n : Int) + 1 := by omega
    rw [hn]
    clear hI hc hn h2 hy E s1 s2
    by_cases hx : x = (S : Int) / 256
    · have dx : (x != (S : Int) / 256) = false := by simpa using hx
      by_cases hz : y = (S : Int) % 256
      · have dz : (y != (S : Int) % 256) = false := by simpa using hz
        have ho : opens l = true := by rw [HE.out, decide_eq_true hx, decide_eq_true hz]; rfl
        have HO := Lib.hid ho
        have HQ := Lib.hid (HP.out ho)
        clear ho hx hz
        have HA1 := Lib.hid (show ([] : List Int).length + (l.take n).length ≤ maxLen by unfold maxLen; rw [hT]; simp; omega)
        have HA2 := Lib.hid (show (([] : List Int).length + (l.take n).length) * 1 ≤ 140737488355328 by rw [hT]; simp; omega)
        go_enter Try.func48, Try.ntmps48
        go_wp2_with fail
        refine C.mono ?_; rintro e w' ⟨rfl, rfl⟩
        go_wp2_with (first
          | ((with_reducible show wpList _ _ _ (⟨some 42, _, _, _, _, _⟩ :: _) _ _); refine wpList_appendI rfl (.tmp 36) (.tmp 41) _ rfl .u8 w.heap.size 5 1 Try.underlying42 byteInfo _ [] (some ⟨b, off, none⟩) n cap (l.take n) rfl rfl hT (OwnI.lit0 (Nat.le_refl _)) (hI2.out.below ((Below.refl _ _).alloc (Nat.le_refl _) _)) HA1.out HA2.out w ((Below.refl _ _).alloc (Nat.le_refl _) _) (Nat.le_refl _) ?_; intro v8 w8 O8' B8'; rw [List.nil_append] at O8'; obtain ⟨a8, c8, rfl, i8, M8, _⟩ := O8'.form2; rw [hT] at M8; have I8 := Lib.hid i8; have B8 := Lib.hid B8'; clear O8' B8' i8))
        go_ret2
        exact retIBC_mk HQ.out.symm hT HO.out.symm I8.out M8 B8.out
      · have dz : (y != (S : Int) % 256) = true := by simpa using hz
        have ho : opens l = false := by rw [HE.out, decide_eq_false hz, Bool.and_false]
        have HO := Lib.hid ho
        have HQ := Lib.hid (HN.out ho)
        clear ho hx hz
        go_enter Try.func48, Try.ntmps48
        go_wp2_with fail
        refine C.mono ?_; rintro e w' ⟨rfl, rfl⟩
        go_wp2
        go_ret2
        exact retIBC_nil HQ.out HO.out (Below.refl _ _)
    · have dx : (x != (S : Int) / 256) = true := by simpa using hx
      have ho : opens l = false := by rw [HE.out, decide_eq_false hx, Bool.false_and]
      have HO := Lib.hid ho
      have HQ := Lib.hid (HN.out ho)
      clear ho hx
      go_enter Try.func48, Try.ntmps48
      go_wp2_with fail
      refine C.mono ?_; rintro e w' ⟨rfl, rfl⟩
      go_wp2
      go_ret2
      exact retIBC_nil HQ.out HO.out (Below.refl _ _)
theorem ropen_any (a : Option Addr) (cap : Nat) (l : List Int) (w : World) (hl : l.length ≤ 1000000) (hcap : l.length ≤ cap) (hy : Bytes l) (hb : IntsAt .u8 w a l) :
    Calls Try.prog 48 #[.slice a l.length cap] w (RetIB .u8 w (opened l) (opens l)) := (ropen_cap a cap l w hl hcap hy hb).mono RetIBC.less
end Cr
end Go.Proofs.Ytpamegkbhdbheaa

namespace Go.Proofs.Ytpamegkbhdbheaa
set_option maxRecDepth 100000
open Go.ChangeShapes Go.WideShapes Go.ChangeAt Go.RowKit Go.Deep
namespace Wr
open Wd Cr

theorem ret_int {k : IntKind} {n m : Int} (h : n = m) : Ending.returned (.int k n) = .returned (.int k m) := by rw [h]
theorem ret_ib {n m : Int} {a b : Bool} (h : n = m) (k : a = b) : Ending.returned (.tuple #[.int .i64 n, .bool a]) = .returned (.tuple #[.int .i64 m, .bool b]) := by rw [h, k]
def RetIBr (k : IntKind) (w : World) (l : List Int) (b : Bool) (e : Ending) (w' : World) : Prop :=
  ∃ a cap, e = .returned (.tuple #[.slice a l.length cap, .bool b]) ∧ IntsAt k w' a l ∧ Below w.heap.size w w'
theorem retIB_nil {k : IntKind} {w w' : World} {l : List Int} {b : Bool} (he : l = []) (hb : b = false) (h : Below w.heap.size w w') : RetIBr k w l b (.returned (.tuple #[.slice none 0 0, .bool false])) w' := by
  subst he; subst hb; exact ⟨none, 0, rfl, Or.inl rfl, h⟩
theorem retIB_mk {k : IntKind} {w w' : World} {a : Option Addr} {l l' : List Int} {n cap : Nat} {b b' : Bool} (he : l' = l) (hn : l'.length = n) (hq : b' = b) (hi : IntsAt k w' a l') (hb : Below w.heap.size w w') :
    RetIBr k w l b (.returned (.tuple #[.slice a n cap, .bool b'])) w' := by subst he; subst hn; subst hq; exact ⟨a, cap, rfl, hi, hb⟩
theorem rintInfo : (Try.prog.info? 3).map (fun i => (i.zero, i.size, i.bytes)) = some (some (.int .i64 0), 1, 8) := by kernel_rfl

theorem rput2_any (n : Int) (w : World) :
    Calls Try.prog 45 #[.int .i64 n] w (RetI .u8 w (put2 n)) := by
  by_cases h1 : n < 0
  · have HF := Lib.hid (put2_no (in2_no (n := n) (by omega)))
    have d1 : decide (n < 0) = true := by simpa using h1
    go_enter Try.func45, Try.ntmps45
    go_wp2
    go_ret
    exact retI_nil HF.out (Below.refl _ _)
  · have d1 : decide (n < 0) = false := by simpa using h1
    by_cases h2 : 65535 < n
    · have HF := Lib.hid (put2_no (in2_no (n := n) (by omega)))
      have d2 : decide (65535 < n) = true := by simpa using h2
      go_enter Try.func45, Try.ntmps45
      go_wp2
      go_ret
      exact retI_nil HF.out (Below.refl _ _)
    · have d2 : decide (65535 < n) = false := by simpa using h2
      have HF := Lib.hid (put2_yes ((in2_iff n).2 (by omega)))
      have hw1 : n / 256 % 256 = n / 256 := by omega
      go_enter Try.func45, Try.ntmps45
      go_wp2
      go_ret
      exact retI_mk HF.out.symm rfl (IRow.ints (l := [n / 256, n % 256]) (t := 5) (heap_alloc_new w _)) ((Below.refl _ _).alloc (Nat.le_refl _) _)

theorem four_laid (w : World) (u : Int) : IntsAt .u8 (w.alloc (.cells #[.int .u8 (u / 16777216), .int .u8 (u / 65536 % 256), .int .u8 (u / 256 % 256), .int .u8 (u % 256)] 5)) (some ⟨w.heap.size, 0, none⟩) (four u) :=
  IRow.ints (l := four u) (t := 5) (heap_alloc_new w _)
set_option maxHeartbeats 800000 in
theorem rput4_any (n : Int) (w : World) :
    Calls Try.prog 46 #[.int .i64 n] w (RetI .u8 w (put4 n)) := by
  by_cases h1 : n < -2147483648
  · have HF := Lib.hid (put4_no (in4_no (n := n) (by omega)))
    have d1 : decide (n < -2147483648) = true := by simpa using h1
    go_enter Try.func46, Try.ntmps46
    go_wp2
    go_ret
    exact retI_nil HF.out (Below.refl _ _)
  · have d1 : decide (n < -2147483648) = false := by simpa using h1
    by_cases h2 : 2147483647 < n
    · have HF := Lib.hid (put4_no (in4_no (n := n) (by omega)))
      have d2 : decide (2147483647 < n) = true := by simpa using h2
      go_enter Try.func46, Try.ntmps46
      go_wp2
      go_ret
      exact retI_nil HF.out (Below.refl _ _)
    · have d2 : decide (2147483647 < n) = false := by simpa using h2
      have HF := Lib.hid (put4_yes ((in4_iff n).2 (by omega)))
      by_cases h3 : n < 0
      · have d3 : decide (n < 0) = true := by simpa using h3
        have HU := Lib.hid (show up n = n + 4294967296 by unfold up; rw [if_pos h3])
        go_enter Try.func46, Try.ntmps46
        go_wp2
        go_ret
        exact retI_mk (by rw [HF.out, HU.out]) rfl (four_laid w _) ((Below.refl _ _).alloc (Nat.le_refl _) _)
      · have d3 : decide (n < 0) = false := by simpa using h3
        have HU := Lib.hid (show up n = n by unfold up; rw [if_neg h3])
        go_enter Try.func46, Try.ntmps46
        go_wp2
        go_ret
        exact retI_mk (by rw [HF.out, HU.out]) rfl (four_laid w _) ((Below.refl _ _).alloc (Nat.le_refl _) _)

set_option maxHeartbeats 800000 in
theorem rget2_any (a : Option Addr) (cap : Nat) (l : List Int) (w : World) (_hl : l.length ≤ 9223372036854775807) (hy : Bytes l) (hb : IntsAt .u8 w a l) :
    Calls Try.prog 49 #[.slice a l.length cap] w fun e w' => e = .returned (.tuple #[.int .i64 (get2v l), .bool (get2b l)]) ∧ Below w.heap.size w w' := by
  by_cases h : l.length = 2
  · have HF := Lib.hid (get2v_yes h)
    have HG := Lib.hid ((get2b_iff l).2 h)
    rcases hb with hno | ⟨b, off, rfl, hc⟩
    · rw [hno] at h; simp at h
    have q1 := hc 0 (by omega)
    have q2 := hc 1 (by omega)
    rw [Nat.add_zero] at q1
    have g1 := hy.getD 0
    have g2 := hy.getD 1
    rw [h]
    clear hy hc
    generalize l.getD 0 0 = x at *
    generalize l.getD 1 0 = y at *
    go_enter Try.func49, Try.ntmps49
    go_wp2
    go_quiet (fail)
    go_wp2
    go_ret2
    exact ⟨ret_ib HF.out.symm HG.out.symm, below_drewN (Below.refl _ _) _⟩
  · have HF := Lib.hid (get2v_no h)
    have HG := Lib.hid (show get2b l = false by cases e : get2b l; rfl; exact absurd ((get2b_iff l).1 e) h)
    have d : ((l.length : Int) != 2) = true := by simp; omega
    have d2 : ((l.length : Int) == 2) = false := by simp; omega
    clear hy hb
    go_enter Try.func49, Try.ntmps49
    go_wp2
    go_ret2
    exact ⟨ret_ib HF.out.symm HG.out.symm, Below.refl _ _⟩

set_option maxHeartbeats 800000 in
theorem rget4_any (a : Option Addr) (cap : Nat) (l : List Int) (w : World) (_hl : l.length ≤ 9223372036854775807) (hy : Bytes l) (hb : IntsAt .u8 w a l) :
    Calls Try.prog 50 #[.slice a l.length cap] w fun e w' => e = .returned (.tuple #[.int .i64 (get4v l), .bool (get4b l)]) ∧ w = w' := by
  by_cases h : l.length = 4
  · have HF := Lib.hid (val_four' h)
    have HG := Lib.hid ((get4b_iff l).2 h)
    have HY := Lib.hid hy
    rcases hb with hno | ⟨b, off, rfl, hc⟩
    · rw [hno] at h; simp at h
    have HC := Lib.hid hc
    have HL := Lib.hid h
    rw [h]
    clear hy hc h
    go_enter Try.func50, Try.ntmps50
    go_wp2
    go_loopg [4, 5] 4 (fun gg s4 s5 wr => ∃ k : Nat, k + gg = 4 ∧ s5 = .int .i64 k ∧ s4 = .int .i64 (val (l.take k)) ∧ w = wr)
    case atStart => exact ⟨0, by omega, rfl, by rw [List.take_zero]; rfl, rfl⟩
    case round =>
      obtain ⟨k, hkg, rfl, rfl, rfl⟩ := hrel
      have hV := val_in HY.out k (by have := HL.out; omega) (by omega)
      by_cases hk : k < 4
      · have hki : (k : Int) < 4 := by omega
        have hcx := HC.out k (by have := HL.out; omega)
        have hg := HY.out.getD k
        have HU := Lib.hid (show 256 * val (l.take k) + l.getD k 0 = val (l.take (k + 1)) by rw [val_next l k (by have := HL.out; omega)]; omega)
        have hV1 := hV.1
        have hV2 := hV.2.2 hk
        clear hV
        generalize val (l.take k) = X at *
        generalize l.getD k 0 = c at *
        go_wp2
        go_roundg (gk - 1)
        case rel => exact ⟨k + 1, by omega, by go_num, by rw [← HU.out], rfl⟩
        case measure => omega
      · obtain rfl : k = 4 := by omega
        have hV1 := hV.1
        have hV2 := hV.2.1
        have e4 : l.take 4 = l := List.take_of_length_le (by have := HL.out; omega)
        rw [e4] at hV1 hV2 ⊢
        clear hV e4
        generalize val l = X at *
        by_cases hx : 2147483648 ≤ X
        · have HD := Lib.hid (show X - 4294967296 = down X by unfold down; rw [if_pos hx])
          have d : decide (2147483648 ≤ X) = true := by simpa using hx
          go_wp2
          go_ret2
          exact ⟨ret_ib (HD.out.trans HF.out) HG.out.symm, rfl⟩
        · have HD := Lib.hid (show X = down X by unfold down; rw [if_neg hx])
          have d : decide (2147483648 ≤ X) = false := by simpa using hx
          go_wp2
          go_ret2
          exact ⟨ret_ib (HD.out.trans HF.out) HG.out.symm, rfl⟩
  · have HF := Lib.hid (get4v_no h)
    have HG := Lib.hid (show get4b l = false by cases e : get4b l; rfl; exact absurd ((get4b_iff l).1 e) h)
    have d : ((l.length : Int) != 4) = true := by simp; omega
    have d2 : ((l.length : Int) == 4) = false := by simp; omega
    clear hy hb
    go_enter Try.func50, Try.ntmps50
    go_wp2
    go_ret2
    exact ⟨ret_ib HF.out.symm HG.out.symm, rfl⟩

end Wr
end Go.Proofs.Ytpamegkbhdbheaa
