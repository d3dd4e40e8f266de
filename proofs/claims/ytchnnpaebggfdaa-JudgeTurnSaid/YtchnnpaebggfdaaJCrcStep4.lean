/-
  What the closure inside More of package crc does, for every sum of 16 bits and every byte: a contract by walking the Go text. Its conditions: where the sum lies.
  What More and Sum of package crc return, for every argument: contracts by walking the Go text. Their conditions: where the bytes lie.
  What Seal of package crc returns, for at most 1000000 bytes: a contract by walking the Go text. Its conditions: where the bytes lie, and that they are so few.
  What Open of package crc returns, for at most 1000000 bytes: a contract by walking the Go text. Its conditions: where the bytes lie, and that they are so few.
-/
import Derived.Test.YtchnnpaebggfdaaJCrcMath23
import Derived.Test.YtchnnpaebggfdaaJOpen2
import Derived.Deep.LoopGhost
import Derived.IntWalk
import Derived.WalkSmall
import Derived.Laws.BitsAll
import Derived.Deep.DeepCutAuto
import Derived.Deep.CutBlock
import Derived.BigQuiet
import Derived.Lib.QuietBelow
namespace Go.Proofs.Ytchnnpaebggfdaa
set_option maxRecDepth 100000
open Go.ChangeShapes Go.WideShapes Go.ChangeAt Go.RowKit Go.Deep
namespace Cr
set_option maxHeartbeats 800000 in
theorem step_any (g s c : Nat) (w : World) (hs : s < 65536) (hc : c < 256) (hg : IRow .i64 w g 3 [(s : Int)]) :
    Calls Try.prog 76 #[.int .u8 c, .pointer (some ⟨g, 0, none⟩)] w fun e w' => e = .returned (.tuple #[]) ∧ IRow .i64 w' g 3 [((feed s c : Nat) : Int)] ∧ Below g w w' := by
  have hcell : w.cell? ⟨g, 0, none⟩ = some (.int .i64 (s : Int)) := hg.cell 0 (by simp)
  have hfr := hg.frozen 0
  go_enter Try.func76, Try.ntmps76
  go_wp2
  go_loopg [9] 8 (fun gg s9 wr => ∃ k : Nat, k + gg = 8 ∧ s9 = .int .i64 k ∧ Hid (IRow .i64 wr g 3 [((bits k (s ^^^ (256 * c)) : Nat) : Int)]) ∧ Hid (Below g w wr))
  case atStart =>
    have R0 := hg.set 0 (((s ^^^ (256 * c) : Nat) : Int))
    rw [xor_byte s c hs hc]
    exact ⟨0, by omega, rfl, Lib.hid R0, Lib.hid ((Below.refl g w).setCell (Nat.le_refl _) _)⟩
  case round =>
    obtain ⟨k, hkg, rfl, R, B⟩ := hrel
    have hx := bits_lt k (s ^^^ (256 * c)) (xor_lt hs (by omega))
    have hcl : wr.cell? ⟨g, 0, none⟩ = some (.int .i64 ((bits k (s ^^^ (256 * c)) : Nat) : Int)) := R.out.cell 0 (by simp)
    have hfz := R.out.frozen 0
    have HX := Lib.hid (bits_succ k (s ^^^ (256 * c)))
    by_cases hk : k < 8
    · generalize hX : bits k (s ^^^ (256 * c)) = x at *
      clear hX
      by_cases ht : 32768 ≤ x
      · have d := top_yes hx ht
        have E := Lib.hid (step_yes hx ht)
        go_wp2
        go_roundg (gk - 1)
        case rel => exact ⟨k + 1, by omega, by go_num, Lib.hid (by rw [HX.out, ← E.out]; exact (R.out.set 0 _).set 0 _), Lib.hid ((B.out.setCell (Nat.le_refl _) _).setCell (Nat.le_refl _) _)⟩
        case measure => omega
      · have d := top_no hx ht
        have E := Lib.hid (step_no hx ht)
        go_wp2
        go_roundg (gk - 1)
        case rel => exact ⟨k + 1, by omega, by go_num, Lib.hid (by rw [HX.out, ← E.out]; exact R.out.set 0 _), Lib.hid (B.out.setCell (Nat.le_refl _) _)⟩
        case measure => omega
    · obtain rfl : k = 8 := by omega
      go_wp2
      go_end0
      exact ⟨rfl, by rw [feed_def]; exact R.out, B.out⟩
end Cr
end Go.Proofs.Ytchnnpaebggfdaa

namespace Go.Proofs.Ytchnnpaebggfdaa
set_option maxRecDepth 100000
open Go.ChangeShapes Go.WideShapes Go.ChangeAt Go.RowKit Go.Deep
namespace Cr
theorem ret_int {k : IntKind} {n m : Int} (h : n = m) : Ending.returned (.int k n) = .returned (.int k m) := by rw [h]
set_option maxHeartbeats 800000 in
theorem more_any (a : Option Addr) (cap : Nat) (l : List Int) (s : Int) (w : World) (hl : l.length ≤ 9223372036854775807) (hy : Bytes l) (hb : IntsAt .u8 w a l) :
    Calls Try.prog 70 #[.int .i64 s, .slice a l.length cap] w fun e w' => e = .returned (.int .i64 (moreI s l)) ∧ Below w.heap.size w w' := by
  by_cases hin : 0 ≤ s ∧ s ≤ 65535
  · obtain ⟨n, rfl⟩ := Int.eq_ofNat_of_zero_le hin.1
    have hn : n < 65536 := by omega
    have HM := Lib.hid (moreI_in n l hn)
    have HY := Lib.hid hy
    have HB := Lib.hid hb
    clear hy hb
    have d1 : decide ((n : Int) < 0) = false := by simp
    have d2 : decide (65535 < (n : Int)) = false := by simp; omega
    go_enter Try.func70, Try.ntmps70
    go_wp2
    go_loopg [17] l.length (fun gg s17 wr => ∃ k : Nat, k + gg = l.length ∧ s17 = .int .i64 k ∧ Hid (IRow .i64 wr w.heap.size 3 [((upto n l k : Nat) : Int)]) ∧ Hid (Below w.heap.size w wr))
    case atStart => exact ⟨0, by omega, rfl, Lib.hid (by rw [upto_0]; exact heap_alloc_new w _), Lib.hid ((Below.refl _ w).alloc (Nat.le_refl _) _)⟩
    case round =>
      obtain ⟨k, hkg, rfl, R, B⟩ := hrel
      by_cases hk : k < l.length
      · rcases HB.out with hnil | ⟨b, off, rfl, hc⟩
        · rw [hnil] at hk; simp at hk
        have hki : (k : Int) < (l.length : Int) := by omega
        have hcx := (B.out.cell (p := ⟨b, off + k, none⟩) (cell_lt (hc k hk))).trans (hc k hk)
        have hg := HY.out.getD k
        have HU := Lib.hid (upto_succ n l k hk)
        obtain ⟨c, hcc⟩ := Int.eq_ofNat_of_zero_le hg.1
        rw [hcc] at hcx hg HU
        have C := step_any w.heap.size (upto n l k) c wr (upto_lt _ _ _ hn) (by omega) R.out
        clear hc hcc
        go_wp2_with (go_at_call 76; refine C.mono ?_; rintro e w2 ⟨rfl, r2, b2⟩; have R2 := Lib.hid r2; have B2 := Lib.hid b2; clear r2 b2)
        go_roundg (gk - 1)
        case rel => exact ⟨k + 1, by omega, by go_num, Lib.hid (by rw [HU.out]; exact R2.out), Lib.hid (B.out.trans B2.out)⟩
        case measure => omega
      · obtain rfl : k = l.length := by omega
        have hcl : wr.cell? ⟨w.heap.size, 0, none⟩ = some (.int .i64 ((upto n l l.length : Nat) : Int)) := R.out.cell 0 (by simp)
        go_wp2
        go_ret
        exact ⟨ret_int (by rw [HM.out, ← upto_all]), B.out⟩
  · have HM := Lib.hid (moreI_out s l hin)
    clear hy hb
    by_cases h0 : s < 0
    · have d1 : decide (s < 0) = true := by simpa using h0
      go_enter Try.func70, Try.ntmps70
      go_wp2
      go_ret
      exact ⟨ret_int HM.out.symm, (Below.refl _ w).alloc (Nat.le_refl _) _⟩
    · have d1 : decide (s < 0) = false := by simpa using h0
      have d2 : decide (65535 < s) = true := by simp; omega
      go_enter Try.func70, Try.ntmps70
      go_wp2
      go_ret
      exact ⟨ret_int HM.out.symm, (Below.refl _ w).alloc (Nat.le_refl _) _⟩
theorem moreI_sum (l : List Int) : moreI 65535 l = (sum l : Nat) := moreI_in 65535 l (by omega)
theorem sum_any (a : Option Addr) (cap : Nat) (l : List Int) (w : World) (hl : l.length ≤ 9223372036854775807) (hy : Bytes l) (hb : IntsAt .u8 w a l) :
    Calls Try.prog 61 #[.slice a l.length cap] w fun e w' => e = .returned (.int .i64 ((sum l : Nat) : Int)) ∧ Below w.heap.size w w' := by
  have C := more_any a cap l 65535 w hl hy hb
  rw [moreI_sum] at C
  go_enter Try.func61, Try.ntmps61
  go_wp2_with fail
  refine C.mono ?_; rintro e w1 ⟨rfl, b1⟩
  go_wp2
  go_ret
  exact ⟨rfl, b1⟩
end Cr
end Go.Proofs.Ytchnnpaebggfdaa

namespace Go.Proofs.Ytchnnpaebggfdaa
set_option maxRecDepth 100000
open Go.ChangeShapes Go.WideShapes Go.ChangeAt Go.RowKit Go.Deep
namespace Cr
theorem byteInfo : (Try.prog.info? 5).map (fun i => (i.zero, i.size, i.bytes)) = some (some (.int .u8 0), 1, 1) := by kernel_rfl
theorem byteSize : (Try.prog.info? 5).map (·.size) = some 1 := by kernel_rfl
theorem zeros_cells8 (n : Nat) : (madeCells (Value.int .u8 0).cells (n * 1)).toList = cellsI .u8 (List.replicate n 0) := by
  have : (Value.int .u8 0).cells = #[Value.int .u8 0] := rfl
  rw [this, toList_madeCells_one]; simp [cellsI]
end Cr
end Go.Proofs.Ytchnnpaebggfdaa

namespace Go.Proofs.Ytchnnpaebggfdaa
set_option maxRecDepth 100000
open Go.ChangeShapes Go.WideShapes Go.ChangeAt Go.RowKit Go.Deep
namespace Cr
/-- What Open hands back: a list, and whether there is one. -/
def RetIB (k : IntKind) (w : World) (l : List Int) (b : Bool) (e : Ending) (w' : World) : Prop :=
  ∃ a cap, e = .returned (.tuple #[.slice a l.length cap, .bool b]) ∧ IntsAt k w' a l ∧ Below w.heap.size w w'
theorem retIB_nil {k : IntKind} {w w' : World} {l : List Int} {b : Bool} (he : l = []) (hb : b = false) (h : Below w.heap.size w w') : RetIB k w l b (.returned (.tuple #[.slice none 0 0, .bool false])) w' := by
  subst he; subst hb; exact ⟨none, 0, rfl, Or.inl rfl, h⟩
theorem retIB_mk {k : IntKind} {w w' : World} {a : Option Addr} {l l' : List Int} {n cap : Nat} {b b' : Bool} (he : l' = l) (hn : l'.length = n) (hq : b' = b) (hi : IntsAt k w' a l') (hb : Below w.heap.size w w') :
    RetIB k w l b (.returned (.tuple #[.slice a n cap, .bool b'])) w' := by subst he; subst hn; subst hq; exact ⟨a, cap, rfl, hi, hb⟩
/-- The same, with room enough. -/
def RetIBC (k : IntKind) (w : World) (l : List Int) (b : Bool) (e : Ending) (w' : World) : Prop :=
  ∃ a cap, e = .returned (.tuple #[.slice a l.length cap, .bool b]) ∧ IntsAt k w' a l ∧ l.length ≤ cap ∧ Below w.heap.size w w'
theorem retIBC_nil {k : IntKind} {w w' : World} {l : List Int} {b : Bool} (he : l = []) (hb : b = false) (h : Below w.heap.size w w') : RetIBC k w l b (.returned (.tuple #[.slice none 0 0, .bool false])) w' := by
  subst he; subst hb; exact ⟨none, 0, rfl, Or.inl rfl, Nat.le_refl _, h⟩
theorem retIBC_mk {k : IntKind} {w w' : World} {a : Option Addr} {l l' : List Int} {n cap : Nat} {b b' : Bool} (he : l' = l) (hn : l'.length = n) (hq : b' = b) (hi : IntsAt k w' a l') (hc : n ≤ cap) (hb : Below w.heap.size w w') :
    RetIBC k w l b (.returned (.tuple #[.slice a n cap, .bool b'])) w' := by subst he; subst hn; subst hq; exact ⟨a, cap, rfl, hi, hc, hb⟩
theorem or_sum (S : Nat) (x y : Int) (hx : 0 ≤ x ∧ x < 256) (hy : 0 ≤ y ∧ y < 256) :
    ((S : Int) != Go.bits .or .i64 (x * 256) y) = !(decide (x = ((S / 256 : Nat) : Int)) && decide (y = ((S % 256 : Nat) : Int))) := by
  rw [or_pair x y hx hy]
  by_cases h : x = ((S / 256 : Nat) : Int) ∧ y = ((S % 256 : Nat) : Int)
  · rw [decide_eq_true h.1, decide_eq_true h.2]
    have : (S : Int) = x * 256 + y := by omega
    simp [this]
  · have : ¬ (S : Int) = x * 256 + y := by omega
    have h2 : (decide (x = ((S / 256 : Nat) : Int)) && decide (y = ((S % 256 : Nat) : Int))) = false := by
      rw [Bool.and_eq_false_iff, decide_eq_false_iff_not, decide_eq_false_iff_not]; omega
    rw [h2]; simpa using this
theorem opens_at {l : List Int} {n : Nat} (h : l.length = n + 2) : opens l = (decide (l.getD n 0 = ((sum (l.take n) / 256 : Nat) : Int)) && decide (l.getD (n + 1) 0 = ((sum (l.take n) % 256 : Nat) : Int))) := by
  unfold opens; rw [h, show n + 2 - 2 = n by omega, show n + 2 - 1 = n + 1 by omega, decide_eq_true (show 2 ≤ n + 2 by omega), Bool.true_and]
theorem opened_at {l : List Int} {n : Nat} (h : l.length = n + 2) (ho : opens l = true) : opened l = l.take n := by rw [opened_yes ho, h]; rfl
set_option maxHeartbeats 800000 in
theorem open_cap (a : Option Addr) (cap : Nat) (l : List Int) (w : World) (hl : l.length ≤ 1000000) (hcap : l.length ≤ cap) (hy : Bytes l) (hb : IntsAt .u8 w a l) :
    Calls Try.prog 51 #[.slice a l.length cap] w (RetIBC .u8 w (opened l) (opens l)) := by
  by_cases h2 : l.length < 2
  · have ho : opens l = false := opens_false (by omega)
    have HO := Lib.hid ho
    have HP := Lib.hid (opened_no ho)
    clear ho
    have d1 : decide ((l.length : Int) - 2 < 0) = true := by simp; omega
    go_enter Try.func51, Try.ntmps51
    go_wp2
    go_ret2
    exact retIBC_nil HP.out HO.out (Below.refl _ _)
  · obtain ⟨n, hn⟩ : ∃ n, l.length = n + 2 := ⟨l.length - 2, by omega⟩
    rcases hb with hno | ⟨b, off, rfl, hc⟩
    · rw [hno] at h2; simp at h2
    have HC := Lib.hid hc
    have hT : (l.take n).length = n := by rw [List.length_take]; omega
    have hI : IntsAt .u8 w (some ⟨b, off, none⟩) (l.take n) := IntsAt.take (Or.inr ⟨b, off, rfl, hc⟩) n
    have hI2 := Lib.hid hI
    have cS := reg_call (w := w) (fun W hW => sum_any (some ⟨b, off, none⟩) cap (l.take n) W (by omega) (hy.take n) (hI.below hW))
    rw [hT] at cS
    have q1 := cell_regrown (hc n (by omega))
    have q2 := cell_regrown (hc (n + 1) (by omega))
    have E := or_sum (sum (l.take n)) (l.getD n 0) (l.getD (n + 1) 0) (hy.getD n) (hy.getD (n + 1))
    rw [← opens_at hn] at E
    have HP := Lib.hid (opened_at hn)
    have HN := Lib.hid (opened_no (l := l))
    have g1 := hy.getD n
    have g2 := hy.getD (n + 1)
    generalize sum (l.take n) = S at *
    generalize l.getD n 0 = x at *
    generalize l.getD (n + 1) 0 = y at *
    have d1 : decide ((n : Int) < 0) = false := by simp
    have e1 : (n : Int) ≤ (cap : Int) := by omega
    have e2 : 0 ≤ (n : Int) := by omega
    have e3 : (n : Int) < ((n + 2 : Nat) : Int) := by omega
    have e4 : (n : Int) + 1 < ((n + 2 : Nat) : Int) := by omega
    have hn6 : n ≤ 1000000 := by omega
    have wj : wrap64 ((n : Int) + 1) = (n : Int) + 1 := by unfold wrap64; omega
    have wj2 : ((n : Int) + 1).toNat = n + 1 := by omega
    have wj3 : 0 ≤ (n : Int) + 1 := by omega
    rw [hn]
    clear hI hc hn h2 hy
    obtain ⟨i0, hi0, hz0, hz1, hz2⟩ := info_parts byteInfo
    cases ho : opens l
    · rw [ho, Bool.not_false] at E
      go_enter Try.func51, Try.ntmps51
      go_wp2
      refine wp_region_quiet_below (by kernel_rfl) (by kernel_rfl) ?_
      repeat (go_big_quiet_step (first | exact cS _ _))
      refine wpQuiet_nil ?_
      intro _ hw'
      obtain ⟨⟨dq, osq⟩, hw''⟩ := hw'
      subst hw''
      go_wp2
      go_ret2
      exact retIBC_nil (HN.out ho) rfl (below_regrown w dq osq)
    · rw [ho, Bool.not_true] at E
      go_enter Try.func51, Try.ntmps51
      go_wp2
      refine wp_region_quiet_below (by kernel_rfl) (by kernel_rfl) ?_
      repeat (go_big_quiet_step (first | exact cS _ _))
      refine wpQuiet_nil ?_
      intro w1 hw'
      obtain ⟨⟨dq, osq⟩, hw''⟩ := hw'
      have b0 : Hid (Below w.heap.size w w1) := Lib.hid (by rw [hw'']; exact below_regrown w dq osq)
      clear hw''
      clear cS q1 q2
      go_wp2_with (first
        | (at_make; refine wpList_make_full _ rfl _ _ _ rfl w1.heap.size 5 i0 (.int .u8 0) 1 Try.underlying59 hi0 hz0 hz1 .i64 .i64 _ _ n rfl rfl (by omega) (by omega) (by rw [hz2]; omega) (by unfold maxLen; omega) (Nat.le_refl _) ?_; intro w2 own1 grown1
           have R1 := Lib.hid (IRow.of_own own1 (zeros_cells8 _)); have B1 := Lib.hid ((Below.refl w1.heap.size w1).grown grown1 (Nat.le_refl _) (by simp)); clear own1 grown1)
        | ((with_reducible show wpList _ _ _ (⟨some 33, _, _, _, _, _⟩ :: _) _ _); refine wpList_copyI rfl (.tmp 31) (.tmp 32) _ rfl 5 Try.underlying59 byteSize .u8 w1.heap.size 0 (List.replicate n 0) (l.take n) 5 _ _ _ _ _ _ rfl rfl R1.out (by rw [hT]; show _ = min _ _; omega) (fun _ => rfl) (hI2.out.below (grow b0.out B1.out)) (by rw [hT]; simp) w1.heap.size w1 B1.out (Nat.le_refl _) ?_
           intro w3 R2' B2'; have R2 := Lib.hid (show IRow _ _ _ _ (l.take n) from (splice_whole (List.replicate n 0) (l.take n) (by rw [hT]; simp)) ▸ R2'.out); have B2 := Lib.hid B2'; clear R2' B2'))
      go_ret2
      exact retIBC_mk (HP.out ho).symm hT rfl R2.out.ints (Nat.le_refl _) (grow b0.out B2.out)
end Cr
end Go.Proofs.Ytchnnpaebggfdaa
