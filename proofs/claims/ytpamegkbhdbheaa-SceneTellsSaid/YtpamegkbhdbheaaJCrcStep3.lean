/-
  What the closure inside More of package crc does, for every sum of 16 bits and every byte: a contract by walking the Go text. Its conditions: where the sum lies.
  What More and Sum of package crc return, for every argument: contracts by walking the Go text. Their conditions: where the bytes lie.
  What Seal of package crc returns, for at most 1000000 bytes: a contract by walking the Go text. Its conditions: where the bytes lie, and that they are so few.
-/
import Derived.Test.YtpamegkbhdbheaaCrcMath2
import Derived.Test.YtpamegkbhdbheaaJOpen2
import Derived.Deep.LoopGhost
import Derived.IntWalk
import Derived.WalkSmall
import Derived.Laws.BitsAll
import Derived.Deep.DeepCutAuto
import Derived.Deep.CutBlock
namespace Go.Proofs.Ytpamegkbhdbheaa
set_option maxRecDepth 100000
open Go.ChangeShapes Go.WideShapes Go.ChangeAt Go.RowKit Go.Deep
namespace Cr

set_option maxHeartbeats 800000 in
theorem step_any (g s c : Nat) (w : World) (hs : s < 65536) (hc : c < 256) (hg : IRow .i64 w g 3 [(s : Int)]) :
    Calls Try.prog 73 #[.int .u8 c, .pointer (some ⟨g, 0, none⟩)] w fun e w' => e = .returned (.tuple #[]) ∧ IRow .i64 w' g 3 [((feed s c : Nat) : Int)] ∧ Below g w w' := by
  have hcell : w.cell? ⟨g, 0, none⟩ = some (.int .i64 (s : Int)) := hg.cell 0 (by simp)
  have hfr := hg.frozen 0
  go_enter Try.func73, Try.ntmps73
  go_wp2
  go_loopg [9] 8 (fun gg s9 wr => ∃ k : Nat, k + gg = 8 ∧ s9 = .int .i64 k ∧ Hid (IRow .i64 wr g 3 [((bits k (s ^^^ (256 * c)) : Nat) : Int)]) ∧ Hid (Below g w wr))
  case atStart =>
    have R0 := hg.set 0 (((s ^^^ (256 * c) : Nat) : Int))
    rw [xor_byte s c hs hc]
    exact ⟨0, by omega, rfl, Lib.hid R0, Lib.hid ((Below.refl g w).setCell (Nat.le_refl _) _)⟩
  case round =>
    obtain ⟨k, hkg, rfl, R, B⟩ := hrel
    have hx := bits_lt k (s ^^^ (256 * c)) (xor_lt hs (by omega))
    have hcl : wr.cell? ⟨g, 0, none⟩ = some (.int .i64 ((bits k (s ^^^ (256 * c)) : Nat) : Int)) := R.out.cell 0 (by simp)
    have hfz := R.out.frozen 0
    have HX := Lib.hid (bits_succ k (s ^^^ (256 * c)))
    by_cases hk : k < 8
    · generalize hX : bits k (s ^^^ (256 * c)) = x at *
      clear hX
      by_cases ht : 32768 ≤ x
      · have d := top_yes hx ht
        have E := Lib.hid (step_yes hx ht)
        go_wp2
        go_roundg (gk - 1)
        case rel => exact ⟨k + 1, by omega, by go_num, Lib.hid (by rw [HX.out, ← E.out]; exact (R.out.set 0 _).set 0 _), Lib.hid ((B.out.setCell (Nat.le_refl _) _).setCell (Nat.le_refl _) _)⟩
        case measure => omega
      · have d := top_no hx ht
        have E := Lib.hid (step_no hx ht)
        go_wp2
        go_roundg (gk - 1)
        case rel => exact ⟨k + 1, by omega, by go_num, Lib.hid (by rw [HX.out, ← E.out]; exact R.out.set 0 _), Lib.hid (B.out.setCell (Nat.le_refl _) _)⟩
        case measure => omega
    · obtain rfl : k = 8 := by omega
      go_wp2
      go_end0
      exact ⟨rfl, by rw [feed_def]; exact R.out, B.out⟩
end Cr
end Go.Proofs.Ytpamegkbhdbheaa

namespace Go.Proofs.Ytpamegkbhdbheaa
set_option maxRecDepth 100000
open Go.ChangeShapes Go.WideShapes Go.ChangeAt Go.RowKit Go.Deep
namespace Cr

theorem ret_int {k : IntKind} {n m : Int} (h : n = m) : Ending.returned (.int k n) = .returned (.int k m) := by rw [h]

set_option maxHeartbeats 800000 in
theorem more_any (a : Option Addr) (cap : Nat) (l : List Int) (s : Int) (w : World) (hl : l.length ≤ 9223372036854775807) (hy : Bytes l) (hb : IntsAt .u8 w a l) :
    Calls Try.prog 62 #[.int .i64 s, .slice a l.length cap] w fun e w' => e = .returned (.int .i64 (moreI s l)) ∧ Below w.heap.size w w' := by
  by_cases hin : 0 ≤ s ∧ s ≤ 65535
  · obtain ⟨n, rfl⟩ := Int.eq_ofNat_of_zero_le hin.1
    have hn : n < 65536 := by omega
    have HM := Lib.hid (moreI_in n l hn)
    have HY := Lib.hid hy
    have HB := Lib.hid hb
    clear hy hb
    have d1 : decide ((n : Int) < 0) = false := by simp
    have d2 : decide (65535 < (n : Int)) = false := by simp; omega
    go_enter Try.func62, Try.ntmps62
    go_wp2
    go_loopg [17] l.length (fun gg s17 wr => ∃ k : Nat, k + gg = l.length ∧ s17 = .int .i64 k ∧ Hid (IRow .i64 wr w.heap.size 3 [((upto n l k : Nat) : Int)]) ∧ Hid (Below w.heap.size w wr))
    case atStart => exact ⟨0, by omega, rfl, Lib.hid (by rw [upto_0]; exact heap_alloc_new w _), Lib.hid ((Below.refl _ w).alloc (Nat.le_refl _) _)⟩
    case round =>
      obtain ⟨k, hkg, rfl, R, B⟩ := hrel
      by_cases hk : k < l.length
      · rcases HB.out with hnil | ⟨b, off, rfl, hc⟩
        · rw [hnil] at hk; simp at hk
        have hki : (k : Int) < (l.length : Int) := by omega
        have hcx := (B.out.cell (p := ⟨b, off + k, none⟩) (cell_lt (hc k hk))).trans (hc k hk)
        have hg := HY.out.getD k
        have HU := Lib.hid (upto_succ n l k hk)
        obtain ⟨c, hcc⟩ := Int.eq_ofNat_of_zero_le hg.1
        rw [hcc] at hcx hg HU
        have C := step_any w.heap.size (upto n l k) c wr (upto_lt _ _ _ hn) (by omega) R.out
        clear hc hcc
        go_wp2_with (go_at_call 73; refine C.mono ?_; rintro e w2 ⟨rfl, r2, b2⟩; have R2 := Lib.hid r2; have B2 := Lib.hid b2; clear r2 b2)
        go_roundg (gk - 1)
        case rel => exact ⟨k + 1, by omega, by go_num, Lib.hid (by rw [HU.out]; exact R2.out), Lib.hid (B.out.trans B2.out)⟩
        case measure => omega
      · obtain rfl : k = l.length := by omega
        have hcl : wr.cell? ⟨w.heap.size, 0, none⟩ = some (.int .i64 ((upto n l l.length : Nat) : Int)) := R.out.cell 0 (by simp)
        go_wp2
        go_ret
        exact ⟨ret_int (by rw [HM.out, ← upto_all]), B.out⟩
  · have HM := Lib.hid (moreI_out s l hin)
    clear hy hb
    by_cases h0 : s < 0
    · have d1 : decide (s < 0) = true := by simpa using h0
      go_enter Try.func62, Try.ntmps62
      go_wp2
      go_ret
      exact ⟨ret_int HM.out.symm, (Below.refl _ w).alloc (Nat.le_refl _) _⟩
    · have d1 : decide (s < 0) = false := by simpa using h0
      have d2 : decide (65535 < s) = true := by simp; omega
      go_enter Try.func62, Try.ntmps62
      go_wp2
      go_ret
      exact ⟨ret_int HM.out.symm, (Below.refl _ w).alloc (Nat.le_refl _) _⟩

theorem moreI_sum (l : List Int) : moreI 65535 l = (sum l : Nat) := moreI_in 65535 l (by omega)
theorem sum_any (a : Option Addr) (cap : Nat) (l : List Int) (w : World) (hl : l.length ≤ 9223372036854775807) (hy : Bytes l) (hb : IntsAt .u8 w a l) :
    Calls Try.prog 51 #[.slice a l.length cap] w fun e w' => e = .returned (.int .i64 ((sum l : Nat) : Int)) ∧ Below w.heap.size w w' := by
  have C := more_any a cap l 65535 w hl hy hb
  rw [moreI_sum] at C
  go_enter Try.func51, Try.ntmps51
  go_wp2_with fail
  refine C.mono ?_; rintro e w1 ⟨rfl, b1⟩
  go_wp2
  go_ret
  exact ⟨rfl, b1⟩
end Cr
end Go.Proofs.Ytpamegkbhdbheaa

namespace Go.Proofs.Ytpamegkbhdbheaa
set_option maxRecDepth 100000
open Go.ChangeShapes Go.WideShapes Go.ChangeAt Go.RowKit Go.Deep
namespace Cr

theorem byteInfo : (Try.prog.info? 5).map (fun i => (i.zero, i.size, i.bytes)) = some (some (.int .u8 0), 1, 1) := by kernel_rfl
theorem byteSize : (Try.prog.info? 5).map (·.size) = some 1 := by kernel_rfl
theorem zeros_cells8 (n : Nat) : (madeCells (Value.int .u8 0).cells (n * 1)).toList = cellsI .u8 (List.replicate n 0) := by
  have : (Value.int .u8 0).cells = #[Value.int .u8 0] := rfl
  rw [this, toList_madeCells_one]; simp [cellsI]
theorem splice_seal (l : List Int) : splice (List.replicate (l.length + 2) 0) 0 l = l ++ [0, 0] := by
  unfold splice; rw [List.take_zero, List.nil_append, Nat.zero_add, List.drop_replicate, show l.length + 2 - l.length = 2 by omega]; rfl
theorem set_seal (l : List Int) (x y : Int) : ((l ++ [0, 0]).set l.length x).set (l.length + 1) y = l ++ [x, y] := by
  rw [List.set_append_right _ _ (Nat.le_refl _), Nat.sub_self, List.set_append_right _ _ (by omega), show l.length + 1 - l.length = 1 by omega]; rfl

/-- What a call hands back, with what it fits into. -/
def RetC (k : IntKind) (w : World) (l : List Int) (e : Ending) (w' : World) : Prop :=
  ∃ a cap, e = .returned (.slice a l.length cap) ∧ IntsAt k w' a l ∧ l.length ≤ cap ∧ Below w.heap.size w w'
theorem retC_mk {k : IntKind} {w w' : World} {a : Option Addr} {l l' : List Int} {n cap : Nat} (he : l' = l) (hn : l'.length = n) (hc : n ≤ cap) (hi : IntsAt k w' a l') (hb : Below w.heap.size w w') :
    RetC k w l (.returned (.slice a n cap)) w' := by subst he; subst hn; exact ⟨a, cap, rfl, hi, hc, hb⟩

set_option maxHeartbeats 800000 in
theorem seal_cap (a : Option Addr) (cap : Nat) (l : List Int) (w : World) (hl : l.length ≤ 1000000) (hy : Bytes l) (hb : IntsAt .u8 w a l) :
    Calls Try.prog 59 #[.slice a l.length cap] w (RetC .u8 w (sealed l)) := by
  have C := sum_any a cap l w (by omega) hy hb
  have hS := sum_lt l
  have HF := Lib.hid (show sealed l = l ++ [((sum l / 256 : Nat) : Int), ((sum l % 256 : Nat) : Int)] from rfl)
  generalize sum l = S at *
  have HB := Lib.hid hb
  clear hb hy
  obtain ⟨i0, hi0, hz0, hz1, hz2⟩ := info_parts byteInfo
  go_enter Try.func59, Try.ntmps59
  go_wp2_with fail
  refine C.mono ?_; rintro e w1 ⟨rfl, b1⟩
  have g1 := Lib.hid b1; clear b1 C
  go_wp2_with (first
    | (at_make; refine wpList_make_full _ rfl _ _ _ rfl w1.heap.size 5 i0 (.int .u8 0) 1 Try.underlying42 hi0 hz0 hz1 .i64 .i64 _ _ (l.length + 2) rfl rfl (by omega) (by omega) (by rw [hz2]; omega) (by unfold maxLen; omega) (Nat.le_refl _) ?_; intro w2 own1 grown1
       have R1 := Lib.hid (IRow.of_own own1 (zeros_cells8 _)); have B1 := Lib.hid ((Below.refl w1.heap.size w1).grown grown1 (Nat.le_refl _) (by simp)); clear own1 grown1)
    | ((with_reducible show wpList _ _ _ (⟨some 13, _, _, _, _, _⟩ :: _) _ _); refine wpList_copyI rfl (.tmp 11) (.tmp 12) _ rfl 5 Try.underlying42 byteSize .u8 w1.heap.size 0 (List.replicate (l.length + 2) 0) l 5 _ _ _ _ _ _ rfl rfl R1.out (by show _ = min _ _; omega) (fun _ => rfl) (HB.out.below (grow g1.out B1.out)) (by simp) w1.heap.size w1 B1.out (Nat.le_refl _) ?_
       intro w3 R2' B2'; have R2 := Lib.hid (show IRow _ _ _ _ (l ++ [0, 0]) from (splice_seal l) ▸ R2'.out); have B2 := Lib.hid B2'; clear R2' B2'; have hc1 := R2.out.cell l.length (by simp); have hc2 := R2.out.cell (l.length + 1) (by simp); have hf1 := R2.out.frozen l.length; have hf2 := R2.out.frozen (l.length + 1)))
  go_ret
  have R4 := (R2.out.set l.length ((S / 256 : Nat) : Int)).set (l.length + 1) ((S % 256 : Nat) : Int)
  rw [set_seal] at R4
  have e1 : ((S / 256 : Nat) : Int) = (S : Int) / 256 := by omega
  have e2 : ((S % 256 : Nat) : Int) = (S : Int) % 256 := by omega
  rw [e1, e2] at R4
  have HF2 := HF.out
  rw [e1, e2] at HF2
  exact retC_mk HF2.symm (by simp) (by omega) R4.ints (grow g1.out ((B2.out.setCell (Nat.le_refl _) _).setCell (Nat.le_refl _) _))
end Cr
end Go.Proofs.Ytpamegkbhdbheaa
