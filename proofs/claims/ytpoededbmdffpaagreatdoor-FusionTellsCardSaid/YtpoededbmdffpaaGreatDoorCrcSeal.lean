/-
  What Seal of package crc returns, for at most 1000000 bytes: a contract by walking the Go text. Its conditions: where the bytes lie, and that they are so few.
-/
import Derived.Test.YtpoededbmdffpaaGreatDoorCrcMore
import Derived.Deep.DeepCutAuto
import Derived.Deep.CutBlock
namespace Go.Proofs.YtpoededbmdffpaaGreatDoor
set_option maxRecDepth 100000
open Go.ChangeShapes Go.WideShapes Go.ChangeAt Go.RowKit Go.Deep
namespace Cr
theorem byteInfo : (Tryz.prog.info? 5).map (fun i => (i.zero, i.size, i.bytes)) = some (some (.int .u8 0), 1, 1) := by kernel_rfl
theorem byteSize : (Tryz.prog.info? 5).map (·.size) = some 1 := by kernel_rfl
theorem zeros_cells8 (n : Nat) : (madeCells (Value.int .u8 0).cells (n * 1)).toList = cellsI .u8 (List.replicate n 0) := by
  have : (Value.int .u8 0).cells = #[Value.int .u8 0] := rfl
  rw [this, toList_madeCells_one]; simp [cellsI]
theorem splice_seal (l : List Int) : splice (List.replicate (l.length + 2) 0) 0 l = l ++ [0, 0] := by
  unfold splice; rw [List.take_zero, List.nil_append, Nat.zero_add, List.drop_replicate, show l.length + 2 - l.length = 2 by omega]; rfl
theorem set_seal (l : List Int) (x y : Int) : ((l ++ [0, 0]).set l.length x).set (l.length + 1) y = l ++ [x, y] := by
  rw [List.set_append_right _ _ (Nat.le_refl _), Nat.sub_self, List.set_append_right _ _ (by omega), show l.length + 1 - l.length = 1 by omega]; rfl
/-- What a call hands back, with what it fits into. -/
def RetC (k : IntKind) (w : World) (l : List Int) (e : Ending) (w' : World) : Prop :=
  ∃ a cap, e = .returned (.slice a l.length cap) ∧ IntsAt k w' a l ∧ l.length ≤ cap ∧ Below w.heap.size w w'
theorem retC_mk {k : IntKind} {w w' : World} {a : Option Addr} {l l' : List Int} {n cap : Nat} (he : l' = l) (hn : l'.length = n) (hc : n ≤ cap) (hi : IntsAt k w' a l') (hb : Below w.heap.size w w') :
    RetC k w l (.returned (.slice a n cap)) w' := by subst he; subst hn; exact ⟨a, cap, rfl, hi, hc, hb⟩
set_option maxHeartbeats 800000 in
theorem seal_cap (a : Option Addr) (cap : Nat) (l : List Int) (w : World) (hl : l.length ≤ 1000000) (hy : Bytes l) (hb : IntsAt .u8 w a l) :
    Calls Tryz.prog 85 #[.slice a l.length cap] w (RetC .u8 w (sealed l)) := by
  have C := sum_any a cap l w (by omega) hy hb
  have hS := sum_lt l
  have HF := Lib.hid (show sealed l = l ++ [((sum l / 256 : Nat) : Int), ((sum l % 256 : Nat) : Int)] from rfl)
  generalize sum l = S at *
  have HB := Lib.hid hb
  clear hb hy
  obtain ⟨i0, hi0, hz0, hz1, hz2⟩ := info_parts byteInfo
  go_enter Tryz.func85, Tryz.ntmps85
  go_wp2_with fail
  refine C.mono ?_; rintro e w1 ⟨rfl, b1⟩
  have g1 := Lib.hid b1; clear b1 C
  go_wp2_with (first
    | (at_make; refine wpList_make_full _ rfl _ _ _ rfl w1.heap.size 5 i0 (.int .u8 0) 1 Tryz.underlying41 hi0 hz0 hz1 .i64 .i64 _ _ (l.length + 2) rfl rfl (by omega) (by omega) (by rw [hz2]; omega) (by unfold maxLen; omega) (Nat.le_refl _) ?_; intro w2 own1 grown1
       have R1 := Lib.hid (IRow.of_own own1 (zeros_cells8 _)); have B1 := Lib.hid ((Below.refl w1.heap.size w1).grown grown1 (Nat.le_refl _) (by simp)); clear own1 grown1)
    | ((with_reducible show wpList _ _ _ (⟨some 13, _, _, _, _, _⟩ :: _) _ _); refine wpList_copyI rfl (.tmp 11) (.tmp 12) _ rfl 5 Tryz.underlying41 byteSize .u8 w1.heap.size 0 (List.replicate (l.length + 2) 0) l 5 _ _ _ _ _ _ rfl rfl R1.out (by show _ = min _ _; omega) (fun _ => rfl) (HB.out.below (grow g1.out B1.out)) (by simp) w1.heap.size w1 B1.out (Nat.le_refl _) ?_
       intro w3 R2' B2'; have R2 := Lib.hid (show IRow _ _ _ _ (l ++ [0, 0]) from (splice_seal l) ▸ R2'.out); have B2 := Lib.hid B2'; clear R2' B2'; have hc1 := R2.out.cell l.length (by simp); have hc2 := R2.out.cell (l.length + 1) (by simp); have hf1 := R2.out.frozen l.length; have hf2 := R2.out.frozen (l.length + 1)))
  go_ret
  have R4 := (R2.out.set l.length ((S / 256 : Nat) : Int)).set (l.length + 1) ((S % 256 : Nat) : Int)
  rw [set_seal] at R4
  have e1 : ((S / 256 : Nat) : Int) = (S : Int) / 256 := by omega
  have e2 : ((S % 256 : Nat) : Int) = (S : Int) % 256 := by omega
  rw [e1, e2] at R4
  have HF2 := HF.out
  rw [e1, e2] at HF2
  exact retC_mk HF2.symm (by simp) (by omega) R4.ints (grow g1.out ((B2.out.setCell (Nat.le_refl _) _).setCell (Nat.le_refl _) _))
end Cr
end Go.Proofs.YtpoededbmdffpaaGreatDoor
