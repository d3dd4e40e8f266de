/-
  The law's live question for layer 22: the program answers it as it must. A contract by walking the Go text. No conditions.
-/
import Derived.Test.YtpamegkbhdbheaaSceneFits
import Derived.Test.YtpamegkbhdbheaaSceneFar
import Derived.Test.YtpamegkbhdbheaaJSceneCycles2
import Derived.Great.Walk
namespace Go.Proofs.Ytpamegkbhdbheaa
set_option maxRecDepth 100000
open Go.ChangeShapes Go.WideShapes Go.ChangeAt Go.RowKit Go.Deep
namespace Sc
open Cf (G CA)

def cT : List Int := [3, -100, 100, 5, 40, 20, 3, 30, 0, 20, 2, 0, 4, 2, 2, 1, 4, 1, 1, 2, 0]
def p1 : Pt := ⟨[0, 0, 0, 7, 0, 0, 0, 0], [0, 0, 0, 1, 0, 0, 0, 0, 0, 0, 0, -2, 0, 0, 0, 0, 0, 0, 0, 90, 0, 0, 0, 0, 0, 0, 0, 0, 0, 0, 0, 0], true, none, 0, []⟩
def sS (e odd : Int) : Sn := ⟨cT, e, 5, odd, [65535, 3, 0, 0], [p1, p1]⟩
theorem sS_len (e odd : Int) : Lens (sS e odd) := ⟨rfl, rfl, by show 2 ≤ 9223372036854775807; decide⟩
theorem sS_ok : Ok (sS 2 2) := fault_ok.1 (by kernel_rfl)
theorem sS_f2 : fault (sS 2 2) = ⟨#[]⟩ := by kernel_rfl
theorem sS_no : ¬ Ok (sS 2 (-1)) := fun h => by
  have h1 := fault_ok.2 h
  have h2 : fault (sS 2 (-1)) = ⟨#[111, 102, 102]⟩ := by kernel_rfl
  rw [h2] at h1
  injection h1 with h1
  simp at h1
theorem sS_f5 : fault (sS 5 (-1)) = ⟨#[99, 111, 118, 101, 114]⟩ := by kernel_rfl
theorem sS_lo : lo 2147483647 (sS 2 2) 1 3 (NN (sS 2 2)) = 5 := by kernel_rfl
theorem sS_hi : hi (-2147483648) (sS 2 2) 1 3 (NN (sS 2 2)) = 8 := by kernel_rfl
theorem sS_far : far (sS 2 2) 1 3 = true := by kernel_rfl
theorem ps_at {W : World} {b : Nat} (h : VRow W b 59 (ptv p1 ++ ptv p1)) (e odd : Int) : PsAt W (some ⟨b, 0, none⟩) (sS e odd).ps := by
  refine Or.inr ⟨b, 0, rfl, fun i p hi => ?_⟩
  have hl : (ptv p1).length = 42 := rfl
  have hp : i < 2 ∧ p = p1 := by
    have hi' : ([p1, p1] : List Pt)[i]? = some p := hi
    match i, hi' with
    | 0, h => exact ⟨by omega, by cases h; rfl⟩
    | 1, h => exact ⟨by omega, by cases h; rfl⟩
    | i + 2, h => simp at h
  obtain ⟨h2, rfl⟩ := hp
  refine ⟨fun j v hv => ?_, rfl, rfl, ⟨Nat.le_refl _, Nat.zero_le _⟩, fun n hn => (by cases hn), Or.inl rfl, Nat.zero_le _, fun _ => rfl⟩
  have hj : j < 42 := by rw [← hl]; exact (List.getElem?_eq_some_iff.1 hv).1
  refine VRow.cell h _ ?_
  rcases (show i = 0 ∨ i = 1 by omega) with rfl | rfl
  · rw [List.getElem?_append_left (by omega), show 0 + 0 * 42 + j = j by omega]; exact hv
  · rw [List.getElem?_append_right (by omega), show 0 + 1 * 42 + j - (ptv p1).length = j by omega]; exact hv
theorem scv_odd' (e odd x : Int) (a : Option Addr) : (scv (sS e odd) a 2).set 23 (.int .i64 x) = scv (sS e x) a 2 := rfl
theorem scv_e' (e odd x : Int) (a : Option Addr) : (scv (sS e odd) a 2).set 21 (.int .i64 x) = scv (sS x odd) a 2 := rfl
set_option maxRecDepth 100000 in
set_option maxHeartbeats 6400000 in
theorem alive_any (w : World) : Calls Try.prog 6 #[] w fun e w' => e = .returned (.bool true) ∧ Below w.heap.size w w' := by
  have CC := fun W a (h : PsAt W a (sS 2 2).ps) => (cycles_yes (sS 2 2) a 2 W (sS_len 2 2) h sS_ok).mono (fun e w' q => (show ∃ gl T, e = .returned (.tuple #[.slice (some ⟨gl, 0, none⟩) 2 2, .int .i64 0]) ∧ Fill W w' gl (sS 2 2) 2 T 8 from q))
  have CN := fun W a (h : PsAt W a (sS 2 (-1)).ps) => cycles_no (sS 2 (-1)) a 2 W (sS_len 2 (-1)) h sS_no
  have CR := fun W a (h : PsAt W a (sS 2 2).ps) => range_yes (sS 2 2) a 2 W (sS_len 2 2) h sS_ok 1 3 (by decide) (by decide)
  rw [sS_lo, sS_hi] at CR
  change ∀ W a, _ → Calls _ _ #[_, .int .i64 1, .int .i64 3] _ _ at CR
  have CF := fun W a (h : PsAt W a (sS 2 2).ps) => far_yes (sS 2 2) a 2 W (sS_len 2 2) h sS_ok 1 3 (by decide) (by decide)
  rw [sS_far] at CF
  change ∀ W a, _ → Calls _ _ #[_, .int .i64 1, .int .i64 3] _ _ at CF
  have CA2 := fun W a (h : PsAt W a (sS 2 2).ps) => fault_any (sS 2 2) a 2 W (sS_len 2 2) h
  rw [sS_f2] at CA2
  have CA5 := fun W a (h : PsAt W a (sS 5 (-1)).ps) => fault_any (sS 5 (-1)) a 2 W (sS_len 5 (-1)) h
  rw [sS_f5] at CA5
  have SC := Lib.hid (sizeC (l := cS) rfl)
  have ST := Lib.hid (sizeC (l := cT) rfl)
  have SP := Lib.hid (sizeP (p := p1) rfl rfl)
  have LP := Lib.hid (show ([.int .i64 0, .int .i64 0, .int .i64 0, .int .i64 0, .int .i64 0, .int .i64 0, .int .i64 0, .int .i64 0, .int .i64 0, .int .i64 0, .int .i64 0, .int .i64 0, .int .i64 0, .int .i64 0, .int .i64 0, .int .i64 0, .int .i64 0, .int .i64 0, .int .i64 0, .int .i64 0, .int .i64 0, .int .i64 0, .int .i64 0, .int .i64 0, .int .i64 0, .int .i64 0, .int .i64 0, .int .i64 0, .int .i64 0, .int .i64 0, .int .i64 0, .int .i64 0, .int .i64 0, .int .i64 0, .int .i64 0, .int .i64 0, .int .i64 0, .int .i64 0, .int .i64 0, .int .i64 0, .bool false, .slice none 0 0] : List Value).length = (ptv p1).length by rw [ptv_len rfl rfl]; rfl)
  have HPA := Lib.hid (ptv_all (p := p1))
  have SS := Lib.hid (fun a => sizeS (a := a) (cap := 2) (sS_len 2 2))
  go_enter Try.func6, Try.ntmps6
  go_wp2_with fail
  refine (small_any _).mono ?_; rintro e w1 ⟨rfl, b1⟩
  have B1 := Lib.hid b1
  clear b1
  go_upto_region 2 with ((with_reducible show wpList _ _ _ (⟨none, .store _ (.tmp 1) _, _, _, _, _⟩ :: _) _ _); refine VB.store rfl _ _ rfl w1.heap.size (cellsI .i64 cS) rfl rfl (VRow.new w1 [.int .i64 0, .int .i64 0, .int .i64 0, .int .i64 0, .int .i64 0, .int .i64 0, .int .i64 0, .int .i64 0, .int .i64 0, .int .i64 0, .int .i64 0, .int .i64 0, .int .i64 0, .int .i64 0, .int .i64 0, .int .i64 0, .int .i64 0, .int .i64 0, .int .i64 0, .int .i64 0, .int .i64 0] 24) SC.out rfl (all_oneCell_toArray (cellsI_one _ _)) ?_)
  have V2 := Lib.hid ((VRow.new w1 [.int .i64 0, .int .i64 0, .int .i64 0, .int .i64 0, .int .i64 0, .int .i64 0, .int .i64 0, .int .i64 0, .int .i64 0, .int .i64 0, .int .i64 0, .int .i64 0, .int .i64 0, .int .i64 0, .int .i64 0, .int .i64 0, .int .i64 0, .int .i64 0, .int .i64 0, .int .i64 0, .int .i64 0] 24).put (cellsI .i64 cS))
  have B2 := Lib.hid (grow B1.out (Below.put ((Below.refl _ w1).alloc (Nat.le_refl _) (.cells #[.int .i64 0, .int .i64 0, .int .i64 0, .int .i64 0, .int .i64 0, .int .i64 0, .int .i64 0, .int .i64 0, .int .i64 0, .int .i64 0, .int .i64 0, .int .i64 0, .int .i64 0, .int .i64 0, .int .i64 0, .int .i64 0, .int .i64 0, .int .i64 0, .int .i64 0, .int .i64 0, .int .i64 0] 24)) (Nat.le_refl _) (cellsI .i64 cS).toArray))
  have HC := Lib.hid (show w.heap.size ≤ w1.heap.size from B1.out.size)
  generalize (w1.alloc (.cells #[.int .i64 0, .int .i64 0, .int .i64 0, .int .i64 0, .int .i64 0, .int .i64 0, .int .i64 0, .int .i64 0, .int .i64 0, .int .i64 0, .int .i64 0, .int .i64 0, .int .i64 0, .int .i64 0, .int .i64 0, .int .i64 0, .int .i64 0, .int .i64 0, .int .i64 0, .int .i64 0, .int .i64 0] 24)).setRow w1.heap.size (cellsI .i64 cS).toArray = w2 at *
  generalize w1.heap.size = cb at *
  have c5 := V2.out.cell 5 (v := .int .i64 9) rfl
  have f5 := V2.out.frozen 5
  have V3 := Lib.hid (show VRow (w2.setCell ⟨cb, 5, none⟩ (.int .i64 20)) cb 24 (cellsI .i64 cT) from V2.out.set 5 (.int .i64 20))
  have B3 := Lib.hid (B2.out.setCell (p := ⟨cb, 5, none⟩) HC.out (.int .i64 20))
  go_upto_region 3 with fail
  clear c5 f5 B1 B2 V2
  generalize w2.setCell ⟨cb, 5, none⟩ (.int .i64 20) = w3 at *
  have V4 := Lib.hid ((VRow.new w3 [.int .i64 0, .int .i64 0, .int .i64 0, .int .i64 0, .int .i64 0, .int .i64 0, .int .i64 0, .int .i64 0, .int .i64 0, .int .i64 0, .int .i64 0, .int .i64 0, .int .i64 0, .int .i64 0, .int .i64 0, .int .i64 0, .int .i64 0, .int .i64 0, .int .i64 0, .int .i64 0, .int .i64 0, .int .i64 0, .int .i64 0, .int .i64 0, .int .i64 0, .int .i64 0, .int .i64 0, .int .i64 0, .int .i64 0, .int .i64 0, .int .i64 0, .int .i64 0, .int .i64 0, .int .i64 0, .int .i64 0, .int .i64 0, .int .i64 0, .int .i64 0, .int .i64 0, .int .i64 0, .bool false, .slice none 0 0] 59).put (ptv p1))
  have b4 : Below w3.heap.size w3 ((w3.alloc (.cells #[.int .i64 0, .int .i64 0, .int .i64 0, .int .i64 0, .int .i64 0, .int .i64 0, .int .i64 0, .int .i64 0, .int .i64 0, .int .i64 0, .int .i64 0, .int .i64 0, .int .i64 0, .int .i64 0, .int .i64 0, .int .i64 0, .int .i64 0, .int .i64 0, .int .i64 0, .int .i64 0, .int .i64 0, .int .i64 0, .int .i64 0, .int .i64 0, .int .i64 0, .int .i64 0, .int .i64 0, .int .i64 0, .int .i64 0, .int .i64 0, .int .i64 0, .int .i64 0, .int .i64 0, .int .i64 0, .int .i64 0, .int .i64 0, .int .i64 0, .int .i64 0, .int .i64 0, .int .i64 0, .bool false, .slice none 0 0] 59)).setRow w3.heap.size (ptv p1).toArray) := Below.put ((Below.refl _ w3).alloc (Nat.le_refl _) _) (Nat.le_refl _) _
  have B4 := Lib.hid (grow B3.out b4)
  have V5 := Lib.hid (V3.out.below b4 V3.out.lt)
  go_upto_region 4 with (first
    | ((with_reducible show wpList _ _ _ (⟨some 22, _, _, _, _, _⟩ :: _) _ _); refine wpList_buildTo rfl _ _ rfl (ptv p1).toArray (by kernel_rfl) ?_)
    | ((with_reducible show wpList _ _ _ (⟨none, .store _ (.tmp 2) _, _, _, _, _⟩ :: _) _ _); refine VB.store rfl _ _ rfl w3.heap.size (ptv p1) rfl rfl (VRow.new w3 [.int .i64 0, .int .i64 0, .int .i64 0, .int .i64 0, .int .i64 0, .int .i64 0, .int .i64 0, .int .i64 0, .int .i64 0, .int .i64 0, .int .i64 0, .int .i64 0, .int .i64 0, .int .i64 0, .int .i64 0, .int .i64 0, .int .i64 0, .int .i64 0, .int .i64 0, .int .i64 0, .int .i64 0, .int .i64 0, .int .i64 0, .int .i64 0, .int .i64 0, .int .i64 0, .int .i64 0, .int .i64 0, .int .i64 0, .int .i64 0, .int .i64 0, .int .i64 0, .int .i64 0, .int .i64 0, .int .i64 0, .int .i64 0, .int .i64 0, .int .i64 0, .int .i64 0, .int .i64 0, .bool false, .slice none 0 0] 59) SP.out LP.out HPA.out ?_))
  clear V3 B3 b4
  generalize (w3.alloc (.cells #[.int .i64 0, .int .i64 0, .int .i64 0, .int .i64 0, .int .i64 0, .int .i64 0, .int .i64 0, .int .i64 0, .int .i64 0, .int .i64 0, .int .i64 0, .int .i64 0, .int .i64 0, .int .i64 0, .int .i64 0, .int .i64 0, .int .i64 0, .int .i64 0, .int .i64 0, .int .i64 0, .int .i64 0, .int .i64 0, .int .i64 0, .int .i64 0, .int .i64 0, .int .i64 0, .int .i64 0, .int .i64 0, .int .i64 0, .int .i64 0, .int .i64 0, .int .i64 0, .int .i64 0, .int .i64 0, .int .i64 0, .int .i64 0, .int .i64 0, .int .i64 0, .int .i64 0, .int .i64 0, .bool false, .slice none 0 0] 59)).setRow w3.heap.size (ptv p1).toArray = w4 at *
  generalize w3.heap.size = pb at *
  simp only [Act.put]
  have SQ := Lib.hid (show (Try.prog.info? 27).map (·.size) = some (scv (sS 2 2) none 2).length from SS.out none)
  have Z29 := Lib.hid (show ([.int .i64 0, .int .i64 0, .int .i64 0, .int .i64 0, .int .i64 0, .int .i64 0, .int .i64 0, .int .i64 0, .int .i64 0, .int .i64 0, .int .i64 0, .int .i64 0, .int .i64 0, .int .i64 0, .int .i64 0, .int .i64 0, .int .i64 0, .int .i64 0, .int .i64 0, .int .i64 0, .int .i64 0, .int .i64 0, .int .i64 0, .int .i64 0, .int .i64 0, .int .i64 0, .int .i64 0, .int .i64 0, .slice none 0 0] : List Value).length = (scv (sS 2 2) none 2).length by rw [scv_len (sS_len 2 2)]; rfl)
  have ZA := Lib.hid (fun a => scv_all (s := sS 2 2) (a := a) (cap := 2))
  have bL := below_new w4 (ptv p1 ++ ptv p1).toArray 59
  have V6 := Lib.hid (VRow.new w4 (ptv p1 ++ ptv p1) 59)
  have B6 := Lib.hid (grow B4.out bL)
  have b7 : Below (w4.alloc (.cells (ptv p1 ++ ptv p1).toArray 59)).heap.size (w4.alloc (.cells (ptv p1 ++ ptv p1).toArray 59)) (((w4.alloc (.cells (ptv p1 ++ ptv p1).toArray 59)).alloc (.cells #[.int .i64 0, .int .i64 0, .int .i64 0, .int .i64 0, .int .i64 0, .int .i64 0, .int .i64 0, .int .i64 0, .int .i64 0, .int .i64 0, .int .i64 0, .int .i64 0, .int .i64 0, .int .i64 0, .int .i64 0, .int .i64 0, .int .i64 0, .int .i64 0, .int .i64 0, .int .i64 0, .int .i64 0, .int .i64 0, .int .i64 0, .int .i64 0, .int .i64 0, .int .i64 0, .int .i64 0, .int .i64 0, .slice none 0 0] 27)).setRow (w4.heap.size + 1) (scv (sS 2 2) (some ⟨w4.heap.size, 0, none⟩) 2).toArray) :=
    Below.put ((Below.refl _ _).alloc (Nat.le_refl _) _) (by rw [World.size_alloc]; exact Nat.le_refl _) _
  have X7 := Lib.hid (show At (((w4.alloc (.cells (ptv p1 ++ ptv p1).toArray 59)).alloc (.cells #[.int .i64 0, .int .i64 0, .int .i64 0, .int .i64 0, .int .i64 0, .int .i64 0, .int .i64 0, .int .i64 0, .int .i64 0, .int .i64 0, .int .i64 0, .int .i64 0, .int .i64 0, .int .i64 0, .int .i64 0, .int .i64 0, .int .i64 0, .int .i64 0, .int .i64 0, .int .i64 0, .int .i64 0, .int .i64 0, .int .i64 0, .int .i64 0, .int .i64 0, .int .i64 0, .int .i64 0, .int .i64 0, .slice none 0 0] 27)).setRow (w4.heap.size + 1) (scv (sS 2 2) (some ⟨w4.heap.size, 0, none⟩) 2).toArray) (w4.heap.size + 1) (sS 2 2) (some ⟨w4.heap.size, 0, none⟩) 2 from
    ⟨by have := (VRow.new (w4.alloc (.cells (ptv p1 ++ ptv p1).toArray 59)) [.int .i64 0, .int .i64 0, .int .i64 0, .int .i64 0, .int .i64 0, .int .i64 0, .int .i64 0, .int .i64 0, .int .i64 0, .int .i64 0, .int .i64 0, .int .i64 0, .int .i64 0, .int .i64 0, .int .i64 0, .int .i64 0, .int .i64 0, .int .i64 0, .int .i64 0, .int .i64 0, .int .i64 0, .int .i64 0, .int .i64 0, .int .i64 0, .int .i64 0, .int .i64 0, .int .i64 0, .int .i64 0, .slice none 0 0] 27).put (scv (sS 2 2) (some ⟨w4.heap.size, 0, none⟩) 2); rw [World.size_alloc] at this; exact this, (ps_at V6.out 2 2).below b7, sS_len 2 2⟩)
  have B7 := Lib.hid (grow B6.out b7)
  have VN := Lib.hid (show VRow ((w4.alloc (.cells (ptv p1 ++ ptv p1).toArray 59)).alloc (.cells #[.int .i64 0, .int .i64 0, .int .i64 0, .int .i64 0, .int .i64 0, .int .i64 0, .int .i64 0, .int .i64 0, .int .i64 0, .int .i64 0, .int .i64 0, .int .i64 0, .int .i64 0, .int .i64 0, .int .i64 0, .int .i64 0, .int .i64 0, .int .i64 0, .int .i64 0, .int .i64 0, .int .i64 0, .int .i64 0, .int .i64 0, .int .i64 0, .int .i64 0, .int .i64 0, .int .i64 0, .int .i64 0, .slice none 0 0] 27)) (w4.heap.size + 1) 27 [.int .i64 0, .int .i64 0, .int .i64 0, .int .i64 0, .int .i64 0, .int .i64 0, .int .i64 0, .int .i64 0, .int .i64 0, .int .i64 0, .int .i64 0, .int .i64 0, .int .i64 0, .int .i64 0, .int .i64 0, .int .i64 0, .int .i64 0, .int .i64 0, .int .i64 0, .int .i64 0, .int .i64 0, .int .i64 0, .int .i64 0, .int .i64 0, .int .i64 0, .int .i64 0, .int .i64 0, .int .i64 0, .slice none 0 0] by have := VRow.new (w4.alloc (.cells (ptv p1 ++ ptv p1).toArray 59)) [.int .i64 0, .int .i64 0, .int .i64 0, .int .i64 0, .int .i64 0, .int .i64 0, .int .i64 0, .int .i64 0, .int .i64 0, .int .i64 0, .int .i64 0, .int .i64 0, .int .i64 0, .int .i64 0, .int .i64 0, .int .i64 0, .int .i64 0, .int .i64 0, .int .i64 0, .int .i64 0, .int .i64 0, .int .i64 0, .int .i64 0, .int .i64 0, .int .i64 0, .int .i64 0, .int .i64 0, .int .i64 0, .slice none 0 0] 27; rw [World.size_alloc] at this; exact this)
  have HL := Lib.hid (show w.heap.size ≤ w4.heap.size from B4.out.size)
  have b7' := b7
  clear bL b7
  go_upto_region 5 with (first
    | ((with_reducible show wpList _ _ _ (⟨some 23, _, _, _, _, _⟩ :: _) _ _); refine VB.loaded rfl _ rfl cb rfl V5.out Try.underlying24 rfl ST.out ?_)
    | ((with_reducible show wpList _ _ _ (⟨some 25, _, _, _, _, _⟩ :: _) _ _); refine VB.loaded rfl _ rfl pb rfl V4.out Try.underlying59 rfl SP.out ?_)
    | ((with_reducible show wpList _ _ _ (⟨some 26, _, _, _, _, _⟩ :: _) _ _); refine VB.loaded rfl _ rfl pb rfl V4.out Try.underlying59 rfl SP.out ?_)
    | ((with_reducible show wpList _ _ _ (⟨some 27, _, _, _, _, _⟩ :: _) _ _); refine Great.wpList_buildSliceTo rfl _ 59 _ _ rfl w4.heap.size rfl _ rfl Try.underlying25 (ptv p1 ++ ptv p1).toArray (by kernel_rfl) ?_)
    | ((with_reducible show wpList _ _ _ (⟨some 28, _, _, _, _, _⟩ :: _) _ _); refine wpList_buildTo rfl _ _ rfl (scv (sS 2 2) (some ⟨w4.heap.size, 0, none⟩) 2).toArray (by kernel_rfl) ?_)
    | ((with_reducible show wpList _ _ _ (⟨none, .store _ (.tmp 3) _, _, _, _, _⟩ :: _) _ _); refine VB.store rfl _ _ rfl (w4.heap.size + 1) (scv (sS 2 2) (some ⟨w4.heap.size, 0, none⟩) 2) rfl rfl VN.out SQ.out Z29.out (ZA.out _) ?_))
  simp only [Act.put]
  have V7 := Lib.hid (V6.out.below b7' V6.out.lt)
  clear b7' VN V4 V5 V6 B4 B6 SC ST SP LP HPA SQ Z29 ZA
  generalize ((w4.alloc (.cells (ptv p1 ++ ptv p1).toArray 59)).alloc (.cells #[.int .i64 0, .int .i64 0, .int .i64 0, .int .i64 0, .int .i64 0, .int .i64 0, .int .i64 0, .int .i64 0, .int .i64 0, .int .i64 0, .int .i64 0, .int .i64 0, .int .i64 0, .int .i64 0, .int .i64 0, .int .i64 0, .int .i64 0, .int .i64 0, .int .i64 0, .int .i64 0, .int .i64 0, .int .i64 0, .int .i64 0, .int .i64 0, .int .i64 0, .int .i64 0, .int .i64 0, .int .i64 0, .slice none 0 0] 27)).setRow (w4.heap.size + 1) (scv (sS 2 2) (some ⟨w4.heap.size, 0, none⟩) 2).toArray = w7 at *
  generalize hsb : w4.heap.size + 1 = sb at *
  have HSB := Lib.hid (show w.heap.size ≤ sb by have := HL.out; omega)
  have NL := Lib.hid (show w4.heap.size ≠ sb by omega)
  generalize w4.heap.size = lb at *
  clear hsb HL
  go_wp2_with ((with_reducible show wpList _ _ _ (⟨some 30, _, _, _, _, _⟩ :: _) _ _); refine VB.loaded rfl _ rfl sb rfl X7.out.row Try.underlying27 rfl (SS.out _) ?_)
  refine (CC _ _ X7.out.ps).mono ?_; rintro e w8 ⟨gl, T, rfl, F8⟩
  have X8 := Lib.hid (X7.out.on F8.below)
  have V8 := Lib.hid (V7.out.below F8.below V7.out.lt)
  have B8 := Lib.hid (grow B7.out F8.below)
  have NG := Lib.hid (show gl ≠ sb by have := X7.out.row.lt; have := F8.ge; omega)
  have C8 := Lib.hid F8.row
  have G8 := Lib.hid F8.good
  clear F8 X7 V7 B7 CC
  go_wp2_with ((with_reducible show wpList _ _ _ (⟨some 35, _, _, _, _, _⟩ :: _) _ _); refine VB.loaded rfl _ rfl sb rfl X8.out.row Try.underlying27 rfl (SS.out _) ?_)
  refine (CR _ _ X8.out.ps).mono ?_; rintro e w9 ⟨rfl, b9⟩
  have X9 := Lib.hid (X8.out.on b9)
  have V9 := Lib.hid (V8.out.below b9 V8.out.lt)
  have B9 := Lib.hid (grow B8.out b9)
  have C9 := Lib.hid (C8.out.below b9 C8.out.lt)
  have G9 := Lib.hid ((G8.out 4 (by decide)).on b9)
  clear b9 X8 V8 B8 C8 CR
  obtain ⟨hr, hc⟩ := sS_ok.right (i := 1) (k := 0) (by decide) (by decide) (by decide)
  have g := G9.out
  rw [show cis (sS 2 2) 8 4 = true from rfl, show cby (sS 2 2) 8 4 = Fm.enc ((0 : Nat) : Int) (sq (sS 2 2) 1 0) (vs (sS 2 2) 1 0) from rfl] at g
  have CD := Lib.hid (fun W (h : IntsAt .u8 W (T 4).a (Fm.enc ((0 : Nat) : Int) (sq (sS 2 2) 1 0) (vs (sS 2 2) 1 0))) => Fm.dec_any 0 true (T 4).a (T 4).cap (Fm.enc ((0 : Nat) : Int) (sq (sS 2 2) 1 0) (vs (sS 2 2) 1 0)) W g.cap Fm.enc_bytes h)
  unfold Fm.RetFR at CD
  rw [show Fm.dec 0 true (Fm.enc ((0 : Nat) : Int) (sq (sS 2 2) 1 0) (vs (sS 2 2) 1 0)) = sq (sS 2 2) 1 0 :: vs (sS 2 2) 1 0 from Fm.enc_dec hr hc vs_len, show Fm.rej 0 true (Fm.enc ((0 : Nat) : Int) (sq (sS 2 2) 1 0) (vs (sS 2 2) 1 0)) = 0 from by rw [Fm.enc_rej hr hc vs_len]; rfl,
    show sq (sS 2 2) 1 0 :: vs (sS 2 2) 1 0 = [0, 0, 0, 0, 8, 0, 0, 0, 0] from by kernel_rfl] at CD
  have R4 := Lib.hid (show w9.rangeAt gl 8 [.bool true, .slice (T 4).a (Fm.enc ((0 : Nat) : Int) (sq (sS 2 2) 1 0) (vs (sS 2 2) 1 0)).length (T 4).cap] from fun j v hv => by
    have hj : j < 2 := (List.getElem?_eq_some_iff.1 hv).1
    refine C9.out.cell (8 + j) ?_
    rw [show 8 + j = 2 * 4 + j by omega, cyl_get T (4 * 2) 4 j (by decide) hj]
    unfold s2
    rw [g.eis, g.el]
    exact hv)
  have I9 := Lib.hid g.at_
  clear g G9 hr hc
  generalize (Fm.enc ((0 : Nat) : Int) (sq (sS 2 2) 1 0) (vs (sS 2 2) 1 0)).length = n4 at *
  generalize Fm.enc ((0 : Nat) : Int) (sq (sS 2 2) 1 0) (vs (sS 2 2) 1 0) = l4 at *
  go_wp2_with ((with_reducible show wpList _ _ _ (⟨some 46, _, _, _, _, _⟩ :: _) _ _); refine wpList_load_mid rfl _ _ rfl gl 8 rfl [.bool true, .slice (T 4).a n4 (T 4).cap] _ R4.out Try.underlying44 rfl sizeL ?_)
  refine (CD.out _ I9.out).mono ?_; rintro e w10 ⟨rfl, b10⟩
  have X10 := Lib.hid (X9.out.on b10)
  have V10 := Lib.hid (V9.out.below b10 V9.out.lt)
  have B10 := Lib.hid (grow B9.out b10)
  have C10 := Lib.hid (C9.out.below b10 C9.out.lt)
  clear b10 X9 V9 B9 C9 CD R4 I9
  have HT := Lib.hid (show ((T 2).is = true ∧ (T 2).l = []) ∧ (T 3).is = false from ⟨⟨(G8.out 2 (by decide)).eis.trans rfl, (G8.out 2 (by decide)).el.trans rfl⟩, (G8.out 3 (by decide)).eis.trans rfl⟩)
  clear G8
  have S9 := Lib.hid (size9 (l := [0, 0, 0, 0, 8, 0, 0, 0, 0]) rfl)
  go_upto_region 10 with ((with_reducible show wpList _ _ _ (⟨none, .store _ (.tmp 8) _, _, _, _, _⟩ :: _) _ _); refine VB.store rfl _ _ rfl w10.heap.size (cellsI .i64 [0, 0, 0, 0, 8, 0, 0, 0, 0]) rfl rfl (VRow.new w10 [.int .i64 0, .int .i64 0, .int .i64 0, .int .i64 0, .int .i64 0, .int .i64 0, .int .i64 0, .int .i64 0, .int .i64 0] 52) S9.out rfl (all_oneCell_toArray (cellsI_one _ _)) ?_)
  have b11 : Below w10.heap.size w10 ((w10.alloc (.cells #[.int .i64 0, .int .i64 0, .int .i64 0, .int .i64 0, .int .i64 0, .int .i64 0, .int .i64 0, .int .i64 0, .int .i64 0] 52)).setRow w10.heap.size (cellsI .i64 [0, 0, 0, 0, 8, 0, 0, 0, 0]).toArray) := Below.put ((Below.refl _ w10).alloc (Nat.le_refl _) _) (Nat.le_refl _) _
  have R11 := Lib.hid ((VRow.new w10 [.int .i64 0, .int .i64 0, .int .i64 0, .int .i64 0, .int .i64 0, .int .i64 0, .int .i64 0, .int .i64 0, .int .i64 0] 52).put (cellsI .i64 [0, 0, 0, 0, 8, 0, 0, 0, 0]))
  have X11 := Lib.hid (X10.out.on b11)
  have V11 := Lib.hid (V10.out.below b11 V10.out.lt)
  have B11 := Lib.hid (grow B10.out b11)
  have C11 := Lib.hid (C10.out.below b11 C10.out.lt)
  have NF := Lib.hid (show w10.heap.size ≠ sb by have := X10.out.row.lt; omega)
  clear b11 X10 V10 B10 C10
  generalize (w10.alloc (.cells #[.int .i64 0, .int .i64 0, .int .i64 0, .int .i64 0, .int .i64 0, .int .i64 0, .int .i64 0, .int .i64 0, .int .i64 0] 52)).setRow w10.heap.size (cellsI .i64 [0, 0, 0, 0, 8, 0, 0, 0, 0]).toArray = w11 at *
  generalize w10.heap.size = fb at *
  go_wp2_with ((with_reducible show wpList _ _ _ (⟨some 50, _, _, _, _, _⟩ :: _) _ _); refine VB.loaded rfl _ rfl sb rfl X11.out.row Try.underlying27 rfl (SS.out _) ?_)
  refine (CF _ _ X11.out.ps).mono ?_; rintro e w12 ⟨rfl, b12⟩
  have X12 := Lib.hid (X11.out.on b12)
  have V12 := Lib.hid (V11.out.below b12 V11.out.lt)
  have B12 := Lib.hid (grow B11.out b12)
  have C12 := Lib.hid (C11.out.below b12 C11.out.lt)
  have R12 := Lib.hid (R11.out.below b12 R11.out.lt)
  clear b12 X11 V11 B11 C11 R11 CF
  go_wp2_with ((with_reducible show wpList _ _ _ (⟨some 52, _, _, _, _, _⟩ :: _) _ _); refine VB.loaded rfl _ rfl sb rfl X12.out.row Try.underlying27 rfl (SS.out _) ?_)
  refine (CA2 _ _ X12.out.ps).mono ?_; rintro e w13 ⟨rfl, b13⟩
  have X13 := Lib.hid (X12.out.on b13)
  have V13 := Lib.hid (V12.out.below b13 V12.out.lt)
  have B13 := Lib.hid (grow B12.out b13)
  have C13 := Lib.hid (C12.out.below b13 C12.out.lt)
  have R13 := Lib.hid (R12.out.below b13 R12.out.lt)
  clear b13 X12 V12 B12 C12 R12 CA2
  have c23 := X13.out.odd
  have f23 := X13.out.row.frozen 23
  have V14 := Lib.hid (V13.out.setOther (p := ⟨sb, 23, none⟩) NL.out (.int .i64 (-1)))
  have X14 := Lib.hid (show At (w13.setCell ⟨sb, 23, none⟩ (.int .i64 (-1))) sb (sS 2 (-1)) (some ⟨lb, 0, none⟩) 2 from ⟨by rw [← scv_odd' 2 2 (-1)]; exact X13.out.row.set 23 _, ps_at V14.out 2 (-1), sS_len 2 (-1)⟩)
  have B14 := Lib.hid (B13.out.setCell (p := ⟨sb, 23, none⟩) HSB.out (.int .i64 (-1)))
  have C14 := Lib.hid (C13.out.setOther (p := ⟨sb, 23, none⟩) NG.out (.int .i64 (-1)))
  have R14 := Lib.hid (R13.out.setOther (p := ⟨sb, 23, none⟩) NF.out (.int .i64 (-1)))
  go_upto_region 13 with fail
  clear c23 f23 X13 V13 B13 C13 R13
  generalize w13.setCell ⟨sb, 23, none⟩ (.int .i64 (-1)) = w14 at *
  go_wp2_with ((with_reducible show wpList _ _ _ (⟨some 56, _, _, _, _, _⟩ :: _) _ _); refine VB.loaded rfl _ rfl sb rfl X14.out.row Try.underlying27 rfl (SS.out _) ?_)
  refine (CN _ _ X14.out.ps).mono ?_; rintro e w15 ⟨rfl, b15⟩
  have X15 := Lib.hid (X14.out.on b15)
  have V15 := Lib.hid (V14.out.below b15 V14.out.lt)
  have B15 := Lib.hid (grow B14.out b15)
  have C15 := Lib.hid (C14.out.below b15 C14.out.lt)
  have R15 := Lib.hid (R14.out.below b15 R14.out.lt)
  clear b15 X14 V14 B14 C14 R14 CN
  have c21 := X15.out.e
  have f21 := X15.out.row.frozen 21
  have V16 := Lib.hid (V15.out.setOther (p := ⟨sb, 21, none⟩) NL.out (.int .i64 5))
  have X16 := Lib.hid (show At (w15.setCell ⟨sb, 21, none⟩ (.int .i64 5)) sb (sS 5 (-1)) (some ⟨lb, 0, none⟩) 2 from ⟨by rw [← scv_e' 2 (-1) 5]; exact X15.out.row.set 21 _, ps_at V16.out 5 (-1), sS_len 5 (-1)⟩)
  have B16 := Lib.hid (B15.out.setCell (p := ⟨sb, 21, none⟩) HSB.out (.int .i64 5))
  have C16 := Lib.hid (C15.out.setOther (p := ⟨sb, 21, none⟩) NG.out (.int .i64 5))
  have R16 := Lib.hid (R15.out.setOther (p := ⟨sb, 21, none⟩) NF.out (.int .i64 5))
  go_upto_region 15 with fail
  clear c21 f21 X15 V15 B15 C15 R15
  generalize w15.setCell ⟨sb, 21, none⟩ (.int .i64 5) = w16 at *
  simp only [List.append_eq, List.cons_append, List.nil_append]
  have k0 := R16.out.cell 0 (v := .int .i64 0) rfl
  have k4 := R16.out.cell 4 (v := .int .i64 8) rfl
  have m0 : (cyl 8 T)[4]? = some (.bool true) := by rw [show 4 = 2 * 2 + 0 from rfl, cyl_get T 8 2 0 (by decide) (by decide)]; show some (Value.bool (T 2).is) = _; rw [HT.out.1.1]
  have m1 : (cyl 8 T)[5]? = some (.slice (T 2).a 0 (T 2).cap) := by rw [show 5 = 2 * 2 + 1 from rfl, cyl_get T 8 2 1 (by decide) (by decide)]; show some (Value.slice (T 2).a (T 2).l.length (T 2).cap) = _; rw [HT.out.1.2]; rfl
  have m2 : (cyl 8 T)[6]? = some (.bool false) := by rw [show 6 = 2 * 3 + 0 from rfl, cyl_get T 8 3 0 (by decide) (by decide)]; show some (Value.bool (T 3).is) = _; rw [HT.out.2]
  have g4 := C16.out.cell 4 m0
  have g5 := C16.out.cell 5 m1
  have g6 := C16.out.cell 6 m2
  clear m0 m1 m2 HT
  go_wp2_with ((with_reducible show wpList _ _ _ (⟨some 122, _, _, _, _, _⟩ :: _) _ _); refine loadS rfl _ rfl sb rfl X16.out ?_)
  refine (CA5 _ _ X16.out.ps).mono ?_; rintro e w17 ⟨rfl, b17⟩
  have B17 := Lib.hid (grow B16.out b17)
  clear b17
  go_wp2_with fail
  go_ret
  exact ⟨rfl, B17.out⟩
end Sc
end Go.Proofs.Ytpamegkbhdbheaa
