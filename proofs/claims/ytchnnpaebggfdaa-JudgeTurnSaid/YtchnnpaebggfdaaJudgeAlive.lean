/-
  The live question of layer 23: the program answers it as it must. A contract by walking the Go text. No conditions.
-/
import Derived.Test.YtchnnpaebggfdaaJJudgeLive2
namespace Go.Proofs.Ytchnnpaebggfdaa
set_option maxRecDepth 100000
open Go.ChangeShapes Go.WideShapes Go.ChangeAt Go.RowKit Go.Deep
namespace Jd
open Cf (G CA)
open Sc (Sn Pt Ok PsAt PtOk pt scv ptv Lens At Bd loadS NN far fault cS small_any sizeC)
open Ot (Ou ouc)
open FlowG
theorem forall_cons {α : Type} {p : α → Prop} {x : α} {l : List α} (h : p x) (k : ∀ o ∈ l, p o) : ∀ o ∈ x :: l, p o := by
  intro o ho
  rcases List.mem_cons.1 ho with rfl | ho
  · exact h
  · exact k o ho
/-- What a region has left of the places. -/
theorem act_of {ops : Array Oper} {a a' : Act} {n : Nat} (hn : a'.tmps.size = n) (hd : a'.defers = a.defers) (ho : ∀ t, (∀ (i : Nat) o, ops[i]? = some o → o.dst ≠ some t) → a'.tmps.getD t undef = a.tmps.getD t undef) :
    a' = { tmps := ((List.range n).map fun t => if (ops.toList.any fun o => o.dst == some t) = true then a'.tmps.getD t undef else a.tmps.getD t undef).toArray, defers := a.defers } := by
  obtain ⟨ts, ds⟩ := a'
  simp only at hn hd ho ⊢
  subst hd
  congr 1
  apply Array.ext_getElem?
  intro i
  by_cases hi : i < n
  · simp only [List.getElem?_toArray, List.getElem?_map, List.getElem?_range hi, Option.map_some]
    have h1 : ts[i]? = some (ts.getD i undef) := by
      rw [Array.getD_eq_getD_getElem?, Array.getElem?_eq_getElem (by omega)]; rfl
    rw [h1]
    split
    · rfl
    · rename_i hf
      rw [ho i (fun j o hj he => hf (by rw [List.any_eq_true]; exact ⟨o, by simpa using List.mem_of_getElem? (l := ops.toList) (by simpa using hj), by simp [he]⟩))]
  · rw [Array.getElem?_eq_none (by omega), Array.getElem?_eq_none (by simp; omega)]
def sk5 (t : Nat) : Kd := [.any, .any, .any, .scn, .coms (wa sA lsA) (bads sA lsA 16), .val (.int .i64 0), .any, .any, .any, .any, .any, .any, .any, .any, .any, .any, .any, .any, .any, .any, .any, .pair (wa sA lsA) (bads sA lsA 16) 0, .sag, .val (.agg (ouc (tld 6 3 0)).toArray), .val (.agg (ouc (tld (-6) 3 4)).toArray), .outs (tld 6 3 0) (tld (-6) 3 4), .pair (wa sA lsA) (bads sA lsA 16) 0, .coms (wa sA lsA) (bads sA lsA 16), .val (.int .i64 0)].getD t .any
theorem lit5 : Try.prog.builtSlice 57 2 [(0, .agg (ouc (tld 6 3 0)).toArray), (1, .agg (ouc (tld (-6) 3 4)).toArray)] = some (ouc (tld 6 3 0) ++ ouc (tld (-6) 3 4)).toArray := by kernel_rfl
def sk6 (t : Nat) : Kd := [.any, .any, .any, .scn, .any, .any, .coms (wa sA lsB) (bads sA lsB 16), .val (.int .i64 0), .any, .any, .any, .any, .any, .any, .any, .any, .any, .any, .any, .any, .any, .any, .any, .any, .any, .any, .any, .any, .any, .pair (wa sA lsB) (bads sA lsB 16) 0, .sag, .val (.agg (ouc (tld 7 3 0)).toArray), .val (.agg (ouc (tld 0 3 0)).toArray), .outs (tld 7 3 0) (tld 0 3 0), .pair (wa sA lsB) (bads sA lsB 16) 0, .coms (wa sA lsB) (bads sA lsB 16), .val (.int .i64 0)].getD t .any
theorem lit6 : Try.prog.builtSlice 57 2 [(0, .agg (ouc (tld 7 3 0)).toArray), (1, .agg (ouc (tld 0 3 0)).toArray)] = some (ouc (tld 7 3 0) ++ ouc (tld 0 3 0)).toArray := by kernel_rfl
def sk7 (t : Nat) : Kd := [.any, .any, .any, .scn, .any, .any, .any, .any, .coms (wa sA lsD) (bads sA lsD 16), .val (.int .i64 0), .any, .any, .any, .any, .any, .any, .any, .any, .any, .any, .any, .any, .any, .any, .any, .any, .any, .any, .any, .any, .any, .any, .any, .any, .any, .any, .any, .pair (wa sA lsD) (bads sA lsD 16) 0, .sag, .val (.agg (ouc (tld 0 1 0)).toArray), .val (.agg (ouc (tld 0 7 1)).toArray), .outs (tld 0 1 0) (tld 0 7 1), .pair (wa sA lsD) (bads sA lsD 16) 0, .coms (wa sA lsD) (bads sA lsD 16), .val (.int .i64 0)].getD t .any
theorem lit7 : Try.prog.builtSlice 57 2 [(0, .agg (ouc (tld 0 1 0)).toArray), (1, .agg (ouc (tld 0 7 1)).toArray)] = some (ouc (tld 0 1 0) ++ ouc (tld 0 7 1)).toArray := by kernel_rfl
def skA (t : Nat) : Kd := [.val (.bool true), .any, .any, .scn, .coms (wa sA lsA) [], .val (.int .i64 0), .coms (wa sA lsB) (List.range 16), .val (.int .i64 0), .coms (wa sA lsD) (List.range 16), .val (.int .i64 0), .any, .val (.int .i64 1), .any, .any, .any, .any, .any, .any, .any, .any, .any, .any, .any, .any, .any, .any, .any, .any, .any, .any, .any, .any, .any, .any, .any, .any, .any, .any, .any, .any, .any, .any, .any, .any, .any, .any, .any, .any, .any, .any, .any, .any, .any, .any, .any, .any, .any, .any, .val (.int .i64 0), .val (.bool true), .val (.bool true), .coms (wa sA lsA) [], .val (.int .i64 0), .val (.bool true), .val (.bool true), .val (.bool true), .val (.int .i64 0), .val (.bool true), .val (.bool true), .val (.bool true), .coms (wa sA lsB) (List.range 16), .elm (wa sA lsB) 0 0, .val (.agg #[.int .i64 0, .int .i64 0, .string ⟨#[104, 105, 103, 104]⟩]), .val (.agg #[.int .i64 0, .int .i64 0, .string ⟨#[104, 105, 103, 104]⟩]), .val (.bool true), .val (.bool true), .val (.bool true), .coms (wa sA lsB) (List.range 16), .elm (wa sA lsB) 15 0, .val (.agg #[.int .i64 1, .int .i64 7, .string ⟨#[108, 111, 115, 116]⟩]), .val (.agg #[.int .i64 1, .int .i64 7, .string ⟨#[108, 111, 115, 116]⟩]), .val (.bool true), .val (.bool true), .val (.bool true), .val (.int .i64 0), .val (.bool true), .val (.bool true), .val (.bool true), .coms (wa sA lsD) (List.range 16), .elm (wa sA lsD) 0 0, .elm (wa sA lsD) 0 2, .val (.string ⟨#[111, 117, 116]⟩), .val (.bool true), .val (.bool true), .val (.bool true), .coms (wa sA lsD) (List.range 16), .elm (wa sA lsD) 8 0, .elm (wa sA lsD) 8 2, .val (.string ⟨#[108, 97, 116, 99, 104, 101, 100]⟩), .val (.bool true), .val (.bool true), .val (.bool true), .val (.int .i64 1), .val (.bool true), .val (.bool true), .val (.bool true), .sag, .val (.agg (ouc (tld 6 3 0)).toArray), .val (.agg (ouc (tld (-6) 3 4)).toArray), .outs (tld 6 3 0) (tld (-6) 3 4), .val (.bool true), .val (.bool true), .val (.bool true), .sag, .val (.bool false), .val (.bool true), .val (.bool true), .val (.bool true), .sag, .val (.int .i64 2), .val (.bool true), .val (.bool true), .val (.bool true), .sag, .val (.int .i64 0), .val (.bool true), .val (.bool true)].getD t .any
theorem cB0 : cmc (wa sA lsB) 0 = [.int .i64 0, .int .i64 0, .string ⟨#[104, 105, 103, 104]⟩] := by kernel_rfl
theorem cB15 : cmc (wa sA lsB) 15 = [.int .i64 1, .int .i64 7, .string ⟨#[108, 111, 115, 116]⟩] := by kernel_rfl
theorem bl0 : Try.prog.built 49 [(2, .string ⟨#[104, 105, 103, 104]⟩)] = some #[.int .i64 0, .int .i64 0, .string ⟨#[104, 105, 103, 104]⟩] := by kernel_rfl
theorem bl15 : Try.prog.built 49 [(0, .int .i64 1), (1, .int .i64 7), (2, .string ⟨#[108, 111, 115, 116]⟩)] = some #[.int .i64 1, .int .i64 7, .string ⟨#[108, 111, 115, 116]⟩] := by kernel_rfl
theorem eq0 {d t u : Tmp} {ty : TypeId} {pos : String} {after : Array Edge} {gd : Option (Nat × Bool)} (w : World) : (execOp (fun _ => .agg #[.int .i64 0, .int .i64 0, .string ⟨#[104, 105, 103, 104]⟩]) ⟨some d, .binOp .eql 49 (.tmp t) (.tmp u) 49, ty, pos, after, gd⟩).run Try.prog w = .ok (.value (.bool true)) w := by kernel_rfl
theorem eq15 {d t u : Tmp} {ty : TypeId} {pos : String} {after : Array Edge} {gd : Option (Nat × Bool)} (w : World) : (execOp (fun _ => .agg #[.int .i64 1, .int .i64 7, .string ⟨#[108, 111, 115, 116]⟩]) ⟨some d, .binOp .eql 49 (.tmp t) (.tmp u) 49, ty, pos, after, gd⟩).run Try.prog w = .ok (.value (.bool true)) w := by kernel_rfl
set_option maxRecDepth 100000 in
set_option maxHeartbeats 6400000 in
theorem alive_any (w : World) : Calls Try.prog 7 #[] w fun e w' => e = .returned (.bool true) ∧ Below w.heap.size w w' := by
  have CN := Lib.hid (fun W (a : Option Addr) (h : PsAt W a sA.ps) => all_no sA a 2 none 0 W sA_len h 0 sA_fit0)
  have SC := Lib.hid (sizeC (l := cS) rfl)
  have ST := Lib.hid (sizeC (l := cT) rfl)
  have SP := Lib.hid (Sc.sizeP (p := pA) rfl rfl)
  have LP := Lib.hid (show ([.int .i64 0, .int .i64 0, .int .i64 0, .int .i64 0, .int .i64 0, .int .i64 0, .int .i64 0, .int .i64 0, .int .i64 0, .int .i64 0, .int .i64 0, .int .i64 0, .int .i64 0, .int .i64 0, .int .i64 0, .int .i64 0, .int .i64 0, .int .i64 0, .int .i64 0, .int .i64 0, .int .i64 0, .int .i64 0, .int .i64 0, .int .i64 0, .int .i64 0, .int .i64 0, .int .i64 0, .int .i64 0, .int .i64 0, .int .i64 0, .int .i64 0, .int .i64 0, .int .i64 0, .int .i64 0, .int .i64 0, .int .i64 0, .int .i64 0, .int .i64 0, .int .i64 0, .int .i64 0, .bool false, .slice none 0 0] : List Value).length = (ptv pA).length from rfl)
  have HPA := Lib.hid (Sc.ptv_all (p := pA))
  have SS := Lib.hid (fun a => Sc.sizeS (a := a) (cap := 2) sA_len)
  go_enter Try.func7, Try.ntmps7
  go_wp2_with fail
  refine (small_any _).mono ?_; rintro e w1 ⟨rfl, b1⟩
  have B1 := Lib.hid b1
  clear b1
  go_upto_region 2 with ((with_reducible show wpList _ _ _ (⟨none, .store _ (.tmp 1) _, _, _, _, _⟩ :: _) _ _); refine VB.store rfl _ _ rfl w1.heap.size (cellsI .i64 cS) rfl rfl (VRow.new w1 [.int .i64 0, .int .i64 0, .int .i64 0, .int .i64 0, .int .i64 0, .int .i64 0, .int .i64 0, .int .i64 0, .int .i64 0, .int .i64 0, .int .i64 0, .int .i64 0, .int .i64 0, .int .i64 0, .int .i64 0, .int .i64 0, .int .i64 0, .int .i64 0, .int .i64 0, .int .i64 0, .int .i64 0] 24) SC.out rfl (all_oneCell_toArray (cellsI_one _ _)) ?_)
  simp only [Act.put]
  have V2 := Lib.hid ((VRow.new w1 [.int .i64 0, .int .i64 0, .int .i64 0, .int .i64 0, .int .i64 0, .int .i64 0, .int .i64 0, .int .i64 0, .int .i64 0, .int .i64 0, .int .i64 0, .int .i64 0, .int .i64 0, .int .i64 0, .int .i64 0, .int .i64 0, .int .i64 0, .int .i64 0, .int .i64 0, .int .i64 0, .int .i64 0] 24).put (cellsI .i64 cS))
  have B2 := Lib.hid (grow B1.out (Below.put ((Below.refl _ w1).alloc (Nat.le_refl _) (.cells #[.int .i64 0, .int .i64 0, .int .i64 0, .int .i64 0, .int .i64 0, .int .i64 0, .int .i64 0, .int .i64 0, .int .i64 0, .int .i64 0, .int .i64 0, .int .i64 0, .int .i64 0, .int .i64 0, .int .i64 0, .int .i64 0, .int .i64 0, .int .i64 0, .int .i64 0, .int .i64 0, .int .i64 0] 24)) (Nat.le_refl _) (cellsI .i64 cS).toArray))
  have HC := Lib.hid (show w.heap.size ≤ w1.heap.size from B1.out.size)
  generalize (w1.alloc (.cells #[.int .i64 0, .int .i64 0, .int .i64 0, .int .i64 0, .int .i64 0, .int .i64 0, .int .i64 0, .int .i64 0, .int .i64 0, .int .i64 0, .int .i64 0, .int .i64 0, .int .i64 0, .int .i64 0, .int .i64 0, .int .i64 0, .int .i64 0, .int .i64 0, .int .i64 0, .int .i64 0, .int .i64 0] 24)).setRow w1.heap.size (cellsI .i64 cS).toArray = w2 at *
  generalize w1.heap.size = cb at *
  have c5 := V2.out.cell 5 (v := .int .i64 9) rfl
  have f5 := V2.out.frozen 5
  have V3 := Lib.hid (show VRow (w2.setCell ⟨cb, 5, none⟩ (.int .i64 20)) cb 24 (cellsI .i64 cT) from V2.out.set 5 (.int .i64 20))
  have B3 := Lib.hid (B2.out.setCell (p := ⟨cb, 5, none⟩) HC.out (.int .i64 20))
  go_upto_region 3 with fail
  clear c5 f5 B1 B2 V2
  generalize w2.setCell ⟨cb, 5, none⟩ (.int .i64 20) = w3 at *
  have V4 := Lib.hid ((VRow.new w3 [.int .i64 0, .int .i64 0, .int .i64 0, .int .i64 0, .int .i64 0, .int .i64 0, .int .i64 0, .int .i64 0, .int .i64 0, .int .i64 0, .int .i64 0, .int .i64 0, .int .i64 0, .int .i64 0, .int .i64 0, .int .i64 0, .int .i64 0, .int .i64 0, .int .i64 0, .int .i64 0, .int .i64 0, .int .i64 0, .int .i64 0, .int .i64 0, .int .i64 0, .int .i64 0, .int .i64 0, .int .i64 0, .int .i64 0, .int .i64 0, .int .i64 0, .int .i64 0, .int .i64 0, .int .i64 0, .int .i64 0, .int .i64 0, .int .i64 0, .int .i64 0, .int .i64 0, .int .i64 0, .bool false, .slice none 0 0] 63).put (ptv pA))
  have b4 : Below w3.heap.size w3 ((w3.alloc (.cells #[.int .i64 0, .int .i64 0, .int .i64 0, .int .i64 0, .int .i64 0, .int .i64 0, .int .i64 0, .int .i64 0, .int .i64 0, .int .i64 0, .int .i64 0, .int .i64 0, .int .i64 0, .int .i64 0, .int .i64 0, .int .i64 0, .int .i64 0, .int .i64 0, .int .i64 0, .int .i64 0, .int .i64 0, .int .i64 0, .int .i64 0, .int .i64 0, .int .i64 0, .int .i64 0, .int .i64 0, .int .i64 0, .int .i64 0, .int .i64 0, .int .i64 0, .int .i64 0, .int .i64 0, .int .i64 0, .int .i64 0, .int .i64 0, .int .i64 0, .int .i64 0, .int .i64 0, .int .i64 0, .bool false, .slice none 0 0] 63)).setRow w3.heap.size (ptv pA).toArray) := Below.put ((Below.refl _ w3).alloc (Nat.le_refl _) _) (Nat.le_refl _) _
  have B4 := Lib.hid (grow B3.out b4)
  have V5 := Lib.hid (V3.out.below b4 V3.out.lt)
  go_upto_region 4 with (first
    | ((with_reducible show wpList _ _ _ (⟨some 15, _, _, _, _, _⟩ :: _) _ _); refine Sc.wpList_buildTo rfl _ _ rfl (ptv pA).toArray (by kernel_rfl) ?_)
    | ((with_reducible show wpList _ _ _ (⟨none, .store _ (.tmp 2) _, _, _, _, _⟩ :: _) _ _); refine VB.store rfl _ _ rfl w3.heap.size (ptv pA) rfl rfl (VRow.new w3 [.int .i64 0, .int .i64 0, .int .i64 0, .int .i64 0, .int .i64 0, .int .i64 0, .int .i64 0, .int .i64 0, .int .i64 0, .int .i64 0, .int .i64 0, .int .i64 0, .int .i64 0, .int .i64 0, .int .i64 0, .int .i64 0, .int .i64 0, .int .i64 0, .int .i64 0, .int .i64 0, .int .i64 0, .int .i64 0, .int .i64 0, .int .i64 0, .int .i64 0, .int .i64 0, .int .i64 0, .int .i64 0, .int .i64 0, .int .i64 0, .int .i64 0, .int .i64 0, .int .i64 0, .int .i64 0, .int .i64 0, .int .i64 0, .int .i64 0, .int .i64 0, .int .i64 0, .int .i64 0, .bool false, .slice none 0 0] 63) SP.out LP.out HPA.out ?_))
  clear V3 B3 b4
  generalize (w3.alloc (.cells #[.int .i64 0, .int .i64 0, .int .i64 0, .int .i64 0, .int .i64 0, .int .i64 0, .int .i64 0, .int .i64 0, .int .i64 0, .int .i64 0, .int .i64 0, .int .i64 0, .int .i64 0, .int .i64 0, .int .i64 0, .int .i64 0, .int .i64 0, .int .i64 0, .int .i64 0, .int .i64 0, .int .i64 0, .int .i64 0, .int .i64 0, .int .i64 0, .int .i64 0, .int .i64 0, .int .i64 0, .int .i64 0, .int .i64 0, .int .i64 0, .int .i64 0, .int .i64 0, .int .i64 0, .int .i64 0, .int .i64 0, .int .i64 0, .int .i64 0, .int .i64 0, .int .i64 0, .int .i64 0, .bool false, .slice none 0 0] 63)).setRow w3.heap.size (ptv pA).toArray = w4 at *
  generalize w3.heap.size = pb at *
  simp only [Act.put]
  have SQ := Lib.hid (show (Try.prog.info? 27).map (·.size) = some (scv sA none 2).length from SS.out none)
  have Z29 := Lib.hid (show ([.int .i64 0, .int .i64 0, .int .i64 0, .int .i64 0, .int .i64 0, .int .i64 0, .int .i64 0, .int .i64 0, .int .i64 0, .int .i64 0, .int .i64 0, .int .i64 0, .int .i64 0, .int .i64 0, .int .i64 0, .int .i64 0, .int .i64 0, .int .i64 0, .int .i64 0, .int .i64 0, .int .i64 0, .int .i64 0, .int .i64 0, .int .i64 0, .int .i64 0, .int .i64 0, .int .i64 0, .int .i64 0, .slice none 0 0] : List Value).length = (scv sA none 2).length from rfl)
  have ZA := Lib.hid (fun a => Sc.scv_all (s := sA) (a := a) (cap := 2))
  have bL := Sc.below_new w4 (ptv pA ++ ptv pA).toArray 63
  have V6 := Lib.hid (VRow.new w4 (ptv pA ++ ptv pA) 63)
  have B6 := Lib.hid (grow B4.out bL)
  have b7 : Below (w4.alloc (.cells (ptv pA ++ ptv pA).toArray 63)).heap.size (w4.alloc (.cells (ptv pA ++ ptv pA).toArray 63)) (((w4.alloc (.cells (ptv pA ++ ptv pA).toArray 63)).alloc (.cells #[.int .i64 0, .int .i64 0, .int .i64 0, .int .i64 0, .int .i64 0, .int .i64 0, .int .i64 0, .int .i64 0, .int .i64 0, .int .i64 0, .int .i64 0, .int .i64 0, .int .i64 0, .int .i64 0, .int .i64 0, .int .i64 0, .int .i64 0, .int .i64 0, .int .i64 0, .int .i64 0, .int .i64 0, .int .i64 0, .int .i64 0, .int .i64 0, .int .i64 0, .int .i64 0, .int .i64 0, .int .i64 0, .slice none 0 0] 27)).setRow (w4.heap.size + 1) (scv sA (some ⟨w4.heap.size, 0, none⟩) 2).toArray) :=
    Below.put ((Below.refl _ _).alloc (Nat.le_refl _) _) (by rw [World.size_alloc]; exact Nat.le_refl _) _
  have VN' := VRow.new (w4.alloc (.cells (ptv pA ++ ptv pA).toArray 63)) [.int .i64 0, .int .i64 0, .int .i64 0, .int .i64 0, .int .i64 0, .int .i64 0, .int .i64 0, .int .i64 0, .int .i64 0, .int .i64 0, .int .i64 0, .int .i64 0, .int .i64 0, .int .i64 0, .int .i64 0, .int .i64 0, .int .i64 0, .int .i64 0, .int .i64 0, .int .i64 0, .int .i64 0, .int .i64 0, .int .i64 0, .int .i64 0, .int .i64 0, .int .i64 0, .int .i64 0, .int .i64 0, .slice none 0 0] 27
  rw [World.size_alloc] at VN'
  have X7 := Lib.hid (show At (((w4.alloc (.cells (ptv pA ++ ptv pA).toArray 63)).alloc (.cells #[.int .i64 0, .int .i64 0, .int .i64 0, .int .i64 0, .int .i64 0, .int .i64 0, .int .i64 0, .int .i64 0, .int .i64 0, .int .i64 0, .int .i64 0, .int .i64 0, .int .i64 0, .int .i64 0, .int .i64 0, .int .i64 0, .int .i64 0, .int .i64 0, .int .i64 0, .int .i64 0, .int .i64 0, .int .i64 0, .int .i64 0, .int .i64 0, .int .i64 0, .int .i64 0, .int .i64 0, .int .i64 0, .slice none 0 0] 27)).setRow (w4.heap.size + 1) (scv sA (some ⟨w4.heap.size, 0, none⟩) 2).toArray) (w4.heap.size + 1) sA (some ⟨w4.heap.size, 0, none⟩) 2 from
    ⟨VN'.put _, ps_at (V6.out.below b7 V6.out.lt), sA_len⟩)
  have VN := Lib.hid VN'
  have B7 := Lib.hid (grow B6.out b7)
  clear bL b7 VN'
  go_upto_region 5 with (first
    | ((with_reducible show wpList _ _ _ (⟨some 16, _, _, _, _, _⟩ :: _) _ _); refine VB.loaded rfl _ rfl cb rfl V5.out Try.underlying24 rfl ST.out ?_)
    | ((with_reducible show wpList _ _ _ (⟨some 17, _, _, _, _, _⟩ :: _) _ _); refine VB.loaded rfl _ rfl pb rfl V4.out Try.underlying63 rfl SP.out ?_)
    | ((with_reducible show wpList _ _ _ (⟨some 18, _, _, _, _, _⟩ :: _) _ _); refine VB.loaded rfl _ rfl pb rfl V4.out Try.underlying63 rfl SP.out ?_)
    | ((with_reducible show wpList _ _ _ (⟨some 19, _, _, _, _, _⟩ :: _) _ _); refine Great.wpList_buildSliceTo rfl _ 63 _ _ rfl w4.heap.size rfl _ rfl Try.underlying25 (ptv pA ++ ptv pA).toArray (by kernel_rfl) ?_)
    | ((with_reducible show wpList _ _ _ (⟨some 20, _, _, _, _, _⟩ :: _) _ _); refine Sc.wpList_buildTo rfl _ _ rfl (scv sA (some ⟨w4.heap.size, 0, none⟩) 2).toArray (by kernel_rfl) ?_)
    | ((with_reducible show wpList _ _ _ (⟨none, .store _ (.tmp 3) _, _, _, _, _⟩ :: _) _ _); refine VB.store rfl _ _ rfl (w4.heap.size + 1) (scv sA (some ⟨w4.heap.size, 0, none⟩) 2) rfl rfl VN.out SQ.out Z29.out (ZA.out _) ?_))
  simp only [Act.put]
  clear VN V4 V5 V6 B4 B6 SC ST SP LP HPA SQ Z29 ZA
  generalize ((w4.alloc (.cells (ptv pA ++ ptv pA).toArray 63)).alloc (.cells #[.int .i64 0, .int .i64 0, .int .i64 0, .int .i64 0, .int .i64 0, .int .i64 0, .int .i64 0, .int .i64 0, .int .i64 0, .int .i64 0, .int .i64 0, .int .i64 0, .int .i64 0, .int .i64 0, .int .i64 0, .int .i64 0, .int .i64 0, .int .i64 0, .int .i64 0, .int .i64 0, .int .i64 0, .int .i64 0, .int .i64 0, .int .i64 0, .int .i64 0, .int .i64 0, .int .i64 0, .int .i64 0, .slice none 0 0] 27)).setRow (w4.heap.size + 1) (scv sA (some ⟨w4.heap.size, 0, none⟩) 2).toArray = w7 at *
  generalize w4.heap.size + 1 = sb at *
  generalize w4.heap.size = lb at *
  generalize (ptv pA).toArray = pav at *
  generalize (cellsI .i64 cT).toArray = ctv at *
  generalize (cellsI .i64 cS).toArray = csv at *
  refine wp_region_flow (LV sk5 sb lb) [3] 127 rfl (by kernel_rfl) LV.on rfl ?_ ?_ ?_ ?_
  · intro t ht
    obtain rfl : t = 3 := by simpa using ht
    exact ⟨rfl, X7.out⟩
  · repeat (refine forall_cons ?_ ?_; focus (intro j b h; cases h))
    intro o ho; cases ho
  · refine forall_cons (step_loadS rfl rfl) ?_
    refine forall_cons (step_told rfl) ?_
    refine forall_cons (step_told rfl) ?_
    refine forall_cons (step_lit (tlk_ok _ _ _ 8) (tlk_ok _ _ _ 8) rfl rfl lit5 rfl) ?_
    refine forall_cons (step_all rfl rfl rfl) ?_
    refine forall_cons (step_move rfl) ?_
    refine forall_cons (step_ext0 rfl rfl) ?_
    refine forall_cons (step_ext1 rfl rfl) ?_
    refine forall_cons (step_assign rfl) ?_
    refine forall_cons (step_assign rfl) ?_
    intro o ho; cases ho
  intro a' w8 hb hs hdf hold hv
  have ha : a' = { tmps := #[.bool false, .pointer (some ⟨cb, 0, none⟩), .pointer (some ⟨pb, 0, none⟩), .pointer (some ⟨sb, 0, none⟩), a'.tmps.getD 4 undef, a'.tmps.getD 5 undef, undef, undef, undef, undef, undef, undef, .agg csv, .pointer (some ⟨cb, 5, none⟩), .agg #[.bool true, .slice none 0 0], .agg pav, .agg ctv, .agg pav, .agg pav, .slice (some ⟨lb, 0, none⟩) 2 2, .agg (scv sA (some ⟨lb, 0, none⟩) 2).toArray, a'.tmps.getD 21 undef, a'.tmps.getD 22 undef, a'.tmps.getD 23 undef, a'.tmps.getD 24 undef, a'.tmps.getD 25 undef, a'.tmps.getD 26 undef, a'.tmps.getD 27 undef, a'.tmps.getD 28 undef, undef, undef, undef, undef, undef, undef, undef, undef, undef, undef, undef, undef, undef, undef, undef, undef, undef, undef, undef, undef, undef, undef, undef, undef, undef, undef, undef, undef, undef, undef, undef, undef, undef, undef, undef, undef, undef, undef, undef, undef, undef, undef, undef, undef, undef, undef, undef, undef, undef, undef, undef, undef, undef, undef, undef, undef, undef, undef, undef, undef, undef, undef, undef, undef, undef, undef, undef, undef, undef, undef, undef, undef, undef, undef, undef, undef, undef, undef, undef, undef, undef, undef, undef, undef, undef, undef, undef, undef, undef, undef, undef, undef, undef, undef, undef, undef, undef, undef], defers := [] } := (act_of hs hdf hold).trans (by kernel_rfl)
  obtain ⟨y4, c4, e4, h4⟩ : ∃ a cap, a'.tmps.getD 4 undef = .slice a (bads sA lsA 16).length cap ∧ CmAt w8 a (wa sA lsA) (bads sA lsA 16) := hv 8 _ 4 rfl rfl
  have e5 : a'.tmps.getD 5 undef = .int .i64 0 := hv 9 _ 5 rfl rfl
  rw [show bads sA lsA 16 = [] from bA] at e4 h4
  rw [ha, e4, e5]
  have H4 := Lib.hid h4
  have X8 := Lib.hid (X7.out.on hb)
  have B8 := Lib.hid (grow B7.out hb)
  clear ha hv hold hdf hs hb e4 e5 h4 X7 B7
  generalize a'.tmps.getD 21 undef = x21 at *
  generalize a'.tmps.getD 22 undef = x22 at *
  generalize a'.tmps.getD 23 undef = x23 at *
  generalize a'.tmps.getD 24 undef = x24 at *
  generalize a'.tmps.getD 25 undef = x25 at *
  generalize a'.tmps.getD 26 undef = x26 at *
  generalize a'.tmps.getD 27 undef = x27 at *
  generalize a'.tmps.getD 28 undef = x28 at *
  clear a'
  rw [show ([] : List Nat).length = 0 from rfl]
  go_upto_region 6 with fail
  refine wp_region_flow (LV sk6 sb lb) [3] 127 rfl (by kernel_rfl) LV.on rfl ?_ ?_ ?_ ?_
  · intro t ht
    obtain rfl : t = 3 := by simpa using ht
    exact ⟨rfl, X8.out⟩
  · repeat (refine forall_cons ?_ ?_; focus (intro j b h; cases h))
    intro o ho; cases ho
  · refine forall_cons (step_loadS rfl rfl) ?_
    refine forall_cons (step_told rfl) ?_
    refine forall_cons (step_told rfl) ?_
    refine forall_cons (step_lit (tlk_ok _ _ _ 8) (tlk_ok _ _ _ 8) rfl rfl lit6 rfl) ?_
    refine forall_cons (step_all rfl rfl rfl) ?_
    refine forall_cons (step_move rfl) ?_
    refine forall_cons (step_ext0 rfl rfl) ?_
    refine forall_cons (step_ext1 rfl rfl) ?_
    refine forall_cons (step_assign rfl) ?_
    refine forall_cons (step_assign rfl) ?_
    intro o ho; cases ho
  intro a' w9 hb hs hdf hold hv
  have ha : a' = { tmps := #[.bool false, .pointer (some ⟨cb, 0, none⟩), .pointer (some ⟨pb, 0, none⟩), .pointer (some ⟨sb, 0, none⟩), .slice y4 0 c4, .int .i64 0, a'.tmps.getD 6 undef, a'.tmps.getD 7 undef, undef, undef, undef, undef, .agg csv, .pointer (some ⟨cb, 5, none⟩), .agg #[.bool true, .slice none 0 0], .agg pav, .agg ctv, .agg pav, .agg pav, .slice (some ⟨lb, 0, none⟩) 2 2, .agg (scv sA (some ⟨lb, 0, none⟩) 2).toArray, x21, x22, x23, x24, x25, x26, x27, x28, a'.tmps.getD 29 undef, a'.tmps.getD 30 undef, a'.tmps.getD 31 undef, a'.tmps.getD 32 undef, a'.tmps.getD 33 undef, a'.tmps.getD 34 undef, a'.tmps.getD 35 undef, a'.tmps.getD 36 undef, undef, undef, undef, undef, undef, undef, undef, undef, undef, undef, undef, undef, undef, undef, undef, undef, undef, undef, undef, undef, undef, undef, undef, undef, undef, undef, undef, undef, undef, undef, undef, undef, undef, undef, undef, undef, undef, undef, undef, undef, undef, undef, undef, undef, undef, undef, undef, undef, undef, undef, undef, undef, undef, undef, undef, undef, undef, undef, undef, undef, undef, undef, undef, undef, undef, undef, undef, undef, undef, undef, undef, undef, undef, undef, undef, undef, undef, undef, undef, undef, undef, undef, undef, undef, undef, undef, undef, undef, undef, undef], defers := [] } := (act_of hs hdf hold).trans (by kernel_rfl)
  obtain ⟨y6, c6, e6, h6⟩ : ∃ a cap, a'.tmps.getD 6 undef = .slice a (bads sA lsB 16).length cap ∧ CmAt w9 a (wa sA lsB) (bads sA lsB 16) := hv 8 _ 6 rfl rfl
  have e7 : a'.tmps.getD 7 undef = .int .i64 0 := hv 9 _ 7 rfl rfl
  rw [show bads sA lsB 16 = List.range 16 from bB] at e6 h6
  rw [ha, e6, e7]
  have H6 := Lib.hid h6
  have X9 := Lib.hid (X8.out.on hb)
  have B9 := Lib.hid (grow B8.out hb)
  have H4_1 := Lib.hid (H4.out.on hb)
  clear ha hv hold hdf hs hb e6 e7 h6 X8 B8
  generalize a'.tmps.getD 29 undef = x29 at *
  generalize a'.tmps.getD 30 undef = x30 at *
  generalize a'.tmps.getD 31 undef = x31 at *
  generalize a'.tmps.getD 32 undef = x32 at *
  generalize a'.tmps.getD 33 undef = x33 at *
  generalize a'.tmps.getD 34 undef = x34 at *
  generalize a'.tmps.getD 35 undef = x35 at *
  generalize a'.tmps.getD 36 undef = x36 at *
  clear a'
  rw [show (List.range 16).length = 16 from rfl]
  go_upto_region 7 with fail
  refine wp_region_flow (LV sk7 sb lb) [3] 127 rfl (by kernel_rfl) LV.on rfl ?_ ?_ ?_ ?_
  · intro t ht
    obtain rfl : t = 3 := by simpa using ht
    exact ⟨rfl, X9.out⟩
  · repeat (refine forall_cons ?_ ?_; focus (intro j b h; cases h))
    intro o ho; cases ho
  · refine forall_cons (step_loadS rfl rfl) ?_
    refine forall_cons (step_told rfl) ?_
    refine forall_cons (step_told rfl) ?_
    refine forall_cons (step_lit (tlk_ok _ _ _ 8) (tlk_ok _ _ _ 8) rfl rfl lit7 rfl) ?_
    refine forall_cons (step_all rfl rfl rfl) ?_
    refine forall_cons (step_move rfl) ?_
    refine forall_cons (step_ext0 rfl rfl) ?_
    refine forall_cons (step_ext1 rfl rfl) ?_
    refine forall_cons (step_assign rfl) ?_
    refine forall_cons (step_assign rfl) ?_
    intro o ho; cases ho
  intro a' w10 hb hs hdf hold hv
  have ha : a' = { tmps := #[.bool false, .pointer (some ⟨cb, 0, none⟩), .pointer (some ⟨pb, 0, none⟩), .pointer (some ⟨sb, 0, none⟩), .slice y4 0 c4, .int .i64 0, .slice y6 16 c6, .int .i64 0, a'.tmps.getD 8 undef, a'.tmps.getD 9 undef, undef, undef, .agg csv, .pointer (some ⟨cb, 5, none⟩), .agg #[.bool true, .slice none 0 0], .agg pav, .agg ctv, .agg pav, .agg pav, .slice (some ⟨lb, 0, none⟩) 2 2, .agg (scv sA (some ⟨lb, 0, none⟩) 2).toArray, x21, x22, x23, x24, x25, x26, x27, x28, x29, x30, x31, x32, x33, x34, x35, x36, a'.tmps.getD 37 undef, a'.tmps.getD 38 undef, a'.tmps.getD 39 undef, a'.tmps.getD 40 undef, a'.tmps.getD 41 undef, a'.tmps.getD 42 undef, a'.tmps.getD 43 undef, a'.tmps.getD 44 undef, undef, undef, undef, undef, undef, undef, undef, undef, undef, undef, undef, undef, undef, undef, undef, undef, undef, undef, undef, undef, undef, undef, undef, undef, undef, undef, undef, undef, undef, undef, undef, undef, undef, undef, undef, undef, undef, undef, undef, undef, undef, undef, undef, undef, undef, undef, undef, undef, undef, undef, undef, undef, undef, undef, undef, undef, undef, undef, undef, undef, undef, undef, undef, undef, undef, undef, undef, undef, undef, undef, undef, undef, undef, undef, undef, undef, undef, undef, undef, undef, undef, undef], defers := [] } := (act_of hs hdf hold).trans (by kernel_rfl)
  obtain ⟨y8, c8, e8, h8⟩ : ∃ a cap, a'.tmps.getD 8 undef = .slice a (bads sA lsD 16).length cap ∧ CmAt w10 a (wa sA lsD) (bads sA lsD 16) := hv 8 _ 8 rfl rfl
  have e9 : a'.tmps.getD 9 undef = .int .i64 0 := hv 9 _ 9 rfl rfl
  rw [show bads sA lsD 16 = List.range 16 from bD] at e8 h8
  rw [ha, e8, e9]
  have H8 := Lib.hid h8
  have X10 := Lib.hid (X9.out.on hb)
  have B10 := Lib.hid (grow B9.out hb)
  have H4_2 := Lib.hid (H4_1.out.on hb)
  have H6_2 := Lib.hid (H6.out.on hb)
  clear ha hv hold hdf hs hb e8 e9 h8 X9 B9
  generalize a'.tmps.getD 37 undef = x37 at *
  generalize a'.tmps.getD 38 undef = x38 at *
  generalize a'.tmps.getD 39 undef = x39 at *
  generalize a'.tmps.getD 40 undef = x40 at *
  generalize a'.tmps.getD 41 undef = x41 at *
  generalize a'.tmps.getD 42 undef = x42 at *
  generalize a'.tmps.getD 43 undef = x43 at *
  generalize a'.tmps.getD 44 undef = x44 at *
  clear a'
  rw [show (List.range 16).length = 16 from rfl]
  go_wp2_with ((with_reducible show wpList _ _ _ (⟨some 46, _, _, _, _, _⟩ :: _) _ _); refine VB.loaded rfl _ rfl sb rfl X10.out.row Try.underlying27 rfl (SS.out _) ?_)
  refine (CN.out _ _ X10.out.ps).mono ?_; rintro e w11 ⟨rfl, b11⟩
  have X11 := Lib.hid (X10.out.on b11)
  have B11 := Lib.hid (grow B10.out b11)
  have F4 := Lib.hid (H4_2.out.on b11)
  have F6 := Lib.hid (H6_2.out.on b11)
  have F8 := Lib.hid (H8.out.on b11)
  clear b11 X10 B10 H4 H4_1 H4_2 H6 H6_2 H8
  go_wp2_with fail
  simp only [List.append_eq, List.cons_append, List.nil_append]
  refine wp_region_flow (LV skA sb lb) [3, 4, 5, 6, 7, 8, 9, 11] 127 rfl (by kernel_rfl) LV.on rfl ?_ ?_ ?_ ?_
  · intro t ht
    simp only [List.mem_cons, List.mem_nil_iff, or_false] at ht
    rcases ht with rfl | rfl | rfl | rfl | rfl | rfl | rfl | rfl
    · exact ⟨rfl, X11.out⟩
    · exact ⟨_, _, rfl, F4.out⟩
    · exact rfl
    · exact ⟨_, _, rfl, F6.out⟩
    · exact rfl
    · exact ⟨_, _, rfl, F8.out⟩
    · exact rfl
    · exact rfl
  · repeat (refine forall_cons ?_ ?_; focus first
      | (intro j b h; cases h; done)
      | (intro j b h; cases h; exact ⟨_, _, rfl, rfl, fun v w q => q⟩))
    intro o ho; cases ho
  · refine forall_cons (step_move rfl) ?_
    refine forall_cons (step_eqe rfl rfl) ?_
    refine forall_cons (step_move rfl) ?_
    refine forall_cons (step_move rfl) ?_
    refine forall_cons (step_len rfl rfl) ?_
    refine forall_cons (step_eqi rfl rfl) ?_
    refine forall_cons (step_pick rfl rfl rfl) ?_
    refine forall_cons (step_move rfl) ?_
    refine forall_cons (step_move rfl) ?_
    refine forall_cons (step_eqe rfl rfl) ?_
    refine forall_cons (step_pick rfl rfl rfl) ?_
    refine forall_cons (step_move rfl) ?_
    refine forall_cons (step_move rfl) ?_
    refine forall_cons (step_idx (j := 0) (ps := List.range 16) rfl rfl rfl) ?_
    refine forall_cons (step_ldc rfl cB0 rfl) ?_
    refine forall_cons (step_bld (fun _ => by kernel_rfl) bl0 rfl) ?_
    refine forall_cons (step_eqc rfl rfl eq0 rfl) ?_
    refine forall_cons (step_pick rfl rfl rfl) ?_
    refine forall_cons (step_move rfl) ?_
    refine forall_cons (step_move rfl) ?_
    refine forall_cons (step_idx (j := 15) (ps := List.range 16) rfl rfl rfl) ?_
    refine forall_cons (step_ldc rfl cB15 rfl) ?_
    refine forall_cons (step_bld (fun _ => by kernel_rfl) bl15 rfl) ?_
    refine forall_cons (step_eqc rfl rfl eq15 rfl) ?_
    refine forall_cons (step_pick rfl rfl rfl) ?_
    refine forall_cons (step_move rfl) ?_
    refine forall_cons (step_move rfl) ?_
    refine forall_cons (step_eqe rfl rfl) ?_
    refine forall_cons (step_pick rfl rfl rfl) ?_
    refine forall_cons (step_move rfl) ?_
    refine forall_cons (step_move rfl) ?_
    refine forall_cons (step_idx (j := 0) (ps := List.range 16) rfl rfl rfl) ?_
    refine forall_cons (step_fld rfl rfl) ?_
    refine forall_cons (step_lds rfl wD0 rfl) ?_
    refine forall_cons (step_eqs rfl rfl) ?_
    refine forall_cons (step_pick rfl rfl rfl) ?_
    refine forall_cons (step_move rfl) ?_
    refine forall_cons (step_move rfl) ?_
    refine forall_cons (step_idx (j := 8) (ps := List.range 16) rfl rfl rfl) ?_
    refine forall_cons (step_fld rfl rfl) ?_
    refine forall_cons (step_lds rfl wD8 rfl) ?_
    refine forall_cons (step_eqs rfl rfl) ?_
    refine forall_cons (step_pick rfl rfl rfl) ?_
    refine forall_cons (step_move rfl) ?_
    refine forall_cons (step_move rfl) ?_
    refine forall_cons (step_eqe rfl rfl) ?_
    refine forall_cons (step_pick rfl rfl rfl) ?_
    refine forall_cons (step_move rfl) ?_
    refine forall_cons (step_loadS rfl rfl) ?_
    refine forall_cons (step_told rfl) ?_
    refine forall_cons (step_told rfl) ?_
    refine forall_cons (step_lit (tlk_ok _ _ _ 8) (tlk_ok _ _ _ 8) rfl rfl lit5 rfl) ?_
    refine forall_cons (step_good (o1 := tld 6 3 0) (o2 := tld (-6) 3 4) rfl rfl (congrArg (fun b => Kd.val (.bool b)) gA.symm)) ?_
    refine forall_cons (step_pick rfl rfl rfl) ?_
    refine forall_cons (step_move rfl) ?_
    refine forall_cons (step_loadS rfl rfl) ?_
    refine forall_cons (step_goodn rfl rfl) ?_
    refine forall_cons (step_not (b := false) rfl rfl) ?_
    refine forall_cons (step_pick rfl rfl rfl) ?_
    refine forall_cons (step_move rfl) ?_
    refine forall_cons (step_loadS rfl rfl) ?_
    refine forall_cons (step_row1 rfl rfl) ?_
    refine forall_cons (step_eqi rfl rfl) ?_
    refine forall_cons (step_pick rfl rfl rfl) ?_
    refine forall_cons (step_move rfl) ?_
    refine forall_cons (step_loadS rfl rfl) ?_
    refine forall_cons (step_row2 rfl rfl) ?_
    refine forall_cons (step_eqi rfl rfl) ?_
    refine forall_cons (step_pick rfl rfl rfl) ?_
    refine forall_cons (step_assign rfl) ?_
    intro o ho; cases ho
  intro a' w12 hb hs hdf hold hv
  have e0 : a'.tmps.getD 0 undef = .bool true := hv 69 _ 0 rfl rfl
  have HB := Lib.hid (grow B11.out hb)
  clear hv hold hs hb X11 B11 F4 F6 F8
  go_wp2_with fail
  exact bodyPost_ret (v := .bool true) ((results_tmp rfl _ _ _).trans (by rw [e0])) hdf ⟨rfl, HB.out⟩
end Jd
end Go.Proofs.Ytchnnpaebggfdaa
