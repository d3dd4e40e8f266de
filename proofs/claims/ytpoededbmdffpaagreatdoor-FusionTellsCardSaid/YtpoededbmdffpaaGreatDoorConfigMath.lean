/-
  Configurations as lists of numbers: the rows in which a fault is looked for, what may be, what is covered, and the greatest error that is. No Go text is reached here. No conditions.
-/
import Derived.Test.YtpoededbmdffpaaGreatDoorBlk
namespace Go.Proofs.YtpoededbmdffpaaGreatDoor
set_option maxRecDepth 100000
open Go.ChangeShapes Go.WideShapes Go.ChangeAt Go.RowKit Go.Deep
namespace Cf
/-- The number at place j of a configuration. -/
def G (c : List Int) (j : Nat) : Int := c.getD j 0
/-- Its cells. -/
def CA (c : List Int) : Array Value := (cellsI .i64 c).toArray
theorem CA_size (c : List Int) : (CA c).size = c.length := by simp [CA, cellsI]
theorem CA_one (c : List Int) : (CA c).all (·.oneCell') = true := by
  simp only [CA, Array.all_eq_true_iff_forall_mem]
  intro v hv
  exact cellsI_one .i64 c v (by simpa using hv)
structure Row where
  name : ByteArray
  lo : Int
  hi : Int
  nums : List Int
def noRow : Row := ⟨⟨#[]⟩, 0, 0, []⟩
def ok (r : Row) (x : Int) : Bool := decide (r.lo ≤ x) && decide (x ≤ r.hi)
def fine (r : Row) : Bool := r.nums.all (ok r)
def first : List Row → ByteArray
  | [] => ⟨#[]⟩
  | r :: rs => if fine r = true then first rs else r.name
def own (c : List Int) : List Int := if G c 0 = 4 then [G c 17, G c 18, G c 19, G c 20] else [G c 17, G c 18, G c 19]
def others (c : List Int) : List Int := if G c 0 = 4 then [] else [G c 20]
def rows (c : List Int) : List Row :=
  [⟨⟨#[78]⟩, 3, 4, [G c 0]⟩, ⟨⟨#[76, 111]⟩, -2147483648, 2147483647, [G c 1]⟩, ⟨⟨#[72, 105]⟩, G c 1, 2147483647, [G c 2]⟩, ⟨⟨#[83, 97, 102, 101]⟩, G c 1, G c 2, [G c 3]⟩,
   ⟨⟨#[83, 116, 101, 112]⟩, 0, 2147483647, [G c 4]⟩, ⟨⟨#[83, 116, 117, 99, 107]⟩, 0, 2147483647, [G c 5]⟩, ⟨⟨#[87, 105, 110, 100, 111, 119]⟩, 2, 16, [G c 6]⟩,
   ⟨⟨#[68, 114, 105, 102, 116]⟩, 0, 2147483647, [G c 7]⟩, ⟨⟨#[76, 97, 103]⟩, 0, 8, [G c 8]⟩, ⟨⟨#[77, 105, 115]⟩, 0, 2147483647, [G c 9]⟩, ⟨⟨#[65, 117, 116, 104]⟩, 0, 2147483647, [G c 10]⟩,
   ⟨⟨#[71, 97, 105, 110]⟩, 0, 8, [G c 11]⟩, ⟨⟨#[67, 108, 105, 112]⟩, 0, 2147483647, [G c 12]⟩, ⟨⟨#[76, 97, 116, 99, 104]⟩, 1, 100, [G c 13]⟩, ⟨⟨#[67, 108, 101, 97, 110]⟩, 1, 1000, [G c 14]⟩,
   ⟨⟨#[66, 117, 100, 103, 101, 116]⟩, 0, 10, [G c 15]⟩, ⟨⟨#[76, 105, 109, 105, 116]⟩, 1, 8, [G c 16]⟩, ⟨⟨#[87, 101, 105, 103, 104, 116, 115]⟩, 1, 16, own c⟩, ⟨⟨#[87, 101, 105, 103, 104, 116, 115]⟩, 0, 0, others c⟩]
def fault (c : List Int) : ByteArray := first (rows c)
theorem first_drop (l : List Row) (k : Nat) (h : k < l.length) : first (l.drop k) = if fine (l.getD k noRow) = true then first (l.drop (k + 1)) else (l.getD k noRow).name := by
  rw [List.drop_eq_getElem_cons h, first]
  simp [List.getD_eq_getElem?_getD, h]
/-- Whether all stands within its bounds. -/
def Right (c : List Int) : Prop :=
  (3 ≤ G c 0 ∧ G c 0 ≤ 4) ∧ (-2147483648 ≤ G c 1 ∧ G c 1 ≤ 2147483647) ∧ (G c 1 ≤ G c 2 ∧ G c 2 ≤ 2147483647) ∧ (G c 1 ≤ G c 3 ∧ G c 3 ≤ G c 2) ∧ (0 ≤ G c 4 ∧ G c 4 ≤ 2147483647) ∧ (0 ≤ G c 5 ∧ G c 5 ≤ 2147483647) ∧
  (2 ≤ G c 6 ∧ G c 6 ≤ 16) ∧ (0 ≤ G c 7 ∧ G c 7 ≤ 2147483647) ∧ (0 ≤ G c 8 ∧ G c 8 ≤ 8) ∧ (0 ≤ G c 9 ∧ G c 9 ≤ 2147483647) ∧ (0 ≤ G c 10 ∧ G c 10 ≤ 2147483647) ∧ (0 ≤ G c 11 ∧ G c 11 ≤ 8) ∧ (0 ≤ G c 12 ∧ G c 12 ≤ 2147483647) ∧
  (1 ≤ G c 13 ∧ G c 13 ≤ 100) ∧ (1 ≤ G c 14 ∧ G c 14 ≤ 1000) ∧ (0 ≤ G c 15 ∧ G c 15 ≤ 10) ∧ (1 ≤ G c 16 ∧ G c 16 ≤ 8) ∧ (own c).all (fun x => decide (1 ≤ x) && decide (x ≤ 16)) = true ∧ (others c).all (fun x => decide (0 ≤ x) && decide (x ≤ 0)) = true
instance (c : List Int) : Decidable (Right c) := by unfold Right; infer_instance
theorem first_none : ∀ l : List Row, (∀ r ∈ l, r.name ≠ ⟨#[]⟩) → (first l = ⟨#[]⟩ ↔ l.all fine = true)
  | [], _ => by simp [first]
  | r :: rs, h => by
    have ih := first_none rs (fun x hx => h x (by simp [hx]))
    have h0 := h r (by simp)
    rw [first, List.all_cons, Bool.and_eq_true]
    split
    · rename_i hf; simp [hf, ih]
    · rename_i hf; simp [hf, h0]
theorem fault_none (c : List Int) : fault c = ⟨#[]⟩ ↔ Right c := by
  unfold fault
  rw [first_none _ (by
    intro r hr
    simp only [rows, List.mem_cons, List.not_mem_nil, or_false] at hr
    rcases hr with rfl | rfl | rfl | rfl | rfl | rfl | rfl | rfl | rfl | rfl | rfl | rfl | rfl | rfl | rfl | rfl | rfl | rfl | rfl <;> (intro h; injection h with h; simp at h))]
  simp only [rows, fine, ok, List.all_cons, List.all_nil, Bool.and_true, Bool.and_eq_true, decide_eq_true_eq, Right]
  exact Iff.rfl
/-- What Right answers. -/
def rt (c : List Int) : Bool := decide (Right c)
theorem beq_bytes (a b : ByteArray) : (a == b) = decide (a = b) := by
  rw [beq_toListBytes, Bool.eq_iff_iff, beq_iff_eq, decide_eq_true_eq, ByteArray.toList_eq, ByteArray.toList_eq, Array.toList_inj, ByteArray.ext_iff]
theorem rt_fault (c : List Int) : (fault c == ⟨#[]⟩) = rt c := by
  rw [beq_bytes]; unfold rt; rw [decide_eq_decide]; exact fault_none c
/-- What Covers answers. -/
def cov (c : List Int) (e r : Int) : Bool :=
  decide ((0 ≤ e ∧ e ≤ 1073741824 ∧ 0 ≤ r ∧ r ≤ 1073741824) ∧ Right c ∧ 2 * e + 2 * G c 10 + G c 12 ≤ G c 9 ∧ r + 2 * e ≤ G c 4 ∧ 2 * e ≤ G c 7 ∧ 4 * e + 2 * G c 10 + 2 * G c 12 ≤ G c 5 ∧ 2 * e ≤ G c 2 - G c 1)
/-- The greatest error that is covered with r; -1: none. -/
def room (c : List Int) (r : Int) : Int :=
  if Right c ∧ 0 ≤ r ∧ r ≤ 1073741824 then max (-1) (min 1073741824 (min ((G c 9 - 2 * G c 10 - G c 12) / 2) (min ((G c 4 - r) / 2) (min (G c 7 / 2) (min ((G c 5 - 2 * G c 10 - 2 * G c 12) / 4) ((G c 2 - G c 1) / 2)))))) else -1
end Cf
end Go.Proofs.YtpoededbmdffpaaGreatDoor
