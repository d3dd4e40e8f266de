/-
  How an argument that is an array of numbers (or of bools), by value, is opened. No Go text is reached here. No conditions.
-/
import Derived.Test.YtiniijoodgdikaaRow
import Derived.ChangeSame
namespace Go.Proofs.Ytiniijoodgdikaa
open Go.ChangeShapes Go.WideShapes Go.ChangeAt Go.RowKit Go.Deep

theorem mapM_mem {α β : Type} {f : α → Option β} {l : List α} {xs : List β} (h : l.mapM f = some xs) : ∀ a ∈ l, ∃ y, f a = some y := by
  induction l generalizing xs with
  | nil => intro a ha; cases ha
  | cons b t ih =>
    rw [List.mapM_cons] at h
    cases hb : f b with
    | none => rw [hb] at h; cases h
    | some y =>
      rw [hb] at h
      cases ht : t.mapM f with
      | none => rw [ht] at h; cases h
      | some ys =>
        intro a ha
        rcases List.mem_cons.1 ha with rfl | ha
        · exact ⟨y, hb⟩
        · exact ih ht a ha
theorem all_ints {k : IntKind} {cs : List Value} (h : ∀ c ∈ cs, ∃ n, c = .int k n ∧ (Lit.int k n).wf = true) : ∃ l : List Int, cs = cellsI k l ∧ ∀ n ∈ l, (Lit.int k n).wf = true := by
  induction cs with
  | nil => exact ⟨[], rfl, by simp⟩
  | cons c t ih =>
    obtain ⟨l, hl, hw⟩ := ih (fun x hx => h x (List.mem_cons_of_mem _ hx))
    obtain ⟨n, rfl, hn⟩ := h c (List.mem_cons_self ..)
    refine ⟨n :: l, by rw [hl]; rfl, ?_⟩
    intro m hm
    rcases List.mem_cons.1 hm with rfl | hm
    · exact hn
    · exact hw m hm

section
variable {H : Type} {enc : TypeId × Value → H} {P : Program} {w : World}
theorem openArr {k : IntKind} {t e : TypeId} {N base : Nat} {v : Value} {d : DataW H} {p : List MemPlace} (ht : P.underlying t = some (.array N e)) (he : P.underlying e = some (.int k)) (hc : P.cellsOf e = 1) (hct : P.cellsOf t = N)
    (hv : Value.okWide P w .any base t v) (h : DataW.Trod enc P w 0 (fun _ => true) true t v d p) :
    ∃ l : List Int, v = .agg (cellsI k l).toArray ∧ l.length = N ∧ ∀ n ∈ l, (Lit.int k n).wf = true := by
  obtain ⟨cs, rfl, hsz, _⟩ : ∃ cs, v = .agg cs ∧ cs.size = P.cellsOf t ∧ Row.okWide P w .any base t cs := by simpa [Value.okWide, ht] using hv
  rw [hct] at hsz
  obtain ⟨fuel, hf⟩ := h
  have hcs : (Value.agg cs).cells.toList = cs.toList := rfl
  rw [hcs] at hf
  cases fuel with
  | zero => simp [DataW.trod] at hf
  | succ n =>
    unfold DataW.trod at hf
    rw [ht] at hf
    simp only [hc, Nat.mul_one] at hf
    rw [if_pos (by rw [hct, Array.length_toList]; exact hsz)] at hf
    cases hm : (List.range N).mapM (fun i => DataW.trod enc P w 0 (fun _ => true) true n e ((cs.toList.drop i).take 1)) with
    | none => rw [hm] at hf; cases hf
    | some xs =>
      have key : ∀ c ∈ cs.toList, ∃ m, c = .int k m ∧ (Lit.int k m).wf = true := by
        intro c hcm
        obtain ⟨i, hi, rfl⟩ := List.getElem_of_mem hcm
        have hi2 : i < N := by rw [← hsz, ← Array.length_toList]; exact hi
        obtain ⟨y, hy⟩ := mapM_mem hm i (List.mem_range.2 hi2)
        have e1 : (cs.toList.drop i).take 1 = [cs.toList[i]] := by
          rw [List.drop_eq_getElem_cons hi]; rfl
        rw [e1] at hy
        obtain ⟨x0, e0, _, w0⟩ := DataW.trod_int he hy
        simp at e0
        exact ⟨x0, by simpa using e0, w0⟩
      obtain ⟨l, hl, hw⟩ := all_ints key
      refine ⟨l, ?_, ?_, hw⟩
      · rw [← hl]
      · have := congrArg List.length hl
        rw [cellsI_len, Array.length_toList] at this
        omega
theorem openArr2 {k : IntKind} {t e : TypeId} {base : Nat} {v : Value} {d : DataW H} {p : List MemPlace} (ht : P.underlying t = some (.array 2 e)) (he : P.underlying e = some (.int k)) (hc : P.cellsOf e = 1) (hct : P.cellsOf t = 2)
    (hv : Value.okWide P w .any base t v) (h : DataW.Trod enc P w 0 (fun _ => true) true t v d p) :
    ∃ x y : Int, v = .agg #[.int k x, .int k y] ∧ (Lit.int k x).wf = true ∧ (Lit.int k y).wf = true := by
  obtain ⟨l, rfl, hl, hw⟩ := openArr ht he hc hct hv h
  match l, hl, hw with
  | [x, y], _, hw => exact ⟨x, y, rfl, hw x (by simp), hw y (by simp)⟩
theorem openArr3 {k : IntKind} {t e : TypeId} {base : Nat} {v : Value} {d : DataW H} {p : List MemPlace} (ht : P.underlying t = some (.array 3 e)) (he : P.underlying e = some (.int k)) (hc : P.cellsOf e = 1) (hct : P.cellsOf t = 3)
    (hv : Value.okWide P w .any base t v) (h : DataW.Trod enc P w 0 (fun _ => true) true t v d p) :
    ∃ x y z : Int, v = .agg #[.int k x, .int k y, .int k z] ∧ (Lit.int k x).wf = true ∧ (Lit.int k y).wf = true ∧ (Lit.int k z).wf = true := by
  obtain ⟨l, rfl, hl, hw⟩ := openArr ht he hc hct hv h
  match l, hl, hw with
  | [x, y, z], _, hw => exact ⟨x, y, z, rfl, hw x (by simp), hw y (by simp), hw z (by simp)⟩
end
end Go.Proofs.Ytiniijoodgdikaa
