/-
  A scene, as an argument: its numbers and its points, as lists. No Go text is reached here. No conditions.
-/
import Derived.Test.YtpamegkbhdbheaaSceneLie
import Derived.Test.YtpamegkbhdbheaaFlatW
namespace Go.Proofs.Ytpamegkbhdbheaa
set_option maxRecDepth 100000
open Go.ChangeShapes Go.WideShapes Go.ChangeAt Go.RowKit Go.Deep
namespace Sc

instance : Inhabited Pt := ⟨noPt⟩
theorem cut28 (l : List Int) (h : l.length = 28) : ∃ c q : List Int, ∃ e r odd : Int, c.length = 21 ∧ q.length = 4 ∧ l = c ++ ([e, r, odd] ++ q) := by
  refine ⟨l.take 21, l.drop 24, l[21], l[22], l[23], by rw [List.length_take]; omega, by rw [List.length_drop]; omega, ?_⟩
  rw [List.cons_append, List.cons_append, List.cons_append, List.nil_append, ← List.drop_eq_getElem_cons, ← List.drop_eq_getElem_cons, ← List.drop_eq_getElem_cons, List.take_append_drop]
theorem openScene {H : Type} {enc : TypeId × Value → H} {w : World} {b0 : Nat} {r : Reach} {v : Value} {d : DataW H} {p : List MemPlace} {held : Bool} (hv : Value.okWide Try.prog w r b0 27 v)
    (h : DataW.Trod enc Try.prog w 0 (fun _ => true) held 27 v d p) (hk : ∀ k ∈ d.weights Try.prog 27, k ≤ 140737488351232) :
    ∃ (s : Sn) (a : Option Addr) (cap : Nat), v = .agg (scv s a cap).toArray ∧ Lens s ∧ PsAt w a s.ps := by
  obtain ⟨cs, rfl, hl, lv⟩ := Fl.open_aggW (S := (· ≤ 140737488351232)) (n := 6) (ts := List.replicate 28 3 ++ [25]) (by kernel_rfl) (by kernel_rfl) ⟨_, Try.underlying27⟩ hv h hk
  obtain ⟨l, hl28, hcs, lr⟩ := lv.ints_then (k := .i64) Try.underlying3
  obtain ⟨x, hx, rx⟩ := lr 0 25 rfl
  have hd : cs.drop 28 = [x] := by
    have h1 : (cs.drop 28).length = 1 := by rw [List.length_drop, hl]; rfl
    match h2 : cs.drop 28, h1 with
    | [y], _ => rw [h2] at hx; simp at hx; rw [hx]
  rw [hd] at hcs
  obtain ⟨c, q, e, r0, odd, hc, hq, rfl⟩ := cut28 l hl28
  obtain ⟨a, len, cap, rfl, hlc, hcm, h0⟩ := Fl.open_rowsW (n := 6) (ts := List.replicate 40 3 ++ [4, 42]) Try.underlying25 (by kernel_rfl) (by kernel_rfl) (by decide) rx
  have hmax : cap ≤ 9223372036854775807 := by unfold maxLen at hcm; omega
  rcases h0 with rfl | ⟨b, off, rfl, hi⟩
  · exact ⟨⟨c, e, r0, odd, q, []⟩, a, cap, by rw [hcs]; rfl, ⟨hc, hq, Nat.zero_le _⟩, Or.inl rfl⟩
  · have each : ∀ i, i < len → ∃ p : Pt, PtOk w b (off + i * 42) p := by
      intro i hil
      obtain ⟨ps, hlen, hcell, lp⟩ := hi i hil
      obtain ⟨m, hm40, hps, lr2⟩ := lp.ints_then (k := .i64) Try.underlying3
      obtain ⟨y, hy, ry⟩ := lr2 0 4 rfl
      obtain ⟨z, hz, rz⟩ := lr2 1 42 rfl
      have hd2 : ps.drop 40 = [y, z] := by
        have h1 : (ps.drop 40).length = 2 := by rw [List.length_drop, hlen]; rfl
        match h2 : ps.drop 40, h1 with
        | [y', z'], _ => rw [h2] at hy hz; simp at hy hz; rw [hy, hz]
      rw [hd2] at hps
      obtain ⟨is, rfl⟩ := ry.plain.bool Try.underlying4
      obtain ⟨a1, cap1, l1, rfl, c1, m1, f1, b1, s1, n1⟩ := rz.ints Try.underlying42 Try.underlying5 (by kernel_rfl) (by kernel_rfl)
      refine ⟨⟨m.take 8, m.drop 8, is, a1, cap1, l1⟩, fun j v hv => ?_, by show (m.take 8).length = 8; rw [List.length_take]; omega, by show (m.drop 8).length = 32; rw [List.length_drop]; omega, ⟨c1, m1⟩, f1, b1, Nat.le_trans c1 s1, n1⟩
      have e1 : ptv ⟨m.take 8, m.drop 8, is, a1, cap1, l1⟩ = ps := by
        rw [hps]
        unfold ptv
        rw [List.take_append_drop]
      rw [e1] at hv
      have hj : j < 42 := by have := (List.getElem?_eq_some_iff.1 hv).1; rw [hlen] at this; exact this
      have := hcell j hj
      rw [hv] at this
      exact this
    obtain ⟨f, hfi⟩ := choose_lt each
    refine ⟨⟨c, e, r0, odd, q, (List.range len).map f⟩, some ⟨b, off, none⟩, cap, by rw [hcs]; unfold scv; simp, ⟨hc, hq, by show ((List.range len).map f).length ≤ _; simp; omega⟩, Or.inr ⟨b, off, rfl, fun i p hip => ?_⟩⟩
    have hip' : ((List.range len).map f)[i]? = some p := hip
    rw [List.getElem?_map] at hip'
    by_cases hil : i < len
    · rw [List.getElem?_range hil] at hip'
      simp at hip'
      subst hip'
      exact hfi i hil
    · rw [List.getElem?_eq_none (by simp; omega)] at hip'
      cases hip'
end Sc
end Go.Proofs.Ytpamegkbhdbheaa
