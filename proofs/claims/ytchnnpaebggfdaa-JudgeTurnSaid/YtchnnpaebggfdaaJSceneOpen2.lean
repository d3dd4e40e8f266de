/-
  A scene, as an argument: its numbers and its points, as lists. No Go text is reached here. No conditions.
  Outputs as an argument: a slice of them, as a list. No Go text is reached here. No conditions.
-/
import Derived.Test.YtchnnpaebggfdaaSceneLie
import Derived.Test.YtchnnpaebggfdaaJFlat3
import Derived.Test.YtchnnpaebggfdaaJJudgeMem2
namespace Go.Proofs.Ytchnnpaebggfdaa
set_option maxRecDepth 100000
open Go.ChangeShapes Go.WideShapes Go.ChangeAt Go.RowKit Go.Deep
namespace Sc
instance : Inhabited Pt := ⟨noPt⟩
theorem cut28 (l : List Int) (h : l.length = 28) : ∃ c q : List Int, ∃ e r odd : Int, c.length = 21 ∧ q.length = 4 ∧ l = c ++ ([e, r, odd] ++ q) := by
  refine ⟨l.take 21, l.drop 24, l[21], l[22], l[23], by rw [List.length_take]; omega, by rw [List.length_drop]; omega, ?_⟩
  rw [List.cons_append, List.cons_append, List.cons_append, List.nil_append, ← List.drop_eq_getElem_cons, ← List.drop_eq_getElem_cons, ← List.drop_eq_getElem_cons, List.take_append_drop]
theorem openSceneC {H : Type} {enc : TypeId × Value → H} {w : World} {b0 : Nat} {r : Reach} {v : Value} {d : DataW H} {p : List MemPlace} {held : Bool} (hv : Value.okWide Try.prog w r b0 27 v)
    (h : DataW.Trod enc Try.prog w 0 (fun _ => true) held 27 v d p) (hk : ∀ k ∈ d.weights Try.prog 27, k ≤ 140737488351232) :
    ∃ (s : Sn) (a : Option Addr) (cap : Nat), v = .agg (scv s a cap).toArray ∧ Lens s ∧ PsAt w a s.ps ∧ s.ps.length ≤ cap := by
  obtain ⟨cs, rfl, hl, lv⟩ := Fl.open_aggW (S := (· ≤ 140737488351232)) (n := 6) (ts := List.replicate 28 3 ++ [25]) (by kernel_rfl) (by kernel_rfl) ⟨_, Try.underlying27⟩ hv h hk
  obtain ⟨l, hl28, hcs, lr⟩ := lv.ints_then (k := .i64) Try.underlying3
  obtain ⟨x, hx, rx⟩ := lr 0 25 rfl
  have hd : cs.drop 28 = [x] := by
    have h1 : (cs.drop 28).length = 1 := by rw [List.length_drop, hl]; rfl
    match h2 : cs.drop 28, h1 with
    | [y], _ => rw [h2] at hx; simp at hx; rw [hx]
  rw [hd] at hcs
  obtain ⟨c, q, e, r0, odd, hc, hq, rfl⟩ := cut28 l hl28
  obtain ⟨a, len, cap, rfl, hlc, hcm, h0⟩ := Fl.open_rowsW (n := 6) (ts := List.replicate 40 3 ++ [4, 59]) Try.underlying25 (by kernel_rfl) (by kernel_rfl) (by decide) rx
  have hmax : cap ≤ 9223372036854775807 := by unfold maxLen at hcm; omega
  rcases h0 with rfl | ⟨b, off, rfl, hi⟩
  · exact ⟨⟨c, e, r0, odd, q, []⟩, a, cap, by rw [hcs]; rfl, ⟨hc, hq, Nat.zero_le _⟩, Or.inl rfl, Nat.zero_le _⟩
  · have each : ∀ i, i < len → ∃ p : Pt, PtOk w b (off + i * 42) p := by
      intro i hil
      obtain ⟨ps, hlen, hcell, lp⟩ := hi i hil
      obtain ⟨m, hm40, hps, lr2⟩ := lp.ints_then (k := .i64) Try.underlying3
      obtain ⟨y, hy, ry⟩ := lr2 0 4 rfl
      obtain ⟨z, hz, rz⟩ := lr2 1 59 rfl
      have hd2 : ps.drop 40 = [y, z] := by
        have h1 : (ps.drop 40).length = 2 := by rw [List.length_drop, hlen]; rfl
        match h2 : ps.drop 40, h1 with
        | [y', z'], _ => rw [h2] at hy hz; simp at hy hz; rw [hy, hz]
      rw [hd2] at hps
      obtain ⟨is, rfl⟩ := ry.plain.bool Try.underlying4
      obtain ⟨a1, cap1, l1, rfl, c1, m1, f1, b1, s1, n1⟩ := rz.ints Try.underlying59 Try.underlying5 (by kernel_rfl) (by kernel_rfl)
      refine ⟨⟨m.take 8, m.drop 8, is, a1, cap1, l1⟩, fun j v hv => ?_, by show (m.take 8).length = 8; rw [List.length_take]; omega, by show (m.drop 8).length = 32; rw [List.length_drop]; omega, ⟨c1, m1⟩, f1, b1, Nat.le_trans c1 s1, n1⟩
      have e1 : ptv ⟨m.take 8, m.drop 8, is, a1, cap1, l1⟩ = ps := by
        rw [hps]
        unfold ptv
        rw [List.take_append_drop]
      rw [e1] at hv
      have hj : j < 42 := by have := (List.getElem?_eq_some_iff.1 hv).1; rw [hlen] at this; exact this
      have := hcell j hj
      rw [hv] at this
      exact this
    obtain ⟨f, hfi⟩ := choose_lt each
    refine ⟨⟨c, e, r0, odd, q, (List.range len).map f⟩, some ⟨b, off, none⟩, cap, by rw [hcs]; unfold scv; simp, ⟨hc, hq, by show ((List.range len).map f).length ≤ _; simp; omega⟩, Or.inr ⟨b, off, rfl, fun i p hip => ?_⟩, by show ((List.range len).map f).length ≤ _; simp; omega⟩
    have hip' : ((List.range len).map f)[i]? = some p := hip
    rw [List.getElem?_map] at hip'
    by_cases hil : i < len
    · rw [List.getElem?_range hil] at hip'
      simp at hip'
      subst hip'
      exact hfi i hil
    · rw [List.getElem?_eq_none (by simp; omega)] at hip'
      cases hip'
end Sc
end Go.Proofs.Ytchnnpaebggfdaa

namespace Go.Proofs.Ytchnnpaebggfdaa
set_option maxRecDepth 100000
open Go.ChangeShapes Go.WideShapes Go.ChangeAt Go.RowKit Go.Deep
namespace Jd
open Ot (Ou ouc)
open Ss (St str zer)
instance : Inhabited Ou := ⟨Ot.zou⟩
def tsO : List TypeId := List.replicate 9 3 ++ [3, 3, 3, 4, 3, 3, 3, 4, 3, 3, 3, 4, 3, 3, 3, 4, 3, 3, 3, 4, 3, 3, 3, 4, 3, 3, 3, 4, 3, 3, 3, 4]
def isB (j : Nat) : Bool := decide (9 ≤ j) && decide ((j - 9) % 4 = 3)
theorem tsO_at {j : Nat} (h : j < 41) : tsO[j]? = some (if isB j = true then 4 else 3) := by
  have h2 : ((List.range 41).all fun j => tsO[j]? == some (if isB j = true then 4 else 3)) = true := by kernel_rfl
  have := List.all_eq_true.1 h2 j (List.mem_range.2 h)
  simpa using this
def mkO (f : Nat → Int) (b : Nat → Bool) : Ou := ⟨f 0, [f 1, f 2, f 3, f 4, f 5, f 6, f 7, f 8], [⟨f 9, f 10, f 11, b 12⟩, ⟨f 13, f 14, f 15, b 16⟩, ⟨f 17, f 18, f 19, b 20⟩, ⟨f 21, f 22, f 23, b 24⟩, ⟨f 25, f 26, f 27, b 28⟩, ⟨f 29, f 30, f 31, b 32⟩, ⟨f 33, f 34, f 35, b 36⟩, ⟨f 37, f 38, f 39, b 40⟩]⟩
theorem mkO_cells (f : Nat → Int) (b : Nat → Bool) : ouc (mkO f b) = (List.range 41).map fun j => if isB j = true then .bool (b j) else .int .i64 (f j) := by kernel_rfl
theorem mkO_ok (f : Nat → Int) (b : Nat → Bool) : Ot.Ok (mkO f b) := ⟨rfl, rfl⟩
theorem openOuts {H : Type} {enc : TypeId × Value → H} {w : World} {b0 : Nat} {r : Reach} {v : Value} {d : DataW H} {p : List MemPlace} {held : Bool} (hv : Value.okWide Try.prog w r b0 28 v)
    (h : DataW.Trod enc Try.prog w 0 (fun _ => true) held 28 v d p) :
    ∃ (a : Option Addr) (cap : Nat) (l : List Ou), v = .slice a l.length cap ∧ l.length ≤ cap ∧ cap ≤ maxLen ∧ OutsAt w a l := by
  obtain ⟨a, len, cap, rfl, hlc, hcm, h0⟩ := Fl.open_rows (n := 6) (ts := tsO) Try.underlying28 (by kernel_rfl) (by kernel_rfl) (by decide) hv h
  rcases h0 with rfl | ⟨b, off, rfl, hi⟩
  · exact ⟨a, cap, [], rfl, Nat.zero_le _, hcm, Or.inl rfl⟩
  · have each : ∀ i, i < len → ∃ o : Ou, Ot.Ok o ∧ w.rangeAt b (off + i * 41) (ouc o) := by
      intro i hil
      obtain ⟨cs, hlen, hcell, lv⟩ := hi i hil
      have hlen' : cs.length = 41 := hlen
      have hI : ∀ j, j < 41 → ∃ x : Int, isB j = false → cs[j]? = some (.int .i64 x) := fun j hj => by
        cases hb : isB j
        · have ht := tsO_at hj
          rw [hb] at ht
          obtain ⟨x, e, -⟩ := (lv.pick j ht (List.getElem?_eq_getElem (by omega))).int Try.underlying3
          exact ⟨x, fun _ => by rw [List.getElem?_eq_getElem (by omega), e]⟩
        · exact ⟨0, fun h => by cases h⟩
      have hB : ∀ j, j < 41 → ∃ x : Bool, isB j = true → cs[j]? = some (.bool x) := fun j hj => by
        cases hb : isB j
        · exact ⟨false, fun h => by cases h⟩
        · have ht := tsO_at hj
          rw [hb] at ht
          obtain ⟨x, e⟩ := (lv.pick j ht (List.getElem?_eq_getElem (by omega))).bool Try.underlying4
          exact ⟨x, fun _ => by rw [List.getElem?_eq_getElem (by omega), e]⟩
      obtain ⟨f, hf⟩ := choose_lt hI
      obtain ⟨g, hg⟩ := choose_lt hB
      refine ⟨mkO f g, mkO_ok f g, fun j v hv => ?_⟩
      rw [mkO_cells, List.getElem?_map] at hv
      have hj : j < 41 := by
        rcases Nat.lt_or_ge j 41 with q | q
        · exact q
        · rw [List.getElem?_eq_none (by simpa using q)] at hv; cases hv
      rw [List.getElem?_range hj] at hv
      simp only [Option.map_some] at hv
      have hc : w.cell? ⟨b, off + i * 41 + j, none⟩ = cs[j]? := hcell j hj
      rw [hc]
      cases hb : isB j
      · rw [hb] at hv
        rw [hf j hj hb]; simpa using hv
      · rw [hb] at hv
        rw [hg j hj hb]; simpa using hv
    obtain ⟨f, hfi⟩ := choose_lt each
    refine ⟨some ⟨b, off, none⟩, cap, (List.range len).map f, by simp, by simp; exact hlc, hcm, Or.inr ⟨b, off, rfl, fun i o hio => ?_⟩⟩
    rw [List.getElem?_map] at hio
    by_cases hil : i < len
    · rw [List.getElem?_range hil] at hio
      simp at hio
      subst hio
      exact hfi i hil
    · rw [List.getElem?_eq_none (by simp; omega)] at hio
      cases hio
end Jd
end Go.Proofs.Ytchnnpaebggfdaa
