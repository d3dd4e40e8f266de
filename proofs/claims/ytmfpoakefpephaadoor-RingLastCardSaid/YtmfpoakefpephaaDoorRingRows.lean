/-
  Notes as an argument: a slice of structs of five numbers, as a list of notes. No Go text is reached here. No conditions.
-/
import Derived.Test.YtmfpoakefpephaaDoorMany
import Derived.Test.YtmfpoakefpephaaDoorRingAll
namespace Go.Proofs.YtmfpoakefpephaaDoor
open Go.ChangeShapes Go.WideShapes Go.ChangeAt Go.RowKit Go.Deep
namespace Rg
open Mn

/-- A note's cells, where they lie. -/
def N5 (w : World) (b o : Nat) (n : Nt) : Prop := w.cell? ⟨b, o, none⟩ = some (.int .i64 n.y) ∧ w.cell? ⟨b, o + 1, none⟩ = some (.int .i64 n.c) ∧ w.cell? ⟨b, o + 2, none⟩ = some (.int .i64 n.s) ∧ w.cell? ⟨b, o + 3, none⟩ = some (.int .i64 n.k) ∧ w.cell? ⟨b, o + 4, none⟩ = some (.int .i64 n.t)
theorem N5.on {w W : World} {b o : Nat} {n : Nt} (h : N5 w b o n) (B : Below w.heap.size w W) : N5 W b o n := by
  obtain ⟨h0, h1, h2, h3, h4⟩ := h
  exact ⟨(B.cell (p := ⟨b, o, none⟩) (cell_lt h0)).trans h0, (B.cell (p := ⟨b, o + 1, none⟩) (cell_lt h1)).trans h1, (B.cell (p := ⟨b, o + 2, none⟩) (cell_lt h2)).trans h2, (B.cell (p := ⟨b, o + 3, none⟩) (cell_lt h3)).trans h3, (B.cell (p := ⟨b, o + 4, none⟩) (cell_lt h4)).trans h4⟩
theorem row_note {w : World} {b off : Nat} {r : List Value} (h : RowOk w b off [.int .i64, .int .i64, .int .i64, .int .i64, .int .i64] r) : ∃ n : Nt, N5 w b off n ∧ n.y ≤ 9223372036854775807 := by
  have hl := h.len
  match r, hl with
  | [x0, x1, x2, x3, x4], _ =>
    obtain ⟨y, rfl, wy⟩ := h.fits 0 _ _ rfl rfl
    obtain ⟨c, rfl, -⟩ := h.fits 1 _ _ rfl rfl
    obtain ⟨s, rfl, -⟩ := h.fits 2 _ _ rfl rfl
    obtain ⟨k, rfl, -⟩ := h.fits 3 _ _ rfl rfl
    obtain ⟨t, rfl, -⟩ := h.fits 4 _ _ rfl rfl
    exact ⟨⟨y, c, s, k, t⟩, ⟨h.cell 0 (by simp), h.cell 1 (by simp), h.cell 2 (by simp), h.cell 3 (by simp), h.cell 4 (by simp)⟩, (i64_in wy).2⟩
/-- The argument as a list of notes. -/
theorem notes_of {w : World} {a : Option Addr} {rs : List (List Value)} (h : ManyAt w a [.int .i64, .int .i64, .int .i64, .int .i64, .int .i64] rs) :
    ∃ ns : List Nt, ns.length = rs.length ∧ (∀ n ∈ ns, n.y ≤ 9223372036854775807) ∧ (0 < ns.length → ∃ b off, a = some ⟨b, off, none⟩ ∧ ∀ i n, ns[i]? = some n → N5 w b (off + i * 5) n) := by
  rcases h with rfl | ⟨b, off, rfl, hat⟩
  · exact ⟨[], rfl, by simp, by simp⟩
  · have each : ∀ i, i < rs.length → ∃ n : Nt, N5 w b (off + i * 5) n ∧ n.y ≤ 9223372036854775807 := fun i hi => row_note (hat i rs[i] (List.getElem?_eq_getElem hi))
    let f : Nat → Nt := fun i => if h : i < rs.length then Classical.choose (each i h) else nz
    have hf : ∀ i, i < rs.length → N5 w b (off + i * 5) (f i) ∧ (f i).y ≤ 9223372036854775807 := fun i hi => by
      show N5 w b (off + i * 5) (if h : i < rs.length then Classical.choose (each i h) else nz) ∧ (if h : i < rs.length then Classical.choose (each i h) else nz).y ≤ _
      rw [dif_pos hi]
      exact Classical.choose_spec (each i hi)
    refine ⟨(List.range rs.length).map f, by simp, fun n hn => ?_, fun _ => ⟨b, off, rfl, fun i n hn => ?_⟩⟩
    · obtain ⟨i, hi, rfl⟩ := List.mem_map.1 hn
      exact (hf i (List.mem_range.1 hi)).2
    · have hi : i < rs.length := by have := (List.getElem?_eq_some_iff.1 hn).1; simpa using this
      rw [List.getElem?_map, List.getElem?_range hi] at hn
      simp only [Option.map_some, Option.some.injEq] at hn
      subst hn
      exact (hf i hi).1
/-- Those that may be, of the first k. -/
def okn (ns : List Nt) (k : Nat) : List Nt := (ns.take k).filter rgn
theorem okn_zero (ns : List Nt) : okn ns 0 = [] := by simp [okn]
theorem okn_yes {ns : List Nt} {k : Nat} {n : Nt} (h : ns[k]? = some n) (hr : rgn n = true) : okn ns (k + 1) = okn ns k ++ [n] := by
  unfold okn; rw [List.take_add_one, h]; simp [List.filter_append, hr]
theorem okn_no {ns : List Nt} {k : Nat} {n : Nt} (h : ns[k]? = some n) (hr : rgn n = false) : okn ns (k + 1) = okn ns k := by
  unfold okn; rw [List.take_add_one, h]; simp [List.filter_append, hr]
theorem okn_len (ns : List Nt) (k : Nat) : (okn ns k).length ≤ k := by
  unfold okn
  have h1 := List.length_filter_le rgn (ns.take k)
  rw [List.length_take] at h1
  omega
end Rg
end Go.Proofs.YtmfpoakefpephaaDoor
