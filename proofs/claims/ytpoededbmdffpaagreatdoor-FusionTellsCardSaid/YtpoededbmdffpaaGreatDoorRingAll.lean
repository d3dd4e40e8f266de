/-
  Rows of notes that a call makes; what All of package ring hands back: a contract by walking the Go text. Condition: where the ring lies.
-/
import Derived.Test.YtpoededbmdffpaaGreatDoorRingObs
import Derived.Deep.LoopGhost
import Derived.Deep.RegionLaw
import Derived.Deep.RegionWith
namespace Go.Proofs.YtpoededbmdffpaaGreatDoor
set_option maxRecDepth 100000
open Go.ChangeShapes Go.WideShapes Go.ChangeAt Go.RowKit Go.Deep
namespace Rg
open Fx
/-- A slice that reads as these notes. -/
def NotesAt (w : World) (a : Option Addr) (l : List Nt) : Prop := IntsAt .i64 w a (flat l)
theorem NotesAt.on {w w' : World} {a : Option Addr} {l : List Nt} (h : NotesAt w a l) (b : Below w.heap.size w w') : NotesAt w' a l := IntsAt.below h b
/-- One of them. -/
theorem NotesAt.at {w : World} {a : Option Addr} {l : List Nt} (h : NotesAt w a l) (hp : 0 < l.length) :
    ∃ b off, a = some ⟨b, off, none⟩ ∧ ∀ i n, l[i]? = some n → w.cell? ⟨b, off + i * 5, none⟩ = some (.int .i64 n.y) ∧ w.cell? ⟨b, off + i * 5 + 1, none⟩ = some (.int .i64 n.c) ∧ w.cell? ⟨b, off + i * 5 + 2, none⟩ = some (.int .i64 n.s) ∧ w.cell? ⟨b, off + i * 5 + 3, none⟩ = some (.int .i64 n.k) ∧ w.cell? ⟨b, off + i * 5 + 4, none⟩ = some (.int .i64 n.t) := by
  have hl := flat_len l
  rcases h with h | ⟨b, off, rfl, hc⟩
  · have := congrArg List.length h; rw [hl] at this; simp at this; omega
  · refine ⟨b, off, rfl, fun i n hn => ?_⟩
    have hi : i < l.length := (List.getElem?_eq_some_iff.1 hn).1
    obtain ⟨g0, g1, g2, g3, g4⟩ := flat_get l i n hn
    have f := fun j (hj : j < 5) => hc (i * 5 + j) (by omega)
    have f0 := f 0 (by omega)
    have f1 := f 1 (by omega)
    have f2 := f 2 (by omega)
    have f3 := f 3 (by omega)
    have f4 := f 4 (by omega)
    rw [Nat.add_zero, g0] at f0
    rw [g1] at f1
    rw [g2] at f2
    rw [g3] at f3
    rw [g4] at f4
    simp only [← Nat.add_assoc] at f1 f2 f3 f4
    exact ⟨f0, f1, f2, f3, f4⟩
theorem NotesAt.drop {w : World} {b off : Nat} {l : List Nt} (h : NotesAt w (some ⟨b, off, none⟩) l) (j : Nat) : NotesAt w (some ⟨b, off + j * 5, none⟩) (l.drop j) := by
  unfold NotesAt at *
  rw [flat_drop]
  rcases h with h | ⟨b', off', he, hc⟩
  · exact Or.inl (by rw [h]; simp)
  · cases he
    exact intsAt_drop (j * 5) hc
/-- A row of notes that the call itself made, and that may grow. -/
def OwnN (base : Nat) (w : World) (v : Value) (l : List Nt) : Prop := w.ownsRow base 86 5 v l.length (cellsI .i64 (flat l))
section
variable {base : Nat} {w w' : World} {v : Value} {l : List Nt}
theorem OwnN.nil : OwnN base w (.slice none 0 0) [] := World.ownsRow_nil _ _ _ _
theorem OwnN.form (h : OwnN base w v l) : ∃ a cap, v = .slice a l.length cap ∧ l.length ≤ cap ∧ NotesAt w a l ∧ (a = none → l = []) := by
  have hc : ∀ g, v.ownBlock = some g → _ := fun g hg => World.ownsRow.cells h (g := g) hg
  rcases h with ⟨hl, ⟨rfl, h0⟩ | ⟨g, cap, cur, rfl, hb, hh, hcap, _⟩⟩
  · have := List.eq_nil_of_length_eq_zero h0
    subst this
    exact ⟨none, 0, rfl, by simp, Or.inl rfl, fun _ => rfl⟩
  · refine ⟨_, cap, rfl, hcap, Or.inr ⟨g, 0, rfl, fun i hi => ?_⟩, fun e => by cases e⟩
    have := hc g rfl i _ (cellsI_get .i64 (flat l) i hi)
    rw [add_plain] at this; exact this
theorem OwnN.drew (h : OwnN base w v l) : OwnN base w.drew v l := h
theorem OwnN.alloc (h : OwnN base w v l) (o : Obj) : OwnN base (w.alloc o) v l := World.ownsRow.alloc h o
theorem OwnN.blk (h : OwnN base w v l) : ∀ j, v.ownBlock = some j → base ≤ j := fun j hj => (World.ownsRow.lt h j hj).1
theorem OwnN.grow {B : Nat} (h : OwnN base w v l) (b : Below B w w') (hB : w.heap.size ≤ B) : OwnN base w' v l := by
  rcases h with ⟨hl, ⟨rfl, h0⟩ | ⟨g, cap, cur, rfl, hb, hh, q⟩⟩
  · exact ⟨hl, Or.inl ⟨rfl, h0⟩⟩
  · refine ⟨hl, Or.inr ⟨g, cap, cur, rfl, hb, (b.block g ?_).trans hh, q⟩⟩
    rcases Nat.lt_or_ge g w.heap.size with k | k
    · omega
    · rw [Array.getElem?_eq_none k] at hh; cases hh
theorem OwnN.only {g : Nat} (h : OwnN base w v l) (o : Only g w w') (hg : g < base) : OwnN base w' v l := by
  rcases h with ⟨hl, ⟨rfl, h0⟩ | ⟨j, cap, cur, rfl, hb, hh, q⟩⟩
  · exact ⟨hl, Or.inl ⟨rfl, h0⟩⟩
  · refine ⟨hl, Or.inr ⟨j, cap, cur, rfl, hb, (o.block j ?_ (by omega)).trans hh, q⟩⟩
    rcases Nat.lt_or_ge j w.heap.size with k | k
    · exact k
    · rw [Array.getElem?_eq_none k] at hh; cases hh
end
theorem noteInfo : (Tryz.prog.info? 86).map (fun i => (i.zero, i.size, i.bytes)) = some (some (.agg #[.int .i64 0, .int .i64 0, .int .i64 0, .int .i64 0, .int .i64 0]), 5, 40) := by kernel_rfl
theorem step_append1N {ops : Array Oper} {o : Oper} {a : Act} {wr : World} {K : Act → World → Prop} {Q : Exit → Act → World → Prop} {E : Prop} (hgd : o.guard = none) (s x : Operand)
    (ho : o.op = .call { callee := .builtin .append, args := #[s, x], argTypes := #[57, 57] })
    (base : Nat) (v : Value) (l : List Nt) (n : Nt) (hs : a.eval s = v) (hx : a.eval x = .slice (some ⟨wr.heap.size, 0, none⟩) 1 1) (hown : OwnN base wr v l)
    (hl : l.length < 1099511627776) (w0 : World) (hb : Below base w0 wr) (hbase : base ≤ w0.heap.size)
    (h : ∀ v' w', OwnN base w' v' (l ++ [n]) → Below base w0 w' → K (a.put o.dst v') w') :
    if Region.wanted o (yielded ops a.tmps) = true then Oper.wp Tryz.prog o a (wr.alloc (.cells #[.int .i64 n.y, .int .i64 n.c, .int .i64 n.s, .int .i64 n.k, .int .i64 n.t] 86)) K Q else E := by
  have hw : Region.wanted o (yielded ops a.tmps) = true := by simp [Region.wanted, hgd]
  rw [if_pos hw]
  obtain ⟨i0, hi0, hz0, hz1, hz2⟩ := info_parts noteInfo
  have hsz := hb.size
  have hnew := VRow.new wr (ntr n) 86
  refine wp_append_own _ s x 57 ho base 86 i0 _ 5 40 Tryz.underlying57 hi0 hz0 hz1 hz2 rfl (by omega) v l.length (cellsI .i64 (flat l)) hs (hown.alloc _) ⟨wr.heap.size, 0, none⟩ 1 1 (ntr n) hx rfl ?_ ?_ (by unfold maxLen; omega) (by omega) (by simp; omega) ?_
  · intro j u hj
    rw [add_plain, Nat.zero_add]
    exact VRow.cell hnew j hj
  · intro u hu
    simp only [ntr, List.mem_cons, List.mem_nil_iff, or_false] at hu
    rcases hu with rfl | rfl | rfl | rfl | rfl <;> rfl
  · intro v' w' h1 h2 _
    refine h v' w' ?_ ?_
    · unfold OwnN
      rw [flat_app, cellsI_app, List.length_append]; exact h1
    · exact (hb.alloc (by omega) _).grown h2 (by simp; omega) (fun j hj => hown.blk j hj)
/-- What a call hands back: a slice that reads as these notes; nothing that was there is written. -/
def RetN (w : World) (l : List Nt) (e : Ending) (w' : World) : Prop :=
  ∃ a cap, e = .returned (.slice a l.length cap) ∧ l.length ≤ cap ∧ NotesAt w' a l ∧ Below w.heap.size w w'
theorem lasts_next {l : List Nt} {k : Nat} (h : k < (lasts l).length) : ∃ n, (arr l)[(lost l + k) % 32]? = some n ∧ (lasts l).take (k + 1) = (lasts l).take k ++ [n] := by
  obtain ⟨n, h1, h2⟩ := lasts_at l k h
  refine ⟨n, h2, ?_⟩
  rw [List.take_add_one, h1]; rfl
theorem RingAt.note {w : World} {g : Nat} {l : List Nt} (h : RingAt w g l) {i : Nat} {n : Nt} (hn : (arr l)[i]? = some n) :
    w.cell? ⟨g, i * 5, none⟩ = some (.int .i64 n.y) ∧ w.cell? ⟨g, i * 5 + 1, none⟩ = some (.int .i64 n.c) ∧ w.cell? ⟨g, i * 5 + 2, none⟩ = some (.int .i64 n.s) ∧ w.cell? ⟨g, i * 5 + 3, none⟩ = some (.int .i64 n.k) ∧ w.cell? ⟨g, i * 5 + 4, none⟩ = some (.int .i64 n.t) := by
  have hi : i < 32 := by have := (List.getElem?_eq_some_iff.1 hn).1; rw [arr_len] at this; exact this
  have hl := rgc_len l
  obtain ⟨g0, g1, g2, g3, g4⟩ := rgc_note l i n hn
  have f0 := IRow.cell h (i * 5) (by omega)
  have f1 := IRow.cell h (i * 5 + 1) (by omega)
  have f2 := IRow.cell h (i * 5 + 2) (by omega)
  have f3 := IRow.cell h (i * 5 + 3) (by omega)
  have f4 := IRow.cell h (i * 5 + 4) (by omega)
  rw [g0] at f0
  rw [g1] at f1
  rw [g2] at f2
  rw [g3] at f3
  rw [g4] at f4
  exact ⟨f0, f1, f2, f3, f4⟩
theorem all_nil (w : World) : Calls Tryz.prog 57 #[.pointer none] w fun e w' => e = .returned (.slice none 0 0) ∧ w = w' := by
  go_enter Tryz.func57, Tryz.ntmps57
  go_wp2
  go_ret
  exact ⟨rfl, rfl⟩
set_option maxHeartbeats 1600000 in
theorem all_any (g : Nat) (l : List Nt) (w : World) (h : RingAt w g l) (hl : l.length < 1099511627776) :
    Calls Tryz.prog 57 #[.pointer (some ⟨g, 0, none⟩)] w (RetN w (lasts l)) := by
  have HR := Lib.hid h
  have c160 := h.came
  have HM : min (l.length : Int) 32 = (((lasts l).length : Nat) : Int) := by rw [lasts_len]; omega
  obtain ⟨m, hm⟩ : ∃ m, m = (lasts l).length := ⟨_, rfl⟩
  rw [← hm] at HM
  have hm32 : m ≤ 32 := by rw [hm, lasts_len]; omega
  have HN := Lib.hid hm
  have CL := fun W r => lost_any g l W r hl
  have hlost : lost l < 1099511627776 := by unfold lost; omega
  clear h hm
  go_enter Tryz.func57, Tryz.ntmps57
  go_wp2_with fail
  clear HM
  go_loopg [3, 4, 12] m (fun gg s3 _ s12 wr => ∃ k : Nat, k + gg = m ∧ s12 = .int .i64 k ∧ Hid (OwnN w.heap.size wr s3 ((lasts l).take k)) ∧ Hid (Below w.heap.size w wr))
  case atStart => exact ⟨0, by omega, rfl, Lib.hid OwnN.nil, Lib.hid (Below.refl _ _)⟩
  case round =>
    obtain ⟨k, hk, rfl, O, B⟩ := hrel
    clear c160
    have R := Lib.hid (show RingAt wr g l from onI HR.out B.out)
    by_cases hlt : k < m
    · have hli : (k : Int) < m := by omega
      obtain ⟨n, hn, hnext⟩ := lasts_next (l := l) (k := k) (by rw [← HN.out]; exact hlt)
      have HX := Lib.hid hnext
      obtain ⟨c0, c1, c2, c3, c4⟩ := R.out.note hn
      have hw1 : IntKind.i64.wrap (((lost l : Nat) : Int) + (k : Int)) = ((lost l : Nat) : Int) + (k : Int) := IntWalk.i64_in _ (by omega)
      have ht1 : (((lost l : Nat) : Int) + (k : Int)).tmod 32 = (((lost l + k) % 32 : Nat) : Int) := by rw [Int.tmod_eq_emod_of_nonneg (by omega)]; omega
      have hp1 : (lost l + k) % 32 < 32 := by omega
      have hp2 : (((lost l + k) % 32 : Nat) : Int) < 32 := by omega
      generalize (lost l + k) % 32 = p at *
      clear hn hnext
      generalize lost l = q at *
      go_wp2_with fail
      go_region_law (first
        | (refine step_append1N rfl (.tmp 15) (.tmp 26) rfl w.heap.size u3 ((lasts l).take k) n (by simp [Act.eval]) (by simp [Act.eval]) O.out.drew (by simp; omega) w B.out.drew (Nat.le_refl _) ?_; intro v27 w27 O27' B27'; have O27 := Lib.hid O27'; have B27 := Lib.hid B27'; clear O27' B27')
        | (go_simp; go_at_call 59; refine (CL _ R.out.drew).mono ?_; rintro e w' ⟨rfl, rfl⟩))
      go_wp2
      go_roundg (gk - 1)
      case rel => exact ⟨k + 1, by omega, by go_num, Lib.hid (by rw [HX.out]; exact O27.out), B27⟩
      case measure => omega
    · obtain rfl : k = m := by omega
      rw [HN.out, List.take_length] at O
      obtain ⟨a, cap, rfl, hc, ha, -⟩ := O.out.form
      go_wp2_with fail
      go_ret
      exact ⟨a, cap, rfl, hc, ha, B.out⟩
end Rg
end Go.Proofs.YtpoededbmdffpaaGreatDoor
