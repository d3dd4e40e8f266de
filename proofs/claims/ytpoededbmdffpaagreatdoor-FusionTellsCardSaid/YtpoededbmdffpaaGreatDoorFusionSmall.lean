/-
  The live question of layer 20 in numbers: two cycles of a small fusion. No Go text is reached here. No conditions.
-/
import Derived.Test.YtpoededbmdffpaaGreatDoorFusionMath
import Derived.Test.YtpoededbmdffpaaGreatDoorFusionLatched
namespace Go.Proofs.YtpoededbmdffpaaGreatDoor
set_option maxRecDepth 100000
namespace Fu
open Cf (G)
open Sg (NN Si Rw rw0)
open Wd (next)
def cS : List Int := [3, -100, 100, 5, 40, 9, 3, 30, 0, 20, 2, 0, 4, 2, 2, 1, 4, 1, 1, 2, 0]
theorem cS_right : Cf.Right cS := by decide
theorem c0_right : ¬ Cf.Right (List.replicate 21 0) := by decide
theorem nS : NN cS = 3 := by decide
def vS (i : Nat) : Int := if i = 0 then 10 else if i = 1 then 12 else 99
def yS (sq : Nat → Int) : Nat → Sl := fun i => if i < 3 then ⟨true, Fm.enc i (sq i) (List.replicate 8 (vS i))⟩ else ⟨false, []⟩
def q1 (i : Nat) : Int := if i = 0 then 7 else if i = 1 then 65535 else 3
def q2 (i : Nat) : Int := if i = 0 then 8 else if i = 1 then 0 else 3
def y1 : Nat → Sl := yS q1
def y2 : Nat → Sl := yS q2
theorem three {i : Nat} (h : i < 3) : i = 0 ∨ i = 1 ∨ i = 2 := by omega
theorem right_S {i : Nat} (h : i < 3) : Fm.right (q1 i) (List.replicate 8 (vS i)) = true ∧ Fm.right (q2 i) (List.replicate 8 (vS i)) = true ∧ Fm.chan (i : Int) = true := by
  rcases three h with rfl | rfl | rfl <;> decide
theorem yok_S (sq : Nat → Int) : Yok cS (yS sq) := fun i hi => by
  rw [nS] at hi
  unfold yS
  rw [if_pos hi]
  exact Fm.enc_bytes
/-- What a track tells of a frame. -/
theorem told_fine {m : Fs} {sq : Nat → Int} {i : Nat} (h : i < 3) (hr : Fm.right (sq i) (List.replicate 8 (vS i)) = true) (hs : (m.t i).has = false ∨ sq i = next (m.t i).last) :
    rj m (yS sq) i = 0 ∧ fr m (yS sq) i = sq i :: List.replicate 8 (vS i) ∧ tkn m (yS sq) i = ⟨sq i, true, Fh.one (m.t i).n 0⟩ := by
  have hc : Fm.chan (i : Int) = true := (right_S h).2.2
  have e : yS sq i = ⟨true, Fm.enc i (sq i) (List.replicate 8 (vS i))⟩ := by unfold yS; rw [if_pos h]
  have hrej : Fm.rej (i : Int) (yS sq i).is (yS sq i).l = 0 := by
    rw [e]
    show Fm.rej (i : Int) true (Fm.enc i (sq i) (List.replicate 8 (vS i))) = 0
    rw [Fm.enc_rej hr hc (by simp), if_pos rfl]
  obtain ⟨p1, p2⟩ := Fm.enc_parts hr hc (by simp)
  have hs' : (m.t i).has = false ∨ Fm.fseq (yS sq i).l = next (m.t i).last := by rw [e]; show _ ∨ Fm.fseq (Fm.enc i (sq i) (List.replicate 8 (vS i))) = _; rw [p1]; exact hs
  have h1 : rj m (yS sq) i = 0 := Fh.jr_fine hrej hs'
  refine ⟨h1, ?_, ?_⟩
  · unfold fr
    rw [Fh.jf_fine hrej hs', e]
    show Fm.fseq (Fm.enc i (sq i) _) :: Fm.fvals (Fm.enc i (sq i) _) = _
    rw [p1, p2]
  · unfold tkn
    rw [h1, Fh.jl_yes hrej, Fh.jh_yes hrej, e]
    show (⟨Fm.fseq (Fm.enc i (sq i) _), true, _⟩ : Tk) = _
    rw [p1]; rfl
theorem told_stale {m : Fs} {sq : Nat → Int} {i : Nat} (h : i < 3) (hr : Fm.right (sq i) (List.replicate 8 (vS i)) = true) (hh : (m.t i).has = true) (hs : sq i ≠ next (m.t i).last) : rj m (yS sq) i = 6 := by
  have hc : Fm.chan (i : Int) = true := (right_S h).2.2
  have e : yS sq i = ⟨true, Fm.enc i (sq i) (List.replicate 8 (vS i))⟩ := by unfold yS; rw [if_pos h]
  have hrej : Fm.rej (i : Int) (yS sq i).is (yS sq i).l = 0 := by
    rw [e]
    show Fm.rej (i : Int) true (Fm.enc i (sq i) (List.replicate 8 (vS i))) = 0
    rw [Fm.enc_rej hr hc (by simp), if_pos rfl]
  obtain ⟨p1, -⟩ := Fm.enc_parts hr hc (by simp)
  exact Fh.jr_stale hrej hh (by rw [e]; show Fm.fseq (Fm.enc i (sq i) _) ≠ _; rw [p1]; exact hs)
def R1 : Nat → Rw := fun i => if i < 3 then ⟨true, vS i⟩ else rw0
def R2 : Nat → Rw := fun i => if i < 2 then ⟨true, vS i⟩ else rw0
def m0 : Fs := begin cS
def m1 : Fs := nx cS m0 y1
def m2 : Fs := nx cS m1 y2
theorem getD_rep {j : Nat} (h : j < 8) (x : Int) : (List.replicate 8 x).getD j 0 = x := by
  rw [List.getD_eq_getElem?_getD, List.getElem?_replicate, if_pos h]; rfl
theorem raw_1 {j : Nat} (hj : j < 8) : raw cS m0 y1 j = R1 := by
  funext i
  unfold raw R1
  rw [nS]
  by_cases h : i < 3
  · obtain ⟨a, b, -⟩ := told_fine (m := m0) (sq := q1) h (right_S h).1 (Or.inl rfl)
    rw [if_pos ⟨h, a⟩, if_pos h]
    show (⟨true, (fr m0 (yS q1) i).getD (1 + j) 0⟩ : Rw) = _
    rw [b, Nat.add_comm, List.getD_cons_succ, getD_rep hj]
  · rw [if_neg (fun q => h q.1), if_neg h]
theorem t_1 {i : Nat} (h : i < 3) : m1.t i = ⟨q1 i, true, [1, 0, 0, 0, 0, 0, 0]⟩ := by
  show (if i < NN cS then tkn m0 y1 i else m0.t i) = _
  rw [nS, if_pos h]
  exact (told_fine (m := m0) (sq := q1) h (right_S h).1 (Or.inl rfl)).2.2
theorem raw_2 {j : Nat} (hj : j < 8) : raw cS m1 y2 j = R2 := by
  funext i
  unfold raw R2
  rw [nS]
  by_cases h : i < 2
  · obtain ⟨a, b, -⟩ := told_fine (m := m1) (sq := q2) (i := i) (by omega) (right_S (by omega)).2.1 (Or.inr (by
      rw [t_1 (by omega)]
      have : i = 0 ∨ i = 1 := by omega
      rcases this with rfl | rfl <;> decide))
    rw [if_pos ⟨by omega, a⟩, if_pos h]
    show (⟨true, (fr m1 (yS q2) i).getD (1 + j) 0⟩ : Rw) = _
    rw [b, Nat.add_comm, List.getD_cons_succ, getD_rep hj]
  · rw [if_neg h]
    by_cases h3 : i < 3
    · obtain rfl : i = 2 := by omega
      have := told_stale (m := m1) (sq := q2) (i := 2) (by omega) (right_S (by omega)).2.1 (by rw [t_1 (by omega)]) (by rw [t_1 (by omega)]; decide)
      rw [if_neg (fun q => by have q2 := q.2; unfold y2 at q2; rw [this] at q2; cases q2)]
    · rw [if_neg (fun q => h3 q.1)]
/-- All signals do the same. -/
theorem lal_same {c : List Int} {m : Fs} {s : Si} (h : ∀ j, j < 8 → m.s j = s) (i : Nat) : lal c m i = List.replicate 8 (decide (i < NN c) && (s.ch i).st.la) := by
  unfold lal
  rw [List.eq_replicate_iff]
  refine ⟨by simp, fun b hb => ?_⟩
  obtain ⟨j, hj, rfl⟩ := List.mem_map.1 hb
  unfold lac
  rw [h j (List.mem_range.1 hj)]
def shS (s : Si) : Int := Sg.mk4 fun i => decide (i < 3) && decide ((4 : Int) ≤ (Fx.trues (List.replicate 8 (decide (i < 3) && (s.ch i).st.la)) : Int))
theorem sh_same {m : Fs} {s : Si} (h : ∀ j, j < 8 → m.s j = s) : sh cS m = shS s := by
  unfold sh shS
  congr 1
  funext i
  unfold isSh
  rw [lal_same h, nS]; rfl
def s0 : Si := Sg.begin cS
def s1 : Si := Sg.nxt cS s0 R1 0
def s2 : Si := Sg.nxt cS s1 R2 0
theorem sh_0 : sh cS m0 = 0 := by
  rw [sh_same (s := s0) fun _ _ => rfl]; decide +kernel
theorem s_1 {j : Nat} (hj : j < 8) : m1.s j = s1 := by
  show (if j < 8 then sgn cS m0 y1 j else m0.s j) = s1
  rw [if_pos hj]
  unfold sgn
  rw [raw_1 hj, sh_0]; rfl
theorem sh_1 : sh cS m1 = 0 := by
  rw [sh_same (s := s1) fun j hj => s_1 hj]; decide +kernel
theorem s_2 {j : Nat} (hj : j < 8) : m2.s j = s2 := by
  show (if j < 8 then sgn cS m1 y2 j else m1.s j) = s2
  rw [if_pos hj]
  unfold sgn
  rw [raw_2 hj, s_1 hj, sh_1]; rfl
/-- What the law asks of it. -/
theorem live_sh : sh cS m2 = 4 := by
  rw [sh_same (s := s2) fun j hj => s_2 hj]; decide +kernel
theorem live_la : lamI cS m2 2 = 255 := by
  rw [show (2 : Int) = ((2 : Nat) : Int) from rfl, lamI_in _ _ (by decide)]
  unfold lam
  rw [lal_same (s := s2) fun j hj => s_2 hj]; decide +kernel
theorem live_st {j : Nat} (hj : j < 8) : ((m2.s j).ch 2).st.la = true := by
  rw [s_2 hj]; decide +kernel
theorem live_v {j : Nat} (hj : j < 8) : vls cS m1 y2 j = 12 := by
  unfold vls
  rw [raw_2 hj, s_1 hj, sh_1]; decide +kernel
theorem live_s {j : Nat} (hj : j < 8) : sta cS m1 y2 j = ⟨3, 4, -1, false⟩ := by
  unfold sta sgn
  rw [raw_2 hj, s_1 hj, sh_1]
  have h1 : Sg.inm cS s1 R2 0 = 3 := by decide +kernel
  have h2 : Sg.lam cS (Sg.nxt cS s1 R2 0) = 4 := by decide +kernel
  have h3 : Sg.sus cS s1 R2 0 = -1 := by decide +kernel
  have h4 : Sg.any cS s1 R2 0 = true := by decide +kernel
  rw [h1, h2, h3, h4]; rfl
theorem live_t : (m2.t 2).n = [1, 0, 0, 0, 0, 0, 1] := by
  show (if 2 < NN cS then tkn m1 y2 2 else m1.t 2).n = _
  rw [nS, if_pos (by decide)]
  have := told_stale (m := m1) (sq := q2) (i := 2) (by omega) (right_S (by omega)).2.1 (by rw [t_1 (by omega)]) (by rw [t_1 (by omega)]; decide)
  unfold tkn
  unfold y2
  rw [this, t_1 (by omega)]; rfl
theorem evi_1 {i j : Nat} (hi : i < 3) (hj : j < 8) : evi cS m0 y1 i j = 0 := by
  unfold evi
  rw [raw_1 hj, sh_0]
  show Sg.evi cS s0 R1 0 i = 0
  rcases three hi with rfl | rfl | rfl <;> decide +kernel
theorem evi_2 {i j : Nat} (hi : i < 3) (hj : j < 8) : evi cS m1 y2 i j = (if i = 2 then 1 else 0) ∧ tri cS m1 y2 2 j = 1 := by
  unfold evi tri
  rw [raw_2 hj, s_1 hj, sh_1]
  rcases three hi with rfl | rfl | rfl <;> exact ⟨by decide +kernel, by decide +kernel⟩
theorem ntr_none {c : List Int} {m : Fs} {y : Nat → Sl} {i : Nat} (h : ∀ j, j < 8 → evi c m y i j = 0) : ntr c m y i 8 = [] := by
  unfold ntr
  rw [List.filterMap_eq_nil_iff]
  intro j hj
  rw [if_pos (h j (List.mem_range.1 hj))]
theorem filterMap_some {α β : Type} {f : α → Option β} {g : α → β} : ∀ {l : List α}, (∀ x, x ∈ l → f x = some (g x)) → l.filterMap f = l.map g
  | [], _ => rfl
  | a :: l, h => by
    rw [List.filterMap_cons, h a (List.mem_cons_self ..), List.map_cons, filterMap_some fun x hx => h x (List.mem_cons_of_mem _ hx)]
theorem notes_1 : m1.notes = [] := by
  show m0.notes ++ nts cS m0 y1 (NN cS) = []
  rw [nS]
  show [] ++ nts cS m0 y1 3 = []
  rw [nts_next, nts_next, nts_next, ntr_none fun j hj => evi_1 (by decide) hj, ntr_none fun j hj => evi_1 (by decide) hj, ntr_none fun j hj => evi_1 (by decide) hj]; rfl
theorem notes_2 : m2.notes = (List.range 8).map fun j : Nat => (⟨1, 2, j, 0, 1⟩ : Rg.Nt) := by
  show m1.notes ++ nts cS m1 y2 (NN cS) = _
  rw [nS, notes_1]
  rw [nts_next, nts_next, nts_next, ntr_none (i := 0) fun j hj => by have := (evi_2 (i := 0) (by decide) hj).1; simpa using this, ntr_none (i := 1) fun j hj => by have := (evi_2 (i := 1) (by decide) hj).1; simpa using this]
  show [] ++ (([] ++ [] ++ []) ++ ntr cS m1 y2 2 8) = _
  simp only [List.nil_append]
  unfold ntr
  have : ∀ j, j ∈ List.range 8 → (if evi cS m1 y2 2 j = 0 then none else some (nt cS m1 y2 2 j)) = some (⟨1, 2, j, 0, 1⟩ : Rg.Nt) := fun j hj => by
    obtain ⟨h1, h2⟩ := evi_2 (i := 2) (by decide) (List.mem_range.1 hj)
    rw [if_neg (by rw [h1]; decide)]
    unfold nt
    rw [h1, h2]; rfl
  exact filterMap_some this
end Fu
end Go.Proofs.YtpoededbmdffpaaGreatDoor
