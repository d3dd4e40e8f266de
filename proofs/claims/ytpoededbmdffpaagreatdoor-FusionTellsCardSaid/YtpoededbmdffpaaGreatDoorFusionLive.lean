/-
  What the law's live question for layer 20 needs: a cycle of the small fusion. Conditions: how it lies.
-/
import Derived.Test.YtpoededbmdffpaaGreatDoorFusionHeld
namespace Go.Proofs.YtpoededbmdffpaaGreatDoor
set_option maxRecDepth 100000
open Go.ChangeShapes Go.WideShapes Go.ChangeAt Go.RowKit Go.Deep
namespace Fu
open Cf (G CA)
open Sg (NN Si Face lav)
open Ot (ouc zou)
open Ss (str)
def A3 (a0 a1 a2 : Option Addr) : Nat → Option Addr := fun i => if i = 0 then a0 else if i = 1 then a1 else if i = 2 then a2 else none
def C3 (c0 c1 c2 : Nat) : Nat → Nat := fun i => if i = 0 then c0 else if i = 1 then c1 else if i = 2 then c2 else 0
theorem cyv_S {sq : Nat → Int} (hr : ∀ i, i < 3 → Fm.right (sq i) (List.replicate 8 (vS i)) = true) (a0 a1 a2 : Option Addr) (c0 c1 c2 : Nat) :
    (cyv (yS sq) (A3 a0 a1 a2) (C3 c0 c1 c2)).toArray = #[.bool true, .slice a0 38 c0, .bool true, .slice a1 38 c1, .bool true, .slice a2 38 c2, .bool false, .slice none 0 0] := by
  have h : ∀ i : Nat, i < 3 → (Fm.enc (i : Int) (sq i) (List.replicate 8 (vS i))).length = 38 := fun i hi => Fm.enc_len (hr i hi) (right_S hi).2.2 (by simp)
  have e : ∀ i, i < 3 → (yS sq i).l.length = 38 := fun i hi => by unfold yS; rw [if_pos hi]; exact h i hi
  unfold cyv
  rw [e 0 (by decide), e 1 (by decide), e 2 (by decide)]
  rfl
theorem yat_S {W : World} {sq : Nat → Int} {a0 a1 a2 : Option Addr} {c0 c1 c2 : Nat} (hr : ∀ i, i < 3 → Fm.right (sq i) (List.replicate 8 (vS i)) = true)
    (i0 : IntsAt .u8 W a0 (Fm.enc 0 (sq 0) (List.replicate 8 (vS 0)))) (i1 : IntsAt .u8 W a1 (Fm.enc 1 (sq 1) (List.replicate 8 (vS 1)))) (i2 : IntsAt .u8 W a2 (Fm.enc 2 (sq 2) (List.replicate 8 (vS 2)))) (h0 : 38 ≤ c0) (h1 : 38 ≤ c1) (h2 : 38 ≤ c2) :
    YAt W cS (yS sq) (A3 a0 a1 a2) (C3 c0 c1 c2) := by
  have h : ∀ i : Nat, i < 3 → (Fm.enc (i : Int) (sq i) (List.replicate 8 (vS i))).length = 38 := fun i hi => Fm.enc_len (hr i hi) (right_S hi).2.2 (by simp)
  refine ⟨yok_S sq, fun i hi => ?_, fun i hi => ?_⟩
  · rw [nS] at hi
    have e : (yS sq i).l.length = 38 := by unfold yS; rw [if_pos hi]; exact h i hi
    rw [e]
    rcases three hi with rfl | rfl | rfl
    · exact h0
    · exact h1
    · exact h2
  · rw [nS] at hi
    rcases three hi with rfl | rfl | rfl
    · exact i0
    · exact i1
    · exact i2
/-- A cycle of the small fusion. -/
theorem step_S {F : Face} {w W : World} {P : Pl} {m : Fs} {sq : Nat → Int} {a0 a1 a2 : Option Addr} {c0 c1 c2 : Nat} (H : Hd F w W P cS m) (hk : m.k < 8589934592) (hr : ∀ i, i < 3 → Fm.right (sq i) (List.replicate 8 (vS i)) = true)
    (i0 : IntsAt .u8 W a0 (Fm.enc 0 (sq 0) (List.replicate 8 (vS 0)))) (i1 : IntsAt .u8 W a1 (Fm.enc 1 (sq 1) (List.replicate 8 (vS 1)))) (i2 : IntsAt .u8 W a2 (Fm.enc 2 (sq 2) (List.replicate 8 (vS 2)))) (h0 : 38 ≤ c0) (h1 : 38 ≤ c1) (h2 : 38 ≤ c2) :
    Calls Tryz.prog 11 #[.pointer (some ⟨P.f, 0, none⟩), .agg #[.bool true, .slice a0 38 c0, .bool true, .slice a1 38 c1, .bool true, .slice a2 38 c2, .bool false, .slice none 0 0]] W fun e w' =>
      ∃ (P' : Pl) (a : Option Addr) (cap : Nat), e = .returned (.tuple #[.agg (ouc (out cS m (yS sq))).toArray, .slice a 54 cap, .int .i64 0]) ∧ Hd F w w' P' cS (nx cS m (yS sq)) ∧ P'.f = P.f := by
  have := step_any cS_right H.ok hk H.lie H.tab (yat_S hr i0 i1 i2 h0 h1 h2)
  rw [cyv_S hr] at this
  refine this.mono fun e w' q => ?_
  obtain ⟨P', a, cap, e1, -, -, g⟩ := q
  exact ⟨P', a, cap, e1, H.step cS_right (yok_S sq) g, g.f⟩
def oS : Ot.Ou := ⟨1, List.replicate 8 12, List.replicate 8 ⟨3, 4, -1, false⟩⟩
theorem out_S : out cS m1 y2 = oS := by
  have hk : (m1.k : Int) % 65536 = 1 := rfl
  have hv : (List.range 8).map (vls cS m1 y2) = List.replicate 8 12 := by
    rw [List.eq_replicate_iff]
    refine ⟨by simp, fun b hb => ?_⟩
    obtain ⟨j, hj, rfl⟩ := List.mem_map.1 hb
    exact live_v (List.mem_range.1 hj)
  have hs : (List.range 8).map (sta cS m1 y2) = List.replicate 8 ⟨3, 4, -1, false⟩ := by
    rw [List.eq_replicate_iff]
    refine ⟨by simp, fun b hb => ?_⟩
    obtain ⟨j, hj, rfl⟩ := List.mem_map.1 hb
    exact live_s (List.mem_range.1 hj)
  unfold out oS
  rw [hk, hv, hs]
theorem lasts_S : Rg.lasts m2.notes = m2.notes ∧ m2.notes.length = 8 ∧ Rg.lost m2.notes = 0 ∧ m2.notes[0]? = some ⟨1, 2, 0, 0, 1⟩ := by
  have h8 : m2.notes.length = 8 := by rw [notes_2]; simp
  have hl : Rg.lost m2.notes = 0 := by unfold Rg.lost; rw [h8]
  refine ⟨by unfold Rg.lasts; rw [hl, List.drop_zero], h8, hl, by rw [notes_2]; rfl⟩
theorem eq7 (W : World) : (Op.equalIn 10000 61 (.agg #[.int .i64 1, .int .i64 0, .int .i64 0, .int .i64 0, .int .i64 0, .int .i64 0, .int .i64 1]) (.agg #[.int .i64 1, .int .i64 0, .int .i64 0, .int .i64 0, .int .i64 0, .int .i64 0, .int .i64 1])).run Tryz.prog W = .ok true W :=
  Agg.run_equalIn_ints W 9998 _ _ 7 .i64 Tryz.underlying61 Tryz.underlying3 (fun w => by kernel_rfl) [1, 0, 0, 0, 0, 0, 1] [1, 0, 0, 0, 0, 0, 1] rfl rfl
section
variable {F : Face} {w W : World} {P : Pl}
theorem live_1 {a0 a1 a2 : Option Addr} {c0 c1 c2 : Nat} (H : Hd F w W P cS m0) (i0 : IntsAt .u8 W a0 (Fm.enc 0 7 (List.replicate 8 10))) (i1 : IntsAt .u8 W a1 (Fm.enc 1 65535 (List.replicate 8 12))) (i2 : IntsAt .u8 W a2 (Fm.enc 2 3 (List.replicate 8 99))) (h0 : 38 ≤ c0) (h1 : 38 ≤ c1) (h2 : 38 ≤ c2) :
    Calls Tryz.prog 11 #[.pointer (some ⟨P.f, 0, none⟩), .agg #[.bool true, .slice a0 38 c0, .bool true, .slice a1 38 c1, .bool true, .slice a2 38 c2, .bool false, .slice none 0 0]] W fun e w' =>
      ∃ (P' : Pl) (a : Option Addr) (cap : Nat) (o : Array Value), e = .returned (.tuple #[.agg o, .slice a 54 cap, .int .i64 0]) ∧ Hd F w w' P' cS m1 ∧ P'.f = P.f :=
  (step_S (sq := q1) H (by decide) (fun i hi => (right_S hi).1) i0 i1 i2 h0 h1 h2).mono fun e w' q => by
    obtain ⟨P', a, cap, q1, q2, q3⟩ := q
    exact ⟨P', a, cap, _, q1, q2, q3⟩
theorem live_2 {a0 a1 a2 : Option Addr} {c0 c1 c2 : Nat} (H : Hd F w W P cS m1) (i0 : IntsAt .u8 W a0 (Fm.enc 0 8 (List.replicate 8 10))) (i1 : IntsAt .u8 W a1 (Fm.enc 1 0 (List.replicate 8 12))) (i2 : IntsAt .u8 W a2 (Fm.enc 2 3 (List.replicate 8 99))) (h0 : 38 ≤ c0) (h1 : 38 ≤ c1) (h2 : 38 ≤ c2) :
    Calls Tryz.prog 11 #[.pointer (some ⟨P.f, 0, none⟩), .agg #[.bool true, .slice a0 38 c0, .bool true, .slice a1 38 c1, .bool true, .slice a2 38 c2, .bool false, .slice none 0 0]] W fun e w' =>
      ∃ (P' : Pl) (a : Option Addr) (cap : Nat), e = .returned (.tuple #[.agg (ouc oS).toArray, .slice a 54 cap, .int .i64 0]) ∧ Hd F w w' P' cS m2 ∧ P'.f = P.f :=
  (step_S (sq := q2) H (by decide) (fun i hi => (right_S hi).2.1) i0 i1 i2 h0 h1 h2).mono fun e w' q => by
    obtain ⟨P', a, cap, q1, q2, q3⟩ := q
    refine ⟨P', a, cap, ?_, q2, q3⟩
    rw [q1, ← out_S]; rfl
theorem live_notes (H : Hd F w W P cS m2) : Calls Tryz.prog 17 #[.pointer (some ⟨P.f, 0, none⟩)] W fun e w' =>
    ∃ b off cap, e = .returned (.slice (some ⟨b, off, none⟩) 8 cap) ∧ w'.rangeAt b off [.int .i64 1, .int .i64 2, .int .i64 0, .int .i64 0, .int .i64 1] ∧ Below W.heap.size W w' := by
  obtain ⟨l1, l2, l3, l4⟩ := lasts_S
  refine (notes_any H.lie (by rw [l2]; decide)).mono fun e w' q => ?_
  rw [l1] at q
  obtain ⟨a, cap, q1, q2, q3, q4⟩ := q
  obtain ⟨b, off, rfl, hat⟩ := q3.at (by rw [l2]; decide)
  obtain ⟨h0, h1, h2, h3, h4⟩ := hat 0 _ l4
  rw [l2] at q1
  refine ⟨b, off, cap, q1, fun j v hv => ?_, q4⟩
  match j, hv with
  | 0, hv => simp at hv; subst hv; simpa using h0
  | 1, hv => simp at hv; subst hv; simpa using h1
  | 2, hv => simp at hv; subst hv; simpa using h2
  | 3, hv => simp at hv; subst hv; simpa using h3
  | 4, hv => simp at hv; subst hv; simpa using h4
  | j + 5, hv => simp at hv
theorem live_state (H : Hd F w W P cS m2) : Calls Tryz.prog 16 #[.pointer (some ⟨P.f, 0, none⟩), .int .i64 2, .int .i64 7] W fun e w' =>
    ∃ st : List Value, e = .returned (.tuple #[.agg (Value.bool true :: st).toArray, .bool true]) ∧ st.length = 4 ∧ (∀ v ∈ st, v.oneCell' = true) ∧ Below W.heap.size W w' :=
  (state_yes cS_right H.lie (i := 2) (j := 7) (by decide) (by decide)).mono fun e w' q => by
    refine ⟨[.bool ((m2.s 7).ch 2).st.ou, .int .i64 ((m2.s 7).ch 2).st.st, .int .i64 ((m2.s 7).ch 2).st.cl, .int .i64 ((m2.s 7).ch 2).st.bk], ?_, rfl, fun v hv => ?_, q.2⟩
    · rw [q.1]
      unfold lav
      rw [live_st (by decide)]
    · simp at hv; rcases hv with rfl | rfl | rfl | rfl <;> rfl
theorem live_shut (H : Hd F w W P cS m2) : Calls Tryz.prog 19 #[.pointer (some ⟨P.f, 0, none⟩)] W fun e w' => e = .returned (.int .i64 4) ∧ Below W.heap.size W w' := by
  have h := Shut_any cS_right H.lie
  rw [live_sh] at h
  exact h
theorem live_latched (H : Hd F w W P cS m2) : Calls Tryz.prog 21 #[.pointer (some ⟨P.f, 0, none⟩), .int .i64 2] W fun e w' => e = .returned (.int .i64 255) ∧ Below W.heap.size W w' := by
  have h := latched_any cS_right H.lie 2
  rw [live_la] at h
  exact h
theorem live_rejects (H : Hd F w W P cS m2) : Calls Tryz.prog 22 #[.pointer (some ⟨P.f, 0, none⟩), .int .i64 2] W fun e w' => e = .returned (.agg #[.int .i64 1, .int .i64 0, .int .i64 0, .int .i64 0, .int .i64 0, .int .i64 0, .int .i64 1]) ∧ Below W.heap.size W w' := by
  have h := rejects_yes H.lie (i := 2) (by decide) (by rw [live_t]; rfl)
  rw [live_t] at h
  exact h
theorem live_cycles (H : Hd F w W P cS m2) : Calls Tryz.prog 18 #[.pointer (some ⟨P.f, 0, none⟩)] W fun e w' => e = .returned (.int .i64 2) ∧ W = w' := cycles_any H.lie
theorem live_lost (H : Hd F w W P cS m2) : Calls Tryz.prog 20 #[.pointer (some ⟨P.f, 0, none⟩)] W fun e w' => e = .returned (.int .i64 0) ∧ W = w' := by
  obtain ⟨l1, l2, l3, l4⟩ := lasts_S
  have h := lost_any H.lie (by rw [l2]; decide)
  rw [l3] at h
  exact h
end
end Fu
end Go.Proofs.YtpoededbmdffpaaGreatDoor
