/-
  The eight steps of a cycle, one behind the other: each step's contract in the numbers of the whole cycle. No function of the program is walked here. Conditions: how a signal lies, that the configuration, the state and the raw values may be.
-/
import Derived.Test.YtpoededbmdffpaaGreatDoorSignalDrift
import Derived.Test.YtpoededbmdffpaaGreatDoorSignalVote
import Derived.Test.YtpoededbmdffpaaGreatDoorSignalSuspect
import Derived.Test.YtpoededbmdffpaaGreatDoorSignalCompare
import Derived.Test.YtpoededbmdffpaaGreatDoorSignalLatch
import Derived.Test.YtpoededbmdffpaaGreatDoorSignalRight
import Derived.Test.YtpoededbmdffpaaGreatDoorSignalWatch
import Derived.Test.YtpoededbmdffpaaGreatDoorSignalEnter
import Derived.Test.YtpoededbmdffpaaGreatDoorSignalLearn
import Derived.Test.YtpoededbmdffpaaGreatDoorOrderMidMath
namespace Go.Proofs.YtpoededbmdffpaaGreatDoor
set_option maxRecDepth 100000
open Go.ChangeShapes Go.WideShapes Go.ChangeAt Go.RowKit Go.Deep Go.Shelf
namespace Sg
open Cf (G CA)
theorem has_mk4 (f : Nat → Bool) {i : Nat} (hi : i < 4) : Fx.has (mk4 f) (i : Int) = f i := by
  unfold mk4
  have : i = 0 ∨ i = 1 ∨ i = 2 ∨ i = 3 := by omega
  generalize h0 : f 0 = a0
  generalize h1 : f 1 = a1
  generalize h2 : f 2 = a2
  generalize h3 : f 3 = a3
  rcases this with rfl | rfl | rfl | rfl
  · rw [h0]; cases a0 <;> cases a1 <;> cases a2 <;> cases a3 <;> decide
  · rw [h1]; cases a0 <;> cases a1 <;> cases a2 <;> cases a3 <;> decide
  · rw [h2]; cases a0 <;> cases a1 <;> cases a2 <;> cases a3 <;> decide
  · rw [h3]; cases a0 <;> cases a1 <;> cases a2 <;> cases a3 <;> decide
/-- The signal behind each step, and the trips. -/
def S1 (s : Si) (r : Nat → Rw) : Si := { s with ch := nW s r }
def S2 (c : List Int) (s : Si) (r : Nat → Rw) (sh : Int) : Si := { s with ch := fun i => { nW s r i with lev := lev c s r sh i } }
def S3 (c : List Int) (s : Si) (r : Nat → Rw) (sh : Int) : Si := { S2 c s r sh with val := val c s r sh }
def S4 (c : List Int) (s : Si) (r : Nat → Rw) (sh : Int) : Si := ⟨val c s r sh, s.votes ++ [val c s r sh], fun i => { nW s r i with lev := lev c s r sh i, off := off c s r sh i }⟩
def T1 (c : List Int) (s : Si) (r : Nat → Rw) (i : Nat) : Int := if i < NN c then ahd c s r i else 0
def T2 (c : List Int) (s : Si) (r : Nat → Rw) (sh : Int) (i : Nat) : Int := if i < NN c then ahd c s r i + (if drf c s r sh i = true then 16 else 0) else 0
section
variable {W : World} {b : Nat → Nat} {c : List Int} {s : Si} {u : Nat} {r : Nat → Rw} {sh : Int}
theorem inm_has (hR : Cf.Right c) {i : Nat} (hi : i < NN c) : Fx.has (inm c s r sh) (i : Int) = isin c s r sh i := by
  have := NN_34 hR
  unfold inm
  rw [has_mk4 _ (by omega)]
  simp [hi]
theorem ths_in (hR : Cf.Right c) (v : Nat → Int) : ths (inm c s r sh) v (List.range (NN c)) = (inl c s r sh).map v := by
  unfold ths inl
  congr 1
  exact List.filter_congr fun i hi => inm_has hR (List.mem_range.1 hi)
theorem in_val (hR : Cf.Right c) (hr : Rok c r) (i : Nat) (hi : i < NN c) (h : Fx.has (inm c s r sh) (i : Int) = true) : Jp.val (r i).n = true := by
  rw [inm_has hR hi] at h
  exact (Jp.val_iff _).2 (hr i hi (isin_iff.1 h).1)
theorem ahd_bd (i : Nat) : 0 ≤ ahd c s r i ∧ ahd c s r i < 16 := by
  unfold ahd Jp.trips
  split <;> (try split) <;> (try split) <;> (try split) <;> omega
theorem ok1 (hr : Rok c r) (hO : Ok c s) : Ok c (S1 s r) := ⟨hO.val, hO.votes, fun i hi => by
  have o := hO.ch i hi
  refine ⟨?_, o.lev, o.off, o.st⟩
  show -2147483648 ≤ (if (r i).is = true then (r i).n else 0) ∧ (if (r i).is = true then (r i).n else 0) ≤ 2147483647
  split
  · rename_i h; exact hr i hi h
  · omega⟩
theorem ok2 (hR : Cf.Right c) (hr : Rok c r) (hO : Ok c s) : Ok c (S2 c s r sh) := ⟨hO.val, hO.votes, fun i hi => ⟨((ok1 hr hO).ch i hi).last, ((ok_nxt (sh := sh) hR hr hO).ch i hi).lev, (hO.ch i hi).off, (hO.ch i hi).st⟩⟩
theorem ok3 (hR : Cf.Right c) (hr : Rok c r) (hO : Ok c s) : Ok c (S3 c s r sh) := ⟨(ok_nxt (sh := sh) hR hr hO).val, hO.votes, (ok2 hR hr hO).ch⟩
theorem ok4 (hR : Cf.Right c) (hr : Rok c r) (hO : Ok c s) : Ok c (S4 c s r sh) := ⟨(ok_nxt (sh := sh) hR hr hO).val, (ok_nxt (sh := sh) hR hr hO).votes, fun i hi => ⟨((ok1 hr hO).ch i hi).last, ((ok_nxt (sh := sh) hR hr hO).ch i hi).lev, ((ok_nxt (sh := sh) hR hr hO).ch i hi).off, (hO.ch i hi).st⟩⟩
theorem flt {i : Nat} : i ∈ (List.range (NN c)).filter (fun i => (r i).is) ↔ i < NN c ∧ (r i).is = true := by simp
theorem st_watch (hc : c.length = 21) (hR : Cf.Right c) (hr : Rok c r) (hO : Ok c s) (H : Tn W b c s u r sh z4 0) :
    Calls Tryz.prog 115 #[.pointer (some ⟨u, 0, none⟩)] W fun e w' => e = .returned (.tuple #[]) ∧ Tn w' b c (S1 s r) u r sh (T1 c s r) 0 ∧ But (Us b c u) W w' :=
  (watch_any hc hR hr hO H).mono fun e w' q => by
    refine ⟨q.1, ?_, q.2.2⟩
    have e : mx (List.range (NN c)) (ahd c s r) z4 = T1 c s r := by funext i; unfold mx T1 z4; simp
    rw [← e]
    exact q.2.1.congr rfl rfl fun i hi => mx_yes (List.mem_range.2 hi)
theorem st_enter (hc : c.length = 21) (hR : Cf.Right c) (H : Tn W b c (S1 s r) u r sh (T1 c s r) 0) :
    Calls Tryz.prog 116 #[.pointer (some ⟨u, 0, none⟩)] W fun e w' => e = .returned (.tuple #[]) ∧ Tn w' b c (S1 s r) u r sh (T1 c s r) (inm c s r sh) ∧ But (Us b c u) W w' :=
  enter_any (s := s) hR (fun _ _ => rfl) (fun _ hi => if_pos hi) hc H
theorem st_drift (hc : c.length = 21) (hR : Cf.Right c) (hr : Rok c r) (hO : Ok c s) (H : Tn W b c (S1 s r) u r sh (T1 c s r) (inm c s r sh)) :
    Calls Tryz.prog 117 #[.pointer (some ⟨u, 0, none⟩)] W fun e w' => e = .returned (.tuple #[]) ∧ Tn w' b c (S2 c s r sh) u r sh (T2 c s r sh) (inm c s r sh) ∧ But (Us b c u) W w' := by
  have hl := inl_len (s := s) (r := r) (sh := sh) hR
  cases ha : any c s r sh
  · have h0 : inl c s r sh = [] := by unfold any at ha; simpa using ha
    refine (drift_no hc hR H (own c s r sh) (ths_in hR _) (Od.midb_no (.inr (.inl (by unfold own; rw [h0]; simp))))).mono fun e w' q => ⟨q.1, ?_, q.2.2⟩
    have e : T1 c s r = T2 c s r sh := by funext i; unfold T1 T2 drf; simp [ha]
    rw [← e]
    exact q.2.1.congr rfl rfl fun i hi => by show nW s r i = { nW s r i with lev := lev c s r sh i }; unfold lev; simp [ha]; rfl
  · have h0 := any_iff.1 ha
    have h1 : 1 ≤ (inl c s r sh).length := by
      cases e : inl c s r sh with
      | nil => exact absurd e h0
      | cons a l => simp
    have hk := own_ok (sh := sh) hR hr hO
    have h1' : 1 ≤ (own c s r sh).length := by unfold own; rw [List.length_map]; exact h1
    have h4' : (own c s r sh).length ≤ 4 := by unfold own; rw [List.length_map]; exact hl
    have hel : ∀ k, k < (own c s r sh).length → -2147483648 ≤ (Od.srt (own c s r sh)).getD k 0 ∧ (Od.srt (own c s r sh)).getD k 0 ≤ 2147483647 := fun k hk => by
      have hm : (Od.srt (own c s r sh)).getD k 0 ∈ own c s r sh := by
        refine (Od.srt_perm _).mem_iff.1 ?_
        have hlen : k < (Od.srt (own c s r sh)).length := by rw [(Od.srt_perm _).length_eq]; exact hk
        rw [List.getD_eq_getElem?_getD, List.getElem?_eq_getElem hlen]; simp
      unfold own at hm
      obtain ⟨i, hi, he⟩ := List.mem_map.1 hm
      have := (in_nums hR hr hO hi).2.1
      unfold own; omega
    have hmid := Od.mid_in hk h1' h4'
    have e0 := hel 0 (by omega)
    have e1 := hel ((own c s r sh).length - 1) (by omega)
    refine (drift_yes hc hR (ok1 hr hO) (fun i hi his => (Jp.val_iff _).2 (hr i hi his)) (fun i hi his => by unfold T1; rw [if_pos hi]; exact ahd_bd i) H (own c s r sh) (ths_in hR _) (Od.midb_yes hk h1' h4') _ rfl (by omega)).mono fun e w' q => ⟨q.1, ?_, q.2.2⟩
    have eL : ∀ i, i < NN c → (r i).is = true → lev c s r sh i = Dr.nx (G c 8) (s.ch i).lev ((r i).n - Od.midv (own c s r sh)) := fun i _ his => by unfold lev; simp [ha, his]
    have e : mx ((List.range (NN c)).filter fun i => (r i).is) (tD c (S1 s r) r (Od.midv (own c s r sh)) (T1 c s r)) (T1 c s r) = T2 c s r sh := by
      funext i
      by_cases hi : i < NN c
      · by_cases his : (r i).is = true
        · rw [mx_yes (flt.2 ⟨hi, his⟩)]
          unfold tD T1 T2 drf
          rw [if_pos hi, if_pos hi, eL i hi his, his, ha]
          rfl
        · rw [mx_not fun q => his (flt.1 q).2]
          unfold T1 T2 drf
          simp [his]
      · rw [mx_not fun q => hi (flt.1 q).1]
        unfold T1 T2
        rw [if_neg hi, if_neg hi]
    rw [← e]
    refine q.2.1.congr rfl rfl fun i hi => ?_
    show mx _ _ _ i = { nW s r i with lev := lev c s r sh i }
    by_cases his : (r i).is = true
    · rw [mx_yes (flt.2 ⟨hi, his⟩), eL i hi his]; rfl
    · rw [mx_not fun q => his (flt.1 q).2]
      unfold lev; simp [his]; rfl
theorem st_vote (hc : c.length = 21) (hR : Cf.Right c) (hr : Rok c r) (hO : Ok c s) {T : Nat → Int} (H : Tn W b c (S2 c s r sh) u r sh T (inm c s r sh)) :
    Calls Tryz.prog 118 #[.pointer (some ⟨u, 0, none⟩)] W fun e w' => e = .returned (.tuple #[]) ∧ Tn w' b c (S3 c s r sh) u r sh T (inm c s r sh) ∧ But (Us b c u) W w' :=
  vote_any hc hR (ok2 hR hr hO) (in_val hR hr) H (evs c s r sh) (wts c s r sh) (ths_in hR _) (ths_in hR _) (val c s r sh) rfl
theorem st_compare (hc : c.length = 21) (hR : Cf.Right c) (hr : Rok c r) (hO : Ok c s) (H : Tn W b c (S3 c s r sh) u r sh (T2 c s r sh) (inm c s r sh)) :
    Calls Tryz.prog 119 #[.pointer (some ⟨u, 0, none⟩)] W fun e w' => e = .returned (.tuple #[]) ∧ Tn w' b c (S3 c s r sh) u r sh (tri c s r sh) (inm c s r sh) ∧ But (Us b c u) W w' := by
  refine (compare_any hc hR hr (ok3 hR hr hO) (fun i hi => by
    have := ahd_bd (c := c) (s := s) (r := r) i
    unfold T2; rw [if_pos hi]; split <;> omega) H).mono fun e w' q => ⟨q.1, ?_, q.2.2⟩
  have e : mx ((List.range (NN c)).filter fun i => (r i).is) (tC c (S3 c s r sh) r (T2 c s r sh)) (T2 c s r sh) = tri c s r sh := by
    funext i
    by_cases hi : i < NN c
    · by_cases his : (r i).is = true
      · rw [mx_yes (flt.2 ⟨hi, his⟩)]
        have em : mcp c (S3 c s r sh) r i = mis c s r sh i := by
          have hv := val_in (r := r) (sh := sh) hO
          have hrr := hr i hi his
          have hoo := (hO.ch i hi).off
          obtain ⟨-, h1, h2, -, -, -, -, -, -, h9, h10, -⟩ := hR
          unfold mcp mis
          rw [his]
          show decide (G c 9 < Fx.apart ((r i).n - (s.ch i).off) (val c s r sh)) = _
          unfold Fx.apart
          rw [if_pos ⟨(Fx.sm_iff _).2 (by omega), (Fx.sm_iff _).2 (by omega)⟩]
          rw [Bool.true_and, ← Bool.decide_or]
          refine decide_eq_decide.2 ?_
          split <;> omega
        unfold tC tri trp T2
        rw [if_pos hi, if_pos hi, em]
      · rw [mx_not fun q => his (flt.1 q).2]
        unfold T2 tri trp mis
        simp [his]
    · rw [mx_not fun q => hi (flt.1 q).1]
      unfold T2 tri
      rw [if_neg hi, if_neg hi]
  rw [← e]
  exact q.2.1
theorem sus_lt (l : List Int) (x : Int) : Pa.sus l x = -1 ∨ (0 ≤ Pa.sus l x ∧ Pa.sus l x < l.length) := by
  have h := Pa.last_bd x (Pa.res l) (Pa.res l).length
  have h2 : (Pa.res l).length ≤ l.length := by
    cases h : Pa.fit l
    · rw [Pa.res_no h]; simp
    · rw [Pa.res_yes h, Pa.resTo_len]; omega
  unfold Pa.sus Pa.susOf
  split
  · exact .inl rfl
  · split
    · omega
    · exact .inl rfl
theorem st_suspect (hc : c.length = 21) (hR : Cf.Right c) (hr : Rok c r) (hO : Ok c s) {T : Nat → Int} (H : Tn W b c (S3 c s r sh) u r sh T (inm c s r sh)) :
    Calls Tryz.prog 120 #[.pointer (some ⟨u, 0, none⟩)] W fun e w' => e = .returned (.int .i64 (sus c s r sh)) ∧ Below W.heap.size W w' := by
  have hs := sus_lt (evs c s r sh) (G c 9)
  have hlen : (evs c s r sh).length = (inl c s r sh).length := by unfold evs; rw [List.length_map]
  refine suspect_any hc hR (ok3 hR hr hO) (in_val hR hr) H (evs c s r sh) ((inl c s r sh).map fun i : Nat => (i : Int)) (ths_in hR _) (ths_in hR _) _ rfl ?_ (sus c s r sh) ?_
  · rw [List.length_map]; omega
  · unfold sus
    rcases hs with e | ⟨h1, h2⟩
    · rw [e]; rfl
    · rw [if_neg (by omega), if_neg (by omega), map_getD (by omega)]
theorem st_learn (hc : c.length = 21) (hR : Cf.Right c) (hr : Rok c r) (hO : Ok c s) {T : Nat → Int} {m : Int} (H : Tn W b c (S3 c s r sh) u r sh T m) :
    Calls Tryz.prog 121 #[.pointer (some ⟨u, 0, none⟩)] W fun e w' => e = .returned (.tuple #[]) ∧ Tn w' b c (S4 c s r sh) u r sh T m ∧ But (Us b c u) W w' := by
  refine (learn_any hc hR (ok3 hR hr hO) H).mono fun e w' q => ⟨q.1, ?_, q.2.2⟩
  refine q.2.1.congr rfl rfl fun i hi => ?_
  show mx _ _ _ i = { nW s r i with lev := lev c s r sh i, off := off c s r sh i }
  by_cases his : (r i).is = true
  · rw [mx_yes (flt.2 ⟨hi, his⟩)]
    unfold off; rw [if_pos his]; rfl
  · rw [mx_not fun q => his (flt.1 q).2]
    unfold off; rw [if_neg his]; rfl
theorem st_latch (hc : c.length = 21) (hR : Cf.Right c) (hr : Rok c r) (hO : Ok c s) {m : Int} (H : Tn W b c (S4 c s r sh) u r sh (tri c s r sh) m) :
    Calls Tryz.prog 122 #[.pointer (some ⟨u, 0, none⟩)] W fun e w' => e = .returned (.agg (ev4 (evi c s r sh)).toArray) ∧ Tn w' b c (nxt c s r sh) u r sh (tri c s r sh) m ∧ But (Us b c u) W w' := by
  refine (latch_any hc hR (ok4 hR hr hO) H).mono fun e w' q => ⟨?_, ?_, q.2.2⟩
  · have e : mx (List.range (NN c)) (whT c (S4 c s r sh) (tri c s r sh)) z4 = evi c s r sh := by
      funext i
      unfold mx evi z4
      simp only [List.mem_range]
      split
      · rename_i hi
        unfold whT wha tr tri; rw [if_pos hi]; rfl
      · rfl
    rw [← e]; exact q.1
  · refine q.2.1.congr rfl rfl fun i hi => ?_
    show mx _ _ _ i = _
    rw [mx_yes (List.mem_range.2 hi)]
    unfold nA nxt lat tr tri; rw [if_pos hi]; rfl
end
end Sg
end Go.Proofs.YtpoededbmdffpaaGreatDoor
