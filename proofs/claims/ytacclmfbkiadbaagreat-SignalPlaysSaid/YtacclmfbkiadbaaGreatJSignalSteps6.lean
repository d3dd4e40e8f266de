/-
  The eight steps of a cycle, one behind the other: each step's contract in the numbers of the whole cycle. No function of the program is walked here. Conditions: how a signal lies, that the configuration, the state and the raw values may be.
  What Latched of package signal returns: a contract by walking the Go text. Conditions: how a signal lies.
  What Step of package signal does: a contract by walking the Go text. Conditions: how a signal lies, that the configuration and the state may be.
  What Step of package signal does where a cycle may be: a contract by walking the Go text. Conditions: how a signal lies, that the configuration, the state and the raw values may be.
  The package as a law of layer 18 meets it: how a signal lies, and the contracts of all that a law calls. No function of the program is walked here. No conditions beyond those said.
  What package signal's functions answer of no signal. Contracts by walking the Go text. No conditions.
-/
import Derived.Test.YtacclmfbkiadbaaGreatSignalDrift
import Derived.Test.YtacclmfbkiadbaaGreatSignalVote
import Derived.Test.YtacclmfbkiadbaaGreatJSignalSuspect3
import Derived.Test.YtacclmfbkiadbaaGreatJSignalLearn2
import Derived.Test.YtacclmfbkiadbaaGreatJSignalState3
import Derived.Test.YtacclmfbkiadbaaGreatSignalWatch
import Derived.Test.YtacclmfbkiadbaaGreatSignalEnter
import Derived.Test.YtacclmfbkiadbaaGreatJStuckMath6
import Derived.Test.YtacclmfbkiadbaaGreatJSignalMake2
import Derived.Test.YtacclmfbkiadbaaGreatJSignalNew2
import Derived.Test.YtacclmfbkiadbaaGreatJLatchMath8
namespace Go.Proofs.YtacclmfbkiadbaaGreat
set_option maxRecDepth 100000
open Go.ChangeShapes Go.WideShapes Go.ChangeAt Go.RowKit Go.Deep Go.Shelf
namespace Sg
open Cf (G CA)
theorem has_mk4 (f : Nat → Bool) {i : Nat} (hi : i < 4) : Fx.has (mk4 f) (i : Int) = f i := by
  unfold mk4
  have : i = 0 ∨ i = 1 ∨ i = 2 ∨ i = 3 := by omega
  generalize h0 : f 0 = a0
  generalize h1 : f 1 = a1
  generalize h2 : f 2 = a2
  generalize h3 : f 3 = a3
  rcases this with rfl | rfl | rfl | rfl
  · rw [h0]; cases a0 <;> cases a1 <;> cases a2 <;> cases a3 <;> decide
  · rw [h1]; cases a0 <;> cases a1 <;> cases a2 <;> cases a3 <;> decide
  · rw [h2]; cases a0 <;> cases a1 <;> cases a2 <;> cases a3 <;> decide
  · rw [h3]; cases a0 <;> cases a1 <;> cases a2 <;> cases a3 <;> decide
/-- The signal behind each step, and the trips. -/
def S1 (s : Si) (r : Nat → Rw) : Si := { s with ch := nW s r }
def S2 (c : List Int) (s : Si) (r : Nat → Rw) (sh : Int) : Si := { s with ch := fun i => { nW s r i with lev := lev c s r sh i } }
def S3 (c : List Int) (s : Si) (r : Nat → Rw) (sh : Int) : Si := { S2 c s r sh with val := val c s r sh }
def S4 (c : List Int) (s : Si) (r : Nat → Rw) (sh : Int) : Si := ⟨val c s r sh, s.votes ++ [val c s r sh], fun i => { nW s r i with lev := lev c s r sh i, off := off c s r sh i }⟩
def T1 (c : List Int) (s : Si) (r : Nat → Rw) (i : Nat) : Int := if i < NN c then ahd c s r i else 0
def T2 (c : List Int) (s : Si) (r : Nat → Rw) (sh : Int) (i : Nat) : Int := if i < NN c then ahd c s r i + (if drf c s r sh i = true then 16 else 0) else 0
section
variable {W : World} {b : Nat → Nat} {c : List Int} {s : Si} {u : Nat} {r : Nat → Rw} {sh : Int}
theorem inm_has (hR : Cf.Right c) {i : Nat} (hi : i < NN c) : Fx.has (inm c s r sh) (i : Int) = isin c s r sh i := by
  have := NN_34 hR
  unfold inm
  rw [has_mk4 _ (by omega)]
  simp [hi]
theorem ths_in (hR : Cf.Right c) (v : Nat → Int) : ths (inm c s r sh) v (List.range (NN c)) = (inl c s r sh).map v := by
  unfold ths inl
  congr 1
  exact List.filter_congr fun i hi => inm_has hR (List.mem_range.1 hi)
theorem in_val (hR : Cf.Right c) (hr : Rok c r) (i : Nat) (hi : i < NN c) (h : Fx.has (inm c s r sh) (i : Int) = true) : Jp.val (r i).n = true := by
  rw [inm_has hR hi] at h
  exact (Jp.val_iff _).2 (hr i hi (isin_iff.1 h).1)
theorem ahd_bd (i : Nat) : 0 ≤ ahd c s r i ∧ ahd c s r i < 16 := by
  unfold ahd Jp.trips
  split <;> (try split) <;> (try split) <;> (try split) <;> omega
theorem ok1 (hr : Rok c r) (hO : Ok c s) : Ok c (S1 s r) := ⟨hO.val, hO.votes, fun i hi => by
  have o := hO.ch i hi
  refine ⟨?_, o.lev, o.off, o.st⟩
  show -2147483648 ≤ (if (r i).is = true then (r i).n else 0) ∧ (if (r i).is = true then (r i).n else 0) ≤ 2147483647
  split
  · rename_i h; exact hr i hi h
  · omega⟩
theorem ok2 (hR : Cf.Right c) (hr : Rok c r) (hO : Ok c s) : Ok c (S2 c s r sh) := ⟨hO.val, hO.votes, fun i hi => ⟨((ok1 hr hO).ch i hi).last, ((ok_nxt (sh := sh) hR hr hO).ch i hi).lev, (hO.ch i hi).off, (hO.ch i hi).st⟩⟩
theorem ok3 (hR : Cf.Right c) (hr : Rok c r) (hO : Ok c s) : Ok c (S3 c s r sh) := ⟨(ok_nxt (sh := sh) hR hr hO).val, hO.votes, (ok2 hR hr hO).ch⟩
theorem ok4 (hR : Cf.Right c) (hr : Rok c r) (hO : Ok c s) : Ok c (S4 c s r sh) := ⟨(ok_nxt (sh := sh) hR hr hO).val, (ok_nxt (sh := sh) hR hr hO).votes, fun i hi => ⟨((ok1 hr hO).ch i hi).last, ((ok_nxt (sh := sh) hR hr hO).ch i hi).lev, ((ok_nxt (sh := sh) hR hr hO).ch i hi).off, (hO.ch i hi).st⟩⟩
theorem flt {i : Nat} : i ∈ (List.range (NN c)).filter (fun i => (r i).is) ↔ i < NN c ∧ (r i).is = true := by simp
theorem st_watch (hc : c.length = 21) (hR : Cf.Right c) (hr : Rok c r) (hO : Ok c s) (H : Tn W b c s u r sh z4 0) :
    Calls Tryz.prog 26 #[.pointer (some ⟨u, 0, none⟩)] W fun e w' => e = .returned (.tuple #[]) ∧ Tn w' b c (S1 s r) u r sh (T1 c s r) 0 ∧ But (Us b c u) W w' :=
  (watch_any hc hR hr hO H).mono fun e w' q => by
    refine ⟨q.1, ?_, q.2.2⟩
    have e : mx (List.range (NN c)) (ahd c s r) z4 = T1 c s r := by funext i; unfold mx T1 z4; simp
    rw [← e]
    exact q.2.1.congr rfl rfl fun i hi => mx_yes (List.mem_range.2 hi)
theorem st_enter (hc : c.length = 21) (hR : Cf.Right c) (H : Tn W b c (S1 s r) u r sh (T1 c s r) 0) :
    Calls Tryz.prog 27 #[.pointer (some ⟨u, 0, none⟩)] W fun e w' => e = .returned (.tuple #[]) ∧ Tn w' b c (S1 s r) u r sh (T1 c s r) (inm c s r sh) ∧ But (Us b c u) W w' :=
  enter_any (s := s) hR (fun _ _ => rfl) (fun _ hi => if_pos hi) hc H
theorem st_drift (hc : c.length = 21) (hR : Cf.Right c) (hr : Rok c r) (hO : Ok c s) (H : Tn W b c (S1 s r) u r sh (T1 c s r) (inm c s r sh)) :
    Calls Tryz.prog 28 #[.pointer (some ⟨u, 0, none⟩)] W fun e w' => e = .returned (.tuple #[]) ∧ Tn w' b c (S2 c s r sh) u r sh (T2 c s r sh) (inm c s r sh) ∧ But (Us b c u) W w' := by
  have hl := inl_len (s := s) (r := r) (sh := sh) hR
  cases ha : any c s r sh
  · have h0 : inl c s r sh = [] := by unfold any at ha; simpa using ha
    refine (drift_no hc hR H (own c s r sh) (ths_in hR _) (Od.midb_no (.inr (.inl (by unfold own; rw [h0]; simp))))).mono fun e w' q => ⟨q.1, ?_, q.2.2⟩
    have e : T1 c s r = T2 c s r sh := by funext i; unfold T1 T2 drf; simp [ha]
    rw [← e]
    exact q.2.1.congr rfl rfl fun i hi => by show nW s r i = { nW s r i with lev := lev c s r sh i }; unfold lev; simp [ha]; rfl
  · have h0 := any_iff.1 ha
    have h1 : 1 ≤ (inl c s r sh).length := by
      cases e : inl c s r sh with
      | nil => exact absurd e h0
      | cons a l => simp
    have hk := own_ok (sh := sh) hR hr hO
    have h1' : 1 ≤ (own c s r sh).length := by unfold own; rw [List.length_map]; exact h1
    have h4' : (own c s r sh).length ≤ 4 := by unfold own; rw [List.length_map]; exact hl
    have hel : ∀ k, k < (own c s r sh).length → -2147483648 ≤ (Od.srt (own c s r sh)).getD k 0 ∧ (Od.srt (own c s r sh)).getD k 0 ≤ 2147483647 := fun k hk => by
      have hm : (Od.srt (own c s r sh)).getD k 0 ∈ own c s r sh := by
        refine (Od.srt_perm _).mem_iff.1 ?_
        have hlen : k < (Od.srt (own c s r sh)).length := by rw [(Od.srt_perm _).length_eq]; exact hk
        rw [List.getD_eq_getElem?_getD, List.getElem?_eq_getElem hlen]; simp
      unfold own at hm
      obtain ⟨i, hi, he⟩ := List.mem_map.1 hm
      have := (in_nums hR hr hO hi).2.1
      unfold own; omega
    have hmid := Od.mid_in hk h1' h4'
    have e0 := hel 0 (by omega)
    have e1 := hel ((own c s r sh).length - 1) (by omega)
    refine (drift_yes hc hR (ok1 hr hO) (fun i hi his => (Jp.val_iff _).2 (hr i hi his)) (fun i hi his => by unfold T1; rw [if_pos hi]; exact ahd_bd i) H (own c s r sh) (ths_in hR _) (Od.midb_yes hk h1' h4') _ rfl (by omega)).mono fun e w' q => ⟨q.1, ?_, q.2.2⟩
    have eL : ∀ i, i < NN c → (r i).is = true → lev c s r sh i = Dr.nx (G c 8) (s.ch i).lev ((r i).n - Od.midv (own c s r sh)) := fun i _ his => by unfold lev; simp [ha, his]
    have e : mx ((List.range (NN c)).filter fun i => (r i).is) (tD c (S1 s r) r (Od.midv (own c s r sh)) (T1 c s r)) (T1 c s r) = T2 c s r sh := by
      funext i
      by_cases hi : i < NN c
      · by_cases his : (r i).is = true
        · rw [mx_yes (flt.2 ⟨hi, his⟩)]
          unfold tD T1 T2 drf
          rw [if_pos hi, if_pos hi, eL i hi his, his, ha]
          rfl
        · rw [mx_not fun q => his (flt.1 q).2]
          unfold T1 T2 drf
          simp [his]
      · rw [mx_not fun q => hi (flt.1 q).1]
        unfold T1 T2
        rw [if_neg hi, if_neg hi]
    rw [← e]
    refine q.2.1.congr rfl rfl fun i hi => ?_
    show mx _ _ _ i = { nW s r i with lev := lev c s r sh i }
    by_cases his : (r i).is = true
    · rw [mx_yes (flt.2 ⟨hi, his⟩), eL i hi his]; rfl
    · rw [mx_not fun q => his (flt.1 q).2]
      unfold lev; simp [his]; rfl
theorem st_vote (hc : c.length = 21) (hR : Cf.Right c) (hr : Rok c r) (hO : Ok c s) {T : Nat → Int} (H : Tn W b c (S2 c s r sh) u r sh T (inm c s r sh)) :
    Calls Tryz.prog 29 #[.pointer (some ⟨u, 0, none⟩)] W fun e w' => e = .returned (.tuple #[]) ∧ Tn w' b c (S3 c s r sh) u r sh T (inm c s r sh) ∧ But (Us b c u) W w' :=
  vote_any hc hR (ok2 hR hr hO) (in_val hR hr) H (evs c s r sh) (wts c s r sh) (ths_in hR _) (ths_in hR _) (val c s r sh) rfl
theorem st_compare (hc : c.length = 21) (hR : Cf.Right c) (hr : Rok c r) (hO : Ok c s) (H : Tn W b c (S3 c s r sh) u r sh (T2 c s r sh) (inm c s r sh)) :
    Calls Tryz.prog 30 #[.pointer (some ⟨u, 0, none⟩)] W fun e w' => e = .returned (.tuple #[]) ∧ Tn w' b c (S3 c s r sh) u r sh (tri c s r sh) (inm c s r sh) ∧ But (Us b c u) W w' := by
  refine (compare_any hc hR hr (ok3 hR hr hO) (fun i hi => by
    have := ahd_bd (c := c) (s := s) (r := r) i
    unfold T2; rw [if_pos hi]; split <;> omega) H).mono fun e w' q => ⟨q.1, ?_, q.2.2⟩
  have e : mx ((List.range (NN c)).filter fun i => (r i).is) (tC c (S3 c s r sh) r (T2 c s r sh)) (T2 c s r sh) = tri c s r sh := by
    funext i
    by_cases hi : i < NN c
    · by_cases his : (r i).is = true
      · rw [mx_yes (flt.2 ⟨hi, his⟩)]
        have em : mcp c (S3 c s r sh) r i = mis c s r sh i := by
          have hv := val_in (r := r) (sh := sh) hO
          have hrr := hr i hi his
          have hoo := (hO.ch i hi).off
          obtain ⟨-, h1, h2, -, -, -, -, -, -, h9, h10, -⟩ := hR
          unfold mcp mis
          rw [his]
          show decide (G c 9 < Fx.apart ((r i).n - (s.ch i).off) (val c s r sh)) = _
          unfold Fx.apart
          rw [if_pos ⟨(Fx.sm_iff _).2 (by omega), (Fx.sm_iff _).2 (by omega)⟩]
          rw [Bool.true_and, ← Bool.decide_or]
          refine decide_eq_decide.2 ?_
          split <;> omega
        unfold tC tri trp T2
        rw [if_pos hi, if_pos hi, em]
      · rw [mx_not fun q => his (flt.1 q).2]
        unfold T2 tri trp mis
        simp [his]
    · rw [mx_not fun q => hi (flt.1 q).1]
      unfold T2 tri
      rw [if_neg hi, if_neg hi]
  rw [← e]
  exact q.2.1
theorem sus_lt (l : List Int) (x : Int) : Pa.sus l x = -1 ∨ (0 ≤ Pa.sus l x ∧ Pa.sus l x < l.length) := by
  have h := Pa.last_bd x (Pa.res l) (Pa.res l).length
  have h2 : (Pa.res l).length ≤ l.length := by
    cases h : Pa.fit l
    · rw [Pa.res_no h]; simp
    · rw [Pa.res_yes h, Pa.resTo_len]; omega
  unfold Pa.sus Pa.susOf
  split
  · exact .inl rfl
  · split
    · omega
    · exact .inl rfl
theorem st_suspect (hc : c.length = 21) (hR : Cf.Right c) (hr : Rok c r) (hO : Ok c s) {T : Nat → Int} (H : Tn W b c (S3 c s r sh) u r sh T (inm c s r sh)) :
    Calls Tryz.prog 31 #[.pointer (some ⟨u, 0, none⟩)] W fun e w' => e = .returned (.int .i64 (sus c s r sh)) ∧ Below W.heap.size W w' := by
  have hs := sus_lt (evs c s r sh) (G c 9)
  have hlen : (evs c s r sh).length = (inl c s r sh).length := by unfold evs; rw [List.length_map]
  refine suspect_any hc hR (ok3 hR hr hO) (in_val hR hr) H (evs c s r sh) ((inl c s r sh).map fun i : Nat => (i : Int)) (ths_in hR _) (ths_in hR _) _ rfl ?_ (sus c s r sh) ?_
  · rw [List.length_map]; omega
  · unfold sus
    rcases hs with e | ⟨h1, h2⟩
    · rw [e]; rfl
    · rw [if_neg (by omega), if_neg (by omega), map_getD (by omega)]
theorem st_learn (hc : c.length = 21) (hR : Cf.Right c) (hr : Rok c r) (hO : Ok c s) {T : Nat → Int} {m : Int} (H : Tn W b c (S3 c s r sh) u r sh T m) :
    Calls Tryz.prog 32 #[.pointer (some ⟨u, 0, none⟩)] W fun e w' => e = .returned (.tuple #[]) ∧ Tn w' b c (S4 c s r sh) u r sh T m ∧ But (Us b c u) W w' := by
  refine (learn_any hc hR (ok3 hR hr hO) H).mono fun e w' q => ⟨q.1, ?_, q.2.2⟩
  refine q.2.1.congr rfl rfl fun i hi => ?_
  show mx _ _ _ i = { nW s r i with lev := lev c s r sh i, off := off c s r sh i }
  by_cases his : (r i).is = true
  · rw [mx_yes (flt.2 ⟨hi, his⟩)]
    unfold off; rw [if_pos his]; rfl
  · rw [mx_not fun q => his (flt.1 q).2]
    unfold off; rw [if_neg his]; rfl
theorem st_latch (hc : c.length = 21) (hR : Cf.Right c) (hr : Rok c r) (hO : Ok c s) {m : Int} (H : Tn W b c (S4 c s r sh) u r sh (tri c s r sh) m) :
    Calls Tryz.prog 33 #[.pointer (some ⟨u, 0, none⟩)] W fun e w' => e = .returned (.agg (ev4 (evi c s r sh)).toArray) ∧ Tn w' b c (nxt c s r sh) u r sh (tri c s r sh) m ∧ But (Us b c u) W w' := by
  refine (latch_any hc hR (ok4 hR hr hO) H).mono fun e w' q => ⟨?_, ?_, q.2.2⟩
  · have e : mx (List.range (NN c)) (whT c (S4 c s r sh) (tri c s r sh)) z4 = evi c s r sh := by
      funext i
      unfold mx evi z4
      simp only [List.mem_range]
      split
      · rename_i hi
        unfold whT wha tr tri; rw [if_pos hi]; rfl
      · rfl
    rw [← e]; exact q.1
  · refine q.2.1.congr rfl rfl fun i hi => ?_
    show mx _ _ _ i = _
    rw [mx_yes (List.mem_range.2 hi)]
    unfold nA nxt lat tr tri; rw [if_pos hi]; rfl
end
end Sg
end Go.Proofs.YtacclmfbkiadbaaGreat

namespace Go.Proofs.YtacclmfbkiadbaaGreat
set_option maxRecDepth 100000
open Go.ChangeShapes Go.WideShapes Go.ChangeAt Go.RowKit Go.Deep Go.Shelf
namespace Sg
open Cf (G CA)
open Rf
attribute [local go_sem] Oper.semAt_some
def laf (s : Si) (i : Nat) : Bool := (s.ch i).st.la
theorem la_mask (c : List Int) (s : Si) : mk4 (mx (List.range (NN c)) (laf s) fun _ => false) = lam c s := by
  unfold lam
  congr 1
  funext i
  unfold mx laf
  by_cases h : i < NN c <;> simp [h]
set_option maxRecDepth 100000 in
set_option maxHeartbeats 3200000 in
theorem latched_any {W : World} {b : Nat → Nat} {c : List Int} {s : Si} (hc : c.length = 21) (hR : Cf.Right c) (H : Lie W b c s) :
    Calls Tryz.prog 13 #[.pointer (some ⟨b 0, 0, none⟩)] W fun e w' => e = .returned (.int .i64 (lam c s)) ∧ Below W.heap.size W w' := by
  have hN := NN_34 hR
  refine (callsIn_wide (n := 5)).1 ?_
  refine callsIn_of_wp_marks Tryz.func13 rfl trivial ?_ rfl
  simp only [Tryz.ntmps13, List.size_toArray, List.length_cons, List.length_nil, Nat.reduceAdd, Nat.reduceSub, Array.replicate_succ, Array.replicate_zero, List.push_toArray, List.append_toArray, List.nil_append, List.cons_append]
  gi_wp2_with (refine ⟨trivial, ?_⟩; gi_at_call 40; refine (callsIn_wide.2 (all_any _ _)).mono ?_; rintro e w2 ⟨rfl, rfl⟩)
  have bR := (VRow.new W (bl4 fun _ => false) 93).alloc (.cells #[.pointer (some ⟨b 0, 0, none⟩)] 27)
  have b3 := Boxed.new (W.alloc (.cells #[.bool false, .bool false, .bool false, .bool false] 93)) 27 (.pointer (some ⟨b 0, 0, none⟩))
  rw [World.size_alloc] at b3
  rw [show (bl4 fun _ => false).toArray = #[.bool false, .bool false, .bool false, .bool false] from rfl] at bR
  have hB0 := ((Below.refl W.heap.size W).alloc (Nat.le_refl _) (.cells #[.bool false, .bool false, .bool false, .bool false] 93)).alloc (by simp) (.cells #[.pointer (some ⟨b 0, 0, none⟩)] 27)
  have hsz : ((W.alloc (.cells #[.bool false, .bool false, .bool false, .bool false] 93)).alloc (.cells #[.pointer (some ⟨b 0, 0, none⟩)] 27)).heap.size = W.heap.size + 2 := by simp
  generalize (W.alloc (.cells #[.bool false, .bool false, .bool false, .bool false] 93)).alloc (.cells #[.pointer (some ⟨b 0, 0, none⟩)] 27) = W0 at *
  have H0 := H.keep (But.of_below (S := fun _ => False) hB0) fun _ _ q => q
  have HH := Lib.hid H
  have h3 := b3.cell
  obtain ⟨cap0, hrow0⟩ := H0.row hc
  clear H
  refine range_goes rfl (by omega) (gf := 84) (lb := #[.pointer (some ⟨W.heap.size + 1, 0, none⟩)]) rfl trivial (enters_of Tryz.func84 (by kernel_rfl) rfl)
    (Kp := Kc (fun p => p.block < W.heap.size) (W0.heap.size + 2))
    (fun V hV hs => all_goes _ (by omega) (W.heap.size + 1) (b 0) (b 2) cap0 b (NN c) _ _ (by omega) _ V ((hV.cell (p := ⟨_, 0, none⟩) (cell_blk h3)).trans h3) ((hV.cell (p := ⟨_, 22, none⟩) (cell_blk hrow0)).trans hrow0) (fun i hi => (H0.keep (But.of_below (S := fun _ => False) hV) fun _ _ q => q).at hi) (fun i => HH.out.lt ⟨2, by unfold pn; omega, rfl⟩))
    Kc.trans (fun X k o o' _ h2 h3 h4 => Kc.put h2 h3 h4) (fun _ => by rfl)
    (fun pre X => VRow X W.heap.size 93 (bl4 (mx (pre.map Fin.val) (laf s) fun _ => false)) ∧ Below W.heap.size W X)
    (fun _ _ _ => False)
    (OwnFrom.and (own_row _ _ _ _) (ownFrom_below (Nat.le_refl _) (by omega)))
    (fun _ _ _ _ _ hs _ _ => hs)
    ⟨by rw [List.map_nil, mx_nil]; exact bR, hB0⟩
    (fun x => { tmps := #[.pointer (some ⟨b 0, 0, none⟩), undef, .int .i64 0, .pointer (some ⟨W.heap.size, 0, none⟩), .int .i64 x.val, .pointer (some ⟨xb b x.val, 0, none⟩), .pointer (some ⟨b 0, 0, none⟩), .bool false, .pointer (some ⟨b 0, 0, none⟩), .func (.func 84) #[] #[.pointer (some ⟨W.heap.size + 1, 0, none⟩)], .int .i64 x.val, .pointer (some ⟨xb b x.val, 0, none⟩), undef, undef, undef, undef, undef, undef, undef, undef, undef], defers := [] }) ?assign ?body ?done ?stop
  case assign =>
    intro l x W K hK
    dsimp only [enca]
    gi_wp2
    exact hK
  case body =>
    rintro lp pre x X ⟨bxR, hB⟩ hlen hG
    have hx := x.isLt
    have hx4 : x.val < 4 := by omega
    have hxi : (x.val : Int) < 4 := by omega
    have HX := HH.out.keep (But.of_below (S := fun _ => False) hB) fun _ _ q => q
    have q3 := (HX.chs x.val hx).own.cell 4 (v := .bool (s.ch x.val).st.la) rfl
    have HMP := Lib.hid (show (pre ++ [x]).map Fin.val = pre.map Fin.val ++ [x.val] by simp)
    have fR := bxR.frozen x.val
    have cR : ∃ q, X.cell? ⟨W.heap.size, x.val, none⟩ = some (.bool q) := by
      have : x.val = 0 ∨ x.val = 1 ∨ x.val = 2 ∨ x.val = 3 := by omega
      rcases this with e | e | e | e <;> (rw [e]; exact ⟨_, bxR.cell _ rfl⟩)
    obtain ⟨q0, cR⟩ := cR
    have HK := Lib.hid (show VRow (X.setCell ⟨W.heap.size, x.val, none⟩ (.bool (s.ch x.val).st.la)) W.heap.size 93 (bl4 (mx (pre.map Fin.val ++ [x.val]) (laf s) fun _ => false)) ∧ Below W.heap.size W (X.setCell ⟨W.heap.size, x.val, none⟩ (.bool (s.ch x.val).st.la)) ∧ Below W.heap.size X (X.setCell ⟨W.heap.size, x.val, none⟩ (.bool (s.ch x.val).st.la)) from by
      refine ⟨?_, hB.setCell (p := ⟨W.heap.size, x.val, none⟩) (Nat.le_refl _) _, (Below.refl _ X).setCell (p := ⟨W.heap.size, x.val, none⟩) (Nat.le_refl _) _⟩
      rw [← mx_snoc _ _ _ _ (s.ch x.val).st.la rfl, ← bl4_set hx4]
      exact bxR.set x.val _)
    clear HX bxR hB hlen H0 bR b3 hB0 hsz h3 hrow0
    generalize (s.ch x.val).st.la = la at *
    gi_wp2
    refine ⟨(KeepsOthers.setCell _ _ _).from _, ⟨fun p w hp hc => (HK.out.2.2.cell (p := p) hp).trans hc, (KeepsOthers.setCell _ _ _).from _⟩, ?_, HK.out.2.1⟩
    rw [HMP.out]; exact HK.out.1
  case done =>
    rintro D ys X hD hys ⟨bxR, hB⟩ hK
    rw [hys] at bxR
    have HB := Lib.hid (bl4_bools bxR)
    have HM := Lib.hid (la_mask c s)
    have CB := Fx.bits_any (some ⟨W.heap.size, 0, none⟩) 4 _ X (by simp) HB.out
    rw [bits4, HM.out] at CB
    simp only [List.length_cons, List.length_nil] at CB
    have HBB := Lib.hid hB
    clear hB bxR H0 bR b3 hB0 h3 hrow0
    obtain ⟨lm, hlm⟩ : ∃ lm, lam c s = lm := ⟨_, rfl⟩
    rw [hlm] at CB
    have HLM := Lib.hid hlm
    clear hlm
    gi_wp2_with (refine ⟨trivial, ?_⟩; gi_at_call 41; refine (callsIn_wide.2 CB).mono ?_; rintro e w' ⟨rfl, rfl⟩)
    refine ⟨by simp, .inl ⟨_, _, rfl, run_takeDeferred hK, ?_⟩⟩
    exact ⟨_, results_tmp rfl _ _ _, (by rw [HLM.out]; rfl), HBB.out.trans (belowK_b (w := W) (Nat.le_refl _) X D _ _ (by omega) hK rfl rfl)⟩
  case stop =>
    rintro D cc pre X _ _ h _
    exact h.elim
end Sg
end Go.Proofs.YtacclmfbkiadbaaGreat

namespace Go.Proofs.YtacclmfbkiadbaaGreat
set_option maxRecDepth 100000
open Go.ChangeShapes Go.WideShapes Go.ChangeAt Go.RowKit Go.Deep Go.Shelf
namespace Sg
open Cf (G CA)
theorem zres_one : zres.toArray.all (·.oneCell') = true := by simp [zres, Value.oneCell']
theorem sizeRw : (Tryz.prog.info? 42).map (·.size) = some 8 := by kernel_rfl
theorem sizeRs : (Tryz.prog.info? 37).map (·.size) = some 13 := by kernel_rfl
theorem aggRs (w : World) : (isAgg 37).run Tryz.prog w = .ok true w := by simp [isAgg, run_underlying Tryz.underlying37]
theorem sizeE4 : (Tryz.prog.info? 22).map (·.size) = some 4 := by kernel_rfl
theorem aggE4 (w : World) : (isAgg 22).run Tryz.prog w = .ok true w := by simp [isAgg, run_underlying Tryz.underlying22]
theorem built_turn (g : Nat) (r : Nat → Rw) (sh : Int) : Tryz.prog.built 82 [(0, .pointer (some ⟨g, 0, none⟩)), (1, .agg (raw8 r).toArray), (2, .int .i64 sh)] = some (tnr g r sh z4 0).toArray := by
  refine Eq.trans ?_ rfl
  kernel_rfl
/-- A whole struct loaded, in a region that draws, wherever its cells lie. -/
theorem wpQuiet_row {ops : Array Oper} {C : World → Prop} {Q : Act → Prop} {o : Oper} {rest : List Oper} {a : Act} {t : TypeId} (hw : Region.wanted o (yielded ops a.tmps) = true) (x : Operand) (ho : o.op = .load t x)
    (b off : Nat) (cs : List Value) (hx : a.eval x = .pointer (some ⟨b, off, none⟩)) (hb : ∀ w, C w → ∀ (j : Nat) v, cs[j]? = some v → w.cell? ⟨b, off + j, none⟩ = some v) (hA : ∀ w, (isAgg t).run Tryz.prog w = .ok true w) (hi : (Tryz.prog.info? t).map (·.size) = some cs.length)
    (h : wpQuiet Tryz.prog ops C Q rest (a.put o.dst (.agg cs.toArray))) : wpQuiet Tryz.prog ops C Q (o :: rest) a := by
  unfold wpQuiet
  rw [if_pos hw]
  refine ⟨.agg cs.toArray, fun w hC => ?_, h⟩
  have e : (loadVar t ⟨b, off, none⟩).run Tryz.prog w = .ok (.agg cs.toArray) w := by
    have h1 := run_loadCells_list (P := Tryz.prog) w ⟨b, off, none⟩ cs (fun j v hv => by rw [add_plain]; exact hb w hC j v hv)
    cases hq : Tryz.prog.info? t with | none => simp [hq] at hi | some i =>
      have hs : i.size = cs.length := by simpa [hq] using hi
      simp [loadVar, hA, sizeOf, typeInfo, hq, hs, h1, Result.andThen]
  unfold Oper.quietAt execOp
  simp only [ho, hx, Instr.loadAt, Instr.sureAddr, Sem.run_bind, Sem.run_pure, Result.andThen_ok, e]
  exact ⟨rfl, rfl⟩
set_option maxRecDepth 100000 in
set_option maxHeartbeats 800000 in
theorem step_no {W : World} {b : Nat → Nat} {c : List Int} {s : Si} {r : Nat → Rw} {sh : Int} (hc : c.length = 21) (hR : Cf.Right c) (H : Lie W b c s) (hn : okb c r sh = false) :
    Calls Tryz.prog 8 #[.pointer (some ⟨b 0, 0, none⟩), .agg (raw8 r).toArray, .int .i64 sh] W fun e w' => e = .returned (.tuple #[.agg zres.toArray, .int .i64 1]) ∧ Below W.heap.size W w' := by
  have hlW := fun k (hk : In b c k) => H.lt hk
  have RA := Lib.hid (show VRow ((W.alloc (.cells (raw8 r).toArray 42)).alloc (.cells zres.toArray 37)) W.heap.size 42 (raw8 r) from (VRow.new W (raw8 r) _).alloc _)
  have hs1 : (W.alloc (.cells (raw8 r).toArray 42)).heap.size = W.heap.size + 1 := by simp
  have hs2 : ((W.alloc (.cells (raw8 r).toArray 42)).alloc (.cells zres.toArray 37)).heap.size = W.heap.size + 2 := by simp
  have b2 := ((Below.refl W.heap.size W).alloc (Nat.le_refl _) (.cells (raw8 r).toArray 42)).alloc (by omega) (.cells zres.toArray 37)
  have RB0 := VRow.new (W.alloc (.cells (raw8 r).toArray 42)) zres 37
  rw [hs1] at RB0
  obtain ⟨z, hz⟩ : ∃ z, z = (tnr (b 0) r sh z4 0).toArray := ⟨_, rfl⟩
  have HZ := Lib.hid hz
  have b3 := b2.alloc (by omega) (.cells z 82)
  have RB := Lib.hid (RB0.alloc (.cells z 82))
  have TT := Lib.hid (show Tn (((W.alloc (.cells (raw8 r).toArray 42)).alloc (.cells zres.toArray 37)).alloc (.cells z 82)) b c s (W.heap.size + 2) r sh z4 0 from
    ⟨H.keep (But.of_below (S := fun _ => False) b3) fun _ _ q => q, by rw [hz, ← hs2]; exact VRow.new _ _ _, fun q => by have := hlW _ q; omega⟩)
  have BB := Lib.hid b3
  have hnU : ¬ Us b c (W.heap.size + 2) (W.heap.size + 1) := by
    rintro (q | q)
    · have := hlW _ q; omega
    · omega
  have BT := Lib.hid (built_turn (b 0) r sh)
  clear hs1 hs2 b2 b3 RB0 hz
  have CRT := right_any hc hR TT.out
  rw [hn] at CRT
  rw [show zres.toArray = #[.int .i64 0, .int .i64 0, .int .i64 0, .int .i64 0, .bool false, .int .i64 0, .int .i64 0, .int .i64 0, .int .i64 0, .int .i64 0, .int .i64 0, .int .i64 0, .int .i64 0] from rfl] at CRT TT BB RB RA
  clear H hlW hnU hn hR
  go_enter Tryz.func8, Tryz.ntmps8
  go_wp2_with (first | ((with_reducible show wpList _ _ _ (⟨some 15, _, _, _, _, _⟩ :: _) _ _); refine VB.loaded rfl _ rfl W.heap.size rfl RA.out Tryz.underlying42 rfl sizeRw ?_) | ((with_reducible show wpList _ _ _ (⟨some 17, _, _, _, _, _⟩ :: _) _ _); refine wpList_buildTo rfl _ _ rfl z (by rw [HZ.out]; simp only [List.map_toArray, List.map_cons, List.map_nil]; exact BT.out) ?_) | (go_at_call 25; refine CRT.mono ?_; clear CRT; rintro e w2 ⟨rfl, b2⟩; have RB2 := Lib.hid (RB.out.below b2 RB.out.lt); have BB2 := Lib.hid (grow BB.out b2); have TT2 := Lib.hid (TT.out.on b2); clear b2) | ((with_reducible show wpList _ _ _ (⟨none, .store _ (.tmp 6) _, _, _, _, _⟩ :: _) _ _); refine VB.store rfl _ _ rfl (W.heap.size + 1) zres rfl rfl RB2.out sizeRs rfl zres_one ?_))
  have hbw := Below.put BB2.out (g := W.heap.size + 1) (by omega) zres.toArray
  have hrw := VRow.put RB2.out zres
  generalize w2.setRow (W.heap.size + 1) zres.toArray = w3 at *
  refine bodyPost_ret (v := .tuple #[.agg zres.toArray, .int .i64 1]) ?_ rfl ⟨rfl, hbw⟩
  exact (VB.ret2 (cs := zres) (p := 6) (u := 7) (ty := 37) rfl rfl (aggRs _) sizeRs hrw).trans rfl
end Sg
end Go.Proofs.YtacclmfbkiadbaaGreat

namespace Go.Proofs.YtacclmfbkiadbaaGreat
set_option maxRecDepth 100000
open Go.ChangeShapes Go.WideShapes Go.ChangeAt Go.RowKit Go.Deep Go.Shelf
namespace Sg
open Cf (G CA)
/-- None is in just if the mask is nil. -/
theorem inm_any {c : List Int} {s : Si} {r : Nat → Rw} {sh : Int} (hR : Cf.Right c) : (inm c s r sh == 0) = !any c s r sh := by
  cases ha : any c s r sh
  · have h0 : inl c s r sh = [] := by unfold any at ha; simpa using ha
    have hn : ∀ i, i < NN c → isin c s r sh i = false := fun i hi => by
      cases h : isin c s r sh i
      · rfl
      · have := inl_iff.2 ⟨hi, h⟩
        rw [h0] at this; cases this
    have hf : ∀ i, (decide (i < NN c) && isin c s r sh i) = false := fun i => by
      by_cases hi : i < NN c
      · rw [hn i hi]; simp
      · simp [hi]
    unfold inm mk4
    simp [hf]
  · have h0 := any_iff.1 ha
    obtain ⟨i, hi⟩ := List.exists_mem_of_ne_nil _ h0
    obtain ⟨h1, h2⟩ := inl_iff.1 hi
    have h3 := inm_has (s := s) (r := r) (sh := sh) hR h1
    rw [h2] at h3
    show _ = false
    rw [beq_eq_false_iff_ne]
    intro e
    rw [e] at h3
    simp [Fx.has] at h3
theorem ev_one (f : Nat → Int) : (ev4 f).toArray.all (·.oneCell') = true := by simp [ev4, Value.oneCell']
set_option maxRecDepth 100000 in
set_option maxHeartbeats 1600000 in
theorem step_yes {W : World} {b : Nat → Nat} {c : List Int} {s : Si} {r : Nat → Rw} {sh : Int} (hc : c.length = 21) (hR : Cf.Right c) (hr : Rok c r) (hO : Ok c s) (H : Lie W b c s) (hn : okb c r sh = true) :
    Calls Tryz.prog 8 #[.pointer (some ⟨b 0, 0, none⟩), .agg (raw8 r).toArray, .int .i64 sh] W fun e w' => e = .returned (.tuple #[.agg (res c s r sh).toArray, .int .i64 0]) ∧ Lie w' b c (nxt c s r sh) ∧ But (In b c) W w' := by
  have hlW := fun k (hk : In b c k) => H.lt hk
  have RA := Lib.hid (show VRow ((W.alloc (.cells (raw8 r).toArray 42)).alloc (.cells zres.toArray 37)) W.heap.size 42 (raw8 r) from (VRow.new W (raw8 r) _).alloc _)
  have hs1 : (W.alloc (.cells (raw8 r).toArray 42)).heap.size = W.heap.size + 1 := by simp
  have hs2 : ((W.alloc (.cells (raw8 r).toArray 42)).alloc (.cells zres.toArray 37)).heap.size = W.heap.size + 2 := by simp
  have b2 := ((Below.refl W.heap.size W).alloc (Nat.le_refl _) (.cells (raw8 r).toArray 42)).alloc (by omega) (.cells zres.toArray 37)
  have RB0 := VRow.new (W.alloc (.cells (raw8 r).toArray 42)) zres 37
  rw [hs1] at RB0
  obtain ⟨z, hz⟩ : ∃ z, z = (tnr (b 0) r sh z4 0).toArray := ⟨_, rfl⟩
  have HZ := Lib.hid hz
  have b3 := b2.alloc (by omega) (.cells z 82)
  have RB := Lib.hid (RB0.alloc (.cells z 82))
  have TT := Lib.hid (show Tn (((W.alloc (.cells (raw8 r).toArray 42)).alloc (.cells zres.toArray 37)).alloc (.cells z 82)) b c s (W.heap.size + 2) r sh z4 0 from
    ⟨H.keep (But.of_below (S := fun _ => False) b3) fun _ _ q => q, by rw [hz, ← hs2]; exact VRow.new _ _ _, fun q => by have := hlW _ q; omega⟩)
  have BB := Lib.hid b3
  have hnU : ¬ Us b c (W.heap.size + 2) (W.heap.size + 1) := by
    rintro (q | q)
    · have := hlW _ q; omega
    · omega
  have BT := Lib.hid (built_turn (b 0) r sh)
  clear hs1 hs2 b2 b3 RB0 hz
  have CRT := right_any hc hR TT.out
  rw [hn] at CRT
  rw [show zres.toArray = #[.int .i64 0, .int .i64 0, .int .i64 0, .int .i64 0, .bool false, .int .i64 0, .int .i64 0, .int .i64 0, .int .i64 0, .int .i64 0, .int .i64 0, .int .i64 0, .int .i64 0] from rfl] at CRT TT BB RB RA
  have HLW := Lib.hid hlW
  clear H hlW hn
  go_enter Tryz.func8, Tryz.ntmps8
  go_wp2_with (first | ((with_reducible show wpList _ _ _ (⟨some 15, _, _, _, _, _⟩ :: _) _ _); refine VB.loaded rfl _ rfl W.heap.size rfl RA.out Tryz.underlying42 rfl sizeRw ?_) | ((with_reducible show wpList _ _ _ (⟨some 17, _, _, _, _, _⟩ :: _) _ _); refine wpList_buildTo rfl _ _ rfl z (by rw [HZ.out]; simp only [List.map_toArray, List.map_cons, List.map_nil]; exact BT.out) ?_) | (go_at_call 25; refine CRT.mono ?_; clear CRT; rintro e w2 ⟨rfl, b2⟩; have RB2 := Lib.hid (RB.out.below b2 RB.out.lt); have BB2 := Lib.hid (grow BB.out b2); have TT2 := Lib.hid (TT.out.on b2); have BU2 := Lib.hid (But.of_below (S := Us b c (W.heap.size + 2)) BB2.out); clear b2) | (go_at_call 26; refine (st_watch hc hR hr hO TT2.out).mono ?_; rintro e w3 ⟨rfl, h3, b3⟩; have TT3 := Lib.hid h3; have RB3 := Lib.hid (RB2.out.but b3 hnU); have BU3 := Lib.hid (BU2.out.trans b3); clear h3 b3) | (go_at_call 27; refine (st_enter hc hR TT3.out).mono ?_; rintro e w4 ⟨rfl, h3, b3⟩; have TT4 := Lib.hid h3; have RB4 := Lib.hid (RB3.out.but b3 hnU); have BU4 := Lib.hid (BU3.out.trans b3); clear h3 b3) | (go_at_call 28; refine (st_drift hc hR hr hO TT4.out).mono ?_; rintro e w5 ⟨rfl, h3, b3⟩; have TT5 := Lib.hid h3; have RB5 := Lib.hid (RB4.out.but b3 hnU); have BU5 := Lib.hid (BU4.out.trans b3); clear h3 b3) | (go_at_call 29; refine (st_vote hc hR hr hO TT5.out).mono ?_; rintro e w6 ⟨rfl, h3, b3⟩; have TT6 := Lib.hid h3; have RB6 := Lib.hid (RB5.out.but b3 hnU); have BU6 := Lib.hid (BU5.out.trans b3); clear h3 b3) | (go_at_call 30; refine (st_compare hc hR hr hO TT6.out).mono ?_; rintro e w7 ⟨rfl, h3, b3⟩; have TT7 := Lib.hid h3; have RB7 := Lib.hid (RB6.out.but b3 hnU); have BU7 := Lib.hid (BU6.out.trans b3); clear h3 b3) | (go_at_call 31; refine (st_suspect hc hR hr hO TT7.out).mono ?_; rintro e w8 ⟨rfl, b3⟩; have TT8 := Lib.hid (TT7.out.on b3); have RB8 := Lib.hid (RB7.out.below b3 RB7.out.lt); have BU8 := Lib.hid (BU7.out.grow b3); clear b3) | (go_at_call 32; refine (st_learn hc hR hr hO TT8.out).mono ?_; rintro e w9 ⟨rfl, h3, b3⟩; have TT9 := Lib.hid h3; have RB9 := Lib.hid (RB8.out.but b3 hnU); have BU9 := Lib.hid (BU8.out.trans b3); clear h3 b3) | (go_at_call 33; refine (st_latch hc hR hr hO TT9.out).mono ?_; rintro e w10 ⟨rfl, h3, b3⟩; have TT10 := Lib.hid h3; have RB10 := Lib.hid (RB9.out.but b3 hnU); have BU10 := Lib.hid (BU9.out.trans b3); have EB := Lib.hid (show VRow (w10.alloc (.cells #[.int .i64 0, .int .i64 0, .int .i64 0, .int .i64 0] 22)) w10.heap.size 22 [.int .i64 0, .int .i64 0, .int .i64 0, .int .i64 0] from VRow.new w10 _ _); clear h3 b3) | ((with_reducible show wpList _ _ _ (⟨none, .store _ (.tmp 10) _, _, _, _, _⟩ :: _) _ _); refine VB.store rfl _ _ rfl w10.heap.size (ev4 (evi c s r sh)) rfl rfl EB.out sizeE4 rfl (ev_one _) ?_))
  have hu1 := TT10.out.lt (k := W.heap.size + 2) (.inr rfl)
  have hbe := ((But.of_below (S := fun _ => False) ((Below.refl w10.heap.size w10).alloc (Nat.le_refl _) (.cells #[.int .i64 0, .int .i64 0, .int .i64 0, .int .i64 0] 22)))).put (.inr (Nat.le_refl _)) (ev4 (evi c s r sh)).toArray
  have EV := Lib.hid (VRow.put EB.out (ev4 (evi c s r sh)))
  have TTe := Lib.hid (show Tn _ b c (nxt c s r sh) (W.heap.size + 1 + 1) r sh (tri c s r sh) (inm c s r sh) from TT10.out.keep hbe fun _ _ q => q)
  have RBe := Lib.hid (RB10.out.but hbe fun q => q)
  have BUe := Lib.hid (BU10.out.trans (hbe.mono fun _ q => q.elim))
  have HHC := Lib.hid (And.intro hc hR)
  clear EB TT10 RB10 BU10 hbe TT9 TT8 TT7 TT6 TT5 TT4 TT3 TT2 TT RB9 RB8 RB7 RB6 RB5 RB4 RB3 RB2 RB RA BU9 BU8 BU7 BU6 BU5 BU4 BU3 BU2 BB2 BB BT HZ hr hO hc hR
  generalize World.setRow _ w10.heap.size (ev4 (evi c s r sh)).toArray = X at *
  generalize w10.heap.size = ev at *
  simp only [Act.put]
  refine Wr.wp_w0 (aF := ?_) [23] 62 [true, true, true, true, true, true, true, true, true, true, true, true, true, true, true, true, true, true, true, true, true, true, true, false, true]
    (fun k Y => match k with
      | 0 => But (fun _ => False) X Y
      | _ => But (fun k => k = W.heap.size + 1) X Y ∧ VRow Y (W.heap.size + 1) 37 [.int .i64 (val c s r sh), .int .i64 (inm c s r sh), .int .i64 (lam c (nxt c s r sh)), .int .i64 (sus c s r sh), .bool (inm c s r sh == 0), .int .i64 (tri c s r sh 0), .int .i64 (tri c s r sh 1), .int .i64 (tri c s r sh 2), .int .i64 (tri c s r sh 3), .int .i64 (evi c s r sh 0), .int .i64 (evi c s r sh 1), .int .i64 (evi c s r sh 2), .int .i64 (evi c s r sh 3)])
    (fun Y => But (fun k => k = W.heap.size + 1) X Y)
    (by kernel_rfl) (by kernel_rfl) (by kernel_rfl) ?ha ?hMC ?hMg ?h0 ?hq ?hw ?hend
  case hq =>
    intro Y hY
    have HY : Tn Y b c (nxt c s r sh) (W.heap.size + 1 + 1) r sh (tri c s r sh) (inm c s r sh) := TTe.out.keep hY fun k hk e => hnU (e ▸ hk)
    have k1 := cell_regrown (show Y.cell? ⟨b 0, 23, none⟩ = some (.int .i64 (val c s r sh)) from HY.lie.val HHC.out.1)
    have k2 := cell_regrown HY.inn
    have HEV := EV.out.but hY (show ¬ ev = W.heap.size + 1 by omega)
    have HTR := Lib.hid (show ∀ w, (∃ p : Regrown, w = Sort.grow (redrawn Y p.d) p.os) → ∀ (j : Nat) v, (ev4 (tri c s r sh))[j]? = some v → w.cell? ⟨W.heap.size + 1 + 1, 10 + j, none⟩ = some v by
      rintro w ⟨p, rfl⟩ j v hj
      have H2 := HY.on (below_regrown Y p.d p.os)
      match j, hj with
      | 0, hj => cases hj; exact H2.trp (i := 0) (by omega)
      | 1, hj => cases hj; exact H2.trp (i := 1) (by omega)
      | 2, hj => cases hj; exact H2.trp (i := 2) (by omega)
      | 3, hj => cases hj; exact H2.trp (i := 3) (by omega))
    have HEE := Lib.hid (show ∀ w, (∃ p : Regrown, w = Sort.grow (redrawn Y p.d) p.os) → ∀ (j : Nat) v, (ev4 (evi c s r sh))[j]? = some v → w.cell? ⟨ev, 0 + j, none⟩ = some v by
      rintro w ⟨p, rfl⟩ j v hj
      rw [Nat.zero_add]
      exact (HEV.below (below_regrown Y p.d p.os) HEV.lt).cell j hj)
    have cL := reg_call (w := Y) (fun Z B => latched_any HHC.out.1 HHC.out.2 (HY.on B).lie)
    clear HY HEV
    simp only [Lt.sel]
    repeat (first | ((with_reducible show wpQuiet _ _ _ _ (⟨some 59, _, _, _, _, _⟩ :: _) _); refine wpQuiet_row rfl _ rfl (W.heap.size + 1 + 1) 10 (ev4 (tri c s r sh)) rfl HTR.out aggE4 sizeE4 ?_; simp only [Act.put, List.setIfInBounds_toArray, List.set_cons_succ, List.set_cons_zero, ev4]) | ((with_reducible show wpQuiet _ _ _ _ (⟨some 60, _, _, _, _, _⟩ :: _) _); refine wpQuiet_row rfl _ rfl ev 0 (ev4 (evi c s r sh)) rfl HEE.out aggE4 sizeE4 ?_; simp only [Act.put, List.setIfInBounds_toArray, List.set_cons_succ, List.set_cons_zero, ev4]) | go_big_quiet_step (exact cL _ _))
    exact rfl
  case ha => rfl
  case hMC =>
    rintro (_ | k) Y hM
    · exact hM.mono fun _ q => q.elim
    · exact hM.1
  case hMg =>
    rintro (_ | k) Y Z hM hC
    · exact hM.grow hC.to
    · exact ⟨hM.1.grow hC.to, hM.2.below hC.to hM.2.lt⟩
  case h0 => exact But.refl _ _
  case hw =>
    rintro (_ | k) st o hs ho Y hM
    · obtain rfl : 23 = st := by simpa using hs
      obtain rfl := Option.some.inj ho
      have hR1 := RBe.out.but hM fun q => q
      refine wp_store_row 37 _ _ rfl (W.heap.size + 1) ([.int .i64 (val c s r sh), .int .i64 (inm c s r sh), .int .i64 (lam c (nxt c s r sh)), .int .i64 (sus c s r sh), .bool (inm c s r sh == 0), .int .i64 (tri c s r sh 0), .int .i64 (tri c s r sh 1), .int .i64 (tri c s r sh 2), .int .i64 (tri c s r sh 3), .int .i64 (evi c s r sh 0), .int .i64 (evi c s r sh 1), .int .i64 (evi c s r sh 2), .int .i64 (evi c s r sh 3)] : List Value).toArray rfl rfl 37 _ hR1 sizeRs rfl (by simp [Value.oneCell']) ?_
      exact ⟨_, rfl, trivial, (hM.mono (S' := fun k => k = W.heap.size + 1) fun _ q => q.elim).put (.inl rfl) _, hR1.put _⟩
    · simp at hs
  case hend =>
    intro Y hM
    have hM : But (fun k => k = W.heap.size + 1) X Y ∧ VRow Y (W.heap.size + 1) 37 _ := hM
    have hM1 := Lib.hid hM.1
    have hM2 := Lib.hid hM.2
    clear hM
    go_wp2_with fail
    refine bodyPost_ret (v := .tuple #[.agg (res c s r sh).toArray, .int .i64 0]) ?_ rfl ⟨rfl, ?_, ?_⟩
    · have e : (inm c s r sh == 0) = !any c s r sh := inm_any HHC.out.2
      have h2 := hM2.out
      rw [e] at h2
      exact (VB.ret2 (cs := res c s r sh) (p := 6) (u := 7) (ty := 37) rfl rfl (aggRs _) sizeRs h2).trans rfl
    · exact (TTe.out.keep hM1.out fun k hk e => hnU (e ▸ hk)).lie
    · have hB := (BUe.out.mono (S' := fun k => Us b c (W.heap.size + 2) k ∨ k = W.heap.size + 1) fun _ e => .inl e).trans (hM1.out.mono (S' := fun k => Us b c (W.heap.size + 2) k ∨ k = W.heap.size + 1) fun _ e => .inr e)
      refine ⟨hB.os, hB.tape, hB.output, hB.size, fun k hk hs => hB.block k hk ?_⟩
      rintro ((q | q) | q)
      · exact hs q
      · omega
      · omega
end Sg
end Go.Proofs.YtacclmfbkiadbaaGreat

namespace Go.Proofs.YtacclmfbkiadbaaGreat
set_option maxRecDepth 100000
open Go.ChangeShapes Go.WideShapes Go.ChangeAt Go.RowKit Go.Deep Go.Shelf
namespace Sg
open Cf (G CA)
/-- The face of the package. -/
def faced : Face where
  At W S g c s := ∃ b, Lie W b c s ∧ S = In b c ∧ g = b 0 ∧ c.length = 21
  lt := by
    rintro W S g c s ⟨b, H, rfl, rfl, hc⟩ j hj
    exact H.lt hj
  keep := by
    rintro W W' S T g c s ⟨b, H, rfl, rfl, hc⟩ B hT
    exact ⟨b, H.keep B hT, rfl, rfl, hc⟩
  new_yes := fun c w hc hR => (new_yes c w hc hR).mono fun e w' q => by
    obtain ⟨b, e1, h1, h2, h3⟩ := q
    exact ⟨⟨b 0, In b c, e1, ⟨b, h1, rfl, rfl, hc⟩, h2⟩, h3⟩
  new_no := fun c w hc hR => new_no c w hc hR
  step_yes := by
    rintro W S g c s r sh ⟨b, H, rfl, rfl, hc⟩ hR hO hr _
    refine (step_yes hc hR hr.1 hO H (okb_iff.2 hr)).mono fun e w' q => ?_
    exact ⟨q.1, In b c, ⟨b, q.2.1, rfl, rfl, hc⟩, q.2.2, fun j hj => .inl hj⟩
  step_no := by
    rintro W S g c s r sh ⟨b, H, rfl, rfl, hc⟩ hR hO hr
    refine step_no hc hR H ?_
    cases h : okb c r sh
    · rfl
    · exact absurd (okb_iff.1 h) hr
  value := by
    rintro W S g c s ⟨b, H, rfl, rfl, hc⟩
    exact (value_any hc H).mono fun e w' q => by
      obtain ⟨h1, h2⟩ := q
      subst h2
      exact ⟨h1, Below.refl _ _⟩
  latched := by
    rintro W S g c s ⟨b, H, rfl, rfl, hc⟩ hR
    exact latched_any hc hR H
  state_yes := by
    rintro W S g c s k ⟨b, H, rfl, rfl, hc⟩ hR hk
    exact state_yes hc H k hk
  state_no := by
    rintro W S g c s k ⟨b, H, rfl, rfl, hc⟩ hR hk
    exact state_no hc H k hk
  offset_yes := by
    rintro W S g c s k ⟨b, H, rfl, rfl, hc⟩ hR hk
    exact (offset_yes hc H k hk).mono fun e w' q => ⟨q.1, q.2 ▸ Below.refl _ _⟩
  offset_no := by
    rintro W S g c s k ⟨b, H, rfl, rfl, hc⟩ hR hk
    exact (offset_no hc H k hk).mono fun e w' q => ⟨q.1, q.2 ▸ Below.refl _ _⟩
end Sg
end Go.Proofs.YtacclmfbkiadbaaGreat

namespace Go.Proofs.YtacclmfbkiadbaaGreat
set_option maxRecDepth 100000
open Go.ChangeShapes Go.WideShapes Go.ChangeAt Go.RowKit Go.Deep Go.Shelf
namespace Sg
open Cf (G CA)
theorem value_nil (w : World) : Calls Tryz.prog 12 #[.pointer none] w fun e w' => e = .returned (.int .i64 0) ∧ Below w.heap.size w w' := by
  have B0 := Lib.hid (Below.refl w.heap.size w)
  go_enter Tryz.func12, Tryz.ntmps12
  go_wp2
  go_ret
  exact ⟨rfl, B0.out⟩
theorem latched_nil (w : World) : Calls Tryz.prog 13 #[.pointer none] w fun e w' => e = .returned (.int .i64 0) ∧ Below w.heap.size w w' := by
  have B0 := Lib.hid ((Below.refl w.heap.size w).alloc (Nat.le_refl _) (.cells #[.pointer none] 27))
  go_enter Tryz.func13, Tryz.ntmps13
  go_wp2
  go_ret
  exact ⟨rfl, Below.refl _ _⟩
theorem has_nil (k : Int) (w : World) : Calls Tryz.prog 43 #[.pointer none, .int .i64 k] w fun e w' => e = .returned (.bool false) ∧ w = w' := by
  go_enter Tryz.func43, Tryz.ntmps43
  go_wp2
  go_ret
  exact ⟨rfl, rfl⟩
theorem offset_nil (k : Int) (w : World) : Calls Tryz.prog 17 #[.pointer none, .int .i64 k] w fun e w' => e = .returned (.int .i64 0) ∧ Below w.heap.size w w' := by
  have CH := fun W => has_nil k W
  go_enter Tryz.func17, Tryz.ntmps17
  go_wp2_with fail
  refine (CH _).mono ?_; rintro e w' ⟨rfl, rfl⟩
  go_wp2
  go_ret
  exact ⟨rfl, Below.refl _ _⟩
theorem state_nil (k : Int) (w : World) : Calls Tryz.prog 15 #[.pointer none, .int .i64 k] w fun e w' => e = .returned (.tuple #[.agg (lav Lc.zer).toArray, .bool false]) ∧ Below w.heap.size w w' := by
  have C := has_nil k (w.alloc (.cells (lav Lc.zer).toArray 62))
  have V := Lib.hid (VRow.new w (lav Lc.zer) 62)
  have B0 := Lib.hid ((Below.refl w.heap.size w).alloc (Nat.le_refl _) (.cells (lav Lc.zer).toArray 62))
  go_enter Tryz.func15, Tryz.ntmps15
  go_wp2_with (first | (go_at_call 43; refine C.mono ?_; rintro e w' ⟨rfl, rfl⟩) | ((with_reducible show wpList _ _ _ (⟨none, .store _ (.tmp 4) _, _, _, _, _⟩ :: _) _ _); refine VB.store rfl _ _ rfl w.heap.size (lav Lc.zer) rfl rfl V.out sizeL' rfl (lav_one' _) ?_))
  refine bodyPost_ret (v := .tuple #[.agg (lav Lc.zer).toArray, .bool false]) ?_ rfl ⟨rfl, Below.put B0.out (Nat.le_refl _) _⟩
  exact (VB.ret2 (cs := lav Lc.zer) rfl rfl (aggL _) sizeL' (VRow.put V.out _)).trans rfl
theorem aggRz (w : World) : (isAgg 37).run Tryz.prog w = .ok true w := by simp [isAgg, run_underlying Tryz.underlying37]
theorem sizeRz : (Tryz.prog.info? 37).map (·.size) = some 13 := by kernel_rfl
set_option maxHeartbeats 1600000 in
theorem step_nil (r : Nat → Rw) (sh : Int) (w : World) : Calls Tryz.prog 8 #[.pointer none, .agg (raw8 r).toArray, .int .i64 sh] w fun e w' => e = .returned (.tuple #[.agg zres.toArray, .int .i64 1]) ∧ Below w.heap.size w w' := by
  have B0 := Lib.hid (((Below.refl w.heap.size w).alloc (Nat.le_refl _) (.cells (raw8 r).toArray 42)).alloc (by simp) (.cells zres.toArray 37))
  have V := Lib.hid (show VRow ((w.alloc (.cells (raw8 r).toArray 42)).alloc (.cells zres.toArray 37)) (w.heap.size + 1) 37 zres from by
    have h := VRow.new (w.alloc (.cells (raw8 r).toArray 42)) zres 37
    rwa [show (w.alloc (.cells (raw8 r).toArray 42)).heap.size = w.heap.size + 1 by simp] at h)
  go_enter Tryz.func8, Tryz.ntmps8
  go_wp2_with (first
    | ((with_reducible show wpList _ _ _ (⟨none, .store _ (.tmp 6) _, _, _, _, _⟩ :: _) _ _); refine VB.store rfl _ _ rfl (w.heap.size + 1) zres rfl rfl V.out sizeRz rfl zres_one ?_))
  refine bodyPost_ret (v := .tuple #[.agg zres.toArray, .int .i64 1]) ?_ rfl ⟨rfl, Below.put B0.out (by omega) _⟩
  exact (VB.ret2 (cs := zres) rfl rfl (aggRz _) sizeRz (VRow.put V.out _)).trans rfl
end Sg
end Go.Proofs.YtacclmfbkiadbaaGreat
