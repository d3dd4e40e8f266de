/-
  What goes through the channels of a signal, in package signal (all, valued: ranges over functions, one within the other's rounds), and what only reads: contracts by walking the Go text. Conditions: how a signal lies.
-/
import Derived.Test.YtpoededbmdffpaaGreatDoorSignalMem
import Derived.Test.YtpoededbmdffpaaGreatDoorRounds
import Derived.RegionTactic
import Derived.BigQuiet
import Derived.RangeFuncNested
import Derived.RangeFuncBound
import Derived.RangeFuncCalls
import Derived.RangeFuncLeaves
import Derived.Shelf.Abstract
import Derived.Shelf.RegionOpen
import Derived.OwnWalkIn
import Derived.TacticsInMore
import Derived.LoopNIn
import Derived.LoopIn
namespace Go.Proofs.YtpoededbmdffpaaGreatDoor
set_option maxRecDepth 100000
open Go.ChangeShapes Go.WideShapes Go.ChangeAt Go.RowKit Go.Deep Go.Shelf
namespace Sg
open Cf (G CA)
open Rf
attribute [local go_sem] Oper.semAt_some
/-- A channel's number, and the channel. -/
def enca (b : Nat → Nat) (N : Nat) (x : Fin N) : Array Value := #[.int .i64 x.val, .pointer (some ⟨xb b x.val, 0, none⟩)]
theorem all_any (g : Nat) (w : World) :
    Calls Tryz.prog 100 #[.pointer (some ⟨g, 0, none⟩)] w fun e w' => e = .returned (.func (.func 146) #[] #[.pointer (some ⟨w.heap.size, 0, none⟩)]) ∧ w' = w.alloc (.cells #[.pointer (some ⟨g, 0, none⟩)] 90) := by
  go_enter Tryz.func100, Tryz.ntmps100
  go_wp2
  go_ret
  exact ⟨rfl, rfl⟩
theorem valued_any (u : Nat) (w : World) :
    Calls Tryz.prog 156 #[.pointer (some ⟨u, 0, none⟩)] w fun e w' => e = .returned (.func (.func 191) #[] #[.pointer (some ⟨w.heap.size, 0, none⟩)]) ∧ w' = w.alloc (.cells #[.pointer (some ⟨u, 0, none⟩)] 234) := by
  go_enter Tryz.func156, Tryz.ntmps156
  go_wp2
  go_ret
  exact ⟨rfl, rfl⟩
set_option maxHeartbeats 1600000 in
/-- The iterator of all channels. -/
theorem all_goes (n : Nat) (hn : 1 ≤ n) (B g ar cap : Nat) (b : Nat → Nat) (N l Bk : Nat) (hN : N ≤ 4) (D : Addr → Prop) (V : World) (hB : V.cell? ⟨B, 0, none⟩ = some (.pointer (some ⟨g, 0, none⟩)))
    (hs : V.cell? ⟨g, 22, none⟩ = some (.slice (some ⟨ar, 0, none⟩) N cap)) (ha : ∀ i, i < N → V.cell? ⟨ar, i, none⟩ = some (.pointer (some ⟨xb b i, 0, none⟩))) (hD : ∀ i, D ⟨ar, i, none⟩) :
    Goes Fence.wide n Tryz.prog 146 #[.pointer (some ⟨B, 0, none⟩)] (enca b N) (Kc D Bk) (fun xs => xs.map Fin.val = List.range N) (fun _ => True) N (fun pre x => x.val ∉ pre.map Fin.val) l V := by
  intro J Jx _ _ hY h0
  refine callsIn_of_wp Tryz.func146 rfl trivial ?_ rfl
  simp only [Tryz.ntmps146, List.size_toArray, List.length_cons, List.length_nil, Nat.reduceAdd, Nat.reduceSub, Array.replicate_succ, Array.replicate_zero, List.push_toArray, List.append_toArray, List.nil_append, List.cons_append]
  gi_wp2
  have HA := Lib.hid ha
  clear ha hs hB
  gi_loopw [10] (fun i wr => ∃ (k : Nat) (pre : List (Fin N)), k ≤ N ∧ i = .int .i64 k ∧ pre.map Fin.val = List.range k ∧ J pre wr ∧ ∀ i, i < N → wr.cell? ⟨ar, i, none⟩ = some (.pointer (some ⟨xb b i, 0, none⟩)))
    (fun i _ => N - (intOf i).toNat)
  case atStart => exact ⟨0, [], Nat.zero_le _, rfl, rfl, h0, HA.out⟩
  case round =>
    obtain ⟨k, pre, hk, rfl, hpre, hJs, hc⟩ := hrel
    have hlenp : pre.length = k := by have := congrArg List.length hpre; simpa using this
    by_cases hlt : k < N
    · obtain ⟨fn, tmps, assign, body, hy, hYR⟩ := hY pre ⟨k, hlt⟩ wr hJs (by omega) (by rw [hpre]; simp)
      dsimp only [enca] at hy
      have hki : (k : Int) < (N : Int) := by omega
      have h1 := hc k hlt
      have HC := Lib.hid hc
      clear hc
      gi_wp2
      refine hYR.mono ?_
      rintro e W3 (⟨rfl, hJ3, hk3⟩ | ⟨rfl, hJx3, hk3⟩)
      · gi_wp2
        go_roundw
        case rel => exact ⟨k + 1, pre ++ [⟨k, hlt⟩], by omega, by simp, by rw [List.map_append, hpre, List.range_succ]; rfl, hJ3, fun i hi => hk3.1 _ _ (hD i) (HC.out i hi)⟩
        case measure => simp [intOf]; omega
      · gi_wp2
        refine bodyPost_ret (results_none rfl _ _ _) rfl ?_
        exact ⟨⟨_, rfl⟩, .inr ⟨_, trivial, hJx3⟩⟩
    · obtain rfl : k = N := by omega
      gi_wp2
      go_end0
      exact ⟨⟨_, rfl⟩, .inl ⟨pre, hpre, hJs⟩⟩
theorem cel {W : World} {p : Addr} {v : Value} (o : Obj) (h : W.cell? p = some v) : (W.alloc o).cell? p = some v := (((Below.refl W.heap.size W).alloc (Nat.le_refl _) o).cell (p := p) (cell_blk h)).trans h
theorem round_any {n m lp l : Nat} {P : Program} {fn : FuncId} {tmps : Array Value} {assign body : Code} {w : World} {R : Ending → World → Prop} (h : RoundIn Fence.wide n P l fn tmps assign body w R) : RoundIn (Fence.wide.inRound lp) m P l fn tmps assign body w R :=
  ⟨trivial, fun c cs _ => h.2 c cs (fun _ q => by cases q)⟩
/-- A channel with a value. -/
abbrev Vd (N : Nat) (r : Nat → Rw) : Type := { i : Nat // i < N ∧ (r i).is = true }
def encv (b : Nat → Nat) (N : Nat) (r : Nat → Rw) (x : Vd N r) : Array Value := #[.int .i64 x.1, .pointer (some ⟨xb b x.1, 0, none⟩)]
/-- Those of some that have a value. -/
def only (N : Nat) (r : Nat → Rw) (xs : List (Fin N)) : List (Vd N r) := xs.filterMap fun x => if h : (r x.val).is = true then some ⟨x.val, x.isLt, h⟩ else none
theorem only_yes {N : Nat} {r : Nat → Rw} (xs : List (Fin N)) (x : Fin N) (h : (r x.val).is = true) : only N r (xs ++ [x]) = only N r xs ++ [⟨x.val, x.isLt, h⟩] := by
  unfold only; rw [List.filterMap_append]; simp [h]
theorem only_no {N : Nat} {r : Nat → Rw} (xs : List (Fin N)) (x : Fin N) (h : (r x.val).is = false) : only N r (xs ++ [x]) = only N r xs := by
  unfold only; rw [List.filterMap_append]; simp [h]
theorem only_len {N : Nat} {r : Nat → Rw} (xs : List (Fin N)) : (only N r xs).length ≤ xs.length := List.length_filterMap_le _ _
theorem only_map {N : Nat} {r : Nat → Rw} (xs : List (Fin N)) : (only N r xs).map (·.1) = (xs.map Fin.val).filter fun i => (r i).is := by
  induction xs with
  | nil => rfl
  | cons x t ih =>
    unfold only at ih ⊢
    cases h : (r x.val).is
    · simp [h, ih]
    · simp [h, ih]
set_option maxRecDepth 100000 in
set_option maxHeartbeats 1600000 in
/-- The iterator of the channels with a value: it goes through all, in whose rounds it calls the body. -/
theorem valued_goes (n : Nat) (hn : 2 ≤ n) (B u g ar cap : Nat) (b : Nat → Nat) (r : Nat → Rw) (N l Bk : Nat) (hN : N ≤ 4) (D : Addr → Prop) (V : World) (hB : V.cell? ⟨B, 0, none⟩ = some (.pointer (some ⟨u, 0, none⟩))) (hg : V.cell? ⟨u, 0, none⟩ = some (.pointer (some ⟨g, 0, none⟩)))
    (hs : V.cell? ⟨g, 22, none⟩ = some (.slice (some ⟨ar, 0, none⟩) N cap)) (ha : ∀ i, i < N → V.cell? ⟨ar, i, none⟩ = some (.pointer (some ⟨xb b i, 0, none⟩))) (hr : ∀ i, i < N → V.cell? ⟨u, 1 + i * 2, none⟩ = some (.bool (r i).is))
    (hDa : ∀ i, D ⟨ar, i, none⟩) (hDr : ∀ i, i < N → D ⟨u, 1 + i * 2, none⟩) (hDB : D ⟨B, 0, none⟩) (hDn : ∀ p : Addr, V.heap.size ≤ p.block → D p) (hBk : Bk ≤ V.heap.size) :
    Goes Fence.wide n Tryz.prog 191 #[.pointer (some ⟨B, 0, none⟩)] (encv b N r) (Kc D Bk) (fun xs => xs.map (·.1) = (List.range N).filter fun i => (r i).is) (fun _ => True) N (fun pre x => x.1 ∉ pre.map (·.1)) l V := by
  intro J Jx hJ hJx hY h0
  have HD := Lib.hid (And.intro hDa (And.intro hDr (And.intro hDB hDn)))
  have HC := Lib.hid (And.intro hs (And.intro ha hr))
  clear hDa hDr hDB hDn hs ha hr
  refine callsIn_of_wp_marks Tryz.func191 rfl trivial ?_ rfl
  simp only [Tryz.ntmps191, List.size_toArray, List.length_cons, List.length_nil, Nat.reduceAdd, Nat.reduceSub, Array.replicate_succ, Array.replicate_zero, List.push_toArray, List.append_toArray, List.nil_append, List.cons_append]
  have hn1 : 1 ≤ n := by omega
  have BD := Lib.hid (And.intro hB hg)
  have k0 := (Boxed.new V 260 (.func (.yield l) #[] #[])).cell
  have k1 := cel (.cells #[.func (.yield l) #[] #[]] 260) hB
  have k2 := cel (.cells #[.func (.yield l) #[] #[]] 260) hg
  clear hB hg
  gi_wp2
  refine wpIn_wide.2 ?_
  go_step3
  refine (wpIn_wide (n := n)).1 ?_
  gi_wp2
  refine wpIn_label ?_
  gi_wp2_with (refine ⟨trivial, ?_⟩; gi_at_call 100; refine (callsIn_wide.2 (all_any _ _)).mono ?_; rintro e w2 ⟨rfl, rfl⟩)
  have HV := Lib.hid (((Below.refl V.heap.size V).alloc (Nat.le_refl _) (.cells #[.func (.yield l) #[] #[]] 260)).alloc (by simp) (.cells #[.pointer (some ⟨g, 0, none⟩)] 90))
  have hsz : ((V.alloc (.cells #[.func (.yield l) #[] #[]] 260)).alloc (.cells #[.pointer (some ⟨g, 0, none⟩)] 90)).heap.size = V.heap.size + 2 := by simp
  have j0 := Lib.hid (cel (.cells #[.pointer (some ⟨g, 0, none⟩)] 90) k0)
  have j1 : ((V.alloc (.cells #[.func (.yield l) #[] #[]] 260)).alloc (.cells #[.pointer (some ⟨g, 0, none⟩)] 90)).cell? ⟨V.heap.size + 1, 0, none⟩ = some (.pointer (some ⟨g, 0, none⟩)) := by
    have := (Boxed.new (V.alloc (.cells #[.func (.yield l) #[] #[]] 260)) 90 (.pointer (some ⟨g, 0, none⟩))).cell
    rwa [World.size_alloc] at this
  have J1 := Lib.hid j1
  have J0 := Lib.hid (hJ.alloc (.cells #[.pointer (some ⟨g, 0, none⟩)] 90) (hJ.alloc (.cells #[.func (.yield l) #[] #[]] 260) h0))
  clear k0 k1 k2 h0 j1
  generalize (V.alloc (.cells #[.func (.yield l) #[] #[]] 260)).alloc (.cells #[.pointer (some ⟨g, 0, none⟩)] 90) = W0 at *
  have up : ∀ {p : Addr} {v : Value}, V.cell? p = some v → W0.cell? p = some v := fun {p v} h => (HV.out.cell (p := p) (cell_blk h)).trans h
  have C0 := Lib.hid (And.intro (up BD.out.1) (And.intro j0.out fun i (hi : i < N) => up (HC.out.2.2 i hi)))
  have hq : ∀ V', Below W0.heap.size W0 V' → V'.heap.size = W0.heap.size + 2 → Goes Fence.wide (n - 1) Tryz.prog 146 #[.pointer (some ⟨V.heap.size + 1, 0, none⟩)] (enca b N) (Kc D (W0.heap.size + 2)) (fun xs => xs.map Fin.val = List.range N) (fun _ => True) N (fun pre x => x.val ∉ pre.map Fin.val) (W0.heap.size + 1) V' := fun V' b' _ => by
    have uq : ∀ {p : Addr} {v : Value}, W0.cell? p = some v → V'.cell? p = some v := fun {p v} h => (b'.cell (p := p) (cell_blk h)).trans h
    exact all_goes _ (by omega) (V.heap.size + 1) g ar cap b N _ _ hN D V' (uq J1.out) (uq (up HC.out.1)) (fun i hi => uq (up (HC.out.2.1 i hi))) HD.out.1
  refine range_goes rfl (by omega) (gf := 146) (lb := #[.pointer (some ⟨V.heap.size + 1, 0, none⟩)]) rfl trivial (enters_of Tryz.func146 (by kernel_rfl) rfl) hq
    Kc.trans (fun X k o o' _ h2 h3 h4 => Kc.put h2 h3 h4) (fun _ => rfl)
    (fun pre X => J (only N r pre) X ∧ X.cell? ⟨B, 0, none⟩ = some (.pointer (some ⟨u, 0, none⟩)) ∧ X.cell? ⟨V.heap.size, 0, none⟩ = some (.func (.yield l) #[] #[]) ∧ ∀ i, i < N → X.cell? ⟨u, 1 + i * 2, none⟩ = some (.bool (r i).is))
    (fun c pre X => c = .exit 0 ∧ Jx (only N r pre) X)
    (OwnFrom.and (fun s X Y row hs hg hr => hJ _ X Y row hs hg fun k e => ⟨by have := (hr k e).1; omega, (hr k e).2⟩) (own_but fun _ X Y S h Bu hS =>
      ⟨cell_turned Bu (fun k q => (hS k q).2) h.1, cell_turned Bu (fun k q => (hS k q).2) h.2.1, fun i hi => cell_turned Bu (fun k q => (hS k q).2) (h.2.2 i hi)⟩))
    (fun c => OwnFrom.and (ownFrom_pure _ _) (fun s X Y row hs hg hr => hJx _ X Y row hs hg fun k e => ⟨by have := (hr k e).1; omega, (hr k e).2⟩))
    ⟨J0.out, C0.out⟩
    (fun x => { tmps := #[.func (.yield l) #[] #[], .pointer (some ⟨B, 0, none⟩), .pointer (some ⟨V.heap.size, 0, none⟩), .int .i64 x.val, .pointer (some ⟨xb b x.val, 0, none⟩), .pointer (some ⟨u, 0, none⟩), .pointer (some ⟨u, 0, none⟩), .pointer (some ⟨u, 0, none⟩), .pointer (some ⟨g, 0, none⟩),
      .func (.func 146) #[] #[.pointer (some ⟨V.heap.size + 1, 0, none⟩)], .int .i64 x.val, .pointer (some ⟨xb b x.val, 0, none⟩), undef, undef, undef, undef, undef, undef, undef, undef, undef, undef, undef, undef, undef, undef, undef], defers := [] }) ?assign ?body ?done ?stop
  case assign =>
    intro lp x W K hK
    dsimp only [enca]
    gi_wp2
    exact hK
  case body =>
    rintro lp pre x W ⟨hj, c1, c2, c3⟩ hlen hG
    have hx := x.isLt
    have c4 := c3 x.val hx
    have C3 := Lib.hid c3
    have hxi : (x.val : Int) < 4 := by omega
    clear c3
    cases hi : (r x.val).is
    · rw [hi] at c4
      have HF := Lib.hid (only_no pre x hi)
      gi_wp2
      exact ⟨KeepsFrom.refl _ _, Kc.refl _ _ _, by rw [HF.out]; exact hj, c1, c2, C3.out⟩
    · rw [hi] at c4
      have HF := Lib.hid (only_yes pre x hi)
      obtain ⟨fn, tmps, assign, body, hy, hYR⟩ := hY _ ⟨x.val, x.isLt, hi⟩ W hj (by have := only_len (r := r) pre; omega) (fun q => hG (by rw [only_map] at q; exact (List.mem_filter.1 q).1))
      dsimp only [encv] at hy
      gi_wp2
      refine ⟨fun q => (by cases q), (round_any hYR).mono ?_⟩
      have low {X Y : World} (k : Kc D Bk X Y) : KeepsFrom W0.heap.size X Y ∧ Kc D (W0.heap.size + 2) X Y := ⟨KeepsFrom.mono k.2 (by omega), k.1, KeepsFrom.mono k.2 (by omega)⟩
      have BL := Lib.hid (cell_blk (p := ⟨V.heap.size, 0, none⟩) j0.out)
      rintro e W3 (⟨rfl, hJ3, hk3⟩ | ⟨rfl, hJx3, hk3⟩)
      · have L3 := Lib.hid (low hk3)
        have M3 := Lib.hid (And.intro (hk3.1 _ _ HD.out.2.2.1 c1) (And.intro (hk3.1 _ _ (HD.out.2.2.2 ⟨V.heap.size, 0, none⟩ (Nat.le_refl _)) c2) fun i (hi : i < N) => hk3.1 _ _ (HD.out.2.1 i hi) (C3.out i hi)))
        clear hk3 c1 c2 c4
        gi_wp2
        exact ⟨L3.out.1, L3.out.2, by rw [HF.out]; exact hJ3, M3.out⟩
      · have L3 := Lib.hid (low hk3)
        clear hk3 c1 c2 c4
        gi_wp2
        exact ⟨L3.out.1, L3.out.2, rfl, by rw [HF.out]; exact hJx3⟩
  case done =>
    rintro D' xs W hD' hxs ⟨hj, -⟩ hK
    gi_wp2
    rw [Exit.noGoto_normal]
    refine ⟨by simp, .inl ⟨_, _, rfl, run_takeDeferred hK, ?_⟩⟩
    exact ⟨_, results_none rfl _ _ _, ⟨_, rfl⟩, .inl ⟨_, (only_map xs).trans (by rw [hxs]), hJ.putObj _ hj (by omega) hK rfl⟩⟩
  case stop =>
    rintro D' c pre W hD' - ⟨rfl, hj⟩ hK
    gi_wp2
    rw [Exit.noGoto_normal]
    refine ⟨by simp, .inl ⟨_, _, rfl, run_takeDeferred hK, ?_⟩⟩
    exact ⟨_, results_none rfl _ _ _, ⟨_, rfl⟩, .inr ⟨_, trivial, hJx.putObj _ hj (by omega) hK rfl⟩⟩
end Sg
end Go.Proofs.YtpoededbmdffpaaGreatDoor
