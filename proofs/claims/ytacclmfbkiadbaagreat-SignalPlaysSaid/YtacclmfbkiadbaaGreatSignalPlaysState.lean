/-
  What the law SignalPlays keeps from cycle to cycle: the package's signal and the document's, side by side. No function of the program is walked here but May. No conditions beyond those said.
-/
import Derived.Test.YtacclmfbkiadbaaGreatSignalRefStep
import Derived.Test.YtacclmfbkiadbaaGreatJSignalNew2
import Derived.Test.YtacclmfbkiadbaaGreatJSignalNearWalk4
import Derived.Test.YtacclmfbkiadbaaGreatConfigRef
namespace Go.Proofs.YtacclmfbkiadbaaGreat
set_option maxRecDepth 100000
open Go.ChangeShapes Go.WideShapes Go.ChangeAt Go.RowKit Go.Deep
namespace Sg
open Cf (G CA Box)
theorem rmay_any (c : List Int) (w : World) (hc : c.length = 21) : Calls Tryz.prog 6 #[.agg (CA c)] w fun e w' => e = .returned (.bool (Cf.rt c)) ∧ Below w.heap.size w w' := by
  have X0 := Lib.hid (Box.new w c)
  have B0 := Lib.hid ((Below.refl w.heap.size w).alloc (Nat.le_refl _) (.cells (CA c) 24))
  have RA := fun W => Cf.rright_any c W hc
  have HC := Lib.hid hc
  clear hc
  go_enter Tryz.func6, Tryz.ntmps6
  go_wp2_with ((with_reducible show wpList _ _ _ (⟨some 3, _, _, _, _, _⟩ :: _) _ _); refine Cf.wpList_loadC rfl _ rfl w.heap.size c rfl X0.out HC.out ?_)
  refine (RA _).mono ?_; rintro e w1 ⟨rfl, b1⟩
  go_wp2
  go_ret
  exact ⟨rfl, grow B0.out b1⟩
theorem raws_at (n : Nat) (p : Cyc) (w : World) (hn : n ≤ 4) :
    Calls Tryz.prog 9 #[.int .i64 n, .agg (cyv p).toArray] w fun e w' => e = .returned (.tuple #[.agg (raw8 (uptq p.r (jq n p.r))).toArray, .bool (rokq n p.r 4 && (decide (0 ≤ p.sh) && decide (p.sh ≤ 15)))]) ∧ Below w.heap.size w w' :=
  (raws_any n p w hn).mono fun e w' q => by
    obtain ⟨⟨r, h1, h2, h3⟩, b⟩ := q
    exact ⟨by rw [h1, h3], b⟩
theorem rokq_iff {c : List Int} {f : Nat → Rw} (hN : NN c ≤ 4) : rokq (NN c) f 4 = true ↔ Rok c f := by
  have step : ∀ k, rokq (NN c) f (k + 1) = true ↔ (rokq (NN c) f k = true ∧ (k < NN c → (f k).is = true → -2147483648 ≤ (f k).n ∧ (f k).n ≤ 2147483647)) := fun k => by
    show (rokq (NN c) f k && !(decide (k < NN c) && (f k).is && (decide ((f k).n < -2147483648) || decide (2147483647 < (f k).n)))) = true ↔ _
    rw [Bool.and_eq_true]
    refine and_congr Iff.rfl ?_
    cases h1 : decide (k < NN c)
    · simp at h1; simp [Nat.not_lt.2 h1]
    · simp at h1
      cases h2 : (f k).is
      · simp
      · simp [h1]
  constructor
  · intro h i hi his
    have h3 := (step 3).1 h
    have h2 := (step 2).1 h3.1
    have h1 := (step 1).1 h2.1
    have h0 := (step 0).1 h1.1
    have : i = 0 ∨ i = 1 ∨ i = 2 ∨ i = 3 := by omega
    rcases this with rfl | rfl | rfl | rfl
    · exact h0.2 hi his
    · exact h1.2 hi his
    · exact h2.2 hi his
    · exact h3.2 hi his
  · intro h
    exact (step 3).2 ⟨(step 2).2 ⟨(step 1).2 ⟨(step 0).2 ⟨rfl, h 0⟩, h 1⟩, h 2⟩, h 3⟩
theorem okr_iff {c : List Int} {p : Cyc} (hN : NN c ≤ 4) : (rokq (NN c) p.r 4 && (decide (0 ≤ p.sh) && decide (p.sh ≤ 15))) = true ↔ okr c p.r p.sh := by
  rw [Bool.and_eq_true, Bool.and_eq_true, decide_eq_true_eq, decide_eq_true_eq, rokq_iff hN]; rfl
/-- Where no value came, its row tells nothing. -/
theorem RX.ls' {W : World} {S : Nat → Prop} {p : Pl} {c : List Int} {s : Si} {ls ls' : Nat → Int} (H : RX W S p c s ls) (h : ∀ i, i < NN c → ls i = ls' i ∨ (s.ch i).k = 0) : RX W S p c s ls' := by
  obtain ⟨cap, cm, k1, k2⟩ := H.sig
  refine ⟨⟨cap, cm, k1, fun i hi => ?_⟩, H.room, H.row, H.wat, H.own, H.low, H.ne, H.lt, H.big⟩
  have q := k2 i hi
  by_cases hn : i < NN c
  · rcases h i hn with e | e
    · rw [← e]; exact q
    · unfold kn at q ⊢
      rw [if_pos hn, e] at q ⊢
      exact q
  · unfold kn at q ⊢
    rw [if_neg hn] at q ⊢
    exact q
/-- The document's signal, between two cycles. -/
def RS (W : World) (T : Nat → Prop) (p : Pl) (c : List Int) (s : Si) : Prop := RX W T p c s fun i => (s.ch i).last
theorem rstep_all {W : World} {T : Nat → Prop} {p : Pl} {c : List Int} {s : Si} {r : Nat → Rw} {sh : Int} (H : RS W T p c s) (hc : c.length = 21) (hR : Cf.Right c) (hO : Ok c s) (hr : okr c r sh) (hk : ∀ i, i < NN c → (s.ch i).k ≤ 1000) (hV : s.votes.length ≤ 1000) :
    Calls Tryz.prog 10 #[.pointer (some ⟨p.g, 0, none⟩), .agg (raw8 r).toArray, .int .i64 sh] W fun e w' => e = .returned (.agg (res c s r sh).toArray) ∧ (∃ T', RS w' T' p c (nxt c s r sh) ∧ ∀ j, T' j → T j ∨ W.heap.size ≤ j) ∧ But T W w' :=
  (rstep_any H (fun _ _ => rfl) hc hR hO hr hk hV).mono fun e w' q => by
    obtain ⟨h1, ⟨T', h2, h3⟩, h4⟩ := q
    refine ⟨h1, ⟨T', RX.ls' h2 fun i hi => ?_, h3⟩, h4⟩
    cases hi : (r i).is
    · exact .inr (by simp [nxt, hi])
    · exact .inl (by simp [nxt, hi])
/-- Both signals, while the law goes on. -/
structure Pd (F : Face) (w W : World) (c : List Int) (S : Nat → Prop) (g : Nat) (s : Si) (T : Nat → Prop) (p : Pl) (k : Nat) : Prop where
  nd : Nd F w W c S g s k
  rs : RS W T p c s
  new : ∀ j, T j → w.heap.size + 1 ≤ j
  ap : ∀ j, S j → ¬ T j
  few : ∀ i, i < NN c → (s.ch i).k ≤ k
section
variable {F : Face} {w W W' : World} {c : List Int} {S S' T T' : Nat → Prop} {g : Nat} {s s' : Si} {p : Pl} {k : Nat}
theorem Pd.on (H : Pd F w W c S g s T p k) (b : Below W.heap.size W W') : Pd F w W' c S g s T p k := ⟨H.nd.on b, RX.on H.rs b, H.new, H.ap, H.few⟩
theorem Pd.more (H : Pd F w W c S g s T p k) : Pd F w W c S g s T p (k + 1) := ⟨H.nd.more, H.rs, H.new, H.ap, fun i hi => by have := H.few i hi; omega⟩
/-- The package's step came; the document's has not yet. -/
structure Ph (F : Face) (w W : World) (c : List Int) (S : Nat → Prop) (g : Nat) (s s' : Si) (T : Nat → Prop) (p : Pl) (k : Nat) : Prop where
  nd : Nd F w W c S g s' (k + 1)
  rs : RS W T p c s
  new : ∀ j, T j → w.heap.size + 1 ≤ j
  ap : ∀ j, S j → ¬ T j
  few : ∀ i, i < NN c → (s.ch i).k ≤ k
theorem Ph.on (H : Ph F w W c S g s s' T p k) (b : Below W.heap.size W W') : Ph F w W' c S g s s' T p k := ⟨H.nd.on b, RX.on H.rs b, H.new, H.ap, H.few⟩
theorem Pd.step (H : Pd F w W c S g s T p k) (n : Nd F w W' c S' g s' (k + 1)) (b : But S W W') (m : ∀ j, S' j → S j ∨ W.heap.size ≤ j) : Ph F w W' c S' g s s' T p k :=
  ⟨n, RX.keep H.rs b (fun j hj q => H.ap j q hj), H.new, fun j hj q => (m j hj).elim (fun z => H.ap j z q) (fun z => by have := H.rs.lt j q; omega), H.few⟩
theorem Ph.none (H : Ph F w W c S g s s T p k) : Pd F w W c S g s T p (k + 1) := ⟨H.nd, H.rs, H.new, H.ap, fun i hi => by have := H.few i hi; omega⟩
theorem Ph.step {r : Nat → Rw} {sh : Int} (H : Ph F w W c S g s (nxt c s r sh) T p k) (n : RS W' T' p c (nxt c s r sh)) (b : But T W W') (m : ∀ j, T' j → T j ∨ W.heap.size ≤ j) : Pd F w W' c S g (nxt c s r sh) T' p (k + 1) := by
  have hbig := H.nd.big
  refine ⟨⟨But.below H.nd.below b H.nd.below.size (fun i hi => by have := H.new i hi; omega), F.keep H.nd.held b H.ap, H.nd.new, Nat.le_trans H.nd.big b.size, H.nd.ok, VRow.but (show VRow W w.heap.size 24 (cellsI .i64 c) from H.nd.cfg) b (fun q => by have := H.new _ q; omega), H.nd.votes⟩, n, fun j hj => (m j hj).elim (H.new j) (fun z => by omega), fun j hj q => (m j q).elim (fun z => H.ap j hj z) (fun z => by have := F.lt H.nd.held j hj; omega), fun i hi => ?_⟩
  have h := H.few i hi
  show (if (r i).is = true then kq (s.ch i) (r i).n else 0) ≤ k + 1
  unfold kq
  split
  · split <;> omega
  · omega
/-- A block of neither is written. -/
theorem Ph.keep {ga : Nat} (H : Ph F w W c S g s s' T p k) (b : But (· = ga) W W') (h1 : ¬ S ga) (h2 : ¬ T ga) (h3 : w.heap.size + 1 ≤ ga) : Ph F w W' c S g s s' T p k := by
  have n := H.nd
  exact ⟨⟨But.below n.below b n.below.size (fun j (e : j = ga) => by omega), F.keep n.held b (fun j hj (e : j = ga) => h1 (e ▸ hj)), n.new, Nat.le_trans n.big b.size, n.ok, VRow.but (show VRow W w.heap.size 24 (cellsI .i64 c) from n.cfg) b (fun (e : w.heap.size = ga) => by omega), n.votes⟩, RX.keep H.rs b (fun j hj (e : j = ga) => h2 (e ▸ hj)), H.new, H.ap, H.few⟩
end
/-! The region of the package's step, with the document's signal beside it. -/
section
variable {F : Face} {w : World} {c : List Int} {S T : Nat → Prop} {g : Nat} {s s' : Si} {p : Pl} {i n1 : Nat} {rs : List Value} {t : TypeId} {x y z : Bool} {v : Value} {Y Z : World}
structure Sq (F : Face) (w : World) (c : List Int) (S : Nat → Prop) (g : Nat) (s s' : Si) (T : Nat → Prop) (p : Pl) (i n1 : Nat) (rs : List Value) (t : TypeId) (x y z : Bool) (v : Value) (Y : World) : Prop where
  big : n1 ≤ Y.heap.size
  old : ∀ j, S j → j < n1
  odd : ∀ j, T j → j < n1
  low : w.heap.size + 1 ≤ n1
  ord : z = true → x = true ∧ y = true
  sig0 : x = false → Pd F w Y c S g s T p i
  sig1 : x = true → ∃ S', Ph F w Y c S' g s s' T p i ∧ (y = true → ∀ ga, v = .pointer (some ⟨ga, 0, none⟩) → ¬ S' ga)
  box : y = true → ∃ ga, v = .pointer (some ⟨ga, 0, none⟩) ∧ n1 ≤ ga ∧ VRow Y ga t (if z = true then rs else zres)
theorem Sq.below (h : Sq F w c S g s s' T p i n1 rs t x y z v Y) : Below w.heap.size w Y := by
  cases x
  · exact (h.sig0 rfl).nd.below
  · obtain ⟨S', h, -⟩ := h.sig1 rfl
    exact h.nd.below
theorem Sq.grow (h : Sq F w c S g s s' T p i n1 rs t x y z v Y) (b : Below Y.heap.size Y Z) : Sq F w c S g s s' T p i n1 rs t x y z v Z :=
  ⟨Nat.le_trans h.big b.size, h.old, h.odd, h.low, h.ord, fun e => (h.sig0 e).on b, fun e => by obtain ⟨S', h1, h2⟩ := h.sig1 e; exact ⟨S', h1.on b, h2⟩, fun e => by obtain ⟨ga, h1, h2, h3⟩ := h.box e; exact ⟨ga, h1, h2, h3.below b h3.lt⟩⟩
theorem Sq.call {S' : Nat → Prop} (h : Sq F w c S g s s' T p i n1 rs t false y z v Y) (n : Nd F w Z c S' g s' (i + 1)) (b : But S Y Z) (m : ∀ j, S' j → S j ∨ Y.heap.size ≤ j) : Sq F w c S g s s' T p i n1 rs t true y z v Z := by
  have hb := b.size
  refine ⟨Nat.le_trans h.big hb, h.old, h.odd, h.low, fun e => ⟨rfl, (h.ord e).2⟩, fun e => (by cases e), fun _ => ⟨S', (h.sig0 rfl).step n b m, fun e ga hv q => ?_⟩, fun e => ?_⟩
  · obtain ⟨ga', h1, h2, h3⟩ := h.box e
    rw [hv] at h1
    obtain rfl : ga = ga' := by injection h1 with h1; injection h1 with h1; injection h1
    have hlt := h3.lt
    rcases m ga q with q | q
    · have := h.old ga q; omega
    · omega
  · obtain ⟨ga, h1, h2, h3⟩ := h.box e
    exact ⟨ga, h1, h2, h3.but b fun q => by have := h.old ga q; omega⟩
theorem Sq.alloc (h : Sq F w c S g s s' T p i n1 rs t x false z v Y) : Sq F w c S g s s' T p i n1 rs t x true z (.pointer (some ⟨Y.heap.size, 0, none⟩)) (Y.alloc (.cells zres.toArray t)) := by
  obtain rfl : z = false := by
    cases z
    · rfl
    · have := (h.ord rfl).2; cases this
  have b := (Below.refl Y.heap.size Y).alloc (Nat.le_refl _) (.cells zres.toArray t)
  refine ⟨Nat.le_trans h.big b.size, h.old, h.odd, h.low, fun e => (by cases e), fun e => (h.sig0 e).on b, fun e => ?_, fun _ => ⟨_, rfl, h.big, VRow.new Y zres t⟩⟩
  obtain ⟨S', h1, -⟩ := h.sig1 e
  refine ⟨S', h1.on b, fun _ ga hv q => ?_⟩
  obtain rfl : Y.heap.size = ga := by injection hv with hv; injection hv with hv; injection hv
  have := F.lt h1.nd.held _ q
  omega
theorem Sq.store {ga : Nat} (h : Sq F w c S g s s' T p i n1 rs t true true z v Y) (hv : v = .pointer (some ⟨ga, 0, none⟩)) : Sq F w c S g s s' T p i n1 rs t true true true v (Y.setRow ga rs.toArray) := by
  obtain ⟨ga', h1, h2, h3⟩ := h.box rfl
  rw [hv] at h1
  obtain rfl : ga = ga' := by injection h1 with h1; injection h1 with h1; injection h1
  obtain ⟨S', n, h4⟩ := h.sig1 rfl
  have hn := h4 rfl ga hv
  have hlow := h.low
  have b := (But.refl (· = ga) Y).put (Or.inl rfl) rs.toArray
  refine ⟨Nat.le_trans h.big b.size, h.old, h.odd, h.low, fun _ => ⟨rfl, rfl⟩, fun e => (by cases e), fun _ => ⟨S', n.keep b hn (fun q => by have := h.odd ga q; omega) (by omega), fun _ ga' hv' q => ?_⟩, fun _ => ⟨ga, hv, h2, ?_⟩⟩
  · rw [hv] at hv'
    obtain rfl : ga = ga' := by injection hv' with h1; injection h1 with h1; injection h1
    exact hn q
  · rw [if_pos rfl]; exact h3.put rs
end
end Sg
end Go.Proofs.YtacclmfbkiadbaaGreat
