/-
  SignalNear, walked over whatever package signal's contracts are: for all configurations and cycles it returns true, and writes nothing that was there. Conditions: how the cycles lie.
  An argument that is a slice of cycles, as a list of cycles. No function of the program is walked here. No conditions.
  Helpers of the law SignalPlays: raws (raw values as the document has them, and whether they may be), state (a latch's). Contracts by walking the Go text. No conditions but what is said.
  The helper Same of the law SignalPlays: a cycle's result against itself. A contract by walking the Go text. No conditions.
-/
import Derived.Test.YtacclmfbkiadbaaGreatJConfigRow6
import Derived.Test.YtacclmfbkiadbaaGreatJSetWrites2
import Derived.Test.YtacclmfbkiadbaaGreatJTail5
import Derived.Lib.MinMax
import Derived.Test.YtacclmfbkiadbaaGreatJFlat3
import Derived.Deep.LoopGhost
import Derived.Deep.DeepCutAuto
import Derived.Deep.CutBlock
import Derived.Deep.RegionLaw
import Derived.Handy
import Derived.Test.YtacclmfbkiadbaaGreatJAgg5
namespace Go.Proofs.YtacclmfbkiadbaaGreat
set_option maxRecDepth 100000
open Go.ChangeShapes Go.WideShapes Go.ChangeAt Go.RowKit Go.Deep
namespace Sg
open Cf (G CA Box)
/-- A cycle, as it is handed in. -/
structure Cyc where
  r : Nat → Rw
  sh : Int
def cyv (p : Cyc) : List Value := raw8 p.r ++ [.int .i64 p.sh]
def CycsAt (w : World) (a : Option Addr) (l : List Cyc) : Prop := 0 < l.length → ∃ b off, a = some ⟨b, off, none⟩ ∧ ∀ (i : Nat) p, l[i]? = some p → ∀ (j : Nat) v, (cyv p)[j]? = some v → w.cell? ⟨b, off + i * 9 + j, none⟩ = some v
theorem CycsAt.on {w W : World} {a : Option Addr} {l : List Cyc} (h : CycsAt w a l) (B : Below w.heap.size w W) : CycsAt W a l := fun hp => by
  obtain ⟨b, off, e, k⟩ := h hp
  exact ⟨b, off, e, fun i p hi j v hv => (B.cell (p := ⟨b, off + i * 9 + j, none⟩) (cell_lt (k i p hi j v hv))).trans (k i p hi j v hv)⟩
/-- The box of the configuration, and the signal, while the law goes on. -/
structure Nd (F : Face) (w W : World) (c : List Int) (S : Nat → Prop) (g : Nat) (s : Si) (k : Nat) : Prop where
  below : Below w.heap.size w W
  held : F.At W S g c s
  new : ∀ j, S j → w.heap.size + 1 ≤ j
  big : w.heap.size + 1 ≤ W.heap.size
  ok : Ok c s
  cfg : Box W w.heap.size c
  votes : s.votes.length ≤ k
section
variable {F : Face} {w W W' : World} {c : List Int} {S S' : Nat → Prop} {g : Nat} {s s' : Si} {k : Nat}
theorem Nd.on (H : Nd F w W c S g s k) (b : Below W.heap.size W W') : Nd F w W' c S g s k :=
  ⟨grow H.below b, F.on H.held b, H.new, Nat.le_trans H.big b.size, H.ok, H.cfg.on b, H.votes⟩
theorem Nd.more (H : Nd F w W c S g s k) : Nd F w W c S g s (k + 1) := ⟨H.below, H.held, H.new, H.big, H.ok, H.cfg, by have := H.votes; omega⟩
theorem Nd.step {r : Nat → Rw} {sh : Int} (hR : Cf.Right c) (hr : Rok c r) (H : Nd F w W c S g s k) (h : F.At W' S' g c (nxt c s r sh)) (b : But S W W') (m : ∀ j, S' j → S j ∨ W.heap.size ≤ j) :
    Nd F w W' c S' g (nxt c s r sh) (k + 1) :=
  ⟨But.below H.below b H.below.size (fun i hi => by have := H.new i hi; omega), h, fun j hj => (m j hj).elim (H.new j) (fun q => Nat.le_trans H.big q), Nat.le_trans H.big b.size, ok_nxt hR hr H.ok,
    VRow.but (show VRow W w.heap.size 24 (cellsI .i64 c) from H.cfg) b (fun q => by have := H.new _ q; omega), by have := H.votes; simp [nxt]; exact this⟩
end
/-! The region of a step: the call, the box of what it tells, the store, the first two in whatever order. -/
section
variable {F : Face} {w : World} {c : List Int} {S : Nat → Prop} {g : Nat} {s s' : Si} {i n1 : Nat} {rs : List Value} {T : TypeId} {x y z : Bool} {v : Value} {Y Z : World}
structure Sp (F : Face) (w : World) (c : List Int) (S : Nat → Prop) (g : Nat) (s s' : Si) (i n1 : Nat) (rs : List Value) (T : TypeId) (x y z : Bool) (v : Value) (Y : World) : Prop where
  big : n1 ≤ Y.heap.size
  old : ∀ j, S j → j < n1
  low : w.heap.size + 1 ≤ n1
  ord : z = true → x = true ∧ y = true
  sig0 : x = false → Nd F w Y c S g s i
  sig1 : x = true → ∃ S', Nd F w Y c S' g s' (i + 1) ∧ (y = true → ∀ ga, v = .pointer (some ⟨ga, 0, none⟩) → ¬ S' ga)
  box : y = true → ∃ ga, v = .pointer (some ⟨ga, 0, none⟩) ∧ n1 ≤ ga ∧ VRow Y ga T (if z = true then rs else zres)
theorem Sp.below (h : Sp F w c S g s s' i n1 rs T x y z v Y) : Below w.heap.size w Y := by
  cases x
  · exact (h.sig0 rfl).below
  · obtain ⟨S', h, -⟩ := h.sig1 rfl
    exact h.below
theorem Sp.grow (h : Sp F w c S g s s' i n1 rs T x y z v Y) (b : Below Y.heap.size Y Z) : Sp F w c S g s s' i n1 rs T x y z v Z :=
  ⟨Nat.le_trans h.big b.size, h.old, h.low, h.ord, fun e => (h.sig0 e).on b, fun e => by obtain ⟨S', h1, h2⟩ := h.sig1 e; exact ⟨S', h1.on b, h2⟩, fun e => by obtain ⟨ga, h1, h2, h3⟩ := h.box e; exact ⟨ga, h1, h2, h3.below b h3.lt⟩⟩
theorem Sp.call {S' : Nat → Prop} (h : Sp F w c S g s s' i n1 rs T false y z v Y) (n : Nd F w Z c S' g s' (i + 1)) (b : But S Y Z) (m : ∀ j, S' j → S j ∨ Y.heap.size ≤ j) : Sp F w c S g s s' i n1 rs T true y z v Z := by
  have hb := b.size
  refine ⟨Nat.le_trans h.big hb, h.old, h.low, fun e => ⟨rfl, (h.ord e).2⟩, fun e => (by cases e), fun _ => ⟨S', n, fun e ga hv q => ?_⟩, fun e => ?_⟩
  · obtain ⟨ga', h1, h2, h3⟩ := h.box e
    rw [hv] at h1
    obtain rfl : ga = ga' := by injection h1 with h1; injection h1 with h1; injection h1
    have hlt := h3.lt
    rcases m ga q with q | q
    · have := h.old ga q; omega
    · omega
  · obtain ⟨ga, h1, h2, h3⟩ := h.box e
    exact ⟨ga, h1, h2, h3.but b fun q => by have := h.old ga q; omega⟩
theorem Sp.alloc (h : Sp F w c S g s s' i n1 rs T x false z v Y) : Sp F w c S g s s' i n1 rs T x true z (.pointer (some ⟨Y.heap.size, 0, none⟩)) (Y.alloc (.cells zres.toArray T)) := by
  obtain rfl : z = false := by
    cases z
    · rfl
    · have := (h.ord rfl).2; cases this
  have b := (Below.refl Y.heap.size Y).alloc (Nat.le_refl _) (.cells zres.toArray T)
  refine ⟨Nat.le_trans h.big b.size, h.old, h.low, fun e => (by cases e), fun e => (h.sig0 e).on b, fun e => ?_, fun _ => ⟨_, rfl, h.big, VRow.new Y zres T⟩⟩
  obtain ⟨S', h1, -⟩ := h.sig1 e
  refine ⟨S', h1.on b, fun _ ga hv q => ?_⟩
  obtain rfl : Y.heap.size = ga := by injection hv with hv; injection hv with hv; injection hv
  have := F.lt h1.held _ q
  omega
theorem Sp.store {ga : Nat} (h : Sp F w c S g s s' i n1 rs T true true z v Y) (hv : v = .pointer (some ⟨ga, 0, none⟩)) : Sp F w c S g s s' i n1 rs T true true true v (Y.setRow ga rs.toArray) := by
  obtain ⟨ga', h1, h2, h3⟩ := h.box rfl
  rw [hv] at h1
  obtain rfl : ga = ga' := by injection h1 with h1; injection h1 with h1; injection h1
  obtain ⟨S', n, h4⟩ := h.sig1 rfl
  have hn := h4 rfl ga hv
  have hlow := h.low
  have b := (But.refl (· = ga) Y).put (Or.inl rfl) rs.toArray
  refine ⟨Nat.le_trans h.big b.size, h.old, h.low, fun _ => ⟨rfl, rfl⟩, fun e => (by cases e), fun _ => ⟨S', ⟨But.below n.below b n.below.size (fun j (e : j = ga) => by omega), F.keep n.held b (fun j hj (e : j = ga) => hn (e ▸ hj)), n.new, Nat.le_trans n.big b.size, n.ok, VRow.but (show VRow Y w.heap.size 24 (cellsI .i64 c) from n.cfg) b (fun (e : w.heap.size = ga) => by omega), n.votes⟩, fun _ ga' hv' q => ?_⟩, fun _ => ⟨ga, hv, h2, ?_⟩⟩
  · rw [hv] at hv'
    obtain rfl : ga = ga' := by injection hv' with h1; injection h1 with h1; injection h1
    exact hn q
  · rw [if_pos rfl]; exact h3.put rs
end
end Sg
end Go.Proofs.YtacclmfbkiadbaaGreat

namespace Go.Proofs.YtacclmfbkiadbaaGreat
set_option maxRecDepth 100000
open Go.ChangeShapes Go.WideShapes Go.ChangeAt Go.RowKit Go.Deep
namespace Sg
def cyKs : List Mn.Kd := [.bool, .int .i64, .bool, .int .i64, .bool, .int .i64, .bool, .int .i64, .int .i64]
def nint : Value → Int
  | .int _ n => n
  | _ => 0
def nbool : Value → Bool
  | .bool x => x
  | _ => false
def cycOf (r : List Value) : Cyc := ⟨fun i => ⟨nbool (r.getD (2 * i) undef), nint (r.getD (2 * i + 1) undef)⟩, nint (r.getD 8 undef)⟩
theorem cyc_row {w : World} {b off : Nat} {r : List Value} (h : Mn.RowOk w b off cyKs r) : r = cyv (cycOf r) := by
  have hl := h.len
  match r, hl with
  | [x0, x1, x2, x3, x4, x5, x6, x7, x8], _ =>
    obtain ⟨n0, rfl⟩ := h.fits 0 _ _ rfl rfl
    obtain ⟨n1, rfl, -⟩ := h.fits 1 _ _ rfl rfl
    obtain ⟨n2, rfl⟩ := h.fits 2 _ _ rfl rfl
    obtain ⟨n3, rfl, -⟩ := h.fits 3 _ _ rfl rfl
    obtain ⟨n4, rfl⟩ := h.fits 4 _ _ rfl rfl
    obtain ⟨n5, rfl, -⟩ := h.fits 5 _ _ rfl rfl
    obtain ⟨n6, rfl⟩ := h.fits 6 _ _ rfl rfl
    obtain ⟨n7, rfl, -⟩ := h.fits 7 _ _ rfl rfl
    obtain ⟨n8, rfl, -⟩ := h.fits 8 _ _ rfl rfl
    rfl
theorem cycs_of {w : World} {a : Option Addr} {rs : List (List Value)} (h : Mn.ManyAt w a cyKs rs) : CycsAt w a (rs.map cycOf) := by
  rcases h with rfl | ⟨b, off, rfl, hs⟩
  · exact fun h => by simp at h
  · refine fun _ => ⟨b, off, rfl, fun i p hi j v hv => ?_⟩
    rw [List.getElem?_map] at hi
    cases hr : rs[i]? with
    | none => rw [hr] at hi; cases hi
    | some r =>
      rw [hr] at hi
      simp at hi
      subst hi
      have R := hs i r hr
      have hj : j < 9 := by
        rcases Nat.lt_or_ge j 9 with q | q
        · exact q
        · rw [List.getElem?_eq_none (by simpa [cyv, raw8] using q)] at hv; cases hv
      have hc := R.cell j (by simpa [cyKs] using hj)
      rw [cyc_row R] at hc
      exact hc.trans hv
end Sg
end Go.Proofs.YtacclmfbkiadbaaGreat

namespace Go.Proofs.YtacclmfbkiadbaaGreat
set_option maxRecDepth 100000
open Go.ChangeShapes Go.WideShapes Go.ChangeAt Go.RowKit Go.Deep
namespace Sg
open Cf (G CA Box)
theorem pstate_any (s : Lc.St) (w : World) : Calls Tryz.prog 16 #[.agg (lav s).toArray] w fun e w' => e = .returned (.agg (lav s).toArray) ∧ Below w.heap.size w w' := by
  have BB := Lib.hid (((Below.refl w.heap.size w).alloc (Nat.le_refl _) (.cells #[.bool s.la, .bool s.ou, .int .i64 s.st, .int .i64 s.cl, .int .i64 s.bk] 62)).alloc (by simp) (.cells #[.bool s.la, .bool s.ou, .int .i64 s.st, .int .i64 s.cl, .int .i64 s.bk] 58))
  unfold lav
  go_enter Tryz.func16, Tryz.ntmps16
  go_wp2
  go_returns
  exact ⟨rfl, BB.out⟩
def uptq (f : Nat → Rw) (k i : Nat) : Rw := if i < k then f i else rw0
theorem putq_eq (f : Nat → Rw) (k : Nat) (hk : k < 4) : ((raw8 (uptq f k)).set (2 * k) (.bool (f k).is)).set (2 * k + 1) (.int .i64 (f k).n) = raw8 (uptq f (k + 1)) := by
  have : k ∈ [0, 1, 2, 3] := by simp; omega
  simp only [List.mem_cons, List.mem_nil_iff, or_false] at this
  rcases this with rfl | rfl | rfl | rfl <;> simp [raw8, uptq]
theorem uptq_all (f : Nat → Rw) : raw8 (uptq f 4) = raw8 f := by simp [raw8, uptq]
/-- May the first k of them be? -/
def rokq (n : Nat) (f : Nat → Rw) : Nat → Bool
  | 0 => true
  | k + 1 => rokq n f k && !(decide (k < n) && (f k).is && (decide ((f k).n < -2147483648) || decide (2147483647 < (f k).n)))
theorem rokq_yes {n k : Nat} {f : Nat → Rw} (h0 : rokq n f k = true) (h : (decide (k < n) && (f k).is && (decide ((f k).n < -2147483648) || decide (2147483647 < (f k).n))) = false) : rokq n f (k + 1) = true := by unfold rokq; rw [h0, h]; rfl
theorem rokq_up {n : Nat} {f : Nat → Rw} {k : Nat} (h : rokq n f k = false) : ∀ j, k ≤ j → rokq n f j = false
  | 0, hj => by obtain rfl : k = 0 := by omega
                exact h
  | j + 1, hj => by
    by_cases e : k = j + 1
    · subst e; exact h
    · unfold rokq; rw [rokq_up h j (by omega)]; rfl
theorem rokq_no {n k : Nat} {f : Nat → Rw} (hk : k < 4) (h : (decide (k < n) && (f k).is && (decide ((f k).n < -2147483648) || decide (2147483647 < (f k).n))) = true) : rokq n f 4 = false :=
  rokq_up (k := k + 1) (by unfold rokq; rw [h]; simp) 4 hk
/-- At which of them it was found that they may not be; all four, if they may. -/
def jq (n : Nat) (f : Nat → Rw) : Nat := if rokq n f 1 = false then 1 else if rokq n f 2 = false then 2 else if rokq n f 3 = false then 3 else 4
theorem rokq_dn {n : Nat} {f : Nat → Rw} {k : Nat} (h : rokq n f k = true) (j : Nat) (hj : j ≤ k) : rokq n f j = true := by
  cases e : rokq n f j
  · have := rokq_up e k hj
    rw [h] at this; cases this
  · rfl
theorem jq_all {n : Nat} {f : Nat → Rw} (h : rokq n f 4 = true) : jq n f = 4 := by
  unfold jq
  rw [if_neg (by rw [rokq_dn h 1 (by omega)]; simp), if_neg (by rw [rokq_dn h 2 (by omega)]; simp), if_neg (by rw [rokq_dn h 3 (by omega)]; simp)]
theorem jq_at {n k : Nat} {f : Nat → Rw} (hk : k < 4) (h0 : rokq n f k = true) (h : (decide (k < n) && (f k).is && (decide ((f k).n < -2147483648) || decide (2147483647 < (f k).n))) = true) : jq n f = k + 1 := by
  have h1 : rokq n f (k + 1) = false := by unfold rokq; rw [h]; simp
  have : k = 0 ∨ k = 1 ∨ k = 2 ∨ k = 3 := by omega
  unfold jq
  rcases this with rfl | rfl | rfl | rfl
  · rw [if_pos h1]
  · rw [if_neg (by rw [rokq_dn h0 1 (by omega)]; simp), if_pos h1]
  · rw [if_neg (by rw [rokq_dn h0 1 (by omega)]; simp), if_neg (by rw [rokq_dn h0 2 (by omega)]; simp), if_pos h1]
  · rw [if_neg (by rw [rokq_dn h0 1 (by omega)]; simp), if_neg (by rw [rokq_dn h0 2 (by omega)]; simp), if_neg (by rw [rokq_dn h0 3 (by omega)]; simp)]
theorem set8 {W : World} {g : Nat} {t : TypeId} (h : VRow W g t (raw8 fun _ => rw0)) (r : Nat → Rw) : VRow ((((((((W.setCell ⟨g, 0, none⟩ (.bool (r 0).is)).setCell ⟨g, 1, none⟩ (.int .i64 (r 0).n)).setCell ⟨g, 2, none⟩ (.bool (r 1).is)).setCell ⟨g, 3, none⟩ (.int .i64 (r 1).n)).setCell ⟨g, 4, none⟩ (.bool (r 2).is)).setCell ⟨g, 5, none⟩ (.int .i64 (r 2).n)).setCell ⟨g, 6, none⟩ (.bool (r 3).is)).setCell ⟨g, 7, none⟩ (.int .i64 (r 3).n)) g t (raw8 r) := by
  have h0 := VRow.set h 0 (.bool (r 0).is)
  have h1 := VRow.set h0 1 (.int .i64 (r 0).n)
  have h2 := VRow.set h1 2 (.bool (r 1).is)
  have h3 := VRow.set h2 3 (.int .i64 (r 1).n)
  have h4 := VRow.set h3 4 (.bool (r 2).is)
  have h5 := VRow.set h4 5 (.int .i64 (r 2).n)
  have h6 := VRow.set h5 6 (.bool (r 3).is)
  have h7 := VRow.set h6 7 (.int .i64 (r 3).n)
  simp only [raw8, List.set_cons_zero, List.set_cons_succ] at h7
  exact h7
theorem below8 {B : Nat} {w0 W : World} {g : Nat} (h : Below B w0 W) (hg : B ≤ g) (r : Nat → Rw) : Below B w0 ((((((((W.setCell ⟨g, 0, none⟩ (.bool (r 0).is)).setCell ⟨g, 1, none⟩ (.int .i64 (r 0).n)).setCell ⟨g, 2, none⟩ (.bool (r 1).is)).setCell ⟨g, 3, none⟩ (.int .i64 (r 1).n)).setCell ⟨g, 4, none⟩ (.bool (r 2).is)).setCell ⟨g, 5, none⟩ (.int .i64 (r 2).n)).setCell ⟨g, 6, none⟩ (.bool (r 3).is)).setCell ⟨g, 7, none⟩ (.int .i64 (r 3).n)) :=
  Below.setCell (p := ⟨g, 7, none⟩) (Below.setCell (p := ⟨g, 6, none⟩) (Below.setCell (p := ⟨g, 5, none⟩) (Below.setCell (p := ⟨g, 4, none⟩) (Below.setCell (p := ⟨g, 3, none⟩) (Below.setCell (p := ⟨g, 2, none⟩) (Below.setCell (p := ⟨g, 1, none⟩) (Below.setCell (p := ⟨g, 0, none⟩) h hg _) hg _) hg _) hg _) hg _) hg _) hg _) hg _
structure Rh (w W : World) (p : Cyc) (r : Nat → Rw) : Prop where
  below : Below w.heap.size w W
  cyc : VRow W w.heap.size 44 (cyv p)
  res : VRow W (w.heap.size + 1) 46 (raw8 fun _ => rw0)
  out : VRow W (w.heap.size + 2) 46 (raw8 r)
theorem Rh.drew {w W : World} {p : Cyc} {r : Nat → Rw} (h : Rh w W p r) : Rh w W.drew p r := ⟨h.below.drew, h.cyc, h.res, h.out⟩
theorem Rh.put {w W : World} {p : Cyc} {r r' : Nat → Rw} (h : Rh w W p r) (k : Nat) (x : Rw) (hx : ((raw8 r).set (2 * k) (.bool x.is)).set (2 * k + 1) (.int .i64 x.n) = raw8 r') :
    Rh w ((W.setCell ⟨w.heap.size + 2, 2 * k, none⟩ (.bool x.is)).setCell ⟨w.heap.size + 2, 2 * k + 1, none⟩ (.int .i64 x.n)) p r' := by
  have b := (But.refl (· = w.heap.size + 2) W).setCell (p := ⟨w.heap.size + 2, 2 * k, none⟩) (Or.inl rfl) (.bool x.is)
  have b := b.setCell (p := ⟨w.heap.size + 2, 2 * k + 1, none⟩) (Or.inl rfl) (.int .i64 x.n)
  have o := (h.out.set (2 * k) (.bool x.is)).set (2 * k + 1) (.int .i64 x.n)
  rw [hx] at o
  exact ⟨But.below h.below b h.below.size (fun i hi => by omega), h.cyc.but b (by omega), h.res.but b (by omega), o⟩
theorem rh_new (w : World) (p : Cyc) (f : Nat → Rw) :
    Rh w (((w.alloc (.cells (cyv p).toArray 44)).alloc (.cells (raw8 fun _ => rw0).toArray 46)).alloc (.cells (raw8 fun _ => rw0).toArray 46)) p (uptq f 0) := by
  have e1 : (w.alloc (.cells (cyv p).toArray 44)).heap.size = w.heap.size + 1 := by simp
  have v1 := VRow.new w (cyv p) 44
  have b1 := (Below.refl w.heap.size w).alloc (Nat.le_refl _) (.cells (cyv p).toArray 44)
  generalize w.alloc (.cells (cyv p).toArray 44) = W1 at *
  have e2 : (W1.alloc (.cells (raw8 fun _ => rw0).toArray 46)).heap.size = w.heap.size + 2 := by simp [e1]
  have v2 := VRow.new W1 (raw8 fun _ => rw0) 46
  rw [e1] at v2
  have u1 := v1.alloc (.cells (raw8 fun _ => rw0).toArray 46)
  have b2 := b1.alloc (by omega) (.cells (raw8 fun _ => rw0).toArray 46)
  generalize W1.alloc (.cells (raw8 fun _ => rw0).toArray 46) = W2 at *
  have v3 := VRow.new W2 (raw8 fun _ => rw0) 46
  rw [e2] at v3
  exact ⟨b2.alloc (by omega) _, u1.alloc _, v2.alloc _, v3⟩
theorem sizeRr : (Tryz.prog.info? 46).map (·.size) = some 8 := by kernel_rfl
theorem aggRr (w : World) : (isAgg 46).run Tryz.prog w = .ok true w := by simp [isAgg, run_underlying Tryz.underlying46]
set_option maxHeartbeats 6400000 in
theorem raws_any (n : Nat) (p : Cyc) (w : World) (hn : n ≤ 4) :
    Calls Tryz.prog 9 #[.int .i64 n, .agg (cyv p).toArray] w fun e w' => (∃ r, e = .returned (.tuple #[.agg (raw8 r).toArray, .bool (rokq n p.r 4 && (decide (0 ≤ p.sh) && decide (p.sh ≤ 15)))]) ∧ (rokq n p.r 4 = true → r = p.r) ∧ raw8 r = raw8 (uptq p.r (jq n p.r))) ∧ Below w.heap.size w w' := by
  have T0 := Lib.hid (rh_new w p p.r)
  have W0eq : (((w.alloc (.cells (cyv p).toArray 44)).alloc (.cells (raw8 fun _ => rw0).toArray 46)).alloc (.cells (raw8 fun _ => rw0).toArray 46)) = (((w.alloc (.cells (cyv p).toArray 44)).alloc (.cells #[.bool false, .int .i64 0, .bool false, .int .i64 0, .bool false, .int .i64 0, .bool false, .int .i64 0] 46)).alloc (.cells #[.bool false, .int .i64 0, .bool false, .int .i64 0, .bool false, .int .i64 0, .bool false, .int .i64 0] 46)) := rfl
  rw [W0eq] at T0
  clear W0eq
  go_enter Tryz.func9, Tryz.ntmps9
  go_wp2_with fail
  generalize (((w.alloc (.cells (cyv p).toArray 44)).alloc (.cells #[.bool false, .int .i64 0, .bool false, .int .i64 0, .bool false, .int .i64 0, .bool false, .int .i64 0] 46)).alloc (.cells #[.bool false, .int .i64 0, .bool false, .int .i64 0, .bool false, .int .i64 0, .bool false, .int .i64 0] 46)) = W0 at *
  go_loopg [7] 4 (fun gg s7 wr => ∃ k : Nat, k + gg = 4 ∧ s7 = .int .i64 k ∧ Hid (rokq n p.r k = true) ∧ Hid (Rh w wr p (uptq p.r k)))
  case atStart => exact ⟨0, by omega, rfl, Lib.hid rfl, T0⟩
  case round =>
    obtain ⟨k, hk, rfl, HOK, T⟩ := hrel
    clear T0
    have HK := Lib.hid hk
    clear hk
    by_cases hlt : k < 4
    · have hli : (k : Int) < 4 := by omega
      have hki : k ∈ [0, 1, 2, 3] := by simp; omega
      simp only [List.mem_cons, List.mem_nil_iff, or_false] at hki
      obtain ⟨o0, o1, o2, o3, o4, o5, o6, o7⟩ := raw_cells T.out.out
      have fz := T.out.out.frozen
      have PE := putq_eq p.r k hlt
      have TP := Lib.hid ((T.out.put k (p.r k) PE).drew)
      have k0 : wr.cell? ⟨w.heap.size, 2 * k, none⟩ = some (.bool (p.r k).is) := T.out.cyc.cell _ (by rcases hki with rfl | rfl | rfl | rfl <;> rfl)
      have k1 : wr.cell? ⟨w.heap.size, 2 * k + 1, none⟩ = some (.int .i64 (p.r k).n) := T.out.cyc.cell _ (by rcases hki with rfl | rfl | rfl | rfl <;> rfl)
      have q0 : ∀ W, Rh w W p (uptq p.r (k + 1)) → W.cell? ⟨w.heap.size, 2 * k, none⟩ = some (.bool (p.r k).is) ∧ W.cell? ⟨w.heap.size, 2 * k + 1, none⟩ = some (.int .i64 (p.r k).n) := fun W h => ⟨h.cyc.cell _ (by rcases hki with rfl | rfl | rfl | rfl <;> rfl), h.cyc.cell _ (by rcases hki with rfl | rfl | rfl | rfl <;> rfl)⟩
      obtain ⟨y0, y1⟩ := q0 _ TP.out
      have HNY := Lib.hid (fun (h : (decide (k < n) && (p.r k).is && (decide ((p.r k).n < -2147483648) || decide (2147483647 < (p.r k).n))) = false) => rokq_yes HOK.out h)
      have HNN := Lib.hid (fun (h : (decide (k < n) && (p.r k).is && (decide ((p.r k).n < -2147483648) || decide (2147483647 < (p.r k).n))) = true) => And.intro (rokq_no hlt h) (jq_at hlt HOK.out h))
      clear PE q0 T HOK
      generalize hri : (p.r k).is = ri at *
      generalize hx : (p.r k).n = x at *
      clear hri hx
      rcases hki with rfl | rfl | rfl | rfl
      · go_wp2_with fail
        refine Tail.wp_region_quiet_tail 13 (by kernel_rfl) (by kernel_rfl) ?_
        simp only [List.take_succ_cons, List.take_zero, List.drop_succ_cons, List.drop_zero]
        repeat (go_big_quiet_step (fail))
        refine wpQuiet_nil ?_
        go_upto_region 6 with fail
        show Code.wp _ _ _ _ ((wr.setCell ⟨w.heap.size + 2, 2 * 0, none⟩ (.bool ri)).setCell ⟨w.heap.size + 2, 2 * 0 + 1, none⟩ (.int .i64 x)).drew
        generalize ((wr.setCell ⟨w.heap.size + 2, 2 * 0, none⟩ (.bool ri)).setCell ⟨w.heap.size + 2, 2 * 0 + 1, none⟩ (.int .i64 x)).drew = W2 at *
        clear o0 o1 o2 o3 o4 o5 o6 o7 fz k0 k1
        by_cases hkn : 0 < n
        · have dn : decide ((0 : Int) < (n : Int)) = true := by simp; omega
          cases ri
          · have NX := Lib.hid (HNY.out (by simp))
            clear HNY HNN
            go_wp2_with fail
            go_roundg (gk - 1)
            case rel => exact ⟨1, by have := HK.out; omega, by go_num, NX, TP⟩
            case measure => have := HK.out; omega
          · cases dl : decide (x < -2147483648)
            · cases dh : decide (2147483647 < x)
              · have NX := Lib.hid (HNY.out (by rw [dl, dh]; simp))
                clear HNY HNN
                go_wp2_with fail
                go_roundg (gk - 1)
                case rel => exact ⟨1, by have := HK.out; omega, by go_num, NX, TP⟩
                case measure => have := HK.out; omega
              · have NX := Lib.hid (HNN.out (by rw [dl, dh]; simpa using hkn))
                clear HNY HNN
                go_wp2_with (first
                  | ((with_reducible show wpList _ _ _ (⟨some 51, _, _, _, _, _⟩ :: _) _ _); refine VB.loaded rfl _ rfl (w.heap.size + 2) rfl TP.out.out Tryz.underlying46 rfl sizeRr ?_)
                  | ((with_reducible show wpList _ _ _ (⟨none, .store _ (.tmp 4) _, _, _, _, _⟩ :: _) _ _); refine VB.store rfl _ _ rfl (w.heap.size + 1) (raw8 (uptq p.r 1)) rfl rfl TP.out.res sizeRr rfl (raw_one _) ?_))
                refine bodyPost_ret (v := .tuple #[.agg (raw8 (uptq p.r 1)).toArray, .bool false]) ?_ rfl ⟨⟨uptq p.r 1, by rw [NX.out.1]; rfl, (fun h => by rw [NX.out.1] at h; cases h), by rw [NX.out.2]⟩, Below.put TP.out.below (by omega) _⟩
                exact (VB.ret2 (cs := raw8 (uptq p.r 1)) rfl rfl (aggRr _) sizeRr (VRow.put TP.out.res (raw8 (uptq p.r 1)))).trans rfl
            · have NX := Lib.hid (HNN.out (by rw [dl]; simpa using hkn))
              clear HNY HNN
              go_wp2_with (first
                | ((with_reducible show wpList _ _ _ (⟨some 51, _, _, _, _, _⟩ :: _) _ _); refine VB.loaded rfl _ rfl (w.heap.size + 2) rfl TP.out.out Tryz.underlying46 rfl sizeRr ?_)
                | ((with_reducible show wpList _ _ _ (⟨none, .store _ (.tmp 4) _, _, _, _, _⟩ :: _) _ _); refine VB.store rfl _ _ rfl (w.heap.size + 1) (raw8 (uptq p.r 1)) rfl rfl TP.out.res sizeRr rfl (raw_one _) ?_))
              refine bodyPost_ret (v := .tuple #[.agg (raw8 (uptq p.r 1)).toArray, .bool false]) ?_ rfl ⟨⟨uptq p.r 1, by rw [NX.out.1]; rfl, (fun h => by rw [NX.out.1] at h; cases h), by rw [NX.out.2]⟩, Below.put TP.out.below (by omega) _⟩
              exact (VB.ret2 (cs := raw8 (uptq p.r 1)) rfl rfl (aggRr _) sizeRr (VRow.put TP.out.res (raw8 (uptq p.r 1)))).trans rfl
        · have dn : decide ((0 : Int) < (n : Int)) = false := by simp; omega
          have NX := Lib.hid (HNY.out (by simp [hkn]))
          clear HNY HNN
          go_wp2_with fail
          go_roundg (gk - 1)
          case rel => exact ⟨1, by have := HK.out; omega, by go_num, NX, TP⟩
          case measure => have := HK.out; omega
      · go_wp2_with fail
        refine Tail.wp_region_quiet_tail 13 (by kernel_rfl) (by kernel_rfl) ?_
        simp only [List.take_succ_cons, List.take_zero, List.drop_succ_cons, List.drop_zero]
        repeat (go_big_quiet_step (fail))
        refine wpQuiet_nil ?_
        go_upto_region 6 with fail
        show Code.wp _ _ _ _ ((wr.setCell ⟨w.heap.size + 2, 2 * 1, none⟩ (.bool ri)).setCell ⟨w.heap.size + 2, 2 * 1 + 1, none⟩ (.int .i64 x)).drew
        generalize ((wr.setCell ⟨w.heap.size + 2, 2 * 1, none⟩ (.bool ri)).setCell ⟨w.heap.size + 2, 2 * 1 + 1, none⟩ (.int .i64 x)).drew = W2 at *
        clear o0 o1 o2 o3 o4 o5 o6 o7 fz k0 k1
        by_cases hkn : 1 < n
        · have dn : decide ((1 : Int) < (n : Int)) = true := by simp; omega
          cases ri
          · have NX := Lib.hid (HNY.out (by simp))
            clear HNY HNN
            go_wp2_with fail
            go_roundg (gk - 1)
            case rel => exact ⟨2, by have := HK.out; omega, by go_num, NX, TP⟩
            case measure => have := HK.out; omega
          · cases dl : decide (x < -2147483648)
            · cases dh : decide (2147483647 < x)
              · have NX := Lib.hid (HNY.out (by rw [dl, dh]; simp))
                clear HNY HNN
                go_wp2_with fail
                go_roundg (gk - 1)
                case rel => exact ⟨2, by have := HK.out; omega, by go_num, NX, TP⟩
                case measure => have := HK.out; omega
              · have NX := Lib.hid (HNN.out (by rw [dl, dh]; simpa using hkn))
                clear HNY HNN
                go_wp2_with (first
                  | ((with_reducible show wpList _ _ _ (⟨some 51, _, _, _, _, _⟩ :: _) _ _); refine VB.loaded rfl _ rfl (w.heap.size + 2) rfl TP.out.out Tryz.underlying46 rfl sizeRr ?_)
                  | ((with_reducible show wpList _ _ _ (⟨none, .store _ (.tmp 4) _, _, _, _, _⟩ :: _) _ _); refine VB.store rfl _ _ rfl (w.heap.size + 1) (raw8 (uptq p.r 2)) rfl rfl TP.out.res sizeRr rfl (raw_one _) ?_))
                refine bodyPost_ret (v := .tuple #[.agg (raw8 (uptq p.r 2)).toArray, .bool false]) ?_ rfl ⟨⟨uptq p.r 2, by rw [NX.out.1]; rfl, (fun h => by rw [NX.out.1] at h; cases h), by rw [NX.out.2]⟩, Below.put TP.out.below (by omega) _⟩
                exact (VB.ret2 (cs := raw8 (uptq p.r 2)) rfl rfl (aggRr _) sizeRr (VRow.put TP.out.res (raw8 (uptq p.r 2)))).trans rfl
            · have NX := Lib.hid (HNN.out (by rw [dl]; simpa using hkn))
              clear HNY HNN
              go_wp2_with (first
                | ((with_reducible show wpList _ _ _ (⟨some 51, _, _, _, _, _⟩ :: _) _ _); refine VB.loaded rfl _ rfl (w.heap.size + 2) rfl TP.out.out Tryz.underlying46 rfl sizeRr ?_)
                | ((with_reducible show wpList _ _ _ (⟨none, .store _ (.tmp 4) _, _, _, _, _⟩ :: _) _ _); refine VB.store rfl _ _ rfl (w.heap.size + 1) (raw8 (uptq p.r 2)) rfl rfl TP.out.res sizeRr rfl (raw_one _) ?_))
              refine bodyPost_ret (v := .tuple #[.agg (raw8 (uptq p.r 2)).toArray, .bool false]) ?_ rfl ⟨⟨uptq p.r 2, by rw [NX.out.1]; rfl, (fun h => by rw [NX.out.1] at h; cases h), by rw [NX.out.2]⟩, Below.put TP.out.below (by omega) _⟩
              exact (VB.ret2 (cs := raw8 (uptq p.r 2)) rfl rfl (aggRr _) sizeRr (VRow.put TP.out.res (raw8 (uptq p.r 2)))).trans rfl
        · have dn : decide ((1 : Int) < (n : Int)) = false := by simp; omega
          have NX := Lib.hid (HNY.out (by simp [hkn]))
          clear HNY HNN
          go_wp2_with fail
          go_roundg (gk - 1)
          case rel => exact ⟨2, by have := HK.out; omega, by go_num, NX, TP⟩
          case measure => have := HK.out; omega
      · go_wp2_with fail
        refine Tail.wp_region_quiet_tail 13 (by kernel_rfl) (by kernel_rfl) ?_
        simp only [List.take_succ_cons, List.take_zero, List.drop_succ_cons, List.drop_zero]
        repeat (go_big_quiet_step (fail))
        refine wpQuiet_nil ?_
        go_upto_region 6 with fail
        show Code.wp _ _ _ _ ((wr.setCell ⟨w.heap.size + 2, 2 * 2, none⟩ (.bool ri)).setCell ⟨w.heap.size + 2, 2 * 2 + 1, none⟩ (.int .i64 x)).drew
        generalize ((wr.setCell ⟨w.heap.size + 2, 2 * 2, none⟩ (.bool ri)).setCell ⟨w.heap.size + 2, 2 * 2 + 1, none⟩ (.int .i64 x)).drew = W2 at *
        clear o0 o1 o2 o3 o4 o5 o6 o7 fz k0 k1
        by_cases hkn : 2 < n
        · have dn : decide ((2 : Int) < (n : Int)) = true := by simp; omega
          cases ri
          · have NX := Lib.hid (HNY.out (by simp))
            clear HNY HNN
            go_wp2_with fail
            go_roundg (gk - 1)
            case rel => exact ⟨3, by have := HK.out; omega, by go_num, NX, TP⟩
            case measure => have := HK.out; omega
          · cases dl : decide (x < -2147483648)
            · cases dh : decide (2147483647 < x)
              · have NX := Lib.hid (HNY.out (by rw [dl, dh]; simp))
                clear HNY HNN
                go_wp2_with fail
                go_roundg (gk - 1)
                case rel => exact ⟨3, by have := HK.out; omega, by go_num, NX, TP⟩
                case measure => have := HK.out; omega
              · have NX := Lib.hid (HNN.out (by rw [dl, dh]; simpa using hkn))
                clear HNY HNN
                go_wp2_with (first
                  | ((with_reducible show wpList _ _ _ (⟨some 51, _, _, _, _, _⟩ :: _) _ _); refine VB.loaded rfl _ rfl (w.heap.size + 2) rfl TP.out.out Tryz.underlying46 rfl sizeRr ?_)
                  | ((with_reducible show wpList _ _ _ (⟨none, .store _ (.tmp 4) _, _, _, _, _⟩ :: _) _ _); refine VB.store rfl _ _ rfl (w.heap.size + 1) (raw8 (uptq p.r 3)) rfl rfl TP.out.res sizeRr rfl (raw_one _) ?_))
                refine bodyPost_ret (v := .tuple #[.agg (raw8 (uptq p.r 3)).toArray, .bool false]) ?_ rfl ⟨⟨uptq p.r 3, by rw [NX.out.1]; rfl, (fun h => by rw [NX.out.1] at h; cases h), by rw [NX.out.2]⟩, Below.put TP.out.below (by omega) _⟩
                exact (VB.ret2 (cs := raw8 (uptq p.r 3)) rfl rfl (aggRr _) sizeRr (VRow.put TP.out.res (raw8 (uptq p.r 3)))).trans rfl
            · have NX := Lib.hid (HNN.out (by rw [dl]; simpa using hkn))
              clear HNY HNN
              go_wp2_with (first
                | ((with_reducible show wpList _ _ _ (⟨some 51, _, _, _, _, _⟩ :: _) _ _); refine VB.loaded rfl _ rfl (w.heap.size + 2) rfl TP.out.out Tryz.underlying46 rfl sizeRr ?_)
                | ((with_reducible show wpList _ _ _ (⟨none, .store _ (.tmp 4) _, _, _, _, _⟩ :: _) _ _); refine VB.store rfl _ _ rfl (w.heap.size + 1) (raw8 (uptq p.r 3)) rfl rfl TP.out.res sizeRr rfl (raw_one _) ?_))
              refine bodyPost_ret (v := .tuple #[.agg (raw8 (uptq p.r 3)).toArray, .bool false]) ?_ rfl ⟨⟨uptq p.r 3, by rw [NX.out.1]; rfl, (fun h => by rw [NX.out.1] at h; cases h), by rw [NX.out.2]⟩, Below.put TP.out.below (by omega) _⟩
              exact (VB.ret2 (cs := raw8 (uptq p.r 3)) rfl rfl (aggRr _) sizeRr (VRow.put TP.out.res (raw8 (uptq p.r 3)))).trans rfl
        · have dn : decide ((2 : Int) < (n : Int)) = false := by simp; omega
          have NX := Lib.hid (HNY.out (by simp [hkn]))
          clear HNY HNN
          go_wp2_with fail
          go_roundg (gk - 1)
          case rel => exact ⟨3, by have := HK.out; omega, by go_num, NX, TP⟩
          case measure => have := HK.out; omega
      · go_wp2_with fail
        refine Tail.wp_region_quiet_tail 13 (by kernel_rfl) (by kernel_rfl) ?_
        simp only [List.take_succ_cons, List.take_zero, List.drop_succ_cons, List.drop_zero]
        repeat (go_big_quiet_step (fail))
        refine wpQuiet_nil ?_
        go_upto_region 6 with fail
        show Code.wp _ _ _ _ ((wr.setCell ⟨w.heap.size + 2, 2 * 3, none⟩ (.bool ri)).setCell ⟨w.heap.size + 2, 2 * 3 + 1, none⟩ (.int .i64 x)).drew
        generalize ((wr.setCell ⟨w.heap.size + 2, 2 * 3, none⟩ (.bool ri)).setCell ⟨w.heap.size + 2, 2 * 3 + 1, none⟩ (.int .i64 x)).drew = W2 at *
        clear o0 o1 o2 o3 o4 o5 o6 o7 fz k0 k1
        by_cases hkn : 3 < n
        · have dn : decide ((3 : Int) < (n : Int)) = true := by simp; omega
          cases ri
          · have NX := Lib.hid (HNY.out (by simp))
            clear HNY HNN
            go_wp2_with fail
            go_roundg (gk - 1)
            case rel => exact ⟨4, by have := HK.out; omega, by go_num, NX, TP⟩
            case measure => have := HK.out; omega
          · cases dl : decide (x < -2147483648)
            · cases dh : decide (2147483647 < x)
              · have NX := Lib.hid (HNY.out (by rw [dl, dh]; simp))
                clear HNY HNN
                go_wp2_with fail
                go_roundg (gk - 1)
                case rel => exact ⟨4, by have := HK.out; omega, by go_num, NX, TP⟩
                case measure => have := HK.out; omega
              · have NX := Lib.hid (HNN.out (by rw [dl, dh]; simpa using hkn))
                clear HNY HNN
                go_wp2_with (first
                  | ((with_reducible show wpList _ _ _ (⟨some 51, _, _, _, _, _⟩ :: _) _ _); refine VB.loaded rfl _ rfl (w.heap.size + 2) rfl TP.out.out Tryz.underlying46 rfl sizeRr ?_)
                  | ((with_reducible show wpList _ _ _ (⟨none, .store _ (.tmp 4) _, _, _, _, _⟩ :: _) _ _); refine VB.store rfl _ _ rfl (w.heap.size + 1) (raw8 (uptq p.r 4)) rfl rfl TP.out.res sizeRr rfl (raw_one _) ?_))
                refine bodyPost_ret (v := .tuple #[.agg (raw8 (uptq p.r 4)).toArray, .bool false]) ?_ rfl ⟨⟨uptq p.r 4, by rw [NX.out.1]; rfl, (fun h => by rw [NX.out.1] at h; cases h), by rw [NX.out.2]⟩, Below.put TP.out.below (by omega) _⟩
                exact (VB.ret2 (cs := raw8 (uptq p.r 4)) rfl rfl (aggRr _) sizeRr (VRow.put TP.out.res (raw8 (uptq p.r 4)))).trans rfl
            · have NX := Lib.hid (HNN.out (by rw [dl]; simpa using hkn))
              clear HNY HNN
              go_wp2_with (first
                | ((with_reducible show wpList _ _ _ (⟨some 51, _, _, _, _, _⟩ :: _) _ _); refine VB.loaded rfl _ rfl (w.heap.size + 2) rfl TP.out.out Tryz.underlying46 rfl sizeRr ?_)
                | ((with_reducible show wpList _ _ _ (⟨none, .store _ (.tmp 4) _, _, _, _, _⟩ :: _) _ _); refine VB.store rfl _ _ rfl (w.heap.size + 1) (raw8 (uptq p.r 4)) rfl rfl TP.out.res sizeRr rfl (raw_one _) ?_))
              refine bodyPost_ret (v := .tuple #[.agg (raw8 (uptq p.r 4)).toArray, .bool false]) ?_ rfl ⟨⟨uptq p.r 4, by rw [NX.out.1]; rfl, (fun h => by rw [NX.out.1] at h; cases h), by rw [NX.out.2]⟩, Below.put TP.out.below (by omega) _⟩
              exact (VB.ret2 (cs := raw8 (uptq p.r 4)) rfl rfl (aggRr _) sizeRr (VRow.put TP.out.res (raw8 (uptq p.r 4)))).trans rfl
        · have dn : decide ((3 : Int) < (n : Int)) = false := by simp; omega
          have NX := Lib.hid (HNY.out (by simp [hkn]))
          clear HNY HNN
          go_wp2_with fail
          go_roundg (gk - 1)
          case rel => exact ⟨4, by have := HK.out; omega, by go_num, NX, TP⟩
          case measure => have := HK.out; omega
    · obtain rfl : k = 4 := by have := HK.out; omega
      have TD := Lib.hid T.out.drew
      have c8 := T.out.cyc.cell 8 (v := .int .i64 p.sh) rfl
      have HRG := Lib.hid (show ∀ W', W' = wr.drew → ∀ (j : Nat) v, (raw8 (uptq p.r 4))[j]? = some v → W'.cell? ⟨w.heap.size + 2, 0 + j, none⟩ = some v from by
        rintro W' rfl j v hv
        rw [Nat.zero_add]
        exact TD.out.out.cell j hv)
      have HOK4 := Lib.hid HOK.out
      clear HOK
      go_upto_region 8 with fail
      obtain ⟨o0, o1, o2, o3, o4, o5, o6, o7⟩ := raw_cells T.out.out
      obtain ⟨r0, r1, r2, r3, r4, r5, r6, r7⟩ := raw_cells T.out.res
      have fz := T.out.res.frozen
      have RR := Lib.hid (set8 T.out.res (uptq p.r 4)).drew
      have BB := Lib.hid (below8 T.out.below (Nat.le_succ w.heap.size) (uptq p.r 4)).drew
      cases d1 : decide (0 ≤ p.sh)
      all_goals
        go_region
        show Exit.then _ _ .normal _ ((((((((wr.setCell ⟨w.heap.size + 1, 0, none⟩ (.bool (uptq p.r 4 0).is)).setCell ⟨w.heap.size + 1, 1, none⟩ (.int .i64 (uptq p.r 4 0).n)).setCell ⟨w.heap.size + 1, 2, none⟩ (.bool (uptq p.r 4 1).is)).setCell ⟨w.heap.size + 1, 3, none⟩ (.int .i64 (uptq p.r 4 1).n)).setCell ⟨w.heap.size + 1, 4, none⟩ (.bool (uptq p.r 4 2).is)).setCell ⟨w.heap.size + 1, 5, none⟩ (.int .i64 (uptq p.r 4 2).n)).setCell ⟨w.heap.size + 1, 6, none⟩ (.bool (uptq p.r 4 3).is)).setCell ⟨w.heap.size + 1, 7, none⟩ (.int .i64 (uptq p.r 4 3).n)).drew
        clear o0 o1 o2 o3 o4 o5 o6 o7 r0 r1 r2 r3 r4 r5 r6 r7 fz c8
        generalize ((((((((wr.setCell ⟨w.heap.size + 1, 0, none⟩ (.bool (uptq p.r 4 0).is)).setCell ⟨w.heap.size + 1, 1, none⟩ (.int .i64 (uptq p.r 4 0).n)).setCell ⟨w.heap.size + 1, 2, none⟩ (.bool (uptq p.r 4 1).is)).setCell ⟨w.heap.size + 1, 3, none⟩ (.int .i64 (uptq p.r 4 1).n)).setCell ⟨w.heap.size + 1, 4, none⟩ (.bool (uptq p.r 4 2).is)).setCell ⟨w.heap.size + 1, 5, none⟩ (.int .i64 (uptq p.r 4 2).n)).setCell ⟨w.heap.size + 1, 6, none⟩ (.bool (uptq p.r 4 3).is)).setCell ⟨w.heap.size + 1, 7, none⟩ (.int .i64 (uptq p.r 4 3).n)).drew = W2 at *
        go_wp2_with fail
        refine bodyPost_ret (v := .tuple #[.agg (raw8 (uptq p.r 4)).toArray, _]) ((VB.ret2 (cs := raw8 (uptq p.r 4)) rfl rfl (aggRr _) sizeRr RR.out).trans rfl) rfl ⟨⟨p.r, by rw [uptq_all, HOK4.out, d1]; rfl, fun _ => rfl, by rw [jq_all HOK4.out, uptq_all]⟩, BB.out⟩
end Sg
end Go.Proofs.YtacclmfbkiadbaaGreat

namespace Go.Proofs.YtacclmfbkiadbaaGreat
set_option maxRecDepth 100000
open Go.ChangeShapes Go.WideShapes Go.ChangeAt Go.RowKit Go.Deep
namespace Sg
open Cf (G CA Box)
theorem eq_field {P : Program} {W : World} {d : Nat} {xs : Array Value} {f : Field} {fs : List Field} {a : Value} (hn : (f.name == "_") = false) (ha : (part f.type xs f.offset).run P W = .ok a W) (he : (Op.equalIn d f.type a a).run P W = .ok true W)
    (h : (Op.eqFields d xs xs fs).run P W = .ok true W) : (Op.eqFields d xs xs (f :: fs)).run P W = .ok true W := by
  have hn' : f.name ≠ "_" := by simpa using hn
  simp only [Op.eqFields, hn', ne_eq, not_false_eq_true, if_true, Sem.run_bind, ha, he, Result.andThen_ok]
  simpa using h
theorem eq_done {P : Program} {W : World} {d : Nat} {xs : Array Value} : (Op.eqFields d xs xs []).run P W = .ok true W := by simp [Op.eqFields]
theorem eq_status (i l s : Int) (f : Bool) (W : World) : (Op.equalIn 10000 35 (.agg #[.int .i64 i, .int .i64 l, .int .i64 s, .bool f]) (.agg #[.int .i64 i, .int .i64 l, .int .i64 s, .bool f])).run Tryz.prog W = .ok true W := by
  refine (run_equalIn_struct W 9999 _ _ _ (by kernel_rfl) (by kernel_rfl)).trans ?_
  refine eq_field (a := .int .i64 i) (by kernel_rfl) (by kernel_rfl) ((run_equalIn_int W 9998 _ .i64 .i64 _ _ (by kernel_rfl)).trans (by simp)) ?_
  refine eq_field (a := .int .i64 l) (by kernel_rfl) (by kernel_rfl) ((run_equalIn_int W 9998 _ .i64 .i64 _ _ (by kernel_rfl)).trans (by simp)) ?_
  refine eq_field (a := .int .i64 s) (by kernel_rfl) (by kernel_rfl) ((run_equalIn_int W 9998 _ .i64 .i64 _ _ (by kernel_rfl)).trans (by simp)) ?_
  refine eq_field (a := .bool f) (by kernel_rfl) (by kernel_rfl) ((run_equalIn_bool' W 9998 _ _ _ (by kernel_rfl)).trans (by simp)) ?_
  exact eq_done
theorem eq_four (a b c d : Int) (W : World) : (Op.equalIn 10000 22 (.agg #[.int .i64 a, .int .i64 b, .int .i64 c, .int .i64 d]) (.agg #[.int .i64 a, .int .i64 b, .int .i64 c, .int .i64 d])).run Tryz.prog W = .ok true W := by
  have h := Agg.run_equalIn_ints W 9998 _ _ 4 .i64 Tryz.underlying22 Tryz.underlying3 (fun w => by kernel_rfl) [a, b, c, d] [a, b, c, d] rfl rfl
  rw [show 9998 + 2 = 10000 from rfl, show (([a, b, c, d] : List Int) == [a, b, c, d]) = true by simp] at h
  exact h
theorem loadMidW {P : Program} {ops : Array Oper} {rest : List Oper} {op : Oper} {a : Act} {w : World} {Q : Exit → Act → World → Prop} (hw : Region.wanted op (yielded ops a.tmps) = true) (ty : TypeId) (x : Operand) (ho : op.op = .load ty x)
    (b o : Nat) (hx : a.eval x = .pointer (some ⟨b, o, none⟩)) (cs : List Value) (d : TypeDesc) (hc : w.rangeAt b o cs)
    (hu : P.underlying ty = some d) (hd : d.isRow = true) (hi : (P.info? ty).map (·.size) = some cs.length)
    (h : wpList P ops Q rest (a.put op.dst (.agg cs.toArray)) w) : wpList P ops Q (op :: rest) a w := by
  unfold wpList
  rw [if_pos hw]
  exact .inl (wp_load_mid ty x ho b o hx cs d hc hu hd hi h)
theorem range_part {w : World} {g : Nat} {t : TypeId} {l : List Value} (h : VRow w g t l) (o : Nat) (cs : List Value) (e : (l.drop o).take cs.length = cs) : w.rangeAt g o cs := fun j v hv => VRow.cell h (o + j) (by
  rw [← e] at hv
  rw [List.getElem?_take] at hv
  split at hv
  · rw [List.getElem?_drop] at hv; exact hv
  · cases hv)
theorem sizeSt : (Tryz.prog.info? 35).map (·.size) = some 4 := by kernel_rfl
theorem sizeF4 : (Tryz.prog.info? 22).map (·.size) = some 4 := by kernel_rfl
/-- What a cycle tells, in thirteen cells. -/
def r13 (v i l s : Int) (f : Bool) (t0 t1 t2 t3 e0 e1 e2 e3 : Int) : List Value := [.int .i64 v, .int .i64 i, .int .i64 l, .int .i64 s, .bool f, .int .i64 t0, .int .i64 t1, .int .i64 t2, .int .i64 t3, .int .i64 e0, .int .i64 e1, .int .i64 e2, .int .i64 e3]
set_option maxHeartbeats 3200000 in
theorem psame_any (v i l s : Int) (f : Bool) (t0 t1 t2 t3 e0 e1 e2 e3 : Int) (w : World) : Calls Tryz.prog 11 #[.agg (r13 v i l s f t0 t1 t2 t3 e0 e1 e2 e3).toArray, .agg (r13 v i l s f t0 t1 t2 t3 e0 e1 e2 e3).toArray] w fun e w' => e = .returned (.bool true) ∧ Below w.heap.size w w' := by
  have BB := Lib.hid (((Below.refl w.heap.size w).alloc (Nat.le_refl _) (.cells (r13 v i l s f t0 t1 t2 t3 e0 e1 e2 e3).toArray 37)).alloc (by simp) (.cells (r13 v i l s f t0 t1 t2 t3 e0 e1 e2 e3).toArray 49))
  have V0 := Lib.hid ((VRow.new w (r13 v i l s f t0 t1 t2 t3 e0 e1 e2 e3) 37).alloc (.cells (r13 v i l s f t0 t1 t2 t3 e0 e1 e2 e3).toArray 49))
  have V1 := Lib.hid (show VRow _ (w.heap.size + 1) 49 (r13 v i l s f t0 t1 t2 t3 e0 e1 e2 e3) from by
    have h := VRow.new (w.alloc (.cells (r13 v i l s f t0 t1 t2 t3 e0 e1 e2 e3).toArray 37)) (r13 v i l s f t0 t1 t2 t3 e0 e1 e2 e3) 49
    rwa [show (w.alloc (.cells (r13 v i l s f t0 t1 t2 t3 e0 e1 e2 e3).toArray 37)).heap.size = w.heap.size + 1 by simp] at h)
  have c0 := V0.out.cell 0 (v := .int .i64 v) rfl
  have c1 := V1.out.cell 0 (v := .int .i64 v) rfl
  have a1 := Lib.hid (range_part V0.out 1 [.int .i64 i, .int .i64 l, .int .i64 s, .bool f] rfl)
  have a2 := Lib.hid (range_part V1.out 1 [.int .i64 i, .int .i64 l, .int .i64 s, .bool f] rfl)
  have a3 := Lib.hid (range_part V0.out 5 [.int .i64 t0, .int .i64 t1, .int .i64 t2, .int .i64 t3] rfl)
  have a4 := Lib.hid (range_part V1.out 5 [.int .i64 t0, .int .i64 t1, .int .i64 t2, .int .i64 t3] rfl)
  have a5 := Lib.hid (range_part V0.out 9 [.int .i64 e0, .int .i64 e1, .int .i64 e2, .int .i64 e3] rfl)
  have a6 := Lib.hid (range_part V1.out 9 [.int .i64 e0, .int .i64 e1, .int .i64 e2, .int .i64 e3] rfl)
  have E1 := fun W => eq_status i l s f W
  have E2 := fun W => eq_four t0 t1 t2 t3 W
  have E3 := fun W => eq_four e0 e1 e2 e3 W
  clear V0 V1
  generalize r13 v i l s f t0 t1 t2 t3 e0 e1 e2 e3 = R at *
  go_enter Tryz.func11, Tryz.ntmps11
  go_upto_region 1 with fail
  generalize (w.alloc (.cells R.toArray 37)).alloc (.cells R.toArray 49) = W0 at *
  go_wp2_with (first
    | ((with_reducible show wpList _ _ _ (⟨some 12, _, _, _, _, _⟩ :: _) _ _); refine loadMidW rfl _ _ rfl w.heap.size 1 rfl _ _ a1.out Tryz.underlying35 rfl sizeSt ?_)
    | ((with_reducible show wpList _ _ _ (⟨some 14, _, _, _, _, _⟩ :: _) _ _); refine loadMidW rfl _ _ rfl (w.heap.size + 1) 1 rfl _ _ a2.out Tryz.underlying35 rfl sizeSt ?_)
    | ((with_reducible show wpList _ _ _ (⟨some 19, _, _, _, _, _⟩ :: _) _ _); refine loadMidW rfl _ _ rfl w.heap.size 5 rfl _ _ a3.out Tryz.underlying22 rfl sizeF4 ?_)
    | ((with_reducible show wpList _ _ _ (⟨some 21, _, _, _, _, _⟩ :: _) _ _); refine loadMidW rfl _ _ rfl (w.heap.size + 1) 5 rfl _ _ a4.out Tryz.underlying22 rfl sizeF4 ?_)
    | ((with_reducible show wpList _ _ _ (⟨some 26, _, _, _, _, _⟩ :: _) _ _); refine loadMidW rfl _ _ rfl w.heap.size 9 rfl _ _ a5.out Tryz.underlying22 rfl sizeF4 ?_)
    | ((with_reducible show wpList _ _ _ (⟨some 28, _, _, _, _, _⟩ :: _) _ _); refine loadMidW rfl _ _ rfl (w.heap.size + 1) 9 rfl _ _ a6.out Tryz.underlying22 rfl sizeF4 ?_))
  go_ret
  exact ⟨rfl, BB.out⟩
end Sg
end Go.Proofs.YtacclmfbkiadbaaGreat
