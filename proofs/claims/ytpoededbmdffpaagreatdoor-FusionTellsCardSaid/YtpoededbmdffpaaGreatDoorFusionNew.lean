/-
  How a fusion comes to lie while New makes it. No function of the program is walked here. No conditions beyond those said.
-/
import Derived.Test.YtpoededbmdffpaaGreatDoorFusionLie
import Derived.Test.YtpoededbmdffpaaGreatDoorFusionKit
import Derived.Test.YtpoededbmdffpaaGreatDoorSignalMake
import Derived.Test.YtpoededbmdffpaaGreatDoorSetWrites
import Derived.Test.YtpoededbmdffpaaGreatDoorConfigFault
import Derived.Test.YtpoededbmdffpaaGreatDoorFreshObs
namespace Go.Proofs.YtpoededbmdffpaaGreatDoor
set_option maxRecDepth 100000
open Go.ChangeShapes Go.WideShapes Go.ChangeAt Go.RowKit Go.Deep
namespace Fu
open Cf (G CA Box)
open Sg (NN Si Face)
/-- A fusion's cells with whatever tracks, the first n signals, and ring. -/
def fc0 (c : List Int) (v : Value) (pg : Nat → Value) (r : Nat) : List Value := [.int .i64 (G c 16), v, pg 0, pg 1, pg 2, pg 3, pg 4, pg 5, pg 6, pg 7, ptr r, .int .i64 0]
def nul : Nat → Value := fun _ => .pointer none
def pgs (g : Nat → Nat) (n : Nat) : Nat → Value := fun j => if j < n then ptr (g j) else .pointer none
theorem pgs_zero (g : Nat → Nat) : pgs g 0 = nul := by funext j; unfold pgs nul; rw [if_neg (by omega)]
theorem fc0_set (c : List Int) (v : Value) (g : Nat → Nat) (r x : Nat) {n : Nat} (hn : n < 8) : (fc0 c v (pgs g n) r).set (2 + n) (ptr x) = fc0 c v (pgs (upd g n x) (n + 1)) r := by
  rcases eight hn with rfl | rfl | rfl | rfl | rfl | rfl | rfl | rfl <;> rfl
/-- The ring's call, the fusion's cells, its box, the assignment. -/
structure Fq (X : World) (c : List Int) (bs : List Bool) (vs : List Value) (Y : World) : Prop where
  below : Below X.heap.size X Y
  c0 : bs.getD 0 false = true → ∃ r, vs.getD 0 undef = ptr r ∧ X.heap.size ≤ r ∧ Rg.RingAt Y r []
  c1 : bs.getD 1 false = true → ∃ r, vs.getD 1 undef = .agg (fc0 c (.slice none 0 0) nul r).toArray ∧ X.heap.size ≤ r ∧ Rg.RingAt Y r []
  c2 : bs.getD 2 false = true → ∃ r f, vs.getD 2 undef = ptr f ∧ X.heap.size ≤ r ∧ r < f ∧ Rg.RingAt Y r [] ∧ VRow Y f 93 (fc0 c (.slice none 0 0) nul r)
  c3 : bs.getD 3 false = true → ∃ r f, vs.getD 3 undef = ptr f ∧ X.heap.size ≤ r ∧ r < f ∧ Rg.RingAt Y r [] ∧ VRow Y f 93 (fc0 c (.slice none 0 0) nul r)
theorem ring_on {X Y : World} {r : Nat} {l : List Rg.Nt} (h : Rg.RingAt X r l) (b : Below X.heap.size X Y) : Rg.RingAt Y r l := IRow.below h b (IRow.lt h)
theorem Fq.on {X Y Z : World} {c : List Int} {bs : List Bool} {vs : List Value} (h : Fq X c bs vs Y) (b : Below Y.heap.size Y Z) : Fq X c bs vs Z :=
  ⟨grow h.below b, fun e => by obtain ⟨r, q1, q2, q3⟩ := h.c0 e; exact ⟨r, q1, q2, ring_on q3 b⟩, fun e => by obtain ⟨r, q1, q2, q3⟩ := h.c1 e; exact ⟨r, q1, q2, ring_on q3 b⟩,
    fun e => by obtain ⟨r, f, q1, q2, q3, q4, q5⟩ := h.c2 e; exact ⟨r, f, q1, q2, q3, ring_on q4 b, onB q5 b⟩, fun e => by obtain ⟨r, f, q1, q2, q3, q4, q5⟩ := h.c3 e; exact ⟨r, f, q1, q2, q3, ring_on q4 b, onB q5 b⟩⟩
theorem fbuilt (c : List Int) (r : Nat) : Tryz.prog.built 93 [(0, .int .i64 (G c 16)), (3, ptr r)] = some (fc0 c (.slice none 0 0) nul r).toArray := by
  refine Eq.trans (b := some #[.int .i64 (G c 16), .slice none 0 0, .pointer none, .pointer none, .pointer none, .pointer none, .pointer none, .pointer none, .pointer none, .pointer none, ptr r, .int .i64 0]) ?_ rfl
  generalize G c 16 = x
  kernel_rfl
/-- A row of pointers to tracks. -/
def prow (h : Nat → Nat) (k : Nat) : List Value := (List.range k).map fun i => ptr (h i)
theorem prow_next (h : Nat → Nat) (k x : Nat) : prow (upd h k x) (k + 1) = prow h k ++ [ptr x] := by
  unfold prow
  rw [List.range_succ, List.map_append]
  congr 1
  · exact List.map_congr_left fun i hi => by rw [upd_ne _ _ (by have := List.mem_range.1 hi; omega)]
  · simp [upd_same]
/-- What lies when k tracks are made. -/
structure Tm (w X : World) (c : List Int) (f r : Nat) (h : Nat → Nat) (k : Nat) (v : Value) : Prop where
  below : Below w.heap.size w X
  cfg : Box X w.heap.size c
  fus : VRow X f 93 (fc0 c v nul r)
  rng : Rg.RingAt X r []
  trk : ∀ i, i < k → VRow X (h i) 170 (Fh.trk i 0 false [0, 0, 0, 0, 0, 0, 0])
  row : X.ownsRow w.heap.size 94 1 v k (prow h k)
  lo : w.heap.size < r ∧ r < f
  up : ∀ i, i < k → f < h i
  ord : ∀ i j, i < j → j < k → h i < h j
section
variable {w X Y : World} {c : List Int} {f r k : Nat} {h : Nat → Nat} {v : Value}
theorem owns_below {base : Nat} {e : TypeId} {n m : Nat} {u : Value} {xs : List Value} (o : X.ownsRow base e n u m xs) (b : Below X.heap.size X Y) : Y.ownsRow base e n u m xs :=
  World.ownsRow.kept o (row := none) ⟨b.os, b.tape, b.output, b.size, fun k hk _ => b.block k hk⟩ (by
    cases u.ownBlock with
    | none => exact .inl rfl
    | some g => exact .inr (fun e => by cases e))
theorem Tm.on (H : Tm w X c f r h k v) (b : Below X.heap.size X Y) : Tm w Y c f r h k v :=
  ⟨grow H.below b, H.cfg.on b, onB H.fus b, ring_on H.rng b, fun i hi => onB (H.trk i hi) b, owns_below H.row b, H.lo, H.up, H.ord⟩
theorem ring_row (q : Rg.RingAt X r []) (o : X.ownsRow w.heap.size 94 1 v k (prow h k)) (g : X.grownBy Y v.ownBlock) : Rg.RingAt Y r [] := Sg.vrow_row (t := 168) (IRow.vrow q) (by decide) o g
/-- One track more is made, and the row has grown; then the row is stored. -/
theorem Tm.next (H : Tm w X c f r h k v) {x : Nat} {Z : World} {v' : Value} (hx : VRow X x 170 (Fh.trk k 0 false [0, 0, 0, 0, 0, 0, 0])) (hf : f < x) (hh : ∀ i, i < k → h i < x) (g : X.grownBy Z v.ownBlock)
    (o : Z.ownsRow w.heap.size 94 1 v' (k + 1) (prow (upd h k x) (k + 1))) : Tm w (Z.setCell ⟨f, 1, none⟩ v') c f r (upd h k x) (k + 1) v' := by
  have hfz : VRow Z f 93 (fc0 c v nul r) := Sg.vrow_row H.fus (by decide) H.row g
  have hlo := H.lo
  have b0 : Below w.heap.size w Z := H.below.grown g H.below.size (fun k e => (World.ownsRow.lt H.row k e).1)
  have ne : ∀ j, j ≠ f → j ≠ (⟨f, 1, none⟩ : Addr).block := fun j hj => hj
  refine ⟨b0.setCell (p := ⟨f, 1, none⟩) (by show w.heap.size ≤ f; omega) _, (show VRow (Z.setCell ⟨f, 1, none⟩ v') w.heap.size 24 (cellsI .i64 c) from VRow.setOther (Sg.vrow_row (t := 24) (cs := cellsI .i64 c) H.cfg (by decide) H.row g) (p := ⟨f, 1, none⟩) (by show w.heap.size ≠ f; omega) _), ?_, ?_, fun i hi => ?_, ?_, hlo, fun i hi => ?_, fun i j hij hj => ?_⟩
  · exact hfz.set 1 v'
  · exact (show VRow (Z.setCell ⟨f, 1, none⟩ v') r 168 _ from VRow.setOther (IRow.vrow (ring_row H.rng H.row g)) (p := ⟨f, 1, none⟩) (by show r ≠ f; omega) _)
  · by_cases e : i = k
    · subst e
      rw [upd_same]
      exact (Sg.vrow_row hx (by decide) H.row g).setOther (p := ⟨f, 1, none⟩) (by show x ≠ f; omega) _
    · rw [upd_ne _ _ e]
      have := H.up i (by omega)
      exact (Sg.vrow_row (H.trk i (by omega)) (by decide) H.row g).setOther (p := ⟨f, 1, none⟩) (by show h i ≠ f; omega) _
  · exact Sg.vrow_set hfz (by decide) o _
  · by_cases e : i = k
    · subst e; rw [upd_same]; exact hf
    · rw [upd_ne _ _ e]; exact H.up i (by omega)
  · by_cases e : j = k
    · subst e
      rw [upd_same, upd_ne _ _ (by omega)]
      exact hh i hij
    · rw [upd_ne _ _ e, upd_ne _ _ (by omega)]
      exact H.ord i j hij (by omega)
end
/-- What lies when the tracks, and n signals, are made. -/
structure LieN (F : Face) (w X : World) (P : Pl) (c : List Int) (n : Nat) : Prop where
  below : Below w.heap.size w X
  cfg : Box X w.heap.size c
  fus : VRow X P.f 93 (fc0 c (.slice (some ⟨P.tb, 0, none⟩) (NN c) P.cap) (pgs P.g n) P.r)
  tab : ∃ cs t, VRow X P.tb t cs ∧ ∀ i, i < NN c → cs[i]? = some (ptr (P.h i))
  trk : ∀ i, i < NN c → VRow X (P.h i) 170 (Fh.trk i 0 false [0, 0, 0, 0, 0, 0, 0])
  sig : ∀ j, j < n → F.At X (P.S j) (P.g j) c (Sg.begin c)
  rng : Rg.RingAt X P.r []
  cf : P.col P.f = 1
  ct : P.col P.tb = 2
  cr : P.col P.r = 3
  ch : ∀ i, i < NN c → P.col (P.h i) = 4 + i
  cs : ∀ j b, j < n → P.S j b → P.col b = 10 + j
  lt : ∀ b, P.col b ≠ 0 → b < X.heap.size
  n4 : NN c ≤ 4
  new : ∀ b, P.col b ≠ 0 → w.heap.size + 1 ≤ b
section
variable {F : Face} {w X Y : World} {P : Pl} {c : List Int} {n : Nat}
theorem LieN.on (H : LieN F w X P c n) (b : Below X.heap.size X Y) : LieN F w Y P c n := by
  obtain ⟨cs, t, h1, h2⟩ := H.tab
  exact ⟨grow H.below b, H.cfg.on b, onB H.fus b, ⟨cs, t, onB h1 b, h2⟩, fun i hi => onB (H.trk i hi) b, fun j hj => F.on (H.sig j hj) b, ring_on H.rng b, H.cf, H.ct, H.cr, H.ch, H.cs, fun k hk => Nat.lt_of_lt_of_le (H.lt k hk) b.size, H.n4, H.new⟩
theorem LieN.full (H : LieN F w X P c 8) (hg : 0 < w.heap.size) : Lie F X P c (begin c) :=
  ⟨H.fus, H.tab, H.trk, H.sig, H.rng, H.cf, H.ct, H.cr, H.ch, H.cs, H.lt, H.n4, by
    by_cases q : P.col 0 = 0
    · exact q
    · have := H.new _ q; omega, Nat.lt_of_lt_of_le hg H.below.size⟩
open Classical in
/-- One signal more. -/
theorem LieN.next (H : LieN F w X P c n) (hn : n < 8) {g : Nat} {S' : Nat → Prop} (a : F.At Y S' g c (Sg.begin c)) (hS : ∀ j, S' j → X.heap.size ≤ j) (b : Below X.heap.size X Y) :
    ∃ P', LieN F w (Y.setCell ⟨P.f, 2 + n, none⟩ (ptr g)) P' c (n + 1) ∧ P'.f = P.f := by
  have K := H.on b
  have bb : But (· = P.f) Y (Y.setCell ⟨P.f, 2 + n, none⟩ (ptr g)) := (But.refl (· = P.f) Y).setCell (p := ⟨P.f, 2 + n, none⟩) (Or.inl rfl) _
  have hfn := H.new P.f (by rw [H.cf]; decide)
  have hf : ∀ k, P.col k ≠ 1 → ¬ k = P.f := fun k hk q => hk (by rw [q, H.cf])
  have hfl := H.lt P.f (by rw [H.cf]; decide)
  have low : ∀ k, P.col k ≠ 0 → (if X.heap.size ≤ k then (if S' k then 10 + n else 0) else P.col k) = P.col k := fun k hk => if_neg (by have := H.lt k hk; omega)
  obtain ⟨cs, t, h1, h2⟩ := K.tab
  refine ⟨{ P with g := upd P.g n g, S := upd P.S n S', col := fun k => if X.heap.size ≤ k then (if S' k then 10 + n else 0) else P.col k }, ⟨?_, ?_, ?_, ⟨cs, t, h1.but bb (hf _ (by rw [H.ct]; decide)), h2⟩, fun i hi => (K.trk i hi).but bb (hf _ (by rw [H.ch i hi]; omega)), fun j hj => ?_,
    (show IRow _ _ _ _ _ from K.rng).but bb (hf _ (by rw [H.cr]; decide)), (low P.f (by rw [H.cf]; decide)).trans H.cf, (low P.tb (by rw [H.ct]; decide)).trans H.ct, (low P.r (by rw [H.cr]; decide)).trans H.cr, fun i hi => (low (P.h i) (by rw [H.ch i hi]; omega)).trans (H.ch i hi), fun j x hj hx => ?_, fun x hx => ?_, H.n4, fun x hx => ?_⟩, rfl⟩
  · exact K.below.setCell (p := ⟨P.f, 2 + n, none⟩) (by show w.heap.size ≤ P.f; omega) _
  · exact (show VRow _ w.heap.size 24 (cellsI .i64 c) from VRow.setOther (show VRow Y w.heap.size 24 (cellsI .i64 c) from K.cfg) (p := ⟨P.f, 2 + n, none⟩) (by show w.heap.size ≠ P.f; omega) _)
  · have := K.fus.set (2 + n) (ptr g)
    rw [fc0_set _ _ _ _ _ hn] at this
    exact this
  · show F.At _ (upd P.S n S' j) (upd P.g n g j) c (Sg.begin c)
    by_cases e : j = n
    · subst e
      rw [upd_same, upd_same]
      exact F.keep a bb fun k hk (q : k = P.f) => by have := hS k hk; omega
    · rw [upd_ne _ _ e, upd_ne _ _ e]
      exact F.keep (K.sig j (by omega)) bb fun k hk => hf k (by rw [H.cs j k (by omega) hk]; omega)
  · replace hx : upd P.S n S' j x := hx
    show (if X.heap.size ≤ x then (if S' x then 10 + n else 0) else P.col x) = 10 + j
    by_cases e : j = n
    · subst e
      rw [upd_same] at hx
      rw [if_pos (hS x hx), if_pos hx]
    · rw [upd_ne _ _ e] at hx
      have := H.cs j x (by omega) hx
      have hl := H.lt x (by omega)
      rw [if_neg (by omega)]; exact this
  · replace hx : (if X.heap.size ≤ x then (if S' x then 10 + n else 0) else P.col x) ≠ 0 := hx
    have hz : (Y.setCell ⟨P.f, 2 + n, none⟩ (ptr g)).heap.size = Y.heap.size := by simp [World.setCell]
    rw [hz]
    split at hx
    · split at hx
      · rename_i q; exact F.lt a x q
      · exact absurd rfl hx
    · exact Nat.lt_of_lt_of_le (H.lt x hx) b.size
  · replace hx : (if X.heap.size ≤ x then (if S' x then 10 + n else 0) else P.col x) ≠ 0 := hx
    split at hx
    · have := H.cfg.lt; omega
    · exact H.new x hx
theorem ne_type {X : World} {a b : Nat} {t e : TypeId} {cs : List Value} {cur : Array Value} (h : VRow X a t cs) (hb : X.heap[b]? = some (.cells cur e (0, 0))) (ht : t ≠ e) : a ≠ b := fun q => by
  subst q
  unfold VRow at h
  rw [hb] at h
  injection h with h; injection h with h1 h2
  exact ht h2.symm
/-- The tracks are made. -/
theorem LieN.start {f r : Nat} {h : Nat → Nat} {v : Value} (h3 : 3 ≤ NN c) (h4 : NN c ≤ 4) (H : Tm w X c f r h (NN c) v) : ∃ P : Pl, LieN F w X P c 0 ∧ P.f = f ∧ v = .slice (some ⟨P.tb, 0, none⟩) (NN c) P.cap := by
  rcases H.row.2 with ⟨-, h0⟩ | ⟨tb, cap, cur, rfl, hb, hh, h5, h6, h7, h8⟩
  · omega
  · have n1 : f ≠ tb := ne_type H.fus hh (by decide)
    have n2 : r ≠ tb := ne_type (t := 168) (IRow.vrow H.rng) hh (by decide)
    have n3 : ∀ i, i < NN c → h i ≠ tb := fun i hi => ne_type (H.trk i hi) hh (by decide)
    have n5 : w.heap.size ≠ tb := ne_type (t := 24) (cs := cellsI .i64 c) H.cfg hh (by decide)
    obtain ⟨l1, l2⟩ := H.lo
    have u0 := H.up 0 (by omega)
    have u1 := H.up 1 (by omega)
    have u2 := H.up 2 (by omega)
    have o1 := H.ord 0 1 (by omega) (by omega)
    have o2 := H.ord 1 2 (by omega) (by omega)
    have m0 := n3 0 (by omega)
    have m1 := n3 1 (by omega)
    have m2 := n3 2 (by omega)
    have htl : tb < X.heap.size := by
      rcases Nat.lt_or_ge tb X.heap.size with q | q
      · exact q
      · rw [Array.getElem?_eq_none q] at hh; cases hh
    have k0 := (H.trk 0 (by omega)).lt
    have k1 := (H.trk 1 (by omega)).lt
    have k2 := (H.trk 2 (by omega)).lt
    have kf := H.fus.lt
    have u3 : 3 < NN c → f < h 3 ∧ h 2 < h 3 ∧ h 3 ≠ tb ∧ h 3 < X.heap.size := fun q => ⟨H.up 3 q, H.ord 2 3 (by omega) q, n3 3 q, (H.trk 3 q).lt⟩
    refine ⟨⟨f, tb, cap, r, h, fun _ => 0, fun _ _ => False, fun b => if b = f then 1 else if b = tb then 2 else if b = r then 3 else if b = h 0 then 4 else if b = h 1 then 5 else if b = h 2 then 6 else if 3 < NN c ∧ b = h 3 then 7 else 0⟩, ⟨H.below, H.cfg, ?_, ⟨cur.toList, _, by simpa [VRow] using hh, fun i hi => ?_⟩, H.trk, fun j hj => by omega, H.rng, if_pos rfl, ?_, ?_, fun i hi => ?_, fun j b hj => by omega, fun b hb' => ?_, h4, fun b hb' => ?_⟩, rfl, rfl⟩
    · show VRow X f _ (fc0 c (.slice (some ⟨tb, 0, none⟩) (NN c) cap) (pgs (fun _ => 0) 0) r)
      rw [pgs_zero]; exact H.fus
    · have hp : (prow h (NN c))[i]? = some (ptr (h i)) := by unfold prow; rw [List.getElem?_map, List.getElem?_range hi]; rfl
      rw [← h8, List.getElem?_take_of_lt (by omega)] at hp
      exact hp
    · show (if tb = f then 1 else if tb = tb then 2 else _) = 2
      rw [if_neg (fun q => n1 q.symm), if_pos rfl]
    · show (if r = f then 1 else if r = tb then 2 else if r = r then 3 else _) = 3
      rw [if_neg (by omega), if_neg n2, if_pos rfl]
    · show (if h i = f then 1 else if h i = tb then 2 else if h i = r then 3 else if h i = h 0 then 4 else if h i = h 1 then 5 else if h i = h 2 then 6 else if 3 < NN c ∧ h i = h 3 then 7 else 0) = 4 + i
      have : i = 0 ∨ i = 1 ∨ i = 2 ∨ i = 3 := by omega
      rcases this with rfl | rfl | rfl | rfl
      · rw [if_neg (by omega), if_neg m0, if_neg (by omega), if_pos rfl]
      · rw [if_neg (by omega), if_neg m1, if_neg (by omega), if_neg (by omega), if_pos rfl]
      · rw [if_neg (by omega), if_neg m2, if_neg (by omega), if_neg (by omega), if_neg (by omega), if_pos rfl]
      · obtain ⟨q1, q2, q3, q4⟩ := u3 hi
        rw [if_neg (by omega), if_neg q3, if_neg (by omega), if_neg (by omega), if_neg (by omega), if_neg (by omega), if_pos ⟨hi, rfl⟩]
    · replace hb' : (if b = f then 1 else if b = tb then 2 else if b = r then 3 else if b = h 0 then 4 else if b = h 1 then 5 else if b = h 2 then 6 else if 3 < NN c ∧ b = h 3 then 7 else 0) ≠ 0 := hb'
      by_cases q3 : 3 < NN c ∧ b = h 3
      · have := u3 q3.1; omega
      · rw [if_neg q3] at hb'
        repeat' split at hb'
        all_goals omega
    · replace hb' : (if b = f then 1 else if b = tb then 2 else if b = r then 3 else if b = h 0 then 4 else if b = h 1 then 5 else if b = h 2 then 6 else if 3 < NN c ∧ b = h 3 then 7 else 0) ≠ 0 := hb'
      by_cases q3 : 3 < NN c ∧ b = h 3
      · have := u3 q3.1; omega
      · rw [if_neg q3] at hb'
        repeat' split at hb'
        all_goals omega
end
end Fu
end Go.Proofs.YtpoededbmdffpaaGreatDoor
