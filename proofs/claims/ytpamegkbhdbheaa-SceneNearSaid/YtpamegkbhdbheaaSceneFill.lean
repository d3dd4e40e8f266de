/-
  Slots of many cycles in one row: how they come to lie there, one by one; what Cycles of package scene lays. No function of the program is walked here. No conditions.
-/
import Derived.Test.YtpamegkbhdbheaaSceneSent
namespace Go.Proofs.Ytpamegkbhdbheaa
set_option maxRecDepth 100000
open Go.ChangeShapes Go.WideShapes Go.ChangeAt Go.RowKit Go.Deep
namespace Sc
open Cf (G CA)

/-- A slot, as it lies in memory. -/
structure Sl4 where
  is : Bool
  a : Option Addr
  l : List Int
  cap : Nat
def s2 (u : Sl4) : List Value := [.bool u.is, .slice u.a u.l.length u.cap]
def cyl : Nat → (Nat → Sl4) → List Value
  | 0, _ => []
  | m + 1, T => cyl m T ++ s2 (T m)
theorem cyl_len (T : Nat → Sl4) : ∀ m, (cyl m T).length = 2 * m
  | 0 => rfl
  | m + 1 => by rw [cyl, List.length_append, cyl_len T m]; simp [s2]; omega
theorem cyl_get (T : Nat → Sl4) : ∀ m j r, j < m → r < 2 → (cyl m T)[2 * j + r]? = (s2 (T j))[r]?
  | 0, j, r, h, _ => by omega
  | m + 1, j, r, h, hr => by
    rw [cyl]
    by_cases hj : j < m
    · rw [List.getElem?_append_left (by rw [cyl_len]; omega)]; exact cyl_get T m j r hj hr
    · obtain rfl : j = m := by omega
      rw [List.getElem?_append_right (by rw [cyl_len]; omega), cyl_len, Nat.add_sub_cancel_left]
theorem cyl_mem (T : Nat → Sl4) : ∀ m v, v ∈ cyl m T → ∃ j, v ∈ s2 (T j)
  | 0, v, h => by cases h
  | m + 1, v, h => by
    rw [cyl] at h
    rcases List.mem_append.1 h with h | h
    · exact cyl_mem T m v h
    · exact ⟨m, h⟩
theorem cyl_not (T : Nat → Sl4) (m : Nat) : ∀ v, v ∈ cyl m T → ∀ x, v ≠ .int .u8 x := by
  intro v hv x e
  obtain ⟨j, hj⟩ := cyl_mem T m v hv
  exact slot_not _ _ _ _ v hj x e
def upd (T : Nat → Sl4) (j : Nat) (u : Sl4) : Nat → Sl4 := fun x => if x = j then u else T x
theorem cyl_ext {l : List Value} {T : Nat → Sl4} {m : Nat} (hl : l.length = 2 * m) (h : ∀ j r, j < m → r < 2 → l[2 * j + r]? = (s2 (T j))[r]?) : l = cyl m T := by
  refine List.ext_getElem? fun x => ?_
  by_cases hx : x < 2 * m
  · have e : x = 2 * (x / 2) + x % 2 := by omega
    rw [e, h (x / 2) (x % 2) (by omega) (by omega), cyl_get T m (x / 2) (x % 2) (by omega) (by omega)]
  · rw [List.getElem?_eq_none (by omega), List.getElem?_eq_none (by rw [cyl_len]; omega)]
theorem cyl_set (T : Nat → Sl4) (m j : Nat) (u : Sl4) (hj : j < m) : ((cyl m T).set (2 * j) (.bool u.is)).set (2 * j + 1) (.slice u.a u.l.length u.cap) = cyl m (upd T j u) := by
  refine cyl_ext (by rw [List.length_set, List.length_set, cyl_len]) fun x r hx hr => ?_
  have hl := cyl_len T m
  unfold upd
  rcases (show r = 0 ∨ r = 1 by omega) with rfl | rfl
  · rw [List.getElem?_set_ne (by omega)]
    by_cases e : x = j
    · subst e; rw [if_pos rfl, Nat.add_zero, List.getElem?_set_self (by omega)]; rfl
    · rw [if_neg e, List.getElem?_set_ne (by omega)]; exact cyl_get T m x 0 hx (by omega)
  · by_cases e : x = j
    · subst e; rw [if_pos rfl, List.getElem?_set_self (by rw [List.length_set]; omega)]; rfl
    · rw [if_neg e, List.getElem?_set_ne (by omega), List.getElem?_set_ne (by omega)]; exact cyl_get T m x 1 hx (by omega)
/-- What a slot holds. -/
structure Good (W : World) (u : Sl4) (is : Bool) (l : List Int) : Prop where
  eis : u.is = is
  el : u.l = l
  cap : l.length ≤ u.cap
  at_ : IntsAt .u8 W u.a l
theorem Good.on {W W' : World} {u : Sl4} {is : Bool} {l : List Int} (h : Good W u is l) (b : Below W.heap.size W W') : Good W' u is l := ⟨h.eis, h.el, h.cap, h.at_.below b⟩
def sisC (s : Sn) (i k : Nat) : Bool := if k < NN s then sis s i k else false
def sbyC (s : Sn) (i k : Nat) : List Int := if k < NN s then sby s i k else []
def cis (s : Sn) (n j : Nat) : Bool := if j < n then sisC s (j / 4) (j % 4) else false
def cby (s : Sn) (n j : Nat) : List Int := if j < n then sbyC s (j / 4) (j % 4) else []
/-- The first n slots have come. -/
structure Fill (w W : World) (gl : Nat) (s : Sn) (m : Nat) (T : Nat → Sl4) (n : Nat) : Prop where
  below : Below w.heap.size w W
  row : VRow W gl 46 (cyl (4 * m) T)
  ge : w.heap.size ≤ gl
  good : ∀ j, j < 4 * m → Good W (T j) (cis s n j) (cby s n j)
section
variable {w W W' : World} {gl : Nat} {s : Sn} {m n : Nat} {T : Nat → Sl4}
theorem Fill.on (h : Fill w W gl s m T n) (b : Below W.heap.size W W') : Fill w W' gl s m T n := ⟨grow h.below b, h.row.below b h.row.lt, h.ge, fun j hj => (h.good j hj).on b⟩
theorem Fill.put (h : Fill w W gl s m T n) (i k : Nat) (hn : n = 4 * i + k) (hi : i < m) (hk : k < 4) {u : Sl4} (hu : Good W u (sisC s i k) (sbyC s i k)) :
    Fill w (W.setCells gl (i * 8 + k * 2) (s2 u)) gl s m (upd T n u) (n + 1) := by
  have e : W.setCells gl (i * 8 + k * 2) (s2 u) = (W.setCell ⟨gl, 2 * n, none⟩ (.bool u.is)).setCell ⟨gl, 2 * n + 1, none⟩ (.slice u.a u.l.length u.cap) := by
    rw [show i * 8 + k * 2 = 2 * n by omega]; rfl
  rw [e]
  have stay : ∀ {a : Option Addr} {l : List Int}, IntsAt .u8 W a l → IntsAt .u8 ((W.setCell ⟨gl, 2 * n, none⟩ (.bool u.is)).setCell ⟨gl, 2 * n + 1, none⟩ (.slice u.a u.l.length u.cap)) a l := fun q => u8_set q h.row (cyl_not _ _)
  refine ⟨(h.below.setCell (p := ⟨gl, 2 * n, none⟩) h.ge _).setCell (p := ⟨gl, 2 * n + 1, none⟩) h.ge _, ?_, h.ge, fun j hj => ?_⟩
  · rw [← cyl_set T (4 * m) n u (by omega)]
    exact (h.row.set (2 * n) _).set (2 * n + 1) _
  · unfold upd
    by_cases ej : j = n
    · subst ej
      rw [if_pos rfl]
      have e1 : cis s (j + 1) j = sisC s i k := by unfold cis; rw [if_pos (by omega), show j / 4 = i by omega, show j % 4 = k by omega]
      have e2 : cby s (j + 1) j = sbyC s i k := by unfold cby; rw [if_pos (by omega), show j / 4 = i by omega, show j % 4 = k by omega]
      rw [e1, e2]
      exact ⟨hu.eis, hu.el, hu.cap, stay hu.at_⟩
    · rw [if_neg ej]
      have e1 : cis s (n + 1) j = cis s n j := by unfold cis; by_cases q : j < n <;> simp [q] <;> omega
      have e2 : cby s (n + 1) j = cby s n j := by unfold cby; by_cases q : j < n <;> simp [q] <;> omega
      rw [e1, e2]
      have g := h.good j hj
      exact ⟨g.eis, g.el, g.cap, stay g.at_⟩
theorem Fill.next (h : Fill w W gl s m T n) (i : Nat) (hn : n = 4 * i + NN s) (h4 : NN s ≤ 4) : Fill w W gl s m T (4 * (i + 1)) := by
  refine ⟨h.below, h.row, h.ge, fun j hj => ?_⟩
  have e1 : cis s (4 * (i + 1)) j = cis s n j := by
    unfold cis
    by_cases q : j < n
    · rw [if_pos q, if_pos (by omega)]
    · rw [if_neg q]
      by_cases q2 : j < 4 * (i + 1)
      · rw [if_pos q2]; unfold sisC; rw [if_neg (by omega)]
      · rw [if_neg q2]
  have e2 : cby s (4 * (i + 1)) j = cby s n j := by
    unfold cby
    by_cases q : j < n
    · rw [if_pos q, if_pos (by omega)]
    · rw [if_neg q]
      by_cases q2 : j < 4 * (i + 1)
      · rw [if_pos q2]; unfold sbyC; rw [if_neg (by omega)]
      · rw [if_neg q2]
  rw [e1, e2]
  exact h.good j hj
end
theorem cycInfo : (Try.prog.info? 46).map (fun i => (i.zero, i.size, i.bytes)) = some (some (.agg #[.bool false, .slice none 0 0, .bool false, .slice none 0 0, .bool false, .slice none 0 0, .bool false, .slice none 0 0]), 8, 128) := by kernel_rfl
def zSl : Sl4 := ⟨false, none, [], 0⟩
theorem zeros_cyl (n : Nat) : (madeCells (Value.agg #[.bool false, .slice none 0 0, .bool false, .slice none 0 0, .bool false, .slice none 0 0, .bool false, .slice none 0 0]).cells (n * 8)).toList = cyl (4 * n) (fun _ => zSl) := by
  refine cyl_ext (by rw [Array.length_toList, size_madeCells]; omega) fun j r hj hr => ?_
  unfold madeCells
  simp only [Array.toList_map, Array.toList_range, List.getElem?_map]
  rw [List.getElem?_range (by omega)]
  simp only [Option.map_some, Value.cells]
  rcases (show r = 0 ∨ r = 1 by omega) with rfl | rfl
  · rcases (show 2 * j % 8 = 0 ∨ 2 * j % 8 = 2 ∨ 2 * j % 8 = 4 ∨ 2 * j % 8 = 6 by omega) with h | h | h | h <;> simp [h, s2, zSl]
  · rcases (show (2 * j + 1) % 8 = 1 ∨ (2 * j + 1) % 8 = 3 ∨ (2 * j + 1) % 8 = 5 ∨ (2 * j + 1) % 8 = 7 by omega) with h | h | h | h <;> simp [h, s2, zSl]
theorem row_of_own {w : World} {base n g : Nat} {t : TypeId} {xs : List Value} {z : Nat} (h : w.ownsRow base t z (.slice (some ⟨g, 0, none⟩) n n) n xs) : VRow w g t xs := by
  rcases h with ⟨_, ⟨h0, _⟩ | ⟨g', cap, cur, hv, _, hh, _, _, hs, ht⟩⟩
  · cases h0
  · injection hv with h1 h2 h3
    injection h1 with h1; injection h1 with h1
    subst h1; subst h3
    unfold VRow
    rw [hh]
    have : cur = xs.toArray := by
      apply Array.toList_inj.1
      rw [← ht, List.take_of_length_le (by rw [Array.length_toList, hs]; exact Nat.le_refl _)]
    rw [this]
theorem fill_new {w W : World} {base gl : Nat} {s : Sn} {m : Nat} (hb : Below w.heap.size w W) (hg : w.heap.size ≤ gl) (h : W.ownsRow base 46 8 (.slice (some ⟨gl, 0, none⟩) m m) m (madeCells (Value.agg #[.bool false, .slice none 0 0, .bool false, .slice none 0 0, .bool false, .slice none 0 0, .bool false, .slice none 0 0]).cells (m * 8)).toList) :
    Fill w W gl s m (fun _ => zSl) 0 := by
  rw [zeros_cyl] at h
  exact ⟨hb, row_of_own h, hg, fun j hj => ⟨rfl, rfl, Nat.zero_le _, Or.inl rfl⟩⟩
end Sc
end Go.Proofs.Ytpamegkbhdbheaa
