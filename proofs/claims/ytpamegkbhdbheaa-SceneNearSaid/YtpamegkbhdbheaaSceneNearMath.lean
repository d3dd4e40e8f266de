/-
  What SceneNear asks of a right scene, in numbers; what lies about while it goes on. No function of the program is walked here. No conditions.
-/
import Derived.Test.YtpamegkbhdbheaaSceneCycles
import Derived.Test.YtpamegkbhdbheaaSceneRange
namespace Go.Proofs.Ytpamegkbhdbheaa
set_option maxRecDepth 100000
open Go.ChangeShapes Go.WideShapes Go.ChangeAt Go.RowKit Go.Deep
namespace Sc
open Cf (G CA)

/-- The next numbers, channel by channel, in the point i, behind k channels. -/
def sqv (s : Sn) (i k j : Nat) : Int := if j < NN s ∧ ¬ (j : Int) = s.odd then (qv s j + ((if j < k then i + 1 else i : Nat) : Int)) % 65536 else qv s j
def sqs (s : Sn) (i k : Nat) : List Int := [sqv s i k 0, sqv s i k 1, sqv s i k 2, sqv s i k 3]
theorem sqs_get (s : Sn) (i k : Nat) {j : Nat} (hj : j < 4) : (sqs s i k).getD j 0 = sqv s i k j := by
  obtain rfl | rfl | rfl | rfl : j = 0 ∨ j = 1 ∨ j = 2 ∨ j = 3 := by omega
  all_goals rfl
theorem sqs_start {s : Sn} (H : Ok s) (hq : s.q.length = 4) : sqs s 0 0 = s.q := by
  have e : ∀ j, j < 4 → sqv s 0 0 j = qv s j := by
    intro j hj
    unfold sqv
    split
    · rename_i h
      have := H.num j h.1
      simp
      omega
    · rfl
  unfold sqs
  rw [e 0 (by omega), e 1 (by omega), e 2 (by omega), e 3 (by omega)]
  match h : s.q, hq with
  | [x0, x1, x2, x3], _ => unfold qv; rw [h]; rfl
theorem sqs_odd {s : Sn} (i k : Nat) (ho : (k : Int) = s.odd) : sqs s i (k + 1) = sqs s i k := by
  have e : ∀ j, sqv s i (k + 1) j = sqv s i k j := by
    intro j
    unfold sqv
    split
    · rename_i h
      by_cases q : j < k
      · rw [if_pos q, if_pos (by omega)]
      · rw [if_neg q, if_neg (by intro h'; have : j = k := by omega
                                 subst this; exact h.2 ho)]
    · rfl
  unfold sqs
  rw [e, e, e, e]
theorem sqv_is {s : Sn} (i k : Nat) (hk : k < NN s) (ho : ¬ (k : Int) = s.odd) : sqv s i k k = sq s i k := by
  unfold sqv sq; rw [if_pos ⟨hk, ho⟩, if_neg (by omega)]
theorem sqs_next {s : Sn} (i k : Nat) (hk : k < NN s) (h4 : k < 4) (ho : ¬ (k : Int) = s.odd) : (sqs s i k).set k (Wd.next (sq s i k)) = sqs s i (k + 1) := by
  have e : ∀ j, j ≠ k → sqv s i (k + 1) j = sqv s i k j := by
    intro j hj
    unfold sqv
    split
    · by_cases q : j < k
      · rw [if_pos q, if_pos (by omega)]
      · rw [if_neg q, if_neg (by omega)]
    · rfl
  have e2 : sqv s i (k + 1) k = Wd.next (sq s i k) := by
    unfold sqv sq Wd.next
    rw [if_pos ⟨hk, ho⟩, if_pos (by omega)]
    have h1 := Int.emod_nonneg (qv s k + i) (b := 65536) (by decide)
    have h2 := Int.emod_lt_of_pos (qv s k + i) (b := 65536) (by decide)
    split <;> omega
  unfold sqs
  obtain rfl | rfl | rfl | rfl : k = 0 ∨ k = 1 ∨ k = 2 ∨ k = 3 := by omega
  · rw [← e2, e 1 (by omega), e 2 (by omega), e 3 (by omega)]; rfl
  · rw [← e2, e 0 (by omega), e 2 (by omega), e 3 (by omega)]; rfl
  · rw [← e2, e 0 (by omega), e 1 (by omega), e 3 (by omega)]; rfl
  · rw [← e2, e 0 (by omega), e 1 (by omega), e 2 (by omega)]; rfl
theorem sqs_row {s : Sn} (i : Nat) : sqs s i (NN s) = sqs s (i + 1) 0 := by
  have e : ∀ j, sqv s i (NN s) j = sqv s (i + 1) 0 j := by
    intro j
    unfold sqv
    split
    · rename_i h; rw [if_pos h.1, if_neg (by omega)]
    · rfl
  unfold sqs
  rw [e, e, e, e]
theorem near_all {s : Sn} (H : Ok s) {i k n : Nat} (hi' : i < s.ps.length) (hk : k < NN s) (hn : n < 8) (ho : ¬ (k : Int) = s.odd) :
    lo 2147483647 s i n (NN s) ≤ val s i k n ∧ val s i k n ≤ hi (-2147483648) s i n (NN s) ∧ tv s i n - s.e ≤ lo 2147483647 s i n (NN s) ∧ hi (-2147483648) s i n (NN s) ≤ tv s i n + s.e ∧ G s.c 1 ≤ val s i k n ∧ val s i k n ≤ G s.c 2 ∧
      G s.c 1 + s.e ≤ tv s i n ∧ tv s i n ≤ G s.c 2 - s.e := by
  have C := cv_of H.cov
  have ht := H.truth hi' hn
  have hw := H.within hi' hk hn ho
  have c1 := C.lo
  have c2 := C.hi
  have ce := C.e
  exact ⟨lo_each hk ho, hi_each hk ho, lo_above (by omega) (fun j hj hjo => (H.near hi' hj hn hjo).1), hi_below (by omega) (fun j hj hjo => (H.near hi' hj hn hjo).2), hw.1, hw.2, ht.1, ht.2⟩
/-- What lies about. -/
structure Nr (w0 w W : World) (g gl qg : Nat) (s : Sn) (a : Option Addr) (cap : Nat) (T : Nat → Sl4) (Q : List Int) : Prop where
  bd : Bd w W g s a cap
  fill : Fill w0 W gl s s.ps.length T (4 * s.ps.length)
  row : IRow .i64 W qg 22 Q
  ge : w.heap.size ≤ qg
  ge0 : w0.heap.size ≤ qg
  n1 : g ≠ qg
  n2 : gl ≠ qg
section
variable {w0 w W W' : World} {g gl qg : Nat} {s : Sn} {a : Option Addr} {cap : Nat} {T : Nat → Sl4} {Q : List Int}
theorem Nr.on (h : Nr w0 w W g gl qg s a cap T Q) (b : Below W.heap.size W W') : Nr w0 w W' g gl qg s a cap T Q := ⟨h.bd.on b, h.fill.on b, h.row.below b h.row.lt, h.ge, h.ge0, h.n1, h.n2⟩
theorem Nr.set (h : Nr w0 w W g gl qg s a cap T Q) (hp : PsAt w a s.ps) (j : Nat) (x : Int) : Nr w0 w (W.setCell ⟨qg, j, none⟩ (.int .i64 x)) g gl qg s a cap T (Q.set j x) := by
  have hnot : ∀ u, u ∈ cellsI .i64 Q → ∀ x, u ≠ .int .u8 x := by
    intro u hu x e
    unfold cellsI at hu
    rw [List.mem_map] at hu
    obtain ⟨y, -, rfl⟩ := hu
    cases e
  have stay : ∀ {a : Option Addr} {r : List Int}, IntsAt .u8 W a r → IntsAt .u8 (W.setCell ⟨qg, j, none⟩ (.int .i64 x)) a r := fun {a r} q => by
    by_cases hl : 0 < r.length
    · exact q.but ((But.refl (· = qg) W).setCell (p := ⟨qg, j, none⟩) (Or.inl rfl) _) (u8_apart q hl h.row.vrow hnot)
    · exact Or.inl (List.length_eq_zero_iff.1 (by omega))
  have bl := h.bd.below.setCell (p := ⟨qg, j, none⟩) h.ge (.int .i64 x)
  exact ⟨⟨⟨h.bd.at_.row.setOther (p := ⟨qg, j, none⟩) h.n1 _, hp.below bl, h.bd.at_.len⟩, bl⟩,
    ⟨h.fill.below.setCell (p := ⟨qg, j, none⟩) h.ge0 _, h.fill.row.setOther (p := ⟨qg, j, none⟩) h.n2 _, h.fill.ge, fun k hk => ⟨(h.fill.good k hk).eis, (h.fill.good k hk).el, (h.fill.good k hk).cap, stay (h.fill.good k hk).at_⟩⟩,
    h.row.set j x, h.ge, h.ge0, h.n1, h.n2⟩
/-- A slot of a cycle, as it is loaded. -/
theorem Nr.slot (h : Nr w0 w W g gl qg s a cap T Q) {i k : Nat} (hi : i < s.ps.length) (hk : k < 4) (hkn : k < NN s) : ∃ ad cp, W.rangeAt gl (i * 8 + k * 2) [.bool (sis s i k), .slice ad (sby s i k).length cp] ∧ (sby s i k).length ≤ cp ∧ IntsAt .u8 W ad (sby s i k) := by
  have g := h.fill.good (4 * i + k) (by omega)
  have e1 : cis s (4 * s.ps.length) (4 * i + k) = sis s i k := by
    unfold cis sisC; rw [if_pos (by omega), show (4 * i + k) / 4 = i by omega, show (4 * i + k) % 4 = k by omega, if_pos hkn]
  have e2 : cby s (4 * s.ps.length) (4 * i + k) = sby s i k := by
    unfold cby sbyC; rw [if_pos (by omega), show (4 * i + k) / 4 = i by omega, show (4 * i + k) % 4 = k by omega, if_pos hkn]
  rw [e1, e2] at g
  refine ⟨(T (4 * i + k)).a, (T (4 * i + k)).cap, fun j v hv => ?_, g.cap, g.at_⟩
  have hj : j < 2 := (List.getElem?_eq_some_iff.1 hv).1
  refine h.fill.row.cell _ ?_
  rw [show i * 8 + k * 2 + j = 2 * (4 * i + k) + j by omega, cyl_get T (4 * s.ps.length) (4 * i + k) j (by omega) hj]
  unfold s2
  rw [g.eis, g.el]
  exact hv
end
end Sc
end Go.Proofs.Ytpamegkbhdbheaa
