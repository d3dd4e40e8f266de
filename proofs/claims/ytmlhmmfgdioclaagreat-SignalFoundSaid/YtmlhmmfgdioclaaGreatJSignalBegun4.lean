/-
  What the laws' own helper begun tells: a contract by walking the Go text, over whatever package signal's contracts are. Conditions: how the points lie.
  What the laws of layer 18 over a truth bring in a cycle: mathematics alone: what the channels tell keeps what a configuration that covers asks. No conditions.
  What lies about while a law of layer 18 over a truth goes on: the boxes of the configuration and the trace, and the signal. No function of the program is walked here. No conditions.
  What SignalFound says of a cycle: mathematics alone: the odd one's trips, its latch, and the masks' bits. No conditions.
-/
import Derived.Test.YtmlhmmfgdioclaaGreatJSignalHelp2
import Derived.Test.YtmlhmmfgdioclaaGreatJFlat3
import Derived.Deep.LoopGhost
namespace Go.Proofs.YtmlhmmfgdioclaaGreat
set_option maxRecDepth 100000
open Go.ChangeShapes Go.WideShapes Go.ChangeAt Go.RowKit Go.Deep
namespace Sg
open Cf (G CA Box)

/-- Points, where they lie. -/
def P7 (w : World) (b o : Nat) (p : Pt) : Prop := ∀ (i : Nat) v, (ptv p)[i]? = some v → w.cell? ⟨b, o + i, none⟩ = some v
theorem P7.on {w W : World} {b o : Nat} {p : Pt} (h : P7 w b o p) (B : Below w.heap.size w W) : P7 W b o p := fun i v hv => (B.cell (p := ⟨b, o + i, none⟩) (cell_lt (h i v hv))).trans (h i v hv)
theorem P7.cells {w : World} {b o : Nat} {p : Pt} (h : P7 w b o p) : w.cell? ⟨b, o, none⟩ = some (.int .i16 p.mv) ∧ w.cell? ⟨b, o + 1, none⟩ = some (.int .i16 p.f0) ∧ w.cell? ⟨b, o + 2, none⟩ = some (.int .i16 p.f1) ∧ w.cell? ⟨b, o + 3, none⟩ = some (.int .i16 p.f2) ∧ w.cell? ⟨b, o + 4, none⟩ = some (.int .i16 p.f3) ∧ w.cell? ⟨b, o + 5, none⟩ = some (.bool p.raw.is) ∧ w.cell? ⟨b, o + 6, none⟩ = some (.int .i64 p.raw.n) :=
  ⟨h 0 _ rfl, h 1 _ rfl, h 2 _ rfl, h 3 _ rfl, h 4 _ rfl, h 5 _ rfl, h 6 _ rfl⟩
def PtsAt (w : World) (a : Option Addr) (l : List Pt) : Prop := 0 < l.length → ∃ b off, a = some ⟨b, off, none⟩ ∧ ∀ (i : Nat) p, l[i]? = some p → P7 w b (off + i * 7) p
theorem PtsAt.on {w W : World} {a : Option Addr} {l : List Pt} (h : PtsAt w a l) (B : Below w.heap.size w W) : PtsAt W a l := fun hp => by
  obtain ⟨b, off, e, k⟩ := h hp
  exact ⟨b, off, e, fun i p hi => (k i p hi).on B⟩
/-- Does the odd one tell what may be, at all points? -/
def fitp (l : List Pt) : Bool := l.all fun p => decide (-2147483648 ≤ p.raw.n) && decide (p.raw.n ≤ 2147483647)
theorem fit_next {l : List Pt} {k : Nat} {p : Pt} (h : l[k]? = some p) (h1 : fitp (l.take k) = true) (h2 : (decide (-2147483648 ≤ p.raw.n) && decide (p.raw.n ≤ 2147483647)) = true) : fitp (l.take (k + 1)) = true := by
  unfold fitp at *
  rw [List.take_add_one, h, List.all_append, h1]
  simpa using h2
theorem fit_not {l : List Pt} {k : Nat} {p : Pt} (h : l[k]? = some p) (h2 : (decide (-2147483648 ≤ p.raw.n) && decide (p.raw.n ≤ 2147483647)) = false) : fitp l = false := by
  cases e : fitp l
  · rfl
  · unfold fitp at e
    have := List.all_eq_true.1 e p (List.mem_of_getElem? h)
    rw [h2] at this; cases this
def fitc (c : List Int) (E R : Int) (l : List Pt) : Bool := decide (l.length ≤ 120) && Cf.cov c E R && fitp l
/-- Where the truth begins. -/
def at0 (c : List Int) (E : Int) : Int := max (G c 1 + E) (min (G c 2 - E) (G c 3))

set_option maxHeartbeats 6400000 in
theorem begun_no (c : List Int) (E R O : Int) (a : Option Addr) (l : List Pt) (cap : Nat) (w : World) (hc : c.length = 21) (hl : PtsAt w a l) (hf : fitc c E R l = false) :
    Calls Tryz.prog 20 #[.agg (CA c), .agg (trv E R O a l.length cap).toArray] w fun e w' => e = .returned (.tuple #[.pointer none, .int .i64 0, .bool false]) ∧ Below w.heap.size w w' := by
  have CC := fun W => Cf.covers_any c E R W hc
  have V1 := Box.new w c
  have V2 := VRow.new (w.alloc (.cells (CA c) 24)) (trv E R O a l.length cap) 70
  have B2 := Lib.hid (((Below.refl w.heap.size w).alloc (Nat.le_refl _) (.cells (CA c) 24)).alloc (by simp) (.cells (trv E R O a l.length cap).toArray 70))
  replace V1 := Lib.hid (VRow.alloc (show VRow _ _ 24 (cellsI .i64 c) from V1) (.cells (trv E R O a l.length cap).toArray 70))
  have s1 : (w.alloc (.cells (CA c) 24)).heap.size = w.heap.size + 1 := by simp
  rw [s1] at V2
  replace V2 := Lib.hid V2
  have HL := Lib.hid (hl.on B2.out)
  have HF := Lib.hid hf
  have HC := Lib.hid hc
  clear hl s1 hf hc
  have hW : (w.alloc (.cells (CA c) 24)).alloc (.cells (trv E R O a l.length cap).toArray 70) = (w.alloc (.cells (CA c) 24)).alloc (.cells #[.int .i64 E, .int .i64 R, .int .i64 O, .slice a l.length cap] 70) := rfl
  rw [hW] at V1 V2 B2 HL
  clear hW
  obtain ⟨m, hm⟩ : ∃ m, m = l.length := ⟨_, rfl⟩
  rw [← hm] at V1 V2 B2 HL ⊢
  have HM := Lib.hid hm
  clear hm
  have k0 := V2.out.cell 0 (v := .int .i64 E) rfl
  have k1 := V2.out.cell 1 (v := .int .i64 R) rfl
  have k3 := V2.out.cell 3 (v := .slice a m cap) rfl
  unfold trv
  by_cases h120 : 120 < m
  · have d : decide (120 < (m : Int)) = true := by simp; omega
    clear h120 HL
    go_enter Tryz.func20, Tryz.ntmps20
    go_wp2
    go_ret3
    exact ⟨rfl, B2.out⟩
  · have d : decide (120 < (m : Int)) = false := by simp; omega
    have h12 : m ≤ 120 := by omega
    cases hcov : Cf.cov c E R
    · rw [hcov] at CC
      clear h120 HL hcov
      go_enter Tryz.func20, Tryz.ntmps20
      go_wp2_with ((with_reducible show wpList _ _ _ (⟨some 15, _, _, _, _, _⟩ :: _) _ _); refine Cf.wpList_loadW rfl _ rfl w.heap.size c rfl V1.out HC.out ?_)
      refine (CC _).mono ?_; rintro e w3 ⟨rfl, b3⟩
      go_wp2
      go_ret3
      exact ⟨rfl, grow B2.out b3⟩
    · have HFF := Lib.hid (show fitp l = false by
        have h := HF.out
        unfold fitc at h
        rw [← HM.out, show decide (m ≤ 120) = true by simpa using h12, hcov] at h
        simpa using h)
      rw [hcov] at CC
      clear h120 hcov HF
      go_enter Tryz.func20, Tryz.ntmps20
      go_wp2_with ((with_reducible show wpList _ _ _ (⟨some 15, _, _, _, _, _⟩ :: _) _ _); refine Cf.wpList_loadW rfl _ rfl w.heap.size c rfl V1.out HC.out ?_)
      refine (CC _).mono ?_; rintro e w3 ⟨rfl, b3⟩
      have V3 := Lib.hid (V2.out.below b3 V2.out.lt)
      have B3 := Lib.hid (grow B2.out b3)
      have HL3 := Lib.hid (HL.out.on b3)
      clear CC k0 k1 k3 b3 HL B2 V2 V1
      have k3 := V3.out.cell 3 (v := .slice a m cap) rfl
      go_wp2_with fail
      go_loopg [7] m (fun gg s7 wr => ∃ k : Nat, k + gg = m ∧ s7 = .int .i64 k ∧ Hid (fitp (l.take k) = true) ∧ w3 = wr)
      case atStart => exact ⟨0, by omega, rfl, Lib.hid rfl, rfl⟩
      case round =>
        obtain ⟨k, hk, rfl, HT, rfl⟩ := hrel
        by_cases hlt : k < m
        · have hli : (k : Int) < m := by omega
          obtain ⟨b, off, rfl, hat⟩ := HL3.out (by have := HM.out; omega)
          obtain ⟨p, hp⟩ : ∃ p, l[k]? = some p := ⟨_, List.getElem?_eq_getElem (by have := HM.out; omega)⟩
          have c6 := (hat k p hp).cells.2.2.2.2.2.2
          have c6' : w3.cell? ⟨b, off + k * 7 + 5 + 1, none⟩ = some (.int .i64 p.raw.n) := c6
          have HK := Lib.hid hk
          cases hin : (decide (-2147483648 ≤ p.raw.n) && decide (p.raw.n ≤ 2147483647))
          · have hways : decide (p.raw.n < -2147483648) = true ∨ (decide (p.raw.n < -2147483648) = false ∧ decide (2147483647 < p.raw.n) = true) := by
              by_cases q : p.raw.n < -2147483648
              · exact Or.inl (by simpa using q)
              · refine Or.inr ⟨by simpa using q, ?_⟩
                simp at hin ⊢; omega
            clear hat hp hin hk
            rcases hways with e1 | ⟨e1, e2⟩
            all_goals
              go_wp2
              go_ret3
              exact ⟨rfl, B3.out⟩
          · have HN := Lib.hid (fit_next hp HT.out hin)
            rw [Bool.and_eq_true, decide_eq_true_eq, decide_eq_true_eq] at hin
            have e1 : decide (p.raw.n < -2147483648) = false := by simp; omega
            have e2 : decide (2147483647 < p.raw.n) = false := by simp; omega
            clear hat hp hin hk
            go_wp2
            go_roundg (gk - 1)
            case rel => exact ⟨k + 1, by have := HK.out; omega, by go_num, HN, rfl⟩
            case measure => have := HK.out; omega
        · exfalso
          obtain rfl : k = m := by omega
          have h1 := HT.out
          rw [HM.out, List.take_length, HFF.out] at h1
          cases h1

set_option maxHeartbeats 6400000 in
theorem begun_yes (F : Face) (c : List Int) (E R O : Int) (a : Option Addr) (l : List Pt) (cap : Nat) (w : World) (hc : c.length = 21) (hl : PtsAt w a l) (hf : fitc c E R l = true) :
    Calls Tryz.prog 20 #[.agg (CA c), .agg (trv E R O a l.length cap).toArray] w fun e w' => ∃ g S, e = .returned (.tuple #[.pointer (some ⟨g, 0, none⟩), .int .i64 (at0 c E), .bool true]) ∧ Held F w w' S g c (begin c) := by
  have CC := fun W => Cf.covers_any c E R W hc
  have V1 := Box.new w c
  have V2 := VRow.new (w.alloc (.cells (CA c) 24)) (trv E R O a l.length cap) 70
  have B2 := Lib.hid (((Below.refl w.heap.size w).alloc (Nat.le_refl _) (.cells (CA c) 24)).alloc (by simp) (.cells (trv E R O a l.length cap).toArray 70))
  replace V1 := Lib.hid (VRow.alloc (show VRow _ _ 24 (cellsI .i64 c) from V1) (.cells (trv E R O a l.length cap).toArray 70))
  have s1 : (w.alloc (.cells (CA c) 24)).heap.size = w.heap.size + 1 := by simp
  rw [s1] at V2
  replace V2 := Lib.hid V2
  have HL := Lib.hid (hl.on B2.out)
  have HC := Lib.hid hc
  clear hl s1 hc
  have hW : (w.alloc (.cells (CA c) 24)).alloc (.cells (trv E R O a l.length cap).toArray 70) = (w.alloc (.cells (CA c) 24)).alloc (.cells #[.int .i64 E, .int .i64 R, .int .i64 O, .slice a l.length cap] 70) := rfl
  rw [hW] at V1 V2 B2 HL
  clear hW
  obtain ⟨m, hm⟩ : ∃ m, m = l.length := ⟨_, rfl⟩
  have hff := hf
  unfold fitc at hff
  rw [Bool.and_eq_true, Bool.and_eq_true, decide_eq_true_eq, ← hm] at hff
  obtain ⟨⟨h12, hcov⟩, hfit⟩ := hff
  rw [← hm] at V1 V2 B2 HL ⊢
  have HM := Lib.hid hm
  have HFT := Lib.hid hfit
  have HV := Lib.hid (cov_iff.1 hcov)
  rw [hcov] at CC
  clear hm hf hfit hcov
  have k0 := V2.out.cell 0 (v := .int .i64 E) rfl
  have k1 := V2.out.cell 1 (v := .int .i64 R) rfl
  have k3 := V2.out.cell 3 (v := .slice a m cap) rfl
  have d : decide (120 < (m : Int)) = false := by simp; omega
  unfold trv
  go_enter Tryz.func20, Tryz.ntmps20
  go_wp2_with ((with_reducible show wpList _ _ _ (⟨some 15, _, _, _, _, _⟩ :: _) _ _); refine Cf.wpList_loadW rfl _ rfl w.heap.size c rfl V1.out HC.out ?_)
  refine (CC _).mono ?_; rintro e w3 ⟨rfl, b3⟩
  have U3 := Lib.hid (V1.out.below b3 V1.out.lt)
  have V3 := Lib.hid (V2.out.below b3 V2.out.lt)
  have B3 := Lib.hid (grow B2.out b3)
  have HL3 := Lib.hid (HL.out.on b3)
  clear CC k0 k1 k3 b3 HL B2 V2 V1
  have k3 := V3.out.cell 3 (v := .slice a m cap) rfl
  go_wp2_with fail
  go_loopg [7] m (fun gg s7 wr => ∃ k : Nat, k + gg = m ∧ s7 = .int .i64 k ∧ w3 = wr)
  case atStart => exact ⟨0, by omega, rfl, rfl⟩
  case round =>
    obtain ⟨k, hk, rfl, rfl⟩ := hrel
    by_cases hlt : k < m
    · have hli : (k : Int) < m := by omega
      obtain ⟨b, off, rfl, hat⟩ := HL3.out (by have := HM.out; omega)
      obtain ⟨p, hp⟩ : ∃ p, l[k]? = some p := ⟨_, List.getElem?_eq_getElem (by have := HM.out; omega)⟩
      have c6 := (hat k p hp).cells.2.2.2.2.2.2
      have c6' : w3.cell? ⟨b, off + k * 7 + 5 + 1, none⟩ = some (.int .i64 p.raw.n) := c6
      have HK := Lib.hid hk
      have hin : -2147483648 ≤ p.raw.n ∧ p.raw.n ≤ 2147483647 := by
        have h := HFT.out
        unfold fitp at h
        have := List.all_eq_true.1 h p (List.mem_of_getElem? hp)
        simpa using this
      have e1 : decide (p.raw.n < -2147483648) = false := by simp; omega
      have e2 : decide (2147483647 < p.raw.n) = false := by simp; omega
      clear hat hp hin hk
      go_wp2
      go_roundg (gk - 1)
      case rel => exact ⟨k + 1, by have := HK.out; omega, by go_num, rfl⟩
      case measure => have := HK.out; omega
    · obtain rfl : k = m := by omega
      have CN := F.new_yes c w3 HC.out HV.out.right
      go_wp2_with ((with_reducible show wpList _ _ _ (⟨some 49, _, _, _, _, _⟩ :: _) _ _); refine Cf.wpList_loadC rfl _ rfl w.heap.size c rfl U3.out HC.out ?_)
      refine CN.mono ?_; rintro e w4 ⟨⟨g, S, rfl, A4, N4⟩, b4⟩
      have H4 := Lib.hid (show Held F w w4 S g c (begin c) from ⟨grow B3.out b4, A4, fun j hj => Nat.le_trans B3.out.size (N4 j hj), ok_begin HV.out.right⟩)
      have q1 := Cf.Box.at (Cf.Box.on (show Box w3 w.heap.size c from U3.out) b4) HC.out 1 (by omega)
      have q2 := Cf.Box.at (Cf.Box.on (show Box w3 w.heap.size c from U3.out) b4) HC.out 2 (by omega)
      have q3 := Cf.Box.at (Cf.Box.on (show Box w3 w.heap.size c from U3.out) b4) HC.out 3 (by omega)
      have q0 := (V3.out.below b4 V3.out.lt).cell 0 (v := .int .i64 E) rfl
      have HA := Lib.hid (show at0 c E = max (G c 1 + E) (min (G c 2 - E) (G c 3)) from rfl)
      obtain ⟨-, r1, r2, -⟩ := HV.out.right
      have := HV.out.e0
      have := HV.out.e1
      clear CN A4 N4 b4 k3
      have w1 : IntKind.i64.wrap (G c 1 + E) = G c 1 + E := IntWalk.i64_in _ (by omega)
      have w2 : IntKind.i64.wrap (G c 2 - E) = G c 2 - E := IntWalk.i64_in _ (by omega)
      generalize G c 1 = lo at *
      generalize G c 2 = hi at *
      generalize G c 3 = safe at *
      go_wp2_with fail
      go_quiet (fail)
      go_wp2
      go_ret3
      exact ⟨g, S, by rw [HA.out]; rfl, H4.out.on (below_drewN (Below.refl _ _) _)⟩
end Sg
end Go.Proofs.YtmlhmmfgdioclaaGreat

namespace Go.Proofs.YtmlhmmfgdioclaaGreat
set_option maxRecDepth 100000
open Go.ChangeShapes Go.WideShapes Go.ChangeAt Go.RowKit Go.Deep
namespace Sg
open Cf (G CA Box)

/-- The odd one's number; 4: there is none. -/
def od (O : Int) : Nat := if 0 ≤ O then O.toNat else 4
theorem od_iff {O : Int} {i : Nat} (hi : i < 4) : (i : Int) = O ↔ i = od O := by unfold od; split <;> omega
def told1 (c : List Int) (E O a : Int) (p : Pt) : Nat → Rw := upto (tel E O a p) (NN c)
section
variable {c : List Int} {E R O a : Int} {p : Pt}
theorem tel_not {i : Nat} (h : ¬ (i : Int) = O) : tel E O a p i = ⟨true, a + (pf p i).tmod (E + 1)⟩ := if_neg h
theorem tel_bd (h0 : 0 ≤ E) {i : Nat} (h : ¬ (i : Int) = O) : a - E ≤ (tel E O a p i).n ∧ (tel E O a p i).n ≤ a + E := by
  rw [tel_not h]
  have := tmod_bd (m := pf p i) h0
  simp only
  omega
theorem llo_le {i : Nat} (h : ¬ (i : Int) = O) : ∀ n, i < n → llo E O a p n ≤ (tel E O a p i).n
  | 0, hi => by omega
  | n + 1, hi => by
    unfold llo
    by_cases e : i = n
    · subst e; rw [if_neg h]; omega
    · have := llo_le h n (by omega)
      split <;> omega
theorem lhi_ge {i : Nat} (h : ¬ (i : Int) = O) : ∀ n, i < n → (tel E O a p i).n ≤ lhi E O a p n
  | 0, hi => by omega
  | n + 1, hi => by
    unfold lhi
    by_cases e : i = n
    · subst e; rw [if_neg h]; omega
    · have := lhi_ge h n (by omega)
      split <;> omega
theorem llo_bd (h0 : 0 ≤ E) (h1 : E ≤ 1073741824) (ha : -4294967296 ≤ a ∧ a ≤ 4294967296) : ∀ n, -8589934592 ≤ llo E O a p n ∧ llo E O a p n ≤ 4294967296
  | 0 => by unfold llo; omega
  | n + 1 => by
    have ih := llo_bd h0 h1 ha n
    unfold llo
    split
    · exact ih
    · rename_i h
      have := tel_bd (a := a) (p := p) h0 h
      omega
theorem lhi_bd (h0 : 0 ≤ E) (h1 : E ≤ 1073741824) (ha : -4294967296 ≤ a ∧ a ≤ 4294967296) : ∀ n, -4294967296 ≤ lhi E O a p n ∧ lhi E O a p n ≤ 8589934592
  | 0 => by unfold lhi; omega
  | n + 1 => by
    have ih := lhi_bd h0 h1 ha n
    unfold lhi
    split
    · exact ih
    · rename_i h
      have := tel_bd (a := a) (p := p) h0 h
      omega
theorem mvd_in (C : Cov c E R) (m : Int) : G c 1 + E ≤ mvd c E R a m ∧ mvd c E R a m ≤ G c 2 - E := by
  have := C.room
  unfold mvd
  omega
theorem at0_in (C : Cov c E R) : G c 1 + E ≤ at0 c E ∧ at0 c E ≤ G c 2 - E := by
  have := C.room
  unfold at0
  omega
theorem told_at {i : Nat} (hi : i < NN c) : told1 c E O a p i = tel E O a p i := if_pos hi
theorem told_cy (C : Cov c E R) (ha : G c 1 + E ≤ a ∧ a ≤ G c 2 - E) (hr : -2147483648 ≤ p.raw.n ∧ p.raw.n ≤ 2147483647) (m : Int) : Cy c (told1 c E O (mvd c E R a m) p) E R a (mvd c E R a m) (od O) := by
  have h34 := NN_34 C.right
  have hb := mvd_in (a := a) C m
  have ht := tmod_bd (m := m) C.r0
  have he := C.e0
  obtain ⟨-, r1, r2, -⟩ := C.right
  refine ⟨fun i hi hs => ?_, fun i hi ho => ?_, hb, ?_⟩
  · rw [told_at hi]
    by_cases e : (i : Int) = O
    · rw [show tel E O (mvd c E R a m) p i = p.raw from if_pos e]; exact hr
    · have := tel_bd (a := mvd c E R a m) (p := p) he e
      omega
  · rw [told_at hi]
    have e : ¬ (i : Int) = O := fun q => ho ((od_iff (by omega)).1 q)
    have := tel_bd (a := mvd c E R a m) (p := p) he e
    exact ⟨by rw [tel_not e], this⟩
  · unfold mvd at *
    omega
theorem told_hull (C : Cov c E R) {i : Nat} (hi : i < NN c) (ho : i ≠ od O) : llo E O a p (NN c) ≤ (told1 c E O a p i).n ∧ (told1 c E O a p i).n ≤ lhi E O a p (NN c) := by
  have h34 := NN_34 C.right
  have e : ¬ (i : Int) = O := fun q => ho ((od_iff (by omega)).1 q)
  rw [told_at hi]
  exact ⟨llo_le e _ hi, lhi_ge e _ hi⟩
end
/-- A bit of a mask of four. -/
theorem mk4_bit (f : Nat → Bool) {k : Nat} (hk : k < 4) : ((mk4 f).tdiv (2 ^ k)).tmod 2 = if f k = true then 1 else 0 := by
  have : k ∈ [0, 1, 2, 3] := by simp; omega
  simp only [List.mem_cons, List.mem_nil_iff, or_false] at this
  unfold mk4
  cases h0 : f 0 <;> cases h1 : f 1 <;> cases h2 : f 2 <;> cases h3 : f 3 <;> rcases this with rfl | rfl | rfl | rfl <;> simp [h0, h1, h2, h3] <;> decide
theorem mk4_bd (f : Nat → Bool) : 0 ≤ mk4 f ∧ mk4 f ≤ 15 := by
  unfold mk4
  refine ⟨?_, ?_⟩ <;> split <;> split <;> split <;> split <;> omega
end Sg
end Go.Proofs.YtmlhmmfgdioclaaGreat

namespace Go.Proofs.YtmlhmmfgdioclaaGreat
set_option maxRecDepth 100000
open Go.ChangeShapes Go.WideShapes Go.ChangeAt Go.RowKit Go.Deep
namespace Sg
open Cf (G CA Box)

/-- A whole struct loaded, in a region that draws, wherever its cells lie. -/
theorem wpQuiet_loadR {ops : Array Oper} {C : World → Prop} {Q : Act → Prop} {o : Oper} {rest : List Oper} {a : Act} {t : TypeId} (hw : Region.wanted o (yielded ops a.tmps) = true) (x : Operand) (ho : o.op = .load t x)
    (b off : Nat) (cs : List Value) (hx : a.eval x = .pointer (some ⟨b, off, none⟩)) (hb : ∀ w, C w → ∀ (j : Nat) v, cs[j]? = some v → w.cell? ⟨b, off + j, none⟩ = some v) (hA : ∀ w, (isAgg t).run Tryz.prog w = .ok true w) (hi : (Tryz.prog.info? t).map (·.size) = some cs.length)
    (h : wpQuiet Tryz.prog ops C Q rest (a.put o.dst (.agg cs.toArray))) : wpQuiet Tryz.prog ops C Q (o :: rest) a := by
  unfold wpQuiet
  rw [if_pos hw]
  refine ⟨.agg cs.toArray, fun w hC => ?_, h⟩
  have e : (loadVar t ⟨b, off, none⟩).run Tryz.prog w = .ok (.agg cs.toArray) w := by
    have h1 := run_loadCells_list (P := Tryz.prog) w ⟨b, off, none⟩ cs (fun j v hv => by rw [add_plain]; exact hb w hC j v hv)
    cases hq : Tryz.prog.info? t with
    | none => simp [hq] at hi
    | some i =>
      have hs : i.size = cs.length := by simpa [hq] using hi
      simp [loadVar, hA, sizeOf, typeInfo, hq, hs, h1, Result.andThen]
  unfold Oper.quietAt execOp
  simp only [ho, hx, Instr.loadAt, Instr.sureAddr, Sem.run_bind, Sem.run_pure, Result.andThen_ok, e]
  exact ⟨rfl, rfl⟩
/-- A whole configuration loaded, in a region that draws. -/
theorem wpQuiet_loadK {ops : Array Oper} {C : World → Prop} {Q : Act → Prop} {o : Oper} {rest : List Oper} {a : Act} (hw : Region.wanted o (yielded ops a.tmps) = true) (x : Operand) (ho : o.op = .load 24 x)
    (b : Nat) (c : List Int) (hx : a.eval x = .pointer (some ⟨b, 0, none⟩)) (hb : ∀ w, C w → Box w b c) (hc : c.length = 21)
    (h : wpQuiet Tryz.prog ops C Q rest (a.put o.dst (.agg (CA c)))) : wpQuiet Tryz.prog ops C Q (o :: rest) a :=
  wpQuiet_loadR hw x ho b 0 (cellsI .i64 c) hx (fun w hw j v hv => by rw [Nat.zero_add]; exact VRow.cell (show VRow w b 24 (cellsI .i64 c) from hb w hw) j hv) aggC (by rw [show (cellsI .i64 c).length = 21 by simp [cellsI, hc]]; exact Cf.sizeC) h
theorem aggT (w : World) : (isAgg 70).run Tryz.prog w = .ok true w := by simp [isAgg, run_underlying Tryz.underlying70]
theorem aggP (w : World) : (isAgg 77).run Tryz.prog w = .ok true w := by simp [isAgg, run_underlying Tryz.underlying77]
theorem sizeT : (Tryz.prog.info? 70).map (·.size) = some 4 := by kernel_rfl
theorem sizeP : (Tryz.prog.info? 77).map (·.size) = some 7 := by kernel_rfl
theorem sizeS : (Tryz.prog.info? 37).map (·.size) = some 13 := by kernel_rfl
theorem sizeL : (Tryz.prog.info? 62).map (·.size) = some 5 := by kernel_rfl
theorem res_one (c : List Int) (s : Si) (r : Nat → Rw) (sh : Int) : (res c s r sh).toArray.all (·.oneCell') = true := by simp [res, Value.oneCell']
theorem lav_one (s : Lc.St) : (lav s).toArray.all (·.oneCell') = true := by simp [lav, Value.oneCell']
theorem allocR (W : World) : (Instr.alloc 42 true (.tuple #[])).run Tryz.prog W = .ok (.pointer (some ⟨W.heap.size, 0, none⟩)) (W.alloc (.cells (raw8 fun _ => rw0).toArray 42)) := by exact rfl

/-- '!=' of a latch's state and none. -/
theorem eqL_any (s : Lc.St) : ∃ b : Bool, ∀ w : World, (Op.equalIn 10000 62 (.agg #[.bool s.la, .bool s.ou, .int .i64 s.st, .int .i64 s.cl, .int .i64 s.bk]) (.agg #[.bool false, .bool false, .int .i64 0, .int .i64 0, .int .i64 0])).run Tryz.prog w = .ok b w := by
  obtain ⟨la, ou, st, cl, bk⟩ := s
  cases la
  · cases ou
    · rcases st with (_ | st) | st
      · rcases cl with (_ | cl) | cl
        · rcases bk with (_ | bk) | bk
          · exact ⟨true, fun w => by kernel_rfl⟩
          · exact ⟨false, fun w => by kernel_rfl⟩
          · exact ⟨false, fun w => by kernel_rfl⟩
        · exact ⟨false, fun w => by kernel_rfl⟩
        · exact ⟨false, fun w => by kernel_rfl⟩
      · exact ⟨false, fun w => by kernel_rfl⟩
      · exact ⟨false, fun w => by kernel_rfl⟩
    · exact ⟨false, fun w => by kernel_rfl⟩
  · exact ⟨false, fun w => by kernel_rfl⟩
theorem eqL_zer (w : World) : (Op.equalIn 10000 62 (.agg #[.bool false, .bool false, .int .i64 0, .int .i64 0, .int .i64 0]) (.agg #[.bool false, .bool false, .int .i64 0, .int .i64 0, .int .i64 0])).run Tryz.prog w = .ok true w := by kernel_rfl
theorem quo_bd {x P : Int} (hx : 0 ≤ x ∧ x ≤ 15) (hP : P = 1 ∨ P = 2 ∨ P = 4 ∨ P = 8) : (0 ≤ x.tdiv P ∧ x.tdiv P ≤ 15) ∧ 0 ≤ (x.tdiv P).tmod 2 ∧ (x.tdiv P).tmod 2 ≤ 1 := by
  rw [Int.tdiv_eq_ediv_of_nonneg hx.1]
  have h : 0 ≤ x / P ∧ x / P ≤ 15 := by rcases hP with rfl | rfl | rfl | rfl <;> omega
  rw [Int.tmod_eq_emod_of_nonneg h.1]
  omega
/-- The boxes, the signal, the truth. -/
structure Bd (F : Face) (w W : World) (c : List Int) (E R O : Int) (a : Option Addr) (n cap : Nat) (S : Nat → Prop) (g : Nat) (s : Si) (at_ : Int) (k : Nat) : Prop where
  below : Below w.heap.size w W
  held : F.At W S g c s
  new : ∀ j, S j → w.heap.size + 2 ≤ j
  big : w.heap.size + 2 ≤ W.heap.size
  inv : Inv c s E at_ (od O)
  cfg : Box W w.heap.size c
  trc : VRow W (w.heap.size + 1) 70 (trv E R O a n cap)
  votes : s.votes.length = k
section
variable {F : Face} {w W W' : World} {c : List Int} {E R O : Int} {a : Option Addr} {n cap : Nat} {S S' : Nat → Prop} {g : Nat} {s : Si} {at_ at' : Int} {k : Nat}
theorem Bd.on (H : Bd F w W c E R O a n cap S g s at_ k) (b : Below W.heap.size W W') : Bd F w W' c E R O a n cap S g s at_ k :=
  ⟨grow H.below b, F.on H.held b, H.new, Nat.le_trans H.big b.size, H.inv, H.cfg.on b, H.trc.below b (by have := H.big; omega), H.votes⟩
theorem Bd.step (C : Cov c E R) {r : Nat → Rw} (H : Bd F w W c E R O a n cap S g s at_ k) (Y : Cy c r E R at_ at' (od O)) (h : F.At W' S' g c (nxt c s r 0)) (b : But S W W') (m : ∀ j, S' j → S j ∨ W.heap.size ≤ j) :
    Bd F w W' c E R O a n cap S' g (nxt c s r 0) at' (k + 1) :=
  ⟨But.below H.below b H.below.size (fun i hi => by have := H.new i hi; omega), h, fun j hj => (m j hj).elim (H.new j) (fun q => Nat.le_trans H.big q), Nat.le_trans H.big b.size, inv_next C Y H.inv,
    VRow.but (show VRow W w.heap.size 24 (cellsI .i64 c) from H.cfg) b (fun q => by have := H.new _ q; omega), VRow.but H.trc b (fun q => by have := H.new _ q; omega), by simp [nxt, H.votes]⟩
theorem Bd.out (H : Bd F w W c E R O a n cap S g s at_ k) {j : Nat} (hj : W.heap.size ≤ j) : ¬ S j := fun q => by have := F.lt H.held j q; omega
/-- A box made, and a struct stored into it. -/
theorem Bd.lay (H : Bd F w W c E R O a n cap S g s at_ k) (cs cs' : List Value) (t : TypeId) : Bd F w ((W.alloc (.cells cs.toArray t)).setRow W.heap.size cs'.toArray) c E R O a n cap S g s at_ k ∧ VRow ((W.alloc (.cells cs.toArray t)).setRow W.heap.size cs'.toArray) W.heap.size t cs' ∧ Below W.heap.size W ((W.alloc (.cells cs.toArray t)).setRow W.heap.size cs'.toArray) := by
  have b : Below W.heap.size W ((W.alloc (.cells cs.toArray t)).setRow W.heap.size cs'.toArray) := Below.put ((Below.refl _ _).alloc (Nat.le_refl _) _) (Nat.le_refl _) _
  exact ⟨H.on b, VRow.put (VRow.new W cs t) cs', b⟩
end
/-- Both boxes, made. -/
theorem boxes (w : World) (c : List Int) (E R O : Int) (a : Option Addr) (n cap : Nat) :
    let W := (w.alloc (.cells (CA c) 24)).alloc (.cells (trv E R O a n cap).toArray 70)
    Below w.heap.size w W ∧ w.heap.size + 2 ≤ W.heap.size ∧ Box W w.heap.size c ∧ VRow W (w.heap.size + 1) 70 (trv E R O a n cap) := by
  have V2 := VRow.new (w.alloc (.cells (CA c) 24)) (trv E R O a n cap) 70
  rw [show (w.alloc (.cells (CA c) 24)).heap.size = w.heap.size + 1 by simp] at V2
  exact ⟨((Below.refl w.heap.size w).alloc (Nat.le_refl _) (.cells (CA c) 24)).alloc (by simp) (.cells (trv E R O a n cap).toArray 70), by simp,
    VRow.alloc (show VRow _ _ 24 (cellsI .i64 c) from Box.new w c) (.cells (trv E R O a n cap).toArray 70), V2⟩
end Sg
end Go.Proofs.YtmlhmmfgdioclaaGreat

namespace Go.Proofs.YtmlhmmfgdioclaaGreat
set_option maxRecDepth 100000
open Go.ChangeShapes Go.WideShapes Go.ChangeAt Go.RowKit Go.Deep
namespace Sg
open Cf (G CA Box)
section
variable {c : List Int} {s : Si} {r : Nat → Rw} {E R at0 at' : Int} {o : Nat}
theorem way_less {L C B : Int} {s : Lc.St} {f m : Int} (h : Way L C B s f m) : Way L C B s 0 m := ⟨h.fin, by omega, h.m0, fun q => by have := h.far q; have := h.f0; omega, h.calm⟩
/-- What a cycle does to the odd one. -/
structure Fd (c : List Int) (s : Si) (r : Nat → Rw) (o : Nat) (b : Bool) (f m : Int) : Prop where
  trips : b = true → tri c s r 0 o ≠ 0
  way : Way (G c 13) (G c 14) (G c 15) ((nxt c s r 0).ch o).st (if b = true then f + 1 else 0) (if tri c s r 0 o = 0 then m + 1 else 0)
  back : (s.ch o).st.la = true → ((nxt c s r 0).ch o).st.la = false → G c 14 ≤ (if tri c s r 0 o = 0 then m + 1 else 0)
  out : (s.ch o).st.ou = true → ((nxt c s r 0).ch o).st.ou = true
  not : (s.ch o).st.la = true → isin c s r 0 o = false
theorem found_any (C : Cov c E R) (Y : Cy c r E R at0 at' o) (I : Inv c s E at0 o) (ho : o < NN c) {f m : Int} (W : Way (G c 13) (G c 14) (G c 15) (s.ch o).st f m) (b : Bool)
    (hb : b = true → (r o).is = false ∨ G c 9 + E + 2 * G c 10 + G c 12 < (r o).n - at' ∨ (r o).n - at' < -(G c 9 + E + 2 * G c 10 + G c 12)) : Fd c s r o b f m := by
  have ht : b = true → tr c s r 0 o = true := fun h => odd_trips C Y I ho (hb h)
  have hR := right_latch C.right
  have e1 : tri c s r 0 o = trp c s r 0 o := if_pos ho
  have e2 : ((nxt c s r 0).ch o).st = Lc.ste (G c 13) (G c 14) (G c 15) (s.ch o).st (tr c s r 0 o) := rfl
  have e3 : tr c s r 0 o = true ↔ tri c s r 0 o ≠ 0 := by rw [e1]; unfold tr; simp
  have hn : (s.ch o).st.la = true → isin c s r 0 o = false := fun h => by
    rw [Bool.eq_false_iff]
    intro q
    have := (isin_iff.1 q).2.2.2.2
    rw [h] at this; cases this
  cases hT : tr c s r 0 o
  · have hz : tri c s r 0 o = 0 := by
      apply Decidable.byContradiction
      intro q
      rw [e3.2 q] at hT; cases hT
    have hbf : b = false := by
      cases b
      · rfl
      · rw [ht rfl] at hT; cases hT
    subst hbf
    have w := way_calm hR W
    rw [hT] at e2
    refine ⟨(fun h => by cases h), ?_, ?_, ?_, hn⟩
    · rw [e2, if_neg (by decide), if_pos hz]; exact w.1
    · rw [e2, if_pos hz]; exact w.2.1
    · rw [e2]; exact w.2.2
  · have hz : ¬ tri c s r 0 o = 0 := e3.1 hT
    have w := way_trip hR W
    rw [hT] at e2
    refine ⟨fun _ => hz, ?_, ?_, ?_, hn⟩
    · rw [e2, if_neg hz]
      cases b
      · exact way_less w.1
      · exact w.1
    · rw [e2]
      intro q1 q2
      rw [w.2.1 q1] at q2; cases q2
    · rw [e2]; exact w.2.2
/-- The bits of the masks of who is in, and who is latched. -/
theorem in_bit (ho : o < NN c) (h4 : o < 4) : ((inm c s r 0).tdiv (2 ^ o)).tmod 2 = if isin c s r 0 o = true then 1 else 0 := by
  unfold inm
  rw [mk4_bit _ h4]
  simp [ho]
theorem la_bit {s' : Si} (ho : o < NN c) (h4 : o < 4) : ((lam c s').tdiv (2 ^ o)).tmod 2 = if (s'.ch o).st.la = true then 1 else 0 := by
  unfold lam
  rw [mk4_bit _ h4]
  simp [ho]
end
end Sg
end Go.Proofs.YtmlhmmfgdioclaaGreat
