/-
  What the calls of package order return, for every argument: contracts by walking the Go text. No conditions beyond the numbers' kinds and where the list lies. What Votes of package stuck returns: a contract by walking the Go text (a range over the iterator fromOldest). Conditions: where the room lies.
  What Mid, Spread and Without of package order return, for every argument: contracts by walking the Go text. No conditions beyond the numbers' kinds and where the list lies. As Flow, for a region whose guarded operations are all carried out: whatever order is drawn, at the end every place holds a thing of its kind. No function of the program is walked here. No conditions beyond those said.
-/
import Derived.Test.YtmlhmmfgdioclaaGreatJOpen5
import Derived.Test.YtmlhmmfgdioclaaGreatOrderMath
import Derived.ProofKit
import Derived.OpenShut
import Derived.Handy
import Derived.Deep.LoopGhost
import Derived.Deep.RegionLaw
import Derived.Deep.QuietTactic
import Derived.BigQuiet
import Derived.BigRegion
import Derived.Test.YtmlhmmfgdioclaaGreatJJSignalKit22
import Derived.Maps.AppendAt
import Derived.IntWalk
import Derived.Orders
import Derived.OrdersHeld
namespace Go.Proofs.YtmlhmmfgdioclaaGreat
set_option maxRecDepth 100000
open Go.ChangeShapes Go.WideShapes Go.ChangeAt Go.RowKit Go.Deep
namespace Od
open Fx

theorem intInfo : (Tryz.prog.info? 3).map (fun i => (i.zero, i.size, i.bytes)) = some (some (.int .i64 0), 1, 8) := by kernel_rfl
theorem intSize : (Tryz.prog.info? 3).map (·.size) = some 1 := by kernel_rfl

theorem all_not (l : List Int) (k : Nat) (h : k < l.length) (e : ¬ (-1099511627776 ≤ l.getD k 0 ∧ l.getD k 0 ≤ 1099511627776)) : ok l = false := by
  rw [ok_false]
  intro ⟨_, ha⟩
  rw [List.all_eq_true] at ha
  have := ha l[k] (List.getElem_mem h)
  rw [getD_at l k h] at e
  exact e ((sm_iff _).1 this)
theorem all_step (l : List Int) (k : Nat) (h : k < l.length) (h0 : (l.take k).all sm = true) (e : -1099511627776 ≤ l.getD k 0 ∧ l.getD k 0 ≤ 1099511627776) : (l.take (k + 1)).all sm = true := by
  rw [take_snoc l k h, List.all_append, h0]; simpa [sm] using e

set_option maxHeartbeats 400000 in
theorem told_any (a : Option Addr) (cap : Nat) (l : List Int) (w : World) (hl : l.length ≤ 9223372036854775807) (hb : IntsAt .i64 w a l) :
    Calls Tryz.prog 130 #[.slice a l.length cap] w fun e w' => e = .returned (.bool (ok l)) ∧ w = w' := by
  by_cases h16 : 16 < l.length
  · have HF := Lib.hid ((ok_false l).2 (by omega))
    go_enter Tryz.func130, Tryz.ntmps130
    go_wp2
    go_ret
    exact ⟨ret_bool HF.out.symm, rfl⟩
  · have HB := Lib.hid hb
    clear hb
    go_enter Tryz.func130, Tryz.ntmps130
    go_wp2
    go_loop [10] (fun i => ∃ k : Nat, k ≤ l.length ∧ i = .int .i64 k ∧ (l.take k).all sm = true) (fun i => l.length - (intOf i).toNat)
    case atStart => exact ⟨0, by omega, rfl, rfl⟩
    case round =>
      obtain ⟨k, hk, rfl, hall⟩ := hrel
      have HA := Lib.hid hall
      clear hall
      by_cases hlt : k < l.length
      · rcases HB.out with hnil | ⟨b, off, rfl, hc⟩
        · rw [hnil] at hlt; simp at hlt
        have hcell := hc k hlt
        clear hc
        have HT := Lib.hid (all_step l k hlt HA.out)
        have HN := Lib.hid (all_not l k hlt)
        generalize l.getD k 0 = x at *
        by_cases h1 : x < -1099511627776
        · go_wp2
          go_ret
          exact ⟨ret_bool (by rw [HN.out (by omega)]), rfl⟩
        · have d1 : decide (x < -1099511627776) = false := by simpa using h1
          by_cases h2 : 1099511627776 < x
          · go_wp2
            go_ret
            exact ⟨ret_bool (by rw [HN.out (by omega)]), rfl⟩
          · have d2 : decide (1099511627776 < x) = false := by simpa using h2
            go_wp2
            go_round
            case rel => exact ⟨k + 1, by omega, by go_num, HT.out (by omega)⟩
            case measure => simp [intOf]; omega
      · have : k = l.length := by omega
        subst this
        go_wp2
        go_ret
        exact ⟨ret_bool (by have := HA.out; rw [List.take_of_length_le (Nat.le_refl _)] at this; exact ((ok_iff l).2 ⟨by omega, this⟩).symm), rfl⟩

theorem swapped {w : World} {g : Nat} {t : TypeId} {c : List Int} {k : Nat} (h : IRow .i64 w g t c) :
    IRow .i64 ((w.setCell ⟨g, k - 1, none⟩ (.int .i64 (c.getD k 0))).setCell ⟨g, k, none⟩ (.int .i64 (c.getD (k - 1) 0))) g t (swap c k) := (h.set (k - 1) _).set k _

set_option maxHeartbeats 800000 in
theorem sort_any (a : Option Addr) (cap : Nat) (l : List Int) (w : World) (hl : l.length ≤ 9223372036854775807) (hb : IntsAt .i64 w a l) :
    Calls Tryz.prog 103 #[.slice a l.length cap] w (RetI .i64 w (osort l)) := by
  cases hok : ok l
  · have HF := Lib.hid (show osort l = [] by unfold osort; rw [hok]; rfl)
    go_enter Tryz.func103, Tryz.ntmps103
    go_wp2
    go_step3
    go_wp2_with (first | (go_at_call 130; refine (told_any _ _ _ _ hl hb).mono ?_; rintro e w' ⟨rfl, rfl⟩))
    rw [Exit.noGoto_ret]
    go_ret
    exact retI_nil HF.out (Below.refl _ _)
  · have HF := Lib.hid (show osort l = srt l by unfold osort; rw [if_pos hok])
    have h16 := ok_len hok
    have HB := Lib.hid hb
    obtain ⟨i0, hi0, hz0, hz1, hz2⟩ := info_parts intInfo
    go_enter Tryz.func103, Tryz.ntmps103
    go_wp2
    go_step3
    go_wp2_with (first
      | (go_at_call 130; refine (told_any _ _ _ _ hl hb).mono ?_; rintro e w' ⟨rfl, rfl⟩)
      | (at_make; refine wpList_make_full _ rfl _ _ _ rfl w.heap.size 3 i0 (.int .i64 0) 1 Tryz.underlying55 hi0 hz0 hz1 .i64 .i64 _ _ l.length rfl rfl rfl rfl (by rw [hz2]; omega) (by unfold maxLen; omega) (Nat.le_refl _) ?_; intro w1 own1 grown1
         have R1 := Lib.hid (IRow.of_own own1 (zeros_cellsI _)); have B1 := Lib.hid ((Below.refl w.heap.size w).grown grown1 (Nat.le_refl _) (by simp)); clear own1 grown1)
      | (refine wpList_copyI (o := ⟨some 13, _, _, _, _, _⟩) rfl (.tmp 11) (.tmp 12) _ rfl 3 Tryz.underlying55 intSize .i64 w.heap.size 0 (List.replicate l.length 0) l 3 _ _ _ _ _ _ rfl rfl R1.out (by simp) (fun _ => rfl) (HB.out.below B1.out) (by simp) w.heap.size w B1.out (Nat.le_refl _) ?_
         intro w2 R2' B2'; have R2 := Lib.hid (show IRow _ _ _ _ l from (splice_whole (List.replicate l.length 0) l (by simp)) ▸ R2'.out); have B2 := Lib.hid B2'; clear R2' B2'))
    clear hb
    go_simp
    go_step3
    go_wp2
    go_loopg [4] (inv l) (fun g _ wr => ∃ c : List Int, c.Perm l ∧ inv c ≤ g ∧ Hid (IRow .i64 wr w.heap.size 3 c) ∧ Hid (Below w.heap.size w wr))
    case atStart => exact ⟨l, List.Perm.refl _, Nat.le_refl _, R2, B2⟩
    case round =>
      obtain ⟨c, hp, hg, R3, B3⟩ := hrel
      have hcl := hp.length_eq
      have HL := Lib.hid hcl
      have hl1 : c.length ≤ l.length := by omega
      have hl2 : l.length ≤ c.length := by omega
      clear hcl
      go_wp2
      go_loopg [4] l.length (fun gg s4 wx => ∃ j : Nat, s4 = .int .i64 ((j : Int) + 1) ∧ j + gg = l.length ∧ Hid (Up (c.take (j + 1))) ∧ Hid (IRow .i64 wx w.heap.size 3 c) ∧ Hid (Below w.heap.size w wx))
      case atStart => exact ⟨0, rfl, by omega, Lib.hid (up_one c), R3, B3⟩
      case round =>
        obtain ⟨j, rfl, hjg, U4, R4, B4⟩ := hrel
        have hj1 : j ≤ l.length := by omega
        by_cases hlt : j + 1 < l.length
        · have hc1 := R4.out.cell j (by omega)
          have hc2 := R4.out.cell (j + 1) (by omega)
          have hf1 := R4.out.frozen j
          have hf2 := R4.out.frozen (j + 1)
          have HS := Lib.hid (swap_inv c (j + 1) (by omega) (by omega))
          have HP := Lib.hid (swap_perm c (j + 1) (by omega) (by omega))
          have HW := Lib.hid (swapped R4.out (k := j + 1))
          have HU := Lib.hid (up_take c (j + 1) (by omega) (by omega) U4.out)
          simp only [Nat.add_sub_cancel] at HS HP HW HU
          generalize c.getD j 0 = x at *
          generalize c.getD (j + 1) 0 = y at *
          have hi1 : (j : Int) + 1 < (l.length : Int) := by omega
          have hjl : (j : Int) < (l.length : Int) := by omega
          by_cases hxy : y < x
          · have d1 : decide (y < x) = true := by simpa using hxy
            go_wp2
            go_quiet (fail)
            go_wp2
            go_region
            go_wp2
            go_roundg (inv (swap c (j + 1)))
            case rel => exact ⟨swap c (j + 1), HP.out.trans hp, Nat.le_refl _, HW.out, ((below_drewN B4.out _).setCell (Nat.le_refl _) _).setCell (Nat.le_refl _) _⟩
            case measure => have := HS.out hxy; omega
          · have d1 : decide (y < x) = false := by simpa using hxy
            go_wp2
            go_quiet (fail)
            go_wp2
            go_roundg (gk - 1)
            case rel => exact ⟨j + 1, by go_num, by omega, Lib.hid (HU.out (by omega)), R4.out.drewN _, below_drewN B4.out _⟩
            case measure => omega
        · go_wp2
          rw [Exit.noGoto_ret]
          go_ret
          exact retI_mk (srt_of hp (by have := U4.out; rwa [List.take_of_length_le (by omega)] at this) |>.trans HF.out.symm) (by omega) R4.out.ints B4.out
end Od
end Go.Proofs.YtmlhmmfgdioclaaGreat

namespace Go.Proofs.YtmlhmmfgdioclaaGreat
set_option maxRecDepth 100000
open Go.ChangeShapes Go.WideShapes Go.ChangeAt Go.RowKit Go.Deep Go.Shelf
namespace Sk
attribute [local go_sem] Oper.semAt_some

theorem box_kept {W w1 : World} {n₀ B Bs size k : Nat} {t e : TypeId} {u v v' : Value} {xs : List Value} {tmp : Obj} (hBs : Boxed W Bs t u) (ht : t ≠ e) (hrow : W.ownsRow n₀ e size v k xs) (hgrow : (W.alloc tmp).grownBy w1 v.ownBlock) (ne : Bs ≠ B) :
    Boxed (w1.setCell ⟨B, 0, none⟩ v') Bs t u :=
  (heap_setCell_other w1 ⟨B, 0, none⟩ Bs v' ne).trans ((hBs.alloc tmp).kept hgrow (hBs.not_row ht hrow))

set_option maxRecDepth 100000 in
set_option maxHeartbeats 2000000 in
theorem votes_any (g P : Nat) (bound : Int) (V : List Int) (w : World) (hR : Room w g P bound V) :
    Calls Tryz.prog 129 #[.pointer (some ⟨g, 0, none⟩)] w (RetI .i64 w V) := by
  have hle := hR.le
  have hlt := hR.lt
  have HR := Lib.hid hR
  clear hR
  obtain ⟨i0, hi0, hz0, hz1, hz2⟩ := info_parts Od.intInfo
  refine (callsIn_wide (n := 5)).1 ?_
  refine callsIn_of_wp_marks Tryz.func129 rfl trivial ?_ rfl
  simp only [Tryz.ntmps129, List.size_toArray, List.length_cons, List.length_nil, Nat.reduceAdd, Nat.reduceSub, Array.replicate_succ, Array.replicate_zero, List.push_toArray, List.append_toArray, List.nil_append, List.cons_append]
  gi_wp2_with (refine ⟨trivial, ?_⟩; gi_at_call 143; refine (callsIn_wide.2 (from_any _ _)).mono ?_; rintro e w2 ⟨rfl, rfl⟩)
  have bL := (Boxed.new w 55 (.slice none 0 0)).alloc (.cells #[.pointer (some ⟨g, 0, none⟩)] 82)
  have bS := Boxed.new (w.alloc (.cells #[.slice none 0 0] 55)) 82 (.pointer (some ⟨g, 0, none⟩))
  rw [World.size_alloc] at bS
  have hR0 := (HR.out.alloc (.cells #[.slice none 0 0] 55)).alloc (.cells #[.pointer (some ⟨g, 0, none⟩)] 82)
  have hB0 := ((Below.refl w.heap.size w).alloc (Nat.le_refl _) (.cells #[.slice none 0 0] 55)).alloc (by simp) (.cells #[.pointer (some ⟨g, 0, none⟩)] 82)
  have hsz : ((w.alloc (.cells #[.slice none 0 0] 55)).alloc (.cells #[.pointer (some ⟨g, 0, none⟩)] 82)).heap.size = w.heap.size + 2 := by simp
  generalize (w.alloc (.cells #[.slice none 0 0] 55)).alloc (.cells #[.pointer (some ⟨g, 0, none⟩)] 82) = W0 at *
  refine wpIn_rangeFunc_ownG rfl (by omega) (gf := 146) (lb := #[.pointer (some ⟨w.heap.size + 1, 0, none⟩)]) rfl trivial (enters_of Tryz.func146 (by kernel_rfl) rfl)
    (from_stops _ (by omega) (w.heap.size + 1) g P bound V W0 (by omega) bS.cell hR0) KeepTwo.trans (KeepTwo.put (by omega) (by omega)) (Below.refl _ _) (fun _ => rfl)
    (fun pre W => ((∃ v, Boxed W w.heap.size 55 v ∧ W.ownsRow w.heap.size 3 1 v (pre.map (vat V)).length (cellsI .i64 (pre.map (vat V))) ∧ True) ∧ Boxed W (w.heap.size + 1) 82 (.pointer (some ⟨g, 0, none⟩))) ∧ Below w.heap.size w W)
    (fun _ _ _ => False)
    (OwnFrom.and (OwnFrom.and (Own.from (holdsRow_own w.heap.size w.heap.size 55 3 1 (fun pre : List (Fin V.length) => (pre.map (vat V)).length) (fun pre => cellsI .i64 (pre.map (vat V))) (fun _ _ => True)) _) (Own.from (boxed_own _ _ _) _)) (ownFrom_below (Nat.le_refl _) (by omega)))
    (fun _ _ _ _ _ hs _ _ => hs)
    ⟨⟨⟨_, bL, World.ownsRow_nil _ _ _ _, trivial⟩, bS⟩, hB0⟩
    (fun x => { tmps := #[.pointer (some ⟨g, 0, none⟩), undef, .slice none 0 0, .pointer (some ⟨w.heap.size, 0, none⟩), .int .i64 (vat V x), .pointer (some ⟨g, 0, none⟩), .bool false, .pointer (some ⟨g, 0, none⟩), .func (.func 146) #[] #[.pointer (some ⟨w.heap.size + 1, 0, none⟩)], .int .i64 (vat V x), undef, undef, undef, undef, undef], defers := [] }) ?assign ?body ?done ?stop
  case assign =>
    intro l x W K hK
    dsimp only [encv]
    gi_wp2
    exact hK
  case body =>
    rintro lp pre x W ⟨⟨⟨v, hbx, hrow, _⟩, hBs⟩, hB⟩ hpl
    have HM := Lib.hid (show (pre ++ [x]).map (vat V) = pre.map (vat V) ++ [vat V x] by simp)
    have hl15 : (pre.map (vat V)).length ≤ 15 := by rw [List.length_map]; omega
    generalize vat V x = y at *
    generalize pre.map (vat V) = ls at *
    have hbc := hbx.cell
    gi_wp2_with (gi_at_builtin; (refine wpListIn_append_own _ rfl _ _ 55 rfl w.heap.size 3 i0 (.int .i64 0) 1 8 Tryz.underlying55 hi0 hz0 hz1 hz2 rfl (by decide) _ _ _ rfl (hrow.alloc _) ⟨W.heap.size, 0, none⟩ 1 1 [.int .i64 y] rfl rfl (cell_one_new _ _ _) (by simp [Value.oneCell']) (by unfold maxLen; omega) (by omega) (by have := hB.size; simp; omega) ?_; intro v' w1 hown' hgrow _; obtain ⟨g', cap', rfl⟩ := ownsRow_succ hown'; obtain ⟨hv1, hv2, hr2, hk2, hb2⟩ := hbx.appended (by decide) hrow hB.size (Nat.le_refl _) hown' hgrow; have hs2 := box_kept (B := w.heap.size) (v' := (.slice (some ⟨g', 0, none⟩) (ls.length + 1) cap')) hBs (by decide) hrow hgrow (by omega); have hc1 := hv1.cell; have hf1 := hv1.frozen))
    refine ⟨hk2.from _, ⟨hs2.trans hBs.symm, hb2.block g hlt⟩, ⟨⟨_, hv2, ?_, trivial⟩, hs2⟩, hB.trans hb2⟩
    rw [HM.out, cellsI_app, List.length_append]
    exact hr2
  case done =>
    rintro D ys W hD hys ⟨⟨⟨v, hbx, hrow, _⟩, hBs⟩, hB⟩ hK
    have hrow2 := ownsRow_putObj hrow (.deferred none) hK rfl
    rw [vat_all V ys hys] at hrow hrow2
    obtain ⟨a, cap, rfl, _⟩ := OwnI.form (show OwnI .i64 _ _ _ v V from hrow)
    obtain ⟨a', cap', he, hi⟩ := OwnI.form (show OwnI .i64 _ _ _ _ V from hrow2)
    cases he
    have hbc := hbx.cell
    gi_wp2
    refine ⟨by simp, .inl ⟨_, _, rfl, run_takeDeferred hK, ?_⟩⟩
    refine ⟨_, results_tmp rfl _ _ _, ?_⟩
    exact retI_mk rfl rfl hi (hB.trans (belowK_b (w := w) (Nat.le_refl _) W D _ _ (by omega) hK rfl rfl))
  case stop =>
    rintro D c pre W _ _ h _
    exact h.elim
end Sk
end Go.Proofs.YtmlhmmfgdioclaaGreat

namespace Go.Proofs.YtmlhmmfgdioclaaGreat
set_option maxRecDepth 100000
open Go.ChangeShapes Go.WideShapes Go.ChangeAt Go.RowKit Go.Deep
namespace Od
open Fx

set_option maxHeartbeats 1000000 in
theorem mid_any (a : Option Addr) (cap : Nat) (l : List Int) (w : World) (hl : l.length ≤ 9223372036854775807) (hb : IntsAt .i64 w a l) :
    Calls Tryz.prog 64 #[.slice a l.length cap] w fun e w' => e = .returned (.tuple #[.int .i64 (midv l), .bool (midb l)]) ∧ Below w.heap.size w w' := by
  by_cases h4 : 4 < l.length
  · have HF := Lib.hid (midb_no (l := l) (Or.inr (Or.inr h4)))
    go_enter Tryz.func64, Tryz.ntmps64
    go_wp2
    go_ret2
    exact ⟨ret_mid (midv_no HF.out).symm HF.out.symm, Below.refl _ _⟩
  · obtain ⟨s, hs⟩ : ∃ s, osort l = s := ⟨_, rfl⟩
    by_cases hn : ok l = true ∧ 1 ≤ l.length
    · obtain ⟨hok, h1⟩ := hn
      have HV := Lib.hid (midv_yes hok h1 (by omega) hs)
      have HM := Lib.hid (midb_yes hok h1 (by omega))
      have hlen := osort_len_ok hok
      have hsm := fun x (hx : x ∈ s) => osort_sm hok hs hx
      rw [hs] at hlen
      have C := sort_any a cap l w hl hb
      rw [hs] at C
      clear hs
      rcases four (s := s) (by omega) (by omega) with ⟨x, rfl⟩ | ⟨x, y, rfl⟩ | ⟨x, y, z, rfl⟩ | ⟨x, y, z, u, rfl⟩
      · have q0 := hsm x (by simp)
        clear hsm hlen
        go_enter Tryz.func64, Tryz.ntmps64
        go_wp2_with fail
        refine C.mono ?_; rintro e w1 ⟨a1, c1, rfl, i1, b1⟩
        rcases i1 with hno | ⟨b, off, rfl, hc⟩
        · cases hno
        have c0 : w1.cell? ⟨b, off, none⟩ = some (.int .i64 x) := hc 0 (by simp)
        clear hc
        go_wp2
        go_quiet (fail)
        go_wp2
        go_ret2
        exact ⟨ret_mid (by rw [HV.out]; simp [midOf]; try omega) HM.out.symm, below_drewN b1 _⟩
      · have q0 := hsm x (by simp)
        have q1 := hsm y (by simp)
        clear hsm hlen
        go_enter Tryz.func64, Tryz.ntmps64
        go_wp2_with fail
        refine C.mono ?_; rintro e w1 ⟨a1, c1, rfl, i1, b1⟩
        rcases i1 with hno | ⟨b, off, rfl, hc⟩
        · cases hno
        have c0 : w1.cell? ⟨b, off, none⟩ = some (.int .i64 x) := hc 0 (by simp)
        have c1 : w1.cell? ⟨b, off + 1, none⟩ = some (.int .i64 y) := hc 1 (by simp)
        clear hc
        go_wp2
        go_quiet (fail)
        go_wp2
        go_ret2
        exact ⟨ret_mid (by rw [HV.out]; simp [midOf]; try omega) HM.out.symm, below_drewN b1 _⟩
      · have q0 := hsm x (by simp)
        have q1 := hsm y (by simp)
        have q2 := hsm z (by simp)
        clear hsm hlen
        go_enter Tryz.func64, Tryz.ntmps64
        go_wp2_with fail
        refine C.mono ?_; rintro e w1 ⟨a1, c1, rfl, i1, b1⟩
        rcases i1 with hno | ⟨b, off, rfl, hc⟩
        · cases hno
        have c1 : w1.cell? ⟨b, off + 1, none⟩ = some (.int .i64 y) := hc 1 (by simp)
        clear hc
        go_wp2
        go_quiet (fail)
        go_wp2
        go_ret2
        exact ⟨ret_mid (by rw [HV.out]; simp [midOf]; try omega) HM.out.symm, below_drewN b1 _⟩
      · have q0 := hsm x (by simp)
        have q1 := hsm y (by simp)
        have q2 := hsm z (by simp)
        clear hsm hlen
        go_enter Tryz.func64, Tryz.ntmps64
        go_wp2_with fail
        refine C.mono ?_; rintro e w1 ⟨a1, c1, rfl, i1, b1⟩
        rcases i1 with hno | ⟨b, off, rfl, hc⟩
        · cases hno
        have c1 : w1.cell? ⟨b, off + 1, none⟩ = some (.int .i64 y) := hc 1 (by simp)
        have c2 : w1.cell? ⟨b, off + 2, none⟩ = some (.int .i64 z) := hc 2 (by simp)
        clear hc
        go_wp2
        go_quiet (fail)
        go_wp2
        go_ret2
        exact ⟨ret_mid (by rw [HV.out]; simp [midOf]; try omega) HM.out.symm, below_drewN b1 _⟩
    · have HF := Lib.hid (midb_no (l := l) (by cases h : ok l; exact Or.inl rfl; exact Or.inr (Or.inl (by simp [h] at hn; simp [hn]))))
      have C := sort_any a cap l w hl hb
      have hnil : osort l = [] := by
        unfold osort
        split
        · rename_i h; apply List.eq_nil_of_length_eq_zero; rw [srt_len]; have : ¬ 1 ≤ l.length := fun h1 => hn ⟨h, h1⟩; omega
        · rfl
      rw [hnil] at C
      clear hnil hs
      go_enter Tryz.func64, Tryz.ntmps64
      go_wp2_with fail
      refine C.mono ?_; rintro e w1 ⟨a1, c1, rfl, i1, b1⟩
      go_wp2
      go_ret2
      exact ⟨ret_mid (midv_no HF.out).symm HF.out.symm, b1⟩

set_option maxHeartbeats 400000 in
theorem spread_any (a : Option Addr) (cap : Nat) (l : List Int) (w : World) (hl : l.length ≤ 9223372036854775807) (hb : IntsAt .i64 w a l) :
    Calls Tryz.prog 128 #[.slice a l.length cap] w fun e w' => e = .returned (.int .i64 (spread l)) ∧ Below w.heap.size w w' := by
  have C := sort_any a cap l w hl hb
  by_cases h1 : 1 ≤ (osort l).length
  · obtain ⟨hok, hv⟩ := spread_yes h1
    have hlen := osort_len_ok hok
    have h16 := ok_len hok
    have q0 := osort_sm hok rfl (show (osort l).getD 0 0 ∈ osort l by rw [getD_at _ _ h1]; exact List.getElem_mem _)
    have q1 := osort_sm hok rfl (show (osort l).getD ((osort l).length - 1) 0 ∈ osort l by rw [getD_at _ _ (by omega)]; exact List.getElem_mem _)
    unfold spreadOf at hv
    have HV := Lib.hid hv
    clear hv
    have hs16 : (osort l).length ≤ 16 := by omega
    clear hlen
    generalize osort l = s at *
    go_enter Tryz.func128, Tryz.ntmps128
    go_wp2_with fail
    refine C.mono ?_; rintro e w1 ⟨a1, c1, rfl, i1, b1⟩
    rcases i1 with hno | ⟨b, off, rfl, hc⟩
    · subst hno; simp at h1
    obtain ⟨m, hm⟩ : ∃ m, s.length = m + 1 := ⟨s.length - 1, by omega⟩
    have m15 : m ≤ 15 := by omega
    have c0 := hc 0 (by omega)
    have c9 := hc m (by omega)
    clear hc hs16 h1
    rw [hm] at HV q1 ⊢
    simp only [Nat.add_sub_cancel, Nat.add_zero] at c0 HV q1
    clear hm
    generalize s.getD 0 0 = x at *
    generalize s.getD m 0 = y at *
    have wm : IntKind.i64.wrap (m : Int) = m := IntWalk.i64_in _ (by omega)
    have m1 : (m : Int) < ((m + 1 : Nat) : Int) := by omega
    have m2 : (m : Int) < (m : Int) + 1 := by omega
    have m3 : 0 ≤ (m : Int) := by omega
    go_wp2
    go_quiet (fail)
    go_wp2
    go_ret
    exact ⟨ret_int HV.out.symm, below_drewN b1 _⟩
  · have hnil : osort l = [] := List.eq_nil_of_length_eq_zero (by omega)
    have HF := Lib.hid (spread_no hnil)
    rw [hnil] at C
    clear hnil
    go_enter Tryz.func128, Tryz.ntmps128
    go_wp2_with fail
    refine C.mono ?_; rintro e w1 ⟨a1, c1, rfl, i1, b1⟩
    go_wp2
    go_ret
    exact ⟨ret_int HF.out.symm, b1⟩

end Od
end Go.Proofs.YtmlhmmfgdioclaaGreat

namespace Go.Proofs.YtmlhmmfgdioclaaGreat
set_option maxRecDepth 100000
open Go.ChangeShapes Go.WideShapes Go.ChangeAt Go.RowKit Go.Deep
namespace FlowG

/-- The places that an operation looks at. -/
def looks (o : Oper) : List Tmp := o.op.operands.toList.filterMap fun | .tmp t => some t | _ => none
/-- What is asked of an operation: it waits for what guards it, it has a place below n that is none of those at the start, and what it looks at is one of these or comes from one that it waits for; it waits for earlier ones alone. -/
def fits (ops : Array Oper) (init : List Tmp) (n i : Nat) (o : Oper) : Bool :=
  (match o.guard with | none => true | some (j, _) => o.after.any fun e => Region.binds .any e && e.on == j) && (match o.dst with | some d => decide (d < n) && !init.contains d | none => false) &&
  ((looks o).all fun t => init.contains t || o.after.any fun e => Region.binds .any e && ((ops[e.on]?).bind (·.dst) == some t)) &&
  (o.after.all fun e => !Region.binds .any e || decide (e.on < i))
def flowB (ops : Array Oper) (init : List Tmp) (n : Nat) : Bool :=
  (ops.toList.zipIdx.all fun q => fits ops init n q.2 q.1) && decide ((ops.toList.map (·.dst)).Nodup)

section
variable {P : Program} {Q : Exit → Act → World → Prop} {ops : Array Oper}
/-- One operation's duty. -/
def Step (P : Program) (Val : Tmp → Value → World → Prop) (Q : Exit → Act → World → Prop) (o : Oper) : Prop :=
  ∀ a w, (∀ t ∈ looks o, Val t (a.tmps.getD t undef) w) → o.wp P a w (fun a' w' => ∃ v, a' = a.put o.dst v ∧ Below w.heap.size w w' ∧ ∀ d, o.dst = some d → Val d v w') Q

/-- Each guard says yes. -/
def Guards (ops : Array Oper) (Val : Tmp → Value → World → Prop) : Prop :=
  ∀ o ∈ ops.toList, ∀ j b, o.guard = some (j, b) → ∃ p d, ops[j]? = some p ∧ p.dst = some d ∧ ∀ v w, Val d v w → v = .bool b

structure Inv (ops : Array Oper) (Val : Tmp → Value → World → Prop) (init : List Tmp) (n : Nat) (w0 : World) (a0 : Act) (listed : Array Bool) (a : Act) (w : World) : Prop where
  size : listed.size = ops.size
  frame : a.tmps.size = n
  defers : a.defers = a0.defers
  below : Below w0.heap.size w0 w
  start : ∀ t ∈ init, Val t (a.tmps.getD t undef) w
  old : ∀ t, (∀ (i : Nat) o, ops[i]? = some o → o.dst ≠ some t) → a.tmps.getD t undef = a0.tmps.getD t undef
  vals : ∀ (i : Nat) o d, ops[i]? = some o → listed.getD i true = true → o.dst = some d → Val d (a.tmps.getD d undef) w

theorem flow_at {init : List Tmp} {n : Nat} (hB : flowB ops init n = true) {i : Nat} {o : Oper} (hi : ops[i]? = some o) : fits ops init n i o = true := by
  unfold flowB at hB
  rw [Bool.and_eq_true] at hB
  refine List.all_eq_true.1 hB.1 (o, i) ?_
  rw [List.mem_zipIdx_iff_getElem?]
  simpa using hi
theorem flow_dst {init : List Tmp} {n : Nat} (hB : flowB ops init n = true) {i : Nat} {o : Oper} (hi : ops[i]? = some o) : ∃ d, o.dst = some d ∧ d < n ∧ d ∉ init := by
  have h := flow_at hB hi
  unfold fits at h
  simp only [Bool.and_eq_true] at h
  obtain ⟨⟨⟨h1, h2⟩, _⟩, _⟩ := h
  cases hd : o.dst with
  | none => simp [hd] at h2
  | some d => simp [hd] at h2; exact ⟨d, rfl, h2.1, h2.2⟩
theorem flow_one {init : List Tmp} {n : Nat} (hB : flowB ops init n = true) {i j : Nat} {o p : Oper} (hi : ops[i]? = some o) (hj : ops[j]? = some p) (h : o.dst = p.dst) : i = j := by
  unfold flowB at hB
  rw [Bool.and_eq_true] at hB
  have hn : (ops.toList.map (·.dst)).Nodup := of_decide_eq_true hB.2
  have hi' : i < ops.size := by
    rcases Nat.lt_or_ge i ops.size with q | q
    · exact q
    · rw [Array.getElem?_eq_none q] at hi; cases hi
  exact (List.getElem?_inj (l := ops.toList.map (·.dst)) (by simpa using hi') hn).1 (by simp [hi, hj, h])

theorem all_listed {init : List Tmp} {n : Nat} (hB : flowB ops init n = true) {listed : Array Bool} (hs : listed.size = ops.size) (hr : Region.ready .any ops listed = []) :
    ∀ i, i < ops.size → listed.getD i true = true := by
  intro i
  induction i using Nat.strongRecOn with
  | _ i ih =>
    intro hi
    cases hl : listed.getD i true with
    | true => rfl
    | false =>
      have hm : i ∈ Region.ready .any ops listed := mem_ready.2 ⟨hl, ops[i], by simp [hi], fun e he hb => by
        have h := flow_at hB (i := i) (o := ops[i]) (by simp [hi])
        unfold fits at h
        simp only [Bool.and_eq_true] at h
        have := Array.all_eq_true_iff_forall_mem.1 h.2 e he
        simp [hb] at this
        have q := ih e.on this (by omega)
        have hlt : e.on < listed.size := by omega
        simpa [hlt] using q⟩
      rw [hr] at hm; cases hm

theorem step_inv {Val : Tmp → Value → World → Prop} {init : List Tmp} {n : Nat} {w0 : World} {a0 : Act} (hB : flowB ops init n = true)
    (hst : ∀ t v w w', Val t v w → Below w.heap.size w w' → Val t v w') (hgu : Guards ops Val) (hstep : ∀ o ∈ ops.toList, Step P Val Q o)
    {listed : Array Bool} {a : Act} {w : World} (I : Inv ops Val init n w0 a0 listed a w) {i : Nat} (hr : i ∈ Region.ready .any ops listed) :
    wpOp P ops Q i (fun a' w' => Inv ops Val init n w0 a0 (listed.setIfInBounds i true) a' w') a w := by
  obtain ⟨hun, o, ho, hall⟩ := mem_ready.1 hr
  obtain ⟨d, hd, hdn, hdi⟩ := flow_dst hB ho
  have hf := flow_at hB ho
  unfold fits at hf
  simp only [Bool.and_eq_true] at hf
  have hlk : ∀ t ∈ looks o, Val t (a.tmps.getD t undef) w := by
    intro t ht
    have h := List.all_eq_true.1 hf.1.2 t ht
    rw [Bool.or_eq_true] at h
    rcases h with h | h
    · exact I.start t (by simpa using h)
    · rw [Array.any_eq_true'] at h
      obtain ⟨e, he, h⟩ := h
      rw [Bool.and_eq_true, beq_iff_eq] at h
      have hl := hall e he h.1
      cases hp : ops[e.on]? with
      | none => rw [hp] at h; simp at h
      | some p =>
        rw [hp] at h
        have hlt : e.on < listed.size := by
          rcases Nat.lt_or_ge e.on listed.size with q | q
          · exact q
          · simp [Array.getElem?_eq_none q] at hl
        exact I.vals e.on p t hp (by simpa [hlt] using hl) (by simpa using h.2)
  have hmem : o ∈ ops.toList := by
    have := Array.mem_of_getElem? ho
    simpa using this
  have hs := hstep o hmem a w hlk
  have hw : Region.wanted o (yielded ops a.tmps) = true := by
    cases hgd : o.guard with
    | none => simp [Region.wanted, hgd]
    | some q =>
      obtain ⟨j, b⟩ := q
      obtain ⟨p, dj, hp, hpd, hb⟩ := hgu o hmem j b hgd
      have hwait := hf.1.1.1
      rw [hgd] at hwait
      simp only at hwait
      rw [Array.any_eq_true'] at hwait
      obtain ⟨e, he, hwait⟩ := hwait
      rw [Bool.and_eq_true, beq_iff_eq] at hwait
      have hl := hall e he hwait.1
      rw [hwait.2] at hl
      have hlt : j < listed.size := by
        rcases Nat.lt_or_ge j listed.size with q | q
        · exact q
        · simp [Array.getElem?_eq_none q] at hl
      have hv := hb _ _ (I.vals j p dj hp (by simpa [hlt] using hl) hpd)
      have hdj : dj < a.tmps.size := by
        obtain ⟨d', h1, h2, _⟩ := flow_dst hB hp
        rw [hpd] at h1; cases h1
        rw [I.frame]; exact h2
      have hv2 : a.tmps[dj]? = some (.bool b) := by
        rw [Array.getD_eq_getD_getElem?] at hv
        rw [Array.getElem?_eq_getElem hdj] at hv ⊢
        exact congrArg some hv
      simp [Region.wanted, hgd, yielded, hp, hpd, hv2]
  unfold wpOp
  simp only [ho]
  rw [if_pos hw]
  refine .inl (Oper.wp_mono ?_ hs)
  rintro a' w' ⟨v, rfl, hb, hv⟩
  have hv := hv d hd
  have hget : ∀ t, t ≠ d → (a.put o.dst v).tmps.getD t undef = a.tmps.getD t undef := by
    intro t ht
    simp [Act.put, hd, Array.getElem?_setIfInBounds_ne (Ne.symm ht)]
  have hset : (a.put o.dst v).tmps.getD d undef = v := by
    simp [Act.put, hd, I.frame, hdn]
  refine ⟨by simpa using I.size, by simpa [Act.put, hd] using I.frame, by simpa [Act.put, hd] using I.defers, grow I.below hb, ?_, ?_, ?_⟩
  · intro t ht
    rw [hget t (fun e => hdi (e ▸ ht))]
    exact hst _ _ _ _ (I.start t ht) hb
  · intro t ht
    rw [hget t (fun e => ht i o ho (e ▸ hd))]
    exact I.old t ht
  · intro j p x hp hl hx
    by_cases hij : j = i
    · subst hij
      rw [ho] at hp; cases hp
      rw [hd] at hx; cases hx
      rw [hset]; exact hv
    · rw [hget x (fun e => hij (flow_one hB hp ho (by rw [hx, hd, e])))]
      refine hst _ _ _ _ (I.vals j p x hp ?_ hx) hb
      rwa [getD_set_ne true (Ne.symm hij)] at hl

theorem flow_any {Val : Tmp → Value → World → Prop} {init : List Tmp} {n : Nat} {w0 : World} {a0 : Act} (hB : flowB ops init n = true)
    (hst : ∀ t v w w', Val t v w → Below w.heap.size w w' → Val t v w') (hgu : Guards ops Val) (hstep : ∀ o ∈ ops.toList, Step P Val Q o)
    (hend : ∀ listed a w, Inv ops Val init n w0 a0 listed a w → (∀ i, i < ops.size → listed.getD i true = true) → Q .normal a w) :
    ∀ (fuel : Nat) (listed : Array Bool) (a : Act) (w : World), Inv ops Val init n w0 a0 listed a w → listed.toList.count false ≤ fuel → wpAny P .any ops Q fuel listed a w
  | 0, listed, a, w, I, hc => by
    have hr : Region.ready .any ops listed = [] := by
      rw [List.eq_nil_iff_forall_not_mem]
      intro i hi
      have h1 := (mem_ready.1 hi).1
      have : false ∈ listed.toList := by
        rcases Nat.lt_or_ge i listed.size with q | q
        · simp [q] at h1
          rw [← h1]; simp
        · simp [Array.getElem?_eq_none q] at h1
      have := List.count_pos_iff.2 this
      omega
    exact ⟨hr, hend _ _ _ I (all_listed hB I.size hr)⟩
  | fuel + 1, listed, a, w, I, hc => by
    refine ⟨fun hr => hend _ _ _ I (all_listed hB I.size hr), fun i hi => ?_⟩
    refine wpOp_mono (fun a' w' I' => flow_any hB hst hgu hstep hend fuel _ a' w' I' ?_) (step_inv hB hst hgu hstep I hi)
    have h1 := (mem_ready.1 hi).1
    have q : i < listed.size := by
      rcases Nat.lt_or_ge i listed.size with q | q
      · exact q
      · simp [Array.getElem?_eq_none q] at h1
    simp [q] at h1
    rw [Array.toList_setIfInBounds, List.count_set (by simpa using q)]
    have hp : 0 < listed.toList.count false := List.count_pos_iff.2 (by rw [← h1]; simp)
    have hp' : listed.toList.count false - 1 ≤ fuel := by omega
    simpa [h1] using hp'

/-- Whatever order is drawn: at the end each place holds a thing of its kind. -/
theorem wp_region_flow {id : Nat} {a : Act} {w : World} (Val : Tmp → Value → World → Prop) (init : List Tmp) (n : Nat) (hm : P.follows .mixedOrders = true) (hB : flowB ops init n = true)
    (hst : ∀ t v w w', Val t v w → Below w.heap.size w w' → Val t v w') (hn : a.tmps.size = n) (hinit : ∀ t ∈ init, Val t (a.tmps.getD t undef) w) (hgu : Guards ops Val) (hstep : ∀ o ∈ ops.toList, Step P Val Q o)
    (hend : ∀ a' w', Below w.heap.size w w' → a'.tmps.size = n → a'.defers = a.defers → (∀ t, (∀ (i : Nat) o, ops[i]? = some o → o.dst ≠ some t) → a'.tmps.getD t undef = a.tmps.getD t undef) →
      (∀ (i : Nat) o d, ops[i]? = some o → o.dst = some d → Val d (a'.tmps.getD d undef) w') → Q .normal a' w') : (Code.region id ops true).wp P Q a w := by
  have b0 : Below w.heap.size w { w with drawn := w.drawn + 1 } := ⟨rfl, rfl, rfl, Nat.le_refl _, fun _ _ => rfl⟩
  refine wp_region_any hm (flow_any (Val := Val) (init := init) (n := n) (w0 := w) (a0 := a) hB hst hgu hstep ?_ _ _ _ _ ⟨by simp, hn, rfl, b0, fun t ht => hst _ _ _ _ (hinit t ht) b0, fun _ _ => rfl, ?_⟩ ?_)
  · intro listed a' w' I hl
    refine hend a' w' I.below I.frame I.defers I.old fun i o d hi hd => I.vals i o d hi (hl i ?_) hd
    rcases Nat.lt_or_ge i ops.size with q | q
    · exact q
    · rw [Array.getElem?_eq_none q] at hi; cases hi
  · intro i o d hi hl
    rcases Nat.lt_or_ge i ops.size with q | q
    · simp [q] at hl
    · rw [Array.getElem?_eq_none q] at hi; cases hi
  · simp
end
end FlowG
end Go.Proofs.YtmlhmmfgdioclaaGreat
