/-
  What the calls of package order return, for every argument: contracts by walking the Go text. No conditions beyond the numbers' kinds and where the list lies.
  What Votes of package stuck returns: a contract by walking the Go text (a range over the iterator fromOldest). Conditions: where the room lies.
-/
import Derived.Test.YtmlhmmfgdioclaaGreatJOpen5
import Derived.Test.YtmlhmmfgdioclaaGreatOrderMath
import Derived.ProofKit
import Derived.OpenShut
import Derived.Handy
import Derived.Deep.LoopGhost
import Derived.Deep.RegionLaw
import Derived.Deep.QuietTactic
import Derived.BigQuiet
import Derived.BigRegion
import Derived.Test.YtmlhmmfgdioclaaGreatJJumpCome2
import Derived.Maps.AppendAt
namespace Go.Proofs.YtmlhmmfgdioclaaGreat
set_option maxRecDepth 100000
open Go.ChangeShapes Go.WideShapes Go.ChangeAt Go.RowKit Go.Deep
namespace Od
open Fx

theorem intInfo : (Tryz.prog.info? 3).map (fun i => (i.zero, i.size, i.bytes)) = some (some (.int .i64 0), 1, 8) := by kernel_rfl
theorem intSize : (Tryz.prog.info? 3).map (·.size) = some 1 := by kernel_rfl

theorem all_not (l : List Int) (k : Nat) (h : k < l.length) (e : ¬ (-1099511627776 ≤ l.getD k 0 ∧ l.getD k 0 ≤ 1099511627776)) : ok l = false := by
  rw [ok_false]
  intro ⟨_, ha⟩
  rw [List.all_eq_true] at ha
  have := ha l[k] (List.getElem_mem h)
  rw [getD_at l k h] at e
  exact e ((sm_iff _).1 this)
theorem all_step (l : List Int) (k : Nat) (h : k < l.length) (h0 : (l.take k).all sm = true) (e : -1099511627776 ≤ l.getD k 0 ∧ l.getD k 0 ≤ 1099511627776) : (l.take (k + 1)).all sm = true := by
  rw [take_snoc l k h, List.all_append, h0]; simpa [sm] using e

set_option maxHeartbeats 400000 in
theorem told_any (a : Option Addr) (cap : Nat) (l : List Int) (w : World) (hl : l.length ≤ 9223372036854775807) (hb : IntsAt .i64 w a l) :
    Calls Tryz.prog 130 #[.slice a l.length cap] w fun e w' => e = .returned (.bool (ok l)) ∧ w = w' := by
  by_cases h16 : 16 < l.length
  · have HF := Lib.hid ((ok_false l).2 (by omega))
    go_enter Tryz.func130, Tryz.ntmps130
    go_wp2
    go_ret
    exact ⟨ret_bool HF.out.symm, rfl⟩
  · have HB := Lib.hid hb
    clear hb
    go_enter Tryz.func130, Tryz.ntmps130
    go_wp2
    go_loop [10] (fun i => ∃ k : Nat, k ≤ l.length ∧ i = .int .i64 k ∧ (l.take k).all sm = true) (fun i => l.length - (intOf i).toNat)
    case atStart => exact ⟨0, by omega, rfl, rfl⟩
    case round =>
      obtain ⟨k, hk, rfl, hall⟩ := hrel
      have HA := Lib.hid hall
      clear hall
      by_cases hlt : k < l.length
      · rcases HB.out with hnil | ⟨b, off, rfl, hc⟩
        · rw [hnil] at hlt; simp at hlt
        have hcell := hc k hlt
        clear hc
        have HT := Lib.hid (all_step l k hlt HA.out)
        have HN := Lib.hid (all_not l k hlt)
        generalize l.getD k 0 = x at *
        by_cases h1 : x < -1099511627776
        · go_wp2
          go_ret
          exact ⟨ret_bool (by rw [HN.out (by omega)]), rfl⟩
        · have d1 : decide (x < -1099511627776) = false := by simpa using h1
          by_cases h2 : 1099511627776 < x
          · go_wp2
            go_ret
            exact ⟨ret_bool (by rw [HN.out (by omega)]), rfl⟩
          · have d2 : decide (1099511627776 < x) = false := by simpa using h2
            go_wp2
            go_round
            case rel => exact ⟨k + 1, by omega, by go_num, HT.out (by omega)⟩
            case measure => simp [intOf]; omega
      · have : k = l.length := by omega
        subst this
        go_wp2
        go_ret
        exact ⟨ret_bool (by have := HA.out; rw [List.take_of_length_le (Nat.le_refl _)] at this; exact ((ok_iff l).2 ⟨by omega, this⟩).symm), rfl⟩

theorem swapped {w : World} {g : Nat} {t : TypeId} {c : List Int} {k : Nat} (h : IRow .i64 w g t c) :
    IRow .i64 ((w.setCell ⟨g, k - 1, none⟩ (.int .i64 (c.getD k 0))).setCell ⟨g, k, none⟩ (.int .i64 (c.getD (k - 1) 0))) g t (swap c k) := (h.set (k - 1) _).set k _

set_option maxHeartbeats 800000 in
theorem sort_any (a : Option Addr) (cap : Nat) (l : List Int) (w : World) (hl : l.length ≤ 9223372036854775807) (hb : IntsAt .i64 w a l) :
    Calls Tryz.prog 103 #[.slice a l.length cap] w (RetI .i64 w (osort l)) := by
  cases hok : ok l
  · have HF := Lib.hid (show osort l = [] by unfold osort; rw [hok]; rfl)
    go_enter Tryz.func103, Tryz.ntmps103
    go_wp2
    go_step3
    go_wp2_with (first | (go_at_call 130; refine (told_any _ _ _ _ hl hb).mono ?_; rintro e w' ⟨rfl, rfl⟩))
    rw [Exit.noGoto_ret]
    go_ret
    exact retI_nil HF.out (Below.refl _ _)
  · have HF := Lib.hid (show osort l = srt l by unfold osort; rw [if_pos hok])
    have h16 := ok_len hok
    have HB := Lib.hid hb
    obtain ⟨i0, hi0, hz0, hz1, hz2⟩ := info_parts intInfo
    go_enter Tryz.func103, Tryz.ntmps103
    go_wp2
    go_step3
    go_wp2_with (first
      | (go_at_call 130; refine (told_any _ _ _ _ hl hb).mono ?_; rintro e w' ⟨rfl, rfl⟩)
      | (at_make; refine wpList_make_full _ rfl _ _ _ rfl w.heap.size 3 i0 (.int .i64 0) 1 Tryz.underlying55 hi0 hz0 hz1 .i64 .i64 _ _ l.length rfl rfl rfl rfl (by rw [hz2]; omega) (by unfold maxLen; omega) (Nat.le_refl _) ?_; intro w1 own1 grown1
         have R1 := Lib.hid (IRow.of_own own1 (zeros_cellsI _)); have B1 := Lib.hid ((Below.refl w.heap.size w).grown grown1 (Nat.le_refl _) (by simp)); clear own1 grown1)
      | (refine wpList_copyI (o := ⟨some 13, _, _, _, _, _⟩) rfl (.tmp 11) (.tmp 12) _ rfl 3 Tryz.underlying55 intSize .i64 w.heap.size 0 (List.replicate l.length 0) l 3 _ _ _ _ _ _ rfl rfl R1.out (by simp) (fun _ => rfl) (HB.out.below B1.out) (by simp) w.heap.size w B1.out (Nat.le_refl _) ?_
         intro w2 R2' B2'; have R2 := Lib.hid (show IRow _ _ _ _ l from (splice_whole (List.replicate l.length 0) l (by simp)) ▸ R2'.out); have B2 := Lib.hid B2'; clear R2' B2'))
    clear hb
    go_simp
    go_step3
    go_wp2
    go_loopg [4] (inv l) (fun g _ wr => ∃ c : List Int, c.Perm l ∧ inv c ≤ g ∧ Hid (IRow .i64 wr w.heap.size 3 c) ∧ Hid (Below w.heap.size w wr))
    case atStart => exact ⟨l, List.Perm.refl _, Nat.le_refl _, R2, B2⟩
    case round =>
      obtain ⟨c, hp, hg, R3, B3⟩ := hrel
      have hcl := hp.length_eq
      have HL := Lib.hid hcl
      have hl1 : c.length ≤ l.length := by omega
      have hl2 : l.length ≤ c.length := by omega
      clear hcl
      go_wp2
      go_loopg [4] l.length (fun gg s4 wx => ∃ j : Nat, s4 = .int .i64 ((j : Int) + 1) ∧ j + gg = l.length ∧ Hid (Up (c.take (j + 1))) ∧ Hid (IRow .i64 wx w.heap.size 3 c) ∧ Hid (Below w.heap.size w wx))
      case atStart => exact ⟨0, rfl, by omega, Lib.hid (up_one c), R3, B3⟩
      case round =>
        obtain ⟨j, rfl, hjg, U4, R4, B4⟩ := hrel
        have hj1 : j ≤ l.length := by omega
        by_cases hlt : j + 1 < l.length
        · have hc1 := R4.out.cell j (by omega)
          have hc2 := R4.out.cell (j + 1) (by omega)
          have hf1 := R4.out.frozen j
          have hf2 := R4.out.frozen (j + 1)
          have HS := Lib.hid (swap_inv c (j + 1) (by omega) (by omega))
          have HP := Lib.hid (swap_perm c (j + 1) (by omega) (by omega))
          have HW := Lib.hid (swapped R4.out (k := j + 1))
          have HU := Lib.hid (up_take c (j + 1) (by omega) (by omega) U4.out)
          simp only [Nat.add_sub_cancel] at HS HP HW HU
          generalize c.getD j 0 = x at *
          generalize c.getD (j + 1) 0 = y at *
          have hi1 : (j : Int) + 1 < (l.length : Int) := by omega
          have hjl : (j : Int) < (l.length : Int) := by omega
          by_cases hxy : y < x
          · have d1 : decide (y < x) = true := by simpa using hxy
            go_wp2
            go_quiet (fail)
            go_wp2
            go_region
            go_wp2
            go_roundg (inv (swap c (j + 1)))
            case rel => exact ⟨swap c (j + 1), HP.out.trans hp, Nat.le_refl _, HW.out, ((below_drewN B4.out _).setCell (Nat.le_refl _) _).setCell (Nat.le_refl _) _⟩
            case measure => have := HS.out hxy; omega
          · have d1 : decide (y < x) = false := by simpa using hxy
            go_wp2
            go_quiet (fail)
            go_wp2
            go_roundg (gk - 1)
            case rel => exact ⟨j + 1, by go_num, by omega, Lib.hid (HU.out (by omega)), R4.out.drewN _, below_drewN B4.out _⟩
            case measure => omega
        · go_wp2
          rw [Exit.noGoto_ret]
          go_ret
          exact retI_mk (srt_of hp (by have := U4.out; rwa [List.take_of_length_le (by omega)] at this) |>.trans HF.out.symm) (by omega) R4.out.ints B4.out
end Od
end Go.Proofs.YtmlhmmfgdioclaaGreat

namespace Go.Proofs.YtmlhmmfgdioclaaGreat
set_option maxRecDepth 100000
open Go.ChangeShapes Go.WideShapes Go.ChangeAt Go.RowKit Go.Deep Go.Shelf
namespace Sk
attribute [local go_sem] Oper.semAt_some

theorem box_kept {W w1 : World} {n₀ B Bs size k : Nat} {t e : TypeId} {u v v' : Value} {xs : List Value} {tmp : Obj} (hBs : Boxed W Bs t u) (ht : t ≠ e) (hrow : W.ownsRow n₀ e size v k xs) (hgrow : (W.alloc tmp).grownBy w1 v.ownBlock) (ne : Bs ≠ B) :
    Boxed (w1.setCell ⟨B, 0, none⟩ v') Bs t u :=
  (heap_setCell_other w1 ⟨B, 0, none⟩ Bs v' ne).trans ((hBs.alloc tmp).kept hgrow (hBs.not_row ht hrow))

set_option maxRecDepth 100000 in
set_option maxHeartbeats 2000000 in
theorem votes_any (g P : Nat) (bound : Int) (V : List Int) (w : World) (hR : Room w g P bound V) :
    Calls Tryz.prog 129 #[.pointer (some ⟨g, 0, none⟩)] w (RetI .i64 w V) := by
  have hle := hR.le
  have hlt := hR.lt
  have HR := Lib.hid hR
  clear hR
  obtain ⟨i0, hi0, hz0, hz1, hz2⟩ := info_parts Od.intInfo
  refine (callsIn_wide (n := 5)).1 ?_
  refine callsIn_of_wp_marks Tryz.func129 rfl trivial ?_ rfl
  simp only [Tryz.ntmps129, List.size_toArray, List.length_cons, List.length_nil, Nat.reduceAdd, Nat.reduceSub, Array.replicate_succ, Array.replicate_zero, List.push_toArray, List.append_toArray, List.nil_append, List.cons_append]
  gi_wp2_with (refine ⟨trivial, ?_⟩; gi_at_call 143; refine (callsIn_wide.2 (from_any _ _)).mono ?_; rintro e w2 ⟨rfl, rfl⟩)
  have bL := (Boxed.new w 55 (.slice none 0 0)).alloc (.cells #[.pointer (some ⟨g, 0, none⟩)] 82)
  have bS := Boxed.new (w.alloc (.cells #[.slice none 0 0] 55)) 82 (.pointer (some ⟨g, 0, none⟩))
  rw [World.size_alloc] at bS
  have hR0 := (HR.out.alloc (.cells #[.slice none 0 0] 55)).alloc (.cells #[.pointer (some ⟨g, 0, none⟩)] 82)
  have hB0 := ((Below.refl w.heap.size w).alloc (Nat.le_refl _) (.cells #[.slice none 0 0] 55)).alloc (by simp) (.cells #[.pointer (some ⟨g, 0, none⟩)] 82)
  have hsz : ((w.alloc (.cells #[.slice none 0 0] 55)).alloc (.cells #[.pointer (some ⟨g, 0, none⟩)] 82)).heap.size = w.heap.size + 2 := by simp
  generalize (w.alloc (.cells #[.slice none 0 0] 55)).alloc (.cells #[.pointer (some ⟨g, 0, none⟩)] 82) = W0 at *
  refine wpIn_rangeFunc_ownG rfl (by omega) (gf := 146) (lb := #[.pointer (some ⟨w.heap.size + 1, 0, none⟩)]) rfl trivial (enters_of Tryz.func146 (by kernel_rfl) rfl)
    (from_stops _ (by omega) (w.heap.size + 1) g P bound V W0 (by omega) bS.cell hR0) KeepTwo.trans (KeepTwo.put (by omega) (by omega)) (Below.refl _ _) (fun _ => rfl)
    (fun pre W => ((∃ v, Boxed W w.heap.size 55 v ∧ W.ownsRow w.heap.size 3 1 v (pre.map (vat V)).length (cellsI .i64 (pre.map (vat V))) ∧ True) ∧ Boxed W (w.heap.size + 1) 82 (.pointer (some ⟨g, 0, none⟩))) ∧ Below w.heap.size w W)
    (fun _ _ _ => False)
    (OwnFrom.and (OwnFrom.and (Own.from (holdsRow_own w.heap.size w.heap.size 55 3 1 (fun pre : List (Fin V.length) => (pre.map (vat V)).length) (fun pre => cellsI .i64 (pre.map (vat V))) (fun _ _ => True)) _) (Own.from (boxed_own _ _ _) _)) (ownFrom_below (Nat.le_refl _) (by omega)))
    (fun _ _ _ _ _ hs _ _ => hs)
    ⟨⟨⟨_, bL, World.ownsRow_nil _ _ _ _, trivial⟩, bS⟩, hB0⟩
    (fun x => { tmps := #[.pointer (some ⟨g, 0, none⟩), undef, .slice none 0 0, .pointer (some ⟨w.heap.size, 0, none⟩), .int .i64 (vat V x), .pointer (some ⟨g, 0, none⟩), .bool false, .pointer (some ⟨g, 0, none⟩), .func (.func 146) #[] #[.pointer (some ⟨w.heap.size + 1, 0, none⟩)], .int .i64 (vat V x), undef, undef, undef, undef, undef], defers := [] }) ?assign ?body ?done ?stop
  case assign =>
    intro l x W K hK
    dsimp only [encv]
    gi_wp2
    exact hK
  case body =>
    rintro lp pre x W ⟨⟨⟨v, hbx, hrow, _⟩, hBs⟩, hB⟩ hpl
    have HM := Lib.hid (show (pre ++ [x]).map (vat V) = pre.map (vat V) ++ [vat V x] by simp)
    have hl15 : (pre.map (vat V)).length ≤ 15 := by rw [List.length_map]; omega
    generalize vat V x = y at *
    generalize pre.map (vat V) = ls at *
    have hbc := hbx.cell
    gi_wp2_with (gi_at_builtin; (refine wpListIn_append_own _ rfl _ _ 55 rfl w.heap.size 3 i0 (.int .i64 0) 1 8 Tryz.underlying55 hi0 hz0 hz1 hz2 rfl (by decide) _ _ _ rfl (hrow.alloc _) ⟨W.heap.size, 0, none⟩ 1 1 [.int .i64 y] rfl rfl (cell_one_new _ _ _) (by simp [Value.oneCell']) (by unfold maxLen; omega) (by omega) (by have := hB.size; simp; omega) ?_; intro v' w1 hown' hgrow _; obtain ⟨g', cap', rfl⟩ := ownsRow_succ hown'; obtain ⟨hv1, hv2, hr2, hk2, hb2⟩ := hbx.appended (by decide) hrow hB.size (Nat.le_refl _) hown' hgrow; have hs2 := box_kept (B := w.heap.size) (v' := (.slice (some ⟨g', 0, none⟩) (ls.length + 1) cap')) hBs (by decide) hrow hgrow (by omega); have hc1 := hv1.cell; have hf1 := hv1.frozen))
    refine ⟨hk2.from _, ⟨hs2.trans hBs.symm, hb2.block g hlt⟩, ⟨⟨_, hv2, ?_, trivial⟩, hs2⟩, hB.trans hb2⟩
    rw [HM.out, cellsI_app, List.length_append]
    exact hr2
  case done =>
    rintro D ys W hD hys ⟨⟨⟨v, hbx, hrow, _⟩, hBs⟩, hB⟩ hK
    have hrow2 := ownsRow_putObj hrow (.deferred none) hK rfl
    rw [vat_all V ys hys] at hrow hrow2
    obtain ⟨a, cap, rfl, _⟩ := OwnI.form (show OwnI .i64 _ _ _ v V from hrow)
    obtain ⟨a', cap', he, hi⟩ := OwnI.form (show OwnI .i64 _ _ _ _ V from hrow2)
    cases he
    have hbc := hbx.cell
    gi_wp2
    refine ⟨by simp, .inl ⟨_, _, rfl, run_takeDeferred hK, ?_⟩⟩
    refine ⟨_, results_tmp rfl _ _ _, ?_⟩
    exact retI_mk rfl rfl hi (hB.trans (belowK_b (w := w) (Nat.le_refl _) W D _ _ (by omega) hK rfl rfl))
  case stop =>
    rintro D c pre W _ _ h _
    exact h.elim
end Sk
end Go.Proofs.YtmlhmmfgdioclaaGreat
