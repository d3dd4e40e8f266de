/-
  SignalPlays: '==' of a result with none, and of a latch's state with itself.
  SignalPlays: the region of the document's step.
  SignalPlays, walked over whatever package signal's contracts are: for all configurations and cycles it returns true, and writes nothing that was there. Conditions: how the cycles lie.
-/
import Derived.Test.YtacclmfbkiadbaaGreatJSignalNearWalk4
import Derived.Test.YtacclmfbkiadbaaGreatJLatchMath8
import Derived.Test.YtacclmfbkiadbaaGreatSignalPlaysState
import Derived.Test.YtacclmfbkiadbaaGreatJSignalSteps6
import Derived.Test.YtacclmfbkiadbaaGreatJConfigRow6
import Derived.Deep.LoopGhost
import Derived.Deep.DeepCutAuto
import Derived.Deep.CutBlock
import Derived.Deep.RegionLaw
namespace Go.Proofs.YtacclmfbkiadbaaGreat
set_option maxRecDepth 100000
open Go.ChangeShapes Go.WideShapes Go.ChangeAt Go.RowKit Go.Deep
namespace Sg
theorem eq_zst (W : World) : (Op.equalIn 9999 35 (.agg #[.int .i64 0, .int .i64 0, .int .i64 0, .bool false]) (.agg #[.int .i64 0, .int .i64 0, .int .i64 0, .bool false])).run Tryz.prog W = .ok true W := by
  refine (run_equalIn_struct W 9998 _ _ _ (by kernel_rfl) (by kernel_rfl)).trans ?_
  refine eq_field (a := .int .i64 0) (by kernel_rfl) (by kernel_rfl) ((run_equalIn_int W 9997 _ .i64 .i64 _ _ (by kernel_rfl)).trans (by simp)) ?_
  refine eq_field (a := .int .i64 0) (by kernel_rfl) (by kernel_rfl) ((run_equalIn_int W 9997 _ .i64 .i64 _ _ (by kernel_rfl)).trans (by simp)) ?_
  refine eq_field (a := .int .i64 0) (by kernel_rfl) (by kernel_rfl) ((run_equalIn_int W 9997 _ .i64 .i64 _ _ (by kernel_rfl)).trans (by simp)) ?_
  refine eq_field (a := .bool false) (by kernel_rfl) (by kernel_rfl) ((run_equalIn_bool' W 9997 _ _ _ (by kernel_rfl)).trans (by simp)) ?_
  exact eq_done
theorem eq_zfour (W : World) : (Op.equalIn 9999 22 (.agg #[.int .i64 0, .int .i64 0, .int .i64 0, .int .i64 0]) (.agg #[.int .i64 0, .int .i64 0, .int .i64 0, .int .i64 0])).run Tryz.prog W = .ok true W := by
  have h := Agg.run_equalIn_ints W 9997 _ _ 4 .i64 Tryz.underlying22 Tryz.underlying3 (fun w => by kernel_rfl) [0, 0, 0, 0] [0, 0, 0, 0] rfl rfl
  rw [show 9997 + 2 = 9999 from rfl, show (([0, 0, 0, 0] : List Int) == [0, 0, 0, 0]) = true by decide] at h
  exact h
theorem eq_zres (W : World) : (Op.equalIn 10000 37 (.agg zres.toArray) (.agg zres.toArray)).run Tryz.prog W = .ok true W := by
  refine (run_equalIn_struct W 9999 _ _ _ (by kernel_rfl) (by kernel_rfl)).trans ?_
  refine eq_field (a := .int .i64 0) (by kernel_rfl) (by kernel_rfl) ((run_equalIn_int W 9998 _ .i64 .i64 _ _ (by kernel_rfl)).trans (by simp)) ?_
  refine eq_field (by kernel_rfl) (by kernel_rfl) (eq_zst W) ?_
  refine eq_field (by kernel_rfl) (by kernel_rfl) (eq_zfour W) ?_
  refine eq_field (by kernel_rfl) (by kernel_rfl) (eq_zfour W) ?_
  exact eq_done
theorem eq_lavr (s : Lc.St) (W : World) : (Op.equalIn 10000 58 (.agg (lav s).toArray) (.agg (lav s).toArray)).run Tryz.prog W = .ok true W := by
  refine (run_equalIn_struct W 9999 _ _ _ (by kernel_rfl) (by kernel_rfl)).trans ?_
  refine eq_field (a := .bool s.la) (by kernel_rfl) (by kernel_rfl) ((run_equalIn_bool' W 9998 _ _ _ (by kernel_rfl)).trans (by simp)) ?_
  refine eq_field (a := .bool s.ou) (by kernel_rfl) (by kernel_rfl) ((run_equalIn_bool' W 9998 _ _ _ (by kernel_rfl)).trans (by simp)) ?_
  refine eq_field (a := .int .i64 s.st) (by kernel_rfl) (by kernel_rfl) ((run_equalIn_int W 9998 _ .i64 .i64 _ _ (by kernel_rfl)).trans (by simp)) ?_
  refine eq_field (a := .int .i64 s.cl) (by kernel_rfl) (by kernel_rfl) ((run_equalIn_int W 9998 _ .i64 .i64 _ _ (by kernel_rfl)).trans (by simp)) ?_
  refine eq_field (a := .int .i64 s.bk) (by kernel_rfl) (by kernel_rfl) ((run_equalIn_int W 9998 _ .i64 .i64 _ _ (by kernel_rfl)).trans (by simp)) ?_
  exact eq_done
end Sg
end Go.Proofs.YtacclmfbkiadbaaGreat

namespace Go.Proofs.YtacclmfbkiadbaaGreat
set_option maxRecDepth 100000
open Go.ChangeShapes Go.WideShapes Go.ChangeAt Go.RowKit Go.Deep
namespace Sg
section
variable {c : List Int} {T : Nat → Prop} {s s' : Si} {p : Pl} {rs : List Value} {t : TypeId} {x y z : Bool} {v : Value} {Z0 Y Z : World}
structure Dq (c : List Int) (s s' : Si) (T : Nat → Prop) (p : Pl) (rs : List Value) (t : TypeId) (Z0 : World) (x y z : Bool) (v : Value) (Y : World) : Prop where
  but : But T Z0 Y
  odd : ∀ j, T j → j < Z0.heap.size
  ord : z = true → x = true ∧ y = true
  sig0 : x = false → RS Y T p c s
  sig1 : x = true → ∃ T', RS Y T' p c s' ∧ (∀ j, T' j → T j ∨ Z0.heap.size ≤ j) ∧ (y = true → ∀ ga, v = .pointer (some ⟨ga, 0, none⟩) → ¬ T' ga)
  box : y = true → ∃ ga, v = .pointer (some ⟨ga, 0, none⟩) ∧ Z0.heap.size ≤ ga ∧ VRow Y ga t (if z = true then rs else zres)
theorem Dq.grow (h : Dq c s s' T p rs t Z0 x y z v Y) (b : Below Y.heap.size Y Z) : Dq c s s' T p rs t Z0 x y z v Z :=
  ⟨h.but.grow b, h.odd, h.ord, fun e => RX.on (h.sig0 e) b, fun e => by obtain ⟨T', h1, h2, h3⟩ := h.sig1 e; exact ⟨T', RX.on h1 b, h2, h3⟩, fun e => by obtain ⟨ga, h1, h2, h3⟩ := h.box e; exact ⟨ga, h1, h2, h3.below b h3.lt⟩⟩
theorem Dq.call {T' : Nat → Prop} (h : Dq c s s' T p rs t Z0 false y z v Y) (n : RS Z T' p c s') (b : But T Y Z) (m : ∀ j, T' j → T j ∨ Y.heap.size ≤ j) : Dq c s s' T p rs t Z0 true y z v Z := by
  have hb := h.but.size
  refine ⟨h.but.trans b, h.odd, fun e => ⟨rfl, (h.ord e).2⟩, fun e => (by cases e), fun _ => ⟨T', n, fun j q => (m j q).imp id fun k => by omega, fun e ga hv q => ?_⟩, fun e => ?_⟩
  · obtain ⟨ga', h1, h2, h3⟩ := h.box e
    rw [hv] at h1
    obtain rfl : ga = ga' := by injection h1 with h1; injection h1 with h1; injection h1
    have hlt := h3.lt
    rcases m ga q with q | q
    · have := h.odd ga q; omega
    · omega
  · obtain ⟨ga, h1, h2, h3⟩ := h.box e
    exact ⟨ga, h1, h2, h3.but b fun q => by have := h.odd ga q; omega⟩
theorem Dq.alloc (h : Dq c s s' T p rs t Z0 x false z v Y) : Dq c s s' T p rs t Z0 x true z (.pointer (some ⟨Y.heap.size, 0, none⟩)) (Y.alloc (.cells zres.toArray t)) := by
  obtain rfl : z = false := by
    cases z
    · rfl
    · have := (h.ord rfl).2; cases this
  have b := (Below.refl Y.heap.size Y).alloc (Nat.le_refl _) (.cells zres.toArray t)
  refine ⟨h.but.grow b, h.odd, fun e => (by cases e), fun e => RX.on (h.sig0 e) b, fun e => ?_, fun _ => ⟨_, rfl, h.but.size, VRow.new Y zres t⟩⟩
  obtain ⟨T', h1, h2, -⟩ := h.sig1 e
  refine ⟨T', RX.on h1 b, h2, fun _ ga hv q => ?_⟩
  obtain rfl : Y.heap.size = ga := by injection hv with hv; injection hv with hv; injection hv
  have := h1.lt _ q
  omega
theorem Dq.store {ga : Nat} (h : Dq c s s' T p rs t Z0 true true z v Y) (hv : v = .pointer (some ⟨ga, 0, none⟩)) : Dq c s s' T p rs t Z0 true true true v (Y.setRow ga rs.toArray) := by
  obtain ⟨ga', h1, h2, h3⟩ := h.box rfl
  rw [hv] at h1
  obtain rfl : ga = ga' := by injection h1 with h1; injection h1 with h1; injection h1
  obtain ⟨T', n, h5, h4⟩ := h.sig1 rfl
  have hn := h4 rfl ga hv
  have b := (But.refl (· = ga) Y).put (Or.inl rfl) rs.toArray
  refine ⟨h.but.put (Or.inr h2) rs.toArray, h.odd, fun _ => ⟨rfl, rfl⟩, fun e => (by cases e), fun _ => ⟨T', RX.keep n b (fun j hj (e : j = ga) => hn (e ▸ hj)), h5, fun _ ga' hv' q => ?_⟩, fun _ => ⟨ga, hv, h2, ?_⟩⟩
  · rw [hv] at hv'
    obtain rfl : ga = ga' := by injection hv' with h1; injection h1 with h1; injection h1
    exact hn q
  · rw [if_pos rfl]; exact h3.put rs
end
end Sg
end Go.Proofs.YtacclmfbkiadbaaGreat

namespace Go.Proofs.YtacclmfbkiadbaaGreat
set_option maxRecDepth 100000
open Go.ChangeShapes Go.WideShapes Go.ChangeAt Go.RowKit Go.Deep
namespace Sg
open Cf (G CA Box)
/-- A step, whatever is told; whether that may be is told, too. -/
theorem step_both {F : Face} {w : World} {c : List Int} {g : Nat} {s : Si} {i : Nat} (hR : Cf.Right c) (hi : i ≤ 120) (r : Nat → Rw) (sh : Int) : ∃ (rs : List Value) (er : Int) (s' : Si),
    (∀ W S, Nd F w W c S g s i → Calls Tryz.prog 8 #[.pointer (some ⟨g, 0, none⟩), .agg (raw8 r).toArray, .int .i64 sh] W fun e w' => e = .returned (.tuple #[.agg rs.toArray, .int .i64 er]) ∧ ∃ S', Nd F w w' c S' g s' (i + 1) ∧ But S W w' ∧ ∀ j, S' j → S j ∨ W.heap.size ≤ j) ∧
    rs.length = 13 ∧ rs.toArray.all (·.oneCell') = true ∧ ((¬ okr c r sh ∧ er = 1 ∧ rs = zres ∧ s' = s) ∨ (okr c r sh ∧ er = 0 ∧ rs = res c s r sh ∧ s' = nxt c s r sh)) := by
  by_cases hok : okr c r sh
  · refine ⟨res c s r sh, 0, nxt c s r sh, fun W S H => (F.step_yes r sh H.held hR H.ok hok (by have := H.votes; omega)).mono ?_, rfl, res_one c s r sh, Or.inr ⟨hok, rfl, rfl, rfl⟩⟩
    rintro e w' ⟨rfl, S', h1, h2, h3⟩
    exact ⟨rfl, S', Nd.step hR hok.1 H h1 h2 h3, h2, h3⟩
  · refine ⟨zres, 1, s, fun W S H => (F.step_no r sh H.held hR H.ok hok).mono ?_, rfl, by simp [zres, Value.oneCell'], Or.inl ⟨hok, rfl, rfl, rfl⟩⟩
    rintro e w' ⟨rfl, b⟩
    exact ⟨rfl, S, (H.on b).more, But.of_below b, fun j hj => Or.inl hj⟩
theorem aggCy (w : World) : (isAgg 44).run Tryz.prog w = .ok true w := by simp [isAgg, run_underlying Tryz.underlying44]
theorem sizeCy : (Tryz.prog.info? 44).map (·.size) = some 9 := by kernel_rfl
theorem raw8_one (r : Nat → Rw) : (raw8 r).toArray.all (·.oneCell') = true := by simp [raw8, Value.oneCell']
set_option maxRecDepth 100000 in
set_option maxHeartbeats 6400000 in
theorem plays_any (F : Face) (HA : ∀ W, Calls Tryz.prog 4 #[] W fun e w' => e = .returned (.bool true) ∧ Below W.heap.size W w')
    (c : List Int) (a : Option Addr) (l : List Cyc) (cap : Nat) (w : World) (hc : c.length = 21) (hl : CycsAt w a l) :
    Calls Tryz.prog 3 #[.agg (CA c), .slice a l.length cap] w fun e w' => e = .returned (.bool true) ∧ Below w.heap.size w w' := by
  have X0 := Lib.hid (Box.new w c)
  have B0 := Lib.hid ((Below.refl w.heap.size w).alloc (Nat.le_refl _) (.cells (CA c) 24))
  have N0 := Lib.hid (show w.heap.size + 1 ≤ (w.alloc (.cells (CA c) 24)).heap.size by simp)
  have HC := Lib.hid hc
  have RM := fun W => rmay_any c W hc
  by_cases h120 : 120 < l.length
  · have d0 : decide (120 < (l.length : Int)) = true := by simp; omega
    clear hl h120 hc RM
    generalize l.length = m at *
    go_enter Tryz.func3, Tryz.ntmps3
    go_wp2_with fail
    refine (HA _).mono ?_; rintro e w2 ⟨rfl, b2⟩
    have B2 := Lib.hid (grow B0.out b2)
    go_wp2_with fail
    go_ret
    exact ⟨rfl, B2.out⟩
  · have d0 : decide (120 < (l.length : Int)) = false := by simp; omega
    by_cases hR : Cf.Right c
    · have NY := fun W => F.new_yes c W hc hR
      have RB := fun W => rbegin_any c W hc hR
      rw [show Cf.rt c = true from decide_eq_true hR] at RM
      have HL := Lib.hid hl
      obtain ⟨m, hm⟩ : ∃ m, m = l.length := ⟨_, rfl⟩
      rw [← hm] at h120 d0 ⊢
      have HM := Lib.hid hm
      have H120 := Lib.hid h120
      have HR := Lib.hid hR
      clear hl hc hm h120
      go_enter Tryz.func3, Tryz.ntmps3
      go_wp2_with ((with_reducible show wpList _ _ _ (⟨some 29, _, _, _, _, _⟩ :: _) _ _); refine Cf.wpList_loadC rfl _ rfl w.heap.size c rfl X0.out HC.out ?_)
      refine (NY _).mono ?_; rintro e w1 ⟨⟨g, S, rfl, h1, n1⟩, b1⟩
      have D1 := Lib.hid (show Nd F w w1 c S g (begin c) 0 from ⟨grow B0.out b1, h1, fun j hj => Nat.le_trans N0.out (n1 j hj), Nat.le_trans N0.out b1.size, ok_begin hR, X0.out.on b1, by simp [begin]⟩)
      clear h1 n1 b1 NY X0 B0 N0 hR
      go_wp2_with ((with_reducible show wpList _ _ _ (⟨some 33, _, _, _, _, _⟩ :: _) _ _); refine Cf.wpList_loadC rfl _ rfl w.heap.size c rfl D1.out.cfg HC.out ?_)
      refine (RM _).mono ?_; rintro e w2 ⟨rfl, b2⟩
      have D2 := Lib.hid (D1.out.on b2)
      clear b2 D1 RM
      go_wp2_with ((with_reducible show wpList _ _ _ (⟨some 52, _, _, _, _, _⟩ :: _) _ _); refine Cf.wpList_loadC rfl _ rfl w.heap.size c rfl D2.out.cfg HC.out ?_)
      refine (RB _).mono ?_; rintro e w3 ⟨⟨p, T, rfl, h1, n1⟩, b3⟩
      have P0 := Lib.hid (show Pd F w w3 c S g (begin c) T p 0 from ⟨D2.out.on b3, RX.ls' h1 (fun i hi => .inr rfl), fun j hj => Nat.le_trans D2.out.big (n1 j hj), fun j hj q => by have := F.lt D2.out.held j hj; have := n1 j q; omega, fun i hi => Nat.le_refl _⟩)
      clear h1 n1 b3 D2 RB
      generalize begin c = s0 at *
      go_wp2_with fail
      clear d0
      go_loopg [9] m (fun gg s9 wr => ∃ (i : Nat) (s : Si) (S T : Nat → Prop), i + gg = m ∧ s9 = .int .i64 i ∧ Hid (Pd F w wr c S g s T p i))
      case atStart => exact ⟨0, s0, S, T, by omega, rfl, P0⟩
      case round =>
        obtain ⟨i, s, S, T, hi, rfl, P⟩ := hrel
        have HI := Lib.hid hi
        clear P0 hi
        by_cases hlt : i < m
        · have hli : (i : Int) < m := by omega
          have h120 : (m : Int) ≤ 120 := by have := H120.out; omega
          obtain ⟨b, off, rfl, hat⟩ := HL.out (by have := HM.out; omega)
          obtain ⟨q, hpi⟩ : ∃ q, l[i]? = some q := ⟨_, List.getElem?_eq_getElem (by have := HM.out; omega)⟩
          have PC := Lib.hid (fun (W : World) (B : Below w.heap.size w W) (j : Nat) v (hv : (cyv q)[j]? = some v) => (show W.cell? ⟨b, off + i * 9 + j, none⟩ = some v from (B.cell (p := ⟨b, off + i * 9 + j, none⟩) (cell_lt (hat i q hpi j v hv))).trans (hat i q hpi j v hv)))
          clear hat hpi hlt
          rename World => w1
          go_upto_region 13 with fail
          obtain ⟨rs, er, s', CS, hrl, hr1, hcase⟩ := step_both (F := F) (w := w) (g := g) (s := s) (i := i) HR.out (by have := HI.out; have := H120.out; omega) q.r q.sh
          have HCS := Lib.hid CS
          have HR1 := Lib.hid hr1
          have HRL := Lib.hid hrl
          have HCA := Lib.hid hcase
          have Q0 := Lib.hid (show Sq F w c S g s s' T p i w1.heap.size rs 37 false false false undef w1 from ⟨Nat.le_refl _, fun j hj => F.lt P.out.nd.held j hj, fun j hj => P.out.rs.lt j hj, P.out.nd.big, fun e => by (cases e), fun _ => P.out, fun e => by (cases e), fun e => by (cases e)⟩)
          clear CS hr1 hcase hrl
          refine Ws.wp_sets (aF := ?_) [10] [11, 15, 16] 214 [true, true, true, true, true, true, true, true, true, true, true, false, true, true, true, false, false, true] [(72, .tuple #[.agg rs.toArray, .int .i64 er]), (10, undef)]
            (fun bs vs Y => Sq F w c S g s s' T p i w1.heap.size rs 37 (bs.getD 0 false) (bs.getD 1 false) (bs.getD 2 false) (vs.getD 0 undef) Y)
            (fun Y => Below w.heap.size w Y)
            (by kernel_rfl) (by kernel_rfl) (by kernel_rfl) (by kernel_rfl) ?ha ?hMC ?hMg ?h0 ?hq ?hw ?hend
          case ha => rfl
          case hMC => exact fun bs vs Y h => h.below
          case hMg => exact fun bs vs Y Z h hC => h.grow hC.to
          case h0 => exact fun vs _ => ⟨Q0.out.big, Q0.out.old, Q0.out.odd, Q0.out.low, fun e => by (cases e), Q0.out.sig0, fun e => by (cases e), fun e => by (cases e)⟩
          case hq =>
            intro Y hY
            have c8 := cell_regrown (PC.out Y hY 8 (.int .i64 q.sh) rfl)
            have HRG := Lib.hid (show ∀ W', (∃ z : Regrown, W' = Sort.grow (redrawn Y z.d) z.os) → ∀ (j : Nat) v, (raw8 q.r)[j]? = some v → W'.cell? ⟨b, off + i * 9 + j, none⟩ = some v by
              rintro W' ⟨z, rfl⟩ j v hv
              exact PC.out _ (grow hY (below_regrown Y z.d z.os)) j v (by unfold cyv; rw [List.getElem?_append_left (List.getElem?_eq_some_iff.1 hv).1]; exact hv))
            clear hY
            simp only [Lt.sel, Lt.putAll, List.map_cons, List.map_nil, List.zip_cons_cons, List.zip_nil_right, List.foldl_cons, List.foldl_nil, Act.put, List.setIfInBounds_toArray, List.set_cons_succ, List.set_cons_zero]
            repeat (first
              | (with_reducible show wpQuiet _ _ _ _ (⟨some 66, _, _, _, _, _⟩ :: _) _
                 refine wpQuiet_loadR rfl _ rfl b (off + i * 9) (raw8 q.r) rfl HRG.out aggR sizeR ?_
                 simp only [Act.put, List.setIfInBounds_toArray, List.set_cons_succ, List.set_cons_zero])
              | go_big_quiet_step (fail))
            exact rfl
          case hw =>
            rintro bs (_ | _ | _ | k) st o hbl hs ho hk hpre vs Y hv hM
            · obtain rfl : 11 = st := by simpa using hs
              obtain rfl := Option.some.inj ho
              match vs, hv, bs, hbl with
              | [x1], _, [y0, y1, y2], _ =>
                obtain rfl : y0 = false := hk
                refine Wr.wp_fn (f := 8) (args := #[.pointer (some ⟨g, 0, none⟩), .agg (raw8 q.r).toArray, .int .i64 q.sh]) (by kernel_rfl) (HCS.out Y S (hM.sig0 rfl).nd) ?_
                rintro e Z ⟨rfl, S', h1, h2, h3⟩
                exact ⟨_, rfl, _, rfl, fun d hd _ => by cases hd; rfl, hM.call h1 h2 h3⟩
            · obtain rfl : 15 = st := by simpa using hs
              obtain rfl := Option.some.inj ho
              match vs, hv, bs, hbl with
              | [x1], _, [y0, y1, y2], _ =>
                obtain rfl : y1 = false := hk
                have HK := Lib.hid (hM.alloc)
                clear hM
                simp only [Lt.putAll, List.zip_cons_cons, List.zip_nil_right, List.foldl_cons, List.foldl_nil, Act.put, List.setIfInBounds_toArray, List.set_cons_succ, List.set_cons_zero]
                unfold Oper.wp
                go_simp
                exact HK.out
            · obtain rfl : 16 = st := by simpa using hs
              obtain rfl := Option.some.inj ho
              match vs, hv, bs, hbl with
              | [x1], _, [y0, y1, y2], _ =>
                obtain rfl : y2 = false := hk
                obtain rfl : y0 = true := hpre 0 11 rfl (by kernel_rfl)
                obtain rfl : y1 = true := hpre 1 15 rfl (by kernel_rfl)
                obtain ⟨ga, hg1, hg2, hg3⟩ := hM.box rfl
                obtain rfl : x1 = .pointer (some ⟨ga, 0, none⟩) := hg1
                have hz : VRow Y ga 37 zres := hg3
                refine wp_store_row 37 (.tmp 10) (.tmp 73) rfl ga rs.toArray rfl rfl 37 zres.toArray hz (by simpa [HRL.out] using sizeS) (by simp [HRL.out, zres]) HR1.out ?_
                exact ⟨undef, rfl, fun d hd => by (cases hd), hM.store rfl⟩
            · simp at hs
          case hend =>
            intro vs Y hv hM
            match vs, hv with
            | [x1], _ =>
              obtain ⟨ga, hg1, hg2, hg3⟩ := hM.box rfl
              obtain rfl : x1 = .pointer (some ⟨ga, 0, none⟩) := hg1
              obtain ⟨S', n1, n2⟩ := hM.sig1 rfl
              have R3 := Lib.hid (show VRow Y ga 37 rs from hg3)
              have D3 := Lib.hid n1
              have NS := Lib.hid (n2 rfl ga rfl)
              have NT := Lib.hid (show ¬ T ga from fun z => by have := P.out.rs.lt ga z; omega)
              have GA := Lib.hid (show w.heap.size + 1 ≤ ga from Nat.le_trans P.out.nd.big hg2)
              clear hg3 n1 n2 hM Q0 HCS HR1 HRL hg2
              simp only [Lt.putAll, List.zip_cons_cons, List.zip_nil_right, List.foldl_cons, List.foldl_nil, Act.put, List.setIfInBounds_toArray, List.set_cons_succ, List.set_cons_zero]
              have hN4 : NN c ≤ 4 := by have := NN_34 HR.out; omega
              have hEN : G c 0 = (NN c : Int) := (NN_eq HR.out).symm
              have OKs := Lib.hid P.out.nd.ok
              have VTs := Lib.hid P.out.nd.votes
              clear P
              go_upto_region 14 with fail
              refine Lt.wp_region_box (aF := ?_) 13 11 214 12 83 46 (raw8 fun _ => rw0) (raw8 (uptq q.r (jq (NN c) q.r))) [true, true, true, true, true, true, true, true, true, true, false, false, true] [false, false, false, false, false, false, false, false, false, false, true, false, false] (by kernel_rfl) (by kernel_rfl) (by kernel_rfl) rfl (by decide) rfl rfl ?_ sizeRr rfl (raw8_one _) ?_ ?_ ?_
              case refine_2 => intro Z; kernel_rfl
              case refine_3 =>
                intro Z hZ
                have hwZ := grow D3.out.nd.below hZ
                have k0 := (D3.out.nd.cfg.on hZ).at HC.out 0 (by omega)
                rw [hEN] at k0
                replace k0 := cell_regrown k0
                have HRG := Lib.hid (show ∀ W', (∃ z : Regrown, W' = Sort.grow (redrawn Z z.d) z.os) → ∀ (j : Nat) v, (cyv q)[j]? = some v → W'.cell? ⟨b, off + i * 9 + j, none⟩ = some v by
                  rintro W' ⟨z, rfl⟩ j v hv
                  exact PC.out _ (grow hwZ (below_regrown Z z.d z.os)) j v hv)
                have cN := reg_call (w := Z) (fun W _ => raws_at (NN c) q W hN4)
                clear hwZ hZ
                simp only [List.take_succ_cons, List.take_zero, Lt.sel]
                repeat (first
                  | (with_reducible show wpQuiet _ _ _ _ (⟨some 81, _, _, _, _, _⟩ :: _) _
                     refine wpQuiet_loadR rfl _ rfl b (off + i * 9) (cyv q) rfl HRG.out aggCy sizeCy ?_
                     simp only [Act.put, List.setIfInBounds_toArray, List.set_cons_succ, List.set_cons_zero])
                  | go_big_quiet_step (exact cN _ _))
                exact rfl
              case refine_4 => kernel_rfl
              case refine_5 =>
                intro g12 Z kp
                have D4 := Lib.hid (D3.out.on kp.below)
                have R4 := Lib.hid (R3.out.below kp.below R3.out.lt)
                have K4 := Lib.hid (show VRow Z g12 46 (raw8 (uptq q.r (jq (NN c) q.r))) from kp.row)
                have hgeq := kp.ge
                have G12 := Lib.hid (show w.heap.size + 1 ≤ g12 ∧ ¬ S' g12 ∧ ¬ T g12 from ⟨Nat.le_trans D3.out.nd.big hgeq, fun z => by have := F.lt D3.out.nd.held g12 z; omega, fun z => by have := D3.out.rs.lt g12 z; omega⟩)
                clear D3 R3 kp hgeq
                simp only [List.drop_succ_cons, List.drop_zero, Act.put, List.setIfInBounds_toArray, List.set_cons_succ, List.set_cons_zero]
                have HOI := Lib.hid (okr_iff (c := c) (p := q) hN4)
                have HJQ := Lib.hid (fun (h : rokq (NN c) q.r 4 = true) => (show raw8 (uptq q.r (jq (NN c) q.r)) = raw8 q.r by rw [jq_all h, uptq_all]))
                have hbq : (rokq (NN c) q.r 4 && (decide (0 ≤ q.sh) && decide (q.sh ≤ 15))) = true → rokq (NN c) q.r 4 = true := fun h => (Bool.and_eq_true _ _ ▸ h).1
                have HBQ := Lib.hid hbq
                clear hbq
                generalize (rokq (NN c) q.r 4 && (decide (0 ≤ q.sh) && decide (q.sh ≤ 15))) = ok at *
                cases ok
                · rcases HCA.out with ⟨hno, rfl, rfl, rfl⟩ | ⟨hok, -⟩
                  · clear HCA HOI HJQ HBQ hno
                    have EZ : ∀ W, _ := fun W => eq_zres W
                    rw [show (zres.toArray : Array Value) = #[.int .i64 0, .int .i64 0, .int .i64 0, .int .i64 0, .bool false, .int .i64 0, .int .i64 0, .int .i64 0, .int .i64 0, .int .i64 0, .int .i64 0, .int .i64 0, .int .i64 0] from rfl] at EZ
                    go_upto_region 15 with fail
                    go_wp2_with ((with_reducible show wpList _ _ _ (⟨some 90, _, _, _, _, _⟩ :: _) _ _); refine loadMidW rfl _ _ rfl ga 0 rfl _ _ (range_part R4.out 0 zres rfl) Tryz.underlying37 rfl sizeRz ?_; rw [show (zres.toArray : Array Value) = #[.int .i64 0, .int .i64 0, .int .i64 0, .int .i64 0, .bool false, .int .i64 0, .int .i64 0, .int .i64 0, .int .i64 0, .int .i64 0, .int .i64 0, .int .i64 0, .int .i64 0] from rfl])
                    go_roundg (m - i - 1)
                    case rel => exact ⟨i + 1, _, S', T, by have := HI.out; omega, by go_num, Lib.hid D4.out.none⟩
                    case measure => have := HI.out; omega
                  · exact absurd (HOI.out.2 hok) (by simp)
                · rcases HCA.out with ⟨hno, -⟩ | ⟨hok, rfl, rfl, rfl⟩
                  · exact absurd (HOI.out.1 rfl) hno
                  · have HOK := Lib.hid hok
                    rw [HJQ.out (HBQ.out rfl)] at K4
                    clear HCA HOI HJQ HBQ hok
                    go_upto_region 18 with fail
                    have HCT := Lib.hid (fun (W : World) (H : RS W T p c s) => rstep_all (r := q.r) (sh := q.sh) H HC.out HR.out OKs.out HOK.out (fun j hj => by have := D4.out.few j hj; have := HI.out; have := H120.out; omega) (by have := VTs.out; have := HI.out; have := H120.out; omega))
                    have Q1 := Lib.hid (show Dq c s (nxt c s q.r q.sh) T p (res c s q.r q.sh) 49 Z false false false undef Z from ⟨But.refl _ _, fun j hj => D4.out.rs.lt j hj, fun e => by (cases e), fun _ => D4.out.rs, fun e => by (cases e), fun e => by (cases e)⟩)
                    have sS18 : (Tryz.prog.info? 49).map (·.size) = some 13 := by kernel_rfl
                    have HRO := Lib.hid (res_one c s q.r q.sh)
                    have HRL := Lib.hid (show (res c s q.r q.sh).length = 13 from rfl)
                    have SameAny : ∀ W, _ := fun W => psame_any (val c s q.r q.sh) (inm c s q.r q.sh) (lam c (nxt c s q.r q.sh)) (sus c s q.r q.sh) (!any c s q.r q.sh) (tri c s q.r q.sh 0) (tri c s q.r q.sh 1) (tri c s q.r q.sh 2) (tri c s q.r q.sh 3) (evi c s q.r q.sh 0) (evi c s q.r q.sh 1) (evi c s q.r q.sh 2) (evi c s q.r q.sh 3) W
                    rw [show r13 (val c s q.r q.sh) (inm c s q.r q.sh) (lam c (nxt c s q.r q.sh)) (sus c s q.r q.sh) (!any c s q.r q.sh) (tri c s q.r q.sh 0) (tri c s q.r q.sh 1) (tri c s q.r q.sh 2) (tri c s q.r q.sh 3) (evi c s q.r q.sh 0) (evi c s q.r q.sh 1) (evi c s q.r q.sh 2) (evi c s q.r q.sh 3) = res c s q.r q.sh from rfl] at SameAny
                    generalize res c s q.r q.sh = rs at *
                    refine Ws.wp_sets (aF := ?_) [14] [7, 8, 9] 214 [true, true, true, true, true, true, true, false, false, false] [(101, .agg rs.toArray), (14, undef)]
                      (fun bs vs Y => Dq c s (nxt c s q.r q.sh) T p rs 49 Z (bs.getD 0 false) (bs.getD 1 false) (bs.getD 2 false) (vs.getD 0 undef) Y)
                      (fun Y => But T Z Y)
                      (by kernel_rfl) (by kernel_rfl) (by kernel_rfl) (by kernel_rfl) ?ha ?hMC ?hMg ?h0 ?hq ?hw ?hend
                    case ha => rfl
                    case hMC => exact fun bs vs Y h => h.but
                    case hMg => exact fun bs vs Y Z h hC => h.grow hC.to
                    case h0 => exact fun vs _ => ⟨Q1.out.but, Q1.out.odd, fun e => by (cases e), Q1.out.sig0, fun e => by (cases e), fun e => by (cases e)⟩
                    case hq =>
                      intro Y hY
                      have hB := But.below D4.out.nd.below hY D4.out.nd.below.size (fun j hj => by have := D4.out.new j hj; omega)
                      have hK := K4.out.but hY G12.out.2.2
                      have c8 := cell_regrown (PC.out Y hB 8 (.int .i64 q.sh) rfl)
                      have HRG := Lib.hid (show ∀ W', (∃ z : Regrown, W' = Sort.grow (redrawn Y z.d) z.os) → ∀ (j : Nat) v, (raw8 q.r)[j]? = some v → W'.cell? ⟨g12, 0 + j, none⟩ = some v by
                        rintro W' ⟨z, rfl⟩ j v hv
                        rw [Nat.zero_add]
                        exact VRow.cell (hK.below (below_regrown Y z.d z.os) hK.lt) j hv)
                      clear hY hB hK
                      simp only [Lt.sel, Lt.putAll, List.map_cons, List.map_nil, List.zip_cons_cons, List.zip_nil_right, List.foldl_cons, List.foldl_nil, Act.put, List.setIfInBounds_toArray, List.set_cons_succ, List.set_cons_zero]
                      repeat (first
                        | (with_reducible show wpQuiet _ _ _ _ (⟨some 95, _, _, _, _, _⟩ :: _) _
                           refine wpQuiet_loadR rfl _ rfl g12 0 (raw8 q.r) rfl HRG.out aggRr sizeRr ?_
                           simp only [Act.put, List.setIfInBounds_toArray, List.set_cons_succ, List.set_cons_zero])
                        | go_big_quiet_step (fail))
                      exact rfl
                    case hw =>
                      rintro bs (_ | _ | _ | k) st o hbl hs ho hk hpre vs Y hv hM
                      · obtain rfl : 7 = st := by simpa using hs
                        obtain rfl := Option.some.inj ho
                        match vs, hv, bs, hbl with
                        | [x1], _, [y0, y1, y2], _ =>
                          obtain rfl : y0 = false := hk
                          refine Wr.wp_fn (f := 10) (args := #[.pointer (some ⟨p.g, 0, none⟩), .agg (raw8 q.r).toArray, .int .i64 q.sh]) (by kernel_rfl) (HCT.out Y (hM.sig0 rfl)) ?_
                          rintro e Z' ⟨rfl, ⟨T', h1, h2⟩, h3⟩
                          exact ⟨_, rfl, _, rfl, fun d hd _ => by cases hd; rfl, hM.call h1 h3 h2⟩
                      · obtain rfl : 8 = st := by simpa using hs
                        obtain rfl := Option.some.inj ho
                        match vs, hv, bs, hbl with
                        | [x1], _, [y0, y1, y2], _ =>
                          obtain rfl : y1 = false := hk
                          have HK := Lib.hid (hM.alloc)
                          clear hM
                          simp only [Lt.putAll, List.zip_cons_cons, List.zip_nil_right, List.foldl_cons, List.foldl_nil, Act.put, List.setIfInBounds_toArray, List.set_cons_succ, List.set_cons_zero]
                          unfold Oper.wp
                          go_simp
                          exact HK.out
                      · obtain rfl : 9 = st := by simpa using hs
                        obtain rfl := Option.some.inj ho
                        match vs, hv, bs, hbl with
                        | [x1], _, [y0, y1, y2], _ =>
                          obtain rfl : y2 = false := hk
                          obtain rfl : y0 = true := hpre 0 7 rfl (by kernel_rfl)
                          obtain rfl : y1 = true := hpre 1 8 rfl (by kernel_rfl)
                          obtain ⟨gb, hg1, hg2, hg3⟩ := hM.box rfl
                          obtain rfl : x1 = .pointer (some ⟨gb, 0, none⟩) := hg1
                          have hz : VRow Y gb 49 zres := hg3
                          refine wp_store_row 49 (.tmp 14) (.tmp 101) rfl gb rs.toArray rfl rfl 49 zres.toArray hz (by simpa [HRL.out] using sS18) (by simp [HRL.out, zres]) HRO.out ?_
                          exact ⟨undef, rfl, fun d hd => by (cases hd), hM.store rfl⟩
                      · simp at hs
                    case hend =>
                      intro vs Y hv hM
                      match vs, hv with
                      | [x1], _ =>
                        obtain ⟨gb, hg1, hg2, hg3⟩ := hM.box rfl
                        obtain rfl : x1 = .pointer (some ⟨gb, 0, none⟩) := hg1
                        obtain ⟨T', n1, n2, -⟩ := hM.sig1 rfl
                        have S5 := Lib.hid (show VRow Y gb 49 rs from hg3)
                        have R5 := Lib.hid (R4.out.but hM.but NT.out)
                        have D5 := Lib.hid (D4.out.step n1 hM.but n2)
                        clear hg3 n1 n2 hM Q1 HCT D4 R4 K4 G12 HRO NS NT OKs VTs HOK hg2
                        simp only [Lt.putAll, List.zip_cons_cons, List.zip_nil_right, List.foldl_cons, List.foldl_nil, Act.put, List.setIfInBounds_toArray, List.set_cons_succ, List.set_cons_zero]
                        clear GA
                        generalize nxt c s q.r q.sh = s2 at *
                        go_upto_region 20 with (first
                          | ((with_reducible show wpList _ _ _ (⟨some 102, _, _, _, _, _⟩ :: _) _ _); refine loadMidW rfl _ _ rfl ga 0 rfl _ _ (range_part R5.out 0 rs (by simp)) Tryz.underlying37 rfl (by rw [HRL.out]; exact sizeRz) ?_)
                          | ((with_reducible show wpList _ _ _ (⟨some 103, _, _, _, _, _⟩ :: _) _ _); refine loadMidW rfl _ _ rfl gb 0 rfl _ _ (range_part S5.out 0 rs (by simp)) Tryz.underlying49 rfl (by rw [HRL.out]; exact sS18) ?_)
                          | (go_at_call 11; refine (SameAny _).mono ?_; rintro e Y1 ⟨rfl, q1⟩; have D6 := Lib.hid (D5.out.on q1); clear q1 D5 R5 S5))
                        obtain ⟨cap9, cm9, hs9, -⟩ := D6.out.rs.sig
                        have H22 := cell_regrown (VRow.cell hs9 22 (rsg_value HC.out))
                        have cV := reg_call (w := Y1) (fun W B => F.value (F.on D6.out.nd.held B))
                        have cL := reg_call (w := Y1) (fun W B => F.latched (F.on D6.out.nd.held B) HR.out)
                        have cR := reg_call (w := Y1) (fun W B => (by have h := rlatched_any W HC.out (hs9.below B hs9.lt); rw [la_sq] at h; exact h : Calls Tryz.prog 14 #[.pointer (some ⟨p.g, 0, none⟩)] W fun e w' => e = .returned (.int .i64 (lam c s2)) ∧ Below W.heap.size W w'))
                        clear hs9
                        refine wp_region_quiet_below (by kernel_rfl) (by kernel_rfl) ?_
                        repeat (go_big_quiet_step (first | exact cV _ _ | exact cL _ _ | exact cR _ _))
                        refine wpQuiet_nil ?_
                        intro _ hw'
                        obtain ⟨⟨dq, osq⟩, hw''⟩ := hw'
                        subst hw''
                        have D7 := Lib.hid (D6.out.on (below_regrown Y1 dq osq))
                        clear H22 cV cL cR D6 SameAny
                        generalize Sort.grow (redrawn Y1 dq) osq = Y2 at *
                        go_wp2_with fail
                        go_loopg [16] 6 (fun gg s16 wr => ∃ (k : Nat), k + gg = 6 ∧ s16 = .int .i64 ((k : Int) - 1) ∧ Hid (Pd F w wr c S' g s2 T' p (i + 1)))
                        case atStart => exact ⟨0, by omega, by go_num, D7⟩
                        case round =>
                          rename World => Y3
                          obtain ⟨k, hk, rfl, D8⟩ := hrel
                          have HK := Lib.hid hk
                          clear hk D7
                          by_cases hk6 : k < 6
                          · have hx4 : (k : Int) - 1 ≤ 4 := by omega
                            by_cases hin : 1 ≤ k ∧ k - 1 < NN c
                            · obtain ⟨j, rfl⟩ : ∃ j, k = j + 1 := ⟨k - 1, by omega⟩
                              have hj : j < NN c := by omega
                              have ej : ((j + 1 : Nat) : Int) - 1 = (j : Int) := by omega
                              rw [ej] at hx4
                              rw [ej]
                              clear hin ej hk6
                              go_upto_region 26 with (first
                                | (go_at_call 15; refine (F.state_yes j D8.out.nd.held HR.out hj).mono ?_; rintro e v3 ⟨rfl, q3⟩; have D9 := Lib.hid (D8.out.on q3); have V3 := Lib.hid (VRow.new v3 (lav Lc.zer) 62); have V4 := Lib.hid (show VRow ((v3.alloc (.cells #[.bool false, .bool false, .int .i64 0, .int .i64 0, .int .i64 0] 62)).setRow v3.heap.size (lav (s2.ch j).st).toArray) v3.heap.size 62 (lav (s2.ch j).st) from VRow.put (VRow.new v3 (lav Lc.zer) 62) (lav (s2.ch j).st)); have D10 := Lib.hid (show Pd F w ((v3.alloc (.cells #[.bool false, .bool false, .int .i64 0, .int .i64 0, .int .i64 0] 62)).setRow v3.heap.size (lav (s2.ch j).st).toArray) c S' g s2 T' p (i + 1) from D9.out.on (Below.put ((Below.refl v3.heap.size v3).alloc (Nat.le_refl _) (.cells (lav Lc.zer).toArray 62)) (Nat.le_refl _) (lav (s2.ch j).st).toArray)); clear q3 D9)
                                | ((with_reducible show wpList _ _ _ (⟨none, .store _ (.tmp 17) _, _, _, _, _⟩ :: _) _ _); refine VB.store rfl _ _ rfl v3.heap.size (lav (s2.ch j).st) rfl rfl V3.out sizeL' rfl (lav_one' _) ?_; generalize ((v3.alloc (.cells #[.bool false, .bool false, .int .i64 0, .int .i64 0, .int .i64 0] 62)).setRow v3.heap.size (lav (s2.ch j).st).toArray) = v4 at *))
                              clear D8 V3
                              have k0 := D10.out.nd.cfg.at HC.out 0 (by omega)
                              rw [hEN] at k0
                              replace k0 := cell_regrown k0
                              have hj0 : (0 : Int) ≤ (j : Int) := by omega
                              have hjN : (j : Int) < (NN c : Int) := by omega
                              have hj4 : (j : Int) < 4 := by omega
                              have HST := Lib.hid (show ∀ W', (∃ z : Regrown, W' = Sort.grow (redrawn v4 z.d) z.os) → ∀ (n : Nat) v, (lav (s2.ch j).st)[n]? = some v → W'.cell? ⟨v3.heap.size, 0 + n, none⟩ = some v by
                                rintro W' ⟨z, rfl⟩ n v hv
                                rw [Nat.zero_add]
                                exact VRow.cell (V4.out.below (below_regrown v4 z.d z.os) V4.out.lt) n hv)
                              have HRT := Lib.hid (show ∀ W', (∃ z : Regrown, W' = Sort.grow (redrawn v4 z.d) z.os) → ∀ (n : Nat) v, (lav (s2.ch j).st)[n]? = some v → W'.cell? ⟨p.g, 36 + j * 5 + n, none⟩ = some v by
                                rintro W' ⟨z, rfl⟩ n v hv
                                exact RX.stc (RX.on D10.out.rs (below_regrown v4 z.d z.os)) HC.out hj hN4 n v hv)
                              have o0 := cell_regrown (RX.ofc D10.out.rs HC.out hj hN4)
                              have cP := reg_call (w := v4) (fun W _ => pstate_any (s2.ch j).st W)
                              have cO := reg_call (w := v4) (fun W B => F.offset_yes j (F.on D10.out.nd.held B) HR.out hj)
                              have EL := fun W => eq_lavr (s2.ch j).st W
                              refine wp_region_quiet_below (by kernel_rfl) (by kernel_rfl) ?_
                              repeat (first
                                | (with_reducible show wpQuiet _ _ _ _ (⟨some 150, _, _, _, _, _⟩ :: _) _
                                   refine wpQuiet_loadR rfl _ rfl v3.heap.size 0 (lav (s2.ch j).st) rfl HST.out (fun w => by simp [isAgg, run_underlying Tryz.underlying62]) sizeL ?_
                                   simp only [Act.put, List.setIfInBounds_toArray, List.set_cons_succ, List.set_cons_zero])
                                | (with_reducible show wpQuiet _ _ _ _ (⟨some 157, _, _, _, _, _⟩ :: _) _
                                   refine wpQuiet_loadR rfl _ rfl p.g (36 + j * 5) (lav (s2.ch j).st) rfl HRT.out (fun w => by simp [isAgg, run_underlying Tryz.underlying58]) sizeSr5 ?_
                                   simp only [Act.put, List.setIfInBounds_toArray, List.set_cons_succ, List.set_cons_zero])
                                | go_big_quiet_step (first | exact cP _ _ | exact cO _ _))
                              refine wpQuiet_nil ?_
                              intro _ hw'
                              obtain ⟨⟨dq2, osq2⟩, hw''⟩ := hw'
                              subst hw''
                              have D11 := Lib.hid (D10.out.on (below_regrown v4 dq2 osq2))
                              clear k0 D10 V4
                              generalize Sort.grow (redrawn v4 dq2) osq2 = Y4 at *
                              go_wp2_with fail
                              go_roundg (gk - 1)
                              case rel => exact ⟨j + 1 + 1, by have := HK.out; omega, by go_num, D11⟩
                              case measure => have := HK.out; omega
                            · have hno : ((k : Int) - 1 < 0 ∨ (NN c : Int) ≤ (k : Int) - 1) := by omega
                              clear hin hk6
                              obtain ⟨x, hx⟩ : ∃ x : Int, x = (k : Int) - 1 := ⟨_, rfl⟩
                              rw [← hx] at hno hx4
                              rw [← hx]
                              have HX := Lib.hid hx
                              clear hx
                              by_cases hx0 : (0 : Int) ≤ x
                              · have hxN : ¬ x < (NN c : Int) := by omega
                                go_upto_region 26 with (first
                                  | (go_at_call 15; refine (F.state_no x D8.out.nd.held HR.out hno).mono ?_; rintro e v3 ⟨rfl, q3⟩; have D9 := Lib.hid (D8.out.on q3); have V3 := Lib.hid (VRow.new v3 (lav Lc.zer) 62); have V4 := Lib.hid (show VRow ((v3.alloc (.cells #[.bool false, .bool false, .int .i64 0, .int .i64 0, .int .i64 0] 62)).setRow v3.heap.size (lav Lc.zer).toArray) v3.heap.size 62 (lav Lc.zer) from VRow.put (VRow.new v3 (lav Lc.zer) 62) (lav Lc.zer)); have D10 := Lib.hid (show Pd F w ((v3.alloc (.cells #[.bool false, .bool false, .int .i64 0, .int .i64 0, .int .i64 0] 62)).setRow v3.heap.size (lav Lc.zer).toArray) c S' g s2 T' p (i + 1) from D9.out.on (Below.put ((Below.refl v3.heap.size v3).alloc (Nat.le_refl _) (.cells (lav Lc.zer).toArray 62)) (Nat.le_refl _) (lav Lc.zer).toArray)); clear q3 D9)
                                  | ((with_reducible show wpList _ _ _ (⟨none, .store _ (.tmp 17) _, _, _, _, _⟩ :: _) _ _); refine VB.store rfl _ _ rfl v3.heap.size (lav Lc.zer) rfl rfl V3.out sizeL' rfl (lav_one' _) ?_; generalize ((v3.alloc (.cells #[.bool false, .bool false, .int .i64 0, .int .i64 0, .int .i64 0] 62)).setRow v3.heap.size (lav Lc.zer).toArray) = v4 at *))
                                clear D8 V3
                                have k0 := D10.out.nd.cfg.at HC.out 0 (by omega)
                                rw [hEN] at k0
                                replace k0 := cell_regrown k0
                                have d0 : decide ((0 : Int) ≤ x) = true := by simp; omega
                                have dN : decide (x < (NN c : Int)) = false := by simp; omega
                                have cO := reg_call (w := v4) (fun W B => F.offset_no x (F.on D10.out.nd.held B) HR.out hno)
                                refine wp_region_quiet_below (by kernel_rfl) (by kernel_rfl) ?_
                                repeat (first | go_big_quiet_step (exact cO _ _) | (simp only [d0]; go_big_quiet_step (exact cO _ _)) | (simp only [dN]; go_big_quiet_step (exact cO _ _)))
                                refine wpQuiet_nil ?_
                                intro _ hw'
                                obtain ⟨⟨dq2, osq2⟩, hw''⟩ := hw'
                                subst hw''
                                have D11 := Lib.hid (D10.out.on (below_regrown v4 dq2 osq2))
                                clear k0 D10 V4
                                generalize Sort.grow (redrawn v4 dq2) osq2 = Y4 at *
                                go_wp2_with fail
                                go_roundg (gk - 1)
                                case rel =>
                                  have e : x + 1 = ((k + 1 : Nat) : Int) - 1 := by have := HX.out; omega
                                  have hl : -1 ≤ x := by have := HX.out; omega
                                  exact ⟨k + 1, by have := HK.out; have := HX.out; omega, by first | exact congrArg _ e | (rw [← e]; go_num), D11⟩
                                case measure => have := HK.out; have := HX.out; omega
                              · skip
                                go_upto_region 26 with (first
                                  | (go_at_call 15; refine (F.state_no x D8.out.nd.held HR.out hno).mono ?_; rintro e v3 ⟨rfl, q3⟩; have D9 := Lib.hid (D8.out.on q3); have V3 := Lib.hid (VRow.new v3 (lav Lc.zer) 62); have V4 := Lib.hid (show VRow ((v3.alloc (.cells #[.bool false, .bool false, .int .i64 0, .int .i64 0, .int .i64 0] 62)).setRow v3.heap.size (lav Lc.zer).toArray) v3.heap.size 62 (lav Lc.zer) from VRow.put (VRow.new v3 (lav Lc.zer) 62) (lav Lc.zer)); have D10 := Lib.hid (show Pd F w ((v3.alloc (.cells #[.bool false, .bool false, .int .i64 0, .int .i64 0, .int .i64 0] 62)).setRow v3.heap.size (lav Lc.zer).toArray) c S' g s2 T' p (i + 1) from D9.out.on (Below.put ((Below.refl v3.heap.size v3).alloc (Nat.le_refl _) (.cells (lav Lc.zer).toArray 62)) (Nat.le_refl _) (lav Lc.zer).toArray)); clear q3 D9)
                                  | ((with_reducible show wpList _ _ _ (⟨none, .store _ (.tmp 17) _, _, _, _, _⟩ :: _) _ _); refine VB.store rfl _ _ rfl v3.heap.size (lav Lc.zer) rfl rfl V3.out sizeL' rfl (lav_one' _) ?_; generalize ((v3.alloc (.cells #[.bool false, .bool false, .int .i64 0, .int .i64 0, .int .i64 0] 62)).setRow v3.heap.size (lav Lc.zer).toArray) = v4 at *))
                                clear D8 V3
                                have k0 := D10.out.nd.cfg.at HC.out 0 (by omega)
                                rw [hEN] at k0
                                replace k0 := cell_regrown k0
                                have d0 : decide ((0 : Int) ≤ x) = false := by simp; omega
                                have cO := reg_call (w := v4) (fun W B => F.offset_no x (F.on D10.out.nd.held B) HR.out hno)
                                refine wp_region_quiet_below (by kernel_rfl) (by kernel_rfl) ?_
                                repeat (first | go_big_quiet_step (exact cO _ _) | (simp only [d0]; go_big_quiet_step (exact cO _ _)))
                                refine wpQuiet_nil ?_
                                intro _ hw'
                                obtain ⟨⟨dq2, osq2⟩, hw''⟩ := hw'
                                subst hw''
                                have D11 := Lib.hid (D10.out.on (below_regrown v4 dq2 osq2))
                                clear k0 D10 V4
                                generalize Sort.grow (redrawn v4 dq2) osq2 = Y4 at *
                                go_wp2_with fail
                                go_roundg (gk - 1)
                                case rel =>
                                  have e : x + 1 = ((k + 1 : Nat) : Int) - 1 := by have := HX.out; omega
                                  have hl : -1 ≤ x := by have := HX.out; omega
                                  have hm : x = -1 := by have := HX.out; omega
                                  exact ⟨k + 1, by have := HK.out; have := HX.out; omega, by first | exact congrArg _ e | (rw [← e, hm]; first | rfl | go_num | kernel_rfl), D11⟩
                                case measure => have := HK.out; have := HX.out; omega
                          · have hx4 : ¬ (k : Int) - 1 ≤ 4 := by omega
                            go_wp2_with fail
                            go_roundg (m - i - 1)
                            case rel => exact ⟨i + 1, _, S', T', by have := HI.out; omega, by go_num, D8⟩
                            case measure => have := HI.out; omega
        · have hli : ¬ (i : Int) < m := by omega
          have BW := Lib.hid P.out.nd.below
          clear hlt P
          have CN := fun W => step_nil (fun _ => rw0) 0 W
          rw [show (raw8 fun _ => rw0).toArray = #[.bool false, .int .i64 0, .bool false, .int .i64 0, .bool false, .int .i64 0, .bool false, .int .i64 0] from rfl] at CN
          go_upto_region 28 with fail
          go_wp2_with (first
            | (go_at_call 8; refine (CN _).mono ?_; rintro e v1 ⟨rfl, q1⟩; have E1 := Lib.hid (grow BW.out q1); have V1 := Lib.hid (VRow.new v1 zres 37); have F1 := Lib.hid (show Below w.heap.size w ((v1.alloc (.cells #[.int .i64 0, .int .i64 0, .int .i64 0, .int .i64 0, .bool false, .int .i64 0, .int .i64 0, .int .i64 0, .int .i64 0, .int .i64 0, .int .i64 0, .int .i64 0, .int .i64 0] 37)).setRow v1.heap.size zres.toArray) from Below.put (E1.out.alloc E1.out.size (.cells zres.toArray 37)) E1.out.size zres.toArray); clear q1)
            | ((with_reducible show wpList _ _ _ (⟨none, .store _ (.tmp 20) _, _, _, _, _⟩ :: _) _ _); refine VB.store rfl _ _ rfl v1.heap.size zres rfl rfl V1.out sizeRz rfl zres_one ?_; generalize (v1.alloc (.cells #[.int .i64 0, .int .i64 0, .int .i64 0, .int .i64 0, .bool false, .int .i64 0, .int .i64 0, .int .i64 0, .int .i64 0, .int .i64 0, .int .i64 0, .int .i64 0, .int .i64 0] 37)).setRow v1.heap.size zres.toArray = v2 at *)
            | (go_at_call 15; refine (state_nil 0 _).mono ?_; rintro e v3 ⟨rfl, q3⟩; have E3 := Lib.hid (grow F1.out q3); have V3 := Lib.hid (VRow.new v3 (lav Lc.zer) 62); have F3 := Lib.hid (show Below w.heap.size w ((v3.alloc (.cells #[.bool false, .bool false, .int .i64 0, .int .i64 0, .int .i64 0] 62)).setRow v3.heap.size (lav Lc.zer).toArray) from Below.put (E3.out.alloc E3.out.size (.cells (lav Lc.zer).toArray 62)) E3.out.size (lav Lc.zer).toArray); clear q3)
            | ((with_reducible show wpList _ _ _ (⟨none, .store _ (.tmp 22) _, _, _, _, _⟩ :: _) _ _); refine VB.store rfl _ _ rfl v3.heap.size (lav Lc.zer) rfl rfl V3.out sizeL' rfl (lav_one' _) ?_; generalize (v3.alloc (.cells #[.bool false, .bool false, .int .i64 0, .int .i64 0, .int .i64 0] 62)).setRow v3.heap.size (lav Lc.zer).toArray = v4 at *)
            | (go_at_call 4; refine (HA _).mono ?_; rintro e v5 ⟨rfl, q5⟩; have F5 := Lib.hid (grow F3.out q5); clear q5)
            | (go_at_call 12; refine (value_nil _).mono ?_; rintro e v6 ⟨rfl, q6⟩; have F6 := Lib.hid (grow F5.out q6); clear q6)
            | (go_at_call 13; refine (latched_nil _).mono ?_; rintro e v7 ⟨rfl, q7⟩; have F7 := Lib.hid (grow F6.out q7); clear q7)
            | (go_at_call 17; refine (offset_nil 0 _).mono ?_; rintro e v8 ⟨rfl, q8⟩; have F8 := Lib.hid (grow F7.out q8); clear q8))
          go_ret
          exact ⟨rfl, F8.out⟩
    · have NY := fun W => F.new_no c W hc hR
      have hrt : Cf.rt c = false := by
        cases h : Cf.rt c
        · rfl
        · exact absurd (of_decide_eq_true h) hR
      rw [hrt] at RM
      clear hl h120 hc hR hrt
      generalize l.length = m at *
      go_enter Tryz.func3, Tryz.ntmps3
      go_wp2_with ((with_reducible show wpList _ _ _ (⟨some 29, _, _, _, _, _⟩ :: _) _ _); refine Cf.wpList_loadC rfl _ rfl w.heap.size c rfl X0.out HC.out ?_)
      refine (NY _).mono ?_; rintro e w1 ⟨rfl, b1⟩
      have B1 := Lib.hid (grow B0.out b1)
      have X1 := Lib.hid (X0.out.on b1)
      clear b1 NY B0 X0
      go_wp2_with ((with_reducible show wpList _ _ _ (⟨some 33, _, _, _, _, _⟩ :: _) _ _); refine Cf.wpList_loadC rfl _ rfl w.heap.size c rfl X1.out HC.out ?_)
      refine (RM _).mono ?_; rintro e w2 ⟨rfl, b2⟩
      have B2 := Lib.hid (grow B1.out b2)
      clear b2 RM B1 X1
      go_wp2_with fail
      refine (HA _).mono ?_; rintro e w3 ⟨rfl, b3⟩
      have B3 := Lib.hid (grow B2.out b3)
      clear b3 B2
      go_wp2_with fail
      go_ret
      exact ⟨rfl, B3.out⟩
end Sg
end Go.Proofs.YtacclmfbkiadbaaGreat
