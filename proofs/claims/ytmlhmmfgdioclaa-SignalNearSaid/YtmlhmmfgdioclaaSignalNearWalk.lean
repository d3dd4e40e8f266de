/-
  SignalNear, walked over whatever package signal's contracts are: for all configurations and cycles it returns true, and writes nothing that was there. Conditions: how the cycles lie.
-/
import Derived.Test.YtmlhmmfgdioclaaJConfigRows5
import Derived.Test.YtmlhmmfgdioclaaJSetWrites2
import Derived.Test.YtmlhmmfgdioclaaJTail3
import Derived.Lib.MinMax
import Derived.Test.YtmlhmmfgdioclaaJFlat3
import Derived.Deep.LoopGhost
import Derived.Deep.DeepCutAuto
import Derived.Deep.CutBlock
import Derived.Deep.RegionLaw
namespace Go.Proofs.Ytmlhmmfgdioclaa
set_option maxRecDepth 100000
open Go.ChangeShapes Go.WideShapes Go.ChangeAt Go.RowKit Go.Deep
namespace Sg
open Cf (G CA Box)

/-- A cycle, as it is handed in. -/
structure Cyc where
  r : Nat → Rw
  sh : Int
def cyv (p : Cyc) : List Value := raw8 p.r ++ [.int .i64 p.sh]
def CycsAt (w : World) (a : Option Addr) (l : List Cyc) : Prop := 0 < l.length → ∃ b off, a = some ⟨b, off, none⟩ ∧ ∀ (i : Nat) p, l[i]? = some p → ∀ (j : Nat) v, (cyv p)[j]? = some v → w.cell? ⟨b, off + i * 9 + j, none⟩ = some v
theorem CycsAt.on {w W : World} {a : Option Addr} {l : List Cyc} (h : CycsAt w a l) (B : Below w.heap.size w W) : CycsAt W a l := fun hp => by
  obtain ⟨b, off, e, k⟩ := h hp
  exact ⟨b, off, e, fun i p hi j v hv => (B.cell (p := ⟨b, off + i * 9 + j, none⟩) (cell_lt (k i p hi j v hv))).trans (k i p hi j v hv)⟩
/-- The box of the configuration, and the signal, while the law goes on. -/
structure Nd (F : Face) (w W : World) (c : List Int) (S : Nat → Prop) (g : Nat) (s : Si) (k : Nat) : Prop where
  below : Below w.heap.size w W
  held : F.At W S g c s
  new : ∀ j, S j → w.heap.size + 1 ≤ j
  big : w.heap.size + 1 ≤ W.heap.size
  ok : Ok c s
  cfg : Box W w.heap.size c
  votes : s.votes.length ≤ k
section
variable {F : Face} {w W W' : World} {c : List Int} {S S' : Nat → Prop} {g : Nat} {s s' : Si} {k : Nat}
theorem Nd.on (H : Nd F w W c S g s k) (b : Below W.heap.size W W') : Nd F w W' c S g s k :=
  ⟨grow H.below b, F.on H.held b, H.new, Nat.le_trans H.big b.size, H.ok, H.cfg.on b, H.votes⟩
theorem Nd.more (H : Nd F w W c S g s k) : Nd F w W c S g s (k + 1) := ⟨H.below, H.held, H.new, H.big, H.ok, H.cfg, by have := H.votes; omega⟩
theorem Nd.step {r : Nat → Rw} {sh : Int} (hR : Cf.Right c) (hr : Rok c r) (H : Nd F w W c S g s k) (h : F.At W' S' g c (nxt c s r sh)) (b : But S W W') (m : ∀ j, S' j → S j ∨ W.heap.size ≤ j) :
    Nd F w W' c S' g (nxt c s r sh) (k + 1) :=
  ⟨But.below H.below b H.below.size (fun i hi => by have := H.new i hi; omega), h, fun j hj => (m j hj).elim (H.new j) (fun q => Nat.le_trans H.big q), Nat.le_trans H.big b.size, ok_nxt hR hr H.ok,
    VRow.but (show VRow W w.heap.size 24 (cellsI .i64 c) from H.cfg) b (fun q => by have := H.new _ q; omega), by have := H.votes; simp [nxt]; exact this⟩
theorem Nd.lay (H : Nd F w W c S g s k) (cs cs' : List Value) (t : TypeId) : Nd F w ((W.alloc (.cells cs.toArray t)).setRow W.heap.size cs'.toArray) c S g s k ∧ VRow ((W.alloc (.cells cs.toArray t)).setRow W.heap.size cs'.toArray) W.heap.size t cs' ∧ Below W.heap.size W ((W.alloc (.cells cs.toArray t)).setRow W.heap.size cs'.toArray) := by
  have b : Below W.heap.size W ((W.alloc (.cells cs.toArray t)).setRow W.heap.size cs'.toArray) := Below.put ((Below.refl _ _).alloc (Nat.le_refl _) _) (Nat.le_refl _) _
  exact ⟨H.on b, VRow.put (VRow.new W cs t) cs', b⟩
end

/-! The region of a step: the call, the box of what it tells, the store, the first two in whatever order. -/
section
variable {F : Face} {w : World} {c : List Int} {S : Nat → Prop} {g : Nat} {s s' : Si} {i n1 : Nat} {rs : List Value} {T : TypeId} {x y z : Bool} {v : Value} {Y Z : World}
structure Sp (F : Face) (w : World) (c : List Int) (S : Nat → Prop) (g : Nat) (s s' : Si) (i n1 : Nat) (rs : List Value) (T : TypeId) (x y z : Bool) (v : Value) (Y : World) : Prop where
  big : n1 ≤ Y.heap.size
  old : ∀ j, S j → j < n1
  low : w.heap.size + 1 ≤ n1
  ord : z = true → x = true ∧ y = true
  sig0 : x = false → Nd F w Y c S g s i
  sig1 : x = true → ∃ S', Nd F w Y c S' g s' (i + 1) ∧ (y = true → ∀ ga, v = .pointer (some ⟨ga, 0, none⟩) → ¬ S' ga)
  box : y = true → ∃ ga, v = .pointer (some ⟨ga, 0, none⟩) ∧ n1 ≤ ga ∧ VRow Y ga T (if z = true then rs else zres)
theorem Sp.below (h : Sp F w c S g s s' i n1 rs T x y z v Y) : Below w.heap.size w Y := by
  cases x
  · exact (h.sig0 rfl).below
  · obtain ⟨S', h, -⟩ := h.sig1 rfl
    exact h.below
theorem Sp.grow (h : Sp F w c S g s s' i n1 rs T x y z v Y) (b : Below Y.heap.size Y Z) : Sp F w c S g s s' i n1 rs T x y z v Z :=
  ⟨Nat.le_trans h.big b.size, h.old, h.low, h.ord, fun e => (h.sig0 e).on b, fun e => by obtain ⟨S', h1, h2⟩ := h.sig1 e; exact ⟨S', h1.on b, h2⟩, fun e => by obtain ⟨ga, h1, h2, h3⟩ := h.box e; exact ⟨ga, h1, h2, h3.below b h3.lt⟩⟩
theorem Sp.call {S' : Nat → Prop} (h : Sp F w c S g s s' i n1 rs T false y z v Y) (n : Nd F w Z c S' g s' (i + 1)) (b : But S Y Z) (m : ∀ j, S' j → S j ∨ Y.heap.size ≤ j) : Sp F w c S g s s' i n1 rs T true y z v Z := by
  have hb := b.size
  refine ⟨Nat.le_trans h.big hb, h.old, h.low, fun e => ⟨rfl, (h.ord e).2⟩, fun e => (by cases e), fun _ => ⟨S', n, fun e ga hv q => ?_⟩, fun e => ?_⟩
  · obtain ⟨ga', h1, h2, h3⟩ := h.box e
    rw [hv] at h1
    obtain rfl : ga = ga' := by injection h1 with h1; injection h1 with h1; injection h1
    have hlt := h3.lt
    rcases m ga q with q | q
    · have := h.old ga q; omega
    · omega
  · obtain ⟨ga, h1, h2, h3⟩ := h.box e
    exact ⟨ga, h1, h2, h3.but b fun q => by have := h.old ga q; omega⟩
theorem Sp.alloc (h : Sp F w c S g s s' i n1 rs T x false z v Y) : Sp F w c S g s s' i n1 rs T x true z (.pointer (some ⟨Y.heap.size, 0, none⟩)) (Y.alloc (.cells zres.toArray T)) := by
  obtain rfl : z = false := by
    cases z
    · rfl
    · have := (h.ord rfl).2; cases this
  have b := (Below.refl Y.heap.size Y).alloc (Nat.le_refl _) (.cells zres.toArray T)
  refine ⟨Nat.le_trans h.big b.size, h.old, h.low, fun e => (by cases e), fun e => (h.sig0 e).on b, fun e => ?_, fun _ => ⟨_, rfl, h.big, VRow.new Y zres T⟩⟩
  obtain ⟨S', h1, -⟩ := h.sig1 e
  refine ⟨S', h1.on b, fun _ ga hv q => ?_⟩
  obtain rfl : Y.heap.size = ga := by injection hv with hv; injection hv with hv; injection hv
  have := F.lt h1.held _ q
  omega
theorem Sp.store {ga : Nat} (h : Sp F w c S g s s' i n1 rs T true true z v Y) (hv : v = .pointer (some ⟨ga, 0, none⟩)) : Sp F w c S g s s' i n1 rs T true true true v (Y.setRow ga rs.toArray) := by
  obtain ⟨ga', h1, h2, h3⟩ := h.box rfl
  rw [hv] at h1
  obtain rfl : ga = ga' := by injection h1 with h1; injection h1 with h1; injection h1
  obtain ⟨S', n, h4⟩ := h.sig1 rfl
  have hn := h4 rfl ga hv
  have hlow := h.low
  have b := (But.refl (· = ga) Y).put (Or.inl rfl) rs.toArray
  refine ⟨Nat.le_trans h.big b.size, h.old, h.low, fun _ => ⟨rfl, rfl⟩, fun e => (by cases e), fun _ => ⟨S', ⟨But.below n.below b n.below.size (fun j (e : j = ga) => by omega), F.keep n.held b (fun j hj (e : j = ga) => hn (e ▸ hj)), n.new, Nat.le_trans n.big b.size, n.ok, VRow.but (show VRow Y w.heap.size 24 (cellsI .i64 c) from n.cfg) b (fun (e : w.heap.size = ga) => by omega), n.votes⟩, fun _ ga' hv' q => ?_⟩, fun _ => ⟨ga, hv, h2, ?_⟩⟩
  · rw [hv] at hv'
    obtain rfl : ga = ga' := by injection hv' with h1; injection h1 with h1; injection h1
    exact hn q
  · rw [if_pos rfl]; exact h3.put rs
end
/-- A step, whatever is told. -/
theorem step_any {F : Face} {w : World} {c : List Int} {g : Nat} {s : Si} {i : Nat} (hR : Cf.Right c) (hi : i ≤ 120) (r : Nat → Rw) (sh : Int) : ∃ (rs : List Value) (er : Int) (s' : Si),
    (∀ W S, Nd F w W c S g s i → Calls Try.prog 8 #[.pointer (some ⟨g, 0, none⟩), .agg (raw8 r).toArray, .int .i64 sh] W fun e w' => e = .returned (.tuple #[.agg rs.toArray, .int .i64 er]) ∧ ∃ S', Nd F w w' c S' g s' (i + 1) ∧ But S W w' ∧ ∀ j, S' j → S j ∨ W.heap.size ≤ j) ∧
    rs.length = 13 ∧ rs.toArray.all (·.oneCell') = true ∧ ((er = 1 ∧ s' = s) ∨ (er = 0 ∧ okr c r sh ∧ rs = res c s r sh ∧ s' = nxt c s r sh)) := by
  by_cases hok : okr c r sh
  · refine ⟨res c s r sh, 0, nxt c s r sh, fun W S H => (F.step_yes r sh H.held hR H.ok hok (by have := H.votes; omega)).mono ?_, rfl, res_one c s r sh, Or.inr ⟨rfl, hok, rfl, rfl⟩⟩
    rintro e w' ⟨rfl, S', h1, h2, h3⟩
    exact ⟨rfl, S', Nd.step hR hok.1 H h1 h2 h3, h2, h3⟩
  · refine ⟨zres, 1, s, fun W S H => (F.step_no r sh H.held hR H.ok hok).mono ?_, rfl, by simp [zres, Value.oneCell'], Or.inl ⟨rfl, rfl⟩⟩
    rintro e w' ⟨rfl, b⟩
    exact ⟨rfl, S, (H.on b).more, But.of_below b, fun j hj => Or.inl hj⟩

set_option maxHeartbeats 6400000 in
theorem near_any (F : Face) (HA : ∀ W, Calls Try.prog 5 #[] W fun e w' => e = .returned (.bool true) ∧ Below W.heap.size W w')
    (c : List Int) (a : Option Addr) (l : List Cyc) (cap : Nat) (w : World) (hc : c.length = 21) (hl : CycsAt w a l) :
    Calls Try.prog 3 #[.agg (CA c), .slice a l.length cap] w fun e w' => e = .returned (.bool true) ∧ Below w.heap.size w w' := by
  have X0 := Lib.hid (Box.new w c)
  have B0 := Lib.hid ((Below.refl w.heap.size w).alloc (Nat.le_refl _) (.cells (CA c) 24))
  have N0 := Lib.hid (show w.heap.size + 1 ≤ (w.alloc (.cells (CA c) 24)).heap.size by simp)
  have HC := Lib.hid hc
  have RA := fun W => Cf.right_any c W hc
  by_cases hR : Cf.Right c
  · have NY := fun W => F.new_yes c W hc hR
    rw [show Cf.rt c = true from decide_eq_true hR] at RA
    by_cases h120 : 120 < l.length
    · have d0 : decide (120 < (l.length : Int)) = true := by simp; omega
      clear hl h120 hc
      generalize l.length = m at *
      go_enter Try.func3, Try.ntmps3
      go_wp2_with ((with_reducible show wpList _ _ _ (⟨some 21, _, _, _, _, _⟩ :: _) _ _); refine Cf.wpList_loadW rfl _ rfl w.heap.size c rfl X0.out HC.out ?_)
      refine (NY _).mono ?_; rintro e w1 ⟨⟨g, S, rfl, -, -⟩, b1⟩
      have B1 := Lib.hid (grow B0.out b1)
      have X1 := Lib.hid (X0.out.on b1)
      clear b1 NY B0 X0
      go_wp2_with fail
      refine (HA _).mono ?_; rintro e w2 ⟨rfl, b2⟩
      have B2 := Lib.hid (grow B1.out b2)
      have X2 := Lib.hid (X1.out.on b2)
      clear b2 B1 X1
      go_wp2_with ((with_reducible show wpList _ _ _ (⟨some 40, _, _, _, _, _⟩ :: _) _ _); refine Cf.wpList_loadW rfl _ rfl w.heap.size c rfl X2.out HC.out ?_)
      refine (RA _).mono ?_; rintro e w3 ⟨rfl, b3⟩
      go_wp2
      go_ret
      exact ⟨rfl, grow B2.out b3⟩
    · have d0 : decide (120 < (l.length : Int)) = false := by simp; omega
      have HL := Lib.hid hl
      obtain ⟨m, hm⟩ : ∃ m, m = l.length := ⟨_, rfl⟩
      rw [← hm] at h120 d0 ⊢
      have HM := Lib.hid hm
      have H120 := Lib.hid h120
      have HR := Lib.hid hR
      clear hl hc hm RA h120
      go_enter Try.func3, Try.ntmps3
      go_wp2_with ((with_reducible show wpList _ _ _ (⟨some 21, _, _, _, _, _⟩ :: _) _ _); refine Cf.wpList_loadW rfl _ rfl w.heap.size c rfl X0.out HC.out ?_)
      refine (NY _).mono ?_; rintro e w1 ⟨⟨g, S, rfl, h1, n1⟩, b1⟩
      have D1 := Lib.hid (show Nd F w w1 c S g (begin c) 0 from ⟨grow B0.out b1, h1, fun j hj => Nat.le_trans N0.out (n1 j hj), Nat.le_trans N0.out b1.size, ok_begin hR, X0.out.on b1, by simp [begin]⟩)
      have q3 := Cf.Box.at D1.out.cfg HC.out 3 (by omega)
      have HV0 := Lib.hid (show G c 3 = (begin c).val from rfl)
      clear h1 n1 b1 NY X0 B0 N0
      generalize begin c = s0 at *
      rw [HV0.out] at q3
      clear HV0 hR
      go_wp2_with fail
      clear d0
      go_loopg [7, 8] m (fun gg s7 s8 wr => ∃ (i : Nat) (s : Si) (S : Nat → Prop), i + gg = m ∧ s8 = .int .i64 i ∧ s7 = .int .i64 s.val ∧ Hid (Nd F w wr c S g s i))
      case atStart => exact ⟨0, s0, S, by omega, rfl, rfl, D1⟩
      case round =>
        obtain ⟨i, s, S, hi, rfl, rfl, D⟩ := hrel
        have HI := Lib.hid hi
        clear D1 hi q3
        by_cases hlt : i < m
        · have hli : (i : Int) < m := by omega
          have h120 : (m : Int) ≤ 120 := by have := H120.out; omega
          obtain ⟨b, off, rfl, hat⟩ := HL.out (by have := HM.out; omega)
          obtain ⟨p, hpi⟩ : ∃ p, l[i]? = some p := ⟨_, List.getElem?_eq_getElem (by have := HM.out; omega)⟩
          have PC := Lib.hid (fun (W : World) (B : Below w.heap.size w W) (j : Nat) v (hv : (cyv p)[j]? = some v) => (show W.cell? ⟨b, off + i * 9 + j, none⟩ = some v from (B.cell (p := ⟨b, off + i * 9 + j, none⟩) (cell_lt (hat i p hpi j v hv))).trans (hat i p hpi j v hv)))
          clear hat hpi hlt
          have LC := Lib.hid (F.latched D.out.held HR.out)
          go_wp2_with fail
          refine (LC.out).mono ?_; rintro e w1 ⟨rfl, b1⟩
          have D2 := Lib.hid (D.out.on b1)
          clear b1 LC D
          go_wp2_with fail
          have PB := Lib.hid (fun (W : World) (h : Below w1.heap.size w1 W) => PC.out W (grow D2.out.below h))
          have CY := Lib.hid (show ∀ (j : Nat) v, (raw8 p.r)[j]? = some v → ∀ W, (∃ q : Regrown, W = Sort.grow (redrawn w1 q.d) q.os) → W.cell? ⟨b, off + i * 9 + j, none⟩ = some v from fun j v hv W hW => by
            obtain ⟨q, rfl⟩ := hW
            exact PB.out _ (below_regrown w1 q.d q.os) j v (by unfold cyv; rw [List.getElem?_append_left (List.getElem?_eq_some_iff.1 hv).1]; exact hv))
          have c8 := PB.out w1 (Below.refl _ _) 8 (.int .i64 p.sh) rfl
          obtain ⟨rs, er, s', CS, hrl, hr1, hcase⟩ := step_any (F := F) (w := w) (g := g) (s := s) (i := i) HR.out (by have := HI.out; have := H120.out; omega) p.r p.sh
          have HCS := Lib.hid CS
          have HR1 := Lib.hid hr1
          have HRL := Lib.hid hrl
          have HCA := Lib.hid hcase
          have P0 := Lib.hid (show Sp F w c S g s s' i w1.heap.size rs 36 false false false undef w1 from ⟨Nat.le_refl _, fun j hj => F.lt D2.out.held j hj, D2.out.big, fun e => by (cases e), fun _ => D2.out, fun e => by (cases e), fun e => by (cases e)⟩)
          clear CS hr1 hcase hrl c8 CY PB
          refine Ws.wp_sets (aF := ?_) [10] [11, 15, 16] 242 [true, true, true, true, true, true, true, true, true, true, true, false, true, true, true, false, false, true] [(66, .tuple #[.agg rs.toArray, .int .i64 er]), (10, undef)]
            (fun bs vs Y => Sp F w c S g s s' i w1.heap.size rs 36 (bs.getD 0 false) (bs.getD 1 false) (bs.getD 2 false) (vs.getD 0 undef) Y)
            (fun Y => Below w.heap.size w Y)
            (by kernel_rfl) (by kernel_rfl) (by kernel_rfl) (by kernel_rfl) ?ha ?hMC ?hMg ?h0 ?hq ?hw ?hend
          case ha => rfl
          case hMC => exact fun bs vs Y h => h.below
          case hMg => exact fun bs vs Y Z h hC => h.grow hC.to
          case h0 => exact fun vs _ => ⟨P0.out.big, P0.out.old, P0.out.low, fun e => by (cases e), P0.out.sig0, fun e => by (cases e), fun e => by (cases e)⟩
          case hq =>
            intro Y hY
            have c8 := cell_regrown (PC.out Y hY 8 (.int .i64 p.sh) rfl)
            have HRG := Lib.hid (show ∀ W', (∃ q : Regrown, W' = Sort.grow (redrawn Y q.d) q.os) → ∀ (j : Nat) v, (raw8 p.r)[j]? = some v → W'.cell? ⟨b, off + i * 9 + j, none⟩ = some v by
              rintro W' ⟨q, rfl⟩ j v hv
              exact PC.out _ (grow hY (below_regrown Y q.d q.os)) j v (by unfold cyv; rw [List.getElem?_append_left (List.getElem?_eq_some_iff.1 hv).1]; exact hv))
            clear hY
            simp only [Lt.sel, Lt.putAll, List.map_cons, List.map_nil, List.zip_cons_cons, List.zip_nil_right, List.foldl_cons, List.foldl_nil, Act.put, List.setIfInBounds_toArray, List.set_cons_succ, List.set_cons_zero]
            repeat (first
              | (with_reducible show wpQuiet _ _ _ _ (⟨some 60, _, _, _, _, _⟩ :: _) _
                 refine wpQuiet_loadR rfl _ rfl b (off + i * 9) (raw8 p.r) rfl HRG.out aggR sizeR ?_
                 simp only [Act.put, List.setIfInBounds_toArray, List.set_cons_succ, List.set_cons_zero])
              | go_big_quiet_step (fail))
            exact rfl
          case hw =>
            rintro bs (_ | _ | _ | k) st o hbl hs ho hk hpre vs Y hv hM
            · obtain rfl : 11 = st := by simpa using hs
              obtain rfl := Option.some.inj ho
              match vs, hv, bs, hbl with
              | [x1], _, [y0, y1, y2], _ =>
                obtain rfl : y0 = false := hk
                refine Wr.wp_fn (f := 8) (args := #[.pointer (some ⟨g, 0, none⟩), .agg (raw8 p.r).toArray, .int .i64 p.sh]) (by kernel_rfl) (HCS.out Y S (hM.sig0 rfl)) ?_
                rintro e Z ⟨rfl, S', h1, h2, h3⟩
                exact ⟨_, rfl, _, rfl, fun d hd _ => by cases hd; rfl, hM.call h1 h2 h3⟩
            · obtain rfl : 15 = st := by simpa using hs
              obtain rfl := Option.some.inj ho
              match vs, hv, bs, hbl with
              | [x1], _, [y0, y1, y2], _ =>
                obtain rfl : y1 = false := hk
                have HK := Lib.hid (hM.alloc)
                clear hM
                simp only [Lt.putAll, List.zip_cons_cons, List.zip_nil_right, List.foldl_cons, List.foldl_nil, Act.put, List.setIfInBounds_toArray, List.set_cons_succ, List.set_cons_zero]
                unfold Oper.wp
                go_simp
                exact HK.out
            · obtain rfl : 16 = st := by simpa using hs
              obtain rfl := Option.some.inj ho
              match vs, hv, bs, hbl with
              | [x1], _, [y0, y1, y2], _ =>
                obtain rfl : y2 = false := hk
                obtain rfl : y0 = true := hpre 0 11 rfl (by kernel_rfl)
                obtain rfl : y1 = true := hpre 1 15 rfl (by kernel_rfl)
                obtain ⟨ga, hg1, hg2, hg3⟩ := hM.box rfl
                obtain rfl : x1 = .pointer (some ⟨ga, 0, none⟩) := hg1
                have hz : VRow Y ga 36 zres := hg3
                refine wp_store_row 36 (.tmp 10) (.tmp 67) rfl ga rs.toArray rfl rfl 36 zres.toArray hz (by simpa [HRL.out] using sizeS) (by simp [HRL.out, zres]) HR1.out ?_
                exact ⟨undef, rfl, fun d hd => by (cases hd), hM.store rfl⟩
            · simp at hs
          case hend =>
            intro vs Y hv hM
            match vs, hv with
            | [x1], _ =>
              obtain ⟨ga, hg1, hg2, hg3⟩ := hM.box rfl
              obtain rfl : x1 = .pointer (some ⟨ga, 0, none⟩) := hg1
              obtain ⟨S', n1, n2⟩ := hM.sig1 rfl
              have R3 := Lib.hid (show VRow Y ga 36 rs from hg3)
              have D3 := Lib.hid n1
              have NS := Lib.hid (n2 rfl ga rfl)
              clear hg3 n1 n2 hM P0 HCS HR1 HRL
              simp only [Lt.putAll, List.zip_cons_cons, List.zip_nil_right, List.foldl_cons, List.foldl_nil, Act.put, List.setIfInBounds_toArray, List.set_cons_succ, List.set_cons_zero]
              rcases HCA.out with ⟨rfl, rfl⟩ | ⟨rfl, hok, rfl, rfl⟩
              · go_wp2_with fail
                go_roundg (m - i - 1)
                case rel => exact ⟨i + 1, _, S', by have := HI.out; omega, by go_num, rfl, D3⟩
                case measure => have := HI.out; omega
              · have hR := HR.out
                have OK := Lib.hid D2.out.ok
                have HF := Lib.hid (fun (k : Nat) (h : inq c s p.r p.sh k = true) => inq_yes h)
                have HB1 := Lib.hid (fun (k : Nat) (h : k < 4) => inm_bit (c := c) (s := s) (r := p.r) (sh := p.sh) h)
                have HB2 := Lib.hid (fun (k : Nat) (h : k < 4) => lam_bit (c := c) (s := s) h)
                have HB3 := Lib.hid (fun (k : Nat) (h : k < 4) => has_bit hok.2 h)
                have HTR := Lib.hid (fun (k : Nat) (h : k < NN c) (h1 : inq c s p.r p.sh k = false) (h2 : Fx.has p.sh k = false) (h3 : (s.ch k).st.la = false) => (show tri c s p.r p.sh k ≠ 0 from by
                  unfold tri; rw [if_pos h]
                  refine trp_yes ?_ h2 h3
                  unfold inq at h1
                  simpa [h] using h1))
                have HNB := Lib.hid (fun k => nlo_bd (f := inq c s p.r p.sh) (fun i h => inq_bd hok.1 h) k)
                have HHB := Lib.hid (fun k => nhi_bd (f := inq c s p.r p.sh) (fun i h => inq_bd hok.1 h) k)
                have HNR := Lib.hid (fun ha => near_in hR hok.1 D2.out.ok (sh := p.sh) ha)
                have HVN := Lib.hid (fun ha => val_none hR hok.1 D2.out.ok (sh := p.sh) ha)
                have HIZ := Lib.hid (fun ha => inm_no (c := c) (s := s) (r := p.r) (sh := p.sh) ha)
                have HIP := Lib.hid (fun ha => inm_yes (c := c) (s := s) (r := p.r) (sh := p.sh) hR ha)
                have HVI := Lib.hid D3.out.ok.val
                have HSV := Lib.hid (show (nxt c s p.r p.sh).val = val c s p.r p.sh from rfl)
                have HBD := Lib.hid (show (0 ≤ inm c s p.r p.sh ∧ inm c s p.r p.sh ≤ 15) ∧ (0 ≤ lam c s ∧ lam c s ≤ 15) ∧ 0 ≤ p.sh ∧ p.sh ≤ 15 from ⟨mk4_bd _, mk4_bd _, hok.2⟩)
                rw [HSV.out] at HVI
                have h34 := NN_34 hR
                have HNE := Lib.hid (NN_eq hR)
                clear hR hok HCA OK D2 hg2
                unfold res at R3
                generalize nxt c s p.r p.sh = s2 at *
                generalize inq c s p.r p.sh = f at *
                generalize inm c s p.r p.sh = IN at *
                generalize tri c s p.r p.sh = TR at *
                generalize lam c s2 = l2 at *
                generalize lam c s = LAM at *
                generalize any c s p.r p.sh = an at *
                generalize val c s p.r p.sh = vv at *
                generalize sus c s p.r p.sh = su at *
                generalize evi c s p.r p.sh 0 = e0 at *
                generalize evi c s p.r p.sh 1 = e1 at *
                generalize evi c s p.r p.sh 2 = e2 at *
                generalize evi c s p.r p.sh 3 = e3 at *
                go_wp2_with fail
                go_loopg [12, 13, 14, 15] 4 (fun g2 s12 s13 s14 s15 wx => ∃ k : Nat, k + g2 = 4 ∧ s15 = .int .i64 k ∧ s14 = .int .i64 (2 ^ k) ∧ s12 = .int .i64 (nlo f p.r k) ∧ s13 = .int .i64 (nhi f p.r k) ∧ Hid (Nd F w wx c S' g s2 (i + 1)) ∧ Hid (VRow wx ga 36 [.int .i64 vv, .int .i64 IN, .int .i64 l2, .int .i64 su, .bool (!an), .int .i64 (TR 0), .int .i64 (TR 1), .int .i64 (TR 2), .int .i64 (TR 3), .int .i64 e0, .int .i64 e1, .int .i64 e2, .int .i64 e3]))
                case atStart => exact ⟨0, by omega, rfl, rfl, rfl, rfl, D3, R3⟩
                case round =>
                  rename World => W6
                  obtain ⟨k, hk, rfl, rfl, rfl, rfl, D7, R7⟩ := hrel
                  have HK := Lib.hid hk
                  clear D3 R3 hk
                  by_cases hk4 : k < 4
                  · have hk4' : (k : Int) < 4 := by omega
                    have hki : k ∈ [0, 1, 2, 3] := by simp; omega
                    simp only [List.mem_cons, List.mem_nil_iff, or_false] at hki
                    have HPW := Lib.hid (show (2 : Int) ^ k = 1 ∨ (2 : Int) ^ k = 2 ∨ (2 : Int) ^ k = 4 ∨ (2 : Int) ^ k = 8 by rcases hki with rfl | rfl | rfl | rfl <;> decide)
                    have HPK := Lib.hid (show (2 : Int) * 2 ^ k = 2 ^ (k + 1) by rw [Int.pow_succ]; omega)
                    have HLO := Lib.hid (show nlo f p.r (k + 1) = if f k = true then min (nlo f p.r k) (p.r k).n else nlo f p.r k from rfl)
                    have HHI := Lib.hid (show nhi f p.r (k + 1) = if f k = true then max (nhi f p.r k) (p.r k).n else nhi f p.r k from rfl)
                    have b1 := HB1.out k hk4
                    have b2 := HB2.out k hk4
                    have b3 := HB3.out k hk4
                    have HRK := Lib.hid (show ∀ W, Below w.heap.size w W → W.rangeAt b (off + i * 9 + k * 2) [.bool (p.r k).is, .int .i64 (p.r k).n] from fun W hW j v hj => by
                      have hj2 : j = 0 ∨ j = 1 := by
                        rcases Nat.lt_or_ge j 2 with q | q
                        · omega
                        · rw [List.getElem?_eq_none (by simpa using q)] at hj; cases hj
                      have e : (cyv p)[k * 2 + j]? = some v := by
                        rcases hki with rfl | rfl | rfl | rfl <;> rcases hj2 with rfl | rfl <;> exact hj
                      have := PC.out W hW (k * 2 + j) v e
                      rwa [← Nat.add_assoc] at this)
                    have ct : ∀ W, VRow W ga 36 [.int .i64 vv, .int .i64 IN, .int .i64 l2, .int .i64 su, .bool (!an), .int .i64 (TR 0), .int .i64 (TR 1), .int .i64 (TR 2), .int .i64 (TR 3), .int .i64 e0, .int .i64 e1, .int .i64 e2, .int .i64 e3] →
                        W.cell? ⟨ga, 5 + k, none⟩ = some (.int .i64 (TR k)) ∧ W.cell? ⟨ga, 1, none⟩ = some (.int .i64 IN) := fun W h => ⟨by
                      rcases hki with rfl | rfl | rfl | rfl
                      · exact h.cell 5 rfl
                      · exact h.cell 6 rfl
                      · exact h.cell 7 rfl
                      · exact h.cell 8 rfl, h.cell 1 rfl⟩
                    have CT := Lib.hid ct
                    clear ct hki
                    generalize (2 : Int) ^ k = P at *
                    have L8 := Nd.lay D7.out [.bool false, .int .i64 0] [.bool (p.r k).is, .int .i64 (p.r k).n] 40
                    have N8 := Lib.hid (VRow.new W6 [.bool false, .int .i64 0] 40)
                    have HG8 := Lib.hid (HRK.out _ (grow D7.out.below ((Below.refl W6.heap.size W6).alloc (Nat.le_refl _) (.cells #[.bool false, .int .i64 0] 40))))
                    have HG7 := Lib.hid (HRK.out _ D7.out.below)
                    go_upto_region 18 with (first
                      | ((with_reducible show wpList _ _ _ (⟨some 81, _, _, _, _, _⟩ :: _) _ _); refine wpList_load_mid rfl _ _ rfl b (off + i * 9 + k * 2) rfl [.bool (p.r k).is, .int .i64 (p.r k).n] _ HG7.out Try.underlying40 rfl (by kernel_rfl) ?_)
                      | ((with_reducible show wpList _ _ _ (⟨none, .store _ (.tmp 16) _, _, _, _, _⟩ :: _) _ _); refine VB.store rfl _ _ rfl W6.heap.size [.bool (p.r k).is, .int .i64 (p.r k).n] rfl rfl N8.out (by kernel_rfl) rfl (by simp [Value.oneCell']) ?_))
                    have D8 := Lib.hid L8.1
                    have R8 := Lib.hid (R7.out.below L8.2.2 R7.out.lt)
                    have S8 := Lib.hid L8.2.1
                    have HS8 := Lib.hid (PC.out _ (L8.1).below 8 (.int .i64 p.sh) rfl)
                    clear L8 N8 HG8 HG7 D7 R7
                    change Code.wp _ _ _ _ ((W6.alloc (.cells ([.bool false, .int .i64 0] : List Value).toArray 40)).setRow W6.heap.size ([.bool (p.r k).is, .int .i64 (p.r k).n] : List Value).toArray)
                    generalize (W6.alloc (.cells ([.bool false, .int .i64 0] : List Value).toArray 40)).setRow W6.heap.size ([.bool (p.r k).is, .int .i64 (p.r k).n] : List Value).toArray = W8 at *
                    generalize W6.heap.size = gr at *
                    have q0 := Cf.Box.at D8.out.cfg HC.out 0 (by omega)
                    have q1 := Cf.Box.at D8.out.cfg HC.out 1 (by omega)
                    have q2 := Cf.Box.at D8.out.cfg HC.out 2 (by omega)
                    rw [← HNE.out] at q0
                    have s0 := S8.out.cell 0 (v := .bool (p.r k).is) rfl
                    have s1 := S8.out.cell 1 (v := .int .i64 (p.r k).n) rfl
                    obtain ⟨c5, c1⟩ := CT.out W8 R8.out
                    have c8 := HS8.out
                    have z1 : (P == 0) = false := by have := HPW.out; simp; omega
                    have z2 : ¬ (P = 0) := by have := HPW.out; omega
                    obtain ⟨m1, m2, m3⟩ := quo_bd HBD.out.1 HPW.out
                    obtain ⟨m4, m5, m6⟩ := quo_bd HBD.out.2.1 HPW.out
                    obtain ⟨m7, m8, m9⟩ := quo_bd HBD.out.2.2 HPW.out
                    have p1 : IntKind.i64.wrap (IN.tdiv P) = IN.tdiv P := IntWalk.i64_in _ (by omega)
                    have p2 : IntKind.i64.wrap (LAM.tdiv P) = LAM.tdiv P := IntWalk.i64_in _ (by omega)
                    have p3 : IntKind.i64.wrap (p.sh.tdiv P) = p.sh.tdiv P := IntWalk.i64_in _ (by omega)
                    have p4 : IntKind.i64.wrap ((IN.tdiv P).tmod 2) = (IN.tdiv P).tmod 2 := IntWalk.i64_in _ (by omega)
                    have p5 : IntKind.i64.wrap ((LAM.tdiv P).tmod 2) = (LAM.tdiv P).tmod 2 := IntWalk.i64_in _ (by omega)
                    have p6 : IntKind.i64.wrap ((p.sh.tdiv P).tmod 2) = (p.sh.tdiv P).tmod 2 := IntWalk.i64_in _ (by omega)
                    have p7 : IntKind.i64.wrap (2 * P) = 2 * P := IntWalk.i64_in _ (by have := HPW.out; omega)
                    clear m1 m2 m3 m4 m5 m6 m7 m8 m9 HS8 S8 HRK CT
                    have HTK := Lib.hid (HTR.out k)
                    have HFK := Lib.hid (HF.out k)
                    cases hf : f k
                    · by_cases hN : k < NN c
                      · have hN' : (k : Int) < (NN c : Nat) := by omega
                        have dN : decide ((k : Int) < (NN c : Nat)) = true := by simpa using hN
                        cases hla : (s.ch k).st.la
                        · rw [if_neg (by rw [hla]; simp)] at b2
                          rw [b2] at p5
                          cases hh : Fx.has p.sh k
                          · have tn := HTK.out hN hf hh hla
                            have tn' : (TR k == 0) = false := by simpa using tn
                            clear tn
                            rw [if_neg (by rw [hf]; decide)] at b1 HLO HHI
                            rw [b1] at p4
                            rw [if_neg (by rw [hh]; decide)] at b3
                            rw [b3] at p6
                            clear hf HTK HFK hla hh
                            generalize (p.r k).n = x at *
                            generalize (p.r k).is = ri at *
                            generalize TR k = tv at *
                            as_aux_lemma =>
                              go_wp2_with fail
                              go_roundg (gk - 1)
                              case rel => exact ⟨k + 1, by have := HK.out; omega, by go_num, by rw [HPK.out], by rw [HLO.out], by rw [HHI.out], D8, R8⟩
                              case measure => have := HK.out; omega
                          · rw [if_neg (by rw [hf]; decide)] at b1 HLO HHI
                            rw [b1] at p4
                            rw [if_pos hh] at b3
                            rw [b3] at p6
                            clear hf HTK HFK hla hh
                            generalize (p.r k).n = x at *
                            generalize (p.r k).is = ri at *
                            generalize TR k = tv at *
                            as_aux_lemma =>
                              go_wp2_with fail
                              go_roundg (gk - 1)
                              case rel => exact ⟨k + 1, by have := HK.out; omega, by go_num, by rw [HPK.out], by rw [HLO.out], by rw [HHI.out], D8, R8⟩
                              case measure => have := HK.out; omega
                        · rw [if_pos (by rw [hla]; simpa using hN)] at b2
                          rw [b2] at p5
                          rw [if_neg (by rw [hf]; decide)] at b1 HLO HHI
                          rw [b1] at p4
                          clear hf HTK HFK hla
                          generalize (p.r k).n = x at *
                          generalize (p.r k).is = ri at *
                          generalize TR k = tv at *
                          as_aux_lemma =>
                            go_wp2_with fail
                            go_roundg (gk - 1)
                            case rel => exact ⟨k + 1, by have := HK.out; omega, by go_num, by rw [HPK.out], by rw [HLO.out], by rw [HHI.out], D8, R8⟩
                            case measure => have := HK.out; omega
                      · have hN' : (NN c : Nat) ≤ (k : Int) := by omega
                        have dN : decide ((k : Int) < (NN c : Nat)) = false := by simp; omega
                        rw [if_neg (by simp [hN])] at b2
                        rw [b2] at p5
                        cases hh : Fx.has p.sh k
                        · rw [if_neg (by rw [hf]; decide)] at b1 HLO HHI
                          rw [b1] at p4
                          rw [if_neg (by rw [hh]; decide)] at b3
                          rw [b3] at p6
                          clear hf HTK HFK hh
                          generalize (p.r k).n = x at *
                          generalize (p.r k).is = ri at *
                          generalize TR k = tv at *
                          as_aux_lemma =>
                            go_wp2_with fail
                            go_roundg (gk - 1)
                            case rel => exact ⟨k + 1, by have := HK.out; omega, by go_num, by rw [HPK.out], by rw [HLO.out], by rw [HHI.out], D8, R8⟩
                            case measure => have := HK.out; omega
                        · rw [if_neg (by rw [hf]; decide)] at b1 HLO HHI
                          rw [b1] at p4
                          rw [if_pos hh] at b3
                          rw [b3] at p6
                          clear hf HTK HFK hh
                          generalize (p.r k).n = x at *
                          generalize (p.r k).is = ri at *
                          generalize TR k = tv at *
                          as_aux_lemma =>
                            go_wp2_with fail
                            go_roundg (gk - 1)
                            case rel => exact ⟨k + 1, by have := HK.out; omega, by go_num, by rw [HPK.out], by rw [HLO.out], by rw [HHI.out], D8, R8⟩
                            case measure => have := HK.out; omega
                    · obtain ⟨hN, his, hr12, hh, hla⟩ := HFK.out hf
                      have hN' : (k : Int) < (NN c : Nat) := by omega
                      have dN : decide ((NN c : Nat) ≤ (k : Int)) = false := by simp; omega
                      rw [if_pos hf] at b1 HLO HHI
                      rw [b1] at p4
                      rw [if_neg (by rw [hla]; simp)] at b2
                      rw [b2] at p5
                      rw [his] at s0
                      rw [if_neg (by rw [hh]; decide)] at b3
                      rw [b3] at p6
                      have d3 : decide ((p.r k).n < G c 1) = false := by simp; omega
                      have d4 : decide (G c 2 < (p.r k).n) = false := by simp; omega
                      clear hf HTK HFK hh hla his
                      generalize (p.r k).n = x at *
                      generalize (p.r k).is = ri at *
                      generalize TR k = tv at *
                      as_aux_lemma =>
                        go_wp2_with fail
                        go_roundg (gk - 1)
                        case rel => exact ⟨k + 1, by have := HK.out; omega, by go_num, by rw [HPK.out], by rw [HLO.out], by rw [HHI.out], D8, R8⟩
                        case measure => have := HK.out; omega
                  · obtain rfl : k = 4 := by have := HK.out; omega
                    rename World => W7
                    have v0 := R7.out.cell 0 (v := .int .i64 vv) rfl
                    have c1 := R7.out.cell 1 (v := .int .i64 IN) rfl
                    have v4 := R7.out.cell 4 (v := .bool (!an)) rfl
                    have q1 := Cf.Box.at D7.out.cfg HC.out 1 (by omega)
                    have q2 := Cf.Box.at D7.out.cfg HC.out 2 (by omega)
                    have q10 := Cf.Box.at D7.out.cfg HC.out 10 (by omega)
                    have q12 := Cf.Box.at D7.out.cfg HC.out 12 (by omega)
                    obtain ⟨z1, z2⟩ := HNB.out 4
                    obtain ⟨z3, z4⟩ := HHB.out 4
                    obtain ⟨z5, z6⟩ := HVI.out
                    have y10 : 0 ≤ G c 10 ∧ G c 10 ≤ 2147483647 := by obtain ⟨-, -, -, -, -, -, -, -, -, -, h, -⟩ := HR.out; exact h
                    have y12 : 0 ≤ G c 12 ∧ G c 12 ≤ 2147483647 := by obtain ⟨-, -, -, -, -, -, -, -, -, -, -, -, h, -⟩ := HR.out; exact h
                    have d3 : decide (vv < G c 1) = false := by simp; omega
                    have d4 : decide (G c 2 < vv) = false := by simp; omega
                    have HNR2 := Lib.hid HNR.out
                    generalize nlo f p.r 4 = lo at *
                    generalize nhi f p.r 4 = hi at *
                    have p1 : IntKind.i64.wrap (lo - G c 10) = lo - G c 10 := IntWalk.i64_in _ (by omega)
                    have p2 : IntKind.i64.wrap (lo - G c 10 - G c 12) = lo - G c 10 - G c 12 := IntWalk.i64_in _ (by omega)
                    have p3 : IntKind.i64.wrap (hi + G c 10) = hi + G c 10 := IntWalk.i64_in _ (by omega)
                    have p4 : IntKind.i64.wrap (hi + G c 10 + G c 12) = hi + G c 10 + G c 12 := IntWalk.i64_in _ (by omega)
                    clear z5 z6 hk4
                    go_upto_region 26 with fail
                    go_cut [19] from 166 to 187 (fun s19 wx => ∃ b : Bool, s19 = .bool b ∧ (an = true → b = true) ∧ wx = W7)
                    case first =>
                      cases d1 : decide (lo - G c 10 - G c 12 ≤ vv)
                      · have e1 : an = true → false = true := fun h => by have := (HNR2.out h).1; simp at d1; omega
                        go_wp2_with fail
                        go_meet
                        exact ⟨false, rfl, e1, rfl⟩
                      · cases d2 : decide (vv ≤ hi + G c 10 + G c 12)
                        · have e1 : an = true → false = true := fun h => by have := (HNR2.out h).2; simp at d2; omega
                          go_wp2_with fail
                          go_meet
                          exact ⟨false, rfl, e1, rfl⟩
                        · go_wp2_with fail
                          go_meet
                          exact ⟨true, rfl, fun _ => rfl, rfl⟩
                    case rest =>
                      obtain ⟨bb, rfl, hbb, rfl⟩ := hcut
                      rename World => W7
                      have HBB := Lib.hid hbb
                      clear hbb p1 p2 p3 p4 q10 q12 z1 z2 z3 z4 y10 y12 HNR HNR2
                      cases an
                      · obtain rfl := HIZ.out rfl
                        obtain rfl := HVN.out rfl
                        clear HIZ HVN HIP HBB
                        as_aux_lemma =>
                          go_upto_region 27 with fail
                          have cV := reg_call (w := W7) (fun W h => F.value ((D7.out.on h).held))
                          have v0r := cell_regrown v0
                          have c1r := cell_regrown c1
                          have v4r := cell_regrown v4
                          have q1r := cell_regrown q1
                          have q2r := cell_regrown q2
                          rw [HSV.out] at cV
                          refine wp_region_quiet_below (by kernel_rfl) (by kernel_rfl) ?_
                          repeat (go_big_quiet_step (exact cV _ _))
                          refine wpQuiet_nil ?_
                          intro _ hw'
                          obtain ⟨⟨dq, osq⟩, hw''⟩ := hw'
                          subst hw''
                          have D9 := Lib.hid (D7.out.on (below_regrown W7 dq osq))
                          have v0 := VRow.cell (VRow.below R7.out (below_regrown W7 dq osq) R7.out.lt) 0 (v := .int .i64 s.val) rfl
                          show Exit.then _ _ .normal _ (Sort.grow (redrawn W7 dq) osq)
                          generalize Sort.grow (redrawn W7 dq) osq = W9 at *
                          clear v0r c1r v4r q1r q2r cV
                          go_wp2_with fail
                          go_roundg (m - i - 1)
                          case rel => exact ⟨i + 1, s2, S', by have := HI.out; omega, by go_num, by rw [HSV.out], D9⟩
                          case measure => have := HI.out; omega
                      · have hin := HIP.out rfl
                        obtain rfl : bb = true := HBB.out rfl
                        have d5 : decide (0 < IN) = true := by simpa using hin
                        have d6 : (IN == 0) = false := by simp; omega
                        clear HIZ HVN HIP HBB hin
                        as_aux_lemma =>
                          go_upto_region 27 with fail
                          have cV := reg_call (w := W7) (fun W h => F.value ((D7.out.on h).held))
                          have v0r := cell_regrown v0
                          have c1r := cell_regrown c1
                          have v4r := cell_regrown v4
                          have q1r := cell_regrown q1
                          have q2r := cell_regrown q2
                          rw [HSV.out] at cV
                          refine wp_region_quiet_below (by kernel_rfl) (by kernel_rfl) ?_
                          repeat (go_big_quiet_step (exact cV _ _))
                          refine wpQuiet_nil ?_
                          intro _ hw'
                          obtain ⟨⟨dq, osq⟩, hw''⟩ := hw'
                          subst hw''
                          have D9 := Lib.hid (D7.out.on (below_regrown W7 dq osq))
                          have v0 := VRow.cell (VRow.below R7.out (below_regrown W7 dq osq) R7.out.lt) 0 (v := .int .i64 vv) rfl
                          show Exit.then _ _ .normal _ (Sort.grow (redrawn W7 dq) osq)
                          generalize Sort.grow (redrawn W7 dq) osq = W9 at *
                          clear v0r c1r v4r q1r q2r cV
                          go_wp2_with fail
                          go_roundg (m - i - 1)
                          case rel => exact ⟨i + 1, s2, S', by have := HI.out; omega, by go_num, by rw [HSV.out], D9⟩
                          case measure => have := HI.out; omega
        · obtain rfl : i = m := by have := HI.out; omega
          go_wp2_with fail
          refine (HA _).mono ?_; rintro e w2 ⟨rfl, b2⟩
          go_wp2
          go_ret
          exact ⟨rfl, grow D.out.below b2⟩
  · have NN0 := fun W => F.new_no c W hc hR
    rw [show Cf.rt c = false from decide_eq_false hR] at RA
    clear hl hc hR
    generalize l.length = m at *
    go_enter Try.func3, Try.ntmps3
    go_wp2_with ((with_reducible show wpList _ _ _ (⟨some 21, _, _, _, _, _⟩ :: _) _ _); refine Cf.wpList_loadW rfl _ rfl w.heap.size c rfl X0.out HC.out ?_)
    refine (NN0 _).mono ?_; rintro e w1 ⟨rfl, b1⟩
    have B1 := Lib.hid (grow B0.out b1)
    have X1 := Lib.hid (X0.out.on b1)
    clear b1 NN0 B0 X0
    go_wp2_with fail
    refine (HA _).mono ?_; rintro e w2 ⟨rfl, b2⟩
    have B2 := Lib.hid (grow B1.out b2)
    have X2 := Lib.hid (X1.out.on b2)
    clear b2 B1 X1
    go_wp2_with ((with_reducible show wpList _ _ _ (⟨some 40, _, _, _, _, _⟩ :: _) _ _); refine Cf.wpList_loadW rfl _ rfl w.heap.size c rfl X2.out HC.out ?_)
    refine (RA _).mono ?_; rintro e w3 ⟨rfl, b3⟩
    go_wp2
    go_ret
    exact ⟨rfl, grow B2.out b3⟩
end Sg
end Go.Proofs.Ytmlhmmfgdioclaa
