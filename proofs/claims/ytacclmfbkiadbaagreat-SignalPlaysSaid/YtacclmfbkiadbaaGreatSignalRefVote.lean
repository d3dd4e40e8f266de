/-
  What vote of rudderref18 does: a contract by walking the Go text. Conditions: how the document's signal, and the list of who is in, lie; that no difference is too great.
-/
import Derived.Test.YtacclmfbkiadbaaGreatJSignalRefAt2
import Derived.Test.YtacclmfbkiadbaaGreatJTwoRows2
import Derived.Test.YtacclmfbkiadbaaGreatJFixRefs3
import Derived.Deep.LoopGhost
import Derived.Deep.RegionLaw
namespace Go.Proofs.YtacclmfbkiadbaaGreat
set_option maxRecDepth 100000
open Go.ChangeShapes Go.WideShapes Go.ChangeAt Go.RowKit Go.Deep
namespace Sg
open Cf (G CA Box)
theorem cell_but {S : Nat → Prop} {X Y : World} {b o : Nat} {v : Value} (h : But S X Y) (hc : X.cell? ⟨b, o, none⟩ = some v) (hn : ¬ S b) : Y.cell? ⟨b, o, none⟩ = some v :=
  (World.cell?_of_block (w := X) (a := ⟨b, o, none⟩) (h.block b (cell_lt hc) hn)).trans hc
theorem owns_but {S : Nat → Prop} {base : Nat} {te : TypeId} {X Y : World} {v : Value} {ls : List Int} (h : OwnI .i64 base te X v ls) (b : But S X Y) (hn : ∀ g, v.ownBlock = some g → ¬ S g) : OwnI .i64 base te Y v ls := by
  refine ⟨h.1, ?_⟩
  rcases h.2 with q | ⟨g, cap, cur, rfl, hb, hg, rest⟩
  · exact .inl q
  · have hl : g < X.heap.size := by
      rcases Nat.lt_or_ge g X.heap.size with q | q
      · exact q
      · rw [Array.getElem?_eq_none q] at hg; cases hg
    exact .inr ⟨g, cap, cur, rfl, hb, (b.block g hl (hn g rfl)).trans hg, rest⟩
theorem intInfo : (Tryz.prog.info? 3).map (fun i => (i.zero, i.size, i.bytes)) = some (some (.int .i64 0), 1, 8) := by kernel_rfl
theorem take_snoc {α β : Type} (f : α → β) (l : List α) (k : Nat) (d : α) (h : k < l.length) : (l.take k).map f ++ [f (l.getD k d)] = (l.take (k + 1)).map f := by
  rw [List.take_add_one, List.getElem?_eq_getElem h, List.map_append, List.getD_eq_getElem?_getD, List.getElem?_eq_getElem h]; rfl
/-- Two lists that grow, while all that was there stays. -/
structure Vt (W X : World) (E U : List Int) (v u : Value) : Prop where
  own1 : OwnI .i64 W.heap.size 3 X v E
  own2 : OwnI .i64 W.heap.size 3 X u U
  ap : Apart v u
  below : Below W.heap.size W X
section
variable {W X Y : World} {E U : List Int} {v u v' u' : Value} {y : Int}
theorem Vt.blk1 (h : Vt W X E U v u) {g : Nat} (e : v.ownBlock = some g) : W.heap.size ≤ g := (World.ownsRow.lt h.own1 g e).1
theorem Vt.blk2 (h : Vt W X E U v u) {g : Nat} (e : u.ownBlock = some g) : W.heap.size ≤ g := (World.ownsRow.lt h.own2 g e).1
theorem Vt.low1 (h : Vt W X E U v u) (B : But (fun k => v.ownBlock = some k) X Y) : Below W.heap.size W Y := But.below h.below B h.below.size fun _ e => h.blk1 e
theorem Vt.low2 (h : Vt W X E U v u) (B : But (fun k => u.ownBlock = some k) X Y) : Below W.heap.size W Y := But.below h.below B h.below.size fun _ e => h.blk2 e
theorem Vt.one (h : Vt W X E U v u) (o : OwnI .i64 W.heap.size 3 Y v' (E ++ [y])) (mv : v'.ownBlock = v.ownBlock ∨ ∃ g, v'.ownBlock = some g ∧ X.heap.size ≤ g) (B : But (fun k => v.ownBlock = some k) X Y) : Vt W Y (E ++ [y]) U v' u := by
  refine ⟨o, owns_but h.own2 B fun g e q => h.ap g q e, fun g e1 e2 => ?_, h.low1 B⟩
  rcases mv with q | ⟨g', q, hg⟩
  · exact h.ap g (q.symm.trans e1) e2
  · have := (World.ownsRow.lt h.own2 g e2).2
    rw [e1] at q; cases q; omega
theorem Vt.two (h : Vt W X E U v u) (o : OwnI .i64 W.heap.size 3 Y u' (U ++ [y])) (mv : u'.ownBlock = u.ownBlock ∨ ∃ g, u'.ownBlock = some g ∧ X.heap.size ≤ g) (B : But (fun k => u.ownBlock = some k) X Y) : Vt W Y E (U ++ [y]) v u' := by
  refine ⟨owns_but h.own1 B fun g e q => h.ap g e q, o, fun g e1 e2 => ?_, h.low2 B⟩
  rcases mv with q | ⟨g', q, hg⟩
  · exact h.ap g e1 (q.symm.trans e2)
  · have := (World.ownsRow.lt h.own1 g e1).2
    rw [e2] at q; cases q; omega
theorem Vt.on (h : Vt W X E U v u) (B : Below X.heap.size X Y) : Vt W Y E U v u := ⟨Ws.owns_on h.own1 B, Ws.owns_on h.own2 B, h.ap, grow h.below B⟩
end
theorem susV_lt (l : List Int) (x : Int) : Pa.sus l x = -1 ∨ (0 ≤ Pa.sus l x ∧ Pa.sus l x < l.length) := by
  have h := Pa.last_bd x (Pa.res l) (Pa.res l).length
  have h2 : (Pa.res l).length ≤ l.length := by
    cases h : Pa.fit l
    · rw [Pa.res_no h]; simp
    · rw [Pa.res_yes h, Pa.resTo_len]; omega
  unfold Pa.sus Pa.susOf
  split
  · exact .inl rfl
  · split
    · omega
    · exact .inl rfl
theorem raw8_n (r : Nat → Rw) (i : Nat) (hi : i < 4) : (raw8 r)[i * 2 + 1]? = some (.int .i64 (r i).n) := by
  have : i = 0 ∨ i = 1 ∨ i = 2 ∨ i = 3 := by omega
  rcases this with rfl | rfl | rfl | rfl <;> rfl
theorem raw8_is (r : Nat → Rw) (i : Nat) (hi : i < 4) : (raw8 r)[i * 2]? = some (.bool (r i).is) := by
  have : i = 0 ∨ i = 1 ∨ i = 2 ∨ i = 3 := by omega
  rcases this with rfl | rfl | rfl | rfl <;> rfl
def idx (l : List Nat) : List Int := l.map fun i : Nat => (i : Int)
def eV (s : Si) (r : Nat → Rw) (l : List Nat) : List Int := l.map fun i => (r i).n - (s.ch i).off
def wV (c : List Int) (l : List Nat) : List Int := l.map fun i => G c (17 + i)
def valV (c : List Int) (s : Si) (E U : List Int) : Int := if Vo.votb (G c 1) (G c 2) (G c 12) E U = true then Vo.votv (G c 1) (G c 2) (G c 12) E U else s.val
def susV (E : List Int) (b : Int) (l : List Nat) : Int := if Pa.sus E b < 0 then -1 else (l.getD (Pa.sus E b).toNat 0 : Nat)
set_option maxRecDepth 100000 in
set_option maxHeartbeats 3200000 in
theorem rvote_any {W : World} {S : Nat → Prop} {p : Pl} {c : List Int} {s : Si} {ls : Nat → Int} {r : Nat → Rw} {l : List Nat} {a : Option Addr} {cap : Nat} (H : RX W S p c s ls) (hc : c.length = 21) (h4 : NN c ≤ 4) (hl : ∀ i ∈ l, i < NN c) (hlen : l.length ≤ 4) (hI : IntsAt .i64 W a (idx l)) (hS : ∀ ad, a = some ad → ¬ S ad.block)
    (hcap : l.length ≤ cap ∧ cap ≤ 9223372036854775807) (hb : ∀ i ∈ l, (-2147483648 ≤ (r i).n ∧ (r i).n ≤ 2147483647) ∧ -2147483648 ≤ (s.ch i).off ∧ (s.ch i).off ≤ 2147483648) (hm : 0 ≤ G c 9 ∧ G c 9 ≤ 4294967296) :
    Calls Tryz.prog 38 #[.pointer (some ⟨p.g, 0, none⟩), .slice a l.length cap, .agg (raw8 r).toArray] W fun e w' => e = .returned (.int .i64 (susV (eV s r l) (G c 9) l)) ∧ RX w' S p c { s with val := valV c s (eV s r l) (wV c l) } ls ∧ But S W w' := by
  have B0 := Lib.hid ((Below.refl W.heap.size W).alloc (Nat.le_refl _) (.cells (raw8 r).toArray 46))
  have R0 := Lib.hid (VRow.new W (raw8 r) 46)
  have X0 := Lib.hid (H.on B0.out)
  have I0 := Lib.hid (hI.below B0.out)
  have HIN := Lib.hid H
  have H4 := Lib.hid h4
  have HC := Lib.hid hc
  have HL := Lib.hid hl
  have HB := Lib.hid hb
  have HM := Lib.hid hm
  have HS := Lib.hid hS
  obtain ⟨hcp1, hcp2⟩ := hcap
  clear H hI hc h4 hl hb hm hS
  have HSV := Lib.hid (show susV (eV s r l) (G c 9) l = if Pa.sus (eV s r l) (G c 9) < 0 then (-1 : Int) else ((l.getD (Pa.sus (eV s r l) (G c 9)).toNat 0 : Nat) : Int) from rfl)
  have HVV := Lib.hid (show valV c s (eV s r l) (wV c l) = if Vo.votb (G c 1) (G c 2) (G c 12) (eV s r l) (wV c l) = true then Vo.votv (G c 1) (G c 2) (G c 12) (eV s r l) (wV c l) else s.val from rfl)
  generalize valV c s (eV s r l) (wV c l) = VV at *
  generalize susV (eV s r l) (G c 9) l = SV at *
  go_enter Tryz.func38, Tryz.ntmps38
  go_upto_region 1 with fail
  generalize W.alloc (.cells (raw8 r).toArray 46) = W0 at *
  have V0 := Lib.hid (show Vt W0 W0 (eV s r (l.take 0)) (wV c (l.take 0)) (.slice none 0 0) (.slice none 0 0) from ⟨OwnI.nil, OwnI.nil, apart_nil _, Below.refl _ _⟩)
  have hW0 : W.heap.size < W0.heap.size := R0.out.lt
  have FX := Lib.hid (fun (k : Nat) (hk : k < l.length) => (show ∃ b off, a = some ⟨b, off, none⟩ ∧ ∀ Y, Below W0.heap.size W0 Y → Y.cell? ⟨b, off + k, none⟩ = some (.int .i64 ((l.getD k 0 : Nat) : Int)) ∧ Y.cell? ⟨W.heap.size, l.getD k 0 * 2 + 1, none⟩ = some (.int .i64 (r (l.getD k 0)).n) ∧ Y.cell? ⟨p.g, 32 + l.getD k 0, none⟩ = some (.int .i64 (s.ch (l.getD k 0)).off) ∧ Y.cell? ⟨p.g, 17 + l.getD k 0, none⟩ = some (.int .i64 (G c (17 + l.getD k 0))) from by
    have hmem : l.getD k 0 ∈ l := getD_mem hk
    have hn := HL.out _ hmem
    have h4 := H4.out
    rcases I0.out with h0 | ⟨b, off, rfl, hat⟩
    · have := congrArg List.length h0
      simp [idx] at this; rw [this] at hk; simp at hk
    · refine ⟨b, off, rfl, fun Y hY => ?_⟩
      have e1 := hat k (by simpa [idx] using hk)
      rw [show (idx l).getD k 0 = ((l.getD k 0 : Nat) : Int) by unfold idx; rw [List.getD_eq_getElem?_getD, List.getElem?_map, List.getD_eq_getElem?_getD, List.getElem?_eq_getElem hk]; rfl] at e1
      exact ⟨(hY.cell (p := ⟨b, off + k, none⟩) (cell_lt e1)).trans e1, (R0.out.below hY R0.out.lt).cell _ (raw8_n r _ (by omega)), (X0.out.on hY).ofc HC.out hn h4, (X0.out.on hY).cfg HC.out _ (by omega)⟩))
  have HBK := Lib.hid (fun (k : Nat) (hk : k < l.length) => HB.out (l.getD k 0) (getD_mem hk))
  have HNK := Lib.hid (fun (k : Nat) (hk : k < l.length) => (show l.getD k 0 < 4 from by have := HL.out _ (getD_mem hk); have := H4.out; omega))
  have HE := Lib.hid (fun (k : Nat) (hk : k < l.length) => (show eV s r (l.take k) ++ [(r (l.getD k 0)).n - (s.ch (l.getD k 0)).off] = eV s r (l.take (k + 1)) from take_snoc (fun i => (r i).n - (s.ch i).off) l k 0 hk))
  have HU := Lib.hid (fun (k : Nat) (hk : k < l.length) => (show wV c (l.take k) ++ [G c (17 + l.getD k 0)] = wV c (l.take (k + 1)) from take_snoc (fun i => G c (17 + i)) l k 0 hk))
  have HLE := Lib.hid (fun (k : Nat) => (show (eV s r (l.take k)).length ≤ 1000 ∧ (wV c (l.take k)).length ≤ 1000 from by unfold eV wV; simp only [List.length_map, List.length_take]; omega))
  go_wp2_with fail
  go_loopg [7, 8, 9] l.length (fun gg s7 s8 s9 wx => ∃ k : Nat, k + gg = l.length ∧ s9 = .int .i64 k ∧ Hid (Vt W0 wx (eV s r (l.take k)) (wV c (l.take k)) s7 s8))
  case atStart => exact ⟨0, by omega, rfl, V0⟩
  case round =>
    rename World => X
    obtain ⟨k, hkg, rfl, V⟩ := hrel
    have HKG := Lib.hid hkg
    clear V0
    by_cases hk : k < l.length
    · have hki : (k : Int) < (l.length : Int) := by omega
      obtain ⟨b, off, rfl, hF⟩ := FX.out k hk
      have FF := Lib.hid hF
      have hb4 := HBK.out k hk
      have hi4 := HNK.out k hk
      have e7 := HE.out k hk
      have e8 := HU.out k hk
      obtain ⟨len7, len8⟩ := HLE.out k
      have E7 := Lib.hid e7
      have E8 := Lib.hid e8
      clear hF HBK HNK HE HU HLE e7 e8 hkg
      generalize l.getD k 0 = i at *
      generalize (r i).n = rn at *
      generalize (s.ch i).off = of at *
      generalize G c (17 + i) = wt at *
      generalize eV s r (l.take k) = E at *
      generalize wV c (l.take k) = U at *
      have hii : (i : Int) < 4 := by omega
      go_wp2_with fail
      refine Ws.wp_app1 (aF := ?_) 20 18 19 37 38 92 [true, true, true, true, true, true, true, true, true, true, true, true, true, true, true, true, true, true, false, false] W0.heap.size 3 55 _ E (rn - of) _ _ (.tmp 19) (.tmp 37) (by kernel_rfl) (by kernel_rfl) (by kernel_rfl) (by kernel_rfl) (by kernel_rfl) rfl rfl rfl (by kernel_rfl) rfl rfl V.out.own1 V.out.below.size len7 Tryz.underlying55 intInfo rfl ?hq ?h1 ?h2 ?g1 ?g2 ?hend
      case hq =>
        intro Y hY
        obtain ⟨f1, f2, f3, -⟩ := FF.out Y (V.out.low1 hY)
        have k1 := cell_regrown f1
        have k2 := cell_regrown f2
        have k3 := cell_regrown f3
        clear f1 f2 f3 hY
        simp only [Lt.sel, Lt.putAll, List.take_succ_cons, List.take_zero, List.zip_cons_cons, List.zip_nil_right, List.foldl_cons, List.foldl_nil, Act.put, List.setIfInBounds_toArray, List.set_cons_succ, List.set_cons_zero]
        repeat (go_big_quiet_step (fail))
        exact rfl
      case h1 =>
        intro x0 x1 Z
        kernel_rfl
      case h2 => exact fun _ _ => ⟨by kernel_rfl, by kernel_rfl⟩
      case g1 => exact fun _ _ _ => by kernel_rfl
      case g2 => exact fun _ _ _ => by kernel_rfl
      case hend =>
        intro x0 v' Y O' mv B'
        have V1 := Lib.hid (V.out.one O' mv B')
        clear O' mv B' V
        rw [E7.out] at V1
        simp only [Lt.putAll, List.drop_succ_cons, List.drop_zero, List.zip_cons_cons, List.zip_nil_right, List.foldl_cons, List.foldl_nil, Act.put, List.setIfInBounds_toArray, List.set_cons_succ, List.set_cons_zero]
        go_wp2_with fail
        refine Ws.wp_app1 (aF := ?_) 13 11 12 50 51 92 [true, true, true, true, true, true, true, true, true, true, true, false, false] W0.heap.size 3 55 _ U wt _ _ (.tmp 39) (.tmp 50) (by kernel_rfl) (by kernel_rfl) (by kernel_rfl) (by kernel_rfl) (by kernel_rfl) rfl rfl rfl (by kernel_rfl) rfl rfl V1.out.own2 V1.out.below.size len8 Tryz.underlying55 intInfo rfl ?hq ?h1 ?h2 ?g1 ?g2 ?hend
        case hq =>
          intro Y2 hY
          obtain ⟨f1, -, -, f4⟩ := FF.out Y2 (V1.out.low2 hY)
          have k1 := cell_regrown f1
          have k4 := cell_regrown f4
          clear f1 f4 hY
          simp only [Lt.sel, Lt.putAll, List.take_succ_cons, List.take_zero, List.zip_cons_cons, List.zip_nil_right, List.foldl_cons, List.foldl_nil, Act.put, List.setIfInBounds_toArray, List.set_cons_succ, List.set_cons_zero]
          repeat (go_big_quiet_step (fail))
          exact rfl
        case h1 =>
          intro x0 x1 Z
          kernel_rfl
        case h2 => exact fun _ _ => ⟨by kernel_rfl, by kernel_rfl⟩
        case g1 => exact fun _ _ _ => by kernel_rfl
        case g2 => exact fun _ _ _ => by kernel_rfl
        case hend =>
          intro x1 v2 Y2 O2 mv2 B2
          have V2 := Lib.hid (V1.out.two O2 mv2 B2)
          clear O2 mv2 B2 V1
          rw [E8.out] at V2
          simp only [Lt.putAll, List.drop_succ_cons, List.drop_zero, List.zip_cons_cons, List.zip_nil_right, List.foldl_cons, List.foldl_nil, Act.put, List.setIfInBounds_toArray, List.set_cons_succ, List.set_cons_zero]
          go_wp2_with fail
          go_roundg (l.length - k - 1)
          case rel => exact ⟨k + 1, by have := HKG.out; omega, by go_num, V2⟩
          case measure => have := HKG.out; omega
    · have hke : k = l.length := by omega
      subst hke
      rw [List.take_length] at V
      have hki : ¬ (l.length : Int) < (l.length : Int) := by omega
      clear HBK HNK HE HU HLE hkg hk
      obtain ⟨a1, c1, rfl, i1, q1, m1⟩ := V.out.own1.form2
      obtain ⟨a2, c2, rfl, i2, q2, m2⟩ := V.out.own2.form2
      have XX := Lib.hid (X0.out.on V.out.below)
      have BX := Lib.hid (grow B0.out V.out.below)
      have IX := Lib.hid (I0.out.below V.out.below)
      have eL : (eV s r l).length = l.length := by simp [eV]
      have uL : (wV c l).length = l.length := by simp [wV]
      have cS := reg_call (w := X) (fun Z hZ => Vr.rvote_any (G c 1) (G c 2) (G c 12) a1 a2 c1 c2 (eV s r l) (wV c l) Z (by omega) (by omega) (i1.below hZ) (i2.below hZ))
      have I1 := Lib.hid i1
      have k1 := cell_regrown (XX.out.cfg HC.out 1 (by omega))
      have k2 := cell_regrown (XX.out.cfg HC.out 2 (by omega))
      have k12 := cell_regrown (XX.out.cfg HC.out 12 (by omega))
      have hsl := susV_lt (eV s r l) (G c 9)
      have hVV := HVV.out
      rw [eL] at hsl
      have hm := HM.out
      have CS := fun Z hZ => Pa.rsus_any a1 c1 (eV s r l) (G c 9) Z (by omega) hZ (by omega)
      have GP := Lib.hid (fun k (hk : k < l.length) Y (hY : Below X.heap.size X Y) => (show ∃ b off, a = some ⟨b, off, none⟩ ∧ Y.cell? ⟨b, off + k, none⟩ = some (.int .i64 ((l.getD k 0 : Nat) : Int)) from by
        obtain ⟨b, off, e, hF⟩ := FX.out k hk
        exact ⟨b, off, e, (hF Y (grow V.out.below hY)).1⟩))
      have LOW := Lib.hid (show ∀ ad, a = some ad → ad.block ≠ p.g from fun ad e q => HS.out ad e (q ▸ HIN.out.own.1))
      have N1 := Lib.hid (show ∀ ad, a1 = some ad → ¬ ad.block = p.g from fun ad e q => by
        have h1 := V.out.blk1 (g := ad.block) (by rw [e]; rfl)
        have h2 := HIN.out.low.1
        have h3 := HIN.out.big
        have h4 := B0.out.size
        omega)
      clear i1 i2 q1 q2 m1 m2 V FX X0 I0 B0 R0 eL uL hW0
      generalize Pa.sus (eV s r l) (G c 9) = SU at *
      generalize Vo.votb (G c 1) (G c 2) (G c 12) (eV s r l) (wV c l) = vb at *
      generalize Vo.votv (G c 1) (G c 2) (G c 12) (eV s r l) (wV c l) = vv at *
      generalize (eV s r l).length = eln at *
      generalize (wV c l).length = uln at *
      go_wp2_with fail
      refine wp_region_quiet_below (by kernel_rfl) (by kernel_rfl) ?_
      repeat (go_big_quiet_step (exact cS _ _))
      refine wpQuiet_nil ?_
      intro _ hw'
      obtain ⟨⟨dq, osq⟩, hw''⟩ := hw'
      subst hw''
      have BR := Lib.hid (below_regrown X dq osq)
      have XR := Lib.hid (XX.out.on BR.out)
      have IR := Lib.hid (I1.out.below BR.out)
      have BG := Lib.hid (grow BX.out BR.out)
      have GR := Lib.hid (fun k (hk : k < l.length) => GP.out k hk _ BR.out)
      clear k1 k2 k12 cS GP I1 XX BX IX BR
      generalize Sort.grow (redrawn X dq) osq = X1 at *
      have hend : ∃ X2 : World, RX X2 S p c { s with val := VV } ls ∧ But S W X2 ∧ IntsAt .i64 X2 a1 (eV s r l) ∧ (∀ k, k < l.length → ∃ b off, a = some ⟨b, off, none⟩ ∧ X2.cell? ⟨b, off + k, none⟩ = some (.int .i64 ((l.getD k 0 : Nat) : Int))) ∧ X2 = if vb = true then X1.setCell ⟨p.g, 22, none⟩ (.int .i64 vv) else X1 := by
        cases vb
        · rw [if_neg (by simp)] at hVV ⊢
          subst hVV
          exact ⟨X1, XR.out, But.of_below BG.out, IR.out, GR.out, rfl⟩
        · rw [if_pos rfl] at hVV ⊢
          subst hVV
          refine ⟨_, XR.out.setVal HC.out VV, (But.of_below BG.out).setCell (p := ⟨p.g, 22, none⟩) (Or.inl HIN.out.own.1) _, IR.out.but (only_cell (W := X1) p.g 22 _) N1.out, fun k hk => ?_, rfl⟩
          obtain ⟨b, off, e, h⟩ := GR.out k hk
          exact ⟨b, off, e, cell_but (only_cell (W := X1) p.g 22 _) h (fun q => LOW.out _ e q)⟩
      obtain ⟨X2, hx1, hx2, hx3, hx4, hx5⟩ := hend
      have H1 := Lib.hid hx1
      have H2 := Lib.hid hx2
      have k9 := hx1.cfg HC.out 9 (by omega)
      have CS2 := CS X2 hx3
      have H4' := Lib.hid hx4
      have f22 := XR.out.frz 22
      have c22 := XR.out.vac HC.out
      clear hx1 hx2 hx3 hx4 CS XR IR GR BG hVV
      cases vb
      · rw [if_neg (by simp)] at hx5
        subst hx5
        go_wp2_with fail
        refine CS2.mono ?_; rintro e X3 ⟨rfl, b3⟩
        have HB3 := Lib.hid b3
        clear CS2 b3 k9 f22 c22
        rcases hsl with hsu | ⟨hs1, hs2⟩
        · subst hsu
          have hSV : SV = -1 := by have := HSV.out; rw [if_pos (by omega)] at this; exact this
          go_wp2_with fail
          go_ret
          exact ⟨by rw [hSV]; rfl, H1.out.on HB3.out, H2.out.grow HB3.out⟩
        · obtain ⟨kk, rfl⟩ : ∃ kk : Nat, SU = kk := ⟨SU.toNat, by omega⟩
          have hSV : SV = ((l.getD kk 0 : Nat) : Int) := by have := HSV.out; rw [if_neg (by omega)] at this; simpa using this
          obtain ⟨b, off, rfl, hc⟩ := H4'.out kk (by omega)
          have hcc := (HB3.out.cell (p := ⟨b, off + kk, none⟩) (cell_lt hc)).trans hc
          clear hc
          go_wp2_with fail
          go_ret
          exact ⟨by rw [hSV]; rfl, H1.out.on HB3.out, H2.out.grow HB3.out⟩
      · rw [if_pos rfl] at hx5
        subst hx5
        go_wp2_with fail
        refine CS2.mono ?_; rintro e X3 ⟨rfl, b3⟩
        have HB3 := Lib.hid b3
        clear CS2 b3 k9 f22 c22
        rcases hsl with hsu | ⟨hs1, hs2⟩
        · subst hsu
          have hSV : SV = -1 := by have := HSV.out; rw [if_pos (by omega)] at this; exact this
          go_wp2_with fail
          go_ret
          exact ⟨by rw [hSV]; rfl, H1.out.on HB3.out, H2.out.grow HB3.out⟩
        · obtain ⟨kk, rfl⟩ : ∃ kk : Nat, SU = kk := ⟨SU.toNat, by omega⟩
          have hSV : SV = ((l.getD kk 0 : Nat) : Int) := by have := HSV.out; rw [if_neg (by omega)] at this; simpa using this
          obtain ⟨b, off, rfl, hc⟩ := H4'.out kk (by omega)
          have hcc := (HB3.out.cell (p := ⟨b, off + kk, none⟩) (cell_lt hc)).trans hc
          clear hc
          go_wp2_with fail
          go_ret
          exact ⟨by rw [hSV]; rfl, H1.out.on HB3.out, H2.out.grow HB3.out⟩
end Sg
end Go.Proofs.YtacclmfbkiadbaaGreat
