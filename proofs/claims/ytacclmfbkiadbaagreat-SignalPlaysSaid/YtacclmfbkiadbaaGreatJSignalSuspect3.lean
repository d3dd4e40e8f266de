/-
  What suspect of package signal returns (the sixth step of a cycle): a contract by walking the Go text. Conditions: how a signal lies; that the raw values of those that are in may be.
  What compare of package signal does (the fifth step of a cycle: miscompare): a contract by walking the Go text. Conditions: how a signal lies; that the raw values may be.
  What Learn of package equal does: its contract by walking the Go text. Conditions: where the trim lies; that its offset may be one.
-/
import Derived.Test.YtacclmfbkiadbaaGreatSignalThose
import Derived.Test.YtacclmfbkiadbaaGreatJOrderWithout2
import Derived.Test.YtacclmfbkiadbaaGreatSignalEnter
import Derived.Test.YtacclmfbkiadbaaGreatJJumpWalks4
namespace Go.Proofs.YtacclmfbkiadbaaGreat
set_option maxRecDepth 100000
open Go.ChangeShapes Go.WideShapes Go.ChangeAt Go.RowKit Go.Deep Go.Shelf
namespace Sg
open Cf (G CA Box)
set_option maxRecDepth 100000 in
set_option maxHeartbeats 3200000 in
theorem suspect_any {W : World} {b : Nat → Nat} {c : List Int} {s : Si} {u : Nat} {r : Nat → Rw} {sh : Int} {T : Nat → Int} {m : Int} (hc : c.length = 21) (hR : Cf.Right c) (hO : Ok c s) (hv : ∀ i, i < NN c → Fx.has m (i : Int) = true → Jp.val (r i).n = true) (H : Tn W b c s u r sh T m)
    (E U : List Int) (hE : ths m (fun i => (r i).n - (s.ch i).off) (List.range (NN c)) = E) (hU : ths m (fun i => (i : Int)) (List.range (NN c)) = U) (k : Int) (hk : Pa.sus E (G c 9) = k) (hkb : k = -1 ∨ 0 ≤ k ∧ k < U.length) (z : Int) (hz : (if k = -1 then -1 else U.getD k.toNat 0) = z) :
    Calls Tryz.prog 31 #[.pointer (some ⟨u, 0, none⟩)] W fun e w' => e = .returned (.int .i64 z) ∧ Below W.heap.size W w' := by
  have HH := Lib.hid H
  have HTE := Lib.hid (fun (Y : World) (h : Below W.heap.size W Y) => hE ▸ those_even hc hR hO hv (HH.out.on h))
  have HTN := Lib.hid (fun (Y : World) (h : Below W.heap.size W Y) => hU ▸ those_number hc hR (HH.out.on h))
  have HEL := Lib.hid (show E.length ≤ 9223372036854775807 by
    have h1 := ths_len m (fun i => (r i).n - (s.ch i).off) (List.range (NN c))
    rw [hE, List.length_range] at h1
    have := NN_34 hR; omega)
  have HSU := Lib.hid (fun (a : Option Addr) (cap : Nat) (Y : World) (hcap : E.length ≤ cap) (hcm : cap ≤ 9223372036854775807) (hV : IntsAt .i64 Y a E) => Pa.sus_any a cap E (G c 9) Y HEL.out hcap hcm hV)
  rw [hk] at HSU
  have HKB := Lib.hid hkb
  have HZ := Lib.hid hz
  clear hE hU hk hkb H hz
  go_enter Tryz.func31, Tryz.ntmps31
  go_wp2_with fail
  refine Wr.wp_writes (aF := ?_) [7] [3, 12] 24 2 [true, true, true, false, true, true, true, true, true, true, true, true, false, true] [true, true, true, false, true, true, true, true, true, true, true, true, false, true] [(7, undef), (16, .int .i64 k)]
    (fun j vs Y => Below W.heap.size W Y ∧ (j = 1 → ∃ a cap, vs.getD 0 undef = .slice a E.length cap ∧ E.length ≤ cap ∧ cap ≤ 9223372036854775807 ∧ IntsAt .i64 Y a E))
    (fun Y => Below W.heap.size W Y)
    (by kernel_rfl) (by kernel_rfl) (by kernel_rfl) (by kernel_rfl) (by kernel_rfl) ?ha ?hMC ?hMg ?h0 ?hq ?hq2 ?hw ?hend
  case hq =>
    intro Y hY
    have HY := HH.out.on hY
    have k1 := cell_regrown HY.sig
    have k2 := cell_regrown (HY.lie.cfg hc 9 (by omega))
    simp only [Lt.sel, Lt.putAll, List.map_cons, List.map_nil, List.zip_cons_cons, List.zip_nil_right, List.foldl_cons, List.foldl_nil, Act.put, List.setIfInBounds_toArray, List.set_cons_succ, List.set_cons_zero]
    repeat (go_big_quiet_step (fail))
    exact rfl
  case ha => rfl
  case hMC => exact fun k vs Y _ hM => hM.1
  case hMg =>
    rintro k vs Y Z ⟨h1, h2⟩ hC
    refine ⟨grow h1 hC.to, fun q => ?_⟩
    obtain ⟨a, cap, e, e1, e2, hi⟩ := h2 q
    exact ⟨a, cap, e, e1, e2, hi.below hC.to⟩
  case h0 => exact fun _ _ => ⟨Below.refl _ _, fun q => by omega⟩
  case hq2 => intro k vs Y h1 h2; simp at h2; omega
  case hw =>
    rintro (_ | _ | j) st o hs ho vs Y hl hM
    · obtain rfl : 3 = st := by simpa using hs
      obtain rfl := Option.some.inj ho
      match vs, hl with
      | [x1], _ =>
        refine Wr.wp_fn (f := 59) (args := #[.pointer (some ⟨u, 0, none⟩), .func (.func 62) #[.pointer (some ⟨u, 0, none⟩)] #[]]) (by kernel_rfl) (HTE.out Y hM.1) ?_
        rintro e Z ⟨a, cap, rfl, hcp, hi, hb⟩
        exact ⟨_, rfl, _, rfl, fun d hd hn => absurd (by cases hd; simp) hn, grow hM.1 hb, fun _ => ⟨a, cap, rfl, hcp.1, hcp.2, hi⟩⟩
    · obtain rfl : 12 = st := by simpa using hs
      obtain rfl := Option.some.inj ho
      match vs, hl with
      | [x1], _ =>
        obtain ⟨a1, cap1, e1, l1, l2, i1⟩ := hM.2 rfl
        obtain rfl : x1 = .slice a1 E.length cap1 := e1
        refine Wr.wp_fn (f := 65) (args := #[.slice a1 E.length cap1, .int .i64 (G c 9)]) (by kernel_rfl) (HSU.out a1 cap1 Y l1 l2 i1) ?_
        rintro e Z ⟨rfl, hb⟩
        exact ⟨_, rfl, _, rfl, fun d hd _ => (by cases hd; rfl), grow hM.1 hb, fun q => by omega⟩
    · simp at hs
  case hend =>
    intro vs Y hl hM
    match vs, hl with
    | [x1], _ =>
      have HM := Lib.hid hM.1
      have HTZ := Lib.hid (HTN.out Y hM.1)
      clear hM
      simp only [Lt.putAll, List.zip_cons_cons, List.zip_nil_right, List.foldl_cons, List.foldl_nil, Act.put, List.setIfInBounds_toArray, List.set_cons_succ, List.set_cons_zero]
      by_cases hk1 : k = -1
      · subst hk1
        go_wp2_with fail
        go_ret
        exact ⟨Fx.ret_int (by rw [← HZ.out]; simp), HM.out⟩
      · have hkk : 0 ≤ k ∧ k < U.length := HKB.out.resolve_left hk1
        have d1 : (k == -1) = false := by simpa using hk1
        obtain ⟨j, rfl⟩ : ∃ j : Nat, k = j := ⟨k.toNat, by omega⟩
        have hj : j < U.length := by omega
        have HX1 := Lib.hid hk1
        have HRT := Lib.hid (show z = U.getD j 0 by rw [← HZ.out, if_neg HX1.out, Int.toNat_natCast])
        clear hk1 hkk
        go_wp2_with (go_at_call 59; refine (HTZ.out).mono ?_; clear HTZ; rintro e Z ⟨a, cap, rfl, -, hi, hb⟩; obtain ⟨bb, oo, rfl, hcc⟩ := Or.resolve_left hi (by intro e; rw [e] at hj; simp at hj); have hc1 := hcc j hj; have HB2 := Lib.hid hb; clear hb hi hcc)
        go_ret
        exact ⟨Fx.ret_int (by rw [HRT.out]; simp [List.getD, hj]), grow HM.out HB2.out⟩
end Sg
end Go.Proofs.YtacclmfbkiadbaaGreat

namespace Go.Proofs.YtacclmfbkiadbaaGreat
set_option maxRecDepth 100000
open Go.ChangeShapes Go.WideShapes Go.ChangeAt Go.RowKit Go.Deep Go.Shelf
namespace Sg
open Cf (G CA)
open Rf
attribute [local go_sem] Oper.semAt_some
/-- The miscompare, by what compare asks. -/
def mcp (c : List Int) (s : Si) (r : Nat → Rw) (i : Nat) : Bool := decide (G c 9 < Fx.apart ((r i).n - (s.ch i).off) s.val)
def tC (c : List Int) (s : Si) (r : Nat → Rw) (T : Nat → Int) (i : Nat) : Int := T i + if mcp c s r i = true then 32 else 0
set_option maxRecDepth 100000 in
set_option maxHeartbeats 3200000 in
theorem compare_any {W : World} {b : Nat → Nat} {c : List Int} {s : Si} {u : Nat} {r : Nat → Rw} {sh : Int} {T : Nat → Int} {m : Int} (hc : c.length = 21) (hR : Cf.Right c) (hr : Rok c r) (hO : Ok c s) (hT : ∀ i, i < NN c → 0 ≤ T i ∧ T i < 32) (H : Tn W b c s u r sh T m) :
    Calls Tryz.prog 30 #[.pointer (some ⟨u, 0, none⟩)] W fun e w' => e = .returned (.tuple #[]) ∧ Tn w' b c s u r sh (mx ((List.range (NN c)).filter fun i => (r i).is) (tC c s r T) T) m ∧ But (Us b c u) W w' := by
  have hN := NN_34 hR
  refine (callsIn_wide (n := 5)).1 ?_
  refine callsIn_of_wp_marks Tryz.func30 rfl trivial ?_ rfl
  simp only [Tryz.ntmps30, List.size_toArray, List.length_cons, List.length_nil, Nat.reduceAdd, Nat.reduceSub, Array.replicate_succ, Array.replicate_zero, List.push_toArray, List.append_toArray, List.nil_append, List.cons_append]
  gi_wp2_with (refine ⟨trivial, ?_⟩; gi_at_call 51; refine (callsIn_wide.2 (valued_any _ _)).mono ?_; rintro e w2 ⟨rfl, rfl⟩)
  have b1 := (Boxed.new W 80 (.pointer (some ⟨u, 0, none⟩))).alloc (.cells #[.pointer (some ⟨u, 0, none⟩)] 80)
  have b3 := Boxed.new (W.alloc (.cells #[.pointer (some ⟨u, 0, none⟩)] 80)) 80 (.pointer (some ⟨u, 0, none⟩))
  rw [World.size_alloc] at b3
  have hB0 := ((Below.refl W.heap.size W).alloc (Nat.le_refl _) (.cells #[.pointer (some ⟨u, 0, none⟩)] 80)).alloc (by simp) (.cells #[.pointer (some ⟨u, 0, none⟩)] 80)
  have hsz : ((W.alloc (.cells #[.pointer (some ⟨u, 0, none⟩)] 80)).alloc (.cells #[.pointer (some ⟨u, 0, none⟩)] 80)).heap.size = W.heap.size + 2 := by simp
  generalize (W.alloc (.cells #[.pointer (some ⟨u, 0, none⟩)] 80)).alloc (.cells #[.pointer (some ⟨u, 0, none⟩)] 80) = W0 at *
  have H0 := H.on hB0
  have HL := Lib.hid (fun k (hk : Us b c u k) => H.lt hk)
  have HOU := Lib.hid H.out
  clear H
  refine range_goes rfl (by omega) (gf := 91) (lb := #[.pointer (some ⟨W.heap.size + 1, 0, none⟩)]) rfl trivial (enters_of Tryz.func91 (by kernel_rfl) rfl)
    (hseq_valued _ (by omega) hc hR H0 b3.cell) Kc.trans (fun X k o o' _ h2 h3 h4 => Kc.put h2 h3 h4) (fun _ => rfl)
    (fun pre X => Tn X b c s u r sh (mx (pre.map (·.1)) (tC c s r T) T) m ∧ Boxed X W.heap.size 80 (.pointer (some ⟨u, 0, none⟩)) ∧ But (Us b c u) W X)
    (fun _ _ _ => False)
    (OwnFrom.and (own_tn _ _ _ _) (OwnFrom.and (own_box _ _ _ _) (own_other _ _ _ (by omega))))
    (fun _ _ _ _ _ hs _ _ => hs)
    ⟨by rw [List.map_nil, mx_nil]; exact H0, b1, But.of_below hB0⟩
    (fun x => { tmps := #[.pointer (some ⟨u, 0, none⟩), .pointer (some ⟨W.heap.size, 0, none⟩), .int .i64 x.1, .pointer (some ⟨u, 0, none⟩), .func (.func 91) #[] #[.pointer (some ⟨W.heap.size + 1, 0, none⟩)], .int .i64 x.1, .pointer (some ⟨xb b x.1, 0, none⟩), undef, undef, undef, undef, undef, undef, undef, undef, undef, undef, undef, undef, undef, undef, undef, undef, undef, undef, undef, undef, undef, undef, undef], defers := [] }) ?assign ?body ?done ?stop
  case assign =>
    intro l x W K hK
    dsimp only [encv]
    gi_wp2
    exact hK
  case body =>
    rintro lp pre x X ⟨HX, bx1, hB⟩ hlen hG
    have hx := x.2.1
    have hx4 : x.1 < 4 := by omega
    have hxi : (x.1 : Int) < 4 := by omega
    have HMP := Lib.hid (show (pre ++ [x]).map (·.1) = pre.map (·.1) ++ [x.1] by simp)
    have eT : mx (pre.map (·.1)) (tC c s r T) T x.1 = T x.1 := mx_not hG
    have hv : Jp.val (r x.1).n = true := by
      have := hr x.1 hx x.2.2
      unfold Jp.val; simp; omega
    have KC := Lib.hid (fun (Y : World) (s' : Si) (T' : Nat → Int) (S : Nat → Prop) (hY : Tn Y b c s' u r sh T' m) (h : But S X Y) (hS : ∀ k, S k → Of b x.1 k ∨ k = u) => (show (KeepsFrom W0.heap.size X Y ∧ Kc (Dv b u (W.heap.size + 1) W0.heap.size) (W0.heap.size + 2) X Y) ∧ Boxed Y W.heap.size 80 (.pointer (some ⟨u, 0, none⟩)) ∧ But (Us b c u) W Y from by
      have hS' : ∀ k, S k → Us b c u k ∧ k ≠ b 2 := fun k q => (hS k q).elim (fun o => ⟨of_us hx o, fun e => HX.lie.apart3 hx (p := 2) (by omega) (e ▸ o)⟩) (fun e => ⟨.inr e, fun e2 => HX.out (by rw [← e, e2]; exact ⟨2, by unfold pn; omega, rfl⟩)⟩)
      refine ⟨round_kc HX hY h fun k q => ⟨by have := HL.out k (hS' k q).1; omega, by have := HL.out k (hS' k q).1; omega, (hS' k q).2⟩, ?_, hB.trans (h.mono fun k q => (hS' k q).1)⟩
      exact (h.block _ (by have := bx1.lt; omega) fun q => by have := HL.out _ (hS' _ q).1; omega).trans bx1))
    have HXX := Lib.hid HX
    have B1 := Lib.hid bx1
    have hTx := hT x.1 hx
    have CT := Lib.hid (fun (Y : World) (HY : Tn Y b c s u r sh (mx (pre.map (·.1)) (tC c s r T) T) m) => trip_any HY x.1 hx4 32 (mcp c s r x.1) (.inr (.inr rfl)) (by rw [eT]; exact hTx))
    rw [eT] at CT
    have HE := Lib.hid (fun (Y : World) (T' : Nat → Int) (HY : Tn Y b c s u r sh T' m) => even_any hc hR hO HY x.1 hx hv)
    have HQ := Lib.hid (show mcp c s r x.1 = decide (G c 9 < Fx.apart ((r x.1).n - (s.ch x.1).off) s.val) from rfl)
    have HS := Lib.hid (show T x.1 + (if mcp c s r x.1 = true then 32 else 0) = tC c s r T x.1 from rfl)
    rw [HS.out] at CT
    clear HX bx1 hB hlen H0 b1 b3 hB0 hTx
    generalize mcp c s r x.1 = q at *
    generalize (r x.1).n - (s.ch x.1).off = z at *
    have HA := Lib.hid (fun Z => Fx.apart_any z s.val Z)
    generalize Fx.apart z s.val = ap at *
    gi_wp2
    refine Wr.wpIn_w1 (aF := ?_) [22] 30 [true, true, true, true, true, true, true, true, true, true, true, true, true, true, true, true, true, true, true, true, true, true, false] 29 (.tuple #[])
      (fun k Y => match k with
        | 0 => But (fun _ => False) X Y
        | _ => But (fun k => k = u) X Y ∧ Tn Y b c s u r sh (tup (mx (pre.map (·.1)) (tC c s r T) T) x.1 (tC c s r T x.1)) m)
      (fun Y => But (fun k => k = u) X Y ∧ ∃ T', Tn Y b c s u r sh T' m)
      (by kernel_rfl) (by kernel_rfl) (by kernel_rfl) (by kernel_rfl) ?hL ?ha ?hMC ?hMg ?h0 ?hq ?hw ?hend
    case hq =>
      rintro Y ⟨hY, T', HY⟩
      have huW := HL.out u (.inr rfl)
      have k1 := cell_regrown ((show Boxed Y W.heap.size 80 (.pointer (some ⟨u, 0, none⟩)) from (hY.block _ B1.out.lt (by omega)).trans B1.out).cell)
      have k2 := cell_regrown HY.sig
      have k3 := cell_regrown (HY.lie.val hc)
      have k4 := cell_regrown (HY.lie.cfg hc 9 (by omega))
      have cE := reg_call (w := Y) (fun Z B => HE.out Z T' (HY.on B))
      have cA := reg_call (w := Y) (fun Z _ => (HA.out Z).mono fun e w' q => ⟨q.1, q.2 ▸ Below.refl _ _⟩)
      simp only [Lt.sel, Act.put, List.setIfInBounds_toArray, List.set_cons_succ, List.set_cons_zero]
      repeat (go_big_quiet_step (first | exact cE _ _ | exact cA _ _))
      exact rfl
    case ha => rfl
    case hL => rintro ⟨_, _, h⟩; exact h
    case hMC =>
      rintro (_ | k) Y hM
      · exact ⟨hM.mono fun _ q => q.elim, _, HXX.out.keep hM fun _ _ q => q⟩
      · exact ⟨hM.1, _, hM.2⟩
    case hMg =>
      rintro (_ | k) Y Z hM hC
      · exact hM.grow hC.to
      · exact ⟨hM.1.grow hC.to, hM.2.on hC.to⟩
    case h0 => exact But.refl _ _
    case hw =>
      rintro (_ | k) st o hs ho Y hM
      · obtain rfl : 22 = st := by simpa using hs
        obtain rfl := Option.some.inj ho
        refine Wr.wp_fn (f := 56) (args := #[.pointer (some ⟨u, 0, none⟩), .int .i64 x.1, .int .i64 32, .bool q]) ?_ (CT.out Y (HXX.out.keep hM fun _ _ q => q)) ?_
        · rw [HQ.out]; kernel_rfl
        · rintro e Z ⟨rfl, z1, z2⟩
          exact ⟨_, rfl, _, rfl, fun _ _ _ => rfl, (hM.mono fun _ q => q.elim).trans z2, z1⟩
      · simp at hs
    case hend =>
      intro Y hM
      have HM := Lib.hid (show But (fun k => k = u) X Y ∧ Tn Y b c s u r sh (tup (mx (pre.map (·.1)) (tC c s r T) T) x.1 (tC c s r T x.1)) m from hM)
      clear hM
      gi_wp2
      obtain ⟨⟨k1, k2⟩, k3, k4⟩ := KC.out Y _ _ _ HM.out.2 HM.out.1 fun k e => .inr e
      refine ⟨k1, k2, ?_, k3, k4⟩
      have := HM.out.2
      rw [tup_mx _ _ _ _ _ rfl] at this
      rw [HMP.out]; exact this
  case done =>
    rintro D ys X hD hys ⟨HX, -, hB⟩ hK
    gi_wp2
    refine ⟨by simp, .inl ⟨_, _, rfl, run_takeDeferred hK, ?_⟩⟩
    rw [hys] at HX
    exact ⟨_, results_none rfl _ _ _, rfl, tn_put HX hK rfl, but_put hB (by omega) _⟩
  case stop =>
    rintro D cc pre X _ _ h _
    exact h.elim
end Sg
end Go.Proofs.YtacclmfbkiadbaaGreat

namespace Go.Proofs.YtacclmfbkiadbaaGreat
set_option maxRecDepth 100000
open Go.ChangeShapes Go.WideShapes Go.ChangeAt Go.RowKit Go.Deep
namespace Ql
open Fx (ret_bool)
open Jp (val val_iff val_no out)
theorem learn_no (g : Nat) (n vote : Int) (w : World) (hb : both n vote = false) :
    Calls Tryz.prog 67 #[.pointer (some ⟨g, 0, none⟩), .int .i64 n, .int .i64 vote] w fun e w' => e = .returned (.int .i64 1) ∧ Below w.heap.size w w' := by
  have B := Lib.hid (Below.refl w.heap.size w)
  go_enter Tryz.func67, Tryz.ntmps67
  go_wp2_with (go_at_call 87; refine (outside_2 _ _ _ _ true _ (lit2 _ _ _ _) hb).mono ?_; rintro e w1 ⟨rfl, b1⟩; have B := Lib.hid (grow_alloc B.out b1); clear b1)
  go_ret
  exact ⟨rfl, by have := B.out; assumption⟩
set_option maxHeartbeats 3200000 in
theorem learn_yes (g : Nat) (auth gain offset n vote : Int) (w : World) (hT : VRow w g 151 (tri auth gain offset)) (hm : may auth gain = true) (ho : -auth ≤ offset ∧ offset ≤ auth) (hb : both n vote = true) :
    Calls Tryz.prog 67 #[.pointer (some ⟨g, 0, none⟩), .int .i64 n, .int .i64 vote] w fun e w' => e = .returned (.int .i64 0) ∧ VRow w' g 151 (tri auth gain (nx auth gain offset n vote)) ∧ Only g w w' := by
  obtain ⟨m1, m2, m3, m4⟩ := (may_iff _ _).1 hm
  obtain ⟨v1, v2⟩ := (both_iff _ _).1 hb
  have hv1 := (val_iff _).1 v1
  have hv2 := (val_iff _).1 v2
  have hst := step_bd ⟨m3, m4⟩ (show -2147483647 ≤ offset ∧ offset ≤ 2147483647 by omega) hb
  have hx := nx_yes (auth := auth) (gain := gain) (offset := offset) hb
  rw [← lim_clamp m1 m2 (by omega)] at hx
  generalize nx auth gain offset n vote = x at *
  have CS := fun W => Fx.shift_any (n - vote - offset) gain W
  generalize Fx.shift (n - vote - offset) gain = s at *
  have n1 : -9223372036854775808 ≤ n - vote := by omega
  have n2 : n - vote ≤ 9223372036854775807 := by omega
  have n3 : -9223372036854775808 ≤ n - vote - offset := by omega
  have n4 : n - vote - offset ≤ 9223372036854775807 := by omega
  have n5 : -9223372036854775808 ≤ offset + s := by omega
  have n6 : offset + s ≤ 9223372036854775807 := by omega
  have CC := fun W => Fx.clamp_any (offset + s) (-auth) auth W
  rw [← hx] at CC
  have n7 : -9223372036854775808 ≤ -auth := by omega
  have n8 : -auth ≤ 9223372036854775807 := by omega
  have B := Lib.hid (Below.refl w.heap.size w)
  have T := Lib.hid hT
  clear hT hm ho v1 v2 hv1 hv2 hst hx m1 m2 m3 m4
  go_enter Tryz.func67, Tryz.ntmps67
  go_wp2_with (go_at_call 87; refine (outside_2 _ _ _ _ false _ (lit2 _ _ _ _) hb).mono ?_; rintro e w1 ⟨rfl, b1⟩; have B := Lib.hid (grow_alloc B.out b1); have T1 := Lib.hid (T.out.below B.out T.out.lt); have c2 := T1.out.cell 2 (v := .int .i64 offset) rfl; have c1 := T1.out.cell 1 (v := .int .i64 gain) rfl; clear b1)
  go_quiet (exact Calls.quiet_of_same ((CS _).mono fun e w' q => ⟨q.1, q.2.symm⟩))
  have B2 := Lib.hid (below_drewN B.out nq)
  have T2 := Lib.hid (T1.out.drewN nq)
  clear c1 c2 CS B T1
  generalize w1.drewN nq = W2 at *
  have c0 := T2.out.cell 0 (v := .int .i64 auth) rfl
  have f2 := T2.out.frozen 2
  have c2 := T2.out.cell 2 (v := .int .i64 offset) rfl
  go_wp2_with fail
  refine Tail.wp_region_quiet_tail 14 (by kernel_rfl) (by kernel_rfl) ?_
  simp only [List.take_succ_cons, List.take_zero, List.drop_succ_cons, List.drop_zero]
  repeat (first | go_big_quiet_step (fail) | (go_big_quiet_want; go_big_quiet_op; refine ⟨_, (CC _).mono (fun e w' q => ⟨q.1, q.2.symm⟩), ?_⟩; go_big_quiet_on))
  refine wpQuiet_nil ?_
  clear CC
  go_wp2_with fail
  go_ret
  exact ⟨rfl, T2.out.set 2 (.int .i64 x), ((show But (· = g) w W2 from But.of_below B2.out).setCell (p := ⟨g, 2, none⟩) (Or.inl rfl) _).drew⟩
/-- Whatever comes. -/
theorem learn_any (g : Nat) (auth gain offset n vote : Int) (w : World) (hT : VRow w g 151 (tri auth gain offset)) (hm : may auth gain = true) (ho : -auth ≤ offset ∧ offset ≤ auth) :
    Calls Tryz.prog 67 #[.pointer (some ⟨g, 0, none⟩), .int .i64 n, .int .i64 vote] w fun e w' => e = .returned (.int .i64 (ce n vote)) ∧ VRow w' g 151 (tri auth gain (nx auth gain offset n vote)) ∧ Only g w w' := by
  cases hb : both n vote
  · rw [ce_no hb, nx_no hb]
    refine (learn_no g n vote w hb).mono ?_
    rintro e w' ⟨rfl, b⟩
    exact ⟨rfl, hT.below b hT.lt, But.of_below b⟩
  · rw [ce_yes hb]
    exact learn_yes g auth gain offset n vote w hT hm ho hb
end Ql
end Go.Proofs.YtacclmfbkiadbaaGreat
