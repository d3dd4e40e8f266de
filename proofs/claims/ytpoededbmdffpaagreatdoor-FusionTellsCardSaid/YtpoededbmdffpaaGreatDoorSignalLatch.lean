/-
  What latch of package signal does (the eighth step of a cycle): a contract by walking the Go text. Conditions: how a signal lies; that the latches may be.
-/
import Derived.Test.YtpoededbmdffpaaGreatDoorSignalLearn
import Derived.Test.YtpoededbmdffpaaGreatDoorLatchNext
import Derived.Deep.MidRow
namespace Go.Proofs.YtpoededbmdffpaaGreatDoor
set_option maxRecDepth 100000
open Go.ChangeShapes Go.WideShapes Go.ChangeAt Go.RowKit Go.Deep Go.Shelf
namespace Sg
open Cf (G CA)
open Rf
attribute [local go_sem] Oper.semAt_some
/-- A channel behind that step, and what happened to it. -/
def nA (c : List Int) (s : Si) (T : Nat → Int) (i : Nat) : Ch := { s.ch i with st := Lc.ste (G c 13) (G c 14) (G c 15) (s.ch i).st (T i != 0) }
def whT (c : List Int) (s : Si) (T : Nat → Int) (i : Nat) : Int := Lc.wha (G c 13) (G c 14) (G c 15) (s.ch i).st (T i != 0)
def ev4 (f : Nat → Int) : List Value := [.int .i64 (f 0), .int .i64 (f 1), .int .i64 (f 2), .int .i64 (f 3)]
theorem ev4_set {f : Nat → Int} {i : Nat} (hi : i < 4) (x : Int) : (ev4 f).set i (.int .i64 x) = ev4 fun k => if k = i then x else f k := by
  have : i = 0 ∨ i = 1 ∨ i = 2 ∨ i = 3 := by omega
  rcases this with rfl | rfl | rfl | rfl <;> rfl
theorem fne_of {c : List Int} {s : Si} (hR : Cf.Right c) (hO : Ok c s) {i : Nat} (hi : i < NN c) : Lc.fne (G c 13) (G c 14) (G c 15) (s.ch i).st = true := by
  unfold Lc.fne
  rw [Bool.and_eq_true]
  exact ⟨Lc.rgt_iff.2 (right_latch hR), Lc.fin_iff.2 (hO.ch i hi).st⟩
theorem chr_put {W : World} {b : Nat → Nat} {i : Nat} {s s' : Lc.St} (h : VRow W (xb b i) 201 (chr b i s)) :
    VRow (W.setCells (xb b i) 4 (lav s').toArray.toList) (xb b i) 201 (chr b i s') ∧ But (fun k => k = xb b i) W (W.setCells (xb b i) 4 (lav s').toArray.toList) :=
  ⟨((((h.set 4 (.bool s'.la)).set 5 (.bool s'.ou)).set 6 (.int .i64 s'.st)).set 7 (.int .i64 s'.cl)).set 8 (.int .i64 s'.bk),
    ((((But.setCell (p := ⟨_, 4, none⟩) (But.refl (· = _) W) (Or.inl rfl) (.bool s'.la)).setCell (p := ⟨_, 5, none⟩) (Or.inl rfl) (.bool s'.ou)).setCell (p := ⟨_, 6, none⟩) (Or.inl rfl) (.int .i64 s'.st)).setCell (p := ⟨_, 7, none⟩) (Or.inl rfl) (.int .i64 s'.cl)).setCell (p := ⟨_, 8, none⟩) (Or.inl rfl) (.int .i64 s'.bk)⟩
theorem size4 : (Tryz.prog.info? 22).map (·.size) = some 4 := by kernel_rfl
theorem agg4 (w : World) : (isAgg 22).run Tryz.prog w = .ok true w := by simp [isAgg, run_underlying Tryz.underlying22]
theorem Chan.latch {X Y : World} {b : Nat → Nat} {c : List Int} {s : Si} {i : Nat} (H : Lie X b c s) (hi : i < NN c) {S : Nat → Prop} (B : But S X Y) (hS : ∀ k, Of b i k → k ≠ xb b i → ¬ S k) {st : Lc.St} (ht : VRow Y (xb b i) 201 (chr b i st)) : Chan Y b c i { s.ch i with st := st } := by
  have C := H.chs i hi
  obtain ⟨n1, n2, n3, n4, n5, n6, n7, n8, n9, n10, n11⟩ := H.five hi
  obtain ⟨l, f1, f2⟩ := C.fw
  exact ⟨ht, C.jw.but B (hS _ (.inr (.inl rfl)) (Ne.symm n1)), ⟨l, f1.but B (hS _ (.inr (.inr (.inl rfl))) (Ne.symm n2)), f2⟩, C.fl.but B (hS _ (.inr (.inr (.inr (.inl rfl)))) (Ne.symm n3)), C.tr.but B (hS _ (.inr (.inr (.inr (.inr rfl)))) (Ne.symm n4))⟩
set_option maxRecDepth 100000 in
set_option maxHeartbeats 3200000 in
theorem latch_any {W : World} {b : Nat → Nat} {c : List Int} {s : Si} {u : Nat} {r : Nat → Rw} {sh : Int} {T : Nat → Int} {m : Int} (hc : c.length = 21) (hR : Cf.Right c) (hO : Ok c s) (H : Tn W b c s u r sh T m) :
    Calls Tryz.prog 122 #[.pointer (some ⟨u, 0, none⟩)] W fun e w' => e = .returned (.agg (ev4 (mx (List.range (NN c)) (whT c s T) z4)).toArray) ∧ Tn w' b c (mid s (List.range (NN c)) (nA c s T)) u r sh T m ∧ But (Us b c u) W w' := by
  have hN := NN_34 hR
  refine (callsIn_wide (n := 5)).1 ?_
  refine callsIn_of_wp_marks Tryz.func122 rfl trivial ?_ rfl
  simp only [Tryz.ntmps122, List.size_toArray, List.length_cons, List.length_nil, Nat.reduceAdd, Nat.reduceSub, Array.replicate_succ, Array.replicate_zero, List.push_toArray, List.append_toArray, List.nil_append, List.cons_append]
  have s0 := cel (.cells #[.int .i64 0, .int .i64 0, .int .i64 0, .int .i64 0] 22) (cel (.cells #[.int .i64 0, .int .i64 0, .int .i64 0, .int .i64 0] 22) (cel (.cells #[.pointer (some ⟨u, 0, none⟩)] 234) H.sig))
  gi_wp2_with (refine ⟨trivial, ?_⟩; gi_at_call 100; refine (callsIn_wide.2 (all_any _ _)).mono ?_; rintro e w2 ⟨rfl, rfl⟩)
  clear s0
  obtain ⟨z0, z1, z2, z3, hB0, hsz⟩ : Boxed ((((W.alloc (.cells #[.pointer (some ⟨u, 0, none⟩)] 234)).alloc (.cells #[.int .i64 0, .int .i64 0, .int .i64 0, .int .i64 0] 22)).alloc (.cells #[.int .i64 0, .int .i64 0, .int .i64 0, .int .i64 0] 22)).alloc (.cells #[.pointer (some ⟨b 0, 0, none⟩)] 90)) W.heap.size 234 (.pointer (some ⟨u, 0, none⟩)) ∧
      VRow ((((W.alloc (.cells #[.pointer (some ⟨u, 0, none⟩)] 234)).alloc (.cells #[.int .i64 0, .int .i64 0, .int .i64 0, .int .i64 0] 22)).alloc (.cells #[.int .i64 0, .int .i64 0, .int .i64 0, .int .i64 0] 22)).alloc (.cells #[.pointer (some ⟨b 0, 0, none⟩)] 90)) (W.heap.size + 1) 22 (ev4 z4) ∧
      VRow ((((W.alloc (.cells #[.pointer (some ⟨u, 0, none⟩)] 234)).alloc (.cells #[.int .i64 0, .int .i64 0, .int .i64 0, .int .i64 0] 22)).alloc (.cells #[.int .i64 0, .int .i64 0, .int .i64 0, .int .i64 0] 22)).alloc (.cells #[.pointer (some ⟨b 0, 0, none⟩)] 90)) (W.heap.size + 1 + 1) 22 (ev4 z4) ∧
      Boxed ((((W.alloc (.cells #[.pointer (some ⟨u, 0, none⟩)] 234)).alloc (.cells #[.int .i64 0, .int .i64 0, .int .i64 0, .int .i64 0] 22)).alloc (.cells #[.int .i64 0, .int .i64 0, .int .i64 0, .int .i64 0] 22)).alloc (.cells #[.pointer (some ⟨b 0, 0, none⟩)] 90)) (W.heap.size + 1 + 1 + 1) 90 (.pointer (some ⟨b 0, 0, none⟩)) ∧
      Below W.heap.size W ((((W.alloc (.cells #[.pointer (some ⟨u, 0, none⟩)] 234)).alloc (.cells #[.int .i64 0, .int .i64 0, .int .i64 0, .int .i64 0] 22)).alloc (.cells #[.int .i64 0, .int .i64 0, .int .i64 0, .int .i64 0] 22)).alloc (.cells #[.pointer (some ⟨b 0, 0, none⟩)] 90)) ∧
      ((((W.alloc (.cells #[.pointer (some ⟨u, 0, none⟩)] 234)).alloc (.cells #[.int .i64 0, .int .i64 0, .int .i64 0, .int .i64 0] 22)).alloc (.cells #[.int .i64 0, .int .i64 0, .int .i64 0, .int .i64 0] 22)).alloc (.cells #[.pointer (some ⟨b 0, 0, none⟩)] 90)).heap.size = W.heap.size + 4 := by
    have sv (X : World) (n : Nat) (y : TypeId) (cs : List Value) (hX : X.heap.size = n) : VRow (X.alloc (.cells cs.toArray y)) n y cs := hX ▸ VRow.new X cs y
    exact ⟨(((sv _ _ _ [_] (by simp)).alloc _).alloc _).alloc _, ((sv _ _ _ (ev4 z4) (by simp)).alloc _).alloc _, (sv _ _ _ (ev4 z4) (by simp)).alloc _, sv _ _ _ [_] (by simp), ((((Below.refl W.heap.size W).alloc (Nat.le_refl _) _).alloc (by simp) _).alloc (by simp; omega) _).alloc (by simp; omega) _, by simp⟩
  generalize (((W.alloc (.cells #[.pointer (some ⟨u, 0, none⟩)] 234)).alloc (.cells #[.int .i64 0, .int .i64 0, .int .i64 0, .int .i64 0] 22)).alloc (.cells #[.int .i64 0, .int .i64 0, .int .i64 0, .int .i64 0] 22)).alloc (.cells #[.pointer (some ⟨b 0, 0, none⟩)] 90) = W0 at *
  have H0 := H.on hB0
  have HL := Lib.hid (fun k (hk : Us b c u k) => H.lt hk)
  clear H
  refine range_goes rfl (by omega) (gf := 146) (lb := #[.pointer (some ⟨W.heap.size + 1 + 1 + 1, 0, none⟩)]) rfl trivial (enters_of Tryz.func146 (by kernel_rfl) rfl)
    (hseq_all (u := u) _ (by omega) hc hR H0.lie z3.cell) Kc.trans (fun X k o o' _ h2 h3 h4 => Kc.put h2 h3 h4) (fun _ => rfl)
    (fun pre X => Tn X b c (mid s (pre.map Fin.val) (nA c s T)) u r sh T m ∧ (Boxed X W.heap.size 234 (.pointer (some ⟨u, 0, none⟩)) ∧ VRow X (W.heap.size + 1) 22 (ev4 z4) ∧ VRow X (W.heap.size + 1 + 1) 22 (ev4 (mx (pre.map Fin.val) (whT c s T) z4))) ∧ But (Us b c u) W X)
    (fun _ _ _ => False)
    (OwnFrom.and (own_tn _ _ _ _) (OwnFrom.and (OwnFrom.and (own_box _ _ _ _) (OwnFrom.and (own_row _ _ _ _) (own_row _ _ _ _))) (own_other _ _ _ (by omega))))
    (fun _ _ _ _ _ hs _ _ => hs)
    ⟨by rw [List.map_nil, mid_nil]; exact H0, ⟨z0, z1, by rw [List.map_nil, mx_nil]; exact z2⟩, But.of_below hB0⟩
    (fun x => { tmps := #[.pointer (some ⟨u, 0, none⟩), .pointer (some ⟨W.heap.size, 0, none⟩), .pointer (some ⟨W.heap.size + 1, 0, none⟩), .pointer (some ⟨W.heap.size + 1 + 1, 0, none⟩), .int .i64 x.val, .pointer (some ⟨xb b x.val, 0, none⟩), .pointer (some ⟨u, 0, none⟩), .pointer (some ⟨u, 0, none⟩), .pointer (some ⟨u, 0, none⟩), .pointer (some ⟨b 0, 0, none⟩), .func (.func 146) #[] #[.pointer (some ⟨W.heap.size + 1 + 1 + 1, 0, none⟩)], .int .i64 x.val, .pointer (some ⟨xb b x.val, 0, none⟩), undef, undef, undef, undef, undef, undef, undef, undef, undef, undef, undef, undef, undef, undef, undef, undef, undef, undef, undef, undef, undef, undef, undef, undef, undef, undef, undef], defers := [] }) ?assign ?body ?done ?stop
  case assign =>
    intro l x W K hK
    dsimp only [enca]
    gi_wp2
    exact hK
  case body =>
    rintro lp pre x X ⟨HX, ⟨bx1, bx2, bx3⟩, hB⟩ hlen hG
    have hx := x.isLt
    have hx4 : x.val < 4 := by omega
    have hxi : (x.val : Int) < 4 := by omega
    have HMP := Lib.hid (show (pre ++ [x]).map Fin.val = pre.map Fin.val ++ [x.val] by simp)
    have eS : (mid s (pre.map Fin.val) (nA c s T)).ch x.val = s.ch x.val := mx_not hG
    have HXX := Lib.hid HX
    have B1 := Lib.hid bx1
    have B3 := Lib.hid bx3
    have CH := HX.lie.chs x.val hx
    rw [eS] at CH
    have HCH := Lib.hid CH
    have hfive := HX.lie.five hx
    have hxu : xb b x.val ≠ u := fun e => HX.out (e ▸ of_in hx (.inl rfl))
    have hxW : xb b x.val < W.heap.size := HL.out _ (of_us hx (.inl rfl))
    have huW : u < W.heap.size := HL.out u (.inr rfl)
    have h2W : b 2 < W.heap.size := HL.out _ (.inl ⟨2, by unfold pn; omega, rfl⟩)
    have h02 : b 2 ≠ xb b x.val := fun e => by have := HX.lie.inj 2 (3 + 5 * x.val) (by unfold pn; omega) (by unfold pn; omega) e; omega
    have KC := Lib.hid (fun (Y : World) (h : But (fun k => k = xb b x.val ∨ k = W.heap.size + 1 + 1) X Y) (hY : Tn Y b c (mid s (pre.map Fin.val ++ [x.val]) (nA c s T)) u r sh T m) => (show (KeepsFrom W0.heap.size X Y ∧ Kc (Dv b u (W.heap.size + 1 + 1 + 1) W0.heap.size) (W0.heap.size + 2) X Y) ∧ (Boxed Y W.heap.size 234 (.pointer (some ⟨u, 0, none⟩)) ∧ VRow Y (W.heap.size + 1) 22 (ev4 z4)) ∧ But (Us b c u) W Y from by
      refine ⟨round_kc HX hY h fun k q => ?_, ⟨(h.block _ bx1.lt (by rintro (e | e) <;> omega)).trans bx1, bx2.but h (by rintro (e | e) <;> omega)⟩, But.call hB h fun k q => ?_⟩
      · rcases q with e | e
        · exact ⟨by omega, by omega, by omega⟩
        · exact ⟨by omega, by omega, by omega⟩
      · rcases q with e | e
        · exact .inl (.inl (e ▸ of_in hx (.inl rfl)))
        · exact .inr (by omega)))
    have HNX := Lib.hid (fun W' => Lc.next_any (G c 13) (G c 14) (G c 15) (s.ch x.val).st (T x.val != 0) W')
    have hfn := fne_of hR hO hx
    have HN2 := Lib.hid (fun W' => (show Calls Tryz.prog 173 #[Lc.rlv (G c 13) (G c 14) (G c 15), Lc.stv (s.ch x.val).st, .bool (T x.val != 0)] W' fun e w' => e = .returned (.tuple #[.agg (lav (nA c s T x.val).st).toArray, .int .i64 (whT c s T x.val), .int .i64 0]) ∧ Below W'.heap.size W' w' from by
      refine (HNX.out W').mono ?_
      rintro e w' ⟨rfl, hb⟩
      refine ⟨?_, hb⟩
      unfold Lc.nxs Lc.nxw Lc.nxe
      rw [hfn]; rfl))
    have HRL := Lib.hid (fun (Y : World) (h : But (fun _ => False) X Y) => rule_any hc (HX.lie.keep h fun _ _ q => q))
    unfold Lc.rlv Lc.stv at HN2
    unfold Lc.rlv at HRL
    have HS := Lib.hid eS
    have HST := Lib.hid (show { s.ch x.val with st := (nA c s T x.val).st } = nA c s T x.val from rfl)
    clear HX bx1 bx2 bx3 hB hlen H0 z0 z1 z2 z3 hB0 HNX hfn CH eS
    generalize (nA c s T x.val).st = st' at *
    generalize G c 13 = L13 at *
    generalize G c 14 = L14 at *
    generalize G c 15 = L15 at *
    obtain ⟨wh, hwh⟩ : ∃ wh, whT c s T x.val = wh := ⟨_, rfl⟩
    rw [hwh] at HN2
    have HWH := Lib.hid hwh
    clear hwh
    gi_wp2
    refine Wr.wpIn_writes (aF := ?_) [] [25, 27] 40 0 [true, true, true, true, true, true, true, true, true, true, true, true, true, true, true, true, true, true, true, true, true, true, true, true, true, false, true, false] [false, true, false, false, false, false, false, false, false, false, false, false, false, false, false, false, false, false, false, false, true, true, true, true, true, false, true, false] []
      (fun k _ Y => match k with
        | 0 => But (fun _ => False) X Y
        | 1 => But (fun k => k = xb b x.val) X Y ∧ VRow Y (xb b x.val) 201 (chr b x.val st')
        | _ => But (fun k => k = xb b x.val ∨ k = W.heap.size + 1 + 1) X Y ∧ VRow Y (xb b x.val) 201 (chr b x.val st') ∧ VRow Y (W.heap.size + 1 + 1) 22 (ev4 (mx (pre.map Fin.val ++ [x.val]) (whT c s T) z4)))
      (fun Y => But (fun _ => False) X Y)
      (by kernel_rfl) (by kernel_rfl) (by kernel_rfl) (by kernel_rfl) (by kernel_rfl) (by kernel_rfl) ?hL ?ha ?hMC ?hMg ?h0 ?hq ?hq2 ?hw ?hend
    case hq =>
      intro Y hY
      have HY := HXX.out.keep hY fun _ _ q => q
      have k1 := cell_regrown ((show Boxed Y W.heap.size 234 (.pointer (some ⟨u, 0, none⟩)) from (hY.block _ B1.out.lt (fun q => q)).trans B1.out).cell)
      have k2 := cell_regrown HY.sig
      have k3 := cell_regrown (HY.trp hx4)
      have hOW := HCH.out.own.but hY fun q => q
      have k4 := cell_regrown (hOW.cell 4 (v := .bool (s.ch x.val).st.la) rfl)
      have k5 := cell_regrown (hOW.cell 5 (v := .bool (s.ch x.val).st.ou) rfl)
      have k6 := cell_regrown (hOW.cell 6 (v := .int .i64 (s.ch x.val).st.st) rfl)
      have k7 := cell_regrown (hOW.cell 7 (v := .int .i64 (s.ch x.val).st.cl) rfl)
      have k8 := cell_regrown (hOW.cell 8 (v := .int .i64 (s.ch x.val).st.bk) rfl)
      have cR := reg_call (w := Y) (fun Z B => HRL.out Z (hY.grow B))
      have cN := reg_call (w := Y) (fun Z _ => HN2.out Z)
      simp only [Lt.sel, Lt.putAll, List.map_nil, List.zip_nil_right, List.foldl_nil]
      repeat (go_big_quiet_step (first | exact cR _ _ | exact cN _ _))
      exact rfl
    case ha => rfl
    case hL => rintro ⟨_, _, h⟩; exact h
    case hMC =>
      rintro (_ | k) vs Y hk hM
      · exact hM
      · omega
    case hMg =>
      rintro (_ | _ | k) vs Y Z hM hC
      · exact hM.grow hC.to
      · exact ⟨hM.1.grow hC.to, hM.2.below hC.to hM.2.lt⟩
      · exact ⟨hM.1.grow hC.to, hM.2.1.below hC.to hM.2.1.lt, hM.2.2.below hC.to hM.2.2.lt⟩
    case h0 => exact fun _ _ => But.refl _ _
    case hq2 =>
      intro k vs Y _ _ _
      simp only [Lt.sel]
      repeat (go_big_quiet_step (fail))
      exact rfl
    case hw =>
      rintro (_ | _ | k) sx o hs ho vs Y hl hM
      · obtain rfl : 25 = sx := by simpa using hs
        obtain rfl := Option.some.inj ho
        obtain rfl : vs = [] := List.length_eq_zero_iff.1 hl
        have hOW := HCH.out.own.but hM fun q => q
        obtain ⟨p1, p2⟩ := chr_put (s' := st') hOW
        refine wp_store_mid 54 _ _ rfl (xb b x.val) 4 (lav st').toArray rfl rfl ?_ sizeL' (lav_one' _) ?_
        · intro j hj
          have hj : j < 5 := hj
          have : j = 0 ∨ j = 1 ∨ j = 2 ∨ j = 3 ∨ j = 4 := by omega
          rcases this with rfl | rfl | rfl | rfl | rfl <;> exact ⟨by rw [hOW.cell _ rfl]; rfl, hOW.frozen _⟩
        · exact ⟨_, rfl, fun d hd _ => (by cases hd), (hM.mono fun _ q => q.elim).trans p2, p1⟩
      · obtain rfl : 27 = sx := by simpa using hs
        obtain rfl := Option.some.inj ho
        obtain rfl : vs = [] := List.length_eq_zero_iff.1 hl
        have hE := B3.out.but hM.1 (by omega)
        have f1 := hE.frozen x.val
        have f2 : Y.cell? ⟨W.heap.size + 1 + 1, x.val, none⟩ = some (.int .i64 (mx (pre.map Fin.val) (whT c s T) z4 x.val)) := by
          have : x.val = 0 ∨ x.val = 1 ∨ x.val = 2 ∨ x.val = 3 := by omega
          rcases this with e | e | e | e <;> (rw [e]; exact hE.cell _ rfl)
        have HK := Lib.hid (show But (fun k => k = xb b x.val ∨ k = W.heap.size + 1 + 1) X (Y.setCell ⟨W.heap.size + 1 + 1, x.val, none⟩ (.int .i64 wh)) ∧ VRow (Y.setCell ⟨W.heap.size + 1 + 1, x.val, none⟩ (.int .i64 wh)) (xb b x.val) 201 (chr b x.val st') ∧ VRow (Y.setCell ⟨W.heap.size + 1 + 1, x.val, none⟩ (.int .i64 wh)) (W.heap.size + 1 + 1) 22 (ev4 (mx (pre.map Fin.val ++ [x.val]) (whT c s T) z4)) from
          ⟨(hM.1.mono fun _ q => .inl q).setCell (p := ⟨W.heap.size + 1 + 1, x.val, none⟩) (.inl (.inr rfl)) _, hM.2.setOther (p := ⟨W.heap.size + 1 + 1, x.val, none⟩) (by show xb b x.val ≠ W.heap.size + 1 + 1; omega) _, by
            rw [← mx_snoc _ _ _ _ wh HWH.out.symm, ← ev4_set hx4]
            exact hE.set x.val _⟩)
        clear hE hM
        simp only [Lt.putAll, List.zip_nil_right, List.foldl_nil]
        unfold Oper.wp
        go_simp
        exact HK.out
      · simp at hs
    case hend =>
      intro vs Y hl hM
      obtain rfl : vs = [] := List.length_eq_zero_iff.1 hl
      have HM := Lib.hid (show But (fun k => k = xb b x.val ∨ k = W.heap.size + 1 + 1) X Y ∧ VRow Y (xb b x.val) 201 (chr b x.val st') ∧ VRow Y (W.heap.size + 1 + 1) 22 (ev4 (mx (pre.map Fin.val ++ [x.val]) (whT c s T) z4)) from hM)
      clear hM
      have hin : ∀ k, In b c k → k < W.heap.size := fun k hk => HL.out k (.inl hk)
      have HC := Chan.latch HXX.out.lie hx HM.out.1 (by
        intro k hk hne
        have := hin k (of_in hx hk)
        rintro (e | e)
        · exact hne e
        · omega) HM.out.2.1
      have HY : Tn Y b c (put (mid s (pre.map Fin.val) (nA c s T)) x.val { (mid s (pre.map Fin.val) (nA c s T)).ch x.val with st := st' }) u r sh T m := ⟨HXX.out.lie.set' hx HM.out.1 (by
        intro k hk q
        have := hin k hk
        rcases q with e | e
        · exact .inl e
        · omega) HC, HXX.out.trn.but HM.out.1 (by rintro (e | e) <;> omega), HXX.out.out⟩
      rw [put_mid _ _ _ _ _ (show _ = nA c s T x.val by rw [HS.out]; exact HST.out)] at HY
      have HYY := Lib.hid HY
      clear HC HY
      simp only [Lt.putAll, List.zip_nil_right, List.foldl_nil]
      gi_wp2
      obtain ⟨⟨k1, k2⟩, ⟨k3, k4⟩, k5⟩ := KC.out Y HM.out.1 HYY.out
      refine ⟨k1, k2, ?_, ⟨k3, k4, ?_⟩, k5⟩
      · rw [HMP.out]; exact HYY.out
      · rw [HMP.out]; exact HM.out.2.2
  case done =>
    rintro D ys X hD hys ⟨HX, ⟨bx1, bx2, bx3⟩, hB⟩ hK
    rw [hys] at HX bx3
    obtain ⟨f, hf⟩ : ∃ f, mx (List.range (NN c)) (whT c s T) z4 = f := ⟨_, rfl⟩
    rw [hf] at bx3
    have HF := Lib.hid hf
    clear hf
    have HXX := Lib.hid HX
    have B2 := Lib.hid bx2
    have HBB := Lib.hid hB
    have k0 := bx3.cell 0 (v := .int .i64 (f 0)) rfl
    have k1 := bx3.cell 1 (v := .int .i64 (f 1)) rfl
    have k2 := bx3.cell 2 (v := .int .i64 (f 2)) rfl
    have k3 := bx3.cell 3 (v := .int .i64 (f 3)) rfl
    have c0 := bx2.cell 0 (v := .int .i64 0) rfl
    have c1 := bx2.cell 1 (v := .int .i64 0) rfl
    have c2 := bx2.cell 2 (v := .int .i64 0) rfl
    have c3 := bx2.cell 3 (v := .int .i64 0) rfl
    have f0 := bx2.frozen 0
    have f1 := bx2.frozen 1
    have f2 := bx2.frozen 2
    have f3 := bx2.frozen 3
    clear HX bx1 bx2 bx3 hB H0 z0 z1 z2 z3 hB0
    gi_wp2
    have HR := (((B2.out.set 0 (.int .i64 (f 0))).set 1 (.int .i64 (f 1))).set 2 (.int .i64 (f 2))).set 3 (.int .i64 (f 3))
    have HR' : VRow ((((X.setCell ⟨W.heap.size + 1, 0, none⟩ (.int .i64 (f 0))).setCell ⟨W.heap.size + 1, 1, none⟩ (.int .i64 (f 1))).setCell ⟨W.heap.size + 1, 2, none⟩ (.int .i64 (f 2))).setCell ⟨W.heap.size + 1, 3, none⟩ (.int .i64 (f 3))) (W.heap.size + 1) 22 (ev4 f) := HR
    have hBB : But (fun k => k = W.heap.size + 1) X ((((X.setCell ⟨W.heap.size + 1, 0, none⟩ (.int .i64 (f 0))).setCell ⟨W.heap.size + 1, 1, none⟩ (.int .i64 (f 1))).setCell ⟨W.heap.size + 1, 2, none⟩ (.int .i64 (f 2))).setCell ⟨W.heap.size + 1, 3, none⟩ (.int .i64 (f 3))) :=
      (((But.setCell (p := ⟨_, 0, none⟩) (But.refl (· = _) X) (Or.inl rfl) _).setCell (p := ⟨_, 1, none⟩) (Or.inl rfl) _).setCell (p := ⟨_, 2, none⟩) (Or.inl rfl) _).setCell (p := ⟨_, 3, none⟩) (Or.inl rfl) _
    clear HR c0 c1 c2 c3 f0 f1 f2 f3 k0 k1 k2 k3
    generalize (((X.setCell ⟨W.heap.size + 1, 0, none⟩ (.int .i64 (f 0))).setCell ⟨W.heap.size + 1, 1, none⟩ (.int .i64 (f 1))).setCell ⟨W.heap.size + 1, 2, none⟩ (.int .i64 (f 2))).setCell ⟨W.heap.size + 1, 3, none⟩ (.int .i64 (f 3)) = Y at *
    have hDX := (Array.getElem?_eq_some_iff.1 hK).1
    have hK' := (hBB.block D hDX (by omega)).trans hK
    have hBW : But (Us b c u) W Y := But.call HBB.out hBB fun k e => .inr (by omega)
    have HY := HXX.out.keep hBB fun k hk e => by have := HL.out k hk; omega
    refine ⟨by simp, .inl ⟨_, _, rfl, run_takeDeferred hK', ?_⟩⟩
    have HRP : VRow (Y.putObj D (.deferred none)) (W.heap.size + 1) 22 (ev4 f) := box_turned (but_grown (grownBy_putObj' Y D (.deferred none))) (fun k e => by cases e; exact ⟨_, hK', rfl⟩) HR'
    exact ⟨_, VB.ret1 (cs := ev4 f) rfl rfl (agg4 _) size4 HRP, by rw [HF.out], tn_put HY hK' rfl, but_put hBW (by omega) _⟩
  case stop =>
    rintro D cc pre X _ _ h _
    exact h.elim
end Sg
end Go.Proofs.YtpoededbmdffpaaGreatDoor
