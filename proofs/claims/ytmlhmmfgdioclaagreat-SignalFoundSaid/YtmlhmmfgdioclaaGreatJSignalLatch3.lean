/-
  What latch of package signal does (the eighth step of a cycle): a contract by walking the Go text. Conditions: how a signal lies; that the latches may be.
  What the walks of a cycle's steps share: what a round over the channels keeps, what abides the turn of what is no cells. No function of the program is walked here, but through the iterators' contracts. No conditions beyond those said.
  What right of package signal returns: a contract by walking the Go text (a range over the channels with a value). Conditions: how a signal lies.
-/
import Derived.Test.YtmlhmmfgdioclaaGreatSignalLearn
import Derived.Test.YtmlhmmfgdioclaaGreatLatchNext
import Derived.Deep.MidRow
import Derived.Test.YtmlhmmfgdioclaaGreatSignalState
import Derived.Test.YtmlhmmfgdioclaaGreatSignalWrites
namespace Go.Proofs.YtmlhmmfgdioclaaGreat
set_option maxRecDepth 100000
open Go.ChangeShapes Go.WideShapes Go.ChangeAt Go.RowKit Go.Deep Go.Shelf
namespace Sg
open Cf (G CA)
open Rf
attribute [local go_sem] Oper.semAt_some

/-- A channel behind that step, and what happened to it. -/
def nA (c : List Int) (s : Si) (T : Nat → Int) (i : Nat) : Ch := { s.ch i with st := Lc.ste (G c 13) (G c 14) (G c 15) (s.ch i).st (T i != 0) }
def whT (c : List Int) (s : Si) (T : Nat → Int) (i : Nat) : Int := Lc.wha (G c 13) (G c 14) (G c 15) (s.ch i).st (T i != 0)
def ev4 (f : Nat → Int) : List Value := [.int .i64 (f 0), .int .i64 (f 1), .int .i64 (f 2), .int .i64 (f 3)]
theorem ev4_set {f : Nat → Int} {i : Nat} (hi : i < 4) (x : Int) : (ev4 f).set i (.int .i64 x) = ev4 fun k => if k = i then x else f k := by
  have : i = 0 ∨ i = 1 ∨ i = 2 ∨ i = 3 := by omega
  rcases this with rfl | rfl | rfl | rfl <;> rfl
theorem fne_of {c : List Int} {s : Si} (hR : Cf.Right c) (hO : Ok c s) {i : Nat} (hi : i < NN c) : Lc.fne (G c 13) (G c 14) (G c 15) (s.ch i).st = true := by
  unfold Lc.fne
  rw [Bool.and_eq_true]
  exact ⟨Lc.rgt_iff.2 (right_latch hR), Lc.fin_iff.2 (hO.ch i hi).st⟩
theorem chr_put {W : World} {b : Nat → Nat} {i : Nat} {s s' : Lc.St} (h : VRow W (xb b i) 115 (chr b i s)) :
    VRow (W.setCells (xb b i) 4 (lav s').toArray.toList) (xb b i) 115 (chr b i s') ∧ But (fun k => k = xb b i) W (W.setCells (xb b i) 4 (lav s').toArray.toList) :=
  ⟨((((h.set 4 (.bool s'.la)).set 5 (.bool s'.ou)).set 6 (.int .i64 s'.st)).set 7 (.int .i64 s'.cl)).set 8 (.int .i64 s'.bk),
    ((((But.setCell (p := ⟨_, 4, none⟩) (But.refl (· = _) W) (Or.inl rfl) (.bool s'.la)).setCell (p := ⟨_, 5, none⟩) (Or.inl rfl) (.bool s'.ou)).setCell (p := ⟨_, 6, none⟩) (Or.inl rfl) (.int .i64 s'.st)).setCell (p := ⟨_, 7, none⟩) (Or.inl rfl) (.int .i64 s'.cl)).setCell (p := ⟨_, 8, none⟩) (Or.inl rfl) (.int .i64 s'.bk)⟩
theorem size4 : (Tryz.prog.info? 22).map (·.size) = some 4 := by kernel_rfl
theorem agg4 (w : World) : (isAgg 22).run Tryz.prog w = .ok true w := by simp [isAgg, run_underlying Tryz.underlying22]
theorem Chan.latch {X Y : World} {b : Nat → Nat} {c : List Int} {s : Si} {i : Nat} (H : Lie X b c s) (hi : i < NN c) {S : Nat → Prop} (B : But S X Y) (hS : ∀ k, Of b i k → k ≠ xb b i → ¬ S k) {st : Lc.St} (ht : VRow Y (xb b i) 115 (chr b i st)) : Chan Y b c i { s.ch i with st := st } := by
  have C := H.chs i hi
  obtain ⟨n1, n2, n3, n4, n5, n6, n7, n8, n9, n10, n11⟩ := H.five hi
  obtain ⟨l, f1, f2⟩ := C.fw
  exact ⟨ht, C.jw.but B (hS _ (.inr (.inl rfl)) (Ne.symm n1)), ⟨l, f1.but B (hS _ (.inr (.inr (.inl rfl))) (Ne.symm n2)), f2⟩, C.fl.but B (hS _ (.inr (.inr (.inr (.inl rfl)))) (Ne.symm n3)), C.tr.but B (hS _ (.inr (.inr (.inr (.inr rfl)))) (Ne.symm n4))⟩

set_option maxRecDepth 100000 in
set_option maxHeartbeats 3200000 in
theorem latch_any {W : World} {b : Nat → Nat} {c : List Int} {s : Si} {u : Nat} {r : Nat → Rw} {sh : Int} {T : Nat → Int} {m : Int} (hc : c.length = 21) (hR : Cf.Right c) (hO : Ok c s) (H : Tn W b c s u r sh T m) :
    Calls Tryz.prog 38 #[.pointer (some ⟨u, 0, none⟩)] W fun e w' => e = .returned (.agg (ev4 (mx (List.range (NN c)) (whT c s T) z4)).toArray) ∧ Tn w' b c (mid s (List.range (NN c)) (nA c s T)) u r sh T m ∧ But (Us b c u) W w' := by
  have hN := NN_34 hR
  refine (callsIn_wide (n := 5)).1 ?_
  refine callsIn_of_wp_marks Tryz.func38 rfl trivial ?_ rfl
  simp only [Tryz.ntmps38, List.size_toArray, List.length_cons, List.length_nil, Nat.reduceAdd, Nat.reduceSub, Array.replicate_succ, Array.replicate_zero, List.push_toArray, List.append_toArray, List.nil_append, List.cons_append]
  have s0 := cel (.cells #[.int .i64 0, .int .i64 0, .int .i64 0, .int .i64 0] 22) (cel (.cells #[.int .i64 0, .int .i64 0, .int .i64 0, .int .i64 0] 22) (cel (.cells #[.pointer (some ⟨u, 0, none⟩)] 93) H.sig))
  gi_wp2_with (refine ⟨trivial, ?_⟩; gi_at_call 45; refine (callsIn_wide.2 (all_any _ _)).mono ?_; rintro e w2 ⟨rfl, rfl⟩)
  clear s0
  obtain ⟨z0, z1, z2, z3, hB0, hsz⟩ : Boxed ((((W.alloc (.cells #[.pointer (some ⟨u, 0, none⟩)] 93)).alloc (.cells #[.int .i64 0, .int .i64 0, .int .i64 0, .int .i64 0] 22)).alloc (.cells #[.int .i64 0, .int .i64 0, .int .i64 0, .int .i64 0] 22)).alloc (.cells #[.pointer (some ⟨b 0, 0, none⟩)] 27)) W.heap.size 93 (.pointer (some ⟨u, 0, none⟩)) ∧
      VRow ((((W.alloc (.cells #[.pointer (some ⟨u, 0, none⟩)] 93)).alloc (.cells #[.int .i64 0, .int .i64 0, .int .i64 0, .int .i64 0] 22)).alloc (.cells #[.int .i64 0, .int .i64 0, .int .i64 0, .int .i64 0] 22)).alloc (.cells #[.pointer (some ⟨b 0, 0, none⟩)] 27)) (W.heap.size + 1) 22 (ev4 z4) ∧
      VRow ((((W.alloc (.cells #[.pointer (some ⟨u, 0, none⟩)] 93)).alloc (.cells #[.int .i64 0, .int .i64 0, .int .i64 0, .int .i64 0] 22)).alloc (.cells #[.int .i64 0, .int .i64 0, .int .i64 0, .int .i64 0] 22)).alloc (.cells #[.pointer (some ⟨b 0, 0, none⟩)] 27)) (W.heap.size + 1 + 1) 22 (ev4 z4) ∧
      Boxed ((((W.alloc (.cells #[.pointer (some ⟨u, 0, none⟩)] 93)).alloc (.cells #[.int .i64 0, .int .i64 0, .int .i64 0, .int .i64 0] 22)).alloc (.cells #[.int .i64 0, .int .i64 0, .int .i64 0, .int .i64 0] 22)).alloc (.cells #[.pointer (some ⟨b 0, 0, none⟩)] 27)) (W.heap.size + 1 + 1 + 1) 27 (.pointer (some ⟨b 0, 0, none⟩)) ∧
      Below W.heap.size W ((((W.alloc (.cells #[.pointer (some ⟨u, 0, none⟩)] 93)).alloc (.cells #[.int .i64 0, .int .i64 0, .int .i64 0, .int .i64 0] 22)).alloc (.cells #[.int .i64 0, .int .i64 0, .int .i64 0, .int .i64 0] 22)).alloc (.cells #[.pointer (some ⟨b 0, 0, none⟩)] 27)) ∧
      ((((W.alloc (.cells #[.pointer (some ⟨u, 0, none⟩)] 93)).alloc (.cells #[.int .i64 0, .int .i64 0, .int .i64 0, .int .i64 0] 22)).alloc (.cells #[.int .i64 0, .int .i64 0, .int .i64 0, .int .i64 0] 22)).alloc (.cells #[.pointer (some ⟨b 0, 0, none⟩)] 27)).heap.size = W.heap.size + 4 := by
    have sv (X : World) (n : Nat) (y : TypeId) (cs : List Value) (hX : X.heap.size = n) : VRow (X.alloc (.cells cs.toArray y)) n y cs := hX ▸ VRow.new X cs y
    exact ⟨(((sv _ _ _ [_] (by simp)).alloc _).alloc _).alloc _, ((sv _ _ _ (ev4 z4) (by simp)).alloc _).alloc _, (sv _ _ _ (ev4 z4) (by simp)).alloc _, sv _ _ _ [_] (by simp), ((((Below.refl W.heap.size W).alloc (Nat.le_refl _) _).alloc (by simp) _).alloc (by simp; omega) _).alloc (by simp; omega) _, by simp⟩
  generalize (((W.alloc (.cells #[.pointer (some ⟨u, 0, none⟩)] 93)).alloc (.cells #[.int .i64 0, .int .i64 0, .int .i64 0, .int .i64 0] 22)).alloc (.cells #[.int .i64 0, .int .i64 0, .int .i64 0, .int .i64 0] 22)).alloc (.cells #[.pointer (some ⟨b 0, 0, none⟩)] 27) = W0 at *
  have H0 := H.on hB0
  have HL := Lib.hid (fun k (hk : Us b c u k) => H.lt hk)
  clear H
  refine range_goes rfl (by omega) (gf := 90) (lb := #[.pointer (some ⟨W.heap.size + 1 + 1 + 1, 0, none⟩)]) rfl trivial (enters_of Tryz.func90 (by kernel_rfl) rfl)
    (hseq_all (u := u) _ (by omega) hc hR H0.lie z3.cell) Kc.trans (fun X k o o' _ h2 h3 h4 => Kc.put h2 h3 h4) (fun _ => rfl)
    (fun pre X => Tn X b c (mid s (pre.map Fin.val) (nA c s T)) u r sh T m ∧ (Boxed X W.heap.size 93 (.pointer (some ⟨u, 0, none⟩)) ∧ VRow X (W.heap.size + 1) 22 (ev4 z4) ∧ VRow X (W.heap.size + 1 + 1) 22 (ev4 (mx (pre.map Fin.val) (whT c s T) z4))) ∧ But (Us b c u) W X)
    (fun _ _ _ => False)
    (OwnFrom.and (own_tn _ _ _ _) (OwnFrom.and (OwnFrom.and (own_box _ _ _ _) (OwnFrom.and (own_row _ _ _ _) (own_row _ _ _ _))) (own_other _ _ _ (by omega))))
    (fun _ _ _ _ _ hs _ _ => hs)
    ⟨by rw [List.map_nil, mid_nil]; exact H0, ⟨z0, z1, by rw [List.map_nil, mx_nil]; exact z2⟩, But.of_below hB0⟩
    (fun x => { tmps := #[.pointer (some ⟨u, 0, none⟩), .pointer (some ⟨W.heap.size, 0, none⟩), .pointer (some ⟨W.heap.size + 1, 0, none⟩), .pointer (some ⟨W.heap.size + 1 + 1, 0, none⟩), .int .i64 x.val, .pointer (some ⟨xb b x.val, 0, none⟩), .pointer (some ⟨u, 0, none⟩), .pointer (some ⟨u, 0, none⟩), .pointer (some ⟨u, 0, none⟩), .pointer (some ⟨b 0, 0, none⟩), .func (.func 90) #[] #[.pointer (some ⟨W.heap.size + 1 + 1 + 1, 0, none⟩)], .int .i64 x.val, .pointer (some ⟨xb b x.val, 0, none⟩), undef, undef, undef, undef, undef, undef, undef, undef, undef, undef, undef, undef, undef, undef, undef, undef, undef, undef, undef, undef, undef, undef, undef, undef, undef, undef, undef], defers := [] }) ?assign ?body ?done ?stop
  case assign =>
    intro l x W K hK
    dsimp only [enca]
    gi_wp2
    exact hK
  case body =>
    rintro lp pre x X ⟨HX, ⟨bx1, bx2, bx3⟩, hB⟩ hlen hG
    have hx := x.isLt
    have hx4 : x.val < 4 := by omega
    have hxi : (x.val : Int) < 4 := by omega
    have HMP := Lib.hid (show (pre ++ [x]).map Fin.val = pre.map Fin.val ++ [x.val] by simp)
    have eS : (mid s (pre.map Fin.val) (nA c s T)).ch x.val = s.ch x.val := mx_not hG
    have HXX := Lib.hid HX
    have B1 := Lib.hid bx1
    have B3 := Lib.hid bx3
    have CH := HX.lie.chs x.val hx
    rw [eS] at CH
    have HCH := Lib.hid CH
    have hfive := HX.lie.five hx
    have hxu : xb b x.val ≠ u := fun e => HX.out (e ▸ of_in hx (.inl rfl))
    have hxW : xb b x.val < W.heap.size := HL.out _ (of_us hx (.inl rfl))
    have huW : u < W.heap.size := HL.out u (.inr rfl)
    have h2W : b 2 < W.heap.size := HL.out _ (.inl ⟨2, by unfold pn; omega, rfl⟩)
    have h02 : b 2 ≠ xb b x.val := fun e => by have := HX.lie.inj 2 (3 + 5 * x.val) (by unfold pn; omega) (by unfold pn; omega) e; omega
    have KC := Lib.hid (fun (Y : World) (h : But (fun k => k = xb b x.val ∨ k = W.heap.size + 1 + 1) X Y) (hY : Tn Y b c (mid s (pre.map Fin.val ++ [x.val]) (nA c s T)) u r sh T m) => (show (KeepsFrom W0.heap.size X Y ∧ Kc (Dv b u (W.heap.size + 1 + 1 + 1) W0.heap.size) (W0.heap.size + 2) X Y) ∧ (Boxed Y W.heap.size 93 (.pointer (some ⟨u, 0, none⟩)) ∧ VRow Y (W.heap.size + 1) 22 (ev4 z4)) ∧ But (Us b c u) W Y from by
      refine ⟨round_kc HX hY h fun k q => ?_, ⟨(h.block _ bx1.lt (by rintro (e | e) <;> omega)).trans bx1, bx2.but h (by rintro (e | e) <;> omega)⟩, But.call hB h fun k q => ?_⟩
      · rcases q with e | e
        · exact ⟨by omega, by omega, by omega⟩
        · exact ⟨by omega, by omega, by omega⟩
      · rcases q with e | e
        · exact .inl (.inl (e ▸ of_in hx (.inl rfl)))
        · exact .inr (by omega)))
    have HNX := Lib.hid (fun W' => Lc.next_any (G c 13) (G c 14) (G c 15) (s.ch x.val).st (T x.val != 0) W')
    have hfn := fne_of hR hO hx
    have HN2 := Lib.hid (fun W' => (show Calls Tryz.prog 75 #[Lc.rlv (G c 13) (G c 14) (G c 15), Lc.stv (s.ch x.val).st, .bool (T x.val != 0)] W' fun e w' => e = .returned (.tuple #[.agg (lav (nA c s T x.val).st).toArray, .int .i64 (whT c s T x.val), .int .i64 0]) ∧ Below W'.heap.size W' w' from by
      refine (HNX.out W').mono ?_
      rintro e w' ⟨rfl, hb⟩
      refine ⟨?_, hb⟩
      unfold Lc.nxs Lc.nxw Lc.nxe
      rw [hfn]; rfl))
    have HRL := Lib.hid (fun (Y : World) (h : But (fun _ => False) X Y) => rule_any hc (HX.lie.keep h fun _ _ q => q))
    unfold Lc.rlv Lc.stv at HN2
    unfold Lc.rlv at HRL
    have HS := Lib.hid eS
    have HST := Lib.hid (show { s.ch x.val with st := (nA c s T x.val).st } = nA c s T x.val from rfl)
    clear HX bx1 bx2 bx3 hB hlen H0 z0 z1 z2 z3 hB0 HNX hfn CH eS
    generalize (nA c s T x.val).st = st' at *
    generalize G c 13 = L13 at *
    generalize G c 14 = L14 at *
    generalize G c 15 = L15 at *
    obtain ⟨wh, hwh⟩ : ∃ wh, whT c s T x.val = wh := ⟨_, rfl⟩
    rw [hwh] at HN2
    have HWH := Lib.hid hwh
    clear hwh
    gi_wp2
    refine Wr.wpIn_writes (aF := ?_) [] [25, 27] 40 0 [true, true, true, true, true, true, true, true, true, true, true, true, true, true, true, true, true, true, true, true, true, true, true, true, true, false, true, false] [false, true, false, false, false, false, false, false, false, false, false, false, false, false, false, false, false, false, false, false, true, true, true, true, true, false, true, false] []
      (fun k _ Y => match k with
        | 0 => But (fun _ => False) X Y
        | 1 => But (fun k => k = xb b x.val) X Y ∧ VRow Y (xb b x.val) 115 (chr b x.val st')
        | _ => But (fun k => k = xb b x.val ∨ k = W.heap.size + 1 + 1) X Y ∧ VRow Y (xb b x.val) 115 (chr b x.val st') ∧ VRow Y (W.heap.size + 1 + 1) 22 (ev4 (mx (pre.map Fin.val ++ [x.val]) (whT c s T) z4)))
      (fun Y => But (fun _ => False) X Y)
      (by kernel_rfl) (by kernel_rfl) (by kernel_rfl) (by kernel_rfl) (by kernel_rfl) (by kernel_rfl) ?hL ?ha ?hMC ?hMg ?h0 ?hq ?hq2 ?hw ?hend
    case hq =>
      intro Y hY
      have HY := HXX.out.keep hY fun _ _ q => q
      have k1 := cell_regrown ((show Boxed Y W.heap.size 93 (.pointer (some ⟨u, 0, none⟩)) from (hY.block _ B1.out.lt (fun q => q)).trans B1.out).cell)
      have k2 := cell_regrown HY.sig
      have k3 := cell_regrown (HY.trp hx4)
      have hOW := HCH.out.own.but hY fun q => q
      have k4 := cell_regrown (hOW.cell 4 (v := .bool (s.ch x.val).st.la) rfl)
      have k5 := cell_regrown (hOW.cell 5 (v := .bool (s.ch x.val).st.ou) rfl)
      have k6 := cell_regrown (hOW.cell 6 (v := .int .i64 (s.ch x.val).st.st) rfl)
      have k7 := cell_regrown (hOW.cell 7 (v := .int .i64 (s.ch x.val).st.cl) rfl)
      have k8 := cell_regrown (hOW.cell 8 (v := .int .i64 (s.ch x.val).st.bk) rfl)
      have cR := reg_call (w := Y) (fun Z B => HRL.out Z (hY.grow B))
      have cN := reg_call (w := Y) (fun Z _ => HN2.out Z)
      simp only [Lt.sel, Lt.putAll, List.map_nil, List.zip_nil_right, List.foldl_nil]
      repeat (go_big_quiet_step (first | exact cR _ _ | exact cN _ _))
      exact rfl
    case ha => rfl
    case hL => rintro ⟨_, _, h⟩; exact h
    case hMC =>
      rintro (_ | k) vs Y hk hM
      · exact hM
      · omega
    case hMg =>
      rintro (_ | _ | k) vs Y Z hM hC
      · exact hM.grow hC.to
      · exact ⟨hM.1.grow hC.to, hM.2.below hC.to hM.2.lt⟩
      · exact ⟨hM.1.grow hC.to, hM.2.1.below hC.to hM.2.1.lt, hM.2.2.below hC.to hM.2.2.lt⟩
    case h0 => exact fun _ _ => But.refl _ _
    case hq2 =>
      intro k vs Y _ _ _
      simp only [Lt.sel]
      repeat (go_big_quiet_step (fail))
      exact rfl
    case hw =>
      rintro (_ | _ | k) sx o hs ho vs Y hl hM
      · obtain rfl : 25 = sx := by simpa using hs
        obtain rfl := Option.some.inj ho
        obtain rfl : vs = [] := List.length_eq_zero_iff.1 hl
        have hOW := HCH.out.own.but hM fun q => q
        obtain ⟨p1, p2⟩ := chr_put (s' := st') hOW
        refine wp_store_mid 62 _ _ rfl (xb b x.val) 4 (lav st').toArray rfl rfl ?_ sizeL' (lav_one' _) ?_
        · intro j hj
          have hj : j < 5 := hj
          have : j = 0 ∨ j = 1 ∨ j = 2 ∨ j = 3 ∨ j = 4 := by omega
          rcases this with rfl | rfl | rfl | rfl | rfl <;> exact ⟨by rw [hOW.cell _ rfl]; rfl, hOW.frozen _⟩
        · exact ⟨_, rfl, fun d hd _ => (by cases hd), (hM.mono fun _ q => q.elim).trans p2, p1⟩
      · obtain rfl : 27 = sx := by simpa using hs
        obtain rfl := Option.some.inj ho
        obtain rfl : vs = [] := List.length_eq_zero_iff.1 hl
        have hE := B3.out.but hM.1 (by omega)
        have f1 := hE.frozen x.val
        have f2 : Y.cell? ⟨W.heap.size + 1 + 1, x.val, none⟩ = some (.int .i64 (mx (pre.map Fin.val) (whT c s T) z4 x.val)) := by
          have : x.val = 0 ∨ x.val = 1 ∨ x.val = 2 ∨ x.val = 3 := by omega
          rcases this with e | e | e | e <;> (rw [e]; exact hE.cell _ rfl)
        have HK := Lib.hid (show But (fun k => k = xb b x.val ∨ k = W.heap.size + 1 + 1) X (Y.setCell ⟨W.heap.size + 1 + 1, x.val, none⟩ (.int .i64 wh)) ∧ VRow (Y.setCell ⟨W.heap.size + 1 + 1, x.val, none⟩ (.int .i64 wh)) (xb b x.val) 115 (chr b x.val st') ∧ VRow (Y.setCell ⟨W.heap.size + 1 + 1, x.val, none⟩ (.int .i64 wh)) (W.heap.size + 1 + 1) 22 (ev4 (mx (pre.map Fin.val ++ [x.val]) (whT c s T) z4)) from
          ⟨(hM.1.mono fun _ q => .inl q).setCell (p := ⟨W.heap.size + 1 + 1, x.val, none⟩) (.inl (.inr rfl)) _, hM.2.setOther (p := ⟨W.heap.size + 1 + 1, x.val, none⟩) (by show xb b x.val ≠ W.heap.size + 1 + 1; omega) _, by
            rw [← mx_snoc _ _ _ _ wh HWH.out.symm, ← ev4_set hx4]
            exact hE.set x.val _⟩)
        clear hE hM
        simp only [Lt.putAll, List.zip_nil_right, List.foldl_nil]
        unfold Oper.wp
        go_simp
        exact HK.out
      · simp at hs
    case hend =>
      intro vs Y hl hM
      obtain rfl : vs = [] := List.length_eq_zero_iff.1 hl
      have HM := Lib.hid (show But (fun k => k = xb b x.val ∨ k = W.heap.size + 1 + 1) X Y ∧ VRow Y (xb b x.val) 115 (chr b x.val st') ∧ VRow Y (W.heap.size + 1 + 1) 22 (ev4 (mx (pre.map Fin.val ++ [x.val]) (whT c s T) z4)) from hM)
      clear hM
      have hin : ∀ k, In b c k → k < W.heap.size := fun k hk => HL.out k (.inl hk)
      have HC := Chan.latch HXX.out.lie hx HM.out.1 (by
        intro k hk hne
        have := hin k (of_in hx hk)
        rintro (e | e)
        · exact hne e
        · omega) HM.out.2.1
      have HY : Tn Y b c (put (mid s (pre.map Fin.val) (nA c s T)) x.val { (mid s (pre.map Fin.val) (nA c s T)).ch x.val with st := st' }) u r sh T m := ⟨HXX.out.lie.set' hx HM.out.1 (by
        intro k hk q
        have := hin k hk
        rcases q with e | e
        · exact .inl e
        · omega) HC, HXX.out.trn.but HM.out.1 (by rintro (e | e) <;> omega), HXX.out.out⟩
      rw [put_mid _ _ _ _ _ (show _ = nA c s T x.val by rw [HS.out]; exact HST.out)] at HY
      have HYY := Lib.hid HY
      clear HC HY
      simp only [Lt.putAll, List.zip_nil_right, List.foldl_nil]
      gi_wp2
      obtain ⟨⟨k1, k2⟩, ⟨k3, k4⟩, k5⟩ := KC.out Y HM.out.1 HYY.out
      refine ⟨k1, k2, ?_, ⟨k3, k4, ?_⟩, k5⟩
      · rw [HMP.out]; exact HYY.out
      · rw [HMP.out]; exact HM.out.2.2
  case done =>
    rintro D ys X hD hys ⟨HX, ⟨bx1, bx2, bx3⟩, hB⟩ hK
    rw [hys] at HX bx3
    obtain ⟨f, hf⟩ : ∃ f, mx (List.range (NN c)) (whT c s T) z4 = f := ⟨_, rfl⟩
    rw [hf] at bx3
    have HF := Lib.hid hf
    clear hf
    have HXX := Lib.hid HX
    have B2 := Lib.hid bx2
    have HBB := Lib.hid hB
    have k0 := bx3.cell 0 (v := .int .i64 (f 0)) rfl
    have k1 := bx3.cell 1 (v := .int .i64 (f 1)) rfl
    have k2 := bx3.cell 2 (v := .int .i64 (f 2)) rfl
    have k3 := bx3.cell 3 (v := .int .i64 (f 3)) rfl
    have c0 := bx2.cell 0 (v := .int .i64 0) rfl
    have c1 := bx2.cell 1 (v := .int .i64 0) rfl
    have c2 := bx2.cell 2 (v := .int .i64 0) rfl
    have c3 := bx2.cell 3 (v := .int .i64 0) rfl
    have f0 := bx2.frozen 0
    have f1 := bx2.frozen 1
    have f2 := bx2.frozen 2
    have f3 := bx2.frozen 3
    clear HX bx1 bx2 bx3 hB H0 z0 z1 z2 z3 hB0
    gi_wp2
    have HR := (((B2.out.set 0 (.int .i64 (f 0))).set 1 (.int .i64 (f 1))).set 2 (.int .i64 (f 2))).set 3 (.int .i64 (f 3))
    have HR' : VRow ((((X.setCell ⟨W.heap.size + 1, 0, none⟩ (.int .i64 (f 0))).setCell ⟨W.heap.size + 1, 1, none⟩ (.int .i64 (f 1))).setCell ⟨W.heap.size + 1, 2, none⟩ (.int .i64 (f 2))).setCell ⟨W.heap.size + 1, 3, none⟩ (.int .i64 (f 3))) (W.heap.size + 1) 22 (ev4 f) := HR
    have hBB : But (fun k => k = W.heap.size + 1) X ((((X.setCell ⟨W.heap.size + 1, 0, none⟩ (.int .i64 (f 0))).setCell ⟨W.heap.size + 1, 1, none⟩ (.int .i64 (f 1))).setCell ⟨W.heap.size + 1, 2, none⟩ (.int .i64 (f 2))).setCell ⟨W.heap.size + 1, 3, none⟩ (.int .i64 (f 3))) :=
      (((But.setCell (p := ⟨_, 0, none⟩) (But.refl (· = _) X) (Or.inl rfl) _).setCell (p := ⟨_, 1, none⟩) (Or.inl rfl) _).setCell (p := ⟨_, 2, none⟩) (Or.inl rfl) _).setCell (p := ⟨_, 3, none⟩) (Or.inl rfl) _
    clear HR c0 c1 c2 c3 f0 f1 f2 f3 k0 k1 k2 k3
    generalize (((X.setCell ⟨W.heap.size + 1, 0, none⟩ (.int .i64 (f 0))).setCell ⟨W.heap.size + 1, 1, none⟩ (.int .i64 (f 1))).setCell ⟨W.heap.size + 1, 2, none⟩ (.int .i64 (f 2))).setCell ⟨W.heap.size + 1, 3, none⟩ (.int .i64 (f 3)) = Y at *
    have hDX := (Array.getElem?_eq_some_iff.1 hK).1
    have hK' := (hBB.block D hDX (by omega)).trans hK
    have hBW : But (Us b c u) W Y := But.call HBB.out hBB fun k e => .inr (by omega)
    have HY := HXX.out.keep hBB fun k hk e => by have := HL.out k hk; omega
    refine ⟨by simp, .inl ⟨_, _, rfl, run_takeDeferred hK', ?_⟩⟩
    have HRP : VRow (Y.putObj D (.deferred none)) (W.heap.size + 1) 22 (ev4 f) := box_turned (but_grown (grownBy_putObj' Y D (.deferred none))) (fun k e => by cases e; exact ⟨_, hK', rfl⟩) HR'
    exact ⟨_, VB.ret1 (cs := ev4 f) rfl rfl (agg4 _) size4 HRP, by rw [HF.out], tn_put HY hK' rfl, but_put hBW (by omega) _⟩
  case stop =>
    rintro D cc pre X _ _ h _
    exact h.elim
end Sg
end Go.Proofs.YtmlhmmfgdioclaaGreat

namespace Go.Proofs.YtmlhmmfgdioclaaGreat
set_option maxRecDepth 100000
open Go.ChangeShapes Go.WideShapes Go.ChangeAt Go.RowKit Go.Deep Go.Shelf
namespace Sg
open Cf (G CA)
open Rf

/-- What a round must leave as it is: the row of channels, what the cycle's struct holds of the raw values, the iterator's box, and what the iterator has laid. -/
def Dv (b : Nat → Nat) (u B n₀ : Nat) (p : Addr) : Prop := p.block = b 2 ∨ (∃ o, o < 9 ∧ p = ⟨u, o, none⟩) ∨ p.block = B ∨ n₀ + 2 ≤ p.block
section
variable {W X Y : World} {b : Nat → Nat} {c : List Int} {s s' : Si} {u : Nat} {r : Nat → Rw} {sh : Int} {T T' : Nat → Int} {m m' : Int} {S : Nat → Prop} {B n₀ : Nat}
theorem tnr_low {g : Nat} {o : Nat} (ho : o < 9) : (tnr g r sh T m)[o]? = (tnr g r sh T' m')[o]? := by
  have : o = 0 ∨ o = 1 ∨ o = 2 ∨ o = 3 ∨ o = 4 ∨ o = 5 ∨ o = 6 ∨ o = 7 ∨ o = 8 := by omega
  rcases this with rfl | rfl | rfl | rfl | rfl | rfl | rfl | rfl | rfl <;> rfl
theorem tn_low (hX : Tn X b c s u r sh T m) (hY : Tn Y b c s' u r sh T' m') {o : Nat} (ho : o < 9) {v : Value} (h : X.cell? ⟨u, o, none⟩ = some v) : Y.cell? ⟨u, o, none⟩ = some v := by
  have h1 : (tnr (b 0) r sh T m)[o]? = some v := by
    rw [cell_of_row X u o _ _ (0, 0) hX.trn] at h; simpa using h
  exact hY.trn.cell o ((tnr_low ho).symm.trans h1)
theorem round_kc (hX : Tn X b c s u r sh T m) (hY : Tn Y b c s' u r sh T' m') (h : But S X Y) (hS : ∀ k, S k → k < n₀ ∧ k ≠ B ∧ k ≠ b 2) : KeepsFrom n₀ X Y ∧ Kc (Dv b u B n₀) (n₀ + 2) X Y := by
  have k := KeepsFrom.of_but h fun j hj => (hS j hj).1
  refine ⟨k, fun p v hp hv => ?_, KeepsFrom.mono k (by omega)⟩
  have same (hn : ¬ S p.block) : Y.cell? p = some v := (World.cell?_of_block (w := X) (a := p) (h.block p.block (cell_blk hv) hn)).trans hv
  rcases hp with e | ⟨o, ho, rfl⟩ | e | e
  · exact same fun q => (hS _ q).2.2 e
  · exact tn_low hX hY ho hv
  · exact same fun q => (hS _ q).2.1 e
  · exact same fun q => by have := (hS _ q).1; omega
theorem own_tn {β : Type} (n : Nat) (f : β → Si) (g : β → Nat → Int) (k : β → Int) : OwnFrom n fun x (W : World) => Tn W b c (f x) u r sh (g x) (k x) :=
  own_but fun _ _ _ _ hs hb hS => hs.grown hb fun j q => (hS j q).2
theorem own_box {β : Type} (n g : Nat) (t : TypeId) (v : Value) : OwnFrom n fun (_ : β) (W : World) => Boxed W g t v := Own.from (boxed_own g t fun _ => v) n
theorem but_put {w : World} (h : But S w X) {D : Nat} (hD : w.heap.size ≤ D) (o : Obj) : But S w (X.putObj D o) := But.call h (but_grown (grownBy_putObj' X D o)) fun i e => by cases e; exact .inr hD
theorem tn_put (H : Tn X b c s u r sh T m) {D : Nat} {o o' : Obj} (hD : X.heap[D]? = some o) (ho : o.isCells = false) : Tn (X.putObj D o') b c s u r sh T m :=
  H.grown (but_grown (grownBy_putObj' X D o')) fun k e => by cases e; exact ⟨o, hD, ho⟩
theorem tn_box {g : Nat} {t : TypeId} {v : Value} (h : Boxed X g t v) {D : Nat} {o o' : Obj} (hD : X.heap[D]? = some o) (ho : o.isCells = false) : Boxed (X.putObj D o') g t v :=
  h.kept (grownBy_putObj' X D o') (fun e => by cases e; unfold Boxed at h; rw [h] at hD; cases hD; cases ho)
theorem hseq_valued (n : Nat) (hn : 2 ≤ n) (hc : c.length = 21) (hR : Cf.Right c) (H : Tn X b c s u r sh T m) (hB : X.cell? ⟨B, 0, none⟩ = some (.pointer (some ⟨u, 0, none⟩))) :
    ∀ V, Below X.heap.size X V → V.heap.size = X.heap.size + 2 → Goes Fence.wide n Tryz.prog 97 #[.pointer (some ⟨B, 0, none⟩)] (encv b (NN c) r) (Kc (Dv b u B X.heap.size) (X.heap.size + 2)) (fun xs => xs.map (·.1) = (List.range (NN c)).filter fun i => (r i).is) (fun _ => True) (NN c) (fun pre x => x.1 ∉ pre.map (·.1)) (X.heap.size + 1) V := fun V hV hs => by
  have HV := H.on hV
  obtain ⟨cap, h2⟩ := HV.lie.row hc
  have hN := NN_34 hR
  exact valued_goes n hn B u (b 0) (b 2) cap b r (NN c) _ _ (by omega) _ V ((hV.cell (p := ⟨B, 0, none⟩) (cell_blk hB)).trans hB) HV.sig h2 (fun i hi => HV.lie.at hi) (fun i hi => HV.is (by omega)) (fun i => .inl rfl) (fun i hi => .inr (.inl ⟨_, by omega, rfl⟩)) (.inr (.inr (.inl rfl))) (fun p hp => .inr (.inr (.inr (by omega)))) (by omega)
theorem hseq_all (n : Nat) (hn : 1 ≤ n) (hc : c.length = 21) (hR : Cf.Right c) (H : Lie X b c s) (hB : X.cell? ⟨B, 0, none⟩ = some (.pointer (some ⟨b 0, 0, none⟩))) :
    ∀ V, Below X.heap.size X V → V.heap.size = X.heap.size + 2 → Goes Fence.wide n Tryz.prog 90 #[.pointer (some ⟨B, 0, none⟩)] (enca b (NN c)) (Kc (Dv b u B X.heap.size) (X.heap.size + 2)) (fun xs => xs.map Fin.val = List.range (NN c)) (fun _ => True) (NN c) (fun pre x => x.val ∉ pre.map Fin.val) (X.heap.size + 1) V := fun V hV hs => by
  have HV := H.keep (But.of_below (S := fun _ => False) hV) fun _ _ q => q
  obtain ⟨cap, h2⟩ := HV.row hc
  have hN := NN_34 hR
  exact all_goes n hn B (b 0) (b 2) cap b (NN c) _ _ (by omega) _ V ((hV.cell (p := ⟨B, 0, none⟩) (cell_blk hB)).trans hB) h2 (fun i hi => HV.at hi) (fun i => .inl rfl)
end

/-- Some of them are new. -/
def mx {α : Type} (l : List Nat) (new old : Nat → α) (i : Nat) : α := if i ∈ l then new i else old i
theorem mx_nil {α : Type} (new old : Nat → α) : mx [] new old = old := by funext i; simp [mx]
theorem mx_not {α : Type} {l : List Nat} {new old : Nat → α} {i : Nat} (h : i ∉ l) : mx l new old i = old i := if_neg h
theorem mx_yes {α : Type} {l : List Nat} {new old : Nat → α} {i : Nat} (h : i ∈ l) : mx l new old i = new i := if_pos h
theorem mx_snoc {α : Type} (l : List Nat) (new old : Nat → α) (i : Nat) (v : α) (hv : v = new i) : (fun k => if k = i then v else mx l new old k) = mx (l ++ [i]) new old := by
  funext k
  unfold mx
  by_cases e : k = i
  · subst e; simp [hv]
  · simp [e]
/-- The signal while its channels are gone through. -/
def mid (s : Si) (l : List Nat) (new : Nat → Ch) : Si := { s with ch := mx l new s.ch }
theorem mid_nil (s : Si) (new : Nat → Ch) : mid s [] new = s := by unfold mid; rw [mx_nil]
theorem put_mid (s : Si) (l : List Nat) (new : Nat → Ch) (i : Nat) (h : Ch) (e : h = new i) : put (mid s l new) i h = mid s (l ++ [i]) new := by
  unfold put mid; rw [← mx_snoc l new s.ch i h e]
theorem tup_mx (l : List Nat) (new old : Nat → Int) (i : Nat) (v : Int) (e : v = new i) : tup (mx l new old) i v = mx (l ++ [i]) new old := mx_snoc l new old i v e
end Sg
end Go.Proofs.YtmlhmmfgdioclaaGreat

namespace Go.Proofs.YtmlhmmfgdioclaaGreat
set_option maxRecDepth 100000
open Go.ChangeShapes Go.WideShapes Go.ChangeAt Go.RowKit Go.Deep Go.Shelf
namespace Sg
open Cf (G CA)
open Rf
attribute [local go_sem] Oper.semAt_some

/-- May this cycle be? -/
def okv (c : List Int) (r : Nat → Rw) : Bool := (List.range (NN c)).all fun i => !(r i).is || Jp.val (r i).n
def okb (c : List Int) (r : Nat → Rw) (sh : Int) : Bool := okv c r && (decide (0 ≤ sh) && decide (sh < 16))
theorem okv_no {c : List Int} {r : Nat → Rw} {i : Nat} (hi : i < NN c) (h : (r i).is = true) (hv : Jp.val (r i).n = false) : okv c r = false := by
  rw [Bool.eq_false_iff]
  intro q
  have := List.all_eq_true.1 q i (List.mem_range.2 hi)
  simp [h, hv] at this
theorem okv_yes {c : List Int} {r : Nat → Rw} {ys : List (Vd (NN c) r)} (h : ys.map (·.1) = (List.range (NN c)).filter fun i => (r i).is) (hy : ∀ y ∈ ys, Jp.val (r y.1).n = true) : okv c r = true := by
  refine List.all_eq_true.2 fun i hi => ?_
  cases q : (r i).is
  · rfl
  · have : i ∈ ys.map (·.1) := by rw [h]; exact List.mem_filter.2 ⟨hi, q⟩
    obtain ⟨y, hm, rfl⟩ := List.mem_map.1 this
    simpa using hy y hm
theorem okb_iff {c : List Int} {r : Nat → Rw} {sh : Int} : okb c r sh = true ↔ okr c r sh := by
  unfold okb okv okr Rok
  simp only [Bool.and_eq_true, List.all_eq_true, List.mem_range, Bool.or_eq_true, Bool.not_eq_true', decide_eq_true_eq, Jp.val]
  constructor
  · rintro ⟨h1, h2, h3⟩
    exact ⟨fun i hi q => by rcases h1 i hi with e | e; rw [q] at e; cases e; exact e, h2, by omega⟩
  · rintro ⟨h1, h2, h3⟩
    refine ⟨fun i hi => ?_, h2, by omega⟩
    cases q : (r i).is
    · exact .inl rfl
    · exact .inr (h1 i hi q)

set_option maxRecDepth 100000 in
set_option maxHeartbeats 1600000 in
theorem right_any {W : World} {b : Nat → Nat} {c : List Int} {s : Si} {u : Nat} {r : Nat → Rw} {sh : Int} {T : Nat → Int} {m : Int} (hc : c.length = 21) (hR : Cf.Right c) (H : Tn W b c s u r sh T m) :
    Calls Tryz.prog 30 #[.pointer (some ⟨u, 0, none⟩)] W fun e w' => e = .returned (.bool (okb c r sh)) ∧ Below W.heap.size W w' := by
  have hN := NN_34 hR
  refine (callsIn_wide (n := 5)).1 ?_
  refine callsIn_of_wp_marks Tryz.func30 rfl trivial ?_ rfl
  simp only [Tryz.ntmps30, List.size_toArray, List.length_cons, List.length_nil, Nat.reduceAdd, Nat.reduceSub, Array.replicate_succ, Array.replicate_zero, List.push_toArray, List.append_toArray, List.nil_append, List.cons_append]
  gi_wp2_with (refine ⟨trivial, ?_⟩; gi_at_call 57; refine (callsIn_wide.2 (valued_any _ _)).mono ?_; rintro e w2 ⟨rfl, rfl⟩)
  have b1 := ((Boxed.new W 93 (.pointer (some ⟨u, 0, none⟩))).alloc (.cells #[.bool false] 4)).alloc (.cells #[.pointer (some ⟨u, 0, none⟩)] 93)
  have bR := (Boxed.new (W.alloc (.cells #[.pointer (some ⟨u, 0, none⟩)] 93)) 4 (.bool false)).alloc (.cells #[.pointer (some ⟨u, 0, none⟩)] 93)
  have b3 := Boxed.new ((W.alloc (.cells #[.pointer (some ⟨u, 0, none⟩)] 93)).alloc (.cells #[.bool false] 4)) 93 (.pointer (some ⟨u, 0, none⟩))
  rw [World.size_alloc] at bR
  rw [World.size_alloc, World.size_alloc] at b3
  have hB0 := (((Below.refl W.heap.size W).alloc (Nat.le_refl _) (.cells #[.pointer (some ⟨u, 0, none⟩)] 93)).alloc (by simp) (.cells #[.bool false] 4)).alloc (by simp; omega) (.cells #[.pointer (some ⟨u, 0, none⟩)] 93)
  have hsz : (((W.alloc (.cells #[.pointer (some ⟨u, 0, none⟩)] 93)).alloc (.cells #[.bool false] 4)).alloc (.cells #[.pointer (some ⟨u, 0, none⟩)] 93)).heap.size = W.heap.size + 3 := by simp
  generalize ((W.alloc (.cells #[.pointer (some ⟨u, 0, none⟩)] 93)).alloc (.cells #[.bool false] 4)).alloc (.cells #[.pointer (some ⟨u, 0, none⟩)] 93) = W0 at *
  have H0 := H.on hB0
  have HL := Lib.hid (fun k (hk : Us b c u k) => H.lt hk)
  clear H
  refine range_goes rfl (by omega) (gf := 97) (lb := #[.pointer (some ⟨W.heap.size + 1 + 1, 0, none⟩)]) rfl trivial (enters_of Tryz.func97 (by kernel_rfl) rfl)
    (hseq_valued _ (by omega) hc hR H0 b3.cell) Kc.trans (fun X k o o' _ h2 h3 h4 => Kc.put h2 h3 h4) (fun _ => rfl)
    (fun pre X => ((∀ y ∈ pre, Jp.val (r y.1).n = true) ∧ Tn X b c s u r sh T m) ∧ (Boxed X W.heap.size 93 (.pointer (some ⟨u, 0, none⟩)) ∧ Boxed X (W.heap.size + 1) 4 (.bool false)) ∧ Below W.heap.size W X)
    (fun cc _ X => ((cc = .ret ∧ okv c r = false) ∧ Tn X b c s u r sh T m) ∧ Boxed X (W.heap.size + 1) 4 (.bool false) ∧ Below W.heap.size W X)
    (OwnFrom.and (OwnFrom.and (ownFrom_pure _ _) (own_tn _ _ _ _)) (OwnFrom.and (OwnFrom.and (own_box _ _ _ _) (own_box _ _ _ _)) (ownFrom_below (Nat.le_refl _) (by omega))))
    (fun _ => OwnFrom.and (OwnFrom.and (ownFrom_pure _ _) (own_tn _ _ _ _)) (OwnFrom.and (own_box _ _ _ _) (ownFrom_below (Nat.le_refl _) (by omega))))
    ⟨⟨by simp, H0⟩, ⟨b1, bR⟩, hB0⟩
    (fun x => { tmps := #[.pointer (some ⟨u, 0, none⟩), .pointer (some ⟨W.heap.size, 0, none⟩), .pointer (some ⟨W.heap.size + 1, 0, none⟩), .int .i64 x.1, .pointer (some ⟨u, 0, none⟩), .func (.func 97) #[] #[.pointer (some ⟨W.heap.size + 1 + 1, 0, none⟩)], .int .i64 x.1, .pointer (some ⟨xb b x.1, 0, none⟩), undef, undef, undef, undef, undef, undef, undef, undef, undef, undef, undef, undef, undef, undef, undef, undef, undef, undef, undef, undef, undef, undef], defers := [] }) ?assign ?body ?done ?stop
  case assign =>
    intro l x W K hK
    dsimp only [encv]
    gi_wp2
    exact hK
  case body =>
    rintro lp pre x X ⟨⟨hp, HX⟩, ⟨bx1, bxR⟩, hB⟩ hlen -
    have hx := x.2.1
    have c1 := bx1.cell
    have cR := bxR.cell
    have fR := bxR.frozen
    have CW := fun l => CallsIn.inRound (n := 5 - 1 - 1 - 1) l (callsIn_wide.2 (raw_any HX x.1 (by omega)))
    have HV := Lib.hid (show Jp.val (r x.1).n = (decide (-2147483648 ≤ (r x.1).n) && decide ((r x.1).n ≤ 2147483647)) from rfl)
    have HY := Lib.hid (fun (h : Jp.val (r x.1).n = true) y (hy : y ∈ pre ++ [x]) => (show Jp.val (r y.1).n = true from by
      rcases List.mem_append.1 hy with q | q
      · exact hp y q
      · rw [List.mem_singleton.1 q]; exact h))
    have HNO := Lib.hid (okv_no (r := r) hx x.2.2)
    have HXX := Lib.hid HX
    have HBB := Lib.hid hB
    have B1 := Lib.hid bx1
    have BR := Lib.hid bxR
    clear hp HX hB bx1 bxR hlen H0 b1 bR b3 hB0
    generalize (r x.1).n = n at *
    have hu2 : b 2 < W.heap.size := HL.out _ (.inl ⟨2, by unfold pn; omega, rfl⟩)
    have huu : u < W.heap.size := HL.out _ (.inr rfl)
    have K2 := Lib.hid (show KeepsFrom W0.heap.size X (X.setCell ⟨W.heap.size + 1, 0, none⟩ (.bool false)) ∧ Kc (Dv b u (W.heap.size + 1 + 1) W0.heap.size) (W0.heap.size + 2) X (X.setCell ⟨W.heap.size + 1, 0, none⟩ (.bool false)) ∧ Tn (X.setCell ⟨W.heap.size + 1, 0, none⟩ (.bool false)) b c s u r sh T m ∧ Boxed (X.setCell ⟨W.heap.size + 1, 0, none⟩ (.bool false)) (W.heap.size + 1) 4 (.bool false) ∧ Below W.heap.size W (X.setCell ⟨W.heap.size + 1, 0, none⟩ (.bool false)) from by
      have bb : But (· = W.heap.size + 1) X (X.setCell ⟨W.heap.size + 1, 0, none⟩ (.bool false)) := But.setCell (p := ⟨_, _, none⟩) (But.refl (· = _) X) (Or.inl rfl) _
      have HT := HXX.out.keep bb fun k hk e => by have := HL.out k hk; omega
      obtain ⟨k1, k2⟩ := round_kc HXX.out HT bb (B := W.heap.size + 1 + 1) (n₀ := W0.heap.size) fun k e => ⟨by omega, by omega, by omega⟩
      exact ⟨k1, k2, HT, BR.out.set _, HBB.out.setCell (p := ⟨W.heap.size + 1, 0, none⟩) (by show W.heap.size ≤ W.heap.size + 1; omega) _⟩)
    cases d1 : decide (n < -2147483648)
    · cases d2 : decide (2147483647 < n)
      · have HYY := Lib.hid (HY.out (HV.out.trans (by simp at d1 d2; simp; omega)))
        gi_wp2_with (first | (refine ⟨trivial, ?_⟩; gi_at_call 58; refine (CW lp).mono ?_; rintro e w' ⟨rfl, rfl⟩) | (refine ⟨trivial, ?_⟩))
        exact ⟨KeepsFrom.refl _ _, Kc.refl _ _ _, ⟨HYY.out, HXX.out⟩, ⟨B1.out, BR.out⟩, HBB.out⟩
      · have HNN := Lib.hid (HNO.out (HV.out.trans (by simp at d1 d2; simp; omega)))
        gi_wp2_with (first | (refine ⟨trivial, ?_⟩; gi_at_call 58; refine (CW lp).mono ?_; rintro e w' ⟨rfl, rfl⟩) | (refine ⟨trivial, ?_⟩))
        exact ⟨K2.out.1, K2.out.2.1, ⟨⟨rfl, HNN.out⟩, K2.out.2.2.1⟩, K2.out.2.2.2.1, K2.out.2.2.2.2⟩
    · have HNN := Lib.hid (HNO.out (HV.out.trans (by simp at d1; simp; omega)))
      gi_wp2_with (first | (refine ⟨trivial, ?_⟩; gi_at_call 58; refine (CW lp).mono ?_; rintro e w' ⟨rfl, rfl⟩) | (refine ⟨trivial, ?_⟩))
      exact ⟨K2.out.1, K2.out.2.1, ⟨⟨rfl, HNN.out⟩, K2.out.2.2.1⟩, K2.out.2.2.2.1, K2.out.2.2.2.2⟩
  case done =>
    rintro D ys X hD hys ⟨⟨hp, HX⟩, ⟨bx1, bxR⟩, hB⟩ hK
    have HF := Lib.hid (show okb c r sh = (decide (0 ≤ sh) && decide (sh < 16)) by unfold okb; rw [okv_yes hys hp, Bool.true_and])
    have c1 := bx1.cell
    have cR := bxR.cell
    have fR := bxR.frozen
    have c9 := HX.shut
    clear hp hys HX H0 b1 bR b3 hB0
    obtain ⟨ok, hok⟩ : ∃ ok, okb c r sh = ok := ⟨_, rfl⟩
    rw [hok] at HF
    have HOK := Lib.hid hok
    clear hok
    cases d1 : decide (0 ≤ sh) <;> cases d2 : decide (sh < 16)
    all_goals
      rw [d1, d2] at HF
      gi_wp2_with (refine ⟨trivial, ?_⟩)
      have hK' := fun v => (KeepsOthers.setCell X ⟨W.heap.size + 1, 0, none⟩ v).same D _ hK rfl
      refine ⟨by simp, .inl ⟨_, _, rfl, run_takeDeferred (hK' _), ?_⟩⟩
      have hcc := fun v => (((bxR.set v).kept (grownBy_putObj' _ D (.deferred none)) (by simp; omega))).cell
      refine ⟨.bool ok, by simp [results, Tryz.f30, go_sem, hcc, HF.out], Fx.ret_bool HOK.out.symm, ?_⟩
      exact (hB.setCell (p := ⟨W.heap.size + 1, 0, none⟩) (by show W.heap.size ≤ W.heap.size + 1; omega) _).trans (belowK_b (w := W) (Nat.le_refl _) _ D _ _ (by omega) (hK' _) rfl rfl)
  case stop =>
    rintro D cc pre X hD - ⟨⟨⟨rfl, hno⟩, HX⟩, bxR, hB⟩ hK
    have HF := Lib.hid (show okb c r sh = false by unfold okb; rw [hno]; rfl)
    clear HX H0 b1 bR b3 hB0
    gi_wp2
    refine ⟨by simp, .inl ⟨_, _, rfl, run_takeDeferred hK, ?_⟩⟩
    have hcc := (bxR.kept (grownBy_putObj' _ D (.deferred none)) (by simp; omega)).cell
    exact ⟨.bool false, by simp [results, Tryz.f30, go_sem, hcc], Fx.ret_bool HF.out.symm,
      hB.trans (belowK_b (w := W) (Nat.le_refl _) X D _ _ (by omega) hK rfl rfl)⟩
end Sg
end Go.Proofs.YtmlhmmfgdioclaaGreat
