/-
  What drift of package signal does (the third step of a cycle): a contract by walking the Go text. Conditions: how a signal lies; that the raw values may be.
-/
import Derived.Test.YtpoededbmdffpaaGreatDoorSignalThose
import Derived.Test.YtpoededbmdffpaaGreatDoorDriftCome
import Derived.Test.YtpoededbmdffpaaGreatDoorOrderWalks2
namespace Go.Proofs.YtpoededbmdffpaaGreatDoor
set_option maxRecDepth 100000
open Go.ChangeShapes Go.WideShapes Go.ChangeAt Go.RowKit Go.Deep Go.Shelf
namespace Sg
open Cf (G CA)
open Rf
attribute [local go_sem] Oper.semAt_some
/-- A channel behind that step, and its trips. -/
def nD (c : List Int) (s : Si) (r : Nat → Rw) (md : Int) (i : Nat) : Ch := { s.ch i with lev := Dr.nx (G c 8) (s.ch i).lev ((r i).n - md) }
def tD (c : List Int) (s : Si) (r : Nat → Rw) (md : Int) (T : Nat → Int) (i : Nat) : Int := T i + if Dr.ov (G c 7) (Dr.nx (G c 8) (s.ch i).lev ((r i).n - md)) = true then 16 else 0
theorem Chan.fil {X Y : World} {b : Nat → Nat} {c : List Int} {s : Si} {i : Nat} (H : Lie X b c s) (hi : i < NN c) (B : But (fun k => k = lb b i) X Y) {o : Int} (ht : VRow Y (lb b i) 270 (Dr.fil (G c 8) (G c 7) o)) : Chan Y b c i { s.ch i with lev := o } := by
  have C := H.chs i hi
  obtain ⟨n1, n2, n3, n4, n5, n6, n7, n8, n9, n10, n11⟩ := H.five hi
  obtain ⟨l, f1, f2⟩ := C.fw
  exact ⟨C.own.but B n3, C.jw.but B n6, ⟨l, f1.but B n8, f2⟩, ht, C.tr.but B (Ne.symm n10)⟩
set_option maxRecDepth 100000 in
set_option maxHeartbeats 3200000 in
theorem drift_no {W : World} {b : Nat → Nat} {c : List Int} {s : Si} {u : Nat} {r : Nat → Rw} {sh : Int} {T : Nat → Int} {m : Int} (hc : c.length = 21) (hR : Cf.Right c) (H : Tn W b c s u r sh T m)
    (L : List Int) (hL : ths m (fun i => (r i).n) (List.range (NN c)) = L) (hm : Od.midb L = false) :
    Calls Tryz.prog 117 #[.pointer (some ⟨u, 0, none⟩)] W fun e w' => e = .returned (.tuple #[]) ∧ Tn w' b c s u r sh T m ∧ But (Us b c u) W w' := by
  have hB1 := (Below.refl W.heap.size W).alloc (Nat.le_refl _) (.cells #[.pointer (some ⟨u, 0, none⟩)] 234)
  have CT := hL ▸ those_raw hc hR (H.on hB1)
  have hll : L.length ≤ 9223372036854775807 := by
    have h1 := ths_len m (fun i => (r i).n) (List.range (NN c))
    rw [hL, List.length_range] at h1
    have := NN_34 hR; omega
  have CM := fun (a : Option Addr) (cap : Nat) (Y : World) (hV : IntsAt .i64 Y a L) => Od.mid_any a cap L Y hll hV
  rw [hm] at CM
  have HH := Lib.hid H
  have HB1 := Lib.hid hB1
  clear hL hm H hB1
  generalize Od.midv L = mv at *
  have hs1 : (W.alloc (.cells #[.pointer (some ⟨u, 0, none⟩)] 234)).heap.size = W.heap.size + 1 := by simp
  refine (callsIn_wide (n := 5)).1 ?_
  refine callsIn_of_wp_marks Tryz.func117 rfl trivial ?_ rfl
  simp only [Tryz.ntmps117, List.size_toArray, List.length_cons, List.length_nil, Nat.reduceAdd, Nat.reduceSub, Array.replicate_succ, Array.replicate_zero, List.push_toArray, List.append_toArray, List.nil_append, List.cons_append]
  gi_wp2_with (first | (refine ⟨trivial, ?_⟩; gi_at_call 163; refine (callsIn_wide.2 CT).mono ?_; clear CT; rintro e w2 ⟨a, cap, rfl, -, hi, hb⟩; have HB2 := Lib.hid (grow HB1.out hb); have HC2 := Lib.hid hb; have CM2 := CM a cap w2 hi; clear CM hi hb) | (refine ⟨trivial, ?_⟩; gi_at_call 162; refine (callsIn_wide.2 CM2).mono ?_; clear CM2; rintro e w3 ⟨rfl, hb3⟩; have HB3 := Lib.hid (grow HB2.out hb3); have hsz3 : W.heap.size + 1 ≤ w3.heap.size := (by have h1 := hb3.size; have h2 := HC2.out.size; have h3 := hs1; omega); have b1 : Boxed w3 W.heap.size 234 (.pointer (some ⟨u, 0, none⟩)) := ((hb3.block _ (by have h2 := HC2.out.size; have h3 := hs1; omega)).trans ((HC2.out.block _ (by have h3 := hs1; omega)).trans (Boxed.new W _ _))); have b2 := b1.alloc (.cells #[.int .i64 mv] 3); have k2 := b2.cell; clear hb3))
  have hb := HB3.out.alloc HB3.out.size (.cells #[.int .i64 mv] 3)
  exact ⟨_, results_none rfl _ _ _, rfl, HH.out.on hb, But.of_below hb⟩
set_option maxRecDepth 100000 in
set_option maxHeartbeats 3200000 in
theorem drift_yes {W : World} {b : Nat → Nat} {c : List Int} {s : Si} {u : Nat} {r : Nat → Rw} {sh : Int} {T : Nat → Int} {m : Int} (hc : c.length = 21) (hR : Cf.Right c) (hO : Ok c s) (hv : ∀ i, i < NN c → (r i).is = true → Jp.val (r i).n = true) (hT : ∀ i, i < NN c → (r i).is = true → 0 ≤ T i ∧ T i < 16) (H : Tn W b c s u r sh T m)
    (L : List Int) (hL : ths m (fun i => (r i).n) (List.range (NN c)) = L) (hm : Od.midb L = true) (mv : Int) (hmv : Od.midv L = mv) (hmb : -2147483648 ≤ mv ∧ mv ≤ 2147483647) :
    Calls Tryz.prog 117 #[.pointer (some ⟨u, 0, none⟩)] W fun e w' => e = .returned (.tuple #[]) ∧ Tn w' b c (mid s ((List.range (NN c)).filter fun i => (r i).is) (nD c s r mv)) u r sh (mx ((List.range (NN c)).filter fun i => (r i).is) (tD c s r mv T) T) m ∧ But (Us b c u) W w' := by
  have hB1 := (Below.refl W.heap.size W).alloc (Nat.le_refl _) (.cells #[.pointer (some ⟨u, 0, none⟩)] 234)
  have CT := hL ▸ those_raw hc hR (H.on hB1)
  have hll : L.length ≤ 9223372036854775807 := by
    have h1 := ths_len m (fun i => (r i).n) (List.range (NN c))
    rw [hL, List.length_range] at h1
    have := NN_34 hR; omega
  have CM := fun (a : Option Addr) (cap : Nat) (Y : World) (hV : IntsAt .i64 Y a L) => Od.mid_any a cap L Y hll hV
  rw [hm] at CM
  rw [hmv] at CM
  have hN := NN_34 hR
  have HH := Lib.hid H
  have HB1 := Lib.hid hB1
  clear hL hm H hB1 hmv
  have hs1 : (W.alloc (.cells #[.pointer (some ⟨u, 0, none⟩)] 234)).heap.size = W.heap.size + 1 := by simp
  refine (callsIn_wide (n := 5)).1 ?_
  refine callsIn_of_wp_marks Tryz.func117 rfl trivial ?_ rfl
  simp only [Tryz.ntmps117, List.size_toArray, List.length_cons, List.length_nil, Nat.reduceAdd, Nat.reduceSub, Array.replicate_succ, Array.replicate_zero, List.push_toArray, List.append_toArray, List.nil_append, List.cons_append]
  gi_wp2_with (first | (refine ⟨trivial, ?_⟩; gi_at_call 163; refine (callsIn_wide.2 CT).mono ?_; clear CT; rintro e w2 ⟨a, cap, rfl, -, hi, hb⟩; have HB2 := Lib.hid (grow HB1.out hb); have HC2 := Lib.hid hb; have CM2 := CM a cap w2 hi; clear CM hi hb) | (refine ⟨trivial, ?_⟩; gi_at_call 162; refine (callsIn_wide.2 CM2).mono ?_; clear CM2; rintro e w3 ⟨rfl, hb3⟩; have HB3 := Lib.hid (grow HB2.out hb3); have hsz3 : W.heap.size + 1 ≤ w3.heap.size := (by have h1 := hb3.size; have h2 := HC2.out.size; have h3 := hs1; omega); have b1 : Boxed w3 W.heap.size 234 (.pointer (some ⟨u, 0, none⟩)) := ((hb3.block _ (by have h2 := HC2.out.size; have h3 := hs1; omega)).trans ((HC2.out.block _ (by have h3 := hs1; omega)).trans (Boxed.new W _ _))); have b2 := b1.alloc (.cells #[.int .i64 mv] 3); have k2 := b2.cell; clear hb3) | (refine ⟨trivial, ?_⟩; gi_at_call 156; refine (callsIn_wide.2 (valued_any _ _)).mono ?_; rintro e w4 ⟨rfl, rfl⟩))
  have b3 := Boxed.new (w3.alloc (.cells #[.int .i64 mv] 3)) 234 (.pointer (some ⟨u, 0, none⟩))
  rw [World.size_alloc] at b3
  have bm := (Boxed.new w3 3 (.int .i64 mv)).alloc (.cells #[.pointer (some ⟨u, 0, none⟩)] 234)
  have b4 := b2.alloc (.cells #[.pointer (some ⟨u, 0, none⟩)] 234)
  have hB0 := (HB3.out.alloc HB3.out.size (.cells #[.int .i64 mv] 3)).alloc (by rw [World.size_alloc]; omega) (.cells #[.pointer (some ⟨u, 0, none⟩)] 234)
  have hsz : ((w3.alloc (.cells #[.int .i64 mv] 3)).alloc (.cells #[.pointer (some ⟨u, 0, none⟩)] 234)).heap.size = w3.heap.size + 2 := by simp
  clear k2 b1 b2 HB3 HB2 HC2 HB1
  generalize (w3.alloc (.cells #[.int .i64 mv] 3)).alloc (.cells #[.pointer (some ⟨u, 0, none⟩)] 234) = W0 at *
  generalize w3.heap.size = n3 at *
  have H0 := HH.out.on hB0
  have HL := Lib.hid (fun k (hk : Us b c u k) => HH.out.lt hk)
  have HOU := Lib.hid HH.out.out
  clear HH
  refine range_goes rfl (by omega) (gf := 191) (lb := #[.pointer (some ⟨n3 + 1, 0, none⟩)]) rfl trivial (enters_of Tryz.func191 (by kernel_rfl) rfl)
    (hseq_valued _ (by omega) hc hR H0 b3.cell) Kc.trans (fun X k o o' _ h2 h3 h4 => Kc.put h2 h3 h4) (fun _ => rfl)
    (fun pre X => Tn X b c (mid s (pre.map (·.1)) (nD c s r mv)) u r sh (mx (pre.map (·.1)) (tD c s r mv T) T) m ∧ (Boxed X W.heap.size 234 (.pointer (some ⟨u, 0, none⟩)) ∧ Boxed X n3 3 (.int .i64 mv)) ∧ But (Us b c u) W X)
    (fun _ _ _ => False)
    (OwnFrom.and (own_tn _ _ _ _) (OwnFrom.and (OwnFrom.and (own_box _ _ _ _) (own_box _ _ _ _)) (own_other _ _ _ (by omega))))
    (fun _ _ _ _ _ hs _ _ => hs)
    ⟨by rw [List.map_nil, mid_nil, mx_nil]; exact H0, ⟨b4, bm⟩, But.of_below hB0⟩
    (fun x => { tmps := #[.pointer (some ⟨u, 0, none⟩), .pointer (some ⟨W.heap.size, 0, none⟩), .pointer (some ⟨n3, 0, none⟩), .bool true, .int .i64 x.1, .pointer (some ⟨xb b x.1, 0, none⟩), undef, undef, .tuple #[.int .i64 mv, .bool true], .pointer (some ⟨u, 0, none⟩), .pointer (some ⟨u, 0, none⟩), .func (.func 157) #[.pointer (some ⟨u, 0, none⟩)] #[], .slice a L.length cap, .tuple #[.int .i64 mv, .bool true], .int .i64 mv, .bool true, .bool true, .bool false, .pointer (some ⟨u, 0, none⟩), .func (.func 191) #[] #[.pointer (some ⟨n3 + 1, 0, none⟩)], .int .i64 x.1, .pointer (some ⟨xb b x.1, 0, none⟩), undef, undef, undef, undef, undef, undef, undef, undef, undef, undef, undef, undef, undef, undef, undef, undef, undef], defers := [] }) ?assign ?body ?done ?stop
  case assign =>
    intro l x W K hK
    dsimp only [encv]
    gi_wp2
    exact hK
  case body =>
    rintro lp pre x X ⟨HX, bx1, hB⟩ hlen hG
    have hx := x.2.1
    have hx4 : x.1 < 4 := by omega
    have hxi : (x.1 : Int) < 4 := by omega
    have HMP := Lib.hid (show (pre ++ [x]).map (·.1) = pre.map (·.1) ++ [x.1] by simp)
    have eS : (mid s (pre.map (·.1)) (nD c s r mv)).ch x.1 = s.ch x.1 := mx_not hG
    have ET := Lib.hid (show mx (pre.map (·.1)) (tD c s r mv T) T x.1 = T x.1 from mx_not hG)
    have KC := Lib.hid (fun (Y : World) (s' : Si) (T' : Nat → Int) (S : Nat → Prop) (hY : Tn Y b c s' u r sh T' m) (h : But S X Y) (hS : ∀ k, S k → Of b x.1 k ∨ k = u) => (show (KeepsFrom W0.heap.size X Y ∧ Kc (Dv b u (n3 + 1) W0.heap.size) (W0.heap.size + 2) X Y) ∧ (Boxed Y W.heap.size 234 (.pointer (some ⟨u, 0, none⟩)) ∧ Boxed Y n3 3 (.int .i64 mv)) ∧ But (Us b c u) W Y from by
      have hS' : ∀ k, S k → Us b c u k ∧ k ≠ b 2 := fun k q => (hS k q).elim (fun o => ⟨of_us hx o, fun e => HX.lie.apart3 hx (p := 2) (by omega) (e ▸ o)⟩) (fun e => ⟨.inr e, fun e2 => HX.out (by rw [← e, e2]; exact ⟨2, by unfold pn; omega, rfl⟩)⟩)
      refine ⟨round_kc HX hY h fun k q => ⟨by have := HL.out k (hS' k q).1; omega, by have := HL.out k (hS' k q).1; omega, (hS' k q).2⟩, ⟨?_, ?_⟩, hB.trans (h.mono fun k q => (hS' k q).1)⟩
      · exact (h.block _ (by have := bx1.1.lt; omega) fun q => by have := HL.out _ (hS' _ q).1; omega).trans bx1.1
      · exact (h.block _ (by have := bx1.2.lt; omega) fun q => by have := HL.out _ (hS' _ q).1; omega).trans bx1.2))
    have HXX := Lib.hid HX
    have B1 := Lib.hid bx1
    have CH := HX.lie.chs x.1 hx
    rw [eS] at CH
    have HCH := Lib.hid CH
    have hmay : Dr.may (G c 8) (G c 7) = true := by
      obtain ⟨-, -, -, -, -, -, -, h7, h8, -⟩ := hR
      exact (Dr.may_iff _ _).2 ⟨h8.1, h8.2, h7.1, h7.2⟩
    have hoo := (hO.ch x.1 hx).lev
    have hvx := hv x.1 hx x.2.2
    have hnb : -2147483648 ≤ (r x.1).n ∧ (r x.1).n ≤ 2147483647 := by simpa [Jp.val] using hvx
    have n1 : -9223372036854775808 ≤ (r x.1).n - mv := by omega
    have n2 : (r x.1).n - mv ≤ 9223372036854775807 := by omega
    have hdd : Dr.dif ((r x.1).n - mv) = true := (Dr.dif_iff _).2 (by omega)
    have hT0 := hT x.1 hx x.2.2
    have hlu : lb b x.1 ≠ u := fun e => HX.out (e ▸ of_in hx (.inr (.inr (.inr (.inl rfl)))))
    have CL := Lib.hid (fun (Y : World) (HY : VRow Y (lb b x.1) 270 (Dr.fil (G c 8) (G c 7) (s.ch x.1).lev)) => Dr.come_yes (lb b x.1) _ _ _ ((r x.1).n - mv) Y HY hoo hmay hdd)
    obtain ⟨ov, hov⟩ : ∃ ov, ov = Dr.ov (G c 7) (Dr.nx (G c 8) (s.ch x.1).lev ((r x.1).n - mv)) := ⟨_, rfl⟩
    rw [← hov] at CL
    have HOV := Lib.hid hov
    have HS := Lib.hid eS
    have HT0 := Lib.hid hT0
    clear HX bx1 hB hlen H0 b3 b4 bm hB0 hov CH hmay hoo hvx hdd hT0
    gi_wp2
    refine Wr.wpIn_w1 (aF := ?_) [9] 39 [true, true, true, true, true, true, true, true, true, false, true, true, true, true, true] 32 (.tuple #[.bool ov, .int .i64 0])
      (fun k Y => match k with
        | 0 => But (fun _ => False) X Y
        | _ => But (fun k => k = lb b x.1) X Y ∧ VRow Y (lb b x.1) 270 (Dr.fil (G c 8) (G c 7) (Dr.nx (G c 8) (s.ch x.1).lev ((r x.1).n - mv))))
      (fun Y => But (fun k => k = lb b x.1) X Y)
      (by kernel_rfl) (by kernel_rfl) (by kernel_rfl) (by kernel_rfl) ?hL ?ha ?hMC ?hMg ?h0 ?hq ?hw ?hend
    case hq =>
      intro Y hY
      have htW := HL.out (lb b x.1) (of_us hx (.inr (.inr (.inr (.inl rfl)))))
      have k1 := cell_regrown ((show Boxed Y W.heap.size 234 (.pointer (some ⟨u, 0, none⟩)) from (hY.block _ B1.out.1.lt (by omega)).trans B1.out.1).cell)
      have k2 := cell_regrown ((show Boxed Y n3 3 (.int .i64 mv) from (hY.block _ B1.out.2.lt (by omega)).trans B1.out.2).cell)
      have hTY := HXX.out.trn.but hY (fun e => hlu e.symm)
      have hfive := HXX.out.lie.five hx
      have k4 := cell_regrown ((HCH.out.own.but hY (by omega)).cell 2 (v := .pointer (some ⟨lb b x.1, 0, none⟩)) rfl)
      have cR := reg_call (w := Y) (fun Z B => (raw_row (hTY.below B hTY.lt) x.1 hx4).mono fun e w' q => ⟨q.1, q.2 ▸ Below.refl _ _⟩)
      simp only [Lt.sel, Act.put, List.setIfInBounds_toArray, List.set_cons_succ, List.set_cons_zero]
      repeat (go_big_quiet_step (exact cR _ _))
      exact rfl
    case ha => rfl
    case hL => rintro ⟨_, _, h⟩; exact h
    case hMC =>
      rintro (_ | k) Y hM
      · exact hM.mono fun _ q => q.elim
      · exact hM.1
    case hMg =>
      rintro (_ | k) Y Z hM hC
      · exact hM.grow hC.to
      · exact ⟨hM.1.grow hC.to, hM.2.below hC.to hM.2.lt⟩
    case h0 => exact But.refl _ _
    case hw =>
      rintro (_ | k) st o hs ho Y hM
      · obtain rfl : 9 = st := by simpa using hs
        obtain rfl := Option.some.inj ho
        refine Wr.wp_fn (f := 164) (args := #[.pointer (some ⟨lb b x.1, 0, none⟩), .int .i64 ((r x.1).n - mv)]) ?_ (CL.out Y (HCH.out.fl.but hM fun q => q)) ?_
        · kernel_rfl
        · rintro e Z ⟨rfl, z1, z2⟩
          exact ⟨_, rfl, _, rfl, fun _ _ _ => rfl, (hM.mono fun _ q => q.elim).trans z2, z1⟩
      · simp at hs
    case hend =>
      intro Y hM
      have HM := Lib.hid (show But (fun k => k = lb b x.1) X Y ∧ VRow Y (lb b x.1) 270 (Dr.fil (G c 8) (G c 7) (Dr.nx (G c 8) (s.ch x.1).lev ((r x.1).n - mv))) from hM)
      clear hM
      have HB := HM.out.1.mono (S' := Of b x.1) fun k e => .inr (.inr (.inr (.inl e)))
      have HY := HXX.out.set hx HB (Chan.fil HXX.out.lie hx HM.out.1 HM.out.2)
      rw [put_mid _ _ _ _ _ (show _ = nD c s r mv x.1 by rw [HS.out]; rfl)] at HY
      obtain ⟨-, hBY, -⟩ := KC.out Y _ _ _ HY HB fun k e => .inl e
      have c1 := hBY.1.cell
      have CT := trip_any HY x.1 hx4 16 ov (.inr (.inl rfl)) (by rw [ET.out]; exact HT0.out)
      have HBB := Lib.hid HB
      clear hBY HB HY
      gi_wp2
      refine ⟨trivial, (CallsIn.inRound lp (callsIn_wide.2 CT)).mono ?_⟩
      rintro e Z2 ⟨rfl, HZ2, BZ2⟩
      have H2 := Lib.hid HZ2
      have B2 := Lib.hid ((HBB.out.mono (S' := fun k => Of b x.1 k ∨ k = u) fun k e => .inl e).trans (BZ2.mono fun k e => .inr e))
      clear HZ2 BZ2 CT c1
      gi_wp2
      obtain ⟨⟨k1, k2⟩, k3, k4⟩ := KC.out Z2 _ _ _ H2.out B2.out fun k q => q
      refine ⟨k1, k2, ?_, k3, k4⟩
      have := H2.out
      rw [tup_mx _ _ _ _ _ (show _ = tD c s r mv T x.1 by rw [ET.out, HOV.out]; rfl)] at this
      rw [HMP.out]; exact this
  case done =>
    rintro D ys X hD hys ⟨HX, -, hB⟩ hK
    rw [hys] at HX
    gi_wp2
    refine ⟨by simp, .inl ⟨_, _, rfl, run_takeDeferred hK, ?_⟩⟩
    exact ⟨_, results_none rfl _ _ _, rfl, tn_put HX hK rfl, but_put hB (by omega) _⟩
  case stop =>
    rintro D cc pre X _ _ h _
    exact h.elim
end Sg
end Go.Proofs.YtpoededbmdffpaaGreatDoor
