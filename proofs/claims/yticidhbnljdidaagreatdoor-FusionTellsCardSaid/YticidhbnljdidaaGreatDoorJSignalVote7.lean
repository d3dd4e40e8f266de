/-
 What vote of package signal does (the fourth step of a cycle): a contract by walking the Go text. Conditions: how a signal lies; that the raw values of those that are in may be.
 What Without of package order returns, for every argument: a contract by walking the Go text. Its conditions: where the list lies, and that it fits its capacity.
 What the calls of package parity return, for every argument: contracts by walking the Go text. Its conditions: where the list lies, and that it fits its capacity.
 What suspect of package signal returns (the sixth step of a cycle): a contract by walking the Go text. Conditions: how a signal lies; that the raw values of those that are in may be.
 What compare of package signal does (the fifth step of a cycle: miscompare): a contract by walking the Go text. Conditions: how a signal lies; that the raw values may be.
 What Learn of package equal does: its contract by walking the Go text. Conditions: where the trim lies; that its offset may be one.
 What learn of package signal does (the seventh step of a cycle): a contract by walking the Go text. Conditions: how a signal lies; that the raw values, and the value, may be.
-/
import Derived.Test.YticidhbnljdidaaGreatDoorSignalThose
import Derived.Test.YticidhbnljdidaaGreatDoorJSignalDrift5
import Derived.Test.YticidhbnljdidaaGreatDoorSignalHelp
import Derived.Deep.MidRow
import Derived.Test.YticidhbnljdidaaGreatDoorJJumpCome7
import Derived.Deep.DeepCutAuto
import Derived.Deep.CutBlock
import Derived.Test.YticidhbnljdidaaGreatDoorJOrderMidMath6
import Derived.Test.YticidhbnljdidaaGreatDoorFixWalks
import Derived.Test.YticidhbnljdidaaGreatDoorJSignalEnter2
import Derived.Test.YticidhbnljdidaaGreatDoorJEqualWalks5
namespace Go.Proofs.YticidhbnljdidaaGreatDoor
set_option maxRecDepth 100000
open Go.ChangeShapes Go.WideShapes Go.ChangeAt Go.RowKit Go.Deep Go.Shelf
namespace Sg
open Cf (G CA Box)
set_option maxRecDepth 100000 in
set_option maxHeartbeats 3200000 in
theorem vote_any {W : World} {b : Nat → Nat} {c : List Int} {s : Si} {u : Nat} {r : Nat → Rw} {sh : Int} {T : Nat → Int} {m : Int} (hc : c.length = 21) (hR : Cf.Right c) (hO : Ok c s) (hv : ∀ i,i < NN c → Fx.has m (i : Int) = true → Jp.val (r i).n = true) (H : Tn W b c s u r sh T m)
 (E U : List Int) (hE : ths m (fun i => (r i).n - (s.ch i).off) (List.range (NN c)) = E) (hU : ths m (fun i => G c (17 + i)) (List.range (NN c)) = U) (nv : Int) (hnv : (if Vo.votb (G c 1) (G c 2) (G c 12) E U = true then Vo.votv (G c 1) (G c 2) (G c 12) E U else s.val) = nv) :
 Calls Tryz.prog 118 #[.pointer (some ⟨u,0,none⟩)] W fun e w' => e = .returned (.tuple #[]) ∧ Tn w' b c { s with val := nv } u r sh T m ∧ But (Us b c u) W w' := by
 have h0 := H.sig
 have HC := Lib.hid hc
 have hcfg : ∀ (j : Nat) v,(cellsI .i64 c)[j]? = some v → W.cell? ⟨b 0,j,none⟩ = some v := fun j v hj => by
  obtain ⟨cap,h1⟩ := H.lie.sig
  have hl : j < 21 := by have := (List.getElem?_eq_some_iff.1 hj).1; rw [cellsI_len,hc] at this; exact this
  exact h1.cell j (by unfold sgr; rw [List.getElem?_append_left (by rw [cellsI_len]; omega)]; exact hj)
 have HCF := Lib.hid hcfg
 clear hcfg
 have V2 := Lib.hid (Box.new W (List.replicate 21 0))
 go_enter Tryz.func118,Tryz.ntmps118
 go_wp2_with (first | ((with_reducible show wpList _ _ _ (⟨some 11,_,_,_,_,_⟩ :: _) _ _); refine wpList_load_mid rfl 24 _ rfl (b 0) 0 rfl (cellsI .i64 c) _ (fun j v hv => by rw [Nat.zero_add]; exact HCF.out j v hv) Tryz.underlying24 rfl (by rw [cellsI_len,HC.out]; exact Cf.sizeC) ?_; rw [show (cellsI .i64 c).toArray = CA c from rfl]) | ((with_reducible show wpList _ _ _ (⟨none,.store _ (.tmp 2) _,_,_,_,_⟩ :: _) _ _); refine wpList_storeC rfl _ _ rfl W.heap.size (List.replicate 21 0) c rfl rfl V2.out (by simp) HC.out ?_))
 rw [show CA (List.replicate 21 0) = #[.int .i64 0,.int .i64 0,.int .i64 0,.int .i64 0,.int .i64 0,.int .i64 0,.int .i64 0,.int .i64 0,.int .i64 0,.int .i64 0,.int .i64 0,.int .i64 0,.int .i64 0,.int .i64 0,.int .i64 0,.int .i64 0,.int .i64 0,.int .i64 0,.int .i64 0,.int .i64 0,.int .i64 0] from rfl] at V2
 have HBX := Lib.hid (show Box ((W.alloc (.cells #[.int .i64 0,.int .i64 0,.int .i64 0,.int .i64 0,.int .i64 0,.int .i64 0,.int .i64 0,.int .i64 0,.int .i64 0,.int .i64 0,.int .i64 0,.int .i64 0,.int .i64 0,.int .i64 0,.int .i64 0,.int .i64 0,.int .i64 0,.int .i64 0,.int .i64 0,.int .i64 0,.int .i64 0] 24)).setRow W.heap.size (CA c)) W.heap.size c from VRow.put (show VRow _ _ 24 (cellsI .i64 (List.replicate 21 0)) from V2.out) (cellsI .i64 c))
 have HB0 := Lib.hid (show Below W.heap.size W ((W.alloc (.cells #[.int .i64 0,.int .i64 0,.int .i64 0,.int .i64 0,.int .i64 0,.int .i64 0,.int .i64 0,.int .i64 0,.int .i64 0,.int .i64 0,.int .i64 0,.int .i64 0,.int .i64 0,.int .i64 0,.int .i64 0,.int .i64 0,.int .i64 0,.int .i64 0,.int .i64 0,.int .i64 0,.int .i64 0] 24)).setRow W.heap.size (CA c)) from Below.put ((Below.refl _ W).alloc (Nat.le_refl _) _) (Nat.le_refl _) _)
 generalize (W.alloc (.cells #[.int .i64 0,.int .i64 0,.int .i64 0,.int .i64 0,.int .i64 0,.int .i64 0,.int .i64 0,.int .i64 0,.int .i64 0,.int .i64 0,.int .i64 0,.int .i64 0,.int .i64 0,.int .i64 0,.int .i64 0,.int .i64 0,.int .i64 0,.int .i64 0,.int .i64 0,.int .i64 0,.int .i64 0] 24)).setRow W.heap.size (CA c) = X at *
 have HX := Lib.hid (H.on HB0.out)
 have HW := Lib.hid (fun k (hk : Us b c u k) => H.lt hk)
 have HTE := Lib.hid (fun (Y : World) (h : Below X.heap.size X Y) => hE ▸ those_even hc hR hO hv (HX.out.on h))
 have HTW := Lib.hid (fun (Y : World) (h : Below X.heap.size X Y) => hU ▸ those_weight hc hR (HX.out.on h))
 have HEL := Lib.hid (show E.length ≤ 9223372036854775807 by
  have h1 := ths_len m (fun i => (r i).n - (s.ch i).off) (List.range (NN c))
  rw [hE,List.length_range] at h1
  have := NN_34 hR; omega)
 clear h0 V2 HCF H hE hU
 obtain ⟨vv,hvv⟩ : ∃ vv,Vo.votv (G c 1) (G c 2) (G c 12) E U = vv := ⟨_,rfl⟩
 obtain ⟨vb,hvb⟩ : ∃ vb,Vo.votb (G c 1) (G c 2) (G c 12) E U = vb := ⟨_,rfl⟩
 have HVA := Lib.hid (fun (a e : Option Addr) (ca ce : Nat) (Y : World) (hl : E.length ≤ 9223372036854775807) (hV : IntsAt .i64 Y a E) (hU : IntsAt .i64 Y e U) => Vo.vote_any (G c 1) (G c 2) (G c 12) a e ca ce E U Y hl hV hU)
 rw [hvv,hvb] at HVA
 have HVV := Lib.hid hvv
 have HVB := Lib.hid hvb
 rw [hvv,hvb] at hnv
 have HNV := Lib.hid hnv
 clear hvv hvb hnv
 refine Wr.wp_writes (aF := ?_) [23,27] [10,14,15] 39 3 [true,true,true,true,true,true,true,true,true,true,false,true,true,true,false,false,true,true,true,true,true] [true,true,true,true,true,true,true,true,true,true,false,true,true,true,false,false,true,true,true,true,true] [(23,undef),(27,undef),(28,.tuple #[.int .i64 vv,.bool vb])]
  (fun k vs Y => Below X.heap.size X Y ∧ (k = 1 ∨ k = 2 → ∃ a cap,vs.getD 0 undef = .slice a E.length cap ∧ IntsAt .i64 Y a E) ∧ (k = 2 → ∃ a cap,vs.getD 1 undef = .slice a U.length cap ∧ IntsAt .i64 Y a U))
  (fun Y => Below X.heap.size X Y)
  (by kernel_rfl) (by kernel_rfl) (by kernel_rfl) (by kernel_rfl) (by kernel_rfl) ?ha ?hMC ?hMg ?h0 ?hq ?hq2 ?hw ?hend
 case hq =>
  intro Y hY
  have hb := HBX.out.on hY
  have k1 := cell_regrown (hb.at HC.out 1 (by omega))
  have k2 := cell_regrown (hb.at HC.out 2 (by omega))
  have k12 := cell_regrown (hb.at HC.out 12 (by omega))
  simp only [Lt.sel,Lt.putAll,List.map_cons,List.map_nil,List.zip_cons_cons,List.zip_nil_right,List.foldl_cons,List.foldl_nil,Act.put,List.setIfInBounds_toArray,List.set_cons_succ,List.set_cons_zero]
  repeat (go_big_quiet_step (fail))
  exact rfl
 case ha => rfl
 case hMC => exact fun k vs Y _ hM => hM.1
 case hMg =>
  rintro k vs Y Z ⟨h1,h2,h3⟩ hC
  refine ⟨grow h1 hC.to,fun q => ?_,fun q => ?_⟩
  · obtain ⟨a,cap,e,hi⟩ := h2 q
    exact ⟨a,cap,e,hi.below hC.to⟩
  · obtain ⟨a,cap,e,hi⟩ := h3 q
    exact ⟨a,cap,e,hi.below hC.to⟩
 case h0 => exact fun _ _ => ⟨Below.refl _ _,fun q => by omega,fun q => by omega⟩
 case hq2 => intro k vs Y h1 h2; simp at h2; omega
 case hw =>
  rintro (_ | _ | _ | k) st o hs ho vs Y hl hM
  · obtain rfl : 10 = st := by simpa using hs
    obtain rfl := Option.some.inj ho
    match vs,hl with
    | [x1,x2],_ =>
      refine Wr.wp_fn (f := 163) (args := #[.pointer (some ⟨u,0,none⟩),.func (.func 166) #[.pointer (some ⟨u,0,none⟩)] #[]]) (by kernel_rfl) (HTE.out Y hM.1) ?_
      rintro e Z ⟨a,cap,rfl,-,hi,hb⟩
      exact ⟨_,rfl,_,rfl,fun d hd hn => absurd (by cases hd; simp) hn,grow hM.1 hb,fun _ => ⟨a,cap,rfl,hi⟩,fun q => by omega⟩
  · obtain rfl : 14 = st := by simpa using hs
    obtain rfl := Option.some.inj ho
    match vs,hl with
    | [x1,x2],_ =>
      obtain ⟨a1,cap1,e1,i1⟩ := hM.2.1 (.inl rfl)
      refine Wr.wp_fn (f := 163) (args := #[.pointer (some ⟨u,0,none⟩),.func (.func 167) #[.pointer (some ⟨u,0,none⟩)] #[]]) (by kernel_rfl) (HTW.out Y hM.1) ?_
      rintro e Z ⟨a,cap,rfl,-,hi,hb⟩
      exact ⟨_,rfl,_,rfl,fun d hd hn => absurd (by cases hd; simp) hn,grow hM.1 hb,fun _ => ⟨a1,cap1,e1,i1.below hb⟩,fun q => ⟨a,cap,rfl,hi⟩⟩
  · obtain rfl : 15 = st := by simpa using hs
    obtain rfl := Option.some.inj ho
    match vs,hl with
    | [x1,x2],_ =>
      obtain ⟨a1,cap1,e1,i1⟩ := hM.2.1 (.inr rfl)
      obtain ⟨a2,cap2,e2,i2⟩ := hM.2.2 rfl
      obtain rfl : x1 = .slice a1 E.length cap1 := e1
      obtain rfl : x2 = .slice a2 U.length cap2 := e2
      refine Wr.wp_fn (f := 165) (args := #[.agg #[.int .i64 (G c 1),.int .i64 (G c 2),.int .i64 (G c 12)],.slice a1 E.length cap1,.slice a2 U.length cap2]) (by kernel_rfl) (HVA.out a1 a2 cap1 cap2 Y HEL.out i1 i2) ?_
      rintro e Z ⟨rfl,hb⟩
      exact ⟨_,rfl,_,rfl,fun d hd _ => (by cases hd; rfl),grow hM.1 hb,fun q => by omega,fun q => by omega⟩
  · simp at hs
 case hend =>
  intro vs Y hl hM
  match vs,hl with
  | [x1,x2],_ =>
    have HY := HX.out.on hM.1
    have hWY := HB0.out.trans (hM.1.mono HB0.out.size)
    have HYY := Lib.hid HY
    have HWY := Lib.hid hWY
    have k0 := HY.sig
    have k1 := HY.lie.val hc
    have f1 : Y.frozen? ⟨b 0,23,none⟩ = false := by
     obtain ⟨cap,h1⟩ := HY.lie.sig; exact h1.frozen 23
    have HV := Lib.hid (HY.value hc vv)
    clear HY hWY hM
    simp only [Lt.putAll,List.zip_cons_cons,List.zip_nil_right,List.foldl_cons,List.foldl_nil,Act.put,List.setIfInBounds_toArray,List.set_cons_succ,List.set_cons_zero]
    cases vb
    · go_wp2_with fail
      go_end0
      refine ⟨rfl,?_,But.of_below HWY.out⟩
      rw [← HNV.out,if_neg (by simp)]
      exact HYY.out
    · go_wp2_with fail
      go_end0
      refine ⟨rfl,?_,(But.of_below HWY.out).trans HV.out.2⟩
      rw [← HNV.out,if_pos (by trivial)]
      exact HV.out.1
end Sg
open Go.ChangeShapes Go.WideShapes Go.ChangeAt Go.RowKit Go.Deep
namespace Od
open Fx
theorem len_take_min {l : List Int} {j : Nat} (hj : j < l.length) : (l.take j).length = Nat.min j (l.length - 1) := by
 rw [List.length_take]; show min j l.length = min j (l.length - 1); omega
theorem fit_take {l : List Int} {j : Nat} (hj : j < l.length) : 0 + (l.take j).length ≤ (List.replicate (l.length - 1) (0 : Int)).length := by
 rw [List.length_take,List.length_replicate]; omega
theorem len_drop_min {l : List Int} {j : Nat} (hj : j < l.length) : (l.drop (j + 1)).length = Nat.min (l.length - (j + 1)) (l.length - 1 - j) := by
 rw [List.length_drop]; show _ = min _ _; omega
theorem len_splice1 {l : List Int} {j : Nat} (hj : j < l.length) : (splice (List.replicate (l.length - 1) 0) 0 (l.take j)).length = l.length - 1 := by
 rw [length_splice _ _ _ (fit_take hj)]; simp
theorem fit_drop {l : List Int} {j : Nat} (hj : j < l.length) : j + (l.drop (j + 1)).length ≤ (splice (List.replicate (l.length - 1) 0) 0 (l.take j)).length := by
 rw [len_splice1 hj,List.length_drop]; omega
theorem splice_two {l : List Int} {j : Nat} (hj : j < l.length) : splice (splice (List.replicate (l.length - 1) 0) 0 (l.take j)) j (l.drop (j + 1)) = l.take j ++ l.drop (j + 1) := by
 have h1 := len_splice1 hj
 have h2 : (l.take j).length = j := by rw [List.length_take]; omega
 have h3 : (splice (List.replicate (l.length - 1) 0) 0 (l.take j)).take j = l.take j := by
  unfold splice; rw [List.take_zero,List.nil_append,List.take_append_of_le_length (by omega),List.take_of_length_le (by omega)]
 generalize splice (List.replicate (l.length - 1) 0) 0 (l.take j) = S at *
 unfold splice
 rw [h3,List.drop_eq_nil_of_le (i := j + (l.drop (j + 1)).length) (by rw [h1,List.length_drop]; omega),List.append_nil]
theorem fit_nil {l : List Int} {j : Nat} (hj : j < l.length) : j + ([] : List Int).length ≤ (splice (List.replicate (l.length - 1) 0) 0 (l.take j)).length := by
 rw [len_splice1 hj]; simp; omega
theorem splice_one {l : List Int} {j : Nat} (hj : j < l.length) (h : l.length ≤ j + 1) : splice (splice (List.replicate (l.length - 1) 0) 0 (l.take j)) j [] = l.take j ++ l.drop (j + 1) := by
 have := splice_two hj
 rwa [List.drop_eq_nil_of_le h] at this ⊢
set_option maxHeartbeats 800000 in
theorem without_in (b off : Nat) (cap : Nat) (l : List Int) (j : Nat) (w : World) (hl : l.length ≤ 9223372036854775807) (hcap : l.length ≤ cap) (hcm : cap ≤ 9223372036854775807) (hok : ok l = true) (hj : j < l.length)
 (hc : ∀ i,i < l.length → w.cell? ⟨b,off + i,none⟩ = some (.int .i64 (l.getD i 0))) :
 Calls Tryz.prog 226 #[.slice (some ⟨b,off,none⟩) l.length cap,.int .i64 j] w (RetI .i64 w (without l j)) := by
 have HF := Lib.hid ((without_yes (j : Int) hok).trans (wo_at l j))
 have h16 := ok_len hok
 have hb : IntsAt .i64 w (some ⟨b,off,none⟩) l := Or.inr ⟨b,off,rfl,hc⟩
 have HB := Lib.hid hb
 have C := told_any _ cap l w hl hb
 clear hb
 obtain ⟨i0,hi0,hz0,hz1,hz2⟩ := info_parts intInfo
 have d1 : decide ((j : Int) < 0) = false := by simp
 have d2 : decide ((l.length : Int) ≤ (j : Int)) = false := by simp; omega
 have e1 : (j : Int) ≤ (cap : Int) := by omega
 have e2 : 0 ≤ (j : Int) := by omega
 have HC := Lib.hid hc
 clear hc
 by_cases hlast : j + 1 < l.length
 · go_enter Tryz.func226,Tryz.ntmps226
   go_upto_region 8 with (first
    | (go_at_call 220; refine C.mono ?_; rintro e w' ⟨rfl,rfl⟩)
    | (at_make; refine wpList_make_full _ rfl _ _ _ rfl w.heap.size 3 i0 (.int .i64 0) 1 Tryz.underlying144 hi0 hz0 hz1 .i64 .i64 _ _ (l.length - 1) rfl rfl (by omega) (by omega) (by rw [hz2]; omega) (by unfold maxLen; omega) (Nat.le_refl _) ?_; intro w1 own1 grown1
       have R1 := Lib.hid (IRow.of_own own1 (zeros_cellsI _)); have B1 := Lib.hid ((Below.refl w.heap.size w).grown grown1 (Nat.le_refl _) (by simp)); clear own1 grown1))
   go_wp2_with ((with_reducible show wpList _ _ _ (⟨some 33,_,_,_,_,_⟩ :: _) _ _); refine wpList_copyI rfl (.tmp 29) (.tmp 32) _ rfl 3 Tryz.underlying144 intSize .i64 w.heap.size 0 (List.replicate (l.length - 1) 0) (l.take j) 3 _ _ _ _ _ _ rfl rfl R1.out (len_take_min hj) (fun _ => rfl) ((HB.out.below B1.out).take j) (fit_take hj) w.heap.size w B1.out (Nat.le_refl _) ?_
                intro w2 R2' B2'; have R2 := Lib.hid R2'.out; have B2 := Lib.hid B2'; clear R2' B2')
   go_simp
   have HS := Lib.hid (HB.out.below B2.out)
   have wj : IntKind.i64.wrap ((j : Int) + 1) = (j : Int) + 1 := IntWalk.i64_in _ (by omega)
   have wj2 : ((j : Int) + 1).toNat = j + 1 := by omega
   have wj3 : 0 ≤ (j : Int) + 1 := by omega
   have wj4 : (j : Int) + 1 ≤ (cap : Int) := by omega
   have wj5 : j ≤ l.length - 1 := by omega
   have wj6 : ¬ (l.length - 1 = j) := by omega
   have wj7 : j + 1 ≤ cap := by omega
   have wj8 : ¬ (cap = j + 1) := by omega
   have wj9 : (j : Int) + 1 ≤ (l.length : Int) := by omega
   have HD := Lib.hid (show IntsAt .i64 w2 (some ⟨b,off + (j + 1),none⟩) (l.drop (j + 1)) from intsAt_drop (j + 1) (fun i hi => (B2.out.cell (p := ⟨b,off + i,none⟩) (cell_lt (HC.out i hi))).trans (HC.out i hi)))
   clear HS
   go_region_law (refine step_copyI rfl (.tmp 36) (.tmp 40) _ rfl 3 Tryz.underlying144 intSize .i64 w.heap.size j (splice (List.replicate (l.length - 1) 0) 0 (l.take j)) (l.drop (j + 1)) 3 _ _ _ _ _ _ (by simp [Act.eval,Act.put]; rfl) (by simp [Act.eval,Act.put]; rfl) R2.out (len_drop_min hj) (fun _ => rfl) HD.out (fit_drop hj) w.heap.size w B2.out.drew (Nat.le_refl _) ?_; intro w4 R4' B4'; have R4 := Lib.hid R4'.out; have B4 := Lib.hid B4'; clear R4' B4')
   go_wp2
   go_ret
   exact retI_mk ((splice_two hj).trans HF.out.symm) (by rw [splice_two hj]; simp; omega) R4.out.ints B4.out
 · have hlast2 : l.length ≤ j + 1 := by omega
   clear hlast
   go_enter Tryz.func226,Tryz.ntmps226
   go_upto_region 8 with (first
    | (go_at_call 220; refine C.mono ?_; rintro e w' ⟨rfl,rfl⟩)
    | (at_make; refine wpList_make_full _ rfl _ _ _ rfl w.heap.size 3 i0 (.int .i64 0) 1 Tryz.underlying144 hi0 hz0 hz1 .i64 .i64 _ _ (l.length - 1) rfl rfl (by omega) (by omega) (by rw [hz2]; omega) (by unfold maxLen; omega) (Nat.le_refl _) ?_; intro w1 own1 grown1
       have R1 := Lib.hid (IRow.of_own own1 (zeros_cellsI _)); have B1 := Lib.hid ((Below.refl w.heap.size w).grown grown1 (Nat.le_refl _) (by simp)); clear own1 grown1))
   go_wp2_with ((with_reducible show wpList _ _ _ (⟨some 33,_,_,_,_,_⟩ :: _) _ _); refine wpList_copyI rfl (.tmp 29) (.tmp 32) _ rfl 3 Tryz.underlying144 intSize .i64 w.heap.size 0 (List.replicate (l.length - 1) 0) (l.take j) 3 _ _ _ _ _ _ rfl rfl R1.out (len_take_min hj) (fun _ => rfl) ((HB.out.below B1.out).take j) (fit_take hj) w.heap.size w B1.out (Nat.le_refl _) ?_
                intro w2 R2' B2'; have R2 := Lib.hid R2'.out; have B2 := Lib.hid B2'; clear R2' B2')
   go_simp
   have HS := Lib.hid (HB.out.below B2.out)
   have wj : IntKind.i64.wrap ((j : Int) + 1) = (j : Int) + 1 := IntWalk.i64_in _ (by omega)
   have wj2 : ((j : Int) + 1).toNat = j + 1 := by omega
   have wj3 : 0 ≤ (j : Int) + 1 := by omega
   have wj4 : (j : Int) + 1 ≤ (cap : Int) := by omega
   have wj5 : j ≤ l.length - 1 := by omega
   have wj7 : j + 1 ≤ cap := by omega
   have wj9 : (j : Int) + 1 ≤ (l.length : Int) := by omega
   clear HS
   go_region_law (refine step_copyI rfl (.tmp 36) (.tmp 40) _ rfl 3 Tryz.underlying144 intSize .i64 w.heap.size j (splice (List.replicate (l.length - 1) 0) 0 (l.take j)) [] 3 (if l.length - 1 = j then some ⟨w.heap.size,0,none⟩ else some ⟨w.heap.size,j,none⟩) (if cap = j + 1 then some ⟨b,off,none⟩ else some ⟨b,off + (j + 1),none⟩) 0 0 0 (cap - (j + 1)) (by simp [Act.eval,Act.put]) (by simp [Act.eval,Act.put]) R2.out rfl (fun h => absurd h (by simp)) (Or.inl rfl) (fit_nil hj) w.heap.size w B2.out.drew (Nat.le_refl _) ?_; intro w4 R4' B4'; have R4 := Lib.hid R4'.out; have B4 := Lib.hid B4'; clear R4' B4')
   all_goals go_wp2
   all_goals go_ret
   all_goals exact retI_mk ((splice_one hj (by omega)).trans HF.out.symm) (by rw [splice_one hj (by omega)]; simp; omega) R4.out.ints B4.out
set_option maxHeartbeats 800000 in
theorem without_any (a : Option Addr) (cap : Nat) (l : List Int) (i : Int) (w : World) (hl : l.length ≤ 9223372036854775807) (hcap : l.length ≤ cap) (hcm : cap ≤ 9223372036854775807) (hb : IntsAt .i64 w a l) :
 Calls Tryz.prog 226 #[.slice a l.length cap,.int .i64 i] w (RetI .i64 w (without l i)) := by
 have C := told_any _ cap l w hl hb
 cases hok : ok l
 · rw [hok] at C
   have HF := Lib.hid (without_no i hok)
   go_enter Tryz.func226,Tryz.ntmps226
   go_wp2_with (first | (go_at_call 220; refine C.mono ?_; rintro e w' ⟨rfl,rfl⟩))
   go_ret
   exact retI_nil HF.out (Below.refl _ _)
 · have HB := Lib.hid hb
   by_cases hin : 0 ≤ i ∧ i < (l.length : Int)
   · obtain ⟨j,rfl⟩ := Int.eq_ofNat_of_zero_le hin.1
     have hj : j < l.length := by omega
     rcases hb with hno | ⟨b,off,rfl,hc⟩
     · rw [hno] at hj; simp at hj
     · exact without_in b off cap l j w hl hcap hcm hok hj hc
   · rw [hok] at C
     clear hb
     have HF := Lib.hid (without_yes i hok)
     have h16 := ok_len hok
     have HW := Lib.hid (wo_out l i (by omega))
     obtain ⟨i0,hi0,hz0,hz1,hz2⟩ := info_parts intInfo
     by_cases h0 : i < 0
     · have d1 : decide (i < 0) = true := by simpa using h0
       go_enter Tryz.func226,Tryz.ntmps226
       go_upto_region 5 with (first
        | (go_at_call 220; refine C.mono ?_; rintro e w' ⟨rfl,rfl⟩)
        | (at_make; refine wpList_make_full _ rfl _ _ _ rfl w.heap.size 3 i0 (.int .i64 0) 1 Tryz.underlying144 hi0 hz0 hz1 .i64 .i64 _ _ l.length rfl rfl rfl rfl (by rw [hz2]; omega) (by unfold maxLen; omega) (Nat.le_refl _) ?_; intro w1 own1 grown1
           have R1 := Lib.hid (IRow.of_own own1 (zeros_cellsI _)); have B1 := Lib.hid ((Below.refl w.heap.size w).grown grown1 (Nat.le_refl _) (by simp)); clear own1 grown1))
       go_wp2_with ((with_reducible show wpList _ _ _ (⟨some 23,_,_,_,_,_⟩ :: _) _ _); refine wpList_copyI rfl (.tmp 21) (.tmp 22) _ rfl 3 Tryz.underlying144 intSize .i64 w.heap.size 0 (List.replicate l.length 0) l 3 _ _ _ _ _ _ rfl rfl R1.out (by simp) (fun _ => rfl) (HB.out.below B1.out) (by simp) w.heap.size w B1.out (Nat.le_refl _) ?_
                    intro w2 R2' B2'; have R2 := Lib.hid (show IRow _ _ _ _ l from (splice_whole (List.replicate l.length 0) l (by simp)) ▸ R2'.out); have B2 := Lib.hid B2'; clear R2' B2')
       go_ret
       exact retI_mk (HW.out.symm.trans HF.out.symm) rfl R2.out.ints B2.out
     · have d1 : decide (i < 0) = false := by simpa using h0
       have d2 : decide ((l.length : Int) ≤ i) = true := by simp; omega
       go_enter Tryz.func226,Tryz.ntmps226
       go_upto_region 5 with (first
        | (go_at_call 220; refine C.mono ?_; rintro e w' ⟨rfl,rfl⟩)
        | (at_make; refine wpList_make_full _ rfl _ _ _ rfl w.heap.size 3 i0 (.int .i64 0) 1 Tryz.underlying144 hi0 hz0 hz1 .i64 .i64 _ _ l.length rfl rfl rfl rfl (by rw [hz2]; omega) (by unfold maxLen; omega) (Nat.le_refl _) ?_; intro w1 own1 grown1
           have R1 := Lib.hid (IRow.of_own own1 (zeros_cellsI _)); have B1 := Lib.hid ((Below.refl w.heap.size w).grown grown1 (Nat.le_refl _) (by simp)); clear own1 grown1))
       go_wp2_with ((with_reducible show wpList _ _ _ (⟨some 23,_,_,_,_,_⟩ :: _) _ _); refine wpList_copyI rfl (.tmp 21) (.tmp 22) _ rfl 3 Tryz.underlying144 intSize .i64 w.heap.size 0 (List.replicate l.length 0) l 3 _ _ _ _ _ _ rfl rfl R1.out (by simp) (fun _ => rfl) (HB.out.below B1.out) (by simp) w.heap.size w B1.out (Nat.le_refl _) ?_
                    intro w2 R2' B2'; have R2 := Lib.hid (show IRow _ _ _ _ l from (splice_whole (List.replicate l.length 0) l (by simp)) ▸ R2'.out); have B2 := Lib.hid B2'; clear R2' B2')
       go_ret
       exact retI_mk (HW.out.symm.trans HF.out.symm) rfl R2.out.ints B2.out
end Od
namespace Pa
open Fx Od
set_option maxHeartbeats 400000 in
theorem fit_any (a : Option Addr) (cap : Nat) (l : List Int) (w : World) (hl : l.length ≤ 9223372036854775807) (hb : IntsAt .i64 w a l) :
 Calls Tryz.prog 225 #[.slice a l.length cap] w fun e w' => e = .returned (.bool (fit l)) ∧ w = w' := by
 by_cases hs : l.length < 2 ∨ 4 < l.length
 · have HF := Lib.hid (fit_short hs)
   rcases hs with h2 | h4
   · have d1 : decide ((l.length : Int) < 2) = true := by simp; omega
     go_enter Tryz.func225,Tryz.ntmps225
     go_wp2
     go_ret
     exact ⟨ret_bool HF.out.symm,rfl⟩
   · have d1 : decide ((l.length : Int) < 2) = false := by simp; omega
     have d2 : decide (4 < (l.length : Int)) = true := by simp; omega
     go_enter Tryz.func225,Tryz.ntmps225
     go_wp2
     go_ret
     exact ⟨ret_bool HF.out.symm,rfl⟩
 · have d1 : decide ((l.length : Int) < 2) = false := by simp; omega
   have d2 : decide (4 < (l.length : Int)) = false := by simp; omega
   have h2 : 2 ≤ l.length := by omega
   have h4 : l.length ≤ 4 := by omega
   have HB := Lib.hid hb
   clear hb hs
   go_enter Tryz.func225,Tryz.ntmps225
   go_wp2
   go_loop [15] (fun i => ∃ k : Nat,k ≤ l.length ∧ i = .int .i64 k ∧ (l.take k).all fr = true) (fun i => l.length - (intOf i).toNat)
   case atStart => exact ⟨0,by omega,rfl,rfl⟩
   case round =>
    obtain ⟨k,hk,rfl,hall⟩ := hrel
    have HA := Lib.hid hall
    clear hall
    by_cases hlt : k < l.length
    · rcases HB.out with hnil | ⟨b,o,rfl,hc⟩
      · rw [hnil] at hlt; simp at hlt
      have hcell := hc k hlt
      clear hc
      have HT := Lib.hid (fr_step l k hlt HA.out)
      have HN := Lib.hid (fit_not l k hlt)
      generalize l.getD k 0 = x at *
      by_cases h1 : x < -4294967296
      · go_wp2
        go_ret
        exact ⟨ret_bool (by rw [HN.out (by omega)]),rfl⟩
      · have e1 : decide (x < -4294967296) = false := by simpa using h1
        by_cases h2 : 4294967296 < x
        · go_wp2
          go_ret
          exact ⟨ret_bool (by rw [HN.out (by omega)]),rfl⟩
        · have e2 : decide (4294967296 < x) = false := by simpa using h2
          go_wp2
          go_round
          case rel => exact ⟨k + 1,by omega,by go_num,HT.out (by omega)⟩
          case measure => simp [intOf]; omega
    · have : k = l.length := by omega
      subst this
      go_wp2
      go_ret
      exact ⟨ret_bool (fit_end h2 h4 HA.out).symm,rfl⟩
set_option maxHeartbeats 1600000 in
theorem res_any (a : Option Addr) (cap : Nat) (l : List Int) (w : World) (hl : l.length ≤ 9223372036854775807) (hcap : l.length ≤ cap) (hcm : cap ≤ 9223372036854775807) (hb : IntsAt .i64 w a l) :
 Calls Tryz.prog 206 #[.slice a l.length cap] w (RetI .i64 w (res l)) := by
 have C := fit_any a cap l w hl hb
 cases hok : fit l
 · have HF := Lib.hid (res_no hok)
   rw [hok] at C
   go_enter Tryz.func206,Tryz.ntmps206
   go_wp2_with (first | (go_at_call 225; refine C.mono ?_; rintro e w' ⟨rfl,rfl⟩))
   go_ret
   exact retI_nil HF.out (Below.refl _ _)
 · have HF := Lib.hid (res_yes hok)
   rw [hok] at C
   have q := (fit_iff l).1 hok
   have h4 : l.length ≤ 4 := q.2.1
   have HK := Lib.hid hok
   have HB := Lib.hid hb
   clear hb q hok
   obtain ⟨i0,hi0,hz0,hz1,hz2⟩ := info_parts intInfo
   go_enter Tryz.func206,Tryz.ntmps206
   go_wp2_with (first
    | (go_at_call 225; refine C.mono ?_; rintro e w' ⟨rfl,rfl⟩)
    | (at_make; refine wpList_make_full _ rfl _ _ _ rfl w.heap.size 3 i0 (.int .i64 0) 1 Tryz.underlying144 hi0 hz0 hz1 .i64 .i64 _ _ l.length rfl rfl rfl rfl (by rw [hz2]; omega) (by unfold maxLen; omega) (Nat.le_refl _) ?_; intro w1 own1 grown1
       have R1 := Lib.hid (IRow.of_own own1 (zeros_cellsI _)); have B1 := Lib.hid ((Below.refl w.heap.size w).grown grown1 (Nat.le_refl _) (by simp)); clear own1 grown1))
   go_loopg [15] l.length (fun g s15 wr => ∃ k : Nat,k + g = l.length ∧ s15 = .int .i64 k ∧ Hid (IRow .i64 wr w.heap.size 3 (fill l k)) ∧ Hid (Below w.heap.size w wr))
   case atStart => exact ⟨0,by omega,rfl,Lib.hid (by rw [fill_zero]; exact R1.out),B1⟩
   case round =>
    obtain ⟨k,hk,rfl,HR,HW⟩ := hrel
    by_cases hlt : k < l.length
    · have CW := Lib.hid (fun W h => without_any a cap l (k : Int) W hl hcap hcm h)
      have ow := others_len (fit_ok HK.out) hlt
      have bm := others_mid HK.out hlt
      have bl := all_fr ((fit_iff l).1 HK.out).2.2 hlt
      have HS := Lib.hid (fill_set hlt)
      unfold resAt at HS
      have HI := Lib.hid (HB.out.below HW.out)
      have CW := without_any a cap l (k : Int) _ hl hcap hcm HI.out
      generalize without l (k : Int) = t at *
      have t4 : t.length ≤ 9223372036854775807 := by omega
      have wx : IntKind.i64.wrap (l.getD k 0 - midv t) = l.getD k 0 - midv t := IntWalk.i64_in _ (by omega)
      clear ow
      go_wp2_with fail
      refine CW.mono ?_; rintro e w2 ⟨a2,c2,rfl,i2,b2⟩
      have HR2 := Lib.hid (HR.out.below b2 HR.out.lt)
      have HW2 := Lib.hid (grow HW.out b2)
      have I2 := Lib.hid i2
      clear b2 i2 HR HW HI CW
      go_wp2_with fail
      refine (mid_any a2 c2 t _ t4 I2.out).mono ?_; rintro e w3 ⟨rfl,b3⟩
      have HR3 := Lib.hid (HR2.out.below b3 HR2.out.lt)
      have HW3 := Lib.hid (grow HW2.out b3)
      clear b3 HR2 HW2 I2
      rcases (HB.out.below HW3.out) with hnil | ⟨b,o,rfl,hc⟩
      · rw [hnil] at hlt; simp at hlt
      have hcell := hc k hlt
      have hf := HR3.out.frozen k
      have hg := HR3.out.cell k (by rw [fill_len (by omega)]; exact hlt)
      clear hc
      generalize midv t = m at *
      generalize l.getD k 0 = x at *
      generalize (fill l k).getD k 0 = y at *
      have HZ := Lib.hid (show IRow .i64 (w3.setCell ⟨w.heap.size,k,none⟩ (.int .i64 (x - m))) w.heap.size 3 (fill l (k + 1)) by rw [← HS.out]; exact HR3.out.set k (x - m))
      go_wp2_with fail
      go_roundg (gk - 1)
      case rel => exact ⟨k + 1,by omega,by go_num,HZ,Lib.hid (HW3.out.setCell (Nat.le_refl _) _)⟩
      case measure => omega
    · obtain rfl : k = l.length := by omega
      go_wp2
      go_ret
      exact retI_mk (by rw [fill_all]; exact HF.out.symm) (by rw [fill_len (Nat.le_refl _)]) HR.out.ints HW.out
set_option maxHeartbeats 1600000 in
theorem sus_any (a : Option Addr) (cap : Nat) (l : List Int) (b : Int) (w : World) (hl : l.length ≤ 9223372036854775807) (hcap : l.length ≤ cap) (hcm : cap ≤ 9223372036854775807) (hb : IntsAt .i64 w a l) :
 Calls Tryz.prog 169 #[.slice a l.length cap,.int .i64 b] w fun e w' => e = .returned (.int .i64 (sus l b)) ∧ Below w.heap.size w w' := by
 by_cases hb0 : b < 0
 · have HF := Lib.hid (show sus l b = -1 from if_pos hb0)
   go_enter Tryz.func169,Tryz.ntmps169
   go_wp2
   go_ret
   exact ⟨ret_int HF.out.symm,Below.refl _ _⟩
 · have C := res_any a cap l w hl hcap hcm hb
   have d0 : decide (b < 0) = false := by simpa using hb0
   have HF := Lib.hid (show sus l b = susOf b (res l) from if_neg hb0)
   have r4 := res_le l
   have RB := Lib.hid (fun k => res_bd l (k := k))
   generalize res l = r at *
   go_enter Tryz.func169,Tryz.ntmps169
   go_wp2_with fail
   refine C.mono ?_; rintro e w1 ⟨a1,c1,rfl,i1,b1⟩
   have HI := Lib.hid i1
   have HW := Lib.hid b1
   clear i1 b1 C hb
   go_wp2_with fail
   go_loopg [6,14] r.length (fun g s6 s14 wr => ∃ k : Nat,k + g = r.length ∧ s14 = .int .i64 k ∧ s6 = .int .i64 (last b r k) ∧ Hid (offs b r k ≤ 1) ∧ Hid (∃ n,wr = w1.drewN n))
   case atStart => exact ⟨0,by omega,rfl,rfl,Lib.hid (Nat.zero_le _),Lib.hid ⟨0,rfl⟩⟩
   case round =>
    obtain ⟨k,hk,rfl,rfl,HO,HN⟩ := hrel
    by_cases hlt : k < r.length
    · rcases HI.out with hnil | ⟨bb,o,rfl,hc⟩
      · rw [hnil] at hlt; simp at hlt
      have hcell : wr.cell? ⟨bb,o + k,none⟩ = some (.int .i64 (r.getD k 0)) := by obtain ⟨n,rfl⟩ := HN.out; exact hc k hlt
      have hbd := RB.out k hlt
      have HD := Lib.hid (off_apart (b := b) hbd)
      have HY := Lib.hid (fun h => (⟨offs_yes (b := b) (r := r) (k := k) h,last_yes h⟩ : _ ∧ _))
      have HX := Lib.hid (fun h => (⟨offs_no (b := b) (r := r) (k := k) h,last_no h⟩ : _ ∧ _))
      have HT := Lib.hid (fun h => susOf_two (b := b) (r := r) (k := k + 1) hlt h)
      have l1 := last_bd b r k
      have HZ := Lib.hid (last_none (b := b) (r := r) (k := k))
      have HQ := Lib.hid (last_some (b := b) (r := r) (k := k))
      generalize r.getD k 0 = x at *
      generalize last b r k = y at *
      clear hc
      cases hx : off b x
      · have d1 : decide (apart x 0 ≤ b) = true := by rw [HD.out,hx]; rfl
        have HE := HX.out hx
        clear HD HY HX HT HZ HQ l1 hbd
        go_wp2_with (first | (go_at_call 168; refine (apart_any _ _ _).mono ?_; rintro e w' ⟨rfl,rfl⟩))
        go_roundg (gk - 1)
        case rel => exact ⟨k + 1,by omega,by go_num,by rw [HE.2],Lib.hid (by rw [HE.1]; exact HO.out),by obtain ⟨n,rfl⟩ := HN.out; exact Lib.hid ⟨_,rfl⟩⟩
        case measure => omega
      · have d1 : decide (apart x 0 ≤ b) = false := by rw [HD.out,hx]; rfl
        have HE := HY.out hx
        by_cases hy : y = -1
        · have d2 : (y == -1) = true := by simpa using hy
          have d3 : (y != -1) = false := by simpa using hy
          have h0 : offs b r k = 0 := by
           rcases Nat.eq_zero_or_pos (offs b r k) with h | h
           · exact h
           · have := HQ.out h; omega
          have H0 := Lib.hid h0
          clear HD HY HX HT HZ HQ l1 hbd hy h0
          go_wp2_with (first | (go_at_call 168; refine (apart_any _ _ _).mono ?_; rintro e w' ⟨rfl,rfl⟩))
          go_roundg (gk - 1)
          case rel => exact ⟨k + 1,by omega,by go_num,by rw [HE.2],Lib.hid (by rw [HE.1,H0.out]; exact Nat.le_refl _),by obtain ⟨n,rfl⟩ := HN.out; exact Lib.hid ⟨_,rfl⟩⟩
          case measure => omega
        · have d2 : (y == -1) = false := by simpa using hy
          have d3 : (y != -1) = true := by simpa using hy
          have h0 : 1 ≤ offs b r k := by
           rcases Nat.eq_zero_or_pos (offs b r k) with h | h
           · exact absurd (HZ.out h) hy
           · exact h
          have HT2 := Lib.hid (HT.out (by rw [HE.1]; omega))
          clear HD HY HX HT HZ HQ l1 hbd h0
          go_wp2_with (first | (go_at_call 168; refine (apart_any _ _ _).mono ?_; rintro e w' ⟨rfl,rfl⟩))
          go_ret
          exact ⟨ret_int (by rw [HF.out,HT2.out]),by obtain ⟨n,rfl⟩ := HN.out; exact below_drewN HW.out _⟩
    · obtain rfl : k = r.length := by omega
      have HL := Lib.hid (susOf_last HO.out)
      obtain ⟨n,rfl⟩ := HN.out
      go_wp2
      go_ret
      exact ⟨ret_int (by rw [HF.out,HL.out]),below_drewN HW.out _⟩
end Pa
namespace Sg
open Cf (G CA Box)
set_option maxRecDepth 100000 in
set_option maxHeartbeats 3200000 in
theorem suspect_any {W : World} {b : Nat → Nat} {c : List Int} {s : Si} {u : Nat} {r : Nat → Rw} {sh : Int} {T : Nat → Int} {m : Int} (hc : c.length = 21) (hR : Cf.Right c) (hO : Ok c s) (hv : ∀ i,i < NN c → Fx.has m (i : Int) = true → Jp.val (r i).n = true) (H : Tn W b c s u r sh T m)
 (E U : List Int) (hE : ths m (fun i => (r i).n - (s.ch i).off) (List.range (NN c)) = E) (hU : ths m (fun i => (i : Int)) (List.range (NN c)) = U) (k : Int) (hk : Pa.sus E (G c 9) = k) (hkb : k = -1 ∨ 0 ≤ k ∧ k < U.length) (z : Int) (hz : (if k = -1 then -1 else U.getD k.toNat 0) = z) :
 Calls Tryz.prog 120 #[.pointer (some ⟨u,0,none⟩)] W fun e w' => e = .returned (.int .i64 z) ∧ Below W.heap.size W w' := by
 have HH := Lib.hid H
 have HTE := Lib.hid (fun (Y : World) (h : Below W.heap.size W Y) => hE ▸ those_even hc hR hO hv (HH.out.on h))
 have HTN := Lib.hid (fun (Y : World) (h : Below W.heap.size W Y) => hU ▸ those_number hc hR (HH.out.on h))
 have HEL := Lib.hid (show E.length ≤ 9223372036854775807 by
  have h1 := ths_len m (fun i => (r i).n - (s.ch i).off) (List.range (NN c))
  rw [hE,List.length_range] at h1
  have := NN_34 hR; omega)
 have HSU := Lib.hid (fun (a : Option Addr) (cap : Nat) (Y : World) (hcap : E.length ≤ cap) (hcm : cap ≤ 9223372036854775807) (hV : IntsAt .i64 Y a E) => Pa.sus_any a cap E (G c 9) Y HEL.out hcap hcm hV)
 rw [hk] at HSU
 have HKB := Lib.hid hkb
 have HZ := Lib.hid hz
 clear hE hU hk hkb H hz
 go_enter Tryz.func120,Tryz.ntmps120
 go_wp2_with fail
 refine Wr.wp_writes (aF := ?_) [7] [3,12] 24 2 [true,true,true,false,true,true,true,true,true,true,true,true,false,true] [true,true,true,false,true,true,true,true,true,true,true,true,false,true] [(7,undef),(16,.int .i64 k)]
  (fun j vs Y => Below W.heap.size W Y ∧ (j = 1 → ∃ a cap,vs.getD 0 undef = .slice a E.length cap ∧ E.length ≤ cap ∧ cap ≤ 9223372036854775807 ∧ IntsAt .i64 Y a E))
  (fun Y => Below W.heap.size W Y)
  (by kernel_rfl) (by kernel_rfl) (by kernel_rfl) (by kernel_rfl) (by kernel_rfl) ?ha ?hMC ?hMg ?h0 ?hq ?hq2 ?hw ?hend
 case hq =>
  intro Y hY
  have HY := HH.out.on hY
  have k1 := cell_regrown HY.sig
  have k2 := cell_regrown (HY.lie.cfg hc 9 (by omega))
  simp only [Lt.sel,Lt.putAll,List.map_cons,List.map_nil,List.zip_cons_cons,List.zip_nil_right,List.foldl_cons,List.foldl_nil,Act.put,List.setIfInBounds_toArray,List.set_cons_succ,List.set_cons_zero]
  repeat (go_big_quiet_step (fail))
  exact rfl
 case ha => rfl
 case hMC => exact fun k vs Y _ hM => hM.1
 case hMg =>
  rintro k vs Y Z ⟨h1,h2⟩ hC
  refine ⟨grow h1 hC.to,fun q => ?_⟩
  obtain ⟨a,cap,e,e1,e2,hi⟩ := h2 q
  exact ⟨a,cap,e,e1,e2,hi.below hC.to⟩
 case h0 => exact fun _ _ => ⟨Below.refl _ _,fun q => by omega⟩
 case hq2 => intro k vs Y h1 h2; simp at h2; omega
 case hw =>
  rintro (_ | _ | j) st o hs ho vs Y hl hM
  · obtain rfl : 3 = st := by simpa using hs
    obtain rfl := Option.some.inj ho
    match vs,hl with
    | [x1],_ =>
      refine Wr.wp_fn (f := 163) (args := #[.pointer (some ⟨u,0,none⟩),.func (.func 166) #[.pointer (some ⟨u,0,none⟩)] #[]]) (by kernel_rfl) (HTE.out Y hM.1) ?_
      rintro e Z ⟨a,cap,rfl,hcp,hi,hb⟩
      exact ⟨_,rfl,_,rfl,fun d hd hn => absurd (by cases hd; simp) hn,grow hM.1 hb,fun _ => ⟨a,cap,rfl,hcp.1,hcp.2,hi⟩⟩
  · obtain rfl : 12 = st := by simpa using hs
    obtain rfl := Option.some.inj ho
    match vs,hl with
    | [x1],_ =>
      obtain ⟨a1,cap1,e1,l1,l2,i1⟩ := hM.2 rfl
      obtain rfl : x1 = .slice a1 E.length cap1 := e1
      refine Wr.wp_fn (f := 169) (args := #[.slice a1 E.length cap1,.int .i64 (G c 9)]) (by kernel_rfl) (HSU.out a1 cap1 Y l1 l2 i1) ?_
      rintro e Z ⟨rfl,hb⟩
      exact ⟨_,rfl,_,rfl,fun d hd _ => (by cases hd; rfl),grow hM.1 hb,fun q => by omega⟩
  · simp at hs
 case hend =>
  intro vs Y hl hM
  match vs,hl with
  | [x1],_ =>
    have HM := Lib.hid hM.1
    have HTZ := Lib.hid (HTN.out Y hM.1)
    clear hM
    simp only [Lt.putAll,List.zip_cons_cons,List.zip_nil_right,List.foldl_cons,List.foldl_nil,Act.put,List.setIfInBounds_toArray,List.set_cons_succ,List.set_cons_zero]
    by_cases hk1 : k = -1
    · subst hk1
      go_wp2_with fail
      go_ret
      exact ⟨Fx.ret_int (by rw [← HZ.out]; simp),HM.out⟩
    · have hkk : 0 ≤ k ∧ k < U.length := HKB.out.resolve_left hk1
      have d1 : (k == -1) = false := by simpa using hk1
      obtain ⟨j,rfl⟩ : ∃ j : Nat,k = j := ⟨k.toNat,by omega⟩
      have hj : j < U.length := by omega
      have HX1 := Lib.hid hk1
      have HRT := Lib.hid (show z = U.getD j 0 by rw [← HZ.out,if_neg HX1.out,Int.toNat_natCast])
      clear hk1 hkk
      go_wp2_with (go_at_call 163; refine (HTZ.out).mono ?_; clear HTZ; rintro e Z ⟨a,cap,rfl,-,hi,hb⟩; obtain ⟨bb,oo,rfl,hcc⟩ := Or.resolve_left hi (by intro e; rw [e] at hj; simp at hj); have hc1 := hcc j hj; have HB2 := Lib.hid hb; clear hb hi hcc)
      go_ret
      exact ⟨Fx.ret_int (by rw [HRT.out]; simp [List.getD,hj]),grow HM.out HB2.out⟩
end Sg
namespace Sg
open Cf (G CA)
open Rf
attribute [local go_sem] Oper.semAt_some
def mcp (c : List Int) (s : Si) (r : Nat → Rw) (i : Nat) : Bool := decide (G c 9 < Fx.apart ((r i).n - (s.ch i).off) s.val)
def tC (c : List Int) (s : Si) (r : Nat → Rw) (T : Nat → Int) (i : Nat) : Int := T i + if mcp c s r i = true then 32 else 0
set_option maxRecDepth 100000 in
set_option maxHeartbeats 3200000 in
theorem compare_any {W : World} {b : Nat → Nat} {c : List Int} {s : Si} {u : Nat} {r : Nat → Rw} {sh : Int} {T : Nat → Int} {m : Int} (hc : c.length = 21) (hR : Cf.Right c) (hr : Rok c r) (hO : Ok c s) (hT : ∀ i,i < NN c → 0 ≤ T i ∧ T i < 32) (H : Tn W b c s u r sh T m) :
 Calls Tryz.prog 119 #[.pointer (some ⟨u,0,none⟩)] W fun e w' => e = .returned (.tuple #[]) ∧ Tn w' b c s u r sh (mx ((List.range (NN c)).filter fun i => (r i).is) (tC c s r T) T) m ∧ But (Us b c u) W w' := by
 have hN := NN_34 hR
 refine (callsIn_wide (n := 5)).1 ?_
 refine callsIn_of_wp_marks Tryz.func119 rfl trivial ?_ rfl
 simp only [Tryz.ntmps119,List.size_toArray,List.length_cons,List.length_nil,Nat.reduceAdd,Nat.reduceSub,Array.replicate_succ,Array.replicate_zero,List.push_toArray,List.append_toArray,List.nil_append,List.cons_append]
 gi_wp2_with (refine ⟨trivial,?_⟩; gi_at_call 156; refine (callsIn_wide.2 (valued_any _ _)).mono ?_; rintro e w2 ⟨rfl,rfl⟩)
 have b1 := (Boxed.new W 234 (.pointer (some ⟨u,0,none⟩))).alloc (.cells #[.pointer (some ⟨u,0,none⟩)] 234)
 have b3 := Boxed.new (W.alloc (.cells #[.pointer (some ⟨u,0,none⟩)] 234)) 234 (.pointer (some ⟨u,0,none⟩))
 rw [World.size_alloc] at b3
 have hB0 := ((Below.refl W.heap.size W).alloc (Nat.le_refl _) (.cells #[.pointer (some ⟨u,0,none⟩)] 234)).alloc (by simp) (.cells #[.pointer (some ⟨u,0,none⟩)] 234)
 have hsz : ((W.alloc (.cells #[.pointer (some ⟨u,0,none⟩)] 234)).alloc (.cells #[.pointer (some ⟨u,0,none⟩)] 234)).heap.size = W.heap.size + 2 := by simp
 generalize (W.alloc (.cells #[.pointer (some ⟨u,0,none⟩)] 234)).alloc (.cells #[.pointer (some ⟨u,0,none⟩)] 234) = W0 at *
 have H0 := H.on hB0
 have HL := Lib.hid (fun k (hk : Us b c u k) => H.lt hk)
 have HOU := Lib.hid H.out
 clear H
 refine range_goes rfl (by omega) (gf := 191) (lb := #[.pointer (some ⟨W.heap.size + 1,0,none⟩)]) rfl trivial (enters_of Tryz.func191 (by kernel_rfl) rfl)
  (hseq_valued _ (by omega) hc hR H0 b3.cell) Kc.trans (fun X k o o' _ h2 h3 h4 => Kc.put h2 h3 h4) (fun _ => rfl)
  (fun pre X => Tn X b c s u r sh (mx (pre.map (·.1)) (tC c s r T) T) m ∧ Boxed X W.heap.size 234 (.pointer (some ⟨u,0,none⟩)) ∧ But (Us b c u) W X)
  (fun _ _ _ => False)
  (OwnFrom.and (own_tn _ _ _ _) (OwnFrom.and (own_box _ _ _ _) (own_other _ _ _ (by omega))))
  (fun _ _ _ _ _ hs _ _ => hs)
  ⟨by rw [List.map_nil,mx_nil]; exact H0,b1,But.of_below hB0⟩
  (fun x => { tmps := #[.pointer (some ⟨u,0,none⟩),.pointer (some ⟨W.heap.size,0,none⟩),.int .i64 x.1,.pointer (some ⟨u,0,none⟩),.func (.func 191) #[] #[.pointer (some ⟨W.heap.size + 1,0,none⟩)],.int .i64 x.1,.pointer (some ⟨xb b x.1,0,none⟩),undef,undef,undef,undef,undef,undef,undef,undef,undef,undef,undef,undef,undef,undef,undef,undef,undef,undef,undef,undef,undef,undef,undef],defers := [] }) ?assign ?body ?done ?stop
 case assign =>
  intro l x W K hK
  dsimp only [encv]
  gi_wp2
  exact hK
 case body =>
  rintro lp pre x X ⟨HX,bx1,hB⟩ hlen hG
  have hx := x.2.1
  have hx4 : x.1 < 4 := by omega
  have hxi : (x.1 : Int) < 4 := by omega
  have HMP := Lib.hid (show (pre ++ [x]).map (·.1) = pre.map (·.1) ++ [x.1] by simp)
  have eT : mx (pre.map (·.1)) (tC c s r T) T x.1 = T x.1 := mx_not hG
  have hv : Jp.val (r x.1).n = true := by
   have := hr x.1 hx x.2.2
   unfold Jp.val; simp; omega
  have KC := Lib.hid (fun (Y : World) (s' : Si) (T' : Nat → Int) (S : Nat → Prop) (hY : Tn Y b c s' u r sh T' m) (h : But S X Y) (hS : ∀ k,S k → Of b x.1 k ∨ k = u) => (show (KeepsFrom W0.heap.size X Y ∧ Kc (Dv b u (W.heap.size + 1) W0.heap.size) (W0.heap.size + 2) X Y) ∧ Boxed Y W.heap.size 234 (.pointer (some ⟨u,0,none⟩)) ∧ But (Us b c u) W Y from by
   have hS' : ∀ k,S k → Us b c u k ∧ k ≠ b 2 := fun k q => (hS k q).elim (fun o => ⟨of_us hx o,fun e => HX.lie.apart3 hx (p := 2) (by omega) (e ▸ o)⟩) (fun e => ⟨.inr e,fun e2 => HX.out (by rw [← e,e2]; exact ⟨2,by unfold pn; omega,rfl⟩)⟩)
   refine ⟨round_kc HX hY h fun k q => ⟨by have := HL.out k (hS' k q).1; omega,by have := HL.out k (hS' k q).1; omega,(hS' k q).2⟩,?_,hB.trans (h.mono fun k q => (hS' k q).1)⟩
   exact (h.block _ (by have := bx1.lt; omega) fun q => by have := HL.out _ (hS' _ q).1; omega).trans bx1))
  have HXX := Lib.hid HX
  have B1 := Lib.hid bx1
  have hTx := hT x.1 hx
  have CT := Lib.hid (fun (Y : World) (HY : Tn Y b c s u r sh (mx (pre.map (·.1)) (tC c s r T) T) m) => trip_any HY x.1 hx4 32 (mcp c s r x.1) (.inr (.inr rfl)) (by rw [eT]; exact hTx))
  rw [eT] at CT
  have HE := Lib.hid (fun (Y : World) (T' : Nat → Int) (HY : Tn Y b c s u r sh T' m) => even_any hc hR hO HY x.1 hx hv)
  have HQ := Lib.hid (show mcp c s r x.1 = decide (G c 9 < Fx.apart ((r x.1).n - (s.ch x.1).off) s.val) from rfl)
  have HS := Lib.hid (show T x.1 + (if mcp c s r x.1 = true then 32 else 0) = tC c s r T x.1 from rfl)
  rw [HS.out] at CT
  clear HX bx1 hB hlen H0 b1 b3 hB0 hTx
  generalize mcp c s r x.1 = q at *
  generalize (r x.1).n - (s.ch x.1).off = z at *
  have HA := Lib.hid (fun Z => Fx.apart_any z s.val Z)
  generalize Fx.apart z s.val = ap at *
  gi_wp2
  refine Wr.wpIn_w1 (aF := ?_) [22] 30 [true,true,true,true,true,true,true,true,true,true,true,true,true,true,true,true,true,true,true,true,true,true,false] 29 (.tuple #[])
   (fun k Y => match k with
    | 0 => But (fun _ => False) X Y
    | _ => But (fun k => k = u) X Y ∧ Tn Y b c s u r sh (tup (mx (pre.map (·.1)) (tC c s r T) T) x.1 (tC c s r T x.1)) m)
   (fun Y => But (fun k => k = u) X Y ∧ ∃ T',Tn Y b c s u r sh T' m)
   (by kernel_rfl) (by kernel_rfl) (by kernel_rfl) (by kernel_rfl) ?hL ?ha ?hMC ?hMg ?h0 ?hq ?hw ?hend
  case hq =>
   rintro Y ⟨hY,T',HY⟩
   have huW := HL.out u (.inr rfl)
   have k1 := cell_regrown ((show Boxed Y W.heap.size 234 (.pointer (some ⟨u,0,none⟩)) from (hY.block _ B1.out.lt (by omega)).trans B1.out).cell)
   have k2 := cell_regrown HY.sig
   have k3 := cell_regrown (HY.lie.val hc)
   have k4 := cell_regrown (HY.lie.cfg hc 9 (by omega))
   have cE := reg_call (w := Y) (fun Z B => HE.out Z T' (HY.on B))
   have cA := reg_call (w := Y) (fun Z _ => (HA.out Z).mono fun e w' q => ⟨q.1,q.2 ▸ Below.refl _ _⟩)
   simp only [Lt.sel,Act.put,List.setIfInBounds_toArray,List.set_cons_succ,List.set_cons_zero]
   repeat (go_big_quiet_step (first | exact cE _ _ | exact cA _ _))
   exact rfl
  case ha => rfl
  case hL => rintro ⟨_,_,h⟩; exact h
  case hMC =>
   rintro (_ | k) Y hM
   · exact ⟨hM.mono fun _ q => q.elim,_,HXX.out.keep hM fun _ _ q => q⟩
   · exact ⟨hM.1,_,hM.2⟩
  case hMg =>
   rintro (_ | k) Y Z hM hC
   · exact hM.grow hC.to
   · exact ⟨hM.1.grow hC.to,hM.2.on hC.to⟩
  case h0 => exact But.refl _ _
  case hw =>
   rintro (_ | k) st o hs ho Y hM
   · obtain rfl : 22 = st := by simpa using hs
     obtain rfl := Option.some.inj ho
     refine Wr.wp_fn (f := 161) (args := #[.pointer (some ⟨u,0,none⟩),.int .i64 x.1,.int .i64 32,.bool q]) ?_ (CT.out Y (HXX.out.keep hM fun _ _ q => q)) ?_
     · rw [HQ.out]; kernel_rfl
     · rintro e Z ⟨rfl,z1,z2⟩
       exact ⟨_,rfl,_,rfl,fun _ _ _ => rfl,(hM.mono fun _ q => q.elim).trans z2,z1⟩
   · simp at hs
  case hend =>
   intro Y hM
   have HM := Lib.hid (show But (fun k => k = u) X Y ∧ Tn Y b c s u r sh (tup (mx (pre.map (·.1)) (tC c s r T) T) x.1 (tC c s r T x.1)) m from hM)
   clear hM
   gi_wp2
   obtain ⟨⟨k1,k2⟩,k3,k4⟩ := KC.out Y _ _ _ HM.out.2 HM.out.1 fun k e => .inr e
   refine ⟨k1,k2,?_,k3,k4⟩
   have := HM.out.2
   rw [tup_mx _ _ _ _ _ rfl] at this
   rw [HMP.out]; exact this
 case done =>
  rintro D ys X hD hys ⟨HX,-,hB⟩ hK
  gi_wp2
  refine ⟨by simp,.inl ⟨_,_,rfl,run_takeDeferred hK,?_⟩⟩
  rw [hys] at HX
  exact ⟨_,results_none rfl _ _ _,rfl,tn_put HX hK rfl,but_put hB (by omega) _⟩
 case stop =>
  rintro D cc pre X _ _ h _
  exact h.elim
end Sg
namespace Ql
open Fx (ret_bool)
open Jp (val val_iff val_no out)
theorem learn_no (g : Nat) (n vote : Int) (w : World) (hb : both n vote = false) :
 Calls Tryz.prog 171 #[.pointer (some ⟨g,0,none⟩),.int .i64 n,.int .i64 vote] w fun e w' => e = .returned (.int .i64 1) ∧ Below w.heap.size w w' := by
 have B := Lib.hid (Below.refl w.heap.size w)
 go_enter Tryz.func171,Tryz.ntmps171
 go_wp2_with (go_at_call 155; refine (outside_2 _ _ _ _ true _ (lit2 _ _ _ _) hb).mono ?_; rintro e w1 ⟨rfl,b1⟩; have B := Lib.hid (grow_alloc B.out b1); clear b1)
 go_ret
 exact ⟨rfl,by have := B.out; assumption⟩
set_option maxHeartbeats 3200000 in
theorem learn_yes (g : Nat) (auth gain offset n vote : Int) (w : World) (hT : VRow w g 273 (tri auth gain offset)) (hm : may auth gain = true) (ho : -auth ≤ offset ∧ offset ≤ auth) (hb : both n vote = true) :
 Calls Tryz.prog 171 #[.pointer (some ⟨g,0,none⟩),.int .i64 n,.int .i64 vote] w fun e w' => e = .returned (.int .i64 0) ∧ VRow w' g 273 (tri auth gain (nx auth gain offset n vote)) ∧ Only g w w' := by
 obtain ⟨m1,m2,m3,m4⟩ := (may_iff _ _).1 hm
 obtain ⟨v1,v2⟩ := (both_iff _ _).1 hb
 have hv1 := (val_iff _).1 v1
 have hv2 := (val_iff _).1 v2
 have hst := step_bd ⟨m3,m4⟩ (show -2147483647 ≤ offset ∧ offset ≤ 2147483647 by omega) hb
 have hx := nx_yes (auth := auth) (gain := gain) (offset := offset) hb
 rw [← lim_clamp m1 m2 (by omega)] at hx
 generalize nx auth gain offset n vote = x at *
 have CS := fun W => Fx.shift_any (n - vote - offset) gain W
 generalize Fx.shift (n - vote - offset) gain = s at *
 have n1 : -9223372036854775808 ≤ n - vote := by omega
 have n2 : n - vote ≤ 9223372036854775807 := by omega
 have n3 : -9223372036854775808 ≤ n - vote - offset := by omega
 have n4 : n - vote - offset ≤ 9223372036854775807 := by omega
 have n5 : -9223372036854775808 ≤ offset + s := by omega
 have n6 : offset + s ≤ 9223372036854775807 := by omega
 have CC := fun W => Fx.clamp_any (offset + s) (-auth) auth W
 rw [← hx] at CC
 have n7 : -9223372036854775808 ≤ -auth := by omega
 have n8 : -auth ≤ 9223372036854775807 := by omega
 have B := Lib.hid (Below.refl w.heap.size w)
 have T := Lib.hid hT
 clear hT hm ho v1 v2 hv1 hv2 hst hx m1 m2 m3 m4
 go_enter Tryz.func171,Tryz.ntmps171
 go_wp2_with (go_at_call 155; refine (outside_2 _ _ _ _ false _ (lit2 _ _ _ _) hb).mono ?_; rintro e w1 ⟨rfl,b1⟩; have B := Lib.hid (grow_alloc B.out b1); have T1 := Lib.hid (T.out.below B.out T.out.lt); have c2 := T1.out.cell 2 (v := .int .i64 offset) rfl; have c1 := T1.out.cell 1 (v := .int .i64 gain) rfl; clear b1)
 go_quiet (exact Calls.quiet_of_same ((CS _).mono fun e w' q => ⟨q.1,q.2.symm⟩))
 have B2 := Lib.hid (below_drewN B.out nq)
 have T2 := Lib.hid (T1.out.drewN nq)
 clear c1 c2 CS B T1
 generalize w1.drewN nq = W2 at *
 have c0 := T2.out.cell 0 (v := .int .i64 auth) rfl
 have f2 := T2.out.frozen 2
 have c2 := T2.out.cell 2 (v := .int .i64 offset) rfl
 go_wp2_with fail
 refine Tail.wp_region_quiet_tail 14 (by kernel_rfl) (by kernel_rfl) ?_
 simp only [List.take_succ_cons,List.take_zero,List.drop_succ_cons,List.drop_zero]
 repeat (first | go_big_quiet_step (fail) | (go_big_quiet_want; go_big_quiet_op; refine ⟨_,(CC _).mono (fun e w' q => ⟨q.1,q.2.symm⟩),?_⟩; go_big_quiet_on))
 refine wpQuiet_nil ?_
 clear CC
 go_wp2_with fail
 go_ret
 exact ⟨rfl,T2.out.set 2 (.int .i64 x),((show But (· = g) w W2 from But.of_below B2.out).setCell (p := ⟨g,2,none⟩) (Or.inl rfl) _).drew⟩
theorem learn_any (g : Nat) (auth gain offset n vote : Int) (w : World) (hT : VRow w g 273 (tri auth gain offset)) (hm : may auth gain = true) (ho : -auth ≤ offset ∧ offset ≤ auth) :
 Calls Tryz.prog 171 #[.pointer (some ⟨g,0,none⟩),.int .i64 n,.int .i64 vote] w fun e w' => e = .returned (.int .i64 (ce n vote)) ∧ VRow w' g 273 (tri auth gain (nx auth gain offset n vote)) ∧ Only g w w' := by
 cases hb : both n vote
 · rw [ce_no hb,nx_no hb]
   refine (learn_no g n vote w hb).mono ?_
   rintro e w' ⟨rfl,b⟩
   exact ⟨rfl,hT.below b hT.lt,But.of_below b⟩
 · rw [ce_yes hb]
   exact learn_yes g auth gain offset n vote w hT hm ho hb
end Ql
namespace Sg
open Cf (G CA)
open Rf
attribute [local go_sem] Oper.semAt_some
def nL (c : List Int) (s : Si) (r : Nat → Rw) (i : Nat) : Ch := { s.ch i with off := Ql.nx (G c 10) (G c 11) (s.ch i).off (r i).n s.val }
theorem Chan.trim {X Y : World} {b : Nat → Nat} {c : List Int} {s : Si} {i : Nat} (H : Lie X b c s) (hi : i < NN c) (B : But (fun k => k = tb b i) X Y) {o : Int} (ht : VRow Y (tb b i) 273 (Ql.tri (G c 10) (G c 11) o)) : Chan Y b c i { s.ch i with off := o } := by
 have C := H.chs i hi
 obtain ⟨n1,n2,n3,n4,n5,n6,n7,n8,n9,n10,n11⟩ := H.five hi
 obtain ⟨l,f1,f2⟩ := C.fw
 exact ⟨C.own.but B n4,C.jw.but B n7,⟨l,f1.but B n9,f2⟩,C.fl.but B n10,ht⟩
set_option maxRecDepth 100000 in
set_option maxHeartbeats 3200000 in
theorem learn_any {W : World} {b : Nat → Nat} {c : List Int} {s : Si} {u : Nat} {r : Nat → Rw} {sh : Int} {T : Nat → Int} {m : Int} (hc : c.length = 21) (hR : Cf.Right c) (hO : Ok c s) (H : Tn W b c s u r sh T m) :
 Calls Tryz.prog 121 #[.pointer (some ⟨u,0,none⟩)] W fun e w' => e = .returned (.tuple #[]) ∧ Tn w' b c { mid s ((List.range (NN c)).filter fun i => (r i).is) (nL c s r) with votes := s.votes ++ [s.val] } u r sh T m ∧ But (Us b c u) W w' := by
 have hN := NN_34 hR
 refine (callsIn_wide (n := 5)).1 ?_
 refine callsIn_of_wp_marks Tryz.func121 rfl trivial ?_ rfl
 simp only [Tryz.ntmps121,List.size_toArray,List.length_cons,List.length_nil,Nat.reduceAdd,Nat.reduceSub,Array.replicate_succ,Array.replicate_zero,List.push_toArray,List.append_toArray,List.nil_append,List.cons_append]
 gi_wp2_with (refine ⟨trivial,?_⟩; gi_at_call 156; refine (callsIn_wide.2 (valued_any _ _)).mono ?_; rintro e w2 ⟨rfl,rfl⟩)
 have b1 := (Boxed.new W 234 (.pointer (some ⟨u,0,none⟩))).alloc (.cells #[.pointer (some ⟨u,0,none⟩)] 234)
 have b3 := Boxed.new (W.alloc (.cells #[.pointer (some ⟨u,0,none⟩)] 234)) 234 (.pointer (some ⟨u,0,none⟩))
 rw [World.size_alloc] at b3
 have hB0 := ((Below.refl W.heap.size W).alloc (Nat.le_refl _) (.cells #[.pointer (some ⟨u,0,none⟩)] 234)).alloc (by simp) (.cells #[.pointer (some ⟨u,0,none⟩)] 234)
 have hsz : ((W.alloc (.cells #[.pointer (some ⟨u,0,none⟩)] 234)).alloc (.cells #[.pointer (some ⟨u,0,none⟩)] 234)).heap.size = W.heap.size + 2 := by simp
 generalize (W.alloc (.cells #[.pointer (some ⟨u,0,none⟩)] 234)).alloc (.cells #[.pointer (some ⟨u,0,none⟩)] 234) = W0 at *
 have H0 := H.on hB0
 have HL := Lib.hid (fun k (hk : Us b c u k) => H.lt hk)
 have HOU := Lib.hid H.out
 clear H
 refine range_goes rfl (by omega) (gf := 191) (lb := #[.pointer (some ⟨W.heap.size + 1,0,none⟩)]) rfl trivial (enters_of Tryz.func191 (by kernel_rfl) rfl)
  (hseq_valued _ (by omega) hc hR H0 b3.cell) Kc.trans (fun X k o o' _ h2 h3 h4 => Kc.put h2 h3 h4) (fun _ => rfl)
  (fun pre X => Tn X b c (mid s (pre.map (·.1)) (nL c s r)) u r sh T m ∧ Boxed X W.heap.size 234 (.pointer (some ⟨u,0,none⟩)) ∧ But (Us b c u) W X)
  (fun _ _ _ => False)
  (OwnFrom.and (own_tn _ _ _ _) (OwnFrom.and (own_box _ _ _ _) (own_other _ _ _ (by omega))))
  (fun _ _ _ _ _ hs _ _ => hs)
  ⟨by rw [List.map_nil,mid_nil]; exact H0,b1,But.of_below hB0⟩
  (fun x => { tmps := #[.pointer (some ⟨u,0,none⟩),.pointer (some ⟨W.heap.size,0,none⟩),.int .i64 x.1,.pointer (some ⟨xb b x.1,0,none⟩),.pointer (some ⟨u,0,none⟩),.func (.func 191) #[] #[.pointer (some ⟨W.heap.size + 1,0,none⟩)],.int .i64 x.1,.pointer (some ⟨xb b x.1,0,none⟩),undef,undef,undef,undef,undef,undef,undef,undef,undef,undef,undef,undef,undef,undef,undef,undef,undef,undef,undef,undef,undef,undef,undef,undef,undef,undef,undef,undef,undef,undef],defers := [] }) ?assign ?body ?done ?stop
 case assign =>
  intro l x W K hK
  dsimp only [encv]
  gi_wp2
  exact hK
 case body =>
  rintro lp pre x X ⟨HX,bx1,hB⟩ hlen hG
  have hx := x.2.1
  have hx4 : x.1 < 4 := by omega
  have hxi : (x.1 : Int) < 4 := by omega
  have HMP := Lib.hid (show (pre ++ [x]).map (·.1) = pre.map (·.1) ++ [x.1] by simp)
  have eS : (mid s (pre.map (·.1)) (nL c s r)).ch x.1 = s.ch x.1 := mx_not hG
  have KC := Lib.hid (fun (Y : World) (s' : Si) (T' : Nat → Int) (S : Nat → Prop) (hY : Tn Y b c s' u r sh T' m) (h : But S X Y) (hS : ∀ k,S k → Of b x.1 k ∨ k = u) => (show (KeepsFrom W0.heap.size X Y ∧ Kc (Dv b u (W.heap.size + 1) W0.heap.size) (W0.heap.size + 2) X Y) ∧ Boxed Y W.heap.size 234 (.pointer (some ⟨u,0,none⟩)) ∧ But (Us b c u) W Y from by
   have hS' : ∀ k,S k → Us b c u k ∧ k ≠ b 2 := fun k q => (hS k q).elim (fun o => ⟨of_us hx o,fun e => HX.lie.apart3 hx (p := 2) (by omega) (e ▸ o)⟩) (fun e => ⟨.inr e,fun e2 => HX.out (by rw [← e,e2]; exact ⟨2,by unfold pn; omega,rfl⟩)⟩)
   refine ⟨round_kc HX hY h fun k q => ⟨by have := HL.out k (hS' k q).1; omega,by have := HL.out k (hS' k q).1; omega,(hS' k q).2⟩,?_,hB.trans (h.mono fun k q => (hS' k q).1)⟩
   exact (h.block _ (by have := bx1.lt; omega) fun q => by have := HL.out _ (hS' _ q).1; omega).trans bx1))
  have HXX := Lib.hid HX
  have B1 := Lib.hid bx1
  have CH := HX.lie.chs x.1 hx
  rw [eS] at CH
  have HCH := Lib.hid CH
  have ho10 : 0 ≤ G c 10 ∧ G c 10 ≤ 2147483647 := by obtain ⟨-,-,-,-,-,-,-,-,-,-,h10,-⟩ := hR; exact h10
  have ho11 : 0 ≤ G c 11 ∧ G c 11 ≤ 8 := by obtain ⟨-,-,-,-,-,-,-,-,-,-,-,h11,-⟩ := hR; exact h11
  have hmay : Ql.may (G c 10) (G c 11) = true := (Ql.may_iff _ _).2 ⟨ho10.1,ho10.2,ho11.1,ho11.2⟩
  have hoo := (hO.ch x.1 hx).off
  have hfive := HX.lie.five hx
  have htu : tb b x.1 ≠ u := fun e => HX.out (e ▸ of_in hx (.inr (.inr (.inr (.inr rfl)))))
  have CL := Lib.hid (fun (Y : World) (HY : VRow Y (tb b x.1) 273 (Ql.tri (G c 10) (G c 11) (s.ch x.1).off)) => Ql.learn_any (tb b x.1) _ _ _ (r x.1).n s.val Y HY hmay hoo)
  obtain ⟨er,her⟩ : ∃ er,er = Ql.ce (r x.1).n s.val := ⟨_,rfl⟩
  rw [← her] at CL
  have HS := Lib.hid eS
  have hb02 : b 2 ≠ tb b x.1 := fun e => by have := HX.lie.inj 2 (7 + 5 * x.1) (by unfold pn; omega) (by unfold pn; omega) e; omega
  have hb00 : b 0 ≠ tb b x.1 := fun e => by have := HX.lie.inj 0 (7 + 5 * x.1) (by unfold pn; omega) (by unfold pn; omega) e; omega
  clear HX bx1 hB hlen H0 b1 b3 hB0 her CH hmay ho10 ho11 hoo
  gi_wp2
  refine Wr.wpIn_w1 (aF := ?_) [14] 38 [true,true,true,true,true,true,true,true,true,true,true,true,true,true,false] 22 (.int .i64 er)
   (fun k Y => match k with
    | 0 => But (fun _ => False) X Y
    | _ => But (fun k => k = tb b x.1) X Y ∧ VRow Y (tb b x.1) 273 (Ql.tri (G c 10) (G c 11) (Ql.nx (G c 10) (G c 11) (s.ch x.1).off (r x.1).n s.val)))
   (fun Y => But (fun k => k = tb b x.1) X Y)
   (by kernel_rfl) (by kernel_rfl) (by kernel_rfl) (by kernel_rfl) ?hL ?ha ?hMC ?hMg ?h0 ?hq ?hw ?hend
  case hq =>
   intro Y hY
   have htW := HL.out (tb b x.1) (of_us hx (.inr (.inr (.inr (.inr rfl)))))
   have k1 := cell_regrown ((show Boxed Y W.heap.size 234 (.pointer (some ⟨u,0,none⟩)) from (hY.block _ B1.out.lt (by omega)).trans B1.out).cell)
   have hTY := HXX.out.trn.but hY (fun e => htu e.symm)
   have k2 := cell_regrown (hTY.cell 0 (v := .pointer (some ⟨b 0,0,none⟩)) rfl)
   have k3 := cell_regrown ((World.cell?_of_block (w := X) (a := ⟨b 0,23,none⟩) (hY.block (b 0) (HXX.out.lie.lt ⟨0,by unfold pn; omega,rfl⟩) hb00)).trans (HXX.out.lie.val hc))
   have k4 := cell_regrown ((HCH.out.own.but hY (by omega)).cell 3 (v := .pointer (some ⟨tb b x.1,0,none⟩)) rfl)
   have cR := reg_call (w := Y) (fun Z B => (raw_row (hTY.below B hTY.lt) x.1 hx4).mono fun e w' q => ⟨q.1,q.2 ▸ Below.refl _ _⟩)
   simp only [Lt.sel,Act.put,List.setIfInBounds_toArray,List.set_cons_succ,List.set_cons_zero]
   repeat (go_big_quiet_step (exact cR _ _))
   exact rfl
  case ha => rfl
  case hL => rintro ⟨_,_,h⟩; exact h
  case hMC =>
   rintro (_ | k) Y hM
   · exact hM.mono fun _ q => q.elim
   · exact hM.1
  case hMg =>
   rintro (_ | k) Y Z hM hC
   · exact hM.grow hC.to
   · exact ⟨hM.1.grow hC.to,hM.2.below hC.to hM.2.lt⟩
  case h0 => exact But.refl _ _
  case hw =>
   rintro (_ | k) st o hs ho Y hM
   · obtain rfl : 14 = st := by simpa using hs
     obtain rfl := Option.some.inj ho
     refine Wr.wp_fn (f := 171) (args := #[.pointer (some ⟨tb b x.1,0,none⟩),.int .i64 (r x.1).n,.int .i64 s.val]) ?_ (CL.out Y (HCH.out.tr.but hM fun q => q)) ?_
     · kernel_rfl
     · rintro e Z ⟨rfl,z1,z2⟩
       exact ⟨_,rfl,_,rfl,fun _ _ _ => rfl,(hM.mono fun _ q => q.elim).trans z2,z1⟩
   · simp at hs
  case hend =>
   intro Y hM
   have HM := Lib.hid (show But (fun k => k = tb b x.1) X Y ∧ VRow Y (tb b x.1) 273 (Ql.tri (G c 10) (G c 11) (Ql.nx (G c 10) (G c 11) (s.ch x.1).off (r x.1).n s.val)) from hM)
   clear hM
   gi_wp2
   have HB := HM.out.1.mono (S' := Of b x.1) fun k e => .inr (.inr (.inr (.inr e)))
   have HY := HXX.out.set hx HB (Chan.trim HXX.out.lie hx HM.out.1 HM.out.2)
   obtain ⟨⟨k1,k2⟩,k3,k4⟩ := KC.out Y _ _ _ HY HB fun k e => .inl e
   refine ⟨k1,k2,?_,k3,k4⟩
   rw [put_mid _ _ _ _ _ (show _ = nL c s r x.1 by rw [HS.out]; rfl)] at HY
   rw [HMP.out]; exact HY
 case done =>
  rintro D ys X hD hys ⟨HX,bx1,hB⟩ hK
  rw [hys] at HX
  have hvv : Jp.val s.val = true := by
   have h1 := hO.val
   obtain ⟨-,h2,h3,-⟩ := hR
   unfold Jp.val; simp; omega
  have hrm := HX.lie.room
  have CV := Lib.hid (fun (Y : World) (hY : But (fun _ => False) X Y) => Sk.vote_yes (b 1) (PW c) (G c 5) _ s.val Y hvv (room_but hrm hY fun q => q))
  have hPW := PW_bd hR
  rw [show (mid s ((List.range (NN c)).filter fun i => (r i).is) (nL c s r)).votes = s.votes from rfl,Sk.lastN_snoc hPW.1] at CV
  have hl1 : b 1 < W.heap.size := HL.out _ (.inl ⟨1,by unfold pn; omega,rfl⟩)
  have hu1 : u ≠ b 1 := fun e => HOU.out (e ▸ ⟨1,by unfold pn; omega,rfl⟩)
  have h01 : b 0 ≠ b 1 := fun e => by have := HX.lie.inj 0 1 (by unfold pn; omega) (by unfold pn; omega) e; omega
  clear b1 b3 H0 hB0 hrm
  gi_wp2
  refine wpIn_wide.2 ?_
  refine Wr.wp_w1 (aF := ?_) [14] 38 [true,true,true,true,true,true,true,true,true,true,true,true,true,true,false] 37 (.int .i64 0)
   (fun k Y => match k with
    | 0 => But (fun _ => False) X Y
    | _ => But (fun k => k = b 1) X Y ∧ Sk.Room Y (b 1) (PW c) (G c 5) (Sk.lastN (PW c) (s.votes ++ [s.val])))
   (fun Y => But (fun k => k = b 1) X Y)
   (by kernel_rfl) (by kernel_rfl) (by kernel_rfl) ?ha ?hMC ?hMg ?h0 ?hq ?hw ?hend
  case hq =>
   intro Y hY
   have k1 := cell_regrown ((show Boxed Y W.heap.size 234 (.pointer (some ⟨u,0,none⟩)) from (hY.block _ bx1.lt (by omega)).trans bx1).cell)
   have k2 := cell_regrown ((HX.trn.but hY hu1).cell 0 (v := .pointer (some ⟨b 0,0,none⟩)) rfl)
   have h0 := hY.block (b 0) (HX.lie.lt ⟨0,by unfold pn; omega,rfl⟩) h01
   have k3 := cell_regrown ((World.cell?_of_block (w := X) (a := ⟨b 0,23,none⟩) h0).trans (HX.lie.val hc))
   have k4 := cell_regrown ((World.cell?_of_block (w := X) (a := ⟨b 0,21,none⟩) h0).trans (HX.lie.rm hc))
   rw [show (mid s ((List.range (NN c)).filter fun i => (r i).is) (nL c s r)).val = s.val from rfl] at k3
   simp only [Lt.sel,Act.put,List.setIfInBounds_toArray,List.set_cons_succ,List.set_cons_zero]
   repeat (go_big_quiet_step (fail))
   exact rfl
  case ha => rfl
  case hMC =>
   rintro (_ | k) Y hM
   · exact hM.mono fun _ q => q.elim
   · exact hM.1
  case hMg =>
   rintro (_ | k) Y Z hM hC
   · exact hM.grow hC.to
   · exact ⟨hM.1.grow hC.to,hM.2.below hC.to hM.2.lt⟩
  case h0 => exact But.refl _ _
  case hw =>
   rintro (_ | k) st o hs ho Y hM
   · obtain rfl : 14 = st := by simpa using hs
     obtain rfl := Option.some.inj ho
     refine Wr.wp_fn (f := 172) (args := #[.pointer (some ⟨b 1,0,none⟩),.int .i64 s.val]) ?_ (CV.out Y hM) ?_
     · kernel_rfl
     · rintro e Z ⟨rfl,z1,z2⟩
       exact ⟨_,rfl,_,rfl,fun _ _ _ => rfl,(hM.mono fun _ q => q.elim).trans z2,z1⟩
   · simp at hs
  case hend =>
   intro Y hM
   have hM : But (fun k => k = b 1) X Y ∧ Sk.Room Y (b 1) (PW c) (G c 5) (Sk.lastN (PW c) (s.votes ++ [s.val])) := hM
   have hK' := (hM.1.block D (Array.getElem?_eq_some_iff.1 hK).1 (by omega)).trans hK
   refine ⟨by simp,.inl ⟨_,_,rfl,run_takeDeferred hK',?_⟩⟩
   have HY : Tn Y b c { mid s ((List.range (NN c)).filter fun i => (r i).is) (nL c s r) with votes := s.votes ++ [s.val] } u r sh T m := ⟨HX.lie.setRoom _ hM.1 hM.2,HX.trn.but hM.1 hu1,HX.out⟩
   exact ⟨_,results_none rfl _ _ _,rfl,tn_put HY hK' rfl,but_put (hB.trans (hM.1.mono fun k e => .inl ⟨1,by unfold pn; omega,e⟩)) (by omega) _⟩
 case stop =>
  rintro D cc pre X _ _ h _
  exact h.elim
end Sg
end Go.Proofs.YticidhbnljdidaaGreatDoor
