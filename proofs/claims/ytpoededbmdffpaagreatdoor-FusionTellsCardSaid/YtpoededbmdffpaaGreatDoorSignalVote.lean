/-
  What vote of package signal does (the fourth step of a cycle): a contract by walking the Go text. Conditions: how a signal lies; that the raw values of those that are in may be.
-/
import Derived.Test.YtpoededbmdffpaaGreatDoorSignalThose
import Derived.Test.YtpoededbmdffpaaGreatDoorVoteVote
import Derived.Test.YtpoededbmdffpaaGreatDoorSignalHelp
import Derived.Deep.MidRow
namespace Go.Proofs.YtpoededbmdffpaaGreatDoor
set_option maxRecDepth 100000
open Go.ChangeShapes Go.WideShapes Go.ChangeAt Go.RowKit Go.Deep Go.Shelf
namespace Sg
open Cf (G CA Box)
set_option maxRecDepth 100000 in
set_option maxHeartbeats 3200000 in
theorem vote_any {W : World} {b : Nat → Nat} {c : List Int} {s : Si} {u : Nat} {r : Nat → Rw} {sh : Int} {T : Nat → Int} {m : Int} (hc : c.length = 21) (hR : Cf.Right c) (hO : Ok c s) (hv : ∀ i, i < NN c → Fx.has m (i : Int) = true → Jp.val (r i).n = true) (H : Tn W b c s u r sh T m)
    (E U : List Int) (hE : ths m (fun i => (r i).n - (s.ch i).off) (List.range (NN c)) = E) (hU : ths m (fun i => G c (17 + i)) (List.range (NN c)) = U) (nv : Int) (hnv : (if Vo.votb (G c 1) (G c 2) (G c 12) E U = true then Vo.votv (G c 1) (G c 2) (G c 12) E U else s.val) = nv) :
    Calls Tryz.prog 118 #[.pointer (some ⟨u, 0, none⟩)] W fun e w' => e = .returned (.tuple #[]) ∧ Tn w' b c { s with val := nv } u r sh T m ∧ But (Us b c u) W w' := by
  have h0 := H.sig
  have HC := Lib.hid hc
  have hcfg : ∀ (j : Nat) v, (cellsI .i64 c)[j]? = some v → W.cell? ⟨b 0, j, none⟩ = some v := fun j v hj => by
    obtain ⟨cap, h1⟩ := H.lie.sig
    have hl : j < 21 := by have := (List.getElem?_eq_some_iff.1 hj).1; rw [cellsI_len, hc] at this; exact this
    exact h1.cell j (by unfold sgr; rw [List.getElem?_append_left (by rw [cellsI_len]; omega)]; exact hj)
  have HCF := Lib.hid hcfg
  clear hcfg
  have V2 := Lib.hid (Box.new W (List.replicate 21 0))
  go_enter Tryz.func118, Tryz.ntmps118
  go_wp2_with (first | ((with_reducible show wpList _ _ _ (⟨some 11, _, _, _, _, _⟩ :: _) _ _); refine wpList_load_mid rfl 24 _ rfl (b 0) 0 rfl (cellsI .i64 c) _ (fun j v hv => by rw [Nat.zero_add]; exact HCF.out j v hv) Tryz.underlying24 rfl (by rw [cellsI_len, HC.out]; exact Cf.sizeC) ?_; rw [show (cellsI .i64 c).toArray = CA c from rfl]) | ((with_reducible show wpList _ _ _ (⟨none, .store _ (.tmp 2) _, _, _, _, _⟩ :: _) _ _); refine wpList_storeC rfl _ _ rfl W.heap.size (List.replicate 21 0) c rfl rfl V2.out (by simp) HC.out ?_))
  rw [show CA (List.replicate 21 0) = #[.int .i64 0, .int .i64 0, .int .i64 0, .int .i64 0, .int .i64 0, .int .i64 0, .int .i64 0, .int .i64 0, .int .i64 0, .int .i64 0, .int .i64 0, .int .i64 0, .int .i64 0, .int .i64 0, .int .i64 0, .int .i64 0, .int .i64 0, .int .i64 0, .int .i64 0, .int .i64 0, .int .i64 0] from rfl] at V2
  have HBX := Lib.hid (show Box ((W.alloc (.cells #[.int .i64 0, .int .i64 0, .int .i64 0, .int .i64 0, .int .i64 0, .int .i64 0, .int .i64 0, .int .i64 0, .int .i64 0, .int .i64 0, .int .i64 0, .int .i64 0, .int .i64 0, .int .i64 0, .int .i64 0, .int .i64 0, .int .i64 0, .int .i64 0, .int .i64 0, .int .i64 0, .int .i64 0] 24)).setRow W.heap.size (CA c)) W.heap.size c from VRow.put (show VRow _ _ 24 (cellsI .i64 (List.replicate 21 0)) from V2.out) (cellsI .i64 c))
  have HB0 := Lib.hid (show Below W.heap.size W ((W.alloc (.cells #[.int .i64 0, .int .i64 0, .int .i64 0, .int .i64 0, .int .i64 0, .int .i64 0, .int .i64 0, .int .i64 0, .int .i64 0, .int .i64 0, .int .i64 0, .int .i64 0, .int .i64 0, .int .i64 0, .int .i64 0, .int .i64 0, .int .i64 0, .int .i64 0, .int .i64 0, .int .i64 0, .int .i64 0] 24)).setRow W.heap.size (CA c)) from Below.put ((Below.refl _ W).alloc (Nat.le_refl _) _) (Nat.le_refl _) _)
  generalize (W.alloc (.cells #[.int .i64 0, .int .i64 0, .int .i64 0, .int .i64 0, .int .i64 0, .int .i64 0, .int .i64 0, .int .i64 0, .int .i64 0, .int .i64 0, .int .i64 0, .int .i64 0, .int .i64 0, .int .i64 0, .int .i64 0, .int .i64 0, .int .i64 0, .int .i64 0, .int .i64 0, .int .i64 0, .int .i64 0] 24)).setRow W.heap.size (CA c) = X at *
  have HX := Lib.hid (H.on HB0.out)
  have HW := Lib.hid (fun k (hk : Us b c u k) => H.lt hk)
  have HTE := Lib.hid (fun (Y : World) (h : Below X.heap.size X Y) => hE ▸ those_even hc hR hO hv (HX.out.on h))
  have HTW := Lib.hid (fun (Y : World) (h : Below X.heap.size X Y) => hU ▸ those_weight hc hR (HX.out.on h))
  have HEL := Lib.hid (show E.length ≤ 9223372036854775807 by
    have h1 := ths_len m (fun i => (r i).n - (s.ch i).off) (List.range (NN c))
    rw [hE, List.length_range] at h1
    have := NN_34 hR; omega)
  clear h0 V2 HCF H hE hU
  obtain ⟨vv, hvv⟩ : ∃ vv, Vo.votv (G c 1) (G c 2) (G c 12) E U = vv := ⟨_, rfl⟩
  obtain ⟨vb, hvb⟩ : ∃ vb, Vo.votb (G c 1) (G c 2) (G c 12) E U = vb := ⟨_, rfl⟩
  have HVA := Lib.hid (fun (a e : Option Addr) (ca ce : Nat) (Y : World) (hl : E.length ≤ 9223372036854775807) (hV : IntsAt .i64 Y a E) (hU : IntsAt .i64 Y e U) => Vo.vote_any (G c 1) (G c 2) (G c 12) a e ca ce E U Y hl hV hU)
  rw [hvv, hvb] at HVA
  have HVV := Lib.hid hvv
  have HVB := Lib.hid hvb
  rw [hvv, hvb] at hnv
  have HNV := Lib.hid hnv
  clear hvv hvb hnv
  refine Wr.wp_writes (aF := ?_) [23, 27] [10, 14, 15] 39 3 [true, true, true, true, true, true, true, true, true, true, false, true, true, true, false, false, true, true, true, true, true] [true, true, true, true, true, true, true, true, true, true, false, true, true, true, false, false, true, true, true, true, true] [(23, undef), (27, undef), (28, .tuple #[.int .i64 vv, .bool vb])]
    (fun k vs Y => Below X.heap.size X Y ∧ (k = 1 ∨ k = 2 → ∃ a cap, vs.getD 0 undef = .slice a E.length cap ∧ IntsAt .i64 Y a E) ∧ (k = 2 → ∃ a cap, vs.getD 1 undef = .slice a U.length cap ∧ IntsAt .i64 Y a U))
    (fun Y => Below X.heap.size X Y)
    (by kernel_rfl) (by kernel_rfl) (by kernel_rfl) (by kernel_rfl) (by kernel_rfl) ?ha ?hMC ?hMg ?h0 ?hq ?hq2 ?hw ?hend
  case hq =>
    intro Y hY
    have hb := HBX.out.on hY
    have k1 := cell_regrown (hb.at HC.out 1 (by omega))
    have k2 := cell_regrown (hb.at HC.out 2 (by omega))
    have k12 := cell_regrown (hb.at HC.out 12 (by omega))
    simp only [Lt.sel, Lt.putAll, List.map_cons, List.map_nil, List.zip_cons_cons, List.zip_nil_right, List.foldl_cons, List.foldl_nil, Act.put, List.setIfInBounds_toArray, List.set_cons_succ, List.set_cons_zero]
    repeat (go_big_quiet_step (fail))
    exact rfl
  case ha => rfl
  case hMC => exact fun k vs Y _ hM => hM.1
  case hMg =>
    rintro k vs Y Z ⟨h1, h2, h3⟩ hC
    refine ⟨grow h1 hC.to, fun q => ?_, fun q => ?_⟩
    · obtain ⟨a, cap, e, hi⟩ := h2 q
      exact ⟨a, cap, e, hi.below hC.to⟩
    · obtain ⟨a, cap, e, hi⟩ := h3 q
      exact ⟨a, cap, e, hi.below hC.to⟩
  case h0 => exact fun _ _ => ⟨Below.refl _ _, fun q => by omega, fun q => by omega⟩
  case hq2 => intro k vs Y h1 h2; simp at h2; omega
  case hw =>
    rintro (_ | _ | _ | k) st o hs ho vs Y hl hM
    · obtain rfl : 10 = st := by simpa using hs
      obtain rfl := Option.some.inj ho
      match vs, hl with
      | [x1, x2], _ =>
        refine Wr.wp_fn (f := 163) (args := #[.pointer (some ⟨u, 0, none⟩), .func (.func 166) #[.pointer (some ⟨u, 0, none⟩)] #[]]) (by kernel_rfl) (HTE.out Y hM.1) ?_
        rintro e Z ⟨a, cap, rfl, -, hi, hb⟩
        exact ⟨_, rfl, _, rfl, fun d hd hn => absurd (by cases hd; simp) hn, grow hM.1 hb, fun _ => ⟨a, cap, rfl, hi⟩, fun q => by omega⟩
    · obtain rfl : 14 = st := by simpa using hs
      obtain rfl := Option.some.inj ho
      match vs, hl with
      | [x1, x2], _ =>
        obtain ⟨a1, cap1, e1, i1⟩ := hM.2.1 (.inl rfl)
        refine Wr.wp_fn (f := 163) (args := #[.pointer (some ⟨u, 0, none⟩), .func (.func 167) #[.pointer (some ⟨u, 0, none⟩)] #[]]) (by kernel_rfl) (HTW.out Y hM.1) ?_
        rintro e Z ⟨a, cap, rfl, -, hi, hb⟩
        exact ⟨_, rfl, _, rfl, fun d hd hn => absurd (by cases hd; simp) hn, grow hM.1 hb, fun _ => ⟨a1, cap1, e1, i1.below hb⟩, fun q => ⟨a, cap, rfl, hi⟩⟩
    · obtain rfl : 15 = st := by simpa using hs
      obtain rfl := Option.some.inj ho
      match vs, hl with
      | [x1, x2], _ =>
        obtain ⟨a1, cap1, e1, i1⟩ := hM.2.1 (.inr rfl)
        obtain ⟨a2, cap2, e2, i2⟩ := hM.2.2 rfl
        obtain rfl : x1 = .slice a1 E.length cap1 := e1
        obtain rfl : x2 = .slice a2 U.length cap2 := e2
        refine Wr.wp_fn (f := 165) (args := #[.agg #[.int .i64 (G c 1), .int .i64 (G c 2), .int .i64 (G c 12)], .slice a1 E.length cap1, .slice a2 U.length cap2]) (by kernel_rfl) (HVA.out a1 a2 cap1 cap2 Y HEL.out i1 i2) ?_
        rintro e Z ⟨rfl, hb⟩
        exact ⟨_, rfl, _, rfl, fun d hd _ => (by cases hd; rfl), grow hM.1 hb, fun q => by omega, fun q => by omega⟩
    · simp at hs
  case hend =>
    intro vs Y hl hM
    match vs, hl with
    | [x1, x2], _ =>
      have HY := HX.out.on hM.1
      have hWY := HB0.out.trans (hM.1.mono HB0.out.size)
      have HYY := Lib.hid HY
      have HWY := Lib.hid hWY
      have k0 := HY.sig
      have k1 := HY.lie.val hc
      have f1 : Y.frozen? ⟨b 0, 23, none⟩ = false := by
        obtain ⟨cap, h1⟩ := HY.lie.sig; exact h1.frozen 23
      have HV := Lib.hid (HY.value hc vv)
      clear HY hWY hM
      simp only [Lt.putAll, List.zip_cons_cons, List.zip_nil_right, List.foldl_cons, List.foldl_nil, Act.put, List.setIfInBounds_toArray, List.set_cons_succ, List.set_cons_zero]
      cases vb
      · go_wp2_with fail
        go_end0
        refine ⟨rfl, ?_, But.of_below HWY.out⟩
        rw [← HNV.out, if_neg (by simp)]
        exact HYY.out
      · go_wp2_with fail
        go_end0
        refine ⟨rfl, ?_, (But.of_below HWY.out).trans HV.out.2⟩
        rw [← HNV.out, if_pos (by trivial)]
        exact HV.out.1
end Sg
end Go.Proofs.YtpoededbmdffpaaGreatDoor
