/-
  What suspect of package signal returns (the sixth step of a cycle): a contract by walking the Go text. Conditions: how a signal lies; that the raw values of those that are in may be.
-/
import Derived.Test.YtpoededbmdffpaaGreatDoorSignalThose
import Derived.Test.YtpoededbmdffpaaGreatDoorParityWalks
namespace Go.Proofs.YtpoededbmdffpaaGreatDoor
set_option maxRecDepth 100000
open Go.ChangeShapes Go.WideShapes Go.ChangeAt Go.RowKit Go.Deep Go.Shelf
namespace Sg
open Cf (G CA Box)
set_option maxRecDepth 100000 in
set_option maxHeartbeats 3200000 in
theorem suspect_any {W : World} {b : Nat → Nat} {c : List Int} {s : Si} {u : Nat} {r : Nat → Rw} {sh : Int} {T : Nat → Int} {m : Int} (hc : c.length = 21) (hR : Cf.Right c) (hO : Ok c s) (hv : ∀ i, i < NN c → Fx.has m (i : Int) = true → Jp.val (r i).n = true) (H : Tn W b c s u r sh T m)
    (E U : List Int) (hE : ths m (fun i => (r i).n - (s.ch i).off) (List.range (NN c)) = E) (hU : ths m (fun i => (i : Int)) (List.range (NN c)) = U) (k : Int) (hk : Pa.sus E (G c 9) = k) (hkb : k = -1 ∨ 0 ≤ k ∧ k < U.length) (z : Int) (hz : (if k = -1 then -1 else U.getD k.toNat 0) = z) :
    Calls Tryz.prog 120 #[.pointer (some ⟨u, 0, none⟩)] W fun e w' => e = .returned (.int .i64 z) ∧ Below W.heap.size W w' := by
  have HH := Lib.hid H
  have HTE := Lib.hid (fun (Y : World) (h : Below W.heap.size W Y) => hE ▸ those_even hc hR hO hv (HH.out.on h))
  have HTN := Lib.hid (fun (Y : World) (h : Below W.heap.size W Y) => hU ▸ those_number hc hR (HH.out.on h))
  have HEL := Lib.hid (show E.length ≤ 9223372036854775807 by
    have h1 := ths_len m (fun i => (r i).n - (s.ch i).off) (List.range (NN c))
    rw [hE, List.length_range] at h1
    have := NN_34 hR; omega)
  have HSU := Lib.hid (fun (a : Option Addr) (cap : Nat) (Y : World) (hcap : E.length ≤ cap) (hcm : cap ≤ 9223372036854775807) (hV : IntsAt .i64 Y a E) => Pa.sus_any a cap E (G c 9) Y HEL.out hcap hcm hV)
  rw [hk] at HSU
  have HKB := Lib.hid hkb
  have HZ := Lib.hid hz
  clear hE hU hk hkb H hz
  go_enter Tryz.func120, Tryz.ntmps120
  go_wp2_with fail
  refine Wr.wp_writes (aF := ?_) [7] [3, 12] 24 2 [true, true, true, false, true, true, true, true, true, true, true, true, false, true] [true, true, true, false, true, true, true, true, true, true, true, true, false, true] [(7, undef), (16, .int .i64 k)]
    (fun j vs Y => Below W.heap.size W Y ∧ (j = 1 → ∃ a cap, vs.getD 0 undef = .slice a E.length cap ∧ E.length ≤ cap ∧ cap ≤ 9223372036854775807 ∧ IntsAt .i64 Y a E))
    (fun Y => Below W.heap.size W Y)
    (by kernel_rfl) (by kernel_rfl) (by kernel_rfl) (by kernel_rfl) (by kernel_rfl) ?ha ?hMC ?hMg ?h0 ?hq ?hq2 ?hw ?hend
  case hq =>
    intro Y hY
    have HY := HH.out.on hY
    have k1 := cell_regrown HY.sig
    have k2 := cell_regrown (HY.lie.cfg hc 9 (by omega))
    simp only [Lt.sel, Lt.putAll, List.map_cons, List.map_nil, List.zip_cons_cons, List.zip_nil_right, List.foldl_cons, List.foldl_nil, Act.put, List.setIfInBounds_toArray, List.set_cons_succ, List.set_cons_zero]
    repeat (go_big_quiet_step (fail))
    exact rfl
  case ha => rfl
  case hMC => exact fun k vs Y _ hM => hM.1
  case hMg =>
    rintro k vs Y Z ⟨h1, h2⟩ hC
    refine ⟨grow h1 hC.to, fun q => ?_⟩
    obtain ⟨a, cap, e, e1, e2, hi⟩ := h2 q
    exact ⟨a, cap, e, e1, e2, hi.below hC.to⟩
  case h0 => exact fun _ _ => ⟨Below.refl _ _, fun q => by omega⟩
  case hq2 => intro k vs Y h1 h2; simp at h2; omega
  case hw =>
    rintro (_ | _ | j) st o hs ho vs Y hl hM
    · obtain rfl : 3 = st := by simpa using hs
      obtain rfl := Option.some.inj ho
      match vs, hl with
      | [x1], _ =>
        refine Wr.wp_fn (f := 163) (args := #[.pointer (some ⟨u, 0, none⟩), .func (.func 166) #[.pointer (some ⟨u, 0, none⟩)] #[]]) (by kernel_rfl) (HTE.out Y hM.1) ?_
        rintro e Z ⟨a, cap, rfl, hcp, hi, hb⟩
        exact ⟨_, rfl, _, rfl, fun d hd hn => absurd (by cases hd; simp) hn, grow hM.1 hb, fun _ => ⟨a, cap, rfl, hcp.1, hcp.2, hi⟩⟩
    · obtain rfl : 12 = st := by simpa using hs
      obtain rfl := Option.some.inj ho
      match vs, hl with
      | [x1], _ =>
        obtain ⟨a1, cap1, e1, l1, l2, i1⟩ := hM.2 rfl
        obtain rfl : x1 = .slice a1 E.length cap1 := e1
        refine Wr.wp_fn (f := 169) (args := #[.slice a1 E.length cap1, .int .i64 (G c 9)]) (by kernel_rfl) (HSU.out a1 cap1 Y l1 l2 i1) ?_
        rintro e Z ⟨rfl, hb⟩
        exact ⟨_, rfl, _, rfl, fun d hd _ => (by cases hd; rfl), grow hM.1 hb, fun q => by omega⟩
    · simp at hs
  case hend =>
    intro vs Y hl hM
    match vs, hl with
    | [x1], _ =>
      have HM := Lib.hid hM.1
      have HTZ := Lib.hid (HTN.out Y hM.1)
      clear hM
      simp only [Lt.putAll, List.zip_cons_cons, List.zip_nil_right, List.foldl_cons, List.foldl_nil, Act.put, List.setIfInBounds_toArray, List.set_cons_succ, List.set_cons_zero]
      by_cases hk1 : k = -1
      · subst hk1
        go_wp2_with fail
        go_ret
        exact ⟨Fx.ret_int (by rw [← HZ.out]; simp), HM.out⟩
      · have hkk : 0 ≤ k ∧ k < U.length := HKB.out.resolve_left hk1
        have d1 : (k == -1) = false := by simpa using hk1
        obtain ⟨j, rfl⟩ : ∃ j : Nat, k = j := ⟨k.toNat, by omega⟩
        have hj : j < U.length := by omega
        have HX1 := Lib.hid hk1
        have HRT := Lib.hid (show z = U.getD j 0 by rw [← HZ.out, if_neg HX1.out, Int.toNat_natCast])
        clear hk1 hkk
        go_wp2_with (go_at_call 163; refine (HTZ.out).mono ?_; clear HTZ; rintro e Z ⟨a, cap, rfl, -, hi, hb⟩; obtain ⟨bb, oo, rfl, hcc⟩ := Or.resolve_left hi (by intro e; rw [e] at hj; simp at hj); have hc1 := hcc j hj; have HB2 := Lib.hid hb; clear hb hi hcc)
        go_ret
        exact ⟨Fx.ret_int (by rw [HRT.out]; simp [List.getD, hj]), grow HM.out HB2.out⟩
end Sg
end Go.Proofs.YtpoededbmdffpaaGreatDoor
