/-
  The walk of the law RingPlays: for all notes it returns true, and writes nothing that was there. Its conditions: how the notes, and the tables, lie.
-/
import Derived.Test.YtmfpoakefpephaaDoorRingAlive
import Derived.Test.YtmfpoakefpephaaDoorRingRows
namespace Go.Proofs.YtmfpoakefpephaaDoor
open Go.ChangeShapes Go.WideShapes Go.ChangeAt Go.RowKit Go.Deep
namespace Rg
open Mn

/-- The ring, and the law's own list, while the notes are gone through. -/
structure Pl (w W : World) (g lo : Nat) (l : List Nt) (v : Value) : Prop where
  kept : Kept w W g l
  own : OwnN lo W v l
  glo : g < lo
  low : lo ≤ W.heap.size
section
variable {w W W1 W2 : World} {g lo : Nat} {l : List Nt} {v v' : Value} {n : Nt}
theorem Pl.on (P : Pl w W g lo l v) (b : Below W.heap.size W W1) : Pl w W1 g lo l v := ⟨P.kept.on b, P.own.grow b (Nat.le_refl _), P.glo, Nat.le_trans P.low b.size⟩
theorem Pl.yes (P : Pl w W g lo l v) (r : RingAt W1 g (l ++ [n])) (o : Only g W W1) : Kept w W1 g (l ++ [n]) ∧ OwnN lo W1 v l ∧ lo ≤ W1.heap.size := ⟨P.kept.take r o, P.own.only o P.glo, Nat.le_trans P.low o.size⟩
theorem Pl.mk' (K : Kept w W g (l ++ [n])) (O : OwnN lo W1 v' (l ++ [n])) (b : Below lo W W1) (hg : g < lo) (hl : lo ≤ W.heap.size) : Pl w W1 g lo (l ++ [n]) v' := by
  have hw : w.heap.size ≤ lo := by have := K.ge; omega
  exact ⟨⟨K.below.trans (b.mono hw), IRow.below K.ring b hg, K.ge⟩, O, hg, Nat.le_trans hl b.size⟩
end
end Rg
namespace ringPlays
open Rg Mn
set_option maxRecDepth 100000 in
set_option maxHeartbeats 6400000 in
theorem walk (a : Option Addr) (cap : Nat) (ls : List (List Value)) (w : World) (_hc : ls.length ≤ cap) (hb : ManyAt w a [.int .i64, .int .i64, .int .i64, .int .i64, .int .i64] ls) (hT : Tabs w) :
    Calls Tryd.prog 3 #[.slice a ls.length cap] w fun e w' => e = .returned (.bool true) ∧ Below w.heap.size w w' := by
  have AL := fun W (t : Tabs W) => alive_any W t
  have HT := Lib.hid hT
  obtain ⟨ns, hn, hy, hat⟩ := notes_of hb
  rw [← hn]
  clear hT hb hn
  have HY := Lib.hid hy
  have HS := Lib.hid hat
  clear hy hat
  obtain ⟨m, hm⟩ : ∃ m, m = ns.length := ⟨_, rfl⟩
  rw [← hm]
  have HN := Lib.hid hm
  clear hm
  by_cases hlen : 200 < m
  · have d : decide (200 < (m : Int)) = true := by simp; omega
    clear hlen HS
    go_enter Tryd.func3, Tryd.ntmps3
    go_wp2_with fail
    refine (AL _ HT.out).mono ?_; rintro e w2 ⟨rfl, b2⟩
    go_wp2
    go_ret
    exact ⟨rfl, b2⟩
  · have d : decide (200 < (m : Int)) = false := by simp; omega
    have h200 : m ≤ 200 := by omega
    clear hlen
    have C1 := new_any w
    have P0 := Lib.hid (show Pl w (w.alloc (.cells (cellsI .i64 (rgc [])).toArray 40)) w.heap.size (w.heap.size + 1) (okn ns 0) (.slice none 0 0) by
      rw [okn_zero]; exact ⟨Kept.new w, OwnN.nil, by omega, by simp⟩)
    go_enter Tryd.func3, Tryd.ntmps3
    go_wp2_with (go_at_call 6; refine C1.mono ?_; rintro e w1 ⟨rfl, rfl⟩)
    generalize w.alloc (.cells (cellsI .i64 (rgc [])).toArray 40) = W0 at *
    obtain ⟨g, hg⟩ : ∃ g, g = w.heap.size := ⟨_, rfl⟩
    obtain ⟨lo, hlo⟩ : ∃ lo, lo = w.heap.size + 1 := ⟨_, rfl⟩
    rw [← hg]
    rw [← hlo] at P0
    rw [show Pl w W0 w.heap.size lo (okn ns 0) (.slice none 0 0) = Pl w W0 g lo (okn ns 0) (.slice none 0 0) by rw [← hg]] at P0
    clear C1 hg hlo
    go_loopg [4, 5] m (fun gg s4 s5 wr => ∃ k : Nat, k + gg = m ∧ s5 = .int .i64 k ∧ Hid (Pl w wr g lo (okn ns k) s4))
    case atStart => exact ⟨0, by omega, rfl, P0⟩
    case round =>
      obtain ⟨k, hk, rfl, P⟩ := hrel
      clear P0
      by_cases hlt : k < m
      · have hli : (k : Int) < m := by omega
        obtain ⟨b, off, rfl, hat⟩ := HS.out (by have := HN.out; omega)
        obtain ⟨n, hn⟩ : ∃ n, ns[k]? = some n := ⟨_, List.getElem?_eq_getElem (by have := HN.out; omega)⟩
        have F := Lib.hid (hat k n hn)
        have hyn := HY.out n (List.mem_of_getElem? hn)
        have hol := okn_len ns k
        have hol1 := okn_len ns (k + 1)
        have CR := fun W => rright_any n W
        have HK := Lib.hid hk
        obtain ⟨c0, c1, c2, c3, c4⟩ := F.out.on P.out.kept.below
        cases hr : rgn n
        · have HX := Lib.hid (okn_no hn hr)
          rw [hr] at CR
          have CA := fun W (t : Tabs W) => add_no g n W t.trips hr
          have R := Lib.hid hr
          clear hat hn hr hk
          unfold ntv at CA CR
          go_wp2_with fail
          refine (CA _ (HT.out.below P.out.kept.below)).mono ?_; rintro e w2 ⟨rfl, b2⟩
          have P2 := Lib.hid (P.out.on b2)
          clear c0 c1 c2 c3 c4 b2 CA P
          obtain ⟨c0, c1, c2, c3, c4⟩ := F.out.on P2.out.kept.below
          go_wp2_with fail
          refine (CR _).mono ?_; rintro e w3 ⟨rfl, b3⟩
          have P4 := Lib.hid (show Pl w w3 g lo (okn ns (k + 1)) u4 by rw [HX.out]; exact P2.out.on b3)
          clear c0 c1 c2 c3 c4 b3 P2 CR HX
          go_wp2_with fail
          have LL : (okn ns (k + 1)).length < 1099511627776 := by omega
          have L2 : (lasts (okn ns (k + 1))).length < 1099511627776 := by rw [lasts_len]; omega
          generalize hq : okn ns (k + 1) = l at *
          have HQ := Lib.hid hq
          clear hq
          refine (all_any g l w3 P4.out.kept.ring LL).mono ?_; rintro e w5 ⟨a1, cap1, rfl, -, N1, b5⟩
          have P5 := Lib.hid (P4.out.on b5)
          clear P4 b5
          obtain ⟨a2, cap2, rfl, hcap2, N2, hz2⟩ := P5.out.own.form
          have CB := rall_any a2 l cap2 w5 LL hcap2 hz2 N2
          have HV := Lib.hid N1
          clear N1 N2 hz2 hcap2
          go_wp2_with fail
          refine CB.mono ?_; rintro e w6 ⟨⟨a3, cap3, rfl, N3⟩, rfl⟩
          have CS := rsame_self a1 a3 (lasts l) cap1 cap3 w5 HV.out N3 L2
          clear N3 CB HV
          go_wp2_with fail
          refine CS.mono ?_; rintro e w7 ⟨rfl, b7⟩
          have P7 := Lib.hid (P5.out.on b7)
          clear P5 b7 CS L2
          go_wp2_with fail
          have T7 := HT.out.below P7.out.kept.below
          obtain ⟨c0, c1, c2, c3, c4⟩ := F.out.on P7.out.kept.below
          replace c0 := cell_regrown c0
          replace c1 := cell_regrown c1
          replace c2 := cell_regrown c2
          replace c3 := cell_regrown c3
          replace c4 := cell_regrown c4
          have cL := reg_call (w := w7) (fun W h => (lost_any g l W (onI P7.out.kept.ring h) LL).mono fun _ _ q => ⟨q.1, q.2 ▸ Below.refl _ _⟩)
          have cM := reg_call (w := w7) (fun W _ => (rlost_any a2 l.length cap2 W LL).mono fun _ _ q => ⟨q.1, q.2 ▸ Below.refl _ _⟩)
          have cR := reg_call (w := w7) (fun W h => right_any n W (T7.below h).trips)
          have cT := reg_call (w := w7) (fun W h => text_any n W hyn (T7.below h))
          have cU := reg_call (w := w7) (fun W _ => rtext_any n W hyn)
          rw [show lost l = l.length - 32 from rfl] at cL
          rw [R.out] at cR
          generalize txn n = tx at *
          generalize l.length - 32 = q at *
          clear T7 LL
          generalize hz : l.length = z at *
          clear hz
          dsimp only [ntv] at cR cT cU
          refine wp_region_quiet_below (by kernel_rfl) (by kernel_rfl) ?_
          repeat (go_big_quiet_step (first | exact cL _ _ | exact cM _ _ | exact cR _ _ | exact cT _ _ | exact cU _ _))
          refine wpQuiet_nil ?_
          intro _ hw'
          obtain ⟨⟨dq, osq⟩, hw''⟩ := hw'
          subst hw''
          have P8 := Lib.hid (P7.out.on (below_regrown w7 dq osq))
          clear c0 c1 c2 c3 c4 cL cM cR cT cU P7
          generalize Sort.grow (redrawn w7 dq) osq = w8 at *
          go_wp2
          go_roundg (gk - 1)
          case rel => exact ⟨k + 1, by have := HK.out; omega, by go_num, Lib.hid (by rw [HQ.out]; exact P8.out)⟩
          case measure => have := HK.out; omega
        · have HX := Lib.hid (okn_yes hn hr)
          rw [hr] at CR
          have CA := fun W (t : Tabs W) h => add_yes g (okn ns k) n W t.trips h (by omega) hr
          have R := Lib.hid hr
          clear hat hn hr hk
          unfold ntv at CA CR
          go_wp2_with fail
          refine (CA _ (HT.out.below P.out.kept.below) P.out.kept.ring).mono ?_; rintro e w2 ⟨rfl, r2, o2⟩
          obtain ⟨K2, O2, L2⟩ := P.out.yes r2 o2
          replace K2 := Lib.hid K2
          replace O2 := Lib.hid O2
          replace L2 := Lib.hid L2
          have G := Lib.hid P.out.glo
          clear c0 c1 c2 c3 c4 r2 o2 CA P
          obtain ⟨c0, c1, c2, c3, c4⟩ := F.out.on K2.out.below
          go_wp2_with fail
          refine (CR _).mono ?_; rintro e w3 ⟨rfl, b3⟩
          have K3 := Lib.hid (K2.out.on b3)
          have O3 := Lib.hid (O2.out.grow b3 (Nat.le_refl _))
          have L3 := Lib.hid (Nat.le_trans L2.out b3.size)
          clear c0 c1 c2 c3 c4 b3 K2 O2 L2 CR
          obtain ⟨c0, c1, c2, c3, c4⟩ := F.out.on K3.out.below
          go_wp2_with (((with_reducible show wpList _ _ _ (⟨some 39, _, _, _, _, _⟩ :: _) _ _); refine wpList_append1N rfl (.tmp 33) (.tmp 38) rfl lo u4 (okn ns k) n rfl rfl O3.out (by omega) w3 (Below.refl _ _) L3.out ?_; intro v4 w4 O4' B4'; have P4 := Lib.hid (Pl.mk' K3.out O4' B4' G.out L3.out); clear O4' B4'))
          rw [← HX.out] at P4
          clear HX K3 O3 L3 c0 c1 c2 c3 c4
          have LL : (okn ns (k + 1)).length < 1099511627776 := by omega
          have L2 : (lasts (okn ns (k + 1))).length < 1099511627776 := by rw [lasts_len]; omega
          generalize hq : okn ns (k + 1) = l at *
          have HQ := Lib.hid hq
          clear hq
          refine (all_any g l w4 P4.out.kept.ring LL).mono ?_; rintro e w5 ⟨a1, cap1, rfl, -, N1, b5⟩
          have P5 := Lib.hid (P4.out.on b5)
          clear P4 b5
          obtain ⟨a2, cap2, rfl, hcap2, N2, hz2⟩ := P5.out.own.form
          have CB := rall_any a2 l cap2 w5 LL hcap2 hz2 N2
          have HV := Lib.hid N1
          clear N1 N2 hz2 hcap2
          go_wp2_with fail
          refine CB.mono ?_; rintro e w6 ⟨⟨a3, cap3, rfl, N3⟩, rfl⟩
          have CS := rsame_self a1 a3 (lasts l) cap1 cap3 w5 HV.out N3 L2
          clear N3 CB HV
          go_wp2_with fail
          refine CS.mono ?_; rintro e w7 ⟨rfl, b7⟩
          have P7 := Lib.hid (P5.out.on b7)
          clear P5 b7 CS L2
          go_wp2_with fail
          have T7 := HT.out.below P7.out.kept.below
          obtain ⟨c0, c1, c2, c3, c4⟩ := F.out.on P7.out.kept.below
          replace c0 := cell_regrown c0
          replace c1 := cell_regrown c1
          replace c2 := cell_regrown c2
          replace c3 := cell_regrown c3
          replace c4 := cell_regrown c4
          have cL := reg_call (w := w7) (fun W h => (lost_any g l W (onI P7.out.kept.ring h) LL).mono fun _ _ q => ⟨q.1, q.2 ▸ Below.refl _ _⟩)
          have cM := reg_call (w := w7) (fun W _ => (rlost_any a2 l.length cap2 W LL).mono fun _ _ q => ⟨q.1, q.2 ▸ Below.refl _ _⟩)
          have cR := reg_call (w := w7) (fun W h => right_any n W (T7.below h).trips)
          have cT := reg_call (w := w7) (fun W h => text_any n W hyn (T7.below h))
          have cU := reg_call (w := w7) (fun W _ => rtext_any n W hyn)
          rw [show lost l = l.length - 32 from rfl] at cL
          rw [R.out] at cR
          generalize txn n = tx at *
          generalize l.length - 32 = q at *
          clear T7 LL
          generalize hz : l.length = z at *
          clear hz
          dsimp only [ntv] at cR cT cU
          refine wp_region_quiet_below (by kernel_rfl) (by kernel_rfl) ?_
          repeat (go_big_quiet_step (first | exact cL _ _ | exact cM _ _ | exact cR _ _ | exact cT _ _ | exact cU _ _))
          refine wpQuiet_nil ?_
          intro _ hw'
          obtain ⟨⟨dq, osq⟩, hw''⟩ := hw'
          subst hw''
          have P8 := Lib.hid (P7.out.on (below_regrown w7 dq osq))
          clear c0 c1 c2 c3 c4 cL cM cR cT cU P7
          generalize Sort.grow (redrawn w7 dq) osq = w8 at *
          go_wp2
          go_roundg (gk - 1)
          case rel => exact ⟨k + 1, by have := HK.out; omega, by go_num, Lib.hid (by rw [HQ.out]; exact P8.out)⟩
          case measure => have := HK.out; omega
      · obtain rfl : k = m := by omega
        have CA := fun W => add_nil nz W
        have CO := fun W => all_nil W
        have CL := fun W => lost_nil W
        have BB := Lib.hid P.out.kept.below
        clear P HS
        dsimp only [ntv, nz] at CA
        go_wp2_with fail
        refine (AL _ (HT.out.below BB.out)).mono ?_; rintro e w2 ⟨rfl, b2⟩
        have B2 := Lib.hid (grow BB.out b2)
        clear b2 BB
        go_wp2_with fail
        refine (CA _).mono ?_; rintro e w3 ⟨rfl, b3⟩
        have B3 := Lib.hid (grow B2.out b3)
        clear b3 B2
        go_wp2_with fail
        refine (CO _).mono ?_; rintro e w4 ⟨rfl, rfl⟩
        go_wp2_with fail
        refine (CL _).mono ?_; rintro e w5 ⟨rfl, rfl⟩
        go_wp2
        go_ret
        exact ⟨rfl, B3.out⟩
end ringPlays
end Go.Proofs.YtmfpoakefpephaaDoor
