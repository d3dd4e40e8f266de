/-
  What note of package fusion does: a contract by walking the Go text. Conditions: how a fusion lies; that its notes are not too many; that the table of trips lies in memory as the text lays it.
-/
import Derived.Test.YtpoededbmdffpaaGreatDoorFusionTurn
import Derived.Test.YtpoededbmdffpaaGreatDoorRingAll
import Derived.Test.YtpoededbmdffpaaGreatDoorTail
import Derived.BigQuiet
namespace Go.Proofs.YtpoededbmdffpaaGreatDoor
set_option maxRecDepth 100000
open Go.ChangeShapes Go.WideShapes Go.ChangeAt Go.RowKit Go.Deep
namespace Fu
open Cf (G)
open Sg (NN Si Face Rw res)
open Rg (Nt RingAt ntv)
/-- Notes of what happened, each channel's signals, each channel. -/
def nte (k : Nat) (ev tr : Nat → Nat → Int) (i j : Nat) : Nt := ⟨k, i, j, ev i j - 1, tr i j⟩
def nre (k : Nat) (ev tr : Nat → Nat → Int) (i n : Nat) : List Nt := (List.range n).filterMap fun j => if ev i j = 0 then none else some (nte k ev tr i j)
def nse (k : Nat) (ev tr : Nat → Nat → Int) (n : Nat) : List Nt := (List.range n).flatMap fun i => nre k ev tr i 8
section
variable (k : Nat) (ev tr : Nat → Nat → Int)
theorem nre_yes (i n : Nat) (h : ev i n ≠ 0) : nre k ev tr i (n + 1) = nre k ev tr i n ++ [nte k ev tr i n] := by
  unfold nre
  rw [List.range_succ, List.filterMap_append]
  congr 1
  simp [h]
theorem nre_no (i n : Nat) (h : ev i n = 0) : nre k ev tr i (n + 1) = nre k ev tr i n := by
  unfold nre
  rw [List.range_succ, List.filterMap_append]
  simp [h]
theorem nre_zero (i : Nat) : nre k ev tr i 0 = [] := rfl
theorem nse_next (n : Nat) : nse k ev tr (n + 1) = nse k ev tr n ++ nre k ev tr n 8 := by
  unfold nse
  rw [List.range_succ, List.flatMap_append]
  simp
theorem nre_len (i n : Nat) : (nre k ev tr i n).length ≤ n := by
  unfold nre
  have := List.length_filterMap_le (fun j => if ev i j = 0 then none else some (nte k ev tr i j)) (List.range n)
  rwa [List.length_range] at this
theorem nse_len (n : Nat) : (nse k ev tr n).length ≤ 8 * n := by
  induction n with
  | zero => simp [nse]
  | succ n ih =>
    rw [nse_next, List.length_append]
    have := nre_len k ev tr n 8
    omega
end
/-- A result of the eight. -/
theorem size13 (w : World) : (sizeOf 109).run Tryz.prog w = .ok 13 w := by kernel_rfl
theorem aggR1 (w : World) : (isAgg 109).run Tryz.prog w = .ok true w := by simp [isAgg, run_underlying Tryz.underlying109]
theorem index_r (c : List Int) (s : Nat → Si) (r : Nat → Nat → Rw) (sh : Int) {j : Nat} (hj : j < 8) (w : World) :
    (Instr.index 110 (.agg (rss c s r sh 8).toArray) (.int .i64 (j : Int))).run Tryz.prog w = .ok (.agg (res c (s j) (r j) sh).toArray) w := by
  refine Ot.run_index Tryz.underlying110 _ j hj 13 _ (size13 w) ?_
  simp only [part, Sem.run_bind, aggR1, Result.andThen_ok, if_true, size13, Sem.run_pure]
  rcases eight hj with rfl | rfl | rfl | rfl | rfl | rfl | rfl | rfl <;> rfl
/-- What lies about while notes are taken. -/
structure Nts (F : Face) (W : World) (P : Pl) (c : List Int) (m : Fs) (R : List Value) (ev tr : Nat → Nat → Int) (X : World) (K j : Nat) : Prop where
  goes : Goes F W P X P c { m with notes := m.notes ++ (nse m.k ev tr K ++ nre m.k ev tr K j) }
  box : VRow X W.heap.size 110 R
section
variable {F : Face} {W X X' : World} {P : Pl} {c : List Int} {m : Fs} {R : List Value} {ev tr : Nat → Nat → Int} {K j : Nat}
theorem Nts.on (H : Nts F W P c m R ev tr X K j) (b : Below X.heap.size X X') : Nts F W P c m R ev tr X' K j := ⟨H.goes.on b, onB H.box b⟩
theorem Nts.no (H : Nts F W P c m R ev tr X K j) (h : ev K j = 0) : Nts F W P c m R ev tr X K (j + 1) := ⟨by rw [nre_no _ _ _ _ _ h]; exact H.goes, H.box⟩
theorem Nts.done (H : Nts F W P c m R ev tr X K 8) : Nts F W P c m R ev tr X (K + 1) 0 := ⟨by rw [nre_zero, List.append_nil, nse_next]; exact H.goes, H.box⟩
theorem Nts.yes (L : Lie F W P c m) (H : Nts F W P c m R ev tr X K j) (h : ev K j ≠ 0) (v : RingAt X' P.r (m.notes ++ (nse m.k ev tr K ++ nre m.k ev tr K j) ++ [nte m.k ev tr K j])) (b : Only P.r X X') : Nts F W P c m R ev tr X' K (j + 1) := by
  have g := H.goes.ring v b
  refine ⟨?_, H.box.only b (fun e => ?_)⟩
  · have e : m.notes ++ (nse m.k ev tr K ++ (nre m.k ev tr K j ++ [nte m.k ev tr K j])) = m.notes ++ (nse m.k ev tr K ++ nre m.k ev tr K j) ++ [nte m.k ev tr K j] := by simp
    rw [nre_yes _ _ _ _ _ h, e]
    exact g
  · have := L.free (k := W.heap.size) (Nat.le_refl _)
    rw [e, L.cr] at this; omega
end
set_option maxRecDepth 100000 in
set_option maxHeartbeats 3200000 in
theorem note_any {F : Face} {W : World} {P : Pl} {c : List Int} {m : Fs} (L : Lie F W P c m) (hT : Tp.TabAt W) (hl : m.notes.length < 549755813888) (s : Nat → Si) (r : Nat → Nat → Rw) (sh : Int) :
    Calls Tryz.prog 40 #[.pointer (some ⟨P.f, 0, none⟩), .agg (rss c s r sh 8).toArray] W fun e w' => e = .returned (.tuple #[]) ∧
      Goes F W P w' P c { m with notes := m.notes ++ nse m.k (fun i j => Sg.evi c (s j) (r j) sh i) (fun i j => Sg.tri c (s j) (r j) sh i) (NN c) } := by
  have h4 : NN c ≤ 4 := L.n4
  have hv := VRow.new W (rss c s r sh 8) 110
  have hb := (Below.refl W.heap.size W).alloc (Nat.le_refl _) (.cells (rss c s r sh 8).toArray 110)
  obtain ⟨ev, hev⟩ : ∃ ev : Nat → Nat → Int, ev = fun i j => Sg.evi c (s j) (r j) sh i := ⟨_, rfl⟩
  obtain ⟨tr, htr⟩ : ∃ tr : Nat → Nat → Int, tr = fun i j => Sg.tri c (s j) (r j) sh i := ⟨_, rfl⟩
  rw [← hev, ← htr]
  have T0 : Nts F W P c m (rss c s r sh 8) ev tr (W.alloc (.cells (rss c s r sh 8).toArray 110)) 0 0 := ⟨by
    have : m.notes ++ (nse m.k ev tr 0 ++ nre m.k ev tr 0 0) = m.notes := by simp [nse, nre]
    rw [this]; exact (Goes.refl L).on hb, hv⟩
  have HT0 := Lib.hid T0
  have HB := Lib.hid hb
  have C1 := Lib.hid ((L.on hb).fus.cell 1 (v := .slice (some ⟨P.tb, 0, none⟩) (NN c) P.cap) rfl)
  have IR := fun (X : World) (j : Nat) (hj : j < 8) => index_r c s r sh hj X
  have S13 := Lib.hid (fun j => sizeRZ (res c (s j) (r j) sh) rfl)
  have O13 := Lib.hid (fun j => Sg.res_one c (s j) (r j) sh)
  have E13 := Lib.hid (fun j => show ∀ K, K < 4 → (res c (s j) (r j) sh)[9 + K]? = some (.int .i64 (ev K j)) ∧ (res c (s j) (r j) sh)[5 + K]? = some (.int .i64 (tr K j)) from fun K hK => by
    rw [hev, htr]
    rcases four hK with rfl | rfl | rfl | rfl <;> exact ⟨rfl, rfl⟩)
  have BD := Lib.hid (fun K j => show 0 ≤ ev K j ∧ ev K j ≤ 3 ∧ 0 ≤ tr K j ∧ tr K j ≤ 63 from by
    rw [hev, htr]; exact ⟨(evi_bd K).1, (evi_bd K).2, (tri_bd K).1, (tri_bd K).2⟩)
  have hlen : ∀ j, (res c (s j) (r j) sh).length = 13 := fun _ => rfl
  have HLN := Lib.hid hlen
  have SR := Lib.hid (sizeRR (rss c s r sh 8) (rss_len c s r sh 8))
  generalize hrr : rss c s r sh 8 = R at *
  obtain ⟨rs, hrs⟩ : ∃ rs : Nat → List Value, rs = fun j => res c (s j) (r j) sh := ⟨_, rfl⟩
  have er : ∀ j, res c (s j) (r j) sh = rs j := fun j => by rw [hrs]
  simp only [er] at IR S13 O13 E13 HLN
  clear hrs er hlen hv hb T0 hrr hev htr
  have HL := Lib.hid L
  have HTA := Lib.hid hT
  clear L hT
  go_enter Tryz.func40, Tryz.ntmps40
  go_upto_region 1 with fail
  generalize W.alloc (.cells R.toArray 110) = W1 at *
  have c1 := C1.out
  go_wp2_with fail
  clear c1 C1
  go_loopg [13] (NN c) (fun gg s13 wr => ∃ K : Nat, K + gg = NN c ∧ s13 = .int .i64 K ∧ Hid (Nts F W P c m R ev tr wr K 0))
  case atStart => exact ⟨0, by omega, rfl, HT0⟩
  case round =>
    obtain ⟨K, hkg, rfl, H0⟩ := hrel
    clear HT0 HB
    by_cases hK : K < NN c
    · have hki : (K : Int) < NN c := by omega
      have hK4 : K < 4 := by omega
      have hki4 : (K : Int) < 4 := by omega
      go_wp2_with ((with_reducible show wpList _ _ _ (⟨some 16, _, _, _, _, _⟩ :: _) _ _); refine VB.loaded rfl _ rfl W.heap.size rfl H0.out.box Tryz.underlying110 rfl SR.out ?_)
      go_loopg [17] 8 (fun g2 s17 wx => ∃ j : Nat, j + g2 = 8 ∧ s17 = .int .i64 j ∧ Hid (Nts F W P c m R ev tr wx K j))
      case atStart => exact ⟨0, by omega, rfl, H0⟩
      case round =>
        obtain ⟨j, hjg, rfl, H⟩ := hrel
        clear H0
        by_cases hj : j < 8
        · have hji : (j : Int) < 8 := by omega
          have ij := IR wr j hj
          have VZ := Lib.hid (VRow.new wr Sg.zres 109)
          have b2 := Below.put ((Below.refl wr.heap.size wr).alloc (Nat.le_refl _) (.cells Sg.zres.toArray 109)) (Nat.le_refl _) (rs j).toArray
          have HX := Lib.hid (H.out.on b2)
          have VX := Lib.hid (VZ.out.put (rs j))
          have s13 := S13.out j
          have o13 := O13.out j
          have e13 := Lib.hid (E13.out j K hK4)
          have l13 := Lib.hid (HLN.out j)
          have bd := Lib.hid (BD.out K j)
          clear b2
          generalize rs j = rj at *
          go_upto_region 7 with (first
            | ((with_reducible show wpList _ _ _ (⟨some 20, _, _, _, _, _⟩ :: _) _ _); refine Ot.wpList_index rfl _ _ _ rfl R.toArray j _ rfl rfl ij ?_)
            | ((with_reducible show wpList _ _ _ (⟨_, .alloc 109, _, _, _, _⟩ :: _) _ _); refine wpList_lay rfl _ rfl Sg.zres (fun _ => by kernel_rfl) ?_)
            | ((with_reducible show wpList _ _ _ (⟨none, .store _ (.tmp 6) _, _, _, _, _⟩ :: _) _ _); refine VB.store rfl _ _ rfl wr.heap.size rj rfl rfl VZ.out s13 l13.out.symm o13 ?_))
          generalize ((wr.alloc (.cells Sg.zres.toArray 109)).setRow wr.heap.size rj.toArray) = X at *
          have e9 := VX.out.cell _ (e13.out.1)
          have e5 := VX.out.cell _ (e13.out.2)
          have c10 := HX.out.goes.lie.fus.cell 10 (v := ptr P.r) rfl
          have c11 := HX.out.goes.lie.fus.cell 11 (v := .int .i64 m.k) rfl
          by_cases hz : ev K j = 0
          · rw [hz] at e9
            have HN := Lib.hid (HX.out.no hz)
            clear e5 c10 c11 hz
            go_wp2_with fail
            go_roundg (gk - 1)
            case rel => exact ⟨j + 1, by omega, by go_num, HN⟩
            case measure => omega
          · obtain ⟨b1, b2, b3, b4⟩ := bd.out
            have hn : Rg.rgn (nte m.k ev tr K j) = true := by
              rw [Rg.rgn_iff]
              unfold nte
              simp only
              omega
            have HXD := Lib.hid (HX.out.on ((Below.refl X.heap.size X).drew))
            have CA := Rg.add_yes P.r _ (nte m.k ev tr K j) X.drew (HXD.out.goes.tab HTA.out HL.out.tz) HXD.out.goes.lie.rng
              (by
                show (m.notes ++ (nse m.k ev tr K ++ nre m.k ev tr K j)).length < _
                rw [List.length_append, List.length_append]
                have := nse_len m.k ev tr K
                have := nre_len m.k ev tr K j
                omega) hn
            have HY := Lib.hid (fun (X' : World) v b => HXD.out.yes (X' := X') HL.out hz v b)
            change Calls _ _ #[_, .agg #[.int .i64 m.k, .int .i64 K, .int .i64 j, .int .i64 (ev K j - 1), .int .i64 (tr K j)]] _ _ at CA
            have HWR := Lib.hid (show 0 ≤ ev K j ∧ ev K j ≤ 3 from ⟨b1, b2⟩)
            clear hn HX
            obtain ⟨e, he⟩ : ∃ e, ev K j = e := ⟨_, rfl⟩
            rw [he] at e9 CA HWR hz b1 b2
            go_upto_region 9 with fail
            refine Tail.wp_region_quiet_tail 17 (by kernel_rfl) (by kernel_rfl) ?_
            simp only [List.take_succ_cons, List.take_zero, List.drop_succ_cons, List.drop_zero]
            repeat (go_big_quiet_step (fail))
            refine wpQuiet_nil ?_
            go_wp2_with (go_at_call 81; refine CA.mono ?_; rintro e1 w1 ⟨rfl, r1, o1⟩; have HN := Lib.hid (HY.out w1 r1 o1); clear r1 o1)
            go_roundg (gk - 1)
            case rel => exact ⟨j + 1, by omega, by go_num, HN⟩
            case measure => omega
        · obtain rfl : j = 8 := by omega
          go_wp2_with fail
          go_roundg (NN c - K - 1)
          case rel => exact ⟨K + 1, by omega, by go_num, Lib.hid H.out.done⟩
          case measure => omega
    · obtain rfl : K = NN c := by omega
      have HG := Lib.hid H0.out.goes
      rw [Fu.nre_zero, List.append_nil] at HG
      go_wp2_with fail
      exact bodyPost_end (results_none rfl _ _ _) rfl ⟨rfl, HG.out⟩
end Fu
end Go.Proofs.YtpoededbmdffpaaGreatDoor
