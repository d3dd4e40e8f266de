/-
  What take of package fusion returns, and does: a contract by walking the Go text. Conditions: how a fusion, and the slots' bytes, lie.
-/
import Derived.Test.YtpoededbmdffpaaGreatDoorFusionKit
import Derived.Test.YtpoededbmdffpaaGreatDoorFreshTake
import Derived.Test.YtpoededbmdffpaaGreatDoorVBox
import Derived.Deep.LoopGhost
namespace Go.Proofs.YtpoededbmdffpaaGreatDoor
set_option maxRecDepth 100000
open Go.ChangeShapes Go.WideShapes Go.ChangeAt Go.RowKit Go.Deep
namespace Fu
open Cf (G)
open Sg (NN Si Face Rw rw0)
open Cr (Bytes)
/-- What signals take, as cells; the same, of the first K channels, and of j signals of the next one. -/
def rwc (f : Nat → Nat → Rw) : List Value := Sg.raw8 (f 0) ++ (Sg.raw8 (f 1) ++ (Sg.raw8 (f 2) ++ (Sg.raw8 (f 3) ++ (Sg.raw8 (f 4) ++ (Sg.raw8 (f 5) ++ (Sg.raw8 (f 6) ++ (Sg.raw8 (f 7))))))))
def prt (f : Nat → Nat → Rw) (K j : Nat) : Nat → Nat → Rw := fun j' i => if i < K ∨ (i = K ∧ j' < j) then f j' i else rw0
theorem rwc_congr {f g : Nat → Nat → Rw} (h : ∀ j i, j < 8 → i < 4 → f j i = g j i) : rwc f = rwc g := by
  unfold rwc Sg.raw8
  simp only [h 0 0 (by decide) (by decide), h 0 1 (by decide) (by decide), h 0 2 (by decide) (by decide), h 0 3 (by decide) (by decide), h 1 0 (by decide) (by decide), h 1 1 (by decide) (by decide), h 1 2 (by decide) (by decide), h 1 3 (by decide) (by decide), h 2 0 (by decide) (by decide), h 2 1 (by decide) (by decide), h 2 2 (by decide) (by decide), h 2 3 (by decide) (by decide), h 3 0 (by decide) (by decide), h 3 1 (by decide) (by decide), h 3 2 (by decide) (by decide), h 3 3 (by decide) (by decide), h 4 0 (by decide) (by decide), h 4 1 (by decide) (by decide), h 4 2 (by decide) (by decide), h 4 3 (by decide) (by decide), h 5 0 (by decide) (by decide), h 5 1 (by decide) (by decide), h 5 2 (by decide) (by decide), h 5 3 (by decide) (by decide), h 6 0 (by decide) (by decide), h 6 1 (by decide) (by decide), h 6 2 (by decide) (by decide), h 6 3 (by decide) (by decide), h 7 0 (by decide) (by decide), h 7 1 (by decide) (by decide), h 7 2 (by decide) (by decide), h 7 3 (by decide) (by decide)]
theorem prt_zero (f : Nat → Nat → Rw) : rwc (prt f 0 0) = rwc fun _ _ => rw0 := rwc_congr fun j i _ _ => by
  unfold prt; rw [if_neg (by omega)]
theorem prt_skip {f : Nat → Nat → Rw} {K : Nat} (h : ∀ j, j < 8 → f j K = rw0) : rwc (prt f K 0) = rwc (prt f (K + 1) 0) := rwc_congr fun j i hj _ => by
  unfold prt
  by_cases e : i = K
  · subst e
    rw [if_neg (by omega), if_pos (by omega), h j hj]
  · by_cases q : i < K
    · rw [if_pos (by omega), if_pos (by omega)]
    · rw [if_neg (by omega), if_neg (by omega)]
theorem prt_full (f : Nat → Nat → Rw) (K : Nat) : rwc (prt f K 8) = rwc (prt f (K + 1) 0) := rwc_congr fun j i hj _ => by
  unfold prt
  by_cases q : i < K + 1
  · rw [if_pos (by omega), if_pos (by omega)]
  · rw [if_neg (by omega), if_neg (by omega)]
theorem prt_all {f : Nat → Nat → Rw} {n : Nat} (h : ∀ j i, n ≤ i → f j i = rw0) : rwc (prt f n 0) = rwc f := rwc_congr fun j i _ _ => by
  unfold prt
  by_cases q : i < n
  · rw [if_pos (by omega)]
  · rw [if_neg (by omega), h j i (by omega)]
def rw2 (r : Rw) : List Value := [.bool r.is, .int .i64 r.n]
theorem four {i : Nat} (h : i < 4) : i = 0 ∨ i = 1 ∨ i = 2 ∨ i = 3 := by omega
theorem prt_set (f : Nat → Nat → Rw) {K j : Nat} (hK : K < 4) (hj : j < 8) : splice (rwc (prt f K j)) (j * 8 + K * 2) (rw2 (f j K)) = rwc (prt f K (j + 1)) := by
  rcases four hK with rfl | rfl | rfl | rfl <;> rcases eight hj with rfl | rfl | rfl | rfl | rfl | rfl | rfl | rfl <;> rfl
theorem rwc_len (f : Nat → Nat → Rw) : (rwc f).length = 64 := rfl
theorem rwc_one (f : Nat → Nat → Rw) : (rwc f).toArray.all (·.oneCell') = true := by simp [rwc, Sg.raw8, Value.oneCell']
/-- The slots as a cycle's cells. -/
def cyv (y : Nat → Sl) (A : Nat → Option Addr) (C : Nat → Nat) : List Value :=
  [.bool (y 0).is, .slice (A 0) (y 0).l.length (C 0), .bool (y 1).is, .slice (A 1) (y 1).l.length (C 1), .bool (y 2).is, .slice (A 2) (y 2).l.length (C 2), .bool (y 3).is, .slice (A 3) (y 3).l.length (C 3)]
def sl2 (y : Sl) (a : Option Addr) (n : Nat) : List Value := [.bool y.is, .slice a y.l.length n]
theorem cyv_at (y : Nat → Sl) (A : Nat → Option Addr) (C : Nat → Nat) {i : Nat} (h : i < 4) (j : Nat) (v : Value) (hv : (sl2 (y i) (A i) (C i))[j]? = some v) : (cyv y A C)[i * 2 + j]? = some v := by
  have hj : j < 2 := (List.getElem?_eq_some_iff.1 hv).1
  have : j = 0 ∨ j = 1 := by omega
  rcases this with rfl | rfl <;> rcases four h with rfl | rfl | rfl | rfl <;> exact hv
/-- How the slots' bytes lie. -/
structure YAt (W : World) (c : List Int) (y : Nat → Sl) (A : Nat → Option Addr) (C : Nat → Nat) : Prop where
  ok : Yok c y
  cap : ∀ i, i < NN c → (y i).l.length ≤ C i
  at_ : ∀ i, i < NN c → IntsAt .u8 W (A i) (y i).l
/-- A fusion, K tracks of which have taken their slots. -/
def tkt (m : Fs) (y : Nat → Sl) (K : Nat) : Fs := { m with t := fun i => if i < K then tkn m y i else m.t i }
theorem tkt_zero (m : Fs) (y : Nat → Sl) : tkt m y 0 = m := by unfold tkt; simp
theorem tkt_next (m : Fs) (y : Nat → Sl) (K : Nat) : { tkt m y K with t := upd (tkt m y K).t K (tkn m y K) } = tkt m y (K + 1) := by
  unfold tkt upd
  simp only
  congr 1
  funext i
  by_cases e : i = K
  · subst e; rw [if_pos rfl, if_pos (by omega)]
  · rw [if_neg e]
    by_cases q : i < K
    · rw [if_pos q, if_pos (by omega)]
    · rw [if_neg q, if_neg (by omega)]
/-- Bytes do not lie where a track does. -/
theorem u8_track {X : World} {a : Option Addr} {l : List Int} {b : Nat} {t : TypeId} {x last : Int} {has : Bool} {n : List Int} (h : IntsAt .u8 X a l) (hl : 0 < l.length) (v : VRow X b t (Fh.trk x last has n)) : ∀ ad, a = some ad → ad.block ≠ b := by
  rcases h with h | ⟨b', off, rfl, hc⟩
  · rw [h] at hl; simp at hl
  · rintro ad e eb
    cases e
    have h0 := hc 0 hl
    replace eb : b' = b := eb
    subst eb
    rw [cell_of_row X b' (off + 0) _ t (0, 0) v] at h0
    have := List.mem_of_getElem? (l := Fh.trk x last has n) (by simpa using h0)
    unfold Fh.trk at this
    simp [cellsI] at this
/-- What lies about while the tracks take their slots. -/
structure Tks (F : Face) (W : World) (P : Pl) (c : List Int) (m : Fs) (y : Nat → Sl) (A : Nat → Option Addr) (C : Nat → Nat) (f : Nat → Nat → Rw) (X : World) (T K j : Nat) : Prop where
  goes : Goes F W P X P c (tkt m y T)
  cyc : VRow X W.heap.size 47 (cyv y A C)
  res : VRow X (W.heap.size + 1) 116 (rwc fun _ _ => rw0)
  row : VRow X (W.heap.size + 2) 116 (rwc (prt f K j))
  fine : But (fun b => ∃ k, k < NN c ∧ b = P.h k) W X
section
variable {F : Face} {W X X' : World} {P : Pl} {c : List Int} {m : Fs} {y : Nat → Sl} {A : Nat → Option Addr} {C : Nat → Nat} {f : Nat → Nat → Rw} {T K j : Nat}
theorem Goes.fresh {w : World} {P0 : Pl} (L : Goes F w P0 X P c m) {S : Nat → Prop} (b : But S X X') (h : ∀ k, S k → P.col k = 0 ∧ w.heap.size ≤ k) : Goes F w P0 X' P c m :=
  ⟨L.lie.keep b fun k hk => (h k hk).1, L.but.call b fun k hk => Or.inr (h k hk).2, L.more, L.f, L.tb, L.cap, L.r, L.h, L.g⟩
theorem Lie.free {F : Face} {W : World} {P : Pl} {c : List Int} {m : Fs} (L : Lie F W P c m) {k : Nat} (h : W.heap.size ≤ k) : P.col k = 0 := by
  by_cases q : P.col k = 0
  · exact q
  · have := L.lt k q; omega
theorem Tks.on (H : Tks F W P c m y A C f X T K j) (b : Below X.heap.size X X') : Tks F W P c m y A C f X' T K j := ⟨H.goes.on b, onB H.cyc b, onB H.res b, onB H.row b, H.fine.grow b⟩
theorem Tks.taken (L : Lie F W P c m) (H : Tks F W P c m y A C f X K K 0) (hK : K < NN c) (v : VRow X' (P.h K) 170 (Fh.trk K (tkn m y K).last (tkn m y K).has (tkn m y K).n)) (b : Only (P.h K) X X') : Tks F W P c m y A C f X' (K + 1) K 0 := by
  have g := H.goes.track hK v b
  rw [tkt_next] at g
  have n : ∀ k, W.heap.size ≤ k → k ≠ P.h K := fun k hk e => by
    have := L.free hk
    rw [e, L.ch K hK] at this; omega
  exact ⟨g, H.cyc.only b (n _ (Nat.le_refl _)), H.res.only b (n _ (by omega)), H.row.only b (n _ (by omega)), H.fine.call b fun k hk => Or.inl ⟨K, hK, hk⟩⟩
theorem Tks.put (L : Lie F W P c m) (H : Tks F W P c m y A C f X T K j) (hK : K < 4) (hj : j < 8) : Tks F W P c m y A C f (X.setCells (W.heap.size + 2) (j * 8 + K * 2) (rw2 (f j K))) T K (j + 1) := by
  have b : But (· = W.heap.size + 2) X (X.setCells (W.heap.size + 2) (j * 8 + K * 2) (rw2 (f j K))) := ((But.refl (· = W.heap.size + 2) X).setCell (p := ⟨W.heap.size + 2, j * 8 + K * 2, none⟩) (Or.inl rfl) (.bool (f j K).is)).setCell (p := ⟨W.heap.size + 2, j * 8 + K * 2 + 1, none⟩) (Or.inl rfl) (.int .i64 (f j K).n)
  refine ⟨H.goes.fresh b fun k hk => by rw [hk]; exact ⟨L.free (by omega), by omega⟩, H.cyc.only b (by omega), H.res.only b (by omega), ?_, H.fine.call b fun k hk => Or.inr (by rw [hk]; omega)⟩
  have := Ot.VRow.setCells (rw2 (f j K)) (j * 8 + K * 2) X _ H.row (by rw [rwc_len]; show j * 8 + K * 2 + 2 ≤ 64; omega)
  rwa [prt_set f hK hj] at this
end
theorem sizeSl (y : Sl) (a : Option Addr) (n : Nat) : (Tryz.prog.info? 45).map (·.size) = some (sl2 y a n).length := by
  rw [show (sl2 y a n).length = 2 from rfl]; kernel_rfl
theorem sizeRs (f : Nat → Nat → Rw) : (Tryz.prog.info? 116).map (·.size) = some (rwc f).length := by
  rw [rwc_len]; kernel_rfl
theorem sizeR2 (r : Rw) : (Tryz.prog.info? 113).map (·.size) = some (rw2 r).length := by
  rw [show (rw2 r).length = 2 from rfl]; kernel_rfl
theorem aggRs (w : World) : (isAgg 116).run Tryz.prog w = .ok true w := by simp [isAgg, run_underlying Tryz.underlying116]
theorem rwc_there {X : World} {g : Nat} {t : TypeId} {f : Nat → Nat → Rw} (h : VRow X g t (rwc f)) (o n : Nat) (hn : o + n ≤ 64) : X.there g o n := fun j hj => ⟨by
  have hl : o + j < (rwc f).length := by rw [rwc_len]; omega
  rw [h.cell _ (List.getElem?_eq_getElem hl)]; rfl, h.frozen _⟩
set_option maxRecDepth 100000 in
set_option maxHeartbeats 3200000 in
theorem take_any {F : Face} {W : World} {P : Pl} {c : List Int} {m : Fs} (hR : Cf.Right c) (hO : Ok c m) (hk62 : m.k < 1099511627776) (L : Lie F W P c m) {y : Nat → Sl} {A : Nat → Option Addr} {C : Nat → Nat} (Y : YAt W c y A C) :
    Calls Tryz.prog 39 #[.pointer (some ⟨P.f, 0, none⟩), .agg (cyv y A C).toArray] W fun e w' => e = .returned (.agg (rwc (raw c m y)).toArray) ∧ Goes F W P w' P c (tkt m y (NN c)) := by
  have h4 : NN c ≤ 4 := by have := Sg.NN_34 hR; omega
  have HL := Lib.hid L
  -- what each track tells
  have CT := fun (X : World) (K : Nat) (hK : K < NN c) (H : Tks F W P c m y A C (raw c m y) X K K 0) =>
    (Fh.take_any (P.h K) (K : Int) (m.t K).last (m.t K).has (m.t K).n (y K).is (A K) (C K) (y K).l X
      (by have := H.goes.lie.trk K hK; unfold tks tkt at this; simp only [Nat.lt_irrefl, if_false] at this; exact this)
      (hO.t K hK).len (fun k => ⟨((hO.t K hK).cnt k).1, Int.lt_of_le_of_lt ((hO.t K hK).cnt k).2 (by omega)⟩) (Y.cap K hK) (Y.ok K hK)
      (by
        rcases Nat.eq_zero_or_pos (y K).l.length with q | q
        · rw [List.eq_nil_of_length_eq_zero q]; exact Or.inl rfl
        · exact (Y.at_ K hK).but H.fine fun ad e => by
            rintro ⟨k, hk, eb⟩
            exact u8_track (Y.at_ K hK) q (L.trk k hk) ad e eb)).mono fun e w' q =>
      (show e = .returned (.tuple #[.agg (cellsI .i64 (fr m y K)).toArray, .int .i64 (rj m y K)]) ∧ Tks F W P c m y A C (raw c m y) w' (K + 1) K 0 from ⟨q.1, H.taken L hK q.2.1 q.2.2⟩)
  have HFR := Lib.hid (fun (K : Nat) (hK : K < NN c) => show (fr m y K).length = 9 from Fh.jf_len (Y.ok K hK))
  have HRW := Lib.hid (fun (K j : Nat) (hK : K < NN c) (h : rj m y K = 0) => show raw c m y j K = ⟨true, (fr m y K).getD (1 + j) 0⟩ by unfold raw; rw [if_pos ⟨hK, h⟩])
  have HNO := Lib.hid (fun (K j : Nat) (h : rj m y K ≠ 0) => show raw c m y j K = rw0 by unfold raw; rw [if_neg fun q => h q.2])
  have HAL := Lib.hid (prt_all (f := raw c m y) (n := NN c) fun j i hi => by unfold raw; rw [if_neg (by omega)])
  generalize raw c m y = f at *
  have hv := VRow.new W (cyv y A C) 47
  have hb1 := (Below.refl W.heap.size W).alloc (Nat.le_refl _) (.cells (cyv y A C).toArray 47)
  have hb2 := hb1.alloc hb1.size (.cells (rwc fun _ _ => rw0).toArray 116)
  have hb3 := hb2.alloc hb2.size (.cells (rwc fun _ _ => rw0).toArray 116)
  have T0 : Tks F W P c m y A C f (((W.alloc (.cells (cyv y A C).toArray 47)).alloc (.cells (rwc fun _ _ => rw0).toArray 116)).alloc (.cells (rwc fun _ _ => rw0).toArray 116)) 0 0 0 := by
    refine ⟨?_, (hv.alloc _).alloc _, ?_, ?_, But.of_below hb3⟩
    · rw [tkt_zero]; exact (Goes.refl L).on hb3
    · have := (VRow.new (W.alloc (.cells (cyv y A C).toArray 47)) (rwc fun _ _ => rw0) 116).alloc (.cells (rwc fun _ _ => rw0).toArray 116)
      rwa [World.size_alloc] at this
    · have := VRow.new ((W.alloc (.cells (cyv y A C).toArray 47)).alloc (.cells (rwc fun _ _ => rw0).toArray 116)) (rwc fun _ _ => rw0) 116
      rw [World.size_alloc, World.size_alloc] at this
      rw [prt_zero]; exact this
  have HT0 := Lib.hid T0
  have HB3 := Lib.hid hb3
  have HY := Lib.hid Y
  have HO := Lib.hid hO
  clear hv hb1 hb2 hb3 T0 hR hO Y
  go_enter Tryz.func39, Tryz.ntmps39
  have c1 := fun (X : World) (b : Below W.heap.size W X) => (L.on b).fus.cell 1 (v := .slice (some ⟨P.tb, 0, none⟩) (NN c) P.cap) rfl
  have HC1 := Lib.hid (c1 _ HB3.out)
  clear c1 L HB3
  go_upto_region 2 with ((with_reducible show wpList _ _ _ (⟨_, .alloc 116, _, _, _, _⟩ :: _) _ _); refine wpList_lay rfl _ rfl (rwc fun _ _ => rw0) (fun _ => by kernel_rfl) ?_)
  generalize (((W.alloc (.cells (cyv y A C).toArray 47)).alloc (.cells (rwc fun _ _ => rw0).toArray 116)).alloc (.cells (rwc fun _ _ => rw0).toArray 116)) = W3 at *
  have c1 := HC1.out
  go_wp2_with fail
  go_loopg [17] (NN c) (fun gg s17 wr => ∃ K : Nat, K + gg = NN c ∧ s17 = .int .i64 K ∧ Hid (Tks F W P c m y A C f wr K K 0))
  case atStart => exact ⟨0, by omega, rfl, HT0⟩
  case round =>
    obtain ⟨K, hkg, rfl, H⟩ := hrel
    clear c1 HC1 HT0
    by_cases hK : K < NN c
    · have hki : (K : Int) < NN c := by omega
      have hK4 : K < 4 := by omega
      have tc : wr.cell? ⟨P.tb, K, none⟩ = some (ptr (P.h K)) := by
        obtain ⟨cs, t, h1, h2⟩ := H.out.goes.lie.tab
        exact h1.cell K (h2 K hK)
      have RS := Lib.hid (show wr.rangeAt W.heap.size (K * 2) (sl2 (y K) (A K) (C K)) from fun j v hv => H.out.cyc.cell (K * 2 + j) (cyv_at y A C hK4 j v hv))
      have CK := CT wr K hK H.out
      have h9 := HFR.out K hK
      have HS9 := Lib.hid (show (Tryz.prog.info? 123).map (·.size) = some (cellsI .i64 (fr m y K)).length by rw [cellsI_len, h9]; exact Fm.size9)
      have HL9 := Lib.hid (show (cellsI .i64 (List.replicate 9 0)).length = (cellsI .i64 (fr m y K)).length by rw [cellsI_len, cellsI_len, h9]; rfl)
      obtain ⟨fk, hfk⟩ : ∃ fk, fr m y K = fk := ⟨_, rfl⟩
      obtain ⟨rk, hrk⟩ : ∃ rk, rj m y K = rk := ⟨_, rfl⟩
      rw [hfk] at HS9 HL9 h9
      rw [hfk, hrk] at CK
      have HFK := Lib.hid hfk
      have HRK := Lib.hid hrk
      clear hfk hrk
      go_upto_region 6 with (first
        | ((with_reducible show wpList _ _ _ (⟨some 26, _, _, _, _, _⟩ :: _) _ _); refine wpList_load_mid rfl _ _ rfl W.heap.size (K * 2) rfl (sl2 (y K) (A K) (C K)) _ RS.out Tryz.underlying45 rfl (sizeSl _ _ _) ?_)
        | (go_at_call 80; refine CK.mono ?_; rintro e w1 ⟨rfl, t1⟩; have H1 := Lib.hid t1; have V1 := Lib.hid (VRow.new w1 (cellsI .i64 (List.replicate 9 0)) 123); clear t1)
        | ((with_reducible show wpList _ _ _ (⟨none, .store _ (.tmp 8) _, _, _, _, _⟩ :: _) _ _); refine VB.store rfl _ _ rfl w1.heap.size (cellsI .i64 fk) rfl rfl V1.out HS9.out HL9.out (all_oneCell_toArray (cellsI_one _ _)) ?_))
      have b2 := Below.put ((Below.refl w1.heap.size w1).alloc (Nat.le_refl _) (.cells (cellsI .i64 (List.replicate 9 0)).toArray 123)) (Nat.le_refl _) (cellsI .i64 fk).toArray
      have H2 := Lib.hid (H1.out.on b2)
      have V2 := Lib.hid (V1.out.put (cellsI .i64 fk))
      rw [show (cellsI .i64 (List.replicate 9 0)).toArray = #[.int .i64 0, .int .i64 0, .int .i64 0, .int .i64 0, .int .i64 0, .int .i64 0, .int .i64 0, .int .i64 0, .int .i64 0] from rfl] at H2 V2
      clear b2 H1 V1 H tc
      generalize ((w1.alloc (.cells #[.int .i64 0, .int .i64 0, .int .i64 0, .int .i64 0, .int .i64 0, .int .i64 0, .int .i64 0, .int .i64 0, .int .i64 0] 123)).setRow w1.heap.size (cellsI .i64 fk).toArray) = w2 at *
      generalize w1.heap.size = sb at *
      by_cases hz : rk = 0
      · obtain ⟨sq, vs, rfl⟩ : ∃ sq vs, fk = sq :: vs := by
          cases fk with
          | nil => simp at h9
          | cons a l => exact ⟨a, l, rfl⟩
        have h8 : vs.length = 8 := by simpa using h9
        have HV := Lib.hid (fun j => show f j K = ⟨true, vs.getD j 0⟩ by rw [HRW.out K j hK (HRK.out.trans hz), HFK.out, Nat.add_comm, List.getD_cons_succ])
        have RV := Lib.hid (show w2.rangeAt sb 1 (cellsI .i64 vs) from fun j v hv => V2.out.cell (1 + j) (by rw [Nat.add_comm]; exact hv))
        have SV := Lib.hid (show (Tryz.prog.info? 35).map (·.size) = some (cellsI .i64 vs).length by rw [cellsI_len, h8]; kernel_rfl)
        have IV := Lib.hid (fun (j : Nat) (hj : j < 8) (X : World) => Ot.index_v (o := ⟨0, vs, List.replicate 8 Ss.zer⟩) ⟨h8, rfl⟩ j hj X)
        clear h9 h8 HS9 HL9
        go_wp2_with ((with_reducible show wpList _ _ _ (⟨some 33, _, _, _, _, _⟩ :: _) _ _); refine wpList_load_mid rfl _ _ rfl sb 1 rfl (cellsI .i64 vs) _ RV.out Tryz.underlying35 rfl SV.out ?_)
        go_loopg [34] 8 (fun g2 s34 wx => ∃ j : Nat, j + g2 = 8 ∧ s34 = .int .i64 j ∧ Hid (Tks F W P c m y A C f wx (K + 1) K j))
        case atStart => exact ⟨0, by omega, rfl, H2⟩
        case round =>
          rename_i g2 wx
          obtain ⟨j, hjg, rfl, H⟩ := hrel
          by_cases hj : j < 8
          · have hji : (j : Int) < 8 := by omega
            have HP := Lib.hid (H.out.put HL.out hK4 hj)
            rw [HV.out j] at HP
            have TH := Lib.hid (rwc_there H.out.row (j * 8 + K * 2) 2 (by omega))
            have ij := IV.out j hj
            replace ij := fun X => (ij X).trans (by rfl : _ = .ok (.int .i64 (vs.getD j 0)) X)
            clear H
            generalize vs.getD j 0 = x at *
            go_wp2_with (first
              | ((with_reducible show wpList _ _ _ (⟨some 37, _, _, _, _, _⟩ :: _) _ _); refine Ot.wpList_index rfl _ _ _ rfl (cellsI .i64 vs).toArray j _ rfl rfl (ij _) ?_)
              | ((with_reducible show wpList _ _ _ (⟨none, .store _ (.tmp 43) _, _, _, _, _⟩ :: _) _ _); refine wpList_store_mid rfl _ _ _ rfl (W.heap.size + 2) (j * 8 + K * 2) (rw2 ⟨true, x⟩).toArray rfl rfl TH.out (sizeR2 ⟨true, x⟩) (by simp [rw2, Value.oneCell']) ?_))
            go_roundg (gk - 1)
            case rel => exact ⟨j + 1, by omega, by go_num, HP⟩
            case measure => omega
          · obtain rfl : j = 8 := by omega
            go_wp2_with fail
            go_roundg (NN c - K - 1)
            case rel => exact ⟨K + 1, by omega, by go_num, Lib.hid ⟨H.out.goes, H.out.cyc, H.out.res, by rw [← prt_full]; exact H.out.row, H.out.fine⟩⟩
            case measure => omega
      · have hs := Lib.hid (prt_skip (f := f) (K := K) fun j _ => HNO.out K j (by rw [HRK.out]; exact hz))
        go_wp2_with fail
        go_roundg (gk - 1)
        case rel => exact ⟨K + 1, by omega, by go_num, Lib.hid ⟨H2.out.goes, H2.out.cyc, H2.out.res, by rw [← hs.out]; exact H2.out.row, H2.out.fine⟩⟩
        case measure => omega
    · obtain rfl : K = NN c := by omega
      have b1 := But.refl (· = W.heap.size + 1) wr
      have b2 := b1.put (g := W.heap.size + 1) (Or.inl rfl) (rwc f).toArray
      have RW := Lib.hid (show VRow wr (W.heap.size + 2) 116 (rwc f) by rw [← HAL.out]; exact H.out.row)
      have HG := Lib.hid (H.out.goes.fresh b2 fun k hk => by rw [hk]; exact ⟨HL.out.free (by omega), by omega⟩)
      have RR := Lib.hid (H.out.res.put (rwc f))
      clear b1 b2
      go_wp2_with (first
        | ((with_reducible show wpList _ _ _ (⟨some 46, _, _, _, _, _⟩ :: _) _ _); refine VB.loaded rfl _ rfl (W.heap.size + 2) rfl RW.out Tryz.underlying116 rfl (sizeRs f) ?_)
        | ((with_reducible show wpList _ _ _ (⟨none, .store _ (.tmp 4) _, _, _, _, _⟩ :: _) _ _); refine VB.store rfl _ _ rfl (W.heap.size + 1) (rwc f) rfl rfl H.out.res (sizeRs f) (by rw [rwc_len, rwc_len]) (rwc_one f) ?_))
      exact bodyPost_ret (VB.ret1 rfl rfl (aggRs _) (sizeRs f) RR.out) rfl ⟨rfl, HG.out⟩
end Fu
end Go.Proofs.YtpoededbmdffpaaGreatDoor
