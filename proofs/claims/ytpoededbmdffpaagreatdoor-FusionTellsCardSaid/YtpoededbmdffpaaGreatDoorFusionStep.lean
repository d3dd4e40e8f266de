/-
  What Step of package fusion returns, and does: a contract by walking the Go text. Conditions: how a fusion, and the slots' bytes, lie; that the table of trips lies in memory as the text lays it.
-/
import Derived.Test.YtpoededbmdffpaaGreatDoorFusionNote
import Derived.Test.YtpoededbmdffpaaGreatDoorOutputEncode
import Derived.Test.YtpoededbmdffpaaGreatDoorSetWrites
namespace Go.Proofs.YtpoededbmdffpaaGreatDoor
set_option maxRecDepth 100000
open Go.ChangeShapes Go.WideShapes Go.ChangeAt Go.RowKit Go.Deep
namespace Fu
open Cf (G)
open Sg (NN Si Face Rw res)
open Ss (St str zer)
open Ot (Ou ouc zou)
section
variable {F : Face} {w W W' X X' : World} {P0 P P' : Pl} {c : List Int} {m m' : Fs}
theorem Goes.trans (a : Goes F w P0 W P c m) (b : Goes F W P W' P' c m') : Goes F w P0 W' P' c m' :=
  ⟨b.lie, a.but.call b.but (fun k hk => a.more k hk), fun k hk => (b.more k hk).elim (a.more k) (fun q => Or.inr (Nat.le_trans a.but.size q)), b.f.trans a.f, b.tb.trans a.tb, b.cap.trans a.cap, b.r.trans a.r, b.h.trans a.h, b.g.trans a.g⟩
theorem Goes.row {b : Nat} {t : TypeId} {cs : List Value} (L : Goes F X P X' P' c m) (h : VRow X b t cs) (h0 : P.col b = 0) : VRow X' b t cs := h.but L.but (fun q => q h0)
theorem Goes.zero {b : Nat} {t : TypeId} {cs : List Value} (L : Goes F X P X' P' c m) (h : VRow X b t cs) (h0 : P.col b = 0) : P'.col b = 0 := by
  by_cases q : P'.col b = 0
  · exact q
  · rcases L.more b q with e | e
    · exact absurd h0 e
    · have := h.lt; omega
end
/-- A list of n, the first k of which are told. -/
def fillN {α : Type} (f : Nat → α) (z : α) (n k : Nat) : List α := (List.range n).map fun j => if j < k then f j else z
theorem fillN_len {α : Type} (f : Nat → α) (z : α) (n k : Nat) : (fillN f z n k).length = n := by unfold fillN; simp
theorem fillN_all {α : Type} (f : Nat → α) (z : α) (n : Nat) : fillN f z n n = (List.range n).map f := by
  unfold fillN
  exact List.map_congr_left fun j hj => if_pos (List.mem_range.1 hj)
theorem fillN_next {α : Type} (f : Nat → α) (z : α) (n k : Nat) : (fillN f z n k).set k (f k) = fillN f z n (k + 1) := by
  unfold fillN
  refine List.ext_getElem (by simp) fun i h1 h2 => ?_
  rw [List.getElem_set]
  simp only [List.getElem_map, List.getElem_range]
  split
  · rename_i e
    subst e
    rw [if_pos (Nat.lt_succ_self k)]
  · rename_i e
    by_cases q : i < k
    · rw [if_pos q, if_pos (by omega)]
    · rw [if_neg q, if_neg (by omega)]
/-- An output, k signals of which are told. -/
def oup (c : List Int) (m : Fs) (y : Nat → Sl) (k : Nat) : Ou := ⟨(m.k : Int) % 65536, fillN (vls c m y) 0 8 k, fillN (sta c m y) zer 8 k⟩
theorem oup_ok (c : List Int) (m : Fs) (y : Nat → Sl) (k : Nat) : Ot.Ok (oup c m y k) := ⟨fillN_len _ _ _ _, fillN_len _ _ _ _⟩
theorem oup_all (c : List Int) (m : Fs) (y : Nat → Sl) : oup c m y 8 = out c m y := by unfold oup out; rw [fillN_all, fillN_all]
theorem oup_next (c : List Int) (m : Fs) (y : Nat → Sl) (k : Nat) : { oup c m y k with v := (oup c m y k).v.set k (vls c m y k), s := (oup c m y k).s.set k (sta c m y k) } = oup c m y (k + 1) := by
  unfold oup
  simp only [fillN_next]
/-- While the two parts of a signal are stored, in whatever order. -/
structure Sv (X : World) (ob : Nat) (o : Ou) (k : Nat) (x : Int) (s : St) (b0 b1 : Bool) (Y : World) : Prop where
  but : Only ob X Y
  row : VRow Y ob 40 (ouc { o with v := if b0 = true then o.v.set k x else o.v, s := if b1 = true then o.s.set k s else o.s })
section
variable {X Y Z : World} {ob k : Nat} {o : Ou} {x : Int} {s : St} {b0 b1 : Bool}
theorem part_ok (h : Ot.Ok o) (k : Nat) (x : Int) (s : St) (b0 b1 : Bool) : Ot.Ok { o with v := if b0 = true then o.v.set k x else o.v, s := if b1 = true then o.s.set k s else o.s } := by
  cases b0 <;> cases b1 <;> exact ⟨by simp [h.v], by simp [h.s]⟩
theorem Sv.grow (h : Sv X ob o k x s b0 b1 Y) (b : Below Y.heap.size Y Z) : Sv X ob o k x s b0 b1 Z := ⟨But.grow h.but b, onB h.row b⟩
theorem Sv.one (hk : Ot.Ok o) (hi : k < 8) (h : Sv X ob o k x s false b1 Y) : Sv X ob o k x s true b1 (Y.setCell ⟨ob, 1 + k, none⟩ (.int .i64 x)) := by
  refine ⟨(show But (· = ob) X Y from h.but).setCell (p := ⟨ob, 1 + k, none⟩) (Or.inl rfl) _, ?_⟩
  have := h.row.set (1 + k) (.int .i64 x)
  rw [Ot.set_v (part_ok hk k x s false b1) k hi] at this
  exact this
theorem Sv.two (hk : Ot.Ok o) (hi : k < 8) (h : Sv X ob o k x s b0 false Y) : Sv X ob o k x s b0 true (Y.setCells ob (9 + k * 4) (str s)) := by
  refine ⟨but_cells (show But (· = ob) X Y from h.but) (Or.inl rfl) _ _, ?_⟩
  have := Ot.VRow.setCells (str s) (9 + k * 4) Y _ h.row (by rw [Ot.ouc_len (part_ok hk k x s b0 false)]; show 9 + k * 4 + 4 ≤ 41; omega)
  rw [Ot.set_s (part_ok hk k x s b0 false) k hi] at this
  exact this
end
theorem YAt.on {W W' : World} {c : List Int} {y : Nat → Sl} {A : Nat → Option Addr} {C : Nat → Nat} (h : YAt W c y A C) (b : Below W.heap.size W W') : YAt W' c y A C := ⟨h.ok, h.cap, fun i hi => (h.at_ i hi).below b⟩
/-- Bytes do not lie where an output does. -/
theorem u8_not {X : World} {a : Option Addr} {l : List Int} {b : Nat} {t : TypeId} (h : IntsAt .u8 X a l) (hl : 0 < l.length) (v : VRow X b t (ouc zou)) : ∀ ad, a = some ad → ¬ ad.block = b := by
  rcases h with h | ⟨b', off, rfl, hc⟩
  · rw [h] at hl; simp at hl
  · rintro ad e eb
    cases e
    have h0 := hc 0 hl
    replace eb : b' = b := eb
    subst eb
    rw [cell_of_row X b' (off + 0) _ t (0, 0) v] at h0
    have := List.mem_of_getElem? (l := ouc zou) (by simpa using h0)
    simp [ouc, zou, cellsI, str, zer] at this
/-- What Step does. -/
def StepR (F : Face) (W : World) (P : Pl) (c : List Int) (m : Fs) (y : Nat → Sl) (e : Ending) (w' : World) : Prop :=
  ∃ (P' : Pl) (a : Option Addr) (cap : Nat), e = .returned (.tuple #[.agg (ouc (out c m y)).toArray, .slice a 54 cap, .int .i64 0]) ∧ IntsAt .u8 w' a (Ot.enc (out c m y)) ∧ 54 ≤ cap ∧ Goes F W P w' P' c (nx c m y)
/-- A fusion behind a cycle that is not counted yet. -/
def nt3 (c : List Int) (m : Fs) (y : Nat → Sl) : Fs := { nx c m y with k := m.k }
/-- What lies about while the output is filled. -/
structure Ots (F : Face) (W : World) (P : Pl) (c : List Int) (m : Fs) (y : Nat → Sl) (ob : Nat) (X : World) (P' : Pl) (k : Nat) : Prop where
  goes : Goes F W P X P' c (nt3 c m y)
  row : VRow X ob 40 (ouc (oup c m y k))
  res : VRow X (W.heap.size + 1) 40 (ouc zou)
  free : P'.col ob = 0
  free1 : P'.col (W.heap.size + 1) = 0
  new : W.heap.size + 2 ≤ ob
section
variable {F : Face} {W X Y : World} {P P' : Pl} {c : List Int} {m : Fs} {y : Nat → Sl} {ob k : Nat}
theorem Ots.on (H : Ots F W P c m y ob X P' k) (b : Below X.heap.size X Y) : Ots F W P c m y ob Y P' k := ⟨H.goes.on b, onB H.row b, onB H.res b, H.free, H.free1, H.new⟩
theorem Ots.told (H : Ots F W P c m y ob X P' k) (S : Sv X ob (oup c m y k) k (vls c m y k) (sta c m y k) true true Y) : Ots F W P c m y ob Y P' (k + 1) := by
  have hn := H.new
  refine ⟨H.goes.fresh S.but fun j hj => by rw [hj]; exact ⟨H.free, by omega⟩, ?_, H.res.only S.but (by omega), H.free, H.free1, H.new⟩
  have := S.row
  simp only [if_true] at this
  rw [oup_next] at this
  exact this
end
theorem res_at (c : List Int) (m : Fs) (y : Nat → Sl) (j : Nat) : (res c (m.s j) (raw c m y j) (sh c m))[0]? = some (.int .i64 (vls c m y j)) ∧ ∀ i v, (str (sta c m y j))[i]? = some v → (res c (m.s j) (raw c m y j) (sh c m))[1 + i]? = some v := by
  refine ⟨rfl, fun i v hv => ?_⟩
  have hi : i < 4 := (List.getElem?_eq_some_iff.1 hv).1
  rcases four hi with rfl | rfl | rfl | rfl <;> exact hv
set_option maxRecDepth 100000 in
set_option maxHeartbeats 6400000 in
theorem step_any {F : Face} {W : World} {P : Pl} {c : List Int} {m : Fs} (hR : Cf.Right c) (hO : Ok c m) (hk : m.k < 8589934592) (L : Lie F W P c m) (hT : Tp.TabAt W) {y : Nat → Sl} {A : Nat → Option Addr} {C : Nat → Nat} (Y : YAt W c y A C) :
    Calls Tryz.prog 11 #[.pointer (some ⟨P.f, 0, none⟩), .agg (cyv y A C).toArray] W (StepR F W P c m y) := by
  have hv := VRow.new W (cyv y A C) 47
  have hb1 := (Below.refl W.heap.size W).alloc (Nat.le_refl _) (.cells (cyv y A C).toArray 47)
  have hb2 := hb1.alloc hb1.size (.cells (ouc zou).toArray 40)
  have V0 := Lib.hid (hv.alloc (.cells (ouc zou).toArray 40))
  have V1 := Lib.hid (show VRow ((W.alloc (.cells (cyv y A C).toArray 47)).alloc (.cells (ouc zou).toArray 40)) (W.heap.size + 1) 40 (ouc zou) by
    have := VRow.new (W.alloc (.cells (cyv y A C).toArray 47)) (ouc zou) 40
    rwa [World.size_alloc] at this)
  have G0 := Lib.hid ((Goes.refl L).on hb2)
  have SC : (Tryz.prog.info? 47).map (·.size) = some (cyv y A C).length := by
    rw [show (cyv y A C).length = 8 from rfl]; kernel_rfl
  have HSC := Lib.hid SC
  have HL := Lib.hid L
  have HO := Lib.hid hO
  have HTA := Lib.hid hT
  have HR := Lib.hid hR
  have HY := Lib.hid Y
  have HK := Lib.hid hk
  unfold StepR
  clear hv hb1 hb2 L hO hT hR Y SC hk
  go_enter Tryz.func11, Tryz.ntmps11
  go_upto_region 3 with ((with_reducible show wpList _ _ _ (⟨_, .alloc 40, _, _, _, _⟩ :: _) _ _); refine wpList_lay rfl _ rfl (ouc zou) (fun _ => by kernel_rfl) ?_)
  have HB2 := Lib.hid (((Below.refl W.heap.size W).alloc (Nat.le_refl _) (.cells (cyv y A C).toArray 47)).alloc (by simp) (.cells (ouc zou).toArray 40))
  have hz2 := Lib.hid (show ((W.alloc (.cells (cyv y A C).toArray 47)).alloc (.cells (ouc zou).toArray 40)).heap.size = W.heap.size + 2 by simp)
  generalize (W.alloc (.cells (cyv y A C).toArray 47)).alloc (.cells (ouc zou).toArray 40) = W2 at *
  have f1 := Lib.hid (HL.out.free (k := W.heap.size + 1) (by omega))
  have CT := take_any HR.out HO.out (by have := HK.out; omega) G0.out.lie (HY.out.on HB2.out)
  have SO := fun j (hj : j < 8) => show Sg.Ok c ((tkt m y (NN c)).s j) ∧ ((tkt m y (NN c)).s j).votes.length < 1099511627776 from ⟨(HO.out.s j hj).1, by rw [show ((tkt m y (NN c)).s j).votes.length = m.k from (HO.out.s j hj).2]; have := HK.out; omega⟩
  have CU := fun (X : World) (g : Goes F W2 P X P c (tkt m y (NN c))) => turn_any (r := raw c m y) HR.out g.lie SO (fun j hj => okr_any (m := m) HR.out HY.out.ok j hj)
  have HR8 := Lib.hid (show rss c (tkt m y (NN c)).s (raw c m y) (sh c (tkt m y (NN c))) 8 = rss c m.s (raw c m y) (sh c m) 8 from rfl)
  have SR8 := Lib.hid (sizeRR _ (rss_len c m.s (raw c m y) (sh c m) 8))
  have SR0 := Lib.hid (show (rss c m.s (raw c m y) (sh c m) 0).length = (rss c m.s (raw c m y) (sh c m) 8).length by rw [rss_len, rss_len])
  have OR8 := Lib.hid (rss_one c m.s (raw c m y) (sh c m) 8)
  unfold TurnR at CU
  clear SO
  simp only [HR8.out] at CU
  go_upto_region 4 with (first
    | ((with_reducible show wpList _ _ _ (⟨some 18, _, _, _, _, _⟩ :: _) _ _); refine VB.loaded rfl _ rfl W.heap.size rfl V0.out Tryz.underlying47 rfl HSC.out ?_)
    | (go_at_call 39; refine CT.mono ?_; rintro e w1 ⟨rfl, g1⟩; have G1 := Lib.hid g1; clear g1)
    | (go_at_call 38; refine (CU _ G1.out).mono ?_; rintro e w2 ⟨P', rfl, g2⟩; have G2 := Lib.hid (G1.out.trans g2); clear g2)
    | ((with_reducible show wpList _ _ _ (⟨_, .alloc 110, _, _, _, _⟩ :: _) _ _); refine wpList_lay rfl _ rfl (rss c m.s (raw c m y) (sh c m) 0) (fun _ => by kernel_rfl) ?_)
    | ((with_reducible show wpList _ _ _ (⟨none, .store _ (.tmp 7) _, _, _, _, _⟩ :: _) _ _); refine VB.store rfl _ _ rfl w2.heap.size (rss c m.s (raw c m y) (sh c m) 8) rfl rfl (VRow.new w2 (rss c m.s (raw c m y) (sh c m) 0) 110) SR8.out SR0.out OR8.out ?_))
  have hb3 := Below.put ((Below.refl w2.heap.size w2).alloc (Nat.le_refl _) (.cells (rss c m.s (raw c m y) (sh c m) 0).toArray 110)) (Nat.le_refl _) (rss c m.s (raw c m y) (sh c m) 8).toArray
  have G3 := Lib.hid (G2.out.on hb3)
  have V7 := Lib.hid ((VRow.new w2 (rss c m.s (raw c m y) (sh c m) 0) 110).put (rss c m.s (raw c m y) (sh c m) 8))
  have V3 := Lib.hid (onB (G2.out.row V1.out f1.out) hb3)
  have f3 := Lib.hid (G2.out.zero V1.out f1.out)
  have f7 := Lib.hid (G2.out.lie.free (k := w2.heap.size) (Nat.le_refl _))
  have hz3 := Lib.hid (show W.heap.size + 2 ≤ w2.heap.size from by have := G2.out.but.size; rw [hz2.out] at this; exact this)
  clear hb3 V0 V1 f1 CT CU G1 G2
  generalize (w2.alloc (.cells (rss c m.s (raw c m y) (sh c m) 0).toArray 110)).setRow w2.heap.size (rss c m.s (raw c m y) (sh c m) 8).toArray = w3 at *
  generalize w2.heap.size = rb at *
  have CN := note_any G3.out.lie (G3.out.tab (HTA.out.below HB2.out) HL.out.tz) (by
    show m.notes.length < _
    have := HO.out.n
    have := HK.out
    omega) m.s (raw c m y) (sh c m)
  have HNX := Lib.hid (fun (X : World) (g : Goes F w3 P' X P' c { tns c (tkt m y (NN c)) (raw c m y) (sh c (tkt m y (NN c))) 8 with notes := (tns c (tkt m y (NN c)) (raw c m y) (sh c (tkt m y (NN c))) 8).notes ++ nse (tns c (tkt m y (NN c)) (raw c m y) (sh c (tkt m y (NN c))) 8).k (fun i j => Sg.evi c (m.s j) (raw c m y j) (sh c m) i) (fun i j => Sg.tri c (m.s j) (raw c m y j) (sh c m) i) (NN c) }) =>
    (show Goes F W P X P' c (nt3 c m y) from G0.out.trans (G3.out.trans g)))
  have HPF := Lib.hid G3.out.f
  rw [HPF.out] at CN
  go_upto_region 5 with (first
    | ((with_reducible show wpList _ _ _ (⟨some 22, _, _, _, _, _⟩ :: _) _ _); refine VB.loaded rfl _ rfl rb rfl V7.out Tryz.underlying110 rfl SR8.out ?_)
    | (go_at_call 40; refine CN.mono ?_; rintro e w4 ⟨rfl, g4⟩; have GN := Lib.hid g4; clear g4))
  have G4 := Lib.hid (HNX.out w4 GN.out)
  have V74 := Lib.hid (GN.out.row V7.out f7.out)
  have V34 := Lib.hid (GN.out.row V3.out f3.out)
  have f34 := Lib.hid (GN.out.zero V3.out f3.out)
  have hz4 := Lib.hid (show W.heap.size + 2 ≤ w4.heap.size by have h1 := hz3.out; have h2 := V7.out.lt; have h3 := GN.out.but.size; omega)
  clear CN HNX G3 V7 V3 f7 f3 G0 HB2 GN
  obtain ⟨qq, hqq⟩ : ∃ qq : Int, qq = (m.k : Int) % 65536 := ⟨_, rfl⟩
  have hq : Int.tmod (m.k : Int) 65536 = qq := by rw [hqq]; exact Int.tmod_eq_emod_of_nonneg (by omega)
  have HQ := Lib.hid (show (⟨qq, List.replicate 8 0, List.replicate 8 zer⟩ : Ou) = oup c m y 0 by rw [hqq]; rfl)
  clear hqq
  have c11 := G4.out.lie.fus.cell 11 (v := .int .i64 m.k) rfl
  rw [HPF.out] at c11
  have KQ := Lib.hid (show Ot.Ok (⟨qq, List.replicate 8 0, List.replicate 8 zer⟩ : Ou) from ⟨rfl, rfl⟩)
  go_upto_region 6 with (first
    | ((with_reducible show wpList _ _ _ (⟨some 29, _, _, _, _, _⟩ :: _) _ _); refine Rg.wpList_buildTo rfl _ _ rfl (ouc ⟨qq, List.replicate 8 0, List.replicate 8 zer⟩).toArray (by kernel_rfl) ?_)
    | ((with_reducible show wpList _ _ _ (⟨_, .alloc 40, _, _, _, _⟩ :: _) _ _); refine wpList_lay rfl _ rfl (ouc zou) (fun _ => by kernel_rfl) ?_)
    | ((with_reducible show wpList _ _ _ (⟨none, .store _ (.tmp 8) _, _, _, _, _⟩ :: _) _ _); refine VB.store rfl _ _ rfl w4.heap.size (ouc ⟨qq, List.replicate 8 0, List.replicate 8 zer⟩) rfl rfl (VRow.new w4 (ouc zou) 40) (Ot.sizeO KQ.out) rfl (Ot.ouc_all _) ?_))
  have hb5 := Below.put ((Below.refl w4.heap.size w4).alloc (Nat.le_refl _) (.cells (ouc zou).toArray 40)) (Nat.le_refl _) (ouc ⟨qq, List.replicate 8 0, List.replicate 8 zer⟩).toArray
  have O0 := Lib.hid (show Ots F W P c m y w4.heap.size ((w4.alloc (.cells (ouc zou).toArray 40)).setRow w4.heap.size (ouc ⟨qq, List.replicate 8 0, List.replicate 8 zer⟩).toArray) P' 0 from
    ⟨G4.out.on hb5, by rw [← HQ.out]; exact (VRow.new w4 (ouc zou) 40).put _, onB V34.out hb5, G4.out.lie.free (Nat.le_refl _), f34.out, hz4.out⟩)
  have V75 := Lib.hid (onB V74.out hb5)
  clear hb5 V74 V34 f34 c11 hq HQ G4 KQ
  generalize (w4.alloc (.cells (ouc zou).toArray 40)).setRow w4.heap.size (ouc ⟨qq, List.replicate 8 0, List.replicate 8 zer⟩).toArray = w5 at *
  generalize w4.heap.size = ob at *
  have IR := fun (X : World) (j : Nat) (hj : j < 8) => index_r c m.s (raw c m y) (sh c m) hj X
  have E13 := Lib.hid (fun j => res_at c m y j)
  have O13 := Lib.hid (fun j => Sg.res_one c (m.s j) (raw c m y j) (sh c m))
  have S13 := Lib.hid (fun j => sizeRZ (res c (m.s j) (raw c m y j) (sh c m)) rfl)
  have L13 := Lib.hid (fun j => show Sg.zres.length = (res c (m.s j) (raw c m y j) (sh c m)).length from rfl)
  clear HR8 SR0 OR8
  generalize rss c m.s (raw c m y) (sh c m) 8 = R8 at *
  go_wp2_with ((with_reducible show wpList _ _ _ (⟨some 30, _, _, _, _, _⟩ :: _) _ _); refine VB.loaded rfl _ rfl rb rfl V75.out Tryz.underlying110 rfl SR8.out ?_)
  clear V75 SR8
  go_loopg [31] 8 (fun gg s31 wr => ∃ k : Nat, k + gg = 8 ∧ s31 = .int .i64 k ∧ Hid (Ots F W P c m y ob wr P' k))
  case atStart => exact ⟨0, by omega, rfl, O0⟩
  case round =>
    obtain ⟨k, hkg, rfl, H⟩ := hrel
    clear O0
    by_cases hk : k < 8
    · have hki : (k : Int) < 8 := by omega
      have ik := IR wr k hk
      have VZ := Lib.hid (VRow.new wr Sg.zres 109)
      have s13 := S13.out k
      have o13 := O13.out k
      have l13 := Lib.hid (L13.out k)
      have e13 := Lib.hid (E13.out k)
      obtain ⟨rj, hrj⟩ : ∃ rj, res c (m.s k) (raw c m y k) (sh c m) = rj := ⟨_, rfl⟩
      rw [hrj] at ik s13 o13 l13 e13
      clear hrj
      have b2 := Below.put ((Below.refl wr.heap.size wr).alloc (Nat.le_refl _) (.cells Sg.zres.toArray 109)) (Nat.le_refl _) rj.toArray
      have HX := Lib.hid (H.out.on b2)
      have VX := Lib.hid (VZ.out.put rj)
      have NE := Lib.hid (show wr.heap.size ≠ ob by have := H.out.row.lt; omega)
      clear b2
      go_upto_region 9 with (first
        | ((with_reducible show wpList _ _ _ (⟨some 34, _, _, _, _, _⟩ :: _) _ _); refine Ot.wpList_index rfl _ _ _ rfl R8.toArray k _ rfl rfl ik ?_)
        | ((with_reducible show wpList _ _ _ (⟨_, .alloc 109, _, _, _, _⟩ :: _) _ _); refine wpList_lay rfl _ rfl Sg.zres (fun _ => by kernel_rfl) ?_)
        | ((with_reducible show wpList _ _ _ (⟨none, .store _ (.tmp 10) _, _, _, _, _⟩ :: _) _ _); refine VB.store rfl _ _ rfl wr.heap.size rj rfl rfl VZ.out s13 l13.out o13 ?_))
      clear VZ H s13 o13 ik
      generalize ((wr.alloc (.cells Sg.zres.toArray 109)).setRow wr.heap.size rj.toArray) = X at *
      generalize wr.heap.size = sb at *
      have e0 := Lib.hid (VX.out.cell 0 e13.out.1)
      have OKk := Lib.hid (oup_ok c m y k)
      have HXR := Lib.hid HX.out.row
      have TOLD := Lib.hid (fun Y S => HX.out.told (Y := Y) S)
      generalize vls c m y k = x at *
      generalize sta c m y k = st at *
      generalize oup c m y k = oo at *
      simp only [Act.put]
      refine Ws.wp_sets (aF := ?_) [] [8, 11] 60 [true, true, true, true, true, true, true, true, false, true, true, false] []
        (fun bs vs Y => Sv X ob oo k x st (bs.getD 0 false) (bs.getD 1 false) Y)
        (fun Y => Only ob X Y)
        (by kernel_rfl) (by kernel_rfl) (by kernel_rfl) (by kernel_rfl) ?ha ?hMC ?hMg ?h0 ?hq ?hw ?hend
      case ha => rfl
      case hMC => exact fun bs vs Y h => h.but
      case hMg => exact fun bs vs Y Z h hC => h.grow hC.to
      case h0 => exact fun vs _ => ⟨But.refl _ _, HXR.out⟩
      case hq =>
        intro Y hY
        have hV := VX.out.only hY NE.out
        have c0 := cell_regrown (hV.cell 0 e13.out.1)
        have HRG := Lib.hid (show ∀ W', (∃ z : Regrown, W' = Sort.grow (redrawn Y z.d) z.os) → ∀ (j : Nat) v, (str st)[j]? = some v → W'.cell? ⟨sb, 1 + j, none⟩ = some v by
          rintro W' ⟨z, rfl⟩ j v hv
          exact VRow.cell (hV.below (below_regrown Y z.d z.os) hV.lt) (1 + j) (e13.out.2 j v hv))
        clear hY hV
        simp only [Lt.sel, Lt.putAll, List.map_nil, List.zip_nil_right, List.foldl_nil]
        repeat (first
          | (with_reducible show wpQuiet _ _ _ _ (⟨some 40, _, _, _, _, _⟩ :: _) _
             refine Sg.wpQuiet_loadR rfl _ rfl sb 1 (str st) rfl HRG.out Ss.aggS Ss.sizeS ?_
             simp only [Act.put, List.setIfInBounds_toArray, List.set_cons_succ, List.set_cons_zero])
          | go_big_quiet_step (fail))
        exact rfl
      case hw =>
        rintro bs (_ | _ | q) so o hbl hs ho hkk hpre vs Y hv hM
        · obtain rfl : 8 = so := by simpa using hs
          obtain rfl := Option.some.inj ho
          match bs, hbl with
          | [y0, y1], _ =>
            obtain rfl : y0 = false := hkk
            have HK := Lib.hid (hM.one OKk.out hk)
            have fR := hM.row.frozen (1 + k)
            have cR : Y.cell? ⟨ob, 1 + k, none⟩ = some _ := hM.row.cell (1 + k) (Ot.ouc_v (part_ok OKk.out k x st false y1) k hk)
            clear hM
            simp only [Lt.putAll, List.zip_nil_left, List.foldl_nil]
            unfold Oper.wp
            go_simp
            exact HK.out
        · obtain rfl : 11 = so := by simpa using hs
          obtain rfl := Option.some.inj ho
          match bs, hbl with
          | [y0, y1], _ =>
            obtain rfl : y1 = false := hkk
            have HK := Lib.hid (hM.two OKk.out hk)
            have TH := Ot.there_st hM.row (part_ok OKk.out k x st y0 false) k hk
            clear hM
            simp only [Lt.putAll, List.zip_nil_left, List.foldl_nil]
            refine wp_store_mid 37 (.tmp 44) (.tmp 40) rfl ob (9 + k * 4) (str st).toArray rfl rfl TH Ss.sizeS (Ss.str_one st) ?_
            exact ⟨undef, rfl, fun d hd => by (cases hd), HK.out⟩
        · simp at hs
      case hend =>
        intro vs Z hv hM
        have HN := Lib.hid (TOLD.out Z hM)
        clear hM TOLD HXR HX VX e0 e13
        simp only [Lt.putAll, List.zip_nil_left, List.foldl_nil]
        go_wp2_with fail
        go_roundg (gk - 1)
        case rel => exact ⟨k + 1, by omega, by go_num, HN⟩
        case measure => omega
    · obtain rfl : k = 8 := by omega
      have c11 := H.out.goes.lie.fus.cell 11 (v := .int .i64 m.k) rfl
      have f11 := H.out.goes.lie.fus.frozen 11
      rw [HPF.out] at c11 f11
      have HK1 := Lib.hid (show (m.k : Int) + 1 ≤ 9223372036854775807 from by have := HK.out; omega)
      have hk1 := HK1.out
      have GC := Lib.hid (show Goes F W P (wr.setCell ⟨P.f, 11, none⟩ (.int .i64 ((m.k : Int) + 1))) P' c (nx c m y) by
        have g := H.out.goes.count (m.k + 1)
        rw [HPF.out] at g
        exact g)
      have NF := Lib.hid (show ob ≠ P.f ∧ W.heap.size + 1 ≠ P.f by
        have h1 := H.out.goes.lie.cf
        rw [HPF.out] at h1
        refine ⟨fun e => ?_, fun e => ?_⟩
        · have := H.out.free; rw [e, h1] at this; omega
        · have := H.out.free1; rw [e, h1] at this; omega)
      have RB := Lib.hid (show VRow (wr.setCell ⟨P.f, 11, none⟩ (.int .i64 ((m.k : Int) + 1))) ob 40 (ouc (out c m y)) by
        have h := H.out.row
        rw [oup_all] at h
        exact h.setOther (p := ⟨P.f, 11, none⟩) NF.out.1 _)
      have RO := Lib.hid (show VRow (wr.setCell ⟨P.f, 11, none⟩ (.int .i64 ((m.k : Int) + 1))) (W.heap.size + 1) 40 (ouc zou) from H.out.res.setOther (p := ⟨P.f, 11, none⟩) NF.out.2 _)
      have HOR := Lib.hid (out_rgt (y := y) HR.out HO.out)
      have HOK := Lib.hid (out_ok (c := c) (m := m) (y := y))
      have CE := fun X => Ot.enc_yes_any HOK.out X HOR.out
      unfold Ot.RetCE at CE
      rw [Ot.encE_yes HOR.out] at CE
      rw [Ot.enc_len HOR.out HOK.out] at CE
      have F1 := Lib.hid H.out.free1
      clear H
      go_upto_region 12 with fail
      generalize wr.setCell ⟨P.f, 11, none⟩ (.int .i64 ((m.k : Int) + 1)) = X at *
      go_wp2_with (first
        | ((with_reducible show wpList _ _ _ (⟨some 54, _, _, _, _, _⟩ :: _) _ _); refine VB.loaded rfl _ rfl ob rfl RB.out Tryz.underlying40 rfl (Ot.sizeO HOK.out) ?_)
        | (go_at_call 41; refine (CE X).mono ?_; rintro e w9 ⟨a, cap, rfl, i9, l9, b9⟩; have G9 := Lib.hid (GC.out.on b9); have I9 := Lib.hid i9; have L9 := Lib.hid l9; have RB9 := Lib.hid (onB RB.out b9); have RO9 := Lib.hid (onB RO.out b9); clear i9 l9 b9)
        | ((with_reducible show wpList _ _ _ (⟨some 58, _, _, _, _, _⟩ :: _) _ _); refine VB.loaded rfl _ rfl ob rfl RB9.out Tryz.underlying40 rfl (Ot.sizeO HOK.out) ?_)
        | ((with_reducible show wpList _ _ _ (⟨none, .store _ (.tmp 4) _, _, _, _, _⟩ :: _) _ _); refine VB.store rfl _ _ rfl (W.heap.size + 1) (ouc (out c m y)) rfl rfl RO9.out (Ot.sizeO HOK.out) (by rw [Ot.ouc_len Ot.ok_zou, Ot.ouc_len HOK.out]) (Ot.ouc_all _) ?_))
      have b4 := (But.refl (· = W.heap.size + 1) w9).put (g := W.heap.size + 1) (Or.inl rfl) (ouc (out c m y)).toArray
      have GE := G9.out.fresh b4 fun k hk => by rw [hk]; exact ⟨F1.out, by omega⟩
      have IE := I9.out.but b4 (u8_not I9.out (by rw [Ot.enc_len HOR.out HOK.out]; decide) RO9.out)
      exact bodyPost_ret ((VB.ret3 (cs := ouc (out c m y)) rfl rfl (Ot.aggO _) (Ot.sizeO HOK.out) (RO9.out.put _)).trans rfl) rfl ⟨P', a, cap, rfl, IE, L9.out, GE⟩
end Fu
end Go.Proofs.YtpoededbmdffpaaGreatDoor
