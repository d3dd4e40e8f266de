/-
 What Step of package fusion returns, and does: a contract by walking the Go text. Conditions: how a fusion, and the slots' bytes, lie; that the table of trips lies in memory as the text lays it.
 How a signal comes to lie while New makes its channels one by one: what lies when some are made, one more, the row that grows. No function of the program is walked here. No conditions beyond those said.
 What New, Last and Counts of package fresh do: their contracts by walking the Go text. Conditions: where the track lies.
 How a fusion comes to lie while New makes it. No function of the program is walked here. No conditions beyond those said.
-/
import Derived.Test.YticidhbnljdidaaGreatDoorJFusionTurn3
import Derived.Test.YticidhbnljdidaaGreatDoorJOutputEncode2
import Derived.Test.YticidhbnljdidaaGreatDoorSignalThose
import Derived.Test.YticidhbnljdidaaGreatDoorJFusionKit3
import Derived.Test.YticidhbnljdidaaGreatDoorFusionLie
import Derived.Test.YticidhbnljdidaaGreatDoorJSignalBound10
namespace Go.Proofs.YticidhbnljdidaaGreatDoor
set_option maxRecDepth 100000
open Go.ChangeShapes Go.WideShapes Go.ChangeAt Go.RowKit Go.Deep
namespace Fu
open Cf (G)
open Sg (NN Si Face Rw res)
open Ss (St str zer)
open Ot (Ou ouc zou)
section
variable {F : Face} {w W W' X X' : World} {P0 P P' : Pl} {c : List Int} {m m' : Fs}
theorem Goes.trans (a : Goes F w P0 W P c m) (b : Goes F W P W' P' c m') : Goes F w P0 W' P' c m' :=
 ⟨b.lie,a.but.call b.but (fun k hk => a.more k hk),fun k hk => (b.more k hk).elim (a.more k) (fun q => Or.inr (Nat.le_trans a.but.size q)),b.f.trans a.f,b.tb.trans a.tb,b.cap.trans a.cap,b.r.trans a.r,b.h.trans a.h,b.g.trans a.g⟩
theorem Goes.row {b : Nat} {t : TypeId} {cs : List Value} (L : Goes F X P X' P' c m) (h : VRow X b t cs) (h0 : P.col b = 0) : VRow X' b t cs := h.but L.but (fun q => q h0)
theorem Goes.zero {b : Nat} {t : TypeId} {cs : List Value} (L : Goes F X P X' P' c m) (h : VRow X b t cs) (h0 : P.col b = 0) : P'.col b = 0 := by
 by_cases q : P'.col b = 0
 · exact q
 · rcases L.more b q with e | e
   · exact absurd h0 e
   · have := h.lt; omega
end
def fillN {α : Type} (f : Nat → α) (z : α) (n k : Nat) : List α := (List.range n).map fun j => if j < k then f j else z
theorem fillN_len {α : Type} (f : Nat → α) (z : α) (n k : Nat) : (fillN f z n k).length = n := by unfold fillN; simp
theorem fillN_all {α : Type} (f : Nat → α) (z : α) (n : Nat) : fillN f z n n = (List.range n).map f := by
 unfold fillN
 exact List.map_congr_left fun j hj => if_pos (List.mem_range.1 hj)
theorem fillN_next {α : Type} (f : Nat → α) (z : α) (n k : Nat) : (fillN f z n k).set k (f k) = fillN f z n (k + 1) := by
 unfold fillN
 refine List.ext_getElem (by simp) fun i h1 h2 => ?_
 rw [List.getElem_set]
 simp only [List.getElem_map,List.getElem_range]
 split
 · rename_i e
   subst e
   rw [if_pos (Nat.lt_succ_self k)]
 · rename_i e
   by_cases q : i < k
   · rw [if_pos q,if_pos (by omega)]
   · rw [if_neg q,if_neg (by omega)]
def oup (c : List Int) (m : Fs) (y : Nat → Sl) (k : Nat) : Ou := ⟨(m.k : Int) % 65536,fillN (vls c m y) 0 8 k,fillN (sta c m y) zer 8 k⟩
theorem oup_ok (c : List Int) (m : Fs) (y : Nat → Sl) (k : Nat) : Ot.Ok (oup c m y k) := ⟨fillN_len _ _ _ _,fillN_len _ _ _ _⟩
theorem oup_all (c : List Int) (m : Fs) (y : Nat → Sl) : oup c m y 8 = out c m y := by unfold oup out; rw [fillN_all,fillN_all]
theorem oup_next (c : List Int) (m : Fs) (y : Nat → Sl) (k : Nat) : { oup c m y k with v := (oup c m y k).v.set k (vls c m y k),s := (oup c m y k).s.set k (sta c m y k) } = oup c m y (k + 1) := by
 unfold oup
 simp only [fillN_next]
structure Sv (X : World) (ob : Nat) (o : Ou) (k : Nat) (x : Int) (s : St) (b0 b1 : Bool) (Y : World) : Prop where
 but : Only ob X Y
 row : VRow Y ob 40 (ouc { o with v := if b0 = true then o.v.set k x else o.v,s := if b1 = true then o.s.set k s else o.s })
section
variable {X Y Z : World} {ob k : Nat} {o : Ou} {x : Int} {s : St} {b0 b1 : Bool}
theorem part_ok (h : Ot.Ok o) (k : Nat) (x : Int) (s : St) (b0 b1 : Bool) : Ot.Ok { o with v := if b0 = true then o.v.set k x else o.v,s := if b1 = true then o.s.set k s else o.s } := by
 cases b0 <;> cases b1 <;> exact ⟨by simp [h.v],by simp [h.s]⟩
theorem Sv.grow (h : Sv X ob o k x s b0 b1 Y) (b : Below Y.heap.size Y Z) : Sv X ob o k x s b0 b1 Z := ⟨But.grow h.but b,onB h.row b⟩
theorem Sv.one (hk : Ot.Ok o) (hi : k < 8) (h : Sv X ob o k x s false b1 Y) : Sv X ob o k x s true b1 (Y.setCell ⟨ob,1 + k,none⟩ (.int .i64 x)) := by
 refine ⟨(show But (· = ob) X Y from h.but).setCell (p := ⟨ob,1 + k,none⟩) (Or.inl rfl) _,?_⟩
 have := h.row.set (1 + k) (.int .i64 x)
 rw [Ot.set_v (part_ok hk k x s false b1) k hi] at this
 exact this
theorem Sv.two (hk : Ot.Ok o) (hi : k < 8) (h : Sv X ob o k x s b0 false Y) : Sv X ob o k x s b0 true (Y.setCells ob (9 + k * 4) (str s)) := by
 refine ⟨but_cells (show But (· = ob) X Y from h.but) (Or.inl rfl) _ _,?_⟩
 have := Ot.VRow.setCells (str s) (9 + k * 4) Y _ h.row (by rw [Ot.ouc_len (part_ok hk k x s b0 false)]; show 9 + k * 4 + 4 ≤ 41; omega)
 rw [Ot.set_s (part_ok hk k x s b0 false) k hi] at this
 exact this
end
theorem YAt.on {W W' : World} {c : List Int} {y : Nat → Sl} {A : Nat → Option Addr} {C : Nat → Nat} (h : YAt W c y A C) (b : Below W.heap.size W W') : YAt W' c y A C := ⟨h.ok,h.cap,fun i hi => (h.at_ i hi).below b⟩
theorem u8_not {X : World} {a : Option Addr} {l : List Int} {b : Nat} {t : TypeId} (h : IntsAt .u8 X a l) (hl : 0 < l.length) (v : VRow X b t (ouc zou)) : ∀ ad,a = some ad → ¬ ad.block = b := by
 rcases h with h | ⟨b',off,rfl,hc⟩
 · rw [h] at hl; simp at hl
 · rintro ad e eb
   cases e
   have h0 := hc 0 hl
   replace eb : b' = b := eb
   subst eb
   rw [cell_of_row X b' (off + 0) _ t (0,0) v] at h0
   have := List.mem_of_getElem? (l := ouc zou) (by simpa using h0)
   simp [ouc,zou,cellsI,str,zer] at this
def StepR (F : Face) (W : World) (P : Pl) (c : List Int) (m : Fs) (y : Nat → Sl) (e : Ending) (w' : World) : Prop :=
 ∃ (P' : Pl) (a : Option Addr) (cap : Nat),e = .returned (.tuple #[.agg (ouc (out c m y)).toArray,.slice a 54 cap,.int .i64 0]) ∧ IntsAt .u8 w' a (Ot.enc (out c m y)) ∧ 54 ≤ cap ∧ Goes F W P w' P' c (nx c m y)
def nt3 (c : List Int) (m : Fs) (y : Nat → Sl) : Fs := { nx c m y with k := m.k }
structure Ots (F : Face) (W : World) (P : Pl) (c : List Int) (m : Fs) (y : Nat → Sl) (ob : Nat) (X : World) (P' : Pl) (k : Nat) : Prop where
 goes : Goes F W P X P' c (nt3 c m y)
 row : VRow X ob 40 (ouc (oup c m y k))
 res : VRow X (W.heap.size + 1) 40 (ouc zou)
 free : P'.col ob = 0
 free1 : P'.col (W.heap.size + 1) = 0
 new : W.heap.size + 2 ≤ ob
section
variable {F : Face} {W X Y : World} {P P' : Pl} {c : List Int} {m : Fs} {y : Nat → Sl} {ob k : Nat}
theorem Ots.on (H : Ots F W P c m y ob X P' k) (b : Below X.heap.size X Y) : Ots F W P c m y ob Y P' k := ⟨H.goes.on b,onB H.row b,onB H.res b,H.free,H.free1,H.new⟩
theorem Ots.told (H : Ots F W P c m y ob X P' k) (S : Sv X ob (oup c m y k) k (vls c m y k) (sta c m y k) true true Y) : Ots F W P c m y ob Y P' (k + 1) := by
 have hn := H.new
 refine ⟨H.goes.fresh S.but fun j hj => by rw [hj]; exact ⟨H.free,by omega⟩,?_,H.res.only S.but (by omega),H.free,H.free1,H.new⟩
 have := S.row
 simp only [if_true] at this
 rw [oup_next] at this
 exact this
end
theorem res_at (c : List Int) (m : Fs) (y : Nat → Sl) (j : Nat) : (res c (m.s j) (raw c m y j) (sh c m))[0]? = some (.int .i64 (vls c m y j)) ∧ ∀ i v,(str (sta c m y j))[i]? = some v → (res c (m.s j) (raw c m y j) (sh c m))[1 + i]? = some v := by
 refine ⟨rfl,fun i v hv => ?_⟩
 have hi : i < 4 := (List.getElem?_eq_some_iff.1 hv).1
 rcases four hi with rfl | rfl | rfl | rfl <;> exact hv
set_option maxRecDepth 100000 in
set_option maxHeartbeats 6400000 in
theorem step_any {F : Face} {W : World} {P : Pl} {c : List Int} {m : Fs} (hR : Cf.Right c) (hO : Ok c m) (hk : m.k < 8589934592) (L : Lie F W P c m) (hT : Tp.TabAt W) {y : Nat → Sl} {A : Nat → Option Addr} {C : Nat → Nat} (Y : YAt W c y A C) :
 Calls Tryz.prog 11 #[.pointer (some ⟨P.f,0,none⟩),.agg (cyv y A C).toArray] W (StepR F W P c m y) := by
 have hv := VRow.new W (cyv y A C) 47
 have hb1 := (Below.refl W.heap.size W).alloc (Nat.le_refl _) (.cells (cyv y A C).toArray 47)
 have hb2 := hb1.alloc hb1.size (.cells (ouc zou).toArray 40)
 have V0 := Lib.hid (hv.alloc (.cells (ouc zou).toArray 40))
 have V1 := Lib.hid (show VRow ((W.alloc (.cells (cyv y A C).toArray 47)).alloc (.cells (ouc zou).toArray 40)) (W.heap.size + 1) 40 (ouc zou) by
  have := VRow.new (W.alloc (.cells (cyv y A C).toArray 47)) (ouc zou) 40
  rwa [World.size_alloc] at this)
 have G0 := Lib.hid ((Goes.refl L).on hb2)
 have SC : (Tryz.prog.info? 47).map (·.size) = some (cyv y A C).length := by
  rw [show (cyv y A C).length = 8 from rfl]; kernel_rfl
 have HSC := Lib.hid SC
 have HL := Lib.hid L
 have HO := Lib.hid hO
 have HTA := Lib.hid hT
 have HR := Lib.hid hR
 have HY := Lib.hid Y
 have HK := Lib.hid hk
 unfold StepR
 clear hv hb1 hb2 L hO hT hR Y SC hk
 go_enter Tryz.func11,Tryz.ntmps11
 go_upto_region 3 with ((with_reducible show wpList _ _ _ (⟨_,.alloc 40,_,_,_,_⟩ :: _) _ _); refine wpList_lay rfl _ rfl (ouc zou) (fun _ => by kernel_rfl) ?_)
 have HB2 := Lib.hid (((Below.refl W.heap.size W).alloc (Nat.le_refl _) (.cells (cyv y A C).toArray 47)).alloc (by simp) (.cells (ouc zou).toArray 40))
 have hz2 := Lib.hid (show ((W.alloc (.cells (cyv y A C).toArray 47)).alloc (.cells (ouc zou).toArray 40)).heap.size = W.heap.size + 2 by simp)
 generalize (W.alloc (.cells (cyv y A C).toArray 47)).alloc (.cells (ouc zou).toArray 40) = W2 at *
 have f1 := Lib.hid (HL.out.free (k := W.heap.size + 1) (by omega))
 have CT := take_any HR.out HO.out (by have := HK.out; omega) G0.out.lie (HY.out.on HB2.out)
 have SO := fun j (hj : j < 8) => show Sg.Ok c ((tkt m y (NN c)).s j) ∧ ((tkt m y (NN c)).s j).votes.length < 1099511627776 from ⟨(HO.out.s j hj).1,by rw [show ((tkt m y (NN c)).s j).votes.length = m.k from (HO.out.s j hj).2]; have := HK.out; omega⟩
 have CU := fun (X : World) (g : Goes F W2 P X P c (tkt m y (NN c))) => turn_any (r := raw c m y) HR.out g.lie SO (fun j hj => okr_any (m := m) HR.out HY.out.ok j hj)
 have HR8 := Lib.hid (show rss c (tkt m y (NN c)).s (raw c m y) (sh c (tkt m y (NN c))) 8 = rss c m.s (raw c m y) (sh c m) 8 from rfl)
 have SR8 := Lib.hid (sizeRR _ (rss_len c m.s (raw c m y) (sh c m) 8))
 have SR0 := Lib.hid (show (rss c m.s (raw c m y) (sh c m) 0).length = (rss c m.s (raw c m y) (sh c m) 8).length by rw [rss_len,rss_len])
 have OR8 := Lib.hid (rss_one c m.s (raw c m y) (sh c m) 8)
 unfold TurnR at CU
 clear SO
 simp only [HR8.out] at CU
 go_upto_region 4 with (first
  | ((with_reducible show wpList _ _ _ (⟨some 18,_,_,_,_,_⟩ :: _) _ _); refine VB.loaded rfl _ rfl W.heap.size rfl V0.out Tryz.underlying47 rfl HSC.out ?_)
  | (go_at_call 39; refine CT.mono ?_; rintro e w1 ⟨rfl,g1⟩; have G1 := Lib.hid g1; clear g1)
  | (go_at_call 38; refine (CU _ G1.out).mono ?_; rintro e w2 ⟨P',rfl,g2⟩; have G2 := Lib.hid (G1.out.trans g2); clear g2)
  | ((with_reducible show wpList _ _ _ (⟨_,.alloc 110,_,_,_,_⟩ :: _) _ _); refine wpList_lay rfl _ rfl (rss c m.s (raw c m y) (sh c m) 0) (fun _ => by kernel_rfl) ?_)
  | ((with_reducible show wpList _ _ _ (⟨none,.store _ (.tmp 7) _,_,_,_,_⟩ :: _) _ _); refine VB.store rfl _ _ rfl w2.heap.size (rss c m.s (raw c m y) (sh c m) 8) rfl rfl (VRow.new w2 (rss c m.s (raw c m y) (sh c m) 0) 110) SR8.out SR0.out OR8.out ?_))
 have hb3 := Below.put ((Below.refl w2.heap.size w2).alloc (Nat.le_refl _) (.cells (rss c m.s (raw c m y) (sh c m) 0).toArray 110)) (Nat.le_refl _) (rss c m.s (raw c m y) (sh c m) 8).toArray
 have G3 := Lib.hid (G2.out.on hb3)
 have V7 := Lib.hid ((VRow.new w2 (rss c m.s (raw c m y) (sh c m) 0) 110).put (rss c m.s (raw c m y) (sh c m) 8))
 have V3 := Lib.hid (onB (G2.out.row V1.out f1.out) hb3)
 have f3 := Lib.hid (G2.out.zero V1.out f1.out)
 have f7 := Lib.hid (G2.out.lie.free (k := w2.heap.size) (Nat.le_refl _))
 have hz3 := Lib.hid (show W.heap.size + 2 ≤ w2.heap.size from by have := G2.out.but.size; rw [hz2.out] at this; exact this)
 clear hb3 V0 V1 f1 CT CU G1 G2
 generalize (w2.alloc (.cells (rss c m.s (raw c m y) (sh c m) 0).toArray 110)).setRow w2.heap.size (rss c m.s (raw c m y) (sh c m) 8).toArray = w3 at *
 generalize w2.heap.size = rb at *
 have CN := note_any G3.out.lie (G3.out.tab (HTA.out.below HB2.out) HL.out.tz) (by
  show m.notes.length < _
  have := HO.out.n
  have := HK.out
  omega) m.s (raw c m y) (sh c m)
 have HNX := Lib.hid (fun (X : World) (g : Goes F w3 P' X P' c { tns c (tkt m y (NN c)) (raw c m y) (sh c (tkt m y (NN c))) 8 with notes := (tns c (tkt m y (NN c)) (raw c m y) (sh c (tkt m y (NN c))) 8).notes ++ nse (tns c (tkt m y (NN c)) (raw c m y) (sh c (tkt m y (NN c))) 8).k (fun i j => Sg.evi c (m.s j) (raw c m y j) (sh c m) i) (fun i j => Sg.tri c (m.s j) (raw c m y j) (sh c m) i) (NN c) }) =>
  (show Goes F W P X P' c (nt3 c m y) from G0.out.trans (G3.out.trans g)))
 have HPF := Lib.hid G3.out.f
 rw [HPF.out] at CN
 go_upto_region 5 with (first
  | ((with_reducible show wpList _ _ _ (⟨some 22,_,_,_,_,_⟩ :: _) _ _); refine VB.loaded rfl _ rfl rb rfl V7.out Tryz.underlying110 rfl SR8.out ?_)
  | (go_at_call 40; refine CN.mono ?_; rintro e w4 ⟨rfl,g4⟩; have GN := Lib.hid g4; clear g4))
 have G4 := Lib.hid (HNX.out w4 GN.out)
 have V74 := Lib.hid (GN.out.row V7.out f7.out)
 have V34 := Lib.hid (GN.out.row V3.out f3.out)
 have f34 := Lib.hid (GN.out.zero V3.out f3.out)
 have hz4 := Lib.hid (show W.heap.size + 2 ≤ w4.heap.size by have h1 := hz3.out; have h2 := V7.out.lt; have h3 := GN.out.but.size; omega)
 clear CN HNX G3 V7 V3 f7 f3 G0 HB2 GN
 obtain ⟨qq,hqq⟩ : ∃ qq : Int,qq = (m.k : Int) % 65536 := ⟨_,rfl⟩
 have hq : Int.tmod (m.k : Int) 65536 = qq := by rw [hqq]; exact Int.tmod_eq_emod_of_nonneg (by omega)
 have HQ := Lib.hid (show (⟨qq,List.replicate 8 0,List.replicate 8 zer⟩ : Ou) = oup c m y 0 by rw [hqq]; rfl)
 clear hqq
 have c11 := G4.out.lie.fus.cell 11 (v := .int .i64 m.k) rfl
 rw [HPF.out] at c11
 have KQ := Lib.hid (show Ot.Ok (⟨qq,List.replicate 8 0,List.replicate 8 zer⟩ : Ou) from ⟨rfl,rfl⟩)
 go_upto_region 6 with (first
  | ((with_reducible show wpList _ _ _ (⟨some 29,_,_,_,_,_⟩ :: _) _ _); refine Rg.wpList_buildTo rfl _ _ rfl (ouc ⟨qq,List.replicate 8 0,List.replicate 8 zer⟩).toArray (by kernel_rfl) ?_)
  | ((with_reducible show wpList _ _ _ (⟨_,.alloc 40,_,_,_,_⟩ :: _) _ _); refine wpList_lay rfl _ rfl (ouc zou) (fun _ => by kernel_rfl) ?_)
  | ((with_reducible show wpList _ _ _ (⟨none,.store _ (.tmp 8) _,_,_,_,_⟩ :: _) _ _); refine VB.store rfl _ _ rfl w4.heap.size (ouc ⟨qq,List.replicate 8 0,List.replicate 8 zer⟩) rfl rfl (VRow.new w4 (ouc zou) 40) (Ot.sizeO KQ.out) rfl (Ot.ouc_all _) ?_))
 have hb5 := Below.put ((Below.refl w4.heap.size w4).alloc (Nat.le_refl _) (.cells (ouc zou).toArray 40)) (Nat.le_refl _) (ouc ⟨qq,List.replicate 8 0,List.replicate 8 zer⟩).toArray
 have O0 := Lib.hid (show Ots F W P c m y w4.heap.size ((w4.alloc (.cells (ouc zou).toArray 40)).setRow w4.heap.size (ouc ⟨qq,List.replicate 8 0,List.replicate 8 zer⟩).toArray) P' 0 from
  ⟨G4.out.on hb5,by rw [← HQ.out]; exact (VRow.new w4 (ouc zou) 40).put _,onB V34.out hb5,G4.out.lie.free (Nat.le_refl _),f34.out,hz4.out⟩)
 have V75 := Lib.hid (onB V74.out hb5)
 clear hb5 V74 V34 f34 c11 hq HQ G4 KQ
 generalize (w4.alloc (.cells (ouc zou).toArray 40)).setRow w4.heap.size (ouc ⟨qq,List.replicate 8 0,List.replicate 8 zer⟩).toArray = w5 at *
 generalize w4.heap.size = ob at *
 have IR := fun (X : World) (j : Nat) (hj : j < 8) => index_r c m.s (raw c m y) (sh c m) hj X
 have E13 := Lib.hid (fun j => res_at c m y j)
 have O13 := Lib.hid (fun j => Sg.res_one c (m.s j) (raw c m y j) (sh c m))
 have S13 := Lib.hid (fun j => sizeRZ (res c (m.s j) (raw c m y j) (sh c m)) rfl)
 have L13 := Lib.hid (fun j => show Sg.zres.length = (res c (m.s j) (raw c m y j) (sh c m)).length from rfl)
 clear HR8 SR0 OR8
 generalize rss c m.s (raw c m y) (sh c m) 8 = R8 at *
 go_wp2_with ((with_reducible show wpList _ _ _ (⟨some 30,_,_,_,_,_⟩ :: _) _ _); refine VB.loaded rfl _ rfl rb rfl V75.out Tryz.underlying110 rfl SR8.out ?_)
 clear V75 SR8
 go_loopg [31] 8 (fun gg s31 wr => ∃ k : Nat,k + gg = 8 ∧ s31 = .int .i64 k ∧ Hid (Ots F W P c m y ob wr P' k))
 case atStart => exact ⟨0,by omega,rfl,O0⟩
 case round =>
  obtain ⟨k,hkg,rfl,H⟩ := hrel
  clear O0
  by_cases hk : k < 8
  · have hki : (k : Int) < 8 := by omega
    have ik := IR wr k hk
    have VZ := Lib.hid (VRow.new wr Sg.zres 109)
    have s13 := S13.out k
    have o13 := O13.out k
    have l13 := Lib.hid (L13.out k)
    have e13 := Lib.hid (E13.out k)
    obtain ⟨rj,hrj⟩ : ∃ rj,res c (m.s k) (raw c m y k) (sh c m) = rj := ⟨_,rfl⟩
    rw [hrj] at ik s13 o13 l13 e13
    clear hrj
    have b2 := Below.put ((Below.refl wr.heap.size wr).alloc (Nat.le_refl _) (.cells Sg.zres.toArray 109)) (Nat.le_refl _) rj.toArray
    have HX := Lib.hid (H.out.on b2)
    have VX := Lib.hid (VZ.out.put rj)
    have NE := Lib.hid (show wr.heap.size ≠ ob by have := H.out.row.lt; omega)
    clear b2
    go_upto_region 9 with (first
     | ((with_reducible show wpList _ _ _ (⟨some 34,_,_,_,_,_⟩ :: _) _ _); refine Ot.wpList_index rfl _ _ _ rfl R8.toArray k _ rfl rfl ik ?_)
     | ((with_reducible show wpList _ _ _ (⟨_,.alloc 109,_,_,_,_⟩ :: _) _ _); refine wpList_lay rfl _ rfl Sg.zres (fun _ => by kernel_rfl) ?_)
     | ((with_reducible show wpList _ _ _ (⟨none,.store _ (.tmp 10) _,_,_,_,_⟩ :: _) _ _); refine VB.store rfl _ _ rfl wr.heap.size rj rfl rfl VZ.out s13 l13.out o13 ?_))
    clear VZ H s13 o13 ik
    generalize ((wr.alloc (.cells Sg.zres.toArray 109)).setRow wr.heap.size rj.toArray) = X at *
    generalize wr.heap.size = sb at *
    have e0 := Lib.hid (VX.out.cell 0 e13.out.1)
    have OKk := Lib.hid (oup_ok c m y k)
    have HXR := Lib.hid HX.out.row
    have TOLD := Lib.hid (fun Y S => HX.out.told (Y := Y) S)
    generalize vls c m y k = x at *
    generalize sta c m y k = st at *
    generalize oup c m y k = oo at *
    simp only [Act.put]
    refine Ws.wp_sets (aF := ?_) [] [8,11] 60 [true,true,true,true,true,true,true,true,false,true,true,false] []
     (fun bs vs Y => Sv X ob oo k x st (bs.getD 0 false) (bs.getD 1 false) Y)
     (fun Y => Only ob X Y)
     (by kernel_rfl) (by kernel_rfl) (by kernel_rfl) (by kernel_rfl) ?ha ?hMC ?hMg ?h0 ?hq ?hw ?hend
    case ha => rfl
    case hMC => exact fun bs vs Y h => h.but
    case hMg => exact fun bs vs Y Z h hC => h.grow hC.to
    case h0 => exact fun vs _ => ⟨But.refl _ _,HXR.out⟩
    case hq =>
     intro Y hY
     have hV := VX.out.only hY NE.out
     have c0 := cell_regrown (hV.cell 0 e13.out.1)
     have HRG := Lib.hid (show ∀ W',(∃ z : Regrown,W' = Sort.grow (redrawn Y z.d) z.os) → ∀ (j : Nat) v,(str st)[j]? = some v → W'.cell? ⟨sb,1 + j,none⟩ = some v by
      rintro W' ⟨z,rfl⟩ j v hv
      exact VRow.cell (hV.below (below_regrown Y z.d z.os) hV.lt) (1 + j) (e13.out.2 j v hv))
     clear hY hV
     simp only [Lt.sel,Lt.putAll,List.map_nil,List.zip_nil_right,List.foldl_nil]
     repeat (first
      | (with_reducible show wpQuiet _ _ _ _ (⟨some 40,_,_,_,_,_⟩ :: _) _
         refine Sg.wpQuiet_loadR rfl _ rfl sb 1 (str st) rfl HRG.out Ss.aggS Ss.sizeS ?_
         simp only [Act.put,List.setIfInBounds_toArray,List.set_cons_succ,List.set_cons_zero])
      | go_big_quiet_step (fail))
     exact rfl
    case hw =>
     rintro bs (_ | _ | q) so o hbl hs ho hkk hpre vs Y hv hM
     · obtain rfl : 8 = so := by simpa using hs
       obtain rfl := Option.some.inj ho
       match bs,hbl with
       | [y0,y1],_ =>
         obtain rfl : y0 = false := hkk
         have HK := Lib.hid (hM.one OKk.out hk)
         have fR := hM.row.frozen (1 + k)
         have cR : Y.cell? ⟨ob,1 + k,none⟩ = some _ := hM.row.cell (1 + k) (Ot.ouc_v (part_ok OKk.out k x st false y1) k hk)
         clear hM
         simp only [Lt.putAll,List.zip_nil_left,List.foldl_nil]
         unfold Oper.wp
         go_simp
         exact HK.out
     · obtain rfl : 11 = so := by simpa using hs
       obtain rfl := Option.some.inj ho
       match bs,hbl with
       | [y0,y1],_ =>
         obtain rfl : y1 = false := hkk
         have HK := Lib.hid (hM.two OKk.out hk)
         have TH := Ot.there_st hM.row (part_ok OKk.out k x st y0 false) k hk
         clear hM
         simp only [Lt.putAll,List.zip_nil_left,List.foldl_nil]
         refine wp_store_mid 37 (.tmp 44) (.tmp 40) rfl ob (9 + k * 4) (str st).toArray rfl rfl TH Ss.sizeS (Ss.str_one st) ?_
         exact ⟨undef,rfl,fun d hd => by (cases hd),HK.out⟩
     · simp at hs
    case hend =>
     intro vs Z hv hM
     have HN := Lib.hid (TOLD.out Z hM)
     clear hM TOLD HXR HX VX e0 e13
     simp only [Lt.putAll,List.zip_nil_left,List.foldl_nil]
     go_wp2_with fail
     go_roundg (gk - 1)
     case rel => exact ⟨k + 1,by omega,by go_num,HN⟩
     case measure => omega
  · obtain rfl : k = 8 := by omega
    have c11 := H.out.goes.lie.fus.cell 11 (v := .int .i64 m.k) rfl
    have f11 := H.out.goes.lie.fus.frozen 11
    rw [HPF.out] at c11 f11
    have HK1 := Lib.hid (show (m.k : Int) + 1 ≤ 9223372036854775807 from by have := HK.out; omega)
    have hk1 := HK1.out
    have GC := Lib.hid (show Goes F W P (wr.setCell ⟨P.f,11,none⟩ (.int .i64 ((m.k : Int) + 1))) P' c (nx c m y) by
     have g := H.out.goes.count (m.k + 1)
     rw [HPF.out] at g
     exact g)
    have NF := Lib.hid (show ob ≠ P.f ∧ W.heap.size + 1 ≠ P.f by
     have h1 := H.out.goes.lie.cf
     rw [HPF.out] at h1
     refine ⟨fun e => ?_,fun e => ?_⟩
     · have := H.out.free; rw [e,h1] at this; omega
     · have := H.out.free1; rw [e,h1] at this; omega)
    have RB := Lib.hid (show VRow (wr.setCell ⟨P.f,11,none⟩ (.int .i64 ((m.k : Int) + 1))) ob 40 (ouc (out c m y)) by
     have h := H.out.row
     rw [oup_all] at h
     exact h.setOther (p := ⟨P.f,11,none⟩) NF.out.1 _)
    have RO := Lib.hid (show VRow (wr.setCell ⟨P.f,11,none⟩ (.int .i64 ((m.k : Int) + 1))) (W.heap.size + 1) 40 (ouc zou) from H.out.res.setOther (p := ⟨P.f,11,none⟩) NF.out.2 _)
    have HOR := Lib.hid (out_rgt (y := y) HR.out HO.out)
    have HOK := Lib.hid (out_ok (c := c) (m := m) (y := y))
    have CE := fun X => Ot.enc_yes_any HOK.out X HOR.out
    unfold Ot.RetCE at CE
    rw [Ot.encE_yes HOR.out] at CE
    rw [Ot.enc_len HOR.out HOK.out] at CE
    have F1 := Lib.hid H.out.free1
    clear H
    go_upto_region 12 with fail
    generalize wr.setCell ⟨P.f,11,none⟩ (.int .i64 ((m.k : Int) + 1)) = X at *
    go_wp2_with (first
     | ((with_reducible show wpList _ _ _ (⟨some 54,_,_,_,_,_⟩ :: _) _ _); refine VB.loaded rfl _ rfl ob rfl RB.out Tryz.underlying40 rfl (Ot.sizeO HOK.out) ?_)
     | (go_at_call 41; refine (CE X).mono ?_; rintro e w9 ⟨a,cap,rfl,i9,l9,b9⟩; have G9 := Lib.hid (GC.out.on b9); have I9 := Lib.hid i9; have L9 := Lib.hid l9; have RB9 := Lib.hid (onB RB.out b9); have RO9 := Lib.hid (onB RO.out b9); clear i9 l9 b9)
     | ((with_reducible show wpList _ _ _ (⟨some 58,_,_,_,_,_⟩ :: _) _ _); refine VB.loaded rfl _ rfl ob rfl RB9.out Tryz.underlying40 rfl (Ot.sizeO HOK.out) ?_)
     | ((with_reducible show wpList _ _ _ (⟨none,.store _ (.tmp 4) _,_,_,_,_⟩ :: _) _ _); refine VB.store rfl _ _ rfl (W.heap.size + 1) (ouc (out c m y)) rfl rfl RO9.out (Ot.sizeO HOK.out) (by rw [Ot.ouc_len Ot.ok_zou,Ot.ouc_len HOK.out]) (Ot.ouc_all _) ?_))
    have b4 := (But.refl (· = W.heap.size + 1) w9).put (g := W.heap.size + 1) (Or.inl rfl) (ouc (out c m y)).toArray
    have GE := G9.out.fresh b4 fun k hk => by rw [hk]; exact ⟨F1.out,by omega⟩
    have IE := I9.out.but b4 (u8_not I9.out (by rw [Ot.enc_len HOR.out HOK.out]; decide) RO9.out)
    exact bodyPost_ret ((VB.ret3 (cs := ouc (out c m y)) rfl rfl (Ot.aggO _) (Ot.sizeO HOK.out) (RO9.out.put _)).trans rfl) rfl ⟨P',a,cap,rfl,IE,L9.out,GE⟩
end Fu
open Go.ChangeShapes Go.WideShapes Go.ChangeAt Go.RowKit Go.Deep Go.Shelf
namespace Sg
open Cf (G CA Box)
theorem vrow_row {W Y : World} {g : Nat} {t e : TypeId} {cs : List Value} {base n k : Nat} {v : Value} {xs : List Value} (h : VRow W g t cs) (ht : t ≠ e) (hr : W.ownsRow base e n v k xs) (hg : W.grownBy Y v.ownBlock) : VRow Y g t cs := by
 refine (hg.block g h.lt fun q => ?_).trans h
 rcases hr.2 with ⟨rfl,-⟩ | ⟨g',cap,cur,rfl,-,hh,-⟩
 · cases q
 · obtain rfl : g = g' := by simpa [Value.ownBlock] using q
   unfold VRow at h
   rw [hh] at h
   injection h with h; injection h with h1 h2
   exact ht h2.symm
theorem vrow_set {W : World} {g : Nat} {t e : TypeId} {cs : List Value} {base n k i : Nat} {v : Value} {xs : List Value} (h : VRow W g t cs) (ht : t ≠ e) (hr : W.ownsRow base e n v k xs) (u : Value) : (W.setCell ⟨g,i,none⟩ u).ownsRow base e n v k xs := by
 rcases hr with ⟨hl,⟨rfl,h0⟩ | ⟨g',cap,cur,rfl,hb,hh,q⟩⟩
 · exact ⟨hl,Or.inl ⟨rfl,h0⟩⟩
 · refine ⟨hl,Or.inr ⟨g',cap,cur,rfl,hb,(Below.heap_setCell W ⟨g,i,none⟩ u g' ?_).trans hh,q⟩⟩
   rintro e1
   have e2 : g' = g := e1
   subst e2
   unfold VRow at h
   rw [hh] at h
   injection h with h; injection h with h1 h2
   exact ht h2.symm
def sgv (c : List Int) (rm : Nat) (v : Value) (x : Int) : List Value := cellsI .i64 c ++ [.pointer (some ⟨rm,0,none⟩),v,.int .i64 x]
theorem built_sig (c : List Int) (rm : Nat) (v : Int) (hc : c.length = 21) : Tryz.prog.built 176 [(0,.agg (CA c)),(1,.pointer (some ⟨rm,0,none⟩)),(3,.int .i64 v)] = some (sgv c rm (.slice none 0 0) v).toArray := by
 match c,hc with
 | [a0,a1,a2,a3,a4,a5,a6,a7,a8,a9,a10,a11,a12,a13,a14,a15,a16,a17,a18,a19,a20],_ =>
   refine Eq.trans ?_ rfl
   kernel_rfl
theorem sgv_row (c : List Int) (hc : c.length = 21) (rm : Nat) (v : Value) (x : Int) : (sgv c rm v x)[22]? = some v := by
 unfold sgv
 rw [List.getElem?_append_right (by simp [cellsI,hc])]
 simp [cellsI,hc]
theorem sgv_set (c : List Int) (hc : c.length = 21) (rm : Nat) (v v' : Value) (x : Int) : (sgv c rm v x).set 22 v' = sgv c rm v' x := by
 unfold sgv
 rw [List.set_append_right _ _ (by simp [cellsI,hc])]
 simp [cellsI,hc]
structure Nw (Y : World) (c : List Int) (rm x j f l t : Nat) : Prop where
 own : VRow Y x 201 [.pointer (some ⟨j,0,none⟩),.pointer (some ⟨f,0,none⟩),.pointer (some ⟨l,0,none⟩),.pointer (some ⟨t,0,none⟩),.bool false,.bool false,.int .i64 0,.int .i64 0,.int .i64 0]
 jw : VRow Y j 266 (Jp.wat (G c 1) (G c 2) (G c 4) 0 false)
 fw : VRow Y f 275 (Sk.wt rm 0 0)
 fl : VRow Y l 270 (Dr.fil (G c 8) (G c 7) 0)
 tr : VRow Y t 273 (Ql.tri (G c 10) (G c 11) 0)
theorem Nw.on {Y Z : World} {c : List Int} {rm x j f l t : Nat} (H : Nw Y c rm x j f l t) (B : Below Y.heap.size Y Z) : Nw Z c rm x j f l t :=
 ⟨H.own.below B H.own.lt,H.jw.below B H.jw.lt,H.fw.below B H.fw.lt,H.fl.below B H.fl.lt,H.tr.below B H.tr.lt⟩
structure Sm (w X : World) (c : List Int) (bx g rm : Nat) (b : Nat → Nat) (k : Nat) (v : Value) : Prop where
 below : Below w.heap.size w X
 cfg : VRow X bx 24 (cellsI .i64 c)
 sig : VRow X g 176 (sgv c rm v (G c 3))
 room : VRow X rm 222 (cellsI .i64 (Sk.room (G c 6) (G c 5) (List.replicate 15 0) 0 0))
 b0 : b 0 = g
 b1 : b 1 = rm
 chs : ∀ i,i < k → Chan X b c i ch0
 inj : ∀ p q,p < 3 + 5 * k → q < 3 + 5 * k → p ≠ 2 → q ≠ 2 → b p = b q → p = q
 ge : ∀ p,p < 3 + 5 * k → p ≠ 2 → w.heap.size ≤ b p
section
variable {w X Y : World} {c : List Int} {bx g rm : Nat} {b : Nat → Nat} {k : Nat} {v v' : Value}
theorem Sm.on (H : Sm w X c bx g rm b k v) (B : Below X.heap.size X Y) : Sm w Y c bx g rm b k v :=
 ⟨grow H.below B,H.cfg.below B H.cfg.lt,H.sig.below B H.sig.lt,H.room.below B H.room.lt,H.b0,H.b1,fun i hi => (H.chs i hi).but (But.of_below (S := fun _ => False) B) fun _ _ q => q,H.inj,H.ge⟩
theorem Sm.typ (H : Sm w X c bx g rm b k v) {p : Nat} (hp : p < 3 + 5 * k) (h2 : p ≠ 2) : ∃ t cs,VRow X (b p) t cs ∧ t ≠ 177 := by
 by_cases h0 : p = 0
 · subst h0; exact ⟨_,_,H.b0 ▸ H.sig,by decide⟩
 by_cases h1 : p = 1
 · subst h1; exact ⟨_,_,H.b1 ▸ H.room,by decide⟩
 obtain ⟨i,q,hi,hq,rfl⟩ : ∃ i q,i < k ∧ q < 5 ∧ p = 3 + q + 5 * i := ⟨(p - 3) / 5,(p - 3) % 5,by omega,by omega,by omega⟩
 have C := H.chs i hi
 obtain ⟨la,f,-⟩ := C.fw
 have : q = 0 ∨ q = 1 ∨ q = 2 ∨ q = 3 ∨ q = 4 := by omega
 rcases this with rfl | rfl | rfl | rfl | rfl
 · exact ⟨_,_,C.own,by decide⟩
 · exact ⟨_,_,C.jw,by decide⟩
 · exact ⟨_,_,f,by decide⟩
 · exact ⟨_,_,C.fl,by decide⟩
 · exact ⟨_,_,C.tr,by decide⟩
theorem Sm.lt (H : Sm w X c bx g rm b k v) {p : Nat} (hp : p < 3 + 5 * k) (h2 : p ≠ 2) : b p < X.heap.size := by
 obtain ⟨t,cs,h,-⟩ := H.typ hp h2
 exact h.lt
theorem Sm.grown (H : Sm w X c bx g rm b k v) {base : Nat} {u : Value} {n : Nat} {xs : List Value} (hr : X.ownsRow base 177 1 u n xs) (hb : w.heap.size ≤ base) (hg : X.grownBy Y u.ownBlock) : Sm w Y c bx g rm b k v := by
 refine ⟨H.below.grown hg H.below.size fun j e => Nat.le_trans hb (World.ownsRow.lt hr j e).1,vrow_row H.cfg (by decide) hr hg,vrow_row H.sig (by decide) hr hg,vrow_row H.room (by decide) hr hg,H.b0,H.b1,fun i hi => ?_,H.inj,H.ge⟩
 have C := H.chs i hi
 obtain ⟨la,f1,f2⟩ := C.fw
 exact ⟨vrow_row C.own (by decide) hr hg,vrow_row C.jw (by decide) hr hg,⟨la,vrow_row f1 (by decide) hr hg,f2⟩,vrow_row C.fl (by decide) hr hg,vrow_row C.tr (by decide) hr hg⟩
theorem Nw.grown {x j f l t : Nat} (H : Nw X c rm x j f l t) {base : Nat} {u : Value} {n : Nat} {xs : List Value} (hr : X.ownsRow base 177 1 u n xs) (hg : X.grownBy Y u.ownBlock) : Nw Y c rm x j f l t :=
 ⟨vrow_row H.own (by decide) hr hg,vrow_row H.jw (by decide) hr hg,vrow_row H.fw (by decide) hr hg,vrow_row H.fl (by decide) hr hg,vrow_row H.tr (by decide) hr hg⟩
theorem Sm.row (H : Sm w X c bx g rm b k v) (hc : c.length = 21) (v' : Value) (hbx : bx ≠ g) : Sm w (X.setCell ⟨g,22,none⟩ v') c bx g rm b k v' := by
 have hw : w.heap.size ≤ g := H.b0 ▸ H.ge 0 (by omega) (by omega)
 have no : ∀ p,p < 3 + 5 * k → p ≠ 2 → p ≠ 0 → b p ≠ g := fun p h1 h2 h3 e => h3 (H.inj p 0 h1 (by omega) h2 (by omega) (e.trans H.b0.symm))
 refine ⟨H.below.setCell (p := ⟨g,22,none⟩) hw _,H.cfg.setOther (p := ⟨g,22,none⟩) hbx _,?_,H.room.setOther (p := ⟨g,22,none⟩) ?_ _,H.b0,H.b1,fun i hi => ?_,H.inj,H.ge⟩
 · rw [← sgv_set c hc rm v v']; exact H.sig.set 22 _
 · exact H.b1 ▸ no 1 (by omega) (by omega) (by omega)
 · have C := H.chs i hi
   obtain ⟨la,f1,f2⟩ := C.fw
   exact ⟨C.own.setOther (p := ⟨g,22,none⟩) (no _ (by omega) (by omega) (by omega)) _,C.jw.setOther (p := ⟨g,22,none⟩) (no _ (by omega) (by omega) (by omega)) _,⟨la,f1.setOther (p := ⟨g,22,none⟩) (no _ (by omega) (by omega) (by omega)) _,f2⟩,C.fl.setOther (p := ⟨g,22,none⟩) (no _ (by omega) (by omega) (by omega)) _,C.tr.setOther (p := ⟨g,22,none⟩) (no _ (by omega) (by omega) (by omega)) _⟩
def ext (b : Nat → Nat) (k x j f l t p : Nat) : Nat := if p = 3 + 5 * k then x else if p = 4 + 5 * k then j else if p = 5 + 5 * k then f else if p = 6 + 5 * k then l else if p = 7 + 5 * k then t else b p
theorem ext_old {k x j f l t p : Nat} (h : p < 3 + 5 * k) : ext b k x j f l t p = b p := by
 unfold ext
 rw [if_neg (by omega),if_neg (by omega),if_neg (by omega),if_neg (by omega),if_neg (by omega)]
theorem Chan.re {b' : Nat → Nat} {i : Nat} {h : Ch} (H : Chan X b c i h) (e1 : b' 1 = b 1) (e : ∀ q,3 + 5 * i ≤ q → q < 8 + 5 * i → b' q = b q) : Chan X b' c i h := by
 have a3 : xb b' i = xb b i := e _ (by omega) (by omega)
 have a4 : jb b' i = jb b i := e _ (by omega) (by omega)
 have a5 : fb b' i = fb b i := e _ (by omega) (by omega)
 have a6 : lb b' i = lb b i := e _ (by omega) (by omega)
 have a7 : tb b' i = tb b i := e _ (by omega) (by omega)
 have ec : chr b' i h.st = chr b i h.st := by unfold chr; rw [a4,a5,a6,a7]
 obtain ⟨h1,h2,⟨la,h3,h3'⟩,h4,h5⟩ := H
 exact ⟨by rw [a3,ec]; exact h1,by rw [a4]; exact h2,⟨la,by rw [a5,e1]; exact h3,h3'⟩,by rw [a6]; exact h4,by rw [a7]; exact h5⟩
theorem Sm.next {x j f l t n : Nat} (H : Sm w X c bx g rm b k v) (N : Nw X c rm x j f l t) (hn : ∀ p,p < 3 + 5 * k → p ≠ 2 → b p < n) (hw : w.heap.size ≤ n) (ho : n ≤ j ∧ j < l ∧ l < t ∧ t < f ∧ f < x) : Sm w X c bx g rm (ext b k x j f l t) (k + 1) v := by
 obtain ⟨o1,o2,o3,o4,o5⟩ := ho
 refine ⟨H.below,H.cfg,H.sig,H.room,(ext_old (by omega)).trans H.b0,(ext_old (by omega)).trans H.b1,fun i hi => ?_,fun p q hp hq p2 q2 he => ?_,fun p hp p2 => ?_⟩
 · by_cases hk : i = k
   · subst hk
     have a3 : xb (ext b i x j f l t) i = x := by unfold xb ext; rw [if_pos rfl]
     have a4 : jb (ext b i x j f l t) i = j := by unfold jb ext; rw [if_neg (by omega),if_pos rfl]
     have a5 : fb (ext b i x j f l t) i = f := by unfold fb ext; rw [if_neg (by omega),if_neg (by omega),if_pos rfl]
     have a6 : lb (ext b i x j f l t) i = l := by unfold lb ext; rw [if_neg (by omega),if_neg (by omega),if_neg (by omega),if_pos rfl]
     have a7 : tb (ext b i x j f l t) i = t := by unfold tb ext; rw [if_neg (by omega),if_neg (by omega),if_neg (by omega),if_neg (by omega),if_pos rfl]
     have a1 : ext b i x j f l t 1 = rm := (ext_old (by omega)).trans H.b1
     have ec : chr (ext b i x j f l t) i ch0.st = [.pointer (some ⟨j,0,none⟩),.pointer (some ⟨f,0,none⟩),.pointer (some ⟨l,0,none⟩),.pointer (some ⟨t,0,none⟩),.bool false,.bool false,.int .i64 0,.int .i64 0,.int .i64 0] := by unfold chr; rw [a4,a5,a6,a7]; rfl
     exact ⟨by rw [a3,ec]; exact N.own,by rw [a4]; exact N.jw,⟨0,by rw [a5,a1]; simpa [ch0] using N.fw,.inl rfl⟩,by rw [a6]; exact N.fl,by rw [a7]; exact N.tr⟩
   · exact (H.chs i (by omega)).re (ext_old (by omega)) fun q h1 h2 => ext_old (by omega)
 · have key : ∀ p,p < 3 + 5 * (k + 1) → p ≠ 2 → (p < 3 + 5 * k ∧ ext b k x j f l t p = b p ∧ b p < n) ∨ (p = 3 + 5 * k ∧ ext b k x j f l t p = x) ∨ (p = 4 + 5 * k ∧ ext b k x j f l t p = j) ∨ (p = 5 + 5 * k ∧ ext b k x j f l t p = f) ∨ (p = 6 + 5 * k ∧ ext b k x j f l t p = l) ∨ (p = 7 + 5 * k ∧ ext b k x j f l t p = t) := by
    intro p hp p2
    by_cases h : p < 3 + 5 * k
    · exact .inl ⟨h,ext_old h,hn p h p2⟩
    · unfold ext
      have : p = 3 + 5 * k ∨ p = 4 + 5 * k ∨ p = 5 + 5 * k ∨ p = 6 + 5 * k ∨ p = 7 + 5 * k := by omega
      rcases this with e | e | e | e | e
      · exact .inr (.inl ⟨e,by rw [if_pos e]⟩)
      · exact .inr (.inr (.inl ⟨e,by rw [if_neg (by omega),if_pos e]⟩))
      · exact .inr (.inr (.inr (.inl ⟨e,by rw [if_neg (by omega),if_neg (by omega),if_pos e]⟩)))
      · exact .inr (.inr (.inr (.inr (.inl ⟨e,by rw [if_neg (by omega),if_neg (by omega),if_neg (by omega),if_pos e]⟩))))
      · exact .inr (.inr (.inr (.inr (.inr ⟨e,by rw [if_neg (by omega),if_neg (by omega),if_neg (by omega),if_neg (by omega),if_pos e]⟩))))
   rcases key p hp p2 with ⟨h1,h2,h3⟩ | ⟨h1,h2⟩ | ⟨h1,h2⟩ | ⟨h1,h2⟩ | ⟨h1,h2⟩ | ⟨h1,h2⟩ <;> rcases key q hq q2 with ⟨g1,g2,g3⟩ | ⟨g1,g2⟩ | ⟨g1,g2⟩ | ⟨g1,g2⟩ | ⟨g1,g2⟩ | ⟨g1,g2⟩ <;> rw [h2,g2] at he <;> first | omega | exact H.inj p q h1 g1 p2 q2 he
 · by_cases h : p < 3 + 5 * k
   · rw [ext_old h]; exact H.ge p h p2
   · unfold ext
     have : p = 3 + 5 * k ∨ p = 4 + 5 * k ∨ p = 5 + 5 * k ∨ p = 6 + 5 * k ∨ p = 7 + 5 * k := by omega
     rcases this with e | e | e | e | e
     · rw [if_pos e]; omega
     · rw [if_neg (by omega),if_pos e]; omega
     · rw [if_neg (by omega),if_neg (by omega),if_pos e]; omega
     · rw [if_neg (by omega),if_neg (by omega),if_neg (by omega),if_pos e]; omega
     · rw [if_neg (by omega),if_neg (by omega),if_neg (by omega),if_neg (by omega),if_pos e]; omega
def prow (b : Nat → Nat) (k : Nat) : List Value := (List.range k).map fun i => .pointer (some ⟨xb b i,0,none⟩)
theorem prow_ext (k x j f l t : Nat) : prow (ext b k x j f l t) (k + 1) = prow b k ++ [.pointer (some ⟨x,0,none⟩)] := by
 unfold prow
 rw [List.range_succ,List.map_append]
 congr 1
 · refine List.map_congr_left fun i hi => ?_
   rw [List.mem_range] at hi
   unfold xb; rw [ext_old (by omega)]
 · simp [xb,ext]
theorem Sm.lie (H : Sm w X c bx g rm b (NN c) v) (hr : X.ownsRow w.heap.size 177 1 v (NN c) (prow b (NN c))) (hR : Cf.Right c) : ∃ b' : Nat → Nat,b' 0 = g ∧ Lie X b' c (begin c) ∧ ∀ k,In b' c k → w.heap.size ≤ k := by
 have hN := NN_34 hR
 rcases hr.2 with ⟨-,h0⟩ | ⟨ar,cap,cur,rfl,hb,hh,hk,hm,hcs,ht⟩
 · omega
 have hP6 : (PW c : Int) + 1 = G c 6 := by
  obtain ⟨-,-,-,-,-,-,h6,-⟩ := hR
  unfold PW; omega
 have hne : ∀ p,p < 3 + 5 * NN c → p ≠ 2 → b p ≠ ar := fun p h1 h2 e => by
  obtain ⟨t,cs,h3,h4⟩ := H.typ h1 h2
  unfold VRow at h3
  rw [e,hh] at h3
  injection h3 with h3; injection h3 with h5 h6
  exact h4 h6.symm
 refine ⟨fun p => if p = 2 then ar else b p,by simpa using H.b0,⟨?_,?_,?_,?_,?_⟩,?_⟩
 · intro p q hp hq he
   unfold pn at hp hq
   change (if p = 2 then ar else b p) = (if q = 2 then ar else b q) at he
   by_cases p2 : p = 2 <;> by_cases q2 : q = 2
   · omega
   · rw [if_pos p2,if_neg q2] at he; exact absurd he.symm (hne q hq q2)
   · rw [if_neg p2,if_pos q2] at he; exact absurd he (hne p hp p2)
   · rw [if_neg p2,if_neg q2] at he; exact H.inj p q hp hq p2 q2 he
 · refine ⟨cap,?_⟩
   show VRow X (if (0 : Nat) = 2 then ar else b 0) _ _
   rw [if_neg (by decide),H.b0]
   have h := H.sig
   unfold sgv at h
   unfold sgr
   simpa [H.b1,begin] using h
 · show Sk.Room X (if (1 : Nat) = 2 then ar else b 1) _ _ _
   rw [if_neg (by decide),H.b1]
   have hPW := PW_bd hR
   rw [show Sk.lastN (PW c) (begin c).votes = [] from Sk.lastN_short (by simp [begin])]
   exact ⟨_,0,Sk.Ring.new hPW.1 hPW.2,by rw [hP6]; exact VRow.irow H.room⟩
 · refine ⟨cur.toList,177,?_,fun i hi => ?_⟩
   · show VRow X (if (2 : Nat) = 2 then ar else b 2) _ _
     rw [if_pos rfl]
     unfold VRow
     simpa using hh
   · have h1 : (cur.toList.take (NN c * 1))[i]? = some (.pointer (some ⟨xb b i,0,none⟩)) := by
      rw [ht]; unfold prow; simp [hi]
     rw [List.getElem?_take] at h1
     rw [if_pos (by omega)] at h1
     rw [h1]
     have : xb (fun p => if p = 2 then ar else b p) i = xb b i := by unfold xb; exact if_neg (by omega)
     rw [this]
 · intro i hi
   exact (H.chs i hi).re (if_neg (by decide)) fun q h1 h2 => if_neg (by omega)
 · rintro k ⟨p,hp,rfl⟩
   unfold pn at hp
   show _ ≤ if p = 2 then ar else b p
   split
   · exact hb
   · exact H.ge p hp (by assumption)
end
end Sg
namespace Fh
open Wd Fm
open Cr (Bytes)
theorem agg7 (w : World) : (isAgg 61).run Tryz.prog w = .ok true w := by simp [isAgg,run_underlying Tryz.underlying61]
theorem size7 : (Tryz.prog.info? 61).map (·.size) = some 7 := by kernel_rfl
theorem seven (l : List Int) (h : l.length = 7) : ∃ n0 n1 n2 n3 n4 n5 n6,l = [n0,n1,n2,n3,n4,n5,n6] := by
 match l,h with
 | [n0,n1,n2,n3,n4,n5,n6],_ => exact ⟨n0,n1,n2,n3,n4,n5,n6,rfl⟩
theorem new_yes (c : Int) (w : World) (h : 0 ≤ c ∧ c ≤ 3) :
 Calls Tryz.prog 33 #[.int .i64 c] w fun e w' => e = .returned (.tuple #[.pointer (some ⟨w.heap.size,0,none⟩),.int .i64 0]) ∧ w' = w.alloc (.cells (trk c 0 false [0,0,0,0,0,0,0]).toArray 170) := by
 obtain ⟨h1,h2⟩ := h
 have h3 : ¬ 4 ≤ c := by omega
 have h4 : ¬ c < 0 := by omega
 go_enter Tryz.func33,Tryz.ntmps33
 go_wp2
 go_ret2
 exact ⟨rfl,rfl⟩
section
variable (g : Nat) (c last : Int) (has : Bool) (n : List Int) (w : World)
theorem counts_any (hT : VRow w g 170 (trk c last has n)) (hn : n.length = 7) :
 Calls Tryz.prog 63 #[.pointer (some ⟨g,0,none⟩)] w fun e w' => e = .returned (.agg (cellsI .i64 n).toArray) ∧ Below w.heap.size w w' := by
 obtain ⟨n0,n1,n2,n3,n4,n5,n6,rfl⟩ := seven n hn
 have hT1 := hT.alloc (.cells #[.int .i64 0,.int .i64 0,.int .i64 0,.int .i64 0,.int .i64 0,.int .i64 0,.int .i64 0] 61)
 have c3 := hT1.cell 3 (v := .int .i64 n0) rfl
 have c4 := hT1.cell 4 (v := .int .i64 n1) rfl
 have c5 := hT1.cell 5 (v := .int .i64 n2) rfl
 have c6 := hT1.cell 6 (v := .int .i64 n3) rfl
 have c7 := hT1.cell 7 (v := .int .i64 n4) rfl
 have c8 := hT1.cell 8 (v := .int .i64 n5) rfl
 have c9 := hT1.cell 9 (v := .int .i64 n6) rfl
 have hg := hT.lt
 have ne : g ≠ w.heap.size := by omega
 have ne' : w.heap.size ≠ g := by omega
 clear hT hT1 hn hg
 go_enter Tryz.func63,Tryz.ntmps63
 go_wp2
 refine bodyPost_ret (v := .agg #[.int .i64 n0,.int .i64 n1,.int .i64 n2,.int .i64 n3,.int .i64 n4,.int .i64 n5,.int .i64 n6]) ?_ rfl ⟨rfl,(Below.refl _ _).alloc (Nat.le_refl _) _⟩
 exact (Agg.ret_row (l := [n0,n1,n2,n3,n4,n5,n6]) rfl rfl (agg7 _) size7 (heap_alloc_new w _)).trans rfl
end
end Fh
namespace Fu
open Cf (G CA Box)
open Sg (NN Si Face)
def fc0 (c : List Int) (v : Value) (pg : Nat → Value) (r : Nat) : List Value := [.int .i64 (G c 16),v,pg 0,pg 1,pg 2,pg 3,pg 4,pg 5,pg 6,pg 7,ptr r,.int .i64 0]
def nul : Nat → Value := fun _ => .pointer none
def pgs (g : Nat → Nat) (n : Nat) : Nat → Value := fun j => if j < n then ptr (g j) else .pointer none
theorem pgs_zero (g : Nat → Nat) : pgs g 0 = nul := by funext j; unfold pgs nul; rw [if_neg (by omega)]
theorem fc0_set (c : List Int) (v : Value) (g : Nat → Nat) (r x : Nat) {n : Nat} (hn : n < 8) : (fc0 c v (pgs g n) r).set (2 + n) (ptr x) = fc0 c v (pgs (upd g n x) (n + 1)) r := by
 rcases eight hn with rfl | rfl | rfl | rfl | rfl | rfl | rfl | rfl <;> rfl
structure Fq (X : World) (c : List Int) (bs : List Bool) (vs : List Value) (Y : World) : Prop where
 below : Below X.heap.size X Y
 c0 : bs.getD 0 false = true → ∃ r,vs.getD 0 undef = ptr r ∧ X.heap.size ≤ r ∧ Rg.RingAt Y r []
 c1 : bs.getD 1 false = true → ∃ r,vs.getD 1 undef = .agg (fc0 c (.slice none 0 0) nul r).toArray ∧ X.heap.size ≤ r ∧ Rg.RingAt Y r []
 c2 : bs.getD 2 false = true → ∃ r f,vs.getD 2 undef = ptr f ∧ X.heap.size ≤ r ∧ r < f ∧ Rg.RingAt Y r [] ∧ VRow Y f 93 (fc0 c (.slice none 0 0) nul r)
 c3 : bs.getD 3 false = true → ∃ r f,vs.getD 3 undef = ptr f ∧ X.heap.size ≤ r ∧ r < f ∧ Rg.RingAt Y r [] ∧ VRow Y f 93 (fc0 c (.slice none 0 0) nul r)
theorem ring_on {X Y : World} {r : Nat} {l : List Rg.Nt} (h : Rg.RingAt X r l) (b : Below X.heap.size X Y) : Rg.RingAt Y r l := IRow.below h b (IRow.lt h)
theorem Fq.on {X Y Z : World} {c : List Int} {bs : List Bool} {vs : List Value} (h : Fq X c bs vs Y) (b : Below Y.heap.size Y Z) : Fq X c bs vs Z :=
 ⟨grow h.below b,fun e => by obtain ⟨r,q1,q2,q3⟩ := h.c0 e; exact ⟨r,q1,q2,ring_on q3 b⟩,fun e => by obtain ⟨r,q1,q2,q3⟩ := h.c1 e; exact ⟨r,q1,q2,ring_on q3 b⟩,
  fun e => by obtain ⟨r,f,q1,q2,q3,q4,q5⟩ := h.c2 e; exact ⟨r,f,q1,q2,q3,ring_on q4 b,onB q5 b⟩,fun e => by obtain ⟨r,f,q1,q2,q3,q4,q5⟩ := h.c3 e; exact ⟨r,f,q1,q2,q3,ring_on q4 b,onB q5 b⟩⟩
theorem fbuilt (c : List Int) (r : Nat) : Tryz.prog.built 93 [(0,.int .i64 (G c 16)),(3,ptr r)] = some (fc0 c (.slice none 0 0) nul r).toArray := by
 refine Eq.trans (b := some #[.int .i64 (G c 16),.slice none 0 0,.pointer none,.pointer none,.pointer none,.pointer none,.pointer none,.pointer none,.pointer none,.pointer none,ptr r,.int .i64 0]) ?_ rfl
 generalize G c 16 = x
 kernel_rfl
def prow (h : Nat → Nat) (k : Nat) : List Value := (List.range k).map fun i => ptr (h i)
theorem prow_next (h : Nat → Nat) (k x : Nat) : prow (upd h k x) (k + 1) = prow h k ++ [ptr x] := by
 unfold prow
 rw [List.range_succ,List.map_append]
 congr 1
 · exact List.map_congr_left fun i hi => by rw [upd_ne _ _ (by have := List.mem_range.1 hi; omega)]
 · simp [upd_same]
structure Tm (w X : World) (c : List Int) (f r : Nat) (h : Nat → Nat) (k : Nat) (v : Value) : Prop where
 below : Below w.heap.size w X
 cfg : Box X w.heap.size c
 fus : VRow X f 93 (fc0 c v nul r)
 rng : Rg.RingAt X r []
 trk : ∀ i,i < k → VRow X (h i) 170 (Fh.trk i 0 false [0,0,0,0,0,0,0])
 row : X.ownsRow w.heap.size 94 1 v k (prow h k)
 lo : w.heap.size < r ∧ r < f
 up : ∀ i,i < k → f < h i
 ord : ∀ i j,i < j → j < k → h i < h j
section
variable {w X Y : World} {c : List Int} {f r k : Nat} {h : Nat → Nat} {v : Value}
theorem owns_below {base : Nat} {e : TypeId} {n m : Nat} {u : Value} {xs : List Value} (o : X.ownsRow base e n u m xs) (b : Below X.heap.size X Y) : Y.ownsRow base e n u m xs :=
 World.ownsRow.kept o (row := none) ⟨b.os,b.tape,b.output,b.size,fun k hk _ => b.block k hk⟩ (by
  cases u.ownBlock with
  | none => exact .inl rfl
  | some g => exact .inr (fun e => by cases e))
theorem Tm.on (H : Tm w X c f r h k v) (b : Below X.heap.size X Y) : Tm w Y c f r h k v :=
 ⟨grow H.below b,H.cfg.on b,onB H.fus b,ring_on H.rng b,fun i hi => onB (H.trk i hi) b,owns_below H.row b,H.lo,H.up,H.ord⟩
theorem ring_row (q : Rg.RingAt X r []) (o : X.ownsRow w.heap.size 94 1 v k (prow h k)) (g : X.grownBy Y v.ownBlock) : Rg.RingAt Y r [] := Sg.vrow_row (t := 168) (IRow.vrow q) (by decide) o g
theorem Tm.next (H : Tm w X c f r h k v) {x : Nat} {Z : World} {v' : Value} (hx : VRow X x 170 (Fh.trk k 0 false [0,0,0,0,0,0,0])) (hf : f < x) (hh : ∀ i,i < k → h i < x) (g : X.grownBy Z v.ownBlock)
 (o : Z.ownsRow w.heap.size 94 1 v' (k + 1) (prow (upd h k x) (k + 1))) : Tm w (Z.setCell ⟨f,1,none⟩ v') c f r (upd h k x) (k + 1) v' := by
 have hfz : VRow Z f 93 (fc0 c v nul r) := Sg.vrow_row H.fus (by decide) H.row g
 have hlo := H.lo
 have b0 : Below w.heap.size w Z := H.below.grown g H.below.size (fun k e => (World.ownsRow.lt H.row k e).1)
 have ne : ∀ j,j ≠ f → j ≠ (⟨f,1,none⟩ : Addr).block := fun j hj => hj
 refine ⟨b0.setCell (p := ⟨f,1,none⟩) (by show w.heap.size ≤ f; omega) _,(show VRow (Z.setCell ⟨f,1,none⟩ v') w.heap.size 24 (cellsI .i64 c) from VRow.setOther (Sg.vrow_row (t := 24) (cs := cellsI .i64 c) H.cfg (by decide) H.row g) (p := ⟨f,1,none⟩) (by show w.heap.size ≠ f; omega) _),?_,?_,fun i hi => ?_,?_,hlo,fun i hi => ?_,fun i j hij hj => ?_⟩
 · exact hfz.set 1 v'
 · exact (show VRow (Z.setCell ⟨f,1,none⟩ v') r 168 _ from VRow.setOther (IRow.vrow (ring_row H.rng H.row g)) (p := ⟨f,1,none⟩) (by show r ≠ f; omega) _)
 · by_cases e : i = k
   · subst e
     rw [upd_same]
     exact (Sg.vrow_row hx (by decide) H.row g).setOther (p := ⟨f,1,none⟩) (by show x ≠ f; omega) _
   · rw [upd_ne _ _ e]
     have := H.up i (by omega)
     exact (Sg.vrow_row (H.trk i (by omega)) (by decide) H.row g).setOther (p := ⟨f,1,none⟩) (by show h i ≠ f; omega) _
 · exact Sg.vrow_set hfz (by decide) o _
 · by_cases e : i = k
   · subst e; rw [upd_same]; exact hf
   · rw [upd_ne _ _ e]; exact H.up i (by omega)
 · by_cases e : j = k
   · subst e
     rw [upd_same,upd_ne _ _ (by omega)]
     exact hh i hij
   · rw [upd_ne _ _ e,upd_ne _ _ (by omega)]
     exact H.ord i j hij (by omega)
end
structure LieN (F : Face) (w X : World) (P : Pl) (c : List Int) (n : Nat) : Prop where
 below : Below w.heap.size w X
 cfg : Box X w.heap.size c
 fus : VRow X P.f 93 (fc0 c (.slice (some ⟨P.tb,0,none⟩) (NN c) P.cap) (pgs P.g n) P.r)
 tab : ∃ cs t,VRow X P.tb t cs ∧ ∀ i,i < NN c → cs[i]? = some (ptr (P.h i))
 trk : ∀ i,i < NN c → VRow X (P.h i) 170 (Fh.trk i 0 false [0,0,0,0,0,0,0])
 sig : ∀ j,j < n → F.At X (P.S j) (P.g j) c (Sg.begin c)
 rng : Rg.RingAt X P.r []
 cf : P.col P.f = 1
 ct : P.col P.tb = 2
 cr : P.col P.r = 3
 ch : ∀ i,i < NN c → P.col (P.h i) = 4 + i
 cs : ∀ j b,j < n → P.S j b → P.col b = 10 + j
 lt : ∀ b,P.col b ≠ 0 → b < X.heap.size
 n4 : NN c ≤ 4
 new : ∀ b,P.col b ≠ 0 → w.heap.size + 1 ≤ b
section
variable {F : Face} {w X Y : World} {P : Pl} {c : List Int} {n : Nat}
theorem LieN.on (H : LieN F w X P c n) (b : Below X.heap.size X Y) : LieN F w Y P c n := by
 obtain ⟨cs,t,h1,h2⟩ := H.tab
 exact ⟨grow H.below b,H.cfg.on b,onB H.fus b,⟨cs,t,onB h1 b,h2⟩,fun i hi => onB (H.trk i hi) b,fun j hj => F.on (H.sig j hj) b,ring_on H.rng b,H.cf,H.ct,H.cr,H.ch,H.cs,fun k hk => Nat.lt_of_lt_of_le (H.lt k hk) b.size,H.n4,H.new⟩
theorem LieN.full (H : LieN F w X P c 8) (hg : 0 < w.heap.size) : Lie F X P c (begin c) :=
 ⟨H.fus,H.tab,H.trk,H.sig,H.rng,H.cf,H.ct,H.cr,H.ch,H.cs,H.lt,H.n4,by
  by_cases q : P.col 0 = 0
  · exact q
  · have := H.new _ q; omega,Nat.lt_of_lt_of_le hg H.below.size⟩
open Classical in
theorem LieN.next (H : LieN F w X P c n) (hn : n < 8) {g : Nat} {S' : Nat → Prop} (a : F.At Y S' g c (Sg.begin c)) (hS : ∀ j,S' j → X.heap.size ≤ j) (b : Below X.heap.size X Y) :
 ∃ P',LieN F w (Y.setCell ⟨P.f,2 + n,none⟩ (ptr g)) P' c (n + 1) ∧ P'.f = P.f := by
 have K := H.on b
 have bb : But (· = P.f) Y (Y.setCell ⟨P.f,2 + n,none⟩ (ptr g)) := (But.refl (· = P.f) Y).setCell (p := ⟨P.f,2 + n,none⟩) (Or.inl rfl) _
 have hfn := H.new P.f (by rw [H.cf]; decide)
 have hf : ∀ k,P.col k ≠ 1 → ¬ k = P.f := fun k hk q => hk (by rw [q,H.cf])
 have hfl := H.lt P.f (by rw [H.cf]; decide)
 have low : ∀ k,P.col k ≠ 0 → (if X.heap.size ≤ k then (if S' k then 10 + n else 0) else P.col k) = P.col k := fun k hk => if_neg (by have := H.lt k hk; omega)
 obtain ⟨cs,t,h1,h2⟩ := K.tab
 refine ⟨{ P with g := upd P.g n g,S := upd P.S n S',col := fun k => if X.heap.size ≤ k then (if S' k then 10 + n else 0) else P.col k },⟨?_,?_,?_,⟨cs,t,h1.but bb (hf _ (by rw [H.ct]; decide)),h2⟩,fun i hi => (K.trk i hi).but bb (hf _ (by rw [H.ch i hi]; omega)),fun j hj => ?_,
  (show IRow _ _ _ _ _ from K.rng).but bb (hf _ (by rw [H.cr]; decide)),(low P.f (by rw [H.cf]; decide)).trans H.cf,(low P.tb (by rw [H.ct]; decide)).trans H.ct,(low P.r (by rw [H.cr]; decide)).trans H.cr,fun i hi => (low (P.h i) (by rw [H.ch i hi]; omega)).trans (H.ch i hi),fun j x hj hx => ?_,fun x hx => ?_,H.n4,fun x hx => ?_⟩,rfl⟩
 · exact K.below.setCell (p := ⟨P.f,2 + n,none⟩) (by show w.heap.size ≤ P.f; omega) _
 · exact (show VRow _ w.heap.size 24 (cellsI .i64 c) from VRow.setOther (show VRow Y w.heap.size 24 (cellsI .i64 c) from K.cfg) (p := ⟨P.f,2 + n,none⟩) (by show w.heap.size ≠ P.f; omega) _)
 · have := K.fus.set (2 + n) (ptr g)
   rw [fc0_set _ _ _ _ _ hn] at this
   exact this
 · show F.At _ (upd P.S n S' j) (upd P.g n g j) c (Sg.begin c)
   by_cases e : j = n
   · subst e
     rw [upd_same,upd_same]
     exact F.keep a bb fun k hk (q : k = P.f) => by have := hS k hk; omega
   · rw [upd_ne _ _ e,upd_ne _ _ e]
     exact F.keep (K.sig j (by omega)) bb fun k hk => hf k (by rw [H.cs j k (by omega) hk]; omega)
 · replace hx : upd P.S n S' j x := hx
   show (if X.heap.size ≤ x then (if S' x then 10 + n else 0) else P.col x) = 10 + j
   by_cases e : j = n
   · subst e
     rw [upd_same] at hx
     rw [if_pos (hS x hx),if_pos hx]
   · rw [upd_ne _ _ e] at hx
     have := H.cs j x (by omega) hx
     have hl := H.lt x (by omega)
     rw [if_neg (by omega)]; exact this
 · replace hx : (if X.heap.size ≤ x then (if S' x then 10 + n else 0) else P.col x) ≠ 0 := hx
   have hz : (Y.setCell ⟨P.f,2 + n,none⟩ (ptr g)).heap.size = Y.heap.size := by simp [World.setCell]
   rw [hz]
   split at hx
   · split at hx
     · rename_i q; exact F.lt a x q
     · exact absurd rfl hx
   · exact Nat.lt_of_lt_of_le (H.lt x hx) b.size
 · replace hx : (if X.heap.size ≤ x then (if S' x then 10 + n else 0) else P.col x) ≠ 0 := hx
   split at hx
   · have := H.cfg.lt; omega
   · exact H.new x hx
theorem ne_type {X : World} {a b : Nat} {t e : TypeId} {cs : List Value} {cur : Array Value} (h : VRow X a t cs) (hb : X.heap[b]? = some (.cells cur e (0,0))) (ht : t ≠ e) : a ≠ b := fun q => by
 subst q
 unfold VRow at h
 rw [hb] at h
 injection h with h; injection h with h1 h2
 exact ht h2.symm
theorem LieN.start {f r : Nat} {h : Nat → Nat} {v : Value} (h3 : 3 ≤ NN c) (h4 : NN c ≤ 4) (H : Tm w X c f r h (NN c) v) : ∃ P : Pl,LieN F w X P c 0 ∧ P.f = f ∧ v = .slice (some ⟨P.tb,0,none⟩) (NN c) P.cap := by
 rcases H.row.2 with ⟨-,h0⟩ | ⟨tb,cap,cur,rfl,hb,hh,h5,h6,h7,h8⟩
 · omega
 · have n1 : f ≠ tb := ne_type H.fus hh (by decide)
   have n2 : r ≠ tb := ne_type (t := 168) (IRow.vrow H.rng) hh (by decide)
   have n3 : ∀ i,i < NN c → h i ≠ tb := fun i hi => ne_type (H.trk i hi) hh (by decide)
   have n5 : w.heap.size ≠ tb := ne_type (t := 24) (cs := cellsI .i64 c) H.cfg hh (by decide)
   obtain ⟨l1,l2⟩ := H.lo
   have u0 := H.up 0 (by omega)
   have u1 := H.up 1 (by omega)
   have u2 := H.up 2 (by omega)
   have o1 := H.ord 0 1 (by omega) (by omega)
   have o2 := H.ord 1 2 (by omega) (by omega)
   have m0 := n3 0 (by omega)
   have m1 := n3 1 (by omega)
   have m2 := n3 2 (by omega)
   have htl : tb < X.heap.size := by
    rcases Nat.lt_or_ge tb X.heap.size with q | q
    · exact q
    · rw [Array.getElem?_eq_none q] at hh; cases hh
   have k0 := (H.trk 0 (by omega)).lt
   have k1 := (H.trk 1 (by omega)).lt
   have k2 := (H.trk 2 (by omega)).lt
   have kf := H.fus.lt
   have u3 : 3 < NN c → f < h 3 ∧ h 2 < h 3 ∧ h 3 ≠ tb ∧ h 3 < X.heap.size := fun q => ⟨H.up 3 q,H.ord 2 3 (by omega) q,n3 3 q,(H.trk 3 q).lt⟩
   refine ⟨⟨f,tb,cap,r,h,fun _ => 0,fun _ _ => False,fun b => if b = f then 1 else if b = tb then 2 else if b = r then 3 else if b = h 0 then 4 else if b = h 1 then 5 else if b = h 2 then 6 else if 3 < NN c ∧ b = h 3 then 7 else 0⟩,⟨H.below,H.cfg,?_,⟨cur.toList,_,by simpa [VRow] using hh,fun i hi => ?_⟩,H.trk,fun j hj => by omega,H.rng,if_pos rfl,?_,?_,fun i hi => ?_,fun j b hj => by omega,fun b hb' => ?_,h4,fun b hb' => ?_⟩,rfl,rfl⟩
   · show VRow X f _ (fc0 c (.slice (some ⟨tb,0,none⟩) (NN c) cap) (pgs (fun _ => 0) 0) r)
     rw [pgs_zero]; exact H.fus
   · have hp : (prow h (NN c))[i]? = some (ptr (h i)) := by unfold prow; rw [List.getElem?_map,List.getElem?_range hi]; rfl
     rw [← h8,List.getElem?_take_of_lt (by omega)] at hp
     exact hp
   · show (if tb = f then 1 else if tb = tb then 2 else _) = 2
     rw [if_neg (fun q => n1 q.symm),if_pos rfl]
   · show (if r = f then 1 else if r = tb then 2 else if r = r then 3 else _) = 3
     rw [if_neg (by omega),if_neg n2,if_pos rfl]
   · show (if h i = f then 1 else if h i = tb then 2 else if h i = r then 3 else if h i = h 0 then 4 else if h i = h 1 then 5 else if h i = h 2 then 6 else if 3 < NN c ∧ h i = h 3 then 7 else 0) = 4 + i
     have : i = 0 ∨ i = 1 ∨ i = 2 ∨ i = 3 := by omega
     rcases this with rfl | rfl | rfl | rfl
     · rw [if_neg (by omega),if_neg m0,if_neg (by omega),if_pos rfl]
     · rw [if_neg (by omega),if_neg m1,if_neg (by omega),if_neg (by omega),if_pos rfl]
     · rw [if_neg (by omega),if_neg m2,if_neg (by omega),if_neg (by omega),if_neg (by omega),if_pos rfl]
     · obtain ⟨q1,q2,q3,q4⟩ := u3 hi
       rw [if_neg (by omega),if_neg q3,if_neg (by omega),if_neg (by omega),if_neg (by omega),if_neg (by omega),if_pos ⟨hi,rfl⟩]
   · replace hb' : (if b = f then 1 else if b = tb then 2 else if b = r then 3 else if b = h 0 then 4 else if b = h 1 then 5 else if b = h 2 then 6 else if 3 < NN c ∧ b = h 3 then 7 else 0) ≠ 0 := hb'
     by_cases q3 : 3 < NN c ∧ b = h 3
     · have := u3 q3.1; omega
     · rw [if_neg q3] at hb'
       repeat' split at hb'
       all_goals omega
   · replace hb' : (if b = f then 1 else if b = tb then 2 else if b = r then 3 else if b = h 0 then 4 else if b = h 1 then 5 else if b = h 2 then 6 else if 3 < NN c ∧ b = h 3 then 7 else 0) ≠ 0 := hb'
     by_cases q3 : 3 < NN c ∧ b = h 3
     · have := u3 q3.1; omega
     · rw [if_neg q3] at hb'
       repeat' split at hb'
       all_goals omega
end
end Fu
end Go.Proofs.YticidhbnljdidaaGreatDoor
