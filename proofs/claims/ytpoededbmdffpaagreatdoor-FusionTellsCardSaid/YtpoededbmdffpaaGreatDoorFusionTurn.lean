/-
  What turn of package fusion returns, and does: a contract by walking the Go text. Conditions: how a fusion lies; that what the signals take may be.
-/
import Derived.Test.YtpoededbmdffpaaGreatDoorFusionShut
import Derived.Test.YtpoededbmdffpaaGreatDoorFusionTake
import Derived.Test.YtpoededbmdffpaaGreatDoorSignalLoad
import Derived.Test.YtpoededbmdffpaaGreatDoorSignalStepNo
namespace Go.Proofs.YtpoededbmdffpaaGreatDoor
set_option maxRecDepth 100000
open Go.ChangeShapes Go.WideShapes Go.ChangeAt Go.RowKit Go.Deep
namespace Fu
open Cf (G)
open Sg (NN Si Face Rw rw0 res zres nxt raw8)
/-- What the first k signals tell, as cells. -/
def rsj (c : List Int) (s : Nat → Si) (r : Nat → Nat → Rw) (sh : Int) (k j : Nat) : List Value := if j < k then res c (s j) (r j) sh else zres
def rss (c : List Int) (s : Nat → Si) (r : Nat → Nat → Rw) (sh : Int) (k : Nat) : List Value :=
  rsj c s r sh k 0 ++ (rsj c s r sh k 1 ++ (rsj c s r sh k 2 ++ (rsj c s r sh k 3 ++ (rsj c s r sh k 4 ++ (rsj c s r sh k 5 ++ (rsj c s r sh k 6 ++ rsj c s r sh k 7))))))
section
variable (c : List Int) (s : Nat → Si) (r : Nat → Nat → Rw) (sh : Int)
theorem rss_set {k : Nat} (hk : k < 8) : splice (rss c s r sh k) (k * 13) (res c (s k) (r k) sh) = rss c s r sh (k + 1) := by
  rcases eight hk with rfl | rfl | rfl | rfl | rfl | rfl | rfl | rfl <;> rfl
theorem rsj_len (k j : Nat) : (rsj c s r sh k j).length = 13 := by unfold rsj; split <;> rfl
theorem rss_len (k : Nat) : (rss c s r sh k).length = 104 := by unfold rss; simp only [List.length_append, rsj_len]
theorem rsj_one (k j : Nat) : ∀ v ∈ rsj c s r sh k j, v.oneCell' = true := by
  intro v hv
  unfold rsj at hv
  split at hv
  · simp [res] at hv; rcases hv with rfl | rfl | rfl | rfl | rfl | rfl | rfl | rfl | rfl | rfl | rfl | rfl | rfl <;> rfl
  · simp [zres] at hv; rcases hv with rfl | rfl | rfl <;> rfl
theorem rss_one (k : Nat) : (rss c s r sh k).toArray.all (·.oneCell') = true := by
  refine all_oneCell_toArray fun v hv => ?_
  unfold rss at hv
  simp only [List.mem_append] at hv
  rcases hv with h | h | h | h | h | h | h | h <;> exact rsj_one c s r sh k _ v h
end
theorem rwc_at (r : Nat → Nat → Rw) {j : Nat} (hj : j < 8) (i : Nat) (v : Value) (hv : (raw8 (r j))[i]? = some v) : (rwc r)[j * 8 + i]? = some v := by
  have hi : i < 8 := (List.getElem?_eq_some_iff.1 hv).1
  rcases eight hj with rfl | rfl | rfl | rfl | rfl | rfl | rfl | rfl <;> rcases eight hi with rfl | rfl | rfl | rfl | rfl | rfl | rfl | rfl <;> exact hv
theorem but_cells {S : Nat → Prop} {a : World} {g : Nat} : ∀ {w : World} (_ : But S a w) (_ : S g ∨ a.heap.size ≤ g) (off : Nat) (vs : List Value), But S a (w.setCells g off vs)
  | _, h, _, _, [] => h
  | _, h, hg, off, v :: r => by rw [World.setCells]; exact but_cells (h.setCell (p := ⟨g, off, none⟩) hg v) hg (off + 1) r
/-- A fusion, whose first k signals have stepped. -/
def tns (c : List Int) (m : Fs) (r : Nat → Nat → Rw) (sh : Int) (k : Nat) : Fs := { m with s := fun j => if j < k then nxt c (m.s j) (r j) sh else m.s j }
theorem tns_zero (c : List Int) (m : Fs) (r : Nat → Nat → Rw) (sh : Int) : tns c m r sh 0 = m := by unfold tns; simp
theorem tns_next (c : List Int) (m : Fs) (r : Nat → Nat → Rw) (sh : Int) (k : Nat) : { tns c m r sh k with s := upd (tns c m r sh k).s k (nxt c (m.s k) (r k) sh) } = tns c m r sh (k + 1) := by
  unfold tns upd
  simp only
  congr 1
  funext i
  by_cases e : i = k
  · subst e; rw [if_pos rfl, if_pos (by omega)]
  · rw [if_neg e]
    by_cases q : i < k
    · rw [if_pos q, if_pos (by omega)]
    · rw [if_neg q, if_neg (by omega)]
/-- What lies about while the signals step. -/
structure Tns (F : Face) (W : World) (P : Pl) (c : List Int) (m : Fs) (r : Nat → Nat → Rw) (sh : Int) (X : World) (P' : Pl) (k : Nat) : Prop where
  goes : Goes F W P X P' c (tns c m r sh k)
  raws : VRow X W.heap.size 116 (rwc r)
  out : VRow X (W.heap.size + 1) 110 (rss c m.s r sh 0)
  row : VRow X (W.heap.size + 2) 110 (rss c m.s r sh k)
  free : ∀ i, i < 3 → P'.col (W.heap.size + i) = 0
section
variable {F : Face} {W X X' : World} {P P' : Pl} {c : List Int} {m : Fs} {r : Nat → Nat → Rw} {sh : Int} {k : Nat}
theorem Tns.on (H : Tns F W P c m r sh X P' k) (b : Below X.heap.size X X') : Tns F W P c m r sh X' P' k := ⟨H.goes.on b, onB H.raws b, onB H.out b, onB H.row b, H.free⟩
open Classical in
theorem Tns.stepped (H : Tns F W P c m r sh X P' k) (hk : k < 8) {S' : Nat → Prop} (a : F.At X' S' (P'.g k) c (nxt c (m.s k) (r k) sh)) (b : But (P'.S k) X X') (h : ∀ j, S' j → P'.S k j ∨ X.heap.size ≤ j) :
    Tns F W P c m r sh (X'.setCells (W.heap.size + 2) (k * 13) (res c (m.s k) (r k) sh)) (P'.sig X.heap.size k S') (k + 1) := by
  have g := H.goes.signal hk a b h
  rw [tns_next] at g
  have n : ∀ i, i < 3 → ¬ P'.S k (W.heap.size + i) := fun i hi q => by
    have := H.goes.lie.cs k _ hk q
    rw [H.free i hi] at this; omega
  have v0 := H.raws.but b (n 0 (by omega))
  have v1 := H.out.but b (n 1 (by omega))
  have v2 := H.row.but b (n 2 (by omega))
  have fr : ∀ i, i < 3 → (P'.sig X.heap.size k S').col (W.heap.size + i) = 0 := fun i hi => by
    have hl : W.heap.size + i < X.heap.size := by
      have l0 := H.row.lt
      omega
    show (if X.heap.size ≤ W.heap.size + i then (if S' (W.heap.size + i) then 10 + k else 0) else P'.col (W.heap.size + i)) = 0
    rw [if_neg (by omega)]; exact H.free i hi
  have bb : But (· = W.heap.size + 2) X' (X'.setCells (W.heap.size + 2) (k * 13) (res c (m.s k) (r k) sh)) := but_cells (But.refl (· = W.heap.size + 2) X') (Or.inl rfl) _ _
  refine ⟨g.fresh bb fun j hj => by rw [hj]; exact ⟨fr 2 (by omega), by omega⟩, v0.only bb (by omega), v1.only bb (by omega), ?_, fr⟩
  have := Ot.VRow.setCells (res c (m.s k) (r k) sh) (k * 13) X' _ v2 (by rw [rss_len]; show k * 13 + 13 ≤ 104; omega)
  rwa [rss_set c m.s r sh hk] at this
end
theorem size88 (r : Nat → Rw) : (Tryz.prog.info? 114).map (·.size) = some (raw8 r).length := by
  rw [show (raw8 r).length = 8 from rfl]; kernel_rfl
theorem sizeRZ (l : List Value) (h : l.length = 13) : (Tryz.prog.info? 109).map (·.size) = some l.toArray.size := by
  rw [List.size_toArray, h]; kernel_rfl
theorem sizeRR (l : List Value) (h : l.length = 104) : (Tryz.prog.info? 110).map (·.size) = some l.length := by
  rw [h]; kernel_rfl
theorem aggRR (w : World) : (isAgg 110).run Tryz.prog w = .ok true w := by simp [isAgg, run_underlying Tryz.underlying110]
theorem rss_there {c : List Int} {s : Nat → Si} {r : Nat → Nat → Rw} {sh : Int} {k : Nat} {X : World} {g : Nat} {t : TypeId} (h : VRow X g t (rss c s r sh k)) (o n : Nat) (hn : o + n ≤ 104) : X.there g o n := fun j hj => ⟨by
  have hl : o + j < (rss c s r sh k).length := by rw [rss_len]; omega
  rw [h.cell _ (List.getElem?_eq_getElem hl)]; rfl, h.frozen _⟩
/-- What turn does. -/
def TurnR (F : Face) (W : World) (P : Pl) (c : List Int) (m : Fs) (r : Nat → Nat → Rw) (e : Ending) (w' : World) : Prop :=
  ∃ P', e = .returned (.agg (rss c m.s r (sh c m) 8).toArray) ∧ Goes F W P w' P' c (tns c m r (sh c m) 8)
set_option maxRecDepth 100000 in
set_option maxHeartbeats 3200000 in
theorem turn_any {F : Face} {W : World} {P : Pl} {c : List Int} {m : Fs} (hR : Cf.Right c) (L : Lie F W P c m) (r : Nat → Nat → Rw) (hO : ∀ j, j < 8 → Sg.Ok c (m.s j) ∧ (m.s j).votes.length < 1099511627776) (hr : ∀ j, j < 8 → Sg.okr c (r j) (sh c m)) :
    Calls Tryz.prog 38 #[.pointer (some ⟨P.f, 0, none⟩), .agg (rwc r).toArray] W (TurnR F W P c m r) := by
  have hv := VRow.new W (rwc r) 116
  have hb1 := (Below.refl W.heap.size W).alloc (Nat.le_refl _) (.cells (rwc r).toArray 116)
  have hb2 := hb1.alloc hb1.size (.cells (rss c m.s r (sh c m) 0).toArray 110)
  have hb3 := hb2.alloc hb2.size (.cells (rss c m.s r (sh c m) 0).toArray 110)
  have T0 : Tns F W P c m r (sh c m) (((W.alloc (.cells (rwc r).toArray 116)).alloc (.cells (rss c m.s r (sh c m) 0).toArray 110)).alloc (.cells (rss c m.s r (sh c m) 0).toArray 110)) P 0 := by
    refine ⟨?_, (hv.alloc _).alloc _, ?_, ?_, fun i _ => L.free (by omega)⟩
    · rw [tns_zero]; exact (Goes.refl L).on hb3
    · have := (VRow.new (W.alloc (.cells (rwc r).toArray 116)) (rss c m.s r (sh c m) 0) 110).alloc (.cells (rss c m.s r (sh c m) 0).toArray 110)
      rwa [World.size_alloc] at this
    · have := VRow.new ((W.alloc (.cells (rwc r).toArray 116)).alloc (.cells (rss c m.s r (sh c m) 0).toArray 110)) (rss c m.s r (sh c m) 0) 110
      rw [World.size_alloc, World.size_alloc] at this
      exact this
  have HT0 := Lib.hid T0
  have CS := fun (X : World) (B : Below W.heap.size W X) => Shut_any hR (L.on B)
  have HB3 := Lib.hid hb3
  have CP := fun (X : World) (P' : Pl) (k : Nat) (hk : k < 8) (H : Tns F W P c m r (sh c m) X P' k) =>
    (F.step_yes (r k) (sh c m) (by have := H.goes.lie.sig k hk; unfold tns at this; simp only [Nat.lt_irrefl, if_false] at this; exact this) hR (hO k hk).1 (hr k hk) (hO k hk).2).mono fun e w' q =>
      (show e = .returned (.tuple #[.agg (res c (m.s k) (r k) (sh c m)).toArray, .int .i64 0]) ∧ ∃ S', F.At w' S' (P'.g k) c (nxt c (m.s k) (r k) (sh c m)) ∧ But (P'.S k) X w' ∧ ∀ j, S' j → P'.S k j ∨ X.heap.size ≤ j from q)
  have HFG := Lib.hid (show ∀ (X : World) (P' : Pl) (k : Nat), Tns F W P c m r (sh c m) X P' k → P'.g = P.g from fun X P' k H => H.goes.g)
  have HRG := Lib.hid (show ∀ X, Below W.heap.size W X → X.rangeAt P.f 2 (gs P) from fun X B => range_g (L.on B))
  have SG := Lib.hid (sizeG P)
  have IG := fun (V : World) (j : Nat) (hj : j < 8) => index_g P hj V
  unfold TurnR
  generalize sh c m = s0 at *
  clear hv hb1 hb2 hb3 T0 hO hr hR L
  go_enter Tryz.func38, Tryz.ntmps38
  go_upto_region 2 with ((with_reducible show wpList _ _ _ (⟨_, .alloc 110, _, _, _, _⟩ :: _) _ _); refine wpList_lay rfl _ rfl (rss c m.s r s0 0) (fun _ => by kernel_rfl) ?_)
  generalize (((W.alloc (.cells (rwc r).toArray 116)).alloc (.cells (rss c m.s r s0 0).toArray 110)).alloc (.cells (rss c m.s r s0 0).toArray 110)) = W3 at *
  go_wp2_with (first
    | (go_at_call 19; refine (CS _ HB3.out).mono ?_; rintro e w1 ⟨rfl, b1⟩; have HT1 := Lib.hid (HT0.out.on b1); have RG := Lib.hid (HRG.out _ (grow HB3.out b1)); clear b1)
    | ((with_reducible show wpList _ _ _ (⟨some 14, _, _, _, _, _⟩ :: _) _ _); refine wpList_load_mid rfl _ _ rfl P.f 2 rfl (gs P) _ RG.out Tryz.underlying91 rfl SG.out ?_))
  clear RG HB3 CS HRG HT0
  go_loopg [15] 8 (fun gg s15 wr => ∃ (k : Nat) (P' : Pl), k + gg = 8 ∧ s15 = .int .i64 k ∧ Hid (Tns F W P c m r s0 wr P' k))
  case atStart => exact ⟨0, P, by omega, rfl, HT1⟩
  case round =>
    obtain ⟨k, P', hkg, rfl, H⟩ := hrel
    clear HT1
    by_cases hk : k < 8
    · have hki : (k : Int) < 8 := by omega
      have RS := Lib.hid (show wr.rangeAt W.heap.size (k * 8) (raw8 (r k)) from fun j v hv => H.out.raws.cell (k * 8 + j) (rwc_at r hk j v hv))
      have CK := CP wr P' k hk H.out
      rw [HFG.out wr P' k H.out] at CK
      have HGE := Lib.hid (HFG.out wr P' k H.out)
      have ik := IG wr k hk
      unfold ptr at ik
      have HN := Lib.hid (show (res c (m.s k) (r k) s0).length = 13 from rfl)
      have H1 := Lib.hid (Sg.res_one c (m.s k) (r k) s0)
      have STP := Lib.hid (fun (X' : World) (S' : Nat → Prop) (a : F.At X' S' (P.g k) c (nxt c (m.s k) (r k) s0)) (b : But (P'.S k) wr X') (h : ∀ j, S' j → P'.S k j ∨ wr.heap.size ≤ j) => show X'.there (W.heap.size + 2) (k * 13) (res c (m.s k) (r k) s0).toArray.size ∧ ∃ P'', Tns F W P c m r s0 (X'.setCells (W.heap.size + 2) (k * 13) (res c (m.s k) (r k) s0)) P'' (k + 1) from
        ⟨rss_there (H.out.row.but b (fun q => by have := H.out.goes.lie.cs k _ hk q; rw [H.out.free 2 (by omega)] at this; omega)) (k * 13) 13 (by omega), _, H.out.stepped hk (by rw [HGE.out]; exact a) b h⟩)
      clear H
      generalize res c (m.s k) (r k) s0 = rk at *
      go_wp2_with (first
        | ((with_reducible show wpList _ _ _ (⟨some 18, _, _, _, _, _⟩ :: _) _ _); refine Ot.wpList_index rfl _ _ _ rfl (gs P).toArray k _ rfl rfl ik ?_)
        | ((with_reducible show wpList _ _ _ (⟨some 24, _, _, _, _, _⟩ :: _) _ _); refine wpList_load_mid rfl _ _ rfl W.heap.size (k * 8) rfl (raw8 (r k)) _ RS.out Tryz.underlying114 rfl (size88 _) ?_)
        | (go_at_call 79; refine CK.mono ?_; rintro e w1 ⟨rfl, S', s1, s2, s3⟩; obtain ⟨th, P'', tn⟩ := STP.out w1 S' s1 s2 s3; have TH := Lib.hid th; have TN := Lib.hid tn; clear s1 s2 s3 th tn)
        | ((with_reducible show wpList _ _ _ (⟨none, .store _ (.tmp 29) _, _, _, _, _⟩ :: _) _ _); refine wpList_store_mid rfl _ _ _ rfl (W.heap.size + 2) (k * 13) rk.toArray rfl rfl TH.out (sizeRZ _ HN.out) H1.out ?_))
      go_roundg (gk - 1)
      case rel => exact ⟨k + 1, P'', by omega, by go_num, TN⟩
      case measure => omega
    · obtain rfl : k = 8 := by omega
      have b1 := But.refl (· = W.heap.size + 1) wr
      have b2 := b1.put (g := W.heap.size + 1) (Or.inl rfl) (rss c m.s r s0 8).toArray
      have HG := Lib.hid (H.out.goes.fresh b2 fun k hk => by rw [hk]; exact ⟨H.out.free 1 (by omega), by omega⟩)
      have RR := Lib.hid (H.out.out.put (rss c m.s r s0 8))
      clear b1 b2
      go_wp2_with (first
        | ((with_reducible show wpList _ _ _ (⟨some 31, _, _, _, _, _⟩ :: _) _ _); refine VB.loaded rfl _ rfl (W.heap.size + 2) rfl H.out.row Tryz.underlying110 rfl (sizeRR _ (rss_len _ _ _ _ _)) ?_)
        | ((with_reducible show wpList _ _ _ (⟨none, .store _ (.tmp 4) _, _, _, _, _⟩ :: _) _ _); refine VB.store rfl _ _ rfl (W.heap.size + 1) (rss c m.s r s0 8) rfl rfl H.out.out (sizeRR _ (rss_len _ _ _ _ _)) (by rw [rss_len, rss_len]) (rss_one _ _ _ _ _) ?_))
      exact bodyPost_ret (VB.ret1 rfl rfl (aggRR _) (sizeRR _ (rss_len _ _ _ _ _)) RR.out) rfl ⟨P', rfl, HG.out⟩
end Fu
end Go.Proofs.YtpoededbmdffpaaGreatDoor
