/-
 What turn of package fusion returns, and does: a contract by walking the Go text. Conditions: how a fusion lies; that what the signals take may be.
 Rows of notes that a call makes; what All of package ring hands back: a contract by walking the Go text. Condition: where the ring lies.
 What note of package fusion does: a contract by walking the Go text. Conditions: how a fusion lies; that its notes are not too many; that the table of trips lies in memory as the text lays it.
-/
import Derived.Test.YticidhbnljdidaaGreatDoorJSignalEnter2
import Derived.Test.YticidhbnljdidaaGreatDoorJFusionKit3
import Derived.Test.YticidhbnljdidaaGreatDoorJSignalBound10
import Derived.Test.YticidhbnljdidaaGreatDoorJSignalLatch4
import Derived.Test.YticidhbnljdidaaGreatDoorRingObs
import Derived.Deep.LoopGhost
import Derived.Deep.RegionLaw
import Derived.Deep.RegionWith
import Derived.Test.YticidhbnljdidaaGreatDoorTail
import Derived.BigQuiet
namespace Go.Proofs.YticidhbnljdidaaGreatDoor
set_option maxRecDepth 100000
open Go.ChangeShapes Go.WideShapes Go.ChangeAt Go.RowKit Go.Deep
namespace Fu
open Cf (G)
open Sg (NN Si Face Rw rw0 res zres nxt raw8)
def rsj (c : List Int) (s : Nat → Si) (r : Nat → Nat → Rw) (sh : Int) (k j : Nat) : List Value := if j < k then res c (s j) (r j) sh else zres
def rss (c : List Int) (s : Nat → Si) (r : Nat → Nat → Rw) (sh : Int) (k : Nat) : List Value :=
 rsj c s r sh k 0 ++ (rsj c s r sh k 1 ++ (rsj c s r sh k 2 ++ (rsj c s r sh k 3 ++ (rsj c s r sh k 4 ++ (rsj c s r sh k 5 ++ (rsj c s r sh k 6 ++ rsj c s r sh k 7))))))
section
variable (c : List Int) (s : Nat → Si) (r : Nat → Nat → Rw) (sh : Int)
theorem rss_set {k : Nat} (hk : k < 8) : splice (rss c s r sh k) (k * 13) (res c (s k) (r k) sh) = rss c s r sh (k + 1) := by
 rcases eight hk with rfl | rfl | rfl | rfl | rfl | rfl | rfl | rfl <;> rfl
theorem rsj_len (k j : Nat) : (rsj c s r sh k j).length = 13 := by unfold rsj; split <;> rfl
theorem rss_len (k : Nat) : (rss c s r sh k).length = 104 := by unfold rss; simp only [List.length_append,rsj_len]
theorem rsj_one (k j : Nat) : ∀ v ∈ rsj c s r sh k j,v.oneCell' = true := by
 intro v hv
 unfold rsj at hv
 split at hv
 · simp [res] at hv; rcases hv with rfl | rfl | rfl | rfl | rfl | rfl | rfl | rfl | rfl | rfl | rfl | rfl | rfl <;> rfl
 · simp [zres] at hv; rcases hv with rfl | rfl | rfl <;> rfl
theorem rss_one (k : Nat) : (rss c s r sh k).toArray.all (·.oneCell') = true := by
 refine all_oneCell_toArray fun v hv => ?_
 unfold rss at hv
 simp only [List.mem_append] at hv
 rcases hv with h | h | h | h | h | h | h | h <;> exact rsj_one c s r sh k _ v h
end
theorem rwc_at (r : Nat → Nat → Rw) {j : Nat} (hj : j < 8) (i : Nat) (v : Value) (hv : (raw8 (r j))[i]? = some v) : (rwc r)[j * 8 + i]? = some v := by
 have hi : i < 8 := (List.getElem?_eq_some_iff.1 hv).1
 rcases eight hj with rfl | rfl | rfl | rfl | rfl | rfl | rfl | rfl <;> rcases eight hi with rfl | rfl | rfl | rfl | rfl | rfl | rfl | rfl <;> exact hv
theorem but_cells {S : Nat → Prop} {a : World} {g : Nat} : ∀ {w : World} (_ : But S a w) (_ : S g ∨ a.heap.size ≤ g) (off : Nat) (vs : List Value),But S a (w.setCells g off vs)
 | _,h,_,_,[] => h
 | _,h,hg,off,v :: r => by rw [World.setCells]; exact but_cells (h.setCell (p := ⟨g,off,none⟩) hg v) hg (off + 1) r
def tns (c : List Int) (m : Fs) (r : Nat → Nat → Rw) (sh : Int) (k : Nat) : Fs := { m with s := fun j => if j < k then nxt c (m.s j) (r j) sh else m.s j }
theorem tns_zero (c : List Int) (m : Fs) (r : Nat → Nat → Rw) (sh : Int) : tns c m r sh 0 = m := by unfold tns; simp
theorem tns_next (c : List Int) (m : Fs) (r : Nat → Nat → Rw) (sh : Int) (k : Nat) : { tns c m r sh k with s := upd (tns c m r sh k).s k (nxt c (m.s k) (r k) sh) } = tns c m r sh (k + 1) := by
 unfold tns upd
 simp only
 congr 1
 funext i
 by_cases e : i = k
 · subst e; rw [if_pos rfl,if_pos (by omega)]
 · rw [if_neg e]
   by_cases q : i < k
   · rw [if_pos q,if_pos (by omega)]
   · rw [if_neg q,if_neg (by omega)]
structure Tns (F : Face) (W : World) (P : Pl) (c : List Int) (m : Fs) (r : Nat → Nat → Rw) (sh : Int) (X : World) (P' : Pl) (k : Nat) : Prop where
 goes : Goes F W P X P' c (tns c m r sh k)
 raws : VRow X W.heap.size 116 (rwc r)
 out : VRow X (W.heap.size + 1) 110 (rss c m.s r sh 0)
 row : VRow X (W.heap.size + 2) 110 (rss c m.s r sh k)
 free : ∀ i,i < 3 → P'.col (W.heap.size + i) = 0
section
variable {F : Face} {W X X' : World} {P P' : Pl} {c : List Int} {m : Fs} {r : Nat → Nat → Rw} {sh : Int} {k : Nat}
theorem Tns.on (H : Tns F W P c m r sh X P' k) (b : Below X.heap.size X X') : Tns F W P c m r sh X' P' k := ⟨H.goes.on b,onB H.raws b,onB H.out b,onB H.row b,H.free⟩
open Classical in
theorem Tns.stepped (H : Tns F W P c m r sh X P' k) (hk : k < 8) {S' : Nat → Prop} (a : F.At X' S' (P'.g k) c (nxt c (m.s k) (r k) sh)) (b : But (P'.S k) X X') (h : ∀ j,S' j → P'.S k j ∨ X.heap.size ≤ j) :
 Tns F W P c m r sh (X'.setCells (W.heap.size + 2) (k * 13) (res c (m.s k) (r k) sh)) (P'.sig X.heap.size k S') (k + 1) := by
 have g := H.goes.signal hk a b h
 rw [tns_next] at g
 have n : ∀ i,i < 3 → ¬ P'.S k (W.heap.size + i) := fun i hi q => by
  have := H.goes.lie.cs k _ hk q
  rw [H.free i hi] at this; omega
 have v0 := H.raws.but b (n 0 (by omega))
 have v1 := H.out.but b (n 1 (by omega))
 have v2 := H.row.but b (n 2 (by omega))
 have fr : ∀ i,i < 3 → (P'.sig X.heap.size k S').col (W.heap.size + i) = 0 := fun i hi => by
  have hl : W.heap.size + i < X.heap.size := by
   have l0 := H.row.lt
   omega
  show (if X.heap.size ≤ W.heap.size + i then (if S' (W.heap.size + i) then 10 + k else 0) else P'.col (W.heap.size + i)) = 0
  rw [if_neg (by omega)]; exact H.free i hi
 have bb : But (· = W.heap.size + 2) X' (X'.setCells (W.heap.size + 2) (k * 13) (res c (m.s k) (r k) sh)) := but_cells (But.refl (· = W.heap.size + 2) X') (Or.inl rfl) _ _
 refine ⟨g.fresh bb fun j hj => by rw [hj]; exact ⟨fr 2 (by omega),by omega⟩,v0.only bb (by omega),v1.only bb (by omega),?_,fr⟩
 have := Ot.VRow.setCells (res c (m.s k) (r k) sh) (k * 13) X' _ v2 (by rw [rss_len]; show k * 13 + 13 ≤ 104; omega)
 rwa [rss_set c m.s r sh hk] at this
end
theorem size88 (r : Nat → Rw) : (Tryz.prog.info? 114).map (·.size) = some (raw8 r).length := by
 rw [show (raw8 r).length = 8 from rfl]; kernel_rfl
theorem sizeRZ (l : List Value) (h : l.length = 13) : (Tryz.prog.info? 109).map (·.size) = some l.toArray.size := by
 rw [List.size_toArray,h]; kernel_rfl
theorem sizeRR (l : List Value) (h : l.length = 104) : (Tryz.prog.info? 110).map (·.size) = some l.length := by
 rw [h]; kernel_rfl
theorem aggRR (w : World) : (isAgg 110).run Tryz.prog w = .ok true w := by simp [isAgg,run_underlying Tryz.underlying110]
theorem rss_there {c : List Int} {s : Nat → Si} {r : Nat → Nat → Rw} {sh : Int} {k : Nat} {X : World} {g : Nat} {t : TypeId} (h : VRow X g t (rss c s r sh k)) (o n : Nat) (hn : o + n ≤ 104) : X.there g o n := fun j hj => ⟨by
 have hl : o + j < (rss c s r sh k).length := by rw [rss_len]; omega
 rw [h.cell _ (List.getElem?_eq_getElem hl)]; rfl,h.frozen _⟩
def TurnR (F : Face) (W : World) (P : Pl) (c : List Int) (m : Fs) (r : Nat → Nat → Rw) (e : Ending) (w' : World) : Prop :=
 ∃ P',e = .returned (.agg (rss c m.s r (sh c m) 8).toArray) ∧ Goes F W P w' P' c (tns c m r (sh c m) 8)
set_option maxRecDepth 100000 in
set_option maxHeartbeats 3200000 in
theorem turn_any {F : Face} {W : World} {P : Pl} {c : List Int} {m : Fs} (hR : Cf.Right c) (L : Lie F W P c m) (r : Nat → Nat → Rw) (hO : ∀ j,j < 8 → Sg.Ok c (m.s j) ∧ (m.s j).votes.length < 1099511627776) (hr : ∀ j,j < 8 → Sg.okr c (r j) (sh c m)) :
 Calls Tryz.prog 38 #[.pointer (some ⟨P.f,0,none⟩),.agg (rwc r).toArray] W (TurnR F W P c m r) := by
 have hv := VRow.new W (rwc r) 116
 have hb1 := (Below.refl W.heap.size W).alloc (Nat.le_refl _) (.cells (rwc r).toArray 116)
 have hb2 := hb1.alloc hb1.size (.cells (rss c m.s r (sh c m) 0).toArray 110)
 have hb3 := hb2.alloc hb2.size (.cells (rss c m.s r (sh c m) 0).toArray 110)
 have T0 : Tns F W P c m r (sh c m) (((W.alloc (.cells (rwc r).toArray 116)).alloc (.cells (rss c m.s r (sh c m) 0).toArray 110)).alloc (.cells (rss c m.s r (sh c m) 0).toArray 110)) P 0 := by
  refine ⟨?_,(hv.alloc _).alloc _,?_,?_,fun i _ => L.free (by omega)⟩
  · rw [tns_zero]; exact (Goes.refl L).on hb3
  · have := (VRow.new (W.alloc (.cells (rwc r).toArray 116)) (rss c m.s r (sh c m) 0) 110).alloc (.cells (rss c m.s r (sh c m) 0).toArray 110)
    rwa [World.size_alloc] at this
  · have := VRow.new ((W.alloc (.cells (rwc r).toArray 116)).alloc (.cells (rss c m.s r (sh c m) 0).toArray 110)) (rss c m.s r (sh c m) 0) 110
    rw [World.size_alloc,World.size_alloc] at this
    exact this
 have HT0 := Lib.hid T0
 have CS := fun (X : World) (B : Below W.heap.size W X) => Shut_any hR (L.on B)
 have HB3 := Lib.hid hb3
 have CP := fun (X : World) (P' : Pl) (k : Nat) (hk : k < 8) (H : Tns F W P c m r (sh c m) X P' k) =>
  (F.step_yes (r k) (sh c m) (by have := H.goes.lie.sig k hk; unfold tns at this; simp only [Nat.lt_irrefl,if_false] at this; exact this) hR (hO k hk).1 (hr k hk) (hO k hk).2).mono fun e w' q =>
   (show e = .returned (.tuple #[.agg (res c (m.s k) (r k) (sh c m)).toArray,.int .i64 0]) ∧ ∃ S',F.At w' S' (P'.g k) c (nxt c (m.s k) (r k) (sh c m)) ∧ But (P'.S k) X w' ∧ ∀ j,S' j → P'.S k j ∨ X.heap.size ≤ j from q)
 have HFG := Lib.hid (show ∀ (X : World) (P' : Pl) (k : Nat),Tns F W P c m r (sh c m) X P' k → P'.g = P.g from fun X P' k H => H.goes.g)
 have HRG := Lib.hid (show ∀ X,Below W.heap.size W X → X.rangeAt P.f 2 (gs P) from fun X B => range_g (L.on B))
 have SG := Lib.hid (sizeG P)
 have IG := fun (V : World) (j : Nat) (hj : j < 8) => index_g P hj V
 unfold TurnR
 generalize sh c m = s0 at *
 clear hv hb1 hb2 hb3 T0 hO hr hR L
 go_enter Tryz.func38,Tryz.ntmps38
 go_upto_region 2 with ((with_reducible show wpList _ _ _ (⟨_,.alloc 110,_,_,_,_⟩ :: _) _ _); refine wpList_lay rfl _ rfl (rss c m.s r s0 0) (fun _ => by kernel_rfl) ?_)
 generalize (((W.alloc (.cells (rwc r).toArray 116)).alloc (.cells (rss c m.s r s0 0).toArray 110)).alloc (.cells (rss c m.s r s0 0).toArray 110)) = W3 at *
 go_wp2_with (first
  | (go_at_call 19; refine (CS _ HB3.out).mono ?_; rintro e w1 ⟨rfl,b1⟩; have HT1 := Lib.hid (HT0.out.on b1); have RG := Lib.hid (HRG.out _ (grow HB3.out b1)); clear b1)
  | ((with_reducible show wpList _ _ _ (⟨some 14,_,_,_,_,_⟩ :: _) _ _); refine wpList_load_mid rfl _ _ rfl P.f 2 rfl (gs P) _ RG.out Tryz.underlying91 rfl SG.out ?_))
 clear RG HB3 CS HRG HT0
 go_loopg [15] 8 (fun gg s15 wr => ∃ (k : Nat) (P' : Pl),k + gg = 8 ∧ s15 = .int .i64 k ∧ Hid (Tns F W P c m r s0 wr P' k))
 case atStart => exact ⟨0,P,by omega,rfl,HT1⟩
 case round =>
  obtain ⟨k,P',hkg,rfl,H⟩ := hrel
  clear HT1
  by_cases hk : k < 8
  · have hki : (k : Int) < 8 := by omega
    have RS := Lib.hid (show wr.rangeAt W.heap.size (k * 8) (raw8 (r k)) from fun j v hv => H.out.raws.cell (k * 8 + j) (rwc_at r hk j v hv))
    have CK := CP wr P' k hk H.out
    rw [HFG.out wr P' k H.out] at CK
    have HGE := Lib.hid (HFG.out wr P' k H.out)
    have ik := IG wr k hk
    unfold ptr at ik
    have HN := Lib.hid (show (res c (m.s k) (r k) s0).length = 13 from rfl)
    have H1 := Lib.hid (Sg.res_one c (m.s k) (r k) s0)
    have STP := Lib.hid (fun (X' : World) (S' : Nat → Prop) (a : F.At X' S' (P.g k) c (nxt c (m.s k) (r k) s0)) (b : But (P'.S k) wr X') (h : ∀ j,S' j → P'.S k j ∨ wr.heap.size ≤ j) => show X'.there (W.heap.size + 2) (k * 13) (res c (m.s k) (r k) s0).toArray.size ∧ ∃ P'',Tns F W P c m r s0 (X'.setCells (W.heap.size + 2) (k * 13) (res c (m.s k) (r k) s0)) P'' (k + 1) from
     ⟨rss_there (H.out.row.but b (fun q => by have := H.out.goes.lie.cs k _ hk q; rw [H.out.free 2 (by omega)] at this; omega)) (k * 13) 13 (by omega),_,H.out.stepped hk (by rw [HGE.out]; exact a) b h⟩)
    clear H
    generalize res c (m.s k) (r k) s0 = rk at *
    go_wp2_with (first
     | ((with_reducible show wpList _ _ _ (⟨some 18,_,_,_,_,_⟩ :: _) _ _); refine Ot.wpList_index rfl _ _ _ rfl (gs P).toArray k _ rfl rfl ik ?_)
     | ((with_reducible show wpList _ _ _ (⟨some 24,_,_,_,_,_⟩ :: _) _ _); refine wpList_load_mid rfl _ _ rfl W.heap.size (k * 8) rfl (raw8 (r k)) _ RS.out Tryz.underlying114 rfl (size88 _) ?_)
     | (go_at_call 79; refine CK.mono ?_; rintro e w1 ⟨rfl,S',s1,s2,s3⟩; obtain ⟨th,P'',tn⟩ := STP.out w1 S' s1 s2 s3; have TH := Lib.hid th; have TN := Lib.hid tn; clear s1 s2 s3 th tn)
     | ((with_reducible show wpList _ _ _ (⟨none,.store _ (.tmp 29) _,_,_,_,_⟩ :: _) _ _); refine wpList_store_mid rfl _ _ _ rfl (W.heap.size + 2) (k * 13) rk.toArray rfl rfl TH.out (sizeRZ _ HN.out) H1.out ?_))
    go_roundg (gk - 1)
    case rel => exact ⟨k + 1,P'',by omega,by go_num,TN⟩
    case measure => omega
  · obtain rfl : k = 8 := by omega
    have b1 := But.refl (· = W.heap.size + 1) wr
    have b2 := b1.put (g := W.heap.size + 1) (Or.inl rfl) (rss c m.s r s0 8).toArray
    have HG := Lib.hid (H.out.goes.fresh b2 fun k hk => by rw [hk]; exact ⟨H.out.free 1 (by omega),by omega⟩)
    have RR := Lib.hid (H.out.out.put (rss c m.s r s0 8))
    clear b1 b2
    go_wp2_with (first
     | ((with_reducible show wpList _ _ _ (⟨some 31,_,_,_,_,_⟩ :: _) _ _); refine VB.loaded rfl _ rfl (W.heap.size + 2) rfl H.out.row Tryz.underlying110 rfl (sizeRR _ (rss_len _ _ _ _ _)) ?_)
     | ((with_reducible show wpList _ _ _ (⟨none,.store _ (.tmp 4) _,_,_,_,_⟩ :: _) _ _); refine VB.store rfl _ _ rfl (W.heap.size + 1) (rss c m.s r s0 8) rfl rfl H.out.out (sizeRR _ (rss_len _ _ _ _ _)) (by rw [rss_len,rss_len]) (rss_one _ _ _ _ _) ?_))
    exact bodyPost_ret (VB.ret1 rfl rfl (aggRR _) (sizeRR _ (rss_len _ _ _ _ _)) RR.out) rfl ⟨P',rfl,HG.out⟩
end Fu
namespace Rg
open Fx
def NotesAt (w : World) (a : Option Addr) (l : List Nt) : Prop := IntsAt .i64 w a (flat l)
theorem NotesAt.on {w w' : World} {a : Option Addr} {l : List Nt} (h : NotesAt w a l) (b : Below w.heap.size w w') : NotesAt w' a l := IntsAt.below h b
theorem NotesAt.at {w : World} {a : Option Addr} {l : List Nt} (h : NotesAt w a l) (hp : 0 < l.length) :
 ∃ b off,a = some ⟨b,off,none⟩ ∧ ∀ i n,l[i]? = some n → w.cell? ⟨b,off + i * 5,none⟩ = some (.int .i64 n.y) ∧ w.cell? ⟨b,off + i * 5 + 1,none⟩ = some (.int .i64 n.c) ∧ w.cell? ⟨b,off + i * 5 + 2,none⟩ = some (.int .i64 n.s) ∧ w.cell? ⟨b,off + i * 5 + 3,none⟩ = some (.int .i64 n.k) ∧ w.cell? ⟨b,off + i * 5 + 4,none⟩ = some (.int .i64 n.t) := by
 have hl := flat_len l
 rcases h with h | ⟨b,off,rfl,hc⟩
 · have := congrArg List.length h; rw [hl] at this; simp at this; omega
 · refine ⟨b,off,rfl,fun i n hn => ?_⟩
   have hi : i < l.length := (List.getElem?_eq_some_iff.1 hn).1
   obtain ⟨g0,g1,g2,g3,g4⟩ := flat_get l i n hn
   have f := fun j (hj : j < 5) => hc (i * 5 + j) (by omega)
   have f0 := f 0 (by omega)
   have f1 := f 1 (by omega)
   have f2 := f 2 (by omega)
   have f3 := f 3 (by omega)
   have f4 := f 4 (by omega)
   rw [Nat.add_zero,g0] at f0
   rw [g1] at f1
   rw [g2] at f2
   rw [g3] at f3
   rw [g4] at f4
   simp only [← Nat.add_assoc] at f1 f2 f3 f4
   exact ⟨f0,f1,f2,f3,f4⟩
theorem NotesAt.drop {w : World} {b off : Nat} {l : List Nt} (h : NotesAt w (some ⟨b,off,none⟩) l) (j : Nat) : NotesAt w (some ⟨b,off + j * 5,none⟩) (l.drop j) := by
 unfold NotesAt at *
 rw [flat_drop]
 rcases h with h | ⟨b',off',he,hc⟩
 · exact Or.inl (by rw [h]; simp)
 · cases he
   exact intsAt_drop (j * 5) hc
def OwnN (base : Nat) (w : World) (v : Value) (l : List Nt) : Prop := w.ownsRow base 86 5 v l.length (cellsI .i64 (flat l))
section
variable {base : Nat} {w w' : World} {v : Value} {l : List Nt}
theorem OwnN.nil : OwnN base w (.slice none 0 0) [] := World.ownsRow_nil _ _ _ _
theorem OwnN.form (h : OwnN base w v l) : ∃ a cap,v = .slice a l.length cap ∧ l.length ≤ cap ∧ NotesAt w a l ∧ (a = none → l = []) := by
 have hc : ∀ g,v.ownBlock = some g → _ := fun g hg => World.ownsRow.cells h (g := g) hg
 rcases h with ⟨hl,⟨rfl,h0⟩ | ⟨g,cap,cur,rfl,hb,hh,hcap,_⟩⟩
 · have := List.eq_nil_of_length_eq_zero h0
   subst this
   exact ⟨none,0,rfl,by simp,Or.inl rfl,fun _ => rfl⟩
 · refine ⟨_,cap,rfl,hcap,Or.inr ⟨g,0,rfl,fun i hi => ?_⟩,fun e => by cases e⟩
   have := hc g rfl i _ (cellsI_get .i64 (flat l) i hi)
   rw [add_plain] at this; exact this
theorem OwnN.drew (h : OwnN base w v l) : OwnN base w.drew v l := h
theorem OwnN.alloc (h : OwnN base w v l) (o : Obj) : OwnN base (w.alloc o) v l := World.ownsRow.alloc h o
theorem OwnN.blk (h : OwnN base w v l) : ∀ j,v.ownBlock = some j → base ≤ j := fun j hj => (World.ownsRow.lt h j hj).1
theorem OwnN.grow {B : Nat} (h : OwnN base w v l) (b : Below B w w') (hB : w.heap.size ≤ B) : OwnN base w' v l := by
 rcases h with ⟨hl,⟨rfl,h0⟩ | ⟨g,cap,cur,rfl,hb,hh,q⟩⟩
 · exact ⟨hl,Or.inl ⟨rfl,h0⟩⟩
 · refine ⟨hl,Or.inr ⟨g,cap,cur,rfl,hb,(b.block g ?_).trans hh,q⟩⟩
   rcases Nat.lt_or_ge g w.heap.size with k | k
   · omega
   · rw [Array.getElem?_eq_none k] at hh; cases hh
theorem OwnN.only {g : Nat} (h : OwnN base w v l) (o : Only g w w') (hg : g < base) : OwnN base w' v l := by
 rcases h with ⟨hl,⟨rfl,h0⟩ | ⟨j,cap,cur,rfl,hb,hh,q⟩⟩
 · exact ⟨hl,Or.inl ⟨rfl,h0⟩⟩
 · refine ⟨hl,Or.inr ⟨j,cap,cur,rfl,hb,(o.block j ?_ (by omega)).trans hh,q⟩⟩
   rcases Nat.lt_or_ge j w.heap.size with k | k
   · exact k
   · rw [Array.getElem?_eq_none k] at hh; cases hh
end
theorem noteInfo : (Tryz.prog.info? 86).map (fun i => (i.zero,i.size,i.bytes)) = some (some (.agg #[.int .i64 0,.int .i64 0,.int .i64 0,.int .i64 0,.int .i64 0]),5,40) := by kernel_rfl
theorem wpList_append1N {wr : World} {ops : Array Oper} {rest : List Oper} {o : Oper} {a : Act} {Q : Exit → Act → World → Prop} (hgd : o.guard = none) (s x : Operand)
 (ho : o.op = .call { callee := .builtin .append,args := #[s,x],argTypes := #[57,57] })
 (base : Nat) (v : Value) (l : List Nt) (n : Nt) (hs : a.eval s = v) (hx : a.eval x = .slice (some ⟨wr.heap.size,0,none⟩) 1 1) (hown : OwnN base wr v l)
 (hl : l.length < 1099511627776) (w0 : World) (hb : Below base w0 wr) (hbase : base ≤ w0.heap.size)
 (h : ∀ v' w',OwnN base w' v' (l ++ [n]) → Below base w0 w' → wpList Tryz.prog ops Q rest (a.put o.dst v') w') :
 wpList Tryz.prog ops Q (o :: rest) a (wr.alloc (.cells #[.int .i64 n.y,.int .i64 n.c,.int .i64 n.s,.int .i64 n.k,.int .i64 n.t] 86)) := by
 obtain ⟨i0,hi0,hz0,hz1,hz2⟩ := info_parts noteInfo
 have hsz := hb.size
 have hnew := VRow.new wr (ntr n) 86
 refine wpList_append_own _ hgd s x 57 ho base 86 i0 _ 5 40 Tryz.underlying57 hi0 hz0 hz1 hz2 rfl (by omega) v l.length (cellsI .i64 (flat l)) hs (hown.alloc _) ⟨wr.heap.size,0,none⟩ 1 1 (ntr n) hx rfl ?_ ?_ (by unfold maxLen; omega) (by omega) (by simp; omega) ?_
 · intro j u hj
   rw [add_plain,Nat.zero_add]
   exact VRow.cell hnew j hj
 · intro u hu
   simp only [ntr,List.mem_cons,List.mem_nil_iff,or_false] at hu
   rcases hu with rfl | rfl | rfl | rfl | rfl <;> rfl
 · intro v' w' h1 h2 _
   refine h v' w' ?_ ?_
   · unfold OwnN
     rw [flat_app,cellsI_app,List.length_append]; exact h1
   · exact (hb.alloc (by omega) _).grown h2 (by simp; omega) (fun j hj => hown.blk j hj)
theorem step_append1N {ops : Array Oper} {o : Oper} {a : Act} {wr : World} {K : Act → World → Prop} {Q : Exit → Act → World → Prop} {E : Prop} (hgd : o.guard = none) (s x : Operand)
 (ho : o.op = .call { callee := .builtin .append,args := #[s,x],argTypes := #[57,57] })
 (base : Nat) (v : Value) (l : List Nt) (n : Nt) (hs : a.eval s = v) (hx : a.eval x = .slice (some ⟨wr.heap.size,0,none⟩) 1 1) (hown : OwnN base wr v l)
 (hl : l.length < 1099511627776) (w0 : World) (hb : Below base w0 wr) (hbase : base ≤ w0.heap.size)
 (h : ∀ v' w',OwnN base w' v' (l ++ [n]) → Below base w0 w' → K (a.put o.dst v') w') :
 if Region.wanted o (yielded ops a.tmps) = true then Oper.wp Tryz.prog o a (wr.alloc (.cells #[.int .i64 n.y,.int .i64 n.c,.int .i64 n.s,.int .i64 n.k,.int .i64 n.t] 86)) K Q else E := by
 have hw : Region.wanted o (yielded ops a.tmps) = true := by simp [Region.wanted,hgd]
 rw [if_pos hw]
 obtain ⟨i0,hi0,hz0,hz1,hz2⟩ := info_parts noteInfo
 have hsz := hb.size
 have hnew := VRow.new wr (ntr n) 86
 refine wp_append_own _ s x 57 ho base 86 i0 _ 5 40 Tryz.underlying57 hi0 hz0 hz1 hz2 rfl (by omega) v l.length (cellsI .i64 (flat l)) hs (hown.alloc _) ⟨wr.heap.size,0,none⟩ 1 1 (ntr n) hx rfl ?_ ?_ (by unfold maxLen; omega) (by omega) (by simp; omega) ?_
 · intro j u hj
   rw [add_plain,Nat.zero_add]
   exact VRow.cell hnew j hj
 · intro u hu
   simp only [ntr,List.mem_cons,List.mem_nil_iff,or_false] at hu
   rcases hu with rfl | rfl | rfl | rfl | rfl <;> rfl
 · intro v' w' h1 h2 _
   refine h v' w' ?_ ?_
   · unfold OwnN
     rw [flat_app,cellsI_app,List.length_append]; exact h1
   · exact (hb.alloc (by omega) _).grown h2 (by simp; omega) (fun j hj => hown.blk j hj)
def RetN (w : World) (l : List Nt) (e : Ending) (w' : World) : Prop :=
 ∃ a cap,e = .returned (.slice a l.length cap) ∧ l.length ≤ cap ∧ NotesAt w' a l ∧ Below w.heap.size w w'
theorem lasts_next {l : List Nt} {k : Nat} (h : k < (lasts l).length) : ∃ n,(arr l)[(lost l + k) % 32]? = some n ∧ (lasts l).take (k + 1) = (lasts l).take k ++ [n] := by
 obtain ⟨n,h1,h2⟩ := lasts_at l k h
 refine ⟨n,h2,?_⟩
 rw [List.take_add_one,h1]; rfl
theorem RingAt.note {w : World} {g : Nat} {l : List Nt} (h : RingAt w g l) {i : Nat} {n : Nt} (hn : (arr l)[i]? = some n) :
 w.cell? ⟨g,i * 5,none⟩ = some (.int .i64 n.y) ∧ w.cell? ⟨g,i * 5 + 1,none⟩ = some (.int .i64 n.c) ∧ w.cell? ⟨g,i * 5 + 2,none⟩ = some (.int .i64 n.s) ∧ w.cell? ⟨g,i * 5 + 3,none⟩ = some (.int .i64 n.k) ∧ w.cell? ⟨g,i * 5 + 4,none⟩ = some (.int .i64 n.t) := by
 have hi : i < 32 := by have := (List.getElem?_eq_some_iff.1 hn).1; rw [arr_len] at this; exact this
 have hl := rgc_len l
 obtain ⟨g0,g1,g2,g3,g4⟩ := rgc_note l i n hn
 have f0 := IRow.cell h (i * 5) (by omega)
 have f1 := IRow.cell h (i * 5 + 1) (by omega)
 have f2 := IRow.cell h (i * 5 + 2) (by omega)
 have f3 := IRow.cell h (i * 5 + 3) (by omega)
 have f4 := IRow.cell h (i * 5 + 4) (by omega)
 rw [g0] at f0
 rw [g1] at f1
 rw [g2] at f2
 rw [g3] at f3
 rw [g4] at f4
 exact ⟨f0,f1,f2,f3,f4⟩
set_option maxHeartbeats 1600000 in
theorem all_any (g : Nat) (l : List Nt) (w : World) (h : RingAt w g l) (hl : l.length < 1099511627776) :
 Calls Tryz.prog 57 #[.pointer (some ⟨g,0,none⟩)] w (RetN w (lasts l)) := by
 have HR := Lib.hid h
 have c160 := h.came
 have HM : min (l.length : Int) 32 = (((lasts l).length : Nat) : Int) := by rw [lasts_len]; omega
 obtain ⟨m,hm⟩ : ∃ m,m = (lasts l).length := ⟨_,rfl⟩
 rw [← hm] at HM
 have hm32 : m ≤ 32 := by rw [hm,lasts_len]; omega
 have HN := Lib.hid hm
 have CL := fun W r => lost_any g l W r hl
 have hlost : lost l < 1099511627776 := by unfold lost; omega
 clear h hm
 go_enter Tryz.func57,Tryz.ntmps57
 go_wp2_with fail
 clear HM
 go_loopg [3,4,12] m (fun gg s3 _ s12 wr => ∃ k : Nat,k + gg = m ∧ s12 = .int .i64 k ∧ Hid (OwnN w.heap.size wr s3 ((lasts l).take k)) ∧ Hid (Below w.heap.size w wr))
 case atStart => exact ⟨0,by omega,rfl,Lib.hid OwnN.nil,Lib.hid (Below.refl _ _)⟩
 case round =>
  obtain ⟨k,hk,rfl,O,B⟩ := hrel
  clear c160
  have R := Lib.hid (show RingAt wr g l from onI HR.out B.out)
  by_cases hlt : k < m
  · have hli : (k : Int) < m := by omega
    obtain ⟨n,hn,hnext⟩ := lasts_next (l := l) (k := k) (by rw [← HN.out]; exact hlt)
    have HX := Lib.hid hnext
    obtain ⟨c0,c1,c2,c3,c4⟩ := R.out.note hn
    have hw1 : IntKind.i64.wrap (((lost l : Nat) : Int) + (k : Int)) = ((lost l : Nat) : Int) + (k : Int) := IntWalk.i64_in _ (by omega)
    have ht1 : (((lost l : Nat) : Int) + (k : Int)).tmod 32 = (((lost l + k) % 32 : Nat) : Int) := by rw [Int.tmod_eq_emod_of_nonneg (by omega)]; omega
    have hp1 : (lost l + k) % 32 < 32 := by omega
    have hp2 : (((lost l + k) % 32 : Nat) : Int) < 32 := by omega
    generalize (lost l + k) % 32 = p at *
    clear hn hnext
    generalize lost l = q at *
    go_wp2_with fail
    go_region_law (first
     | (refine step_append1N rfl (.tmp 15) (.tmp 26) rfl w.heap.size u3 ((lasts l).take k) n (by simp [Act.eval]) (by simp [Act.eval]) O.out.drew (by simp; omega) w B.out.drew (Nat.le_refl _) ?_; intro v27 w27 O27' B27'; have O27 := Lib.hid O27'; have B27 := Lib.hid B27'; clear O27' B27')
     | (go_simp; go_at_call 59; refine (CL _ R.out.drew).mono ?_; rintro e w' ⟨rfl,rfl⟩))
    go_wp2
    go_roundg (gk - 1)
    case rel => exact ⟨k + 1,by omega,by go_num,Lib.hid (by rw [HX.out]; exact O27.out),B27⟩
    case measure => omega
  · obtain rfl : k = m := by omega
    rw [HN.out,List.take_length] at O
    obtain ⟨a,cap,rfl,hc,ha,-⟩ := O.out.form
    go_wp2_with fail
    go_ret
    exact ⟨a,cap,rfl,hc,ha,B.out⟩
end Rg
namespace Fu
open Cf (G)
open Sg (NN Si Face Rw res)
open Rg (Nt RingAt ntv)
def nte (k : Nat) (ev tr : Nat → Nat → Int) (i j : Nat) : Nt := ⟨k,i,j,ev i j - 1,tr i j⟩
def nre (k : Nat) (ev tr : Nat → Nat → Int) (i n : Nat) : List Nt := (List.range n).filterMap fun j => if ev i j = 0 then none else some (nte k ev tr i j)
def nse (k : Nat) (ev tr : Nat → Nat → Int) (n : Nat) : List Nt := (List.range n).flatMap fun i => nre k ev tr i 8
section
variable (k : Nat) (ev tr : Nat → Nat → Int)
theorem nre_yes (i n : Nat) (h : ev i n ≠ 0) : nre k ev tr i (n + 1) = nre k ev tr i n ++ [nte k ev tr i n] := by
 unfold nre
 rw [List.range_succ,List.filterMap_append]
 congr 1
 simp [h]
theorem nre_no (i n : Nat) (h : ev i n = 0) : nre k ev tr i (n + 1) = nre k ev tr i n := by
 unfold nre
 rw [List.range_succ,List.filterMap_append]
 simp [h]
theorem nre_zero (i : Nat) : nre k ev tr i 0 = [] := rfl
theorem nse_next (n : Nat) : nse k ev tr (n + 1) = nse k ev tr n ++ nre k ev tr n 8 := by
 unfold nse
 rw [List.range_succ,List.flatMap_append]
 simp
theorem nre_len (i n : Nat) : (nre k ev tr i n).length ≤ n := by
 unfold nre
 have := List.length_filterMap_le (fun j => if ev i j = 0 then none else some (nte k ev tr i j)) (List.range n)
 rwa [List.length_range] at this
theorem nse_len (n : Nat) : (nse k ev tr n).length ≤ 8 * n := by
 induction n with
 | zero => simp [nse]
 | succ n ih =>
   rw [nse_next,List.length_append]
   have := nre_len k ev tr n 8
   omega
end
theorem size13 (w : World) : (sizeOf 109).run Tryz.prog w = .ok 13 w := by kernel_rfl
theorem aggR1 (w : World) : (isAgg 109).run Tryz.prog w = .ok true w := by simp [isAgg,run_underlying Tryz.underlying109]
theorem index_r (c : List Int) (s : Nat → Si) (r : Nat → Nat → Rw) (sh : Int) {j : Nat} (hj : j < 8) (w : World) :
 (Instr.index 110 (.agg (rss c s r sh 8).toArray) (.int .i64 (j : Int))).run Tryz.prog w = .ok (.agg (res c (s j) (r j) sh).toArray) w := by
 refine Ot.run_index Tryz.underlying110 _ j hj 13 _ (size13 w) ?_
 simp only [part,Sem.run_bind,aggR1,Result.andThen_ok,if_true,size13,Sem.run_pure]
 rcases eight hj with rfl | rfl | rfl | rfl | rfl | rfl | rfl | rfl <;> rfl
structure Nts (F : Face) (W : World) (P : Pl) (c : List Int) (m : Fs) (R : List Value) (ev tr : Nat → Nat → Int) (X : World) (K j : Nat) : Prop where
 goes : Goes F W P X P c { m with notes := m.notes ++ (nse m.k ev tr K ++ nre m.k ev tr K j) }
 box : VRow X W.heap.size 110 R
section
variable {F : Face} {W X X' : World} {P : Pl} {c : List Int} {m : Fs} {R : List Value} {ev tr : Nat → Nat → Int} {K j : Nat}
theorem Nts.on (H : Nts F W P c m R ev tr X K j) (b : Below X.heap.size X X') : Nts F W P c m R ev tr X' K j := ⟨H.goes.on b,onB H.box b⟩
theorem Nts.no (H : Nts F W P c m R ev tr X K j) (h : ev K j = 0) : Nts F W P c m R ev tr X K (j + 1) := ⟨by rw [nre_no _ _ _ _ _ h]; exact H.goes,H.box⟩
theorem Nts.done (H : Nts F W P c m R ev tr X K 8) : Nts F W P c m R ev tr X (K + 1) 0 := ⟨by rw [nre_zero,List.append_nil,nse_next]; exact H.goes,H.box⟩
theorem Nts.yes (L : Lie F W P c m) (H : Nts F W P c m R ev tr X K j) (h : ev K j ≠ 0) (v : RingAt X' P.r (m.notes ++ (nse m.k ev tr K ++ nre m.k ev tr K j) ++ [nte m.k ev tr K j])) (b : Only P.r X X') : Nts F W P c m R ev tr X' K (j + 1) := by
 have g := H.goes.ring v b
 refine ⟨?_,H.box.only b (fun e => ?_)⟩
 · have e : m.notes ++ (nse m.k ev tr K ++ (nre m.k ev tr K j ++ [nte m.k ev tr K j])) = m.notes ++ (nse m.k ev tr K ++ nre m.k ev tr K j) ++ [nte m.k ev tr K j] := by simp
   rw [nre_yes _ _ _ _ _ h,e]
   exact g
 · have := L.free (k := W.heap.size) (Nat.le_refl _)
   rw [e,L.cr] at this; omega
end
set_option maxRecDepth 100000 in
set_option maxHeartbeats 3200000 in
theorem note_any {F : Face} {W : World} {P : Pl} {c : List Int} {m : Fs} (L : Lie F W P c m) (hT : Tp.TabAt W) (hl : m.notes.length < 549755813888) (s : Nat → Si) (r : Nat → Nat → Rw) (sh : Int) :
 Calls Tryz.prog 40 #[.pointer (some ⟨P.f,0,none⟩),.agg (rss c s r sh 8).toArray] W fun e w' => e = .returned (.tuple #[]) ∧
  Goes F W P w' P c { m with notes := m.notes ++ nse m.k (fun i j => Sg.evi c (s j) (r j) sh i) (fun i j => Sg.tri c (s j) (r j) sh i) (NN c) } := by
 have h4 : NN c ≤ 4 := L.n4
 have hv := VRow.new W (rss c s r sh 8) 110
 have hb := (Below.refl W.heap.size W).alloc (Nat.le_refl _) (.cells (rss c s r sh 8).toArray 110)
 obtain ⟨ev,hev⟩ : ∃ ev : Nat → Nat → Int,ev = fun i j => Sg.evi c (s j) (r j) sh i := ⟨_,rfl⟩
 obtain ⟨tr,htr⟩ : ∃ tr : Nat → Nat → Int,tr = fun i j => Sg.tri c (s j) (r j) sh i := ⟨_,rfl⟩
 rw [← hev,← htr]
 have T0 : Nts F W P c m (rss c s r sh 8) ev tr (W.alloc (.cells (rss c s r sh 8).toArray 110)) 0 0 := ⟨by
  have : m.notes ++ (nse m.k ev tr 0 ++ nre m.k ev tr 0 0) = m.notes := by simp [nse,nre]
  rw [this]; exact (Goes.refl L).on hb,hv⟩
 have HT0 := Lib.hid T0
 have HB := Lib.hid hb
 have C1 := Lib.hid ((L.on hb).fus.cell 1 (v := .slice (some ⟨P.tb,0,none⟩) (NN c) P.cap) rfl)
 have IR := fun (X : World) (j : Nat) (hj : j < 8) => index_r c s r sh hj X
 have S13 := Lib.hid (fun j => sizeRZ (res c (s j) (r j) sh) rfl)
 have O13 := Lib.hid (fun j => Sg.res_one c (s j) (r j) sh)
 have E13 := Lib.hid (fun j => show ∀ K,K < 4 → (res c (s j) (r j) sh)[9 + K]? = some (.int .i64 (ev K j)) ∧ (res c (s j) (r j) sh)[5 + K]? = some (.int .i64 (tr K j)) from fun K hK => by
  rw [hev,htr]
  rcases four hK with rfl | rfl | rfl | rfl <;> exact ⟨rfl,rfl⟩)
 have BD := Lib.hid (fun K j => show 0 ≤ ev K j ∧ ev K j ≤ 3 ∧ 0 ≤ tr K j ∧ tr K j ≤ 63 from by
  rw [hev,htr]; exact ⟨(evi_bd K).1,(evi_bd K).2,(tri_bd K).1,(tri_bd K).2⟩)
 have hlen : ∀ j,(res c (s j) (r j) sh).length = 13 := fun _ => rfl
 have HLN := Lib.hid hlen
 have SR := Lib.hid (sizeRR (rss c s r sh 8) (rss_len c s r sh 8))
 generalize hrr : rss c s r sh 8 = R at *
 obtain ⟨rs,hrs⟩ : ∃ rs : Nat → List Value,rs = fun j => res c (s j) (r j) sh := ⟨_,rfl⟩
 have er : ∀ j,res c (s j) (r j) sh = rs j := fun j => by rw [hrs]
 simp only [er] at IR S13 O13 E13 HLN
 clear hrs er hlen hv hb T0 hrr hev htr
 have HL := Lib.hid L
 have HTA := Lib.hid hT
 clear L hT
 go_enter Tryz.func40,Tryz.ntmps40
 go_upto_region 1 with fail
 generalize W.alloc (.cells R.toArray 110) = W1 at *
 have c1 := C1.out
 go_wp2_with fail
 clear c1 C1
 go_loopg [13] (NN c) (fun gg s13 wr => ∃ K : Nat,K + gg = NN c ∧ s13 = .int .i64 K ∧ Hid (Nts F W P c m R ev tr wr K 0))
 case atStart => exact ⟨0,by omega,rfl,HT0⟩
 case round =>
  obtain ⟨K,hkg,rfl,H0⟩ := hrel
  clear HT0 HB
  by_cases hK : K < NN c
  · have hki : (K : Int) < NN c := by omega
    have hK4 : K < 4 := by omega
    have hki4 : (K : Int) < 4 := by omega
    go_wp2_with ((with_reducible show wpList _ _ _ (⟨some 16,_,_,_,_,_⟩ :: _) _ _); refine VB.loaded rfl _ rfl W.heap.size rfl H0.out.box Tryz.underlying110 rfl SR.out ?_)
    go_loopg [17] 8 (fun g2 s17 wx => ∃ j : Nat,j + g2 = 8 ∧ s17 = .int .i64 j ∧ Hid (Nts F W P c m R ev tr wx K j))
    case atStart => exact ⟨0,by omega,rfl,H0⟩
    case round =>
     obtain ⟨j,hjg,rfl,H⟩ := hrel
     clear H0
     by_cases hj : j < 8
     · have hji : (j : Int) < 8 := by omega
       have ij := IR wr j hj
       have VZ := Lib.hid (VRow.new wr Sg.zres 109)
       have b2 := Below.put ((Below.refl wr.heap.size wr).alloc (Nat.le_refl _) (.cells Sg.zres.toArray 109)) (Nat.le_refl _) (rs j).toArray
       have HX := Lib.hid (H.out.on b2)
       have VX := Lib.hid (VZ.out.put (rs j))
       have s13 := S13.out j
       have o13 := O13.out j
       have e13 := Lib.hid (E13.out j K hK4)
       have l13 := Lib.hid (HLN.out j)
       have bd := Lib.hid (BD.out K j)
       clear b2
       generalize rs j = rj at *
       go_upto_region 7 with (first
        | ((with_reducible show wpList _ _ _ (⟨some 20,_,_,_,_,_⟩ :: _) _ _); refine Ot.wpList_index rfl _ _ _ rfl R.toArray j _ rfl rfl ij ?_)
        | ((with_reducible show wpList _ _ _ (⟨_,.alloc 109,_,_,_,_⟩ :: _) _ _); refine wpList_lay rfl _ rfl Sg.zres (fun _ => by kernel_rfl) ?_)
        | ((with_reducible show wpList _ _ _ (⟨none,.store _ (.tmp 6) _,_,_,_,_⟩ :: _) _ _); refine VB.store rfl _ _ rfl wr.heap.size rj rfl rfl VZ.out s13 l13.out.symm o13 ?_))
       generalize ((wr.alloc (.cells Sg.zres.toArray 109)).setRow wr.heap.size rj.toArray) = X at *
       have e9 := VX.out.cell _ (e13.out.1)
       have e5 := VX.out.cell _ (e13.out.2)
       have c10 := HX.out.goes.lie.fus.cell 10 (v := ptr P.r) rfl
       have c11 := HX.out.goes.lie.fus.cell 11 (v := .int .i64 m.k) rfl
       by_cases hz : ev K j = 0
       · rw [hz] at e9
         have HN := Lib.hid (HX.out.no hz)
         clear e5 c10 c11 hz
         go_wp2_with fail
         go_roundg (gk - 1)
         case rel => exact ⟨j + 1,by omega,by go_num,HN⟩
         case measure => omega
       · obtain ⟨b1,b2,b3,b4⟩ := bd.out
         have hn : Rg.rgn (nte m.k ev tr K j) = true := by
          rw [Rg.rgn_iff]
          unfold nte
          simp only
          omega
         have HXD := Lib.hid (HX.out.on ((Below.refl X.heap.size X).drew))
         have CA := Rg.add_yes P.r _ (nte m.k ev tr K j) X.drew (HXD.out.goes.tab HTA.out HL.out.tz) HXD.out.goes.lie.rng
          (by
           show (m.notes ++ (nse m.k ev tr K ++ nre m.k ev tr K j)).length < _
           rw [List.length_append,List.length_append]
           have := nse_len m.k ev tr K
           have := nre_len m.k ev tr K j
           omega) hn
         have HY := Lib.hid (fun (X' : World) v b => HXD.out.yes (X' := X') HL.out hz v b)
         change Calls _ _ #[_,.agg #[.int .i64 m.k,.int .i64 K,.int .i64 j,.int .i64 (ev K j - 1),.int .i64 (tr K j)]] _ _ at CA
         have HWR := Lib.hid (show 0 ≤ ev K j ∧ ev K j ≤ 3 from ⟨b1,b2⟩)
         clear hn HX
         obtain ⟨e,he⟩ : ∃ e,ev K j = e := ⟨_,rfl⟩
         rw [he] at e9 CA HWR hz b1 b2
         go_upto_region 9 with fail
         refine Tail.wp_region_quiet_tail 17 (by kernel_rfl) (by kernel_rfl) ?_
         simp only [List.take_succ_cons,List.take_zero,List.drop_succ_cons,List.drop_zero]
         repeat (go_big_quiet_step (fail))
         refine wpQuiet_nil ?_
         go_wp2_with (go_at_call 81; refine CA.mono ?_; rintro e1 w1 ⟨rfl,r1,o1⟩; have HN := Lib.hid (HY.out w1 r1 o1); clear r1 o1)
         go_roundg (gk - 1)
         case rel => exact ⟨j + 1,by omega,by go_num,HN⟩
         case measure => omega
     · obtain rfl : j = 8 := by omega
       go_wp2_with fail
       go_roundg (NN c - K - 1)
       case rel => exact ⟨K + 1,by omega,by go_num,Lib.hid H.out.done⟩
       case measure => omega
  · obtain rfl : K = NN c := by omega
    have HG := Lib.hid H0.out.goes
    rw [Fu.nre_zero,List.append_nil] at HG
    go_wp2_with fail
    exact bodyPost_end (results_none rfl _ _ _) rfl ⟨rfl,HG.out⟩
end Fu
end Go.Proofs.YticidhbnljdidaaGreatDoor
