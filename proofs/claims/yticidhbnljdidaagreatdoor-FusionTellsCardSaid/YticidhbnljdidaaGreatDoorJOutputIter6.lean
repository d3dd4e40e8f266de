/-
 The iterators of package output (statuses, words): contracts by walking the Go text, for every loop body that leaves what the second one reads as it is. Conditions: how an output, and bytes, lie.
 A range over a function whose loop variable lies in a box of its own: the round begins with making it. No function of the program is walked here. No conditions beyond those said.
 What Failed and Right of package output tell: contracts by walking the Go text (ranges over the iterator statuses). Conditions: that an output has eight values and eight statuses.
 What Right of package output tells: a contract by walking the Go text (a loop over the values, a range over the iterator statuses). Conditions: that an output has eight values and eight statuses.
 'x = append(x, f(..)...)' where x lies in a box, in a region that draws its order: what the call, the append and the store do, phase by phase. No function of the program is walked here. No conditions beyond those said.
 What Word of package status, and Right and Word of rudderref16, tell: contracts by walking the Go text. No conditions.
-/
import Derived.Test.YticidhbnljdidaaGreatDoorJFixMaskRef3
import Derived.Test.YticidhbnljdidaaGreatDoorJTripSeq2
import Derived.Test.YticidhbnljdidaaGreatDoorJFusionMath6
import Derived.RangeFuncNested
import Derived.RangeFuncBound
import Derived.RangeFuncCalls
import Derived.RangeFuncLeaves
import Derived.Shelf.Abstract
import Derived.Shelf.RegionOpen
import Derived.OwnWalkIn
import Derived.TacticsInMore
import Derived.LoopNIn
import Derived.LoopIn
import Derived.Test.YticidhbnljdidaaGreatDoorJEqualWalks5
import Derived.RegionTactic
import Derived.BigQuiet
import Derived.Test.YticidhbnljdidaaGreatDoorJSignalState4
import Derived.Test.YticidhbnljdidaaGreatDoorJAgg8
import Derived.Maps.AppendAt
namespace Go.Proofs.YticidhbnljdidaaGreatDoor
set_option maxRecDepth 100000
open Go.ChangeShapes Go.WideShapes Go.ChangeAt Go.RowKit Go.Deep Go.Shelf
namespace Ot
open Ss (St str zer stv)
open Rf
open Wd (get2v get2b)
open Cr (Bytes)
attribute [local go_sem] Oper.semAt_some
def encs (o : Ou) (x : Fin 8) : Array Value := #[.agg (str (o.s.getD x.val zer)).toArray]
def encw (l : List Int) (x : Fin 8) : Array Value := #[.int .i64 x.val,.int .i64 (wd l x.val)]
theorem row_range {w : World} {g : Nat} {t : TypeId} {cs : List Value} (h : VRow w g t cs) : w.rangeAt g 0 cs := fun j v hv => VRow.cell h (0 + j) (by rw [Nat.zero_add]; exact hv)
theorem grown_lay (W : World) (o : Obj) (cs : Array Value) : W.grownBy ((W.alloc o).setRow W.heap.size cs) none :=
 ⟨rfl,rfl,rfl,by simp,fun k hk _ => (setRow_other _ _ _ _ (by omega)).trans (Below.heap_alloc W o k hk)⟩
theorem statuses_any (o : Ou) (w : World) :
 Calls Tryz.prog 68 #[.agg (ouc o).toArray] w fun e w' => e = .returned (.func (.func 107) #[] #[.pointer (some ⟨w.heap.size,0,none⟩)]) ∧ w' = w.alloc (.cells (ouc o).toArray 40) := by
 generalize (ouc o).toArray = cs
 go_enter Tryz.func68,Tryz.ntmps68
 go_wp2
 go_ret
 exact ⟨rfl,rfl⟩
theorem words_any (a : Option Addr) (n cap : Nat) (w : World) :
 Calls Tryz.prog 105 #[.slice a n cap] w fun e w' => e = .returned (.func (.func 152) #[] #[.pointer (some ⟨w.heap.size,0,none⟩)]) ∧ w' = w.alloc (.cells #[.slice a n cap] 41) := by
 go_enter Tryz.func105,Tryz.ntmps105
 go_wp2
 go_ret
 exact ⟨rfl,rfl⟩
set_option maxRecDepth 100000 in
set_option maxHeartbeats 1600000 in
theorem statuses_goes (n : Nat) (hn : 1 ≤ n) (B : Nat) (o : Ou) (k : Ok o) (l : Nat) (V : World) (hB : VRow V B 40 (ouc o)) :
 Goes Fence.wide n Tryz.prog 107 #[.pointer (some ⟨B,0,none⟩)] (encs o) (fun _ _ => True) (fun xs => xs.map Fin.val = List.range 8) (fun _ => True) 8 (fun pre x => x.val = pre.length) l V := by
 intro J Jx hJ _ hY h0
 have HR := Lib.hid (range_s hB k)
 have HZ := Lib.hid (sizeSS k)
 have HK := Lib.hid k
 clear hB k
 refine callsIn_of_wp Tryz.func107 rfl trivial ?_ rfl
 simp only [Tryz.ntmps107,List.size_toArray,List.length_cons,List.length_nil,Nat.reduceAdd,Nat.reduceSub,Array.replicate_succ,Array.replicate_zero,List.push_toArray,List.append_toArray,List.nil_append,List.cons_append]
 gi_wp2_with ((with_reducible show wpListIn _ _ _ _ _ (⟨some 6,_,_,_,_,_⟩ :: _) _ _); refine wpListIn_loadR rfl _ _ rfl B 9 rfl (o.s.flatMap str) _ HR.out Tryz.underlying38 rfl HZ.out ?_)
 gi_loopw [7] (fun i wr => ∃ (k : Nat) (pre : List (Fin 8)),k ≤ 8 ∧ i = .int .i64 k ∧ pre.map Fin.val = List.range k ∧ J pre wr)
  (fun i _ => 8 - (intOf i).toNat)
 case atStart => exact ⟨0,[],Nat.zero_le _,rfl,rfl,h0⟩
 case round =>
  obtain ⟨k,pre,hk,rfl,hpre,hJs⟩ := hrel
  have hlenp : pre.length = k := by have := congrArg List.length hpre; simpa using this
  by_cases hlt : k < 8
  · have hki : (k : Int) < 8 := by omega
    have HI := Lib.hid (fun W => index_s HK.out k hlt W)
    have RN := Lib.hid (VRow.new wr (str zer) 37)
    obtain ⟨fn,tmps,assign,body,hy,hYR⟩ := hY pre ⟨k,hlt⟩ ((wr.alloc (.cells #[.int .i64 0,.int .i64 0,.int .i64 0,.bool false] 37)).setRow wr.heap.size (str (o.s.getD k zer)).toArray) (hJ _ _ _ none hJs (grown_lay _ _ _) (fun r e => by cases e)) (by omega) hlenp.symm
    dsimp only [encs] at hy
    generalize o.s.getD k zer = s at *
    have L0 : VRow ((wr.alloc (.cells #[.int .i64 0,.int .i64 0,.int .i64 0,.bool false] 37)).setRow wr.heap.size (str s).toArray) wr.heap.size 37 (str s) := ((VRow.new wr (str zer) 37).put (str s))
    gi_wp2_with (first
     | ((with_reducible show wpListIn _ _ _ _ _ (⟨some 9,_,_,_,_,_⟩ :: _) _ _); refine wpListIn_index rfl _ _ _ rfl _ k _ rfl rfl (HI.out _) ?_)
     | ((with_reducible show wpListIn _ _ _ _ _ (⟨none,.store _ (.tmp 4) _,_,_,_,_⟩ :: _) _ _); refine wpListIn_storeW rfl _ _ _ _ rfl wr.heap.size (str zer) (str s) rfl rfl RN.out Ss.sizeS rfl (Ss.str_one s) ?_)
     | ((with_reducible show wpListIn _ _ _ _ _ (⟨some 11,_,_,_,_,_⟩ :: _) _ _); refine wpListIn_loadR rfl _ _ rfl wr.heap.size 0 rfl (str s) _ (row_range L0) Tryz.underlying37 rfl Ss.sizeS ?_))
    refine hYR.mono ?_
    rintro e W3 (⟨rfl,hJ3,-⟩ | ⟨rfl,hJx3,-⟩)
    · gi_wp2
      go_roundw
      case rel => exact ⟨k + 1,pre ++ [⟨k,hlt⟩],by omega,by simp,by rw [List.map_append,hpre,List.range_succ]; rfl,hJ3⟩
      case measure => simp [intOf]; omega
    · gi_wp2
      refine bodyPost_ret (results_none rfl _ _ _) rfl ?_
      exact ⟨⟨_,rfl⟩,.inr ⟨_,trivial,hJx3⟩⟩
  · obtain rfl : k = 8 := by omega
    gi_wp2
    go_end0
    exact ⟨⟨_,rfl⟩,.inl ⟨pre,hpre,hJs⟩⟩
def Dw (B : Nat) (a : Option Addr) (p : Addr) : Prop := p.block = B ∨ ∃ ad,a = some ad ∧ p.block = ad.block
theorem kc_ints {B Bk : Nat} {a : Option Addr} {l : List Int} {X Y : World} (h : Kc (Dw B a) Bk X Y) (q : IntsAt .u8 X a l) : IntsAt .u8 Y a l := by
 rcases q with rfl | ⟨b,off,rfl,hc⟩
 · exact Or.inl rfl
 · exact Or.inr ⟨b,off,rfl,fun i hi => h.1 _ _ (Or.inr ⟨_,rfl,rfl⟩) (hc i hi)⟩
theorem ints_cut {W : World} {a : Option Addr} {l : List Int} (h : IntsAt .u8 W a l) (hl : l.length = 52) (b off : Nat) (ha : a = some ⟨b,off,none⟩) (i : Nat) : IntsAt .u8 W (some ⟨b,off + (36 + 2 * i),none⟩) ((l.drop (36 + 2 * i)).take 2) := by
 rcases h with rfl | ⟨b',off',h1,hc⟩
 · simp at hl
 · rw [ha] at h1
   cases h1
   exact (intsAt_drop (36 + 2 * i) hc).take 2
theorem ints_some {W : World} {a : Option Addr} {l : List Int} (h : IntsAt .u8 W a l) (hl : 0 < l.length) : ∃ b off,a = some ⟨b,off,none⟩ := by
 rcases h with rfl | ⟨b,off,rfl,-⟩
 · simp at hl
 · exact ⟨b,off,rfl⟩
set_option maxRecDepth 100000 in
set_option maxHeartbeats 1600000 in
theorem words_goes (n : Nat) (hn : 1 ≤ n) (B b off cap : Nat) (x : List Int) (hl : x.length = 52) (hy : Bytes x) (hcap : 52 ≤ cap) (l Bk : Nat) (V : World) (hB : V.cell? ⟨B,0,none⟩ = some (.slice (some ⟨b,off,none⟩) 52 cap)) (hx : IntsAt .u8 V (some ⟨b,off,none⟩) x) :
 Goes Fence.wide n Tryz.prog 152 #[.pointer (some ⟨B,0,none⟩)] (encw x) (Kc (Dw B (some ⟨b,off,none⟩)) Bk) (fun xs => xs.map Fin.val = List.range 8) (fun _ => True) 8 (fun pre y => y.val = pre.length) l V := by
 intro J Jx hJ _ hY h0
 refine callsIn_of_wp Tryz.func152 rfl trivial ?_ rfl
 simp only [Tryz.ntmps152,List.size_toArray,List.length_cons,List.length_nil,Nat.reduceAdd,Nat.reduceSub,Array.replicate_succ,Array.replicate_zero,List.push_toArray,List.append_toArray,List.nil_append,List.cons_append]
 have HB := Lib.hid hB
 clear hB
 gi_wp2
 gi_loopw [7] (fun i wr => ∃ (k : Nat) (pre : List (Fin 8)),k ≤ 8 ∧ i = .int .i64 k ∧ pre.map Fin.val = List.range k ∧ J pre wr ∧ wr.cell? ⟨B,0,none⟩ = some (.slice (some ⟨b,off,none⟩) 52 cap) ∧ IntsAt .u8 wr (some ⟨b,off,none⟩) x)
  (fun i _ => 8 - (intOf i).toNat)
 case atStart => exact ⟨0,[],Nat.zero_le _,rfl,rfl,h0,HB.out,hx⟩
 case round =>
  obtain ⟨k,pre,hk,rfl,hpre,hJs,hb,hi⟩ := hrel
  have hlenp : pre.length = k := by have := congrArg List.length hpre; simpa using this
  by_cases hlt : k < 8
  · have hki : (k : Int) < 8 := by omega
    obtain ⟨fn,tmps,assign,body,hyy,hYR⟩ := hY pre ⟨k,hlt⟩ wr hJs (by omega) hlenp.symm
    dsimp only [encw] at hyy
    have HI := Lib.hid hi
    have HBX := Lib.hid hb
    have hl2 : ((x.drop (36 + 2 * k)).take 2).length = 2 := by rw [List.length_take,List.length_drop]; omega
    have C := Wd.get2_any (some ⟨b,off + (36 + 2 * k),none⟩) (cap - (36 + 2 * k)) ((x.drop (36 + 2 * k)).take 2) wr (by omega) ((hy.drop _).take _) (ints_cut hi hl b off rfl k)
    rw [hl2] at C
    have HW := Lib.hid (show get2v ((x.drop (36 + 2 * k)).take 2) = wd x k from rfl)
    rw [HW.out] at C
    clear hi hl2
    generalize wd x k = v at *
    generalize get2b ((x.drop (36 + 2 * k)).take 2) = vb at *
    gi_wp2_with fail
    refine ⟨trivial,(callsIn_wide.2 C).mono ?_⟩
    rintro e w' ⟨rfl,rfl⟩
    gi_wp2
    refine hYR.mono ?_
    rintro e W3 (⟨rfl,hJ3,hk3⟩ | ⟨rfl,hJx3,hk3⟩)
    · gi_wp2
      go_roundw
      case rel => exact ⟨k + 1,pre ++ [⟨k,hlt⟩],by omega,by simp,by rw [List.map_append,hpre,List.range_succ]; rfl,hJ3,hk3.1 _ _ (Or.inl rfl) HBX.out,kc_ints hk3 HI.out⟩
      case measure => simp [intOf]; omega
    · gi_wp2
      refine bodyPost_ret (results_none rfl _ _ _) rfl ?_
      exact ⟨⟨_,rfl⟩,.inr ⟨_,trivial,hJx3⟩⟩
  · obtain rfl : k = 8 := by omega
    gi_wp2
    go_end0
    exact ⟨⟨_,rfl⟩,.inl ⟨pre,hpre,hJs⟩⟩
end Ot
open Go.ChangeShapes Go.WideShapes Go.ChangeAt Go.RowKit Go.Deep
namespace Rf
variable {F : Fence} {n : Nat} {P : Program}
set_option maxHeartbeats 800000 in
theorem range_lays {α : Type} {g : Operand} {ps : Array Tmp} {assign body : Code} {Q : Exit → Act → World → Prop} {a : Act} {w : World}
 (hro : F.round = none) (h1 : 1 ≤ n) {gf : Nat} {lb : Array Value} (hg : a.eval g = .func (.func gf) #[] lb) (hF : F.fn gf) (eg : ∀ args w,(callFunc gf args).run P w = .ok (.enter gf args) w)
 {encs : α → Array Value} {Kp : World → World → Prop} {S Sp : List α → Prop} {N : Nat} {G : List α → α → Prop} (hseq : ∀ V,Below w.heap.size w V → V.heap.size = w.heap.size + 2 → Goes F (n - 1) P gf lb encs Kp S Sp N G (w.heap.size + 1) V)
 (hKt : ∀ {X Y Z : World},Kp X Y → Kp Y Z → Kp X Z) (hKb : ∀ (X : World) (k : Nat) (o o' : Obj),w.heap.size ≤ k → k < w.heap.size + 2 → X.heap[k]? = some o → o.isCells = false → Kp X (X.putObj k o')) (hps : ∀ x,(encs x).size = ps.size)
 (I : List α → World → Prop) (Ix : Code → List α → World → Prop) (hI : OwnFrom w.heap.size I) (hIx : ∀ c,OwnFrom w.heap.size (Ix c)) (h0 : I [] w) (Ib : List α → α → Act → World → Prop)
 (hIb : ∀ pre x a' (A B : World) row,Ib pre x a' A → A.grownBy B row → (∀ r,row = some r → w.heap.size ≤ r ∧ ∃ o : Obj,A.heap[r]? = some o ∧ o.isCells = false) → Ib pre x a' B)
 (hassign : ∀ (l : Nat) (pre : List α) (x : α) (W : World),I pre W → pre.length < N → G pre x → ∃ a' W',W.grownBy W' none ∧ Kp W W' ∧ Ib pre x a' W' ∧ ∀ K : Act → World → Prop,K a' W' →
  assign.wpIn (F.inRound l) (n - 1 - 1) P (Exit.then K (fun _ _ _ => False)) { tmps := (ps.zip (encs x)).foldl (fun t (p,v) => t.setIfInBounds p v) a.tmps,defers := [] } W)
 (hbody : ∀ (l : Nat) (pre : List α) (x : α) (a' : Act) (W : World),Ib pre x a' W → pre.length < N → G pre x → body.wpIn (F.inRound l) (n - 1 - 1) P (post w.heap.size Kp I Ix (pre ++ [x]) W) a' W)
 (hdone : ∀ (D : Nat) (xs : List α) (W : World),w.heap.size ≤ D → S xs → I xs W → W.heap[D]? = some (.deferred (some [])) → Q .normal { a with defers := { target := .collected D,args := #[] } :: a.defers } W)
 (hstop : ∀ (D : Nat) (c : Code) (pre : List α) (W : World),w.heap.size ≤ D → Sp pre → Ix c pre W → W.heap[D]? = some (.deferred (some [])) → c.wpIn F n P Q { a with defers := { target := .collected D,args := #[] } :: a.defers } W) :
 (Code.rangeFunc g ps assign body).wpIn F n P Q a w := by
 refine wpIn_rangeFunc fun fn hfn => ?_
 rw [hro]
 obtain ⟨D,hD⟩ : ∃ D,D = w.heap.size := ⟨_,rfl⟩
 obtain ⟨rec,hrec⟩ : ∃ rec : LoopState → Option Code → Loop,rec = fun st pe => { state := st,pending := pe,fn,tmps := a.tmps,params := ps,assign,body,defers := D } := ⟨_,rfl⟩
 have eq1 (st : LoopState) (pe : Option Code) : rec st pe = { state := st,pending := pe,fn,tmps := a.tmps,params := ps,assign,body,defers := D } := by rw [hrec]
 obtain ⟨V,hV⟩ : ∃ V,V = (w.alloc (.deferred (some []))).alloc (.loop (rec .ready none)) := ⟨_,rfl⟩
 have vL : V.heap[D + 1]? = some (.loop (rec .ready none)) := by
  rw [hV,hD,show w.heap.size + 1 = (w.alloc (.deferred (some []))).heap.size by simp]; exact World.alloc_heap_new _ _
 have vD : V.heap[D]? = some (.deferred (some [])) := by
  rw [hV,hD]; exact (Below.heap_alloc _ _ _ (by simp)).trans (World.alloc_heap_new w _)
 have vI : I [] V := by rw [hV]; exact hI.alloc _ (hI.alloc _ h0)
 have vB : Below w.heap.size w V := by rw [hV]; exact ((Below.refl _ w).alloc (Nat.le_refl _) _).alloc (by simp) _
 have vS : V.heap.size = w.heap.size + 2 := by rw [hV]; simp
 refine ⟨D + 1,[{ target := .collected D,args := #[] }],V,{ target := .fn (.func gf) lb,args := #[.func (.yield (D + 1)) #[] #[]] },V,gf,#[.func (.yield (D + 1)) #[] #[]] ++ lb,V,?_,?_,?_,?_,fun _ => h1,?_⟩
 · have := run_enterLoop_outer (P := P) (w := w) fn a.tmps ps assign body
   rw [hV,eq1,hD]; exact this
 · simp only [resolve,hg]
   simp [go_sem]
 · intro f hf
   simp [Target.leads] at hf
   subst hf; exact hF
 · simp [invoke,go_sem,eg]
 have put (X : World) (l k : Nat) (o : Obj) (hk : k ≠ l) : (X.putObj l o).heap[k]? = X.heap[k]? := World.putObj_heap_other hk
 have kept {A B : World} {row : Option Nat} {k : Nat} {o : Obj} (hg : A.grownBy B row) (hr : ∀ r,row = some r → V.heap.size ≤ r ∧ ∃ o : Obj,A.heap[r]? = some o ∧ o.isCells = false) (hk : k < D + 2) (h : A.heap[k]? = some o) : B.heap[k]? = some o :=
  (hg.block k (Array.getElem?_eq_some_iff.1 h).1 (fun e => by have := (hr k e.symm).1; omega)).trans h
 have low {A : World} {row : Option Nat} (hr : ∀ r,row = some r → V.heap.size ≤ r ∧ ∃ o : Obj,A.heap[r]? = some o ∧ o.isCells = false) : ∀ r,row = some r → w.heap.size ≤ r ∧ ∃ o : Obj,A.heap[r]? = some o ∧ o.isCells = false :=
  fun r e => ⟨by have := (hr r e).1; omega,(hr r e).2⟩
 have hs := hseq V vB vS
 rw [← hD] at hs
 refine (hs (fun pre X => I pre X ∧ X.heap[D + 1]? = some (.loop (rec .ready none)) ∧ X.heap[D]? = some (.deferred (some [])))
  (fun pre X => ∃ c,Ix c pre X ∧ X.heap[D + 1]? = some (.loop (rec .done (some c))) ∧ X.heap[D]? = some (.deferred (some [])))
  (fun s A B row hs hg hr => ⟨hI s A B row hs.1 hg (low hr),kept hg hr (by omega) hs.2.1,kept hg hr (by omega) hs.2.2⟩)
  (fun s A B row hs hg hr => by
   obtain ⟨c,hc,hl,hk⟩ := hs
   exact ⟨c,hIx c s A B row hc hg (low hr),kept hg hr (by omega) hl,kept hg hr (by omega) hk⟩) ?_ ⟨vI,vL,vD⟩).mono ?_
 · -- a round
   rintro pre x X ⟨hi,hl,hd⟩ hlen hG
   have hy := run_yield (P := P) (args := encs x) hl (by rw [eq1]; exact hps x)
   simp only [eq1] at hy
   obtain ⟨a',X',g1,kp1,hib,hcont⟩ := hassign (D + 1) pre x X hi hlen hG
   have hl' : X'.heap[D + 1]? = some (.loop (rec .ready none)) := (g1.block _ (Array.getElem?_eq_some_iff.1 hl).1 (by simp)).trans hl
   have hd' : X'.heap[D]? = some (.deferred (some [])) := (g1.block _ (Array.getElem?_eq_some_iff.1 hd).1 (by simp)).trans hd
   refine ⟨fn,_,assign,body,hy,roundIn_of_wpIn hfn (hcont _ ⟨_,run_beginRound hl' (by rw [eq1]),?_⟩)⟩
   obtain ⟨X1,hX1⟩ : ∃ X1,X1 = X'.putObj (D + 1) (.loop { rec .ready none with state := .busy }) := ⟨_,rfl⟩
   rw [← hX1]
   have l1 : X1.heap[D + 1]? = some (.loop { rec .ready none with state := .busy }) := by rw [hX1]; exact Sq.turned (W := X') hl'
   have d1 : X1.heap[D]? = some (.deferred (some [])) := by rw [hX1]; exact (put _ _ _ _ (by omega)).trans hd'
   have k1 : Kp X X1 := by rw [hX1]; exact hKt kp1 (hKb _ _ _ _ (by omega) (by omega) hl' rfl)
   have i1 : Ib pre x a' X1 := by rw [hX1]; exact hIb _ _ _ _ _ _ hib (grownBy_putObj' _ _ _) (fun r e => by cases e; exact ⟨by omega,_,hl',rfl⟩)
   refine wpIn_mono (hbody _ pre x a' X1 i1 hlen hG) ?_
   have fin (j : Option Code) (Y : World) (h : KeepsFrom w.heap.size X1 Y) : (Instr.endRound (D + 1) j).run P Y = .ok (.bool j.isNone) (Y.putObj (D + 1) (.loop (rec (if j.isNone then .ready else .done) j))) ∧
    Y.heap[D + 1]? = some (.loop { rec .ready none with state := .busy }) ∧ (Y.putObj (D + 1) (.loop (rec (if j.isNone then .ready else .done) j))).heap[D + 1]? = some (.loop (rec (if j.isNone then .ready else .done) j)) ∧
    (Y.putObj (D + 1) (.loop (rec (if j.isNone then .ready else .done) j))).heap[D]? = some (.deferred (some [])) := by
    have y1 := h.same _ _ (by omega) l1 rfl
    have y2 := run_endRound (P := P) j y1
    simp only [eq1] at y2 ⊢
    simp only [eq1] at y1
    exact ⟨y2,y1,Sq.turned (W := Y) y1,(put _ _ _ _ (by omega)).trans (h.same _ _ (by omega) d1 rfl)⟩
   have stop (c : Code) (Y : World) (h : KeepsFrom w.heap.size X1 Y) (hk : Kp X1 Y) (hx : Ix c (pre ++ [x]) Y) : ∃ v Z,(Instr.endRound (D + 1) (some c)).run P Y = .ok v Z ∧
    ((Ending.returned v = .returned (.bool true) ∧ (I (pre ++ [x]) Z ∧ Z.heap[D + 1]? = some (.loop (rec .ready none)) ∧ Z.heap[D]? = some (.deferred (some []))) ∧ Kp X Z) ∨
      (Ending.returned v = .returned (.bool false) ∧ (∃ c',Ix c' (pre ++ [x]) Z ∧ Z.heap[D + 1]? = some (.loop (rec .done (some c'))) ∧ Z.heap[D]? = some (.deferred (some []))) ∧ Kp X Z)) := by
    obtain ⟨f1,f2,f3,f4⟩ := fin (some c) Y h
    exact ⟨_,_,f1,.inr ⟨rfl,⟨c,(hIx c).putObj _ hx (by omega) f2 rfl,f3,f4⟩,hKt (hKt k1 hk) (hKb _ _ _ _ (by omega) (by omega) f2 rfl)⟩⟩
   rintro e b Y hp
   cases e with
   | normal =>
     obtain ⟨p1,p2,p3⟩ := hp
     obtain ⟨f1,f2,f3,f4⟩ := fin none Y p1
     exact ⟨_,_,f1,.inl ⟨rfl,⟨hI.putObj _ p3 (by omega) f2 rfl,f3,f4⟩,hKt (hKt k1 p2) (hKb _ _ _ _ (by omega) (by omega) f2 rfl)⟩⟩
   | ret => exact stop _ _ hp.1 hp.2.1 hp.2.2
   | exit id => exact stop _ _ hp.1 hp.2.1 hp.2.2
   | goto t => exact stop _ _ hp.1 hp.2.1 hp.2.2
   | panic ch => exact hp.elim
   | outgrown => exact hp.elim
 · -- behind the iterator
   rintro e X ⟨⟨v,rfl⟩,⟨xs,hx,hi,hl,hd⟩ | ⟨pre,hp,c,hi,hl,hd⟩⟩
   · have := run_endLoop (P := P) hl (by rw [eq1]; simp)
     simp only [eq1] at this
     refine ⟨none,_,this,?_⟩
     have := hdone D xs _ (by omega) hx (hI.putObj (.loop { rec .ready none with state := .exhausted }) hi (by omega) hl rfl) ((put _ _ _ _ (by omega)).trans hd)
     simpa only [eq1,List.cons_append,List.nil_append] using this
   · have := run_endLoop (P := P) hl (by rw [eq1]; simp)
     simp only [eq1] at this
     refine ⟨some c,_,this,?_⟩
     have := hstop D c pre _ (by omega) hp ((hIx c).putObj (.loop { rec .done (some c) with state := .exhausted }) hi (by omega) hl rfl) ((put _ _ _ _ (by omega)).trans hd)
     simpa only [eq1,List.cons_append,List.nil_append] using this
end Rf
namespace Ot
open Ss (St str zer stv rgt)
open Rf
attribute [local go_sem] Oper.semAt_some
theorem len8 {ys : List (Fin 8)} (h : ys.map Fin.val = List.range 8) : ys.length = 8 := by
 have := congrArg List.length h; simpa using this
theorem own_boxed {β : Type} (n₀ : Nat) (g : Nat) (t : TypeId) (v : β → Value) : OwnFrom n₀ fun s (W : World) => Boxed W g t (v s) :=
 own_but fun _ _ _ _ hs B hS => box_turned (cs := [_]) B (fun k q => (hS k q).2) hs
theorem lay_st (X : World) (s : St) : X.grownBy ((X.alloc (.cells #[.int .i64 0,.int .i64 0,.int .i64 0,.bool false] 37)).setRow X.heap.size (str s).toArray) none ∧
 VRow ((X.alloc (.cells #[.int .i64 0,.int .i64 0,.int .i64 0,.bool false] 37)).setRow X.heap.size (str s).toArray) X.heap.size 37 (str s) :=
 ⟨grown_lay _ _ _,(VRow.new X (str zer) 37).put (str s)⟩
theorem below_grown {n₀ : Nat} {w X Y : World} (h : Below n₀ w X) (g : X.grownBy Y none) (hn : n₀ ≤ X.heap.size) : Below n₀ w Y := h.grown g hn (fun k e => by cases e)
theorem boxed_grown {X Y : World} {g : Nat} {t : TypeId} {v : Value} (h : Boxed X g t v) (q : X.grownBy Y none) : Boxed Y g t v := h.kept q (by simp)
theorem row_grown {X Y : World} {g : Nat} {t : TypeId} {cs : List Value} (h : VRow X g t cs) (q : X.grownBy Y none) : VRow Y g t cs := (q.block g h.lt (by simp)).trans h
set_option maxRecDepth 100000 in
set_option maxHeartbeats 3200000 in
theorem failed_any {o : Ou} (k : Ok o) (w : World) :
 Calls Tryz.prog 67 #[.agg (ouc o).toArray] w fun e w' => e = .returned (.int .i64 (fl o.s : Nat)) ∧ Below w.heap.size w w' := by
 have HK := Lib.hid k
 have HZ := Lib.hid (sizeO k)
 have C1 := fun W => callsIn_wide (n := 5 - 1) |>.2 (statuses_any o W)
 have hBX := (VRow.new w (ouc o) 40).alloc (.cells #[.int .i64 0] 3)
 have HR0 := Lib.hid (range_o hBX)
 have HBX := Lib.hid hBX
 clear k hBX
 obtain ⟨ov,hov⟩ : ∃ ov,ouc o = ov := ⟨_,rfl⟩
 rw [hov] at HR0 HZ C1 HBX ⊢
 have HOV := Lib.hid hov
 clear hov
 refine (callsIn_wide (n := 5)).1 ?_
 refine callsIn_of_wp_marks Tryz.func67 rfl trivial ?_ rfl
 simp only [Tryz.ntmps67,List.size_toArray,List.length_cons,List.length_nil,Nat.reduceAdd,Nat.reduceSub,Array.replicate_succ,Array.replicate_zero,List.push_toArray,List.append_toArray,List.nil_append,List.cons_append]
 gi_wp2_with (first
  | ((with_reducible show wpListIn _ _ _ _ _ (⟨some 5,_,_,_,_,_⟩ :: _) _ _); refine wpListIn_loadR rfl _ _ rfl w.heap.size 0 rfl ov _ HR0.out Tryz.underlying40 rfl HZ.out ?_)
  | (refine ⟨trivial,?_⟩; gi_at_call 68; refine (C1 _).mono ?_; rintro e w2 ⟨rfl,rfl⟩))
 have b1 := (Boxed.new (w.alloc (.cells ov.toArray 40)) 3 (.int .i64 0)).alloc (.cells ov.toArray 40)
 rw [World.size_alloc] at b1
 have b2 := VRow.new ((w.alloc (.cells ov.toArray 40)).alloc (.cells #[.int .i64 0] 3)) ov 40
 rw [World.size_alloc,World.size_alloc] at b2
 have hB0 := (((Below.refl w.heap.size w).alloc (Nat.le_refl _) (.cells ov.toArray 40)).alloc (by simp) (.cells #[.int .i64 0] 3)).alloc (by simp; omega) (.cells ov.toArray 40)
 have hsz : (((w.alloc (.cells ov.toArray 40)).alloc (.cells #[.int .i64 0] 3)).alloc (.cells ov.toArray 40)).heap.size = w.heap.size + 3 := by simp
 generalize ((w.alloc (.cells ov.toArray 40)).alloc (.cells #[.int .i64 0] 3)).alloc (.cells ov.toArray 40) = W0 at *
 rw [← HOV.out] at b2
 have HF0 : fl (o.s.take 0) = 0 := by simp [fl]
 refine range_lays rfl (by omega) (gf := 107) (lb := #[.pointer (some ⟨w.heap.size + 1 + 1,0,none⟩)]) rfl trivial (enters_of Tryz.func107 (by kernel_rfl) rfl)
  (Kp := fun _ _ => True) (encs := encs o)
  (fun V hV _ => statuses_goes _ (by omega) (w.heap.size + 1 + 1) o HK.out _ V (b2.below hV b2.lt))
  (fun _ _ => trivial) (fun _ _ _ _ _ _ _ _ => trivial) (fun _ => rfl)
  (fun pre X => Boxed X (w.heap.size + 1) 3 (.int .i64 (fl (o.s.take pre.length) : Nat)) ∧ Below w.heap.size w X)
  (fun _ _ _ => False)
  (OwnFrom.and (own_boxed _ _ _ _) (ownFrom_below (Nat.le_refl _) (by omega)))
  (fun _ _ _ _ _ hs _ _ => hs)
  ⟨by rw [List.length_nil,HF0]; exact b1,hB0⟩
  (fun pre x a' X => (Boxed X (w.heap.size + 1) 3 (.int .i64 (fl (o.s.take pre.length) : Nat)) ∧ Below w.heap.size w X) ∧ ∃ g,VRow X g 37 (str (o.s.getD x.val zer)) ∧
   a' = { tmps := #[.agg ov.toArray,.pointer (some ⟨w.heap.size,0,none⟩),.int .i64 0,.pointer (some ⟨w.heap.size + 1,0,none⟩),.pointer (some ⟨g,0,none⟩),.agg ov.toArray,.func (.func 107) #[] #[.pointer (some ⟨w.heap.size + 1 + 1,0,none⟩)],.agg (str (o.s.getD x.val zer)).toArray,undef,undef,undef,undef,undef],defers := [] })
  (fun pre x a' A B row h hg hr => ?hib) ?assign ?body ?done ?stop
 case hib =>
  obtain ⟨⟨h1,h2⟩,g,h3,h4⟩ := h
  refine ⟨⟨own_boxed (β := Unit) W0.heap.size (w.heap.size + 1) 3 (fun _ => _) () A B row h1 hg hr,ownFrom_below (β := Unit) (Nat.le_refl _) (by omega) () A B row h2 hg hr⟩,g,own_row (β := Unit) W0.heap.size g _ (fun _ => _) () A B row h3 hg hr,h4⟩
 case assign =>
  rintro l pre x X ⟨h1,h2⟩ - -
  obtain ⟨q1,q2⟩ := lay_st X (o.s.getD x.val zer)
  refine ⟨_,_,q1,trivial,⟨⟨boxed_grown h1 q1,below_grown h2 q1 h2.size⟩,X.heap.size,q2,rfl⟩,fun K hK => ?_⟩
  dsimp only [encs]
  have RN := Lib.hid (VRow.new X (str zer) 37)
  generalize o.s.getD x.val zer = s at *
  gi_wp2_with ((with_reducible show wpListIn _ _ _ _ _ (⟨none,.store _ (.tmp 4) _,_,_,_,_⟩ :: _) _ _); refine wpListIn_storeW rfl _ _ _ _ rfl X.heap.size (str zer) (str s) rfl rfl RN.out Ss.sizeS rfl (Ss.str_one s) ?_)
  exact hK
 case body =>
  rintro lp pre x a' X ⟨⟨h1,h2⟩,g,h3,rfl⟩ hlen hG
  have HN := Lib.hid (fl_next o.s pre.length (by rw [HK.out.s]; exact hlen))
  rw [hG] at h3 ⊢
  have HL := Lib.hid (show (pre ++ [x]).length = pre.length + 1 by simp)
  have c1 := h1.cell
  have f1 := h1.frozen
  have H1 := Lib.hid h1
  have H2 := Lib.hid h2
  have e3 := h3.cell 3 rfl
  have HLE := fl_le (o.s.take pre.length)
  have HL8 : fl (o.s.take pre.length) ≤ 8 := by rw [List.length_take] at HLE; omega
  clear h1 h2 h3 HLE
  generalize o.s.getD pre.length zer = s at *
  generalize fl (o.s.take pre.length) = c at *
  cases hf : s.f
  · rw [hf] at e3 HN
    gi_wp2
    exact ⟨KeepsFrom.refl _ _,trivial,by rw [HL.out,HN.out]; exact H1.out,H2.out⟩
  · rw [hf] at e3 HN
    gi_wp2
    exact ⟨(KeepsOthers.setCell _ _ _).from _,trivial,by rw [HL.out,HN.out]; exact H1.out.set _,H2.out.setCell (p := ⟨w.heap.size + 1,0,none⟩) (by show w.heap.size ≤ w.heap.size + 1; omega) _⟩
 case done =>
  rintro D ys X hD hys ⟨h1,h2⟩ hK
  rw [len8 hys,List.take_of_length_le (by rw [HK.out.s]; omega)] at h1
  have c1 := h1.cell
  gi_wp2
  refine ⟨by simp,.inl ⟨_,_,rfl,run_takeDeferred hK,?_⟩⟩
  exact ⟨_,results_tmp rfl _ _ _,rfl,h2.trans (belowK_b (w := w) (Nat.le_refl _) X D _ _ (by omega) hK rfl rfl)⟩
 case stop =>
  rintro D cc pre X _ _ h _
  exact h.elim
theorem vall_next (l : List Int) (k : Nat) (h : k < l.length) : (l.take (k + 1)).all Wd.in4 = ((l.take k).all Wd.in4 && Wd.in4 (l.getD k 0)) := by
 rw [List.take_succ_eq_append_getElem h,List.all_append]; simp [List.getD_eq_getElem?_getD,h]
theorem sall_next (l : List St) (k : Nat) (h : k < l.length) : (l.take (k + 1)).all rgt = ((l.take k).all rgt && rgt (l.getD k zer)) := by
 rw [List.take_succ_eq_append_getElem h,List.all_append]; simp [List.getD_eq_getElem?_getD,h]
theorem all_no {α : Type} {p : α → Bool} {l : List α} {k : Nat} (h : (l.take k).all p = false) : l.all p = false := by
 rw [Bool.eq_false_iff] at h ⊢
 intro q
 exact h (List.all_eq_true.2 fun x hx => List.all_eq_true.1 q x (List.mem_of_mem_take hx))
end Ot
namespace Ot
open Ss (St str zer stv rgt)
open Rf
attribute [local go_sem] Oper.semAt_some
theorem orgt_q {o : Ou} (h : Wd.in2 o.q = false) : orgt o = false := by unfold orgt; rw [h]; rfl
theorem orgt_v {o : Ou} (h : o.v.all Wd.in4 = false) : orgt o = false := by unfold orgt; rw [h]; simp
theorem orgt_s {o : Ou} (h : o.s.all rgt = false) : orgt o = false := by unfold orgt; rw [h]; simp
set_option maxRecDepth 100000 in
set_option maxHeartbeats 3200000 in
theorem right_any {o : Ou} (k : Ok o) (w : World) :
 Calls Tryz.prog 25 #[.agg (ouc o).toArray] w fun e w' => e = .returned (.bool (orgt o)) ∧ Below w.heap.size w w' := by
 have HK := Lib.hid k
 have HZ := Lib.hid (sizeO k)
 have HZV := Lib.hid (sizeV k)
 have C1 := fun W => callsIn_wide (n := 5 - 1) |>.2 (statuses_any o W)
 have CR := fun s W => Ss.right_any s W
 have hBX := (VRow.new w (ouc o) 40).alloc (.cells #[.bool false] 4)
 have HR0 := Lib.hid (range_o hBX)
 have HRV := Lib.hid (range_v hBX)
 have e0 := hBX.cell 0 (v := .int .i64 o.q) rfl
 have b1 := Boxed.new (w.alloc (.cells (ouc o).toArray 40)) 4 (.bool false)
 rw [World.size_alloc] at b1
 have B0 := Lib.hid (((Below.refl w.heap.size w).alloc (Nat.le_refl _) (.cells (ouc o).toArray 40)).alloc (by simp) (.cells #[.bool false] 4))
 have hsz0 : ((w.alloc (.cells (ouc o).toArray 40)).alloc (.cells #[.bool false] 4)).heap.size = w.heap.size + 2 := by simp
 have HQ := Lib.hid (fun h => orgt_q (o := o) h)
 have HV := Lib.hid (fun h => orgt_v (o := o) h)
 have HS := Lib.hid (fun h => orgt_s (o := o) h)
 have HY := Lib.hid (show Wd.in2 o.q = true → o.v.all Wd.in4 = true → o.s.all rgt = true → orgt o = true from fun h1 h2 h3 => (orgt_iff o).2 ⟨h1,h2,h3⟩)
 have HI2 := Lib.hid (show Wd.in2 o.q = (decide (0 ≤ o.q) && decide (o.q ≤ 65535)) from rfl)
 clear k hBX
 obtain ⟨ov,hov⟩ : ∃ ov,ouc o = ov := ⟨_,rfl⟩
 rw [hov] at HR0 HRV HZ C1 B0 b1 e0 hsz0 ⊢
 have HOV := Lib.hid hov
 clear hov
 generalize orgt o = res at *
 generalize hq : o.q = q at *
 clear hq
 refine (callsIn_wide (n := 5)).1 ?_
 refine callsIn_of_wp_marks Tryz.func25 rfl trivial ?_ rfl
 simp only [Tryz.ntmps25,List.size_toArray,List.length_cons,List.length_nil,Nat.reduceAdd,Nat.reduceSub,Array.replicate_succ,Array.replicate_zero,List.push_toArray,List.append_toArray,List.nil_append,List.cons_append]
 have FIN0 : ∀ {X : World},Boxed X (w.heap.size + 1) 4 (.bool false) → Below w.heap.size w X → res = false → ∀ a : Act,a.tmps.getD 2 undef = .pointer (some ⟨w.heap.size + 1,0,none⟩) → ∃ v,(results Tryz.f25 a.tmps).run Tryz.prog X = .ok v X ∧ Ending.returned v = .returned (.bool res) ∧ Below w.heap.size w X := by
  intro X hb hB hr a ha
  have hc := hb.cell
  rw [Array.getD_eq_getD_getElem?] at ha
  exact ⟨.bool false,by simp [results,Tryz.f25,go_sem,ha,hc],by rw [hr],hB⟩
 by_cases h1 : q < 0
 · have HR := Lib.hid (HQ.out (by rw [HI2.out]; simp; omega))
   have c1 := b1.cell
   have f1 := b1.frozen
   gi_wp2
   refine FIN0 b1 B0.out HR.out _ ?_; rfl
 · by_cases h2 : 65536 ≤ q
   · have HR := Lib.hid (HQ.out (by rw [HI2.out]; simp; omega))
     have d1 : decide (q < 0) = false := by simpa using h1
     have c1 := b1.cell
     have f1 := b1.frozen
     gi_wp2
     refine FIN0 b1 B0.out HR.out _ ?_; rfl
   · have d1 : decide (q < 0) = false := by simpa using h1
     have d2 : decide (65536 ≤ q) = false := by simpa using h2
     have HQT := Lib.hid (show Wd.in2 q = true by rw [HI2.out]; simp; omega)
     gi_wp2_with ((with_reducible show wpListIn _ _ _ _ _ (⟨some 15,_,_,_,_,_⟩ :: _) _ _); refine wpListIn_loadR rfl _ _ rfl w.heap.size 1 rfl (cellsI .i64 o.v) _ HRV.out Tryz.underlying35 rfl HZV.out ?_)
     generalize (w.alloc (.cells ov.toArray 40)).alloc (.cells #[.bool false] 4) = W0 at *
     clear d1 d2 e0 h1 h2
     gi_loopw [16,4] (fun i s4 wr => ∃ k : Nat,k ≤ 8 ∧ i = .int .i64 k ∧ Hid ((o.v.take k).all Wd.in4 = true) ∧ W0 = wr) (fun i _ _ => 8 - (intOf i).toNat)
     case atStart => exact ⟨0,by omega,rfl,Lib.hid rfl,rfl⟩
     case round =>
      obtain ⟨k,hk,rfl,HT,rfl⟩ := hrel
      by_cases hlt : k < 8
      · have hki : (k : Int) < 8 := by omega
        have HI := Lib.hid (fun W => index_v HK.out k hlt W)
        have HX := Lib.hid (vall_next o.v k (by rw [HK.out.v]; exact hlt))
        have HI4 := Lib.hid (show Wd.in4 (o.v.getD k 0) = (decide (-2147483648 ≤ o.v.getD k 0) && decide (o.v.getD k 0 ≤ 2147483647)) from rfl)
        have HNO := Lib.hid (fun h => HV.out (all_no (k := k + 1) h))
        generalize o.v.getD k 0 = x at *
        have c1 := b1.cell
        have f1 := b1.frozen
        cases d1 : decide (x < -2147483648)
        · cases d2 : decide (2147483647 < x)
          · have HIN := Lib.hid (show Wd.in4 x = true by rw [HI4.out]; simp at d1 d2; simp; omega)
            gi_wp2_with ((with_reducible show wpListIn _ _ _ _ _ (⟨some 18,_,_,_,_,_⟩ :: _) _ _); refine wpListIn_index rfl _ _ _ rfl _ k _ rfl rfl (HI.out _) ?_)
            go_roundw
            case rel => exact ⟨k + 1,by omega,by go_num,Lib.hid (by rw [HX.out,HT.out,HIN.out]; rfl),by trivial⟩
            case measure => simp [intOf]; omega
          · have HR := Lib.hid (HNO.out (by rw [HX.out,HI4.out]; simp at d1 d2; simp; omega))
            gi_wp2_with ((with_reducible show wpListIn _ _ _ _ _ (⟨some 18,_,_,_,_,_⟩ :: _) _ _); refine wpListIn_index rfl _ _ _ rfl _ k _ rfl rfl (HI.out _) ?_)
            exact FIN0 (b1.set (.bool false)) (B0.out.setCell (p := ⟨w.heap.size + 1,0,none⟩) (by show w.heap.size ≤ w.heap.size + 1; omega) _) HR.out _ rfl
        · have HR := Lib.hid (HNO.out (by rw [HX.out,HI4.out]; simp at d1; simp; omega))
          gi_wp2_with ((with_reducible show wpListIn _ _ _ _ _ (⟨some 18,_,_,_,_,_⟩ :: _) _ _); refine wpListIn_index rfl _ _ _ rfl _ k _ rfl rfl (HI.out _) ?_)
          exact FIN0 (b1.set (.bool false)) (B0.out.setCell (p := ⟨w.heap.size + 1,0,none⟩) (by show w.heap.size ≤ w.heap.size + 1; omega) _) HR.out _ rfl
      · obtain rfl : k = 8 := by omega
        have HVT := Lib.hid (show o.v.all Wd.in4 = true by have := HT.out; rwa [List.take_of_length_le (by rw [HK.out.v]; omega)] at this)
        gi_wp2_with (first
         | ((with_reducible show wpListIn _ _ _ _ _ (⟨some 26,_,_,_,_,_⟩ :: _) _ _); refine wpListIn_loadR rfl _ _ rfl w.heap.size 0 rfl ov _ HR0.out Tryz.underlying40 rfl HZ.out ?_)
         | (refine ⟨trivial,?_⟩; gi_at_call 68; refine (C1 _).mono ?_; rintro e w2 ⟨rfl,rfl⟩))
        have b2 := b1.alloc (.cells ov.toArray 40)
        have v2 := VRow.new W0 ov 40
        rw [hsz0,← HOV.out] at v2
        have hB2 := B0.out.alloc B0.out.size (.cells ov.toArray 40)
        rw [← HOV.out] at hB2 b2
        have hsz : (W0.alloc (.cells (ouc o).toArray 40)).heap.size = w.heap.size + 3 := by simp [hsz0]
        rw [← HOV.out]
        generalize W0.alloc (.cells (ouc o).toArray 40) = W2 at *
        obtain ⟨ov2,hov2⟩ : ∃ ov2,ouc o = ov2 := ⟨_,rfl⟩
        rw [hov2]
        refine range_lays rfl (by omega) (gf := 107) (lb := #[.pointer (some ⟨w.heap.size + 2,0,none⟩)]) rfl trivial (enters_of Tryz.func107 (by kernel_rfl) rfl)
         (Kp := fun _ _ => True) (encs := encs o)
         (fun V hV _ => statuses_goes _ (by omega) (w.heap.size + 2) o HK.out _ V (v2.below hV v2.lt))
         (fun _ _ => trivial) (fun _ _ _ _ _ _ _ _ => trivial) (fun _ => rfl)
         (fun pre X => ((o.s.take pre.length).all rgt = true ∧ Boxed X (w.heap.size + 1) 4 (.bool false)) ∧ Below w.heap.size w X)
         (fun c _ X => ((c = .ret ∧ o.s.all rgt = false) ∧ Boxed X (w.heap.size + 1) 4 (.bool false)) ∧ Below w.heap.size w X)
         (OwnFrom.and (OwnFrom.and (ownFrom_pure _ _) (own_boxed _ _ _ _)) (ownFrom_below (Nat.le_refl _) (by omega)))
         (fun _ => OwnFrom.and (OwnFrom.and (ownFrom_pure _ _) (own_boxed _ _ _ _)) (ownFrom_below (Nat.le_refl _) (by omega)))
         ⟨⟨rfl,b2⟩,hB2⟩
         (fun pre x a' X => (((o.s.take pre.length).all rgt = true ∧ Boxed X (w.heap.size + 1) 4 (.bool false)) ∧ Below w.heap.size w X) ∧ ∃ g,VRow X g 37 (str (o.s.getD x.val zer)) ∧
          a' = { tmps := #[.agg ov2.toArray,.pointer (some ⟨w.heap.size,0,none⟩),.pointer (some ⟨w.heap.size + 1,0,none⟩),undef,u4,.pointer (some ⟨g,0,none⟩),.pointer (some ⟨w.heap.size,0,none⟩),.int .i64 q,.bool false,.bool false,.pointer (some ⟨w.heap.size,0,none⟩),.int .i64 q,.bool false,.bool false,.pointer (some ⟨w.heap.size,1,none⟩),
           .agg (cellsI .i64 o.v).toArray,.int .i64 8,.bool false,u18,u19,u20,u21,u22,u23,u24,u25,.agg ov2.toArray,.func (.func 107) #[] #[.pointer (some ⟨w.heap.size + 2,0,none⟩)],.agg (str (o.s.getD x.val zer)).toArray,undef,undef,undef],defers := [] })
         (fun pre x a' A B row h hg hr => ?hib) ?assign ?body ?done ?stop
        case hib =>
         obtain ⟨⟨⟨h0,h1⟩,h2⟩,g,h3,h4⟩ := h
         exact ⟨⟨⟨h0,own_boxed (β := Unit) W2.heap.size (w.heap.size + 1) 4 (fun _ => _) () A B row h1 hg hr⟩,ownFrom_below (β := Unit) (Nat.le_refl _) (by omega) () A B row h2 hg hr⟩,g,own_row (β := Unit) W2.heap.size g _ (fun _ => _) () A B row h3 hg hr,h4⟩
        case assign =>
         rintro l pre x X ⟨⟨h0,h1⟩,h2⟩ - -
         obtain ⟨q1,q2⟩ := lay_st X (o.s.getD x.val zer)
         refine ⟨_,_,q1,trivial,⟨⟨⟨h0,boxed_grown h1 q1⟩,below_grown h2 q1 h2.size⟩,X.heap.size,q2,rfl⟩,fun K hK => ?_⟩
         dsimp only [encs]
         have RN := Lib.hid (VRow.new X (str zer) 37)
         clear h0 h1 h2
         generalize o.s.getD x.val zer = s at *
         gi_wp2_with ((with_reducible show wpListIn _ _ _ _ _ (⟨none,.store _ (.tmp 5) _,_,_,_,_⟩ :: _) _ _); refine wpListIn_storeW rfl _ _ _ _ rfl X.heap.size (str zer) (str s) rfl rfl RN.out Ss.sizeS rfl (Ss.str_one s) ?_)
         exact hK
        case body =>
         rintro lp pre x a' X ⟨⟨⟨h0,h1⟩,h2⟩,g,h3,rfl⟩ hlen hG
         have HN := Lib.hid (sall_next o.s pre.length (by rw [HK.out.s]; exact hlen))
         have HNO := Lib.hid (fun h => all_no (p := rgt) (l := o.s) (k := pre.length + 1) h)
         rw [hG] at h3 ⊢
         have HL := Lib.hid (show (pre ++ [x]).length = pre.length + 1 by simp)
         have H0 := Lib.hid h0
         have H1 := Lib.hid h1
         have H2 := Lib.hid h2
         have RS := Lib.hid (row_range h3)
         clear h0 h1 h2 h3
         generalize o.s.getD pre.length zer = s at *
         have CS := CR s X
         unfold stv at CS
         change Calls _ _ #[.agg (str s).toArray] _ _ at CS
         cases hs : rgt s
         all_goals
          rw [hs] at CS HN
          have RSS := Lib.hid hs
          clear hs
         all_goals gi_wp2_with (first
          | ((with_reducible show wpListIn _ _ _ _ _ (⟨some 29,_,_,_,_,_⟩ :: _) _ _); refine wpListIn_loadR rfl _ _ rfl g 0 rfl (str s) _ RS.out Tryz.underlying37 rfl Ss.sizeS ?_)
          | (refine ⟨trivial,?_⟩; gi_at_call 69; refine (CallsIn.inRound lp (callsIn_wide.2 CS)).mono ?_; rintro e w2 ⟨rfl,bw⟩; have HB2 := Lib.hid (show Boxed w2 (w.heap.size + 1) 4 (.bool false) from VRow.below (cs := [_]) H1.out bw (VRow.lt (cs := [_]) H1.out)); have HB3 := Lib.hid (grow H2.out bw); have KF := Lib.hid (KeepsFrom.of_but (B := W2.heap.size) (But.of_below (S := fun _ => False) bw) (fun _ q => q.elim)); have c1 := HB2.out.cell; have f1 := HB2.out.frozen; clear bw))
         · exact ⟨KF.out.trans ((KeepsOthers.setCell _ _ _).from _),trivial,⟨⟨rfl,HNO.out (by rw [HN.out]; simp)⟩,HB2.out.set _⟩,HB3.out.setCell (p := ⟨w.heap.size + 1,0,none⟩) (by show w.heap.size ≤ w.heap.size + 1; omega) _⟩
         · exact ⟨KF.out,trivial,⟨by rw [HL.out,HN.out,H0.out]; rfl,HB2.out⟩,HB3.out⟩
        case done =>
         rintro D ys X hD hys ⟨⟨h0,h1⟩,h2⟩ hK
         rw [len8 hys,List.take_of_length_le (by rw [HK.out.s]; omega)] at h0
         have HR := Lib.hid (HY.out HQT.out HVT.out h0)
         have c1 := h1.cell
         have f1 := h1.frozen
         clear h0
         gi_wp2
         have hK' := (KeepsOthers.setCell X ⟨w.heap.size + 1,0,none⟩ (.bool true)).same D _ hK rfl
         refine ⟨by simp,.inl ⟨_,_,rfl,run_takeDeferred hK',?_⟩⟩
         have hc := (((h1.set (.bool true)).kept (grownBy_putObj' _ D (.deferred none)) (by simp; omega))).cell
         exact ⟨.bool true,by simp [results,Tryz.f25,go_sem,hc],by rw [HR.out],
          (h2.setCell (p := ⟨w.heap.size + 1,0,none⟩) (by show w.heap.size ≤ w.heap.size + 1; omega) _).trans (belowK_b (w := w) (Nat.le_refl _) _ D _ _ (by omega) hK' rfl rfl)⟩
        case stop =>
         rintro D cc pre X hD - ⟨⟨⟨rfl,hno⟩,h1⟩,h2⟩ hK
         have HR := Lib.hid (HS.out hno)
         gi_wp2
         refine ⟨by simp,.inl ⟨_,_,rfl,run_takeDeferred hK,?_⟩⟩
         have hc := (h1.kept (grownBy_putObj' _ D (.deferred none)) (by simp; omega)).cell
         exact ⟨.bool false,by simp [results,Tryz.f25,go_sem,hc],by rw [HR.out],h2.trans (belowK_b (w := w) (Nat.le_refl _) X D _ _ (by omega) hK rfl rfl)⟩
end Ot
namespace Ab
theorem owns_grow {base : Nat} {e : TypeId} {n : Nat} {X Y : World} {v : Value} {k : Nat} {xs : List Value} (h : X.ownsRow base e n v k xs) (b : Below X.heap.size X Y) : Y.ownsRow base e n v k xs := by
 rcases h with ⟨hl,⟨rfl,h0⟩ | ⟨g,cap,cur,rfl,hb,hh,q⟩⟩
 · exact ⟨hl,Or.inl ⟨rfl,h0⟩⟩
 · refine ⟨hl,Or.inr ⟨g,cap,cur,rfl,hb,(b.block g ?_).trans hh,q⟩⟩
   rcases Nat.lt_or_ge g X.heap.size with k | k
   · exact k
   · rw [Array.getElem?_eq_none k] at hh; cases hh
theorem keeps_below {X Y : World} (b : Below X.heap.size X Y) : KeepsOthers X Y :=
 ⟨b.size,fun k _ hk _ => (b.block k (Array.getElem?_eq_some_iff.1 hk).1).trans hk⟩
theorem boxed_on {X Y : World} {g : Nat} {t : TypeId} {v : Value} (h : Boxed X g t v) (b : Below X.heap.size X Y) : Boxed Y g t v := (b.block g h.lt).trans h
theorem boxed_row {X Y : World} {g : Nat} {t e : TypeId} {u v : Value} {base n k : Nat} {xs : List Value} (h : Boxed X g t u) (ht : t ≠ e) (hr : X.ownsRow base e n v k xs) (hg : X.grownBy Y v.ownBlock) : Boxed Y g t u := h.kept hg (h.not_row ht hr)
section
variable {P : Program} {X Y Z : World} {base bx : Nat} {T te : TypeId} {v : Value} {ls ns : List Int}
def Ph (X : World) (base bx : Nat) (T te : TypeId) (v : Value) (ls ns : List Int) : Nat → List Value → World → Prop
 | 0,_,Y => Below X.heap.size X Y
 | 1,vs,Y => Below X.heap.size X Y ∧ ∃ a cap,vs.getD 0 undef = .slice a ns.length cap ∧ IntsAt .u8 Y a ns
 | 2,vs,Y => (Below base X Y ∧ KeepsOthers X Y) ∧ Boxed Y bx T v ∧ OwnI .u8 base te Y (vs.getD 1 undef) (ls ++ ns)
 | _,_,Y => (Below base X Y ∧ KeepsOthers X Y) ∧ ∃ v',Boxed Y bx T v' ∧ OwnI .u8 base te Y v' (ls ++ ns)
theorem Ph.grow (hX : base ≤ X.heap.size) : ∀ (k : Nat) (vs : List Value) {Y Z : World},Ph X base bx T te v ls ns k vs Y → Below Y.heap.size Y Z → Ph X base bx T te v ls ns k vs Z
 | 0,_,_,_,h,b => Go.Proofs.YticidhbnljdidaaGreatDoor.grow h b
 | 1,_,_,_,⟨h,a,cap,e,i⟩,b => ⟨Go.Proofs.YticidhbnljdidaaGreatDoor.grow h b,a,cap,e,i.below b⟩
 | 2,_,_,_,⟨⟨h1,h2⟩,h3,h4⟩,b => ⟨⟨h1.trans (b.mono (Nat.le_trans hX h1.size)),h2.trans (keeps_below b)⟩,boxed_on h3 b,owns_grow h4 b⟩
 | _ + 3,_,_,_,⟨⟨h1,h2⟩,v',h3,h4⟩,b => ⟨⟨h1.trans (b.mono (Nat.le_trans hX h1.size)),h2.trans (keeps_below b)⟩,v',boxed_on h3 b,owns_grow h4 b⟩
theorem Ph.box (hb : Boxed X bx T v) : ∀ (k : Nat) (vs : List Value) {Y : World},k ≤ 2 → Ph X base bx T te v ls ns k vs Y → Boxed Y bx T v
 | 0,_,_,_,h => boxed_on hb h
 | 1,_,_,_,h => boxed_on hb h.1
 | 2,_,_,_,h => h.2.1
 | _ + 3,_,_,h,_ => by omega
theorem Ph.low : ∀ (k : Nat) (vs : List Value) {Y : World},base ≤ X.heap.size → Ph X base bx T te v ls ns k vs Y → Below base X Y
 | 0,_,_,h,q => q.mono h
 | 1,_,_,h,q => q.1.mono h
 | 2,_,_,_,q => q.1.1
 | _ + 3,_,_,_,q => q.1.1
theorem du_call {o : Oper} {a : Act} {f : FuncId} {args : Array Value} {vs : List Value} (h : Ph X base bx T te v ls ns 0 vs Y) (hx : (execOp a.eval o).run P Y = .ok (.enter f args) Y) (hc : Calls P f args Y (RetI .u8 Y ns)) {R : Act → World → Prop}
 (hR : ∀ al cap Z,Ph X base bx T te v ls ns 1 [.slice al ns.length cap,undef] Z → R (a.put o.dst (.slice al ns.length cap)) Z) : o.wp P a Y R (fun _ _ _ => False) := by
 refine Wr.wp_fn hx hc fun e W' q => ?_
 obtain ⟨al,cap,rfl,i,b⟩ := q
 exact ⟨_,rfl,hR al cap W' ⟨Go.Proofs.YticidhbnljdidaaGreatDoor.grow (show Below X.heap.size X Y from h) b,al,cap,rfl,i⟩⟩
theorem du_append {o : Oper} {a : Act} (s x : Operand) (t : TypeId) (ho : o.op = .call { callee := .builtin .append,args := #[s,x],argTypes := #[t,t] }) (i : TypeInfo) (h1 : P.underlying t = some (.slice te)) (h2 : P.info? te = some i) (h3 : i.zero = some (.int .u8 0)) (h4 : i.size = 1) (h5 : i.bytes = 1)
 (hX : base ≤ X.heap.size) (hT : T ≠ te) (hb : Boxed X bx T v) (hr : OwnI .u8 base te X v ls) (hn : 0 < ns.length) (hl : ls.length + ns.length ≤ 1000000) {x1 x2 : Value} (h : Ph X base bx T te v ls ns 1 [x1,x2] Y) (hs : a.eval s = v) (hx : a.eval x = x1) {R : Act → World → Prop}
 (hR : ∀ v' Z,Ph X base bx T te v ls ns 2 [x1,v'] Z → R (a.put o.dst v') Z) : o.wp P a Y R (fun _ _ _ => False) := by
 obtain ⟨hB,al,cap,e,hi⟩ := h
 have e' : x1 = .slice al ns.length cap := e
 subst e'
 obtain ⟨ad,rfl,hc⟩ := hi.source hn
 have hrY := owns_grow hr hB
 have hYs := hB.size
 refine wp_append_own _ s x t ho base te i (.int .u8 0) 1 1 h1 h2 h3 h4 h5 rfl (by decide) v ls.length (cellsI .u8 ls) hs hrY ad ns.length cap (cellsI .u8 ns) hx (by rw [cellsI_len]; omega) hc (cellsI_one _ _) (by unfold maxLen; omega) (by omega) (by omega) ?_
 intro v' w' q1 q2 _
 have hgb : Below base X w' := ((hB.mono hX).grown q2 (by omega) fun k e => (World.ownsRow.lt hrY k e).1)
 have hcl : ∀ (k : Nat) (o : Obj),v.ownBlock = some k → Y.heap[k]? = some o → o.isCells = true := fun k o e ho => by
  rcases hrY.2 with ⟨rfl,-⟩ | ⟨g,cap,cur,rfl,-,hh,-⟩
  · cases e
  · obtain rfl : g = k := by simpa [Value.ownBlock] using e
    rw [hh] at ho; cases ho; rfl
 refine hR v' w' ⟨⟨hgb,(keeps_below hB).trans (KeepsOthers.of_grownBy q2 hcl)⟩,boxed_row (boxed_on hb hB) hT hrY q2,?_⟩
 show OwnI .u8 base te w' v' (ls ++ ns)
 unfold OwnI
 rw [cellsI_app,List.length_append]; exact q1
theorem ph_store (hbx : base ≤ bx) (hT : T ≠ te) {x1 x2 : Value} (h : Ph X base bx T te v ls ns 2 [x1,x2] Y) : Ph X base bx T te v ls ns 3 [x1,x2] (Y.setCell ⟨bx,0,none⟩ x2) := by
 obtain ⟨⟨h1,h2⟩,h3,h4⟩ := h
 have h4' : OwnI .u8 base te Y x2 (ls ++ ns) := h4
 have hne : some bx ≠ x2.ownBlock := h3.not_row hT h4'
 exact ⟨⟨h1.setCell (p := ⟨bx,0,none⟩) hbx _,h2.trans (KeepsOthers.setCell _ _ _)⟩,x2,h3.set _,World.ownsRow.kept h4' (grownBy_setCell' Y bx _) (.inr (Ne.symm hne))⟩
end
end Ab
namespace Ss
open Fx
set_option maxHeartbeats 1600000 in
theorem word_any (s : St) (w : World) :
 Calls Tryz.prog 84 #[stv s] w fun e w' => e = .returned (.tuple #[.int .i64 (wdv s),.int .i64 (wde s)]) ∧ Below w.heap.size w w' := by
 have C := fun W => right_any s W
 have V := Lib.hid (box_new w s 37)
 have B0 := Lib.hid ((Below.refl w.heap.size w).alloc (Nat.le_refl _) (.cells #[.int .i64 s.i,.int .i64 s.l,.int .i64 s.s,.bool s.f] 37))
 cases h : rgt s
 · have HF := Lib.hid (show wdv s = 0 ∧ wde s = 1 by unfold wdv wde; rw [h]; exact ⟨rfl,rfl⟩)
   rw [h] at C
   clear h
   unfold stv at *
   go_enter Tryz.func84,Tryz.ntmps84
   go_wp2_with (go_at_call 69; refine (C _).mono ?_; rintro e w1 ⟨rfl,b1⟩; have B1 := Lib.hid (grow B0.out b1); clear b1)
   go_returns
   exact ⟨by rw [HF.out.1,HF.out.2]; rfl,B1.out⟩
 · have HF := Lib.hid (show wdv s = s.i + s.l * 16 + sw s.s * 256 + fw s.f ∧ wde s = 0 by unfold wdv wde wrd; rw [h]; exact ⟨rfl,rfl⟩)
   obtain ⟨a,b,c,-,-⟩ := rgt_bd h
   rw [h] at C
   clear h
   unfold stv at *
   obtain ⟨i,l,q,f⟩ := s
   dsimp only at *
   by_cases e1 : q = -1
   · subst e1
     cases f
     all_goals
      go_enter Tryz.func84,Tryz.ntmps84
      go_wp2_with (go_at_call 69; refine (C _).mono ?_; rintro e w1 ⟨rfl,b1⟩; have B1 := Lib.hid (grow B0.out b1); have V1 := Lib.hid (onB V.out b1); obtain ⟨c0,c1,c2,c3⟩ := st_cells V1.out; clear b1)
      go_returns
      exact ⟨by rw [HF.out.1,HF.out.2]; simp [fw,sw],B1.out⟩
   · have HS := Lib.hid (show sw q = q by unfold sw; rw [if_neg e1])
     have d1 : (q == -1) = false := by simpa using e1
     have d2 : decide (q < 0) = false := by simp; omega
     clear e1
     cases f
     all_goals
      go_enter Tryz.func84,Tryz.ntmps84
      go_wp2_with (go_at_call 69; refine (C _).mono ?_; rintro e w1 ⟨rfl,b1⟩; have B1 := Lib.hid (grow B0.out b1); have V1 := Lib.hid (onB V.out b1); obtain ⟨c0,c1,c2,c3⟩ := st_cells V1.out; clear b1)
      go_returns
      exact ⟨by rw [HF.out.1,HF.out.2,HS.out]; simp [fw],B1.out⟩
end Ss
end Go.Proofs.YticidhbnljdidaaGreatDoor
