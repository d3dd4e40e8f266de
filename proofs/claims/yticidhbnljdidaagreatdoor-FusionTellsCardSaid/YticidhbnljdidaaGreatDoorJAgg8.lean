/-
 Structs and arrays of numbers in a block that is known whole: loaded, stored, handed back by a result's cell. No function of the program is walked here. No conditions.
 Blocks of cells of whatever kinds, known whole: loaded, stored, kept; and worlds in which only some blocks were written. No function of the program is walked here. No conditions.
 What package jump tells, as functions of numbers. No Go text is reached here. No conditions.
 Plain mathematics for layer 2 (order): lists of whole numbers in rising order, their mid, a list without an element, the spread. No Go text is reached here. No conditions.
 append of a whole list of numbers onto a row that the call itself made, in a plain region and in one that draws its order. No function of the program is walked here. No conditions.
 Plain mathematics for layer 9 (stuck): a ring of votes in an array, the votes of the last cycles, a run. No Go text is reached here. No conditions.
 What package drift tells, as functions of numbers; how a level comes to a difference that stays. No Go text is reached here. No conditions.
 What package equal tells, as functions of numbers. No Go text is reached here. No conditions.
-/
import Derived.Test.YticidhbnljdidaaGreatDoorJOpen2
import Derived.Laws.Rows
import Derived.Laws.Tables
import Derived.Laws.World
import Derived.Laws.ResultCell
import Derived.Laws.StructEq
import Derived.Test.YticidhbnljdidaaGreatDoorFixMath
import Derived.Deep.RegionLaw
namespace Go.Proofs.YticidhbnljdidaaGreatDoor
set_option maxRecDepth 100000
open Go.ChangeShapes Go.WideShapes Go.ChangeAt Go.RowKit Go.Deep
theorem OwnI.below {k : IntKind} {base : Nat} {t : TypeId} {w w' : World} {v : Value} {l : List Int} (h : OwnI k base t w v l) (hb : Below w.heap.size w w') : OwnI k base t w' v l := by
 rcases h with ⟨hl,h0 | ⟨g,cap,cur,hv,hbg,hh,rest⟩⟩
 · exact ⟨hl,Or.inl h0⟩
 · have hlt : g < w.heap.size := by
    rcases Nat.lt_or_ge g w.heap.size with hlt | hge
    · exact hlt
    · rw [Array.getElem?_eq_none hge] at hh; cases hh
   exact ⟨hl,Or.inr ⟨g,cap,cur,hv,hbg,(hb.block g hlt).trans hh,rest⟩⟩
theorem grow_from {B : Nat} {a w w' : World} (h : Below B a w) (hb : Below w.heap.size w w') (hB : B ≤ w.heap.size) : Below B a w' := h.trans (hb.mono hB)
namespace Agg
section
variable {P : Program} {w : World} {t tt : TypeId} {k : IntKind} {g : Nat} {l : List Int}
theorem load_row (hA : (isAgg t).run P w = .ok true w) (hi : (P.info? t).map (·.size) = some l.length) (h : IRow k w g tt l) :
 (loadVar t ⟨g,0,none⟩).run P w = .ok (.agg (cellsI k l).toArray) w := by
 have h1 := run_loadCells_list (P := P) w ⟨g,0,none⟩ (cellsI k l) (fun j v hv => by
  rw [add_plain,Nat.zero_add,cell_of_row w g j _ tt (0,0) h]
  simpa using hv)
 rw [cellsI_len] at h1
 cases hq : P.info? t with
 | none => simp [hq] at hi
 | some i =>
   have hs : i.size = l.length := by simpa [hq] using hi
   simp [loadVar,hA,sizeOf,typeInfo,hq,hs,h1,Result.andThen]
theorem results_cell {fn : Func} {p : Tmp} {ty : TypeId} (h : fn.results = #[.cell p ty]) (tmps : Array Value) (P : Program) (w : World) :
 (results fn tmps).run P w = ((asAddr (tmps.getD p undef)).run P w).andThen fun a w₁ => (loadVar ty a).run P w₁ := by
 simp only [results,h]
 simp [Sem.run_bind,Result.andThen]
theorem ret_row {fn : Func} {p : Tmp} {ty : TypeId} {tmps : Array Value} (h : fn.results = #[.cell p ty]) (ht : tmps.getD p undef = .pointer (some ⟨g,0,none⟩)) (hA : (isAgg ty).run P w = .ok true w) (hi : (P.info? ty).map (·.size) = some l.length) (hr : IRow k w g tt l) :
 (results fn tmps).run P w = .ok (.agg (cellsI k l).toArray) w := by
 rw [results_cell h,ht]
 simp only [asAddr,Sem.run_pure,Result.andThen]
 rw [load_row hA hi hr]
theorem ret_row2 {fn : Func} {p u : Tmp} {ty : TypeId} {tmps : Array Value} (h : fn.results = #[.cell p ty,.tmp u]) (ht : tmps.getD p undef = .pointer (some ⟨g,0,none⟩)) (hA : (isAgg ty).run P w = .ok true w) (hi : (P.info? ty).map (·.size) = some l.length) (hr : IRow k w g tt l) :
 (results fn tmps).run P w = .ok (.tuple #[.agg (cellsI k l).toArray,tmps.getD u undef]) w := by
 rw [results_cell_tmp h,ht]
 simp only [asAddr,Sem.run_pure,Result.andThen]
 rw [load_row hA hi hr]
end
theorem all_range_ints : ∀ (xs ys : List Int),xs.length = ys.length → ((List.range xs.length).all fun i => xs.getD i 0 == ys.getD i 0) = (xs == ys)
 | [],[],_ => rfl
 | x :: xs,y :: ys,h => by
   have ih := all_range_ints xs ys (by simpa using h)
   rw [List.length_cons,List.range_succ_eq_map,List.all_cons,List.all_map]
   simp only [List.getD_cons_zero,Function.comp_def,List.getD_cons_succ,ih]
   simp [List.cons_beq_cons]
 | [],_ :: _,h => by simp at h
 | _ :: _,[],h => by simp at h
theorem run_equalIn_ints {P : Program} (w : World) (d : Nat) (t e : TypeId) (n : Nat) (k : IntKind) (ht : P.underlying t = some (.array n e)) (he : P.underlying e = some (.int k)) (hsz : ∀ w,(sizeOf e).run P w = .ok 1 w)
 (xs ys : List Int) (hx : xs.length = n) (hy : ys.length = n) :
 (Op.equalIn (d + 2) t (.agg (xs.map (.int k)).toArray) (.agg (ys.map (.int k)).toArray)).run P w = .ok (xs == ys) w := by
 rw [← all_range_ints xs ys (hx.trans hy.symm),hx,List.range_eq_range',Op.equalIn]
 simp only [Sem.run_bind,run_underlying ht,Result.andThen_ok,hsz,Std.Legacy.Range.forIn_eq_forIn_range',Std.Legacy.Range.size,Nat.sub_zero,Nat.add_sub_cancel,Nat.div_one]
 have hl : ∀ i ∈ List.range' 0 n 1,i < n := fun i hi => by simpa using (List.mem_range'_1.1 hi).2
 generalize List.range' 0 n 1 = l at hl ⊢
 induction l with
 | nil => simp
 | cons i l ih =>
   have hi : i < n := hl i (by simp)
   have px : (part e (xs.map (.int k)).toArray (i * 1)).run P w = .ok (.int k (xs.getD i 0)) w := by
    simp [part,isAgg,run_underlying he,List.getD,List.getElem?_eq_getElem (show i < xs.length by omega)]
   have py : (part e (ys.map (.int k)).toArray (i * 1)).run P w = .ok (.int k (ys.getD i 0)) w := by
    simp [part,isAgg,run_underlying he,List.getD,List.getElem?_eq_getElem (show i < ys.length by omega)]
   have pe : (Op.equalIn (d + 1) e (.int k (xs.getD i 0)) (.int k (ys.getD i 0))).run P w = .ok (xs.getD i 0 == ys.getD i 0) w := run_equalIn_int w d e k k _ _ he
   simp only [List.forIn_cons,Sem.run_bind,px,py,pe,Result.andThen_ok,List.all_cons]
   cases hb : (xs.getD i 0 == ys.getD i 0)
   · simp
   · simp only [Bool.not_true,Bool.false_eq_true,if_false,Sem.run_pure,Result.andThen_ok,Bool.true_and]
     exact ih fun j hj => hl j (by simp [hj])
end Agg
def VRow (w : World) (g : Nat) (t : TypeId) (cs : List Value) : Prop := w.heap[g]? = some (.cells cs.toArray t (0,0))
structure But (S : Nat → Prop) (w w' : World) : Prop where
 os : w'.os = w.os
 tape : w'.tape = w.tape
 output : w'.output = w.output
 size : w.heap.size ≤ w'.heap.size
 block : ∀ k,k < w.heap.size → ¬ S k → w'.heap[k]? = w.heap[k]?
def Only (g : Nat) (w w' : World) : Prop := But (· = g) w w'
section
variable {S S' : Nat → Prop} {w w' w'' : World} {g j : Nat} {t : TypeId} {cs : List Value}
theorem VRow.new (w : World) (cs : List Value) (t : TypeId) : VRow (w.alloc (.cells cs.toArray t)) w.heap.size t cs := heap_alloc_new w _
theorem VRow.lt (h : VRow w g t cs) : g < w.heap.size := by
 rcases Nat.lt_or_ge g w.heap.size with hlt | hge
 · exact hlt
 · unfold VRow at h; rw [Array.getElem?_eq_none hge] at h; cases h
theorem VRow.cell (h : VRow w g t cs) (i : Nat) {v : Value} (hi : cs[i]? = some v) : w.cell? ⟨g,i,none⟩ = some v := by
 rw [cell_of_row w g i _ t (0,0) h]; simpa using hi
theorem VRow.frozen (h : VRow w g t cs) (i : Nat) : w.frozen? ⟨g,i,none⟩ = false := by
 unfold VRow at h; simp [World.frozen?,h]
theorem VRow.drew (h : VRow w g t cs) : VRow w.drew g t cs := h
theorem VRow.drewN (h : VRow w g t cs) (n : Nat) : VRow (w.drewN n) g t cs := h
theorem VRow.alloc (h : VRow w g t cs) (o : Obj) : VRow (w.alloc o) g t cs := (Below.heap_alloc w o g h.lt).trans h
theorem VRow.set (h : VRow w g t cs) (i : Nat) (x : Value) : VRow (w.setCell ⟨g,i,none⟩ x) g t (cs.set i x) := by
 unfold VRow at h ⊢
 simp [World.setCell,Array.getElem?_modify,h]
theorem VRow.setOther (h : VRow w g t cs) {p : Addr} (hp : g ≠ p.block) (x : Value) : VRow (w.setCell p x) g t cs := (Below.heap_setCell w p x g hp).trans h
theorem VRow.below {B : Nat} (h : VRow w g t cs) (hb : Below B w w') (hg : g < B) : VRow w' g t cs := (hb.block g hg).trans h
theorem VRow.but (h : VRow w g t cs) (hb : But S w w') (hg : ¬ S g) : VRow w' g t cs := (hb.block g h.lt hg).trans h
theorem VRow.only (h : VRow w g t cs) (hb : Only j w w') (hg : g ≠ j) : VRow w' g t cs := VRow.but h hb hg
theorem VRow.irow {k : IntKind} {l : List Int} (h : VRow w g t (cellsI k l)) : IRow k w g t l := h
theorem IRow.vrow {k : IntKind} {l : List Int} (h : IRow k w g t l) : VRow w g t (cellsI k l) := h
theorem IRow.but {k : IntKind} {l : List Int} (h : IRow k w g t l) (hb : But S w w') (hg : ¬ S g) : IRow k w' g t l := (hb.block g h.lt hg).trans h
theorem IRow.only {k : IntKind} {l : List Int} (h : IRow k w g t l) (hb : Only j w w') (hg : g ≠ j) : IRow k w' g t l := IRow.but h hb hg
theorem But.refl (S : Nat → Prop) (w : World) : But S w w := ⟨rfl,rfl,rfl,Nat.le_refl _,fun _ _ _ => rfl⟩
theorem But.trans (h : But S w w') (k : But S w' w'') : But S w w'' :=
 ⟨k.os.trans h.os,k.tape.trans h.tape,k.output.trans h.output,Nat.le_trans h.size k.size,fun i hi hs => (k.block i (Nat.lt_of_lt_of_le hi h.size) hs).trans (h.block i hi hs)⟩
theorem But.mono (h : But S w w') (hs : ∀ k,S k → S' k) : But S' w w' := ⟨h.os,h.tape,h.output,h.size,fun k hk hn => h.block k hk (fun q => hn (hs k q))⟩
theorem But.of_below (h : Below w.heap.size w w') : But S w w' := ⟨h.os,h.tape,h.output,h.size,fun k hk _ => h.block k hk⟩
theorem But.drew (h : But S w w') : But S w w'.drew := ⟨h.os,h.tape,h.output,h.size,h.block⟩
theorem But.drewN (h : But S w w') (n : Nat) : But S w (w'.drewN n) := ⟨h.os,h.tape,h.output,h.size,h.block⟩
theorem But.alloc (h : But S w w') (o : Obj) : But S w (w'.alloc o) :=
 ⟨h.os,h.tape,h.output,by have := h.size; simp; omega,fun k hk hs => (Below.heap_alloc w' o k (Nat.lt_of_lt_of_le hk h.size)).trans (h.block k hk hs)⟩
theorem But.setCell (h : But S w w') {p : Addr} (hp : S p.block ∨ w.heap.size ≤ p.block) (v : Value) : But S w (w'.setCell p v) :=
 ⟨h.os,h.tape,h.output,by simpa [World.setCell] using h.size,fun k hk hs => (Below.heap_setCell w' p v k (fun e => by
  rcases hp with hp | hp
  · exact hs (e ▸ hp)
  · omega)).trans (h.block k hk hs)⟩
theorem But.call (h : But S w w') (k : But S' w' w'') (hs : ∀ i,S' i → S i ∨ w.heap.size ≤ i) : But S w w'' :=
 ⟨k.os.trans h.os,k.tape.trans h.tape,k.output.trans h.output,Nat.le_trans h.size k.size,fun i hi hn => (k.block i (Nat.lt_of_lt_of_le hi h.size) (fun q => by
  rcases hs i q with q | q
  · exact hn q
  · omega)).trans (h.block i hi hn)⟩
theorem But.grow (h : But S w w') (k : Below w'.heap.size w' w'') : But S w w'' := h.trans (But.of_below k)
theorem But.below {B : Nat} {a : World} (h : Below B a w) (k : But S w w') (hB : B ≤ w.heap.size) (hs : ∀ i,S i → B ≤ i) : Below B a w' :=
 ⟨k.os.trans h.os,k.tape.trans h.tape,k.output.trans h.output,Nat.le_trans h.size k.size,fun i hi => (k.block i (Nat.lt_of_lt_of_le hi hB) (fun q => by have := hs i q; omega)).trans (h.block i hi)⟩
theorem Only.below {B : Nat} {a : World} (k : Only g w w') (h : Below B a w) (hB : B ≤ w.heap.size) (hg : B ≤ g) : Below B a w' := But.below h k hB (fun i hi => by rw [hi]; exact hg)
theorem IntsAt.but {k : IntKind} {a : Option Addr} {l : List Int} (h : IntsAt k w a l) (hb : But S w w') (hs : ∀ ad,a = some ad → ¬ S ad.block) : IntsAt k w' a l := by
 rcases h with rfl | ⟨b,off,rfl,hc⟩
 · exact Or.inl rfl
 · refine Or.inr ⟨b,off,rfl,fun i hi => ?_⟩
   have := hc i hi
   rw [← this]
   exact World.cell?_of_block (w := w) (a := ⟨b,off + i,none⟩) (hb.block b (cell_lt this) (hs _ rfl))
end
namespace Jp
def val (n : Int) : Bool := decide (-2147483648 ≤ n) && decide (n ≤ 2147483647)
def may (lo hi step : Int) : Bool := val lo && val hi && decide (lo ≤ hi) && decide (0 ≤ step) && decide (step ≤ 2147483647)
def out (lo hi n : Int) : Bool := decide (n < lo) || decide (hi < n)
def far (step last : Int) (has : Bool) (n : Int) : Bool := has && (decide (step < n - last) || decide (step < last - n))
def trips (lo hi step last : Int) (has : Bool) (n : Int) : Int := (if out lo hi n = true then 2 else 0) + (if far step last has n = true then 4 else 0)
def ce (n : Int) : Int := if val n = true then 0 else 1
def wat (lo hi step last : Int) (has : Bool) : List Value := [.int .i64 lo,.int .i64 hi,.int .i64 step,.int .i64 last,.bool has]
theorem val_iff (n : Int) : val n = true ↔ -2147483648 ≤ n ∧ n ≤ 2147483647 := by unfold val; simp
theorem val_no (n : Int) : val n = false ↔ n < -2147483648 ∨ 2147483647 < n := by unfold val; simp; omega
theorem may_iff (lo hi step : Int) : may lo hi step = true ↔ val lo = true ∧ val hi = true ∧ lo ≤ hi ∧ 0 ≤ step ∧ step ≤ 2147483647 := by
 unfold may; simp only [Bool.and_eq_true,decide_eq_true_eq]; constructor <;> (rintro h; simp_all)
theorem apart_vals {a b : Int} (ha : val a = true) (hb : val b = true) : Fx.apart a b = if a < b then b - a else a - b := by
 have h1 := (val_iff a).1 ha
 have h2 := (val_iff b).1 hb
 unfold Fx.apart
 rw [if_pos ⟨(Fx.sm_iff a).2 (by omega),(Fx.sm_iff b).2 (by omega)⟩]
theorem far_apart {step last n : Int} (hn : val n = true) (hl : val last = true) (hs : 0 ≤ step) : far step last true n = decide (step < Fx.apart n last) := by
 rw [apart_vals hn hl]
 unfold far
 rw [Bool.true_and]
 split
 · rw [show decide (step < n - last) = false by simp; omega,Bool.false_or]
 · by_cases h : step < n - last
   · simp [h]
   · rw [show decide (step < n - last) = false by simpa using h,Bool.false_or,show decide (step < last - n) = false by simp; omega]
theorem far_none (step last n : Int) : far step last false n = false := rfl
theorem ce_yes {n : Int} (h : val n = true) : ce n = 0 := if_pos h
theorem ce_no {n : Int} (h : val n = false) : ce n = 1 := if_neg (by rw [h]; decide)
end Jp
open Go.RowKit
namespace Od
open Fx
def ins (x : Int) : List Int → List Int
 | [] => [x]
 | y :: t => if x < y then x :: y :: t else y :: ins x t
def srt (l : List Int) : List Int := l.foldl (fun o x => ins x o) []
def ok (l : List Int) : Bool := decide (l.length ≤ 16) && l.all sm
def osort (l : List Int) : List Int := if ok l = true then srt l else []
def midb (l : List Int) : Bool := ok l && decide (1 ≤ l.length) && decide (l.length ≤ 4)
def midOf (s : List Int) : Int := (s.getD ((s.length - 1) / 2) 0 + s.getD (s.length / 2) 0) / 2
def midv (l : List Int) : Int := if midb l = true then midOf (srt l) else 0
def wo (l : List Int) (i : Int) : List Int := if 0 ≤ i then l.eraseIdx i.toNat else l
def without (l : List Int) (i : Int) : List Int := if ok l = true then wo l i else []
def spreadOf (s : List Int) : Int := s.getD (s.length - 1) 0 - s.getD 0 0
def spread (l : List Int) : Int := if ok l = true then spreadOf (srt l) else 0
def inv : List Int → Nat
 | [] => 0
 | x :: t => t.countP (fun y => decide (y < x)) + inv t
def swap (l : List Int) (k : Nat) : List Int := (l.set (k - 1) (l.getD k 0)).set k (l.getD (k - 1) 0)
def Up (l : List Int) : Prop := l.Pairwise (· ≤ ·)
theorem ok_iff (l : List Int) : ok l = true ↔ l.length ≤ 16 ∧ l.all sm = true := by unfold ok; simp
theorem ok_false (l : List Int) : ok l = false ↔ ¬ (l.length ≤ 16 ∧ l.all sm = true) := by rw [← ok_iff]; cases ok l <;> simp
theorem ok_len {l : List Int} (h : ok l = true) : l.length ≤ 16 := ((ok_iff l).1 h).1
theorem ok_mem {l : List Int} (h : ok l = true) {x : Int} (hx : x ∈ l) : sm x = true := by
 have := ((ok_iff l).1 h).2; rw [List.all_eq_true] at this; exact this x hx
theorem ins_perm (x : Int) (l : List Int) : (ins x l).Perm (x :: l) := by
 induction l with
 | nil => exact List.Perm.refl _
 | cons y t ih =>
   unfold ins; split
   · exact List.Perm.refl _
   · exact (List.Perm.cons y ih).trans (List.Perm.swap x y t)
theorem ins_up (x : Int) (l : List Int) (h : Up l) : Up (ins x l) := by
 unfold Up at *
 induction l with
 | nil => simp [ins]
 | cons y t ih =>
   rw [List.pairwise_cons] at h
   unfold ins; split
   · rw [List.pairwise_cons]
     refine ⟨fun z hz => ?_,by rw [List.pairwise_cons]; exact h⟩
     rcases List.mem_cons.1 hz with rfl | hz
     · omega
     · have := h.1 z hz; omega
   · rw [List.pairwise_cons]
     refine ⟨fun z hz => ?_,ih h.2⟩
     rcases List.mem_cons.1 ((ins_perm x t).mem_iff.1 hz) with rfl | hz
     · omega
     · exact h.1 z hz
theorem srt_snoc (l : List Int) (x : Int) : srt (l ++ [x]) = ins x (srt l) := by unfold srt; rw [List.foldl_append]; rfl
theorem snoc_ind {P : List Int → Prop} (h0 : P []) (h1 : ∀ l x,P l → P (l ++ [x])) (l : List Int) : P l := by
 have : ∀ r : List Int,P r.reverse := by
  intro r; induction r with
  | nil => exact h0
  | cons x t ih => rw [List.reverse_cons]; exact h1 _ _ ih
 have := this l.reverse; rwa [List.reverse_reverse] at this
theorem srt_perm (l : List Int) : (srt l).Perm l := by
 refine snoc_ind (P := fun l => (srt l).Perm l) (List.Perm.refl _) (fun l x ih => ?_) l
 rw [srt_snoc]
 exact (ins_perm x _).trans ((List.Perm.cons x ih).trans (List.perm_append_comm (l₁ := [x]) (l₂ := l)))
theorem srt_up (l : List Int) : Up (srt l) := by
 refine snoc_ind (P := fun l => Up (srt l)) (by unfold Up srt; simp) (fun l x ih => ?_) l
 rw [srt_snoc]; exact ins_up x _ ih
theorem srt_len (l : List Int) : (srt l).length = l.length := (srt_perm l).length_eq
theorem up_eq {a b : List Int} (ha : Up a) (hb : Up b) (h : a.Perm b) : a = b :=
 List.Perm.eq_of_pairwise (fun _ _ _ _ h1 h2 => Int.le_antisymm h1 h2) ha hb h
theorem srt_of {c l : List Int} (h : c.Perm l) (hu : Up c) : c = srt l := up_eq hu (srt_up l) (h.trans (srt_perm l).symm)
theorem getD_at (l : List Int) (k : Nat) (h : k < l.length) : l.getD k 0 = l[k] := by simp [List.getD_eq_getElem?_getD,h]
theorem take_snoc (l : List Int) (k : Nat) (h : k < l.length) : l.take (k + 1) = l.take k ++ [l.getD k 0] := by
 rw [List.take_succ_eq_append_getElem h,getD_at l k h]
theorem part2 (l : List Int) (k : Nat) (h1 : 1 ≤ k) (h : k < l.length) : l = l.take (k - 1) ++ (l.getD (k - 1) 0 :: l.getD k 0 :: l.drop (k + 1)) := by
 obtain ⟨j,rfl⟩ : ∃ j,k = j + 1 := ⟨k - 1,by omega⟩
 have e1 : l.drop j = l.getD j 0 :: l.drop (j + 1) := by rw [getD_at l j (by omega)]; exact List.drop_eq_getElem_cons (by omega)
 have e2 : l.drop (j + 1) = l.getD (j + 1) 0 :: l.drop (j + 1 + 1) := by rw [getD_at l (j + 1) h]; exact List.drop_eq_getElem_cons h
 simp only [Nat.add_sub_cancel]
 rw [← e2,← e1,List.take_append_drop]
theorem swap_part (l : List Int) (k : Nat) (h1 : 1 ≤ k) (h : k < l.length) : swap l k = l.take (k - 1) ++ (l.getD k 0 :: l.getD (k - 1) 0 :: l.drop (k + 1)) := by
 have e := part2 l k h1 h
 have hl : (l.take (k - 1)).length = k - 1 := by rw [List.length_take]; omega
 unfold swap
 generalize l.getD k 0 = b at *
 generalize l.getD (k - 1) 0 = a at *
 generalize l.take (k - 1) = p at *
 generalize l.drop (k + 1) = s at *
 rw [e,List.set_append,if_neg (by omega),List.set_append,if_neg (by omega),hl]
 have : k - (k - 1) = 1 := by omega
 simp [this]
theorem swap_perm (l : List Int) (k : Nat) (h1 : 1 ≤ k) (h : k < l.length) : (swap l k).Perm l := by
 rw [swap_part l k h1 h]
 conv => rhs; rw [part2 l k h1 h]
 exact List.Perm.append_left _ (List.Perm.swap _ _ _)
theorem inv_part (p : List Int) (a b : Int) (s : List Int) (h : b < a) : inv (p ++ (b :: a :: s)) < inv (p ++ (a :: b :: s)) := by
 induction p with
 | nil =>
   simp only [List.nil_append,inv,List.countP_cons]
   have h2 : ¬ a < b := by omega
   simp [h,h2]; omega
 | cons x t ih =>
   simp only [List.cons_append,inv]
   have : (t ++ (b :: a :: s)).Perm (t ++ (a :: b :: s)) := List.Perm.append_left _ (List.Perm.swap _ _ _)
   rw [this.countP_eq]; omega
theorem swap_inv (l : List Int) (k : Nat) (h1 : 1 ≤ k) (h : k < l.length) (hd : l.getD k 0 < l.getD (k - 1) 0) : inv (swap l k) < inv l := by
 rw [swap_part l k h1 h]
 conv => rhs; rw [part2 l k h1 h]
 exact inv_part _ _ _ _ hd
theorem up_take (l : List Int) (k : Nat) (h1 : 1 ≤ k) (h : k < l.length) (hu : Up (l.take k)) (hd : l.getD (k - 1) 0 ≤ l.getD k 0) : Up (l.take (k + 1)) := by
 unfold Up at *
 rw [take_snoc l k h,List.pairwise_append]
 refine ⟨hu,by simp,fun x hx y hy => ?_⟩
 have hy := List.mem_singleton.1 hy; subst hy
 obtain ⟨j,rfl⟩ : ∃ j,k = j + 1 := ⟨k - 1,by omega⟩
 simp only [Nat.add_sub_cancel] at hd
 rw [take_snoc l j (by omega)] at hu hx
 rw [List.pairwise_append] at hu
 rcases List.mem_append.1 hx with hx | hx
 · have := hu.2.2 x hx _ (List.mem_singleton.2 rfl); omega
 · have hx := List.mem_singleton.1 hx; subst hx; exact hd
theorem up_one (l : List Int) : Up (l.take 1) := by unfold Up; cases l <;> simp
theorem up_getD {l : List Int} (hu : Up l) {i j : Nat} (hij : i ≤ j) (hj : j < l.length) : l.getD i 0 ≤ l.getD j 0 := by
 rw [getD_at l i (by omega),getD_at l j hj]
 rcases Nat.lt_or_eq_of_le hij with h | rfl
 · exact (List.pairwise_iff_getElem.1 hu) i j (by omega) hj h
 · exact Int.le_refl _
theorem wo_le (l : List Int) (i : Int) : (wo l i).length ≤ l.length := by
 unfold wo; split
 · rw [List.length_eraseIdx]; split <;> omega
 · exact Nat.le_refl _
theorem wo_out (l : List Int) (i : Int) (h : i < 0 ∨ (l.length : Int) ≤ i) : wo l i = l := by
 unfold wo
 split
 · rw [List.eraseIdx_of_length_le (by omega)]
 · rfl
theorem wo_at (l : List Int) (j : Nat) : wo l (j : Int) = l.take j ++ l.drop (j + 1) := by
 unfold wo
 rw [if_pos (by omega),Int.toNat_natCast,List.eraseIdx_eq_take_drop_succ]
theorem osort_len_ok {l : List Int} (h : ok l = true) : (osort l).length = l.length := by unfold osort; rw [if_pos h,srt_len]
theorem ret_mid {a b : Int} {c d : Bool} (h : a = b) (h2 : c = d) : Ending.returned (.tuple #[.int .i64 a,.bool c]) = .returned (.tuple #[.int .i64 b,.bool d]) := by rw [h,h2]
theorem midv_no {l : List Int} (h : midb l = false) : midv l = 0 := by unfold midv; rw [h]; rfl
theorem midb_no {l : List Int} (h : ok l = false ∨ l.length < 1 ∨ 4 < l.length) : midb l = false := by
 unfold midb
 rcases h with h | h | h
 · rw [h]; rfl
 · simp; omega
 · simp; omega
theorem midb_yes {l : List Int} (h : ok l = true) (h1 : 1 ≤ l.length) (h4 : l.length ≤ 4) : midb l = true := by unfold midb; simp [h,h1,h4]
theorem midv_yes {l s : List Int} (h : ok l = true) (h1 : 1 ≤ l.length) (h4 : l.length ≤ 4) (hs : osort l = s) : midv l = midOf s := by
 unfold midv; rw [if_pos (midb_yes h h1 h4),← hs]; unfold osort; rw [if_pos h]
theorem osort_sm {l s : List Int} (h : ok l = true) (hs : osort l = s) {x : Int} (hx : x ∈ s) : -1099511627776 ≤ x ∧ x ≤ 1099511627776 := by
 subst hs
 unfold osort at hx; rw [if_pos h] at hx
 exact sm_bd (ok_mem h ((srt_perm l).mem_iff.1 hx))
theorem four {s : List Int} (h1 : 1 ≤ s.length) (h4 : s.length ≤ 4) : (∃ x,s = [x]) ∨ (∃ x y,s = [x,y]) ∨ (∃ x y z,s = [x,y,z]) ∨ ∃ x y z u,s = [x,y,z,u] := by
 match s,h1,h4 with
 | [x],_,_ => exact Or.inl ⟨x,rfl⟩
 | [x,y],_,_ => exact Or.inr (Or.inl ⟨x,y,rfl⟩)
 | [x,y,z],_,_ => exact Or.inr (Or.inr (Or.inl ⟨x,y,z,rfl⟩))
 | [x,y,z,u],_,_ => exact Or.inr (Or.inr (Or.inr ⟨x,y,z,u,rfl⟩))
theorem spread_no {l : List Int} (h : osort l = []) : spread l = 0 := by
 unfold spread; split
 · rename_i hk; unfold osort at h; rw [if_pos hk] at h; rw [h]; rfl
 · rfl
theorem spread_yes {l : List Int} (h : 1 ≤ (osort l).length) : ok l = true ∧ spread l = spreadOf (osort l) := by
 unfold spread osort at *
 cases hk : ok l
 · simp [hk] at h
 · simp
theorem without_no {l : List Int} (i : Int) (h : ok l = false) : without l i = [] := by unfold without; rw [h]; rfl
theorem without_yes {l : List Int} (i : Int) (h : ok l = true) : without l i = wo l i := by unfold without; rw [if_pos h]
end Od
section
variable {k : IntKind} {base : Nat} {t : TypeId} {w w' : World} {v : Value} {l : List Int}
theorem OwnI.row (h : OwnI k base t w v l) (hp : 0 < l.length) : ∃ g cap,v = .slice (some ⟨g,0,none⟩) l.length cap ∧ base ≤ g ∧ l.length ≤ cap ∧ g < w.heap.size := by
 rcases h with ⟨_,⟨_,h1⟩ | ⟨g,cap,cur,hv,hb,hh,hc,_⟩⟩
 · omega
 · refine ⟨g,cap,hv,hb,hc,?_⟩
   rcases Nat.lt_or_ge g w.heap.size with hlt | hge
   · exact hlt
   · rw [Array.getElem?_eq_none hge] at hh; cases hh
theorem OwnI.cell {g cap : Nat} (h : OwnI k base t w (.slice (some ⟨g,0,none⟩) l.length cap) l) (j : Nat) (hj : j < l.length) : w.cell? ⟨g,j,none⟩ = some (.int k (l.getD j 0)) := by
 rw [World.ownsRow.cellAt h j (by omega)]; exact cellsI_get k l j hj
theorem OwnI.frozen {g cap : Nat} (h : OwnI k base t w (.slice (some ⟨g,0,none⟩) l.length cap) l) (j : Nat) : w.frozen? ⟨g,j,none⟩ = false := World.ownsRow.frozenAt h j
theorem OwnI.drew (h : OwnI k base t w v l) : OwnI k base t w.drew v l := h
end
section
variable {P : Program}
theorem run_appendI {w : World} (k : IntKind) (base : Nat) (t ty e : TypeId) (bytes : Nat) (ht : P.underlying t = some (.slice e)) (hi : (P.info? e).map (fun i => (i.zero,i.size,i.bytes)) = some (some (.int k 0),1,bytes))
 (v : Value) (l : List Int) (a : Option Addr) (c : Nat) (r : List Int) (hown : OwnI k base e w v l) (hr : IntsAt k w a r)
 (h63 : l.length + r.length ≤ maxLen) (hbytes : (l.length + r.length) * bytes ≤ 140737488355328) (w0 : World) (hb : Below base w0 w) (hbase : base ≤ w0.heap.size) :
 ∃ v' w',(Builtin.append_ #[t,t] ty #[v,.slice a r.length c]).run P w = .ok v' w' ∧ OwnI k base e w' v' (l ++ r) ∧ Below base w0 w' := by
 obtain ⟨i0,hi0,hz0,hz1,hz2⟩ := info_parts hi
 have hsz := hb.size
 rcases a with _ | ad
 · have h0 : r = [] := by
    rcases hr with h0 | ⟨_,_,h0,_⟩
    · exact h0
    · cases h0
   subst h0
   refine ⟨v,w,?_,by rw [List.append_nil]; exact hown,hb⟩
   rcases hown.2 with ⟨rfl,h0⟩ | ⟨g,cap,cur,rfl,_,_,hnc,_⟩
   · simp [Builtin.append_,run_underlying ht,sizeOf,typeInfo,hi0,Builtin.lenOf,Builtin.firstCells]
   · simp [Builtin.append_,run_underlying ht,sizeOf,typeInfo,hi0,Builtin.lenOf,Builtin.firstCells,hnc,storeCells]
 · have hcells : ∀ j u,(cellsI k r)[j]? = some u → w.cell? (ad.add j) = some u := by
    intro j u hj
    rcases Nat.eq_zero_or_pos r.length with h0 | h0
    · rw [List.eq_nil_of_length_eq_zero h0] at hj; simp [cellsI] at hj
    · obtain ⟨ad',he,hc⟩ := hr.source h0
      injection he with he; subst he
      exact hc j u hj
   obtain ⟨v',w',h1,h2,h3,_⟩ := run_append_own (P := P) (w := w) base t ty e i0 _ 1 bytes ht hi0 hz0 hz1 hz2 rfl (by omega) v l.length (cellsI k l) hown ad r.length c (cellsI k r) (by rw [cellsI_len]; omega) hcells (cellsI_one k r) h63 hbytes (by omega)
   refine ⟨v',w',h1,?_,hb.grown h3 (by omega) (fun j hj => hown.blk j hj)⟩
   unfold OwnI; rw [cellsI_app,List.length_append]; exact h2
theorem wpList_appendI {w : World} {ops : Array Oper} {rest : List Oper} {o : Oper} {a : Act} {Q : Exit → Act → World → Prop} (hgd : o.guard = none) (s x : Operand) (t : TypeId)
 (ho : o.op = .call { callee := .builtin .append,args := #[s,x],argTypes := #[t,t] })
 (k : IntKind) (base : Nat) (e : TypeId) (bytes : Nat) (ht : P.underlying t = some (.slice e)) (hi : (P.info? e).map (fun i => (i.zero,i.size,i.bytes)) = some (some (.int k 0),1,bytes))
 (v : Value) (l : List Int) (ad : Option Addr) (n c : Nat) (r : List Int) (hs : a.eval s = v) (hx : a.eval x = .slice ad n c) (hnl : r.length = n) (hown : OwnI k base e w v l) (hr : IntsAt k w ad r)
 (h63 : l.length + r.length ≤ maxLen) (hbytes : (l.length + r.length) * bytes ≤ 140737488355328) (w0 : World) (hb : Below base w0 w) (hbase : base ≤ w0.heap.size)
 (h : ∀ v' w',OwnI k base e w' v' (l ++ r) → Below base w0 w' → wpList P ops Q rest (a.put o.dst v') w') : wpList P ops Q (o :: rest) a w := by
 subst hnl
 refine wpList_plain hgd fun K hK => ?_
 obtain ⟨v',w',hrun,h1,h2⟩ := run_appendI (P := P) (w := w) k base t o.type e bytes ht hi v l ad c r hown hr h63 hbytes w0 hb hbase
 unfold Oper.wp
 simp [execOp,ho,resolve,invoke,builtin,hs,hx,hrun,Result.andThen]
 exact hK _ _ (h v' w' h1 h2)
end
namespace Sk
def spot (P next n i : Nat) : Nat := if next + (P - n) + i < P then next + (P - n) + i else next + (P - n) + i - P
def up (P next : Nat) : Nat := if next + 1 = P then 0 else next + 1
def lastN (P : Nat) (l : List Int) : List Int := l.drop (l.length - P)
theorem lastN_len (P : Nat) (l : List Int) : (lastN P l).length = min P l.length := by unfold lastN; rw [List.length_drop]; omega
theorem lastN_le (P : Nat) (l : List Int) : (lastN P l).length ≤ P := by rw [lastN_len]; omega
theorem lastN_short {P : Nat} {l : List Int} (h : l.length ≤ P) : lastN P l = l := by unfold lastN; rw [show l.length - P = 0 by omega]; rfl
theorem drop_snoc (l : List Int) (x : Int) (k : Nat) (h : k ≤ l.length) : (l ++ [x]).drop k = l.drop k ++ [x] := by
 rw [List.drop_append,show k - l.length = 0 by omega]; rfl
theorem lastN_snoc {P : Nat} (h1 : 1 ≤ P) (l : List Int) (x : Int) : lastN P (lastN P l ++ [x]) = lastN P (l ++ [x]) := by
 by_cases h : l.length < P
 · rw [lastN_short (show l.length ≤ P by omega)]
 · have e1 : (lastN P l).length = P := by rw [lastN_len]; omega
   unfold lastN at e1 ⊢
   rw [List.length_append,e1,List.length_append]
   simp only [List.length_cons,List.length_nil]
   rw [drop_snoc _ _ _ (by omega),drop_snoc _ _ _ (by omega),List.drop_drop]
   congr 2; omega
theorem lastN_one {P : Nat} {V : List Int} (h : V.length < P) (x : Int) : lastN P (V ++ [x]) = V ++ [x] := lastN_short (by simp; omega)
theorem lastN_full {P : Nat} {V : List Int} (h : V.length = P) (x : Int) : lastN P (V ++ [x]) = (V ++ [x]).drop 1 := by
 unfold lastN; congr 1; simp; omega
structure Ring (P : Nat) (ring : List Int) (next : Nat) (V : List Int) : Prop where
 p1 : 1 ≤ P
 p15 : P ≤ 15
 len : ring.length = 15
 nx : next < P
 le : V.length ≤ P
 at_ : ∀ i,i < V.length → ring.getD (spot P next V.length i) 0 = V.getD i 0
theorem spot_lt {P next n i : Nat} (h1 : next < P) (h2 : i < n) (h3 : n ≤ P) : spot P next n i < P := by unfold spot; split <;> omega
theorem up_lt {P next : Nat} (h : next < P) : up P next < P := by unfold up; split <;> omega
theorem getD_set_ne {l : List Int} {i j : Nat} (x : Int) (h : i ≠ j) : (l.set i x).getD j 0 = l.getD j 0 := by
 simp [List.getD_eq_getElem?_getD,List.getElem?_set_ne h]
theorem getD_set_eq {l : List Int} {i : Nat} (x : Int) (h : i < l.length) : (l.set i x).getD i 0 = x := by
 simp [List.getD_eq_getElem?_getD,h]
theorem getD_app_lt {l r : List Int} {i : Nat} (h : i < l.length) : (l ++ r).getD i 0 = l.getD i 0 := by
 simp [List.getD_eq_getElem?_getD,List.getElem?_append_left h]
theorem getD_app_end (l : List Int) (x : Int) : (l ++ [x]).getD l.length 0 = x := by
 simp [List.getD_eq_getElem?_getD]
theorem getD_drop (l : List Int) (k i : Nat) : (l.drop k).getD i 0 = l.getD (k + i) 0 := by
 simp [List.getD_eq_getElem?_getD]
theorem Ring.vote {P : Nat} {ring : List Int} {next : Nat} {V : List Int} (h : Ring P ring next V) (x : Int) : Ring P (ring.set next x) (up P next) (lastN P (V ++ [x])) := by
 have p1 := h.p1
 have p15 := h.p15
 have hl := h.len
 have nx := h.nx
 have le := h.le
 refine ⟨p1,p15,by simpa using hl,up_lt nx,lastN_le _ _,?_⟩
 by_cases hlt : V.length < P
 · rw [lastN_one hlt]
   intro i hi
   rw [List.length_append] at hi ⊢
   simp only [List.length_cons,List.length_nil] at hi ⊢
   by_cases hie : i = V.length
   · subst hie
     rw [show spot P (up P next) (V.length + (0 + 1)) V.length = next by unfold spot up; split <;> split <;> omega,getD_set_eq x (by omega),getD_app_end]
   · have e : spot P (up P next) (V.length + (0 + 1)) i = spot P next V.length i := by unfold spot up; split <;> split <;> split <;> omega
     have ne : next ≠ spot P next V.length i := by unfold spot; split <;> omega
     rw [e,getD_set_ne x ne,getD_app_lt (by omega)]
     exact h.at_ i (by omega)
 · have hP : V.length = P := by omega
   rw [lastN_full hP]
   intro i hi
   have e0 : ((V ++ [x]).drop 1).length = P := by simp; omega
   rw [e0] at hi ⊢
   rw [getD_drop]
   by_cases hie : i + 1 = P
   · rw [show spot P (up P next) P i = next by unfold spot up; split <;> split <;> omega,getD_set_eq x (by omega),show 1 + i = V.length by omega,getD_app_end]
   · have e : spot P (up P next) P i = spot P next P (1 + i) := by unfold spot up; split <;> split <;> split <;> omega
     have ne : next ≠ spot P next P (1 + i) := by unfold spot; split <;> omega
     rw [e,getD_set_ne x ne,getD_app_lt (by omega)]
     have := h.at_ (1 + i) (by omega)
     rw [hP] at this
     exact this
theorem Ring.new {P : Nat} (h1 : 1 ≤ P) (h2 : P ≤ 15) : Ring P (List.replicate 15 0) 0 [] := ⟨h1,h2,by simp,by omega,Nat.zero_le _,fun i hi => by simp at hi⟩
def room (win bound : Int) (ring : List Int) (next n : Int) : List Int := win :: bound :: (ring ++ [next,n])
section
variable {win bound next n : Int} {ring : List Int}
theorem room_len (h : ring.length = 15) : (room win bound ring next n).length = 19 := by simp [room,h]
theorem room_ring (k : Nat) (hk : k < 15) (h : ring.length = 15) : (room win bound ring next n).getD (2 + k) 0 = ring.getD k 0 := by
 unfold room
 rw [Nat.add_comm 2 k]
 simp [List.getD_eq_getElem?_getD,List.getElem?_append_left (show k < ring.length by omega)]
theorem room_next (h : ring.length = 15) : (room win bound ring next n).getD 17 0 = next := by
 unfold room
 rw [List.getD_eq_getElem?_getD,show 17 = (15 + 1) + 1 from rfl,List.getElem?_cons_succ,List.getElem?_cons_succ,List.getElem?_append_right (by omega),h]; rfl
theorem room_count (h : ring.length = 15) : (room win bound ring next n).getD 18 0 = n := by
 unfold room
 rw [List.getD_eq_getElem?_getD,show 18 = (16 + 1) + 1 from rfl,List.getElem?_cons_succ,List.getElem?_cons_succ,List.getElem?_append_right (by omega),h]; rfl
theorem room_set_ring (k : Nat) (hk : k < 15) (h : ring.length = 15) (x : Int) : (room win bound ring next n).set (2 + k) x = room win bound (ring.set k x) next n := by
 unfold room
 rw [Nat.add_comm 2 k,List.set_cons_succ,List.set_cons_succ,List.set_append_left _ _ (by omega)]
theorem room_set_next (h : ring.length = 15) (x : Int) : (room win bound ring next n).set 17 x = room win bound ring x n := by
 unfold room
 rw [show 17 = (15 + 1) + 1 from rfl,List.set_cons_succ,List.set_cons_succ,List.set_append_right _ _ (by omega),h]; rfl
theorem room_set_count (h : ring.length = 15) (x : Int) : (room win bound ring next n).set 18 x = room win bound ring next x := by
 unfold room
 rw [show 18 = (16 + 1) + 1 from rfl,List.set_cons_succ,List.set_cons_succ,List.set_append_right _ _ (by omega),h]; rfl
end
theorem up_tmod {P next : Nat} (h : next < P) : ((next : Int) + 1).tmod (P : Int) = (up P next : Int) := by
 rw [show ((next : Int) + 1) = ((next + 1 : Nat) : Int) by omega,← Int.ofNat_tmod]
 unfold up
 split
 · rename_i e; rw [e,Nat.mod_self]
 · rw [Nat.mod_eq_of_lt (by omega)]
theorem spot_tmod {P next n i : Nat} (h : next < P) (hi : i < n) (hn : n ≤ P) : ((next : Int) - n + i + P).tmod (P : Int) = (spot P next n i : Int) := by
 rw [show ((next : Int) - n + i + P) = ((next + (P - n) + i : Nat) : Int) by omega,← Int.ofNat_tmod]
 unfold spot
 split
 · rw [Nat.mod_eq_of_lt (by omega)]
 · rw [Nat.mod_eq_sub_mod (by omega),Nat.mod_eq_of_lt (by omega)]
def moved (P : Nat) (bound : Int) (V : List Int) : Bool := decide (V.length = P) && decide (bound < Od.spread V)
def run (win last r n : Int) : Int := min ((if n = last then r else 0) + 1) win
end Sk
namespace Dr
open Fx
def dif (d : Int) : Bool := decide (-4294967296 ≤ d) && decide (d ≤ 4294967296)
def may (lag bound : Int) : Bool := decide (0 ≤ lag) && decide (lag ≤ 8) && decide (0 ≤ bound) && decide (bound ≤ 2147483647)
def nx (lag level d : Int) : Int := if dif d = true then level + shift (d - level) lag else level
def ov (bound level : Int) : Bool := decide (bound < level) || decide (level < -bound)
def fil (lag bound level : Int) : List Value := [.int .i64 bound,.int .i64 lag,.int .i64 level]
theorem dif_iff (d : Int) : dif d = true ↔ -4294967296 ≤ d ∧ d ≤ 4294967296 := by unfold dif; simp
theorem may_iff (lag bound : Int) : may lag bound = true ↔ 0 ≤ lag ∧ lag ≤ 8 ∧ 0 ≤ bound ∧ bound ≤ 2147483647 := by
 unfold may; simp only [Bool.and_eq_true,decide_eq_true_eq,and_assoc]
theorem nx_yes {lag level d : Int} (h : dif d = true) : nx lag level d = level + shift (d - level) lag := if_pos h
theorem nx_no {lag level d : Int} (h : dif d = false) : nx lag level d = level := if_neg (by rw [h]; decide)
theorem div_between (n b : Int) (hb : 1 ≤ b) : (0 ≤ n → 0 ≤ n / b ∧ n / b ≤ n) ∧ (n < 0 → n ≤ n / b ∧ n / b ≤ -1) := by
 refine ⟨fun h => div_bd n b hb h,fun h => ?_⟩
 rw [div_up n b hb]
 have h1 : (0 : Int) ≤ b - 1 - n := by omega
 have h2 := Int.ediv_nonneg h1 (show 0 ≤ b by omega)
 have h3 : 1 ≤ (b - 1 - n) / b := (Int.le_ediv_iff_mul_le (by omega)).2 (by omega)
 have h4 : (b - 1 - n) / b < -n + 1 := by
  refine (Int.ediv_lt_iff_lt_mul (by omega)).2 ?_
  have : (-n + 1) * b = -n * (b - 1) + -n + b := by rw [Int.add_mul,Int.mul_sub]; omega
  have h5 : 0 ≤ -n * (b - 1) := Int.mul_nonneg (by omega) (by omega)
  omega
 omega
theorem shift_small {n lag : Int} (hn : -8589934592 ≤ n ∧ n ≤ 8589934592) (h0 : 0 ≤ lag) (h8 : lag ≤ 8) : shift n lag = n / 2 ^ lag.toNat := by
 unfold shift; rw [if_pos ⟨(sm_iff n).2 (by omega),h0,by omega⟩]
theorem nx_between {lag level d : Int} (hl : -4294967296 ≤ level ∧ level ≤ 4294967296) (hd : dif d = true) (h0 : 0 ≤ lag) (h8 : lag ≤ 8) :
 (level ≤ d → level ≤ nx lag level d ∧ nx lag level d ≤ d) ∧ (d < level → d ≤ nx lag level d ∧ nx lag level d ≤ level - 1) := by
 have hd' := (dif_iff d).1 hd
 rw [nx_yes hd,shift_small (by omega) h0 h8]
 have h := div_between (d - level) (2 ^ lag.toNat) (pow_pos2 _)
 exact ⟨fun q => by have := h.1 (by omega); omega,fun q => by have := h.2 (by omega); omega⟩
theorem nx_level {lag level d : Int} (hl : -4294967296 ≤ level ∧ level ≤ 4294967296) (h0 : 0 ≤ lag) (h8 : lag ≤ 8) : -4294967296 ≤ nx lag level d ∧ nx lag level d ≤ 4294967296 := by
 cases hd : dif d
 · rw [nx_no hd]; exact hl
 · have h := nx_between hl hd h0 h8
   have hd' := (dif_iff d).1 hd
   by_cases q : level ≤ d
   · have := h.1 q; omega
   · have := h.2 (by omega); omega
theorem apart_zero {level : Int} (hl : -4294967296 ≤ level ∧ level ≤ 4294967296) : apart level 0 = if level < 0 then 0 - level else level - 0 := by
 unfold apart; rw [if_pos ⟨(sm_iff _).2 (by omega),(sm_iff _).2 (by omega)⟩]
theorem ov_apart {bound level : Int} (hl : -4294967296 ≤ level ∧ level ≤ 4294967296) (h0 : 0 ≤ bound) : ov bound level = decide (bound < apart level 0) := by
 rw [apart_zero hl]
 unfold ov
 split
 · rw [show decide (bound < level) = false by simp; omega,Bool.false_or]
   exact decide_eq_decide.2 (by omega)
 · rw [show decide (level < -bound) = false by simp; omega,Bool.or_false]
   exact decide_eq_decide.2 (by omega)
end Dr
namespace Ql
open Fx
open Jp (val val_iff val_no out)
def may (auth gain : Int) : Bool := decide (0 ≤ auth) && decide (auth ≤ 2147483647) && decide (0 ≤ gain) && decide (gain ≤ 8)
def both (n vote : Int) : Bool := val n && val vote
def lim (a x : Int) : Int := if a < x then a else if x < -a then -a else x
def nx (auth gain offset n vote : Int) : Int := if both n vote = true then lim auth (offset + shift (n - vote - offset) gain) else offset
def ce (n vote : Int) : Int := if both n vote = true then 0 else 1
def ev (offset n : Int) : Int := if val n = true then n - offset else 0
def ee (n : Int) : Int := if val n = true then 0 else 1
def tri (auth gain offset : Int) : List Value := [.int .i64 auth,.int .i64 gain,.int .i64 offset]
theorem may_iff (auth gain : Int) : may auth gain = true ↔ 0 ≤ auth ∧ auth ≤ 2147483647 ∧ 0 ≤ gain ∧ gain ≤ 8 := by
 unfold may; simp only [Bool.and_eq_true,decide_eq_true_eq,and_assoc]
theorem may_outs (auth gain : Int) : may auth gain = (!out 0 2147483647 auth && !out 0 8 gain) := by
 rw [Bool.eq_iff_iff,may_iff]
 unfold out
 first | (simp; done) | (simp; omega)
theorem val_out (n : Int) : out (-2147483648) 2147483647 n = !val n := by
 unfold out val
 rw [Bool.eq_iff_iff]
 first | (simp; done) | (simp; omega)
theorem both_iff (n vote : Int) : both n vote = true ↔ val n = true ∧ val vote = true := by unfold both; simp
theorem both_outs (n vote : Int) : [n,vote].any (out (-2147483648) 2147483647) = !both n vote := by
 unfold both
 simp [val_out]
theorem one_out (lo hi n : Int) : [n].any (out lo hi) = out lo hi n := by simp
theorem nx_yes {auth gain offset n vote : Int} (h : both n vote = true) : nx auth gain offset n vote = lim auth (offset + shift (n - vote - offset) gain) := if_pos h
theorem nx_no {auth gain offset n vote : Int} (h : both n vote = false) : nx auth gain offset n vote = offset := if_neg (by rw [h]; decide)
theorem ce_yes {n vote : Int} (h : both n vote = true) : ce n vote = 0 := if_pos h
theorem ce_no {n vote : Int} (h : both n vote = false) : ce n vote = 1 := if_neg (by rw [h]; decide)
theorem ev_yes {offset n : Int} (h : val n = true) : ev offset n = n - offset := if_pos h
theorem ev_no {offset n : Int} (h : val n = false) : ev offset n = 0 := if_neg (by rw [h]; decide)
theorem ee_yes {n : Int} (h : val n = true) : ee n = 0 := if_pos h
theorem ee_no {n : Int} (h : val n = false) : ee n = 1 := if_neg (by rw [h]; decide)
theorem lim_bd {a : Int} (h : 0 ≤ a) (x : Int) : -a ≤ lim a x ∧ lim a x ≤ a := by
 unfold lim; split
 · omega
 · split <;> omega
theorem lim_clamp {a x : Int} (h0 : 0 ≤ a) (h1 : a ≤ 2147483647) (hx : -8589934592 ≤ x ∧ x ≤ 8589934592) : clamp x (-a) a = lim a x := by
 unfold clamp
 rw [if_pos ⟨(sm_iff _).2 (by omega),(sm_iff _).2 (by omega),(sm_iff _).2 (by omega)⟩]
 unfold within lim
 split
 · rw [if_neg (by omega)]
   split
   · rfl
   · omega
 · split
   · rfl
   · rw [if_neg (by omega)]
theorem nx_bd {auth offset : Int} (gain n vote : Int) (h : 0 ≤ auth) (ho : -auth ≤ offset ∧ offset ≤ auth) : -auth ≤ nx auth gain offset n vote ∧ nx auth gain offset n vote ≤ auth := by
 cases hb : both n vote
 · rw [nx_no hb]; exact ho
 · rw [nx_yes hb]; exact lim_bd h _
theorem step_between {gain offset n vote : Int} (hg : 0 ≤ gain ∧ gain ≤ 8) (ho : -2147483647 ≤ offset ∧ offset ≤ 2147483647) (hb : both n vote = true) :
 (offset ≤ n - vote → offset ≤ offset + shift (n - vote - offset) gain ∧ offset + shift (n - vote - offset) gain ≤ n - vote) ∧
 (n - vote < offset → n - vote ≤ offset + shift (n - vote - offset) gain ∧ offset + shift (n - vote - offset) gain ≤ offset) := by
 obtain ⟨h1,h2⟩ := (both_iff _ _).1 hb
 have v1 := (val_iff _).1 h1
 have v2 := (val_iff _).1 h2
 rw [Dr.shift_small (by omega) hg.1 hg.2]
 have h := Dr.div_between (n - vote - offset) (2 ^ gain.toNat) (pow_pos2 _)
 exact ⟨fun q => by have := h.1 (by omega); omega,fun q => by have := h.2 (by omega); omega⟩
theorem step_bd {gain offset n vote : Int} (hg : 0 ≤ gain ∧ gain ≤ 8) (ho : -2147483647 ≤ offset ∧ offset ≤ 2147483647) (hb : both n vote = true) :
 -4294967295 ≤ offset + shift (n - vote - offset) gain ∧ offset + shift (n - vote - offset) gain ≤ 4294967295 := by
 obtain ⟨h1,h2⟩ := (both_iff _ _).1 hb
 have v1 := (val_iff _).1 h1
 have v2 := (val_iff _).1 h2
 have h := step_between hg ho hb
 by_cases q : offset ≤ n - vote
 · have := h.1 q; omega
 · have := h.2 (by omega); omega
end Ql
end Go.Proofs.YticidhbnljdidaaGreatDoor
