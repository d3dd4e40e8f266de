/-
 One signal: its value is near who is in; with one odd channel at most it is bounded, and no other channel trips; the odd one is found out. Nothing of a program here. No conditions.
 An object that the call itself made, while the world goes on. No function of the program is walked here. No conditions.
 A struct of whatever kinds in a block that is known whole: loaded whole, stored whole, handed back by a result's cell. No function of the program is walked here. No conditions.
 What a law of layer 18 asks of package signal: as a bundle of contracts over whatever lies in memory for a signal; the values that go in and out. Nothing of the program is walked here. No conditions.
 A region that draws its order, each operation of which only reads what was there, may lay new blocks, and hands back something of a kind that its place in the frame tells: whatever order is drawn, at the end every place holds a thing of its kind. No function of the program is walked here. No conditions beyond those said.
 What bound, weights and fields of package config do: their contracts by walking the Go text. No conditions.
 What fields of package config does: its contract by walking the Go text, its region that draws by the law of Flow. No conditions.
 What Fault and Right of package config do: their contracts by walking the Go text. No conditions.
 What Covers of package config does: its contract by walking the Go text. Conditions: the numbers' kinds.
 What the walks of layer 18's laws have in common: whole structs loaded in a region that draws, sizes, masks of four. No function of the program is walked here. No conditions.
-/
import Derived.Test.YticidhbnljdidaaGreatDoorJOrderMidMath6
import Derived.Test.YticidhbnljdidaaGreatDoorJAgg8
import Derived.Laws.ResultCell
import Derived.Orders
import Derived.OrdersHeld
import Derived.Deep.RegionWith
import Derived.Deep.DeepCutAuto
import Derived.Deep.RegionHeld
import Derived.Deep.LoopGhost
import Derived.WalkMore
namespace Go.Proofs.YticidhbnljdidaaGreatDoor
set_option maxRecDepth 100000
namespace Sg
open Cf (G)
section
variable {c : List Int} {s : Si} {r : Nat → Rw} {sh : Int}
end
section
variable {c : List Int} {s : Si} {r : Nat → Rw} {E R at0 at' : Int} {o : Nat}
theorem PW_bd (h : Cf.Right c) : 1 ≤ PW c ∧ PW c ≤ 15 := by
 obtain ⟨-,-,-,-,-,-,h6,-⟩ := h
 unfold PW; omega
theorem has_zero (i : Nat) : Fx.has 0 (i : Int) = false := by
 unfold Fx.has; simp
end
end Sg
open Go.ChangeShapes Go.WideShapes Go.ChangeAt Go.RowKit Go.Deep
namespace Kp
structure Kept (w W : World) (g : Nat) (t : TypeId) (cs : List Value) : Prop where
 below : Below w.heap.size w W
 row : VRow W g t cs
 ge : w.heap.size ≤ g
section
variable {w W W' : World} {g : Nat} {t : TypeId} {cs cs' : List Value}
theorem Kept.on (h : Kept w W g t cs) (b : Below W.heap.size W W') : Kept w W' g t cs := ⟨grow h.below b,h.row.below b h.row.lt,h.ge⟩
theorem Kept.alloc (h : Kept w W g t cs) (o : Obj) : Kept w (W.alloc o) g t cs := ⟨h.below.alloc h.below.size o,h.row.alloc o,h.ge⟩
theorem Kept.drewN (h : Kept w W g t cs) (n : Nat) : Kept w (W.drewN n) g t cs := ⟨below_drewN h.below n,h.row.drewN n,h.ge⟩
theorem Kept.take (h : Kept w W g t cs) (o : Only g W W') (k : VRow W' g t cs') : Kept w W' g t cs' := ⟨o.below h.below h.below.size h.ge,k,h.ge⟩
theorem kept_new (w W : World) (cs : List Value) (t : TypeId) (h : Below w.heap.size w W) : Kept w (W.alloc (.cells cs.toArray t)) W.heap.size t cs := ⟨h.alloc h.size _,VRow.new W cs t,h.size⟩
end
end Kp
section
variable {w w' : World} {g j : Nat} {t : TypeId} {cs cs' : List Value}
theorem VRow.put (h : VRow w g t cs) (cs' : List Value) : VRow (w.setRow g cs'.toArray) g t cs' := setRow_heap w g cs.toArray cs'.toArray t (0,0) h
theorem VRow.putOther (h : VRow w g t cs) (hj : g ≠ j) (c : Array Value) : VRow (w.setRow j c) g t cs := (setRow_other w j g c hj).trans h
theorem Below.put {B : Nat} {a : World} (h : Below B a w) (hg : B ≤ g) (c : Array Value) : Below B a (w.setRow g c) :=
 ⟨h.os,h.tape,h.output,by simpa [World.setRow] using h.size,fun k hk => (setRow_other w g k c (by omega)).trans (h.block k hk)⟩
theorem But.put {S : Nat → Prop} {a : World} (h : But S a w) (hg : S g ∨ a.heap.size ≤ g) (c : Array Value) : But S a (w.setRow g c) :=
 ⟨h.os,h.tape,h.output,by simpa [World.setRow] using h.size,fun k hk hs => (setRow_other w g k c (fun e => by
  rcases hg with q | q
  · exact hs (e ▸ q)
  · omega)).trans (h.block k hk hs)⟩
end
namespace VB
section
variable {P : Program} {w : World} {t tt : TypeId} {g : Nat} {cs : List Value}
theorem load (hA : (isAgg t).run P w = .ok true w) (hi : (P.info? t).map (·.size) = some cs.length) (h : VRow w g tt cs) :
 (loadVar t ⟨g,0,none⟩).run P w = .ok (.agg cs.toArray) w := by
 have h1 := run_loadCells_list (P := P) w ⟨g,0,none⟩ cs (fun j v hv => by rw [add_plain,Nat.zero_add]; exact VRow.cell h j hv)
 cases hq : P.info? t with
 | none => simp [hq] at hi
 | some i =>
   have hs : i.size = cs.length := by simpa [hq] using hi
   simp [loadVar,hA,sizeOf,typeInfo,hq,hs,h1,Result.andThen]
theorem ret1 {fn : Func} {p : Tmp} {ty : TypeId} {tmps : Array Value} (h : fn.results = #[.cell p ty]) (ht : tmps.getD p undef = .pointer (some ⟨g,0,none⟩)) (hA : (isAgg ty).run P w = .ok true w) (hi : (P.info? ty).map (·.size) = some cs.length) (hr : VRow w g tt cs) :
 (results fn tmps).run P w = .ok (.agg cs.toArray) w := by
 rw [Agg.results_cell h,ht]
 simp only [asAddr,Sem.run_pure,Result.andThen]
 rw [load hA hi hr]
theorem ret2 {fn : Func} {p u : Tmp} {ty : TypeId} {tmps : Array Value} (h : fn.results = #[.cell p ty,.tmp u]) (ht : tmps.getD p undef = .pointer (some ⟨g,0,none⟩)) (hA : (isAgg ty).run P w = .ok true w) (hi : (P.info? ty).map (·.size) = some cs.length) (hr : VRow w g tt cs) :
 (results fn tmps).run P w = .ok (.tuple #[.agg cs.toArray,tmps.getD u undef]) w := by
 rw [results_cell_tmp h,ht]
 simp only [asAddr,Sem.run_pure,Result.andThen]
 rw [load hA hi hr]
theorem ret3 {fn : Func} {p u v : Tmp} {ty : TypeId} {tmps : Array Value} (h : fn.results = #[.cell p ty,.tmp u,.tmp v]) (ht : tmps.getD p undef = .pointer (some ⟨g,0,none⟩)) (hA : (isAgg ty).run P w = .ok true w) (hi : (P.info? ty).map (·.size) = some cs.length) (hr : VRow w g tt cs) :
 (results fn tmps).run P w = .ok (.tuple #[.agg cs.toArray,tmps.getD u undef,tmps.getD v undef]) w := by
 have h1 : (results fn tmps).run P w = ((asAddr (tmps.getD p undef)).run P w).andThen fun a w₁ => ((loadVar ty a).run P w₁).andThen fun x w₂ => .ok (.tuple #[x,tmps.getD u undef,tmps.getD v undef]) w₂ := by
  simp only [results,h]
  simp [Sem.run_bind,Result.andThen]
 rw [h1,ht]
 simp only [asAddr,Sem.run_pure,Result.andThen]
 rw [load hA hi hr]
theorem store {ops : Array Oper} {rest : List Oper} {o : Oper} {a : Act} {Q : Exit → Act → World → Prop} (hgd : o.guard = none) (x y : Operand) (ho : o.op = .store t x y)
 (g : Nat) (cs' : List Value) (hx : a.eval x = .pointer (some ⟨g,0,none⟩)) (hy : a.eval y = .agg cs'.toArray) (hr : VRow w g tt cs) (hi : (P.info? t).map (·.size) = some cs'.length) (hl : cs.length = cs'.length) (h1 : cs'.toArray.all (·.oneCell') = true)
 (h : wpList P ops Q rest (a.put o.dst undef) (w.setRow g cs'.toArray)) : wpList P ops Q (o :: rest) a w :=
 wpList_store_row hgd t x y ho g cs'.toArray hx hy tt cs.toArray hr (by simpa using hi) (by simpa using hl) h1 h
theorem loaded {ops : Array Oper} {rest : List Oper} {o : Oper} {a : Act} {Q : Exit → Act → World → Prop} (hgd : o.guard = none) (x : Operand) (ho : o.op = .load t x)
 (g : Nat) (hx : a.eval x = .pointer (some ⟨g,0,none⟩)) (hr : VRow w g tt cs) {d : TypeDesc} (hu : P.underlying t = some d) (hd : (match d with | .struct _ | .array _ _ => true | _ => false) = true) (hi : (P.info? t).map (·.size) = some cs.length)
 (h : wpList P ops Q rest (a.put o.dst (.agg cs.toArray)) w) : wpList P ops Q (o :: rest) a w :=
 wpList_load_row hgd t x ho g hx tt cs.toArray (0,0) d hr hu hd (by simpa using hi) h
end
end VB
namespace Sg
open Cf (G CA)
def raw8 (r : Nat → Rw) : List Value := [.bool (r 0).is,.int .i64 (r 0).n,.bool (r 1).is,.int .i64 (r 1).n,.bool (r 2).is,.int .i64 (r 2).n,.bool (r 3).is,.int .i64 (r 3).n]
def raws (l : List Rw) (i : Nat) : Rw := l.getD i rw0
def mk4 (f : Nat → Bool) : Int := (if f 0 = true then 1 else 0) + (if f 1 = true then 2 else 0) + (if f 2 = true then 4 else 0) + (if f 3 = true then 8 else 0)
section
variable (c : List Int) (s : Si) (r : Nat → Rw) (sh : Int)
def inm : Int := mk4 fun i => decide (i < NN c) && isin c s r sh i
def lam : Int := mk4 fun i => decide (i < NN c) && (s.ch i).st.la
def tri (i : Nat) : Int := if i < NN c then trp c s r sh i else 0
def evi (i : Nat) : Int := if i < NN c then wha c s r sh i else 0
def res : List Value := [.int .i64 (val c s r sh),.int .i64 (inm c s r sh),.int .i64 (lam c (nxt c s r sh)),.int .i64 (sus c s r sh),.bool (!any c s r sh),
 .int .i64 (tri c s r sh 0),.int .i64 (tri c s r sh 1),.int .i64 (tri c s r sh 2),.int .i64 (tri c s r sh 3),.int .i64 (evi c s r sh 0),.int .i64 (evi c s r sh 1),.int .i64 (evi c s r sh 2),.int .i64 (evi c s r sh 3)]
end
def zres : List Value := [.int .i64 0,.int .i64 0,.int .i64 0,.int .i64 0,.bool false,.int .i64 0,.int .i64 0,.int .i64 0,.int .i64 0,.int .i64 0,.int .i64 0,.int .i64 0,.int .i64 0]
def lav (s : Lc.St) : List Value := [.bool s.la,.bool s.ou,.int .i64 s.st,.int .i64 s.cl,.int .i64 s.bk]
def okr (c : List Int) (r : Nat → Rw) (sh : Int) : Prop := Rok c r ∧ 0 ≤ sh ∧ sh ≤ 15
structure Face where
 At : World → (Nat → Prop) → Nat → List Int → Si → Prop
 lt : ∀ {W S g c s},At W S g c s → ∀ j,S j → j < W.heap.size
 keep : ∀ {W W' : World} {S T : Nat → Prop} {g c s},At W S g c s → But T W W' → (∀ j,S j → ¬ T j) → At W' S g c s
 new_yes : ∀ (c : List Int) (w : World),c.length = 21 → Cf.Right c →
  Calls Tryz.prog 34 #[.agg (CA c)] w fun e w' => (∃ g S,e = .returned (.tuple #[.pointer (some ⟨g,0,none⟩),.int .i64 0]) ∧ At w' S g c (begin c) ∧ ∀ j,S j → w.heap.size ≤ j) ∧ Below w.heap.size w w'
 new_no : ∀ (c : List Int) (w : World),c.length = 21 → ¬ Cf.Right c →
  Calls Tryz.prog 34 #[.agg (CA c)] w fun e w' => e = .returned (.tuple #[.pointer none,.int .i64 2]) ∧ Below w.heap.size w w'
 step_yes : ∀ {W S g c s} (r : Nat → Rw) (sh : Int),At W S g c s → Cf.Right c → Ok c s → okr c r sh → s.votes.length < 1099511627776 →
  Calls Tryz.prog 79 #[.pointer (some ⟨g,0,none⟩),.agg (raw8 r).toArray,.int .i64 sh] W fun e w' => e = .returned (.tuple #[.agg (res c s r sh).toArray,.int .i64 0]) ∧ ∃ S',At w' S' g c (nxt c s r sh) ∧ But S W w' ∧ ∀ j,S' j → S j ∨ W.heap.size ≤ j
 step_no : ∀ {W S g c s} (r : Nat → Rw) (sh : Int),At W S g c s → Cf.Right c → Ok c s → ¬ okr c r sh →
  Calls Tryz.prog 79 #[.pointer (some ⟨g,0,none⟩),.agg (raw8 r).toArray,.int .i64 sh] W fun e w' => e = .returned (.tuple #[.agg zres.toArray,.int .i64 1]) ∧ Below W.heap.size W w'
 latched : ∀ {W S g c s},At W S g c s → Cf.Right c → Calls Tryz.prog 61 #[.pointer (some ⟨g,0,none⟩)] W fun e w' => e = .returned (.int .i64 (lam c s)) ∧ Below W.heap.size W w'
 state_yes : ∀ {W S g c s} (k : Nat),At W S g c s → Cf.Right c → k < NN c → Calls Tryz.prog 56 #[.pointer (some ⟨g,0,none⟩),.int .i64 k] W fun e w' => e = .returned (.tuple #[.agg (lav (s.ch k).st).toArray,.bool true]) ∧ Below W.heap.size W w'
 state_no : ∀ {W S g c s} (k : Int),At W S g c s → Cf.Right c → (k < 0 ∨ (NN c : Int) ≤ k) → Calls Tryz.prog 56 #[.pointer (some ⟨g,0,none⟩),.int .i64 k] W fun e w' => e = .returned (.tuple #[.agg (lav Lc.zer).toArray,.bool false]) ∧ Below W.heap.size W w'
theorem Face.on (F : Face) {W W' : World} {S : Nat → Prop} {g : Nat} {c : List Int} {s : Si} (h : F.At W S g c s) (b : Below W.heap.size W W') : F.At W' S g c s :=
 F.keep h (But.of_below (S := fun _ => False) b) (fun _ _ q => q)
structure Held (F : Face) (w W : World) (S : Nat → Prop) (g : Nat) (c : List Int) (s : Si) : Prop where
 below : Below w.heap.size w W
 at_ : F.At W S g c s
 new : ∀ j,S j → w.heap.size ≤ j
 ok : Ok c s
section
variable {F : Face} {w W W' : World} {S S' : Nat → Prop} {g : Nat} {c : List Int} {s s' : Si}
theorem Held.on (H : Held F w W S g c s) (b : Below W.heap.size W W') : Held F w W' S g c s := ⟨grow H.below b,F.on H.at_ b,H.new,H.ok⟩
theorem Held.alloc (H : Held F w W S g c s) (o : Obj) : Held F w (W.alloc o) S g c s := H.on ((Below.refl _ _).alloc (Nat.le_refl _) o)
theorem Held.put {j : Nat} (H : Held F w W S g c s) (hj : ¬ S j) (hw : w.heap.size ≤ j) (cs : Array Value) : Held F w (W.setRow j cs) S g c s :=
 ⟨Below.put H.below hw cs,F.keep H.at_ ((But.refl (· = j) W).put (Or.inl rfl) cs) (fun _ hk e => hj (e ▸ hk)),H.new,H.ok⟩
theorem Held.step (H : Held F w W S g c s) (a : F.At W' S' g c s') (b : But S W W') (n : ∀ j,S' j → S j ∨ W.heap.size ≤ j) (o : Ok c s') : Held F w W' S' g c s' :=
 ⟨But.below H.below b H.below.size H.new,a,fun j hj => (n j hj).elim (H.new j) (fun q => Nat.le_trans H.below.size q),o⟩
end
end Sg
namespace Flow
def looks (o : Oper) : List Tmp := o.op.operands.toList.filterMap fun | .tmp t => some t | _ => none
def fits (ops : Array Oper) (init : List Tmp) (n i : Nat) (o : Oper) : Bool :=
 o.guard.isNone && (match o.dst with | some d => decide (d < n) && !init.contains d | none => false) &&
 ((looks o).all fun t => init.contains t || o.after.any fun e => Region.binds .any e && ((ops[e.on]?).bind (·.dst) == some t)) &&
 (o.after.all fun e => !Region.binds .any e || decide (e.on < i))
def flowB (ops : Array Oper) (init : List Tmp) (n : Nat) : Bool :=
 (ops.toList.zipIdx.all fun q => fits ops init n q.2 q.1) && decide ((ops.toList.map (·.dst)).Nodup)
section
variable {P : Program} {Q : Exit → Act → World → Prop} {ops : Array Oper}
def Step (P : Program) (Val : Tmp → Value → World → Prop) (Q : Exit → Act → World → Prop) (o : Oper) : Prop :=
 ∀ a w,(∀ t ∈ looks o,Val t (a.tmps.getD t undef) w) → o.wp P a w (fun a' w' => ∃ v,a' = a.put o.dst v ∧ Below w.heap.size w w' ∧ ∀ d,o.dst = some d → Val d v w') Q
structure Inv (ops : Array Oper) (Val : Tmp → Value → World → Prop) (init : List Tmp) (n : Nat) (w0 : World) (a0 : Act) (listed : Array Bool) (a : Act) (w : World) : Prop where
 size : listed.size = ops.size
 frame : a.tmps.size = n
 defers : a.defers = a0.defers
 below : Below w0.heap.size w0 w
 start : ∀ t ∈ init,Val t (a.tmps.getD t undef) w
 old : ∀ t,(∀ (i : Nat) o,ops[i]? = some o → o.dst ≠ some t) → a.tmps.getD t undef = a0.tmps.getD t undef
 vals : ∀ (i : Nat) o d,ops[i]? = some o → listed.getD i true = true → o.dst = some d → Val d (a.tmps.getD d undef) w
theorem flow_at {init : List Tmp} {n : Nat} (hB : flowB ops init n = true) {i : Nat} {o : Oper} (hi : ops[i]? = some o) : fits ops init n i o = true := by
 unfold flowB at hB
 rw [Bool.and_eq_true] at hB
 refine List.all_eq_true.1 hB.1 (o,i) ?_
 rw [List.mem_zipIdx_iff_getElem?]
 simpa using hi
theorem flow_dst {init : List Tmp} {n : Nat} (hB : flowB ops init n = true) {i : Nat} {o : Oper} (hi : ops[i]? = some o) : o.guard = none ∧ ∃ d,o.dst = some d ∧ d < n ∧ d ∉ init := by
 have h := flow_at hB hi
 unfold fits at h
 simp only [Bool.and_eq_true] at h
 obtain ⟨⟨⟨h1,h2⟩,_⟩,_⟩ := h
 refine ⟨by simpa using h1,?_⟩
 cases hd : o.dst with
 | none => simp [hd] at h2
 | some d => simp [hd] at h2; exact ⟨d,rfl,h2.1,h2.2⟩
theorem flow_one {init : List Tmp} {n : Nat} (hB : flowB ops init n = true) {i j : Nat} {o p : Oper} (hi : ops[i]? = some o) (hj : ops[j]? = some p) (h : o.dst = p.dst) : i = j := by
 unfold flowB at hB
 rw [Bool.and_eq_true] at hB
 have hn : (ops.toList.map (·.dst)).Nodup := of_decide_eq_true hB.2
 have hi' : i < ops.size := by
  rcases Nat.lt_or_ge i ops.size with q | q
  · exact q
  · rw [Array.getElem?_eq_none q] at hi; cases hi
 exact (List.getElem?_inj (l := ops.toList.map (·.dst)) (by simpa using hi') hn).1 (by simp [hi,hj,h])
theorem all_listed {init : List Tmp} {n : Nat} (hB : flowB ops init n = true) {listed : Array Bool} (hs : listed.size = ops.size) (hr : Region.ready .any ops listed = []) :
 ∀ i,i < ops.size → listed.getD i true = true := by
 intro i
 induction i using Nat.strongRecOn with
 | _ i ih =>
   intro hi
   cases hl : listed.getD i true with
   | true => rfl
   | false =>
     have hm : i ∈ Region.ready .any ops listed := mem_ready.2 ⟨hl,ops[i],by simp [hi],fun e he hb => by
      have h := flow_at hB (i := i) (o := ops[i]) (by simp [hi])
      unfold fits at h
      simp only [Bool.and_eq_true] at h
      have := Array.all_eq_true_iff_forall_mem.1 h.2 e he
      simp [hb] at this
      have q := ih e.on this (by omega)
      have hlt : e.on < listed.size := by omega
      simpa [hlt] using q⟩
     rw [hr] at hm; cases hm
theorem step_inv {Val : Tmp → Value → World → Prop} {init : List Tmp} {n : Nat} {w0 : World} {a0 : Act} (hB : flowB ops init n = true)
 (hst : ∀ t v w w',Val t v w → Below w.heap.size w w' → Val t v w') (hstep : ∀ o ∈ ops.toList,Step P Val Q o)
 {listed : Array Bool} {a : Act} {w : World} (I : Inv ops Val init n w0 a0 listed a w) {i : Nat} (hr : i ∈ Region.ready .any ops listed) :
 wpOp P ops Q i (fun a' w' => Inv ops Val init n w0 a0 (listed.setIfInBounds i true) a' w') a w := by
 obtain ⟨hun,o,ho,hall⟩ := mem_ready.1 hr
 obtain ⟨hg,d,hd,hdn,hdi⟩ := flow_dst hB ho
 have hf := flow_at hB ho
 unfold fits at hf
 simp only [Bool.and_eq_true] at hf
 have hlk : ∀ t ∈ looks o,Val t (a.tmps.getD t undef) w := by
  intro t ht
  have h := List.all_eq_true.1 hf.1.2 t ht
  rw [Bool.or_eq_true] at h
  rcases h with h | h
  · exact I.start t (by simpa using h)
  · rw [Array.any_eq_true'] at h
    obtain ⟨e,he,h⟩ := h
    rw [Bool.and_eq_true,beq_iff_eq] at h
    have hl := hall e he h.1
    cases hp : ops[e.on]? with
    | none => rw [hp] at h; simp at h
    | some p =>
      rw [hp] at h
      have hlt : e.on < listed.size := by
       rcases Nat.lt_or_ge e.on listed.size with q | q
       · exact q
       · simp [Array.getElem?_eq_none q] at hl
      exact I.vals e.on p t hp (by simpa [hlt] using hl) (by simpa using h.2)
 have hmem : o ∈ ops.toList := by
  have := Array.mem_of_getElem? ho
  simpa using this
 have hs := hstep o hmem a w hlk
 unfold wpOp
 simp only [ho]
 rw [if_pos (show Region.wanted o (yielded ops a.tmps) = true by simp [Region.wanted,hg])]
 refine .inl (Oper.wp_mono ?_ hs)
 rintro a' w' ⟨v,rfl,hb,hv⟩
 have hv := hv d hd
 have hget : ∀ t,t ≠ d → (a.put o.dst v).tmps.getD t undef = a.tmps.getD t undef := by
  intro t ht
  simp [Act.put,hd,Array.getElem?_setIfInBounds_ne (Ne.symm ht)]
 have hset : (a.put o.dst v).tmps.getD d undef = v := by
  simp [Act.put,hd,I.frame,hdn]
 refine ⟨by simpa using I.size,by simpa [Act.put,hd] using I.frame,by simpa [Act.put,hd] using I.defers,grow I.below hb,?_,?_,?_⟩
 · intro t ht
   rw [hget t (fun e => hdi (e ▸ ht))]
   exact hst _ _ _ _ (I.start t ht) hb
 · intro t ht
   rw [hget t (fun e => ht i o ho (e ▸ hd))]
   exact I.old t ht
 · intro j p x hp hl hx
   by_cases hij : j = i
   · subst hij
     rw [ho] at hp; cases hp
     rw [hd] at hx; cases hx
     rw [hset]; exact hv
   · rw [hget x (fun e => hij (flow_one hB hp ho (by rw [hx,hd,e])))]
     refine hst _ _ _ _ (I.vals j p x hp ?_ hx) hb
     rwa [getD_set_ne true (Ne.symm hij)] at hl
theorem flow_any {Val : Tmp → Value → World → Prop} {init : List Tmp} {n : Nat} {w0 : World} {a0 : Act} (hB : flowB ops init n = true)
 (hst : ∀ t v w w',Val t v w → Below w.heap.size w w' → Val t v w') (hstep : ∀ o ∈ ops.toList,Step P Val Q o)
 (hend : ∀ listed a w,Inv ops Val init n w0 a0 listed a w → (∀ i,i < ops.size → listed.getD i true = true) → Q .normal a w) :
 ∀ (fuel : Nat) (listed : Array Bool) (a : Act) (w : World),Inv ops Val init n w0 a0 listed a w → listed.toList.count false ≤ fuel → wpAny P .any ops Q fuel listed a w
 | 0,listed,a,w,I,hc => by
   have hr : Region.ready .any ops listed = [] := by
    rw [List.eq_nil_iff_forall_not_mem]
    intro i hi
    have h1 := (mem_ready.1 hi).1
    have : false ∈ listed.toList := by
     rcases Nat.lt_or_ge i listed.size with q | q
     · simp [q] at h1
       rw [← h1]; simp
     · simp [Array.getElem?_eq_none q] at h1
    have := List.count_pos_iff.2 this
    omega
   exact ⟨hr,hend _ _ _ I (all_listed hB I.size hr)⟩
 | fuel + 1,listed,a,w,I,hc => by
   refine ⟨fun hr => hend _ _ _ I (all_listed hB I.size hr),fun i hi => ?_⟩
   refine wpOp_mono (fun a' w' I' => flow_any hB hst hstep hend fuel _ a' w' I' ?_) (step_inv hB hst hstep I hi)
   have h1 := (mem_ready.1 hi).1
   have q : i < listed.size := by
    rcases Nat.lt_or_ge i listed.size with q | q
    · exact q
    · simp [Array.getElem?_eq_none q] at h1
   simp [q] at h1
   rw [Array.toList_setIfInBounds,List.count_set (by simpa using q)]
   have hp : 0 < listed.toList.count false := List.count_pos_iff.2 (by rw [← h1]; simp)
   have hp' : listed.toList.count false - 1 ≤ fuel := by omega
   simpa [h1] using hp'
theorem wp_region_flow {id : Nat} {a : Act} {w : World} (Val : Tmp → Value → World → Prop) (init : List Tmp) (n : Nat) (hm : P.follows .mixedOrders = true) (hB : flowB ops init n = true)
 (hst : ∀ t v w w',Val t v w → Below w.heap.size w w' → Val t v w') (hn : a.tmps.size = n) (hinit : ∀ t ∈ init,Val t (a.tmps.getD t undef) w) (hstep : ∀ o ∈ ops.toList,Step P Val Q o)
 (hend : ∀ a' w',Below w.heap.size w w' → a'.tmps.size = n → a'.defers = a.defers → (∀ t,(∀ (i : Nat) o,ops[i]? = some o → o.dst ≠ some t) → a'.tmps.getD t undef = a.tmps.getD t undef) →
  (∀ (i : Nat) o d,ops[i]? = some o → o.dst = some d → Val d (a'.tmps.getD d undef) w') → Q .normal a' w') : (Code.region id ops true).wp P Q a w := by
 have b0 : Below w.heap.size w { w with drawn := w.drawn + 1 } := ⟨rfl,rfl,rfl,Nat.le_refl _,fun _ _ => rfl⟩
 refine wp_region_any hm (flow_any (Val := Val) (init := init) (n := n) (w0 := w) (a0 := a) hB hst hstep ?_ _ _ _ _ ⟨by simp,hn,rfl,b0,fun t ht => hst _ _ _ _ (hinit t ht) b0,fun _ _ => rfl,?_⟩ ?_)
 · intro listed a' w' I hl
   refine hend a' w' I.below I.frame I.defers I.old fun i o d hi hd => I.vals i o d hi (hl i ?_) hd
   rcases Nat.lt_or_ge i ops.size with q | q
   · exact q
   · rw [Array.getElem?_eq_none q] at hi; cases hi
 · intro i o d hi hl
   rcases Nat.lt_or_ge i ops.size with q | q
   · simp [q] at hl
   · rw [Array.getElem?_eq_none q] at hi; cases hi
 · simp
end
end Flow
namespace Cf
theorem bound_any (s : ByteArray) (l h : Int) (a : Option Addr) (n cap : Nat) (w : World) :
 Calls Tryz.prog 148 #[.string s,.int .i64 l,.int .i64 h,.slice a n cap] w fun e w' => e = .returned (.agg #[.string s,.int .i64 l,.int .i64 h,.slice a n cap]) ∧ Below w.heap.size w w' := by
 go_enter Tryz.func148,Tryz.ntmps148
 go_wp2
 refine bodyPost_ret (v := .agg #[.string s,.int .i64 l,.int .i64 h,.slice a n cap]) ?_ rfl ⟨rfl,(Below.refl _ _).alloc (Nat.le_refl _) _⟩
 exact results_cell_row rfl _ _ w.heap.size _ _ (0,0) _ rfl (heap_alloc_new w _) Tryz.underlying209 rfl (by kernel_rfl)
def Box (w : World) (b : Nat) (c : List Int) : Prop := IRow .i64 w b 24 c
theorem Box.new (w : World) (c : List Int) : Box (w.alloc (.cells (CA c) 24)) w.heap.size c := heap_alloc_new w _
theorem Box.lt {w : World} {b : Nat} {c : List Int} (h : Box w b c) : b < w.heap.size := IRow.lt h
theorem Box.at {w : World} {b : Nat} {c : List Int} (h : Box w b c) (hc : c.length = 21) (j : Nat) (hj : j < 21) : w.cell? ⟨b,j,none⟩ = some (.int .i64 (G c j)) := IRow.cell h j (by omega)
theorem Box.below {w w' : World} {b B : Nat} {c : List Int} (h : Box w b c) (hb : Below B w w') (hg : b < B) : Box w' b c := IRow.below h hb hg
theorem Box.on {w w' : World} {b : Nat} {c : List Int} (h : Box w b c) (hb : Below w.heap.size w w') : Box w' b c := h.below hb h.lt
theorem sizeC : (Tryz.prog.info? 24).map (·.size) = some 21 := by kernel_rfl
theorem wpList_loadC {ops : Array Oper} {rest : List Oper} {o : Oper} {a : Act} {w : World} {Q : Exit → Act → World → Prop} (hgd : o.guard = none) (x : Operand) (ho : o.op = .load 24 x)
 (b : Nat) (c : List Int) (hx : a.eval x = .pointer (some ⟨b,0,none⟩)) (hb : Box w b c) (hc : c.length = 21)
 (h : wpList Tryz.prog ops Q rest (a.put o.dst (.agg (CA c))) w) : wpList Tryz.prog ops Q (o :: rest) a w :=
 wpList_load_row hgd 24 x ho b hx 24 (CA c) (0,0) _ hb Tryz.underlying24 rfl (by rw [CA_size,hc]; exact sizeC) h
theorem ints1 (w : World) (t : TypeId) (x : Int) : IntsAt .i64 (w.alloc (.cells #[.int .i64 x] t)) (some ⟨w.heap.size,0,none⟩) [x] := by
 refine Or.inr ⟨_,0,rfl,?_⟩
 intro i hi
 simp at hi
 subst hi
 simp [World.cell?_alloc_new]
theorem ints_off {w : World} {b : Nat} {c l : List Int} (h : Box w b c) (hc : c.length = 21) (o : Nat) (hl : ∀ i,i < l.length → o + i < 21 ∧ l.getD i 0 = G c (o + i)) : IntsAt .i64 w (some ⟨b,o,none⟩) l :=
 Or.inr ⟨b,o,rfl,fun i hi => by rw [(hl i hi).2]; exact h.at hc _ (hl i hi).1⟩
theorem weights_any (c : List Int) (w : World) (hc : c.length = 21) :
 Calls Tryz.prog 147 #[.agg (CA c)] w fun e w' => ∃ a0 k0 a1 k1,e = .returned (.tuple #[.slice a0 (own c).length k0,.slice a1 (others c).length k1]) ∧ IntsAt .i64 w' a0 (own c) ∧ IntsAt .i64 w' a1 (others c) ∧ Below w.heap.size w w' := by
 have B0 := Lib.hid (Box.new w c)
 have b0 := Lib.hid ((Below.refl w.heap.size w).alloc (Nat.le_refl _) (.cells (CA c) 24))
 have c0 := B0.out.at hc 0 (by omega)
 by_cases h4 : G c 0 = 4
 · have e1 : own c = [G c 17,G c 18,G c 19,G c 20] := by simp [own,h4]
   have e2 : others c = [] := by simp [others,h4]
   rw [e1,e2]
   have d0 : (G c 0 == 4) = true := by simp [h4]
   clear h4 e1 e2
   go_enter Tryz.func147,Tryz.ntmps147
   go_wp2_with fail
   go_quiet (fail)
   go_wp2_with fail
   go_ret2
   refine ⟨_,_,_,_,rfl,?_,Or.inl rfl,?_⟩
   · exact ints_off B0.out hc 17 (by intro i hi; simp at hi; rcases i with _ | _ | _ | _ | i <;> first | exact ⟨by omega,rfl⟩ | omega)
   · exact below_drewN b0.out _
 · have e1 : own c = [G c 17,G c 18,G c 19] := by simp [own,h4]
   have e2 : others c = [G c 20] := by simp [others,h4]
   rw [e1,e2]
   have d0 : (G c 0 == 4) = false := by simp [h4]
   clear h4 e1 e2
   go_enter Tryz.func147,Tryz.ntmps147
   go_wp2_with fail
   go_quiet (fail)
   go_wp2_with fail
   go_ret2
   refine ⟨_,_,_,_,rfl,?_,?_,?_⟩
   · exact ints_off B0.out hc 17 (by intro i hi; simp at hi; rcases i with _ | _ | _ | i <;> first | exact ⟨by omega,rfl⟩ | omega)
   · exact ints_off B0.out hc 20 (by intro i hi; simp at hi; subst hi; exact ⟨by omega,rfl⟩)
   · exact below_drewN b0.out _
noncomputable def fOps : Array Oper := match (Tryz.f101).body with
 | some (.seq _ (.seq _ (.seq (.region _ ops _) _))) => ops
 | _ => #[]
theorem fOps_flow : Flow.flowB fOps [1,3,4] 89 = true := by kernel_rfl
inductive Kind where
 | base | addr (j : Nat) | num (j : Nat) | ints (k : Nat) | row (k : Nat) | all | none
def kinds : List Kind :=
 [.none,.base,.all,.ints 17,.ints 18,.none,.none,.none,.none,.none,.addr 0,.num 0,.ints 0,.row 0,.addr 1,.num 1,.ints 1,.row 1,.addr 1,.num 1,.addr 2,.num 2,.ints 2,.row 2,.addr 1,.num 1,.addr 2,.num 2,.addr 3,.num 3,.ints 3,.row 3,
  .addr 4,.num 4,.ints 4,.row 4,.addr 5,.num 5,.ints 5,.row 5,.addr 6,.num 6,.ints 6,.row 6,.addr 7,.num 7,.ints 7,.row 7,.addr 8,.num 8,.ints 8,.row 8,.addr 9,.num 9,.ints 9,.row 9,.addr 10,.num 10,.ints 10,.row 10,.addr 11,.num 11,.ints 11,.row 11,.addr 12,.num 12,.ints 12,.row 12,.addr 13,.num 13,.ints 13,.row 13,.addr 14,.num 14,.ints 14,.row 14,.addr 15,.num 15,.ints 15,.row 15,.addr 16,.num 16,.ints 16,.row 16,.ints 17,.row 17,.ints 18,.row 18,.all]
def sk (t : Tmp) : Kind := kinds.getD t .none
def rowC (c : List Int) (k : Nat) : Row := (rows c).getD k noRow
structure RowAt (w : World) (p i : Nat) (r : Row) : Prop where
 name : w.cell? ⟨p,i * 4,none⟩ = some (.string r.name)
 lo : w.cell? ⟨p,i * 4 + 1,none⟩ = some (.int .i64 r.lo)
 hi : w.cell? ⟨p,i * 4 + 2,none⟩ = some (.int .i64 r.hi)
 nums : ∃ a cap,w.cell? ⟨p,i * 4 + 3,none⟩ = some (.slice a r.nums.length cap) ∧ IntsAt .i64 w a r.nums
theorem RowAt.on {w w' : World} {p i : Nat} {r : Row} (h : RowAt w p i r) (b : Below w.heap.size w w') : RowAt w' p i r := by
 obtain ⟨h1,h2,h3,a,cap,h4,h5⟩ := h
 exact ⟨(b.cell (p := ⟨p,i * 4,none⟩) (cell_lt h1)).trans h1,(b.cell (p := ⟨p,i * 4 + 1,none⟩) (cell_lt h2)).trans h2,(b.cell (p := ⟨p,i * 4 + 2,none⟩) (cell_lt h3)).trans h3,a,cap,(b.cell (p := ⟨p,i * 4 + 3,none⟩) (cell_lt h4)).trans h4,h5.below b⟩
def V (b : Nat) (c : List Int) : Kind → Value → World → Prop
 | .base,v,w => v = .pointer (some ⟨b,0,Option.none⟩) ∧ Box w b c
 | .addr j,v,w => v = .pointer (some ⟨b,j,Option.none⟩) ∧ Box w b c
 | .num j,v,_ => v = .int .i64 (G c j)
 | .ints k,v,w => ∃ a cap,v = .slice a (rowC c k).nums.length cap ∧ IntsAt .i64 w a (rowC c k).nums
 | .row k,v,w => ∃ a cap,v = .agg #[.string (rowC c k).name,.int .i64 (rowC c k).lo,.int .i64 (rowC c k).hi,.slice a (rowC c k).nums.length cap] ∧ IntsAt .i64 w a (rowC c k).nums
 | .all,v,w => ∃ p,v = .slice (some ⟨p,0,Option.none⟩) 19 19 ∧ ∀ i,i < 19 → RowAt w p i (rowC c i)
 | .none,_,_ => True
theorem V.on {b : Nat} {c : List Int} {k : Kind} {v : Value} {w w' : World} (h : V b c k v w) (hb : Below w.heap.size w w') : V b c k v w' := by
 cases k with
 | base => exact ⟨h.1,h.2.on hb⟩
 | addr j => exact ⟨h.1,h.2.on hb⟩
 | num j => exact h
 | ints k => obtain ⟨a,cap,e,i⟩ := h; exact ⟨a,cap,e,i.below hb⟩
 | row k => obtain ⟨a,cap,e,i⟩ := h; exact ⟨a,cap,e,i.below hb⟩
 | all => obtain ⟨p,e,i⟩ := h; exact ⟨p,e,fun j hj => (i j hj).on hb⟩
 | none => trivial
section
variable {b : Nat} {c : List Int} {Q : Exit → Act → World → Prop}
open Flow
set_option maxRecDepth 100000 in
theorem step_addr {d : Tmp} {j : Nat} {ty : TypeId} {pos : String} {after : Array Edge} (hd : sk d = .addr j) (hj : j < 17) :
 Step Tryz.prog (fun t => V b c (sk t)) Q ⟨some d,.fieldAddr 24 (.tmp 1) j,ty,pos,after,none⟩ := by
 intro a w h
 obtain ⟨e,hb⟩ : V b c .base (a.tmps.getD 1 undef) w := h 1 (List.Mem.head _)
 have e1 : a.eval (.tmp 1) = .pointer (some ⟨b,0,none⟩) := e
 obtain rfl | rfl | rfl | rfl | rfl | rfl | rfl | rfl | rfl | rfl | rfl | rfl | rfl | rfl | rfl | rfl | rfl : j = 0 ∨ j = 1 ∨ j = 2 ∨ j = 3 ∨ j = 4 ∨ j = 5 ∨ j = 6 ∨ j = 7 ∨ j = 8 ∨ j = 9 ∨ j = 10 ∨ j = 11 ∨ j = 12 ∨ j = 13 ∨ j = 14 ∨ j = 15 ∨ j = 16 := by omega
 all_goals
  unfold Oper.wp execOp
  simp only [e1]
  go_simp
  exact ⟨_,rfl,Below.refl _ _,rfl,hb⟩
theorem step_load {d t : Tmp} {j : Nat} {ty : TypeId} {pos : String} {after : Array Edge} (hc : c.length = 21) (hd : sk d = .num j) (ht : sk t = .addr j) (hj : j < 21) :
 Step Tryz.prog (fun t => V b c (sk t)) Q ⟨some d,.load 3 (.tmp t),ty,pos,after,none⟩ := by
 intro a w h
 have h1 := h t (List.Mem.head _)
 simp only [ht] at h1
 obtain ⟨e,hb⟩ := h1
 have e1 : a.eval (.tmp t) = .pointer (some ⟨b,j,none⟩) := e
 have hcell := hb.at hc j hj
 unfold Oper.wp execOp
 simp only [e1]
 go_simp
 exact ⟨_,rfl,Below.refl _ _,rfl⟩
theorem step_one {d t : Tmp} {j : Nat} {ty : TypeId} {pos : String} {after : Array Edge} (hd : sk d = .ints j) (ht : sk t = .num j) (hj : (rowC c j).nums = [G c j]) :
 Step Tryz.prog (fun t => V b c (sk t)) Q ⟨some d,.buildSlice 144 1 #[(0,.tmp t)],ty,pos,after,none⟩ := by
 intro a w h
 have h1 := h t (List.Mem.head _)
 simp only [ht] at h1
 have e1 : a.eval (.tmp t) = .int .i64 (G c j) := h1
 have hj' := Lib.hid hj
 clear hj
 unfold Oper.wp execOp
 simp only [e1,List.map_toArray,List.map_cons,List.map_nil]
 go_simp
 refine ⟨_,rfl,(Below.refl _ _).alloc (Nat.le_refl _) _,_,1,by rw [hj'.out]; rfl,?_⟩
 rw [hj'.out]
 exact ints1 w _ _
theorem step_move {d t : Tmp} {k : Kind} {ty : TypeId} {pos : String} {after : Array Edge} (hd : sk d = k) (ht : sk t = k) :
 Step Tryz.prog (fun t => V b c (sk t)) Q ⟨some d,.move (.tmp t),ty,pos,after,none⟩ := by
 intro a w h
 have h1 := h t (List.Mem.head _)
 refine ⟨_,rfl,Below.refl _ _,fun d' hd' => ?_⟩
 cases hd'
 simp only [hd]; simp only [ht] at h1; exact h1
theorem step_assign {d t : Tmp} {k : Kind} {ty : TypeId} {pos : String} {after : Array Edge} (hd : sk d = k) (ht : sk t = k) :
 Step Tryz.prog (fun t => V b c (sk t)) Q ⟨some d,.assign (.tmp t),ty,pos,after,none⟩ := by
 intro a w h
 have h1 := h t (List.Mem.head _)
 refine ⟨_,rfl,Below.refl _ _,fun d' hd' => ?_⟩
 cases hd'
 simp only [hd]; simp only [ht] at h1; exact h1
abbrev bOp (s : ByteArray) (x y : Operand) (t : Tmp) : Op := .call { callee := .value (.func 148),args := #[.const (.string s),x,y,.tmp t],argTypes := #[9,3,3,144] }
def Num (c : List Int) (x : Operand) (l : Int) : Prop := x = .const (.int .i64 l) ∨ ∃ t j,x = .tmp t ∧ sk t = .num j ∧ G c j = l
theorem step_call {d t : Tmp} {k : Nat} {s : ByteArray} {x y : Operand} {ty : TypeId} {pos : String} {after : Array Edge} (hd : sk d = .row k) (ht : sk t = .ints k) (hs : (rowC c k).name = s)
 (hx : Num c x (rowC c k).lo) (hy : Num c y (rowC c k).hi) : Step Tryz.prog (fun t => V b c (sk t)) Q ⟨some d,bOp s x y t,ty,pos,after,none⟩ := by
 intro a w h
 have hm : ∀ u,x = .tmp u ∨ y = .tmp u ∨ u = t → u ∈ looks ⟨some d,bOp s x y t,ty,pos,after,none⟩ := by
  intro u hu
  simp only [looks,List.mem_filterMap]
  refine ⟨.tmp u,?_,rfl⟩
  show Operand.tmp u ∈ [Operand.func 148,.const (.string s),x,y,.tmp t]
  rcases hu with rfl | rfl | rfl <;> simp
 have h1 := h t (hm t (Or.inr (Or.inr rfl)))
 simp only [ht] at h1
 have e1 : a.eval x = .int .i64 (rowC c k).lo := by
  rcases hx with rfl | ⟨u,j,rfl,q1,q2⟩
  · rfl
  · have := h u (hm u (Or.inl rfl)); simp only [q1] at this; rw [← q2]; exact this
 have e2 : a.eval y = .int .i64 (rowC c k).hi := by
  rcases hy with rfl | ⟨u,j,rfl,q1,q2⟩
  · rfl
  · have := h u (hm u (Or.inr (Or.inl rfl))); simp only [q1] at this; rw [← q2]; exact this
 obtain ⟨ad,cap,e3,hi⟩ := h1
 have e3 : a.eval (.tmp t) = _ := e3
 subst hs
 clear hx hy h hm
 unfold Oper.wp execOp
 simp only [resolve,e1,e2,e3,List.map_toArray,List.map_cons,List.map_nil]
 go_simp
 refine (bound_any _ _ _ _ _ _ _).mono ?_
 rintro e w' ⟨rfl,hb⟩
 exact ⟨_,rfl,hb,_,_,rfl,hi.below hb⟩
theorem run_buildRows {P : Program} {t e : TypeId} {len : Nat} {parts : Array (Nat × Value)} {z : Value} {cells : Array Value} (w : World) (hu : P.underlying t = some (.slice e)) (hi : (P.info? e).map (fun i => (i.zero,i.size)) = some (some z,4)) (hl : 0 < len ∧ len ≤ 4194304)
 (hf : Instr.fill (fun i => some (i * 4,4)) ((Array.range (len * 4)).map (z.cells[· % z.cells.size]!)) parts.toList = some cells) :
 (Instr.buildSlice t len parts).run P w = .ok (.slice (some ⟨w.heap.size,0,none⟩) len len) (w.alloc (.cells cells e)) := by
 cases hq : P.info? e with
 | none => simp [hq] at hi
 | some i =>
   simp [hq] at hi
   obtain ⟨h1,h2⟩ := hi
   have n1 : ¬ 16777216 < len * 4 := by omega
   simp [Instr.buildSlice,run_underlying hu,sizeOf,typeInfo,zeroValue,hq,h1,h2,n1,hf,newRow]
   omega
theorem zeroF : (Tryz.prog.info? 209).map (fun i => (i.zero,i.size)) = some (some (.agg #[.string ⟨#[]⟩,.int .i64 0,.int .i64 0,.slice none 0 0]),4) := by kernel_rfl
def allParts : Array (Nat × Operand) := #[(0,.tmp 13),(1,.tmp 17),(2,.tmp 23),(3,.tmp 31),(4,.tmp 35),(5,.tmp 39),(6,.tmp 43),(7,.tmp 47),(8,.tmp 51),(9,.tmp 55),(10,.tmp 59),(11,.tmp 63),(12,.tmp 67),(13,.tmp 71),(14,.tmp 75),(15,.tmp 79),(16,.tmp 83),(17,.tmp 85),(18,.tmp 87)]
set_option maxRecDepth 100000 in
theorem step_all {ty : TypeId} {pos : String} {after : Array Edge} : Step Tryz.prog (fun t => V b c (sk t)) Q ⟨some 88,.buildSlice 206 19 allParts,ty,pos,after,none⟩ := by
 intro a w h
 have hm : ∀ u,u ∈ [13,17,23,31,35,39,43,47,51,55,59,63,67,71,75,79,83,85,87] → u ∈ looks ⟨some 88,.buildSlice 206 19 allParts,ty,pos,after,none⟩ := fun u hu => hu
 obtain ⟨a0,k0,e0,i0⟩ : V b c (.row 0) (a.tmps.getD 13 undef) w := h 13 (hm 13 (by decide))
 obtain ⟨a1,k1,e1,i1⟩ : V b c (.row 1) (a.tmps.getD 17 undef) w := h 17 (hm 17 (by decide))
 obtain ⟨a2,k2,e2,i2⟩ : V b c (.row 2) (a.tmps.getD 23 undef) w := h 23 (hm 23 (by decide))
 obtain ⟨a3,k3,e3,i3⟩ : V b c (.row 3) (a.tmps.getD 31 undef) w := h 31 (hm 31 (by decide))
 obtain ⟨a4,k4,e4,i4⟩ : V b c (.row 4) (a.tmps.getD 35 undef) w := h 35 (hm 35 (by decide))
 obtain ⟨a5,k5,e5,i5⟩ : V b c (.row 5) (a.tmps.getD 39 undef) w := h 39 (hm 39 (by decide))
 obtain ⟨a6,k6,e6,i6⟩ : V b c (.row 6) (a.tmps.getD 43 undef) w := h 43 (hm 43 (by decide))
 obtain ⟨a7,k7,e7,i7⟩ : V b c (.row 7) (a.tmps.getD 47 undef) w := h 47 (hm 47 (by decide))
 obtain ⟨a8,k8,e8,i8⟩ : V b c (.row 8) (a.tmps.getD 51 undef) w := h 51 (hm 51 (by decide))
 obtain ⟨a9,k9,e9,i9⟩ : V b c (.row 9) (a.tmps.getD 55 undef) w := h 55 (hm 55 (by decide))
 obtain ⟨a10,k10,e10,i10⟩ : V b c (.row 10) (a.tmps.getD 59 undef) w := h 59 (hm 59 (by decide))
 obtain ⟨a11,k11,e11,i11⟩ : V b c (.row 11) (a.tmps.getD 63 undef) w := h 63 (hm 63 (by decide))
 obtain ⟨a12,k12,e12,i12⟩ : V b c (.row 12) (a.tmps.getD 67 undef) w := h 67 (hm 67 (by decide))
 obtain ⟨a13,k13,e13,i13⟩ : V b c (.row 13) (a.tmps.getD 71 undef) w := h 71 (hm 71 (by decide))
 obtain ⟨a14,k14,e14,i14⟩ : V b c (.row 14) (a.tmps.getD 75 undef) w := h 75 (hm 75 (by decide))
 obtain ⟨a15,k15,e15,i15⟩ : V b c (.row 15) (a.tmps.getD 79 undef) w := h 79 (hm 79 (by decide))
 obtain ⟨a16,k16,e16,i16⟩ : V b c (.row 16) (a.tmps.getD 83 undef) w := h 83 (hm 83 (by decide))
 obtain ⟨a17,k17,e17,i17⟩ : V b c (.row 17) (a.tmps.getD 85 undef) w := h 85 (hm 85 (by decide))
 obtain ⟨a18,k18,e18,i18⟩ : V b c (.row 18) (a.tmps.getD 87 undef) w := h 87 (hm 87 (by decide))
 have hp : (allParts.map fun (i,x) => (i,a.eval x)) = #[(0,.agg #[.string (rowC c 0).name,.int .i64 (rowC c 0).lo,.int .i64 (rowC c 0).hi,.slice a0 (rowC c 0).nums.length k0]),(1,.agg #[.string (rowC c 1).name,.int .i64 (rowC c 1).lo,.int .i64 (rowC c 1).hi,.slice a1 (rowC c 1).nums.length k1]),(2,.agg #[.string (rowC c 2).name,.int .i64 (rowC c 2).lo,.int .i64 (rowC c 2).hi,.slice a2 (rowC c 2).nums.length k2]),(3,.agg #[.string (rowC c 3).name,.int .i64 (rowC c 3).lo,.int .i64 (rowC c 3).hi,.slice a3 (rowC c 3).nums.length k3]),(4,.agg #[.string (rowC c 4).name,.int .i64 (rowC c 4).lo,.int .i64 (rowC c 4).hi,.slice a4 (rowC c 4).nums.length k4]),(5,.agg #[.string (rowC c 5).name,.int .i64 (rowC c 5).lo,.int .i64 (rowC c 5).hi,.slice a5 (rowC c 5).nums.length k5]),(6,.agg #[.string (rowC c 6).name,.int .i64 (rowC c 6).lo,.int .i64 (rowC c 6).hi,.slice a6 (rowC c 6).nums.length k6]),(7,.agg #[.string (rowC c 7).name,.int .i64 (rowC c 7).lo,.int .i64 (rowC c 7).hi,.slice a7 (rowC c 7).nums.length k7]),(8,.agg #[.string (rowC c 8).name,.int .i64 (rowC c 8).lo,.int .i64 (rowC c 8).hi,.slice a8 (rowC c 8).nums.length k8]),(9,.agg #[.string (rowC c 9).name,.int .i64 (rowC c 9).lo,.int .i64 (rowC c 9).hi,.slice a9 (rowC c 9).nums.length k9]),(10,.agg #[.string (rowC c 10).name,.int .i64 (rowC c 10).lo,.int .i64 (rowC c 10).hi,.slice a10 (rowC c 10).nums.length k10]),(11,.agg #[.string (rowC c 11).name,.int .i64 (rowC c 11).lo,.int .i64 (rowC c 11).hi,.slice a11 (rowC c 11).nums.length k11]),(12,.agg #[.string (rowC c 12).name,.int .i64 (rowC c 12).lo,.int .i64 (rowC c 12).hi,.slice a12 (rowC c 12).nums.length k12]),(13,.agg #[.string (rowC c 13).name,.int .i64 (rowC c 13).lo,.int .i64 (rowC c 13).hi,.slice a13 (rowC c 13).nums.length k13]),(14,.agg #[.string (rowC c 14).name,.int .i64 (rowC c 14).lo,.int .i64 (rowC c 14).hi,.slice a14 (rowC c 14).nums.length k14]),(15,.agg #[.string (rowC c 15).name,.int .i64 (rowC c 15).lo,.int .i64 (rowC c 15).hi,.slice a15 (rowC c 15).nums.length k15]),(16,.agg #[.string (rowC c 16).name,.int .i64 (rowC c 16).lo,.int .i64 (rowC c 16).hi,.slice a16 (rowC c 16).nums.length k16]),(17,.agg #[.string (rowC c 17).name,.int .i64 (rowC c 17).lo,.int .i64 (rowC c 17).hi,.slice a17 (rowC c 17).nums.length k17]),(18,.agg #[.string (rowC c 18).name,.int .i64 (rowC c 18).lo,.int .i64 (rowC c 18).hi,.slice a18 (rowC c 18).nums.length k18])] := by
  have e0 : a.eval (.tmp 13) = _ := e0
  have e1 : a.eval (.tmp 17) = _ := e1
  have e2 : a.eval (.tmp 23) = _ := e2
  have e3 : a.eval (.tmp 31) = _ := e3
  have e4 : a.eval (.tmp 35) = _ := e4
  have e5 : a.eval (.tmp 39) = _ := e5
  have e6 : a.eval (.tmp 43) = _ := e6
  have e7 : a.eval (.tmp 47) = _ := e7
  have e8 : a.eval (.tmp 51) = _ := e8
  have e9 : a.eval (.tmp 55) = _ := e9
  have e10 : a.eval (.tmp 59) = _ := e10
  have e11 : a.eval (.tmp 63) = _ := e11
  have e12 : a.eval (.tmp 67) = _ := e12
  have e13 : a.eval (.tmp 71) = _ := e13
  have e14 : a.eval (.tmp 75) = _ := e14
  have e15 : a.eval (.tmp 79) = _ := e15
  have e16 : a.eval (.tmp 83) = _ := e16
  have e17 : a.eval (.tmp 85) = _ := e17
  have e18 : a.eval (.tmp 87) = _ := e18
  simp only [allParts,List.map_toArray,List.map_cons,List.map_nil,e0,e1,e2,e3,e4,e5,e6,e7,e8,e9,e10,e11,e12,e13,e14,e15,e16,e17,e18]
 unfold Oper.wp execOp
 simp only [hp]
 rw [Sem.run_bind,run_buildRows w Tryz.underlying206 zeroF (by omega) (cells := #[.string (rowC c 0).name,.int .i64 (rowC c 0).lo,.int .i64 (rowC c 0).hi,.slice a0 (rowC c 0).nums.length k0,.string (rowC c 1).name,.int .i64 (rowC c 1).lo,.int .i64 (rowC c 1).hi,.slice a1 (rowC c 1).nums.length k1,.string (rowC c 2).name,.int .i64 (rowC c 2).lo,.int .i64 (rowC c 2).hi,.slice a2 (rowC c 2).nums.length k2,.string (rowC c 3).name,.int .i64 (rowC c 3).lo,.int .i64 (rowC c 3).hi,.slice a3 (rowC c 3).nums.length k3,.string (rowC c 4).name,.int .i64 (rowC c 4).lo,.int .i64 (rowC c 4).hi,.slice a4 (rowC c 4).nums.length k4,.string (rowC c 5).name,.int .i64 (rowC c 5).lo,.int .i64 (rowC c 5).hi,.slice a5 (rowC c 5).nums.length k5,.string (rowC c 6).name,.int .i64 (rowC c 6).lo,.int .i64 (rowC c 6).hi,.slice a6 (rowC c 6).nums.length k6,.string (rowC c 7).name,.int .i64 (rowC c 7).lo,.int .i64 (rowC c 7).hi,.slice a7 (rowC c 7).nums.length k7,.string (rowC c 8).name,.int .i64 (rowC c 8).lo,.int .i64 (rowC c 8).hi,.slice a8 (rowC c 8).nums.length k8,.string (rowC c 9).name,.int .i64 (rowC c 9).lo,.int .i64 (rowC c 9).hi,.slice a9 (rowC c 9).nums.length k9,.string (rowC c 10).name,.int .i64 (rowC c 10).lo,.int .i64 (rowC c 10).hi,.slice a10 (rowC c 10).nums.length k10,.string (rowC c 11).name,.int .i64 (rowC c 11).lo,.int .i64 (rowC c 11).hi,.slice a11 (rowC c 11).nums.length k11,.string (rowC c 12).name,.int .i64 (rowC c 12).lo,.int .i64 (rowC c 12).hi,.slice a12 (rowC c 12).nums.length k12,.string (rowC c 13).name,.int .i64 (rowC c 13).lo,.int .i64 (rowC c 13).hi,.slice a13 (rowC c 13).nums.length k13,.string (rowC c 14).name,.int .i64 (rowC c 14).lo,.int .i64 (rowC c 14).hi,.slice a14 (rowC c 14).nums.length k14,.string (rowC c 15).name,.int .i64 (rowC c 15).lo,.int .i64 (rowC c 15).hi,.slice a15 (rowC c 15).nums.length k15,.string (rowC c 16).name,.int .i64 (rowC c 16).lo,.int .i64 (rowC c 16).hi,.slice a16 (rowC c 16).nums.length k16,.string (rowC c 17).name,.int .i64 (rowC c 17).lo,.int .i64 (rowC c 17).hi,.slice a17 (rowC c 17).nums.length k17,.string (rowC c 18).name,.int .i64 (rowC c 18).lo,.int .i64 (rowC c 18).hi,.slice a18 (rowC c 18).nums.length k18]) (by kernel_rfl)]
 refine ⟨_,rfl,(Below.refl _ _).alloc (Nat.le_refl _) _,fun d hd => ?_⟩
 cases hd
 have bw := (Below.refl w.heap.size w).alloc (Nat.le_refl _) (.cells #[.string (rowC c 0).name,.int .i64 (rowC c 0).lo,.int .i64 (rowC c 0).hi,.slice a0 (rowC c 0).nums.length k0,.string (rowC c 1).name,.int .i64 (rowC c 1).lo,.int .i64 (rowC c 1).hi,.slice a1 (rowC c 1).nums.length k1,.string (rowC c 2).name,.int .i64 (rowC c 2).lo,.int .i64 (rowC c 2).hi,.slice a2 (rowC c 2).nums.length k2,.string (rowC c 3).name,.int .i64 (rowC c 3).lo,.int .i64 (rowC c 3).hi,.slice a3 (rowC c 3).nums.length k3,.string (rowC c 4).name,.int .i64 (rowC c 4).lo,.int .i64 (rowC c 4).hi,.slice a4 (rowC c 4).nums.length k4,.string (rowC c 5).name,.int .i64 (rowC c 5).lo,.int .i64 (rowC c 5).hi,.slice a5 (rowC c 5).nums.length k5,.string (rowC c 6).name,.int .i64 (rowC c 6).lo,.int .i64 (rowC c 6).hi,.slice a6 (rowC c 6).nums.length k6,.string (rowC c 7).name,.int .i64 (rowC c 7).lo,.int .i64 (rowC c 7).hi,.slice a7 (rowC c 7).nums.length k7,.string (rowC c 8).name,.int .i64 (rowC c 8).lo,.int .i64 (rowC c 8).hi,.slice a8 (rowC c 8).nums.length k8,.string (rowC c 9).name,.int .i64 (rowC c 9).lo,.int .i64 (rowC c 9).hi,.slice a9 (rowC c 9).nums.length k9,.string (rowC c 10).name,.int .i64 (rowC c 10).lo,.int .i64 (rowC c 10).hi,.slice a10 (rowC c 10).nums.length k10,.string (rowC c 11).name,.int .i64 (rowC c 11).lo,.int .i64 (rowC c 11).hi,.slice a11 (rowC c 11).nums.length k11,.string (rowC c 12).name,.int .i64 (rowC c 12).lo,.int .i64 (rowC c 12).hi,.slice a12 (rowC c 12).nums.length k12,.string (rowC c 13).name,.int .i64 (rowC c 13).lo,.int .i64 (rowC c 13).hi,.slice a13 (rowC c 13).nums.length k13,.string (rowC c 14).name,.int .i64 (rowC c 14).lo,.int .i64 (rowC c 14).hi,.slice a14 (rowC c 14).nums.length k14,.string (rowC c 15).name,.int .i64 (rowC c 15).lo,.int .i64 (rowC c 15).hi,.slice a15 (rowC c 15).nums.length k15,.string (rowC c 16).name,.int .i64 (rowC c 16).lo,.int .i64 (rowC c 16).hi,.slice a16 (rowC c 16).nums.length k16,.string (rowC c 17).name,.int .i64 (rowC c 17).lo,.int .i64 (rowC c 17).hi,.slice a17 (rowC c 17).nums.length k17,.string (rowC c 18).name,.int .i64 (rowC c 18).lo,.int .i64 (rowC c 18).hi,.slice a18 (rowC c 18).nums.length k18] 209)
 have hg := heap_alloc_new w (.cells #[.string (rowC c 0).name,.int .i64 (rowC c 0).lo,.int .i64 (rowC c 0).hi,.slice a0 (rowC c 0).nums.length k0,.string (rowC c 1).name,.int .i64 (rowC c 1).lo,.int .i64 (rowC c 1).hi,.slice a1 (rowC c 1).nums.length k1,.string (rowC c 2).name,.int .i64 (rowC c 2).lo,.int .i64 (rowC c 2).hi,.slice a2 (rowC c 2).nums.length k2,.string (rowC c 3).name,.int .i64 (rowC c 3).lo,.int .i64 (rowC c 3).hi,.slice a3 (rowC c 3).nums.length k3,.string (rowC c 4).name,.int .i64 (rowC c 4).lo,.int .i64 (rowC c 4).hi,.slice a4 (rowC c 4).nums.length k4,.string (rowC c 5).name,.int .i64 (rowC c 5).lo,.int .i64 (rowC c 5).hi,.slice a5 (rowC c 5).nums.length k5,.string (rowC c 6).name,.int .i64 (rowC c 6).lo,.int .i64 (rowC c 6).hi,.slice a6 (rowC c 6).nums.length k6,.string (rowC c 7).name,.int .i64 (rowC c 7).lo,.int .i64 (rowC c 7).hi,.slice a7 (rowC c 7).nums.length k7,.string (rowC c 8).name,.int .i64 (rowC c 8).lo,.int .i64 (rowC c 8).hi,.slice a8 (rowC c 8).nums.length k8,.string (rowC c 9).name,.int .i64 (rowC c 9).lo,.int .i64 (rowC c 9).hi,.slice a9 (rowC c 9).nums.length k9,.string (rowC c 10).name,.int .i64 (rowC c 10).lo,.int .i64 (rowC c 10).hi,.slice a10 (rowC c 10).nums.length k10,.string (rowC c 11).name,.int .i64 (rowC c 11).lo,.int .i64 (rowC c 11).hi,.slice a11 (rowC c 11).nums.length k11,.string (rowC c 12).name,.int .i64 (rowC c 12).lo,.int .i64 (rowC c 12).hi,.slice a12 (rowC c 12).nums.length k12,.string (rowC c 13).name,.int .i64 (rowC c 13).lo,.int .i64 (rowC c 13).hi,.slice a13 (rowC c 13).nums.length k13,.string (rowC c 14).name,.int .i64 (rowC c 14).lo,.int .i64 (rowC c 14).hi,.slice a14 (rowC c 14).nums.length k14,.string (rowC c 15).name,.int .i64 (rowC c 15).lo,.int .i64 (rowC c 15).hi,.slice a15 (rowC c 15).nums.length k15,.string (rowC c 16).name,.int .i64 (rowC c 16).lo,.int .i64 (rowC c 16).hi,.slice a16 (rowC c 16).nums.length k16,.string (rowC c 17).name,.int .i64 (rowC c 17).lo,.int .i64 (rowC c 17).hi,.slice a17 (rowC c 17).nums.length k17,.string (rowC c 18).name,.int .i64 (rowC c 18).lo,.int .i64 (rowC c 18).hi,.slice a18 (rowC c 18).nums.length k18] 209)
 refine ⟨_,rfl,fun i hi => ?_⟩
 obtain rfl | rfl | rfl | rfl | rfl | rfl | rfl | rfl | rfl | rfl | rfl | rfl | rfl | rfl | rfl | rfl | rfl | rfl | rfl : i = 0 ∨ i = 1 ∨ i = 2 ∨ i = 3 ∨ i = 4 ∨ i = 5 ∨ i = 6 ∨ i = 7 ∨ i = 8 ∨ i = 9 ∨ i = 10 ∨ i = 11 ∨ i = 12 ∨ i = 13 ∨ i = 14 ∨ i = 15 ∨ i = 16 ∨ i = 17 ∨ i = 18 := by omega
 · exact ⟨(cell_of_row _ _ _ _ _ _ hg).trans rfl,(cell_of_row _ _ _ _ _ _ hg).trans rfl,(cell_of_row _ _ _ _ _ _ hg).trans rfl,_,_,(cell_of_row _ _ _ _ _ _ hg).trans rfl,i0.below bw⟩
 · exact ⟨(cell_of_row _ _ _ _ _ _ hg).trans rfl,(cell_of_row _ _ _ _ _ _ hg).trans rfl,(cell_of_row _ _ _ _ _ _ hg).trans rfl,_,_,(cell_of_row _ _ _ _ _ _ hg).trans rfl,i1.below bw⟩
 · exact ⟨(cell_of_row _ _ _ _ _ _ hg).trans rfl,(cell_of_row _ _ _ _ _ _ hg).trans rfl,(cell_of_row _ _ _ _ _ _ hg).trans rfl,_,_,(cell_of_row _ _ _ _ _ _ hg).trans rfl,i2.below bw⟩
 · exact ⟨(cell_of_row _ _ _ _ _ _ hg).trans rfl,(cell_of_row _ _ _ _ _ _ hg).trans rfl,(cell_of_row _ _ _ _ _ _ hg).trans rfl,_,_,(cell_of_row _ _ _ _ _ _ hg).trans rfl,i3.below bw⟩
 · exact ⟨(cell_of_row _ _ _ _ _ _ hg).trans rfl,(cell_of_row _ _ _ _ _ _ hg).trans rfl,(cell_of_row _ _ _ _ _ _ hg).trans rfl,_,_,(cell_of_row _ _ _ _ _ _ hg).trans rfl,i4.below bw⟩
 · exact ⟨(cell_of_row _ _ _ _ _ _ hg).trans rfl,(cell_of_row _ _ _ _ _ _ hg).trans rfl,(cell_of_row _ _ _ _ _ _ hg).trans rfl,_,_,(cell_of_row _ _ _ _ _ _ hg).trans rfl,i5.below bw⟩
 · exact ⟨(cell_of_row _ _ _ _ _ _ hg).trans rfl,(cell_of_row _ _ _ _ _ _ hg).trans rfl,(cell_of_row _ _ _ _ _ _ hg).trans rfl,_,_,(cell_of_row _ _ _ _ _ _ hg).trans rfl,i6.below bw⟩
 · exact ⟨(cell_of_row _ _ _ _ _ _ hg).trans rfl,(cell_of_row _ _ _ _ _ _ hg).trans rfl,(cell_of_row _ _ _ _ _ _ hg).trans rfl,_,_,(cell_of_row _ _ _ _ _ _ hg).trans rfl,i7.below bw⟩
 · exact ⟨(cell_of_row _ _ _ _ _ _ hg).trans rfl,(cell_of_row _ _ _ _ _ _ hg).trans rfl,(cell_of_row _ _ _ _ _ _ hg).trans rfl,_,_,(cell_of_row _ _ _ _ _ _ hg).trans rfl,i8.below bw⟩
 · exact ⟨(cell_of_row _ _ _ _ _ _ hg).trans rfl,(cell_of_row _ _ _ _ _ _ hg).trans rfl,(cell_of_row _ _ _ _ _ _ hg).trans rfl,_,_,(cell_of_row _ _ _ _ _ _ hg).trans rfl,i9.below bw⟩
 · exact ⟨(cell_of_row _ _ _ _ _ _ hg).trans rfl,(cell_of_row _ _ _ _ _ _ hg).trans rfl,(cell_of_row _ _ _ _ _ _ hg).trans rfl,_,_,(cell_of_row _ _ _ _ _ _ hg).trans rfl,i10.below bw⟩
 · exact ⟨(cell_of_row _ _ _ _ _ _ hg).trans rfl,(cell_of_row _ _ _ _ _ _ hg).trans rfl,(cell_of_row _ _ _ _ _ _ hg).trans rfl,_,_,(cell_of_row _ _ _ _ _ _ hg).trans rfl,i11.below bw⟩
 · exact ⟨(cell_of_row _ _ _ _ _ _ hg).trans rfl,(cell_of_row _ _ _ _ _ _ hg).trans rfl,(cell_of_row _ _ _ _ _ _ hg).trans rfl,_,_,(cell_of_row _ _ _ _ _ _ hg).trans rfl,i12.below bw⟩
 · exact ⟨(cell_of_row _ _ _ _ _ _ hg).trans rfl,(cell_of_row _ _ _ _ _ _ hg).trans rfl,(cell_of_row _ _ _ _ _ _ hg).trans rfl,_,_,(cell_of_row _ _ _ _ _ _ hg).trans rfl,i13.below bw⟩
 · exact ⟨(cell_of_row _ _ _ _ _ _ hg).trans rfl,(cell_of_row _ _ _ _ _ _ hg).trans rfl,(cell_of_row _ _ _ _ _ _ hg).trans rfl,_,_,(cell_of_row _ _ _ _ _ _ hg).trans rfl,i14.below bw⟩
 · exact ⟨(cell_of_row _ _ _ _ _ _ hg).trans rfl,(cell_of_row _ _ _ _ _ _ hg).trans rfl,(cell_of_row _ _ _ _ _ _ hg).trans rfl,_,_,(cell_of_row _ _ _ _ _ _ hg).trans rfl,i15.below bw⟩
 · exact ⟨(cell_of_row _ _ _ _ _ _ hg).trans rfl,(cell_of_row _ _ _ _ _ _ hg).trans rfl,(cell_of_row _ _ _ _ _ _ hg).trans rfl,_,_,(cell_of_row _ _ _ _ _ _ hg).trans rfl,i16.below bw⟩
 · exact ⟨(cell_of_row _ _ _ _ _ _ hg).trans rfl,(cell_of_row _ _ _ _ _ _ hg).trans rfl,(cell_of_row _ _ _ _ _ _ hg).trans rfl,_,_,(cell_of_row _ _ _ _ _ _ hg).trans rfl,i17.below bw⟩
 · exact ⟨(cell_of_row _ _ _ _ _ _ hg).trans rfl,(cell_of_row _ _ _ _ _ _ hg).trans rfl,(cell_of_row _ _ _ _ _ _ hg).trans rfl,_,_,(cell_of_row _ _ _ _ _ _ hg).trans rfl,i18.below bw⟩
theorem forall_cons {α : Type} {p : α → Prop} {x : α} {l : List α} (h : p x) (k : ∀ o ∈ l,p o) : ∀ o ∈ x :: l,p o := by
 intro o ho
 rcases List.mem_cons.1 ho with rfl | ho
 · exact h
 · exact k o ho
set_option maxHeartbeats 3200000 in
set_option maxRecDepth 100000 in
theorem steps (hc : c.length = 21) : ∀ o ∈ fOps.toList,Step Tryz.prog (fun t => V b c (sk t)) Q o := by
 repeat (refine forall_cons ?_ ?_; focus first
  | exact step_addr rfl (by decide)
  | exact step_load hc rfl rfl (by decide)
  | exact step_one rfl rfl rfl
  | exact step_move rfl rfl
  | exact step_assign rfl rfl
  | exact step_call rfl rfl rfl (Or.inl rfl) (Or.inl rfl)
  | exact step_call rfl rfl rfl (Or.inr ⟨_,_,rfl,rfl,rfl⟩) (Or.inl rfl)
  | exact step_call rfl rfl rfl (Or.inr ⟨_,_,rfl,rfl,rfl⟩) (Or.inr ⟨_,_,rfl,rfl,rfl⟩)
  | exact step_all)
 intro o ho; cases ho
end
end Cf
namespace Cf
set_option maxRecDepth 100000 in
set_option maxHeartbeats 1600000 in
theorem fields_any (c : List Int) (w : World) (hc : c.length = 21) :
 Calls Tryz.prog 101 #[.agg (CA c)] w fun e w' => ∃ p,e = .returned (.slice (some ⟨p,0,none⟩) 19 19) ∧ (∀ i,i < 19 → RowAt w' p i (rowC c i)) ∧ Below w.heap.size w w' := by
 have B0 := Lib.hid (Box.new w c)
 have b0 := Lib.hid ((Below.refl w.heap.size w).alloc (Nat.le_refl _) (.cells (CA c) 24))
 have WE := fun W => weights_any c W hc
 go_enter Tryz.func101,Tryz.ntmps101
 change Code.wp _ (.seq _ (.seq _ (.seq (.region 2 fOps true) .ret))) _ _ _
 go_wp2_with (with_reducible show wpList _ _ _ (⟨some 6,_,_,_,_,_⟩ :: _) _ _; refine wpList_loadC rfl _ rfl w.heap.size c rfl B0.out hc ?_)
 refine (WE _).mono ?_; rintro e w1 ⟨a0,k0,a1,k1,rfl,i0,i1,b1⟩
 have F0 := Lib.hid (show Box w1 w.heap.size c ∧ IntsAt .i64 w1 a0 (own c) ∧ IntsAt .i64 w1 a1 (others c) ∧ Below w.heap.size w w1 from ⟨B0.out.on b1,i0,i1,grow b0.out b1⟩)
 clear i0 i1 b1 WE B0 b0
 go_wp2_with fail
 rename_i Q' K hK
 refine Flow.wp_region_flow (fun t => V w.heap.size c (sk t)) [1,3,4] 89 (by kernel_rfl) fOps_flow (fun t v w w' h hb => V.on h hb) rfl ?_ (steps hc) ?_
 · intro t ht
   simp only [List.mem_cons,List.not_mem_nil,or_false] at ht
   rcases ht with rfl | rfl | rfl
   · exact ⟨rfl,F0.out.1⟩
   · exact ⟨a0,k0,rfl,F0.out.2.1⟩
   · exact ⟨a1,k1,rfl,F0.out.2.2.1⟩
 · intro a' w' hb hn hd hold hv
   obtain ⟨o,ho,hd2⟩ := Option.bind_eq_some_iff.1 (show (fOps[79]?).bind (·.dst) = some 2 by kernel_rfl)
   obtain ⟨p,e2,hr⟩ : V w.heap.size c .all (a'.tmps.getD 2 undef) w' := hv 79 o 2 ho hd2
   refine hK _ _ (wp_ret (bodyPost_ret (v := .slice (some ⟨p,0,none⟩) 19 19) ((results_tmp rfl _ _ _).trans (by rw [e2])) hd ⟨p,rfl,hr,grow F0.out.2.2.2 hb⟩))
end Cf
namespace Cf
structure Lie (w W : World) (p : Nat) (c : List Int) : Prop where
 below : Below w.heap.size w W
 rows : ∀ i,i < 19 → RowAt W p i (rowC c i)
theorem Lie.on {w W W' : World} {p : Nat} {c : List Int} (h : Lie w W p c) (b : Below W.heap.size W W') : Lie w W' p c :=
 ⟨grow h.below b,fun i hi => (h.rows i hi).on b⟩
structure In (W : World) (g : Nat) (r : Row) (a : Option Addr) (cap : Nat) : Prop where
 name : W.cell? ⟨g,0,none⟩ = some (.string r.name)
 lo : W.cell? ⟨g,1,none⟩ = some (.int .i64 r.lo)
 hi : W.cell? ⟨g,2,none⟩ = some (.int .i64 r.hi)
 nums : W.cell? ⟨g,3,none⟩ = some (.slice a r.nums.length cap)
 ints : IntsAt .i64 W a r.nums
theorem in_new {W : World} {r : Row} {a : Option Addr} {cap : Nat} {t : TypeId} (h : IntsAt .i64 W a r.nums) :
 In (W.alloc (.cells #[.string r.name,.int .i64 r.lo,.int .i64 r.hi,.slice a r.nums.length cap] t)) W.heap.size r a cap := by
 have b := (Below.refl W.heap.size W).alloc (Nat.le_refl _) (.cells #[.string r.name,.int .i64 r.lo,.int .i64 r.hi,.slice a r.nums.length cap] t)
 have hg := heap_alloc_new W (.cells #[.string r.name,.int .i64 r.lo,.int .i64 r.hi,.slice a r.nums.length cap] t)
 exact ⟨(cell_of_row _ _ _ _ _ _ hg).trans rfl,(cell_of_row _ _ _ _ _ _ hg).trans rfl,(cell_of_row _ _ _ _ _ _ hg).trans rfl,(cell_of_row _ _ _ _ _ _ hg).trans rfl,h.below b⟩
theorem nums_few (c : List Int) (k : Nat) : (rowC c k).nums.length ≤ 4 := by
 have h : ∀ r ∈ rows c,r.nums.length ≤ 4 := by
  intro r hr
  simp only [rows,List.mem_cons,List.not_mem_nil,or_false] at hr
  rcases hr with rfl | rfl | rfl | rfl | rfl | rfl | rfl | rfl | rfl | rfl | rfl | rfl | rfl | rfl | rfl | rfl | rfl | rfl | rfl <;> first | exact Nat.le_of_ble_eq_true rfl | (simp only [own,others]; split <;> exact Nat.le_of_ble_eq_true rfl)
 unfold rowC
 by_cases hk : k < (rows c).length
 · rw [List.getD_eq_getElem?_getD,List.getElem?_eq_getElem hk]; exact h _ (List.getElem_mem hk)
 · rw [List.getD_eq_getElem?_getD,List.getElem?_eq_none (by omega)]; exact Nat.zero_le _
theorem fault_step (c : List Int) (k : Nat) (h : k < 19) : first ((rows c).drop k) = if fine (rowC c k) = true then first ((rows c).drop (k + 1)) else (rowC c k).name := first_drop _ _ h
theorem take_ok {r : Row} {j : Nat} (h : j < r.nums.length) (hj : (r.nums.take j).all (ok r) = true) (hx : r.lo ≤ r.nums.getD j 0 ∧ r.nums.getD j 0 ≤ r.hi) : (r.nums.take (j + 1)).all (ok r) = true := by
 rw [List.take_succ_eq_append_getElem h,List.all_append,hj]
 simp [List.getD_eq_getElem?_getD,h] at hx
 simp [ok,hx]
theorem not_fine {r : Row} {j : Nat} (h : j < r.nums.length) (hx : r.nums.getD j 0 < r.lo ∨ r.hi < r.nums.getD j 0) : fine r = false := by
 unfold fine
 rw [List.all_eq_false]
 refine ⟨r.nums[j],List.getElem_mem h,?_⟩
 simp [List.getD_eq_getElem?_getD,h] at hx
 simp [ok]; omega
set_option maxHeartbeats 3200000 in
theorem fault_any (c : List Int) (w : World) (hc : c.length = 21) :
 Calls Tryz.prog 64 #[.agg (CA c)] w fun e w' => e = .returned (.string (fault c)) ∧ Below w.heap.size w w' := by
 have B0 := Lib.hid (Box.new w c)
 have b0 := Lib.hid ((Below.refl w.heap.size w).alloc (Nat.le_refl _) (.cells (CA c) 24))
 have FI := fun W => fields_any c W hc
 go_enter Tryz.func64,Tryz.ntmps64
 go_wp2
 go_step3
 go_wp2
 go_step3
 go_wp2_with (with_reducible show wpList _ _ _ (⟨some 8,_,_,_,_,_⟩ :: _) _ _; refine wpList_loadC rfl _ rfl w.heap.size c rfl B0.out hc ?_)
 refine (FI _).mono ?_; rintro e w1 ⟨p,rfl,hr,b1⟩
 have L := Lib.hid (show Lie w w1 p c from ⟨grow b0.out b1,hr⟩)
 clear hr b1 FI B0 b0
 go_wp2_with fail
 go_loopg [3,11] 19 (fun gg s3 s11 wx => ∃ k : Nat,k + gg = 19 ∧ s11 = .int .i64 k ∧ s3 = .string ⟨#[]⟩ ∧ Hid (first ((rows c).drop k) = fault c) ∧ Hid (Lie w wx p c))
 case atStart => exact ⟨0,rfl,rfl,rfl,Lib.hid rfl,L⟩
 case round =>
  obtain ⟨k,hkg,rfl,rfl,HF,HL⟩ := hrel
  cases gk with
  | zero =>
    have hk : k = 19 := by omega
    subst hk
    go_wp2_with fail
    go_ret
    exact ⟨by rw [← HF.out]; rfl,HL.out.below⟩
  | succ g =>
    have hk : k < 19 := by omega
    have HS := Lib.hid (fault_step c k hk)
    obtain ⟨z0,z1,z2,a,cap,z3,hi⟩ := HL.out.rows k hk
    have Z := Lib.hid (in_new (t := 209) (cap := cap) hi)
    have Y := Lib.hid (HL.out.on ((Below.refl wr.heap.size wr).alloc (Nat.le_refl _) (.cells #[.string (rowC c k).name,.int .i64 (rowC c k).lo,.int .i64 (rowC c k).hi,.slice a (rowC c k).nums.length cap] 209)))
    have hf := nums_few c k
    clear hi
    generalize rowC c k = r at *
    go_wp2_with fail
    generalize wr.alloc (.cells #[.string r.name,.int .i64 r.lo,.int .i64 r.hi,.slice a r.nums.length cap] 209) = W1 at *
    generalize wr.heap.size = q at *
    clear z0 z1 z2 z3 HL
    go_loopg [3,18] r.nums.length (fun gg s3 s18 wx => ∃ j : Nat,j + gg = r.nums.length ∧ s18 = .int .i64 j ∧ s3 = .string ⟨#[]⟩ ∧ Hid ((r.nums.take j).all (ok r) = true) ∧ wx = W1)
    case atStart => exact ⟨0,by omega,rfl,rfl,Lib.hid (by simp),rfl⟩
    case round =>
     obtain ⟨j,hj,rfl,rfl,HA,rfl⟩ := hrel
     have y0 := Z.out.name
     have y1 := Z.out.lo
     have y2 := Z.out.hi
     cases gk with
     | zero =>
       have hjl : j = r.nums.length := by omega
       subst hjl
       have HN := Lib.hid (show fine r = true by have := HA.out; rw [List.take_of_length_le (Nat.le_refl _)] at this; exact this)
       go_wp2_with fail
       go_roundg g
       case rel => exact ⟨k + 1,by omega,by go_num,rfl,Lib.hid (by have h := HS.out; rw [HN.out,if_pos rfl] at h; rw [← h]; exact HF.out),Y⟩
       case measure => omega
     | succ g2 =>
       have hlt : j < r.nums.length := by omega
       rcases Z.out.ints with e | ⟨bb,off,rfl,hcell⟩
       · rw [e] at hlt; exact absurd hlt (Nat.not_lt_zero _)
       have cx := hcell j hlt
       have HG := Lib.hid (fun h1 h2 => take_ok hlt HA.out (And.intro h1 h2))
       have HB := Lib.hid (fun h => not_fine hlt h)
       clear hcell
       generalize r.nums.getD j 0 = x at *
       by_cases hx : r.lo ≤ x
       · by_cases hy : x ≤ r.hi
         · have d1 : decide (x < r.lo) = false := by simpa using hx
           have d2 : decide (r.hi < x) = false := by simpa using hy
           have HX := Lib.hid hx
           have HY := Lib.hid hy
           clear hx hy
           go_wp2_with fail
           go_roundg g2
           case rel => exact ⟨j + 1,by omega,by go_num,rfl,Lib.hid (HG.out HX.out HY.out),rfl⟩
           case measure => omega
         · have d1 : decide (x < r.lo) = false := by simpa using hx
           have d2 : decide (r.hi < x) = true := by simp; omega
           have HX := Lib.hid (HB.out (Or.inr (by omega)))
           clear hx hy
           go_wp2_with fail
           rw [Exit.noGoto_ret]
           go_ret
           exact ⟨by have h := HS.out; rw [HX.out] at h; rw [← HF.out,h]; rfl,Y.out.below⟩
       · have d1 : decide (x < r.lo) = true := by simp; omega
         have HX := Lib.hid (HB.out (Or.inl (by omega)))
         clear hx
         go_wp2_with fail
         rw [Exit.noGoto_ret]
         go_ret
         exact ⟨by have h := HS.out; rw [HX.out] at h; rw [← HF.out,h]; rfl,Y.out.below⟩
theorem rt_empty (c : List Int) : (fault c).toList.isEmpty = rt c := by
 rw [← rt_fault,beq_bytes,Bool.eq_iff_iff,decide_eq_true_eq,List.isEmpty_iff,ByteArray.toList_eq,ByteArray.ext_iff]
 simp
theorem right_any (c : List Int) (w : World) (hc : c.length = 21) :
 Calls Tryz.prog 23 #[.agg (CA c)] w fun e w' => e = .returned (.bool (rt c)) ∧ Below w.heap.size w w' := by
 have B0 := Lib.hid (Box.new w c)
 have b0 := Lib.hid ((Below.refl w.heap.size w).alloc (Nat.le_refl _) (.cells (CA c) 24))
 have FI := fun W => fault_any c W hc
 have HE := Lib.hid (rt_empty c)
 generalize fault c = s at *
 go_enter Tryz.func23,Tryz.ntmps23
 go_wp2_with (with_reducible show wpList _ _ _ (⟨some 3,_,_,_,_,_⟩ :: _) _ _; refine wpList_loadC rfl _ rfl w.heap.size c rfl B0.out hc ?_)
 refine (FI _).mono ?_; rintro e w1 ⟨rfl,b1⟩
 go_wp2_with fail
 go_ret
 exact ⟨by rw [← HE.out]; rfl,grow b0.out b1⟩
end Cf
namespace Cf
theorem wp_loadC {o : Oper} {a : Act} {w : World} {K : Act → World → Prop} {Q : Exit → Act → World → Prop} (x : Operand) (ho : o.op = .load 24 x)
 (b : Nat) (c : List Int) (hx : a.eval x = .pointer (some ⟨b,0,none⟩)) (hb : Box w b c) (hc : c.length = 21)
 (h : K (a.put o.dst (.agg (CA c))) w) : o.wp Tryz.prog a w K Q :=
 wp_load_row 24 x ho b hx 24 (CA c) (0,0) _ hb Tryz.underlying24 rfl (by rw [CA_size,hc]; exact sizeC) h
theorem wpList_loadW {ops : Array Oper} {rest : List Oper} {o : Oper} {a : Act} {w : World} {Q : Exit → Act → World → Prop} (hw : Region.wanted o (yielded ops a.tmps) = true) (x : Operand) (ho : o.op = .load 24 x)
 (b : Nat) (c : List Int) (hx : a.eval x = .pointer (some ⟨b,0,none⟩)) (hb : Box w b c) (hc : c.length = 21)
 (h : wpList Tryz.prog ops Q rest (a.put o.dst (.agg (CA c))) w) : wpList Tryz.prog ops Q (o :: rest) a w := by
 unfold wpList
 rw [if_pos hw]
 exact .inl (wp_loadC x ho b c hx hb hc h)
end Cf
namespace Sg
open Cf (G CA Box)
theorem mk4_bit (f : Nat → Bool) {k : Nat} (hk : k < 4) : ((mk4 f).tdiv (2 ^ k)).tmod 2 = if f k = true then 1 else 0 := by
 have : k ∈ [0,1,2,3] := by simp; omega
 simp only [List.mem_cons,List.mem_nil_iff,or_false] at this
 unfold mk4
 cases h0 : f 0 <;> cases h1 : f 1 <;> cases h2 : f 2 <;> cases h3 : f 3 <;> rcases this with rfl | rfl | rfl | rfl <;> simp [h0,h1,h2,h3] <;> decide
theorem mk4_bd (f : Nat → Bool) : 0 ≤ mk4 f ∧ mk4 f ≤ 15 := by
 unfold mk4
 refine ⟨?_,?_⟩ <;> split <;> split <;> split <;> split <;> omega
theorem wpQuiet_loadR {ops : Array Oper} {C : World → Prop} {Q : Act → Prop} {o : Oper} {rest : List Oper} {a : Act} {t : TypeId} (hw : Region.wanted o (yielded ops a.tmps) = true) (x : Operand) (ho : o.op = .load t x)
 (b off : Nat) (cs : List Value) (hx : a.eval x = .pointer (some ⟨b,off,none⟩)) (hb : ∀ w,C w → ∀ (j : Nat) v,cs[j]? = some v → w.cell? ⟨b,off + j,none⟩ = some v) (hA : ∀ w,(isAgg t).run Tryz.prog w = .ok true w) (hi : (Tryz.prog.info? t).map (·.size) = some cs.length)
 (h : wpQuiet Tryz.prog ops C Q rest (a.put o.dst (.agg cs.toArray))) : wpQuiet Tryz.prog ops C Q (o :: rest) a := by
 unfold wpQuiet
 rw [if_pos hw]
 refine ⟨.agg cs.toArray,fun w hC => ?_,h⟩
 have e : (loadVar t ⟨b,off,none⟩).run Tryz.prog w = .ok (.agg cs.toArray) w := by
  have h1 := run_loadCells_list (P := Tryz.prog) w ⟨b,off,none⟩ cs (fun j v hv => by rw [add_plain]; exact hb w hC j v hv)
  cases hq : Tryz.prog.info? t with
  | none => simp [hq] at hi
  | some i =>
    have hs : i.size = cs.length := by simpa [hq] using hi
    simp [loadVar,hA,sizeOf,typeInfo,hq,hs,h1,Result.andThen]
 unfold Oper.quietAt execOp
 simp only [ho,hx,Instr.loadAt,Instr.sureAddr,Sem.run_bind,Sem.run_pure,Result.andThen_ok,e]
 exact ⟨rfl,rfl⟩
theorem res_one (c : List Int) (s : Si) (r : Nat → Rw) (sh : Int) : (res c s r sh).toArray.all (·.oneCell') = true := by simp [res,Value.oneCell']
theorem lav_one (s : Lc.St) : (lav s).toArray.all (·.oneCell') = true := by simp [lav,Value.oneCell']
theorem quo_bd {x P : Int} (hx : 0 ≤ x ∧ x ≤ 15) (hP : P = 1 ∨ P = 2 ∨ P = 4 ∨ P = 8) : (0 ≤ x.tdiv P ∧ x.tdiv P ≤ 15) ∧ 0 ≤ (x.tdiv P).tmod 2 ∧ (x.tdiv P).tmod 2 ≤ 1 := by
 rw [Int.tdiv_eq_ediv_of_nonneg hx.1]
 have h : 0 ≤ x / P ∧ x / P ≤ 15 := by rcases hP with rfl | rfl | rfl | rfl <;> omega
 rw [Int.tmod_eq_emod_of_nonneg h.1]
 omega
end Sg
end Go.Proofs.YticidhbnljdidaaGreatDoor
