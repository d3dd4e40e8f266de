/-
 What a fusion tells each cycle, bit by bit: whom it shuts, and who is in. No Go text is reached here. No conditions.
 What Parse of package status, and that of rudderref16, tell: contracts by walking the Go text. No conditions beyond the number's kind.
 What read of package output tells: a contract by walking the Go text (a range over the iterator words). Conditions: how the bytes lie.
 What Decode of package output tells: a contract by walking the Go text. Conditions: how the bytes lie.
-/
import Derived.Test.YticidhbnljdidaaGreatDoorJFusionMath6
import Derived.Test.YticidhbnljdidaaGreatDoorJOutputIter6
import Derived.Test.YticidhbnljdidaaGreatDoorJFrameDec14
import Derived.Laws.CopyOwn
import Derived.Test.YticidhbnljdidaaGreatDoorJCrcStep4
import Derived.Lib.QuietBelow
namespace Go.Proofs.YticidhbnljdidaaGreatDoor
set_option maxRecDepth 100000
namespace Fu
open Sg (NN)
theorem mk4_seven {f : Nat → Bool} (h : f 3 = false) : 0 ≤ Sg.mk4 f ∧ Sg.mk4 f ≤ 7 := by
 unfold Sg.mk4
 rw [h]
 refine ⟨?_,?_⟩ <;> split <;> split <;> split <;> simp <;> omega
section
variable {c : List Int} {m : Fs} {y : Nat → Sl} {i j : Nat}
theorem sta_in : 0 ≤ (sta c m y j).i ∧ (sta c m y j).i ≤ 15 := Sg.mk4_bd fun i => decide (i < NN c) && Sg.isin c (m.s j) (raw c m y j) (sh c m) i
theorem sta_seven (h : NN c = 3) : (sta c m y j).i ≤ 7 ∧ (sta c m y j).l ≤ 7 :=
 ⟨(mk4_seven (f := fun i => decide (i < NN c) && Sg.isin c (m.s j) (raw c m y j) (sh c m) i) (by simp [h])).2,(mk4_seven (f := fun i => decide (i < NN c) && ((sgn c m y j).ch i).st.la) (by simp [h])).2⟩
theorem shut_bit (hi : i < 4) : ((sh c m).tdiv (2 ^ i)).tmod 2 = if isSh c m i = true then 1 else 0 := Sg.mk4_bit _ hi
theorem in_bit (hi : i < 4) (h : isSh c m i = true) : (((sta c m y j).i).tdiv (2 ^ i)).tmod 2 = 0 := by
 have := Sg.mk4_bit (fun i => decide (i < NN c) && Sg.isin c (m.s j) (raw c m y j) (sh c m) i) hi
 rw [if_neg (by rw [shut_out hi h]; simp)] at this
 exact this
theorem more_notes : (Rg.lasts m.notes).length + Rg.lost m.notes ≤ (Rg.lasts (nx c m y).notes).length + Rg.lost (nx c m y).notes := by
 rw [Rg.lasts_len,Rg.lasts_len]
 have : (nx c m y).notes.length = m.notes.length + (nts c m y (NN c)).length := by unfold nx; simp
 unfold Rg.lost
 omega
theorem out_v (hj : j < 8) : (out c m y).v.getD j 0 = vls c m y j := by unfold out; simp [List.getD_eq_getElem?_getD,hj]
theorem out_s (hj : j < 8) : (out c m y).s.getD j Ss.zer = sta c m y j := by unfold out; simp [List.getD_eq_getElem?_getD,hj]
theorem out_q (hk : m.k < 65536) : (out c m y).q = (m.k : Int) := by
 show (m.k : Int) % 65536 = m.k
 omega
end
end Fu
open Go.ChangeShapes Go.WideShapes Go.ChangeAt Go.RowKit Go.Deep
namespace Ss
open Fx
abbrev zob : Obj := .cells #[.int .i64 0,.int .i64 0,.int .i64 0,.bool false] 37
structure Two (w W : World) (g : Nat) (a b : St) : Prop where
 below : Below w.heap.size w W
 ge : w.heap.size < g
 res : VRow W w.heap.size 37 (str a)
 box : VRow W g 37 (str b)
theorem Two.on {w W W' : World} {g : Nat} {a b : St} (h : Two w W g a b) (k : Below W.heap.size W W') : Two w W' g a b := ⟨grow h.below k,h.ge,onB h.res k,onB h.box k⟩
theorem Two.putRes {w W : World} {g : Nat} {a b : St} (h : Two w W g a b) (c : St) : Two w (W.setRow w.heap.size (str c).toArray) g c b :=
 ⟨Below.put h.below (Nat.le_refl _) _,h.ge,h.res.put (str c),h.box.putOther (by have := h.ge; omega) _⟩
theorem Two.putBox {w W : World} {g : Nat} {a b : St} (h : Two w W g a b) (c : St) : Two w (W.setRow g (str c).toArray) g a c :=
 ⟨Below.put h.below (by have := h.ge; omega) _,h.ge,h.res.putOther (by have := h.ge; omega) _,h.box.put (str c)⟩
theorem Two.setBox {w W : World} {g : Nat} {a b : St} (h : Two w W g a b) (i : Nat) (x : Value) (c : St) (hc : (str b).set i x = str c) : Two w (W.setCell ⟨g,i,none⟩ x) g a c :=
 ⟨h.below.setCell (by show w.heap.size ≤ g; have := h.ge; omega) x,h.ge,h.res.setOther (by show w.heap.size ≠ g; have := h.ge; omega) x,hc ▸ h.box.set i x⟩
theorem two_new (w w1 : World) (b : Below (w.alloc zob).heap.size (w.alloc zob) w1) : Two w (w1.alloc zob) w1.heap.size zer zer :=
 ⟨((Below.refl _ w).alloc (Nat.le_refl _) zob |>.trans (b.mono (by simp))).alloc (by have := b.size; simp at this; omega) _,by have := b.size; simp at this; omega,(onB (VRow.new w (str zer) _) b).alloc _,VRow.new w1 (str zer) _⟩
theorem two_first (w : World) : Two w ((w.alloc zob).alloc zob) (w.heap.size + 1) zer zer := by
 have := two_new w (w.alloc zob) (Below.refl _ _)
 rwa [show (w.alloc zob).heap.size = w.heap.size + 1 by simp] at this
def raw (n : Int) : St := ⟨n.tmod 16,(n.tmod 256).tdiv 16,(n.tmod 2048).tdiv 256,n.tdiv 2048 == 1⟩
theorem small_div (x m d : Int) (hm : 0 < m) (hd : 0 < d) : -m < (x.tmod m).tdiv d ∧ (x.tmod m).tdiv d < m := by
 have h1 := Int.tmod_lt_of_pos x hm
 have h2 : -m < x.tmod m := by
  have := Int.lt_tmod_of_pos x hm
  omega
 generalize x.tmod m = y at *
 by_cases hy : 0 ≤ y
 · rw [Int.tdiv_eq_ediv_of_nonneg hy]
   have := Int.ediv_le_self d hy
   have := Int.ediv_nonneg hy (Int.le_of_lt hd)
   omega
 · have e : y.tdiv d = -((-y).tdiv d) := by rw [Int.neg_tdiv]; omega
   rw [e,Int.tdiv_eq_ediv_of_nonneg (show (0 : Int) ≤ -y by omega)]
   have := Int.ediv_le_self d (show (0 : Int) ≤ -y by omega)
   have := Int.ediv_nonneg (show (0 : Int) ≤ -y by omega) (Int.le_of_lt hd)
   omega
theorem i64_in {x : Int} (h : (Lit.int .i64 x).wf = true) : -9223372036854775808 ≤ x ∧ x ≤ 9223372036854775807 := by
 simp [Lit.wf] at h
 have hmin : IntKind.i64.min = -9223372036854775808 := rfl
 have hmax : IntKind.i64.max = 9223372036854775807 := rfl
 omega
set_option maxHeartbeats 1600000 in
theorem parts_any (n : Int) (w : World) (hn : (Lit.int .i64 n).wf = true) :
 Calls Tryz.prog 153 #[.int .i64 n] w fun e w' => e = .returned (stv (parts n)) ∧ Below w.heap.size w w' := by
 have hb := i64_in hn
 have T := Lib.hid (two_first w)
 have b2 := small_div n 256 16 (by omega) (by omega)
 have b3 := small_div n 2048 256 (by omega) (by omega)
 obtain ⟨a,e1⟩ : ∃ a,n.tmod 16 = a := ⟨_,rfl⟩
 obtain ⟨b,e2⟩ : ∃ b,(n.tmod 256).tdiv 16 = b := ⟨_,rfl⟩
 obtain ⟨c,e3⟩ : ∃ c,(n.tmod 2048).tdiv 256 = c := ⟨_,rfl⟩
 obtain ⟨d,e4⟩ : ∃ d,(n.tdiv 2048 == 1) = d := ⟨_,rfl⟩
 rw [e2] at b2
 rw [e3] at b3
 have HP := Lib.hid (show parts n = ⟨a,b,sp c,d⟩ by rw [← e1,← e2,← e3,← e4]; rfl)
 generalize parts n = p at *
 clear hn
 by_cases h7 : c = 7
 · subst h7
   have HQ := Lib.hid (show p = ⟨a,b,-1,d⟩ from HP.out)
   go_enter Tryz.func153,Tryz.ntmps153
   go_wp2_with (first
    | ((with_reducible show wpList _ _ _ (⟨none,.store _ (.tmp 3) _,_,_,_,_⟩ :: _) _ _); refine VB.store rfl _ _ rfl (w.heap.size + 1) (str ⟨a,b,7,d⟩) rfl rfl T.out.box sizeS rfl (str_one _) ?_; have T1 := Lib.hid (T.out.putBox ⟨a,b,7,d⟩); generalize ((w.alloc zob).alloc zob).setRow (w.heap.size + 1) (str ⟨a,b,7,d⟩).toArray = W1 at *; obtain ⟨c0,c1,c2,c3⟩ := st_cells T1.out.box; have f2 := T1.out.box.frozen 2; have T2 := Lib.hid (T1.out.setBox 2 (.int .i64 (-1)) ⟨a,b,-1,d⟩ rfl))
    | ((with_reducible show wpList _ _ _ (⟨none,.store _ (.tmp 2) _,_,_,_,_⟩ :: _) _ _); refine VB.store rfl _ _ rfl w.heap.size (str ⟨a,b,-1,d⟩) rfl rfl T2.out.res sizeS rfl (str_one _) ?_))
   refine bodyPost_ret (v := .agg (str ⟨a,b,-1,d⟩).toArray) ?_ rfl ⟨by rw [HQ.out]; rfl,(T2.out.putRes ⟨a,b,-1,d⟩).below⟩
   exact (VB.ret1 (cs := str ⟨a,b,-1,d⟩) rfl rfl (aggS _) sizeS (T2.out.putRes ⟨a,b,-1,d⟩).res).trans rfl
 · have d7 : (c == 7) = false := by simpa using h7
   have HQ := Lib.hid (show p = ⟨a,b,c,d⟩ by rw [HP.out]; unfold sp; rw [if_neg h7])
   clear h7 HP
   go_enter Tryz.func153,Tryz.ntmps153
   go_wp2_with (first
    | ((with_reducible show wpList _ _ _ (⟨none,.store _ (.tmp 3) _,_,_,_,_⟩ :: _) _ _); refine VB.store rfl _ _ rfl (w.heap.size + 1) (str ⟨a,b,c,d⟩) rfl rfl T.out.box sizeS rfl (str_one _) ?_; have T1 := Lib.hid (T.out.putBox ⟨a,b,c,d⟩); generalize ((w.alloc zob).alloc zob).setRow (w.heap.size + 1) (str ⟨a,b,c,d⟩).toArray = W1 at *; obtain ⟨c0,c1,c2,c3⟩ := st_cells T1.out.box)
    | ((with_reducible show wpList _ _ _ (⟨none,.store _ (.tmp 2) _,_,_,_,_⟩ :: _) _ _); refine VB.store rfl _ _ rfl w.heap.size (str ⟨a,b,c,d⟩) rfl rfl T1.out.res sizeS rfl (str_one _) ?_))
   refine bodyPost_ret (v := .agg (str ⟨a,b,c,d⟩).toArray) ?_ rfl ⟨by rw [HQ.out]; rfl,(T1.out.putRes ⟨a,b,c,d⟩).below⟩
   exact (VB.ret1 (cs := str ⟨a,b,c,d⟩) rfl rfl (aggS _) sizeS (T1.out.putRes ⟨a,b,c,d⟩).res).trans rfl
def RetP (w : World) (n : Int) (e : Ending) (w' : World) : Prop := e = .returned (.tuple #[stv (prs n),.int .i64 (pre n)]) ∧ Below w.heap.size w w'
theorem retP_yes {w : World} {n : Int} (h : isw n = true) : RetP w n = fun e w' => e = .returned (.tuple #[stv (parts n),.int .i64 0]) ∧ Below w.heap.size w w' := by
 unfold RetP prs pre; rw [h]; rfl
theorem retP_no {w : World} {n : Int} (h : isw n = false) : RetP w n = fun e w' => e = .returned (.tuple #[stv zer,.int .i64 3]) ∧ Below w.heap.size w w' := by
 unfold RetP prs pre; rw [h]; rfl
theorem ways (n : Int) : (isw n = true ∧ wde (parts n) = 0 ∧ wdv (parts n) = n) ∨ (isw n = false ∧ wde (parts n) = 0 ∧ (wdv (parts n) == n) = false) ∨ (isw n = false ∧ wde (parts n) = 1) := by
 unfold isw wde wdv
 cases h1 : rgt (parts n)
 · simp
 · cases h2 : (wrd (parts n) == n)
   · simp [h2]
   · simp only [Bool.and_self,if_true,true_and]; left; simpa using h2
set_option maxHeartbeats 1600000 in
theorem parse_any (n : Int) (w : World) (hn : (Lit.int .i64 n).wf = true) :
 Calls Tryz.prog 106 #[.int .i64 n] w (RetP w n) := by
 have CP := fun W => parts_any n W hn
 have CW := fun W => word_any (parts n) W
 rcases ways n with ⟨h0,h1,h2⟩ | ⟨h0,h1,h2⟩ | ⟨h0,h1⟩
 · rw [retP_yes h0]
   rw [h1,h2] at CW
   clear h0 h1 h2
   generalize parts n = p at *
   unfold stv at *
   go_enter Tryz.func106,Tryz.ntmps106
   go_wp2_with (first
    | (go_at_call 153; refine (CP _).mono ?_; rintro e w1 ⟨rfl,b1⟩; have T := Lib.hid (two_new w w1 b1); clear b1)
    | ((with_reducible show wpList _ _ _ (⟨none,.store _ (.tmp 4) _,_,_,_,_⟩ :: _) _ _); refine VB.store rfl _ _ rfl w1.heap.size (str p) rfl rfl T.out.box sizeS rfl (str_one _) ?_; have T1 := Lib.hid (T.out.putBox p); generalize (w1.alloc zob).setRow w1.heap.size (str p).toArray = W1 at *; obtain ⟨c0,c1,c2,c3⟩ := st_cells T1.out.box)
    | (go_at_call 84; refine (CW _).mono ?_; rintro e w2 ⟨rfl,b2⟩; have T2 := Lib.hid (T1.out.on b2); clear b2 c0 c1 c2 c3; obtain ⟨c0,c1,c2,c3⟩ := st_cells T2.out.box)
    | ((with_reducible show wpList _ _ _ (⟨none,.store _ (.tmp 2) _,_,_,_,_⟩ :: _) _ _); refine VB.store rfl _ _ rfl w.heap.size (str p) rfl rfl T2.out.res sizeS rfl (str_one _) ?_))
   refine bodyPost_ret (v := .tuple #[.agg (str p).toArray,.int .i64 0]) ?_ rfl ⟨rfl,(T2.out.putRes p).below⟩
   exact (VB.ret2 (cs := str p) rfl rfl (aggS _) sizeS (T2.out.putRes p).res).trans rfl
 · rw [retP_no h0]
   rw [h1] at CW
   clear h0 h1
   generalize wdv (parts n) = v at *
   generalize parts n = p at *
   unfold stv at *
   go_enter Tryz.func106,Tryz.ntmps106
   go_wp2_with (first
    | (go_at_call 153; refine (CP _).mono ?_; rintro e w1 ⟨rfl,b1⟩; have T := Lib.hid (two_new w w1 b1); clear b1)
    | ((with_reducible show wpList _ _ _ (⟨none,.store _ (.tmp 4) _,_,_,_,_⟩ :: _) _ _); refine VB.store rfl _ _ rfl w1.heap.size (str p) rfl rfl T.out.box sizeS rfl (str_one _) ?_; have T1 := Lib.hid (T.out.putBox p); generalize (w1.alloc zob).setRow w1.heap.size (str p).toArray = W1 at *; obtain ⟨c0,c1,c2,c3⟩ := st_cells T1.out.box)
    | (go_at_call 84; refine (CW _).mono ?_; rintro e w2 ⟨rfl,b2⟩; have T2 := Lib.hid (T1.out.on b2); clear b2 c0 c1 c2 c3)
    | ((with_reducible show wpList _ _ _ (⟨none,.store _ (.tmp 2) _,_,_,_,_⟩ :: _) _ _); refine VB.store rfl _ _ rfl w.heap.size (str zer) rfl rfl T2.out.res sizeS rfl (str_one _) ?_))
   refine bodyPost_ret (v := .tuple #[.agg (str zer).toArray,.int .i64 3]) ?_ rfl ⟨rfl,(T2.out.putRes zer).below⟩
   exact (VB.ret2 (cs := str zer) rfl rfl (aggS _) sizeS (T2.out.putRes zer).res).trans rfl
 · rw [retP_no h0]
   rw [h1] at CW
   clear h0 h1
   generalize wdv (parts n) = v at *
   generalize parts n = p at *
   unfold stv at *
   go_enter Tryz.func106,Tryz.ntmps106
   go_wp2_with (first
    | (go_at_call 153; refine (CP _).mono ?_; rintro e w1 ⟨rfl,b1⟩; have T := Lib.hid (two_new w w1 b1); clear b1)
    | ((with_reducible show wpList _ _ _ (⟨none,.store _ (.tmp 4) _,_,_,_,_⟩ :: _) _ _); refine VB.store rfl _ _ rfl w1.heap.size (str p) rfl rfl T.out.box sizeS rfl (str_one _) ?_; have T1 := Lib.hid (T.out.putBox p); generalize (w1.alloc zob).setRow w1.heap.size (str p).toArray = W1 at *; obtain ⟨c0,c1,c2,c3⟩ := st_cells T1.out.box)
    | (go_at_call 84; refine (CW _).mono ?_; rintro e w2 ⟨rfl,b2⟩; have T2 := Lib.hid (T1.out.on b2); clear b2 c0 c1 c2 c3)
    | ((with_reducible show wpList _ _ _ (⟨none,.store _ (.tmp 2) _,_,_,_,_⟩ :: _) _ _); refine VB.store rfl _ _ rfl w.heap.size (str zer) rfl rfl T2.out.res sizeS rfl (str_one _) ?_))
   refine bodyPost_ret (v := .tuple #[.agg (str zer).toArray,.int .i64 3]) ?_ rfl ⟨rfl,(T2.out.putRes zer).below⟩
   exact (VB.ret2 (cs := str zer) rfl rfl (aggS _) sizeS (T2.out.putRes zer).res).trans rfl
end Ss
open Go.ChangeShapes Go.WideShapes Go.ChangeAt Go.RowKit Go.Deep Go.Shelf
namespace Ot
open Ss (St str zer stv rgt prs isw)
open Rf
open Wd (get2v get2b getAll)
open Cr (Bytes)
attribute [local go_sem] Oper.semAt_some
theorem wpList_buildTo {P : Program} {ops : Array Oper} {rest : List Oper} {o : Oper} {a : Act} {w : World} {Q : Exit → Act → World → Prop} (hg : o.guard = none) (t : TypeId) (parts : Array (Nat × Operand)) (ho : o.op = .build t parts)
 (cells : Array Value) (hf : P.built t (parts.map fun (i,x) => (i,a.eval x)).toList = some cells) (h : wpList P ops Q rest (a.put o.dst (.agg cells)) w) : wpList P ops Q (o :: rest) a w :=
 wpList_build hg t parts ho (by rw [hf]; rfl) (by rw [hf]; exact h)
theorem wpListIn_buildTo {F : Fence} {n : Nat} {P : Program} {ops : Array Oper} {rest : List Oper} {o : Oper} {a : Act} {w : World} {Q : Exit → Act → World → Prop} (hg : o.guard = none) (t : TypeId) (parts : Array (Nat × Operand)) (ho : o.op = .build t parts)
 (cells : Array Value) (hf : (execOp a.eval o).run P w = .ok (.value (.agg cells)) w) (h : wpListIn F n P ops Q rest (a.put o.dst (.agg cells)) w) : wpListIn F n P ops Q (o :: rest) a w := by
 refine wpListIn_plain hg fun K hK => ?_
 unfold Oper.wpIn
 refine ⟨by simp [Oper.about,ho],?_⟩
 rw [Oper.semAt_plain F _ _ (by rw [ho]; intro c hc'; cases hc'),hf]
 exact hK _ _ h
theorem kc_of_but {S : Nat → Prop} {D : Addr → Prop} {X Y : World} {Bk : Nat} (h : But S X Y) (hD : ∀ p,D p → ¬ S p.block) (hB : ∀ k,S k → k < Bk) : Kc D Bk X Y :=
 ⟨fun p _ hp hc => (World.cell?_of_block (w := X) (a := p) (h.block p.block (cell_blk hc) (hD _ hp))).trans hc,KeepsFrom.of_but h hB⟩
theorem but_setCells {S : Nat → Prop} {a : World} {g : Nat} : ∀ {w : World} (_ : But S a w) (_ : S g ∨ a.heap.size ≤ g) (off : Nat) (vs : List Value),But S a (w.setCells g off vs)
 | _,h,_,_,[] => h
 | _,h,hg,off,v :: r => by rw [World.setCells]; exact but_setCells (h.setCell (p := ⟨g,off,none⟩) hg v) hg (off + 1) r
theorem ret_cc {P : Program} {w : World} {fn : Func} {p q : Tmp} {ty tb : TypeId} {tmps : Array Value} {g g' : Nat} {v v' : Value} (h : fn.results = #[.cell p ty,.cell q tb]) (hp : tmps.getD p undef = .pointer (some ⟨g,0,none⟩)) (hq : tmps.getD q undef = .pointer (some ⟨g',0,none⟩))
 (hl : (loadVar ty ⟨g,0,none⟩).run P w = .ok v w) (hl' : (loadVar tb ⟨g',0,none⟩).run P w = .ok v' w) : (results fn tmps).run P w = .ok (.tuple #[v,v']) w := by
 have h1 : (results fn tmps).run P w = ((asAddr (tmps.getD p undef)).run P w).andThen fun a w₁ => ((loadVar ty a).run P w₁).andThen fun x w₂ => ((asAddr (tmps.getD q undef)).run P w₂).andThen fun b w₃ => ((loadVar tb b).run P w₃).andThen fun y w₄ => .ok (.tuple #[x,y]) w₄ := by
  simp only [results,h]
  simp [Sem.run_bind,Result.andThen]
 rw [h1,hp,hq]
 simp only [asAddr,Sem.run_pure,Result.andThen,hl,hl']
theorem load_b {W : World} {g : Nat} {b : Bool} (h : Boxed W g 4 (.bool b)) : (loadVar 4 ⟨g,0,none⟩).run Tryz.prog W = .ok (.bool b) W := by
 have hc := h.cell
 simp [go_sem,hc]
theorem load_o {W : World} {g : Nat} {o : Ou} (k : Ok o) (h : VRow W g 40 (ouc o)) : (loadVar 40 ⟨g,0,none⟩).run Tryz.prog W = .ok (.agg (ouc o).toArray) W := VB.load (aggO W) (sizeO k) h
theorem wd_wf {x : List Int} (hy : Bytes x) (hl : x.length = 52) (i : Nat) (hi : i < 8) : (Lit.int .i64 (wd x i)).wf = true := by
 have := wd_in hy hl i hi
 have hmin : IntKind.i64.min = -9223372036854775808 := rfl
 have hmax : IntKind.i64.max = 9223372036854775807 := rfl
 simp [Lit.wf]
 omega
def RetR (w : World) (x : List Int) (e : Ending) (w' : World) : Prop :=
 e = .returned (.tuple #[.agg (ouc (if woks x 8 = true then parts x else zou)).toArray,.bool (woks x 8)]) ∧ Below w.heap.size w w'
def half (x : List Int) (n : Nat) : Ou := ⟨oq x,ov x,sts x n ++ List.replicate (8 - n) zer⟩
theorem half_ok {x : List Int} (hl : x.length = 52) (n : Nat) (hn : n ≤ 8) : Ok (half x n) := ⟨(parts_ok hl).v,by show (sts x n ++ List.replicate (8 - n) zer).length = 8; rw [List.length_append,sts_len,List.length_replicate]; omega⟩
theorem half_all (x : List Int) : half x 8 = parts x := by unfold half parts; simp
theorem half_next (x : List Int) (n : Nat) (hn : n < 8) : { half x n with s := (half x n).s.set n (prs (wd x n)) } = half x (n + 1) := by
 unfold half
 simp only
 congr 1
 rw [sts_next,List.set_append_right _ _ (by rw [sts_len]; exact Nat.le_refl _),sts_len,Nat.sub_self,show 8 - n = (8 - (n + 1)) + 1 by omega,List.replicate_succ,List.set_cons_zero,List.append_assoc]
 rfl
def seqd (x : List Int) : Ou := ⟨oq x,List.replicate 8 0,List.replicate 8 zer⟩
theorem half_zero (x : List Int) : { seqd x with v := ov x } = half x 0 := by unfold half seqd; simp [sts]
set_option maxRecDepth 100000 in
set_option maxHeartbeats 3200000 in
theorem read_any (b off cap : Nat) (x : List Int) (w : World) (hl : x.length = 52) (hy : Bytes x) (hcap : 52 ≤ cap) (hx : IntsAt .u8 w (some ⟨b,off,none⟩) x) :
 Calls Tryz.prog 66 #[.slice (some ⟨b,off,none⟩) 52 cap] w (RetR w x) := by
 have l2 : ((x.drop 2).take 2).length = 2 := by rw [List.length_take,List.length_drop]; omega
 have l4 : ((x.drop 4).take 32).length = 32 := by rw [List.length_take,List.length_drop]; omega
 have cut : ∀ {W : World} (_ : IntsAt .u8 W (some ⟨b,off,none⟩) x) (i n : Nat),IntsAt .u8 W (some ⟨b,off + i,none⟩) ((x.drop i).take n) := fun {W} h i n => by
  rcases h with rfl | ⟨b',off',h1,hc⟩
  · simp at hl
  · cases h1; exact (intsAt_drop i hc).take n
 have C2 := fun W (h : IntsAt .u8 W (some ⟨b,off,none⟩) x) => Wd.get2_any (some ⟨b,off + 2,none⟩) (cap - 2) ((x.drop 2).take 2) W (by omega) ((hy.drop _).take _) (cut h 2 2)
 have C4 := fun W (h : IntsAt .u8 W (some ⟨b,off,none⟩) x) => Wd.getAll_any (some ⟨b,off + 4,none⟩) (cap - 4) ((x.drop 4).take 32) W (by omega) (by omega) ((hy.drop _).take _) (cut h 4 32)
 have CW := fun W => words_any (some ⟨b,off,none⟩) 52 cap W
 rw [l2] at C2
 rw [l4] at C4
 have eq : get2v ((x.drop 2).take 2) = oq x := rfl
 have e4 : getAll ((x.drop 4).take 32) = ov x := by unfold getAll; rw [if_pos (by rw [l4])]; rfl
 rw [eq] at C2
 rw [e4] at C4
 have HOL := Lib.hid (show (ov x).length = 8 from (parts_ok hl).v)
 generalize get2b ((x.drop 2).take 2) = gb at *
 generalize Wd.getAllb ((x.drop 4).take 32) = gd at *
 have HL := Lib.hid hl
 have HYY := Lib.hid hy
 have HXX := Lib.hid hx
 clear hl hy hx cut l2 l4 eq e4
 have r0 := (VRow.new w (ouc zou) 40).alloc (.cells #[.bool false] 4)
 have r1 := Boxed.new (w.alloc (.cells (ouc zou).toArray 40)) 4 (.bool false)
 rw [World.size_alloc] at r1
 have hB0 := Lib.hid (((Below.refl w.heap.size w).alloc (Nat.le_refl _) (.cells (ouc zou).toArray 40)).alloc (by simp) (.cells #[.bool false] 4))
 have R0 := Lib.hid r0
 have R1 := Lib.hid r1
 have hs0 := Lib.hid (show ((w.alloc (.cells (ouc zou).toArray 40)).alloc (.cells #[.bool false] 4)).heap.size = w.heap.size + 2 by simp)
 have HX0 := Lib.hid (HXX.out.below hB0.out)
 clear r0 r1
 refine (callsIn_wide (n := 5)).1 ?_
 refine callsIn_of_wp_marks Tryz.func66 rfl trivial ?_ rfl
 simp only [Tryz.ntmps66,List.size_toArray,List.length_cons,List.length_nil,Nat.reduceAdd,Nat.reduceSub,Array.replicate_succ,Array.replicate_zero,List.push_toArray,List.append_toArray,List.nil_append,List.cons_append]
 refine wpIn_wide.2 ?_
 go_wp2_with fail
 change Calls _ _ _ ((w.alloc (.cells (ouc zou).toArray 40)).alloc (.cells #[.bool false] 4)) _
 generalize (w.alloc (.cells (ouc zou).toArray 40)).alloc (.cells #[.bool false] 4) = W0 at *
 refine (C2 _ HX0.out).mono ?_; rintro e w1 ⟨rfl,rfl⟩
 go_wp2_with fail
 refine (C4 _ HX0.out).mono ?_; rintro e w1 ⟨a4,cap4,rfl,i4,b4⟩
 rw [HOL.out]
 have hs1 : w.heap.size + 2 ≤ w1.heap.size := by have := b4.size; rw [hs0.out] at this; exact this
 have HX1 := Lib.hid (HX0.out.below b4)
 have I4 := Lib.hid i4
 have R2 := Lib.hid (VRow.below R0.out b4 R0.out.lt)
 have R3 := Lib.hid (show Boxed w1 (w.heap.size + 1) 4 (.bool false) from (b4.block _ R1.out.lt).trans R1.out)
 have B1 := Lib.hid (grow hB0.out b4)
 clear b4 i4 HX0 R0 R1 hB0 hs0 C2 C4
 have VN := Lib.hid (VRow.new w1 (ouc zou) 40)
 have HQ := Lib.hid (show (⟨oq x,List.replicate 8 0,List.replicate 8 zer⟩ : Ou) = seqd x from rfl)
 have KS := Lib.hid (show Ok (seqd x) from ⟨rfl,rfl⟩)
 have V8 := Lib.hid (VN.out.put (ouc (seqd x)))
 have B8 := Lib.hid (show Below w1.heap.size w1 ((w1.alloc (.cells (ouc zou).toArray 40)).setRow w1.heap.size (ouc (seqd x)).toArray) from Below.put ((Below.refl _ _).alloc (Nat.le_refl _) _) (Nat.le_refl _) _)
 have SV := Lib.hid (show splice (ouc (seqd x)) 1 (cellsI .i64 (ov x)) = ouc (half x 0) by rw [set_vs KS.out _ HOL.out,half_zero])
 have HI8 := Lib.hid (I4.out.below B8.out)
 have H41 := Lib.hid (show (ouc (seqd x)).length = 41 from ouc_len KS.out)
 have HCL := Lib.hid (show (cellsI .i64 (ov x)).length = 8 by rw [cellsI_len,HOL.out])
 go_wp2_with (first
  | ((with_reducible show wpList _ _ _ (⟨some 26,_,_,_,_,_⟩ :: _) _ _); refine wpList_buildTo rfl _ _ rfl (ouc (seqd x)).toArray (by kernel_rfl) ?_)
  | ((with_reducible show wpList _ _ _ (⟨none,.store _ (.tmp 8) _,_,_,_,_⟩ :: _) _ _); refine VB.store rfl _ _ rfl w1.heap.size (ouc (seqd x)) rfl rfl VN.out (sizeO KS.out) (by rw [H41.out]; rfl) (ouc_all _) ?_; change wpList _ _ _ _ _ ((w1.alloc (.cells (ouc zou).toArray 40)).setRow w1.heap.size (ouc (seqd x)).toArray); generalize (w1.alloc (.cells (ouc zou).toArray 40)).setRow w1.heap.size (ouc (seqd x)).toArray = W8 at *)
  | ((with_reducible show wpList _ _ _ (⟨some 30,_,_,_,_,_⟩ :: _) _ _); refine wpList_copy_splice rfl (.tmp 28) (.tmp 29) _ _ rfl 3 Tryz.underlying144 (by kernel_rfl) _ _ 8 8 8 cap4 rfl rfl w1.heap.size 1 (ouc (seqd x)) 40 V8.out (cellsI .i64 (ov x)) (by rw [HCL.out]; rfl) (fun _ => ⟨rfl,HI8.out.source (by rw [HOL.out]; omega)⟩) (by rw [HCL.out,H41.out]; omega) (cellsI_one _ _) w1.heap.size w1 B8.out (Nat.le_refl _) ?_; rw [SV.out,HCL.out]; intro w9 h9 b9; have B9 := Lib.hid b9; have V9 := Lib.hid (show VRow w9 w1.heap.size 40 (ouc (half x 0)) from h9.out); clear h9 b9)
  | (go_at_call 105; refine (CW _).mono ?_; rintro e w' ⟨rfl,rfl⟩))
 have HBL := Lib.hid (show b < w.heap.size by
  rcases HXX.out with h | ⟨b',off',h1,hc⟩
  · have := HL.out; rw [h] at this; simp at this
  · cases h1; exact cell_lt (hc 0 (by rw [HL.out]; omega)))
 have h1w := hs1
 have h9w := B9.out.size
 have b10 := Boxed.new w9 41 (.slice (some ⟨b,off,none⟩) 52 cap)
 have V10 := Lib.hid (V9.out.alloc (.cells #[.slice (some ⟨b,off,none⟩) 52 cap] 41))
 have R4 := Lib.hid ((VRow.below R2.out B9.out R2.out.lt).alloc (.cells #[.slice (some ⟨b,off,none⟩) 52 cap] 41))
 have R5 := Lib.hid ((show Boxed w9 (w.heap.size + 1) 4 (.bool false) from (B9.out.block _ R3.out.lt).trans R3.out).alloc (.cells #[.slice (some ⟨b,off,none⟩) 52 cap] 41))
 have B10 := Lib.hid ((grow B1.out B9.out).alloc (by have := (grow B1.out B9.out).size; exact this) (.cells #[.slice (some ⟨b,off,none⟩) 52 cap] 41))
 have hs10 : (w9.alloc (.cells #[.slice (some ⟨b,off,none⟩) 52 cap] 41)).heap.size = w9.heap.size + 1 := by simp
 have h8 := V9.out.lt
 have HX10 := Lib.hid (HXX.out.below B10.out)
 clear R2 R3 B1 V9 B9 HX1 I4 VN V8 B8 SV HI8 KS HQ
 generalize w1.heap.size = g8 at *
 generalize w9.heap.size = bw at *
 generalize w9.alloc (.cells #[.slice (some ⟨b,off,none⟩) 52 cap] 41) = X0 at *
 refine (wpIn_wide (n := 5)).1 ?_
 refine range_goes rfl (by omega) (gf := 152) (lb := #[.pointer (some ⟨bw,0,none⟩)]) rfl trivial (enters_of Tryz.func152 (by kernel_rfl) rfl)
  (Kp := Kc (Dw bw (some ⟨b,off,none⟩)) (X0.heap.size + 2)) (encs := encw x)
  (fun V hV _ => words_goes _ (by omega) bw b off cap x HL.out HYY.out hcap _ _ V (show Boxed V bw 41 (.slice (some ⟨b,off,none⟩) 52 cap) from (hV.block bw (by omega)).trans b10).cell (HX10.out.below hV))
  Kc.trans (fun X k o o' _ h2 h3 h4 => Kc.put h2 h3 h4) (fun _ => rfl)
  (fun pre X => (woks x pre.length = true ∧ VRow X g8 40 (ouc (half x pre.length))) ∧ (VRow X w.heap.size 40 (ouc zou) ∧ Boxed X (w.heap.size + 1) 4 (.bool false)) ∧ Below w.heap.size w X)
  (fun c _ X => (c = .ret ∧ woks x 8 = false) ∧ (VRow X w.heap.size 40 (ouc zou) ∧ Boxed X (w.heap.size + 1) 4 (.bool false)) ∧ Below w.heap.size w X)
  (OwnFrom.and (OwnFrom.and (ownFrom_pure _ _) (own_row _ _ _ _)) (OwnFrom.and (OwnFrom.and (own_row _ _ _ _) (own_boxed _ _ _ _)) (ownFrom_below (Nat.le_refl _) (by omega))))
  (fun _ => OwnFrom.and (ownFrom_pure _ _) (OwnFrom.and (OwnFrom.and (own_row _ _ _ _) (own_boxed _ _ _ _)) (ownFrom_below (Nat.le_refl _) (by omega))))
  ⟨⟨rfl,V10.out⟩,⟨R4.out,R5.out⟩,B10.out⟩
  (fun y => { tmps := #[.slice (some ⟨b,off,none⟩) 52 cap,undef,.pointer (some ⟨w.heap.size,0,none⟩),.pointer (some ⟨w.heap.size + 1,0,none⟩),.int .i64 (oq x),.bool gb,.slice a4 8 cap4,.bool gd,.pointer (some ⟨g8,0,none⟩),.int .i64 y.val,.int .i64 (wd x y.val),undef,undef,.tuple #[.int .i64 (oq x),.bool gb],
   .slice (some ⟨b,off,none⟩) 52 cap,.slice (some ⟨b,off + 2,none⟩) 2 (cap - 2),.tuple #[.int .i64 (oq x),.bool gb],.int .i64 (oq x),.bool gb,.tuple #[.slice a4 8 cap4,.bool gd],.slice (some ⟨b,off,none⟩) 52 cap,.slice (some ⟨b,off + 4,none⟩) 32 (cap - 4),.tuple #[.slice a4 8 cap4,.bool gd],.slice a4 8 cap4,.bool gd,
   .int .i64 (oq x),.agg (ouc (seqd x)).toArray,.pointer (some ⟨g8,1,none⟩),.slice (some ⟨g8,1,none⟩) 8 8,.slice a4 8 cap4,.int .i64 8,.slice (some ⟨b,off,none⟩) 52 cap,.func (.func 152) #[] #[.pointer (some ⟨bw,0,none⟩)],.int .i64 y.val,.int .i64 (wd x y.val),undef,undef,undef,undef,undef,undef,undef,undef,undef,undef,undef,undef,undef],defers := [] }) ?assign ?body ?done ?stop
 case assign =>
  intro l y W K hK
  dsimp only [encw]
  generalize wd x y.val = wv at *
  gi_wp2
  exact hK
 case body =>
  rintro lp pre y X ⟨⟨h0,h1⟩,⟨h2,h3⟩,h4⟩ hlen hG
  rw [hG] 
  have hki : (pre.length : Int) < 8 := by omega
  have CP := Ss.parse_any (wd x pre.length) X (wd_wf HYY.out HL.out _ hlen)
  have HW := Lib.hid (woks_next x pre.length)
  have HN := Lib.hid (half_next x pre.length hlen)
  have HLN := Lib.hid (show (pre ++ [y]).length = pre.length + 1 by simp)
  have H0 := Lib.hid h0
  have H1 := Lib.hid h1
  have H2 := Lib.hid h2
  have H3 := Lib.hid h3
  have H4 := Lib.hid h4
  have HKH := Lib.hid (half_ok HL.out pre.length (by omega))
  have HNO := Lib.hid (fun h => woks_no (x := x) (n := 8) (i := pre.length) h hlen)
  clear h0 h1 h2 h3 h4
  cases hw : isw (wd x pre.length)
  · rw [Ss.retP_no hw] at CP
    have HWF := Lib.hid (HNO.out hw)
    clear hw HNO
    generalize wd x pre.length = wv at *
    unfold stv at CP
    change Calls _ _ _ _ fun e w' => e = .returned (.tuple #[.agg (str zer).toArray,.int .i64 3]) ∧ _ at CP
    gi_wp2_with (first
     | (refine ⟨trivial,?_⟩; gi_at_call 106; refine (CallsIn.inRound lp (callsIn_wide.2 CP)).mono ?_; rintro e X1 ⟨rfl,b1⟩; have Q1 := Lib.hid (lay_st X1 zer); have RN := Lib.hid (VRow.new X1 (str zer) 37); have B1 := Lib.hid b1; clear b1)
     | ((with_reducible show wpListIn _ _ _ _ _ (⟨none,.store _ (.tmp 11) _,_,_,_,_⟩ :: _) _ _); refine wpListIn_storeW rfl _ _ _ _ rfl X1.heap.size (str zer) (str zer) rfl rfl RN.out Ss.sizeS rfl (Ss.str_one zer) ?_
        have bX := Lib.hid (below_grown B1.out Q1.out.1 B1.out.size)
        have H2a := Lib.hid (row_grown (VRow.below H2.out B1.out H2.out.lt) Q1.out.1)
        have H3a := Lib.hid (row_grown (cs := [_]) (VRow.below (cs := [_]) H3.out B1.out (VRow.lt (cs := [_]) H3.out)) Q1.out.1)
        generalize (X1.alloc (.cells #[.int .i64 0,.int .i64 0,.int .i64 0,.bool false] 37)).setRow X1.heap.size (str zer).toArray = X2 at *
        clear Q1 RN B1)
     | ((with_reducible show wpListIn _ _ _ _ _ (⟨some 42,_,_,_,_,_⟩ :: _) _ _); refine wpListIn_buildTo rfl _ _ rfl (ouc zou).toArray (by kernel_rfl) ?_)
     | ((with_reducible show wpListIn _ _ _ _ _ (⟨none,.store _ (.tmp 2) _,_,_,_,_⟩ :: _) _ _); refine wpListIn_storeW rfl _ _ _ _ rfl w.heap.size (ouc zou) (ouc zou) rfl rfl H2a.out (sizeO ok_zou) rfl (ouc_all _) ?_
        have bS := Lib.hid (But.put (But.of_below (S := fun k => k = w.heap.size ∨ k = w.heap.size + 1) bX.out) (.inl (.inl rfl)) (ouc zou).toArray)
        have H2b := Lib.hid (H2a.out.put (ouc zou))
        have H3b := Lib.hid (show Boxed _ (w.heap.size + 1) 4 (.bool false) from VRow.putOther (cs := [_]) H3a.out (show w.heap.size + 1 ≠ w.heap.size by omega) (ouc zou).toArray)
        generalize X2.setRow w.heap.size (ouc zou).toArray = X3 at *
        have c3 := H3b.out.cell
        have f3 := H3b.out.frozen))
    have bT := But.setCell (p := ⟨w.heap.size + 1,0,none⟩) bS.out (.inl (.inr rfl)) (.bool false)
    have hltR := H2.out.lt
    have h4s := H4.out.size
    obtain ⟨k1,k2⟩ : KeepsFrom X0.heap.size X _ ∧ Kc (Dw bw (some ⟨b,off,none⟩)) (X0.heap.size + 2) X _ := ⟨KeepsFrom.of_but bT (fun k (e : k = w.heap.size ∨ k = w.heap.size + 1) => by omega),kc_of_but bT (fun p hp (e : p.block = w.heap.size ∨ p.block = w.heap.size + 1) => by
     have := HBL.out
     rcases hp with h | ⟨ad,h,h'⟩
     · omega
     · cases h
       have h' : p.block = b := h'
       omega) (fun k (e : k = w.heap.size ∨ k = w.heap.size + 1) => by omega)⟩
    exact ⟨k1,k2,⟨rfl,HWF.out⟩,⟨H2b.out.setOther (p := ⟨w.heap.size + 1,0,none⟩) (show w.heap.size ≠ w.heap.size + 1 by omega) _,H3b.out.set _⟩,But.below H4.out bT H4.out.size (fun i (e : i = w.heap.size ∨ i = w.heap.size + 1) => by omega)⟩
  · unfold Ss.RetP at CP
    rw [show Ss.pre (wd x pre.length) = 0 by unfold Ss.pre; rw [hw]; rfl] at CP
    have HWT := Lib.hid hw
    clear hw HNO
    generalize wd x pre.length = wv at *
    generalize prs wv = s at *
    unfold stv at CP
    change Calls _ _ _ _ fun e w' => e = .returned (.tuple #[.agg (str s).toArray,.int .i64 0]) ∧ _ at CP
    gi_wp2_with (first
     | (refine ⟨trivial,?_⟩; gi_at_call 106; refine (CallsIn.inRound lp (callsIn_wide.2 CP)).mono ?_; rintro e X1 ⟨rfl,b1⟩; have Q1 := Lib.hid (lay_st X1 s); have RN := Lib.hid (VRow.new X1 (str zer) 37))
     | ((with_reducible show wpListIn _ _ _ _ _ (⟨none,.store _ (.tmp 11) _,_,_,_,_⟩ :: _) _ _); refine wpListIn_storeW rfl _ _ _ _ rfl X1.heap.size (str zer) (str s) rfl rfl RN.out Ss.sizeS rfl (Ss.str_one s) ?_)
     | ((with_reducible show wpListIn _ _ _ _ _ (⟨some 44,_,_,_,_,_⟩ :: _) _ _); refine wpListIn_loadR rfl _ _ rfl X1.heap.size 0 rfl (str s) _ (row_range Q1.out.2) Tryz.underlying37 rfl Ss.sizeS ?_)
     | ((with_reducible show wpListIn _ _ _ _ _ (⟨none,.store _ (.tmp 46) _,_,_,_,_⟩ :: _) _ _); refine wpListIn_storeM rfl _ _ _ rfl g8 (9 + pre.length * 4) (str s) rfl rfl (there_st (row_grown (VRow.below H1.out b1 H1.out.lt) Q1.out.1) HKH.out pre.length hlen) Ss.sizeS (Ss.str_one s) ?_))
    have V3 := VRow.setCells (str s) (9 + pre.length * 4) _ _ (row_grown (VRow.below H1.out b1 H1.out.lt) Q1.out.1) (by rw [ouc_len HKH.out,str_len]; omega)
    rw [set_s HKH.out _ hlen,HN.out] at V3
    have hbX : Below X.heap.size X ((X1.alloc (.cells #[.int .i64 0,.int .i64 0,.int .i64 0,.bool false] 37)).setRow X1.heap.size (str s).toArray) := below_grown b1 Q1.out.1 b1.size
    have bb := but_setCells (But.of_below (S := (· = g8)) hbX) (Or.inl rfl) (9 + pre.length * 4) (str s)
    have hlt8 := H1.out.lt
    have hltR := H2.out.lt
    have hltF := H3.out.lt
    obtain ⟨k1,k2⟩ : KeepsFrom X0.heap.size X _ ∧ Kc (Dw bw (some ⟨b,off,none⟩)) (X0.heap.size + 2) X _ := ⟨KeepsFrom.of_but bb (fun k (e : k = g8) => by omega),kc_of_but bb (fun p hp (e : p.block = g8) => by
     have := HBL.out
     rcases hp with h | ⟨ad,h,h'⟩
     · omega
     · cases h
       have h' : p.block = b := h'
       omega) (fun k (e : k = g8) => by omega)⟩
    refine ⟨k1,k2,⟨by rw [HLN.out,HW.out,H0.out,HWT.out]; rfl,by rw [HLN.out]; exact V3⟩,⟨VRow.but H2.out bb (fun (e : w.heap.size = g8) => by omega),VRow.but (cs := [_]) H3.out bb (fun (e : w.heap.size + 1 = g8) => by omega)⟩,?_⟩
    exact But.below H4.out bb H4.out.size (fun i (e : i = g8) => by omega)
 case done =>
  rintro D ys X hD hys ⟨⟨h0,h1⟩,⟨h2,h3⟩,h4⟩ hK
  rw [len8 hys] at h0 h1
  rw [half_all] at h1
  have HT := Lib.hid h0
  have H1 := Lib.hid h1
  have H2 := Lib.hid h2
  have H4 := Lib.hid h4
  have KP := Lib.hid (parts_ok HL.out)
  have H2b := Lib.hid (h2.put (ouc (parts x)))
  have H3b := Lib.hid (show Boxed _ (w.heap.size + 1) 4 (.bool false) from VRow.putOther (cs := [_]) h3 (show w.heap.size + 1 ≠ w.heap.size by omega) (ouc (parts x)).toArray)
  have H4b := Lib.hid (Below.put h4 (Nat.le_refl _) (ouc (parts x)).toArray)
  have HKb := Lib.hid ((setRow_other X w.heap.size D (ouc (parts x)).toArray (by omega)).trans hK)
  clear h0 h1 h2 h3 h4 hK
  gi_wp2_with fail
  refine (wpIn_wide (n := 5)).1 ?_
  gi_wp2_with (first
   | ((with_reducible show wpListIn _ _ _ _ _ (⟨some 47,_,_,_,_,_⟩ :: _) _ _); refine wpListIn_loadR rfl _ _ rfl g8 0 rfl (ouc (parts x)) _ (range_o H1.out) Tryz.underlying40 rfl (sizeO KP.out) ?_)
   | ((with_reducible show wpListIn _ _ _ _ _ (⟨none,.store _ (.tmp 2) _,_,_,_,_⟩ :: _) _ _); refine wpListIn_storeW rfl _ _ _ _ rfl w.heap.size (ouc zou) (ouc (parts x)) rfl rfl H2.out (sizeO KP.out) (by rw [ouc_len KP.out,ouc_len ok_zou]) (ouc_all _) ?_
      generalize X.setRow w.heap.size (ouc (parts x)).toArray = X3 at *
      have c3 := H3b.out.cell
      have f3 := H3b.out.frozen))
  have hK' := (KeepsOthers.setCell X3 ⟨w.heap.size + 1,0,none⟩ (.bool true)).same D _ HKb.out rfl
  refine ⟨by simp,.inl ⟨_,_,rfl,run_takeDeferred hK',?_⟩⟩
  have P2 : VRow ((X3.setCell ⟨w.heap.size + 1,0,none⟩ (.bool true)).putObj D (.deferred none)) w.heap.size 40 (ouc (parts x)) :=
   box_turned (but_grown (grownBy_putObj' _ D (.deferred none))) (fun k e => by cases e; exact ⟨_,hK',rfl⟩) (H2b.out.setOther (p := ⟨w.heap.size + 1,0,none⟩) (show w.heap.size ≠ w.heap.size + 1 by omega) _)
  have P3 : Boxed ((X3.setCell ⟨w.heap.size + 1,0,none⟩ (.bool true)).putObj D (.deferred none)) (w.heap.size + 1) 4 (.bool true) :=
   box_turned (cs := [_]) (but_grown (grownBy_putObj' _ D (.deferred none))) (fun k e => by cases e; exact ⟨_,hK',rfl⟩) (H3b.out.set (.bool true))
  refine ⟨_,ret_cc rfl rfl rfl (load_o KP.out P2) (load_b P3),?_⟩
  unfold RetR
  rw [HT.out,if_pos rfl]
  exact ⟨rfl,(H4b.out.setCell (p := ⟨w.heap.size + 1,0,none⟩) (by show w.heap.size ≤ w.heap.size + 1; omega) _).trans (belowK_b (w := w) (Nat.le_refl _) _ D _ _ (by omega) hK' rfl rfl)⟩
 case stop =>
  rintro D cc pre X hD - ⟨⟨rfl,hno⟩,⟨h2,h3⟩,h4⟩ hK
  have HF := Lib.hid hno
  clear hno
  gi_wp2
  refine ⟨by simp,.inl ⟨_,_,rfl,run_takeDeferred hK,?_⟩⟩
  have P2 : VRow (X.putObj D (.deferred none)) w.heap.size 40 (ouc zou) := box_turned (but_grown (grownBy_putObj' _ D (.deferred none))) (fun k e => by cases e; exact ⟨_,hK,rfl⟩) h2
  have P3 : Boxed (X.putObj D (.deferred none)) (w.heap.size + 1) 4 (.bool false) := box_turned (cs := [_]) (but_grown (grownBy_putObj' _ D (.deferred none))) (fun k e => by cases e; exact ⟨_,hK,rfl⟩) h3
  refine ⟨_,ret_cc rfl rfl rfl (load_o ok_zou P2) (load_b P3),?_⟩
  unfold RetR
  rw [HF.out]
  exact ⟨rfl,h4.trans (belowK_b (w := w) (Nat.le_refl _) X D _ _ (by omega) hK rfl rfl)⟩
end Ot
namespace Ot
open Ss (St str zer stv)
open Cr (Bytes opens opened)
theorem wpQuiet_loadR {ops : Array Oper} {C : World → Prop} {Q : Act → Prop} {o : Oper} {rest : List Oper} {a : Act} {t : TypeId} (hw : Region.wanted o (yielded ops a.tmps) = true) (x : Operand) (ho : o.op = .load t x)
 (b off : Nat) (cs : List Value) (hx : a.eval x = .pointer (some ⟨b,off,none⟩)) (hb : ∀ w,C w → w.rangeAt b off cs) (d : TypeDesc) (hu : Tryz.prog.underlying t = some d) (hd : d.isRow = true) (hi : (Tryz.prog.info? t).map (·.size) = some cs.length)
 (h : wpQuiet Tryz.prog ops C Q rest (a.put o.dst (.agg cs.toArray))) : wpQuiet Tryz.prog ops C Q (o :: rest) a := by
 unfold wpQuiet
 rw [if_pos hw]
 refine ⟨.agg cs.toArray,fun w hC => ?_,h⟩
 have e := run_loadVar_mid (P := Tryz.prog) w b off t cs d (hb w hC) hu hd hi
 unfold Oper.quietAt execOp
 simp only [ho,hx,Instr.loadAt,Instr.sureAddr,Sem.run_bind,Sem.run_pure,Result.andThen_ok,e]
 exact ⟨rfl,rfl⟩
def RetD (w : World) (l : List Int) (e : Ending) (w' : World) : Prop :=
 e = .returned (.tuple #[.agg (ouc (dec l)).toArray,.int .i64 (decE l)]) ∧ Below w.heap.size w w'
theorem retD_no {w : World} {l : List Int} (h : iso l = false) : RetD w l = fun e w' => e = .returned (.tuple #[.agg (ouc zou).toArray,.int .i64 3]) ∧ Below w.heap.size w w' := by
 unfold RetD; rw [dec_no h,decE_no h]
theorem retD_yes {w : World} {l : List Int} (h : iso l = true) : RetD w l = fun e w' => e = .returned (.tuple #[.agg (ouc (parts (l.take 52))).toArray,.int .i64 0]) ∧ Below w.heap.size w w' := by
 unfold RetD; rw [dec_yes h,decE_yes h]
theorem iso_len {l : List Int} (h : l.length ≠ 54) : iso l = false := by
 cases e : iso l
 · rfl
 · exact absurd ((iso_iff l).1 e).1 h
theorem iso_sync {l : List Int} (h : l.getD 0 0 ≠ 90) : iso l = false := by
 cases e : iso l
 · rfl
 · exact absurd ((iso_iff l).1 e).2.1 h
theorem iso_sum {l : List Int} (h : opens l = false) : iso l = false := by
 cases e : iso l
 · rfl
 · rw [((iso_iff l).1 e).2.2.1] at h; cases h
theorem iso_words {l : List Int} (h : woks (l.take 52) 8 = false) : iso l = false := by
 cases e : iso l
 · rfl
 · rw [((iso_iff l).1 e).2.2.2.1] at h; cases h
theorem iso_fail {l : List Int} (h : (fl (parts (l.take 52)).s : Int) ≠ l.getD 1 0) : iso l = false := by
 cases e : iso l
 · rfl
 · exact absurd ((iso_iff l).1 e).2.2.2.2 h
theorem res_new (w : World) : Below w.heap.size w ((w.alloc (.cells (ouc zou).toArray 40)).setRow w.heap.size (ouc zou).toArray) ∧ VRow ((w.alloc (.cells (ouc zou).toArray 40)).setRow w.heap.size (ouc zou).toArray) w.heap.size 40 (ouc zou) :=
 ⟨Below.put ((Below.refl _ w).alloc (Nat.le_refl _) _) (Nat.le_refl _) _,(VRow.new w (ouc zou) _).put (ouc zou)⟩
set_option maxRecDepth 100000 in
set_option maxHeartbeats 3200000 in
theorem dec_any (a : Option Addr) (cap : Nat) (l : List Int) (w : World) (hl : l.length ≤ 1000000) (hcap : l.length ≤ cap) (hy : Bytes l) (hb : IntsAt .u8 w a l) :
 Calls Tryz.prog 24 #[.slice a l.length cap] w (RetD w l) := by
 have R0 := Lib.hid (res_new w)
 have N0 := Lib.hid (VRow.new w (ouc zou) 40)
 by_cases h54 : l.length = 54
 · obtain ⟨b,off,rfl⟩ := ints_some hb (by omega)
   have BA := Lib.hid ((Below.refl w.heap.size w).alloc (Nat.le_refl _) (.cells (ouc zou).toArray 40))
   have hb0 := hb.below BA.out
   have c0 : (w.alloc (.cells #[.int .i64 0,.int .i64 0,.int .i64 0,.int .i64 0,.int .i64 0,.int .i64 0,.int .i64 0,.int .i64 0,.int .i64 0,.int .i64 0,.int .i64 0,.int .i64 0,.bool false,.int .i64 0,.int .i64 0,.int .i64 0,.bool false,.int .i64 0,.int .i64 0,.int .i64 0,.bool false,.int .i64 0,.int .i64 0,.int .i64 0,.bool false,.int .i64 0,.int .i64 0,.int .i64 0,.bool false,.int .i64 0,.int .i64 0,.int .i64 0,.bool false,.int .i64 0,.int .i64 0,.int .i64 0,.bool false,.int .i64 0,.int .i64 0,.int .i64 0,.bool false] 40)).cell? ⟨b,off,none⟩ = some (.int .u8 (l.getD 0 0)) := by
    show (w.alloc (.cells (ouc zou).toArray 40)).cell? ⟨b,off,none⟩ = some (.int .u8 (l.getD 0 0))
    rcases hb0 with h | ⟨b',off',h1,hc⟩
    · rw [h] at h54; simp at h54
    · cases h1; exact hc 0 (by omega)
   by_cases h90 : l.getD 0 0 = 90
   · rw [h90] at c0
     have CO := fun W h => Cr.open_cap (some ⟨b,off,none⟩) cap l W hl hcap hy h
     rw [h54] at CO ⊢
     have HB0 := Lib.hid hb0
     have HY := Lib.hid hy
     have H54 := Lib.hid h54
     have H90 := Lib.hid h90
     clear hb hb0 hy hcap hl h54 h90
     cases ho : opens l
     · rw [retD_no (iso_sum ho)]
       rw [ho] at CO
       rw [Cr.opened_no ho] at CO
       clear ho
       go_enter Tryz.func24,Tryz.ntmps24
       go_wp2_with fail
       change Calls _ _ _ (w.alloc (.cells (ouc zou).toArray 40)) _
       refine (CO _ HB0.out).mono ?_; rintro e w1 ⟨a1,cap1,rfl,-,-,b1⟩
       have R1 := Lib.hid (VRow.below N0.out b1 N0.out.lt)
       have B1 := Lib.hid (grow BA.out b1)
       clear b1 CO c0
       go_wp2_with (first
        | ((with_reducible show wpList _ _ _ (⟨some 24,_,_,_,_,_⟩ :: _) _ _); refine wpList_buildTo rfl _ _ rfl (ouc zou).toArray (by kernel_rfl) ?_)
        | ((with_reducible show wpList _ _ _ (⟨none,.store _ (.tmp 2) _,_,_,_,_⟩ :: _) _ _); refine VB.store rfl _ _ rfl w.heap.size (ouc zou) rfl rfl R1.out (sizeO ok_zou) rfl (ouc_all _) ?_))
       refine bodyPost_ret (v := .tuple #[.agg (ouc zou).toArray,.int .i64 3]) ?_ rfl ⟨rfl,Below.put B1.out (Nat.le_refl _) _⟩
       exact (VB.ret2 (cs := ouc zou) rfl rfl (aggO _) (sizeO ok_zou) (R1.out.put (ouc zou))).trans rfl
     · rw [ho] at CO
       have ho' := Cr.opened_yes ho
       rw [H54.out,show 54 - 2 = 52 from rfl] at ho'
       rw [ho'] at CO
       have hx52 : (l.take 52).length = 52 := by rw [List.length_take,H54.out]; rfl
       have HX := Lib.hid hx52
       have HYX := Lib.hid (HY.out.take 52)
       have HO := Lib.hid ho
       have H1 := Lib.hid (show (l.take 52).getD 1 0 = l.getD 1 0 by simp [List.getD_eq_getElem?_getD])
       have hbyte := HY.out.getD 1
       clear ho ho' hx52
       have CRD := fun (b1 off1 cap1 : Nat) (W : World) (h1 : 52 ≤ cap1) (h2 : IntsAt .u8 W (some ⟨b1,off1,none⟩) (l.take 52)) => read_any b1 off1 cap1 (l.take 52) W HX.out HYX.out h1 h2
       cases hw : woks (l.take 52) 8
       · rw [retD_no (iso_words hw)]
         unfold RetR at CRD
         rw [hw,if_neg (by decide)] at CRD
         clear hw
         generalize l.take 52 = x at *
         go_enter Tryz.func24,Tryz.ntmps24
         go_wp2_with fail
         change Calls _ _ _ (w.alloc (.cells (ouc zou).toArray 40)) _
         refine (CO _ HB0.out).mono ?_; rintro e w1 ⟨a1,cap1,rfl,i1,m1,b1⟩
         obtain ⟨bb,oo,rfl⟩ := ints_some i1 (by rw [HX.out]; omega)
         rw [HX.out] at m1 ⊢
         have R1 := Lib.hid (VRow.below N0.out b1 N0.out.lt)
         have B1 := Lib.hid (grow BA.out b1)
         have I1 := Lib.hid i1
         clear b1 CO c0 i1
         go_wp2_with fail
         refine (CRD _ _ _ _ m1 I1.out).mono ?_; rintro e w2 ⟨rfl,b2⟩
         have R2 := Lib.hid (VRow.below R1.out b2 R1.out.lt)
         have B2 := Lib.hid (grow B1.out b2)
         have N2 := Lib.hid (VRow.new w2 (ouc zou) 40)
         have R3 := Lib.hid ((R2.out.alloc (.cells (ouc zou).toArray 40)).putOther (show w.heap.size ≠ w2.heap.size by have := R2.out.lt; omega) (ouc zou).toArray)
         have B3 := Lib.hid (Below.put (B2.out.alloc B2.out.size (.cells (ouc zou).toArray 40)) B2.out.size (ouc zou).toArray)
         clear b2 R2 B2 R1 B1 CRD
         go_wp2_with ((with_reducible show wpList _ _ _ (⟨none,.store _ (.tmp 6) _,_,_,_,_⟩ :: _) _ _); refine VB.store rfl _ _ rfl w2.heap.size (ouc zou) rfl rfl N2.out (sizeO ok_zou) rfl (ouc_all _) ?_; change wpList _ _ _ _ _ ((w2.alloc (.cells (ouc zou).toArray 40)).setRow w2.heap.size (ouc zou).toArray); generalize (w2.alloc (.cells (ouc zou).toArray 40)).setRow w2.heap.size (ouc zou).toArray = W3 at *)
         refine wp_region_quiet_below (by kernel_rfl) (by kernel_rfl) ?_
         repeat (go_big_quiet_step (fail))
         refine wpQuiet_nil ?_
         intro _ hw'
         obtain ⟨⟨dq,osq⟩,hw''⟩ := hw'
         subst hw''
         have R4 := Lib.hid (VRow.below R3.out (below_regrown W3 dq osq) R3.out.lt)
         have B4 := Lib.hid (grow B3.out (below_regrown W3 dq osq))
         show Exit.then _ _ .normal _ (Sort.grow (redrawn W3 dq) osq)
         generalize Sort.grow (redrawn W3 dq) osq = W4 at *
         clear R3 B3
         go_wp2_with (first
          | ((with_reducible show wpList _ _ _ (⟨some 41,_,_,_,_,_⟩ :: _) _ _); refine wpList_buildTo rfl _ _ rfl (ouc zou).toArray (by kernel_rfl) ?_)
          | ((with_reducible show wpList _ _ _ (⟨none,.store _ (.tmp 2) _,_,_,_,_⟩ :: _) _ _); refine VB.store rfl _ _ rfl w.heap.size (ouc zou) rfl rfl R4.out (sizeO ok_zou) rfl (ouc_all _) ?_))
         refine bodyPost_ret (v := .tuple #[.agg (ouc zou).toArray,.int .i64 3]) ?_ rfl ⟨rfl,Below.put B4.out (Nat.le_refl _) _⟩
         exact (VB.ret2 (cs := ouc zou) rfl rfl (aggO _) (sizeO ok_zou) (R4.out.put (ouc zou))).trans rfl
       · have HYES := Lib.hid (fun (h : (fl (parts (l.take 52)).s : Int) = l.getD 1 0) => (iso_iff l).2 ⟨H54.out,H90.out,HO.out,hw,h⟩)
         have HNO := Lib.hid (fun (h : (fl (parts (l.take 52)).s : Int) ≠ l.getD 1 0) => iso_fail h)
         unfold RetR at CRD
         rw [hw,if_pos rfl] at CRD
         have KP := Lib.hid (parts_ok HX.out)
         have CFL := fun W => failed_any KP.out W
         have HRD := Lib.hid (retD_yes (w := w) (l := l))
         have HRN := Lib.hid (retD_no (w := w) (l := l))
         have hfl : fl (parts (l.take 52)).s ≤ 8 := by have := fl_le (parts (l.take 52)).s; rw [KP.out.s] at this; exact this
         obtain ⟨px,hpx⟩ : ∃ px,parts (l.take 52) = px := ⟨_,rfl⟩
         rw [hpx] at CRD CFL HYES HNO KP HRD hfl
         clear hw hpx
         obtain ⟨x,hx⟩ : ∃ x,l.take 52 = x := ⟨_,rfl⟩
         rw [hx] at CO HX CRD H1
         clear hx HYX
         obtain ⟨y1,hy1⟩ : ∃ y1,l.getD 1 0 = y1 := ⟨_,rfl⟩
         rw [hy1] at H1 HYES HNO hbyte
         clear hy1
         generalize hfn : fl px.s = fn at *
         clear hfn
         have hret : (RetD w l = if (fn : Int) = y1 then (fun e w' => e = .returned (.tuple #[.agg (ouc px).toArray,.int .i64 0]) ∧ Below w.heap.size w w') else (fun e w' => e = .returned (.tuple #[.agg (ouc zou).toArray,.int .i64 3]) ∧ Below w.heap.size w w')) := by
          split
          · rename_i h; exact HRD.out (HYES.out h)
          · rename_i h; exact HRN.out (HNO.out h)
         rw [hret]
         clear hret HYES HNO HRD HRN
         have NK := Lib.hid (sizeO KP.out)
         have H41 := Lib.hid (show (ouc zou).length = (ouc px).length by rw [ouc_len ok_zou,ouc_len KP.out])
         have HALL := Lib.hid (ouc_all px)
         by_cases hf : (fn : Int) = y1
         all_goals
          first | rw [if_pos hf] | rw [if_neg hf]
          go_enter Tryz.func24,Tryz.ntmps24
          go_wp2_with fail
          change Calls _ _ _ (w.alloc (.cells (ouc zou).toArray 40)) _
          refine (CO _ HB0.out).mono ?_; rintro e w1 ⟨a1,cap1,rfl,i1,m1,b1⟩
          obtain ⟨bb,oo,rfl⟩ := ints_some i1 (by rw [HX.out]; omega)
          rw [HX.out] at m1 ⊢
          have R1 := Lib.hid (VRow.below N0.out b1 N0.out.lt)
          have B1 := Lib.hid (grow BA.out b1)
          have I1 := Lib.hid i1
          clear b1 CO c0 i1
          go_wp2_with fail
          refine (CRD _ _ _ _ m1 I1.out).mono ?_; rintro e w2 ⟨rfl,b2⟩
          have R2 := Lib.hid (VRow.below R1.out b2 R1.out.lt)
          have B2 := Lib.hid (grow B1.out b2)
          have N2 := Lib.hid (VRow.new w2 (ouc zou) 40)
          have R3 := Lib.hid ((R2.out.alloc (.cells (ouc zou).toArray 40)).putOther (show w.heap.size ≠ w2.heap.size by have := R2.out.lt; omega) (ouc px).toArray)
          have N3 := Lib.hid (N2.out.put (ouc px))
          have B3 := Lib.hid (Below.put (B2.out.alloc B2.out.size (.cells (ouc zou).toArray 40)) B2.out.size (ouc px).toArray)
          have b23 : Below w2.heap.size w2 ((w2.alloc (.cells (ouc zou).toArray 40)).setRow w2.heap.size (ouc px).toArray) := Below.put ((Below.refl _ w2).alloc (Nat.le_refl _) _) (Nat.le_refl _) _
          have I3 := Lib.hid ((I1.out.below b2).below b23)
          clear b2 R2 B2 R1 B1 CRD b23 I1
          go_wp2_with ((with_reducible show wpList _ _ _ (⟨none,.store _ (.tmp 6) _,_,_,_,_⟩ :: _) _ _); refine VB.store rfl _ _ rfl w2.heap.size (ouc px) rfl rfl N2.out NK.out H41.out HALL.out ?_; change wpList _ _ _ _ _ ((w2.alloc (.cells (ouc zou).toArray 40)).setRow w2.heap.size (ouc px).toArray); generalize (w2.alloc (.cells (ouc zou).toArray 40)).setRow w2.heap.size (ouc px).toArray = W3 at *)
          have k1 : W3.cell? ⟨bb,oo + 1,none⟩ = some (.int .u8 y1) := by
           rcases I3.out with h | ⟨b',off',h1,hc⟩
           · have := HX.out; rw [h] at this; simp at this
           · cases h1; have := hc 1 (by rw [HX.out]; omega); rw [H1.out] at this; exact this
          have k2 := cell_regrown k1
          have cF := reg_call (w := W3) (fun W _ => CFL W)
          have HRG := Lib.hid (show ∀ W',(∃ p : Regrown,W' = Sort.grow (redrawn W3 p.d) p.os) → W'.rangeAt w2.heap.size 0 (ouc px) from by rintro W' ⟨p,rfl⟩; exact row_range (N3.out.below (below_regrown W3 p.d p.os) N3.out.lt))
          have wy : IntKind.i64.wrap y1 = y1 := IntWalk.i64_in _ (by omega)
          clear k1 CFL
          refine wp_region_quiet_below (by kernel_rfl) (by kernel_rfl) ?_
          repeat (first
           | (with_reducible show wpQuiet _ _ _ _ (⟨some 33,_,_,_,_,_⟩ :: _) _
              refine wpQuiet_loadR rfl _ rfl w2.heap.size 0 (ouc px) rfl HRG.out _ Tryz.underlying40 rfl NK.out ?_
              simp only [Act.put,List.setIfInBounds_toArray,List.set_cons_succ,List.set_cons_zero])
           | go_big_quiet_step (exact cF _ _))
          refine wpQuiet_nil ?_
          intro _ hw'
          obtain ⟨⟨dq,osq⟩,hw''⟩ := hw'
          subst hw''
          have R4 := Lib.hid (VRow.below R3.out (below_regrown W3 dq osq) R3.out.lt)
          have N4 := Lib.hid (VRow.below N3.out (below_regrown W3 dq osq) N3.out.lt)
          have B4 := Lib.hid (grow B3.out (below_regrown W3 dq osq))
          show Exit.then _ _ .normal _ (Sort.grow (redrawn W3 dq) osq)
          generalize Sort.grow (redrawn W3 dq) osq = W4 at *
          clear R3 B3 N3 k2 cF HRG wy
         · go_wp2_with (first
            | ((with_reducible show wpList _ _ _ (⟨some 42,_,_,_,_,_⟩ :: _) _ _); refine VB.loaded rfl _ rfl w2.heap.size rfl N4.out Tryz.underlying40 rfl NK.out ?_)
            | ((with_reducible show wpList _ _ _ (⟨none,.store _ (.tmp 2) _,_,_,_,_⟩ :: _) _ _); refine VB.store rfl _ _ rfl w.heap.size (ouc px) rfl rfl R4.out NK.out H41.out HALL.out ?_))
           refine bodyPost_ret (v := .tuple #[.agg (ouc px).toArray,.int .i64 0]) ?_ rfl ⟨rfl,Below.put B4.out (Nat.le_refl _) _⟩
           exact (VB.ret2 (cs := ouc px) rfl rfl (aggO _) NK.out (R4.out.put (ouc px))).trans rfl
         · have dn : ((fn : Int) != y1) = true := by simpa using hf
           go_wp2_with (first
            | ((with_reducible show wpList _ _ _ (⟨some 41,_,_,_,_,_⟩ :: _) _ _); refine wpList_buildTo rfl _ _ rfl (ouc zou).toArray (by kernel_rfl) ?_)
            | ((with_reducible show wpList _ _ _ (⟨none,.store _ (.tmp 2) _,_,_,_,_⟩ :: _) _ _); refine VB.store rfl _ _ rfl w.heap.size (ouc zou) rfl rfl R4.out (sizeO ok_zou) rfl (ouc_all _) ?_))
           refine bodyPost_ret (v := .tuple #[.agg (ouc zou).toArray,.int .i64 3]) ?_ rfl ⟨rfl,Below.put B4.out (Nat.le_refl _) _⟩
           exact (VB.ret2 (cs := ouc zou) rfl rfl (aggO _) (sizeO ok_zou) (R4.out.put (ouc zou))).trans rfl
   · rw [retD_no (iso_sync h90)]
     have d1 : (l.getD 0 0 != 90) = true := by simpa using h90
     rw [h54]
     generalize l.getD 0 0 = x0 at *
     clear hy hb hb0 hcap h90
     go_enter Tryz.func24,Tryz.ntmps24
     go_wp2_with (first
      | ((with_reducible show wpList _ _ _ (⟨some 16,_,_,_,_,_⟩ :: _) _ _); refine wpList_buildTo rfl _ _ rfl (ouc zou).toArray (by kernel_rfl) ?_)
      | ((with_reducible show wpList _ _ _ (⟨none,.store _ (.tmp 2) _,_,_,_,_⟩ :: _) _ _); refine VB.store rfl _ _ rfl w.heap.size (ouc zou) rfl rfl N0.out (sizeO ok_zou) rfl (ouc_all _) ?_; change wpList _ _ _ _ _ ((w.alloc (.cells (ouc zou).toArray 40)).setRow w.heap.size (ouc zou).toArray); generalize (w.alloc (.cells (ouc zou).toArray 40)).setRow w.heap.size (ouc zou).toArray = W1 at *))
     refine bodyPost_ret (v := .tuple #[.agg (ouc zou).toArray,.int .i64 3]) ?_ rfl ⟨rfl,R0.out.1⟩
     exact (VB.ret2 (cs := ouc zou) rfl rfl (aggO _) (sizeO ok_zou) R0.out.2).trans rfl
 · rw [retD_no (iso_len h54)]
   have d0 : ((l.length : Int) != 54) = true := by simp; omega
   clear hy hb hcap
   go_enter Tryz.func24,Tryz.ntmps24
   go_wp2_with (first
    | ((with_reducible show wpList _ _ _ (⟨some 16,_,_,_,_,_⟩ :: _) _ _); refine wpList_buildTo rfl _ _ rfl (ouc zou).toArray (by kernel_rfl) ?_)
    | ((with_reducible show wpList _ _ _ (⟨none,.store _ (.tmp 2) _,_,_,_,_⟩ :: _) _ _); refine VB.store rfl _ _ rfl w.heap.size (ouc zou) rfl rfl N0.out (sizeO ok_zou) rfl (ouc_all _) ?_; change wpList _ _ _ _ _ ((w.alloc (.cells (ouc zou).toArray 40)).setRow w.heap.size (ouc zou).toArray); generalize (w.alloc (.cells (ouc zou).toArray 40)).setRow w.heap.size (ouc zou).toArray = W1 at *))
   refine bodyPost_ret (v := .tuple #[.agg (ouc zou).toArray,.int .i64 3]) ?_ rfl ⟨rfl,R0.out.1⟩
   exact (VB.ret2 (cs := ouc zou) rfl rfl (aggO _) (sizeO ok_zou) R0.out.2).trans rfl
end Ot
end Go.Proofs.YticidhbnljdidaaGreatDoor
