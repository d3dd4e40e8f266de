/-
 What Has and Count of the document's answers for layer 1 (package rudderref01) return: contracts by walking the Go text (cut out of FixMasksWalk, for later layers). No conditions.
 What Right and Word of package status, and the like of rudderref16, tell: contracts by walking the Go text. No conditions beyond the numbers' kinds.
 How an output lies in memory: its cells, and what is loaded of them. No function of the program is walked here. No conditions.
-/
import Derived.Test.YticidhbnljdidaaGreatDoorFixWalks
import Derived.Test.YticidhbnljdidaaGreatDoorJStatusMath4
import Derived.Test.YticidhbnljdidaaGreatDoorJSignalBound10
import Derived.Handy
import Derived.RegionTactic
import Derived.BigQuiet
import Derived.Deep.MidRow
import Derived.OwnWalkIn
namespace Go.Proofs.YticidhbnljdidaaGreatDoor
set_option maxRecDepth 100000
open Go.ChangeShapes Go.WideShapes Go.ChangeAt Go.RowKit
namespace Fx
end Fx
open Go.ChangeShapes Go.WideShapes Go.ChangeAt Go.RowKit Go.Deep
namespace Ss
open Fx
def stv (s : St) : Value := .agg #[.int .i64 s.i,.int .i64 s.l,.int .i64 s.s,.bool s.f]
def str (s : St) : List Value := [.int .i64 s.i,.int .i64 s.l,.int .i64 s.s,.bool s.f]
theorem st_cells {w : World} {g : Nat} {t : TypeId} {s : St} (h : VRow w g t (str s)) : w.cell? ⟨g,0,none⟩ = some (.int .i64 s.i) ∧ w.cell? ⟨g,1,none⟩ = some (.int .i64 s.l) ∧ w.cell? ⟨g,2,none⟩ = some (.int .i64 s.s) ∧ w.cell? ⟨g,3,none⟩ = some (.bool s.f) :=
 ⟨h.cell 0 rfl,h.cell 1 rfl,h.cell 2 rfl,h.cell 3 rfl⟩
theorem str_one (s : St) : (str s).toArray.all (·.oneCell') = true := by simp [str,Value.oneCell']
theorem onB {w w' : World} {g : Nat} {t : TypeId} {cs : List Value} (h : VRow w g t cs) (b : Below w.heap.size w w') : VRow w' g t cs := h.below b h.lt
theorem sizeS : (Tryz.prog.info? 37).map (·.size) = some 4 := by kernel_rfl
theorem aggS (w : World) : (isAgg 37).run Tryz.prog w = .ok true w := by simp [isAgg,run_underlying Tryz.underlying37]
theorem box_new (w : World) (s : St) (t : TypeId) : VRow (w.alloc (.cells #[.int .i64 s.i,.int .i64 s.l,.int .i64 s.s,.bool s.f] t)) w.heap.size t (str s) := VRow.new w (str s) t
theorem masked_any (n : Int) (w : World) :
 Calls Tryz.prog 108 #[.int .i64 n] w fun e w' => e = .returned (.bool (mk n)) ∧ w = w' := by
 have HF := Lib.hid (show mk n = (decide (0 ≤ n) && decide (n < 16)) by unfold mk; rw [Bool.decide_and])
 generalize mk n = x at *
 cases d : decide (0 ≤ n)
 · rw [d,Bool.false_and] at HF
   go_enter Tryz.func108,Tryz.ntmps108
   go_wp2
   go_ret
   exact ⟨ret_bool HF.out.symm,rfl⟩
 · rw [d,Bool.true_and] at HF
   go_enter Tryz.func108,Tryz.ntmps108
   go_wp2
   go_ret
   exact ⟨ret_bool HF.out.symm,rfl⟩
theorem masked_eq (n : Int) (x : Bool) (w : World) (h : mk n = x) :
 Calls Tryz.prog 108 #[.int .i64 n] w fun e w' => e = .returned (.bool x) ∧ w = w' := by subst h; exact masked_any n w
set_option maxHeartbeats 1600000 in
theorem right_any (s : St) (w : World) :
 Calls Tryz.prog 69 #[stv s] w fun e w' => e = .returned (.bool (rgt s)) ∧ Below w.heap.size w w' := by
 obtain ⟨i,l,q,f⟩ := s
 have HF := Lib.hid (show rgt ⟨i,l,q,f⟩ = (mk i && mk l && (f == (i == 0)) && (q == -1 || has i q)) from rfl)
 have BB := Lib.hid ((Below.refl w.heap.size w).alloc (Nat.le_refl _) (.cells #[.int .i64 i,.int .i64 l,.int .i64 q,.bool f] 37))
 have CH := fun W => has_any i q W
 unfold stv
 generalize rgt ⟨i,l,q,f⟩ = r at *
 generalize has i q = h at *
 cases d1 : mk i <;> cases d2 : mk l <;> cases d3 : (i == 0) <;> cases d4 : (q == -1) <;> cases f
 all_goals
  rw [d1,d2,d3,d4] at HF
  have D1 := Lib.hid d1
  have D2 := Lib.hid d2
  clear d1 d2
  go_enter Tryz.func69,Tryz.ntmps69
  go_wp2_with (first | (go_at_call 108; refine (masked_eq _ _ _ (by first | exact D1.out | exact D2.out)).mono ?_; rintro e w' ⟨rfl,rfl⟩) | (go_at_call 60; refine (CH _).mono ?_; rintro e w' ⟨rfl,rfl⟩))
  go_ret
  exact ⟨ret_bool (by rw [HF.out]; first | rfl | simp),BB.out⟩
end Ss
namespace Ot
open Ss (St str zer stv)
section
variable {F : Fence} {n : Nat} {P : Program} {ops : Array Oper} {rest : List Oper} {o : Oper} {a : Act} {w : World} {Q : Exit → Act → World → Prop}
theorem wpListIn_loadR (hg : o.guard = none) (t : TypeId) (x : Operand) (ho : o.op = .load t x) (b off : Nat) (hx : a.eval x = .pointer (some ⟨b,off,none⟩)) (cs : List Value) (d : TypeDesc) (hc : w.rangeAt b off cs)
 (hu : P.underlying t = some d) (hd : d.isRow = true) (hi : (P.info? t).map (·.size) = some cs.length) (h : wpListIn F n P ops Q rest (a.put o.dst (.agg cs.toArray)) w) : wpListIn F n P ops Q (o :: rest) a w := by
 refine wpListIn_plain hg fun K hK => ?_
 unfold Oper.wpIn
 refine ⟨by simp [Oper.about,ho],?_⟩
 rw [Oper.semAt_plain F _ _ (by rw [ho]; intro c hc'; cases hc')]
 simp only [execOp,ho,hx,Instr.loadAt,Instr.sureAddr,run_loadVar_mid w b off t cs d hc hu hd hi,Sem.run_bind,Result.andThen_ok,Sem.run_pure]
 exact hK _ _ h
theorem wpListIn_storeW (hg : o.guard = none) (t tt : TypeId) (x y : Operand) (ho : o.op = .store t x y) (g : Nat) (cs cs' : List Value) (hx : a.eval x = .pointer (some ⟨g,0,none⟩)) (hy : a.eval y = .agg cs'.toArray) (hr : VRow w g tt cs)
 (hi : (P.info? t).map (·.size) = some cs'.length) (hl : cs.length = cs'.length) (h1 : cs'.toArray.all (·.oneCell') = true) (h : wpListIn F n P ops Q rest (a.put o.dst undef) (w.setRow g cs'.toArray)) : wpListIn F n P ops Q (o :: rest) a w := by
 refine wpListIn_plain hg fun K hK => ?_
 unfold Oper.wpIn
 refine ⟨by simp [Oper.about,ho],?_⟩
 rw [Oper.semAt_plain F _ _ (by rw [ho]; intro c hc'; cases hc')]
 have e := run_storeVar_row (P := P) w g tt t cs.toArray cs'.toArray hr (by simpa using hi) (by simpa using hl) h1
 simp only [execOp,ho,hx,hy,Instr.storeAt,Instr.sureAddr,e,Sem.run_bind,Result.andThen_ok,Sem.run_pure]
 exact hK _ _ h
theorem wpListIn_storeM (hg : o.guard = none) (t : TypeId) (x y : Operand) (ho : o.op = .store t x y) (g off : Nat) (cs' : List Value) (hx : a.eval x = .pointer (some ⟨g,off,none⟩)) (hy : a.eval y = .agg cs'.toArray) (hr : w.there g off cs'.length)
 (hi : (P.info? t).map (·.size) = some cs'.length) (h1 : cs'.toArray.all (·.oneCell') = true) (h : wpListIn F n P ops Q rest (a.put o.dst undef) (w.setCells g off cs')) : wpListIn F n P ops Q (o :: rest) a w := by
 refine wpListIn_plain hg fun K hK => ?_
 unfold Oper.wpIn
 refine ⟨by simp [Oper.about,ho],?_⟩
 rw [Oper.semAt_plain F _ _ (by rw [ho]; intro c hc'; cases hc')]
 have e := run_storeVar_mid (P := P) w g off t cs'.toArray (by simpa using hr) (by simpa using hi) h1
 simp only [execOp,ho,hx,hy,Instr.storeAt,Instr.sureAddr,e,Sem.run_bind,Result.andThen_ok,Sem.run_pure]
 exact hK _ _ h
theorem run_index {t e : TypeId} {N : Nat} (ht : P.underlying t = some (.array N e)) (cs : Array Value) (i : Nat) (hi : i < N) (m : Nat) (v : Value) (hs : (sizeOf e).run P w = .ok m w) (hv : (part e cs (i * m)).run P w = .ok v w) :
 (Instr.index t (.agg cs) (.int .i64 (i : Int))).run P w = .ok v w := by
 unfold Instr.index
 have h1 : (0 : Int) ≤ i ∧ (i : Int) < N := by omega
 simp only [asIntOf,Sem.run_bind,Sem.run_pure,Result.andThen_ok,run_underlying ht,h1,and_self,if_true,hs,Int.toNat_natCast,hv]
theorem wpListIn_index (hg : o.guard = none) (t : TypeId) (x y : Operand) (ho : o.op = .index t x y) (cs : Array Value) (i : Nat) (v : Value) (hx : a.eval x = .agg cs) (hy : a.eval y = .int .i64 (i : Int)) (hr : (Instr.index t (.agg cs) (.int .i64 (i : Int))).run P w = .ok v w)
 (h : wpListIn F n P ops Q rest (a.put o.dst v) w) : wpListIn F n P ops Q (o :: rest) a w := by
 refine wpListIn_plain hg fun K hK => ?_
 unfold Oper.wpIn
 refine ⟨by simp [Oper.about,ho],?_⟩
 rw [Oper.semAt_plain F _ _ (by rw [ho]; intro c hc'; cases hc')]
 simp only [execOp,ho,hx,hy,hr,Sem.run_bind,Result.andThen_ok,Sem.run_pure]
 exact hK _ _ h
theorem wpList_index (hg : o.guard = none) (t : TypeId) (x y : Operand) (ho : o.op = .index t x y) (cs : Array Value) (i : Nat) (v : Value) (hx : a.eval x = .agg cs) (hy : a.eval y = .int .i64 (i : Int)) (hr : (Instr.index t (.agg cs) (.int .i64 (i : Int))).run P w = .ok v w)
 (h : wpList P ops Q rest (a.put o.dst v) w) : wpList P ops Q (o :: rest) a w := by
 refine wpList_plain hg fun K hK => ?_
 unfold Oper.wp execOp
 simp only [ho,hx,hy,hr,Sem.run_bind,Result.andThen_ok,Sem.run_pure]
 exact hK _ _ h
end
theorem VRow.setCells {g : Nat} {t : TypeId} : ∀ (vs : List Value) (off : Nat) (w : World) (cs : List Value),VRow w g t cs → off + vs.length ≤ cs.length → VRow (w.setCells g off vs) g t (splice cs off vs)
 | [],off,w,cs,h,_ => by rw [show splice cs off [] = cs by unfold splice; simp]; exact h
 | v :: r,off,w,cs,h,hl => by
   rw [World.setCells]
   have h1 := VRow.setCells r (off + 1) _ _ (h.set off v) (by simpa using (by simp at hl; omega : off + 1 + r.length ≤ cs.length))
   have e : splice (cs.set off v) (off + 1) r = splice cs off (v :: r) := by
    simp at hl
    unfold splice
    rw [List.take_set,List.take_succ_eq_append_getElem (show off < cs.length by omega),List.set_append_right _ _ (by rw [List.length_take]; omega),List.drop_set_of_lt (by omega),List.length_take,show min off cs.length = off by omega,Nat.sub_self]
    simp
    congr 1; omega
   rwa [e] at h1
def ouc (o : Ou) : List Value := .int .i64 o.q :: (cellsI .i64 o.v ++ o.s.flatMap str)
theorem str_len (s : St) : (str s).length = 4 := rfl
theorem strs_len (l : List St) : (l.flatMap str).length = 4 * l.length := by
 induction l with
 | nil => rfl
 | cons a t ih => rw [List.flatMap_cons,List.length_append,ih,str_len,List.length_cons]; omega
theorem ouc_len {o : Ou} (k : Ok o) : (ouc o).length = 41 := by
 unfold ouc; rw [List.length_cons,List.length_append,cellsI_len,strs_len,k.v,k.s]
theorem ouc_one (o : Ou) : ∀ v ∈ ouc o,v.oneCell' = true := by
 intro v hv
 unfold ouc at hv
 rcases List.mem_cons.1 hv with rfl | hv
 · rfl
 · rcases List.mem_append.1 hv with hv | hv
   · exact cellsI_one _ _ v hv
   · obtain ⟨s,_,h⟩ := List.mem_flatMap.1 hv
     simp [str] at h
     rcases h with rfl | rfl | rfl | rfl <;> rfl
theorem ouc_all (o : Ou) : (ouc o).toArray.all (·.oneCell') = true := all_oneCell_toArray (ouc_one o)
theorem ouc_v {o : Ou} (k : Ok o) (i : Nat) (hi : i < 8) : (ouc o)[1 + i]? = some (.int .i64 (o.v.getD i 0)) := by
 unfold ouc
 rw [Nat.add_comm,List.getElem?_cons_succ,List.getElem?_append_left (by rw [cellsI_len,k.v]; exact hi)]
 exact cellsI_get _ _ _ (by rw [k.v]; exact hi)
theorem ouc_s {o : Ou} (k : Ok o) (j : Nat) : (ouc o)[9 + j]? = (o.s.flatMap str)[j]? := by
 unfold ouc
 rw [show 9 + j = (8 + j) + 1 by omega,List.getElem?_cons_succ,List.getElem?_append_right (by rw [cellsI_len,k.v]; omega),cellsI_len,k.v]
 congr 1; omega
theorem str_at : ∀ (l : List St) (i : Nat),i < l.length → ((l.flatMap str).drop (i * 4)).take 4 = str (l.getD i zer)
 | [],i,h => by simp at h
 | a :: t,0,_ => by rw [List.flatMap_cons,Nat.zero_mul,List.drop_zero,List.take_append_of_le_length (by rw [str_len]; omega),List.take_of_length_le (by rw [str_len]; omega)]; rfl
 | a :: t,i + 1,h => by
   rw [List.flatMap_cons,List.drop_append,str_len,List.drop_of_length_le (by rw [str_len]; omega),List.nil_append,show (i + 1) * 4 - 4 = i * 4 by omega,str_at t i (by simpa using h)]; rfl
theorem str_get (l : List St) (i j : Nat) (h : i < l.length) (hj : j < 4) : (l.flatMap str)[i * 4 + j]? = (str (l.getD i zer))[j]? := by
 rw [← str_at l i h,List.getElem?_take_of_lt hj,List.getElem?_drop]
theorem ouc_st {o : Ou} (k : Ok o) (i j : Nat) (hi : i < 8) (hj : j < 4) : (ouc o)[9 + (i * 4 + j)]? = (str (o.s.getD i zer))[j]? := by
 rw [ouc_s k,str_get _ _ _ (by rw [k.s]; exact hi) hj]
section
variable {w : World} {g : Nat} {t : TypeId} {o : Ou}
theorem range_s (h : VRow w g t (ouc o)) (k : Ok o) : w.rangeAt g 9 (o.s.flatMap str) := fun j v hv => VRow.cell h (9 + j) (by rw [ouc_s k]; exact hv)
theorem range_v (h : VRow w g t (ouc o)) : w.rangeAt g 1 (cellsI .i64 o.v) := fun j v hv => VRow.cell h (1 + j) (by
 unfold ouc
 rw [Nat.add_comm,List.getElem?_cons_succ,List.getElem?_append_left (List.getElem?_eq_some_iff.1 hv).1]; exact hv)
theorem range_st (h : VRow w g t (ouc o)) (k : Ok o) (i : Nat) (hi : i < 8) : w.rangeAt g (9 + i * 4) (str (o.s.getD i zer)) := fun j v hv => VRow.cell h (9 + i * 4 + j) (by
 rw [Nat.add_assoc,ouc_st k i j hi (List.getElem?_eq_some_iff.1 hv).1]; exact hv)
theorem range_o (h : VRow w g t (ouc o)) : w.rangeAt g 0 (ouc o) := fun j v hv => VRow.cell h (0 + j) (by rw [Nat.zero_add]; exact hv)
theorem ints_v (h : VRow w g t (ouc o)) (k : Ok o) : IntsAt .i64 w (some ⟨g,1,none⟩) o.v := Or.inr ⟨g,1,rfl,fun i hi => VRow.cell h (1 + i) (ouc_v k i (by rw [k.v] at hi; exact hi))⟩
theorem there_st (h : VRow w g t (ouc o)) (k : Ok o) (i : Nat) (hi : i < 8) : w.there g (9 + i * 4) 4 := fun j hj => ⟨by
 have hl : 9 + i * 4 + j < (ouc o).length := by rw [ouc_len k]; omega
 rw [VRow.cell h _ (List.getElem?_eq_getElem hl)]; rfl,h.frozen _⟩
theorem set_v (k : Ok o) (i : Nat) (hi : i < 8) (x : Int) : (ouc o).set (1 + i) (.int .i64 x) = ouc { o with v := o.v.set i x } := by
 unfold ouc
 rw [Nat.add_comm,List.set_cons_succ,List.set_append_left _ _ (by rw [cellsI_len,k.v]; exact hi),cellsI_set]
theorem splice_app (A B c : List Value) (k : Nat) : splice (A ++ B) (A.length + k) c = A ++ splice B k c := by
 unfold splice
 rw [List.take_length_add_append,Nat.add_assoc,List.drop_length_add_append]
 simp
theorem strs_set : ∀ (l : List St) (i : Nat) (s : St),i < l.length → (l.set i s).flatMap str = splice (l.flatMap str) (i * 4) (str s)
 | [],i,s,h => by simp at h
 | a :: t,0,s,_ => by rw [List.set_cons_zero,List.flatMap_cons,List.flatMap_cons]; unfold splice; rw [Nat.zero_mul,List.take_zero,List.nil_append,str_len,Nat.zero_add,List.drop_append,str_len,List.drop_of_length_le (by rw [str_len]; omega)]; simp
 | a :: t,i + 1,s,h => by
   rw [List.set_cons_succ,List.flatMap_cons,List.flatMap_cons,strs_set t i s (by simpa using h),show (i + 1) * 4 = (str a).length + i * 4 by rw [str_len]; omega,splice_app]
theorem set_s (k : Ok o) (i : Nat) (hi : i < 8) (s : St) : splice (ouc o) (9 + i * 4) (str s) = ouc { o with s := o.s.set i s } := by
 unfold ouc
 rw [strs_set _ _ _ (by rw [k.s]; exact hi),← List.cons_append,← List.cons_append,← splice_app,List.length_cons,cellsI_len,k.v]
theorem set_vs (k : Ok o) (l : List Int) (hl : l.length = 8) : splice (ouc o) 1 (cellsI .i64 l) = ouc { o with v := l } := by
 unfold ouc splice
 rw [cellsI_len,hl,List.take_succ_cons,List.take_zero,show 1 + 8 = 8 + 1 by rfl,List.drop_succ_cons,List.drop_append,cellsI_len,k.v,List.drop_of_length_le (by rw [cellsI_len,k.v]; omega)]
 simp
end
theorem aggO (w : World) : (isAgg 40).run Tryz.prog w = .ok true w := by simp [isAgg,run_underlying Tryz.underlying40]
theorem sizeO {o : Ou} (k : Ok o) : (Tryz.prog.info? 40).map (·.size) = some (ouc o).length := by rw [ouc_len k]; kernel_rfl
theorem sizeV {o : Ou} (k : Ok o) : (Tryz.prog.info? 35).map (·.size) = some (cellsI .i64 o.v).length := by rw [cellsI_len,k.v]; kernel_rfl
theorem sizeSS {o : Ou} (k : Ok o) : (Tryz.prog.info? 38).map (·.size) = some (o.s.flatMap str).length := by rw [strs_len,k.s]; kernel_rfl
theorem size1 (w : World) : (sizeOf 3).run Tryz.prog w = .ok 1 w := by kernel_rfl
theorem size4 (w : World) : (sizeOf 37).run Tryz.prog w = .ok 4 w := by kernel_rfl
theorem index_s {o : Ou} (k : Ok o) (i : Nat) (hi : i < 8) (w : World) : (Instr.index 38 (.agg (o.s.flatMap str).toArray) (.int .i64 (i : Int))).run Tryz.prog w = .ok (.agg (str (o.s.getD i zer)).toArray) w := by
 refine run_index Tryz.underlying38 _ i hi 4 _ (size4 w) ?_
 simp only [part,Sem.run_bind,Ss.aggS,Result.andThen_ok,if_true,size4,Sem.run_pure]
 congr 2
 rw [← str_at _ i (by rw [k.s]; exact hi)]
 simp [List.extract]
theorem index_v {o : Ou} (k : Ok o) (i : Nat) (hi : i < 8) (w : World) : (Instr.index 35 (.agg (cellsI .i64 o.v).toArray) (.int .i64 (i : Int))).run Tryz.prog w = .ok (.int .i64 (o.v.getD i 0)) w := by
 refine run_index Tryz.underlying35 _ i hi 1 _ (size1 w) ?_
 have := cellsI_get .i64 o.v i (by rw [k.v]; exact hi)
 simp [part,isAgg,run_underlying Tryz.underlying3,this]
end Ot
end Go.Proofs.YticidhbnljdidaaGreatDoor
