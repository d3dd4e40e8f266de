/-
 What State of package signal returns, what trip, miss and rule do: contracts by walking the Go text. Conditions: how a signal lies.
 A region that draws its order and writes several times, each write waiting for the one ahead: whatever order is drawn, each place holds its own value at the end, and the writes come in their order. What only reads and calls is walked once, in the order of the text, in whatever world there may be; outside of rounds of a range over a function, and within one. No function of the program is walked here. No conditions beyond those said.
 What the walks of a cycle's steps share: what a round over the channels keeps, what abides the turn of what is no cells. No function of the program is walked here, but through the iterators' contracts. No conditions beyond those said.
 What right of package signal returns: a contract by walking the Go text (a range over the channels with a value). Conditions: how a signal lies.
-/
import Derived.Test.YticidhbnljdidaaGreatDoorJEqualWalks5
import Derived.Test.YticidhbnljdidaaGreatDoorJSignalBound10
import Derived.Test.YticidhbnljdidaaGreatDoorJLate3
import Derived.Test.YticidhbnljdidaaGreatDoorJStuckVote5
import Derived.Test.YticidhbnljdidaaGreatDoorJWordMath6
namespace Go.Proofs.YticidhbnljdidaaGreatDoor
set_option maxRecDepth 100000
open Go.ChangeShapes Go.WideShapes Go.ChangeAt Go.RowKit Go.Deep
namespace Sg
open Cf (G CA)
theorem sizeL' : (Tryz.prog.info? 54).map (·.size) = some 5 := by kernel_rfl
theorem aggL (w : World) : (isAgg 54).run Tryz.prog w = .ok true w := by simp [isAgg,run_underlying Tryz.underlying54]
theorem lav_one' (s : Lc.St) : (lav s).toArray.all (·.oneCell') = true := by simp [lav,Value.oneCell']
theorem state_no {W : World} {b : Nat → Nat} {c : List Int} {s : Si} (hc : c.length = 21) (H : Lie W b c s) (k : Int) (hk : k < 0 ∨ (NN c : Int) ≤ k) :
 Calls Tryz.prog 56 #[.pointer (some ⟨b 0,0,none⟩),.int .i64 k] W fun e w' => e = .returned (.tuple #[.agg (lav Lc.zer).toArray,.bool false]) ∧ Below W.heap.size W w' := by
 have V := Lib.hid (VRow.new W (lav Lc.zer) 54)
 have C := has_any hc (H.keep (But.of_below (S := fun _ => False) ((Below.refl _ W).alloc (Nat.le_refl _) (.cells (lav Lc.zer).toArray 54))) fun _ _ q => q) k
 rw [chan_no hk,show (lav Lc.zer).toArray = #[.bool false,.bool false,.int .i64 0,.int .i64 0,.int .i64 0] from rfl] at C
 clear H hk
 go_enter Tryz.func56,Tryz.ntmps56
 go_wp2_with (first | (go_at_call 98; refine C.mono ?_; rintro e w' ⟨rfl,rfl⟩) | ((with_reducible show wpList _ _ _ (⟨none,.store _ (.tmp 4) _,_,_,_,_⟩ :: _) _ _); refine VB.store rfl _ _ rfl W.heap.size (lav Lc.zer) rfl rfl V.out sizeL' rfl (lav_one' _) ?_))
 refine bodyPost_ret (v := .tuple #[.agg (lav Lc.zer).toArray,.bool false]) ?_ rfl ⟨rfl,Below.put ((Below.refl _ W).alloc (Nat.le_refl _) _) (Nat.le_refl _) _⟩
 exact (VB.ret2 (cs := lav Lc.zer) rfl rfl (aggL _) sizeL' (VRow.put V.out _)).trans rfl
theorem state_yes {W : World} {b : Nat → Nat} {c : List Int} {s : Si} (hc : c.length = 21) (H : Lie W b c s) (k : Nat) (hk : k < NN c) :
 Calls Tryz.prog 56 #[.pointer (some ⟨b 0,0,none⟩),.int .i64 k] W fun e w' => e = .returned (.tuple #[.agg (lav (s.ch k).st).toArray,.bool true]) ∧ Below W.heap.size W w' := by
 have V := Lib.hid (VRow.new W (lav Lc.zer) 54)
 have H1 := H.keep (But.of_below (S := fun _ => False) ((Below.refl _ W).alloc (Nat.le_refl _) (.cells (lav Lc.zer).toArray 54))) fun _ _ q => q
 rw [show (lav Lc.zer).toArray = #[.bool false,.bool false,.int .i64 0,.int .i64 0,.int .i64 0] from rfl] at H1
 have C := has_any hc H1 k
 rw [chan_yes hk] at C
 obtain ⟨cap,h2⟩ := H1.row hc
 have h3 := H1.at hk
 have CH := H1.chs k hk
 have p4 := CH.own.cell 4 (v := .bool (s.ch k).st.la) rfl
 have p5 := CH.own.cell 5 (v := .bool (s.ch k).st.ou) rfl
 have p6 := CH.own.cell 6 (v := .int .i64 (s.ch k).st.st) rfl
 have p7 := CH.own.cell 7 (v := .int .i64 (s.ch k).st.cl) rfl
 have p8 := CH.own.cell 8 (v := .int .i64 (s.ch k).st.bk) rfl
 have hki : (k : Int) < (NN c : Nat) := by omega
 clear H CH H1
 generalize (s.ch k).st = st at *
 generalize b 0 = g at *
 generalize b 2 = ar at *
 generalize xb b k = xx at *
 generalize NN c = N at *
 go_enter Tryz.func56,Tryz.ntmps56
 go_wp2_with (first | (go_at_call 98; refine C.mono ?_; rintro e w' ⟨rfl,rfl⟩) | ((with_reducible show wpList _ _ _ (⟨none,.store _ (.tmp 4) _,_,_,_,_⟩ :: _) _ _); refine VB.store rfl _ _ rfl W.heap.size (lav st) rfl rfl V.out sizeL' rfl (lav_one' _) ?_))
 refine bodyPost_ret (v := .tuple #[.agg (lav st).toArray,.bool true]) ?_ rfl ⟨rfl,Below.put ((Below.refl _ W).alloc (Nat.le_refl _) _) (Nat.le_refl _) _⟩
 exact (VB.ret2 (cs := lav st) rfl rfl (aggL _) sizeL' (VRow.put V.out _)).trans rfl
theorem or_trip {t x : Int} (hx : x = 8 ∨ x = 16 ∨ x = 32) (ht : 0 ≤ t ∧ t < x) : Go.bits .or .i64 t x = t + x := by
 obtain ⟨n,rfl⟩ : ∃ n : Nat,t = n := ⟨t.toNat,by omega⟩
 have h (k : Nat) (hk : n < 2 ^ k) : n ||| 2 ^ k = n + 2 ^ k := by
  have := Nat.two_pow_add_eq_or_of_lt hk 1
  rw [Nat.mul_one] at this
  rw [Nat.or_comm,← this,Nat.add_comm]
 rcases hx with rfl | rfl | rfl
 · have := Cr.or_i64_nat n 8 (by omega) (by omega)
   rw [h 3 (by omega)] at this
   simpa using this
 · have := Cr.or_i64_nat n 16 (by omega) (by omega)
   rw [h 4 (by omega)] at this
   simpa using this
 · have := Cr.or_i64_nat n 32 (by omega) (by omega)
   rw [h 5 (by omega)] at this
   simpa using this
theorem trip_any {W : World} {b : Nat → Nat} {c : List Int} {s : Si} {u : Nat} {r : Nat → Rw} {sh : Int} {T : Nat → Int} {m : Int} (H : Tn W b c s u r sh T m) (i : Nat) (hi : i < 4) (x : Int) (is : Bool) (hx : x = 8 ∨ x = 16 ∨ x = 32) (ht : 0 ≤ T i ∧ T i < x) :
 Calls Tryz.prog 161 #[.pointer (some ⟨u,0,none⟩),.int .i64 i,.int .i64 x,.bool is] W fun e w' => e = .returned (.tuple #[]) ∧ Tn w' b c s u r sh (tup T i (T i + if is = true then x else 0)) m ∧ But (· = u) W w' := by
 have HT := Lib.hid H
 have hii : (i : Int) < 4 := by omega
 cases is
 · have e : tup T i (T i + if false = true then x else 0) = T := by funext k; unfold tup; split <;> simp_all
   rw [e]
   clear H hx ht
   go_enter Tryz.func161,Tryz.ntmps161
   go_wp2
   go_end0
   exact ⟨rfl,HT.out,But.refl _ _⟩
 · have h1 := H.trp hi
   have f1 := H.trn.frozen (10 + i)
   have ho := or_trip hx ht
   have wz : IntKind.i64.wrap (T i + x) = T i + x := IntWalk.i64_in _ (by omega)
   clear H
   have R := Lib.hid (HT.out.trip hi (T i + x))
   rw [show (if true = true then x else 0) = x from rfl]
   clear hx
   generalize T i = t at *
   go_enter Tryz.func161,Tryz.ntmps161
   go_wp2_with fail
   go_region
   go_end0
   exact ⟨rfl,R.out.1.drew,R.out.2.drew⟩
theorem miss_any {W : World} {b : Nat → Nat} {c : List Int} {s : Si} (H : Lie W b c s) (i : Nat) (hi : i < NN c) :
 Calls Tryz.prog 158 #[.pointer (some ⟨xb b i,0,none⟩)] W fun e w' => e = .returned (.tuple #[]) ∧ Chan w' b c i { s.ch i with last := 0,has := false,k := 0 } ∧ But (Of b i) W w' := by
 have C := H.chs i hi
 obtain ⟨n1,n2,n3,n4,n5,n6,n7,n8,n9,n10,n11⟩ := H.five hi
 obtain ⟨la,f1,-⟩ := C.fw
 have h0 := C.own.cell 0 (v := .pointer (some ⟨jb b i,0,none⟩)) rfl
 have CJ := Jp.miss_any _ _ _ _ _ _ W C.jw
 have CF := fun w (o : Only (jb b i) W w) => Sk.miss_any _ _ _ _ w (f1.only o (by omega))
 have HC := Lib.hid C
 have K := Lib.hid (fun w w' (o : Only (jb b i) W w) (t : VRow w (jb b i) 266 (Jp.wat (G c 1) (G c 2) (G c 4) 0 false)) (o' : Only (fb b i) w w') (t' : VRow w' (fb b i) 275 (Sk.wt (b 1) la 0)) =>
  show Chan w' b c i { s.ch i with last := 0,has := false,k := 0 } ∧ But (Of b i) W w' from
   ⟨⟨(C.own.only o (by omega)).only o' (by omega),t.only o' (by omega),⟨la,by simpa using t',Or.inl rfl⟩,(C.fl.only o (by omega)).only o' (by omega),(C.tr.only o (by omega)).only o' (by omega)⟩,
     (o.mono fun k e => Or.inr (Or.inl e)).trans (o'.mono fun k e => Or.inr (Or.inr (Or.inl e)))⟩)
 have hx := fun w (o : Only (jb b i) W w) => (C.own.only o (by omega)).cell 1 (v := .pointer (some ⟨fb b i,0,none⟩)) rfl
 clear C f1 H
 generalize xb b i = x at *
 generalize jb b i = j at *
 generalize fb b i = f at *
 go_enter Tryz.func158,Tryz.ntmps158
 go_wp2_with (go_at_call 192; refine CJ.mono ?_; clear CJ; rintro e w2 ⟨rfl,t2,o2⟩; have h1 := hx w2 o2; have CF2 := CF w2 o2; have T2 := Lib.hid t2; have O2 := Lib.hid o2; clear CF hx t2 o2)
 refine CF2.mono ?_; rintro e w3 ⟨rfl,t3,o3⟩
 go_wp2
 go_end0
 exact ⟨rfl,K.out w2 w3 O2.out T2.out o3 t3⟩
set_option maxHeartbeats 1600000 in
theorem rule_any {W : World} {b : Nat → Nat} {c : List Int} {s : Si} (hc : c.length = 21) (H : Lie W b c s) :
 Calls Tryz.prog 174 #[.pointer (some ⟨b 0,0,none⟩)] W fun e w' => e = .returned (Lc.rlv (G c 13) (G c 14) (G c 15)) ∧ Below W.heap.size W w' := by
 have V := Lib.hid (VRow.new W [.int .i64 0,.int .i64 0,.int .i64 0] 285)
 have H1 := H.keep (But.of_below (S := fun _ => False) ((Below.refl _ W).alloc (Nat.le_refl _) (.cells #[.int .i64 0,.int .i64 0,.int .i64 0] 285))) fun _ _ q => q
 have h1 := H1.cfg hc 13 (by omega)
 have h2 := H1.cfg hc 14 (by omega)
 have h3 := H1.cfg hc 15 (by omega)
 unfold Lc.rlv
 clear H H1
 generalize G c 13 = L at *
 generalize G c 14 = C at *
 generalize G c 15 = B at *
 generalize b 0 = g at *
 go_enter Tryz.func174,Tryz.ntmps174
 go_wp2_with fail
 refine Tail.wp_region_quiet_tail 16 (by kernel_rfl) (by kernel_rfl) ?_
 simp only [List.take_succ_cons,List.take_zero,List.drop_succ_cons,List.drop_zero]
 repeat (go_big_quiet_step (fail))
 refine wpQuiet_nil ?_
 clear h1 h2 h3
 go_wp2_with ((with_reducible show wpList _ _ _ (⟨none,.store _ (.tmp 2) _,_,_,_,_⟩ :: _) _ _); refine VB.store rfl _ _ rfl W.heap.size [.int .i64 L,.int .i64 C,.int .i64 B] rfl rfl V.out.drew (by kernel_rfl) rfl (by simp [Value.oneCell']) ?_)
 refine bodyPost_ret (v := .agg #[.int .i64 L,.int .i64 C,.int .i64 B]) ?_ rfl ⟨rfl,Below.put ((Below.refl _ W).alloc (Nat.le_refl _) _).drew (Nat.le_refl _) _⟩
 exact (VB.ret1 (cs := [.int .i64 L,.int .i64 C,.int .i64 B]) rfl rfl (by simp [isAgg,run_underlying Tryz.underlying285]) (by kernel_rfl) (VRow.put V.out.drew _)).trans rfl
end Sg
namespace Wr
open Lt
open Flow (looks)
def fitsW (l : List Oper) (ss : List Nat) (N : Nat) (NC : List Tmp) (i : Nat) (o : Oper) : Bool :=
 o.guard.isNone && ((o.after.all fun e => !Region.binds .any e || decide (e.on < i)) && ((match o.dst with | some d => decide (d < N) | none => ss.contains i) &&
 ((looks o).all fun t => !(dsts l).contains t || o.after.any fun e => Region.binds .any e && ((l[e.on]?).bind (·.dst) == some t)) &&
 (ss.contains i || (((looks o).all fun t => !NC.contains t) && (match o.dst with | some d => !NC.contains d | none => false)))))
def chainW (l : List Oper) : List Nat → Bool
 | s :: s' :: r => (match l[s']? with | some o => waits o s | none => false) && chainW l (s' :: r)
 | _ => true
def wdsts (l : List Oper) (ss : List Nat) : List Tmp := ss.filterMap fun s => (l[s]?).bind (·.dst)
def writesB (l : List Oper) (ss : List Nat) (N : Nat) (NC : List Tmp) (m : List Bool) : Bool :=
 (l.zipIdx.all fun q => fitsW l ss N NC q.2 q.1) && (decide (dsts l).Nodup && (decide ss.Nodup && (chainW l ss && ((ss.all fun s => decide (s < l.length)) && (((List.range l.length).all fun i => ss.contains i || m.getD i false) && (lexOk N (sel m l) &&
  (Region.noSelect l.toArray && ((wdsts l ss).all fun d => !(dsts (sel m l)).contains d))))))))
section
variable {P : Program} {Q : Exit → Act → World → Prop} {l : List Oper} {ss : List Nat} {N : Nat} {NC : List Tmp} {m0 : List Bool} {a0 a1 aF : Act} {M : Nat → List Value → World → Prop}
theorem waits_iff {o : Oper} {s : Nat} (h : waits o s = true) : ∃ e ∈ o.after,Region.binds .any e = true ∧ e.on = s := by
 unfold waits at h
 rw [Array.any_eq_true'] at h
 obtain ⟨e,he,h⟩ := h
 rw [Bool.and_eq_true,beq_iff_eq] at h
 exact ⟨e,he,h⟩
theorem chain_at : ∀ (ss : List Nat),chainW l ss = true → ∀ k s s',ss[k]? = some s → ss[k + 1]? = some s' → ∃ o,l[s']? = some o ∧ waits o s = true
 | [],_,k,_,_,h,_ => by simp at h
 | [x],_,k,_,_,_,h => by simp at h
 | x :: y :: r,h,0,s,s',h1,h2 => by
   simp at h1 h2
   subst h1; subst h2
   unfold chainW at h
   rw [Bool.and_eq_true] at h
   cases q : l[y]? with
   | none => rw [q] at h; cases h.1
   | some o => rw [q] at h; exact ⟨o,rfl,h.1⟩
 | x :: y :: r,h,k + 1,s,s',h1,h2 => by
   unfold chainW at h
   rw [Bool.and_eq_true] at h
   exact chain_at (y :: r) h.2 k s s' (by simpa using h1) (by simpa using h2)
structure Inv (l : List Oper) (ss : List Nat) (N : Nat) (NC : List Tmp) (M : Nat → List Value → World → Prop) (a0 aF : Act) (hl : Array Bool) (a : Act) (w : World) : Prop where
 size : hl.size = l.length
 frame : a.tmps.size = N
 defers : a.defers = a0.defers
 old : ∀ t,t ∉ dsts l → got a t = got a0 t
 const : ∀ (i : Nat) o d,l[i]? = some o → hl.getD i false = true → o.dst = some d → d ∉ NC → got a d = got aF d
 phase : ∃ k,k ≤ ss.length ∧ M k (NC.map (got a)) w ∧ ∀ (j s : Nat),ss[j]? = some s → (hl.getD s false = true ↔ j < k)
 closed : ∀ s o,s ∈ ss → l[s]? = some o → hl.getD s false = true → ∀ i,waits o i = true → hl.getD i false = true
theorem wp_swap {o : Oper} {a aF : Act} {w : World} {R : Value → World → Prop} (hx : execOp a.eval o = execOp aF.eval o) (hd : ∀ d,o.dst = some d → d < aF.tmps.size)
 (h : o.wp P aF w (fun a' w' => ∃ v,a' = aF.put o.dst v ∧ R v w') (fun _ _ _ => False)) : o.wp P a w (fun a' w' => ∃ v,a' = a.put o.dst v ∧ R v w') Q := by
 unfold Oper.wp at h ⊢
 rw [hx]
 have back : ∀ v w',(∃ v',aF.put o.dst v = aF.put o.dst v' ∧ R v' w') → ∃ v',a.put o.dst v = a.put o.dst v' ∧ R v' w' := by
  rintro v w' ⟨v',e,r⟩
  cases hq : o.dst with
  | none => exact ⟨v',rfl,r⟩
  | some d =>
    rw [hq] at e
    have h1 : got (aF.put (some d) v) d = got (aF.put (some d) v') d := by rw [e]
    rw [got_set (hd d hq),got_set (hd d hq)] at h1
    subst h1
    exact ⟨v,rfl,r⟩
 have no : ¬ LetsOut (fun (_ : Exit) (_ : Act) (_ : World) => False) := by rintro ⟨_,_,h⟩; exact h
 generalize (execOp aF.eval o).run P w = r at *
 cases r with
 | ok n w' =>
   cases n with
   | value v => exact back v w' h
   | skip => exact back _ w' h
   | defer d =>
     obtain ⟨v',e,r⟩ := h
     have := congrArg Act.defers e
     cases hq : o.dst <;> (rw [hq] at this; simp [Act.put] at this)
   | enter f args =>
     refine Calls.mono h ?_
     rintro (v | ch | _) w2 q
     · exact back v w2 q
     · exact q.elim
     · exact (no q).elim
   | row rw args => exact fun c cs => let ⟨v,w2,q,s⟩ := h c cs; ⟨v,w2,back v w2 q,s⟩
   | _ => exact h.elim
 | halt x w' => cases x <;> exact h.elim
theorem wp_noQ {o : Oper} {a : Act} {w : World} {K : Act → World → Prop} (h : o.wp P a w K (fun _ _ _ => False)) : o.wp P a w K Q := by
 unfold Oper.wp at h ⊢
 have no : ¬ LetsOut (fun (_ : Exit) (_ : Act) (_ : World) => False) := by rintro ⟨_,_,h⟩; exact h
 generalize (execOp a.eval o).run P w = r at *
 cases r with
 | ok n w' =>
   cases n with
   | enter f args =>
     refine Calls.mono h ?_
     rintro (v | ch | _) w2 q
     · exact q
     · exact q.elim
     · exact (no q).elim
   | _ => exact h
 | halt x w' => cases x <;> exact h.elim
structure Fit (l : List Oper) (ss : List Nat) (N : Nat) (NC : List Tmp) (m : List Bool) : Prop where
 fit : ∀ (i : Nat) o,l[i]? = some o → fitsW l ss N NC i o = true
 one : (dsts l).Nodup
 once : ss.Nodup
 chain : ∀ k s s',ss[k]? = some s → ss[k + 1]? = some s' → ∃ o,l[s']? = some o ∧ waits o s = true
 lt : ∀ s ∈ ss,s < l.length
 cov : ∀ i,i < l.length → i ∉ ss → m.getD i false = true
 lex : lexOk N (sel m l) = true
 nosel : ∀ o ∈ l,∀ cs b,o.op ≠ .select cs b
 wd : ∀ d ∈ wdsts l ss,d ∉ dsts (sel m l)
theorem fit_of {m : List Bool} (h : writesB l ss N NC m = true) : Fit l ss N NC m := by
 unfold writesB at h
 simp only [Bool.and_eq_true] at h
 obtain ⟨h1,h2,h3,h4,h5,h6,h7,h8,h9⟩ := h
 refine ⟨fun i o ho => List.all_eq_true.1 h1 (o,i) (by rw [List.mem_zipIdx_iff_getElem?]; simpa using ho),of_decide_eq_true h2,of_decide_eq_true h3,chain_at ss h4,fun s hs => by have := List.all_eq_true.1 h5 s hs; simpa using this,fun i hi hn => ?_,h7,fun o ho cs b => ?_,fun d hd => by have := List.all_eq_true.1 h9 d hd; simpa using this⟩
 · have := List.all_eq_true.1 h6 i (List.mem_range.2 hi)
   simpa [hn] using this
 · obtain ⟨j,hj⟩ := List.mem_iff_getElem?.1 ho
   exact Region.noSelect_spec h8 j o cs b (by simpa using hj)
theorem any_writes {m : List Bool} (O : Fit l ss N NC m) (hF : ∀ t,t ∉ dsts l → got aF t = got a0 t) (hfs : aF.tmps.size = N) (hfd : aF.defers = a0.defers)
 (hW : ∀ d ∈ wdsts l ss,d ∉ NC → got aF d = got a1 d) (hMg : ∀ k vs W W',M k vs W → Cl W W' → M k vs W')
 (K0 : Nat) (hq : ∀ k vs W,k ≤ ss.length → M k vs W → ∀ (i : Nat) o,l[i]? = some o → i ∉ ss → (K0 < k → ∀ s p,ss[K0]? = some s → l[s]? = some p → waits p i = false) → ∀ d,o.dst = some d → ∀ w2,Cl W w2 → o.quietAt P aF (Cl W) w2 (got aF d))
 (hw : ∀ (k s : Nat) o,ss[k]? = some s → l[s]? = some o → ∀ a W,a.tmps.size = N → M k (NC.map (got a)) W → (∀ t ∈ looks o,t ∉ NC → got a t = got aF t) →
  o.wp P a W (fun a' W' => ∃ v,a' = a.put o.dst v ∧ (∀ d,o.dst = some d → d ∉ NC → v = got a1 d) ∧ M (k + 1) (NC.map (got a')) W') (fun _ _ _ => False))
 (hend : ∀ vs W,vs.length = NC.length → M ss.length vs W → Q .normal (putAll aF NC vs) W) :
 ∀ (f : Nat) (hl : Array Bool) (a : Act) (w : World),Inv l ss N NC M a0 aF hl a w → hl.toList.count false ≤ f → wpAny P .any l.toArray Q f hl a w := by
 have low : ∀ (i : Nat) o,l[i]? = some o → ∀ e ∈ o.after,Region.binds .any e = true → e.on < i := fun i o ho e he hb => by
  have h := O.fit i o ho
  unfold fitsW at h
  simp only [Bool.and_eq_true] at h
  have := Array.all_eq_true_iff_forall_mem.1 h.2.1 e he
  simpa [hb] using this
 have done : ∀ (hl : Array Bool) (a : Act) (w : World),Inv l ss N NC M a0 aF hl a w → (∀ i,i < l.length → hl.getD i false = true) → Q .normal a w := by
  intro hl a w I hall
  obtain ⟨k,hkl,hM,hk⟩ := I.phase
  have e : putAll aF NC (NC.map (got a)) = a := by
   refine putAll_eq (N := N) I.frame NC aF hfs (by rw [hfd,I.defers]) fun t ht => ?_
   by_cases q : t ∈ dsts l
   · obtain ⟨o,ho,hod⟩ := List.mem_filterMap.1 q
     obtain ⟨j,hj⟩ := List.mem_iff_getElem?.1 ho
     exact (I.const j o t hj (hall j (List.getElem?_eq_some_iff.1 hj).1) hod ht).symm
   · rw [I.old t q,hF t q]
  have hks : k ≥ ss.length := by
   rcases Nat.lt_or_ge k ss.length with q | q
   · have := (hk k _ (List.getElem?_eq_getElem q)).1 (hall _ (O.lt _ (List.getElem_mem q)))
     omega
   · exact q
  have := hend (NC.map (got a)) w (by simp) (by rwa [show ss.length = k by omega])
  rwa [e] at this
 -- the least one that is left is ready
 have some_ready : ∀ (hl : Array Bool),hl.size = l.length → Region.ready .any l.toArray hl = [] → ∀ i,i < l.length → hl.getD i false = true := by
  intro hl hs h0 i
  induction i using Nat.strongRecOn with
  | _ i ih =>
    intro hi
    cases q : hl.getD i false with
    | true => rfl
    | false =>
      have hun : hl.getD i true = false := by
       have hlt : i < hl.size := by omega
       simpa [hlt] using q
      have := (show i ∈ Region.ready .any l.toArray hl from mem_ready.2 ⟨hun,l[i],(by rw [List.getElem?_toArray]; exact List.getElem?_eq_getElem hi),fun e he hb => ih e.on (low i _ (List.getElem?_eq_getElem hi) e he hb) (by have := low i _ (List.getElem?_eq_getElem hi) e he hb; omega)⟩)
      rw [h0] at this; cases this
 intro f
 induction f with
 | zero =>
   intro hl a w I hc
   have hall : ∀ i,i < l.length → hl.getD i false = true := fun i hi => by
    cases q : hl.getD i false with
    | true => rfl
    | false =>
      have hlt : i < hl.size := by rw [I.size]; exact hi
      simp [hlt] at q
      have : false ∈ hl.toList := by rw [← q]; simp
      have := List.count_pos_iff.2 this
      omega
   refine ⟨?_,done hl a w I hall⟩
   cases hr : Region.ready .any l.toArray hl with
   | nil => rfl
   | cons i r =>
     obtain ⟨hun,o,ho,-⟩ := mem_ready.1 (show i ∈ Region.ready .any l.toArray hl by rw [hr]; exact List.mem_cons_self)
     have hi : i < l.length := by simpa using (Array.getElem?_eq_some_iff.1 ho).1
     have h1 := hall i hi
     rw [getD_both hun] at h1; cases h1
 | succ f ih =>
   intro hl a w I hc
   refine ⟨fun hr => done hl a w I (some_ready hl I.size hr),fun i hr => ?_⟩
   obtain ⟨hun,o,ho,hall⟩ := mem_ready.1 hr
   have ho' : l[i]? = some o := by simpa using ho
   have hi : i < l.length := (List.getElem?_eq_some_iff.1 ho').1
   have hil : i < hl.size := by rw [I.size]; exact hi
   have hsf : hl.getD i false = false := getD_both hun
   have hf := O.fit i o ho'
   unfold fitsW at hf
   simp only [Bool.and_eq_true] at hf
   obtain ⟨hg,-,⟨hds,hlk⟩,hnc⟩ := hf
   have hg : o.guard = none := by simpa using hg
   have hcount : (hl.setIfInBounds i true).toList.count false ≤ f := by
    rw [Array.toList_setIfInBounds,List.count_set (by simpa using hil)]
    have hun' : hl[i] = false := by simpa [hil] using hun
    have hp : 0 < hl.toList.count false := List.count_pos_iff.2 (by rw [← hun']; simp)
    have hp' : hl.toList.count false - 1 ≤ f := by omega
    simpa [hun'] using hp'
   have cst : ∀ t ∈ looks o,t ∉ NC → got a t = got aF t := by
    intro t ht hn
    have h := List.all_eq_true.1 hlk t ht
    rw [Bool.or_eq_true] at h
    rcases h with h | h
    · have h : t ∉ dsts l := by simpa using h
      rw [I.old t h,hF t h]
    · rw [Array.any_eq_true'] at h
      obtain ⟨e,he,h⟩ := h
      rw [Bool.and_eq_true,beq_iff_eq] at h
      have hl' := hall e he h.1
      cases hp : l[e.on]? with
      | none => rw [hp] at h; simp at h
      | some p => rw [hp] at h; exact I.const e.on p t hp hl' (by simpa using h.2) hn
   have self : ∀ j,(hl.setIfInBounds i true).getD j false = true → j = i ∨ hl.getD j false = true := fun j h => by
    by_cases q : j = i
    · exact .inl q
    · exact .inr (set_false h q)
   -- what the frame is behind it
   have next : ∀ (v : Value) (w' : World),(∀ d,o.dst = some d → d ∉ NC → v = got aF d) → (∃ k,k ≤ ss.length ∧ M k (NC.map (got (a.put o.dst v))) w' ∧ ∀ (j s : Nat),ss[j]? = some s → ((hl.setIfInBounds i true).getD s false = true ↔ j < k)) →
    (∀ s p,s ∈ ss → l[s]? = some p → (hl.setIfInBounds i true).getD s false = true → ∀ j,waits p j = true → (hl.setIfInBounds i true).getD j false = true) →
    Inv l ss N NC M a0 aF (hl.setIfInBounds i true) (a.put o.dst v) w' := by
    intro v w' hv hp hcl
    cases hd : o.dst with
    | none =>
      rw [hd] at hp
      refine ⟨by simpa using I.size,I.frame,I.defers,I.old,fun j p d h1 h2 h3 h4 => ?_,hp,hcl⟩
      rcases self j h2 with rfl | h2
      · rw [ho'] at h1; cases h1; rw [hd] at h3; cases h3
      · exact I.const j p d h1 h2 h3 h4
    | some d =>
      rw [hd] at hp
      have hdN : d < N := by rw [hd] at hds; simpa using hds
      refine ⟨by simpa using I.size,by simpa [Act.put] using I.frame,I.defers,fun t ht => ?_,fun j p x h1 h2 h3 h4 => ?_,hp,hcl⟩
      · rw [got_put (fun e => ht (by rw [e]; exact mem_dsts ho' hd))]; exact I.old t ht
      · by_cases q : j = i
        · subst q; rw [ho'] at h1; cases h1; rw [hd] at h3; cases h3
          rw [got_set (by rw [I.frame]; exact hdN)]; exact hv d hd h4
        · rw [got_put (fun e => q (dst_one O.one h1 ho' (by rw [← e]; exact h3) hd))]; exact I.const j p x h1 (set_false h2 q) h3 h4
   have hcl : ∀ s p,s ∈ ss → l[s]? = some p → (hl.setIfInBounds i true).getD s false = true → ∀ j,waits p j = true → (hl.setIfInBounds i true).getD j false = true := fun s p hs hp h j hj => by
    rcases self s h with rfl | h
    · rw [ho'] at hp; cases hp
      obtain ⟨e,he,hb,hon⟩ := waits_iff hj
      exact getD_set_true (hon ▸ hall e he hb)
    · exact getD_set_true (I.closed s p hs hp h j hj)
   obtain ⟨k,hkl,hM,hk⟩ := I.phase
   unfold wpOp
   simp only [ho]
   rw [if_pos (show Region.wanted o (yielded l.toArray a.tmps) = true by simp [Region.wanted,hg])]
   refine .inl ?_
   by_cases his : i ∈ ss
   · -- a write: the next one
     obtain ⟨j,hj⟩ := List.mem_iff_getElem?.1 his
     have hjl : j < ss.length := (List.getElem?_eq_some_iff.1 hj).1
     have hkj : k = j := by
      have h1 : ¬ j < k := fun q => by have := (hk j i hj).2 q; rw [hsf] at this; cases this
      rcases Nat.lt_or_ge k j with q | q
      · obtain ⟨s0,hs0⟩ : ∃ s0,ss[j - 1]? = some s0 := ⟨_,List.getElem?_eq_getElem (show j - 1 < ss.length by omega)⟩
        obtain ⟨o2,ho2,hw2⟩ := O.chain (j - 1) s0 i hs0 (by rw [show j - 1 + 1 = j by omega]; exact hj)
        rw [ho'] at ho2; cases ho2
        obtain ⟨e,he,hb,hon⟩ := waits_iff hw2
        have := (hk (j - 1) s0 hs0).1 (hon ▸ hall e he hb)
        omega
      · omega
     subst hkj
     refine Oper.wp_mono ?_ (wp_noQ (hw k i o hj ho' a w I.frame hM cst))
     rintro a' w' ⟨v,rfl,hv,hM'⟩
     refine ih _ _ _ (next v w' (fun d hd hn => ?_) ⟨k + 1,by omega,hM',fun j s hs => ?_⟩ hcl) hcount
     · rw [hv d hd hn]
       exact (hW d (List.mem_filterMap.2 ⟨i,his,by rw [ho']; exact hd⟩) hn).symm
     · by_cases q : s = i
       · subst q
         have hjk : j = k := by
          exact (List.getElem?_inj (List.getElem?_eq_some_iff.1 hs).1 O.once).1 (hs.trans hj.symm)
         subst hjk
         simp [hil]
       · rw [getD_set_ne false (Ne.symm q),hk j s hs]
         have : j ≠ k := fun e => q (by rw [e,hj] at hs; cases hs; rfl)
         omega
   · -- it only reads
     have hnc : (∀ t ∈ looks o,t ∉ NC) ∧ ∃ d,o.dst = some d ∧ d ∉ NC := by
      simp only [Bool.or_eq_true,Bool.and_eq_true] at hnc
      rcases hnc with h | ⟨h1,h2⟩
      · exact absurd (by simpa using h) his
      · refine ⟨fun t ht => by have := List.all_eq_true.1 h1 t ht; simpa using this,?_⟩
        cases hd : o.dst with
        | none => rw [hd] at h2; cases h2
        | some d => rw [hd] at h2; exact ⟨d,rfl,by simpa using h2⟩
     obtain ⟨c1,d,hd,c2⟩ := hnc
     have hx : execOp a.eval o = execOp aF.eval o := execOp_congr o (O.nosel o (List.mem_of_getElem? ho')) (looks_eval fun t ht => cst t ht (c1 t ht))
     refine Oper.wp_of_quiet (C := Cl w) (K := fun a'' => a'' = a.put o.dst (got aF d)) (Cl.of (Below.refl _ _)) ?_ ⟨got aF d,fun w2 h2 => ?_,rfl⟩
     · rintro a' w' hc' rfl
       have same : NC.map (got (a.put o.dst (got aF d))) = NC.map (got a) := by
        rw [hd]; exact List.map_congr_left fun t ht => got_put (fun e => c2 (e ▸ ht))
       refine ih _ _ _ (next (got aF d) w' (fun d' hd' _ => by rw [hd] at hd'; cases hd'; rfl) ⟨k,hkl,by rw [same]; exact hMg k _ w w' hM hc',fun j s hs => ?_⟩ hcl) hcount
       rw [getD_set_ne false (fun e => his (by rw [e]; exact List.mem_of_getElem? hs)),hk j s hs]
     · have := hq k _ w hkl hM i o ho' his (fun hK s p hs hp => by
        cases q : waits p i with
        | false => rfl
        | true =>
          have := I.closed s p (List.mem_of_getElem? hs) hp ((hk K0 s hs).2 hK) i q
          rw [hsf] at this; cases this) d hd w2 h2
       unfold Oper.quietAt at this ⊢
       rw [hx]
       exact this
def lateK (l : List Oper) (ss : List Nat) (K0 N : Nat) (m2 : List Bool) : Bool :=
 lexOk N (sel m2 l) && ((List.range l.length).all fun i => ss.contains i || (m2.getD i false || (ss[K0]?).any fun s => (l[s]?).any fun p => waits p i))
theorem lateK_of {K0 : Nat} {m2 : List Bool} (h : lateK l ss K0 N m2 = true) : lexOk N (sel m2 l) = true ∧ ∀ (i : Nat) o,l[i]? = some o → i ∉ ss → (∀ s p,ss[K0]? = some s → l[s]? = some p → waits p i = false) → m2.getD i false = true := by
 unfold lateK at h
 rw [Bool.and_eq_true] at h
 refine ⟨h.1,fun i o ho hi hf => ?_⟩
 have := List.all_eq_true.1 h.2 i (List.mem_range.2 (List.getElem?_eq_some_iff.1 ho).1)
 simp only [Bool.or_eq_true] at this
 rcases this with q | q | q
 · exact absurd (by simpa using q) hi
 · exact q
 · cases hs : ss[K0]? with
   | none => rw [hs] at q; cases q
   | some s =>
     rw [hs] at q
     cases hp : l[s]? with
     | none => simp [hp] at q
     | some p => simp [hp] at q; rw [hf s p hs hp] at q; cases q
theorem lateK_all (h : lexOk N (sel m0 l) = true) (hc : ∀ i,i < l.length → i ∉ ss → m0.getD i false = true) : lateK l ss ss.length N m0 = true := by
 unfold lateK
 rw [Bool.and_eq_true]
 refine ⟨h,List.all_eq_true.2 fun i hi => ?_⟩
 by_cases q : i ∈ ss
 · simp [q]
 · rw [hc i (List.mem_range.1 hi) q]; simp
theorem any_region2 {a w} (NC : List Tmp) (ss : List Nat) (N K0 : Nat) (m m2 : List Bool) (M : Nat → List Value → World → Prop) (C : World → Prop) (a1 : Act) {aF : Act} (hB : writesB l ss N NC m = true)
 (ha : a.tmps.size = N) (ha1 : a1.tmps.size = N ∧ a1.defers = a.defers) (hold : ∀ t,t ∉ wdsts l ss → got a1 t = got a t)
 (hK : lateK l ss K0 N m2 = true) (hMC : ∀ k vs W,k ≤ K0 → M k vs W → C W) (hMg : ∀ k vs W W',M k vs W → Cl W W' → M k vs W') (h0 : M 0 (NC.map (got a)) w)
 (hq : ∀ W,C W → wpQuiet P l.toArray (Cl W) (fun a' => a' = aF) (sel m l) a1)
 (hq2 : ∀ k vs W,K0 < k → k ≤ ss.length → M k vs W → wpQuiet P l.toArray (Cl W) (fun a' => a' = aF) (sel m2 l) aF)
 (hw : ∀ (k s : Nat) o,ss[k]? = some s → l[s]? = some o → ∀ a W,a.tmps.size = N → M k (NC.map (got a)) W → (∀ t ∈ looks o,t ∉ NC → got a t = got aF t) →
  o.wp P a W (fun a' W' => ∃ v,a' = a.put o.dst v ∧ (∀ d,o.dst = some d → d ∉ NC → v = got a1 d) ∧ M (k + 1) (NC.map (got a')) W') (fun _ _ _ => False))
 (hend : ∀ vs W,vs.length = NC.length → M ss.length vs W → Q .normal (putAll aF NC vs) W) : wpAny P .any l.toArray Q l.toArray.size (Array.replicate l.toArray.size false) a w := by
 have O := fit_of hB
 have facts : ∀ W,C W → _ := fun W hW => lex_facts (sel m l) a1 (fun o ho => O.nosel o (sel_sub m _ o ho)) O.lex ha1.1 (hq W hW)
 obtain ⟨f1,f2,f3,-⟩ := facts w (hMC 0 _ _ (by omega) h0)
 refine any_writes (a0 := a) (a1 := a1) O (fun t ht => ?_) f1 (by rw [f2,ha1.2]) (fun d hd _ => f3 d (O.wd d hd)) hMg K0 (fun k vs W hkl hM i o ho his hfree d hd w2 h2 => ?_) hw hend _ _ a w ?_ (by simp)
 · rw [f3 t (fun q => ht (dsts_sub m l t q)),hold t fun q => ht ?_]
   obtain ⟨s,hs,h⟩ := List.mem_filterMap.1 q
   cases hp : l[s]? with
   | none => rw [hp] at h; cases h
   | some p => rw [hp] at h; exact mem_dsts hp h
 · rcases Nat.lt_or_ge K0 k with hlt | hge
   · obtain ⟨l1,l2⟩ := lateK_of hK
     have hm2 := l2 i o ho his fun s p hs hp => hfree hlt s p hs hp
     exact (lex_facts (sel m2 l) aF (fun o ho => O.nosel o (sel_sub m2 _ o ho)) l1 f1 (hq2 k vs W hlt hkl hM)).2.2.2 o (mem_sel m2 l i o ho hm2) d hd w2 h2
   · exact (facts W (hMC k _ _ hge hM)).2.2.2 o (mem_sel m l i o ho (O.cov i (List.getElem?_eq_some_iff.1 ho).1 his)) d hd w2 h2
 · exact ⟨by simp,ha,rfl,fun _ _ => rfl,fun i o d _ h => (by rw [getD_replicate_false] at h; cases h),⟨0,by omega,h0,fun j s _ => ⟨fun h => (by rw [getD_replicate_false] at h; cases h),fun h => by omega⟩⟩,fun s p _ _ h => (by rw [getD_replicate_false] at h; cases h)⟩
theorem any_region {a w} (NC : List Tmp) (ss : List Nat) (N : Nat) (m : List Bool) (M : Nat → List Value → World → Prop) (C : World → Prop) (a1 : Act) {aF : Act} (hB : writesB l ss N NC m = true)
 (ha : a.tmps.size = N) (ha1 : a1.tmps.size = N ∧ a1.defers = a.defers) (hold : ∀ t,t ∉ wdsts l ss → got a1 t = got a t)
 (hMC : ∀ k vs W,M k vs W → C W) (hMg : ∀ k vs W W',M k vs W → Cl W W' → M k vs W') (h0 : M 0 (NC.map (got a)) w)
 (hq : ∀ W,C W → wpQuiet P l.toArray (Cl W) (fun a' => a' = aF) (sel m l) a1)
 (hw : ∀ (k s : Nat) o,ss[k]? = some s → l[s]? = some o → ∀ a W,a.tmps.size = N → M k (NC.map (got a)) W → (∀ t ∈ looks o,t ∉ NC → got a t = got aF t) →
  o.wp P a W (fun a' W' => ∃ v,a' = a.put o.dst v ∧ (∀ d,o.dst = some d → d ∉ NC → v = got a1 d) ∧ M (k + 1) (NC.map (got a')) W') (fun _ _ _ => False))
 (hend : ∀ vs W,vs.length = NC.length → M ss.length vs W → Q .normal (putAll aF NC vs) W) : wpAny P .any l.toArray Q l.toArray.size (Array.replicate l.toArray.size false) a w :=
 any_region2 NC ss N ss.length m m M C a1 hB ha ha1 hold (lateK_all (fit_of hB).lex (fit_of hB).cov) (fun k vs W _ => hMC k vs W) hMg h0 hq (fun k _ _ h1 h2 => by omega) hw hend
theorem wp_region_writes {id : Nat} {a w} (NC : List Tmp) (ss : List Nat) (N : Nat) (m : List Bool) (M : Nat → List Value → World → Prop) (C : World → Prop) (a1 : Act) {aF : Act} (hm : P.follows .mixedOrders = true) (hB : writesB l ss N NC m = true)
 (ha : a.tmps.size = N) (ha1 : a1.tmps.size = N ∧ a1.defers = a.defers) (hold : ∀ t,t ∉ wdsts l ss → got a1 t = got a t)
 (hMC : ∀ k vs W,M k vs W → C W) (hMg : ∀ k vs W W',M k vs W → Cl W W' → M k vs W') (h0 : M 0 (NC.map (got a)) w)
 (hq : ∀ W,C W → wpQuiet P l.toArray (Cl W) (fun a' => a' = aF) (sel m l) a1)
 (hw : ∀ (k s : Nat) o,ss[k]? = some s → l[s]? = some o → ∀ a W,a.tmps.size = N → M k (NC.map (got a)) W → (∀ t ∈ looks o,t ∉ NC → got a t = got aF t) →
  o.wp P a W (fun a' W' => ∃ v,a' = a.put o.dst v ∧ (∀ d,o.dst = some d → d ∉ NC → v = got a1 d) ∧ M (k + 1) (NC.map (got a')) W') (fun _ _ _ => False))
 (hend : ∀ vs W,vs.length = NC.length → M ss.length vs W → Q .normal (putAll aF NC vs) W) : (Code.region id l.toArray true).wp P Q a w :=
 wp_region_any hm (any_region NC ss N m M C a1 hB ha ha1 hold hMC hMg (hMg _ _ w _ h0 (Cl.of (Below.refl _ w).drew)) hq hw hend)
theorem wpIn_region_writes {lp mm : Nat} {id : Nat} {a w} (NC : List Tmp) (ss : List Nat) (N : Nat) (m : List Bool) (M : Nat → List Value → World → Prop) (C : World → Prop) (a1 : Act) {aF : Act} (hm : P.follows .mixedOrders = true) (hB : writesB l ss N NC m = true) (hc : Rn.calm l = true) (hL : ¬ LetsOut Q)
 (ha : a.tmps.size = N) (ha1 : a1.tmps.size = N ∧ a1.defers = a.defers) (hold : ∀ t,t ∉ wdsts l ss → got a1 t = got a t)
 (hMC : ∀ k vs W,M k vs W → C W) (hMg : ∀ k vs W W',M k vs W → Cl W W' → M k vs W') (h0 : M 0 (NC.map (got a)) w)
 (hq : ∀ W,C W → wpQuiet P l.toArray (Cl W) (fun a' => a' = aF) (sel m l) a1)
 (hw : ∀ (k s : Nat) o,ss[k]? = some s → l[s]? = some o → ∀ a W,a.tmps.size = N → M k (NC.map (got a)) W → (∀ t ∈ looks o,t ∉ NC → got a t = got aF t) →
  o.wp P a W (fun a' W' => ∃ v,a' = a.put o.dst v ∧ (∀ d,o.dst = some d → d ∉ NC → v = got a1 d) ∧ M (k + 1) (NC.map (got a')) W') (fun _ _ _ => False))
 (hend : ∀ vs W,vs.length = NC.length → M ss.length vs W → Q .normal (putAll aF NC vs) W) : (Code.region id l.toArray true).wpIn (Fence.wide.inRound lp) mm P Q a w :=
 wpIn_region_any hm (Rn.any_in (Rn.calm_of hc) hL _ _ _ _ (any_region NC ss N m M C a1 hB ha ha1 hold hMC hMg (hMg _ _ w _ h0 (Cl.of (Below.refl _ w).drew)) hq hw hend))
theorem wp_region_writes2 {id : Nat} {a w} (NC : List Tmp) (ss : List Nat) (N K0 : Nat) (m m2 : List Bool) (M : Nat → List Value → World → Prop) (C : World → Prop) (a1 : Act) {aF : Act} (hm : P.follows .mixedOrders = true) (hB : writesB l ss N NC m = true) (hK : lateK l ss K0 N m2 = true) 
 (ha : a.tmps.size = N) (ha1 : a1.tmps.size = N ∧ a1.defers = a.defers) (hold : ∀ t,t ∉ wdsts l ss → got a1 t = got a t)
 (hMC : ∀ k vs W,k ≤ K0 → M k vs W → C W) (hMg : ∀ k vs W W',M k vs W → Cl W W' → M k vs W') (h0 : M 0 (NC.map (got a)) w)
 (hq : ∀ W,C W → wpQuiet P l.toArray (fun w' => ∃ p : Regrown,w' = Sort.grow (redrawn W p.d) p.os) (fun a' => a' = aF) (sel m l) a1)
 (hq2 : ∀ k vs W,K0 < k → k ≤ ss.length → M k vs W → wpQuiet P l.toArray (fun w' => ∃ p : Regrown,w' = Sort.grow (redrawn W p.d) p.os) (fun a' => a' = aF) (sel m2 l) aF)
 (hw : ∀ (k s : Nat) o,ss[k]? = some s → l[s]? = some o → ∀ a W,a.tmps.size = N → M k (NC.map (got a)) W → (∀ t ∈ looks o,t ∉ NC → got a t = got aF t) →
  o.wp P a W (fun a' W' => ∃ v,a' = a.put o.dst v ∧ (∀ d,o.dst = some d → d ∉ NC → v = got a1 d) ∧ M (k + 1) (NC.map (got a')) W') (fun _ _ _ => False))
 (hend : ∀ vs W,vs.length = NC.length → M ss.length vs W → Q .normal (putAll aF NC vs) W) : (Code.region id l.toArray true).wp P Q a w :=
 wp_region_any hm (any_region2 NC ss N K0 m m2 M C a1 hB ha ha1 hold hK hMC hMg (hMg _ _ w _ h0 (Cl.of (Below.refl _ w).drew)) hq hq2 hw hend)
theorem wpIn_region_writes2 {lp mm : Nat} {id : Nat} {a w} (NC : List Tmp) (ss : List Nat) (N K0 : Nat) (m m2 : List Bool) (M : Nat → List Value → World → Prop) (C : World → Prop) (a1 : Act) {aF : Act} (hm : P.follows .mixedOrders = true) (hB : writesB l ss N NC m = true) (hK : lateK l ss K0 N m2 = true) (hc : Rn.calm l = true) (hL : ¬ LetsOut Q)
 (ha : a.tmps.size = N) (ha1 : a1.tmps.size = N ∧ a1.defers = a.defers) (hold : ∀ t,t ∉ wdsts l ss → got a1 t = got a t)
 (hMC : ∀ k vs W,k ≤ K0 → M k vs W → C W) (hMg : ∀ k vs W W',M k vs W → Cl W W' → M k vs W') (h0 : M 0 (NC.map (got a)) w)
 (hq : ∀ W,C W → wpQuiet P l.toArray (fun w' => ∃ p : Regrown,w' = Sort.grow (redrawn W p.d) p.os) (fun a' => a' = aF) (sel m l) a1)
 (hq2 : ∀ k vs W,K0 < k → k ≤ ss.length → M k vs W → wpQuiet P l.toArray (fun w' => ∃ p : Regrown,w' = Sort.grow (redrawn W p.d) p.os) (fun a' => a' = aF) (sel m2 l) aF)
 (hw : ∀ (k s : Nat) o,ss[k]? = some s → l[s]? = some o → ∀ a W,a.tmps.size = N → M k (NC.map (got a)) W → (∀ t ∈ looks o,t ∉ NC → got a t = got aF t) →
  o.wp P a W (fun a' W' => ∃ v,a' = a.put o.dst v ∧ (∀ d,o.dst = some d → d ∉ NC → v = got a1 d) ∧ M (k + 1) (NC.map (got a')) W') (fun _ _ _ => False))
 (hend : ∀ vs W,vs.length = NC.length → M ss.length vs W → Q .normal (putAll aF NC vs) W) : (Code.region id l.toArray true).wpIn (Fence.wide.inRound lp) mm P Q a w :=
 wpIn_region_any hm (Rn.any_in (Rn.calm_of hc) hL _ _ _ _ (any_region2 NC ss N K0 m m2 M C a1 hB ha ha1 hold hK hMC hMg (hMg _ _ w _ h0 (Cl.of (Below.refl _ w).drew)) hq hq2 hw hend))
theorem duty_at {a1 aF : Act} {Mw : Nat → World → Prop} (hB : writesB l ss N [] m0 = true) (hfs : aF.tmps.size = N)
 (hw : ∀ (k s : Nat) o,ss[k]? = some s → l[s]? = some o → ∀ W,Mw k W → o.wp P aF W (fun a' W' => ∃ v,a' = aF.put o.dst v ∧ (∀ d,o.dst = some d → v = got a1 d) ∧ Mw (k + 1) W') (fun _ _ _ => False)) :
 ∀ (k s : Nat) o,ss[k]? = some s → l[s]? = some o → ∀ a W,a.tmps.size = N → Mw k W → (∀ t ∈ looks o,t ∉ ([] : List Tmp) → got a t = got aF t) →
   o.wp P a W (fun a' W' => ∃ v,a' = a.put o.dst v ∧ (∀ d,o.dst = some d → d ∉ ([] : List Tmp) → v = got a1 d) ∧ Mw (k + 1) W') (fun _ _ _ => False) := fun k s o hs ho a W _ hM hl => by
 have O := fit_of hB
 have hd : ∀ d,o.dst = some d → d < aF.tmps.size := fun d h => by
  have := O.fit s o ho
  unfold fitsW at this
  simp only [Bool.and_eq_true] at this
  have := this.2.2.1.1
  rw [h] at this
  rw [hfs]; simpa using this
 refine Oper.wp_mono ?_ (wp_swap (R := fun v W' => (∀ d,o.dst = some d → v = got a1 d) ∧ Mw (k + 1) W') (execOp_congr o (O.nosel o (List.mem_of_getElem? ho)) (looks_eval fun t ht => hl t ht (by simp))) hd (hw k s o hs ho W hM))
 rintro a' W' ⟨v,h1,h2,h3⟩
 exact ⟨v,h1,fun d hd _ => h2 d hd,h3⟩
theorem size_at {a1 aF : Act} {C : World → Prop} {w : World} (hB : writesB l ss N NC m0 = true) (ha1 : a1.tmps.size = N) (h0 : C w) (hq : ∀ W,C W → wpQuiet P l.toArray (Cl W) (fun a' => a' = aF) (sel m0 l) a1) : aF.tmps.size = N :=
 have O := fit_of hB
 (lex_facts (sel m0 l) a1 (fun o ho => O.nosel o (sel_sub m0 _ o ho)) O.lex ha1 (hq w h0)).1
theorem wp_region_writes0 {id : Nat} {a w} (ss : List Nat) (N : Nat) (m : List Bool) (M : Nat → World → Prop) (C : World → Prop) (a1 : Act) {aF : Act} (hm : P.follows .mixedOrders = true) (hB : writesB l ss N [] m = true)
 (ha : a.tmps.size = N) (ha1 : a1.tmps.size = N ∧ a1.defers = a.defers) (hold : ∀ t,t ∉ wdsts l ss → got a1 t = got a t)
 (hMC : ∀ k W,M k W → C W) (hMg : ∀ k W W',M k W → Cl W W' → M k W') (h0 : M 0 w)
 (hq : ∀ W,C W → wpQuiet P l.toArray (Cl W) (fun a' => a' = aF) (sel m l) a1)
 (hw : ∀ (k s : Nat) o,ss[k]? = some s → l[s]? = some o → ∀ W,M k W → o.wp P aF W (fun a' W' => ∃ v,a' = aF.put o.dst v ∧ (∀ d,o.dst = some d → v = got a1 d) ∧ M (k + 1) W') (fun _ _ _ => False))
 (hend : ∀ W,M ss.length W → Q .normal aF W) : (Code.region id l.toArray true).wp P Q a w :=
 wp_region_writes [] ss N m (fun k _ W => M k W) C a1 hm hB ha ha1 hold (fun k _ W => hMC k W) (fun k _ W W' => hMg k W W') h0 hq (duty_at hB (size_at hB ha1.1 (hMC _ _ h0) hq) hw) (fun vs W h hM => by
  obtain rfl : vs = [] := List.length_eq_zero_iff.1 h
  exact hend W hM)
theorem wpIn_region_writes0 {lp mm : Nat} {id : Nat} {a w} (ss : List Nat) (N : Nat) (m : List Bool) (M : Nat → World → Prop) (C : World → Prop) (a1 : Act) {aF : Act} (hm : P.follows .mixedOrders = true) (hB : writesB l ss N [] m = true) (hc : Rn.calm l = true) (hL : ¬ LetsOut Q)
 (ha : a.tmps.size = N) (ha1 : a1.tmps.size = N ∧ a1.defers = a.defers) (hold : ∀ t,t ∉ wdsts l ss → got a1 t = got a t)
 (hMC : ∀ k W,M k W → C W) (hMg : ∀ k W W',M k W → Cl W W' → M k W') (h0 : M 0 w)
 (hq : ∀ W,C W → wpQuiet P l.toArray (Cl W) (fun a' => a' = aF) (sel m l) a1)
 (hw : ∀ (k s : Nat) o,ss[k]? = some s → l[s]? = some o → ∀ W,M k W → o.wp P aF W (fun a' W' => ∃ v,a' = aF.put o.dst v ∧ (∀ d,o.dst = some d → v = got a1 d) ∧ M (k + 1) W') (fun _ _ _ => False))
 (hend : ∀ W,M ss.length W → Q .normal aF W) : (Code.region id l.toArray true).wpIn (Fence.wide.inRound lp) mm P Q a w :=
 wpIn_region_writes [] ss N m (fun k _ W => M k W) C a1 hm hB hc hL ha ha1 hold (fun k _ W => hMC k W) (fun k _ W W' => hMg k W W') h0 hq (duty_at hB (size_at hB ha1.1 (hMC _ _ h0) hq) hw) (fun vs W h hM => by
  obtain rfl : vs = [] := List.length_eq_zero_iff.1 h
  exact hend W hM)
theorem hold1 {a : Act} {d : Tmp} {v : Value} (h : wdsts l ss = [d]) : ∀ t,t ∉ wdsts l ss → got (a.put (some d) v) t = got a t := fun t ht => got_put fun e => ht (by rw [h,e]; simp)
theorem hold0 {a : Act} : ∀ t,t ∉ wdsts l ss → got a t = got a t := fun _ _ => rfl
theorem wp_fn {o : Oper} {a : Act} {W : World} {K : Act → World → Prop} {f : FuncId} {args : Array Value} {R : Ending → World → Prop} (hx : (execOp a.eval o).run P W = .ok (.enter f args) W) (h : Calls P f args W R)
 (hR : ∀ e W',R e W' → ∃ v,e = .returned v ∧ K (a.put o.dst v) W') : o.wp P a W K Q := by
 unfold Oper.wp
 rw [hx]
 refine Calls.mono h ?_
 intro e W' q
 obtain ⟨v,rfl,hk⟩ := hR e W' q
 exact hk
theorem wp_w0 {id : Nat} {a w} (ss : List Nat) (N : Nat) (m : List Bool) (M : Nat → World → Prop) (C : World → Prop) {aF : Act} (hm : P.follows .mixedOrders = true) (hB : writesB l ss N [] m = true) (hwd : wdsts l ss = []) 
 (ha : a.tmps.size = N) (hMC : ∀ k W,M k W → C W) (hMg : ∀ k W W',M k W → Cl W W' → M k W') (h0 : M 0 w) (hq : ∀ W,C W → wpQuiet P l.toArray (fun w' => ∃ p : Regrown,w' = Sort.grow (redrawn W p.d) p.os) (fun a' => a' = aF) (sel m l) a)
 (hw : ∀ (k s : Nat) o,ss[k]? = some s → l[s]? = some o → ∀ W,M k W → o.wp P aF W (fun a' W' => ∃ v',a' = aF.put o.dst v' ∧ True ∧ M (k + 1) W') (fun _ _ _ => False))
 (hend : ∀ W,M ss.length W → Q .normal aF W) : (Code.region id l.toArray true).wp P Q a w :=
 wp_region_writes0 ss N m M C a hm hB ha ⟨ha,rfl⟩ hold0 hMC hMg h0 hq (fun k s o hs ho W hM => Oper.wp_mono (fun _ _ q => by
  obtain ⟨v',h1,h2,h3⟩ := q
  refine ⟨v',h1,fun x hx => ?_,h3⟩
  have hm : x ∈ wdsts l ss := List.mem_filterMap.2 ⟨s,List.mem_of_getElem? hs,by rw [ho]; exact hx⟩
  rw [hwd] at hm
  cases hm) (hw k s o hs ho W hM)) hend
theorem wp_w1 {id : Nat} {a w} (ss : List Nat) (N : Nat) (m : List Bool) (d : Tmp) (v : Value) (M : Nat → World → Prop) (C : World → Prop) {aF : Act} (hm : P.follows .mixedOrders = true) (hB : writesB l ss N [] m = true) (hwd : wdsts l ss = [d]) 
 (ha : a.tmps.size = N) (hMC : ∀ k W,M k W → C W) (hMg : ∀ k W W',M k W → Cl W W' → M k W') (h0 : M 0 w) (hq : ∀ W,C W → wpQuiet P l.toArray (fun w' => ∃ p : Regrown,w' = Sort.grow (redrawn W p.d) p.os) (fun a' => a' = aF) (sel m l) (a.put (some d) v))
 (hw : ∀ (k s : Nat) o,ss[k]? = some s → l[s]? = some o → ∀ W,M k W → o.wp P aF W (fun a' W' => ∃ v',a' = aF.put o.dst v' ∧ (∀ x,o.dst = some x → x = d → v' = v) ∧ M (k + 1) W') (fun _ _ _ => False))
 (hend : ∀ W,M ss.length W → Q .normal aF W) : (Code.region id l.toArray true).wp P Q a w :=
 wp_region_writes0 ss N m M C (a.put (some d) v) hm hB ha ⟨by simpa [Act.put] using ha,rfl⟩ (hold1 hwd) hMC hMg h0 hq (fun k s o hs ho W hM => Oper.wp_mono (fun _ _ q => by
  obtain ⟨v',h1,h2,h3⟩ := q
  refine ⟨v',h1,fun x hx => ?_,h3⟩
  have hm : x ∈ wdsts l ss := List.mem_filterMap.2 ⟨s,List.mem_of_getElem? hs,by rw [ho]; exact hx⟩
  rw [hwd] at hm
  obtain rfl := List.mem_singleton.1 hm
  have hd : x < a.tmps.size := by
   have := (fit_of hB).fit s o ho
   unfold fitsW at this
   simp only [Bool.and_eq_true] at this
   have := this.2.2.1.1
   rw [hx] at this
   rw [ha]; simpa using this
  rw [h2 x hx rfl,got_set hd]) (hw k s o hs ho W hM)) hend
theorem wpIn_w1 {lp mm : Nat} {id : Nat} {a w} (ss : List Nat) (N : Nat) (m : List Bool) (d : Tmp) (v : Value) (M : Nat → World → Prop) (C : World → Prop) {aF : Act} (hm : P.follows .mixedOrders = true) (hB : writesB l ss N [] m = true) (hwd : wdsts l ss = [d]) (hc : Rn.calm l = true) (hL : ¬ LetsOut Q) 
 (ha : a.tmps.size = N) (hMC : ∀ k W,M k W → C W) (hMg : ∀ k W W',M k W → Cl W W' → M k W') (h0 : M 0 w) (hq : ∀ W,C W → wpQuiet P l.toArray (fun w' => ∃ p : Regrown,w' = Sort.grow (redrawn W p.d) p.os) (fun a' => a' = aF) (sel m l) (a.put (some d) v))
 (hw : ∀ (k s : Nat) o,ss[k]? = some s → l[s]? = some o → ∀ W,M k W → o.wp P aF W (fun a' W' => ∃ v',a' = aF.put o.dst v' ∧ (∀ x,o.dst = some x → x = d → v' = v) ∧ M (k + 1) W') (fun _ _ _ => False))
 (hend : ∀ W,M ss.length W → Q .normal aF W) : (Code.region id l.toArray true).wpIn (Fence.wide.inRound lp) mm P Q a w :=
 wpIn_region_writes0 ss N m M C (a.put (some d) v) hm hB hc hL ha ⟨by simpa [Act.put] using ha,rfl⟩ (hold1 hwd) hMC hMg h0 hq (fun k s o hs ho W hM => Oper.wp_mono (fun _ _ q => by
  obtain ⟨v',h1,h2,h3⟩ := q
  refine ⟨v',h1,fun x hx => ?_,h3⟩
  have hm : x ∈ wdsts l ss := List.mem_filterMap.2 ⟨s,List.mem_of_getElem? hs,by rw [ho]; exact hx⟩
  rw [hwd] at hm
  obtain rfl := List.mem_singleton.1 hm
  have hd : x < a.tmps.size := by
   have := (fit_of hB).fit s o ho
   unfold fitsW at this
   simp only [Bool.and_eq_true] at this
   have := this.2.2.1.1
   rw [hx] at this
   rw [ha]; simpa using this
  rw [h2 x hx rfl,got_set hd]) (hw k s o hs ho W hM)) hend
theorem got_putAll_not : ∀ (NC : List Tmp) (vs : List Value) (a : Act) (t : Tmp),t ∉ NC → got (putAll a NC vs) t = got a t
 | [],_,_,_,_ => rfl
 | _ :: _,[],_,_,_ => rfl
 | x :: NC,v :: vs,a,t,h => by
   have := got_putAll_not NC vs (a.put (some x) v) t (fun q => h (List.mem_cons_of_mem _ q))
   rw [got_put (fun e => h (by rw [e]; exact List.mem_cons_self))] at this
   exact this
theorem size_putAll : ∀ (NC : List Tmp) (vs : List Value) (a : Act),(putAll a NC vs).tmps.size = a.tmps.size
 | [],_,_ => rfl
 | _ :: _,[],_ => rfl
 | x :: NC,v :: vs,a => by
   exact (size_putAll NC vs (a.put (some x) v)).trans (by simp [Act.put])
theorem got_putAll (b : Act) : ∀ (NC : List Tmp) (a : Act),NC.Nodup → (∀ t ∈ NC,t < a.tmps.size) → ∀ t ∈ NC,got (putAll a NC (NC.map (got b))) t = got b t
 | x :: NC,a,hn,hs,t,ht => by
   have hn := List.nodup_cons.1 hn
   have e : putAll a (x :: NC) ((x :: NC).map (got b)) = putAll (a.put (some x) (got b x)) NC (NC.map (got b)) := rfl
   rw [e]
   by_cases q : t ∈ NC
   · exact got_putAll b NC _ hn.2 (fun u hu => by have := hs u (List.mem_cons_of_mem _ hu); simpa [Act.put] using this) t q
   · obtain rfl : t = x := by
      rcases List.mem_cons.1 ht with h | h
      · exact h
      · exact absurd h q
     rw [got_putAll_not _ _ _ _ q,got_set (hs t List.mem_cons_self)]
theorem duty_nc {a1 aF : Act} (hB : writesB l ss N NC m0 = true) (hNC : NC.Nodup ∧ ∀ t ∈ NC,t < N) (hfs : aF.tmps.size = N)
 (hw : ∀ (k s : Nat) o,ss[k]? = some s → l[s]? = some o → ∀ vs W,vs.length = NC.length → M k vs W →
  o.wp P (putAll aF NC vs) W (fun a' W' => ∃ v,a' = (putAll aF NC vs).put o.dst v ∧ (∀ d,o.dst = some d → d ∉ NC → v = got a1 d) ∧ M (k + 1) (NC.map (got a')) W') (fun _ _ _ => False)) :
 ∀ (k s : Nat) o,ss[k]? = some s → l[s]? = some o → ∀ a W,a.tmps.size = N → M k (NC.map (got a)) W → (∀ t ∈ looks o,t ∉ NC → got a t = got aF t) →
   o.wp P a W (fun a' W' => ∃ v,a' = a.put o.dst v ∧ (∀ d,o.dst = some d → d ∉ NC → v = got a1 d) ∧ M (k + 1) (NC.map (got a')) W') (fun _ _ _ => False) := fun k s o hs ho a W ha hM hl => by
 have O := fit_of hB
 have hd : ∀ d,o.dst = some d → d < N := fun d h => by
  have := O.fit s o ho
  unfold fitsW at this
  simp only [Bool.and_eq_true] at this
  have := this.2.2.1.1
  rw [h] at this
  simpa using this
 have hin : ∀ t ∈ NC,got (putAll aF NC (NC.map (got a))) t = got a t := got_putAll a NC aF hNC.1 (fun t ht => by rw [hfs]; exact hNC.2 t ht)
 have same : ∀ v,NC.map (got (a.put o.dst v)) = NC.map (got ((putAll aF NC (NC.map (got a))).put o.dst v)) := fun v => by
  cases hq : o.dst with
  | none => exact List.map_congr_left fun t ht => (hin t ht).symm
  | some d =>
    refine List.map_congr_left fun t ht => ?_
    by_cases e : t = d
    · subst e
      rw [got_set (by rw [ha]; exact hd t hq),got_set (by rw [size_putAll,hfs]; exact hd t hq)]
    · rw [got_put e,got_put e,hin t ht]
 refine Oper.wp_mono ?_ (wp_swap (aF := putAll aF NC (NC.map (got a))) (R := fun v W' => (∀ d,o.dst = some d → d ∉ NC → v = got a1 d) ∧ M (k + 1) (NC.map (got ((putAll aF NC (NC.map (got a))).put o.dst v))) W') (execOp_congr o (O.nosel o (List.mem_of_getElem? ho)) (looks_eval fun t ht => ?_)) (fun d h => by rw [size_putAll,hfs]; exact hd d h) (Oper.wp_mono ?_ (hw k s o hs ho (NC.map (got a)) W (by simp) hM)))
 · rintro a' W' ⟨v,rfl,h2,h3⟩
   exact ⟨v,rfl,h2,by rw [same v]; exact h3⟩
 · by_cases q : t ∈ NC
   · exact (hin t q).symm
   · rw [got_putAll_not _ _ _ _ q]; exact hl t ht q
 · rintro a' W' ⟨v,rfl,h2,h3⟩
   exact ⟨v,rfl,h2,h3⟩
theorem wp_writes {id : Nat} {a w} (NC : List Tmp) (ss : List Nat) (N K0 : Nat) (m m2 : List Bool) (ds : List (Tmp × Value)) (M : Nat → List Value → World → Prop) (C : World → Prop) {aF : Act} (hm : P.follows .mixedOrders = true) (hB : writesB l ss N NC m = true) (hK : lateK l ss K0 N m2 = true) (hNC : (decide NC.Nodup && (NC.all fun t => decide (t < N))) = true) (hds : ds.map (·.1) = wdsts l ss) 
 (ha : a.tmps.size = N) (hMC : ∀ k vs W,k ≤ K0 → M k vs W → C W) (hMg : ∀ k vs W W',M k vs W → Cl W W' → M k vs W') (h0 : ∀ vs,vs.length = NC.length → M 0 vs w)
 (hq : ∀ W,C W → wpQuiet P l.toArray (fun w' => ∃ p : Regrown,w' = Sort.grow (redrawn W p.d) p.os) (fun a' => a' = aF) (sel m l) (putAll a (ds.map (·.1)) (ds.map (·.2))))
 (hq2 : ∀ k vs W,K0 < k → k ≤ ss.length → M k vs W → wpQuiet P l.toArray (fun w' => ∃ p : Regrown,w' = Sort.grow (redrawn W p.d) p.os) (fun a' => a' = aF) (sel m2 l) aF)
 (hw : ∀ (k s : Nat) o,ss[k]? = some s → l[s]? = some o → ∀ vs W,vs.length = NC.length → M k vs W →
  o.wp P (putAll aF NC vs) W (fun a' W' => ∃ v,a' = (putAll aF NC vs).put o.dst v ∧ (∀ d,o.dst = some d → d ∉ NC → v = got (putAll a (ds.map (·.1)) (ds.map (·.2))) d) ∧ M (k + 1) (NC.map (got a')) W') (fun _ _ _ => False))
 (hend : ∀ vs W,vs.length = NC.length → M ss.length vs W → Q .normal (putAll aF NC vs) W) : (Code.region id l.toArray true).wp P Q a w := by
 have hn : NC.Nodup ∧ ∀ t ∈ NC,t < N := by
  rw [Bool.and_eq_true] at hNC
  exact ⟨of_decide_eq_true hNC.1,fun t ht => by have := List.all_eq_true.1 hNC.2 t ht; simpa using this⟩
 have ha1 : (putAll a (ds.map (·.1)) (ds.map (·.2))).tmps.size = N := by rw [size_putAll,ha]
 have hd1 : ∀ (NC : List Tmp) (vs : List Value) (a : Act),(putAll a NC vs).defers = a.defers := fun NC => by
  induction NC with
  | nil => intro vs a; rfl
  | cons x NC ih =>
    intro vs a
    cases vs with
    | nil => rfl
    | cons v vs =>
      have := ih vs (a.put (some x) v)
      exact this
 have hfs : aF.tmps.size = N := size_at hB ha1 (hMC 0 _ _ (by omega) (h0 (NC.map (got a)) (by simp))) hq
 exact wp_region_writes2 NC ss N K0 m m2 M C _ hm hB hK ha ⟨ha1,hd1 _ _ _⟩ (fun t ht => got_putAll_not _ _ _ _ (by rw [hds]; exact ht)) hMC hMg (h0 _ (by simp)) hq hq2 (duty_nc hB hn hfs hw) hend
theorem wpIn_writes {lp mm : Nat} {id : Nat} {a w} (NC : List Tmp) (ss : List Nat) (N K0 : Nat) (m m2 : List Bool) (ds : List (Tmp × Value)) (M : Nat → List Value → World → Prop) (C : World → Prop) {aF : Act} (hm : P.follows .mixedOrders = true) (hB : writesB l ss N NC m = true) (hK : lateK l ss K0 N m2 = true) (hNC : (decide NC.Nodup && (NC.all fun t => decide (t < N))) = true) (hds : ds.map (·.1) = wdsts l ss) (hc : Rn.calm l = true) (hL : ¬ LetsOut Q)
 (ha : a.tmps.size = N) (hMC : ∀ k vs W,k ≤ K0 → M k vs W → C W) (hMg : ∀ k vs W W',M k vs W → Cl W W' → M k vs W') (h0 : ∀ vs,vs.length = NC.length → M 0 vs w)
 (hq : ∀ W,C W → wpQuiet P l.toArray (fun w' => ∃ p : Regrown,w' = Sort.grow (redrawn W p.d) p.os) (fun a' => a' = aF) (sel m l) (putAll a (ds.map (·.1)) (ds.map (·.2))))
 (hq2 : ∀ k vs W,K0 < k → k ≤ ss.length → M k vs W → wpQuiet P l.toArray (fun w' => ∃ p : Regrown,w' = Sort.grow (redrawn W p.d) p.os) (fun a' => a' = aF) (sel m2 l) aF)
 (hw : ∀ (k s : Nat) o,ss[k]? = some s → l[s]? = some o → ∀ vs W,vs.length = NC.length → M k vs W →
  o.wp P (putAll aF NC vs) W (fun a' W' => ∃ v,a' = (putAll aF NC vs).put o.dst v ∧ (∀ d,o.dst = some d → d ∉ NC → v = got (putAll a (ds.map (·.1)) (ds.map (·.2))) d) ∧ M (k + 1) (NC.map (got a')) W') (fun _ _ _ => False))
 (hend : ∀ vs W,vs.length = NC.length → M ss.length vs W → Q .normal (putAll aF NC vs) W) : (Code.region id l.toArray true).wpIn (Fence.wide.inRound lp) mm P Q a w := by
 have hn : NC.Nodup ∧ ∀ t ∈ NC,t < N := by
  rw [Bool.and_eq_true] at hNC
  exact ⟨of_decide_eq_true hNC.1,fun t ht => by have := List.all_eq_true.1 hNC.2 t ht; simpa using this⟩
 have ha1 : (putAll a (ds.map (·.1)) (ds.map (·.2))).tmps.size = N := by rw [size_putAll,ha]
 have hd1 : ∀ (NC : List Tmp) (vs : List Value) (a : Act),(putAll a NC vs).defers = a.defers := fun NC => by
  induction NC with
  | nil => intro vs a; rfl
  | cons x NC ih =>
    intro vs a
    cases vs with
    | nil => rfl
    | cons v vs =>
      have := ih vs (a.put (some x) v)
      exact this
 have hfs : aF.tmps.size = N := size_at hB ha1 (hMC 0 _ _ (by omega) (h0 (NC.map (got a)) (by simp))) hq
 exact wpIn_region_writes2 NC ss N K0 m m2 M C _ hm hB hK hc hL ha ⟨ha1,hd1 _ _ _⟩ (fun t ht => got_putAll_not _ _ _ _ (by rw [hds]; exact ht)) hMC hMg (h0 _ (by simp)) hq hq2 (duty_nc hB hn hfs hw) hend
end
end Wr
open Go.ChangeShapes Go.WideShapes Go.ChangeAt Go.RowKit Go.Deep Go.Shelf
namespace Sg
open Cf (G CA)
open Rf
def Dv (b : Nat → Nat) (u B n₀ : Nat) (p : Addr) : Prop := p.block = b 2 ∨ (∃ o,o < 9 ∧ p = ⟨u,o,none⟩) ∨ p.block = B ∨ n₀ + 2 ≤ p.block
section
variable {W X Y : World} {b : Nat → Nat} {c : List Int} {s s' : Si} {u : Nat} {r : Nat → Rw} {sh : Int} {T T' : Nat → Int} {m m' : Int} {S : Nat → Prop} {B n₀ : Nat}
theorem tnr_low {g : Nat} {o : Nat} (ho : o < 9) : (tnr g r sh T m)[o]? = (tnr g r sh T' m')[o]? := by
 have : o = 0 ∨ o = 1 ∨ o = 2 ∨ o = 3 ∨ o = 4 ∨ o = 5 ∨ o = 6 ∨ o = 7 ∨ o = 8 := by omega
 rcases this with rfl | rfl | rfl | rfl | rfl | rfl | rfl | rfl | rfl <;> rfl
theorem tn_low (hX : Tn X b c s u r sh T m) (hY : Tn Y b c s' u r sh T' m') {o : Nat} (ho : o < 9) {v : Value} (h : X.cell? ⟨u,o,none⟩ = some v) : Y.cell? ⟨u,o,none⟩ = some v := by
 have h1 : (tnr (b 0) r sh T m)[o]? = some v := by
  rw [cell_of_row X u o _ _ (0,0) hX.trn] at h; simpa using h
 exact hY.trn.cell o ((tnr_low ho).symm.trans h1)
theorem round_kc (hX : Tn X b c s u r sh T m) (hY : Tn Y b c s' u r sh T' m') (h : But S X Y) (hS : ∀ k,S k → k < n₀ ∧ k ≠ B ∧ k ≠ b 2) : KeepsFrom n₀ X Y ∧ Kc (Dv b u B n₀) (n₀ + 2) X Y := by
 have k := KeepsFrom.of_but h fun j hj => (hS j hj).1
 refine ⟨k,fun p v hp hv => ?_,KeepsFrom.mono k (by omega)⟩
 have same (hn : ¬ S p.block) : Y.cell? p = some v := (World.cell?_of_block (w := X) (a := p) (h.block p.block (cell_blk hv) hn)).trans hv
 rcases hp with e | ⟨o,ho,rfl⟩ | e | e
 · exact same fun q => (hS _ q).2.2 e
 · exact tn_low hX hY ho hv
 · exact same fun q => (hS _ q).2.1 e
 · exact same fun q => by have := (hS _ q).1; omega
theorem own_tn {β : Type} (n : Nat) (f : β → Si) (g : β → Nat → Int) (k : β → Int) : OwnFrom n fun x (W : World) => Tn W b c (f x) u r sh (g x) (k x) :=
 own_but fun _ _ _ _ hs hb hS => hs.grown hb fun j q => (hS j q).2
theorem own_box {β : Type} (n g : Nat) (t : TypeId) (v : Value) : OwnFrom n fun (_ : β) (W : World) => Boxed W g t v := Own.from (boxed_own g t fun _ => v) n
theorem but_put {w : World} (h : But S w X) {D : Nat} (hD : w.heap.size ≤ D) (o : Obj) : But S w (X.putObj D o) := But.call h (but_grown (grownBy_putObj' X D o)) fun i e => by cases e; exact .inr hD
theorem tn_put (H : Tn X b c s u r sh T m) {D : Nat} {o o' : Obj} (hD : X.heap[D]? = some o) (ho : o.isCells = false) : Tn (X.putObj D o') b c s u r sh T m :=
 H.grown (but_grown (grownBy_putObj' X D o')) fun k e => by cases e; exact ⟨o,hD,ho⟩
theorem hseq_valued (n : Nat) (hn : 2 ≤ n) (hc : c.length = 21) (hR : Cf.Right c) (H : Tn X b c s u r sh T m) (hB : X.cell? ⟨B,0,none⟩ = some (.pointer (some ⟨u,0,none⟩))) :
 ∀ V,Below X.heap.size X V → V.heap.size = X.heap.size + 2 → Goes Fence.wide n Tryz.prog 191 #[.pointer (some ⟨B,0,none⟩)] (encv b (NN c) r) (Kc (Dv b u B X.heap.size) (X.heap.size + 2)) (fun xs => xs.map (·.1) = (List.range (NN c)).filter fun i => (r i).is) (fun _ => True) (NN c) (fun pre x => x.1 ∉ pre.map (·.1)) (X.heap.size + 1) V := fun V hV hs => by
 have HV := H.on hV
 obtain ⟨cap,h2⟩ := HV.lie.row hc
 have hN := NN_34 hR
 exact valued_goes n hn B u (b 0) (b 2) cap b r (NN c) _ _ (by omega) _ V ((hV.cell (p := ⟨B,0,none⟩) (cell_blk hB)).trans hB) HV.sig h2 (fun i hi => HV.lie.at hi) (fun i hi => HV.is (by omega)) (fun i => .inl rfl) (fun i hi => .inr (.inl ⟨_,by omega,rfl⟩)) (.inr (.inr (.inl rfl))) (fun p hp => .inr (.inr (.inr (by omega)))) (by omega)
theorem hseq_all (n : Nat) (hn : 1 ≤ n) (hc : c.length = 21) (hR : Cf.Right c) (H : Lie X b c s) (hB : X.cell? ⟨B,0,none⟩ = some (.pointer (some ⟨b 0,0,none⟩))) :
 ∀ V,Below X.heap.size X V → V.heap.size = X.heap.size + 2 → Goes Fence.wide n Tryz.prog 146 #[.pointer (some ⟨B,0,none⟩)] (enca b (NN c)) (Kc (Dv b u B X.heap.size) (X.heap.size + 2)) (fun xs => xs.map Fin.val = List.range (NN c)) (fun _ => True) (NN c) (fun pre x => x.val ∉ pre.map Fin.val) (X.heap.size + 1) V := fun V hV hs => by
 have HV := H.keep (But.of_below (S := fun _ => False) hV) fun _ _ q => q
 obtain ⟨cap,h2⟩ := HV.row hc
 have hN := NN_34 hR
 exact all_goes n hn B (b 0) (b 2) cap b (NN c) _ _ (by omega) _ V ((hV.cell (p := ⟨B,0,none⟩) (cell_blk hB)).trans hB) h2 (fun i hi => HV.at hi) (fun i => .inl rfl)
end
def mx {α : Type} (l : List Nat) (new old : Nat → α) (i : Nat) : α := if i ∈ l then new i else old i
theorem mx_nil {α : Type} (new old : Nat → α) : mx [] new old = old := by funext i; simp [mx]
theorem mx_not {α : Type} {l : List Nat} {new old : Nat → α} {i : Nat} (h : i ∉ l) : mx l new old i = old i := if_neg h
theorem mx_yes {α : Type} {l : List Nat} {new old : Nat → α} {i : Nat} (h : i ∈ l) : mx l new old i = new i := if_pos h
theorem mx_snoc {α : Type} (l : List Nat) (new old : Nat → α) (i : Nat) (v : α) (hv : v = new i) : (fun k => if k = i then v else mx l new old k) = mx (l ++ [i]) new old := by
 funext k
 unfold mx
 by_cases e : k = i
 · subst e; simp [hv]
 · simp [e]
def mid (s : Si) (l : List Nat) (new : Nat → Ch) : Si := { s with ch := mx l new s.ch }
theorem mid_nil (s : Si) (new : Nat → Ch) : mid s [] new = s := by unfold mid; rw [mx_nil]
theorem put_mid (s : Si) (l : List Nat) (new : Nat → Ch) (i : Nat) (h : Ch) (e : h = new i) : put (mid s l new) i h = mid s (l ++ [i]) new := by
 unfold put mid; rw [← mx_snoc l new s.ch i h e]
theorem tup_mx (l : List Nat) (new old : Nat → Int) (i : Nat) (v : Int) (e : v = new i) : tup (mx l new old) i v = mx (l ++ [i]) new old := mx_snoc l new old i v e
end Sg
namespace Sg
open Cf (G CA)
open Rf
attribute [local go_sem] Oper.semAt_some
def okv (c : List Int) (r : Nat → Rw) : Bool := (List.range (NN c)).all fun i => !(r i).is || Jp.val (r i).n
def okb (c : List Int) (r : Nat → Rw) (sh : Int) : Bool := okv c r && (decide (0 ≤ sh) && decide (sh < 16))
theorem okv_no {c : List Int} {r : Nat → Rw} {i : Nat} (hi : i < NN c) (h : (r i).is = true) (hv : Jp.val (r i).n = false) : okv c r = false := by
 rw [Bool.eq_false_iff]
 intro q
 have := List.all_eq_true.1 q i (List.mem_range.2 hi)
 simp [h,hv] at this
theorem okv_yes {c : List Int} {r : Nat → Rw} {ys : List (Vd (NN c) r)} (h : ys.map (·.1) = (List.range (NN c)).filter fun i => (r i).is) (hy : ∀ y ∈ ys,Jp.val (r y.1).n = true) : okv c r = true := by
 refine List.all_eq_true.2 fun i hi => ?_
 cases q : (r i).is
 · rfl
 · have : i ∈ ys.map (·.1) := by rw [h]; exact List.mem_filter.2 ⟨hi,q⟩
   obtain ⟨y,hm,rfl⟩ := List.mem_map.1 this
   simpa using hy y hm
theorem okb_iff {c : List Int} {r : Nat → Rw} {sh : Int} : okb c r sh = true ↔ okr c r sh := by
 unfold okb okv okr Rok
 simp only [Bool.and_eq_true,List.all_eq_true,List.mem_range,Bool.or_eq_true,Bool.not_eq_true',decide_eq_true_eq,Jp.val]
 constructor
 · rintro ⟨h1,h2,h3⟩
   exact ⟨fun i hi q => by rcases h1 i hi with e | e; rw [q] at e; cases e; exact e,h2,by omega⟩
 · rintro ⟨h1,h2,h3⟩
   refine ⟨fun i hi => ?_,h2,by omega⟩
   cases q : (r i).is
   · exact .inl rfl
   · exact .inr (h1 i hi q)
set_option maxRecDepth 100000 in
set_option maxHeartbeats 1600000 in
theorem right_any {W : World} {b : Nat → Nat} {c : List Int} {s : Si} {u : Nat} {r : Nat → Rw} {sh : Int} {T : Nat → Int} {m : Int} (hc : c.length = 21) (hR : Cf.Right c) (H : Tn W b c s u r sh T m) :
 Calls Tryz.prog 114 #[.pointer (some ⟨u,0,none⟩)] W fun e w' => e = .returned (.bool (okb c r sh)) ∧ Below W.heap.size W w' := by
 have hN := NN_34 hR
 refine (callsIn_wide (n := 5)).1 ?_
 refine callsIn_of_wp_marks Tryz.func114 rfl trivial ?_ rfl
 simp only [Tryz.ntmps114,List.size_toArray,List.length_cons,List.length_nil,Nat.reduceAdd,Nat.reduceSub,Array.replicate_succ,Array.replicate_zero,List.push_toArray,List.append_toArray,List.nil_append,List.cons_append]
 gi_wp2_with (refine ⟨trivial,?_⟩; gi_at_call 156; refine (callsIn_wide.2 (valued_any _ _)).mono ?_; rintro e w2 ⟨rfl,rfl⟩)
 have b1 := ((Boxed.new W 234 (.pointer (some ⟨u,0,none⟩))).alloc (.cells #[.bool false] 4)).alloc (.cells #[.pointer (some ⟨u,0,none⟩)] 234)
 have bR := (Boxed.new (W.alloc (.cells #[.pointer (some ⟨u,0,none⟩)] 234)) 4 (.bool false)).alloc (.cells #[.pointer (some ⟨u,0,none⟩)] 234)
 have b3 := Boxed.new ((W.alloc (.cells #[.pointer (some ⟨u,0,none⟩)] 234)).alloc (.cells #[.bool false] 4)) 234 (.pointer (some ⟨u,0,none⟩))
 rw [World.size_alloc] at bR
 rw [World.size_alloc,World.size_alloc] at b3
 have hB0 := (((Below.refl W.heap.size W).alloc (Nat.le_refl _) (.cells #[.pointer (some ⟨u,0,none⟩)] 234)).alloc (by simp) (.cells #[.bool false] 4)).alloc (by simp; omega) (.cells #[.pointer (some ⟨u,0,none⟩)] 234)
 have hsz : (((W.alloc (.cells #[.pointer (some ⟨u,0,none⟩)] 234)).alloc (.cells #[.bool false] 4)).alloc (.cells #[.pointer (some ⟨u,0,none⟩)] 234)).heap.size = W.heap.size + 3 := by simp
 generalize ((W.alloc (.cells #[.pointer (some ⟨u,0,none⟩)] 234)).alloc (.cells #[.bool false] 4)).alloc (.cells #[.pointer (some ⟨u,0,none⟩)] 234) = W0 at *
 have H0 := H.on hB0
 have HL := Lib.hid (fun k (hk : Us b c u k) => H.lt hk)
 clear H
 refine range_goes rfl (by omega) (gf := 191) (lb := #[.pointer (some ⟨W.heap.size + 1 + 1,0,none⟩)]) rfl trivial (enters_of Tryz.func191 (by kernel_rfl) rfl)
  (hseq_valued _ (by omega) hc hR H0 b3.cell) Kc.trans (fun X k o o' _ h2 h3 h4 => Kc.put h2 h3 h4) (fun _ => rfl)
  (fun pre X => ((∀ y ∈ pre,Jp.val (r y.1).n = true) ∧ Tn X b c s u r sh T m) ∧ (Boxed X W.heap.size 234 (.pointer (some ⟨u,0,none⟩)) ∧ Boxed X (W.heap.size + 1) 4 (.bool false)) ∧ Below W.heap.size W X)
  (fun cc _ X => ((cc = .ret ∧ okv c r = false) ∧ Tn X b c s u r sh T m) ∧ Boxed X (W.heap.size + 1) 4 (.bool false) ∧ Below W.heap.size W X)
  (OwnFrom.and (OwnFrom.and (ownFrom_pure _ _) (own_tn _ _ _ _)) (OwnFrom.and (OwnFrom.and (own_box _ _ _ _) (own_box _ _ _ _)) (ownFrom_below (Nat.le_refl _) (by omega))))
  (fun _ => OwnFrom.and (OwnFrom.and (ownFrom_pure _ _) (own_tn _ _ _ _)) (OwnFrom.and (own_box _ _ _ _) (ownFrom_below (Nat.le_refl _) (by omega))))
  ⟨⟨by simp,H0⟩,⟨b1,bR⟩,hB0⟩
  (fun x => { tmps := #[.pointer (some ⟨u,0,none⟩),.pointer (some ⟨W.heap.size,0,none⟩),.pointer (some ⟨W.heap.size + 1,0,none⟩),.int .i64 x.1,.pointer (some ⟨u,0,none⟩),.func (.func 191) #[] #[.pointer (some ⟨W.heap.size + 1 + 1,0,none⟩)],.int .i64 x.1,.pointer (some ⟨xb b x.1,0,none⟩),undef,undef,undef,undef,undef,undef,undef,undef,undef,undef,undef,undef,undef,undef,undef,undef,undef,undef,undef,undef,undef,undef],defers := [] }) ?assign ?body ?done ?stop
 case assign =>
  intro l x W K hK
  dsimp only [encv]
  gi_wp2
  exact hK
 case body =>
  rintro lp pre x X ⟨⟨hp,HX⟩,⟨bx1,bxR⟩,hB⟩ hlen -
  have hx := x.2.1
  have c1 := bx1.cell
  have cR := bxR.cell
  have fR := bxR.frozen
  have CW := fun l => CallsIn.inRound (n := 5 - 1 - 1 - 1) l (callsIn_wide.2 (raw_any HX x.1 (by omega)))
  have HV := Lib.hid (show Jp.val (r x.1).n = (decide (-2147483648 ≤ (r x.1).n) && decide ((r x.1).n ≤ 2147483647)) from rfl)
  have HY := Lib.hid (fun (h : Jp.val (r x.1).n = true) y (hy : y ∈ pre ++ [x]) => (show Jp.val (r y.1).n = true from by
   rcases List.mem_append.1 hy with q | q
   · exact hp y q
   · rw [List.mem_singleton.1 q]; exact h))
  have HNO := Lib.hid (okv_no (r := r) hx x.2.2)
  have HXX := Lib.hid HX
  have HBB := Lib.hid hB
  have B1 := Lib.hid bx1
  have BR := Lib.hid bxR
  clear hp HX hB bx1 bxR hlen H0 b1 bR b3 hB0
  generalize (r x.1).n = n at *
  have hu2 : b 2 < W.heap.size := HL.out _ (.inl ⟨2,by unfold pn; omega,rfl⟩)
  have huu : u < W.heap.size := HL.out _ (.inr rfl)
  have K2 := Lib.hid (show KeepsFrom W0.heap.size X (X.setCell ⟨W.heap.size + 1,0,none⟩ (.bool false)) ∧ Kc (Dv b u (W.heap.size + 1 + 1) W0.heap.size) (W0.heap.size + 2) X (X.setCell ⟨W.heap.size + 1,0,none⟩ (.bool false)) ∧ Tn (X.setCell ⟨W.heap.size + 1,0,none⟩ (.bool false)) b c s u r sh T m ∧ Boxed (X.setCell ⟨W.heap.size + 1,0,none⟩ (.bool false)) (W.heap.size + 1) 4 (.bool false) ∧ Below W.heap.size W (X.setCell ⟨W.heap.size + 1,0,none⟩ (.bool false)) from by
   have bb : But (· = W.heap.size + 1) X (X.setCell ⟨W.heap.size + 1,0,none⟩ (.bool false)) := But.setCell (p := ⟨_,_,none⟩) (But.refl (· = _) X) (Or.inl rfl) _
   have HT := HXX.out.keep bb fun k hk e => by have := HL.out k hk; omega
   obtain ⟨k1,k2⟩ := round_kc HXX.out HT bb (B := W.heap.size + 1 + 1) (n₀ := W0.heap.size) fun k e => ⟨by omega,by omega,by omega⟩
   exact ⟨k1,k2,HT,BR.out.set _,HBB.out.setCell (p := ⟨W.heap.size + 1,0,none⟩) (by show W.heap.size ≤ W.heap.size + 1; omega) _⟩)
  cases d1 : decide (n < -2147483648)
  · cases d2 : decide (2147483647 < n)
    · have HYY := Lib.hid (HY.out (HV.out.trans (by simp at d1 d2; simp; omega)))
      gi_wp2_with (first | (refine ⟨trivial,?_⟩; gi_at_call 157; refine (CW lp).mono ?_; rintro e w' ⟨rfl,rfl⟩) | (refine ⟨trivial,?_⟩))
      exact ⟨KeepsFrom.refl _ _,Kc.refl _ _ _,⟨HYY.out,HXX.out⟩,⟨B1.out,BR.out⟩,HBB.out⟩
    · have HNN := Lib.hid (HNO.out (HV.out.trans (by simp at d1 d2; simp; omega)))
      gi_wp2_with (first | (refine ⟨trivial,?_⟩; gi_at_call 157; refine (CW lp).mono ?_; rintro e w' ⟨rfl,rfl⟩) | (refine ⟨trivial,?_⟩))
      exact ⟨K2.out.1,K2.out.2.1,⟨⟨rfl,HNN.out⟩,K2.out.2.2.1⟩,K2.out.2.2.2.1,K2.out.2.2.2.2⟩
  · have HNN := Lib.hid (HNO.out (HV.out.trans (by simp at d1; simp; omega)))
    gi_wp2_with (first | (refine ⟨trivial,?_⟩; gi_at_call 157; refine (CW lp).mono ?_; rintro e w' ⟨rfl,rfl⟩) | (refine ⟨trivial,?_⟩))
    exact ⟨K2.out.1,K2.out.2.1,⟨⟨rfl,HNN.out⟩,K2.out.2.2.1⟩,K2.out.2.2.2.1,K2.out.2.2.2.2⟩
 case done =>
  rintro D ys X hD hys ⟨⟨hp,HX⟩,⟨bx1,bxR⟩,hB⟩ hK
  have HF := Lib.hid (show okb c r sh = (decide (0 ≤ sh) && decide (sh < 16)) by unfold okb; rw [okv_yes hys hp,Bool.true_and])
  have c1 := bx1.cell
  have cR := bxR.cell
  have fR := bxR.frozen
  have c9 := HX.shut
  clear hp hys HX H0 b1 bR b3 hB0
  obtain ⟨ok,hok⟩ : ∃ ok,okb c r sh = ok := ⟨_,rfl⟩
  rw [hok] at HF
  have HOK := Lib.hid hok
  clear hok
  cases d1 : decide (0 ≤ sh) <;> cases d2 : decide (sh < 16)
  all_goals
   rw [d1,d2] at HF
   gi_wp2_with (refine ⟨trivial,?_⟩)
   have hK' := fun v => (KeepsOthers.setCell X ⟨W.heap.size + 1,0,none⟩ v).same D _ hK rfl
   refine ⟨by simp,.inl ⟨_,_,rfl,run_takeDeferred (hK' _),?_⟩⟩
   have hcc := fun v => (((bxR.set v).kept (grownBy_putObj' _ D (.deferred none)) (by simp; omega))).cell
   refine ⟨.bool ok,by simp [results,Tryz.f114,go_sem,hcc,HF.out],Fx.ret_bool HOK.out.symm,?_⟩
   exact (hB.setCell (p := ⟨W.heap.size + 1,0,none⟩) (by show W.heap.size ≤ W.heap.size + 1; omega) _).trans (belowK_b (w := W) (Nat.le_refl _) _ D _ _ (by omega) (hK' _) rfl rfl)
 case stop =>
  rintro D cc pre X hD - ⟨⟨⟨rfl,hno⟩,HX⟩,bxR,hB⟩ hK
  have HF := Lib.hid (show okb c r sh = false by unfold okb; rw [hno]; rfl)
  clear HX H0 b1 bR b3 hB0
  gi_wp2
  refine ⟨by simp,.inl ⟨_,_,rfl,run_takeDeferred hK,?_⟩⟩
  have hcc := (bxR.kept (grownBy_putObj' _ D (.deferred none)) (by simp; omega)).cell
  exact ⟨.bool false,by simp [results,Tryz.f114,go_sem,hcc],Fx.ret_bool HF.out.symm,
   hB.trans (belowK_b (w := W) (Nat.le_refl _) X D _ _ (by omega) hK rfl rfl)⟩
end Sg
end Go.Proofs.YticidhbnljdidaaGreatDoor
