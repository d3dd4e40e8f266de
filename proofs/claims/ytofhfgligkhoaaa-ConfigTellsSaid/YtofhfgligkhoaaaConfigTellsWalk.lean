/-
  The walk of the law ConfigTells: for every configuration, every error and every rate it returns true, and writes nothing that was there. No conditions beyond the numbers' count.
-/
import Derived.Test.YtofhfgligkhoaaaConfigAlive
import Derived.Test.YtofhfgligkhoaaaConfigRef
import Derived.Deep.QuietTactic
import Derived.Lib.QuietBelow
import Derived.BigQuiet
namespace Go.Proofs.Ytofhfgligkhoaaa
open Go.ChangeShapes Go.WideShapes Go.ChangeAt Go.RowKit Go.Deep
namespace Cf

theorem eqZ (w : World) : (Op.equalIn 10000 24 (.agg (CA zeros)) (.agg (CA zeros))).run Try.prog w = .ok true w := by kernel_rfl
theorem eq3 (w : World) : (Op.equalIn 10000 24 (.agg (CA (wts 3 3))) (.agg (CA (wts 3 3)))).run Try.prog w = .ok true w := by kernel_rfl
theorem eq4 (w : World) : (Op.equalIn 10000 24 (.agg (CA (wts 4 4))) (.agg (CA (wts 4 4)))).run Try.prog w = .ok true w := by kernel_rfl

/-- What both Defaults hand back is the same. -/
theorem defaults (e : Int) : ∃ (x : List Int) (r : Int), x.length = 21 ∧ (∀ W, Calls Try.prog 6 #[.int .i64 e] W fun en w' => en = .returned (.tuple #[.agg (CA x), .int .i64 r]) ∧ Below W.heap.size W w') ∧
    (∀ W, Calls Try.prog 7 #[.int .i64 e] W fun en w' => en = .returned (.tuple #[.agg (CA x), .int .i64 r]) ∧ Below W.heap.size W w') ∧
    (∀ W : World, (Op.equalIn 10000 24 (.agg (CA x)) (.agg (CA x))).run Try.prog W = .ok true W) := by
  by_cases h3 : e = 3
  · subst h3
    exact ⟨wts 3 3, 0, rfl, fun W => default_yes 3 W (Or.inl rfl), fun W => rdefault_yes 3 W (Or.inl rfl), eq3⟩
  · by_cases h4 : e = 4
    · subst h4
      exact ⟨wts 4 4, 0, rfl, fun W => default_yes 4 W (Or.inr rfl), fun W => rdefault_yes 4 W (Or.inr rfl), eq4⟩
    · exact ⟨zeros, 1, rfl, fun W => default_no e W (by omega), fun W => rdefault_no e W (by omega), eqZ⟩

/-- A whole configuration loaded, in a region that draws. -/
theorem wpQuiet_loadC {ops : Array Oper} {C : World → Prop} {Q : Act → Prop} {o : Oper} {rest : List Oper} {a : Act} (hw : Region.wanted o (yielded ops a.tmps) = true) (x : Operand) (ho : o.op = .load 24 x)
    (b : Nat) (c : List Int) (hx : a.eval x = .pointer (some ⟨b, 0, none⟩)) (hb : ∀ w, C w → Box w b c) (hc : c.length = 21)
    (h : wpQuiet Try.prog ops C Q rest (a.put o.dst (.agg (CA c)))) : wpQuiet Try.prog ops C Q (o :: rest) a := by
  unfold wpQuiet
  rw [if_pos hw]
  refine ⟨.agg (CA c), fun w hC => ?_, h⟩
  unfold Oper.quietAt execOp
  simp only [ho, hx, Instr.loadAt, Instr.sureAddr, Sem.run_bind, Sem.run_pure, Result.andThen_ok, run_loadVar_row w b 24 24 (CA c) (0, 0) _ (hb w hC) Try.underlying24 rfl (by rw [CA_size, hc]; exact sizeC)]
  exact ⟨rfl, rfl⟩
/-- What lies about in the law: the argument's box, and perhaps others. -/
structure Tl (w W : World) (c : List Int) : Prop where
  below : Below w.heap.size w W
  arg : Box W w.heap.size c
theorem Tl.on {w W W' : World} {c : List Int} (h : Tl w W c) (b : Below W.heap.size W W') : Tl w W' c := ⟨grow h.below b, h.arg.on b⟩
theorem tl_start (w : World) (c : List Int) : Tl w (w.alloc (.cells (CA c) 24)) c := ⟨(Below.refl _ _).alloc (Nat.le_refl _) _, Box.new w c⟩
end Cf
namespace configTells
open Cf

set_option maxHeartbeats 6400000 in
theorem walk (c : List Int) (e r : Int) (w : World) (hc : c.length = 21) (_w0 : ∀ n ∈ c, (Lit.int .i64 n).wf = true) (_w1 : (Lit.int .i64 e).wf = true) (_w2 : (Lit.int .i64 r).wf = true) :
    Calls Try.prog 3 #[.agg (c.map (.int .i64)).toArray, .int .i64 e, .int .i64 r] w fun en w' => en = .returned (.bool true) ∧ Below w.heap.size w w' := by
  show Calls Try.prog 3 #[.agg (CA c), .int .i64 e, .int .i64 r] w _
  obtain ⟨x, q, hx, DA, DB, KE⟩ := defaults e
  have T0 := Lib.hid (tl_start w c)
  have FA := fun W => fault_any c W hc
  have FB := fun W => rfault_any c W hc
  have RA := fun W => right_any c W hc
  have RB := fun W => rright_any c W hc
  have CA1 := fun W => covers_any c e r W hc
  have CB1 := fun W => rcovers_any c e r W hc
  generalize fault c = s at *
  generalize rt c = t at *
  generalize cov c e r = u at *
  go_enter Try.func3, Try.ntmps3
  go_wp2_with fail
  generalize w.alloc (.cells (CA c) 24) = W0 at *
  refine (DA _).mono ?_; rintro en w1 ⟨rfl, b1⟩
  have T1 := Lib.hid (T0.out.on b1)
  clear DA T0 b1
  go_wp2_with (with_reducible show wpList _ _ _ (⟨none, .store _ (.tmp 7) _, _, _, _, _⟩ :: _) _ _
               refine wpList_storeC rfl _ _ rfl w1.heap.size zeros x rfl rfl (Box.fresh w1) rfl hx ?_
               have T2 := Lib.hid (T1.out.on (lay w1 x).2)
               have X2 := Lib.hid (lay w1 x).1
               generalize (w1.alloc (.cells #[.int .i64 0, .int .i64 0, .int .i64 0, .int .i64 0, .int .i64 0, .int .i64 0, .int .i64 0, .int .i64 0, .int .i64 0, .int .i64 0, .int .i64 0, .int .i64 0, .int .i64 0, .int .i64 0, .int .i64 0, .int .i64 0, .int .i64 0, .int .i64 0, .int .i64 0, .int .i64 0, .int .i64 0] 24)).setRow w1.heap.size (CA x) = U2 at *
               clear T1
               generalize w1.heap.size = a2 at *)
  refine (DB _).mono ?_; rintro en w3 ⟨rfl, b3⟩
  have T3 := Lib.hid (T2.out.on b3)
  have X3 := Lib.hid (X2.out.on b3)
  clear DB T2 X2 b3
  go_wp2_with (with_reducible show wpList _ _ _ (⟨none, .store _ (.tmp 9) _, _, _, _, _⟩ :: _) _ _
               refine wpList_storeC rfl _ _ rfl w3.heap.size zeros x rfl rfl (Box.fresh w3) rfl hx ?_
               have T4 := Lib.hid (T3.out.on (lay w3 x).2)
               have X4 := Lib.hid (X3.out.on (lay w3 x).2)
               have Y4 := Lib.hid (lay w3 x).1
               generalize (w3.alloc (.cells #[.int .i64 0, .int .i64 0, .int .i64 0, .int .i64 0, .int .i64 0, .int .i64 0, .int .i64 0, .int .i64 0, .int .i64 0, .int .i64 0, .int .i64 0, .int .i64 0, .int .i64 0, .int .i64 0, .int .i64 0, .int .i64 0, .int .i64 0, .int .i64 0, .int .i64 0, .int .i64 0, .int .i64 0] 24)).setRow w3.heap.size (CA x) = U4 at *
               clear T3 X3
               generalize w3.heap.size = a4 at *)
  have cA := reg_call (w := U4) (fun W _ => alive_any W)
  have cFA := reg_call (w := U4) (fun W _ => FA W)
  have cFB := reg_call (w := U4) (fun W _ => FB W)
  have cRA := reg_call (w := U4) (fun W _ => RA W)
  have cRB := reg_call (w := U4) (fun W _ => RB W)
  have cCA := reg_call (w := U4) (fun W _ => CA1 W)
  have cCB := reg_call (w := U4) (fun W _ => CB1 W)
  have hT : ∀ W, (∃ p : Regrown, W = Sort.grow (redrawn U4 p.d) p.os) → Box W w.heap.size c := by rintro W ⟨p, rfl⟩; exact T4.out.arg.on (below_regrown U4 p.d p.os)
  have hX : ∀ W, (∃ p : Regrown, W = Sort.grow (redrawn U4 p.d) p.os) → Box W a2 x := by rintro W ⟨p, rfl⟩; exact X4.out.on (below_regrown U4 p.d p.os)
  have hY : ∀ W, (∃ p : Regrown, W = Sort.grow (redrawn U4 p.d) p.os) → Box W a4 x := by rintro W ⟨p, rfl⟩; exact Y4.out.on (below_regrown U4 p.d p.os)
  have HT := Lib.hid hT
  have HX := Lib.hid hX
  have HY := Lib.hid hY
  clear FA FB RA RB CA1 CB1 hT hX hY
  refine wp_region_quiet_below (by kernel_rfl) (by kernel_rfl) ?_
  repeat (first
    | (with_reducible show wpQuiet _ _ _ _ (⟨_, .load _ (.tmp 3), _, _, _, _⟩ :: _) _
       refine wpQuiet_loadC rfl _ rfl w.heap.size c rfl HT.out hc ?_
       simp only [Act.put, List.setIfInBounds_toArray, List.set_cons_succ, List.set_cons_zero])
    | (with_reducible show wpQuiet _ _ _ _ (⟨_, .load _ (.tmp 7), _, _, _, _⟩ :: _) _
       refine wpQuiet_loadC rfl _ rfl a2 x rfl HX.out hx ?_
       simp only [Act.put, List.setIfInBounds_toArray, List.set_cons_succ, List.set_cons_zero])
    | (with_reducible show wpQuiet _ _ _ _ (⟨_, .load _ (.tmp 9), _, _, _, _⟩ :: _) _
       refine wpQuiet_loadC rfl _ rfl a4 x rfl HY.out hx ?_
       simp only [Act.put, List.setIfInBounds_toArray, List.set_cons_succ, List.set_cons_zero])
    | go_big_quiet_step (first | exact cA _ _ | exact cFA _ _ | exact cFB _ _ | exact cRA _ _ | exact cRB _ _ | exact cCA _ _ | exact cCB _ _))
  refine wpQuiet_nil ?_
  intro _ hw'
  obtain ⟨⟨dq, osq⟩, hw''⟩ := hw'
  subst hw''
  go_wp2
  go_ret
  exact ⟨rfl, grow T4.out.below (below_regrown U4 dq osq)⟩
end configTells
end Go.Proofs.Ytofhfgligkhoaaa
