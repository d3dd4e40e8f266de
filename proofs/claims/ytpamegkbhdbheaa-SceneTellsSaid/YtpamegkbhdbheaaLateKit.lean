/-
  The law of a region with one store, as it is used where all that is told apart is the box: the box is laid, the struct is stored into it. No function of the program is walked here. No conditions beyond those said.
-/
import Derived.Test.YtpamegkbhdbheaaJLateRun2
import Derived.Test.YtpamegkbhdbheaaJKept3
namespace Go.Proofs.Ytpamegkbhdbheaa
set_option maxRecDepth 100000
open Go.ChangeShapes Go.WideShapes Go.ChangeAt Go.RowKit Go.Deep
namespace Lt
open Flow (looks)
section
variable {P : Program} {Q : Exit → Act → World → Prop} {l : List Oper} {a aF : Act} {w : World} {NC : List Tmp} {VN : Tmp → Value → World → Prop}

/-- The box, laid. -/
theorem pre_alloc {d : Tmp} {t ty : TypeId} {pos : String} {after : Array Edge} {cs : List Value} (hd : d ∈ NC)
    (ht : ∀ W, (Instr.alloc t true (.tuple #[])).run P W = .ok (.pointer (some ⟨W.heap.size, 0, none⟩)) (W.alloc (.cells cs.toArray t)))
    (hv : ∀ v W, (∃ g, v = .pointer (some ⟨g, 0, none⟩) ∧ Kp.Kept w W g t cs) → VN d v W) : Pre P NC VN w aF Q ⟨some d, .alloc t, ty, pos, after, none⟩ := by
  intro a W hb _
  have e : (execOp a.eval ⟨some d, .alloc t, ty, pos, after, none⟩).run P W = .ok (.value (.pointer (some ⟨W.heap.size, 0, none⟩))) (W.alloc (.cells cs.toArray t)) := by
    simp only [execOp, Sem.run_bind, ht, Result.andThen, Sem.run_pure]
  unfold Oper.wp
  rw [e]
  refine ⟨_, rfl, (Below.refl _ _).alloc (Nat.le_refl _) _, fun d' hd' => ?_⟩
  cases hd'
  exact ⟨fun _ => hv _ _ ⟨_, rfl, Kp.kept_new w W cs t hb⟩, fun hn => absurd hd hn⟩

/-- The struct, stored into it. -/
theorem store_box {d x : Tmp} {t ty : TypeId} {pos : String} {after : Array Edge} {cs cs' : List Value} {Post : List Value → World → Prop} (hd : d ∈ NC) (hx : x ∉ NC) (hF : got aF x = .agg cs'.toArray)
    (hi : (P.info? t).map (·.size) = some cs'.length) (hl : cs.length = cs'.length) (h1 : cs'.toArray.all (·.oneCell') = true)
    (hv : ∀ v W, VN d v W → ∃ g, v = .pointer (some ⟨g, 0, none⟩) ∧ Kp.Kept w W g t cs)
    (hp : ∀ a g W, got a d = .pointer (some ⟨g, 0, none⟩) → Kp.Kept w W g t cs' → (∃ W0, (∀ t ∈ NC, VN t (got a t) W0) ∧ W = W0.setRow g cs'.toArray) → Post (NC.map (got a)) W) : Store P NC VN Post w aF Q ⟨none, .store t (.tmp d) (.tmp x), ty, pos, after, none⟩ := by
  intro a W hb hn hlk
  obtain ⟨g, e, k⟩ := hv _ _ (hn d hd)
  have e2 : a.eval (.tmp x) = .agg cs'.toArray := ((hlk x (by simp [looks, Op.operands])).2 hx).trans hF
  refine wp_store_row t (.tmp d) (.tmp x) rfl g cs'.toArray e e2 t cs.toArray k.row (by simpa using hi) (by simpa using hl) h1 ?_
  exact ⟨rfl, hp a g _ e ⟨Below.put k.below k.ge _, k.row.put _, k.ge⟩ ⟨W, hn, rfl⟩⟩

/-- The law where the box is all that is told apart. -/
theorem wp_region_box {id : Nat} (n s N : Nat) (d x : Tmp) (t : TypeId) (cs cs' : List Value) (m mB : List Bool) (hm : P.follows .mixedOrders = true) (hB : lateB l n s N [d] = true) (hK : markB l n s N [d] m mB = true)
    (ha : a.tmps.size = N) (hxd : x ≠ d) {ty1 ty2 : TypeId} {pos1 pos2 : String} {af1 af2 : Array Edge} (hal : sel mB (l.take n) = [⟨some d, .alloc t, ty1, pos1, af1, none⟩]) (hst : (l.take n)[s]? = some ⟨none, .store t (.tmp d) (.tmp x), ty2, pos2, af2, none⟩)
    (ht : ∀ W, (Instr.alloc t true (.tuple #[])).run P W = .ok (.pointer (some ⟨W.heap.size, 0, none⟩)) (W.alloc (.cells cs.toArray t)))
    (hi : (P.info? t).map (·.size) = some cs'.length) (hl : cs.length = cs'.length) (h1 : cs'.toArray.all (·.oneCell') = true)
    (hq : ∀ W, Below w.heap.size w W → wpQuiet P l.toArray (fun w' => ∃ p : Regrown, w' = Sort.grow (redrawn W p.d) p.os) (fun a' => a' = aF) (sel m (l.take n)) a)
    (hF : got aF x = .agg cs'.toArray)
    (hend : ∀ g W, Kp.Kept w W g t cs' → wpList P l.toArray Q (l.drop n) (aF.put (some d) (.pointer (some ⟨g, 0, none⟩))) W) : (Code.region id l.toArray true).wp P Q a w := by
  refine wp_region_late n s N [d] m mB (fun _ v W => ∃ g, v = .pointer (some ⟨g, 0, none⟩) ∧ Kp.Kept w W g t cs) (fun vs W => ∃ g, vs = [.pointer (some ⟨g, 0, none⟩)] ∧ Kp.Kept w W g t cs') a hm hB hK ha ⟨ha, rfl⟩ (fun _ _ => rfl) ?_ hq ?_ ?_ ?_
  · rintro _ v W W' ⟨g, e, k⟩ b
    exact ⟨g, e, k.on b⟩
  · rw [hal]
    intro o ho
    obtain rfl := List.mem_singleton.1 ho
    exact pre_alloc (List.mem_singleton.2 rfl) ht fun _ _ h => h
  · intro st hs
    rw [hst] at hs
    obtain rfl := Option.some.inj hs
    exact store_box (List.mem_singleton.2 rfl) (fun q => hxd (List.mem_singleton.1 q)) hF hi hl h1 (fun _ _ h => h) fun a g W e k _ => ⟨g, by simp [e], k⟩
  · rintro vs W _ ⟨g, rfl, k⟩
    exact hend g W k

/-- A struct stored into a block that lies there already, nothing told apart. -/
theorem wp_region_put {id : Nat} (n s N : Nat) (p x : Tmp) (t tt : TypeId) (g : Nat) (cs cs' : List Value) (m mB : List Bool) (hm : P.follows .mixedOrders = true) (hB : lateB l n s N [] = true) (hK : markB l n s N [] m mB = true)
    (ha : a.tmps.size = N) (hno : sel mB (l.take n) = []) {ty2 : TypeId} {pos2 : String} {af2 : Array Edge} (hst : (l.take n)[s]? = some ⟨none, .store t (.tmp p) (.tmp x), ty2, pos2, af2, none⟩)
    (hi : (P.info? t).map (·.size) = some cs'.length) (hl : cs.length = cs'.length) (h1 : cs'.toArray.all (·.oneCell') = true) (hr : VRow w g tt cs)
    (hq : ∀ W, Below w.heap.size w W → wpQuiet P l.toArray (fun w' => ∃ p : Regrown, w' = Sort.grow (redrawn W p.d) p.os) (fun a' => a' = aF) (sel m (l.take n)) a)
    (hF : got aF x = .agg cs'.toArray) (hG : got aF p = .pointer (some ⟨g, 0, none⟩))
    (hend : ∀ W, Below w.heap.size w W → wpList P l.toArray Q (l.drop n) aF (W.setRow g cs'.toArray)) : (Code.region id l.toArray true).wp P Q a w := by
  refine wp_region_late n s N [] m mB (fun _ _ _ => True) (fun _ W => ∃ W0, Below w.heap.size w W0 ∧ W = W0.setRow g cs'.toArray) a hm hB hK ha ⟨ha, rfl⟩ (fun _ _ => rfl) (fun _ _ _ _ _ _ => trivial) hq ?_ ?_ ?_
  · rw [hno]
    intro o ho
    cases ho
  · intro st hs
    rw [hst] at hs
    obtain rfl := Option.some.inj hs
    intro a W hb _ hlk
    have e1 : a.eval (.tmp p) = .pointer (some ⟨g, 0, none⟩) := ((hlk p (by simp [looks, Op.operands])).2 (by simp)).trans hG
    have e2 : a.eval (.tmp x) = .agg cs'.toArray := ((hlk x (by simp [looks, Op.operands])).2 (by simp)).trans hF
    exact wp_store_row t (.tmp p) (.tmp x) rfl g cs'.toArray e1 e2 tt cs.toArray (hr.below hb hr.lt) (by simpa using hi) (by simpa using hl) h1 ⟨rfl, W, hb, rfl⟩
  · rintro vs W hv ⟨W0, hb, rfl⟩
    obtain rfl : vs = [] := List.length_eq_zero_iff.1 (by simpa using hv)
    exact hend W0 hb
end
end Lt
end Go.Proofs.Ytpamegkbhdbheaa
