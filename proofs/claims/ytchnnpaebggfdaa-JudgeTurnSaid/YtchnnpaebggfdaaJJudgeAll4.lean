/-
  What Collect, fits, All and Good tell, of package judge: contracts by walking the Go text. Conditions: how the scene and the outputs lie.
  What Good of package judge tells: a contract by walking the Go text. Conditions: how the scene and the outputs lie.
  The iterator of points from the last one on (slices.Backward): a contract by walking the Go text; a region that draws, in a round, whose callees only lay blocks. Conditions: how the points lie.
  What Row of package judge tells: a contract by walking the Go text. Conditions: how the scene lies.
-/
import Derived.Test.YtchnnpaebggfdaaJJudgeSeq4
import Derived.Test.YtchnnpaebggfdaaSceneFits
import Derived.Test.YtchnnpaebggfdaaJJudgePlaces4
import Derived.Lib.QuietBelow
namespace Go.Proofs.Ytchnnpaebggfdaa
set_option maxRecDepth 100000
open Go.ChangeShapes Go.WideShapes Go.ChangeAt Go.RowKit Go.Deep Go.Shelf
namespace Jd
open Cf (G CA)
open Sc (Sn Pt Ok PsAt PtOk pt scv ptv Lens At Bd loadS NN far fault)
open Ot (Ou ouc)
open Rf
attribute [local go_sem] Oper.semAt_some
/-- Is a scene right, with as many points as there are outputs? -/
def fitb (s : Sn) (n : Nat) : Bool := decide (fault s = ⟨#[]⟩) && decide (n = s.ps.length)
theorem fitb_iff {s : Sn} {n : Nat} : fitb s n = true ↔ Ok s ∧ n = s.ps.length := by
  unfold fitb; rw [Bool.and_eq_true, decide_eq_true_eq, decide_eq_true_eq, Sc.fault_ok]
section
variable (s : Sn) (a : Option Addr) (cap : Nat) (al : Option Addr) (lcap : Nat) (ls : List Ou) (w : World) (L : Lens s) (hp : PsAt w a s.ps)
include L hp
set_option maxHeartbeats 1600000 in
theorem jfits_any (n : Nat) : Calls Try.prog 19 #[.agg (scv s a cap).toArray, .slice al n lcap] w fun e w' => e = .returned (.bool (fitb s n)) ∧ Below w.heap.size w w' := by
  have X0 := Lib.hid (Bd.new (cap := cap) L hp)
  have CF := Lib.hid (fun W (D : At W w.heap.size s a cap) => Sc.fault_any s a cap W D.len D.ps)
  have HE := Lib.hid (Sc.emp s)
  have HF := Lib.hid (show fitb s n = (decide (fault s = ⟨#[]⟩) && decide (n = s.ps.length)) from rfl)
  rw [← HE.out] at HF
  clear L hp
  generalize fitb s n = ans at *
  generalize fault s = ft at *
  generalize hb3 : ft.toList.isEmpty = b3 at *
  go_enter Try.func19, Try.ntmps19
  go_upto_region 1 with fail
  generalize w.alloc (.cells (scv s a cap).toArray 27) = w0 at *
  generalize hg : w.heap.size = g at *
  go_wp2_with ((with_reducible show wpList _ _ _ (⟨some 5, _, _, _, _, _⟩ :: _) _ _); refine loadS rfl _ rfl g rfl X0.out.at_ ?_)
  refine (CF.out _ X0.out.at_).mono ?_; rintro e w3 ⟨rfl, b1⟩
  have X3 := Lib.hid (X0.out.on b1)
  clear b1 X0
  have c28 := X3.out.at_.p
  cases b3
  · go_wp2_with fail
    go_ret
    exact ⟨Sc.ret_bool (by rw [HF.out]; rfl), hg ▸ X3.out.below⟩
  · generalize s.ps.length = m at *
    have HQ := Lib.hid (show ans = decide ((n : Int) = m) by rw [HF.out, Bool.true_and]; simp [Int.ofNat_inj])
    go_wp2_with fail
    go_ret
    exact ⟨Sc.ret_bool (by rw [HQ.out, Bool.eq_iff_iff]; simp), hg ▸ X3.out.below⟩
end
section
variable (w0 : World) (s : Sn) (a : Option Addr) (cap : Nat) (al : Option Addr) (lcap : Nat) (ls : List Ou) (L : Lens s) (H : Ok s) (hp : PsAt w0 a s.ps) (hcap : s.ps.length ≤ cap) (ho : OutsAt w0 al ls) (hlen : ls.length = s.ps.length)
include L H hp hcap ho hlen
theorem collect_any (gs gl : Nat) (w : World) (hV : Below w0.heap.size w0 w) (hs : VRow w gs 27 (scv s a cap)) (hl : VRow w gl 28 [.slice al ls.length lcap]) :
    Calls Try.prog 20 #[.func (.func 33) #[] #[.pointer (some ⟨gl, 0, none⟩), .pointer (some ⟨gs, 0, none⟩)]] w
      fun e w' => ∃ a' cap', e = .returned (.slice a' (bads s ls (8 * ls.length)).length cap') ∧ CmAt w' a' (wa s ls) (bads s ls (8 * ls.length)) ∧ Below w.heap.size w w' := by
  have C := seq_any w0 s a cap al lcap ls L H hp hcap ho hlen gs gl w hV hs hl
  clear L H hp hcap ho hlen hV hs hl
  go_enter Try.func20, Try.ntmps20
  go_wp2_with fail
  refine C.mono ?_; rintro e w2 ⟨a', cap', rfl, h1, h2⟩
  have HX := Lib.hid (And.intro h1 h2)
  clear h1 h2
  go_wp2_with fail
  go_ret
  exact ⟨_, _, rfl, HX.out.1, HX.out.2⟩
end
section
variable (s : Sn) (a : Option Addr) (cap : Nat) (al : Option Addr) (lcap : Nat) (ls : List Ou) (w : World) (L : Lens s) (hp : PsAt w a s.ps)
include L hp
set_option maxHeartbeats 1600000 in
theorem all_no (n : Nat) (h : fitb s n = false) : Calls Try.prog 9 #[.agg (scv s a cap).toArray, .slice al n lcap] w fun e w' => e = .returned (.tuple #[.slice none 0 0, .int .i64 1]) ∧ Below w.heap.size w w' := by
  have X0 := Lib.hid (Bd.new (cap := cap) L hp)
  have CF := Lib.hid (fun W (D : At W w.heap.size s a cap) => jfits_any s a cap al lcap W D.len D.ps n)
  rw [h] at CF
  clear L hp h
  go_enter Try.func9, Try.ntmps9
  go_upto_region 1 with fail
  generalize w.alloc (.cells (scv s a cap).toArray 27) = w0 at *
  generalize hg : w.heap.size = g at *
  go_wp2_with ((with_reducible show wpList _ _ _ (⟨some 6, _, _, _, _, _⟩ :: _) _ _); refine loadS rfl _ rfl g rfl X0.out.at_ ?_)
  refine (CF.out _ X0.out.at_).mono ?_; rintro e w3 ⟨rfl, b1⟩
  have X3 := Lib.hid (X0.out.on b1)
  clear b1 X0
  go_wp2_with fail
  go_ret2
  exact ⟨rfl, hg ▸ X3.out.below⟩
set_option maxHeartbeats 1600000 in
theorem all_yes (ho : OutsAt w al ls) (hcap : s.ps.length ≤ cap) (h : fitb s ls.length = true) : Calls Try.prog 9 #[.agg (scv s a cap).toArray, .slice al ls.length lcap] w
    fun e w' => ∃ a' cap', e = .returned (.tuple #[.slice a' (bads s ls (8 * ls.length)).length cap', .int .i64 0]) ∧ CmAt w' a' (wa s ls) (bads s ls (8 * ls.length)) ∧ Below w.heap.size w w' := by
  obtain ⟨H, hlen⟩ := fitb_iff.1 h
  have X0 := Lib.hid (Bd.new (cap := cap) L hp)
  have CF := Lib.hid (fun W (D : At W w.heap.size s a cap) => jfits_any s a cap al lcap W D.len D.ps ls.length)
  have CC := Lib.hid (fun gs gl W hV hs hl => collect_any w s a cap al lcap ls L H hp hcap ho hlen gs gl W hV hs hl)
  rw [h] at CF
  clear L hp h H hlen hcap ho
  generalize bads s ls (8 * ls.length) = ps at *
  generalize ls.length = n at *
  go_enter Try.func9, Try.ntmps9
  go_upto_region 1 with fail
  generalize w.alloc (.cells (scv s a cap).toArray 27) = w0 at *
  generalize hg : w.heap.size = g at *
  go_wp2_with ((with_reducible show wpList _ _ _ (⟨some 6, _, _, _, _, _⟩ :: _) _ _); refine loadS rfl _ rfl g rfl X0.out.at_ ?_)
  refine (CF.out _ X0.out.at_).mono ?_; rintro e w3 ⟨rfl, b1⟩
  have X3 := Lib.hid (X0.out.on b1)
  clear b1 X0
  go_wp2_with ((with_reducible show wpList _ _ _ (⟨some 10, _, _, _, _, _⟩ :: _) _ _); refine loadS rfl _ rfl g rfl X3.out.at_ ?_)
  refine (complaints_any _ _ _ _ _).mono ?_; rintro e w4 ⟨rfl, rfl⟩
  unfold twoBox
  have r1 := VRow.new w3 (scv s a cap) 27
  have r2 := VRow.new (w3.alloc (.cells (scv s a cap).toArray 27)) [.slice al n lcap] 28
  rw [World.size_alloc] at r2
  have B4 := ((Below.refl w3.heap.size w3).alloc (Nat.le_refl _) (.cells (scv s a cap).toArray 27)).alloc (by simp) (.cells #[.slice al n lcap] 28)
  have R1 := Lib.hid (r1.alloc (.cells #[.slice al n lcap] 28))
  have R2 := Lib.hid r2
  have B5' := grow X3.out.below B4
  rw [hg] at B5'
  have B5 := Lib.hid B5'
  clear r1 r2 B4 X3 B5'
  generalize (w3.alloc (.cells (scv s a cap).toArray 27)).alloc (.cells #[.slice al n lcap] 28) = w5 at *
  go_wp2_with fail
  refine (CC.out _ _ _ B5.out R1.out R2.out).mono ?_; rintro e w6 ⟨a', cap', rfl, h1, h2⟩
  have HX := Lib.hid (And.intro h1 (grow (hg ▸ B5.out) h2))
  clear h1 h2
  go_wp2_with fail
  go_ret2
  exact ⟨_, _, rfl, HX.out.1, hg ▸ HX.out.2⟩
end
end Jd
end Go.Proofs.Ytchnnpaebggfdaa

namespace Go.Proofs.Ytchnnpaebggfdaa
set_option maxRecDepth 100000
open Go.ChangeShapes Go.WideShapes Go.ChangeAt Go.RowKit Go.Deep Go.Shelf
namespace Jd
open Cf (G CA)
open Sc (Sn Pt Ok PsAt PtOk pt scv ptv Lens At Bd loadS NN far fault)
open Ot (Ou ouc)
open Rf
attribute [local go_sem] Oper.semAt_some
/-- What Good tells. -/
def good (s : Sn) (ls : List Ou) : Bool := fitb s ls.length && (bads s ls (8 * ls.length)).isEmpty
set_option maxRecDepth 100000 in
set_option maxHeartbeats 6400000 in
theorem good_any (s : Sn) (a : Option Addr) (cap : Nat) (al : Option Addr) (lcap : Nat) (ls : List Ou) (w : World) (L : Lens s) (hp : PsAt w a s.ps) (ho : OutsAt w al ls) (hcap : s.ps.length ≤ cap) :
    Calls Try.prog 11 #[.agg (scv s a cap).toArray, .slice al ls.length lcap] w fun e w' => e = .returned (.bool (good s ls)) ∧ Below w.heap.size w w' := by
  have X0 := Lib.hid (Bd.new (cap := cap) L hp)
  have CF := Lib.hid (fun W (D : At W w.heap.size s a cap) => callsIn_wide (n := 5 - 1) |>.2 (jfits_any s a cap al lcap W D.len D.ps ls.length))
  have HG := Lib.hid (show good s ls = (fitb s ls.length && (bads s ls (8 * ls.length)).isEmpty) from rfl)
  have GO := Lib.hid (fun (h : fitb s ls.length = true) (W V : World) (gs gl v n l : Nat) (hW : Below w.heap.size w W) (hs : VRow W gs 27 (scv s a cap)) (hl : VRow W gl 28 [.slice al ls.length lcap]) (hVb : Below W.heap.size W V) (hVs : V.heap.size = v) (hn : 2 ≤ n) => by
    obtain ⟨H, hlen⟩ := fitb_iff.1 h
    have h := complaints_goes n hn w s a cap al lcap ls L H hp hcap ho hlen gs gl l V (hW.trans (hVb.mono hW.size)) (hs.below hVb hs.lt) (hl.below hVb hl.lt)
    rw [hVs] at h
    exact h)
  have HZ := Lib.hid (Sc.sizeS (a := a) (cap := cap) L)
  have b1' := Boxed.new (w.alloc (.cells (scv s a cap).toArray 27)) 4 (.bool false)
  rw [World.size_alloc] at b1'
  have X1 := Lib.hid (X0.out.on (Sc.below_new _ #[.bool false] 4))
  have hsz : ((w.alloc (.cells (scv s a cap).toArray 27)).alloc (.cells #[.bool false] 4)).heap.size = w.heap.size + 2 := by simp
  clear L hp ho hcap X0
  generalize hgd : good s ls = ans at *
  clear hgd
  generalize hfb : fitb s ls.length = fb at *
  refine (callsIn_wide (n := 5)).1 ?_
  refine callsIn_of_wp_marks Try.func11 rfl trivial ?_ rfl
  simp only [Try.ntmps11, List.size_toArray, List.length_cons, List.length_nil, Nat.reduceAdd, Nat.reduceSub, Array.replicate_succ, Array.replicate_zero, List.push_toArray, List.append_toArray, List.nil_append, List.cons_append]
  gi_wp2_with ((with_reducible show wpListIn _ _ _ _ _ (⟨some 5, _, _, _, _, _⟩ :: _) _ _); refine Ot.wpListIn_loadR rfl _ _ rfl w.heap.size 0 rfl (scv s a cap) _ (row_rng X1.out.at_.row) Try.underlying27 rfl HZ.out ?_)
  refine ⟨trivial, (CF.out _ X1.out.at_).mono ?_⟩
  rintro e w2 ⟨rfl, b2⟩
  have X2 := Lib.hid (X1.out.on b2)
  have Q1' := VRow.below (cs := [_]) b1' b2 (VRow.lt (cs := [_]) b1')
  have hz2 := b2.size
  rw [hsz] at hz2
  clear b1' X1 CF b2 hsz
  have FIN : ∀ {X : World} {b : Bool}, VRow X (w.heap.size + 1) 4 [.bool b] → Below w.heap.size w X → ans = b → ∀ a : Act, a.tmps.getD 4 undef = .pointer (some ⟨w.heap.size + 1, 0, none⟩) → ∃ v, (results Try.f11 a.tmps).run Try.prog X = .ok v X ∧ Ending.returned v = .returned (.bool ans) ∧ Below w.heap.size w X := by
    intro X b hb hB hr a ha
    have hc := hb.cell 0 (v := .bool b) rfl
    rw [Array.getD_eq_getD_getElem?] at ha
    exact ⟨.bool b, by simp [results, Try.f11, go_sem, ha, hc], by rw [hr], hB⟩
  cases fb
  · have HA := Lib.hid (show ans = false by rw [HG.out]; rfl)
    have hc := VRow.cell (cs := [.bool false]) Q1' 0 (v := .bool false) rfl
    have hf := VRow.frozen (cs := [.bool false]) Q1' 0
    clear GO HG
    gi_wp2
    exact FIN (VRow.set Q1' 0 _) (X2.out.below.setCell (p := ⟨w.heap.size + 1, 0, none⟩) (show w.heap.size ≤ w.heap.size + 1 by omega) _) HA.out _ rfl
  · have HA := Lib.hid (show ans = (bads s ls (8 * ls.length)).isEmpty by rw [HG.out]; rfl)
    gi_wp2_with ((with_reducible show wpListIn _ _ _ _ _ (⟨some 9, _, _, _, _, _⟩ :: _) _ _); refine Ot.wpListIn_loadR rfl _ _ rfl w.heap.size 0 rfl (scv s a cap) _ (row_rng X2.out.at_.row) Try.underlying27 rfl HZ.out ?_)
    refine ⟨trivial, (callsIn_wide.2 (complaints_any _ _ _ _ _)).mono ?_⟩
    rintro e w4 ⟨rfl, rfl⟩
    unfold twoBox
    have r1 := (VRow.new w2 (scv s a cap) 27).alloc (.cells #[.slice al ls.length lcap] 28)
    have r2 := VRow.new (w2.alloc (.cells (scv s a cap).toArray 27)) [.slice al ls.length lcap] 28
    rw [World.size_alloc] at r2
    have B4 := ((Below.refl w2.heap.size w2).alloc (Nat.le_refl _) (.cells (scv s a cap).toArray 27)).alloc (by simp) (.cells #[.slice al ls.length lcap] 28)
    have R1 := Lib.hid r1
    have R2 := Lib.hid r2
    have B5 := Lib.hid (grow X2.out.below B4)
    have Q5 := Lib.hid (VRow.below (cs := [_]) Q1' B4 (VRow.lt (cs := [_]) Q1'))
    have hs5 : ((w2.alloc (.cells (scv s a cap).toArray 27)).alloc (.cells #[.slice al ls.length lcap] 28)).heap.size = w2.heap.size + 2 := by simp
    clear r1 r2 B4 X2 Q1'
    generalize (w2.alloc (.cells (scv s a cap).toArray 27)).alloc (.cells #[.slice al ls.length lcap] 28) = w5 at *
    generalize w2.heap.size = z2 at *
    gi_wp2
    refine range_m rfl (by omega) (gf := 33) (lb := #[.pointer (some ⟨z2 + 1, 0, none⟩), .pointer (some ⟨z2, 0, none⟩)]) rfl trivial (enters_of Try.func33 (by kernel_rfl) rfl)
      (Kp := Kb w.heap.size z2 (z2 + 1) (w5.heap.size + 2)) (encs := encc s ls) (M := w5.heap.size + 2 + 3)
      (fun V hVb hVs => GO.out trivial w5 V _ _ _ _ _ B5.out R1.out R2.out hVb hVs (by omega))
      Kb.trans (fun X k o o' h1 h2 _ _ => kb_put X k o' (by omega) (by omega) (by omega) (by omega)) (fun _ => rfl)
      (fun pre X => pre = [] ∧ VRow X (w.heap.size + 1) 4 [.bool false] ∧ Below w.heap.size w X)
      (fun c _ X => (c = .ret ∧ ans = false) ∧ VRow X (w.heap.size + 1) 4 [.bool false] ∧ Below w.heap.size w X)
      (OwnTo.and (ownTo_pure _) (OwnTo.and (ownTo_row _ _ _ (Or.inl (by omega))) (ownTo_below (Nat.le_refl _) (by omega))))
      (OwnTo.from (M := 0) (OwnTo.and (ownTo_pure _) (OwnTo.and (ownTo_row _ _ _ (Or.inl (by omega))) (ownTo_below (Nat.le_refl _) (by omega)))))
      (fun _ => OwnTo.and (ownTo_pure _) (OwnTo.and (ownTo_row _ _ _ (Or.inl (by omega))) (ownTo_below (Nat.le_refl _) (by omega))))
      (fun _ => OwnTo.from (M := 0) (OwnTo.and (ownTo_pure _) (OwnTo.and (ownTo_row _ _ _ (Or.inl (by omega))) (ownTo_below (Nat.le_refl _) (by omega)))))
      ⟨rfl, Q5.out, B5.out⟩
      (fun pre x a' X => (pre = [] ∧ VRow X (w.heap.size + 1) 4 [.bool false] ∧ Below w.heap.size w X) ∧
        a' = { tmps := #[.agg (scv s a cap).toArray, .slice al ls.length lcap, .pointer (some ⟨w.heap.size, 0, none⟩), undef, .pointer (some ⟨w.heap.size + 1, 0, none⟩), .agg (scv s a cap).toArray, .slice al ls.length lcap, .bool true, .bool false, .agg (scv s a cap).toArray, .slice al ls.length lcap,
          .func (.func 33) #[] #[.pointer (some ⟨z2 + 1, 0, none⟩), .pointer (some ⟨z2, 0, none⟩)], .agg (cmv s ls x.1).toArray], defers := [] })
      (fun pre x a' A B row h hg hr => ⟨OwnTo.from (M := 0) (β := Unit) (I := fun _ X => pre = [] ∧ VRow X (w.heap.size + 1) 4 [.bool false] ∧ Below w.heap.size w X) (OwnTo.and (ownTo_pure _) (OwnTo.and (ownTo_row _ _ _ (Or.inl (by omega))) (ownTo_below (Nat.le_refl _) (by omega)))) () A B row h.1 hg hr, h.2⟩) ?assign ?body ?done ?stop
    case assign =>
      rintro l pre x X h - - -
      refine ⟨_, X, ⟨rfl, rfl, rfl, Nat.le_refl _, fun _ _ _ => rfl⟩, kb_grown ⟨rfl, rfl, rfl, Nat.le_refl _, fun _ _ _ => rfl⟩, ⟨h, rfl⟩, fun K hK => ?_⟩
      have HC := Lib.hid (show encc s ls x = #[.agg (cmv s ls x.1).toArray] from rfl)
      rw [HC.out]
      generalize (cmv s ls x.1).toArray = cm at *
      clear GO
      gi_wp2
      simpa using hK
    case body =>
      rintro lp pre x a' X ⟨⟨rfl, h1, h2⟩, rfl⟩ - - -
      have HX := Lib.hid (show ans = false by
        rw [HA.out, List.isEmpty_eq_false_iff]
        intro q
        have := mem_bads.2 x.2
        rw [q] at this
        cases this)
      have hc := h1.cell 0 (v := .bool false) rfl
      have hf := h1.frozen 0
      generalize (cmv s ls x.1).toArray = cm at *
      clear GO
      gi_wp2
      exact ⟨(KeepsOthers.setCell _ _ _).from _, ⟨(But.refl _ X).setCell (p := ⟨w.heap.size + 1, 0, none⟩) (Or.inl (show ¬ (w.heap.size + 1 < w.heap.size ∨ w.heap.size + 1 = z2 ∨ w.heap.size + 1 = z2 + 1 ∨ (w5.heap.size + 2 ≤ w.heap.size + 1 ∧ w.heap.size + 1 < w5.heap.size + 2 + 3)) by omega)) _, (KeepsOthers.setCell _ _ _).from _⟩, ⟨rfl, HX.out⟩, h1.set 0 _, h2.setCell (p := ⟨w.heap.size + 1, 0, none⟩) (show w.heap.size ≤ w.heap.size + 1 by omega) _⟩
    case done =>
      rintro D ys X hD hys ⟨rfl, h1, h2⟩ hK
      have HX := Lib.hid (show ans = true by rw [HA.out, ← hys]; rfl)
      have hc := h1.cell 0 (v := .bool false) rfl
      have hf := h1.frozen 0
      clear GO
      gi_wp2
      have hK' := (KeepsOthers.setCell X ⟨w.heap.size + 1, 0, none⟩ (.bool true)).same D _ hK rfl
      refine ⟨by simp, .inl ⟨_, _, rfl, run_takeDeferred hK', ?_⟩⟩
      exact FIN ((grownBy_putObj' _ D (.deferred none)).block _ (VRow.lt (h1.set 0 (.bool true))) (by simp; omega) |>.trans (h1.set 0 (.bool true))) ((h2.setCell (p := ⟨w.heap.size + 1, 0, none⟩) (show w.heap.size ≤ w.heap.size + 1 by omega) _).trans (belowK_b (w := w) (Nat.le_refl _) _ D _ _ (by omega) hK' rfl rfl)) HX.out _ rfl
    case stop =>
      rintro D cc pre X hD - ⟨⟨rfl, hno⟩, h1, h2⟩ hK
      clear GO
      gi_wp2
      refine ⟨by simp, .inl ⟨_, _, rfl, run_takeDeferred hK, ?_⟩⟩
      exact FIN ((grownBy_putObj' _ D (.deferred none)).block _ h1.lt (by simp; omega) |>.trans h1) (h2.trans (belowK_b (w := w) (Nat.le_refl _) X D _ _ (by omega) hK rfl rfl)) hno _ rfl
end Jd
end Go.Proofs.Ytchnnpaebggfdaa

namespace Go.Proofs.Ytchnnpaebggfdaa
set_option maxRecDepth 100000
open Go.ChangeShapes Go.WideShapes Go.ChangeAt Go.RowKit Go.Deep Go.Shelf
namespace Rn
theorem wpIn_region_quiet_below {P : Program} {Q : Exit → Act → World → Prop} {m lp : Nat} {id : Nat} {a : Act} {w : World} {l : List Oper} (hm : P.follows .mixedOrders = true) (hB : Region.lexB .any l.toArray = true) (hc : calm l = true) (hL : ¬ LetsOut Q)
    (h : wpQuiet P l.toArray (fun w' => ∃ p : Regrown, w' = Sort.grow (redrawn w p.d) p.os) (fun a' => ∀ w', (∃ p : Regrown, w' = Sort.grow (redrawn w p.d) p.os) → Q .normal a' w') l a) : (Code.region id l.toArray true).wpIn (Fence.wide.inRound lp) m P Q a w := by
  refine wpIn_region_any hm (any_in (calm_of hc) hL _ _ _ _ ?_)
  simp only [Region.lexB, Bool.and_eq_true] at hB
  refine wpAny_of_quiet (C := fun w' => ∃ p : Regrown, w' = Sort.grow (redrawn w p.d) p.os) (Q := fun a' => ∀ w', (∃ p : Regrown, w' = Sort.grow (redrawn w p.d) p.os) → Q .normal a' w') (fun _ w' hw' h => h w' hw') _ _ _ _ ⟨⟨w.drawn + 1, #[]⟩, by rw [Sort.grow_empty]; rfl⟩ ?_
  have := wpAnyQ_lex (C := fun w' => ∃ p : Regrown, w' = Sort.grow (redrawn w p.d) p.os) (md := .any) hB.1 l 0 (Array.replicate l.toArray.size false) a (by simp) (by simpa using hB.2) h
  simpa using this
end Rn
namespace Jd
open Cf (G CA)
open Sc (Sn Pt Ok PsAt PtOk pt scv ptv Lens At Bd loadS NN far)
open Ot (Ou ouc)
open Rf
attribute [local go_sem] Oper.semAt_some
theorem back_any (al : Option Addr) (m cap : Nat) (w : World) :
    Calls Try.prog 23 #[.slice al m cap] w fun e w' => e = .returned (.func (.func 38) #[] #[.pointer (some ⟨w.heap.size, 0, none⟩)]) ∧ w' = w.alloc (.cells #[.slice al m cap] 25) := by
  go_enter Try.func23, Try.ntmps23
  go_wp2
  go_ret
  exact ⟨rfl, rfl⟩
def encb (s : Sn) (m : Nat) (x : Fin m) : Array Value := #[.int .i64 ((m : Int) - 1 - x.val), .agg (ptv (pt s (m - 1 - x.val))).toArray]
set_option maxRecDepth 100000 in
set_option maxHeartbeats 1600000 in
theorem back_goes (n : Nat) (hn : 1 ≤ n) (w0 : World) (B b off m cap l : Nat) (s : Sn) (hp : PsAt w0 (some ⟨b, off, none⟩) s.ps) (hm : m ≤ s.ps.length) (hs : s.ps.length ≤ 10000) (V : World) (hV : Below w0.heap.size w0 V) (hB : VRow V B 25 [.slice (some ⟨b, off, none⟩) m cap]) :
    Goes Fence.wide n Try.prog 38 #[.pointer (some ⟨B, 0, none⟩)] (encb s m) (Kb w0.heap.size B B V.heap.size) (fun xs => xs.map Fin.val = List.range m) (fun _ => True) m (fun pre x => x.val = pre.length) l V := by
  intro J Jx _ _ hY h0
  have HP := Lib.hid hp
  have HM := Lib.hid (And.intro hm hs)
  have hm' : m ≤ 10000 := by omega
  clear hp hm hs
  refine callsIn_of_wp Try.func38 rfl trivial ?_ rfl
  simp only [Try.ntmps38, List.size_toArray, List.length_cons, List.length_nil, Nat.reduceAdd, Nat.reduceSub, Array.replicate_succ, Array.replicate_zero, List.push_toArray, List.append_toArray, List.nil_append, List.cons_append]
  have c0 := hB.cell 0 (v := .slice (some ⟨b, off, none⟩) m cap) rfl
  have HB := Lib.hid hB
  have HV := Lib.hid hV
  clear hB hV
  gi_wp2
  clear c0
  gi_loopw [3] (fun s3 wr => ∃ (k : Nat) (pre : List (Fin m)), k ≤ m ∧ s3 = .int .i64 ((m : Int) - 1 - k) ∧ pre.map Fin.val = List.range k ∧ J pre wr ∧ Below w0.heap.size w0 wr ∧ VRow wr B 25 [.slice (some ⟨b, off, none⟩) m cap])
    (fun s3 _ => (intOf s3 + 1).toNat)
  case atStart => exact ⟨0, [], Nat.zero_le _, by simp, rfl, h0, HV.out, HB.out⟩
  case round =>
    obtain ⟨k, pre, hk, rfl, hpre, hJs, hw, hr⟩ := hrel
    have hlenp : pre.length = k := by have := congrArg List.length hpre; simpa using this
    by_cases hlt : k < m
    · obtain ⟨fn, tmps, assign, body, hy, hYR⟩ := hY pre ⟨k, hlt⟩ wr hJs (by omega) hlenp.symm
      have HS := Lib.hid (range_snoc hpre hlt)
      have PK := HP.out.here (i := m - 1 - k) (by have := HM.out; omega)
      have RP := Lib.hid (show wr.rangeAt b (off + (m - 1 - k) * 42) (ptv (pt s (m - 1 - k))) from range_cells hw PK.rp)
      have HZ := Lib.hid (Sc.sizeP PK.t8 PK.o32)
      have HE := Lib.hid (show ((m : Int) - 1 - k) = ((m - 1 - k : Nat) : Int) by omega)
      have c1 := hr.cell 0 (v := .slice (some ⟨b, off, none⟩) m cap) rfl
      have K0 := Lib.hid (And.intro hw hr)
      dsimp only [encb] at hy
      clear PK hw hr hpre
      have hjm : m - 1 - k < m := by omega
      obtain ⟨j, hj⟩ : ∃ j, j = m - 1 - k := ⟨_, rfl⟩
      rw [← hj] at RP HZ hy hjm HE
      rw [HE.out] at hy
      simp only [HE.out]
      have HJ := Lib.hid hj
      clear hj
      have hji : (j : Int) < (m : Int) := by omega
      generalize ptv (pt s j) = pv at *
      gi_wp2_with ((with_reducible show wpListIn _ _ _ _ _ (⟨some 16, _, _, _, _, _⟩ :: _) _ _); refine Ot.wpListIn_loadR rfl _ _ rfl b (off + j * 42) rfl pv _ RP.out Try.underlying63 rfl HZ.out ?_)
      refine hYR.mono ?_
      rintro e W3 (⟨rfl, hJ3, hk3⟩ | ⟨rfl, hJx3, hk3⟩)
      · have K3 := Lib.hid (kb_two K0.out.1 K0.out.2 hk3)
        clear hk3
        gi_wp2
        go_roundw
        case rel => exact ⟨k + 1, pre ++ [⟨k, hlt⟩], by omega, by have := HE.out; go_num, HS.out, hJ3, K3.out.1, K3.out.2⟩
        case measure => simp [intOf]
      · clear hk3
        gi_wp2
        refine bodyPost_ret (results_none rfl _ _ _) rfl ?_
        exact ⟨⟨_, rfl⟩, .inr ⟨_, trivial, hJx3⟩⟩
    · obtain rfl : k = m := by omega
      gi_wp2
      go_end0
      exact ⟨⟨_, rfl⟩, .inl ⟨pre, hpre, hJs⟩⟩
end Jd
end Go.Proofs.Ytchnnpaebggfdaa

namespace Go.Proofs.Ytchnnpaebggfdaa
set_option maxRecDepth 100000
open Go.ChangeShapes Go.WideShapes Go.ChangeAt Go.RowKit Go.Deep Go.Shelf
namespace Jd
open Cf (G CA)
open Sc (Sn Pt Ok PsAt PtOk pt scv ptv Lens At Bd loadS NN far)
open Ot (Ou ouc)
open Rf
attribute [local go_sem] Oper.semAt_some
/-- What lies about while the rounds go on; k: in how many points it was far off. -/
structure Rv (w X : World) (s : Sn) (a : Option Addr) (cap i n z k : Nat) : Prop where
  bd : Bd w X w.heap.size s a cap
  nn : VRow X (w.heap.size + 1) 3 [.int .i64 n]
  ct : VRow X z 3 [.int .i64 k]
  fa : ∀ j, j < k → far s (i + 1 - 1 - j) n = true
section
variable {w X Y : World} {s : Sn} {a : Option Addr} {cap i n z k : Nat}
theorem Rv.on (h : Rv w X s a cap i n z k) (b : Below X.heap.size X Y) : Rv w Y s a cap i n z k := ⟨h.bd.on b, h.nn.below b h.nn.lt, h.ct.below b h.ct.lt, h.fa⟩
theorem Rv.own {n₀ : Nat} {row : Option Nat} (hp : PsAt w a s.ps) (hz : z < n₀) (hw : w.heap.size + 2 ≤ n₀) (h : Rv w X s a cap i n z k) (hg : X.grownBy Y row) (hr : ∀ r, row = some r → n₀ ≤ r ∧ ∃ o : Obj, X.heap[r]? = some o ∧ o.isCells = false) : Rv w Y s a cap i n z k := by
  have st : ∀ {g : Nat} {t : TypeId} {cs : List Value}, VRow X g t cs → g < n₀ → VRow Y g t cs := fun r q => (hg.block _ r.lt (fun e => by have := (hr _ e.symm).1; omega)).trans r
  have b := h.bd.below.grown hg h.bd.below.size (fun k e => by have := (hr k e).1; omega)
  exact ⟨⟨at_two h.bd.at_.len hp b (st h.bd.at_.row (by omega)), b⟩, st h.nn (by omega), st h.ct hz, h.fa⟩
theorem Rv.set (hp : PsAt w a s.ps) (h : Rv w X s a cap i n z k) (hz : w.heap.size + 2 ≤ z) (hf : far s (i + 1 - 1 - k) n = true) : Rv w (X.setCell ⟨z, 0, none⟩ (.int .i64 ((k + 1 : Nat) : Int))) s a cap i n z (k + 1) :=
  ⟨⟨at_two h.bd.at_.len hp (h.bd.below.setCell (p := ⟨z, 0, none⟩) (show w.heap.size ≤ z by omega) _) (h.bd.at_.row.setOther (p := ⟨z, 0, none⟩) (show w.heap.size ≠ z by omega) _), h.bd.below.setCell (p := ⟨z, 0, none⟩) (show w.heap.size ≤ z by omega) _⟩,
    h.nn.setOther (p := ⟨z, 0, none⟩) (show w.heap.size + 1 ≠ z by omega) _, h.ct.set 0 _, fun j hj => by
      rcases Nat.lt_succ_iff_lt_or_eq.1 hj with q | rfl
      · exact h.fa j q
      · exact hf⟩
end
section
variable (s : Sn) (a : Option Addr) (cap : Nat) (w : World) (L : Lens s) (hp : PsAt w a s.ps)
include L hp
set_option maxHeartbeats 1600000 in
theorem row_no (i n : Int) (h : Sc.has s i n = false) :
    Calls Try.prog 10 #[.agg (scv s a cap).toArray, .int .i64 i, .int .i64 n] w fun e w' => e = .returned (.int .i64 0) ∧ Below w.heap.size w w' := by
  have X0 := Lib.hid ((Bd.new (cap := cap) L hp).on (Sc.below_new _ #[.int .i64 n] 3))
  have N0 := VRow.new (w.alloc (.cells (scv s a cap).toArray 27)) [.int .i64 n] 3
  rw [World.size_alloc] at N0
  have cn := N0.cell 0 (v := .int .i64 n) rfl
  have CF := Lib.hid (fun W (D : At W w.heap.size s a cap) => Sc.far_no s a cap W D.len D.ps i n h)
  clear L hp h N0
  go_enter Try.func10, Try.ntmps10
  go_upto_region 1 with fail
  generalize (w.alloc (.cells (scv s a cap).toArray 27)).alloc (.cells #[.int .i64 n] 3) = w0 at *
  generalize hg : w.heap.size = g at *
  go_wp2_with ((with_reducible show wpList _ _ _ (⟨some 9, _, _, _, _, _⟩ :: _) _ _); refine loadS rfl _ rfl g rfl X0.out.at_ ?_)
  refine (CF.out _ X0.out.at_).mono ?_; rintro e w3 ⟨rfl, b1⟩
  have X3 := Lib.hid (X0.out.on b1)
  clear b1 X0
  go_wp2_with fail
  go_ret
  exact ⟨rfl, hg ▸ X3.out.below⟩
set_option maxRecDepth 100000 in
set_option maxHeartbeats 6400000 in
theorem row_yes (H : Ok s) (hcap : s.ps.length ≤ cap) (i n : Nat) (hi : i < s.ps.length) (hn : n < 8) :
    Calls Try.prog 10 #[.agg (scv s a cap).toArray, .int .i64 i, .int .i64 n] w fun e w' => e = .returned (.int .i64 (rowc s n (i + 1) : Nat)) ∧ Below w.heap.size w w' := by
  obtain ⟨b, off, rfl, -⟩ := hp.at_ hi
  have X0 := Lib.hid ((Bd.new (cap := cap) L hp).on (Sc.below_new _ #[.int .i64 n] 3))
  have N0' := VRow.new (w.alloc (.cells (scv s (some ⟨b, off, none⟩) cap).toArray 27)) [.int .i64 n] 3
  rw [World.size_alloc] at N0'
  have N0 := Lib.hid N0'
  have cn := N0'.cell 0 (v := .int .i64 n) rfl
  have CF := Lib.hid (fun W (D : At W w.heap.size s (some ⟨b, off, none⟩) cap) => callsIn_wide (n := 5 - 1) |>.2 (Sc.far_yes s _ cap W D.len D.ps H i n hi hn))
  have hi1 := H.few
  have hfew := Lib.hid hi1
  have CA := Lib.hid (fun W (j : Nat) (hj : j < s.ps.length) (b' : Below w.heap.size w W) => alone_at s _ cap W L (hp.below b') b off rfl j hj hcap)
  have CJ := Lib.hid (fun W (j : Nat) (hj : j < s.ps.length) (b' : Below w.heap.size w W) => (show Calls Try.prog 22 #[.agg (scv (one s j) (some ⟨b, off + j * 42, none⟩) (cap - j)).toArray, .int .i64 0, .int .i64 n] W fun e w' => e = .returned (.bool (far s j n)) ∧ Below W.heap.size W w' from Sc.far_yes (one s j) _ (cap - j) W (one_lens L _) (ps_one (hp.below b') hj) (one_ok H hj) 0 n (by rw [one_len]; decide) hn))
  have HZ := Lib.hid (Sc.sizeS (a := some ⟨b, off, none⟩) (cap := cap) L)
  have HP := Lib.hid hp
  have HIL := Lib.hid hi
  have hicap : (i : Int) + 1 ≤ cap := by omega
  have hi63 : (i : Int) ≤ 10000 := by omega
  have HRE := Lib.hid (fun k hk hf he => rowc_end (s := s) (n := n) (i := i + 1) (k := k) hk hf he)
  have HR0 := Lib.hid (fun h => rowc_no (s := s) (n := n) (i := i) h)
  have hsz : ((w.alloc (.cells (scv s (some ⟨b, off, none⟩) cap).toArray 27)).alloc (.cells #[.int .i64 n] 3)).heap.size = w.heap.size + 2 := by simp
  clear L hp H hcap hi hn hi1 N0'
  generalize hrr : rowc s n (i + 1) = ans at *
  clear hrr
  refine (callsIn_wide (n := 5)).1 ?_
  refine callsIn_of_wp_marks Try.func10 rfl trivial ?_ rfl
  simp only [Try.ntmps10, List.size_toArray, List.length_cons, List.length_nil, Nat.reduceAdd, Nat.reduceSub, Array.replicate_succ, Array.replicate_zero, List.push_toArray, List.append_toArray, List.nil_append, List.cons_append]
  gi_wp2_with ((with_reducible show wpListIn _ _ _ _ _ (⟨some 9, _, _, _, _, _⟩ :: _) _ _); refine Ot.wpListIn_loadR rfl _ _ rfl w.heap.size 0 rfl (scv s (some ⟨b, off, none⟩) cap) _ (row_rng X0.out.at_.row) Try.underlying27 rfl HZ.out ?_)
  refine ⟨trivial, (CF.out _ X0.out.at_).mono ?_⟩
  rintro e w2 ⟨rfl, b2⟩
  have X2 := Lib.hid (X0.out.on b2)
  have N2 := Lib.hid (N0.out.below b2 N0.out.lt)
  have hz2 := b2.size
  rw [hsz] at hz2
  clear X0 N0 CF b2 hsz cn
  have c28 := X2.out.at_.p
  cases hf : far s i n
  · have HA := Lib.hid (HR0.out hf)
    clear CA CJ
    gi_wp2
    exact ⟨_, results_tmp rfl _ _ _, by rw [HA.out]; rfl, X2.out.below⟩
  · have X3 := Lib.hid (X2.out.on (Sc.below_new w2 #[.int .i64 0] 3))
    have C3 := Lib.hid (VRow.new w2 [.int .i64 0] 3)
    have N3 := Lib.hid (N2.out.alloc (.cells #[.int .i64 0] 3))
    clear c28 X2 N2
    have c28 := X3.out.at_.p
    gi_wp2_with fail
    refine ⟨trivial, (callsIn_wide.2 (back_any _ _ _ _)).mono ?_⟩
    rintro e w4 ⟨rfl, rfl⟩
    rw [World.size_alloc]
    clear c28
    have B4 := Sc.below_new (w2.alloc (.cells #[.int .i64 0] 3)) #[.slice (some ⟨b, off, none⟩) (i + 1) cap] 25
    have X4 := Lib.hid (X3.out.on B4)
    have C4 := Lib.hid (C3.out.below B4 C3.out.lt)
    have N4 := Lib.hid (N3.out.below B4 N3.out.lt)
    have D4' := VRow.new (w2.alloc (.cells #[.int .i64 0] 3)) [.slice (some ⟨b, off, none⟩) (i + 1) cap] 25
    rw [World.size_alloc] at D4'
    have D4 := Lib.hid D4'
    have hs4 : ((w2.alloc (.cells #[.int .i64 0] 3)).alloc (.cells #[.slice (some ⟨b, off, none⟩) (i + 1) cap] 25)).heap.size = w2.heap.size + 2 := by simp
    clear B4 X3 C3 N3 D4'
    generalize (w2.alloc (.cells #[.int .i64 0] 3)).alloc (.cells #[.slice (some ⟨b, off, none⟩) (i + 1) cap] 25) = W0 at *
    generalize w2.heap.size = z at *
    gi_wp2
    have R0 := Lib.hid (show Rv w W0 s (some ⟨b, off, none⟩) cap i n z 0 from ⟨X4.out, N4.out, C4.out, fun j hj => by omega⟩)
    clear X4 N4 C4
    refine range_goes rfl (by omega) (gf := 38) (lb := #[.pointer (some ⟨z + 1, 0, none⟩)]) rfl trivial (enters_of Try.func38 (by kernel_rfl) rfl)
      (Kp := Kb w.heap.size (z + 1) (z + 1) (W0.heap.size + 2)) (encs := encb s (i + 1))
      (fun V' b' hs' => by rw [← hs']; exact back_goes _ (by omega) w (z + 1) b off (i + 1) cap _ s HP.out HIL.out hfew.out V' (R0.out.bd.below.trans (b'.mono R0.out.bd.below.size)) (D4.out.below b' D4.out.lt))
      Kb.trans (fun X k o o' h1 h2 _ _ => kb_put X k o' (by omega) (by omega) (by omega) (by omega)) (fun _ => rfl)
      (fun pre X => Rv w X s (some ⟨b, off, none⟩) cap i n z pre.length)
      (fun c _ X => c = .exit 0 ∧ VRow X z 3 [.int .i64 ans] ∧ Below w.heap.size w X)
      (fun t X Y row h hg hr => h.own HP.out (by omega) (by omega) hg hr)
      (fun c => OwnTo.from (M := 0) (OwnTo.and (ownTo_pure _) (OwnTo.and (ownTo_row _ _ _ (Or.inl (by omega))) (ownTo_below (Nat.le_refl _) (by omega)))))
      R0.out
      (fun x => { tmps := #[.agg (scv s (some ⟨b, off, none⟩) cap).toArray, .int .i64 i, .int .i64 n, .pointer (some ⟨w.heap.size, 0, none⟩), undef, .pointer (some ⟨w.heap.size + 1, 0, none⟩), .int .i64 0, .pointer (some ⟨z, 0, none⟩), .int .i64 (((i + 1 : Nat) : Int) - 1 - x.val), .agg (scv s (some ⟨b, off, none⟩) cap).toArray, .int .i64 i, .int .i64 n, .bool true, .bool false,
        .pointer (some ⟨w.heap.size, 28, none⟩), .slice (some ⟨b, off, none⟩) s.ps.length cap, .int .i64 i, .int .i64 ((i : Int) + 1), .slice (some ⟨b, off, none⟩) (i + 1) cap, .func (.func 38) #[] #[.pointer (some ⟨z + 1, 0, none⟩)],
        .int .i64 (((i + 1 : Nat) : Int) - 1 - x.val), .agg (ptv (pt s (i + 1 - 1 - x.val))).toArray, undef, undef, undef, undef, undef, undef, undef, undef, undef], defers := [] }) ?assign ?body ?done ?stop
    case assign =>
      intro lp x W K hK
      dsimp only [encb]
      generalize ((i + 1 : Nat) : Int) - 1 - x.val = at_ at *
      generalize (ptv (pt s (i + 1 - 1 - x.val))).toArray = pv at *
      clear CA CJ
      gi_wp2
      exact hK
    case body =>
      rintro lp pre x W h - hG
      have hx := x.isLt
      rw [hG] at hx ⊢
      have HL := Lib.hid (show (pre ++ [x]).length = pre.length + 1 by simp)
      generalize (ptv (pt s (i + 1 - 1 - pre.length))).toArray = pv at *
      obtain ⟨k, hk⟩ : ∃ k, k = pre.length := ⟨_, rfl⟩
      rw [← hk] at h hx HL ⊢
      obtain ⟨j, hj⟩ : ∃ j, j = i + 1 - 1 - k := ⟨_, rfl⟩
      have HJ := Lib.hid hj
      have HI := Lib.hid (show ((i + 1 : Nat) : Int) - 1 - k = (j : Int) by omega)
      rw [HI.out]
      have hjl : j < s.ps.length := by have := HIL.out; omega
      have hji : (j : Int) ≤ 10000 := by omega
      have hk63 : (k : Int) ≤ 10000 := by omega
      have HX := Lib.hid (And.intro hx hjl)
      have R := Lib.hid h
      have RD := Lib.hid (show ∀ w', (∃ p : Regrown, w' = Sort.grow (redrawn W p.d) p.os) → w'.rangeAt w.heap.size 0 (scv s (some ⟨b, off, none⟩) cap) by rintro w' ⟨p, rfl⟩; exact row_rng (h.bd.at_.row.below (below_regrown W p.d p.os) h.bd.at_.row.lt))
      have cA := reg_call (w := W) (fun W' b' => CA.out W' j hjl (grow h.bd.below b'))
      have cJ := reg_call (w := W) (fun W' b' => CJ.out W' j hjl (grow h.bd.below b'))
      have cN := cell_regrown (h.nn.cell 0 (v := .int .i64 n) rfl)
      clear h hj hx hk hG
      generalize hfj : far s j n = fj at *
      gi_wp2
      refine Rn.wpIn_region_quiet_below rfl (by kernel_rfl) (by kernel_rfl) (by rintro ⟨_, _, h⟩; exact h) ?_
      repeat (first
        | (with_reducible show wpQuiet _ _ _ _ (⟨some 22, _, _, _, _, _⟩ :: _) _
           refine wpQuiet_loadR rfl _ rfl w.heap.size 0 (scv s (some ⟨b, off, none⟩) cap) rfl RD.out _ Try.underlying27 rfl HZ.out ?_
           simp only [Act.put, List.setIfInBounds_toArray, List.set_cons_succ, List.set_cons_zero])
        | go_big_quiet_step (first | exact cA _ _ | exact cJ _ _))
      refine wpQuiet_nil ?_
      rintro w6 ⟨p6, rfl⟩
      have b6 := below_regrown W p6.d p6.os
      have R6 := Lib.hid (R.out.on b6)
      have K6 := Lib.hid (And.intro ((Ab.keeps_below b6).from W0.heap.size) (kb_grown (A := w.heap.size) (gs := z + 1) (gl := z + 1) (v := W0.heap.size + 2) (grown_on b6)))
      clear b6 cA cJ cN RD R
      generalize Sort.grow (redrawn W p6.d) p6.os = w6 at *
      have c7 := R6.out.ct.cell 0 (v := .int .i64 k) rfl
      have f7 := R6.out.ct.frozen 0
      have HF := Lib.hid hfj
      cases fj
      · have HA := Lib.hid (show ans = k from HRE.out k (by have := HX.out; omega) R6.out.fa (Or.inr ⟨by have := HX.out; omega, by rw [← HJ.out]; exact HF.out⟩))
        clear CA CJ hfj
        gi_wp2
        exact ⟨K6.out.1, K6.out.2, rfl, by rw [HA.out]; exact R6.out.ct, R6.out.bd.below⟩
      · have S7 := Lib.hid (R6.out.set HP.out (by omega) (by rw [← HJ.out]; exact HF.out))
        have E7 := Lib.hid (show (k : Int) + 1 = ((k + 1 : Nat) : Int) by omega)
        clear CA CJ hfj
        gi_wp2
        rw [E7.out]
        exact ⟨K6.out.1.trans ((KeepsOthers.setCell _ _ _).from _), K6.out.2.trans ⟨(But.refl _ w6).setCell (p := ⟨z, 0, none⟩) (Or.inl (show ¬ (z < w.heap.size ∨ z = z + 1 ∨ z = z + 1 ∨ (W0.heap.size + 2 ≤ z ∧ z < W0.heap.size + 2 + 3)) by omega)) _, (KeepsOthers.setCell _ _ _).from _⟩, by show Rv _ _ _ _ _ _ _ _ (pre ++ [x]).length; rw [HL.out]; exact S7.out⟩
    case done =>
      rintro D ys X hD hys h hK
      have hyl : ys.length = i + 1 := by have := congrArg List.length hys; simpa using this
      rw [hyl] at h
      have HA := Lib.hid (show ans = i + 1 from HRE.out (i + 1) (Nat.le_refl _) h.fa (Or.inl rfl))
      have c7 := h.ct.cell 0 (v := .int .i64 ((i + 1 : Nat) : Int)) rfl
      have HB := Lib.hid h.bd.below
      clear CA CJ
      gi_wp2
      refine ⟨by simp, .inl ⟨_, _, rfl, run_takeDeferred hK, ?_⟩⟩
      exact ⟨_, results_tmp rfl _ _ _, by rw [HA.out]; rfl, HB.out.trans (belowK_b (w := w) (Nat.le_refl _) X D _ _ (by omega) hK rfl rfl)⟩
    case stop =>
      rintro D cc pre X hD - ⟨rfl, h1, h2⟩ hK
      have c7 := h1.cell 0 (v := .int .i64 (ans : Nat)) rfl
      clear CA CJ
      gi_wp2
      refine ⟨by simp, .inl ⟨_, _, rfl, run_takeDeferred hK, ?_⟩⟩
      exact ⟨_, results_tmp rfl _ _ _, rfl, h2.trans (belowK_b (w := w) (Nat.le_refl _) X D _ _ (by omega) hK rfl rfl)⟩
end
end Jd
end Go.Proofs.Ytchnnpaebggfdaa
