/-
  What compare of package signal does (the fifth step of a cycle: miscompare): a contract by walking the Go text. Conditions: how a signal lies; that the raw values may be.
-/
import Derived.Test.YtpoededbmdffpaaGreatDoorSignalEnter
namespace Go.Proofs.YtpoededbmdffpaaGreatDoor
set_option maxRecDepth 100000
open Go.ChangeShapes Go.WideShapes Go.ChangeAt Go.RowKit Go.Deep Go.Shelf
namespace Sg
open Cf (G CA)
open Rf
attribute [local go_sem] Oper.semAt_some
/-- The miscompare, by what compare asks. -/
def mcp (c : List Int) (s : Si) (r : Nat → Rw) (i : Nat) : Bool := decide (G c 9 < Fx.apart ((r i).n - (s.ch i).off) s.val)
def tC (c : List Int) (s : Si) (r : Nat → Rw) (T : Nat → Int) (i : Nat) : Int := T i + if mcp c s r i = true then 32 else 0
set_option maxRecDepth 100000 in
set_option maxHeartbeats 3200000 in
theorem compare_any {W : World} {b : Nat → Nat} {c : List Int} {s : Si} {u : Nat} {r : Nat → Rw} {sh : Int} {T : Nat → Int} {m : Int} (hc : c.length = 21) (hR : Cf.Right c) (hr : Rok c r) (hO : Ok c s) (hT : ∀ i, i < NN c → 0 ≤ T i ∧ T i < 32) (H : Tn W b c s u r sh T m) :
    Calls Tryz.prog 119 #[.pointer (some ⟨u, 0, none⟩)] W fun e w' => e = .returned (.tuple #[]) ∧ Tn w' b c s u r sh (mx ((List.range (NN c)).filter fun i => (r i).is) (tC c s r T) T) m ∧ But (Us b c u) W w' := by
  have hN := NN_34 hR
  refine (callsIn_wide (n := 5)).1 ?_
  refine callsIn_of_wp_marks Tryz.func119 rfl trivial ?_ rfl
  simp only [Tryz.ntmps119, List.size_toArray, List.length_cons, List.length_nil, Nat.reduceAdd, Nat.reduceSub, Array.replicate_succ, Array.replicate_zero, List.push_toArray, List.append_toArray, List.nil_append, List.cons_append]
  gi_wp2_with (refine ⟨trivial, ?_⟩; gi_at_call 156; refine (callsIn_wide.2 (valued_any _ _)).mono ?_; rintro e w2 ⟨rfl, rfl⟩)
  have b1 := (Boxed.new W 234 (.pointer (some ⟨u, 0, none⟩))).alloc (.cells #[.pointer (some ⟨u, 0, none⟩)] 234)
  have b3 := Boxed.new (W.alloc (.cells #[.pointer (some ⟨u, 0, none⟩)] 234)) 234 (.pointer (some ⟨u, 0, none⟩))
  rw [World.size_alloc] at b3
  have hB0 := ((Below.refl W.heap.size W).alloc (Nat.le_refl _) (.cells #[.pointer (some ⟨u, 0, none⟩)] 234)).alloc (by simp) (.cells #[.pointer (some ⟨u, 0, none⟩)] 234)
  have hsz : ((W.alloc (.cells #[.pointer (some ⟨u, 0, none⟩)] 234)).alloc (.cells #[.pointer (some ⟨u, 0, none⟩)] 234)).heap.size = W.heap.size + 2 := by simp
  generalize (W.alloc (.cells #[.pointer (some ⟨u, 0, none⟩)] 234)).alloc (.cells #[.pointer (some ⟨u, 0, none⟩)] 234) = W0 at *
  have H0 := H.on hB0
  have HL := Lib.hid (fun k (hk : Us b c u k) => H.lt hk)
  have HOU := Lib.hid H.out
  clear H
  refine range_goes rfl (by omega) (gf := 191) (lb := #[.pointer (some ⟨W.heap.size + 1, 0, none⟩)]) rfl trivial (enters_of Tryz.func191 (by kernel_rfl) rfl)
    (hseq_valued _ (by omega) hc hR H0 b3.cell) Kc.trans (fun X k o o' _ h2 h3 h4 => Kc.put h2 h3 h4) (fun _ => rfl)
    (fun pre X => Tn X b c s u r sh (mx (pre.map (·.1)) (tC c s r T) T) m ∧ Boxed X W.heap.size 234 (.pointer (some ⟨u, 0, none⟩)) ∧ But (Us b c u) W X)
    (fun _ _ _ => False)
    (OwnFrom.and (own_tn _ _ _ _) (OwnFrom.and (own_box _ _ _ _) (own_other _ _ _ (by omega))))
    (fun _ _ _ _ _ hs _ _ => hs)
    ⟨by rw [List.map_nil, mx_nil]; exact H0, b1, But.of_below hB0⟩
    (fun x => { tmps := #[.pointer (some ⟨u, 0, none⟩), .pointer (some ⟨W.heap.size, 0, none⟩), .int .i64 x.1, .pointer (some ⟨u, 0, none⟩), .func (.func 191) #[] #[.pointer (some ⟨W.heap.size + 1, 0, none⟩)], .int .i64 x.1, .pointer (some ⟨xb b x.1, 0, none⟩), undef, undef, undef, undef, undef, undef, undef, undef, undef, undef, undef, undef, undef, undef, undef, undef, undef, undef, undef, undef, undef, undef, undef], defers := [] }) ?assign ?body ?done ?stop
  case assign =>
    intro l x W K hK
    dsimp only [encv]
    gi_wp2
    exact hK
  case body =>
    rintro lp pre x X ⟨HX, bx1, hB⟩ hlen hG
    have hx := x.2.1
    have hx4 : x.1 < 4 := by omega
    have hxi : (x.1 : Int) < 4 := by omega
    have HMP := Lib.hid (show (pre ++ [x]).map (·.1) = pre.map (·.1) ++ [x.1] by simp)
    have eT : mx (pre.map (·.1)) (tC c s r T) T x.1 = T x.1 := mx_not hG
    have hv : Jp.val (r x.1).n = true := by
      have := hr x.1 hx x.2.2
      unfold Jp.val; simp; omega
    have KC := Lib.hid (fun (Y : World) (s' : Si) (T' : Nat → Int) (S : Nat → Prop) (hY : Tn Y b c s' u r sh T' m) (h : But S X Y) (hS : ∀ k, S k → Of b x.1 k ∨ k = u) => (show (KeepsFrom W0.heap.size X Y ∧ Kc (Dv b u (W.heap.size + 1) W0.heap.size) (W0.heap.size + 2) X Y) ∧ Boxed Y W.heap.size 234 (.pointer (some ⟨u, 0, none⟩)) ∧ But (Us b c u) W Y from by
      have hS' : ∀ k, S k → Us b c u k ∧ k ≠ b 2 := fun k q => (hS k q).elim (fun o => ⟨of_us hx o, fun e => HX.lie.apart3 hx (p := 2) (by omega) (e ▸ o)⟩) (fun e => ⟨.inr e, fun e2 => HX.out (by rw [← e, e2]; exact ⟨2, by unfold pn; omega, rfl⟩)⟩)
      refine ⟨round_kc HX hY h fun k q => ⟨by have := HL.out k (hS' k q).1; omega, by have := HL.out k (hS' k q).1; omega, (hS' k q).2⟩, ?_, hB.trans (h.mono fun k q => (hS' k q).1)⟩
      exact (h.block _ (by have := bx1.lt; omega) fun q => by have := HL.out _ (hS' _ q).1; omega).trans bx1))
    have HXX := Lib.hid HX
    have B1 := Lib.hid bx1
    have hTx := hT x.1 hx
    have CT := Lib.hid (fun (Y : World) (HY : Tn Y b c s u r sh (mx (pre.map (·.1)) (tC c s r T) T) m) => trip_any HY x.1 hx4 32 (mcp c s r x.1) (.inr (.inr rfl)) (by rw [eT]; exact hTx))
    rw [eT] at CT
    have HE := Lib.hid (fun (Y : World) (T' : Nat → Int) (HY : Tn Y b c s u r sh T' m) => even_any hc hR hO HY x.1 hx hv)
    have HQ := Lib.hid (show mcp c s r x.1 = decide (G c 9 < Fx.apart ((r x.1).n - (s.ch x.1).off) s.val) from rfl)
    have HS := Lib.hid (show T x.1 + (if mcp c s r x.1 = true then 32 else 0) = tC c s r T x.1 from rfl)
    rw [HS.out] at CT
    clear HX bx1 hB hlen H0 b1 b3 hB0 hTx
    generalize mcp c s r x.1 = q at *
    generalize (r x.1).n - (s.ch x.1).off = z at *
    have HA := Lib.hid (fun Z => Fx.apart_any z s.val Z)
    generalize Fx.apart z s.val = ap at *
    gi_wp2
    refine Wr.wpIn_w1 (aF := ?_) [22] 30 [true, true, true, true, true, true, true, true, true, true, true, true, true, true, true, true, true, true, true, true, true, true, false] 29 (.tuple #[])
      (fun k Y => match k with
        | 0 => But (fun _ => False) X Y
        | _ => But (fun k => k = u) X Y ∧ Tn Y b c s u r sh (tup (mx (pre.map (·.1)) (tC c s r T) T) x.1 (tC c s r T x.1)) m)
      (fun Y => But (fun k => k = u) X Y ∧ ∃ T', Tn Y b c s u r sh T' m)
      (by kernel_rfl) (by kernel_rfl) (by kernel_rfl) (by kernel_rfl) ?hL ?ha ?hMC ?hMg ?h0 ?hq ?hw ?hend
    case hq =>
      rintro Y ⟨hY, T', HY⟩
      have huW := HL.out u (.inr rfl)
      have k1 := cell_regrown ((show Boxed Y W.heap.size 234 (.pointer (some ⟨u, 0, none⟩)) from (hY.block _ B1.out.lt (by omega)).trans B1.out).cell)
      have k2 := cell_regrown HY.sig
      have k3 := cell_regrown (HY.lie.val hc)
      have k4 := cell_regrown (HY.lie.cfg hc 9 (by omega))
      have cE := reg_call (w := Y) (fun Z B => HE.out Z T' (HY.on B))
      have cA := reg_call (w := Y) (fun Z _ => (HA.out Z).mono fun e w' q => ⟨q.1, q.2 ▸ Below.refl _ _⟩)
      simp only [Lt.sel, Act.put, List.setIfInBounds_toArray, List.set_cons_succ, List.set_cons_zero]
      repeat (go_big_quiet_step (first | exact cE _ _ | exact cA _ _))
      exact rfl
    case ha => rfl
    case hL => rintro ⟨_, _, h⟩; exact h
    case hMC =>
      rintro (_ | k) Y hM
      · exact ⟨hM.mono fun _ q => q.elim, _, HXX.out.keep hM fun _ _ q => q⟩
      · exact ⟨hM.1, _, hM.2⟩
    case hMg =>
      rintro (_ | k) Y Z hM hC
      · exact hM.grow hC.to
      · exact ⟨hM.1.grow hC.to, hM.2.on hC.to⟩
    case h0 => exact But.refl _ _
    case hw =>
      rintro (_ | k) st o hs ho Y hM
      · obtain rfl : 22 = st := by simpa using hs
        obtain rfl := Option.some.inj ho
        refine Wr.wp_fn (f := 161) (args := #[.pointer (some ⟨u, 0, none⟩), .int .i64 x.1, .int .i64 32, .bool q]) ?_ (CT.out Y (HXX.out.keep hM fun _ _ q => q)) ?_
        · rw [HQ.out]; kernel_rfl
        · rintro e Z ⟨rfl, z1, z2⟩
          exact ⟨_, rfl, _, rfl, fun _ _ _ => rfl, (hM.mono fun _ q => q.elim).trans z2, z1⟩
      · simp at hs
    case hend =>
      intro Y hM
      have HM := Lib.hid (show But (fun k => k = u) X Y ∧ Tn Y b c s u r sh (tup (mx (pre.map (·.1)) (tC c s r T) T) x.1 (tC c s r T x.1)) m from hM)
      clear hM
      gi_wp2
      obtain ⟨⟨k1, k2⟩, k3, k4⟩ := KC.out Y _ _ _ HM.out.2 HM.out.1 fun k e => .inr e
      refine ⟨k1, k2, ?_, k3, k4⟩
      have := HM.out.2
      rw [tup_mx _ _ _ _ _ rfl] at this
      rw [HMP.out]; exact this
  case done =>
    rintro D ys X hD hys ⟨HX, -, hB⟩ hK
    gi_wp2
    refine ⟨by simp, .inl ⟨_, _, rfl, run_takeDeferred hK, ?_⟩⟩
    rw [hys] at HX
    exact ⟨_, results_none rfl _ _ _, rfl, tn_put HX hK rfl, but_put hB (by omega) _⟩
  case stop =>
    rintro D cc pre X _ _ h _
    exact h.elim
end Sg
end Go.Proofs.YtpoededbmdffpaaGreatDoor
