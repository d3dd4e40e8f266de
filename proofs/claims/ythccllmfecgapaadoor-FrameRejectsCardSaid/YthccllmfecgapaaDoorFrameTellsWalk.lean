/-
  The walk of the law FrameTells: for every channel, every frame and every slot it returns true, and writes nothing that was there. Its condition: that the table of names holds the names.
-/
import Derived.Test.YthccllmfecgapaaDoorFrameAlive
import Derived.Test.YthccllmfecgapaaDoorFrameRefB
import Derived.Test.YthccllmfecgapaaDoorFrameRefD
namespace Go.Proofs.YthccllmfecgapaaDoor
open Go.ChangeShapes Go.WideShapes Go.ChangeAt Go.RowKit Go.Deep
namespace Fm
open Wd
open Cr (Bytes bytes_wf)
theorem dec_len {c : Int} {is : Bool} {b : List Int} (hy : Bytes b) : (dec c is b).length = 9 := by
  by_cases h : rej c is b = 0
  · rw [dec_yes h]
    obtain ⟨_, hl, _⟩ := fine_iff h
    obtain ⟨_, l8, _⟩ := dec_right hl hy
    simp [l8]
  · rw [dec_no h]; rfl
theorem enc_le (c s : Int) (vs : List Int) (h8 : vs.length = 8) : (enc c s vs).length ≤ 38 := by
  by_cases h : right s vs = true ∧ chan c = true
  · rw [enc_len h.1 h.2 h8]; exact Nat.le_refl _
  · rw [enc_no h]; simp
/-- '==' of two arrays of eight numbers. -/
theorem eq8 (v0 v1 v2 v3 v4 v5 v6 v7 x0 x1 x2 x3 x4 x5 x6 x7 : Int) (d : Nat) (w : World) : (Op.equalIn (d + 2) 22 (.agg #[.int .i64 v0, .int .i64 v1, .int .i64 v2, .int .i64 v3, .int .i64 v4, .int .i64 v5, .int .i64 v6, .int .i64 v7]) (.agg #[.int .i64 x0, .int .i64 x1, .int .i64 x2, .int .i64 x3, .int .i64 x4, .int .i64 x5, .int .i64 x6, .int .i64 x7])).run Tryd.prog w = .ok (([v0, v1, v2, v3, v4, v5, v6, v7] : List Int) == [x0, x1, x2, x3, x4, x5, x6, x7]) w :=
  Agg.run_equalIn_ints w d _ _ 8 .i64 Tryd.underlying22 Tryd.underlying3 (fun w => by kernel_rfl) [v0, v1, v2, v3, v4, v5, v6, v7] [x0, x1, x2, x3, x4, x5, x6, x7] rfl rfl
/-- A slot, as it lies in a box of its own. -/
theorem slot_box (w : World) (is : Bool) (v : Value) (g : Nat) (h : w.heap.size = g) :
    (w.alloc (.cells #[.bool is, v] 27)).cell? ⟨g, 0, none⟩ = some (.bool is) ∧ (w.alloc (.cells #[.bool is, v] 27)).cell? ⟨g, 1, none⟩ = some v := by
  subst h
  exact ⟨by rw [cell_of_row _ _ 0 _ _ (0, 0) (heap_alloc_new w _)]; rfl, by rw [cell_of_row _ _ 1 _ _ (0, 0) (heap_alloc_new w _)]; rfl⟩
end Fm
namespace frameTells
open Fm
open Cr (Bytes bytes_wf)

set_option maxHeartbeats 3200000 in
theorem walk (c : Int) (fs : List Int) (is : Bool) (a : Option Addr) (cap : Nat) (l : List Int) (w : World) (_w0 : (Lit.int .i64 c).wf = true) (n1 : fs.length = 9) (_w1 : ∀ n ∈ fs, (Lit.int .i64 n).wf = true) (cc1 : l.length ≤ cap) (_m2 : cap ≤ maxLen) (f2 : ∀ n ∈ l, (Lit.int .u8 n).wf = true) (hb : IntsAt .u8 w a l) (hN : NamesAt w) :
    Calls Tryd.prog 3 #[.int .i64 c, .agg (fs.map (.int .i64)).toArray, .agg #[.bool is, .slice a l.length cap]] w fun e w' => e = .returned (.bool true) ∧ Below w.heap.size w w' := by
  obtain ⟨s, v0, v1, v2, v3, v4, v5, v6, v7, rfl⟩ := nine fs n1
  show Calls Tryd.prog 3 #[.int .i64 c, .agg #[.int .i64 s, .int .i64 v0, .int .i64 v1, .int .i64 v2, .int .i64 v3, .int .i64 v4, .int .i64 v5, .int .i64 v6, .int .i64 v7], .agg #[.bool is, .slice a l.length cap]] w _
  have B0 := Lib.hid (((Below.refl w.heap.size w).alloc (Nat.le_refl _) (.cells #[.int .i64 s, .int .i64 v0, .int .i64 v1, .int .i64 v2, .int .i64 v3, .int .i64 v4, .int .i64 v5, .int .i64 v6, .int .i64 v7] 24)).alloc (by simp) (.cells #[.bool is, .slice a l.length cap] 27))
  have HBX := Lib.hid ((box_row s v0 v1 v2 v3 v4 v5 v6 v7 w).alloc (.cells #[.bool is, .slice a l.length cap] 27))
  obtain ⟨z0, z1⟩ := slot_box (w.alloc (.cells #[.int .i64 s, .int .i64 v0, .int .i64 v1, .int .i64 v2, .int .i64 v3, .int .i64 v4, .int .i64 v5, .int .i64 v6, .int .i64 v7] 24)) is (.slice a l.length cap) (w.heap.size + 1) (by simp)
  have hs0 : ((w.alloc (.cells #[.int .i64 s, .int .i64 v0, .int .i64 v1, .int .i64 v2, .int .i64 v3, .int .i64 v4, .int .i64 v5, .int .i64 v6, .int .i64 v7] 24)).alloc (.cells #[.bool is, .slice a l.length cap] 27)).heap.size = w.heap.size + 2 := by simp
  by_cases h300 : 300 < l.length
  · have d0 : decide (300 < (l.length : Int)) = true := by simp; omega
    have AL := fun W h => alive_any W h
    have HN := Lib.hid (hN.below B0.out)
    clear hN hb f2 h300
    generalize l.length = n at *
    go_enter Tryd.func3, Tryd.ntmps3
    go_wp2_with fail
    refine (AL _ HN.out).mono ?_; rintro e w5 ⟨rfl, b5⟩
    go_wp2
    go_ret
    exact ⟨rfl, B0.out.trans (b5.mono (by rw [hs0]; omega))⟩
  · have d0 : decide (300 < (l.length : Int)) = false := by simp; omega
    have hy := bytes_wf f2
    have HB := Lib.hid (hb.below B0.out)
    have HN := Lib.hid (hN.below B0.out)
    have CE := fun W => enc_any c s v0 v1 v2 v3 v4 v5 v6 v7 W
    have CR := fun W => renc_any c s v0 v1 v2 v3 v4 v5 v6 v7 W
    have DE := fun W h => dec_any c is a cap l W cc1 hy h
    have DR := fun W h => rdec_any c is a cap l W cc1 hy h
    have HL := Lib.hid (enc_le c s [v0, v1, v2, v3, v4, v5, v6, v7] rfl)
    obtain ⟨t, x0, x1, x2, x3, x4, x5, x6, x7, hd⟩ := nine (dec c is l) (dec_len hy)
    rw [hd] at DE DR
    have DE := fun W h => (DE W h).mono fun e w' q => dec_form (vs := [.int .i64 t, .int .i64 x0, .int .i64 x1, .int .i64 x2, .int .i64 x3, .int .i64 x4, .int .i64 x5, .int .i64 x6, .int .i64 x7]) q rfl
    have DR := fun W h => (DR W h).mono fun e w' q => dec_form (vs := [.int .i64 t, .int .i64 x0, .int .i64 x1, .int .i64 x2, .int .i64 x3, .int .i64 x4, .int .i64 x5, .int .i64 x6, .int .i64 x7]) q rfl
    clear hd hb hN f2 h300 hy
    generalize rej c is l = r at *
    generalize encE c s [v0, v1, v2, v3, v4, v5, v6, v7] = x at *
    generalize enc c s [v0, v1, v2, v3, v4, v5, v6, v7] = bs at *
    generalize l.length = n at *
    have SS := fun W a3 a4 k3 k4 h h' => Cr.rsame_self a3 a4 k3 k4 bs W (by have := HL.out; omega) h h'
    have RA := fun W => right_any s v0 v1 v2 v3 v4 v5 v6 v7 W
    have RB := fun W => rright_any s v0 v1 v2 v3 v4 v5 v6 v7 W
    generalize right s [v0, v1, v2, v3, v4, v5, v6, v7] = rt at *
    have NA := fun W h => name_any c W h
    have NB := fun W => refName_any c W
    generalize nameOf c = nm at *
    have AL := fun W h => alive_any W h
    obtain ⟨y0, y1, y2, y3, y4, y5, y6, y7, y8⟩ := row9 HBX.out
    go_enter Tryd.func3, Tryd.ntmps3
    go_wp2_with fail
    refine (CE _).mono ?_; rintro e w1 ⟨a1, k1, rfl, i1, -, b1⟩
    have G1 := Lib.hid (B0.out.trans (b1.mono (by rw [hs0]; omega)))
    have I1 := Lib.hid i1; have X1 := Lib.hid (HBX.out.below b1 HBX.out.lt); have H1 := Lib.hid (HB.out.below b1); have N1 := Lib.hid (HN.out.below b1)
    have z10 := (b1.cell (p := ⟨w.heap.size + 1, 0, none⟩) (cell_lt z0)).trans z0
    have z11 := (b1.cell (p := ⟨w.heap.size + 1, 1, none⟩) (cell_lt z1)).trans z1
    clear b1 i1 CE HBX HB HN z0 z1 B0 y0 y1 y2 y3 y4 y5 y6 y7 y8
    obtain ⟨y0, y1, y2, y3, y4, y5, y6, y7, y8⟩ := row9 X1.out
    go_wp2_with fail
    refine (CR _).mono ?_; rintro e w2 ⟨a2, k2, rfl, i2, b2⟩
    have G2 := Lib.hid (grow G1.out b2)
    have I2 := Lib.hid (I1.out.below b2); have J2 := Lib.hid i2; have X2 := Lib.hid (X1.out.below b2 X1.out.lt); have H2 := Lib.hid (H1.out.below b2); have N2 := Lib.hid (N1.out.below b2)
    have z20 := (b2.cell (p := ⟨w.heap.size + 1, 0, none⟩) (cell_lt z10)).trans z10
    have z21 := (b2.cell (p := ⟨w.heap.size + 1, 1, none⟩) (cell_lt z11)).trans z11
    clear b2 i2 CR X1 H1 N1 z10 z11 G1 I1 y0 y1 y2 y3 y4 y5 y6 y7 y8
    go_wp2_with fail
    refine (DE _ H2.out).mono ?_; rintro e w3 ⟨rfl, b3⟩
    have bA := b3.alloc b3.size (.cells #[.int .i64 t, .int .i64 x0, .int .i64 x1, .int .i64 x2, .int .i64 x3, .int .i64 x4, .int .i64 x5, .int .i64 x6, .int .i64 x7] 24)
    have G3 := Lib.hid (grow G2.out bA)
    have I3 := Lib.hid (I2.out.below bA); have J3 := Lib.hid (J2.out.below bA); have X3 := Lib.hid (X2.out.below bA X2.out.lt); have H3 := Lib.hid (H2.out.below bA); have N3 := Lib.hid (N2.out.below bA)
    have z30 := (bA.cell (p := ⟨w.heap.size + 1, 0, none⟩) (cell_lt z20)).trans z20
    have z31 := (bA.cell (p := ⟨w.heap.size + 1, 1, none⟩) (cell_lt z21)).trans z21
    have P3 := Lib.hid (show IRow .i64 (w3.alloc (.cells #[.int .i64 t, .int .i64 x0, .int .i64 x1, .int .i64 x2, .int .i64 x3, .int .i64 x4, .int .i64 x5, .int .i64 x6, .int .i64 x7] 24)) w3.heap.size 24 [t, x0, x1, x2, x3, x4, x5, x6, x7] from heap_alloc_new w3 _)
    clear b3 bA DE X2 H2 N2 z20 z21 G2 I2 J2
    go_wp2_with fail
    refine (DR _ H3.out).mono ?_; rintro e w4 ⟨rfl, b4⟩
    have bA := b4.alloc b4.size (.cells #[.int .i64 t, .int .i64 x0, .int .i64 x1, .int .i64 x2, .int .i64 x3, .int .i64 x4, .int .i64 x5, .int .i64 x6, .int .i64 x7] 24)
    have G4 := Lib.hid (grow G3.out bA)
    have I4 := Lib.hid (I3.out.below bA); have J4 := Lib.hid (J3.out.below bA); have X4 := Lib.hid (X3.out.below bA X3.out.lt); have N4 := Lib.hid (N3.out.below bA)
    have P4 := Lib.hid (P3.out.below bA P3.out.lt)
    have Q4 := Lib.hid (show IRow .i64 (w4.alloc (.cells #[.int .i64 t, .int .i64 x0, .int .i64 x1, .int .i64 x2, .int .i64 x3, .int .i64 x4, .int .i64 x5, .int .i64 x6, .int .i64 x7] 24)) w4.heap.size 24 [t, x0, x1, x2, x3, x4, x5, x6, x7] from heap_alloc_new w4 _)
    clear b4 bA DR X3 H3 N3 z30 z31 G3 I3 J3 P3
    go_wp2_with fail
    refine (SS _ _ _ _ _ I4.out J4.out).mono ?_; rintro e w5 ⟨rfl, b5⟩
    have G5 := Lib.hid (grow G4.out b5)
    have X5 := Lib.hid (X4.out.below b5 X4.out.lt); have N5 := Lib.hid (N4.out.below b5)
    have P5 := Lib.hid (P4.out.below b5 P4.out.lt); have Q5 := Lib.hid (Q4.out.below b5 Q4.out.lt)
    clear b5 SS X4 N4 G4 I4 J4 P4 Q4
    go_wp2_with fail
    have cA := reg_call (w := w5) (fun W h => AL W (N5.out.below h))
    have cRA := reg_call (w := w5) (fun W _ => RA W)
    have cRB := reg_call (w := w5) (fun W _ => RB W)
    have cNA := reg_call (w := w5) (fun W h => (NA W (N5.out.below h)).mono fun e w' q => ⟨q.1, by rw [← q.2]; exact Below.refl _ _⟩)
    have cNB := reg_call (w := w5) (fun W _ => (NB W).mono fun e w' q => ⟨q.1, by rw [← q.2]; exact Below.refl _ _⟩)
    have E8 := fun W => eq8 x0 x1 x2 x3 x4 x5 x6 x7 x0 x1 x2 x3 x4 x5 x6 x7 9997 W
    rw [show 9997 + 2 = 9999 from rfl] at E8
    have y9 := fun d os => row9 (X5.out.below (below_regrown w5 d os) X5.out.lt)
    have p9 := fun d os => row9 (P5.out.below (below_regrown w5 d os) P5.out.lt)
    have q9 := fun d os => row9 (Q5.out.below (below_regrown w5 d os) Q5.out.lt)
    clear AL RA RB NA NB
    refine wp_region_quiet_below (by kernel_rfl) (by kernel_rfl) ?_
    repeat (go_big_quiet_step (first | exact cA _ _ | exact cRA _ _ | exact cRB _ _ | exact cNA _ _ | exact cNB _ _))
    refine wpQuiet_nil ?_
    intro _ hw'
    obtain ⟨⟨dq, osq⟩, hw''⟩ := hw'
    subst hw''
    go_wp2
    go_ret
    exact ⟨rfl, grow G5.out (below_regrown w5 dq osq)⟩
end frameTells
end Go.Proofs.YthccllmfecgapaaDoor
