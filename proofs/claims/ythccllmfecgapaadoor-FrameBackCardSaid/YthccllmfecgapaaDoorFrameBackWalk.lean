/-
  The walk of the law FrameBack: for every channel, every frame and every slot it returns true, and writes nothing that was there. Its condition: that the table of names holds the names.
-/
import Derived.Test.YthccllmfecgapaaDoorFrameTellsWalk
namespace Go.Proofs.YthccllmfecgapaaDoor
open Go.ChangeShapes Go.WideShapes Go.ChangeAt Go.RowKit Go.Deep
namespace frameBack
open Fm
open Cr (Bytes bytes_wf)

theorem u8_in {x : Int} (h : (Lit.int .u8 x).wf = true) : 0 ≤ x ∧ x < 256 := by
  simp only [Lit.wf, Bool.and_eq_true, decide_eq_true_eq] at h
  have hmin : IntKind.u8.min = 0 := rfl
  have hmax : IntKind.u8.max = 255 := rfl
  omega

/-- What lies about while the law goes on: the frame's box, the slot's box, the slot's bytes, the names. -/
structure Bg (w W : World) (fs : List Int) (is : Bool) (v : Value) (a : Option Addr) (l : List Int) : Prop where
  box : IRow .i64 W w.heap.size 24 fs
  z0 : W.cell? ⟨w.heap.size + 1, 0, none⟩ = some (.bool is)
  z1 : W.cell? ⟨w.heap.size + 1, 1, none⟩ = some v
  bytes : IntsAt .u8 W a l
  nm : NamesAt W
  below : Below w.heap.size w W
theorem Bg.on {w W W' : World} {fs : List Int} {is : Bool} {v : Value} {a : Option Addr} {l : List Int} (h : Bg w W fs is v a l) (b : Below W.heap.size W W') : Bg w W' fs is v a l :=
  ⟨h.box.below b h.box.lt, (b.cell (p := ⟨w.heap.size + 1, 0, none⟩) (cell_lt h.z0)).trans h.z0, (b.cell (p := ⟨w.heap.size + 1, 1, none⟩) (cell_lt h.z1)).trans h.z1, h.bytes.below b, h.nm.below b, grow h.below b⟩
theorem bg_start (s v0 v1 v2 v3 v4 v5 v6 v7 : Int) (is : Bool) (v : Value) (a : Option Addr) (l : List Int) (w : World) (hb : IntsAt .u8 w a l) (hN : NamesAt w) :
    Bg w ((w.alloc (.cells #[.int .i64 s, .int .i64 v0, .int .i64 v1, .int .i64 v2, .int .i64 v3, .int .i64 v4, .int .i64 v5, .int .i64 v6, .int .i64 v7] 24)).alloc (.cells #[.bool is, v] 27)) [s, v0, v1, v2, v3, v4, v5, v6, v7] is v a l := by
  have b : Below w.heap.size w ((w.alloc (.cells #[.int .i64 s, .int .i64 v0, .int .i64 v1, .int .i64 v2, .int .i64 v3, .int .i64 v4, .int .i64 v5, .int .i64 v6, .int .i64 v7] 24)).alloc (.cells #[.bool is, v] 27)) := ((Below.refl w.heap.size w).alloc (Nat.le_refl _) _).alloc (by simp) _
  obtain ⟨z0, z1⟩ := slot_box (w.alloc (.cells #[.int .i64 s, .int .i64 v0, .int .i64 v1, .int .i64 v2, .int .i64 v3, .int .i64 v4, .int .i64 v5, .int .i64 v6, .int .i64 v7] 24)) is v (w.heap.size + 1) (by simp)
  exact ⟨(box_row s v0 v1 v2 v3 v4 v5 v6 v7 w).alloc _, z0, z1, hb.below b, hN.below b, b⟩

set_option maxHeartbeats 3200000 in
theorem walk (c8 : Int) (fs : List Int) (is : Bool) (a : Option Addr) (cap : Nat) (l : List Int) (w : World) (w0 : (Lit.int .u8 c8).wf = true) (n1 : fs.length = 9) (_w1 : ∀ n ∈ fs, (Lit.int .i64 n).wf = true) (cc1 : l.length ≤ cap) (_m2 : cap ≤ maxLen) (f2 : ∀ n ∈ l, (Lit.int .u8 n).wf = true) (hb : IntsAt .u8 w a l) (hN : NamesAt w) :
    Calls Tryd.prog 4 #[.int .u8 c8, .agg (fs.map (.int .i64)).toArray, .agg #[.bool is, .slice a l.length cap]] w fun e w' => e = .returned (.bool true) ∧ Below w.heap.size w w' := by
  obtain ⟨s, v0, v1, v2, v3, v4, v5, v6, v7, rfl⟩ := nine fs n1
  show Calls Tryd.prog 4 #[.int .u8 c8, .agg #[.int .i64 s, .int .i64 v0, .int .i64 v1, .int .i64 v2, .int .i64 v3, .int .i64 v4, .int .i64 v5, .int .i64 v6, .int .i64 v7], .agg #[.bool is, .slice a l.length cap]] w _
  have hc8 := u8_in w0
  have G0 := Lib.hid (bg_start s v0 v1 v2 v3 v4 v5 v6 v7 is (.slice a l.length cap) a l w hb hN)
  have AL := fun W h => alive_any W h
  by_cases h300 : 300 < l.length
  · have d0 : decide (300 < (l.length : Int)) = true := by simp; omega
    have z1 := G0.out.z1
    clear hN hb f2 h300
    generalize l.length = n at *
    go_enter Tryd.func4, Tryd.ntmps4
    go_wp2_with fail
    refine (AL _ G0.out.nm).mono ?_; rintro e w5 ⟨rfl, b5⟩
    go_wp2
    go_ret
    exact ⟨rfl, (G0.out.on b5).below⟩
  · have d0 : decide (300 < (l.length : Int)) = false := by simp; omega
    have hy := bytes_wf f2
    have z1 := G0.out.z1
    obtain ⟨c, hc⟩ : ∃ c : Nat, c8 % 4 = c := ⟨(c8 % 4).toNat, by omega⟩
    have hc4 : c < 4 := by omega
    have hk : chan c = true := (chan_iff _).2 (by omega)
    have CE := fun W => enc_any c s v0 v1 v2 v3 v4 v5 v6 v7 W
    have RA := fun W => right_any s v0 v1 v2 v3 v4 v5 v6 v7 W
    obtain ⟨y0, y1, y2, y3, y4, y5, y6, y7, y8⟩ := row9 G0.out.box
    have hl9 : l.length ≤ 9223372036854775807 := by omega
    clear hb hN f2 h300
    by_cases hr : right s [v0, v1, v2, v3, v4, v5, v6, v7] = true
    · rw [encE_yes hr hk] at CE
      rw [hr] at RA
      have HL := enc_len hr hk (vs := [v0, v1, v2, v3, v4, v5, v6, v7]) rfl
      have DC := fun W a1 k1 (hcp : 38 ≤ k1) h => (dec_any c true a1 k1 (enc c s [v0, v1, v2, v3, v4, v5, v6, v7]) W (by omega) enc_bytes h).mono fun e w' q => dec_form (vs := [.int .i64 s, .int .i64 v0, .int .i64 v1, .int .i64 v2, .int .i64 v3, .int .i64 v4, .int .i64 v5, .int .i64 v6, .int .i64 v7]) q (by rw [enc_dec hr hk rfl]; rfl)
      have DO := fun (j : Int) (hj : j ≠ c) W a1 k1 (hcp : 38 ≤ k1) h => (dec_any j true a1 k1 (enc c s [v0, v1, v2, v3, v4, v5, v6, v7]) W (by omega) enc_bytes h).mono fun e w' q => dec_form (vs := [.int .i64 0, .int .i64 0, .int .i64 0, .int .i64 0, .int .i64 0, .int .i64 0, .int .i64 0, .int .i64 0, .int .i64 0]) q (by rw [dec_no (by rw [enc_rej hr hk rfl, if_neg hj]; decide)]; rfl)
      simp only [enc_rej hr hk rfl, if_pos, HL] at DC
      have DO' := fun (j : Int) (hj : j ≠ c) W a1 k1 hcp h => (DO j hj W a1 k1 hcp h)
      rw [HL] at DO'
      have DO'' := fun (j : Int) (hj : j ≠ c) W a1 k1 hcp h => (DO' j hj W a1 k1 hcp h).mono fun e w' q => (show e = .returned (.tuple #[.agg #[.int .i64 0, .int .i64 0, .int .i64 0, .int .i64 0, .int .i64 0, .int .i64 0, .int .i64 0, .int .i64 0, .int .i64 0], .int .i64 4]) ∧ Below W.heap.size W w' from by have q1 := q.1; rw [enc_rej hr hk rfl, if_neg hj] at q1; exact ⟨q1, q.2⟩)
      clear DO DO'
      have KE := Lib.hid (fun W => eq8 v0 v1 v2 v3 v4 v5 v6 v7 v0 v1 v2 v3 v4 v5 v6 v7 9997 W)
      generalize enc c s [v0, v1, v2, v3, v4, v5, v6, v7] = bs at *
      go_enter Tryd.func4, Tryd.ntmps4
      go_wp2_with fail
      refine (CE _).mono ?_; rintro e w1 ⟨a1, k1, rfl, i1, m1, b1⟩
      rw [HL] at m1 ⊢
      have G1 := Lib.hid (G0.out.on b1)
      have I1 := Lib.hid i1
      clear b1 CE G0 z1 y0 y1 y2 y3 y4 y5 y6 y7 y8 i1
      obtain ⟨y0, y1, y2, y3, y4, y5, y6, y7, y8⟩ := row9 G1.out.box
      go_wp2_with fail
      refine (RA _).mono ?_; rintro e w2 ⟨rfl, b2⟩
      have G2 := Lib.hid (G1.out.on b2)
      have I2 := Lib.hid (I1.out.below b2)
      clear b2 RA G1 I1 y0 y1 y2 y3 y4 y5 y6 y7 y8
      go_wp2_with fail
      go_loopg [10] 4 (fun gg s10 wr => ∃ k : Nat, k + gg = 4 ∧ s10 = .int .i64 k ∧ Hid (Bg w wr [s, v0, v1, v2, v3, v4, v5, v6, v7] is (.slice a l.length cap) a l) ∧ Hid (IntsAt .u8 wr a1 bs))
      case atStart => exact ⟨0, by omega, rfl, G2, I2⟩
      case round =>
        rename World => W1
        obtain ⟨k, hkg, rfl, G3, I3⟩ := hrel
        clear G2 I2
        by_cases hk4 : k < 4
        · have hki : (k : Int) < 4 := by omega
          by_cases hkc : k = c
          · subst hkc
            have E8 := KE.out
            rw [show 9997 + 2 = 9999 from rfl] at E8
            go_wp2_with fail
            refine (DC _ _ _ m1 I3.out).mono ?_; rintro e w3 ⟨rfl, b3⟩
            have bA := b3.alloc b3.size (.cells #[.int .i64 s, .int .i64 v0, .int .i64 v1, .int .i64 v2, .int .i64 v3, .int .i64 v4, .int .i64 v5, .int .i64 v6, .int .i64 v7] 24)
            have G4 := Lib.hid (G3.out.on bA)
            have I4 := Lib.hid (I3.out.below bA)
            have P4 := Lib.hid (show IRow .i64 (w3.alloc (.cells #[.int .i64 s, .int .i64 v0, .int .i64 v1, .int .i64 v2, .int .i64 v3, .int .i64 v4, .int .i64 v5, .int .i64 v6, .int .i64 v7] 24)) w3.heap.size 24 [s, v0, v1, v2, v3, v4, v5, v6, v7] from heap_alloc_new w3 _)
            clear b3 bA DC DO'' G3 I3
            obtain ⟨p0, p1, p2, p3, p4, p5, p6, p7, p8⟩ := row9 P4.out
            obtain ⟨y0, y1, y2, y3, y4, y5, y6, y7, y8⟩ := row9 G4.out.box
            go_wp2
            go_roundg (gk - 1)
            case rel => exact ⟨k + 1, by omega, by go_num, G4, I4⟩
            case measure => omega
          · have hne : (k : Int) ≠ c := by omega
            have d1 : ((k : Int) == (c : Int)) = false := by simpa using hne
            have d2 : ((k : Int) != (c : Int)) = true := by simpa using hne
            go_wp2_with fail
            refine (DO'' _ hne _ _ _ m1 I3.out).mono ?_; rintro e w3 ⟨rfl, b3⟩
            have bA := b3.alloc b3.size (.cells #[.int .i64 0, .int .i64 0, .int .i64 0, .int .i64 0, .int .i64 0, .int .i64 0, .int .i64 0, .int .i64 0, .int .i64 0] 24)
            have G4 := Lib.hid (G3.out.on bA)
            have I4 := Lib.hid (I3.out.below bA)
            clear b3 bA DC DO'' G3 I3
            go_wp2
            go_roundg (gk - 1)
            case rel => exact ⟨k + 1, by omega, by go_num, G4, I4⟩
            case measure => omega
        · obtain rfl : k = 4 := by omega
          have G4 := Lib.hid G3.out
          clear G3 DC DO'' I3
          have z40 := G4.out.z0
          have z41 := G4.out.z1
          obtain ⟨y0, y1, y2, y3, y4, y5, y6, y7, y8⟩ := row9 G4.out.box
          by_cases hz : rej c is l = 0
          · have hd := dec_yes hz
            obtain ⟨hr2, h8, hbk⟩ := back hz hk hy
            obtain ⟨his, -⟩ := fine_iff hz
            obtain ⟨x0, x1, x2, x3, x4, x5, x6, x7, hv⟩ := eight (fvals l) h8
            have D2 := fun W h => (dec_any c is a cap l W cc1 hy h).mono fun e w' q => dec_form (vs := [.int .i64 (fseq l), .int .i64 x0, .int .i64 x1, .int .i64 x2, .int .i64 x3, .int .i64 x4, .int .i64 x5, .int .i64 x6, .int .i64 x7]) q (by rw [hd, hv]; rfl)
            rw [hz] at D2
            have SS := fun W a3 a4 k3 k4 h h' => Cr.rsame_self a3 a4 k3 k4 l W hl9 h h'
            rw [hv] at hr2 hbk
            have C2 := fun W => enc_any c (fseq l) x0 x1 x2 x3 x4 x5 x6 x7 W
            rw [encE_yes hr2 hk, hbk] at C2
            have R2 := fun W => right_any (fseq l) x0 x1 x2 x3 x4 x5 x6 x7 W
            rw [hr2] at R2
            subst his
            clear hd hr2 h8 hbk hv hz
            generalize fseq l = t at *
            go_wp2_with fail
            refine (D2 _ G4.out.bytes).mono ?_; rintro e w5 ⟨rfl, b5⟩
            have bA := b5.alloc b5.size (.cells #[.int .i64 t, .int .i64 x0, .int .i64 x1, .int .i64 x2, .int .i64 x3, .int .i64 x4, .int .i64 x5, .int .i64 x6, .int .i64 x7] 24)
            have G5 := Lib.hid (G4.out.on bA)
            have P5 := Lib.hid (show IRow .i64 (w5.alloc (.cells #[.int .i64 t, .int .i64 x0, .int .i64 x1, .int .i64 x2, .int .i64 x3, .int .i64 x4, .int .i64 x5, .int .i64 x6, .int .i64 x7] 24)) w5.heap.size 24 [t, x0, x1, x2, x3, x4, x5, x6, x7] from heap_alloc_new w5 _)
            clear b5 bA D2 G4 z40 z41 y0 y1 y2 y3 y4 y5 y6 y7 y8
            have z50 := G5.out.z0
            have z51 := G5.out.z1
            obtain ⟨p0, p1, p2, p3, p4, p5, p6, p7, p8⟩ := row9 P5.out
            go_wp2_with fail
            refine (C2 _).mono ?_; rintro e w6 ⟨a6, k6, rfl, i6, -, b6⟩
            have G6 := Lib.hid (G5.out.on b6)
            have I6 := Lib.hid i6
            have P6 := Lib.hid (P5.out.below b6 P5.out.lt)
            clear b6 i6 C2 G5 P5 z50 z51 p0 p1 p2 p3 p4 p5 p6 p7 p8
            have z60 := G6.out.z0
            have z61 := G6.out.z1
            go_wp2_with fail
            refine (SS _ _ _ _ _ I6.out G6.out.bytes).mono ?_; rintro e w7 ⟨rfl, b7⟩
            have G7 := Lib.hid (G6.out.on b7)
            have P7 := Lib.hid (P6.out.below b7 P6.out.lt)
            clear b7 SS G6 P6 z60 z61 I6
            go_wp2_with fail
            refine (AL _ G7.out.nm).mono ?_; rintro e w8 ⟨rfl, b8⟩
            have G8 := Lib.hid (G7.out.on b8)
            have P8 := Lib.hid (P7.out.below b8 P7.out.lt)
            clear b8 AL G7 P7
            have z80 := G8.out.z0
            have z81 := G8.out.z1
            obtain ⟨p0, p1, p2, p3, p4, p5, p6, p7, p8⟩ := row9 P8.out
            go_wp2_with fail
            refine (R2 _).mono ?_; rintro e w9 ⟨rfl, b9⟩
            have G9 := Lib.hid (G8.out.on b9)
            go_wp2
            go_ret
            exact ⟨rfl, G9.out.below⟩
          · have D2 := fun W h => (dec_any c is a cap l W cc1 hy h).mono fun e w' q => dec_form (vs := [.int .i64 0, .int .i64 0, .int .i64 0, .int .i64 0, .int .i64 0, .int .i64 0, .int .i64 0, .int .i64 0, .int .i64 0]) q (by rw [dec_no hz]; rfl)
            have dz : (rej c is l != 0) = true := by simpa using hz
            generalize rej c is l = r at *
            clear hz
            have E8 := fun W => eq8 0 0 0 0 0 0 0 0 0 0 0 0 0 0 0 0 9997 W
            rw [show 9997 + 2 = 9999 from rfl] at E8
            go_wp2_with fail
            refine (D2 _ G4.out.bytes).mono ?_; rintro e w5 ⟨rfl, b5⟩
            have bA := b5.alloc b5.size (.cells #[.int .i64 0, .int .i64 0, .int .i64 0, .int .i64 0, .int .i64 0, .int .i64 0, .int .i64 0, .int .i64 0, .int .i64 0] 24)
            have G5 := Lib.hid (G4.out.on bA)
            have P5 := Lib.hid (show IRow .i64 (w5.alloc (.cells #[.int .i64 0, .int .i64 0, .int .i64 0, .int .i64 0, .int .i64 0, .int .i64 0, .int .i64 0, .int .i64 0, .int .i64 0] 24)) w5.heap.size 24 [0, 0, 0, 0, 0, 0, 0, 0, 0] from heap_alloc_new w5 _)
            clear b5 bA D2 G4 z40 z41 y0 y1 y2 y3 y4 y5 y6 y7 y8
            go_wp2_with fail
            refine (AL _ G5.out.nm).mono ?_; rintro e w6 ⟨rfl, b6⟩
            have G6 := Lib.hid (G5.out.on b6)
            have P6 := Lib.hid (P5.out.below b6 P5.out.lt)
            obtain ⟨p0, p1, p2, p3, p4, p5, p6, p7, p8⟩ := row9 P6.out
            go_wp2
            go_ret
            exact ⟨rfl, G6.out.below⟩
    · have hr' : right s [v0, v1, v2, v3, v4, v5, v6, v7] = false := by simpa using hr
      rw [enc_no (fun q => hr q.1), encE_no (fun q => hr q.1)] at CE
      rw [hr'] at RA
      have DE := fun (j : Int) W a1 k1 => (dec_any j true a1 k1 [] W (Nat.zero_le _) (fun x h => by cases h) (Or.inl rfl)).mono fun e w' q => dec_form (vs := [.int .i64 0, .int .i64 0, .int .i64 0, .int .i64 0, .int .i64 0, .int .i64 0, .int .i64 0, .int .i64 0, .int .i64 0]) q (by rw [dec_no (by rw [rej_length (by decide)]; decide)]; rfl)
      simp only [rej_length (c := _) (b := []) (by decide), List.length_nil] at DE
      go_enter Tryd.func4, Tryd.ntmps4
      go_wp2_with fail
      refine (CE _).mono ?_; rintro e w1 ⟨a1, k1, rfl, i1, -, b1⟩
      have G1 := Lib.hid (G0.out.on b1)
      clear b1 CE G0 z1 y0 y1 y2 y3 y4 y5 y6 y7 y8 i1
      obtain ⟨y0, y1, y2, y3, y4, y5, y6, y7, y8⟩ := row9 G1.out.box
      go_wp2_with fail
      refine (RA _).mono ?_; rintro e w2 ⟨rfl, b2⟩
      have G2 := Lib.hid (G1.out.on b2)
      clear b2 RA G1 y0 y1 y2 y3 y4 y5 y6 y7 y8
      go_wp2_with fail
      have z20 := G2.out.z0
      clear z20
      go_loopg [10] 4 (fun gg s10 wr => ∃ k : Nat, k + gg = 4 ∧ s10 = .int .i64 k ∧ Hid (Bg w wr [s, v0, v1, v2, v3, v4, v5, v6, v7] is (.slice a l.length cap) a l))
      case atStart => exact ⟨0, by omega, rfl, G2⟩
      case round =>
        rename World => W1
        obtain ⟨k, hkg, rfl, G3⟩ := hrel
        clear G2
        by_cases hk4 : k < 4
        · have hki : (k : Int) < 4 := by omega
          go_wp2_with fail
          refine (DE k _ _ _).mono ?_; rintro e w3 ⟨rfl, b3⟩
          have bA := b3.alloc b3.size (.cells #[.int .i64 0, .int .i64 0, .int .i64 0, .int .i64 0, .int .i64 0, .int .i64 0, .int .i64 0, .int .i64 0, .int .i64 0] 24)
          have G4 := Lib.hid (G3.out.on bA)
          clear b3 bA DE G3
          go_wp2
          go_roundg (gk - 1)
          case rel => exact ⟨k + 1, by omega, by go_num, G4⟩
          case measure => omega
        · obtain rfl : k = 4 := by omega
          have G4 := Lib.hid G3.out
          clear G3 DE
          have z40 := G4.out.z0
          have z41 := G4.out.z1
          obtain ⟨y0, y1, y2, y3, y4, y5, y6, y7, y8⟩ := row9 G4.out.box
          by_cases hz : rej c is l = 0
          · have hd := dec_yes hz
            obtain ⟨hr2, h8, hbk⟩ := back hz hk hy
            obtain ⟨his, -⟩ := fine_iff hz
            obtain ⟨x0, x1, x2, x3, x4, x5, x6, x7, hv⟩ := eight (fvals l) h8
            have D2 := fun W h => (dec_any c is a cap l W cc1 hy h).mono fun e w' q => dec_form (vs := [.int .i64 (fseq l), .int .i64 x0, .int .i64 x1, .int .i64 x2, .int .i64 x3, .int .i64 x4, .int .i64 x5, .int .i64 x6, .int .i64 x7]) q (by rw [hd, hv]; rfl)
            rw [hz] at D2
            have SS := fun W a3 a4 k3 k4 h h' => Cr.rsame_self a3 a4 k3 k4 l W hl9 h h'
            rw [hv] at hr2 hbk
            have C2 := fun W => enc_any c (fseq l) x0 x1 x2 x3 x4 x5 x6 x7 W
            rw [encE_yes hr2 hk, hbk] at C2
            have R2 := fun W => right_any (fseq l) x0 x1 x2 x3 x4 x5 x6 x7 W
            rw [hr2] at R2
            subst his
            clear hd hr2 h8 hbk hv hz
            generalize fseq l = t at *
            go_wp2_with fail
            refine (D2 _ G4.out.bytes).mono ?_; rintro e w5 ⟨rfl, b5⟩
            have bA := b5.alloc b5.size (.cells #[.int .i64 t, .int .i64 x0, .int .i64 x1, .int .i64 x2, .int .i64 x3, .int .i64 x4, .int .i64 x5, .int .i64 x6, .int .i64 x7] 24)
            have G5 := Lib.hid (G4.out.on bA)
            have P5 := Lib.hid (show IRow .i64 (w5.alloc (.cells #[.int .i64 t, .int .i64 x0, .int .i64 x1, .int .i64 x2, .int .i64 x3, .int .i64 x4, .int .i64 x5, .int .i64 x6, .int .i64 x7] 24)) w5.heap.size 24 [t, x0, x1, x2, x3, x4, x5, x6, x7] from heap_alloc_new w5 _)
            clear b5 bA D2 G4 z40 z41 y0 y1 y2 y3 y4 y5 y6 y7 y8
            have z50 := G5.out.z0
            have z51 := G5.out.z1
            obtain ⟨p0, p1, p2, p3, p4, p5, p6, p7, p8⟩ := row9 P5.out
            go_wp2_with fail
            refine (C2 _).mono ?_; rintro e w6 ⟨a6, k6, rfl, i6, -, b6⟩
            have G6 := Lib.hid (G5.out.on b6)
            have I6 := Lib.hid i6
            have P6 := Lib.hid (P5.out.below b6 P5.out.lt)
            clear b6 i6 C2 G5 P5 z50 z51 p0 p1 p2 p3 p4 p5 p6 p7 p8
            have z60 := G6.out.z0
            have z61 := G6.out.z1
            go_wp2_with fail
            refine (SS _ _ _ _ _ I6.out G6.out.bytes).mono ?_; rintro e w7 ⟨rfl, b7⟩
            have G7 := Lib.hid (G6.out.on b7)
            have P7 := Lib.hid (P6.out.below b7 P6.out.lt)
            clear b7 SS G6 P6 z60 z61 I6
            go_wp2_with fail
            refine (AL _ G7.out.nm).mono ?_; rintro e w8 ⟨rfl, b8⟩
            have G8 := Lib.hid (G7.out.on b8)
            have P8 := Lib.hid (P7.out.below b8 P7.out.lt)
            clear b8 AL G7 P7
            have z80 := G8.out.z0
            have z81 := G8.out.z1
            obtain ⟨p0, p1, p2, p3, p4, p5, p6, p7, p8⟩ := row9 P8.out
            go_wp2_with fail
            refine (R2 _).mono ?_; rintro e w9 ⟨rfl, b9⟩
            have G9 := Lib.hid (G8.out.on b9)
            go_wp2
            go_ret
            exact ⟨rfl, G9.out.below⟩
          · have D2 := fun W h => (dec_any c is a cap l W cc1 hy h).mono fun e w' q => dec_form (vs := [.int .i64 0, .int .i64 0, .int .i64 0, .int .i64 0, .int .i64 0, .int .i64 0, .int .i64 0, .int .i64 0, .int .i64 0]) q (by rw [dec_no hz]; rfl)
            have dz : (rej c is l != 0) = true := by simpa using hz
            generalize rej c is l = r at *
            clear hz
            have E8 := fun W => eq8 0 0 0 0 0 0 0 0 0 0 0 0 0 0 0 0 9997 W
            rw [show 9997 + 2 = 9999 from rfl] at E8
            go_wp2_with fail
            refine (D2 _ G4.out.bytes).mono ?_; rintro e w5 ⟨rfl, b5⟩
            have bA := b5.alloc b5.size (.cells #[.int .i64 0, .int .i64 0, .int .i64 0, .int .i64 0, .int .i64 0, .int .i64 0, .int .i64 0, .int .i64 0, .int .i64 0] 24)
            have G5 := Lib.hid (G4.out.on bA)
            have P5 := Lib.hid (show IRow .i64 (w5.alloc (.cells #[.int .i64 0, .int .i64 0, .int .i64 0, .int .i64 0, .int .i64 0, .int .i64 0, .int .i64 0, .int .i64 0, .int .i64 0] 24)) w5.heap.size 24 [0, 0, 0, 0, 0, 0, 0, 0, 0] from heap_alloc_new w5 _)
            clear b5 bA D2 G4 z40 z41 y0 y1 y2 y3 y4 y5 y6 y7 y8
            go_wp2_with fail
            refine (AL _ G5.out.nm).mono ?_; rintro e w6 ⟨rfl, b6⟩
            have G6 := Lib.hid (G5.out.on b6)
            have P6 := Lib.hid (P5.out.below b6 P5.out.lt)
            obtain ⟨p0, p1, p2, p3, p4, p5, p6, p7, p8⟩ := row9 P6.out
            go_wp2
            go_ret
            exact ⟨rfl, G6.out.below⟩
end frameBack
end Go.Proofs.YthccllmfecgapaaDoor
