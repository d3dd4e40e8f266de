/-
  The walk of the law FrameRejects: for every frame, every place and every byte it returns true, and writes nothing that was there. Its condition: that the table of names holds the names.
-/
import Derived.Test.YthccllmfecgapaaDoorFrameBackWalk
namespace Go.Proofs.YthccllmfecgapaaDoor
open Go.ChangeShapes Go.WideShapes Go.ChangeAt Go.RowKit Go.Deep
namespace frameRejects
open Fm
open Cr (Bytes bytes_wf)

/-- What lies about while the law goes on: the frame's box, its bytes, the names. -/
structure Bg (w W : World) (fs : List Int) (a : Option Addr) (l : List Int) : Prop where
  box : IRow .i64 W w.heap.size 24 fs
  bytes : IntsAt .u8 W a l
  nm : NamesAt W
  below : Below w.heap.size w W
theorem Bg.on {w W W' : World} {fs : List Int} {a : Option Addr} {l : List Int} (h : Bg w W fs a l) (b : Below W.heap.size W W') : Bg w W' fs a l :=
  ⟨h.box.below b h.box.lt, h.bytes.below b, h.nm.below b, grow h.below b⟩
theorem DecZ (j : Int) {l : List Int} {r : Int} (hy : Bytes l) (hr : rej j true l = r) (h0 : r ≠ 0) (n : Nat) (hn : l.length = n) (W : World) (a : Option Addr) (cap : Nat) (hc : n ≤ cap) (h : IntsAt .u8 W a l) :
    Calls Tryd.prog 9 #[.int .i64 j, .agg #[.bool true, .slice a n cap]] W fun e w' => e = .returned (.tuple #[.agg #[.int .i64 0, .int .i64 0, .int .i64 0, .int .i64 0, .int .i64 0, .int .i64 0, .int .i64 0, .int .i64 0, .int .i64 0], .int .i64 r]) ∧ Below W.heap.size W w' := by
  subst hn
  have C := dec_any j true a cap l W hc hy h
  rw [dec_no (by rw [hr]; exact h0), hr] at C
  exact C.mono fun e w' q => dec_form (vs := [.int .i64 0, .int .i64 0, .int .i64 0, .int .i64 0, .int .i64 0, .int .i64 0, .int .i64 0, .int .i64 0, .int .i64 0]) q rfl
theorem ownLit1 {k : IntKind} {base : Nat} {w : World} {te : TypeId} (x : Int) (hb : base ≤ w.heap.size) : OwnI k base te (w.alloc (.cells #[.int k x] te)) (.slice (some ⟨w.heap.size, 0, none⟩) 1 1) [x] :=
  World.ownsRow_lit w #[.int k x] 1 hb (by decide) rfl

theorem ints1 (w : World) (t : TypeId) (x : Int) : IntsAt .u8 (w.alloc (.cells #[.int .u8 x] t)) (some ⟨w.heap.size, 0, none⟩) [x] := by
  refine Or.inr ⟨_, 0, rfl, ?_⟩
  intro i hi
  simp at hi
  subst hi
  simp [World.cell?_alloc_new]
theorem lit0s {k : IntKind} {base : Nat} {w : World} {te : TypeId} {o : Obj} (hb : base ≤ w.heap.size + 1) : OwnI k base te ((w.alloc o).alloc (.cells #[] te)) (.slice (some ⟨w.heap.size + 1, 0, none⟩) 0 0) [] := by
  have := OwnI.lit0 (w := w.alloc o) (te := te) (k := k) (base := base) (by simpa using hb)
  rw [show (w.alloc o).heap.size = w.heap.size + 1 by simp] at this
  exact this
theorem two_below (w : World) (o p : Obj) : Below w.heap.size w ((w.alloc o).alloc p) := ((Below.refl _ _).alloc (Nat.le_refl _) _).alloc (by simp) _
theorem bad_as {bs : List Int} {k : Nat} {d p : Int} (hp : bs.getD k 0 = p) : bs.set k ((p + d) % 256) = bad bs k d := by unfold bad Cr.plus; rw [hp]

set_option maxHeartbeats 6400000 in
theorem walk (fs : List Int) (p8 d8 : Int) (w : World) (n0 : fs.length = 9) (_w0 : ∀ n ∈ fs, (Lit.int .i64 n).wf = true) (w1 : (Lit.int .u8 p8).wf = true) (w2 : (Lit.int .u8 d8).wf = true) (hN : NamesAt w) :
    Calls Tryd.prog 5 #[.agg (fs.map (.int .i64)).toArray, .int .u8 p8, .int .u8 d8] w fun e w' => e = .returned (.bool true) ∧ Below w.heap.size w w' := by
  obtain ⟨s, v0, v1, v2, v3, v4, v5, v6, v7, rfl⟩ := nine fs n0
  show Calls Tryd.prog 5 #[.agg #[.int .i64 s, .int .i64 v0, .int .i64 v1, .int .i64 v2, .int .i64 v3, .int .i64 v4, .int .i64 v5, .int .i64 v6, .int .i64 v7], .int .u8 p8, .int .u8 d8] w _
  have hp8 := frameBack.u8_in w1
  have hd8 := frameBack.u8_in w2
  have b0 : Below w.heap.size w (w.alloc (.cells #[.int .i64 s, .int .i64 v0, .int .i64 v1, .int .i64 v2, .int .i64 v3, .int .i64 v4, .int .i64 v5, .int .i64 v6, .int .i64 v7] 24)) := (Below.refl w.heap.size w).alloc (Nat.le_refl _) _
  have G0 : Hid (Bg w (w.alloc (.cells #[.int .i64 s, .int .i64 v0, .int .i64 v1, .int .i64 v2, .int .i64 v3, .int .i64 v4, .int .i64 v5, .int .i64 v6, .int .i64 v7] 24)) [s, v0, v1, v2, v3, v4, v5, v6, v7] none []) := Lib.hid ⟨box_row s v0 v1 v2 v3 v4 v5 v6 v7 w, Or.inl rfl, hN.below b0, b0⟩
  have AL := fun W h => alive_any W h
  have CE := fun W => enc_any 1 s v0 v1 v2 v3 v4 v5 v6 v7 W
  have hk : chan 1 = true := by decide
  obtain ⟨y0, y1, y2, y3, y4, y5, y6, y7, y8⟩ := row9 G0.out.box
  clear hN b0 n0 w1 w2
  by_cases hr : right s [v0, v1, v2, v3, v4, v5, v6, v7] = true
  · rw [encE_yes hr hk] at CE
    have HL := enc_len hr hk (vs := [v0, v1, v2, v3, v4, v5, v6, v7]) rfl
    have HY : Bytes (enc 1 s [v0, v1, v2, v3, v4, v5, v6, v7]) := enc_bytes
    obtain ⟨k, hkk⟩ : ∃ k : Nat, p8 % 38 = k := ⟨(p8 % 38).toNat, by omega⟩
    have hk38 : k < 38 := by omega
    have HR := Lib.hid (fun hd => bad_rej hr hk (vs := [v0, v1, v2, v3, v4, v5, v6, v7]) rfl k hk38 d8 hd)
    generalize enc 1 s [v0, v1, v2, v3, v4, v5, v6, v7] = bs at *
    have DS := DecZ 1 (l := bs.take k) (r := 2) (HY.take k) (rej_length (by rw [List.length_take]; omega)) (by decide) k (by rw [List.length_take]; omega)
    have DL := DecZ 1 (l := bs ++ [d8]) (r := 2) (by intro x hx; rcases List.mem_append.1 hx with hx | hx; exact HY x hx; simp at hx; subst hx; exact hd8) (rej_length (by simp; omega)) (by decide) 39 (by simp; omega)
    have HL' := Lib.hid HL
    have HY' := Lib.hid HY
    have ki1 : (k : Int) < 38 := by omega
    go_enter Tryd.func5, Tryd.ntmps5
    go_wp2_with fail
    refine (CE _).mono ?_; rintro e w1 ⟨a1, k1, rfl, i1, m1, b1⟩
    rw [HL] at m1 ⊢
    obtain ⟨bb, off, rfl, i1⟩ := intsAt_some i1 (by omega)
    have G1 := Lib.hid (show Bg w w1 [s, v0, v1, v2, v3, v4, v5, v6, v7] (some ⟨bb, off, none⟩) bs from ⟨(G0.out.on b1).box, i1, (G0.out.on b1).nm, (G0.out.on b1).below⟩)
    clear b1 i1 CE G0 y0 y1 y2 y3 y4 y5 y6 y7 y8 HL HY
    have HA1 := Lib.hid (show ([] : List Int).length + bs.length ≤ maxLen by unfold maxLen; rw [HL'.out]; simp)
    have HA3 := Lib.hid (show bs.length + [d8].length ≤ maxLen by unfold maxLen; rw [HL'.out]; simp)
    have HA4 := Lib.hid (show (bs.length + [d8].length) * 1 ≤ 140737488355328 by rw [HL'.out]; simp)
    have H39 := Lib.hid (show (bs ++ [d8]).length = 39 by simp [HL'.out])
    have HA2 := Lib.hid (show (([] : List Int).length + bs.length) * 1 ≤ 140737488355328 by rw [HL'.out]; simp)
    by_cases hd0 : d8 = 0
    · subst hd0
      go_wp2_with fail
      refine (DS _ _ _ (by omega) (G1.out.bytes.take _)).mono ?_; rintro e w3 ⟨rfl, b3⟩
      have G3 := Lib.hid (G1.out.on b3)
      clear b3 DS G1
      go_wp2_with (first
        | ((with_reducible show wpList _ _ _ (⟨some 80, _, _, _, _, _⟩ :: _) _ _); refine wpList_appendI rfl (.tmp 78) (.tmp 79) _ rfl .u8 w3.heap.size 5 1 Tryd.underlying25 Wd.byteInfo _ [] (some ⟨bb, off, none⟩) 38 k1 bs rfl rfl HL'.out (lit0s (Nat.le_succ _)) (G3.out.bytes.below (two_below w3 _ _)) HA1.out HA2.out w3 (two_below w3 _ _) (Nat.le_refl _) ?_
           intro v4 W4 O4' B4'; rw [List.nil_append] at O4'; have O4 := Lib.hid O4'; have B4 := Lib.hid B4'; clear O4' B4')
        | ((with_reducible show wpList _ _ _ (⟨some 83, _, _, _, _, _⟩ :: _) _ _); refine wpList_appendI rfl (.tmp 80) (.tmp 82) _ rfl .u8 w3.heap.size 5 1 Tryd.underlying25 Wd.byteInfo v4 bs (some ⟨W4.heap.size, 0, none⟩) 1 1 [0] rfl rfl rfl (O4.out.alloc _) (ints1 W4 _ 0) HA3.out HA4.out w3 (B4.out.alloc B4.out.size _) (Nat.le_refl _) ?_
           intro v5 W5 O5' B5'; obtain ⟨a5, k5, rfl, i5, m5, _⟩ := O5'.form2; rw [H39.out] at m5 ⊢; have I5 := Lib.hid i5; have G5 := Lib.hid (G3.out.on B5'); clear O5' i5 B5' O4 B4 G3))
      refine (DL _ _ _ m5 I5.out).mono ?_; rintro e w6 ⟨rfl, b6⟩
      have bA := b6.alloc b6.size (.cells #[.int .i64 0, .int .i64 0, .int .i64 0, .int .i64 0, .int .i64 0, .int .i64 0, .int .i64 0, .int .i64 0, .int .i64 0] 24)
      have G6 := Lib.hid (G5.out.on bA)
      clear b6 bA DL G5
      go_wp2_with fail
      refine (AL _ G6.out.nm).mono ?_; rintro e w7 ⟨rfl, b7⟩
      have G7 := Lib.hid (G6.out.on b7)
      go_wp2
      go_ret
      exact ⟨rfl, G7.out.below⟩
    · have dd : (d8 != 0) = true := by simpa using hd0
      have E8 := fun W => eq8 0 0 0 0 0 0 0 0 0 0 0 0 0 0 0 0 9997 W
      rw [show 9997 + 2 = 9999 from rfl] at E8
      obtain ⟨want, hwant⟩ : ∃ x : Int, x = if k = 0 then 3 else if k = 1 then 4 else 5 := ⟨_, rfl⟩
      have hb := HR.out (by omega)
      rw [← hwant] at hb
      have hw0 : want ≠ 0 := by rw [hwant]; split; decide; split; decide; decide
      have DB := DecZ 1 (bad_bytes HY'.out k d8) hb hw0 38 (by rw [bad_len, HL'.out])
      clear hb
      go_wp2_with (first
        | ((with_reducible show wpList _ _ _ (⟨some 41, _, _, _, _, _⟩ :: _) _ _); refine wpList_appendI rfl (.tmp 39) (.tmp 40) _ rfl .u8 w1.heap.size 5 1 Tryd.underlying25 Wd.byteInfo _ [] (some ⟨bb, off, none⟩) 38 k1 bs rfl rfl HL'.out (OwnI.lit0 (Nat.le_refl _)) (G1.out.bytes.below ((Below.refl _ _).alloc (Nat.le_refl _) _)) HA1.out HA2.out w1 ((Below.refl _ _).alloc (Nat.le_refl _) _) (Nat.le_refl _) ?_
           intro v8 W8 O8' B8'; rw [List.nil_append] at O8'; obtain ⟨g, cp, rfl, hg, hcp, _⟩ := O8'.row (by rw [HL'.out]; omega); have c8a := O8'.cell k (by rw [HL'.out]; omega); generalize hp : bs.getD k 0 = p at c8a; have f8a := O8'.frozen k; rw [HL'.out]; have O8 := Lib.hid O8'; have B8 := Lib.hid B8'; have HCP := Lib.hid hcp; clear O8' B8' hcp))
      have O9' := O8.out.stored k ((p + d8) % 256)
      rw [bad_as hp] at O9'
      have B9 := Lib.hid (B8.out.setCell (p := ⟨g, k, none⟩) hg (.int .u8 ((p + d8) % 256)))
      clear hp
      obtain ⟨a9, c9, hv9, i9⟩ := O9'.form
      injection hv9 with h1 h2 h3
      rw [← h1] at i9
      have G9 := Lib.hid (G1.out.on B9.out)
      have I9 := Lib.hid i9
      clear h1 h2 h3 i9 O9' O8 B8 B9 G1
      refine (DB _ _ _ (by have := HCP.out; rw [HL'.out] at this; exact this) I9.out).mono ?_; rintro e w10 ⟨rfl, b10⟩
      have bA := b10.alloc b10.size (.cells #[.int .i64 0, .int .i64 0, .int .i64 0, .int .i64 0, .int .i64 0, .int .i64 0, .int .i64 0, .int .i64 0, .int .i64 0] 24)
      have G10 := Lib.hid (G9.out.on bA)
      have P10 := Lib.hid (show IRow .i64 (w10.alloc (.cells #[.int .i64 0, .int .i64 0, .int .i64 0, .int .i64 0, .int .i64 0, .int .i64 0, .int .i64 0, .int .i64 0, .int .i64 0] 24)) w10.heap.size 24 [0, 0, 0, 0, 0, 0, 0, 0, 0] from heap_alloc_new w10 _)
      clear b10 bA DB G9 I9
      obtain ⟨q0, q1, q2, q3, q4, q5, q6, q7, q8⟩ := row9 P10.out
      by_cases hk0 : k = 0
      · subst hk0
        obtain rfl : want = 3 := hwant
        go_wp2_with fail
        refine (DS _ _ _ (by omega) (G10.out.bytes.take _)).mono ?_; rintro e w3 ⟨rfl, b3⟩
        have G3 := Lib.hid (G10.out.on b3)
        clear b3 DS G10
        go_wp2_with (first
          | ((with_reducible show wpList _ _ _ (⟨some 80, _, _, _, _, _⟩ :: _) _ _); refine wpList_appendI rfl (.tmp 78) (.tmp 79) _ rfl .u8 w3.heap.size 5 1 Tryd.underlying25 Wd.byteInfo _ [] (some ⟨bb, off, none⟩) 38 k1 bs rfl rfl HL'.out (lit0s (Nat.le_succ _)) (G3.out.bytes.below (two_below w3 _ _)) HA1.out HA2.out w3 (two_below w3 _ _) (Nat.le_refl _) ?_
             intro v4 W4 O4' B4'; rw [List.nil_append] at O4'; have O4 := Lib.hid O4'; have B4 := Lib.hid B4'; clear O4' B4')
          | ((with_reducible show wpList _ _ _ (⟨some 83, _, _, _, _, _⟩ :: _) _ _); refine wpList_appendI rfl (.tmp 80) (.tmp 82) _ rfl .u8 w3.heap.size 5 1 Tryd.underlying25 Wd.byteInfo v4 bs (some ⟨W4.heap.size, 0, none⟩) 1 1 [d8] rfl rfl rfl (O4.out.alloc _) (ints1 W4 _ d8) HA3.out HA4.out w3 (B4.out.alloc B4.out.size _) (Nat.le_refl _) ?_
             intro v5 W5 O5' B5'; obtain ⟨a5, k5, rfl, i5, m5, _⟩ := O5'.form2; rw [H39.out] at m5 ⊢; have I5 := Lib.hid i5; have G5 := Lib.hid (G3.out.on B5'); clear O5' i5 B5' O4 B4 G3))
        refine (DL _ _ _ m5 I5.out).mono ?_; rintro e w6 ⟨rfl, b6⟩
        have bA := b6.alloc b6.size (.cells #[.int .i64 0, .int .i64 0, .int .i64 0, .int .i64 0, .int .i64 0, .int .i64 0, .int .i64 0, .int .i64 0, .int .i64 0] 24)
        have G6 := Lib.hid (G5.out.on bA)
        clear b6 bA DL G5
        go_wp2_with fail
        refine (AL _ G6.out.nm).mono ?_; rintro e w7 ⟨rfl, b7⟩
        have G7 := Lib.hid (G6.out.on b7)
        go_wp2
        go_ret
        exact ⟨rfl, G7.out.below⟩
      · rw [if_neg hk0] at hwant
        have e0 : ((k : Int) == 0) = false := by simp; omega
        by_cases hk1 : k = 1
        · subst hk1
          obtain rfl : want = 4 := hwant
          go_wp2_with fail
          refine (DS _ _ _ (by omega) (G10.out.bytes.take _)).mono ?_; rintro e w3 ⟨rfl, b3⟩
          have G3 := Lib.hid (G10.out.on b3)
          clear b3 DS G10
          go_wp2_with (first
            | ((with_reducible show wpList _ _ _ (⟨some 80, _, _, _, _, _⟩ :: _) _ _); refine wpList_appendI rfl (.tmp 78) (.tmp 79) _ rfl .u8 w3.heap.size 5 1 Tryd.underlying25 Wd.byteInfo _ [] (some ⟨bb, off, none⟩) 38 k1 bs rfl rfl HL'.out (lit0s (Nat.le_succ _)) (G3.out.bytes.below (two_below w3 _ _)) HA1.out HA2.out w3 (two_below w3 _ _) (Nat.le_refl _) ?_
               intro v4 W4 O4' B4'; rw [List.nil_append] at O4'; have O4 := Lib.hid O4'; have B4 := Lib.hid B4'; clear O4' B4')
            | ((with_reducible show wpList _ _ _ (⟨some 83, _, _, _, _, _⟩ :: _) _ _); refine wpList_appendI rfl (.tmp 80) (.tmp 82) _ rfl .u8 w3.heap.size 5 1 Tryd.underlying25 Wd.byteInfo v4 bs (some ⟨W4.heap.size, 0, none⟩) 1 1 [d8] rfl rfl rfl (O4.out.alloc _) (ints1 W4 _ d8) HA3.out HA4.out w3 (B4.out.alloc B4.out.size _) (Nat.le_refl _) ?_
               intro v5 W5 O5' B5'; obtain ⟨a5, k5, rfl, i5, m5, _⟩ := O5'.form2; rw [H39.out] at m5 ⊢; have I5 := Lib.hid i5; have G5 := Lib.hid (G3.out.on B5'); clear O5' i5 B5' O4 B4 G3))
          refine (DL _ _ _ m5 I5.out).mono ?_; rintro e w6 ⟨rfl, b6⟩
          have bA := b6.alloc b6.size (.cells #[.int .i64 0, .int .i64 0, .int .i64 0, .int .i64 0, .int .i64 0, .int .i64 0, .int .i64 0, .int .i64 0, .int .i64 0] 24)
          have G6 := Lib.hid (G5.out.on bA)
          clear b6 bA DL G5
          go_wp2_with fail
          refine (AL _ G6.out.nm).mono ?_; rintro e w7 ⟨rfl, b7⟩
          have G7 := Lib.hid (G6.out.on b7)
          go_wp2
          go_ret
          exact ⟨rfl, G7.out.below⟩
        · rw [if_neg hk1] at hwant
          subst hwant
          have e1 : ((k : Int) == 1) = false := by simp; omega
          go_wp2_with fail
          refine (DS _ _ _ (by omega) (G10.out.bytes.take _)).mono ?_; rintro e w3 ⟨rfl, b3⟩
          have G3 := Lib.hid (G10.out.on b3)
          clear b3 DS G10
          go_wp2_with (first
            | ((with_reducible show wpList _ _ _ (⟨some 80, _, _, _, _, _⟩ :: _) _ _); refine wpList_appendI rfl (.tmp 78) (.tmp 79) _ rfl .u8 w3.heap.size 5 1 Tryd.underlying25 Wd.byteInfo _ [] (some ⟨bb, off, none⟩) 38 k1 bs rfl rfl HL'.out (lit0s (Nat.le_succ _)) (G3.out.bytes.below (two_below w3 _ _)) HA1.out HA2.out w3 (two_below w3 _ _) (Nat.le_refl _) ?_
               intro v4 W4 O4' B4'; rw [List.nil_append] at O4'; have O4 := Lib.hid O4'; have B4 := Lib.hid B4'; clear O4' B4')
            | ((with_reducible show wpList _ _ _ (⟨some 83, _, _, _, _, _⟩ :: _) _ _); refine wpList_appendI rfl (.tmp 80) (.tmp 82) _ rfl .u8 w3.heap.size 5 1 Tryd.underlying25 Wd.byteInfo v4 bs (some ⟨W4.heap.size, 0, none⟩) 1 1 [d8] rfl rfl rfl (O4.out.alloc _) (ints1 W4 _ d8) HA3.out HA4.out w3 (B4.out.alloc B4.out.size _) (Nat.le_refl _) ?_
               intro v5 W5 O5' B5'; obtain ⟨a5, k5, rfl, i5, m5, _⟩ := O5'.form2; rw [H39.out] at m5 ⊢; have I5 := Lib.hid i5; have G5 := Lib.hid (G3.out.on B5'); clear O5' i5 B5' O4 B4 G3))
          refine (DL _ _ _ m5 I5.out).mono ?_; rintro e w6 ⟨rfl, b6⟩
          have bA := b6.alloc b6.size (.cells #[.int .i64 0, .int .i64 0, .int .i64 0, .int .i64 0, .int .i64 0, .int .i64 0, .int .i64 0, .int .i64 0, .int .i64 0] 24)
          have G6 := Lib.hid (G5.out.on bA)
          clear b6 bA DL G5
          go_wp2_with fail
          refine (AL _ G6.out.nm).mono ?_; rintro e w7 ⟨rfl, b7⟩
          have G7 := Lib.hid (G6.out.on b7)
          go_wp2
          go_ret
          exact ⟨rfl, G7.out.below⟩
  · rw [enc_no (fun q => hr q.1), encE_no (fun q => hr q.1)] at CE
    go_enter Tryd.func5, Tryd.ntmps5
    go_wp2_with fail
    refine (CE _).mono ?_; rintro e w1 ⟨a1, k1, rfl, -, -, b1⟩
    have G1 := Lib.hid (G0.out.on b1)
    clear b1 CE G0 y0 y1 y2 y3 y4 y5 y6 y7 y8
    go_wp2_with fail
    refine (AL _ G1.out.nm).mono ?_; rintro e w2 ⟨rfl, b2⟩
    have G2 := Lib.hid (G1.out.on b2)
    go_wp2
    go_ret
    exact ⟨rfl, G2.out.below⟩
end frameRejects
end Go.Proofs.YthccllmfecgapaaDoor
