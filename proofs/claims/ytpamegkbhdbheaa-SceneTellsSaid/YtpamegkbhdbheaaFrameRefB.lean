/-
  What Encode of rudderref05 does: its contract by walking the Go text. No conditions.
-/
import Derived.Test.YtpamegkbhdbheaaFrameRefA
import Derived.Test.YtpamegkbhdbheaaJCrcOpen3
namespace Go.Proofs.Ytpamegkbhdbheaa
set_option maxRecDepth 100000
open Go.ChangeShapes Go.WideShapes Go.ChangeAt Go.RowKit Go.Deep
namespace Fm
open Wd
open Cr (Bytes)

/-- What the reference's Encode hands back. -/
def RetIE (w : World) (l : List Int) (x : Int) (e : Ending) (w' : World) : Prop :=
  ∃ a cap, e = .returned (.tuple #[.slice a l.length cap, .int .i64 x]) ∧ IntsAt .u8 w' a l ∧ Below w.heap.size w w'
theorem retIE_nil {w w' : World} {l : List Int} {x : Int} (he : l = []) (hx : x = 1) (h : Below w.heap.size w w') : RetIE w l x (.returned (.tuple #[.slice none 0 0, .int .i64 1])) w' := by
  subst he; subst hx; exact ⟨none, 0, rfl, Or.inl rfl, h⟩
theorem retIE_mk {w w' : World} {a : Option Addr} {l l' : List Int} {n cap : Nat} {x : Int} (he : l' = l) (hn : l'.length = n) (hx : x = 0) (hi : IntsAt .u8 w' a l') (hb : Below w.heap.size w w') :
    RetIE w l x (.returned (.tuple #[.slice a n cap, .int .i64 0])) w' := by subst he; subst hn; subst hx; exact ⟨a, cap, rfl, hi, hb⟩

set_option maxHeartbeats 1600000 in
theorem renc_yes_any (c s v0 v1 v2 v3 v4 v5 v6 v7 : Int) (w : World) (hr : right s [v0, v1, v2, v3, v4, v5, v6, v7] = true) (hk : chan c = true) :
    Calls Try.prog 31 #[.int .i64 c, .agg #[.int .i64 s, .int .i64 v0, .int .i64 v1, .int .i64 v2, .int .i64 v3, .int .i64 v4, .int .i64 v5, .int .i64 v6, .int .i64 v7]] w (RetIE w (enc c s [v0, v1, v2, v3, v4, v5, v6, v7]) (encE c s [v0, v1, v2, v3, v4, v5, v6, v7])) := by
  have BA := Lib.hid ((Below.refl w.heap.size w).alloc (Nat.le_refl _) (.cells #[.int .i64 s, .int .i64 v0, .int .i64 v1, .int .i64 v2, .int .i64 v3, .int .i64 v4, .int .i64 v5, .int .i64 v6, .int .i64 v7] 52))
  have HBX := Lib.hid (box_row s v0 v1 v2 v3 v4 v5 v6 v7 w)
  have CR := rright_any s v0 v1 v2 v3 v4 v5 v6 v7 (w.alloc (.cells #[.int .i64 s, .int .i64 v0, .int .i64 v1, .int .i64 v2, .int .i64 v3, .int .i64 v4, .int .i64 v5, .int .i64 v6, .int .i64 v7] 52))
  rw [hr] at CR
  have CP := fun W => Wr.rput2_any s W
  obtain ⟨ha, h2⟩ := (right_iff s [v0, v1, v2, v3, v4, v5, v6, v7]).1 hr
  have l2 := put2_len h2
  have HI := Lib.hid (fun k hk => in4_at ha (i := k) hk)
  have HN := Lib.hid (fun k hk => fours_next [v0, v1, v2, v3, v4, v5, v6, v7] k hk)
  have HW := Lib.hid (show ∀ k, (fours ([v0, v1, v2, v3, v4, v5, v6, v7].take k)).length ≤ 32 from fun k => by
    have := fours_le ([v0, v1, v2, v3, v4, v5, v6, v7].take k)
    rw [List.length_take] at this
    have : min k ([v0, v1, v2, v3, v4, v5, v6, v7].length) ≤ 8 := Nat.min_le_right _ _
    omega)
  have HH := Lib.hid (show ([165, c] ++ put2 s) ++ fours [v0, v1, v2, v3, v4, v5, v6, v7] = head c s [v0, v1, v2, v3, v4, v5, v6, v7] by unfold head; rw [List.append_assoc])
  have HL := head_len (c := c) hr (show [v0, v1, v2, v3, v4, v5, v6, v7].length = 8 from rfl)
  have HY := Lib.hid (head_bytes (s := s) (vs := [v0, v1, v2, v3, v4, v5, v6, v7]) hk)
  have HE := Lib.hid (enc_yes hr hk)
  have HZ := Lib.hid (encE_yes hr hk)
  obtain ⟨k1, k2⟩ := (chan_iff c).1 hk
  have d1 : decide (c < 0) = false := by simp; omega
  have d2 : decide (3 < c) = false := by simp; omega
  have hsz : w.heap.size + 1 = (w.alloc (.cells #[.int .i64 s, .int .i64 v0, .int .i64 v1, .int .i64 v2, .int .i64 v3, .int .i64 v4, .int .i64 v5, .int .i64 v6, .int .i64 v7] 52)).heap.size := by simp
  have CS := fun W a cap h => Cr.rseal_any a cap (head c s [v0, v1, v2, v3, v4, v5, v6, v7]) W (by omega) HY.out h
  rw [HL] at CS
  clear hr hk ha h2
  generalize put2 s = p2 at *
  generalize Cr.sealed (head c s [v0, v1, v2, v3, v4, v5, v6, v7]) = sl at *
  generalize head c s [v0, v1, v2, v3, v4, v5, v6, v7] = hd at *
  go_enter Try.func31, Try.ntmps31
  go_wp2_with (first
    | (go_at_call 44; refine CR.mono ?_; rintro e w1 ⟨rfl, b1⟩
       have R1 := Lib.hid (HBX.out.below b1 (by simp))
       have B1 := Lib.hid (b1.mono (Nat.le_of_eq hsz))
       have hs1 : w.heap.size + 1 ≤ w1.heap.size := by have := b1.size; simp at this; omega
       have R2 := Lib.hid (R1.out.alloc (.cells #[.int .u8 165, .int .u8 c] 5))
       have c2 : (w1.alloc (.cells #[.int .u8 165, .int .u8 c] 5)).cell? ⟨w.heap.size, 0, none⟩ = some (.int .i64 s) := R2.out.cell 0 (by simp)
       have O2 := Lib.hid (ownLit2 (k := .u8) (te := 5) (w := w1) 165 c hs1)
       have B2 := Lib.hid (B1.out.alloc hs1 (.cells #[.int .u8 165, .int .u8 c] 5))
       clear b1 B1)
    | (go_at_call 45; refine (CP _).mono ?_; rintro e w3 ⟨a3, cap3, rfl, i3, b3⟩
       have I3 := Lib.hid i3
       have hs2 : w.heap.size + 1 ≤ (w1.alloc (.cells #[.int .u8 165, .int .u8 c] 5)).heap.size := by simp; omega
       have O3 := Lib.hid (O2.out.below b3)
       have B3 := Lib.hid (grow_from B2.out b3 hs2)
       clear i3 b3 B2 O2)
    | ((with_reducible show wpList _ _ _ (⟨some 28, _, _, _, _, _⟩ :: _) _ _); refine wpList_appendI rfl (.tmp 24) (.tmp 27) _ rfl .u8 (w.heap.size + 1) 5 1 Try.underlying42 Wd.byteInfo _ [165, c] a3 2 cap3 p2 rfl rfl l2 O3.out I3.out (by simp [l2, maxLen]) (by simp [l2]) _ B3.out (Nat.le_of_eq hsz) ?_
       intro u4 w4 O4' B4'; have O4 := Lib.hid O4'; have B4 := Lib.hid B4'; clear O4' B4' O3 I3 B3))
  clear c2 R2 R1
  go_loopg [7, 8] 8 (fun gg s7 s8 wr => ∃ k : Nat, k + gg = 8 ∧ s8 = .int .i64 k ∧ Hid (OwnI .u8 (w.heap.size + 1) 5 wr s7 (([165, c] ++ p2) ++ fours ([v0, v1, v2, v3, v4, v5, v6, v7].take k))) ∧ Hid (Below (w.heap.size + 1) (w.alloc (.cells #[.int .i64 s, .int .i64 v0, .int .i64 v1, .int .i64 v2, .int .i64 v3, .int .i64 v4, .int .i64 v5, .int .i64 v6, .int .i64 v7] 52)) wr))
  case atStart => exact ⟨0, by omega, rfl, Lib.hid (by rw [List.take_zero]; show OwnI _ _ _ _ _ (_ ++ []); rw [List.append_nil]; exact O4.out), B4⟩
  case round =>
    rename World => W1
    obtain ⟨k, hkg, rfl, O5, B5⟩ := hrel
    have hs5 : w.heap.size + 1 ≤ W1.heap.size := by have := B5.out.size; simp at this; omega
    by_cases hk : k < 8
    · have hki : (k : Int) < 8 := by omega
      have hx : W1.cell? ⟨w.heap.size, 1 + k, none⟩ = some (.int .i64 ([v0, v1, v2, v3, v4, v5, v6, v7].getD k 0)) := by
        rw [B5.out.cell (p := ⟨w.heap.size, 1 + k, none⟩) (Nat.lt_succ_self _), HBX.out.cell (1 + k) (by simp; omega), Nat.add_comm]; rfl
      have h4 := HI.out k (by simpa using hk)
      have l4 := put4_len h4
      have C4 := Wr.rput4_any ([v0, v1, v2, v3, v4, v5, v6, v7].getD k 0) W1
      have HNk := Lib.hid (HN.out k (by simpa using hk))
      have hw := HW.out k
      generalize [v0, v1, v2, v3, v4, v5, v6, v7].getD k 0 = x at *
      generalize hq : put4 x = q at *
      generalize hf : fours ([v0, v1, v2, v3, v4, v5, v6, v7].take k) = fk at *
      clear h4
      go_wp2_with (first
        | (go_at_call 46; refine C4.mono ?_; rintro e w6 ⟨a6, cap6, rfl, i6, b6⟩
           have I6 := Lib.hid i6
           have O6 := Lib.hid (O5.out.below b6)
           have B6 := Lib.hid (grow_from B5.out b6 hs5)
           clear i6 b6 O5 B5)
        | ((with_reducible show wpList _ _ _ (⟨some 39, _, _, _, _, _⟩ :: _) _ _); refine wpList_appendI rfl (.tmp 33) (.tmp 38) _ rfl .u8 (w.heap.size + 1) 5 1 Try.underlying42 Wd.byteInfo _ (([165, c] ++ p2) ++ fk) a6 4 cap6 q rfl rfl l4 O6.out I6.out (by simp [l2, l4, maxLen]; omega) (by simp [l2, l4]; omega) _ B6.out (Nat.le_of_eq hsz) ?_
           intro u7 w7 O7' B7'; rw [List.append_assoc, ← HNk.out] at O7'; have O7 := Lib.hid O7'; have B7 := Lib.hid B7'; clear O7' B7' O6 I6 B6))
      go_roundg (gk - 1)
      case rel => exact ⟨k + 1, by omega, by go_num, O7, B7⟩
      case measure => omega
    · obtain rfl : k = 8 := by omega
      have O6 := O5
      rw [show [v0, v1, v2, v3, v4, v5, v6, v7].take 8 = [v0, v1, v2, v3, v4, v5, v6, v7] from rfl, HH.out] at O6
      obtain ⟨a6, cap6, rfl, i6⟩ := O6.out.form
      have I6 := Lib.hid i6
      clear i6 O5 O6
      rw [HL]
      go_wp2_with (go_at_call 47; refine (CS _ _ _ I6.out).mono ?_; rintro e w7 ⟨a7, cap7, rfl, i7, b7⟩
                   have I7 := Lib.hid i7
                   have B7 := Lib.hid (BA.out.trans ((grow_from B5.out b7 hs5).mono (Nat.le_succ _)))
                   clear i7 b7)
      go_ret2
      exact retIE_mk HE.out.symm rfl HZ.out I7.out B7.out

theorem renc_no_any (c s v0 v1 v2 v3 v4 v5 v6 v7 : Int) (w : World) (hn : ¬ (right s [v0, v1, v2, v3, v4, v5, v6, v7] = true ∧ chan c = true)) :
    Calls Try.prog 31 #[.int .i64 c, .agg #[.int .i64 s, .int .i64 v0, .int .i64 v1, .int .i64 v2, .int .i64 v3, .int .i64 v4, .int .i64 v5, .int .i64 v6, .int .i64 v7]] w (RetIE w (enc c s [v0, v1, v2, v3, v4, v5, v6, v7]) (encE c s [v0, v1, v2, v3, v4, v5, v6, v7])) := by
  have BA := Lib.hid ((Below.refl w.heap.size w).alloc (Nat.le_refl _) (.cells #[.int .i64 s, .int .i64 v0, .int .i64 v1, .int .i64 v2, .int .i64 v3, .int .i64 v4, .int .i64 v5, .int .i64 v6, .int .i64 v7] 52))
  have HE := Lib.hid (enc_no hn)
  have HZ := Lib.hid (encE_no hn)
  have CR := rright_any s v0 v1 v2 v3 v4 v5 v6 v7 (w.alloc (.cells #[.int .i64 s, .int .i64 v0, .int .i64 v1, .int .i64 v2, .int .i64 v3, .int .i64 v4, .int .i64 v5, .int .i64 v6, .int .i64 v7] 52))
  cases hr : right s [v0, v1, v2, v3, v4, v5, v6, v7]
  · rw [hr] at CR
    clear hn hr
    go_enter Try.func31, Try.ntmps31
    go_wp2_with (go_at_call 44; refine CR.mono ?_; rintro e w1 ⟨rfl, b1⟩
                 have B1 := Lib.hid (grow_from BA.out b1 (by simp)); clear b1)
    go_ret2
    exact retIE_nil HE.out HZ.out B1.out
  · rw [hr] at CR
    have hc : c < 0 ∨ 4 ≤ c := by
      have : ¬ chan c = true := fun q => hn ⟨hr, q⟩
      rw [chan_iff] at this; omega
    clear hn hr
    by_cases h1 : c < 0
    · have d1 : decide (c < 0) = true := by simpa using h1
      go_enter Try.func31, Try.ntmps31
      go_wp2_with (go_at_call 44; refine CR.mono ?_; rintro e w1 ⟨rfl, b1⟩
                   have B1 := Lib.hid (grow_from BA.out b1 (by simp)); clear b1)
      go_ret2
      exact retIE_nil HE.out HZ.out B1.out
    · have d1 : decide (c < 0) = false := by simpa using h1
      have d2 : decide (3 < c) = true := by simp; omega
      go_enter Try.func31, Try.ntmps31
      go_wp2_with (go_at_call 44; refine CR.mono ?_; rintro e w1 ⟨rfl, b1⟩
                   have B1 := Lib.hid (grow_from BA.out b1 (by simp)); clear b1)
      go_ret2
      exact retIE_nil HE.out HZ.out B1.out
theorem renc_any (c s v0 v1 v2 v3 v4 v5 v6 v7 : Int) (w : World) : Calls Try.prog 31 #[.int .i64 c, .agg #[.int .i64 s, .int .i64 v0, .int .i64 v1, .int .i64 v2, .int .i64 v3, .int .i64 v4, .int .i64 v5, .int .i64 v6, .int .i64 v7]] w (RetIE w (enc c s [v0, v1, v2, v3, v4, v5, v6, v7]) (encE c s [v0, v1, v2, v3, v4, v5, v6, v7])) := by
  by_cases h : right s [v0, v1, v2, v3, v4, v5, v6, v7] = true ∧ chan c = true
  · exact renc_yes_any c s v0 v1 v2 v3 v4 v5 v6 v7 w h.1 h.2
  · exact renc_no_any c s v0 v1 v2 v3 v4 v5 v6 v7 w h
end Fm
end Go.Proofs.Ytpamegkbhdbheaa
