/-
  What Encode of package frame does: its contract by walking the Go text. No conditions.
-/
import Derived.Test.YtpamegkbhdbheaaFrameRead
import Derived.Test.YtpamegkbhdbheaaWordPutAll
import Derived.Test.YtpamegkbhdbheaaJCrcStep3
namespace Go.Proofs.Ytpamegkbhdbheaa
set_option maxRecDepth 100000
open Go.ChangeShapes Go.WideShapes Go.ChangeAt Go.RowKit Go.Deep
namespace Fm
open Wd
open Cr (Bytes)

/-- What Encode hands back: bytes, and an error's number. -/
def RetCE (w : World) (l : List Int) (x : Int) (e : Ending) (w' : World) : Prop :=
  ∃ a cap, e = .returned (.tuple #[.slice a l.length cap, .int .i64 x]) ∧ IntsAt .u8 w' a l ∧ l.length ≤ cap ∧ Below w.heap.size w w'
theorem retCE_nil {w w' : World} {l : List Int} {x : Int} (he : l = []) (hx : x = 1) (h : Below w.heap.size w w') : RetCE w l x (.returned (.tuple #[.slice none 0 0, .int .i64 1])) w' := by
  subst he; subst hx; exact ⟨none, 0, rfl, Or.inl rfl, Nat.le_refl _, h⟩
theorem retCE_mk {w w' : World} {a : Option Addr} {l l' : List Int} {n cap : Nat} {x : Int} (he : l' = l) (hn : l'.length = n) (hx : x = 0) (hc : n ≤ cap) (hi : IntsAt .u8 w' a l') (hb : Below w.heap.size w w') :
    RetCE w l x (.returned (.tuple #[.slice a n cap, .int .i64 0])) w' := by subst he; subst hn; subst hx; exact ⟨a, cap, rfl, hi, hc, hb⟩
theorem ownLit2 {k : IntKind} {base : Nat} {w : World} {te : TypeId} (x y : Int) (hb : base ≤ w.heap.size) : OwnI k base te (w.alloc (.cells #[.int k x, .int k y] te)) (.slice (some ⟨w.heap.size, 0, none⟩) 2 2) [x, y] :=
  World.ownsRow_lit w #[.int k x, .int k y] 2 hb (by decide) rfl

theorem box_row (s v0 v1 v2 v3 v4 v5 v6 v7 : Int) (w : World) : IRow .i64 (w.alloc (.cells #[.int .i64 s, .int .i64 v0, .int .i64 v1, .int .i64 v2, .int .i64 v3, .int .i64 v4, .int .i64 v5, .int .i64 v6, .int .i64 v7] 52)) w.heap.size 52 [s, v0, v1, v2, v3, v4, v5, v6, v7] := heap_alloc_new w _
theorem box_vals {W : World} {g : Nat} {t : TypeId} {s v0 v1 v2 v3 v4 v5 v6 v7 : Int} (h : IRow .i64 W g t [s, v0, v1, v2, v3, v4, v5, v6, v7]) : IntsAt .i64 W (some ⟨g, 1, none⟩) [v0, v1, v2, v3, v4, v5, v6, v7] := by
  rcases h.ints with h0 | ⟨b, off, he, hc⟩
  · cases h0
  · cases he; exact intsAt_drop (l := [s, v0, v1, v2, v3, v4, v5, v6, v7]) 1 hc

set_option maxHeartbeats 1600000 in
theorem enc_yes_any (c s v0 v1 v2 v3 v4 v5 v6 v7 : Int) (w : World) (hr : right s [v0, v1, v2, v3, v4, v5, v6, v7] = true) (hk : chan c = true) :
    Calls Try.prog 39 #[.int .i64 c, .agg #[.int .i64 s, .int .i64 v0, .int .i64 v1, .int .i64 v2, .int .i64 v3, .int .i64 v4, .int .i64 v5, .int .i64 v6, .int .i64 v7]] w (RetCE w (enc c s [v0, v1, v2, v3, v4, v5, v6, v7]) (encE c s [v0, v1, v2, v3, v4, v5, v6, v7])) := by
  have BA := Lib.hid ((Below.refl w.heap.size w).alloc (Nat.le_refl _) (.cells #[.int .i64 s, .int .i64 v0, .int .i64 v1, .int .i64 v2, .int .i64 v3, .int .i64 v4, .int .i64 v5, .int .i64 v6, .int .i64 v7] 52))
  have HBX := Lib.hid (box_row s v0 v1 v2 v3 v4 v5 v6 v7 w)
  have CR := right_any s v0 v1 v2 v3 v4 v5 v6 v7 (w.alloc (.cells #[.int .i64 s, .int .i64 v0, .int .i64 v1, .int .i64 v2, .int .i64 v3, .int .i64 v4, .int .i64 v5, .int .i64 v6, .int .i64 v7] 52))
  rw [hr] at CR
  have CP := fun W => put2_any s W
  have CA := fun W h => putAll_any (some ⟨w.heap.size, 1, none⟩) 8 [v0, v1, v2, v3, v4, v5, v6, v7] W (by simp) h
  obtain ⟨ha, h2⟩ := (right_iff s [v0, v1, v2, v3, v4, v5, v6, v7]).1 hr
  have l2 := put2_len h2
  have l4 : (putAll [v0, v1, v2, v3, v4, v5, v6, v7]).length = 32 := by rw [putAll_yes ha, fours_len _ ha]; rfl
  have HH := Lib.hid (show ([165, c] ++ put2 s) ++ putAll [v0, v1, v2, v3, v4, v5, v6, v7] = head c s [v0, v1, v2, v3, v4, v5, v6, v7] by unfold head; rw [putAll_yes ha, List.append_assoc])
  have HL := head_len (c := c) hr (show [v0, v1, v2, v3, v4, v5, v6, v7].length = 8 from rfl)
  have HY := Lib.hid (head_bytes (s := s) (vs := [v0, v1, v2, v3, v4, v5, v6, v7]) hk)
  have HE := Lib.hid (enc_yes hr hk)
  have HZ := Lib.hid (encE_yes hr hk)
  obtain ⟨k1, k2⟩ := (chan_iff c).1 hk
  have d1 : decide (c < 0) = false := by simp; omega
  have d2 : decide (4 ≤ c) = false := by simp; omega
  have hsz : w.heap.size + 1 = (w.alloc (.cells #[.int .i64 s, .int .i64 v0, .int .i64 v1, .int .i64 v2, .int .i64 v3, .int .i64 v4, .int .i64 v5, .int .i64 v6, .int .i64 v7] 52)).heap.size := by simp
  have CS := fun W a cap h => Cr.seal_cap a cap (head c s [v0, v1, v2, v3, v4, v5, v6, v7]) W (by omega) HY.out h
  rw [HL] at CS
  clear hr hk ha h2
  generalize put2 s = p2 at *
  generalize putAll [v0, v1, v2, v3, v4, v5, v6, v7] = p4 at *
  generalize Cr.sealed (head c s [v0, v1, v2, v3, v4, v5, v6, v7]) = sl at *
  generalize head c s [v0, v1, v2, v3, v4, v5, v6, v7] = hd at *
  go_enter Try.func39, Try.ntmps39
  go_wp2_with (first
    | (go_at_call 56; refine CR.mono ?_; rintro e w1 ⟨rfl, b1⟩
       have R1 := Lib.hid (HBX.out.below b1 (by simp))
       have B1 := Lib.hid (b1.mono (Nat.le_of_eq hsz))
       have hs1 : w.heap.size + 1 ≤ w1.heap.size := by have := b1.size; simp at this; omega
       have R2 := Lib.hid (R1.out.alloc (.cells #[.int .u8 165, .int .u8 c] 5))
       have c2 : (w1.alloc (.cells #[.int .u8 165, .int .u8 c] 5)).cell? ⟨w.heap.size, 0, none⟩ = some (.int .i64 s) := R2.out.cell 0 (by simp)
       have O2 := Lib.hid (ownLit2 (k := .u8) (te := 5) (w := w1) 165 c hs1)
       have B2 := Lib.hid (B1.out.alloc hs1 (.cells #[.int .u8 165, .int .u8 c] 5))
       clear b1 B1)
    | (go_at_call 57; refine (CP _).mono ?_; rintro e w3 ⟨a3, cap3, rfl, i3, b3⟩
       have I3 := Lib.hid i3
       have hs2 : w.heap.size + 1 ≤ (w1.alloc (.cells #[.int .u8 165, .int .u8 c] 5)).heap.size := by simp; omega
       have O3 := Lib.hid (O2.out.below b3)
       have B3 := Lib.hid (grow_from B2.out b3 hs2)
       clear i3 b3 B2 O2)
    | ((with_reducible show wpList _ _ _ (⟨some 25, _, _, _, _, _⟩ :: _) _ _); (refine wpList_appendI rfl (.tmp 21) (.tmp 24) _ rfl .u8 (w.heap.size + 1) 5 1 Try.underlying42 Wd.byteInfo _ [165, c] a3 2 cap3 p2 rfl rfl l2 O3.out I3.out (by simp [l2, maxLen]) (by simp [l2]) _ B3.out (Nat.le_of_eq hsz) ?_)
       intro v4 w4 O4' B4'; have O4 := Lib.hid O4'; have B4 := Lib.hid B4'; clear O4' B4' O3 I3 B3
       have hs4 : w.heap.size + 1 ≤ w4.heap.size := by have := B4.out.size; simp at this; omega
       have R4 := Lib.hid (HBX.out.below B4.out (Nat.lt_succ_self _))
       have CA4 := Lib.hid (CA w4 (box_vals R4.out)))
    | (go_at_call 58; refine CA4.out.mono ?_; rintro e w5 ⟨a5, cap5, rfl, i5, m5, b5⟩
       have I5 := Lib.hid i5
       have O5 := Lib.hid (O4.out.below b5)
       have B5 := Lib.hid (grow_from B4.out b5 hs4)
       clear i5 m5 b5 B4 O4 CA4)
    | ((with_reducible show wpList _ _ _ (⟨some 30, _, _, _, _, _⟩ :: _) _ _); refine wpList_appendI rfl (.tmp 26) (.tmp 29) _ rfl .u8 (w.heap.size + 1) 5 1 Try.underlying42 Wd.byteInfo v4 ([165, c] ++ p2) a5 32 cap5 p4 rfl rfl l4 O5.out I5.out (by simp [l2, l4, maxLen]) (by simp [l2, l4]) _ B5.out (Nat.le_of_eq hsz) ?_
       intro v6 w6 O6' B6'; rw [HH.out] at O6'; obtain ⟨a6, cap6, rfl, i6⟩ := O6'.form; have I6 := Lib.hid i6; have B6 := Lib.hid B6'; clear O6' B6' i6 O5 I5 B5
       rw [HL]
       have hs6 : w.heap.size + 1 ≤ w6.heap.size := by have := B6.out.size; simp at this; omega)
    | (go_at_call 59; refine (CS _ _ _ I6.out).mono ?_; rintro e w7 ⟨a7, cap7, rfl, i7, m7, b7⟩
       have I7 := Lib.hid i7
       have B7 := Lib.hid (BA.out.trans ((grow_from B6.out b7 hs6).mono (Nat.le_succ _)))
       clear i7 b7))
  go_ret2
  exact retCE_mk HE.out.symm rfl HZ.out m7 I7.out B7.out

theorem enc_no_any (c s v0 v1 v2 v3 v4 v5 v6 v7 : Int) (w : World) (hn : ¬ (right s [v0, v1, v2, v3, v4, v5, v6, v7] = true ∧ chan c = true)) :
    Calls Try.prog 39 #[.int .i64 c, .agg #[.int .i64 s, .int .i64 v0, .int .i64 v1, .int .i64 v2, .int .i64 v3, .int .i64 v4, .int .i64 v5, .int .i64 v6, .int .i64 v7]] w (RetCE w (enc c s [v0, v1, v2, v3, v4, v5, v6, v7]) (encE c s [v0, v1, v2, v3, v4, v5, v6, v7])) := by
  have BA := Lib.hid ((Below.refl w.heap.size w).alloc (Nat.le_refl _) (.cells #[.int .i64 s, .int .i64 v0, .int .i64 v1, .int .i64 v2, .int .i64 v3, .int .i64 v4, .int .i64 v5, .int .i64 v6, .int .i64 v7] 52))
  have HE := Lib.hid (enc_no hn)
  have HZ := Lib.hid (encE_no hn)
  have CR := right_any s v0 v1 v2 v3 v4 v5 v6 v7 (w.alloc (.cells #[.int .i64 s, .int .i64 v0, .int .i64 v1, .int .i64 v2, .int .i64 v3, .int .i64 v4, .int .i64 v5, .int .i64 v6, .int .i64 v7] 52))
  by_cases hk : chan c = true
  · have hr : right s [v0, v1, v2, v3, v4, v5, v6, v7] = false := by
      cases e : right s [v0, v1, v2, v3, v4, v5, v6, v7]
      · rfl
      · exact absurd ⟨e, hk⟩ hn
    rw [hr] at CR
    obtain ⟨k1, k2⟩ := (chan_iff c).1 hk
    have d1 : decide (c < 0) = false := by simp; omega
    have d2 : decide (4 ≤ c) = false := by simp; omega
    clear hn hk hr
    go_enter Try.func39, Try.ntmps39
    go_wp2_with (go_at_call 56; refine CR.mono ?_; rintro e w1 ⟨rfl, b1⟩
                 have B1 := Lib.hid (grow_from BA.out b1 (by simp)); clear b1)
    go_ret2
    exact retCE_nil HE.out HZ.out B1.out
  · have hc : c < 0 ∨ 4 ≤ c := by
      rw [chan_iff] at hk; omega
    clear hn hk CR
    by_cases h1 : c < 0
    · have d1 : decide (c < 0) = true := by simpa using h1
      go_enter Try.func39, Try.ntmps39
      go_wp2
      go_ret2
      exact retCE_nil HE.out HZ.out BA.out
    · have d1 : decide (c < 0) = false := by simpa using h1
      have d2 : decide (4 ≤ c) = true := by simp; omega
      go_enter Try.func39, Try.ntmps39
      go_wp2
      go_ret2
      exact retCE_nil HE.out HZ.out BA.out
theorem enc_any (c s v0 v1 v2 v3 v4 v5 v6 v7 : Int) (w : World) : Calls Try.prog 39 #[.int .i64 c, .agg #[.int .i64 s, .int .i64 v0, .int .i64 v1, .int .i64 v2, .int .i64 v3, .int .i64 v4, .int .i64 v5, .int .i64 v6, .int .i64 v7]] w (RetCE w (enc c s [v0, v1, v2, v3, v4, v5, v6, v7]) (encE c s [v0, v1, v2, v3, v4, v5, v6, v7])) := by
  by_cases h : right s [v0, v1, v2, v3, v4, v5, v6, v7] = true ∧ chan c = true
  · exact enc_yes_any c s v0 v1 v2 v3 v4 v5 v6 v7 w h.1 h.2
  · exact enc_no_any c s v0 v1 v2 v3 v4 v5 v6 v7 w h
end Fm
end Go.Proofs.Ytpamegkbhdbheaa
