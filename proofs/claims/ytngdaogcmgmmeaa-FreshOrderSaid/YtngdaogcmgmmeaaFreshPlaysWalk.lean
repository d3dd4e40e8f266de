/-
  The walk of the law FreshPlays: for every channel and every slots it returns true, and writes nothing that was there. Its conditions: how the slots lie.
-/
import Derived.Test.YtngdaogcmgmmeaaFreshAlive
import Derived.Test.YtngdaogcmgmmeaaFreshRef
import Derived.Test.YtngdaogcmgmmeaaSlots
namespace Go.Proofs.Ytngdaogcmgmmeaa
open Go.ChangeShapes Go.WideShapes Go.ChangeAt Go.RowKit Go.Deep
namespace Fh
open Wd Fm
open Cr (Bytes bytes_wf)

/-- Are slots such as are gone through? -/
def short (s : SlotV) : Bool := decide (s.l.length ≤ 100)
def fits (ss : List SlotV) : Bool := decide (ss.length ≤ 60) && ss.all short
theorem fits_yes {ss : List SlotV} (h : fits ss = true) : ss.length ≤ 60 ∧ ∀ s ∈ ss, s.l.length ≤ 100 := by
  unfold fits at h
  simp only [Bool.and_eq_true, decide_eq_true_eq, List.all_eq_true] at h
  refine ⟨h.1, fun s hs => ?_⟩
  have := h.2 s hs
  unfold short at this
  simpa using this
theorem all_take {ss : List SlotV} {k : Nat} {s : SlotV} (h : (ss.take k).all short = true) (hs : ss[k]? = some s) : (ss.take (k + 1)).all short = short s := by
  rw [List.take_add_one, List.all_append, h, hs]; simp
theorem fits_no {ss : List SlotV} {s : SlotV} (k : Nat) (hs : ss[k]? = some s) (h : 100 < s.l.length) : fits ss = false := by
  unfold fits
  rw [Bool.and_eq_false_iff]
  right
  rw [List.all_eq_false]
  exact ⟨s, List.mem_of_getElem? hs, by unfold short; simp; omega⟩

theorem ret_bool {x y : Bool} (h : x = y) : Ending.returned (.bool x) = Ending.returned (.bool y) := by rw [h]

set_option maxHeartbeats 800000 in
theorem fits_any (a : Option Addr) (cap : Nat) (ss : List SlotV) (w : World) (hm : ss.length ≤ cap) (hs : SlotsAt w a ss) :
    Calls Try.prog 5 #[.slice a ss.length cap] w fun e w' => e = .returned (.bool (fits ss)) ∧ w = w' := by
  by_cases h : 60 < ss.length
  · have hf : fits ss = false := by unfold fits; simp; omega
    rw [hf]
    have d : decide (60 < (ss.length : Int)) = true := by simp; omega
    clear hf hs
    generalize ss.length = m at *
    go_enter Try.func5, Try.ntmps5
    go_wp2
    go_ret
    exact ⟨rfl, rfl⟩
  · have d : decide (60 < (ss.length : Int)) = false := by simp; omega
    have HS := Lib.hid hs
    clear hs
    generalize hn : ss.length = m at *
    have HN := Lib.hid hn
    clear hn
    go_enter Try.func5, Try.ntmps5
    go_wp2_with fail
    go_loopg [3] m (fun gg s3 wr => ∃ k : Nat, k + gg = m ∧ s3 = .int .i64 k ∧ wr = w ∧ Hid ((ss.take k).all short = true))
    case atStart => exact ⟨0, by omega, rfl, rfl, Lib.hid rfl⟩
    case round =>
      obtain ⟨k, hk, rfl, rfl, HA⟩ := hrel
      by_cases hlt : k < m
      · have hli : (k : Int) < m := by omega
        obtain ⟨b, off, rfl, hat⟩ := HS.out.some (by have := HN.out; omega)
        have hlt' : k < ss.length := by have := HN.out; omega
        obtain ⟨s, hsk⟩ : ∃ s, ss[k]? = some s := ⟨_, List.getElem?_eq_getElem hlt'⟩
        have hok := hat k s hsk
        have c1 := hok.c1
        have hsm : s.l.length ≤ 9223372036854775807 := by have := hok.le; have := hok.cap; unfold maxLen at this; omega
        have HK := Lib.hid hsk
        clear hsk hat
        by_cases hl : 100 < s.l.length
        · have d2 : decide (100 < (s.l.length : Int)) = true := by simp; omega
          have HF := Lib.hid (fits_no k HK.out hl)
          clear hok hl
          generalize s.l.length = q at *
          go_wp2
          go_ret
          exact ⟨ret_bool HF.out.symm, rfl⟩
        · have d2 : decide (100 < (s.l.length : Int)) = false := by simp; omega
          have HA' := Lib.hid (show (ss.take (k + 1)).all short = true by rw [all_take HA.out HK.out]; unfold short; simp; omega)
          clear hok hl
          generalize s.l.length = q at *
          go_wp2
          go_roundg (gk - 1)
          case rel => exact ⟨k + 1, by omega, by go_num, rfl, HA'⟩
          case measure => omega
      · obtain rfl : k = m := by omega
        have hf : fits ss = true := by
          have h1 := HA.out
          rw [List.take_of_length_le (by have := HN.out; omega)] at h1
          unfold fits; rw [h1]; have := HN.out; simp; omega
        have HF := Lib.hid hf
        clear hf
        go_wp2
        go_ret
        exact ⟨ret_bool HF.out.symm, rfl⟩

/-- Both tracks, while the slots are gone through. -/
structure Plays (w W : World) (g1 g2 : Nat) (c last : Int) (has : Bool) (n : List Int) (k : Nat) : Prop where
  below : Below w.heap.size w W
  t1 : VRow W g1 52 (trk c last has n)
  t2 : VRow W g2 44 (rtk c (rl last has) n)
  ge1 : w.heap.size ≤ g1
  ge2 : w.heap.size ≤ g2
  ne : g1 ≠ g2
  len : n.length = 7
  cnt : ∀ j, 0 ≤ n.getD j 0 ∧ n.getD j 0 ≤ k
  pos : has = true → 0 ≤ last
  zero : has = false → last = 0
section
variable {w W W' : World} {g1 g2 : Nat} {c last : Int} {has : Bool} {n : List Int} {k : Nat}
theorem one_at (n : List Int) (r j : Nat) : (one n r).getD j 0 = if j = r ∧ r < n.length then n.getD r 0 + 1 else n.getD j 0 := by
  unfold one
  rw [List.getD_eq_getElem?_getD, List.getElem?_set]
  by_cases h : r = j
  · subst h
    by_cases h2 : r < n.length
    · simp [h2]
    · simp [h2, List.getD_eq_getElem?_getD]
  · have h' : ¬ (j = r ∧ r < n.length) := fun q => h q.1.symm
    rw [if_neg h, if_neg h', List.getD_eq_getElem?_getD]
theorem plays_start (w : World) (c : Int) (w2 w3 : World) (h2 : w2 = w.alloc (.cells (trk c 0 false [0, 0, 0, 0, 0, 0, 0]).toArray 52)) (h3 : w3 = w2.alloc (.cells (rtk c (-1) [0, 0, 0, 0, 0, 0, 0]).toArray 44)) :
    Plays w w3 w.heap.size w2.heap.size c 0 false [0, 0, 0, 0, 0, 0, 0] 0 := by
  have hz : w2.heap.size = w.heap.size + 1 := by rw [h2]; simp
  subst h3
  have b2 : Below w.heap.size w w2 := by rw [h2]; exact (Below.refl _ _).alloc (Nat.le_refl _) _
  have v1 : VRow w2 w.heap.size 52 (trk c 0 false [0, 0, 0, 0, 0, 0, 0]) := by rw [h2]; exact VRow.new _ _ _
  refine ⟨b2.alloc b2.size _, v1.alloc _, VRow.new _ _ _, Nat.le_refl _, by omega, by omega, rfl, fun j => ?_, fun h => by (cases h), fun _ => rfl⟩
  have h0 : ([0, 0, 0, 0, 0, 0, 0] : List Int).getD j 0 = 0 := by
    match j with
    | 0 => rfl
    | 1 => rfl
    | 2 => rfl
    | 3 => rfl
    | 4 => rfl
    | 5 => rfl
    | 6 => rfl
    | j + 7 => simp
  rw [h0]; exact ⟨Int.le_refl _, Int.le_refl _⟩
theorem one_len (n : List Int) (r : Nat) : (one n r).length = n.length := by unfold one; simp
theorem Plays.on (h : Plays w W g1 g2 c last has n k) (b : Below W.heap.size W W') : Plays w W' g1 g2 c last has n k :=
  ⟨grow h.below b, h.t1.below b h.t1.lt, h.t2.below b h.t2.lt, h.ge1, h.ge2, h.ne, h.len, h.cnt, h.pos, h.zero⟩
theorem get2v_pos {l : List Int} (h : Bytes l) : 0 ≤ get2v l := by
  unfold get2v
  have h0 := h.getD 0
  have h1 := h.getD 1
  split <;> omega
/-- Both took one slot more. -/
theorem plays_step {W1 W2 : World} {is : Bool} {l : List Int} (h : Plays w W g1 g2 c last has n k) (hy : Bytes l) (o1 : Only g1 W W1) (b1 : Below W1.heap.size W1 W2) (o2 : Only g2 W2 W')
    (h1 : VRow W1 g1 52 (trk c (jl c last is l) (jh c has is l) (one n (jr c last has is l).toNat))) (h2 : VRow W' g2 44 (rtk c (rl (jl c last is l) (jh c has is l)) (one n (jr c last has is l).toNat))) :
    Plays w W' g1 g2 c (jl c last is l) (jh c has is l) (one n (jr c last has is l).toNat) (k + 1) := by
  have B1 := o1.below h.below h.below.size h.ge1
  have B2 := grow B1 b1
  refine ⟨o2.below B2 B2.size h.ge2, (h1.below b1 h1.lt).only o2 h.ne, h2, h.ge1, h.ge2, h.ne, (one_len _ _).trans h.len, fun j => ?_, fun hh => ?_, fun hh => ?_⟩
  · rw [one_at]
    have := h.cnt j
    have := h.cnt (jr c last has is l).toNat
    split <;> omega
  · by_cases hr : rej c is l = 0
    · rw [jl_yes hr]
      unfold fseq
      exact get2v_pos ((hy.drop 2).take 2)
    · rw [jh_no hr] at hh; rw [jl_no hr]; exact h.pos hh
  · by_cases hr : rej c is l = 0
    · rw [jh_yes hr] at hh; cases hh
    · rw [jh_no hr] at hh; rw [jl_no hr]; exact h.zero hh
end
end Fh
namespace freshPlays
open Fh Fm
open Cr (Bytes bytes_wf)
set_option maxRecDepth 100000 in
set_option maxHeartbeats 6400000 in
theorem walk (c : Int) (a : Option Addr) (cap : Nat) (ss : List SlotV) (w : World) (_w0 : (Lit.int .i64 c).wf = true) (hm : ss.length ≤ cap) (hs : SlotsAt w a ss) :
    Calls Try.prog 3 #[.int .i64 c, .slice a ss.length cap] w fun e w' => e = .returned (.bool true) ∧ Below w.heap.size w w' := by
  have CF := fits_any a cap ss w hm hs
  have AL := fun W => alive_any W
  cases hf : fits ss
  · rw [hf] at CF
    clear hf hs
    generalize ss.length = m at *
    go_enter Try.func3, Try.ntmps3
    go_wp2_with fail
    refine CF.mono ?_; rintro e w1 ⟨rfl, rfl⟩
    go_wp2_with fail
    refine (AL _).mono ?_; rintro e w2 ⟨rfl, b2⟩
    go_wp2
    go_ret
    exact ⟨rfl, b2⟩
  · rw [hf] at CF
    obtain ⟨h60, h100⟩ := fits_yes hf
    clear hf
    by_cases hc : 0 ≤ c ∧ c ≤ 3
    · have CN := fun W => new_yes c W hc
      have CB := fun W => begin_any c W
      obtain ⟨hc1, hc2⟩ := hc
      have dc1 : decide (c < 0) = false := by simp; omega
      have dc2 : decide (3 < c) = false := by simp; omega
      have HS := Lib.hid hs
      have H1 := Lib.hid h100
      generalize hn : ss.length = m at *
      have HN := Lib.hid hn
      clear hs h100 hn hc1 hc2
      go_enter Try.func3, Try.ntmps3
      go_wp2_with fail
      refine CF.mono ?_; rintro e w1 ⟨rfl, rfl⟩
      go_wp2_with fail
      refine (CN _).mono ?_; rintro e w2 ⟨rfl, hw2⟩
      have HW2 := Lib.hid hw2
      clear hw2
      go_wp2_with fail
      refine (CB _).mono ?_; rintro e w3 ⟨rfl, hw3⟩
      have P3 := Lib.hid (plays_start w c w2 w3 HW2.out hw3)
      clear HW2 hw3 CF CN CB
      generalize w.heap.size = g1 at P3 ⊢
      generalize w2.heap.size = g2 at P3 ⊢
      go_wp2_with fail
      go_loopg [9] m (fun gg s9 wr => ∃ (k : Nat) (last : Int) (has : Bool) (n : List Int), k + gg = m ∧ s9 = .int .i64 k ∧ Hid (Plays w wr g1 g2 c last has n k))
      case atStart => exact ⟨0, 0, false, [0, 0, 0, 0, 0, 0, 0], by omega, rfl, P3⟩
      case round =>
        rename World => W1
        obtain ⟨k, last, has, n, hk, rfl, P⟩ := hrel
        clear P3
        by_cases hlt : k < m
        · have hli : (k : Int) < m := by omega
          obtain ⟨b, off, rfl, hat⟩ := HS.out.some (by have := HN.out; omega)
          have hlt' : k < ss.length := by have := HN.out; omega
          obtain ⟨x, hx⟩ : ∃ x, ss[k]? = some x := ⟨_, List.getElem?_eq_getElem hlt'⟩
          have hok := hat k x hx
          have hl100 := H1.out x (List.mem_of_getElem? hx)
          obtain ⟨is, a1, cap1, l⟩ := x
          have OK := Lib.hid hok
          have hm1 : l.length ≤ cap1 := hok.le
          have hy : Bytes l := bytes_wf hok.wf
          have hok1 := OK.out.below P.out.below
          have c0 := hok1.c0
          have c1 := hok1.c1
          have B1 := Lib.hid hok1.bytes
          have CS := fun W2 W3 W4 (o1 : Only g1 W1 W2) b o2 h1 h2 => plays_step (W1 := W2) (W2 := W3) (W' := W4) (is := is) P.out hy o1 b o2 h1 h2
          have CT := fun W hT hb => take_any g1 c last has n is a1 cap1 l W hT P.out.len (fun j => by have := P.out.cnt j; omega) hm1 hy hb
          have CR := fun W hT hb => rtake_any g2 c last has n is a1 cap1 l W hT P.out.len (fun j => by have := P.out.cnt j; omega) P.out.pos hm1 hy hb
          unfold TakeR at CT
          unfold RTakeR at CR
          obtain ⟨s, v0, v1, v2, v3, v4, v5, v6, v7, hd⟩ := nine (jf c last has is l) (jf_len hy)
          rw [hd] at CT CR
          clear hat hx hok hok1 hd hl100 hlt'
          generalize jl c last is l = L' at *
          generalize jh c has is l = H' at *
          generalize jr c last has is l = r at *
          generalize one n r.toNat = N' at *
          have CS' := Lib.hid CS
          have CT' := fun W hT hb => (CT W hT hb).mono fun e w' q => And.intro (show e = .returned (.tuple #[.agg #[.int .i64 s, .int .i64 v0, .int .i64 v1, .int .i64 v2, .int .i64 v3, .int .i64 v4, .int .i64 v5, .int .i64 v6, .int .i64 v7], .int .i64 r]) from q.1) q.2
          have CR' := fun W hT hb => (CR W hT hb).mono fun e w' q => And.intro (show e = .returned (.tuple #[.agg #[.int .i64 s, .int .i64 v0, .int .i64 v1, .int .i64 v2, .int .i64 v3, .int .i64 v4, .int .i64 v5, .int .i64 v6, .int .i64 v7], .int .i64 r]) from q.1) q.2
          clear CS CT CR
          go_wp2_with fail
          refine (CT' _ P.out.t1 B1.out).mono ?_; rintro e w4 ⟨rfl, t4, o4⟩
          have bA := (Below.refl w4.heap.size w4).alloc (Nat.le_refl _) (.cells #[.int .i64 s, .int .i64 v0, .int .i64 v1, .int .i64 v2, .int .i64 v3, .int .i64 v4, .int .i64 v5, .int .i64 v6, .int .i64 v7] 33)
          have BL4 := Lib.hid (grow (o4.below P.out.below P.out.below.size P.out.ge1) bA)
          have T4 := Lib.hid (P.out.t2.only o4 (Ne.symm P.out.ne))
          have NE := Lib.hid (show w4.heap.size ≠ g2 by have := T4.out.lt; omega)
          have T4' := Lib.hid (T4.out.alloc (.cells #[.int .i64 s, .int .i64 v0, .int .i64 v1, .int .i64 v2, .int .i64 v3, .int .i64 v4, .int .i64 v5, .int .i64 v6, .int .i64 v7] 33))
          have R4 := Lib.hid (box_row s v0 v1 v2 v3 v4 v5 v6 v7 w4)
          have X4 := Lib.hid t4
          have O4 := Lib.hid o4
          have BA := Lib.hid bA
          clear t4 o4 bA c0 c1 T4 CT' B1
          have hok4 := OK.out.below BL4.out
          have c0 := hok4.c0
          have c1 := hok4.c1
          have B4 := Lib.hid hok4.bytes
          clear hok4
          go_wp2_with fail
          refine (CR' _ T4'.out B4.out).mono ?_; rintro e w5 ⟨rfl, t5, o5⟩
          have bA := (Below.refl w5.heap.size w5).alloc (Nat.le_refl _) (.cells #[.int .i64 s, .int .i64 v0, .int .i64 v1, .int .i64 v2, .int .i64 v3, .int .i64 v4, .int .i64 v5, .int .i64 v6, .int .i64 v7] 33)
          have P5 := Lib.hid ((CS'.out _ _ _ O4.out BA.out o5 X4.out t5).on bA)
          have R5 := Lib.hid ((R4.out.only o5 NE.out).alloc (.cells #[.int .i64 s, .int .i64 v0, .int .i64 v1, .int .i64 v2, .int .i64 v3, .int .i64 v4, .int .i64 v5, .int .i64 v6, .int .i64 v7] 33))
          have Q5 := Lib.hid (box_row s v0 v1 v2 v3 v4 v5 v6 v7 w5)
          clear t5 o5 bA c0 c1 CR' CS' B4 X4 O4 BA R4 NE T4' BL4 P OK
          have CLs := fun W h => last_any g1 c L' H' N' W h
          go_wp2_with fail
          refine (CLs _ P5.out.t1).mono ?_; rintro e w6 ⟨rfl, b6⟩
          have P6 := Lib.hid (P5.out.on b6)
          have R6 := Lib.hid (R5.out.below b6 R5.out.lt)
          have Q6 := Lib.hid (Q5.out.below b6 Q5.out.lt)
          clear b6 CLs P5 R5 Q5
          have h7 := P6.out.len
          obtain ⟨n0, n1, n2, n3, n4, n5, n6, rfl⟩ := seven N' h7
          have cC := reg_call (w := w6) (fun W h => (show Calls Try.prog 12 #[.pointer (some ⟨g1, 0, none⟩)] W fun e w' => e = .returned (.agg #[.int .i64 n0, .int .i64 n1, .int .i64 n2, .int .i64 n3, .int .i64 n4, .int .i64 n5, .int .i64 n6]) ∧ Below W.heap.size W w' from counts_any g1 c L' H' [n0, n1, n2, n3, n4, n5, n6] W (P6.out.t1.below h P6.out.t1.lt) rfl))
          have E8 := fun W => eq8 v0 v1 v2 v3 v4 v5 v6 v7 v0 v1 v2 v3 v4 v5 v6 v7 9997 W
          rw [show 9997 + 2 = 9999 from rfl] at E8
          have E7 := fun d W => eq7 n0 n1 n2 n3 n4 n5 n6 n0 n1 n2 n3 n4 n5 n6 d W
          have p9 := fun d os => row9 (R6.out.below (below_regrown w6 d os) R6.out.lt)
          have q9 := fun d os => row9 (Q6.out.below (below_regrown w6 d os) Q6.out.lt)
          have m1 := fun d os => (P6.out.t2.below (below_regrown w6 d os) P6.out.t2.lt).cell 1 (v := .int .i64 (rl L' H')) rfl
          have m2 := fun d os => (P6.out.t2.below (below_regrown w6 d os) P6.out.t2.lt).cell 2 (v := .int .i64 n0) rfl
          have m3 := fun d os => (P6.out.t2.below (below_regrown w6 d os) P6.out.t2.lt).cell 3 (v := .int .i64 n1) rfl
          have m4 := fun d os => (P6.out.t2.below (below_regrown w6 d os) P6.out.t2.lt).cell 4 (v := .int .i64 n2) rfl
          have m5 := fun d os => (P6.out.t2.below (below_regrown w6 d os) P6.out.t2.lt).cell 5 (v := .int .i64 n3) rfl
          have m6 := fun d os => (P6.out.t2.below (below_regrown w6 d os) P6.out.t2.lt).cell 6 (v := .int .i64 n4) rfl
          have m7 := fun d os => (P6.out.t2.below (below_regrown w6 d os) P6.out.t2.lt).cell 7 (v := .int .i64 n5) rfl
          have m8 := fun d os => (P6.out.t2.below (below_regrown w6 d os) P6.out.t2.lt).cell 8 (v := .int .i64 n6) rfl
          clear h7
          cases H'
          · have hz := P6.out.zero rfl
            subst hz
            rw [show rl 0 false = -1 from rfl] at m1
            go_wp2_with fail
            refine wp_region_quiet_below (by kernel_rfl) (by kernel_rfl) ?_
            repeat (go_big_quiet_step (exact cC _ _))
            refine wpQuiet_nil ?_
            intro _ hw'
            obtain ⟨⟨dq, osq⟩, hw''⟩ := hw'
            subst hw''
            go_wp2
            go_roundg (gk - 1)
            case rel => exact ⟨k + 1, 0, false, [n0, n1, n2, n3, n4, n5, n6], by omega, by go_num, Lib.hid (P6.out.on (below_regrown w6 dq osq))⟩
            case measure => omega
          · have hp := P6.out.pos rfl
            have dp : decide (0 ≤ L') = true := by simpa using hp
            rw [show rl L' true = L' from rfl] at m1
            clear hp
            go_wp2_with fail
            refine wp_region_quiet_below (by kernel_rfl) (by kernel_rfl) ?_
            repeat (go_big_quiet_step (exact cC _ _))
            refine wpQuiet_nil ?_
            intro _ hw'
            obtain ⟨⟨dq, osq⟩, hw''⟩ := hw'
            subst hw''
            go_wp2
            go_roundg (gk - 1)
            case rel => exact ⟨k + 1, L', true, [n0, n1, n2, n3, n4, n5, n6], by omega, by go_num, Lib.hid (P6.out.on (below_regrown w6 dq osq))⟩
            case measure => omega
        · obtain rfl : k = m := by omega
          have CK := fun W => take_nil_any W (.bool false) (.slice none 0 0)
          have CLs := fun W => last_nil W
          have CC := fun W => counts_nil W
          have E7 := fun d W => eq7 0 0 0 0 0 0 0 0 0 0 0 0 0 0 d W
          have G1 := Lib.hid P.out.below
          clear P
          go_wp2_with fail
          refine (CK _).mono ?_; rintro e w4 ⟨rfl, b4⟩
          have G4 := Lib.hid (grow G1.out (b4.alloc b4.size (.cells #[.int .i64 0, .int .i64 0, .int .i64 0, .int .i64 0, .int .i64 0, .int .i64 0, .int .i64 0, .int .i64 0, .int .i64 0] 33)))
          clear b4 CK G1
          go_wp2_with fail
          refine (CLs _).mono ?_; rintro e w5 ⟨rfl, rfl⟩
          go_wp2_with fail
          refine (AL _).mono ?_; rintro e w6 ⟨rfl, b6⟩
          have G6 := Lib.hid (grow G4.out b6)
          clear b6 AL G4
          go_wp2_with fail
          refine (CC _).mono ?_; rintro e w7 ⟨rfl, b7⟩
          have G7 := Lib.hid (grow G6.out b7)
          go_wp2
          go_ret
          exact ⟨rfl, G7.out⟩
    · have CN := fun W => new_no c W hc
      clear hs
      generalize ss.length = m at *
      by_cases hc1 : c < 0
      · clear hc
        go_enter Try.func3, Try.ntmps3
        go_wp2_with fail
        refine CF.mono ?_; rintro e w1 ⟨rfl, rfl⟩
        go_wp2_with fail
        refine (CN _).mono ?_; rintro e w2 ⟨rfl, rfl⟩
        go_wp2_with fail
        refine (AL _).mono ?_; rintro e w3 ⟨rfl, b3⟩
        go_wp2
        go_ret
        exact ⟨rfl, b3⟩
      · have hc2 : decide (3 < c) = true := by simp; omega
        have hc3 : decide (c < 0) = false := by simp; omega
        clear hc hc1
        go_enter Try.func3, Try.ntmps3
        go_wp2_with fail
        refine CF.mono ?_; rintro e w1 ⟨rfl, rfl⟩
        go_wp2_with fail
        refine (CN _).mono ?_; rintro e w2 ⟨rfl, rfl⟩
        go_wp2_with fail
        refine (AL _).mono ?_; rintro e w3 ⟨rfl, b3⟩
        go_wp2
        go_ret
        exact ⟨rfl, b3⟩
end freshPlays
end Go.Proofs.Ytngdaogcmgmmeaa
