/-
  The walk of the law FreshOrder: for every slots, every frame and every number it returns true, and writes nothing that was there. Its conditions: how the slots lie.
-/
import Derived.Test.YtngdaogcmgmmeaaFreshPlaysWalk
namespace Go.Proofs.Ytngdaogcmgmmeaa
open Go.ChangeShapes Go.WideShapes Go.ChangeAt Go.RowKit Go.Deep
namespace freshOrder
open Wd Fh Fm
open Cr (Bytes bytes_wf)

/-- What lies about while the law goes on: the track, the frame's box, the first frame's bytes. -/
structure Runs (w W : World) (g F : Nat) (fs : List Int) (last : Int) (has : Bool) (n : List Int) (k : Nat) (a1 : Option Addr) (bs : List Int) : Prop where
  below : Below w.heap.size w W
  t : VRow W g 52 (trk 2 last has n)
  box : IRow .i64 W F 33 fs
  ge : w.heap.size ≤ g
  geF : w.heap.size ≤ F
  ne : F ≠ g
  len : n.length = 7
  cnt : ∀ j, 0 ≤ n.getD j 0 ∧ n.getD j 0 ≤ k
  sum : n.sum = k
  bytes : IntsAt .u8 W a1 bs
theorem one_sum (n : List Int) (r : Nat) (h : n.length = 7) (hr : r < 7) : (one n r).sum = n.sum + 1 := by
  obtain ⟨n0, n1, n2, n3, n4, n5, n6, rfl⟩ := seven n h
  have : r = 0 ∨ r = 1 ∨ r = 2 ∨ r = 3 ∨ r = 4 ∨ r = 5 ∨ r = 6 := by omega
  rcases this with rfl | rfl | rfl | rfl | rfl | rfl | rfl <;> (simp [one]; omega)
section
variable {w W W' : World} {g F : Nat} {fs bs : List Int} {last last' : Int} {has has' : Bool} {n : List Int} {k r : Nat} {a1 : Option Addr}
theorem Runs.on (h : Runs w W g F fs last has n k a1 bs) (b : Below W.heap.size W W') : Runs w W' g F fs last has n k a1 bs :=
  ⟨grow h.below b, h.t.below b h.t.lt, h.box.below b h.box.lt, h.ge, h.geF, h.ne, h.len, h.cnt, h.sum, h.bytes.below b⟩
theorem Runs.take (h : Runs w W g F fs last has n k a1 bs) (o : Only g W W') (v : VRow W' g 52 (trk 2 last' has' (one n r))) (hr : r < 7) : Runs w W' g F fs last' has' (one n r) (k + 1) a1 bs := by
  refine ⟨o.below h.below h.below.size h.ge, v, h.box.only o h.ne, h.ge, h.geF, h.ne, (one_len _ _).trans h.len, fun j => ?_, ?_, ints_past h.bytes h.t (noBytes_trk _ _ _ _) o⟩
  · rw [one_at]
    have := h.cnt j
    have := h.cnt r
    split <;> omega
  · rw [one_sum n r h.len hr, h.sum]; rfl
theorem Runs.next (h : Runs w W g F fs last has n k a1 bs) (s : Int) : Runs w (W.setCell ⟨F, 0, none⟩ (.int .i64 s)) g F (fs.set 0 s) last has n k none [] :=
  ⟨h.below.setCell (p := ⟨F, 0, none⟩) h.geF _, h.t.setOther (p := ⟨F, 0, none⟩) (fun q => h.ne q.symm) _, h.box.set 0 s, h.ge, h.geF, h.ne, h.len, h.cnt, h.sum, Or.inl rfl⟩
theorem Runs.bare (h : Runs w W g F fs last has n k a1 bs) : Runs w W g F fs last has n k none [] := ⟨h.below, h.t, h.box, h.ge, h.geF, h.ne, h.len, h.cnt, h.sum, Or.inl rfl⟩
theorem Runs.few (h : Runs w W g F fs last has n k a1 bs) (hk : k ≤ 1000) : ∀ j, 0 ≤ n.getD j 0 ∧ n.getD j 0 < 4611686018427387904 := fun j => by have := h.cnt j; omega
end
theorem sums (n : List Int) (h : n.length = 7) (K : Nat) (hK : K ≤ 1000) (hc : ∀ j, 0 ≤ n.getD j 0 ∧ n.getD j 0 ≤ K) (i : Nat) (hi : i < 7) : (n.take (i + 1)).sum = (n.take i).sum + n.getD i 0 ∧ 0 ≤ (n.take i).sum ∧ (n.take i).sum ≤ 7000 ∧ 0 ≤ n.getD i 0 ∧ n.getD i 0 ≤ 1000 := by
  have h0 := hc 0; have h1 := hc 1; have h2 := hc 2; have h3 := hc 3; have h4 := hc 4; have h5 := hc 5; have h6 := hc 6
  obtain ⟨n0, n1, n2, n3, n4, n5, n6, rfl⟩ := seven n h
  simp at h0 h1 h2 h3 h4 h5 h6
  have : i = 0 ∨ i = 1 ∨ i = 2 ∨ i = 3 ∨ i = 4 ∨ i = 5 ∨ i = 6 := by omega
  rcases this with rfl | rfl | rfl | rfl | rfl | rfl | rfl <;> (simp; omega)
theorem right_next {s : Int} {vs : List Int} (h : right s vs = true) : right (next s) vs = true := by
  obtain ⟨h1, h2⟩ := (right_iff s vs).1 h
  exact (right_iff _ vs).2 ⟨h1, (in2_iff _).2 (next_in s)⟩
/-- A frame that was encoded: Fine, or Stale. -/
theorem take_either (g : Nat) (c last : Int) (has : Bool) (n : List Int) (s v0 v1 v2 v3 v4 v5 v6 v7 : Int) (hr : right s [v0, v1, v2, v3, v4, v5, v6, v7] = true) (hk : chan c = true) (hn : n.length = 7) (hc : ∀ k, 0 ≤ n.getD k 0 ∧ n.getD k 0 < 4611686018427387904) :
    ∃ (t x0 x1 x2 x3 x4 x5 x6 x7 : Int) (r : Nat), (r = 0 ∨ r = 6) ∧ ∀ (w : World) (a : Option Addr) (cap : Nat), VRow w g 52 (trk c last has n) → 38 ≤ cap → IntsAt .u8 w a (enc c s [v0, v1, v2, v3, v4, v5, v6, v7]) →
    Calls Try.prog 9 #[.pointer (some ⟨g, 0, none⟩), .agg #[.bool true, .slice a 38 cap]] w fun e w' => e = .returned (.tuple #[.agg #[.int .i64 t, .int .i64 x0, .int .i64 x1, .int .i64 x2, .int .i64 x3, .int .i64 x4, .int .i64 x5, .int .i64 x6, .int .i64 x7], .int .i64 r]) ∧ VRow w' g 52 (trk c s true (one n r)) ∧ Only g w w' := by
  by_cases h : has = false ∨ s = next last
  · exact ⟨s, v0, v1, v2, v3, v4, v5, v6, v7, 0, Or.inl rfl, fun w a cap hT hm hb => take_sent g c last has n w s v0 v1 v2 v3 v4 v5 v6 v7 a cap hr hk hT hn hc hm hb h⟩
  · have h1 : has = true := by cases has <;> simp_all
    have h2 : s ≠ next last := fun q => h (Or.inr q)
    exact ⟨0, 0, 0, 0, 0, 0, 0, 0, 0, 6, Or.inr rfl, fun w a cap hT hm hb => take_stale g c last has n w s v0 v1 v2 v3 v4 v5 v6 v7 a cap hr hk hT hn hc hm hb h1 h2⟩

theorem u8_in {x : Int} (h : (Lit.int .u8 x).wf = true) : 0 ≤ x ∧ x < 256 := by
  simp only [Lit.wf, Bool.and_eq_true, decide_eq_true_eq] at h
  have hmin : IntKind.u8.min = 0 := rfl
  have hmax : IntKind.u8.max = 255 := rfl
  omega
theorem runs_start (w W w4 : World) (s v0 v1 v2 v3 v4 v5 v6 v7 : Int) (a1 : Option Addr) (bs : List Int) (b : Below (w.alloc (.cells #[.int .i64 s, .int .i64 v0, .int .i64 v1, .int .i64 v2, .int .i64 v3, .int .i64 v4, .int .i64 v5, .int .i64 v6, .int .i64 v7] 33)).heap.size (w.alloc (.cells #[.int .i64 s, .int .i64 v0, .int .i64 v1, .int .i64 v2, .int .i64 v3, .int .i64 v4, .int .i64 v5, .int .i64 v6, .int .i64 v7] 33)) W) (i1 : IntsAt .u8 W a1 bs)
    (h : w4 = W.alloc (.cells (trk 2 0 false [0, 0, 0, 0, 0, 0, 0]).toArray 52)) : Runs w w4 W.heap.size w.heap.size [s, v0, v1, v2, v3, v4, v5, v6, v7] 0 false [0, 0, 0, 0, 0, 0, 0] 0 a1 bs := by
  subst h
  have hz := b.size
  simp at hz
  have B := grow_alloc (Below.refl w.heap.size w) b
  have R : IRow .i64 W w.heap.size 33 [s, v0, v1, v2, v3, v4, v5, v6, v7] := (box_row s v0 v1 v2 v3 v4 v5 v6 v7 w).below b (by simp)
  refine ⟨B.alloc B.size _, VRow.new _ _ _, R.alloc _, B.size, Nat.le_refl _, by omega, rfl, fun j => ?_, rfl, i1.below ((Below.refl _ _).alloc (Nat.le_refl _) _)⟩
  have h0 : ([0, 0, 0, 0, 0, 0, 0] : List Int).getD j 0 = 0 := by
    match j with
    | 0 => rfl
    | 1 => rfl
    | 2 => rfl
    | 3 => rfl
    | 4 => rfl
    | 5 => rfl
    | 6 => rfl
    | j + 7 => simp
  rw [h0]; exact ⟨Int.le_refl _, Int.le_refl _⟩

set_option maxRecDepth 100000 in
set_option maxHeartbeats 6400000 in
theorem walk (a : Option Addr) (cap : Nat) (ss : List SlotV) (fs : List Int) (n8 : Int) (w : World) (hm : ss.length ≤ cap) (hs : SlotsAt w a ss) (n1 : fs.length = 9) (_w1 : ∀ n ∈ fs, (Lit.int .i64 n).wf = true) (w2 : (Lit.int .u8 n8).wf = true) :
    Calls Try.prog 4 #[.slice a ss.length cap, .agg (fs.map (.int .i64)).toArray, .int .u8 n8] w fun e w' => e = .returned (.bool true) ∧ Below w.heap.size w w' := by
  obtain ⟨s, v0, v1, v2, v3, v4, v5, v6, v7, rfl⟩ := nine fs n1
  show Calls Try.prog 4 #[.slice a ss.length cap, .agg #[.int .i64 s, .int .i64 v0, .int .i64 v1, .int .i64 v2, .int .i64 v3, .int .i64 v4, .int .i64 v5, .int .i64 v6, .int .i64 v7], .int .u8 n8] w _
  have hn8 := u8_in w2
  have BA := (Below.refl w.heap.size w).alloc (Nat.le_refl _) (.cells #[.int .i64 s, .int .i64 v0, .int .i64 v1, .int .i64 v2, .int .i64 v3, .int .i64 v4, .int .i64 v5, .int .i64 v6, .int .i64 v7] 33)
  have CF := fits_any a cap ss (w.alloc (.cells #[.int .i64 s, .int .i64 v0, .int .i64 v1, .int .i64 v2, .int .i64 v3, .int .i64 v4, .int .i64 v5, .int .i64 v6, .int .i64 v7] 33)) hm (hs.below BA)
  have AL := fun W => alive_any W
  have R0 := Lib.hid (box_row s v0 v1 v2 v3 v4 v5 v6 v7 w)
  obtain ⟨y0, y1, y2, y3, y4, y5, y6, y7, y8⟩ := row9 R0.out
  have CE := fun W => enc_any 2 s v0 v1 v2 v3 v4 v5 v6 v7 W
  have hk : chan 2 = true := by decide
  cases hf : fits ss
  · rw [hf] at CF
    clear hf hs
    generalize ss.length = m at *
    go_enter Try.func4, Try.ntmps4
    go_wp2_with fail
    refine CF.mono ?_; rintro e w1 ⟨rfl, rfl⟩
    go_wp2_with fail
    refine (CE _).mono ?_; rintro e w3 ⟨a3, k3, rfl, -, -, b3⟩
    have G3 := Lib.hid (grow_alloc (Below.refl w.heap.size w) b3)
    clear b3 CE
    generalize (enc 2 s [v0, v1, v2, v3, v4, v5, v6, v7]).length = q at *
    generalize encE 2 s [v0, v1, v2, v3, v4, v5, v6, v7] = q' at *
    go_wp2_with fail
    refine (AL _).mono ?_; rintro e w4 ⟨rfl, b4⟩
    go_wp2
    go_ret
    exact ⟨rfl, grow G3.out b4⟩
  · rw [hf] at CF
    obtain ⟨h60, h100⟩ := fits_yes hf
    clear hf
    by_cases hr : right s [v0, v1, v2, v3, v4, v5, v6, v7] = true
    · rw [encE_yes hr hk] at CE
      have CN := fun W => new_yes 2 W (by omega)
      have HL := Lib.hid (enc_len hr hk (vs := [v0, v1, v2, v3, v4, v5, v6, v7]) rfl)
      have HR := Lib.hid hr
      have HS := Lib.hid hs
      have H1 := Lib.hid h100
      generalize hn : ss.length = m at *
      have HN := Lib.hid hn
      clear hs h100 hn hr
      obtain ⟨bs, hbs⟩ : ∃ bs, enc 2 s [v0, v1, v2, v3, v4, v5, v6, v7] = bs := ⟨_, rfl⟩
      rw [hbs] at CE HL
      have HBS := Lib.hid hbs
      clear hbs
      go_enter Try.func4, Try.ntmps4
      go_wp2_with fail
      refine CF.mono ?_; rintro e w1 ⟨rfl, rfl⟩
      go_wp2_with fail
      refine (CE _).mono ?_; rintro e w3 ⟨a1, k1, rfl, i1, m1, b3⟩
      rw [HL.out] at m1 ⊢
      have B3 := Lib.hid b3
      have I3 := Lib.hid i1
      clear b3 i1 CE CF BA R0 y0 y1 y2 y3 y4 y5 y6 y7 y8
      go_wp2_with fail
      refine (CN _).mono ?_; rintro e w4 ⟨rfl, hw4⟩
      have R4 := Lib.hid (runs_start w w3 w4 s v0 v1 v2 v3 v4 v5 v6 v7 a1 bs B3.out I3.out hw4)
      clear hw4 B3 I3 CN
      generalize w3.heap.size = g at R4 ⊢
      go_wp2_with fail
      go_loopg [12] m (fun gg s12 wr => ∃ (k : Nat) (last : Int) (has : Bool) (n : List Int), k + gg = m ∧ s12 = .int .i64 k ∧ Hid (Runs w wr g w.heap.size [s, v0, v1, v2, v3, v4, v5, v6, v7] last has n k a1 bs))
      case atStart => exact ⟨0, 0, false, [0, 0, 0, 0, 0, 0, 0], by omega, rfl, R4⟩
      case round =>
        rename World => W1
        obtain ⟨k, last, has, n, hk2, rfl, P⟩ := hrel
        clear R4
        by_cases hlt : k < m
        · have hli : (k : Int) < m := by omega
          obtain ⟨b, off, rfl, hat⟩ := HS.out.some (by have := HN.out; omega)
          have hlt' : k < ss.length := by have := HN.out; omega
          obtain ⟨x, hx⟩ : ∃ x, ss[k]? = some x := ⟨_, List.getElem?_eq_getElem hlt'⟩
          have hok := hat k x hx
          obtain ⟨is, a2, cap2, l⟩ := x
          have hok1 := hok.below P.out.below
          have c0 := hok1.c0
          have c1 := hok1.c1
          have B1 := Lib.hid hok1.bytes
          have CT := fun W hT hb => take_any g 2 last has n is a2 cap2 l W hT P.out.len (P.out.few (by omega)) hok.le (bytes_wf hok.wf) hb
          unfold TakeR at CT
          obtain ⟨t, x0, x1, x2, x3, x4, x5, x6, x7, hd⟩ := nine (jf 2 last has is l) (jf_len (bytes_wf hok.wf))
          have hjr := jr_range 2 last has is l
          have H7 := Lib.hid (show (jr 2 last has is l).toNat < 7 by omega)
          have CT' := fun W hT hb => (CT W hT hb).mono fun e w' q => And.intro (show e = .returned (.tuple #[.agg #[.int .i64 t, .int .i64 x0, .int .i64 x1, .int .i64 x2, .int .i64 x3, .int .i64 x4, .int .i64 x5, .int .i64 x6, .int .i64 x7], .int .i64 (jr 2 last has is l)]) from by rw [q.1, hd]; rfl) q.2
          clear CT hat hx hok hok1 hd hlt' hjr
          generalize jl 2 last is l = L' at *
          generalize jh 2 has is l = H' at *
          generalize jr 2 last has is l = r at *
          go_wp2_with fail
          refine (CT' _ P.out.t B1.out).mono ?_; rintro e w5 ⟨rfl, t5, o5⟩
          have P5 := Lib.hid (P.out.take o5 t5 H7.out)
          clear t5 o5 CT' P B1 c0 c1 H7
          go_wp2
          go_roundg (gk - 1)
          case rel => exact ⟨k + 1, L', H', one n r.toNat, by omega, by go_num, P5⟩
          case measure => omega
        · obtain rfl : k = m := by omega
          obtain ⟨t, x0, x1, x2, x3, x4, x5, x6, x7, r, hr06, CT⟩ := take_either g 2 last has n s v0 v1 v2 v3 v4 v5 v6 v7 HR.out hk P.out.len (P.out.few (by omega))
          rw [HBS.out] at CT
          have B1 := Lib.hid P.out.bytes
          go_wp2_with fail
          refine (CT _ _ _ P.out.t m1 B1.out).mono ?_; rintro e w5 ⟨rfl, t5, o5⟩
          have P5 := Lib.hid (((P.out.take o5 t5 (by omega)).on ((Below.refl w5.heap.size w5).alloc (Nat.le_refl _) (.cells #[.int .i64 t, .int .i64 x0, .int .i64 x1, .int .i64 x2, .int .i64 x3, .int .i64 x4, .int .i64 x5, .int .i64 x6, .int .i64 x7] 33))).bare)
          clear t5 o5 CT P B1
          generalize one n r = n' at *
          go_upto_region 13 with fail
          have Z := Lib.hid P5
          clear P5
          go_cut [74] (fun s74 wx => s74 = .bool false ∧ Hid (Runs w wx g w.heap.size [s, v0, v1, v2, v3, v4, v5, v6, v7] s true n' (k + 1) none []))
          case first =>
            rcases hr06 with rfl | rfl
            · go_wp2_with fail
              go_meet
              exact ⟨rfl, Z.out⟩
            · go_wp2_with fail
              go_meet
              exact ⟨rfl, Z.out⟩
          case rest =>
            obtain ⟨rfl, P6⟩ := hcut
            clear Z hr06
            obtain ⟨q, hq⟩ : ∃ q : Nat, n8 % 40 = q := ⟨(n8 % 40).toNat, by omega⟩
            have hq40 : q < 40 := by omega
            go_wp2_with fail
            go_loopg [15, 16] q (fun gg s15 s16 wr => ∃ (i tk : Nat) (n : List Int) (s' : Int), i + gg = q ∧ s16 = .int .i64 i ∧ s15 = .int .i64 tk ∧ tk ≤ 61 + 2 * i ∧ Hid (right s' [v0, v1, v2, v3, v4, v5, v6, v7] = true) ∧ Hid (Runs w wr g w.heap.size (s' :: [v0, v1, v2, v3, v4, v5, v6, v7]) s' true n tk none []))
            case atStart => exact ⟨0, k + 1, n', s, by omega, rfl, by go_num, by omega, HR, P6⟩
            case round =>
              rename World => W2
              obtain ⟨i, tk, n, s', hiq, rfl, rfl, htk, HR2, P7⟩ := hrel
              clear P6 HR
              by_cases hi : i < q
              · have hii : (i : Int) < q := by omega
                have CE := fun W => enc_any 2 (next s') v0 v1 v2 v3 v4 v5 v6 v7 W
                have hrn := right_next HR2.out
                rw [encE_yes hrn hk] at CE
                have HL2 := Lib.hid (enc_len hrn hk (vs := [v0, v1, v2, v3, v4, v5, v6, v7]) rfl)
                have HRN := Lib.hid hrn
                clear hrn
                go_upto_if 87 with fail
                go_cut [15] (fun s15 wx => ∃ (tk' : Nat) (n' : List Int), s15 = .int .i64 tk' ∧ tk' ≤ tk + 1 ∧ Hid (Runs w wx g w.heap.size (s' :: [v0, v1, v2, v3, v4, v5, v6, v7]) s' true n' tk' none []))
                case first =>
                  by_cases h3 : i % 3 = 2
                  · have d3 : ((i : Int) % 3 == 2) = true := by simp; omega
                    have CT := fun W hT => take_none g 2 s' true n W hT P7.out.len (P7.out.few (by omega))
                    clear h3
                    go_wp2_with fail
                    refine (CT _ P7.out.t).mono ?_; rintro e w6 ⟨rfl, t6, o6⟩
                    have P8 := Lib.hid (P7.out.take o6 t6 (by omega))
                    clear t6 o6 CT P7
                    go_wp2_with fail
                    go_meet
                    exact ⟨tk + 1, one n 1, by go_num, by omega, P8⟩
                  · have d3 : ((i : Int) % 3 == 2) = false := by simp; omega
                    clear h3
                    go_wp2_with fail
                    go_meet
                    exact ⟨tk, n, rfl, by omega, P7⟩
                case rest =>
                  obtain ⟨tk', n', rfl, htk', P8⟩ := hcut
                  clear P7
                  have CT := fun W a cap hT hm hb => take_sent g 2 s' true n' W (next s') v0 v1 v2 v3 v4 v5 v6 v7 a cap HRN.out hk hT P8.out.len (P8.out.few (by omega)) hm hb (Or.inr rfl)
                  obtain ⟨y0, y1, y2, y3, y4, y5, y6, y7, y8⟩ := row9 P8.out.box
                  have f0 := P8.out.box.frozen 0
                  have P9 := Lib.hid (show Runs w (wc.setCell ⟨w.heap.size, 0, none⟩ (.int .i64 (next s'))) g w.heap.size (next s' :: [v0, v1, v2, v3, v4, v5, v6, v7]) s' true n' tk' none [] from P8.out.next (next s'))
                  have HR3 := HRN
                  clear P8
                  generalize enc 2 (next s') [v0, v1, v2, v3, v4, v5, v6, v7] = bs2 at *
                  have NX := Lib.hid (fun W => next_any s' W)
                  generalize next s' = t' at *
                  go_wp2_with fail
                  refine (NX.out _).mono ?_; rintro e w7 ⟨rfl, rfl⟩
                  go_wp2_with fail
                  refine (CE _).mono ?_; rintro e w8 ⟨a8, k8, rfl, i8, m8, b8⟩
                  rw [HL2.out] at m8 ⊢
                  have P10 := Lib.hid (P9.out.on b8)
                  have I8 := Lib.hid i8
                  clear b8 i8 P9 CE y0 y1 y2 y3 y4 y5 y6 y7 y8 f0 NX
                  go_wp2_with fail
                  refine (CT _ _ _ P10.out.t m8 I8.out).mono ?_; rintro e w9 ⟨rfl, t9, o9⟩
                  have bA := (Below.refl w9.heap.size w9).alloc (Nat.le_refl _) (.cells #[.int .i64 t', .int .i64 v0, .int .i64 v1, .int .i64 v2, .int .i64 v3, .int .i64 v4, .int .i64 v5, .int .i64 v6, .int .i64 v7] 33)
                  have P11 := Lib.hid ((P10.out.take o9 t9 (by omega)).on bA)
                  have X9 := Lib.hid (box_row t' v0 v1 v2 v3 v4 v5 v6 v7 w9)
                  clear bA t9 o9 P10 I8 CT
                  obtain ⟨y0, y1, y2, y3, y4, y5, y6, y7, y8⟩ := row9 P11.out.box
                  obtain ⟨x0, x1, x2, x3, x4, x5, x6, x7, x8⟩ := row9 X9.out
                  have E8 := fun W => eq8 v0 v1 v2 v3 v4 v5 v6 v7 v0 v1 v2 v3 v4 v5 v6 v7 9997 W
                  rw [show 9997 + 2 = 9999 from rfl] at E8
                  go_wp2
                  go_roundg (gk - 1)
                  case rel => exact ⟨i + 1, tk' + 1, one n' 0, t', by omega, by go_num, by go_num, by omega, HR3, P11⟩
                  case measure => omega
              · obtain rfl : i = q := by omega
                have CC := fun W h => counts_any g 2 s' true n W h P7.out.len
                have CLs := fun W h => last_any g 2 s' true n W h
                obtain ⟨n0, n1, n2, n3, n4, n5, n6, hn⟩ := seven n P7.out.len
                have CC' := fun W h => (CC W h).mono fun e w' q => And.intro (show e = .returned (.agg #[.int .i64 n0, .int .i64 n1, .int .i64 n2, .int .i64 n3, .int .i64 n4, .int .i64 n5, .int .i64 n6]) from by rw [q.1, hn]; rfl) q.2
                have SM := Lib.hid (sums n P7.out.len tk (by omega) P7.out.cnt)
                have HN7 := Lib.hid hn
                have htk2 : tk ≤ 1000 := by omega
                clear CC hn HR2
                go_wp2_with fail
                refine (CC' _ P7.out.t).mono ?_; rintro e w6 ⟨rfl, b6⟩
                have P8 := Lib.hid ((P7.out.on b6).on ((Below.refl w6.heap.size w6).alloc (Nat.le_refl _) (.cells #[.int .i64 n0, .int .i64 n1, .int .i64 n2, .int .i64 n3, .int .i64 n4, .int .i64 n5, .int .i64 n6] 42)))
                have X6 := Lib.hid (show IRow .i64 (w6.alloc (.cells #[.int .i64 n0, .int .i64 n1, .int .i64 n2, .int .i64 n3, .int .i64 n4, .int .i64 n5, .int .i64 n6] 42)) w6.heap.size 42 n from by rw [HN7.out]; exact heap_alloc_new w6 _)
                clear b6 P7 CC' HN7
                go_wp2_with fail
                generalize w6.alloc (.cells #[.int .i64 n0, .int .i64 n1, .int .i64 n2, .int .i64 n3, .int .i64 n4, .int .i64 n5, .int .i64 n6] 42) = W3 at *
                generalize w6.heap.size = C at *
                go_loopg [21, 23] 7 (fun gg s21 s23 wr => ∃ j : Nat, j + gg = 7 ∧ s23 = .int .i64 j ∧ s21 = .int .i64 (n.take j).sum ∧ wr = W3)
                case atStart => exact ⟨0, by omega, rfl, rfl, rfl⟩
                case round =>
                  obtain ⟨j, hj, rfl, rfl, rfl⟩ := hrel
                  by_cases hj7 : j < 7
                  · have hji : (j : Int) < 7 := by omega
                    obtain ⟨e1, e2, e3, e4, e5⟩ := SM.out j hj7
                    have E1 := Lib.hid e1
                    have cj := X6.out.cell j (by rw [P8.out.len]; exact hj7)
                    clear e1
                    generalize n.getD j 0 = y at *
                    generalize (n.take j).sum = z at *
                    go_wp2
                    go_roundg (gk - 1)
                    case rel => exact ⟨j + 1, by omega, by go_num, by rw [E1.out], rfl⟩
                    case measure => omega
                  · obtain rfl : j = 7 := by omega
                    have hs7 : (n.take 7).sum = tk := by rw [List.take_of_length_le (by rw [P8.out.len]; exact Nat.le_refl _)]; exact P8.out.sum
                    rw [hs7]
                    clear hs7 SM X6
                    go_wp2_with fail
                    refine (CLs _ P8.out.t).mono ?_; rintro e w7 ⟨rfl, b7⟩
                    have P9 := Lib.hid (P8.out.on b7)
                    clear b7 P8 CLs
                    go_wp2_with fail
                    refine (AL _).mono ?_; rintro e w8 ⟨rfl, b8⟩
                    have P10 := Lib.hid (P9.out.on b8)
                    clear b8 P9 AL
                    obtain ⟨y0, y1, y2, y3, y4, y5, y6, y7, y8⟩ := row9 P10.out.box
                    go_wp2
                    go_ret
                    exact ⟨rfl, P10.out.below⟩
    · rw [enc_no (fun q => hr q.1), encE_no (fun q => hr q.1)] at CE
      clear hs
      generalize ss.length = m at *
      go_enter Try.func4, Try.ntmps4
      go_wp2_with fail
      refine CF.mono ?_; rintro e w1 ⟨rfl, rfl⟩
      go_wp2_with fail
      refine (CE _).mono ?_; rintro e w3 ⟨a3, k3, rfl, -, -, b3⟩
      have G3 := Lib.hid (grow_alloc (Below.refl w.heap.size w) b3)
      clear b3 CE
      go_wp2_with fail
      refine (AL _).mono ?_; rintro e w4 ⟨rfl, b4⟩
      go_wp2
      go_ret
      exact ⟨rfl, grow G3.out b4⟩
end freshOrder
end Go.Proofs.Ytngdaogcmgmmeaa
