/-
  Take of frames that were encoded, of slots without bytes; the live question of layer 6 is answered with true: contracts by walking the Go text. Conditions: where the track and the bytes lie.
-/
import Derived.Test.YtngdaogcmgmmeaaFreshObs
import Derived.Test.YtngdaogcmgmmeaaFrameEnc
namespace Go.Proofs.Ytngdaogcmgmmeaa
open Go.ChangeShapes Go.WideShapes Go.ChangeAt Go.RowKit Go.Deep
namespace Fh
open Wd Fm
open Cr (Bytes)

/-- A track that the call itself made, while the world goes on. -/
structure Kept (w W : World) (g : Nat) (t : TypeId) (cs : List Value) : Prop where
  below : Below w.heap.size w W
  trk : VRow W g t cs
  ge : w.heap.size ≤ g
section
variable {w W W' : World} {g : Nat} {t : TypeId} {cs cs' : List Value}
theorem Kept.on (h : Kept w W g t cs) (b : Below W.heap.size W W') : Kept w W' g t cs := ⟨grow h.below b, h.trk.below b h.trk.lt, h.ge⟩
theorem Kept.alloc (h : Kept w W g t cs) (o : Obj) : Kept w (W.alloc o) g t cs := ⟨h.below.alloc h.below.size o, h.trk.alloc o, h.ge⟩
theorem Kept.take (h : Kept w W g t cs) (o : Only g W W') (k : VRow W' g t cs') : Kept w W' g t cs' := ⟨o.below h.below h.below.size h.ge, k, h.ge⟩
theorem kept_new (w W : World) (cs : List Value) (t : TypeId) (h : Below w.heap.size w W) : Kept w (W.alloc (.cells cs.toArray t)) W.heap.size t cs := ⟨h.alloc h.size _, VRow.new W cs t, h.size⟩
/-- No cell is a byte. -/
def NoBytes (cs : List Value) : Prop := ∀ v ∈ cs, ∀ x, v ≠ .int .u8 x
theorem noBytes_ints (l : List Int) : NoBytes (cellsI .i64 l) := by
  intro v hv x he
  unfold cellsI at hv
  obtain ⟨y, _, rfl⟩ := List.mem_map.1 hv
  cases he
theorem noBytes_trk (c last : Int) (has : Bool) (n : List Int) : NoBytes (trk c last has n) := by
  intro v hv x he
  unfold trk at hv
  rcases List.mem_cons.1 hv with rfl | hv
  · cases he
  · rcases List.mem_cons.1 hv with rfl | hv
    · cases he
    · rcases List.mem_cons.1 hv with rfl | hv
      · cases he
      · exact noBytes_ints n v hv x he
theorem ints_past {a : Option Addr} {l : List Int} (hb : IntsAt .u8 W a l) (h : VRow W g t cs) (hk : NoBytes cs) (o : Only g W W') : IntsAt .u8 W' a l := by
  rcases hb with rfl | ⟨b, off, rfl, hc⟩
  · exact Or.inl rfl
  · by_cases hl : 0 < l.length
    · refine IntsAt.but (Or.inr ⟨b, off, rfl, hc⟩) o (fun ad he hg => ?_)
      cases he
      have hg' : b = g := hg
      subst hg'
      have h0 := hc 0 hl
      rw [cell_of_row W b _ _ t (0, 0) h] at h0
      simp only [List.getElem?_toArray] at h0
      exact hk _ (List.mem_of_getElem? h0) _ rfl
    · exact Or.inl (List.eq_nil_of_length_eq_zero (by omega))
end

section
variable (g : Nat) (c last : Int) (has : Bool) (n : List Int) (w : World)
/-- A frame that was encoded for this channel. -/
theorem take_sent (s v0 v1 v2 v3 v4 v5 v6 v7 : Int) (a : Option Addr) (cap : Nat) (hr : right s [v0, v1, v2, v3, v4, v5, v6, v7] = true) (hk : chan c = true) (hT : VRow w g 52 (trk c last has n)) (hn : n.length = 7) (hc : ∀ k, 0 ≤ n.getD k 0 ∧ n.getD k 0 < 4611686018427387904)
    (hm : 38 ≤ cap) (hb : IntsAt .u8 w a (enc c s [v0, v1, v2, v3, v4, v5, v6, v7])) (hs : has = false ∨ s = next last) :
    Calls Try.prog 9 #[.pointer (some ⟨g, 0, none⟩), .agg #[.bool true, .slice a 38 cap]] w fun e w' => e = .returned (.tuple #[.agg #[.int .i64 s, .int .i64 v0, .int .i64 v1, .int .i64 v2, .int .i64 v3, .int .i64 v4, .int .i64 v5, .int .i64 v6, .int .i64 v7], .int .i64 0]) ∧ VRow w' g 52 (trk c s true (one n 0)) ∧ Only g w w' := by
  have hl := enc_len hr hk (vs := [v0, v1, v2, v3, v4, v5, v6, v7]) rfl
  have h0 : rej c true (enc c s [v0, v1, v2, v3, v4, v5, v6, v7]) = 0 := by rw [enc_rej hr hk rfl, if_pos rfl]
  obtain ⟨p1, p2⟩ := enc_parts hr hk (vs := [v0, v1, v2, v3, v4, v5, v6, v7]) rfl
  have hs' : has = false ∨ fseq (enc c s [v0, v1, v2, v3, v4, v5, v6, v7]) = next last := by rw [p1]; exact hs
  have := take_any g c last has n true a cap (enc c s [v0, v1, v2, v3, v4, v5, v6, v7]) w hT hn hc (by omega) enc_bytes hb
  unfold TakeR at this
  rw [jr_fine h0 hs', jf_fine h0 hs', jl_yes h0, jh_yes h0, p1, p2, hl] at this
  exact this
/-- A frame whose number is not the next one. -/
theorem take_stale (s v0 v1 v2 v3 v4 v5 v6 v7 : Int) (a : Option Addr) (cap : Nat) (hr : right s [v0, v1, v2, v3, v4, v5, v6, v7] = true) (hk : chan c = true) (hT : VRow w g 52 (trk c last has n)) (hn : n.length = 7) (hc : ∀ k, 0 ≤ n.getD k 0 ∧ n.getD k 0 < 4611686018427387904)
    (hm : 38 ≤ cap) (hb : IntsAt .u8 w a (enc c s [v0, v1, v2, v3, v4, v5, v6, v7])) (hh : has = true) (hs : s ≠ next last) :
    Calls Try.prog 9 #[.pointer (some ⟨g, 0, none⟩), .agg #[.bool true, .slice a 38 cap]] w fun e w' => e = .returned (.tuple #[.agg #[.int .i64 0, .int .i64 0, .int .i64 0, .int .i64 0, .int .i64 0, .int .i64 0, .int .i64 0, .int .i64 0, .int .i64 0], .int .i64 6]) ∧ VRow w' g 52 (trk c s true (one n 6)) ∧ Only g w w' := by
  have hl := enc_len hr hk (vs := [v0, v1, v2, v3, v4, v5, v6, v7]) rfl
  have h0 : rej c true (enc c s [v0, v1, v2, v3, v4, v5, v6, v7]) = 0 := by rw [enc_rej hr hk rfl, if_pos rfl]
  obtain ⟨p1, p2⟩ := enc_parts hr hk (vs := [v0, v1, v2, v3, v4, v5, v6, v7]) rfl
  have hs' : fseq (enc c s [v0, v1, v2, v3, v4, v5, v6, v7]) ≠ next last := by rw [p1]; exact hs
  have := take_any g c last has n true a cap (enc c s [v0, v1, v2, v3, v4, v5, v6, v7]) w hT hn hc (by omega) enc_bytes hb
  unfold TakeR at this
  rw [jr_stale h0 hh hs', jf_stale h0 hh hs', jl_yes h0, jh_yes h0, p1, hl] at this
  exact this
/-- A slot that is none. -/
theorem take_none (hT : VRow w g 52 (trk c last has n)) (hn : n.length = 7) (hc : ∀ k, 0 ≤ n.getD k 0 ∧ n.getD k 0 < 4611686018427387904) :
    Calls Try.prog 9 #[.pointer (some ⟨g, 0, none⟩), .agg #[.bool false, .slice none 0 0]] w fun e w' => e = .returned (.tuple #[.agg #[.int .i64 0, .int .i64 0, .int .i64 0, .int .i64 0, .int .i64 0, .int .i64 0, .int .i64 0, .int .i64 0, .int .i64 0], .int .i64 1]) ∧ VRow w' g 52 (trk c last has (one n 1)) ∧ Only g w w' := by
  have h0 : rej c false [] ≠ 0 := by rw [rej_absent]; decide
  have := take_any g c last has n false none 0 [] w hT hn hc (Nat.le_refl _) (fun x hx => by cases hx) (Or.inl rfl)
  unfold TakeR at this
  rw [jr_no h0, jf_no h0, jl_no h0, jh_no h0, rej_absent] at this
  exact this
end
/-- '==' of two arrays of seven numbers. -/
theorem eq7 (n0 n1 n2 n3 n4 n5 n6 x0 x1 x2 x3 x4 x5 x6 : Int) (d : Nat) (w : World) : (Op.equalIn (d + 2) 42 (.agg #[.int .i64 n0, .int .i64 n1, .int .i64 n2, .int .i64 n3, .int .i64 n4, .int .i64 n5, .int .i64 n6]) (.agg #[.int .i64 x0, .int .i64 x1, .int .i64 x2, .int .i64 x3, .int .i64 x4, .int .i64 x5, .int .i64 x6])).run Try.prog w = .ok (([n0, n1, n2, n3, n4, n5, n6] : List Int) == [x0, x1, x2, x3, x4, x5, x6]) w :=
  Agg.run_equalIn_ints w d _ _ 7 .i64 Try.underlying42 Try.underlying3 (fun w => by kernel_rfl) [n0, n1, n2, n3, n4, n5, n6] [x0, x1, x2, x3, x4, x5, x6] rfl rfl
theorem few (l : List Int) (h : ∀ x ∈ l, 0 ≤ x ∧ x < 4611686018427387904) (k : Nat) : 0 ≤ l.getD k 0 ∧ l.getD k 0 < 4611686018427387904 := by
  rw [List.getD_eq_getElem?_getD]
  cases hk : l[k]? with
  | none => simp
  | some x => exact h x (List.mem_of_getElem? hk)

set_option maxHeartbeats 3200000 in
theorem alive_any (w : World) :
    Calls Try.prog 6 #[] w fun e w' => e = .returned (.bool true) ∧ Below w.heap.size w w' := by
  have ra : right 65535 [0, 0, 0, 0, 0, 0, 0, 0] = true := by decide
  have rb : right 0 [0, 0, 0, 9, 0, 0, 0, 0] = true := by decide
  have hk : chan 1 = true := by decide
  have la := enc_len ra hk rfl
  have lb := enc_len rb hk rfl
  have C1 := fun W => new_yes 1 W (by omega)
  have C2 := fun W => enc_any 1 65535 0 0 0 0 0 0 0 0 W
  have C3 := fun W => enc_any 1 0 0 0 0 9 0 0 0 0 W
  rw [encE_yes ra hk] at C2
  rw [encE_yes rb hk] at C3
  have T1 := Lib.hid (fun g W a cap h1 h2 h3 => take_sent g 1 0 false [0, 0, 0, 0, 0, 0, 0] W 65535 0 0 0 0 0 0 0 0 a cap ra hk h1 rfl (few _ (by decide)) h2 h3 (Or.inl rfl))
  have T2 := Lib.hid (fun g W h1 => take_none g 1 65535 true [1, 0, 0, 0, 0, 0, 0] W h1 rfl (few _ (by decide)))
  have T3 := Lib.hid (fun g W a cap h1 h2 h3 => take_sent g 1 65535 true [1, 1, 0, 0, 0, 0, 0] W 0 0 0 0 9 0 0 0 0 a cap rb hk h1 rfl (few _ (by decide)) h2 h3 (Or.inr (by decide)))
  have T4 := Lib.hid (fun g W a cap h1 h2 h3 => take_stale g 1 0 true [2, 1, 0, 0, 0, 0, 0] W 0 0 0 0 9 0 0 0 0 a cap rb hk h1 rfl (few _ (by decide)) h2 h3 rfl (by decide))
  clear ra rb hk
  generalize enc 1 65535 [0, 0, 0, 0, 0, 0, 0, 0] = A at *
  generalize enc 1 0 [0, 0, 0, 9, 0, 0, 0, 0] = B at *
  have LA := Lib.hid la
  have LB := Lib.hid lb
  clear la lb
  go_enter Try.func6, Try.ntmps6
  go_wp2_with fail
  refine (C1 _).mono ?_; rintro e w1 ⟨rfl, hw1⟩
  have K1 := Lib.hid (hw1 ▸ kept_new w w (trk 1 0 false [0, 0, 0, 0, 0, 0, 0]) 52 (Below.refl _ _))
  clear hw1 C1
  generalize hgw : w.heap.size = g at K1 ⊢
  have HG := Lib.hid hgw; clear hgw
  go_wp2_with fail
  refine (C2 _).mono ?_; rintro e w2 ⟨a2, k2, rfl, i2, m2, b2⟩
  rw [LA.out] at m2 ⊢
  have K2 := Lib.hid (K1.out.on b2)
  have I2 := Lib.hid i2
  clear K1 b2 i2 C2
  go_wp2_with fail
  refine (C3 _).mono ?_; rintro e w3 ⟨a3, k3, rfl, i3, m3, b3⟩
  rw [LB.out] at m3 ⊢
  have K3 := Lib.hid (K2.out.on b3)
  have I3 := Lib.hid (I2.out.below b3)
  have J3 := Lib.hid i3
  clear K2 I2 b3 i3 C3
  go_wp2_with fail
  refine (T1.out _ _ _ _ K3.out.trk m2 I3.out).mono ?_; rintro e w4 ⟨rfl, t4, o4⟩
  have bA := (Below.refl w4.heap.size w4).alloc (Nat.le_refl _) (.cells #[.int .i64 65535, .int .i64 0, .int .i64 0, .int .i64 0, .int .i64 0, .int .i64 0, .int .i64 0, .int .i64 0, .int .i64 0] 33)
  have K4 := Lib.hid ((K3.out.take o4 t4).on bA)
  have J4 := Lib.hid ((ints_past J3.out K3.out.trk (noBytes_trk _ _ _ _) o4).below bA)
  clear K3 I3 J3 t4 o4 bA T1
  go_wp2_with fail
  refine (T2.out _ _ K4.out.trk).mono ?_; rintro e w5 ⟨rfl, t5, o5⟩
  have bA := (Below.refl w5.heap.size w5).alloc (Nat.le_refl _) (.cells #[.int .i64 0, .int .i64 0, .int .i64 0, .int .i64 0, .int .i64 0, .int .i64 0, .int .i64 0, .int .i64 0, .int .i64 0] 33)
  have K5 := Lib.hid ((K4.out.take o5 t5).on bA)
  have J5 := Lib.hid ((ints_past J4.out K4.out.trk (noBytes_trk _ _ _ _) o5).below bA)
  clear K4 J4 t5 o5 bA T2
  go_wp2_with fail
  refine (T3.out _ _ _ _ K5.out.trk m3 J5.out).mono ?_; rintro e w6 ⟨rfl, t6, o6⟩
  have bA := (Below.refl w6.heap.size w6).alloc (Nat.le_refl _) (.cells #[.int .i64 0, .int .i64 0, .int .i64 0, .int .i64 0, .int .i64 9, .int .i64 0, .int .i64 0, .int .i64 0, .int .i64 0] 33)
  have K6 := Lib.hid ((K5.out.take o6 t6).on bA)
  have J6 := Lib.hid ((ints_past J5.out K5.out.trk (noBytes_trk _ _ _ _) o6).below bA)
  have R6 := Lib.hid (box_row 0 0 0 0 9 0 0 0 0 w6)
  have ne : w6.heap.size ≠ g := by have := (K5.out.take o6 t6).trk.lt; omega
  have NE := Lib.hid ne
  clear K5 J5 t6 o6 bA T3 ne
  go_wp2_with fail
  refine (T4.out _ _ _ _ K6.out.trk m3 J6.out).mono ?_; rintro e w7 ⟨rfl, t7, o7⟩
  have bA := (Below.refl w7.heap.size w7).alloc (Nat.le_refl _) (.cells #[.int .i64 0, .int .i64 0, .int .i64 0, .int .i64 0, .int .i64 0, .int .i64 0, .int .i64 0, .int .i64 0, .int .i64 0] 33)
  have K7 := Lib.hid ((K6.out.take o7 t7).on bA)
  have R7 := Lib.hid ((R6.out.only o7 NE.out).alloc (.cells #[.int .i64 0, .int .i64 0, .int .i64 0, .int .i64 0, .int .i64 0, .int .i64 0, .int .i64 0, .int .i64 0, .int .i64 0] 33))
  clear K6 J6 t7 o7 bA T4 R6 NE
  have CL := fun W h => last_any g 1 0 true [2, 1, 0, 0, 0, 0, 1] W h
  go_wp2_with fail
  refine (CL _ K7.out.trk).mono ?_; rintro e w8 ⟨rfl, b8⟩
  have K8 := Lib.hid (K7.out.on b8)
  have R8 := Lib.hid (R7.out.below b8 R7.out.lt)
  clear K7 b8 R7 CL
  go_wp2_with fail
  refine (new_no 4 _ (by omega)).mono ?_; rintro e w9 ⟨rfl, rfl⟩
  have c4 := R8.out.cell 4 (by simp)
  rw [show ([0, 0, 0, 0, 9, 0, 0, 0, 0] : List Int).getD 4 0 = 9 from rfl] at c4
  have CC := fun W h => counts_any g 1 0 true [2, 1, 0, 0, 0, 0, 1] W h rfl
  have E7 := eq7
  go_wp2_with fail
  refine (CC _ K8.out.trk).mono ?_; rintro e w10 ⟨he, b10⟩
  have he' : e = .returned (.agg #[.int .i64 2, .int .i64 1, .int .i64 0, .int .i64 0, .int .i64 0, .int .i64 0, .int .i64 1]) := he
  subst he'
  have K10 := Lib.hid (K8.out.on b10)
  clear K8 CC he b10
  go_wp2
  go_ret
  exact ⟨rfl, K10.out.below⟩
end Fh
end Go.Proofs.Ytngdaogcmgmmeaa
