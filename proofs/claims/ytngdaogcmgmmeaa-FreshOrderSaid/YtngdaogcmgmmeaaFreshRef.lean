/-
  What Begin and Take of package rudderref06 do: their contracts by walking the Go text. Conditions: where the track and the bytes lie; that counts are far from an int's end.
-/
import Derived.Test.YtngdaogcmgmmeaaFreshObs
import Derived.Test.YtngdaogcmgmmeaaWordRef
namespace Go.Proofs.Ytngdaogcmgmmeaa
open Go.ChangeShapes Go.WideShapes Go.ChangeAt Go.RowKit Go.Deep
namespace Fh
open Wd Fm
open Cr (Bytes)

/-- The cells of the document's track; its last number is -1 where there is none. -/
def rtk (c last : Int) (n : List Int) : List Value := .int .i64 c :: .int .i64 last :: cellsI .i64 n
def rl (last : Int) (has : Bool) : Int := if has = true then last else -1
def RTakeR (w : World) (g : Nat) (t : TypeId) (c last : Int) (has : Bool) (n : List Int) (is : Bool) (l : List Int) (e : Ending) (w' : World) : Prop :=
  e = .returned (.tuple #[.agg (cellsI .i64 (jf c last has is l)).toArray, .int .i64 (jr c last has is l)]) ∧ VRow w' g t (rtk c (rl (jl c last is l) (jh c has is l)) (one n (jr c last has is l).toNat)) ∧ Only g w w'
theorem rtk_set {c last : Int} {n : List Int} (k : Nat) (x : Int) : (rtk c last n).set (2 + k) (.int .i64 x) = rtk c last (n.set k x) := by
  unfold rtk; rw [cellsI_set, Nat.add_comm 2 k]; rfl
theorem rtk_at {c last : Int} {n : List Int} (k : Nat) (h : k < n.length) : (rtk c last n)[2 + k]? = some (.int .i64 (n.getD k 0)) := by
  unfold rtk; rw [Nat.add_comm 2 k]; exact cellsI_get .i64 n k h
theorem begin_any (c : Int) (w : World) :
    Calls Try.prog 8 #[.int .i64 c] w fun e w' => e = .returned (.pointer (some ⟨w.heap.size, 0, none⟩)) ∧ w' = w.alloc (.cells (rtk c (-1) [0, 0, 0, 0, 0, 0, 0]).toArray 44) := by
  go_enter Try.func8, Try.ntmps8
  go_wp2
  go_ret
  exact ⟨rfl, rfl⟩
/-- Behind a count's store, and perhaps the last number's. -/
theorem rcounted {w W : World} {g6 g : Nat} {c last : Int} {n : List Int} {t : TypeId} {f : List Int} (L : Lying w W g6 g (rtk c last n) t f) (k : Nat) (x : Int) :
    VRow (W.setCell ⟨g, 2 + k, none⟩ (.int .i64 x)) g t (rtk c last (n.set k x)) ∧ IRow .i64 (W.setCell ⟨g, 2 + k, none⟩ (.int .i64 x)) (w.heap.size + 1) 33 (List.replicate 9 0) ∧ Only g w (W.setCell ⟨g, 2 + k, none⟩ (.int .i64 x)) := by
  have hl := L.lt
  have ne : w.heap.size + 1 ≠ g := by omega
  refine ⟨by rw [← rtk_set]; exact L.trk.set (2 + k) _, L.out.vrow.setOther (p := ⟨g, 2 + k, none⟩) ne _, ?_⟩
  have b0 : But (· = g) w W := But.of_below L.below
  exact b0.setCell (p := ⟨g, 2 + k, none⟩) (Or.inl rfl) _
theorem rmarked {w W : World} {g6 g : Nat} {c last : Int} {n : List Int} {t : TypeId} {f : List Int} (L : Lying w W g6 g (rtk c last n) t f) (nq : Nat) (s : Int) (k : Nat) (x : Int) :
    VRow (((W.drewN nq).setCell ⟨g, 1, none⟩ (.int .i64 s)).setCell ⟨g, 2 + k, none⟩ (.int .i64 x)) g t (rtk c s (n.set k x)) ∧ IRow .i64 (((W.drewN nq).setCell ⟨g, 1, none⟩ (.int .i64 s)).setCell ⟨g, 2 + k, none⟩ (.int .i64 x)) (w.heap.size + 1) 33 (List.replicate 9 0) ∧
      Only g w (((W.drewN nq).setCell ⟨g, 1, none⟩ (.int .i64 s)).setCell ⟨g, 2 + k, none⟩ (.int .i64 x)) := by
  have hl := L.lt
  have ne : w.heap.size + 1 ≠ g := by omega
  have h1 : VRow ((W.drewN nq).setCell ⟨g, 1, none⟩ (.int .i64 s)) g t (rtk c s n) := (L.trk.drewN nq).set 1 _
  refine ⟨by rw [← rtk_set]; exact h1.set (2 + k) _, ((L.out.drewN nq).vrow.setOther (p := ⟨g, 1, none⟩) ne _).setOther (p := ⟨g, 2 + k, none⟩) ne _, ?_⟩
  have b0 : But (· = g) w (W.drewN nq) := (But.of_below L.below).drewN nq
  exact (b0.setCell (p := ⟨g, 1, none⟩) (Or.inl rfl) _).setCell (p := ⟨g, 2 + k, none⟩) (Or.inl rfl) _

section
variable (g : Nat) (c last : Int) (has : Bool) (n : List Int) (is : Bool) (a : Option Addr) (cap : Nat) (l : List Int) (w : World)
set_option maxHeartbeats 6400000 in
theorem rtake_any (hT : VRow w g 44 (rtk c (rl last has) n)) (hn : n.length = 7) (hc : ∀ k, 0 ≤ n.getD k 0 ∧ n.getD k 0 < 4611686018427387904) (hp : has = true → 0 ≤ last) (hm : l.length ≤ cap) (hy : Bytes l) (hb : IntsAt .u8 w a l) :
    Calls Try.prog 10 #[.pointer (some ⟨g, 0, none⟩), .agg #[.bool is, .slice a l.length cap]] w (RTakeR w g 44 c last has n is l) := by
  have B0 := Lib.hid (begun w g _ _ is a cap l hT hb)
  have hg := hT.lt
  obtain ⟨s, v0, v1, v2, v3, v4, v5, v6, v7, hd, j0, j1, j2⟩ := judge_facts c last has is l hy
  have CD := fun W hb => (rdec_any c is a cap l W hm hy hb).mono fun e w' q => dec_form (vs := [.int .i64 s, .int .i64 v0, .int .i64 v1, .int .i64 v2, .int .i64 v3, .int .i64 v4, .int .i64 v5, .int .i64 v6, .int .i64 v7]) q (by rw [hd]; rfl)
  have J0 := Lib.hid j0
  have J1 := Lib.hid j1
  have J2 := Lib.hid j2
  have hrg := rej_range c is l
  clear hT hb hm hy j0 j1 j2 hd
  generalize rej c is l = r at *
  go_enter Try.func10, Try.ntmps10
  go_wp2
  generalize (w.alloc (.cells #[.bool is, .slice a l.length cap] 39)).alloc (.cells #[.int .i64 0, .int .i64 0, .int .i64 0, .int .i64 0, .int .i64 0, .int .i64 0, .int .i64 0, .int .i64 0, .int .i64 0] 33) = W at *
  have s0 := B0.out.s0
  have s1 := B0.out.s1
  have c0 := B0.out.trk.cell 0 (v := .int .i64 c) rfl
  have s0' := alloc_cell (.cells #[.int .i64 0, .int .i64 0, .int .i64 0, .int .i64 0, .int .i64 0, .int .i64 0, .int .i64 0, .int .i64 0, .int .i64 0] 33) s0
  have s1' := alloc_cell (.cells #[.int .i64 0, .int .i64 0, .int .i64 0, .int .i64 0, .int .i64 0, .int .i64 0, .int .i64 0, .int .i64 0, .int .i64 0] 33) s1
  have c0' := alloc_cell (.cells #[.int .i64 0, .int .i64 0, .int .i64 0, .int .i64 0, .int .i64 0, .int .i64 0, .int .i64 0, .int .i64 0, .int .i64 0] 33) c0
  go_upto_region 1 with fail
  go_cut [6, 7] (fun s6 s7 wx => ∃ g6 : Nat, s6 = .pointer (some ⟨g6, 0, none⟩) ∧ s7 = .int .i64 r ∧ Hid (Lying w wx g6 g (rtk c (rl last has) n) 44 [s, v0, v1, v2, v3, v4, v5, v6, v7]))
  case first =>
    go_region_with (go_at_call 16; first
      | (refine (CD _ B0.out.bytes.drew).mono ?_; rintro e w1 ⟨rfl, b1⟩)
      | (refine (CD _ (B0.out.bytes.below ((Below.refl _ _).alloc (Nat.le_refl _) _)).drew).mono ?_; rintro e w1 ⟨rfl, b1⟩
         have P1 := Lib.hid (box_after b1); obtain ⟨z0, z1, z2, z3, z4, z5, z6, z7, z8⟩ := row9 P1.out; obtain ⟨q0, q1, q2, q3, q4, q5, q6, q7, q8⟩ := row9_frozen P1.out))
    all_goals (go_wp2_with fail; go_meet)
    all_goals first
      | exact ⟨_, rfl, rfl, Lib.hid (lying_a B0.out b1 hg s v0 v1 v2 v3 v4 v5 v6 v7)⟩
      | exact ⟨_, rfl, rfl, Lib.hid (lying_b B0.out b1 hg s v0 v1 v2 v3 v4 v5 v6 v7)⟩
  case rest =>
    obtain ⟨g6, rfl, rfl, L⟩ := hcut
    clear B0 s0 s1 c0 s0' s1' c0' CD
    obtain ⟨z0, z1, z2, z3, z4, z5, z6, z7, z8⟩ := row9 (show IRow .i64 wc (w.heap.size + 1) 33 [0, 0, 0, 0, 0, 0, 0, 0, 0] from L.out.out)
    obtain ⟨q0, q1, q2, q3, q4, q5, q6, q7, q8⟩ := row9_frozen L.out.out
    obtain ⟨y0, y1, y2, y3, y4, y5, y6, y7, y8⟩ := row9 L.out.box
    have c1 := L.out.trk.cell 1 (v := .int .i64 (rl last has)) rfl
    have f1 := L.out.trk.frozen 1
    have t2 := L.out.le
    have n1 : g ≠ g6 := by omega
    have n2 : g6 ≠ g := by omega
    have n3 : g ≠ w.heap.size + 1 := by omega
    have n4 : w.heap.size + 1 ≠ g := by omega
    have n5 : g6 ≠ w.heap.size + 1 := by omega
    have n6 : w.heap.size + 1 ≠ g6 := by omega
    clear t2
    by_cases hr : r = 0
    · subst hr
      have cn := L.out.trk.cell 2 (v := .int .i64 (n.getD 0 0)) (rtk_at 0 (by omega))
      have f2 := L.out.trk.frozen 2
      have hk := hc 0
      have ht1 : n.getD 0 0 + 1 ≤ 9223372036854775807 := by omega
      have cn6 := L.out.trk.cell 8 (v := .int .i64 (n.getD 6 0)) (rtk_at 6 (by omega))
      have f6 := L.out.trk.frozen 8
      have hk6 := hc 6
      have ht6 : n.getD 6 0 + 1 ≤ 9223372036854775807 := by omega
      clear hc hrg
      generalize hv0 : n.getD 0 0 = x0 at *
      generalize hv6 : n.getD 6 0 = x6 at *
      have V0 := Lib.hid hv0
      have V6 := Lib.hid hv6
      clear hv0 hv6
      cases has
      · rw [show rl last false = -1 from rfl] at *
        clear hp cn6 f6 hk6 ht6
        go_wp2_with fail
        go_quiet (fail)
        go_wp2_with fail
        go_region
        go_wp2
        obtain ⟨e1, e2, e3⟩ := rmarked L.out nq s 0 (x0 + 1)
        obtain ⟨e4, e5, e6⟩ := lying_end e1 e2 e3 n3 (Nat.le_succ _) s v0 v1 v2 v3 v4 v5 v6 v7
        obtain ⟨i1, i2, i3, i4⟩ := J1.out (by simp) (Or.inl (by simp))
        refine bodyPost_ret (v := .tuple #[.agg #[.int .i64 s, .int .i64 v0, .int .i64 v1, .int .i64 v2, .int .i64 v3, .int .i64 v4, .int .i64 v5, .int .i64 v6, .int .i64 v7], .int .i64 0]) ?_ rfl ⟨by rw [i1, i2]; rfl, ?_, But.drew e6⟩
        · exact (Agg.ret_row2 (l := [s, v0, v1, v2, v3, v4, v5, v6, v7]) rfl rfl (agg9 _) size9 e4.drew).trans rfl
        · rw [i1, i3, i4]; unfold one; rw [show (0 : Int).toNat = 0 from rfl, V0.out]; exact e5.drew
      · have hp' := hp rfl
        have dp : decide (0 ≤ last) = true := by simpa using hp'
        rw [show rl last true = last from rfl] at *
        clear hp
        by_cases hs : s = next last
        · have ds : (s != next last) = false := by simpa using hs
          have HS := Lib.hid hs
          clear hs cn6 f6 hk6 ht6
          go_wp2_with fail
          go_quiet ((go_at_call 17; exact still_quiet (fun W => Wr.rnext_any _ W)))
          go_wp2_with fail
          go_region
          go_wp2
          obtain ⟨e1, e2, e3⟩ := rmarked L.out nq s 0 (x0 + 1)
          obtain ⟨e4, e5, e6⟩ := lying_end e1 e2 e3 n3 (Nat.le_succ _) s v0 v1 v2 v3 v4 v5 v6 v7
          obtain ⟨i1, i2, i3, i4⟩ := J1.out (by simp) (Or.inr HS.out)
          refine bodyPost_ret (v := .tuple #[.agg #[.int .i64 s, .int .i64 v0, .int .i64 v1, .int .i64 v2, .int .i64 v3, .int .i64 v4, .int .i64 v5, .int .i64 v6, .int .i64 v7], .int .i64 0]) ?_ rfl ⟨by rw [i1, i2]; rfl, ?_, But.drew e6⟩
          · exact (Agg.ret_row2 (l := [s, v0, v1, v2, v3, v4, v5, v6, v7]) rfl rfl (agg9 _) size9 e4.drew).trans rfl
          · rw [i1, i3, i4]; unfold one; rw [show (0 : Int).toNat = 0 from rfl, V0.out]; exact e5.drew
        · have ds : (s != next last) = true := by simpa using hs
          have HS := Lib.hid hs
          clear hs cn f2 hk ht1
          go_wp2_with fail
          go_quiet ((go_at_call 17; exact still_quiet (fun W => Wr.rnext_any _ W)))
          go_wp2_with fail
          go_region
          go_wp2
          obtain ⟨e1, e2, e3⟩ := rmarked L.out nq s 6 (x6 + 1)
          obtain ⟨e4, e5, e6⟩ := lying_end e1 e2 e3 n3 (Nat.le_succ _) 0 0 0 0 0 0 0 0 0
          obtain ⟨i1, i2, i3, i4⟩ := J2.out (by simp) (by simp) HS.out
          refine bodyPost_ret (v := .tuple #[.agg #[.int .i64 0, .int .i64 0, .int .i64 0, .int .i64 0, .int .i64 0, .int .i64 0, .int .i64 0, .int .i64 0, .int .i64 0], .int .i64 6]) ?_ rfl ⟨by rw [i1, i2]; rfl, ?_, But.drew e6⟩
          · exact (Agg.ret_row2 (l := [0, 0, 0, 0, 0, 0, 0, 0, 0]) rfl rfl (agg9 _) size9 e4.drew).trans rfl
          · rw [i1, i3, i4]; unfold one; rw [show (6 : Int).toNat = 6 from rfl, V6.out]; exact e5.drew
    · obtain ⟨k, rfl⟩ : ∃ k : Nat, r = k := ⟨r.toNat, by omega⟩
      have dr : ((k : Int) == 0) = false := by simpa using hr
      have dr' : ((k : Int) != 0) = true := by simpa using hr
      have cn := L.out.trk.cell (2 + k) (v := .int .i64 (n.getD k 0)) (rtk_at k (by omega))
      have f2 := L.out.trk.frozen (2 + k)
      have hk := hc k
      have ht1 : n.getD k 0 + 1 ≤ 9223372036854775807 := by omega
      have hk7 : k < 7 := by omega
      generalize hv0 : n.getD k 0 = x0 at *
      have V0 := Lib.hid hv0
      have HC := Lib.hid hc
      clear hv0 hc hrg
      go_wp2_with fail
      go_region
      go_wp2
      obtain ⟨e1, e2, e3⟩ := rcounted L.out k (x0 + 1)
      obtain ⟨e4, e5, e6⟩ := lying_end e1 e2 e3 n3 (Nat.le_succ _) 0 0 0 0 0 0 0 0 0
      obtain ⟨i1, i2, i3, i4⟩ := J0.out hr
      refine bodyPost_ret (v := .tuple #[.agg #[.int .i64 0, .int .i64 0, .int .i64 0, .int .i64 0, .int .i64 0, .int .i64 0, .int .i64 0, .int .i64 0, .int .i64 0], .int .i64 k]) ?_ rfl ⟨by rw [i1, i2]; rfl, ?_, But.drew e6⟩
      · exact (Agg.ret_row2 (l := [0, 0, 0, 0, 0, 0, 0, 0, 0]) rfl rfl (agg9 _) size9 e4.drew).trans rfl
      · rw [i1, i3, i4]; unfold one; rw [Int.toNat_natCast, V0.out]; exact e5.drew
end
end Fh
end Go.Proofs.Ytngdaogcmgmmeaa
