/-
  What Text of rudderref16 tells: a contract by walking the Go text. No conditions.
-/
import Derived.Test.YtdicmpniinjbpaaDoorStatusMode
import Derived.Test.YtdicmpniinjbpaaDoorStatusChannels
namespace Go.Proofs.YtdicmpniinjbpaaDoor
open Go.ChangeShapes Go.WideShapes Go.ChangeAt Go.RowKit Go.Deep
namespace Ss
open Fx

theorem mode_some {s : St} (h : rgt s = true) : ((⟨(md s.i).toArray⟩ : ByteArray).toList == []) = false := by
  have := md_ne (rgt_bd h).1
  rw [ByteArray.toList_eq]
  simpa using this

set_option maxHeartbeats 3200000 in
theorem rtext_any (s : St) (w : World) :
    Calls Tryd.prog 15 #[stv s] w fun e w' => e = .returned (.string ⟨(txs s).toArray⟩) ∧ Below w.heap.size w w' := by
  have C := fun W => rmode_any s W
  have V := Lib.hid (box_new w s 23)
  have B0 := Lib.hid ((Below.refl w.heap.size w).alloc (Nat.le_refl _) (.cells #[.int .i64 s.i, .int .i64 s.l, .int .i64 s.s, .bool s.f] 23))
  cases h : rgt s
  · rw [txs_no h]
    rw [mds_no h] at C
    clear h
    unfold stv at *
    go_enter Tryd.func15, Tryd.ntmps15
    go_wp2_with (go_at_call 13; refine (C _).mono ?_; rintro e w1 ⟨rfl, b1⟩; have B1 := Lib.hid (grow B0.out b1); clear b1)
    go_ret
    exact ⟨rfl, B1.out⟩
  · rw [mds_yes h] at C
    have hm := mode_some h
    have HX := Lib.hid (txs_eq h)
    have CA := fun W => rchannels_any s.i W
    have CL := fun W => rchannels_any s.l W
    have l1 := chn_len s.i
    have l2 := chn_len s.l
    have l3 : (md s.i).length ≤ 6 := nm_len _
    obtain ⟨-, -, hq, -, -⟩ := rgt_bd h
    clear h
    unfold rtx at HX
    obtain ⟨x1, e1⟩ : ∃ x1 : ByteArray, x1 = ⟨(chn s.i).toArray⟩ := ⟨_, rfl⟩
    obtain ⟨x2, e2⟩ : ∃ x2 : ByteArray, x2 = ⟨(chn s.l).toArray⟩ := ⟨_, rfl⟩
    obtain ⟨x3, e3⟩ : ∃ x3 : ByteArray, x3 = ⟨(md s.i).toArray⟩ := ⟨_, rfl⟩
    have z1 : x1.size ≤ 4 := by rw [e1]; exact l1
    have z2 : x2.size ≤ 4 := by rw [e2]; exact l2
    have z3 : x3.size ≤ 6 := by rw [e3]; exact l3
    have H1 := Lib.hid (show tl x1 = chn s.i by rw [e1, tl_mk])
    have H2 := Lib.hid (show tl x2 = chn s.l by rw [e2, tl_mk])
    have H3 := Lib.hid (show tl x3 = md s.i by rw [e3, tl_mk])
    rw [← e1] at CA
    rw [← e2] at CL
    rw [← e3] at C hm
    generalize chn s.i = c1 at *
    generalize chn s.l = c2 at *
    generalize md s.i = c3 at *
    clear e1 e2 e3 l1 l2 l3
    generalize txs s = out at *
    obtain ⟨i, l, q, f⟩ := s
    unfold stv at *
    dsimp only at *
    have hqi : q ∈ [-1, 0, 1, 2, 3] := by simp; omega
    simp only [List.mem_cons, List.mem_nil_iff, or_false] at hqi
    rcases hqi with rfl | rfl | rfl | rfl | rfl
    · go_enter Tryd.func15, Tryd.ntmps15
      go_wp2_with (first | (go_at_call 13; refine (C _).mono ?_; rintro e w1 ⟨rfl, b1⟩; have B1 := Lib.hid (grow B0.out b1); have V1 := Lib.hid (onB V.out b1); obtain ⟨c0, c1, c2, c3⟩ := st_cells V1.out; clear b1))
      refine (CA _).mono ?_; rintro e w2 ⟨rfl, b2⟩
      have B2 := Lib.hid (grow B1.out b2)
      have V2 := Lib.hid (onB V1.out b2)
      clear c0 c1 c2 c3 b2
      obtain ⟨c0, c1, c2, c3⟩ := st_cells V2.out
      go_wp2_with fail
      refine (CL _).mono ?_; rintro e w3 ⟨rfl, b3⟩
      have B3 := Lib.hid (grow B2.out b3)
      clear c0 c1 c2 c3 b3
      go_wp2
      go_ret
      exact ⟨ret_str (of_tl (by simp only [tl_app, H1.out, H2.out, H3.out]; rw [HX.out]; rfl)), B3.out⟩
    · go_enter Tryd.func15, Tryd.ntmps15
      go_wp2_with (first | (go_at_call 13; refine (C _).mono ?_; rintro e w1 ⟨rfl, b1⟩; have B1 := Lib.hid (grow B0.out b1); have V1 := Lib.hid (onB V.out b1); have hst := one_text w1 48 48 rfl; obtain ⟨c0, c1, c2, c3⟩ := st_cells V1.out; have V1a := V1.out.alloc (.cells #[.int .u8 48] 5); obtain ⟨a0, a1, a2, a3⟩ := st_cells V1a; clear b1 V1a))
      refine (CA _).mono ?_; rintro e w2 ⟨rfl, b2⟩
      have B2 := Lib.hid (grow_alloc B1.out b2)
      have V2 := Lib.hid (carry V1.out _ b2)
      clear c0 c1 c2 c3 b2 a0 a1 a2 a3 hst
      obtain ⟨c0, c1, c2, c3⟩ := st_cells V2.out
      go_wp2_with fail
      refine (CL _).mono ?_; rintro e w3 ⟨rfl, b3⟩
      have B3 := Lib.hid (grow B2.out b3)
      clear c0 c1 c2 c3 b3
      go_wp2
      go_ret
      exact ⟨ret_str (of_tl (by simp only [tl_app, H1.out, H2.out, H3.out]; rw [HX.out]; rfl)), B3.out⟩
    · go_enter Tryd.func15, Tryd.ntmps15
      go_wp2_with (first | (go_at_call 13; refine (C _).mono ?_; rintro e w1 ⟨rfl, b1⟩; have B1 := Lib.hid (grow B0.out b1); have V1 := Lib.hid (onB V.out b1); have hst := one_text w1 49 49 rfl; obtain ⟨c0, c1, c2, c3⟩ := st_cells V1.out; have V1a := V1.out.alloc (.cells #[.int .u8 49] 5); obtain ⟨a0, a1, a2, a3⟩ := st_cells V1a; clear b1 V1a))
      refine (CA _).mono ?_; rintro e w2 ⟨rfl, b2⟩
      have B2 := Lib.hid (grow_alloc B1.out b2)
      have V2 := Lib.hid (carry V1.out _ b2)
      clear c0 c1 c2 c3 b2 a0 a1 a2 a3 hst
      obtain ⟨c0, c1, c2, c3⟩ := st_cells V2.out
      go_wp2_with fail
      refine (CL _).mono ?_; rintro e w3 ⟨rfl, b3⟩
      have B3 := Lib.hid (grow B2.out b3)
      clear c0 c1 c2 c3 b3
      go_wp2
      go_ret
      exact ⟨ret_str (of_tl (by simp only [tl_app, H1.out, H2.out, H3.out]; rw [HX.out]; rfl)), B3.out⟩
    · go_enter Tryd.func15, Tryd.ntmps15
      go_wp2_with (first | (go_at_call 13; refine (C _).mono ?_; rintro e w1 ⟨rfl, b1⟩; have B1 := Lib.hid (grow B0.out b1); have V1 := Lib.hid (onB V.out b1); have hst := one_text w1 50 50 rfl; obtain ⟨c0, c1, c2, c3⟩ := st_cells V1.out; have V1a := V1.out.alloc (.cells #[.int .u8 50] 5); obtain ⟨a0, a1, a2, a3⟩ := st_cells V1a; clear b1 V1a))
      refine (CA _).mono ?_; rintro e w2 ⟨rfl, b2⟩
      have B2 := Lib.hid (grow_alloc B1.out b2)
      have V2 := Lib.hid (carry V1.out _ b2)
      clear c0 c1 c2 c3 b2 a0 a1 a2 a3 hst
      obtain ⟨c0, c1, c2, c3⟩ := st_cells V2.out
      go_wp2_with fail
      refine (CL _).mono ?_; rintro e w3 ⟨rfl, b3⟩
      have B3 := Lib.hid (grow B2.out b3)
      clear c0 c1 c2 c3 b3
      go_wp2
      go_ret
      exact ⟨ret_str (of_tl (by simp only [tl_app, H1.out, H2.out, H3.out]; rw [HX.out]; rfl)), B3.out⟩
    · go_enter Tryd.func15, Tryd.ntmps15
      go_wp2_with (first | (go_at_call 13; refine (C _).mono ?_; rintro e w1 ⟨rfl, b1⟩; have B1 := Lib.hid (grow B0.out b1); have V1 := Lib.hid (onB V.out b1); have hst := one_text w1 51 51 rfl; obtain ⟨c0, c1, c2, c3⟩ := st_cells V1.out; have V1a := V1.out.alloc (.cells #[.int .u8 51] 5); obtain ⟨a0, a1, a2, a3⟩ := st_cells V1a; clear b1 V1a))
      refine (CA _).mono ?_; rintro e w2 ⟨rfl, b2⟩
      have B2 := Lib.hid (grow_alloc B1.out b2)
      have V2 := Lib.hid (carry V1.out _ b2)
      clear c0 c1 c2 c3 b2 a0 a1 a2 a3 hst
      obtain ⟨c0, c1, c2, c3⟩ := st_cells V2.out
      go_wp2_with fail
      refine (CL _).mono ?_; rintro e w3 ⟨rfl, b3⟩
      have B3 := Lib.hid (grow B2.out b3)
      clear c0 c1 c2 c3 b3
      go_wp2
      go_ret
      exact ⟨ret_str (of_tl (by simp only [tl_app, H1.out, H2.out, H3.out]; rw [HX.out]; rfl)), B3.out⟩
end Ss
end Go.Proofs.YtdicmpniinjbpaaDoor
