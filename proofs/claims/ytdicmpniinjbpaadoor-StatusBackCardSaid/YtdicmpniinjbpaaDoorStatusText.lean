/-
  What Text of package status tells: a contract by walking the Go text. Condition: the table of modes lies in memory as the text lays it.
-/
import Derived.Test.YtdicmpniinjbpaaDoorStatusMode
import Derived.Test.YtdicmpniinjbpaaDoorStatusChannels
import Derived.Test.YtdicmpniinjbpaaDoorStrShelf
import Derived.Test.YtdicmpniinjbpaaDoorTail
namespace Go.Proofs.YtdicmpniinjbpaaDoor
open Go.ChangeShapes Go.WideShapes Go.ChangeAt Go.RowKit Go.Deep
namespace Ss
open Fx

/-- Seven texts, just laid, joined by a blank. -/
theorem join7 (W : World) (a b c d e f g : List UInt8) (hl : (Lib.join [a, b, c, d, e, f, g] [32]).length ≤ 200) :
    Calls Tryd.prog 23 #[.slice (some ⟨W.heap.size, 0, none⟩) 7 7, .string ⟨#[32]⟩] (W.alloc (.cells #[.string ⟨a.toArray⟩, .string ⟨b.toArray⟩, .string ⟨c.toArray⟩, .string ⟨d.toArray⟩, .string ⟨e.toArray⟩, .string ⟨f.toArray⟩, .string ⟨g.toArray⟩] 9))
      fun r w' => r = .returned (.string ⟨(Lib.join [a, b, c, d, e, f, g] [32]).toArray⟩) ∧ Below W.heap.size W w' := by
  have J := Sh.strings_Join W.heap.size 0 7 ([a, b, c, d, e, f, g].map fun l => (⟨l.toArray⟩ : ByteArray)) ⟨#[32]⟩ (W.alloc (.cells #[.string ⟨a.toArray⟩, .string ⟨b.toArray⟩, .string ⟨c.toArray⟩, .string ⟨d.toArray⟩, .string ⟨e.toArray⟩, .string ⟨f.toArray⟩, .string ⟨g.toArray⟩] 9))
    (fun j x hj => by
      rw [Nat.zero_add]
      have := VRow.cell (VRow.new W ([a, b, c, d, e, f, g].map fun l => Value.string ⟨l.toArray⟩) 9) j (v := .string x) (by
        rw [List.getElem?_map] at hj ⊢
        generalize [a, b, c, d, e, f, g][j]? = o at *
        cases o
        · simp at hj
        · simp only [Option.map_some, Option.some.injEq] at hj ⊢; rw [hj])
      exact this) (by simp) (by simp) (by simp) (by rw [show (([a, b, c, d, e, f, g].map fun l => (⟨l.toArray⟩ : ByteArray)).map (·.data.toList)) = [a, b, c, d, e, f, g] by simp]; exact Nat.le_trans hl (by omega))
  have e0 : (([a, b, c, d, e, f, g].map fun l => (⟨l.toArray⟩ : ByteArray)).map (·.data.toList)) = [a, b, c, d, e, f, g] := by simp
  rw [e0] at J
  refine J.mono ?_
  rintro r w' ⟨h, k⟩
  refine ⟨h, ?_⟩
  exact ((Below.refl W.heap.size W).alloc (Nat.le_refl _) _).trans (k.mono (by simp))

theorem txs_len {s : St} (_ : rgt s = true) : (Lib.join [[105, 110], chn s.i, [108, 97, 116, 99, 104, 101, 100], chn s.l, [115, 117, 115, 112, 101, 99, 116], chn (sm2 s.s), md s.i] [32]).length ≤ 200 := by
  have h1 := chn_len s.i
  have h2 := chn_len s.l
  have h3 := chn_len (sm2 s.s)
  have h4 : (md s.i).length ≤ 6 := nm_len _
  simp [Lib.join]
  omega
theorem txs_yes {s : St} (h : rgt s = true) : txs s = Lib.join [[105, 110], chn s.i, [108, 97, 116, 99, 104, 101, 100], chn s.l, [115, 117, 115, 112, 101, 99, 116], chn (sm2 s.s), md s.i] [32] := by unfold txs; rw [if_pos h]

set_option maxHeartbeats 3200000 in
theorem text_any (s : St) (w : World) (hT : TabAt w) :
    Calls Tryd.prog 14 #[stv s] w fun e w' => e = .returned (.string ⟨(txs s).toArray⟩) ∧ Below w.heap.size w w' := by
  have C := fun W => right_any s W
  have V := Lib.hid (box_new w s 23)
  have B0 := Lib.hid ((Below.refl w.heap.size w).alloc (Nat.le_refl _) (.cells #[.int .i64 s.i, .int .i64 s.l, .int .i64 s.s, .bool s.f] 23))
  cases h : rgt s
  · rw [txs_no h]
    rw [h] at C
    clear h
    unfold stv at *
    go_enter Tryd.func14, Tryd.ntmps14
    go_wp2_with (go_at_call 10; refine (C _).mono ?_; rintro e w1 ⟨rfl, b1⟩; have B1 := Lib.hid (grow B0.out b1); clear b1)
    go_ret
    exact ⟨rfl, B1.out⟩
  · rw [txs_yes h]
    have CM := fun W (t : TabAt W) => mode_any s W t
    rw [mds_yes h] at CM
    have CH := fun m W => channels_any m W
    have HJ := Lib.hid (txs_len h)
    have HT := Lib.hid hT
    obtain ⟨-, -, hq, -, -⟩ := rgt_bd h
    rw [h] at C
    clear h hT
    generalize chn = ch at *
    generalize md s.i = me at *
    obtain ⟨i, l, q, f⟩ := s
    unfold stv at *
    dsimp only at *
    have hqi : q ∈ [-1, 0, 1, 2, 3] := by simp; omega
    simp only [List.mem_cons, List.mem_nil_iff, or_false] at hqi
    rcases hqi with rfl | rfl | rfl | rfl | rfl
    · rw [show sm2 (-1) = 0 from rfl] at HJ ⊢
      go_enter Tryd.func14, Tryd.ntmps14
      go_wp2_with (go_at_call 10; refine (C _).mono ?_; rintro e w1 ⟨rfl, b1⟩; have B1 := Lib.hid (grow B0.out b1); have V1 := Lib.hid (onB V.out b1); have T1 := Lib.hid (HT.out.below B1.out); obtain ⟨c0, c1, c2, c3⟩ := st_cells V1.out; clear b1)
      refine Tail.wp_region_quiet_tail 9 (by kernel_rfl) (by kernel_rfl) ?_
      simp only [List.take_succ_cons, List.take_zero, List.drop_succ_cons, List.drop_zero]
      repeat (first | go_big_quiet_step (fail) | (go_big_quiet_want; go_big_quiet_op; refine ⟨_, (CH _ _).mono (fun e w' q => ⟨q.1, q.2.symm⟩), ?_⟩; go_big_quiet_on))
      refine wpQuiet_nil ?_
      go_wp2_with (first | (go_at_call 12; refine (CM _ (T1.out.below (Below.refl _ _).drew)).mono ?_; rintro e w2 ⟨rfl, b2⟩; have B2 := Lib.hid (grow B1.out.drew b2)) | (go_at_call 23; refine (join7 _ _ _ _ _ _ _ _ HJ.out).mono ?_; rintro e w3 ⟨rfl, b3⟩; have B3 := Lib.hid (grow B2.out b3)))
      go_ret
      exact ⟨rfl, B3.out⟩
    · rw [show sm2 0 = 1 from rfl] at HJ ⊢
      go_enter Tryd.func14, Tryd.ntmps14
      go_wp2_with (go_at_call 10; refine (C _).mono ?_; rintro e w1 ⟨rfl, b1⟩; have B1 := Lib.hid (grow B0.out b1); have V1 := Lib.hid (onB V.out b1); have T1 := Lib.hid (HT.out.below B1.out); obtain ⟨c0, c1, c2, c3⟩ := st_cells V1.out; clear b1)
      refine Tail.wp_region_quiet_tail 9 (by kernel_rfl) (by kernel_rfl) ?_
      simp only [List.take_succ_cons, List.take_zero, List.drop_succ_cons, List.drop_zero]
      repeat (first | go_big_quiet_step (fail) | (go_big_quiet_want; go_big_quiet_op; refine ⟨_, (CH _ _).mono (fun e w' q => ⟨q.1, q.2.symm⟩), ?_⟩; go_big_quiet_on))
      refine wpQuiet_nil ?_
      go_wp2_with (first | (go_at_call 12; refine (CM _ (T1.out.below (Below.refl _ _).drew)).mono ?_; rintro e w2 ⟨rfl, b2⟩; have B2 := Lib.hid (grow B1.out.drew b2)) | (go_at_call 23; refine (join7 _ _ _ _ _ _ _ _ HJ.out).mono ?_; rintro e w3 ⟨rfl, b3⟩; have B3 := Lib.hid (grow B2.out b3)))
      go_ret
      exact ⟨rfl, B3.out⟩
    · rw [show sm2 1 = 2 from rfl] at HJ ⊢
      go_enter Tryd.func14, Tryd.ntmps14
      go_wp2_with (go_at_call 10; refine (C _).mono ?_; rintro e w1 ⟨rfl, b1⟩; have B1 := Lib.hid (grow B0.out b1); have V1 := Lib.hid (onB V.out b1); have T1 := Lib.hid (HT.out.below B1.out); obtain ⟨c0, c1, c2, c3⟩ := st_cells V1.out; clear b1)
      refine Tail.wp_region_quiet_tail 9 (by kernel_rfl) (by kernel_rfl) ?_
      simp only [List.take_succ_cons, List.take_zero, List.drop_succ_cons, List.drop_zero]
      repeat (first | go_big_quiet_step (fail) | (go_big_quiet_want; go_big_quiet_op; refine ⟨_, (CH _ _).mono (fun e w' q => ⟨q.1, q.2.symm⟩), ?_⟩; go_big_quiet_on))
      refine wpQuiet_nil ?_
      go_wp2_with (first | (go_at_call 12; refine (CM _ (T1.out.below (Below.refl _ _).drew)).mono ?_; rintro e w2 ⟨rfl, b2⟩; have B2 := Lib.hid (grow B1.out.drew b2)) | (go_at_call 23; refine (join7 _ _ _ _ _ _ _ _ HJ.out).mono ?_; rintro e w3 ⟨rfl, b3⟩; have B3 := Lib.hid (grow B2.out b3)))
      go_ret
      exact ⟨rfl, B3.out⟩
    · rw [show sm2 2 = 4 from rfl] at HJ ⊢
      go_enter Tryd.func14, Tryd.ntmps14
      go_wp2_with (go_at_call 10; refine (C _).mono ?_; rintro e w1 ⟨rfl, b1⟩; have B1 := Lib.hid (grow B0.out b1); have V1 := Lib.hid (onB V.out b1); have T1 := Lib.hid (HT.out.below B1.out); obtain ⟨c0, c1, c2, c3⟩ := st_cells V1.out; clear b1)
      refine Tail.wp_region_quiet_tail 9 (by kernel_rfl) (by kernel_rfl) ?_
      simp only [List.take_succ_cons, List.take_zero, List.drop_succ_cons, List.drop_zero]
      repeat (first | go_big_quiet_step (fail) | (go_big_quiet_want; go_big_quiet_op; refine ⟨_, (CH _ _).mono (fun e w' q => ⟨q.1, q.2.symm⟩), ?_⟩; go_big_quiet_on))
      refine wpQuiet_nil ?_
      go_wp2_with (first | (go_at_call 12; refine (CM _ (T1.out.below (Below.refl _ _).drew)).mono ?_; rintro e w2 ⟨rfl, b2⟩; have B2 := Lib.hid (grow B1.out.drew b2)) | (go_at_call 23; refine (join7 _ _ _ _ _ _ _ _ HJ.out).mono ?_; rintro e w3 ⟨rfl, b3⟩; have B3 := Lib.hid (grow B2.out b3)))
      go_ret
      exact ⟨rfl, B3.out⟩
    · rw [show sm2 3 = 8 from rfl] at HJ ⊢
      go_enter Tryd.func14, Tryd.ntmps14
      go_wp2_with (go_at_call 10; refine (C _).mono ?_; rintro e w1 ⟨rfl, b1⟩; have B1 := Lib.hid (grow B0.out b1); have V1 := Lib.hid (onB V.out b1); have T1 := Lib.hid (HT.out.below B1.out); obtain ⟨c0, c1, c2, c3⟩ := st_cells V1.out; clear b1)
      refine Tail.wp_region_quiet_tail 9 (by kernel_rfl) (by kernel_rfl) ?_
      simp only [List.take_succ_cons, List.take_zero, List.drop_succ_cons, List.drop_zero]
      repeat (first | go_big_quiet_step (fail) | (go_big_quiet_want; go_big_quiet_op; refine ⟨_, (CH _ _).mono (fun e w' q => ⟨q.1, q.2.symm⟩), ?_⟩; go_big_quiet_on))
      refine wpQuiet_nil ?_
      go_wp2_with (first | (go_at_call 12; refine (CM _ (T1.out.below (Below.refl _ _).drew)).mono ?_; rintro e w2 ⟨rfl, b2⟩; have B2 := Lib.hid (grow B1.out.drew b2)) | (go_at_call 23; refine (join7 _ _ _ _ _ _ _ _ HJ.out).mono ?_; rintro e w3 ⟨rfl, b3⟩; have B3 := Lib.hid (grow B2.out b3)))
      go_ret
      exact ⟨rfl, B3.out⟩
end Ss
end Go.Proofs.YtdicmpniinjbpaaDoor
