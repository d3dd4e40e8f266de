/-
  LatchUnharmed, walked: without a trip it is in, as at its beginning; with too few tripped ones in a row it is in, still; behind so many clean ones it is let in, if it is not out. Its conditions: where the list lies, what the kinds hold.
-/
import Derived.Test.YtcpfdohodadcaaaLatchTail
import Derived.Test.YtcpfdohodadcaaaLatchRowWalk
import Derived.Test.YtcpfdohodadcaaaMany
namespace Go.Proofs.Ytcpfdohodadcaaa
open Go.ChangeShapes Go.WideShapes Go.ChangeAt Go.RowKit Go.Deep
namespace Lc

theorem i3_zero (w : World) (n : Nat) (f : Tmp → Value) (W : World) : I3 w n (fun _ => false) f W := ⟨fun q => (Bool.noConfusion q), fun q => (Bool.noConfusion q)⟩
theorem i22_zero (w : World) (l : List Bool) (m : Nat) (f : Tmp → Value) (W : World) : I22 w l m (fun _ => false) f W := ⟨fun q => (Bool.noConfusion q), fun q => (Bool.noConfusion q), fun q => (Bool.noConfusion q), fun q => (Bool.noConfusion q)⟩

set_option maxRecDepth 100000 in
set_option maxHeartbeats 3200000 in
theorem unharmed_main (L C B : Int) (a : Option Addr) (cap : Nat) (l : List Bool) (n : Nat) (w : World) (hn : n ≤ 255) (hr : rgt L C B = true) (h3 : ¬ 300 < l.length) (hb : BoolsAt w a l) :
    Calls Try.prog 6 #[rlv L C B, .slice a l.length cap, .int .u8 n] w fun e w' => e = .returned (.bool true) ∧ Below w.heap.size w w' := by
  have CA := alive_any
  have C0 := fun W => right_any L C B W
  have HR := Lib.hid (rgt_iff.1 hr)
  have HG := Lib.hid hr
  obtain ⟨h1, h2, h3', h4, h5, h6⟩ := HR.out
  rw [hr] at C0
  clear hr
  have HB := Lib.hid hb
  clear hb
  have hl3 : l.length ≤ 300 := by omega
  have d3 : decide (300 < (l.length : Int)) = false := by simp; omega
  clear h3
  have wn : IntKind.i64.wrap (n : Int) = n := by rw [IntKind.wrap_i64]; omega
  unfold rlv
  go_enter Try.func6, Try.ntmps6
  go_wp2_with fail
  refine (C0 _).mono ?_
  rintro e w1 ⟨rfl, b1⟩
  have B1 := Lib.hid (grow_alloc (Below.refl w.heap.size w) b1)
  have R1 := Lib.hid (onB (VRow.new w (rlr L C B) 23) b1)
  clear b1 C0
  go_wp2_with fail
  refine Lj.wp_region_late (aF := ?_) 12 10 139 [34, 7] [35, 30, 37, 8] [(36, stv zer), (38, .int .i64 0)] [true, true, true, false, false, false, false, false, false, false, false, false] [false, false, false, true, true, true, true, false, false, true, false, false] [false, false, false, false, false, false, false, true, true, false, false, true] [3, 4, 5, 6, 9] (I3 w1 n) S3
    (fun f W => ∃ g, f 7 = .pointer (some ⟨g, 0, none⟩) ∧ Kp.Kept w1 W g 25 (str zer)) (by kernel_rfl) (by kernel_rfl) (by kernel_rfl) rfl (i3_zero w1 n _ _) (fun h h' f f' W W' I hh hf b => I.keep (hh 3 (by decide)) (hh 9 (by decide)) (hf 34 (by decide)) (hf 7 (by decide)) b) ?_ ?_ ?_ ?_ ?_
  case refine_2 =>
    intro W bW
    obtain ⟨c0, c1, c2⟩ := rl_cells (onB R1.out bW)
    replace c0 := cell_regrown c0
    replace c1 := cell_regrown c1
    replace c2 := cell_regrown c2
    simp only [List.take_succ_cons, List.take_zero, Lt.sel, Lj.fill, List.foldl, Act.put, List.setIfInBounds_toArray, List.set_cons_succ, List.set_cons_zero]
    repeat (go_big_quiet_step (fail))
    exact rfl
  case refine_3 =>
    intro i o ho hi
    simp only [List.mem_cons, List.not_mem_nil, or_false] at hi
    rcases hi with rfl | rfl | rfl | rfl | rfl
    · obtain rfl := Option.some.inj ho; exact pre3_make hn rfl
    · obtain rfl := Option.some.inj ho; exact pre3_run hn HG.out ⟨⟨3, .data⟩, by simp, rfl, rfl⟩ rfl
    · obtain rfl := Option.some.inj ho; exact pre3_move
    · obtain rfl := Option.some.inj ho; exact pre3_take rfl
    · obtain rfl := Option.some.inj ho; exact pre3_alloc
  case refine_4 =>
    intro o ho
    rcases List.mem_cons.1 ho with rfl | ho
    · exact free3_slice
    rcases List.mem_cons.1 ho with rfl | ho
    · exact free3_err rfl
    rcases List.mem_cons.1 ho with rfl | ho
    · exact free3_put
    · cases ho
  case refine_5 =>
    intro st hs
    obtain rfl := Option.some.inj hs
    exact store3 ⟨⟨9, .data⟩, by simp, rfl, rfl⟩ rfl
  rintro f W3 hf ⟨g7, e7, k7⟩
  clear hf
  have R3 := Lib.hid (onB R1.out k7.below)
  have B3 := Lib.hid (grow B1.out k7.below)
  have hbl := HB.out.below B3.out
  have K7 := st_cells k7.row
  obtain ⟨p0, p1, p2, p3, p4⟩ := K7
  clear k7 R1 B1
  simp only [List.drop_succ_cons, List.drop_zero, Lt.putAll, List.cons_append, List.nil_append, List.map_cons, List.map_nil, List.zip_cons_cons, List.zip_nil_right, List.foldl, Act.put, List.setIfInBounds_toArray, List.set_cons_succ, List.set_cons_zero, e7]
  generalize f 34 = v34
  generalize f 35 = v35
  generalize f 30 = v30
  generalize f 37 = v37
  generalize f 8 = v8
  clear e7 f
  go_wp2_with fail
  go_loopg [10, 11, 12] l.length (fun gn s10 s11 s12 wr => ∃ k : Nat, k + gn = l.length ∧ s12 = .int .i64 k ∧ s11 = .int .i64 (crow L (l.take k)) ∧ Hid (OwnB W3.heap.size 4 wr s10 (cal L 0 (l.take k))) ∧ Hid (Below W3.heap.size W3 wr))
  case atStart => exact ⟨0, by omega, rfl, rfl, Lib.hid OwnB.nil, Lib.hid (Below.refl _ _)⟩
  case round =>
    obtain ⟨k, hk, rfl, rfl, HO, HW⟩ := hrel
    clear p0 p1 p2 p3 p4
    by_cases hlt : k < l.length
    · have hrw := crow_in h1 (l.take k)
      obtain ⟨q0, q1, q2⟩ := rl_cells (R3.out.below HW.out R3.out.lt)
      have HL := Lib.hid (show (cal L 0 (l.take k)).length < 1099511627776 by rw [cal_len, List.length_take]; omega)
      have HC : crow L (l.take (k + 1)) = nxr L (crow L (l.take k)) (l.getD k false) := by rw [take_more l k hlt, crow_snoc]
      have HD : cal L 0 (l.take (k + 1)) = cal L 0 (l.take k) ++ [l.getD k false && decide (crow L (l.take k) + 1 < L)] := by rw [take_more l k hlt, cal_snoc]
      rcases hbl.below HW.out with hnil | ⟨b1, o1, rfl, hl1⟩
      · exfalso; rw [hnil] at hlt; simp at hlt
      have hlk := hl1 k hlt
      clear hl1
      generalize l.getD k false = x at *
      generalize crow L (l.take k) = r at *
      generalize cal L 0 (l.take k) = q at *
      unfold nxr at HC
      cases x
      · rw [show (false && decide (r + 1 < L)) = false from rfl] at HC HD
        rw [if_neg (by simp)] at HC
        replace HC := Lib.hid HC
        replace HD := Lib.hid HD
        go_wp2_with ((with_reducible show wpList _ _ _ (⟨some 69, _, _, _, _, _⟩ :: _) _ _); go_loud (refine wpList_append1B rfl (.tmp 66) (.tmp 68) _ rfl W3.heap.size 4 1 Try.underlying41 boolInfo _ q false _ rfl rfl HO.out HL.out (by omega) W3 HW.out (Nat.le_refl _) ?_); intro v69 w69 O69' B69'; have O69 := Lib.hid O69'; have B69 := Lib.hid B69'; clear O69' B69')
        go_roundg (gk - 1)
        case rel => exact ⟨k + 1, by omega, by go_num, by rw [HC.out], by rw [HD.out]; exact O69, B69⟩
        case measure => omega
      · by_cases d : r + 1 < L
        · rw [show (true && decide (r + 1 < L)) = true by simp [d]] at HC HD
          rw [if_pos rfl] at HC
          replace HC := Lib.hid HC
          replace HD := Lib.hid HD
          go_wp2_with ((with_reducible show wpList _ _ _ (⟨some 69, _, _, _, _, _⟩ :: _) _ _); go_loud (refine wpList_append1B rfl (.tmp 66) (.tmp 68) _ rfl W3.heap.size 4 1 Try.underlying41 boolInfo _ q true _ rfl rfl HO.out HL.out (by omega) W3 HW.out (Nat.le_refl _) ?_); intro v69 w69 O69' B69'; have O69 := Lib.hid O69'; have B69 := Lib.hid B69'; clear O69' B69')
          go_roundg (gk - 1)
          case rel => exact ⟨k + 1, by omega, by go_num, by rw [HC.out], by rw [HD.out]; exact O69, B69⟩
          case measure => omega
        · rw [show (true && decide (r + 1 < L)) = false by simp [d]] at HC HD
          rw [if_neg (by simp)] at HC
          have d' : decide (r + 1 < L) = false := by simpa using d
          replace HC := Lib.hid HC
          replace HD := Lib.hid HD
          go_wp2_with ((with_reducible show wpList _ _ _ (⟨some 69, _, _, _, _, _⟩ :: _) _ _); go_loud (refine wpList_append1B rfl (.tmp 66) (.tmp 68) _ rfl W3.heap.size 4 1 Try.underlying41 boolInfo _ q false _ rfl rfl HO.out HL.out (by omega) W3 HW.out (Nat.le_refl _) ?_); intro v69 w69 O69' B69'; have O69 := Lib.hid O69'; have B69 := Lib.hid B69'; clear O69' B69')
          go_roundg (gk - 1)
          case rel => exact ⟨k + 1, by omega, by go_num, by rw [HC.out], by rw [HD.out]; exact O69, B69⟩
          case measure => omega
    · obtain rfl : k = l.length := by omega
      have HO' : OwnB W3.heap.size 4 wr u10 (cal L 0 l) := by have := HO.out; rwa [List.take_length] at this
      obtain ⟨a10, c10, rfl, r10, _, _⟩ := HO'.form
      rw [List.take_length]
      have R4 := Lib.hid (R3.out.below HW.out R3.out.lt)
      have B4 := Lib.hid (grow B3.out HW.out)
      have CR := run_any L C B a10 c10 (cal L 0 l) wr (by rw [cal_len]; omega) r10
      unfold RetRun rlv at CR
      rw [HG.out] at CR
      simp only [if_true] at CR
      rw [show runs L C B zer (cal L 0 l) = ⟨false, false, crow L l, 0, 0⟩ from runs_cal L C B l 0, show whas L C B zer (cal L 0 l) = List.replicate l.length 0 from whas_cal L C B l 0, List.length_replicate] at CR
      unfold stv at CR
      dsimp only at CR
      have hcr := crow_in h1 l
      generalize hcw : crow L l = rw at *
      clear hcw HO HO' r10 HW R3 B3 hbl
      rw [cal_len] at *
      go_wp2_with (((with_reducible show wpList _ _ _ (⟨some 71, _, _, _, _, _⟩ :: _) _ _); refine VB.loaded (cs := rlr L C B) rfl _ rfl w.heap.size rfl R4.out Try.underlying23 rfl sizeR ?_))
      refine CR.mono ?_
      rintro e w5 ⟨a5, n5, c5, rfl, rfl, _, _, i5, b5⟩
      have R5 := Lib.hid (onB R4.out b5)
      have B5 := Lib.hid (grow B4.out b5)
      have I5 := Lib.hid i5
      clear b5 i5 R4 B4 CR
      go_wp2_with fail
      have bA := (Below.refl w5.heap.size w5).alloc (Nat.le_refl _) (.cells #[.bool false, .bool false, .int .i64 rw, .int .i64 0, .int .i64 0] 25)
      have V6 := Lib.hid (show VRow (w5.alloc (.cells #[.bool false, .bool false, .int .i64 rw, .int .i64 0, .int .i64 0] 25)) w5.heap.size 25 (str ⟨false, false, rw, 0, 0⟩) from VRow.new w5 (str ⟨false, false, rw, 0, 0⟩) _)
      have R6 := Lib.hid (onB R5.out bA)
      have B6 := Lib.hid (grow B5.out bA)
      have I6 := Lib.hid (I5.out.below bA)
      clear bA R5 B5 I5
      generalize w5.alloc (.cells #[.bool false, .bool false, .int .i64 rw, .int .i64 0, .int .i64 0] 25) = W6 at *
      go_loopg [17] l.length (fun gn s17 wr' => ∃ k : Nat, k + gn = l.length ∧ s17 = .int .i64 k ∧ wr' = W6)
      case atStart => exact ⟨0, by omega, rfl, rfl⟩
      case round =>
        obtain ⟨k, hk, rfl, rfl⟩ := hrel
        by_cases hlt : k < l.length
        · rcases I6.out with hnil | ⟨b1, o1, rfl, hx⟩
          · exfalso
            have := congrArg List.length hnil
            rw [List.length_replicate, List.length_nil] at this; omega
          have hxk := hx k (by rw [List.length_replicate]; exact hlt)
          rw [show (List.replicate l.length (0 : Int)).getD k 0 = 0 by simp [hlt]] at hxk
          clear hx
          go_wp2_with fail
          go_roundg (gk - 1)
          case rel => exact ⟨k + 1, by omega, by go_num, rfl⟩
          case measure => omega
        · obtain rfl : k = l.length := by omega
          obtain ⟨m, hm⟩ : ∃ m : Nat, (m : Int) = C := ⟨C.toNat, by omega⟩
          have hlet := runs_let HR.out hm (fin_runs HR.out l (fin_zer HR.out))
          rw [← runs_app] at hlet
          have hz : runs L C B zer (lz l m) = runs L C B zer (l ++ List.replicate m false) := rfl
          generalize runs L C B zer (l ++ List.replicate m false) = z at *
          go_wp2_with fail
          refine Lj.wp_region_late (aF := ?_) 15 13 139 NC22 NS22 [(97, stv z), (99, .int .i64 0)] [true, false, true, false, true, true, false, false, false, false, false, false, false, false, false] [false, true, false, true, false, false, true, true, true, true, false, false, true, false, false] [false, false, false, false, false, false, false, false, false, false, true, true, false, false, true] MB22 (I22 wr l m) (S22 z)
            (fun f W => ∃ g, f 18 = .pointer (some ⟨g, 0, none⟩) ∧ Kp.Kept wr W g 25 (str z)) (by kernel_rfl) (by kernel_rfl) (by kernel_rfl) rfl (i22_zero wr l m _ _) (fun h h' f f' W W' I hh hf b => I.keep (hh 1 (by decide)) (hh 3 (by decide)) (hh 6 (by decide)) (hh 12 (by decide)) (hf 90 (by decide)) (hf 92 (by decide)) (hf 95 (by decide)) (hf 18 (by decide)) b) ?_ ?_ ?_ ?_ ?_
          case refine_2 =>
            intro W bW
            obtain ⟨c0, c1, c2⟩ := rl_cells (onB R6.out bW)
            replace c0 := cell_regrown c0
            replace c1 := cell_regrown c1
            replace c2 := cell_regrown c2
            simp only [List.take_succ_cons, List.take_zero, Lt.sel, Lj.fill, List.foldl, Act.put, List.setIfInBounds_toArray, List.set_cons_succ, List.set_cons_zero]
            repeat (go_big_quiet_step (fail))
            exact rfl
          case refine_3 =>
            intro i o ho hi
            simp only [List.mem_cons, List.not_mem_nil, or_false] at hi
            rcases hi with rfl | rfl | rfl | rfl | rfl | rfl | rfl
            · obtain rfl := Option.some.inj ho; exact pre22_lit
            · obtain rfl := Option.some.inj ho; exact pre22_list hl3 (HB.out.below B6.out) ⟨⟨1, .data⟩, by simp, rfl, rfl⟩ rfl
            · obtain rfl := Option.some.inj ho; exact pre22_zeros hl3 hm (by omega) (by omega) ⟨⟨3, .data⟩, by simp, rfl, rfl⟩ rfl
            · obtain rfl := Option.some.inj ho; exact pre22_run hl3 (by omega) HG.out hz ⟨⟨6, .data⟩, by simp, rfl, rfl⟩ rfl
            · obtain rfl := Option.some.inj ho; exact pre22_move
            · obtain rfl := Option.some.inj ho; exact pre22_take rfl
            · obtain rfl := Option.some.inj ho; exact pre22_alloc
          case refine_4 =>
            intro o ho
            rcases List.mem_cons.1 ho with rfl | ho
            · exact free22_slice
            rcases List.mem_cons.1 ho with rfl | ho
            · exact free22_err rfl
            rcases List.mem_cons.1 ho with rfl | ho
            · exact free22_put
            · cases ho
          case refine_5 =>
            intro st hs
            obtain rfl := Option.some.inj hs
            exact store22 ⟨⟨12, .data⟩, by simp, rfl, rfl⟩ rfl
          rintro f W7 hf ⟨g8, e8, k8⟩
          clear hf
          have B7 := Lib.hid (grow B6.out k8.below)
          have V7 := Lib.hid (onB V6.out k8.below)
          have Z7 := Lib.hid k8.row
          clear k8 B6 V6 R6 I6
          simp only [List.drop_succ_cons, List.drop_zero, Lt.putAll, List.cons_append, List.nil_append, List.map_cons, List.map_nil, List.zip_cons_cons, List.zip_nil_right, List.foldl, Act.put, List.setIfInBounds_toArray, List.set_cons_succ, List.set_cons_zero, e8]
          generalize f 90 = v90
          generalize f 92 = v92
          generalize f 95 = v95
          generalize f 96 = v96
          generalize f 88 = v88
          generalize f 98 = v98
          generalize f 19 = v19
          clear e8 f
          go_wp2_with fail
          refine (CA _).mono ?_
          rintro e w8 ⟨rfl, b8⟩
          have B8 := Lib.hid (grow B7.out b8)
          obtain ⟨p0, p1, p2, p3, p4⟩ := st_cells (onB V7.out b8)
          obtain ⟨s0, s1, s2, s3, s4⟩ := st_cells (onB Z7.out b8)
          clear b8
          clear hz
          dsimp only at p0 p1 p2 p3 p4
          rcases hlet with ho | ⟨ho, hla, hst⟩
          · rw [ho] at s1
            go_wp2
            go_ret
            exact ⟨rfl, B8.out⟩
          · rw [ho] at s1
            rw [hla] at s0
            rw [hst] at s2
            go_wp2
            go_ret
            exact ⟨rfl, B8.out⟩

set_option maxHeartbeats 1600000 in
theorem unharmed_any (L C B : Int) (a : Option Addr) (cap : Nat) (l : List Bool) (n : Nat) (w : World) (hn : n ≤ 255) (hm : l.length ≤ maxLen) (hb : BoolsAt w a l) :
    Calls Try.prog 6 #[rlv L C B, .slice a l.length cap, .int .u8 n] w fun e w' => e = .returned (.bool true) ∧ Below w.heap.size w w' := by
  by_cases hq : rgt L C B = true ∧ ¬ 300 < l.length
  · exact unharmed_main L C B a cap l n w hn hq.1 hq.2 hb
  · have CA := alive_any
    have C0 := fun W => right_any L C B W
    have hl' : l.length ≤ 9223372036854775807 := hm
    clear hm
    unfold rlv
    cases hr : rgt L C B
    · rw [hr] at C0
      clear hq hr
      go_enter Try.func6, Try.ntmps6
      go_wp2_with fail
      refine (C0 _).mono ?_
      rintro e w1 ⟨rfl, b1⟩
      have B1 := Lib.hid (grow_alloc (Below.refl w.heap.size w) b1)
      clear b1 C0
      go_wp2_with fail
      refine (CA _).mono ?_
      rintro e w2 ⟨rfl, b2⟩
      have B2 := Lib.hid (grow B1.out b2)
      clear b2
      go_wp2
      go_ret
      exact ⟨rfl, B2.out⟩
    · have d3 : decide (300 < (l.length : Int)) = true := by
        have : 300 < l.length := by
          rcases Nat.lt_or_ge 300 l.length with q | q
          · exact q
          · exact absurd ⟨hr, by omega⟩ hq
        simp; omega
      rw [hr] at C0
      clear hq hr
      go_enter Try.func6, Try.ntmps6
      go_wp2_with fail
      refine (C0 _).mono ?_
      rintro e w1 ⟨rfl, b1⟩
      have B1 := Lib.hid (grow_alloc (Below.refl w.heap.size w) b1)
      clear b1 C0
      go_wp2_with fail
      refine (CA _).mono ?_
      rintro e w2 ⟨rfl, b2⟩
      have B2 := Lib.hid (grow B1.out b2)
      clear b2
      go_wp2
      go_ret
      exact ⟨rfl, B2.out⟩
end Lc
namespace latchUnharmed
theorem walk (L C B : Int) (a : Option Addr) (cap : Nat) (l : List Bool) (x : Int) (w : World) (_ : (Lit.int .i64 L).wf = true) (_ : (Lit.int .i64 C).wf = true) (_ : (Lit.int .i64 B).wf = true) (hm : l.length ≤ maxLen) (hb : BoolsAt w a l) (hx : (Lit.int .u8 x).wf = true) :
    Calls Try.prog 6 #[.agg #[.int .i64 L, .int .i64 C, .int .i64 B], .slice a l.length cap, .int .u8 x] w fun e w' => e = .returned (.bool true) ∧ Below w.heap.size w w' := by
  have h := Mn.u8_in hx
  obtain ⟨n, rfl⟩ : ∃ n : Nat, x = n := ⟨x.toNat, by omega⟩
  exact Lc.unharmed_any L C B a cap l n w (by omega) hm hb
end latchUnharmed
end Go.Proofs.Ytcpfdohodadcaaa
