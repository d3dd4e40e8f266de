/-
  What Run of package latch tells: a contract by walking the Go text. Its conditions: where the list lies, and that it is no longer than what can be made.
-/
import Derived.Test.YtcpfdohodadcaaaLatchNext
import Derived.ProofKit
import Derived.OpenShut
import Derived.Deep.DeepCutAuto
import Derived.Deep.CutBlock
import Derived.Deep.Grids
namespace Go.Proofs.Ytcpfdohodadcaaa
open Go.ChangeShapes Go.WideShapes Go.ChangeAt Go.RowKit Go.Deep
namespace Lc

theorem fne_of {L C B : Int} {s : St} (h : Rt L C B) (hf : Fin L C B s) : fne L C B s = true := by
  unfold fne; rw [Bool.and_eq_true]; exact ⟨rgt_iff.2 h, fin_iff.2 hf⟩
/-- What happened so far, and zeros behind it. -/
def rowW (L C B : Int) (l : List Bool) (k : Nat) : List Int := whas L C B zer (l.take k) ++ List.replicate (l.length - k) 0
theorem rowW_len {L C B : Int} {l : List Bool} {k : Nat} (h : k ≤ l.length) : (rowW L C B l k).length = l.length := by
  unfold rowW; rw [List.length_append, whas_len, List.length_take, List.length_replicate]; omega
theorem rowW_zero (L C B : Int) (l : List Bool) : rowW L C B l 0 = List.replicate l.length 0 := by simp [rowW, whas]
theorem rowW_all (L C B : Int) (l : List Bool) : rowW L C B l l.length = whas L C B zer l := by simp [rowW]
theorem rowW_set {L C B : Int} {l : List Bool} {k : Nat} (h : k < l.length) : (rowW L C B l k).set k (wha L C B (runs L C B zer (l.take k)) (l.getD k false)) = rowW L C B l (k + 1) := by
  unfold rowW
  rw [take_more l k h, whas_snoc]
  have e : l.length - k = (l.length - (k + 1)) + 1 := by omega
  rw [e, List.replicate_succ, List.append_assoc]
  have hk : (whas L C B zer (l.take k)).length = k := by rw [whas_len, List.length_take]; omega
  rw [List.set_append_right _ _ (by omega), hk]
  simp
/-- What lies about while a run goes on. -/
structure At (w W : World) (L C B : Int) (l : List Bool) (g k : Nat) : Prop where
  below : Below w.heap.size w W
  rule : VRow W w.heap.size 23 (rlr L C B)
  res : VRow W (w.heap.size + 1) 25 (str zer)
  st : VRow W g 25 (str (runs L C B zer (l.take k)))
  row : IRow .i64 W (g + 1) 3 (rowW L C B l k)
  gt : w.heap.size + 1 < g
theorem At.on {w W W' : World} {L C B : Int} {l : List Bool} {g k : Nat} (h : At w W L C B l g k) (b : Below W.heap.size W W') : At w W' L C B l g k :=
  ⟨grow h.below b, h.rule.below b h.rule.lt, h.res.below b h.res.lt, h.st.below b h.st.lt, h.row.below b h.row.lt, h.gt⟩
theorem At.put {w W : World} {L C B : Int} {l : List Bool} {g k : Nat} (h : At w W L C B l g k) (cs : List Value) :
    Below w.heap.size w (W.setRow g cs.toArray) ∧ VRow (W.setRow g cs.toArray) w.heap.size 23 (rlr L C B) ∧ VRow (W.setRow g cs.toArray) (w.heap.size + 1) 25 (str zer) ∧ VRow (W.setRow g cs.toArray) g 25 cs ∧ IRow .i64 (W.setRow g cs.toArray) (g + 1) 3 (rowW L C B l k) :=
  have := h.gt
  ⟨Below.put h.below (by omega) _, h.rule.putOther (by omega) _, h.res.putOther (by omega) _, h.st.put cs, VRow.putOther h.row (by omega) _⟩
theorem At.next {w W : World} {L C B : Int} {l : List Bool} {g k : Nat} (h : At w W L C B l g k) (hk : k < l.length) :
    At w ((W.setRow g (str (ste L C B (runs L C B zer (l.take k)) (l.getD k false))).toArray).setCell ⟨g + 1, k, none⟩ (.int .i64 (wha L C B (runs L C B zer (l.take k)) (l.getD k false)))) L C B l g (k + 1) := by
  obtain ⟨b, r1, r2, r3, r4⟩ := h.put (str (ste L C B (runs L C B zer (l.take k)) (l.getD k false)))
  have hg := h.gt
  refine ⟨b.setCell (by show w.heap.size ≤ g + 1; omega) _, ?_, ?_, ?_, by rw [← rowW_set hk]; exact r4.set k _, hg⟩
  · exact (heap_setCell_other _ _ _ _ (by show _ ≠ g + 1; omega)).trans r1
  · exact (heap_setCell_other _ _ _ _ (by show _ ≠ g + 1; omega)).trans r2
  · rw [take_more l k hk, runs_snoc]
    exact (heap_setCell_other _ _ _ _ (by show _ ≠ g + 1; omega)).trans r3

/-- What Run hands back. -/
def RetRun (w : World) (L C B : Int) (l : List Bool) (e : Ending) (w' : World) : Prop :=
  ∃ a n cap, e = .returned (.tuple #[stv (if rgt L C B then runs L C B zer l else zer), .slice a n cap, .int .i64 (if rgt L C B then 0 else 1)]) ∧ n = (if rgt L C B then whas L C B zer l else []).length ∧ n ≤ cap ∧ cap ≤ maxLen ∧ IntsAt .i64 w' a (if rgt L C B then whas L C B zer l else []) ∧ Below w.heap.size w w'

set_option maxHeartbeats 1600000 in
theorem run_no (L C B : Int) (a : Option Addr) (cap : Nat) (l : List Bool) (w : World) (h : rgt L C B = false) :
    Calls Try.prog 16 #[rlv L C B, .slice a l.length cap] w (RetRun w L C B l) := by
  have C1 := fun W => right_any L C B W
  rw [h] at C1
  have HF := Lib.hid h
  clear h
  have T := Lib.hid (two_box w L C B 23 25)
  unfold rlv
  go_enter Try.func16, Try.ntmps16
  go_wp2_with (first
    | (go_at_call 12; refine (C1 _).mono ?_; rintro e w1 ⟨rfl, b1⟩; have T1 := Lib.hid (T.out.on b1); clear b1)
    | ((with_reducible show wpList _ _ _ (⟨none, .store _ (.tmp 4) _, _, _, _, _⟩ :: _) _ _); refine VB.store rfl _ _ rfl (w.heap.size + 1) (str zer) rfl rfl T1.out.res sizeS rfl (str_one zer) ?_))
  refine bodyPost_ret (v := .tuple #[.agg (str zer).toArray, .slice none 0 0, .int .i64 1]) ?_ rfl ⟨none, 0, 0, ?_, ?_, Nat.le_refl _, Nat.zero_le _, ?_, Below.put T1.out.below (by omega) _⟩
  · exact (VB.ret3 (cs := str zer) rfl rfl (aggS _) sizeS (T1.out.res.put (str zer))).trans rfl
  · rw [HF.out]; rfl
  · rw [HF.out]; rfl
  · rw [HF.out]; exact Or.inl rfl

theorem intInfo : (Try.prog.info? 3).map (fun i => (i.zero, i.size, i.bytes)) = some (some (.int .i64 0), 1, 8) := by kernel_rfl
theorem at_start {w w1 w2 : World} {L C B : Int} {l : List Bool} (T : TwoR w w1 23 25 L C B)
    (own : w2.ownsRow 0 3 1 (.slice (some ⟨(w1.alloc (.cells #[.bool false, .bool false, .int .i64 0, .int .i64 0, .int .i64 0] 25)).heap.size, 0, none⟩) l.length l.length) l.length (madeCells (Value.int .i64 0).cells (l.length * 1)).toList)
    (grown : (w1.alloc (.cells #[.bool false, .bool false, .int .i64 0, .int .i64 0, .int .i64 0] 25)).grownBy w2 none) : At w w2 L C B l w1.heap.size 0 := by
  have e : (w1.alloc (.cells #[.bool false, .bool false, .int .i64 0, .int .i64 0, .int .i64 0] 25)).heap.size = w1.heap.size + 1 := by simp
  have b0 := (Below.refl w1.heap.size w1).alloc (Nat.le_refl _) (.cells #[.bool false, .bool false, .int .i64 0, .int .i64 0, .int .i64 0] 25)
  have b2 := (Below.refl (w1.heap.size + 1) (w1.alloc (.cells #[.bool false, .bool false, .int .i64 0, .int .i64 0, .int .i64 0] 25))).grown grown (by omega) (by simp)
  have n0 := VRow.new w1 (str zer) 25
  have b3 : Below w1.heap.size w1 w2 := b0.trans (b2.mono (by omega))
  have gt := T.res.lt
  refine ⟨grow T.below b3, T.rule.below b3 T.rule.lt, T.res.below b3 T.res.lt, ?_, ?_, gt⟩
  · exact n0.below b2 (by omega)
  · rw [rowW_zero, ← e]
    exact IRow.of_own own (zeros_cellsI _)

set_option maxHeartbeats 3200000 in
theorem run_yes (L C B : Int) (a : Option Addr) (cap : Nat) (l : List Bool) (w : World) (h : rgt L C B = true) (hl : l.length ≤ 16777216) (hb : BoolsAt w a l) :
    Calls Try.prog 16 #[rlv L C B, .slice a l.length cap] w (RetRun w L C B l) := by
  have C1 := fun W => right_any L C B W
  rw [h] at C1
  have HF := Lib.hid h
  have HR := Lib.hid (rgt_iff.1 h)
  clear h
  have HB := Lib.hid hb
  clear hb
  have T := Lib.hid (two_box w L C B 23 25)
  obtain ⟨i0, hi0, hz0, hz1, hz2⟩ := info_parts intInfo
  unfold rlv
  go_enter Try.func16, Try.ntmps16
  go_wp2_with (first
    | (go_at_call 12; refine (C1 _).mono ?_; rintro e w1 ⟨rfl, b1⟩; have T1 := Lib.hid (T.out.on b1); clear b1)
    | (at_make; refine wpList_make_full _ rfl _ _ _ rfl 0 3 i0 (.int .i64 0) 1 Try.underlying42 hi0 hz0 hz1 .i64 .i64 _ _ l.length rfl rfl rfl rfl (by rw [hz2]; omega) (by unfold maxLen; omega) (Nat.zero_le _) ?_; intro w2 own2 grown2; have A0 := Lib.hid (at_start T1.out own2 grown2); clear own2 grown2))
  clear T T1 C1
  go_loopg [20] l.length (fun gn s20 wr => ∃ k : Nat, k + gn = l.length ∧ s20 = .int .i64 k ∧ Hid (At w wr L C B l w1.heap.size k))
  case atStart => exact ⟨0, by omega, rfl, A0⟩
  case round =>
    obtain ⟨k, hk, rfl, HA⟩ := hrel
    by_cases hlt : k < l.length
    · rcases HB.out.below HA.out.below with hnil | ⟨b, o, rfl, hc⟩
      · exfalso; rw [hnil] at hlt; simp at hlt
      have hcell := hc k hlt
      clear hc
      have HN := fun W (b : Below wr.heap.size wr W) => (HA.out.on b).next hlt
      have HL := Lib.hid (show k < (rowW L C B l k).length by rw [rowW_len (by omega)]; exact hlt)
      obtain ⟨T, f, e1, m1, m2, CB⟩ := behind_any (fne_of HR.out (fin_runs HR.out (l.take k) (fin_zer HR.out))) (l.getD k false)
      have CM := fun W => modeOf_any (runs L C B zer (l.take k)).la (runs L C B zer (l.take k)).ou (runs L C B zer (l.take k)).st (runs L C B zer (l.take k)).cl (runs L C B zer (l.take k)).bk W
      have S0 := HA.out.st
      have R0 := Lib.hid HA.out.rule
      have HP := Lib.hid (fun W (b : Below wr.heap.size wr W) cs => ((HA.out.on b).put cs).2.2.2.2)
      rw [e1] at CM
      unfold RetS at CB
      generalize ste L C B (runs L C B zer (l.take k)) (l.getD k false) = r at *
      generalize wha L C B (runs L C B zer (l.take k)) (l.getD k false) = x at *
      generalize runs L C B zer (l.take k) = s at *
      generalize l.getD k false = t at *
      replace S0 := Lib.hid S0
      replace HN := Lib.hid HN
      clear e1 A0
      unfold rlv stv at *
      go_wp2
      refine Lt.wp_region_put (aF := ?_) 12 11 40 7 34 25 25 w1.heap.size (str s) (str r) [true, true, true, true, true, true, true, true, true, true, true, false] [false, false, false, false, false, false, false, false, false, false, false, false] (by kernel_rfl) (by kernel_rfl) (by kernel_rfl) rfl rfl rfl sizeS rfl (str_one r) S0.out ?_ ?_ ?_ ?_
      case refine_2 =>
        intro W bW
        obtain ⟨c0, c1, c2⟩ := rl_cells (R0.out.below bW R0.out.lt)
        replace c0 := cell_regrown c0
        replace c1 := cell_regrown c1
        replace c2 := cell_regrown c2
        obtain ⟨q0, q1, q2, q3, q4⟩ := st_cells (S0.out.below bW S0.out.lt)
        replace q0 := cell_regrown q0
        replace q1 := cell_regrown q1
        replace q2 := cell_regrown q2
        replace q3 := cell_regrown q3
        replace q4 := cell_regrown q4
        have cM := reg_call (w := W) (fun W _ => CM W)
        have cB := reg_call (w := W) (fun W _ => CB W)
        simp only [List.take_succ_cons, List.take_zero, Lt.sel]
        repeat (go_big_quiet_step (first | exact cM _ _ | exact cB _ _))
        exact rfl
      case refine_3 => exact rfl
      case refine_4 => exact rfl
      intro W bW
      have N1 := Lib.hid (HN.out W bW)
      have r4 := HP.out W bW (str r)
      have hf := r4.frozen k
      have hg := r4.cell k HL.out
      clear r4 HN HP S0 R0 CM CB
      generalize (rowW L C B l k).getD k 0 = y at *
      generalize W.setRow w1.heap.size (str r).toArray = W1 at *
      simp only [List.drop_succ_cons, List.drop_zero]
      go_wp2_with fail
      go_roundg (gk - 1)
      case rel => exact ⟨k + 1, by omega, by go_num, N1⟩
      case measure => omega
    · obtain rfl : k = l.length := by omega
      have S1 := Lib.hid (show VRow wr w1.heap.size 25 (str (runs L C B zer l)) by have := HA.out.st; rwa [List.take_length] at this)
      have HE := Lib.hid (show stv (runs L C B zer l) = .agg (str (runs L C B zer l)).toArray from rfl)
      generalize hz : runs L C B zer l = z at *
      have HZ := Lib.hid hz
      clear hz
      go_wp2_with (first
        | ((with_reducible show wpList _ _ _ (⟨some 38, _, _, _, _, _⟩ :: _) _ _); refine VB.loaded (cs := str z) rfl _ rfl w1.heap.size rfl S1.out Try.underlying25 rfl sizeS ?_)
        | ((with_reducible show wpList _ _ _ (⟨none, .store _ (.tmp 4) _, _, _, _, _⟩ :: _) _ _); refine VB.store rfl _ _ rfl (w.heap.size + 1) (str z) rfl rfl HA.out.res sizeS rfl (str_one _) ?_))
      have hgt := HA.out.gt
      refine bodyPost_ret (v := .tuple #[.agg (str z).toArray, .slice (some ⟨w1.heap.size + 1, 0, none⟩) l.length l.length, .int .i64 0]) ?_ rfl ⟨some ⟨w1.heap.size + 1, 0, none⟩, l.length, l.length, by rw [HF.out, HZ.out]; rfl, by rw [HF.out]; exact (whas_len _ _ _ _ _).symm, Nat.le_refl _, (show l.length ≤ 9223372036854775807 by omega), ?_, Below.put HA.out.below (by omega) _⟩
      · exact (VB.ret3 (cs := str z) rfl rfl (aggS _) sizeS (HA.out.res.put (str z))).trans rfl
      · have := VRow.putOther HA.out.row (show w1.heap.size + 1 ≠ w.heap.size + 1 by omega) (str z).toArray
        rw [rowW_all] at this
        rw [HF.out]
        exact IRow.ints this

theorem run_any (L C B : Int) (a : Option Addr) (cap : Nat) (l : List Bool) (w : World) (hl : l.length ≤ 16777216) (hb : BoolsAt w a l) :
    Calls Try.prog 16 #[rlv L C B, .slice a l.length cap] w (RetRun w L C B l) := by
  cases h : rgt L C B
  · exact run_no L C B a cap l w h
  · exact run_yes L C B a cap l w h hl hb
end Lc
end Go.Proofs.Ytcpfdohodadcaaa
