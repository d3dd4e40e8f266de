/-
  What Decode of package output tells: a contract by walking the Go text. Conditions: how the bytes lie.
-/
import Derived.Test.YtpoededbmdffpaaGreatDoorOutputRead
import Derived.Test.YtpoededbmdffpaaGreatDoorCrcOpen
import Derived.Lib.QuietBelow
namespace Go.Proofs.YtpoededbmdffpaaGreatDoor
set_option maxRecDepth 100000
open Go.ChangeShapes Go.WideShapes Go.ChangeAt Go.RowKit Go.Deep
namespace Ot
open Ss (St str zer stv)
open Cr (Bytes opens opened)
/-- A whole struct loaded, in a region that draws, wherever its cells lie. -/
theorem wpQuiet_loadR {ops : Array Oper} {C : World → Prop} {Q : Act → Prop} {o : Oper} {rest : List Oper} {a : Act} {t : TypeId} (hw : Region.wanted o (yielded ops a.tmps) = true) (x : Operand) (ho : o.op = .load t x)
    (b off : Nat) (cs : List Value) (hx : a.eval x = .pointer (some ⟨b, off, none⟩)) (hb : ∀ w, C w → w.rangeAt b off cs) (d : TypeDesc) (hu : Tryz.prog.underlying t = some d) (hd : d.isRow = true) (hi : (Tryz.prog.info? t).map (·.size) = some cs.length)
    (h : wpQuiet Tryz.prog ops C Q rest (a.put o.dst (.agg cs.toArray))) : wpQuiet Tryz.prog ops C Q (o :: rest) a := by
  unfold wpQuiet
  rw [if_pos hw]
  refine ⟨.agg cs.toArray, fun w hC => ?_, h⟩
  have e := run_loadVar_mid (P := Tryz.prog) w b off t cs d (hb w hC) hu hd hi
  unfold Oper.quietAt execOp
  simp only [ho, hx, Instr.loadAt, Instr.sureAddr, Sem.run_bind, Sem.run_pure, Result.andThen_ok, e]
  exact ⟨rfl, rfl⟩
/-- What Decode hands back. -/
def RetD (w : World) (l : List Int) (e : Ending) (w' : World) : Prop :=
  e = .returned (.tuple #[.agg (ouc (dec l)).toArray, .int .i64 (decE l)]) ∧ Below w.heap.size w w'
theorem retD_no {w : World} {l : List Int} (h : iso l = false) : RetD w l = fun e w' => e = .returned (.tuple #[.agg (ouc zou).toArray, .int .i64 3]) ∧ Below w.heap.size w w' := by
  unfold RetD; rw [dec_no h, decE_no h]
theorem retD_yes {w : World} {l : List Int} (h : iso l = true) : RetD w l = fun e w' => e = .returned (.tuple #[.agg (ouc (parts (l.take 52))).toArray, .int .i64 0]) ∧ Below w.heap.size w w' := by
  unfold RetD; rw [dec_yes h, decE_yes h]
theorem iso_len {l : List Int} (h : l.length ≠ 54) : iso l = false := by
  cases e : iso l
  · rfl
  · exact absurd ((iso_iff l).1 e).1 h
theorem iso_sync {l : List Int} (h : l.getD 0 0 ≠ 90) : iso l = false := by
  cases e : iso l
  · rfl
  · exact absurd ((iso_iff l).1 e).2.1 h
theorem iso_sum {l : List Int} (h : opens l = false) : iso l = false := by
  cases e : iso l
  · rfl
  · rw [((iso_iff l).1 e).2.2.1] at h; cases h
theorem iso_words {l : List Int} (h : woks (l.take 52) 8 = false) : iso l = false := by
  cases e : iso l
  · rfl
  · rw [((iso_iff l).1 e).2.2.2.1] at h; cases h
theorem iso_fail {l : List Int} (h : (fl (parts (l.take 52)).s : Int) ≠ l.getD 1 0) : iso l = false := by
  cases e : iso l
  · rfl
  · exact absurd ((iso_iff l).1 e).2.2.2.2 h
/-- The result's box. -/
theorem res_new (w : World) : Below w.heap.size w ((w.alloc (.cells (ouc zou).toArray 40)).setRow w.heap.size (ouc zou).toArray) ∧ VRow ((w.alloc (.cells (ouc zou).toArray 40)).setRow w.heap.size (ouc zou).toArray) w.heap.size 40 (ouc zou) :=
  ⟨Below.put ((Below.refl _ w).alloc (Nat.le_refl _) _) (Nat.le_refl _) _, (VRow.new w (ouc zou) _).put (ouc zou)⟩
set_option maxRecDepth 100000 in
set_option maxHeartbeats 3200000 in
theorem dec_any (a : Option Addr) (cap : Nat) (l : List Int) (w : World) (hl : l.length ≤ 1000000) (hcap : l.length ≤ cap) (hy : Bytes l) (hb : IntsAt .u8 w a l) :
    Calls Tryz.prog 24 #[.slice a l.length cap] w (RetD w l) := by
  have R0 := Lib.hid (res_new w)
  have N0 := Lib.hid (VRow.new w (ouc zou) 40)
  by_cases h54 : l.length = 54
  · obtain ⟨b, off, rfl⟩ := ints_some hb (by omega)
    have BA := Lib.hid ((Below.refl w.heap.size w).alloc (Nat.le_refl _) (.cells (ouc zou).toArray 40))
    have hb0 := hb.below BA.out
    have c0 : (w.alloc (.cells #[.int .i64 0, .int .i64 0, .int .i64 0, .int .i64 0, .int .i64 0, .int .i64 0, .int .i64 0, .int .i64 0, .int .i64 0, .int .i64 0, .int .i64 0, .int .i64 0, .bool false, .int .i64 0, .int .i64 0, .int .i64 0, .bool false, .int .i64 0, .int .i64 0, .int .i64 0, .bool false, .int .i64 0, .int .i64 0, .int .i64 0, .bool false, .int .i64 0, .int .i64 0, .int .i64 0, .bool false, .int .i64 0, .int .i64 0, .int .i64 0, .bool false, .int .i64 0, .int .i64 0, .int .i64 0, .bool false, .int .i64 0, .int .i64 0, .int .i64 0, .bool false] 40)).cell? ⟨b, off, none⟩ = some (.int .u8 (l.getD 0 0)) := by
      show (w.alloc (.cells (ouc zou).toArray 40)).cell? ⟨b, off, none⟩ = some (.int .u8 (l.getD 0 0))
      rcases hb0 with h | ⟨b', off', h1, hc⟩
      · rw [h] at h54; simp at h54
      · cases h1; exact hc 0 (by omega)
    by_cases h90 : l.getD 0 0 = 90
    · rw [h90] at c0
      have CO := fun W h => Cr.open_cap (some ⟨b, off, none⟩) cap l W hl hcap hy h
      rw [h54] at CO ⊢
      have HB0 := Lib.hid hb0
      have HY := Lib.hid hy
      have H54 := Lib.hid h54
      have H90 := Lib.hid h90
      clear hb hb0 hy hcap hl h54 h90
      cases ho : opens l
      · rw [retD_no (iso_sum ho)]
        rw [ho] at CO
        rw [Cr.opened_no ho] at CO
        clear ho
        go_enter Tryz.func24, Tryz.ntmps24
        go_wp2_with fail
        change Calls _ _ _ (w.alloc (.cells (ouc zou).toArray 40)) _
        refine (CO _ HB0.out).mono ?_; rintro e w1 ⟨a1, cap1, rfl, -, -, b1⟩
        have R1 := Lib.hid (VRow.below N0.out b1 N0.out.lt)
        have B1 := Lib.hid (grow BA.out b1)
        clear b1 CO c0
        go_wp2_with (first
          | ((with_reducible show wpList _ _ _ (⟨some 24, _, _, _, _, _⟩ :: _) _ _); refine wpList_buildTo rfl _ _ rfl (ouc zou).toArray (by kernel_rfl) ?_)
          | ((with_reducible show wpList _ _ _ (⟨none, .store _ (.tmp 2) _, _, _, _, _⟩ :: _) _ _); refine VB.store rfl _ _ rfl w.heap.size (ouc zou) rfl rfl R1.out (sizeO ok_zou) rfl (ouc_all _) ?_))
        refine bodyPost_ret (v := .tuple #[.agg (ouc zou).toArray, .int .i64 3]) ?_ rfl ⟨rfl, Below.put B1.out (Nat.le_refl _) _⟩
        exact (VB.ret2 (cs := ouc zou) rfl rfl (aggO _) (sizeO ok_zou) (R1.out.put (ouc zou))).trans rfl
      · rw [ho] at CO
        have ho' := Cr.opened_yes ho
        rw [H54.out, show 54 - 2 = 52 from rfl] at ho'
        rw [ho'] at CO
        have hx52 : (l.take 52).length = 52 := by rw [List.length_take, H54.out]; rfl
        have HX := Lib.hid hx52
        have HYX := Lib.hid (HY.out.take 52)
        have HO := Lib.hid ho
        have H1 := Lib.hid (show (l.take 52).getD 1 0 = l.getD 1 0 by simp [List.getD_eq_getElem?_getD])
        have hbyte := HY.out.getD 1
        clear ho ho' hx52
        have CRD := fun (b1 off1 cap1 : Nat) (W : World) (h1 : 52 ≤ cap1) (h2 : IntsAt .u8 W (some ⟨b1, off1, none⟩) (l.take 52)) => read_any b1 off1 cap1 (l.take 52) W HX.out HYX.out h1 h2
        cases hw : woks (l.take 52) 8
        · rw [retD_no (iso_words hw)]
          unfold RetR at CRD
          rw [hw, if_neg (by decide)] at CRD
          clear hw
          generalize l.take 52 = x at *
          go_enter Tryz.func24, Tryz.ntmps24
          go_wp2_with fail
          change Calls _ _ _ (w.alloc (.cells (ouc zou).toArray 40)) _
          refine (CO _ HB0.out).mono ?_; rintro e w1 ⟨a1, cap1, rfl, i1, m1, b1⟩
          obtain ⟨bb, oo, rfl⟩ := ints_some i1 (by rw [HX.out]; omega)
          rw [HX.out] at m1 ⊢
          have R1 := Lib.hid (VRow.below N0.out b1 N0.out.lt)
          have B1 := Lib.hid (grow BA.out b1)
          have I1 := Lib.hid i1
          clear b1 CO c0 i1
          go_wp2_with fail
          refine (CRD _ _ _ _ m1 I1.out).mono ?_; rintro e w2 ⟨rfl, b2⟩
          have R2 := Lib.hid (VRow.below R1.out b2 R1.out.lt)
          have B2 := Lib.hid (grow B1.out b2)
          have N2 := Lib.hid (VRow.new w2 (ouc zou) 40)
          have R3 := Lib.hid ((R2.out.alloc (.cells (ouc zou).toArray 40)).putOther (show w.heap.size ≠ w2.heap.size by have := R2.out.lt; omega) (ouc zou).toArray)
          have B3 := Lib.hid (Below.put (B2.out.alloc B2.out.size (.cells (ouc zou).toArray 40)) B2.out.size (ouc zou).toArray)
          clear b2 R2 B2 R1 B1 CRD
          go_wp2_with ((with_reducible show wpList _ _ _ (⟨none, .store _ (.tmp 6) _, _, _, _, _⟩ :: _) _ _); refine VB.store rfl _ _ rfl w2.heap.size (ouc zou) rfl rfl N2.out (sizeO ok_zou) rfl (ouc_all _) ?_; change wpList _ _ _ _ _ ((w2.alloc (.cells (ouc zou).toArray 40)).setRow w2.heap.size (ouc zou).toArray); generalize (w2.alloc (.cells (ouc zou).toArray 40)).setRow w2.heap.size (ouc zou).toArray = W3 at *)
          refine wp_region_quiet_below (by kernel_rfl) (by kernel_rfl) ?_
          repeat (go_big_quiet_step (fail))
          refine wpQuiet_nil ?_
          intro _ hw'
          obtain ⟨⟨dq, osq⟩, hw''⟩ := hw'
          subst hw''
          have R4 := Lib.hid (VRow.below R3.out (below_regrown W3 dq osq) R3.out.lt)
          have B4 := Lib.hid (grow B3.out (below_regrown W3 dq osq))
          show Exit.then _ _ .normal _ (Sort.grow (redrawn W3 dq) osq)
          generalize Sort.grow (redrawn W3 dq) osq = W4 at *
          clear R3 B3
          go_wp2_with (first
            | ((with_reducible show wpList _ _ _ (⟨some 41, _, _, _, _, _⟩ :: _) _ _); refine wpList_buildTo rfl _ _ rfl (ouc zou).toArray (by kernel_rfl) ?_)
            | ((with_reducible show wpList _ _ _ (⟨none, .store _ (.tmp 2) _, _, _, _, _⟩ :: _) _ _); refine VB.store rfl _ _ rfl w.heap.size (ouc zou) rfl rfl R4.out (sizeO ok_zou) rfl (ouc_all _) ?_))
          refine bodyPost_ret (v := .tuple #[.agg (ouc zou).toArray, .int .i64 3]) ?_ rfl ⟨rfl, Below.put B4.out (Nat.le_refl _) _⟩
          exact (VB.ret2 (cs := ouc zou) rfl rfl (aggO _) (sizeO ok_zou) (R4.out.put (ouc zou))).trans rfl
        · have HYES := Lib.hid (fun (h : (fl (parts (l.take 52)).s : Int) = l.getD 1 0) => (iso_iff l).2 ⟨H54.out, H90.out, HO.out, hw, h⟩)
          have HNO := Lib.hid (fun (h : (fl (parts (l.take 52)).s : Int) ≠ l.getD 1 0) => iso_fail h)
          unfold RetR at CRD
          rw [hw, if_pos rfl] at CRD
          have KP := Lib.hid (parts_ok HX.out)
          have CFL := fun W => failed_any KP.out W
          have HRD := Lib.hid (retD_yes (w := w) (l := l))
          have HRN := Lib.hid (retD_no (w := w) (l := l))
          have hfl : fl (parts (l.take 52)).s ≤ 8 := by have := fl_le (parts (l.take 52)).s; rw [KP.out.s] at this; exact this
          obtain ⟨px, hpx⟩ : ∃ px, parts (l.take 52) = px := ⟨_, rfl⟩
          rw [hpx] at CRD CFL HYES HNO KP HRD hfl
          clear hw hpx
          obtain ⟨x, hx⟩ : ∃ x, l.take 52 = x := ⟨_, rfl⟩
          rw [hx] at CO HX CRD H1
          clear hx HYX
          obtain ⟨y1, hy1⟩ : ∃ y1, l.getD 1 0 = y1 := ⟨_, rfl⟩
          rw [hy1] at H1 HYES HNO hbyte
          clear hy1
          generalize hfn : fl px.s = fn at *
          clear hfn
          have hret : (RetD w l = if (fn : Int) = y1 then (fun e w' => e = .returned (.tuple #[.agg (ouc px).toArray, .int .i64 0]) ∧ Below w.heap.size w w') else (fun e w' => e = .returned (.tuple #[.agg (ouc zou).toArray, .int .i64 3]) ∧ Below w.heap.size w w')) := by
            split
            · rename_i h; exact HRD.out (HYES.out h)
            · rename_i h; exact HRN.out (HNO.out h)
          rw [hret]
          clear hret HYES HNO HRD HRN
          have NK := Lib.hid (sizeO KP.out)
          have H41 := Lib.hid (show (ouc zou).length = (ouc px).length by rw [ouc_len ok_zou, ouc_len KP.out])
          have HALL := Lib.hid (ouc_all px)
          by_cases hf : (fn : Int) = y1
          all_goals
            first | rw [if_pos hf] | rw [if_neg hf]
            go_enter Tryz.func24, Tryz.ntmps24
            go_wp2_with fail
            change Calls _ _ _ (w.alloc (.cells (ouc zou).toArray 40)) _
            refine (CO _ HB0.out).mono ?_; rintro e w1 ⟨a1, cap1, rfl, i1, m1, b1⟩
            obtain ⟨bb, oo, rfl⟩ := ints_some i1 (by rw [HX.out]; omega)
            rw [HX.out] at m1 ⊢
            have R1 := Lib.hid (VRow.below N0.out b1 N0.out.lt)
            have B1 := Lib.hid (grow BA.out b1)
            have I1 := Lib.hid i1
            clear b1 CO c0 i1
            go_wp2_with fail
            refine (CRD _ _ _ _ m1 I1.out).mono ?_; rintro e w2 ⟨rfl, b2⟩
            have R2 := Lib.hid (VRow.below R1.out b2 R1.out.lt)
            have B2 := Lib.hid (grow B1.out b2)
            have N2 := Lib.hid (VRow.new w2 (ouc zou) 40)
            have R3 := Lib.hid ((R2.out.alloc (.cells (ouc zou).toArray 40)).putOther (show w.heap.size ≠ w2.heap.size by have := R2.out.lt; omega) (ouc px).toArray)
            have N3 := Lib.hid (N2.out.put (ouc px))
            have B3 := Lib.hid (Below.put (B2.out.alloc B2.out.size (.cells (ouc zou).toArray 40)) B2.out.size (ouc px).toArray)
            have b23 : Below w2.heap.size w2 ((w2.alloc (.cells (ouc zou).toArray 40)).setRow w2.heap.size (ouc px).toArray) := Below.put ((Below.refl _ w2).alloc (Nat.le_refl _) _) (Nat.le_refl _) _
            have I3 := Lib.hid ((I1.out.below b2).below b23)
            clear b2 R2 B2 R1 B1 CRD b23 I1
            go_wp2_with ((with_reducible show wpList _ _ _ (⟨none, .store _ (.tmp 6) _, _, _, _, _⟩ :: _) _ _); refine VB.store rfl _ _ rfl w2.heap.size (ouc px) rfl rfl N2.out NK.out H41.out HALL.out ?_; change wpList _ _ _ _ _ ((w2.alloc (.cells (ouc zou).toArray 40)).setRow w2.heap.size (ouc px).toArray); generalize (w2.alloc (.cells (ouc zou).toArray 40)).setRow w2.heap.size (ouc px).toArray = W3 at *)
            have k1 : W3.cell? ⟨bb, oo + 1, none⟩ = some (.int .u8 y1) := by
              rcases I3.out with h | ⟨b', off', h1, hc⟩
              · have := HX.out; rw [h] at this; simp at this
              · cases h1; have := hc 1 (by rw [HX.out]; omega); rw [H1.out] at this; exact this
            have k2 := cell_regrown k1
            have cF := reg_call (w := W3) (fun W _ => CFL W)
            have HRG := Lib.hid (show ∀ W', (∃ p : Regrown, W' = Sort.grow (redrawn W3 p.d) p.os) → W'.rangeAt w2.heap.size 0 (ouc px) from by rintro W' ⟨p, rfl⟩; exact row_range (N3.out.below (below_regrown W3 p.d p.os) N3.out.lt))
            have wy : IntKind.i64.wrap y1 = y1 := IntWalk.i64_in _ (by omega)
            clear k1 CFL
            refine wp_region_quiet_below (by kernel_rfl) (by kernel_rfl) ?_
            repeat (first
              | (with_reducible show wpQuiet _ _ _ _ (⟨some 33, _, _, _, _, _⟩ :: _) _
                 refine wpQuiet_loadR rfl _ rfl w2.heap.size 0 (ouc px) rfl HRG.out _ Tryz.underlying40 rfl NK.out ?_
                 simp only [Act.put, List.setIfInBounds_toArray, List.set_cons_succ, List.set_cons_zero])
              | go_big_quiet_step (exact cF _ _))
            refine wpQuiet_nil ?_
            intro _ hw'
            obtain ⟨⟨dq, osq⟩, hw''⟩ := hw'
            subst hw''
            have R4 := Lib.hid (VRow.below R3.out (below_regrown W3 dq osq) R3.out.lt)
            have N4 := Lib.hid (VRow.below N3.out (below_regrown W3 dq osq) N3.out.lt)
            have B4 := Lib.hid (grow B3.out (below_regrown W3 dq osq))
            show Exit.then _ _ .normal _ (Sort.grow (redrawn W3 dq) osq)
            generalize Sort.grow (redrawn W3 dq) osq = W4 at *
            clear R3 B3 N3 k2 cF HRG wy
          · go_wp2_with (first
              | ((with_reducible show wpList _ _ _ (⟨some 42, _, _, _, _, _⟩ :: _) _ _); refine VB.loaded rfl _ rfl w2.heap.size rfl N4.out Tryz.underlying40 rfl NK.out ?_)
              | ((with_reducible show wpList _ _ _ (⟨none, .store _ (.tmp 2) _, _, _, _, _⟩ :: _) _ _); refine VB.store rfl _ _ rfl w.heap.size (ouc px) rfl rfl R4.out NK.out H41.out HALL.out ?_))
            refine bodyPost_ret (v := .tuple #[.agg (ouc px).toArray, .int .i64 0]) ?_ rfl ⟨rfl, Below.put B4.out (Nat.le_refl _) _⟩
            exact (VB.ret2 (cs := ouc px) rfl rfl (aggO _) NK.out (R4.out.put (ouc px))).trans rfl
          · have dn : ((fn : Int) != y1) = true := by simpa using hf
            go_wp2_with (first
              | ((with_reducible show wpList _ _ _ (⟨some 41, _, _, _, _, _⟩ :: _) _ _); refine wpList_buildTo rfl _ _ rfl (ouc zou).toArray (by kernel_rfl) ?_)
              | ((with_reducible show wpList _ _ _ (⟨none, .store _ (.tmp 2) _, _, _, _, _⟩ :: _) _ _); refine VB.store rfl _ _ rfl w.heap.size (ouc zou) rfl rfl R4.out (sizeO ok_zou) rfl (ouc_all _) ?_))
            refine bodyPost_ret (v := .tuple #[.agg (ouc zou).toArray, .int .i64 3]) ?_ rfl ⟨rfl, Below.put B4.out (Nat.le_refl _) _⟩
            exact (VB.ret2 (cs := ouc zou) rfl rfl (aggO _) (sizeO ok_zou) (R4.out.put (ouc zou))).trans rfl
    · rw [retD_no (iso_sync h90)]
      have d1 : (l.getD 0 0 != 90) = true := by simpa using h90
      rw [h54]
      generalize l.getD 0 0 = x0 at *
      clear hy hb hb0 hcap h90
      go_enter Tryz.func24, Tryz.ntmps24
      go_wp2_with (first
        | ((with_reducible show wpList _ _ _ (⟨some 16, _, _, _, _, _⟩ :: _) _ _); refine wpList_buildTo rfl _ _ rfl (ouc zou).toArray (by kernel_rfl) ?_)
        | ((with_reducible show wpList _ _ _ (⟨none, .store _ (.tmp 2) _, _, _, _, _⟩ :: _) _ _); refine VB.store rfl _ _ rfl w.heap.size (ouc zou) rfl rfl N0.out (sizeO ok_zou) rfl (ouc_all _) ?_; change wpList _ _ _ _ _ ((w.alloc (.cells (ouc zou).toArray 40)).setRow w.heap.size (ouc zou).toArray); generalize (w.alloc (.cells (ouc zou).toArray 40)).setRow w.heap.size (ouc zou).toArray = W1 at *))
      refine bodyPost_ret (v := .tuple #[.agg (ouc zou).toArray, .int .i64 3]) ?_ rfl ⟨rfl, R0.out.1⟩
      exact (VB.ret2 (cs := ouc zou) rfl rfl (aggO _) (sizeO ok_zou) R0.out.2).trans rfl
  · rw [retD_no (iso_len h54)]
    have d0 : ((l.length : Int) != 54) = true := by simp; omega
    clear hy hb hcap
    go_enter Tryz.func24, Tryz.ntmps24
    go_wp2_with (first
      | ((with_reducible show wpList _ _ _ (⟨some 16, _, _, _, _, _⟩ :: _) _ _); refine wpList_buildTo rfl _ _ rfl (ouc zou).toArray (by kernel_rfl) ?_)
      | ((with_reducible show wpList _ _ _ (⟨none, .store _ (.tmp 2) _, _, _, _, _⟩ :: _) _ _); refine VB.store rfl _ _ rfl w.heap.size (ouc zou) rfl rfl N0.out (sizeO ok_zou) rfl (ouc_all _) ?_; change wpList _ _ _ _ _ ((w.alloc (.cells (ouc zou).toArray 40)).setRow w.heap.size (ouc zou).toArray); generalize (w.alloc (.cells (ouc zou).toArray 40)).setRow w.heap.size (ouc zou).toArray = W1 at *))
    refine bodyPost_ret (v := .tuple #[.agg (ouc zou).toArray, .int .i64 3]) ?_ rfl ⟨rfl, R0.out.1⟩
    exact (VB.ret2 (cs := ouc zou) rfl rfl (aggO _) (sizeO ok_zou) R0.out.2).trans rfl
end Ot
end Go.Proofs.YtpoededbmdffpaaGreatDoor
