/-
  What Of of package rudderlaw22 does: its contract by walking the Go text. Conditions: how the scene lies; no more than sixty points.
-/
import Derived.Test.YtpamegkbhdbheaaJSceneApp2
import Derived.Test.YtpamegkbhdbheaaSceneFits
namespace Go.Proofs.Ytpamegkbhdbheaa
set_option maxRecDepth 100000
open Go.ChangeShapes Go.WideShapes Go.ChangeAt Go.RowKit Go.Deep
namespace Sc
open Cf (G CA)

theorem wpList_buildAs {P : Program} {ops : Array Oper} {rest : List Oper} {o : Oper} {a : Act} {w : World} {Q : Exit → Act → World → Prop} (hg : o.guard = none) (t : TypeId) (parts : Array (Nat × Operand)) (ho : o.op = .build t parts)
    (cells : Array Value) (ps : List (Nat × Value)) (hl : (parts.map fun (i, x) => (i, a.eval x)).toList = ps) (hf : P.built t ps = some cells) (h : wpList P ops Q rest (a.put o.dst (.agg cells)) w) : wpList P ops Q (o :: rest) a w := by
  subst hl
  exact wpList_buildTo hg t parts ho cells hf h
theorem size4 {l : List Int} (h : l.length = 4) : (Try.prog.info? 22).map (·.size) = some (cellsI .i64 l).length := by rw [cellsI, List.length_map, h]; kernel_rfl
theorem size32 {l : List Int} (h : l.length = 32) : (Try.prog.info? 57).map (·.size) = some (cellsI .i64 l).length := by rw [cellsI, List.length_map, h]; kernel_rfl
theorem At.rq {w : World} {g : Nat} {s : Sn} {a : Option Addr} {cap : Nat} (h : At w g s a cap) : w.rangeAt g 24 (cellsI .i64 s.q) := fun j v hv => by
  have hj : j < s.q.length := by have := (List.getElem?_eq_some_iff.1 hv).1; simpa [cellsI] using this
  rw [cellsI_get .i64 s.q j hj] at hv
  cases hv
  exact h.q j (by rw [← h.len.q]; exact hj)
theorem rowT {W : World} {g : Nat} {t : TypeId} {p : Pt} (h : VRow W g t (ptv p)) (h8 : p.t.length = 8) (h32 : p.o.length = 32) : W.rangeAt g 0 (cellsI .i64 p.t) := fun j v hv => by
  have hj : j < p.t.length := by have := (List.getElem?_eq_some_iff.1 hv).1; simpa [cellsI] using this
  rw [cellsI_get .i64 _ j hj] at hv; cases hv
  rw [Nat.zero_add]
  exact h.cell j (ptv_t h8 h32 j (by omega))
theorem rowO {W : World} {g : Nat} {t : TypeId} {p : Pt} (h : VRow W g t (ptv p)) (h8 : p.t.length = 8) (h32 : p.o.length = 32) : W.rangeAt g 8 (cellsI .i64 p.o) := fun j v hv => by
  have hj : j < p.o.length := by have := (List.getElem?_eq_some_iff.1 hv).1; simpa [cellsI] using this
  rw [cellsI_get .i64 _ j hj] at hv; cases hv
  exact h.cell (8 + j) (ptv_o h8 h32 j (by omega))
theorem rowS {W : World} {g : Nat} {t : TypeId} {p : Pt} (h : VRow W g t (ptv p)) (h8 : p.t.length = 8) (h32 : p.o.length = 32) : W.rangeAt g 40 [.bool p.is, .slice p.a p.l.length p.cap] := fun j v hv => by
  rcases j with _ | _ | j
  · cases hv; exact h.cell 40 (ptv_is h8 h32)
  · cases hv; exact h.cell 41 (ptv_l h8 h32)
  · simp at hv
section
variable (s : Sn) (a : Option Addr) (cap : Nat) (w : World) (L : Lens s) (hp : PsAt w a s.ps)
include L hp
set_option maxRecDepth 100000 in
set_option maxHeartbeats 6400000 in
theorem of_any (h60 : s.ps.length ≤ 60) :
    Calls Try.prog 7 #[.agg (scv s a cap).toArray] w fun e w' => ∃ mg a' cap', e = .returned (.pointer (some ⟨mg, 0, none⟩)) ∧ RAt w' mg s a' cap' ∧ Below w.heap.size w w' := by
  have X0 := Lib.hid (Bd.new (cap := cap) L hp)
  have HP := Lib.hid hp
  have HL := Lib.hid L
  have S4 := Lib.hid (size4 L.q)
  have BS := Lib.hid (built_sc L)
  clear L hp
  obtain ⟨m, hm⟩ : ∃ m, m = s.ps.length := ⟨_, rfl⟩
  have HM := Lib.hid hm
  rw [← hm] at h60
  clear hm
  go_enter Try.func7, Try.ntmps7
  go_upto_region 1 with fail
  generalize w.alloc (.cells (scv s a cap).toArray 27) = w0 at *
  generalize hg : w.heap.size = g at *
  have q1 := X0.out.at_.e
  have q2 := X0.out.at_.r
  have q3 := X0.out.at_.odd
  go_upto_region 2 with (first
    | ((with_reducible show wpList _ _ _ (⟨some 7, _, _, _, _, _⟩ :: _) _ _); refine loadK rfl _ rfl g rfl X0.out.at_ ?_)
    | ((with_reducible show wpList _ _ _ (⟨some 15, _, _, _, _, _⟩ :: _) _ _); refine wpList_load_mid rfl _ _ rfl g 24 rfl (cellsI .i64 s.q) _ X0.out.at_.rq Try.underlying22 rfl S4.out ?_)
    | ((with_reducible show wpList _ _ _ (⟨some 16, _, _, _, _, _⟩ :: _) _ _); refine wpList_buildAs rfl _ _ rfl (scn s (.slice none 0 0)).toArray [(0, .agg (CA s.c)), (1, .int .i64 s.e), (2, .int .i64 s.r), (3, .int .i64 s.odd), (4, .agg (cellsI .i64 s.q).toArray)] (by kernel_rfl) BS.out ?_))
  clear q1 q2 q3
  have O := Lib.hid (show Om w (w0.alloc (.cells (scn s (.slice none 0 0)).toArray 63)) g w0.heap.size (w0.heap.size + 1) s a cap 0 (.slice none 0 0) from by
    have b := below_new w0 (scn s (.slice none 0 0)).toArray 63
    have hlt := X0.out.at_.row.lt
    have hsz := X0.out.below.size
    exact ⟨X0.out.at_.on b, grow X0.out.below b, VRow.new _ _ _, World.ownsRow_nil _ _ _ _, by omega, by omega, by omega, by omega, by omega, by simp⟩)
  clear X0
  generalize w0.alloc (.cells (scn s (.slice none 0 0)).toArray 63) = w1 at *
  generalize w0.heap.size + 1 = base at *
  generalize w0.heap.size = mg at *
  go_wp2_with fail
  go_loopg [4, 5] m (fun gg s4 _ wr => ∃ (i : Nat) (v : Value), i + gg = m ∧ s4 = .int .i64 i ∧ Hid (Om w wr g mg base s a cap i v))
  case atStart => exact ⟨0, _, by omega, rfl, O⟩
  case round =>
    clear O
    rename World => W
    obtain ⟨i, v, hi, rfl, O⟩ := hrel
    have HI := Lib.hid hi
    clear hi
    have q5 := O.out.at_.p
    rw [← HM.out] at q5
    by_cases hlt : i < m
    · have hli : (i : Int) < m := by omega
      have HLT := Lib.hid (show i < s.ps.length by have := HM.out; omega)
      clear hlt
      obtain ⟨b, off, hab, P⟩ := O.out.at_.ps.at_ HLT.out
      rw [hab] at q5
      have RP := Lib.hid (show W.rangeAt b (off + i * 42) (ptv (pt s i)) from P.cell)
      have h8 := Lib.hid P.t8
      have h32 := Lib.hid P.o32
      have SP := Lib.hid (sizeP P.t8 P.o32)
      have LP := Lib.hid (show ([.int .i64 0, .int .i64 0, .int .i64 0, .int .i64 0, .int .i64 0, .int .i64 0, .int .i64 0, .int .i64 0, .int .i64 0, .int .i64 0, .int .i64 0, .int .i64 0, .int .i64 0, .int .i64 0, .int .i64 0, .int .i64 0, .int .i64 0, .int .i64 0, .int .i64 0, .int .i64 0, .int .i64 0, .int .i64 0, .int .i64 0, .int .i64 0, .int .i64 0, .int .i64 0, .int .i64 0, .int .i64 0, .int .i64 0, .int .i64 0, .int .i64 0, .int .i64 0, .int .i64 0, .int .i64 0, .int .i64 0, .int .i64 0, .int .i64 0, .int .i64 0, .int .i64 0, .int .i64 0, .bool false, .slice none 0 0] : List Value).length = (ptv (pt s i)).length by rw [ptv_len P.t8 P.o32]; rfl)
      clear P hab
      have V1 := Lib.hid ((VRow.new W [.int .i64 0, .int .i64 0, .int .i64 0, .int .i64 0, .int .i64 0, .int .i64 0, .int .i64 0, .int .i64 0, .int .i64 0, .int .i64 0, .int .i64 0, .int .i64 0, .int .i64 0, .int .i64 0, .int .i64 0, .int .i64 0, .int .i64 0, .int .i64 0, .int .i64 0, .int .i64 0, .int .i64 0, .int .i64 0, .int .i64 0, .int .i64 0, .int .i64 0, .int .i64 0, .int .i64 0, .int .i64 0, .int .i64 0, .int .i64 0, .int .i64 0, .int .i64 0, .int .i64 0, .int .i64 0, .int .i64 0, .int .i64 0, .int .i64 0, .int .i64 0, .int .i64 0, .int .i64 0, .bool false, .slice none 0 0] 59).put (ptv (pt s i)))
      have B1 : Below W.heap.size W ((W.alloc (.cells #[.int .i64 0, .int .i64 0, .int .i64 0, .int .i64 0, .int .i64 0, .int .i64 0, .int .i64 0, .int .i64 0, .int .i64 0, .int .i64 0, .int .i64 0, .int .i64 0, .int .i64 0, .int .i64 0, .int .i64 0, .int .i64 0, .int .i64 0, .int .i64 0, .int .i64 0, .int .i64 0, .int .i64 0, .int .i64 0, .int .i64 0, .int .i64 0, .int .i64 0, .int .i64 0, .int .i64 0, .int .i64 0, .int .i64 0, .int .i64 0, .int .i64 0, .int .i64 0, .int .i64 0, .int .i64 0, .int .i64 0, .int .i64 0, .int .i64 0, .int .i64 0, .int .i64 0, .int .i64 0, .bool false, .slice none 0 0] 59)).setRow W.heap.size (ptv (pt s i)).toArray) := Below.put ((Below.refl _ W).alloc (Nat.le_refl _) _) (Nat.le_refl _) _
      have O1 := Lib.hid (O.out.on B1)
      have HN := Lib.hid (show (∀ k, v.ownBlock = some k → base ≤ k ∧ k < W.heap.size) from fun k e => World.ownsRow.lt O.out.own k e)
      go_upto_region 6 with (first
        | ((with_reducible show wpList _ _ _ (⟨some 29, _, _, _, _, _⟩ :: _) _ _); refine wpList_load_mid rfl _ _ rfl b (off + i * 42) rfl (ptv (pt s i)) _ RP.out Try.underlying59 rfl SP.out ?_)
        | ((with_reducible show wpList _ _ _ (⟨none, .store _ (.tmp 5) _, _, _, _, _⟩ :: _) _ _); refine VB.store rfl _ _ rfl W.heap.size (ptv (pt s i)) rfl rfl (VRow.new W [.int .i64 0, .int .i64 0, .int .i64 0, .int .i64 0, .int .i64 0, .int .i64 0, .int .i64 0, .int .i64 0, .int .i64 0, .int .i64 0, .int .i64 0, .int .i64 0, .int .i64 0, .int .i64 0, .int .i64 0, .int .i64 0, .int .i64 0, .int .i64 0, .int .i64 0, .int .i64 0, .int .i64 0, .int .i64 0, .int .i64 0, .int .i64 0, .int .i64 0, .int .i64 0, .int .i64 0, .int .i64 0, .int .i64 0, .int .i64 0, .int .i64 0, .int .i64 0, .int .i64 0, .int .i64 0, .int .i64 0, .int .i64 0, .int .i64 0, .int .i64 0, .int .i64 0, .int .i64 0, .bool false, .slice none 0 0] 59) SP.out LP.out ptv_all ?_))
      clear RP LP O q5 B1 SP
      generalize (W.alloc (.cells #[.int .i64 0, .int .i64 0, .int .i64 0, .int .i64 0, .int .i64 0, .int .i64 0, .int .i64 0, .int .i64 0, .int .i64 0, .int .i64 0, .int .i64 0, .int .i64 0, .int .i64 0, .int .i64 0, .int .i64 0, .int .i64 0, .int .i64 0, .int .i64 0, .int .i64 0, .int .i64 0, .int .i64 0, .int .i64 0, .int .i64 0, .int .i64 0, .int .i64 0, .int .i64 0, .int .i64 0, .int .i64 0, .int .i64 0, .int .i64 0, .int .i64 0, .int .i64 0, .int .i64 0, .int .i64 0, .int .i64 0, .int .i64 0, .int .i64 0, .int .i64 0, .int .i64 0, .int .i64 0, .bool false, .slice none 0 0] 59)).setRow W.heap.size (ptv (pt s i)).toArray = X at *
      generalize W.heap.size = pg at *
      have LT := Lib.hid O1.out.lt
      refine wp_appR (aF := ?_) 16 12 13 42 43 47 [true, true, true, true, true, true, true, true, true, true, true, true, false, false, true, true] base 64 61 42 352 _ v i (flatP (s.ps.take i)) (ptv (pt s i)) _ _ (.tmp 34) (.tmp 42) (by kernel_rfl) (by kernel_rfl) (by kernel_rfl) (by kernel_rfl) (by kernel_rfl) rfl rfl rfl (by kernel_rfl) rfl rfl O1.out.own LT.out.2.2.2.2.2 Try.underlying61 ptInfo rfl (by omega) (ptv_len h8.out h32.out) (fun u hu => by have := ptv_all (p := pt s i); rw [Array.all_eq_true_iff_forall_mem] at this; exact this u (by simpa using hu)) (by unfold maxLen; omega) (by omega) rfl ?hq ?h1 ?h2 ?g1 ?g2 ?hend
      case hq =>
        intro Y hY
        have VM := butRow hY O1.out.row (fun e => by have := HN.out mg e; have := LT.out; omega)
        have VP := butRow hY V1.out (fun e => by have := HN.out pg e; omega)
        have HT := Lib.hid (show ∀ W', (∃ z : Regrown, W' = Sort.grow (redrawn Y z.d) z.os) → W'.rangeAt pg 0 (cellsI .i64 (pt s i).t) by
          rintro W' ⟨z, rfl⟩
          exact rowT (VP.below (below_regrown Y z.d z.os) VP.lt) h8.out h32.out)
        have HO := Lib.hid (show ∀ W', (∃ z : Regrown, W' = Sort.grow (redrawn Y z.d) z.os) → W'.rangeAt pg 8 (cellsI .i64 (pt s i).o) by
          rintro W' ⟨z, rfl⟩
          exact rowO (VP.below (below_regrown Y z.d z.os) VP.lt) h8.out h32.out)
        have HS := Lib.hid (show ∀ W', (∃ z : Regrown, W' = Sort.grow (redrawn Y z.d) z.os) → W'.rangeAt pg 40 [.bool (pt s i).is, .slice (pt s i).a (pt s i).l.length (pt s i).cap] by
          rintro W' ⟨z, rfl⟩
          exact rowS (VP.below (below_regrown Y z.d z.os) VP.lt) h8.out h32.out)
        have BP := Lib.hid (built_pt h8.out h32.out)
        have Z8 := Lib.hid (size8 h8.out)
        have Z32 := Lib.hid (size32 h32.out)
        have k28 := cell_regrown (VM.cell 28 (scn_last HL.out))
        clear VM VP hY
        simp only [Lt.sel, Lt.putAll, List.take_succ_cons, List.take_zero, List.zip_cons_cons, List.zip_nil_right, List.foldl_cons, List.foldl_nil, Act.put, List.setIfInBounds_toArray, List.set_cons_succ, List.set_cons_zero]
        repeat (first
          | (with_reducible show wpQuiet _ _ _ _ (⟨some 36, _, _, _, _, _⟩ :: _) _
             refine wpQuiet_loadR rfl _ rfl pg 0 (cellsI .i64 (pt s i).t) rfl HT.out _ Try.underlying50 rfl Z8.out ?_
             simp only [Act.put, List.setIfInBounds_toArray, List.set_cons_succ, List.set_cons_zero])
          | (with_reducible show wpQuiet _ _ _ _ (⟨some 38, _, _, _, _, _⟩ :: _) _
             refine wpQuiet_loadR rfl _ rfl pg 8 (cellsI .i64 (pt s i).o) rfl HO.out _ Try.underlying57 rfl Z32.out ?_
             simp only [Act.put, List.setIfInBounds_toArray, List.set_cons_succ, List.set_cons_zero])
          | (with_reducible show wpQuiet _ _ _ _ (⟨some 40, _, _, _, _, _⟩ :: _) _
             refine wpQuiet_loadR rfl _ rfl pg 40 [.bool (pt s i).is, .slice (pt s i).a (pt s i).l.length (pt s i).cap] rfl HS.out _ Try.underlying44 rfl (by kernel_rfl) ?_
             simp only [Act.put, List.setIfInBounds_toArray, List.set_cons_succ, List.set_cons_zero])
          | (with_reducible show wpQuiet _ _ _ _ (⟨some 41, _, _, _, _, _⟩ :: _) _
             refine wpQuiet_buildTo rfl _ _ rfl (ptv (pt s i)).toArray [(0, .agg (cellsI .i64 (pt s i).t).toArray), (1, .agg (cellsI .i64 (pt s i).o).toArray), (2, .agg #[.bool (pt s i).is, .slice (pt s i).a (pt s i).l.length (pt s i).cap])] (by kernel_rfl) BP.out ?_
             simp only [Act.put, List.setIfInBounds_toArray, List.set_cons_succ, List.set_cons_zero])
          | go_big_quiet_step (fail))
        exact rfl
      case h1 =>
        intro x0 x1 Z
        exact run_lit 61 64 (.tmp 41) rfl _ _ (by kernel_rfl) Try.underlying61 (lit_pt h8.out h32.out) Z
      case h2 => exact fun _ _ => ⟨by kernel_rfl, by kernel_rfl⟩
      case g1 => exact fun _ _ _ => by kernel_rfl
      case g2 => exact fun _ _ _ => by kernel_rfl
      case hend =>
        intro x0 v' Y own' B'
        obtain ⟨a2, n2, k2, rfl⟩ : ∃ a n c, v' = .slice a n c := by
          rcases own' with ⟨-, ⟨rfl, -⟩ | ⟨g', cap', cur, rfl, -⟩⟩
          · exact ⟨_, _, _, rfl⟩
          · exact ⟨_, _, _, rfl⟩
        have VM := butRow B' O1.out.row (fun e => by have := HN.out mg e; have := LT.out; omega)
        have c28 := VM.cell 28 (scn_last HL.out)
        have f28 := VM.frozen 28
        have O2 := Lib.hid (O1.out.put HP.out HLT.out B' own')
        clear own' B' VM O1 V1
        simp only [Lt.putAll, List.drop_succ_cons, List.drop_zero, List.zip_cons_cons, List.zip_nil_right, List.foldl_cons, List.foldl_nil, Act.put, List.setIfInBounds_toArray, List.set_cons_succ, List.set_cons_zero]
        go_wp2_with fail
        go_roundg (m - i - 1)
        case rel => exact ⟨i + 1, _, by have := HI.out; omega, by go_num, O2⟩
        case measure => have := HI.out; omega
    · obtain rfl : i = m := by have := HI.out; omega
      rw [HM.out] at O
      obtain ⟨a', cap', rfl, R⟩ := O.out.done HP.out
      have R := Lib.hid R
      have B := Lib.hid O.out.below
      go_wp2_with fail
      go_ret
      exact ⟨mg, a', cap', rfl, R.out, hg ▸ B.out⟩
end
end Sc
end Go.Proofs.Ytpamegkbhdbheaa
