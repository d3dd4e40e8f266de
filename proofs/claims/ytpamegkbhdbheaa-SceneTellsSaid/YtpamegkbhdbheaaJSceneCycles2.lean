/-
  What Cycles of package scene does: its contract by walking the Go text. Conditions: how the scene lies.
  How the document's scene lies in memory; what its Fault and off do: contracts by walking the Go text. Conditions: how the scene lies.
-/
import Derived.Test.YtpamegkbhdbheaaJSceneSent2
import Derived.Test.YtpamegkbhdbheaaSceneFault
import Derived.Test.YtpamegkbhdbheaaSetWrites
import Derived.Test.YtpamegkbhdbheaaConfigRef
namespace Go.Proofs.Ytpamegkbhdbheaa
set_option maxRecDepth 100000
open Go.ChangeShapes Go.WideShapes Go.ChangeAt Go.RowKit Go.Deep
namespace Sc
open Cf (G CA)

/-- A whole struct loaded, in a region that draws. -/
theorem wpQuiet_loadR {ops : Array Oper} {C : World → Prop} {Q : Act → Prop} {o : Oper} {rest : List Oper} {a : Act} {t : TypeId} (hw : Region.wanted o (yielded ops a.tmps) = true) (x : Operand) (ho : o.op = .load t x)
    (b off : Nat) (cs : List Value) (hx : a.eval x = .pointer (some ⟨b, off, none⟩)) (hb : ∀ w, C w → w.rangeAt b off cs) (d : TypeDesc) (hu : Try.prog.underlying t = some d) (hd : d.isRow = true) (hi : (Try.prog.info? t).map (·.size) = some cs.length)
    (h : wpQuiet Try.prog ops C Q rest (a.put o.dst (.agg cs.toArray))) : wpQuiet Try.prog ops C Q (o :: rest) a := by
  unfold wpQuiet
  rw [if_pos hw]
  refine ⟨.agg cs.toArray, fun w hC => ?_, h⟩
  have e := run_loadVar_mid (P := Try.prog) w b off t cs d (hb w hC) hu hd hi
  unfold Oper.quietAt execOp
  simp only [ho, hx, Instr.loadAt, Instr.sureAddr, Sem.run_bind, Sem.run_pure, Result.andThen_ok, e]
  exact ⟨rfl, rfl⟩
theorem At.whole {w : World} {g : Nat} {s : Sn} {a : Option Addr} {cap : Nat} (h : At w g s a cap) : w.rangeAt g 0 (scv s a cap) := fun j v hv => by rw [Nat.zero_add]; exact h.row.cell j hv
/-- A slot comes: the call; the store. -/
structure Ph (w : World) (g gl : Nat) (s : Sn) (a : Option Addr) (cap : Nat) (T : Nat → Sl4) (m i k : Nat) (x z : Bool) (v : Value) (Y : World) : Prop where
  at_ : At Y g s a cap
  fill : z = false → Fill w Y gl s m T (4 * i + k)
  call : x = true → ∃ u : Sl4, v = .agg #[.bool u.is, .slice u.a u.l.length u.cap] ∧ (z = false → Good Y u (sisC s i k) (sbyC s i k))
  done : z = true → ∃ T', Fill w Y gl s m T' (4 * i + (k + 1))
section
variable {w Y Z : World} {g gl : Nat} {s : Sn} {a : Option Addr} {cap : Nat} {T : Nat → Sl4} {m i k : Nat} {x z : Bool} {v : Value}
theorem Ph.on (h : Ph w g gl s a cap T m i k x z v Y) (b : Below Y.heap.size Y Z) : Ph w g gl s a cap T m i k x z v Z :=
  ⟨h.at_.on b, fun e => (h.fill e).on b, fun e => by obtain ⟨u, q, p⟩ := h.call e; exact ⟨u, q, fun e' => (p e').on b⟩, fun e => by obtain ⟨T', q⟩ := h.done e; exact ⟨T', q.on b⟩⟩
theorem Ph.put (h : Ph w g gl s a cap T m i k true false v Y) (hp : PsAt w a s.ps) (hi : i < m) (hk : k < 4) (hg : g ≠ gl) : ∃ u : Sl4, v = .agg #[.bool u.is, .slice u.a u.l.length u.cap] ∧ Y.there gl (i * 8 + k * 2) 2 ∧ Ph w g gl s a cap T m i k true true v (Y.setCells gl (i * 8 + k * 2) (s2 u)) := by
  obtain ⟨u, q, p⟩ := h.call rfl
  have F := h.fill rfl
  have F' := F.put i k rfl hi hk (p rfl)
  have hl := cyl_len T (4 * m)
  refine ⟨u, q, fun j hj => ⟨?_, F.row.frozen _⟩, ⟨⟨?_, hp.below F'.below, h.at_.len⟩, fun e => (by cases e), fun _ => ⟨u, q, fun e => (by cases e)⟩, fun _ => ⟨_, F'⟩⟩⟩
  · have hl' : i * 8 + k * 2 + j < (cyl (4 * m) T).length := by omega
    rw [F.row.cell _ (List.getElem?_eq_getElem hl')]; rfl
  · show VRow ((Y.setCell ⟨gl, i * 8 + k * 2, none⟩ (.bool u.is)).setCell ⟨gl, i * 8 + k * 2 + 1, none⟩ (.slice u.a u.l.length u.cap)) g _ _
    exact (h.at_.row.setOther (p := ⟨gl, i * 8 + k * 2, none⟩) hg _).setOther (p := ⟨gl, i * 8 + k * 2 + 1, none⟩) hg _
end
/-- What Cycles hands back of a right scene: new memory, each slot in its place. -/
def RetY (w : World) (s : Sn) (e : Ending) (w' : World) : Prop :=
  ∃ gl T, e = .returned (.tuple #[.slice (some ⟨gl, 0, none⟩) s.ps.length s.ps.length, .int .i64 0]) ∧ Fill w w' gl s s.ps.length T (4 * s.ps.length)
section
variable (s : Sn) (a : Option Addr) (cap : Nat) (w : World) (L : Lens s) (hp : PsAt w a s.ps)
include L hp
theorem sent_any (H : Ok s) (i k : Nat) (hi : i < s.ps.length) (hk : k < NN s) :
    Calls Try.prog 22 #[.agg (scv s a cap).toArray, .int .i64 i, .int .i64 k] w (RetS w (sis s i k) (sby s i k)) := by
  unfold sis sby
  by_cases ho : (k : Int) = s.odd
  · rw [if_pos ho, if_pos ho]; exact sent_odd s a cap w L hp i k hi ho
  · rw [if_neg ho, if_neg ho]; exact sent_other s a cap w L hp H i k hi hk ho
set_option maxHeartbeats 1600000 in
theorem cycles_no (H : ¬ Ok s) :
    Calls Try.prog 9 #[.agg (scv s a cap).toArray] w fun e w' => e = .returned (.tuple #[.slice none 0 0, .int .i64 1]) ∧ Below w.heap.size w w' := by
  have X0 := Lib.hid (Bd.new (cap := cap) L hp)
  have CF := fun W (D : At W w.heap.size s a cap) => fault_any s a cap W D.len D.ps
  have HE := emp s
  rw [decide_eq_false (fun h => H (fault_ok.1 h))] at HE
  generalize fault s = ft at *
  clear L hp H
  go_enter Try.func9, Try.ntmps9
  go_upto_region 1 with fail
  generalize w.alloc (.cells (scv s a cap).toArray 27) = w0 at *
  generalize hg : w.heap.size = g at *
  go_wp2_with ((with_reducible show wpList _ _ _ (⟨some 7, _, _, _, _, _⟩ :: _) _ _); refine loadS rfl _ rfl g rfl X0.out.at_ ?_)
  refine (CF _ X0.out.at_).mono ?_; rintro e w1 ⟨rfl, b1⟩
  have X1 := Lib.hid (X0.out.on b1)
  clear b1
  go_wp2_with fail
  go_ret2
  exact ⟨rfl, hg ▸ X1.out.below⟩
set_option maxRecDepth 100000 in
set_option maxHeartbeats 3200000 in
theorem cycles_yes (H : Ok s) :
    Calls Try.prog 9 #[.agg (scv s a cap).toArray] w (RetY w s) := by
  have X0 := Lib.hid (Bd.new (cap := cap) L hp)
  have CF := fun W (D : At W w.heap.size s a cap) => fault_any s a cap W D.len D.ps
  have HE := emp s
  rw [decide_eq_true (fault_ok.2 H)] at HE
  have C := cv_of H.cov
  have CE := C.eq
  have hN := C.nn
  have hfew := H.few
  have HP := Lib.hid hp
  have CS := Lib.hid (fun W (D : At W w.heap.size s a cap) i hi k hk => sent_any s a cap W D.len D.ps H i k hi hk)
  have HU := Lib.hid (show ∀ i k, k < NN s → sisC s i k = sis s i k ∧ sbyC s i k = sby s i k from fun i k hk => ⟨if_pos hk, if_pos hk⟩)
  have HNX := Lib.hid (fun (W : World) gl T i (h : Fill w W gl s s.ps.length T (4 * i + NN s)) => h.next i rfl (by omega))
  have SS := Lib.hid (sizeS (a := a) (cap := cap) L)
  generalize fault s = ft at *
  clear L hp H C
  obtain ⟨i0, hi0, hz0, hz1, hz2⟩ := info_parts cycInfo
  generalize hm : s.ps.length = m at *
  generalize hnn : NN s = N at *
  go_enter Try.func9, Try.ntmps9
  go_upto_region 1 with fail
  generalize w.alloc (.cells (scv s a cap).toArray 27) = w0 at *
  generalize hg : w.heap.size = g at *
  go_wp2_with ((with_reducible show wpList _ _ _ (⟨some 7, _, _, _, _, _⟩ :: _) _ _); refine loadS rfl _ rfl g rfl X0.out.at_ ?_)
  refine (CF _ X0.out.at_).mono ?_; rintro e w1 ⟨rfl, b1⟩
  have X1 := Lib.hid (X0.out.on b1)
  clear b1 X0 CF
  have c28 := X1.out.at_.p
  rw [hm] at c28
  go_upto_region 4 with (at_make; refine wpList_make_full _ rfl _ _ _ rfl w.heap.size 46 i0 _ 8 Try.underlying33 hi0 hz0 hz1 .i64 .i64 _ _ m rfl rfl rfl rfl (by rw [hz2]; omega) (by unfold maxLen; omega) X1.out.below.size ?_; intro w2 own1 grown1)
  have B2 : Below w1.heap.size w1 w2 := (Below.refl w1.heap.size w1).grown grown1 (Nat.le_refl _) (by simp)
  have X2 := Lib.hid (X1.out.on B2)
  have F2 := Lib.hid (fill_new (s := s) (grow X1.out.below B2) X1.out.below.size own1)
  have NE := Lib.hid (show g ≠ w1.heap.size by have := X1.out.at_.row.lt; omega)
  clear own1 grown1 B2 X1 c28 hi0 hz0 hz1 hz2
  generalize w1.heap.size = gl at *
  go_wp2_with fail
  go_loopg [5, 6, 16, 22] m (fun gg _ _ s16 _ wr => ∃ (i : Nat) (T : Nat → Sl4), i + gg = m ∧ s16 = .int .i64 i ∧ Hid (Bd w wr g s a cap ∧ Fill w wr gl s m T (4 * i)))
  case atStart => exact ⟨0, _, by omega, rfl, Lib.hid ⟨X2.out, F2.out⟩⟩
  case round =>
    clear X2 F2
    rename World => W
    obtain ⟨i, T, hi, rfl, D⟩ := hrel
    have HI := Lib.hid hi
    clear hi
    by_cases hlt : i < m
    · have hli : (i : Int) < m := by omega
      have c0 := D.out.1.at_.c 0 (by omega)
      rw [CE] at c0
      go_wp2_with fail
      clear c0
      go_loopg [6, 22] N (fun gg _ s22 wr => ∃ (k : Nat) (T : Nat → Sl4), k + gg = N ∧ s22 = .int .i64 k ∧ Hid (Bd w wr g s a cap ∧ Fill w wr gl s m T (4 * i + k)))
      case atStart => exact ⟨0, _, by omega, rfl, D⟩
      case round =>
        clear D
        rename World => W2
        obtain ⟨k, T, hk, rfl, D⟩ := hrel
        have HK := Lib.hid hk
        clear hk
        by_cases hlk : k < N
        · have hlk' : (k : Int) < N := by omega
          have hk4 : (k : Int) < 4 := by omega
          have hli2 : (i : Int) < m := by omega
          have CS1 := Lib.hid (fun W (D : At W g s a cap) => CS.out W D i hlt k hlk)
          have HU1 := Lib.hid (HU.out i k hlk)
          have HIK := Lib.hid (show i < m ∧ k < 4 from ⟨hlt, by omega⟩)
          clear hlk
          go_upto_region 10 with fail
          refine Ws.wp_sets (aF := ?_) [31] [6, 9] 37 [true, true, true, true, true, true, false, true, true, false] [(31, undef)]
            (fun bs vs Y => Ph w g gl s a cap T m i k (bs.getD 0 false) (bs.getD 1 false) (vs.getD 0 undef) Y)
            (fun Y => At Y g s a cap)
            (by kernel_rfl) (by kernel_rfl) (by kernel_rfl) (by kernel_rfl) ?ha ?hMC ?hMg ?h0 ?hq ?hw ?hend
          case ha => rfl
          case hMC => exact fun bs vs Y h => h.at_
          case hMg => exact fun bs vs Y Z h hC => h.on hC.to
          case h0 => exact fun vs _ => ⟨D.out.1.at_, fun _ => D.out.2, fun e => (by cases e), fun e => (by cases e)⟩
          case hq =>
            intro Y hY
            have HRG := Lib.hid (show ∀ W', (∃ z : Regrown, W' = Sort.grow (redrawn Y z.d) z.os) → W'.rangeAt g 0 (scv s a cap) by
              rintro W' ⟨z, rfl⟩
              exact (hY.on (below_regrown Y z.d z.os)).whole)
            clear hY
            simp only [Lt.sel, Lt.putAll, List.map_cons, List.map_nil, List.zip_cons_cons, List.zip_nil_right, List.foldl_cons, List.foldl_nil, Act.put, List.setIfInBounds_toArray, List.set_cons_succ, List.set_cons_zero]
            repeat (first
              | (with_reducible show wpQuiet _ _ _ _ (⟨some 28, _, _, _, _, _⟩ :: _) _
                 refine wpQuiet_loadR rfl _ rfl g 0 (scv s a cap) rfl HRG.out _ Try.underlying27 rfl SS.out ?_
                 simp only [Act.put, List.setIfInBounds_toArray, List.set_cons_succ, List.set_cons_zero])
              | go_big_quiet_step (fail))
            exact rfl
          case hw =>
            rintro bs (_ | _ | q) st o hbl hs ho hk hpre vs Y hv hM
            · obtain rfl : 6 = st := by simpa using hs
              obtain rfl := Option.some.inj ho
              match vs, hv, bs, hbl with
              | [x1], _, [y0, y1], _ =>
                obtain rfl : y0 = false := hk
                refine Wr.wp_fn (f := 22) (args := #[.agg (scv s a cap).toArray, .int .i64 i, .int .i64 k]) (by kernel_rfl) (CS1.out Y hM.at_) ?_
                rintro e Z ⟨a1, c1, rfl, i1, m1, b1⟩
                exact ⟨_, rfl, _, rfl, fun d hd hn => (by cases hd; exact absurd (by decide) hn), ⟨hM.at_.on b1, fun e => (hM.fill e).on b1, fun _ => ⟨⟨sis s i k, a1, sby s i k, c1⟩, rfl, fun _ => ⟨HU1.out.1.symm, HU1.out.2.symm, by rw [HU1.out.2]; exact m1, by rw [HU1.out.2]; exact i1⟩⟩, fun e => by obtain ⟨T', q⟩ := hM.done e; exact ⟨T', q.on b1⟩⟩⟩
            · obtain rfl : 9 = st := by simpa using hs
              obtain rfl := Option.some.inj ho
              match vs, hv, bs, hbl with
              | [x1], _, [y0, y1], _ =>
                obtain rfl : y1 = false := hk
                obtain rfl : y0 = true := hpre 0 6 rfl (by kernel_rfl)
                obtain ⟨u, hu, ht, hP⟩ := hM.put HP.out HIK.out.1 HIK.out.2 NE.out
                obtain rfl : x1 = .agg #[.bool u.is, .slice u.a u.l.length u.cap] := hu
                refine wp_store_mid 44 (.tmp 33) (.tmp 31) rfl gl (i * 8 + k * 2) (s2 u).toArray rfl rfl ht sizeL (by simp [s2, Value.oneCell']) ?_
                exact ⟨undef, rfl, fun d hd => by (cases hd), hP⟩
            · simp at hs
          case hend =>
            intro vs Y hv hM
            match vs, hv with
            | [x1], _ =>
              obtain ⟨T', F'⟩ := hM.done rfl
              have D2 := Lib.hid (show Bd w Y g s a cap ∧ Fill w Y gl s m T' (4 * i + (k + 1)) from ⟨⟨hM.at_, F'.below⟩, F'⟩)
              clear hM F' D
              simp only [Lt.putAll, List.zip_cons_cons, List.zip_nil_right, List.foldl_cons, List.foldl_nil, Act.put, List.setIfInBounds_toArray, List.set_cons_succ, List.set_cons_zero]
              go_wp2_with fail
              go_roundg (N - k - 1)
              case rel => exact ⟨k + 1, T', by have := HK.out; omega, by go_num, D2⟩
              case measure => have := HK.out; omega
        · obtain rfl : k = N := by have := HK.out; omega
          go_wp2_with fail
          go_roundg (m - i - 1)
          case rel => exact ⟨i + 1, T, by have := HI.out; omega, by go_num, Lib.hid ⟨D.out.1, HNX.out _ _ _ _ D.out.2⟩⟩
          case measure => have := HI.out; omega
    · obtain rfl : i = m := by have := HI.out; omega
      go_wp2_with fail
      go_ret2
      exact ⟨gl, T, by rw [hm]; rfl, by rw [hm]; exact D.out.2⟩
end
end Sc
end Go.Proofs.Ytpamegkbhdbheaa

namespace Go.Proofs.Ytpamegkbhdbheaa
set_option maxRecDepth 100000
open Go.ChangeShapes Go.WideShapes Go.ChangeAt Go.RowKit Go.Deep
namespace Sc
open Cf (G CA)

/-- A scene in a block of its own. -/
structure RAt (w : World) (g : Nat) (s : Sn) (a : Option Addr) (cap : Nat) : Prop where
  row : VRow w g 63 (scv s a cap)
  ps : PsAt w a s.ps
  len : Lens s
section
variable {w w' : World} {g : Nat} {s : Sn} {a : Option Addr} {cap : Nat}
theorem RAt.on (h : RAt w g s a cap) (b : Below w.heap.size w w') : RAt w' g s a cap := ⟨h.row.below b h.row.lt, h.ps.below b, h.len⟩
theorem RAt.new (L : Lens s) (h : PsAt w a s.ps) : RAt (w.alloc (.cells (scv s a cap).toArray 63)) w.heap.size s a cap :=
  ⟨VRow.new w _ _, h.below ((Below.refl _ w).alloc (Nat.le_refl _) _), L⟩
theorem RAt.c (h : RAt w g s a cap) (j : Nat) (hj : j < 21) : w.cell? ⟨g, j, none⟩ = some (.int .i64 (G s.c j)) := h.row.cell j (scv_c h.len j hj)
theorem RAt.e (h : RAt w g s a cap) : w.cell? ⟨g, 21, none⟩ = some (.int .i64 s.e) := h.row.cell 21 (scv_e h.len)
theorem RAt.r (h : RAt w g s a cap) : w.cell? ⟨g, 22, none⟩ = some (.int .i64 s.r) := h.row.cell 22 (scv_r h.len)
theorem RAt.odd (h : RAt w g s a cap) : w.cell? ⟨g, 23, none⟩ = some (.int .i64 s.odd) := h.row.cell 23 (scv_odd h.len)
theorem RAt.q (h : RAt w g s a cap) (k : Nat) (hk : k < 4) : w.cell? ⟨g, 24 + k, none⟩ = some (.int .i64 (qv s k)) := h.row.cell (24 + k) (scv_q h.len k hk)
theorem RAt.p (h : RAt w g s a cap) : w.cell? ⟨g, 28, none⟩ = some (.slice a s.ps.length cap) := h.row.cell 28 (scv_ps h.len)
theorem RAt.conf (h : RAt w g s a cap) : w.rangeAt g 0 (cellsI .i64 s.c) := fun j v hv => by
  have hj : j < s.c.length := by have := (List.getElem?_eq_some_iff.1 hv).1; simpa [cellsI] using this
  rw [cellsI_get .i64 s.c j hj] at hv
  cases hv
  rw [Nat.zero_add]
  exact h.c j (by rw [← h.len.c]; exact hj)
theorem rsizeK (h : RAt w g s a cap) : (Try.prog.info? 24).map (·.size) = some (cellsI .i64 s.c).length := by rw [cellsI, List.length_map, h.len.c]; kernel_rfl
end
/-- The document's scene while a call goes on. -/
structure RBd (w W : World) (g : Nat) (s : Sn) (a : Option Addr) (cap : Nat) : Prop where
  at_ : RAt W g s a cap
  below : Below w.heap.size w W
theorem RBd.on {w W W' : World} {g : Nat} {s : Sn} {a : Option Addr} {cap : Nat} (h : RBd w W g s a cap) (b : Below W.heap.size W W') : RBd w W' g s a cap := ⟨h.at_.on b, grow h.below b⟩
theorem RBd.start {w : World} {g : Nat} {s : Sn} {a : Option Addr} {cap : Nat} (h : RAt w g s a cap) : RBd w w g s a cap := ⟨h, Below.refl _ _⟩
section
variable (g : Nat) (s : Sn) (a : Option Addr) (cap : Nat) (w : World) (R : RAt w g s a cap)
include R
set_option maxRecDepth 100000 in
set_option maxHeartbeats 6400000 in
theorem roff_any (C : Cv s) :
    Calls Try.prog 21 #[.pointer (some ⟨g, 0, none⟩)] w fun e w' => e = .returned (.string (fv s s.ps.length)) ∧ Below w.heap.size w w' := by
  have X0 := Lib.hid (RBd.start R)
  have HC := Lib.hid C
  have CE := C.eq
  have h4 : (NN s : Int) ≤ 4 := by have := C.nn; omega
  have HLN := Lib.hid R.len.n
  have HN := Lib.hid (show ∀ i, i < s.ps.length → nok s i = false → fv s s.ps.length = ⟨#[111, 102, 102]⟩ from fun i hi h => fv_no (all_range_no hi h))
  have HY := Lib.hid (show (∀ i, i < s.ps.length → nok s i = true) → fv s s.ps.length = ⟨#[]⟩ from fun h => fv_yes (all_range.2 h))
  generalize fv s s.ps.length = ans at *
  obtain ⟨m, hm⟩ : ∃ m, m = s.ps.length := ⟨_, rfl⟩
  have HM := Lib.hid hm
  rw [← hm] at HN HY HLN
  clear R C hm
  generalize hnn : NN s = N at *
  have HNN := Lib.hid hnn
  clear hnn
  go_enter Try.func21, Try.ntmps21
  go_wp2_with fail
  go_loopg [3, 4, 5] m (fun gg s3 _ _ wr => ∃ i : Nat, i + gg = m ∧ s3 = .int .i64 i ∧ Hid (∀ j, j < i → nok s j = true) ∧ Hid (RBd w wr g s a cap))
  case atStart => exact ⟨0, by omega, rfl, Lib.hid (fun j hj => by omega), X0⟩
  case round =>
    clear X0
    rename World => W
    obtain ⟨i, hi, rfl, HA, D⟩ := hrel
    have HI := Lib.hid hi
    clear hi
    have hmx : (m : Int) ≤ 9223372036854775807 := by have := HLN.out; omega
    have q5 := D.out.at_.p
    rw [← HM.out] at q5
    by_cases hlt : i < m
    · have hli : (i : Int) < m := by omega
      have HLT := Lib.hid hlt
      have HI1 := Lib.hid (show nok s i = true → ∀ j, j < i + 1 → nok s j = true from fun hn j hj => by
        rcases Nat.lt_succ_iff_lt_or_eq.1 hj with h | rfl
        · exact HA.out j h
        · exact hn)
      clear hlt
      go_wp2_with fail
      clear q5
      go_loopg [4, 5] N (fun gg s4 _ wr => ∃ k : Nat, k + gg = N ∧ s4 = .int .i64 k ∧ Hid (∀ j, j < k → nok1 s i j = true) ∧ Hid (RBd w wr g s a cap))
      case atStart => exact ⟨0, by omega, rfl, Lib.hid (fun j hj => by omega), D⟩
      case round =>
        clear D
        rename World => W2
        obtain ⟨k, hk, rfl, HB, D⟩ := hrel
        have HK := Lib.hid hk
        clear hk
        have c0 := D.out.at_.c 0 (by omega)
        rw [CE] at c0
        by_cases hlk : k < N
        · have hlk' : (k : Int) < N := by omega
          have hk4 : (k : Int) < 4 := by omega
          have H1 := Lib.hid (show nok1 s i k = (decide ((k : Int) = s.odd) || (List.range 8).all (nok2 s i k)) from rfl)
          have HKN := Lib.hid hlk
          clear hlk
          go_wp2_with fail
          clear c0
          go_loopg [5] 8 (fun gg s5 wr => ∃ n : Nat, n + gg = 8 ∧ s5 = .int .i64 n ∧ Hid (¬ (k : Int) = s.odd → ∀ j, j < n → nok2 s i k j = true) ∧ Hid (RBd w wr g s a cap))
          case atStart => exact ⟨0, by omega, rfl, Lib.hid (fun _ j hj => by omega), D⟩
          case round =>
            clear D
            rename World => W3
            obtain ⟨n, hn, rfl, HD, D⟩ := hrel
            have HL := Lib.hid hn
            clear hn
            by_cases hln : n < 8
            · have hl8 : (n : Int) < 8 := by omega
              have q1 := D.out.at_.odd
              have HS0 := Lib.hid (show ¬ (k : Int) = s.odd → nok2 s i k n = true → ∀ j, j < n + 1 → nok2 s i k j = true from fun ho hx j hj => by
                rcases Nat.lt_succ_iff_lt_or_eq.1 hj with h | rfl
                · exact HD.out ho j h
                · exact hx)
              by_cases hod : (k : Int) = s.odd
              · have d1 : ((k : Int) != s.odd) = false := by simp [hod]
                have HS := Lib.hid (show ¬ (k : Int) = s.odd → ∀ j, j < n + 1 → nok2 s i k j = true from fun ho => absurd hod ho)
                clear hod hln
                go_upto_region 10 with fail
                go_quiet (fail)
                have D2 := Lib.hid (D.out.on (below_drewN (Below.refl W3.heap.size W3) nq))
                clear D q1
                generalize W3.drewN nq = W4 at *
                go_wp2_with fail
                go_roundg (gk - 1)
                case rel => exact ⟨n + 1, by have := HL.out; omega, by go_num, HS, D2⟩
                case measure => have := HL.out; omega
              · have d1 : ((k : Int) != s.odd) = true := by simp [hod]
                have q3 := D.out.at_.e
                have q5 := D.out.at_.p
                obtain ⟨b, off, hab, P⟩ := D.out.at_.ps.at_ (i := i) (by have := HLT.out; have := HM.out; omega)
                rw [hab] at q5
                rw [← HM.out] at q5
                have co := P.o (k * 8 + n) (by omega)
                rw [← Nat.add_assoc, ← Nat.add_assoc] at co
                have hov : (pt s i).o.getD (k * 8 + n) 0 = ov s i k n := rfl
                rw [hov] at co
                have HV := Lib.hid (show nok2 s i k n = (decide (-s.e ≤ ov s i k n) && decide (ov s i k n ≤ s.e)) from rfl)
                have HOD := Lib.hid hod
                have z3 := HC.out.e
                have HNO := Lib.hid (show nok2 s i k n = false → ans = ⟨#[111, 102, 102]⟩ from fun hx => HN.out i HLT.out (all_range_no (p := nok1 s i) (i := k) (by have := HKN.out; have := HNN.out; omega) (by rw [H1.out, all_range_no hln hx]; simp [hod])))
                clear P hov hod hln
                generalize ov s i k n = x at *
                generalize s.e = ee at *
                generalize s.odd = od at *
                have p1 : IntKind.i64.wrap (-ee) = -ee := IntWalk.i64_in _ (by omega)
                by_cases hx1 : ee < x
                · have d2 : decide (ee < x) = true := by simpa using hx1
                  have HF := Lib.hid (HNO.out (by rw [HV.out]; simp; omega))
                  clear hx1
                  go_upto_region 10 with fail
                  go_quiet (fail)
                  have D2 := Lib.hid (D.out.on (below_drewN (Below.refl W3.heap.size W3) nq))
                  clear D q1 q3 q5 co
                  generalize W3.drewN nq = W4 at *
                  go_wp2_with fail
                  go_ret
                  exact ⟨ret_str HF.out.symm, D2.out.below⟩
                · have d2 : decide (ee < x) = false := by simpa using hx1
                  by_cases hx2 : x < -ee
                  · have d3 : decide (x < -ee) = true := by simpa using hx2
                    have HF := Lib.hid (HNO.out (by rw [HV.out]; simp; omega))
                    clear hx1 hx2
                    go_upto_region 10 with fail
                    go_quiet (fail)
                    have D2 := Lib.hid (D.out.on (below_drewN (Below.refl W3.heap.size W3) nq))
                    clear D q1 q3 q5 co
                    generalize W3.drewN nq = W4 at *
                    go_wp2_with fail
                    go_ret
                    exact ⟨ret_str HF.out.symm, D2.out.below⟩
                  · have d3 : decide (x < -ee) = false := by simpa using hx2
                    have HS := Lib.hid (show ¬ (k : Int) = od → ∀ j, j < n + 1 → nok2 s i k j = true from fun ho => HS0.out ho (by rw [HV.out]; simp; omega))
                    clear hx1 hx2
                    go_upto_region 10 with fail
                    go_quiet (fail)
                    have D2 := Lib.hid (D.out.on (below_drewN (Below.refl W3.heap.size W3) nq))
                    clear D q1 q3 q5 co
                    generalize W3.drewN nq = W4 at *
                    go_wp2_with fail
                    go_roundg (gk - 1)
                    case rel => exact ⟨n + 1, by have := HL.out; omega, by go_num, HS, D2⟩
                    case measure => have := HL.out; omega
            · obtain rfl : n = 8 := by have := HL.out; omega
              have HS := Lib.hid (show ∀ j, j < k + 1 → nok1 s i j = true from fun j hj => by
                rcases Nat.lt_succ_iff_lt_or_eq.1 hj with h | rfl
                · exact HB.out j h
                · rw [H1.out]
                  by_cases ho : (j : Int) = s.odd
                  · simp [ho]
                  · rw [all_range.2 (HD.out ho)]; simp)
              go_wp2_with fail
              go_roundg (N - k - 1)
              case rel => exact ⟨k + 1, by have := HK.out; omega, by go_num, HS, D⟩
              case measure => have := HK.out; omega
        · obtain rfl : k = N := by have := HK.out; omega
          have HS := Lib.hid (HI1.out (all_range.2 (fun j hj => HB.out j (by have := HNN.out; omega))))
          go_wp2_with fail
          go_roundg (m - i - 1)
          case rel => exact ⟨i + 1, by have := HI.out; omega, by go_num, HS, D⟩
          case measure => have := HI.out; omega
    · obtain rfl : i = m := by have := HI.out; omega
      have HF := Lib.hid (HY.out HA.out)
      go_wp2_with fail
      go_ret
      exact ⟨ret_str HF.out.symm, D.out.below⟩
end
end Sc
end Go.Proofs.Ytpamegkbhdbheaa
