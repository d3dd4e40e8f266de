/-
  What New of package fusion returns: contracts by walking the Go text. Conditions: for a configuration that may be: that the table of trips lies in memory.
-/
import Derived.Test.YtpoededbmdffpaaGreatDoorFusionNew
import Derived.Test.YtpoededbmdffpaaGreatDoorSignalNew
import Derived.Deep.LoopGhost
namespace Go.Proofs.YtpoededbmdffpaaGreatDoor
set_option maxRecDepth 100000
open Go.ChangeShapes Go.WideShapes Go.ChangeAt Go.RowKit Go.Deep
namespace Fu
open Cf (G CA Box)
open Sg (NN Si Face)
theorem wp_buildTo {P : Program} {o : Oper} {a : Act} {w : World} {K : Act → World → Prop} {Q : Exit → Act → World → Prop} (t : TypeId) (parts : Array (Nat × Operand)) (ho : o.op = .build t parts) (cells : Array Value) (hf : P.built t (parts.map fun (i, x) => (i, a.eval x)).toList = some cells) (h : K (a.put o.dst (.agg cells)) w) : o.wp P a w K Q :=
  wp_build t parts ho (by rw [hf]; rfl) (by rw [hf]; exact h)
theorem list4 {α : Type} {l : List α} (h : l.length = 4) : ∃ a b c d, l = [a, b, c, d] := by
  match l, h with
  | [a, b, c, d], _ => exact ⟨a, b, c, d, rfl⟩
/-- The signal's call, what it hands back, the store. -/
structure Nq (F : Face) (w X : World) (P : Pl) (c : List Int) (n : Nat) (bs : List Bool) (vs : List Value) (Y : World) : Prop where
  cfg : Box Y w.heap.size c
  low : bs.getD 4 false = false → Below X.heap.size X Y
  ord : bs.getD 4 false = true → bs.getD 0 false = true ∧ bs.getD 1 false = true ∧ bs.getD 2 false = true
  t1 : bs.getD 1 false = true → ∃ g, vs.getD 1 undef = .tuple #[ptr g, .int .i64 0]
  c0 : bs.getD 0 false = true → bs.getD 4 false = false → ∃ g S, vs.getD 0 undef = .tuple #[ptr g, .int .i64 0] ∧ F.At Y S g c (Sg.begin c) ∧ ∀ j, S j → X.heap.size ≤ j
  c1 : bs.getD 1 false = true → bs.getD 4 false = false → ∃ g S, vs.getD 1 undef = .tuple #[ptr g, .int .i64 0] ∧ F.At Y S g c (Sg.begin c) ∧ ∀ j, S j → X.heap.size ≤ j
  c2 : bs.getD 2 false = true → bs.getD 4 false = false → ∃ g S, vs.getD 2 undef = ptr g ∧ F.At Y S g c (Sg.begin c) ∧ ∀ j, S j → X.heap.size ≤ j
  c4 : bs.getD 4 false = true → ∃ P', LieN F w Y P' c (n + 1) ∧ P'.f = P.f
theorem Nq.on {F : Face} {w X Y Z : World} {P : Pl} {c : List Int} {n : Nat} {bs : List Bool} {vs : List Value} (h : Nq F w X P c n bs vs Y) (b : Below Y.heap.size Y Z) : Nq F w X P c n bs vs Z :=
  ⟨h.cfg.on b, fun e => grow (h.low e) b, h.ord, h.t1, fun e e2 => by obtain ⟨g, S, q1, q2, q3⟩ := h.c0 e e2; exact ⟨g, S, q1, F.on q2 b, q3⟩, fun e e2 => by obtain ⟨g, S, q1, q2, q3⟩ := h.c1 e e2; exact ⟨g, S, q1, F.on q2 b, q3⟩,
    fun e e2 => by obtain ⟨g, S, q1, q2, q3⟩ := h.c2 e e2; exact ⟨g, S, q1, F.on q2 b, q3⟩, fun e => by obtain ⟨P', q1, q2⟩ := h.c4 e; exact ⟨P', q1.on b, q2⟩⟩
theorem list5 {α : Type} {l : List α} (h : l.length = 5) : ∃ a b c d e, l = [a, b, c, d, e] := by
  match l, h with
  | [a, b, c, d, e], _ => exact ⟨a, b, c, d, e, rfl⟩
theorem list3 {α : Type} {l : List α} (h : l.length = 3) : ∃ a b c, l = [a, b, c] := by
  match l, h with
  | [a, b, c], _ => exact ⟨a, b, c, rfl⟩
theorem trkInfo : (Tryz.prog.info? 94).map (fun i => (i.zero, i.size, i.bytes)) = some (some (.pointer none), 1, 8) := by kernel_rfl
/-- append(f.tracks, track): one pointer, the row the call's own. -/
theorem wpList_append1P {wr : World} {ops : Array Oper} {rest : List Oper} {o : Oper} {a : Act} {Q : Exit → Act → World → Prop} (hgd : o.guard = none) (s x : Operand)
    (ho : o.op = .call { callee := .builtin .append, args := #[s, x], argTypes := #[89, 89] })
    (base : Nat) (v : Value) (k : Nat) (l : List Value) (y : Nat) (hs : a.eval s = v) (hx : a.eval x = .slice (some ⟨wr.heap.size, 0, none⟩) 1 1) (hown : wr.ownsRow base 94 1 v k l)
    (hk : k < 1000) (hbase : base ≤ wr.heap.size)
    (h : ∀ v' w', w'.ownsRow base 94 1 v' (k + 1) (l ++ [ptr y]) → (wr.alloc (.cells #[ptr y] 94)).grownBy w' v.ownBlock → wpList Tryz.prog ops Q rest (a.put o.dst v') w') :
    wpList Tryz.prog ops Q (o :: rest) a (wr.alloc (.cells #[ptr y] 94)) := by
  obtain ⟨i0, hi0, hz0, hz1, hz2⟩ := info_parts trkInfo
  have hnew := VRow.new wr [ptr y] 94
  refine wpList_append_own _ hgd s x 89 ho base 94 i0 _ 1 8 Tryz.underlying89 hi0 hz0 hz1 hz2 rfl (by omega) v k l hs (hown.alloc _) ⟨wr.heap.size, 0, none⟩ 1 1 [ptr y] hx rfl ?_ ?_ (by unfold maxLen; omega) (by omega) (by simp; omega) ?_
  · intro j u hj
    rw [add_plain, Nat.zero_add]
    exact VRow.cell hnew j hj
  · intro u hu
    rw [List.mem_singleton.1 hu]; rfl
  · intro v' w' h1 h2 _
    exact h v' w' h1 h2
set_option maxHeartbeats 800000 in
theorem new_no (c : List Int) (w : World) (hc : c.length = 21) (hR : ¬ Cf.Right c) :
    Calls Tryz.prog 8 #[.agg (CA c)] w fun e w' => e = .returned (.tuple #[.pointer none, .int .i64 2]) ∧ Below w.heap.size w w' := by
  have B1 := Lib.hid (Box.new w c)
  have b1 := Lib.hid ((Below.refl w.heap.size w).alloc (Nat.le_refl _) (.cells (CA c) 24))
  have CR := fun W => Cf.right_any c W hc
  have hr : Cf.rt c = false := decide_eq_false hR
  rw [hr] at CR
  have HC := Lib.hid hc
  clear hr hR hc
  go_enter Tryz.func8, Tryz.ntmps8
  go_wp2_with (first
    | (with_reducible show wpList _ _ _ (⟨some 9, _, _, _, _, _⟩ :: _) _ _; refine Cf.wpList_loadC rfl _ rfl w.heap.size c rfl B1.out HC.out ?_)
    | (go_at_call 23; refine (CR _).mono ?_; rintro e w2 ⟨rfl, b2⟩; have B2 := Lib.hid (grow b1.out b2); clear b2))
  go_ret2
  exact ⟨rfl, B2.out⟩
set_option maxRecDepth 100000 in
set_option maxHeartbeats 6400000 in
theorem new_yes (F : Face) (c : List Int) (w : World) (hc : c.length = 21) (hR : Cf.Right c) (hg : 0 < w.heap.size) :
    Calls Tryz.prog 8 #[.agg (CA c)] w fun e w' => ∃ P : Pl, e = .returned (.tuple #[ptr P.f, .int .i64 0]) ∧ Lie F w' P c (begin c) ∧ Below w.heap.size w w' ∧ ∀ b, P.col b ≠ 0 → w.heap.size ≤ b := by
  have B1 := Lib.hid (Box.new w c)
  have b1 := Lib.hid ((Below.refl w.heap.size w).alloc (Nat.le_refl _) (.cells (CA c) 24))
  have CR := fun W => Cf.right_any c W hc
  have hr : Cf.rt c = true := decide_eq_true hR
  rw [hr] at CR
  have CN := fun W => F.new_yes c W hc hR
  have h34 := Sg.NN_34 hR
  have HN := Lib.hid h34
  have hNE := Sg.NN_eq hR
  have HC := Lib.hid hc
  have HG := Lib.hid hg
  clear hr hR hc h34 hg
  go_enter Tryz.func8, Tryz.ntmps8
  go_upto_region 3 with (first
    | (with_reducible show wpList _ _ _ (⟨some 9, _, _, _, _, _⟩ :: _) _ _; refine Cf.wpList_loadC rfl _ rfl w.heap.size c rfl B1.out HC.out ?_)
    | (go_at_call 23; refine (CR _).mono ?_; rintro e w2 ⟨rfl, b2⟩; have B2 := Lib.hid (B1.out.on b2); have c2 := Lib.hid (grow b1.out b2); clear b2))
  have hz2 := Lib.hid (show w.heap.size + 1 ≤ w2.heap.size by have := B2.out.lt; omega)
  clear CR B1 b1
  refine Ws.wp_sets (aF := ?_) [14, 15, 16, 4] [2, 3, 4, 5] 53 [true, true, false, false, false, false] [(14, undef), (15, undef), (16, undef), (4, undef)]
    (Fq w2 c)
    (fun Y => Below w2.heap.size w2 Y)
    (by kernel_rfl) (by kernel_rfl) (by kernel_rfl) (by kernel_rfl) ?ha ?hMC ?hMg ?h0 ?hq ?hw ?hend
  case ha => rfl
  case hMC => exact fun bs vs Y h => h.below
  case hMg => exact fun bs vs Y Z h hC => h.on hC.to
  case h0 => exact fun vs _ => ⟨Below.refl _ _, fun e => (by cases e), fun e => (by cases e), fun e => (by cases e), fun e => (by cases e)⟩
  case hq =>
    intro Y hY
    have BY := B2.out.on hY
    have k16 := cell_regrown (BY.at HC.out 16 (by omega))
    clear BY hY
    simp only [Lt.sel, Lt.putAll, List.map_cons, List.map_nil, List.zip_cons_cons, List.zip_nil_right, List.foldl_cons, List.foldl_nil, Act.put, List.setIfInBounds_toArray, List.set_cons_succ, List.set_cons_zero]
    repeat (go_big_quiet_step (fail))
    exact rfl
  case hw =>
    rintro bs (_ | _ | _ | _ | k) st o hbl hs ho hk hpre vs Y hv hM
    · obtain rfl : 2 = st := by simpa using hs
      obtain rfl := Option.some.inj ho
      obtain ⟨x0, x1, x2, x3, rfl⟩ := list4 hv
      obtain ⟨y0, y1, y2, y3, rfl⟩ := list4 hbl
      refine Wr.wp_fn (f := 32) (args := #[]) (by kernel_rfl) (Rg.new_any Y) ?_
      rintro e Z ⟨rfl, rfl⟩
      have HZ := hM.on ((Below.refl Y.heap.size Y).alloc (Nat.le_refl _) (.cells (cellsI .i64 (Rg.rgc [])).toArray 168))
      exact ⟨_, rfl, _, rfl, fun d hd hn => (by cases hd; exact absurd (by decide) hn), ⟨HZ.below, fun _ => ⟨_, rfl, hM.below.size, VRow.new _ _ _⟩, HZ.c1, HZ.c2, HZ.c3⟩⟩
    · obtain rfl : 3 = st := by simpa using hs
      obtain ⟨x0, x1, x2, x3, rfl⟩ := list4 hv
      obtain ⟨y0, y1, y2, y3, rfl⟩ := list4 hbl
      have ho' := Option.some.inj ho
      obtain rfl : y0 = true := hpre 0 2 rfl (by rw [← ho']; kernel_rfl)
      obtain ⟨r, e0, h1, h2⟩ := hM.c0 rfl
      obtain rfl : x0 = ptr r := e0
      have HK := Lib.hid (show Fq w2 c [true, true, y2, y3] [ptr r, .agg (fc0 c (.slice none 0 0) nul r).toArray, x2, x3] Y from ⟨hM.below, hM.c0, fun _ => ⟨r, rfl, h1, h2⟩, hM.c2, hM.c3⟩)
      have BR := fbuilt c r
      clear hM h1 h2
      obtain rfl := ho'
      generalize (fc0 c (.slice none 0 0) nul r).toArray = RR at *
      simp only [Lt.putAll, List.zip_cons_cons, List.zip_nil_right, List.foldl_cons, List.foldl_nil, Act.put, List.setIfInBounds_toArray, List.set_cons_succ, List.set_cons_zero]
      refine wp_buildTo 93 _ rfl RR (by simp only [List.map_toArray, List.map_cons, List.map_nil]; exact BR) ?_
      exact ⟨_, rfl, fun d hd hn => (by cases hd; exact absurd (by decide) hn), HK.out⟩
    · obtain rfl : 4 = st := by simpa using hs
      obtain ⟨x0, x1, x2, x3, rfl⟩ := list4 hv
      obtain ⟨y0, y1, y2, y3, rfl⟩ := list4 hbl
      have ho' := Option.some.inj ho
      obtain rfl : y1 = true := hpre 1 3 rfl (by rw [← ho']; kernel_rfl)
      obtain ⟨r, e0, h1, h2⟩ := hM.c1 rfl
      obtain rfl : x1 = .agg (fc0 c (.slice none 0 0) nul r).toArray := e0
      have hB := hM.on ((Below.refl Y.heap.size Y).alloc (Nat.le_refl _) (.cells (fc0 c (.slice none 0 0) nul r).toArray 93))
      have HK := Lib.hid (show Fq w2 c [y0, true, true, y3] [x0, .agg (fc0 c (.slice none 0 0) nul r).toArray, ptr Y.heap.size, x3] (Y.alloc (.cells (fc0 c (.slice none 0 0) nul r).toArray 93)) from
        ⟨hB.below, hB.c0, hB.c1, fun _ => ⟨r, Y.heap.size, rfl, h1, IRow.lt h2, ring_on h2 ((Below.refl Y.heap.size Y).alloc (Nat.le_refl _) _), VRow.new _ _ _⟩, hB.c3⟩)
      clear hM h1 h2 hB
      obtain rfl := ho'
      generalize (fc0 c (.slice none 0 0) nul r).toArray = RR at *
      simp only [Lt.putAll, List.zip_cons_cons, List.zip_nil_right, List.foldl_cons, List.foldl_nil, Act.put, List.setIfInBounds_toArray, List.set_cons_succ, List.set_cons_zero]
      unfold Oper.wp
      go_simp
      exact HK.out
    · obtain rfl : 5 = st := by simpa using hs
      obtain ⟨x0, x1, x2, x3, rfl⟩ := list4 hv
      obtain ⟨y0, y1, y2, y3, rfl⟩ := list4 hbl
      have ho' := Option.some.inj ho
      obtain rfl : y2 = true := hpre 2 4 rfl (by rw [← ho']; kernel_rfl)
      have HK := Lib.hid (show Fq w2 c [y0, y1, true, true] [x0, x1, x2, x2] Y from ⟨hM.below, hM.c0, hM.c1, hM.c2, hM.c2⟩)
      clear hM
      obtain rfl := ho'
      simp only [Lt.putAll, List.zip_cons_cons, List.zip_nil_right, List.foldl_cons, List.foldl_nil, Act.put, List.setIfInBounds_toArray, List.set_cons_succ, List.set_cons_zero]
      unfold Oper.wp
      go_simp
      exact HK.out
    · simp at hs
  case hend =>
    intro vs Y hv hM
    obtain ⟨x0, x1, x2, x3, rfl⟩ := list4 hv
    clear hv
    obtain ⟨r, f, e3, h1, h2, h3, h4⟩ := hM.c3 rfl
    obtain rfl : x3 = ptr f := e3
    have T0 := Lib.hid (show Tm w Y c f r (fun _ => 0) 0 (.slice none 0 0) from ⟨grow c2.out hM.below, B2.out.on hM.below, h4, h3, fun i hi => by omega, World.ownsRow_nil _ _ _ _, ⟨by have := hz2.out; omega, h2⟩, fun i hi => by omega, fun i j _ hj => by omega⟩)
    clear h1 h2 h3 h4 hM B2 c2
    simp only [Lt.putAll, List.zip_cons_cons, List.zip_nil_right, List.foldl_cons, List.foldl_nil, Act.put, List.setIfInBounds_toArray, List.set_cons_succ, List.set_cons_zero]
    have k0 := T0.out.cfg.at HC.out 0 (by omega)
    rw [← hNE] at k0
    unfold ptr
    go_wp2_with fail
    clear k0
    go_loopg [19] (NN c) (fun gg s19 wr => ∃ (k : Nat) (h : Nat → Nat) (v : Value), k + gg = NN c ∧ s19 = .int .i64 k ∧ Hid (Tm w wr c f r h k v))
    case atStart => exact ⟨0, _, _, by omega, rfl, T0⟩
    case round =>
      obtain ⟨k, h, v, hkg, rfl, H⟩ := hrel
      clear T0
      by_cases hk : k < NN c
      · have hki : (k : Int) < NN c := by omega
        have hk4 : (k : Int) < 4 := by have := HN.out; omega
        have CF := Fh.new_yes k wr (by have := HN.out; omega)
        have hb1 := (Below.refl wr.heap.size wr).alloc (Nat.le_refl _) (.cells (Fh.trk k 0 false [0, 0, 0, 0, 0, 0, 0]).toArray 170)
        have H1 := Lib.hid (H.out.on hb1)
        have V1 := Lib.hid (VRow.new wr (Fh.trk k 0 false [0, 0, 0, 0, 0, 0, 0]) 170)
        have U1 := Lib.hid (show f < wr.heap.size ∧ ∀ i, i < k → h i < wr.heap.size from ⟨H.out.fus.lt, fun i hi => (H.out.trk i hi).lt⟩)
        clear hb1
        generalize wr.alloc (.cells (Fh.trk k 0 false [0, 0, 0, 0, 0, 0, 0]).toArray 170) = w5 at *
        generalize hx : wr.heap.size = x at *
        go_upto_region 8 with (go_at_call 33; refine CF.mono ?_; rintro e w6 ⟨rfl, rfl⟩)
        have cv := H1.out.fus.cell 1 (v := v) rfl
        have hb2 := Lib.hid ((Below.refl w6.heap.size w6).alloc (Nat.le_refl _) (.cells #[ptr x] 94))
        have H2 := Lib.hid (H1.out.on hb2.out)
        have V2 := Lib.hid (onB V1.out hb2.out)
        have HRW := Lib.hid H1.out.row
        have HX := Lib.hid (fun (v' : Value) (Z : World) (g : (w6.alloc (.cells #[ptr x] 94)).grownBy Z v.ownBlock) (o : Z.ownsRow w.heap.size 94 1 v' (k + 1) (prow h k ++ [ptr x])) =>
          (show Tm w (Z.setCell ⟨f, 1, none⟩ v') c f r (upd h k x) (k + 1) v' from H2.out.next V2.out (by have := U1.out.1; omega) (fun i hi => U1.out.2 i hi) g (by rw [prow_next]; exact o)))
        have HFR := Lib.hid (fun (Z : World) (g : (w6.alloc (.cells #[ptr x] 94)).grownBy Z v.ownBlock) => (show VRow Z f 93 (fc0 c v nul r) from Sg.vrow_row H2.out.fus (by decide) H2.out.row g))
        have hbs := Lib.hid (show w.heap.size ≤ w6.heap.size from H1.out.below.size)
        clear hb2 H1 V1 H2 V2
        unfold ptr at HX HFR
        go_wp2_with ((with_reducible show wpList _ _ _ (⟨some 34, _, _, _, _, _⟩ :: _) _ _); refine wpList_append1P rfl _ _ rfl w.heap.size v k _ x rfl rfl HRW.out (by have := HN.out; omega) hbs.out ?_; intro v' Z o1 g1; obtain ⟨g', cap', rfl⟩ := ownsRow_succ o1; have HT := Lib.hid (HX.out _ Z g1 o1); have cz := (HFR.out Z g1).cell 1 (v := v) rfl; have fz := (HFR.out Z g1).frozen 1; clear o1 g1)
        go_roundg (gk - 1)
        case rel => exact ⟨k + 1, _, _, by omega, by go_num, HT⟩
        case measure => omega
      · obtain rfl : k = NN c := by omega
        obtain ⟨P, N0, hpf, rfl⟩ := LieN.start (by have := HN.out; omega) (by have := HN.out; omega) H.out
        have HP := Lib.hid hpf
        have HN0 := Lib.hid N0
        clear N0
        go_wp2_with fail
        go_loopg [38] 8 (fun g2 s38 wx => ∃ (n : Nat) (Q : Pl), n + g2 = 8 ∧ s38 = .int .i64 n ∧ Hid (LieN F w wx Q c n) ∧ Hid (Q.f = f))
        case atStart => exact ⟨0, P, by omega, rfl, HN0, HP⟩
        case round =>
          obtain ⟨n, Q, hng, rfl, H, HQ⟩ := hrel
          by_cases hn : n < 8
          · have hni : (n : Int) < 8 := by omega
            have hqf := HQ.out
            go_upto_region 13 with fail
            have HB1 := Lib.hid (show ∀ Y, Box Y w.heap.size c → ∀ W, (∃ p : Regrown, W = Sort.grow (redrawn Y p.d) p.os) → Box W w.heap.size c by rintro Y hY W ⟨p, rfl⟩; exact hY.on (below_regrown Y p.d p.os))
            refine Ws.wp_sets (aF := ?_) [45, 41, 46] [3, 4, 5, 6, 10] 53 [true, true, true, false, false, false, false, true, true, true, false] [(45, undef), (41, undef), (46, undef), (47, .int .i64 0)]
              (Nq F w wr Q c n)
              (fun Y => Box Y w.heap.size c)
              (by kernel_rfl) (by kernel_rfl) (by kernel_rfl) (by kernel_rfl) ?ha ?hMC ?hMg ?h0 ?hq ?hw ?hend
            case ha => rfl
            case hMC => exact fun bs vs Y h => h.cfg
            case hMg => exact fun bs vs Y Z h hC => h.on hC.to
            case h0 => exact fun vs _ => ⟨H.out.cfg, fun _ => Below.refl _ _, fun e => (by cases e), fun e => (by cases e), fun e => (by cases e), fun e => (by cases e), fun e => (by cases e), fun e => (by cases e)⟩
            case hq =>
              intro Y hY
              have HY := Lib.hid (HB1.out Y hY)
              clear hY
              simp only [Lt.sel, Lt.putAll, List.map_cons, List.map_nil, List.zip_cons_cons, List.zip_nil_right, List.foldl_cons, List.foldl_nil, Act.put, List.setIfInBounds_toArray, List.set_cons_succ, List.set_cons_zero]
              repeat (first
                | (with_reducible show wpQuiet _ _ _ _ (⟨some 44, _, _, _, _, _⟩ :: _) _
                   refine Sg.wpQuiet_cfg rfl _ rfl w.heap.size c rfl HY.out HC.out ?_
                   simp only [Act.put, List.setIfInBounds_toArray, List.set_cons_succ, List.set_cons_zero])
                | go_big_quiet_step (fail))
              exact rfl
            case hw =>
              rintro bs (_ | _ | _ | _ | _ | q) st o hbl hs ho hk hpre vs Y hv hM
              · obtain rfl : 3 = st := by simpa using hs
                obtain rfl := Option.some.inj ho
                obtain ⟨x0, x1, x2, rfl⟩ := list3 hv
                obtain ⟨y0, y1, y2, y3, y4, rfl⟩ := list5 hbl
                obtain rfl : y0 = false := hk
                have h4 : y4 = false := by
                  cases y4
                  · rfl
                  · exact absurd (hM.ord rfl).1 (by simp)
                subst h4
                refine Wr.wp_fn (f := 34) (args := #[.agg (CA c)]) (by kernel_rfl) (CN Y) ?_
                rintro e Z ⟨⟨g, S, rfl, a1, a2⟩, b1⟩
                have hl := hM.low rfl
                have hls := hl.size
                exact ⟨_, rfl, _, rfl, fun d hd hn => (by cases hd; exact absurd (by decide) hn), ⟨hM.cfg.on b1, fun _ => grow hl b1, fun e => (by cases e), (hM.on b1).t1, fun _ _ => ⟨g, S, rfl, a1, fun j hj => Nat.le_trans hls (a2 j hj)⟩, (hM.on b1).c1, (hM.on b1).c2, fun e => (by cases e)⟩⟩
              · obtain rfl : 4 = st := by simpa using hs
                obtain ⟨x0, x1, x2, rfl⟩ := list3 hv
                obtain ⟨y0, y1, y2, y3, y4, rfl⟩ := list5 hbl
                have ho' := Option.some.inj ho
                obtain rfl : y0 = true := hpre 0 3 rfl (by rw [← ho']; kernel_rfl)
                obtain rfl : y1 = false := hk
                have h4 : y4 = false := by
                  cases y4
                  · rfl
                  · exact absurd (hM.ord rfl).2.1 (by simp)
                subst h4
                have HK := Lib.hid (show Nq F w wr Q c n [true, true, y2, y3, false] [x0, x0, x2] Y from ⟨hM.cfg, hM.low, fun e => (by cases e), fun _ => by obtain ⟨g, S, q, -⟩ := hM.c0 rfl rfl; exact ⟨g, q⟩, hM.c0, fun _ => hM.c0 rfl, hM.c2, fun e => (by cases e)⟩)
                clear hM
                obtain rfl := ho'
                simp only [Lt.putAll, List.zip_cons_cons, List.zip_nil_right, List.foldl_cons, List.foldl_nil, Act.put, List.setIfInBounds_toArray, List.set_cons_succ, List.set_cons_zero]
                unfold Oper.wp
                go_simp
                exact HK.out
              · obtain rfl : 5 = st := by simpa using hs
                obtain ⟨x0, x1, x2, rfl⟩ := list3 hv
                obtain ⟨y0, y1, y2, y3, y4, rfl⟩ := list5 hbl
                have ho' := Option.some.inj ho
                obtain rfl : y1 = true := hpre 1 4 rfl (by rw [← ho']; kernel_rfl)
                obtain rfl : y2 = false := hk
                have h4 : y4 = false := by
                  cases y4
                  · rfl
                  · exact absurd (hM.ord rfl).2.2 (by simp)
                subst h4
                obtain ⟨g, S, q1, q2, q3⟩ := hM.c1 rfl rfl
                obtain rfl : x1 = .tuple #[ptr g, .int .i64 0] := q1
                have HK := Lib.hid (show Nq F w wr Q c n [y0, true, true, y3, false] [x0, .tuple #[ptr g, .int .i64 0], ptr g] Y from ⟨hM.cfg, hM.low, fun e => (by cases e), hM.t1, hM.c0, hM.c1, fun _ _ => ⟨g, S, rfl, q2, q3⟩, fun e => (by cases e)⟩)
                clear hM q2 q3
                obtain rfl := ho'
                simp only [Lt.putAll, List.zip_cons_cons, List.zip_nil_right, List.foldl_cons, List.foldl_nil, Act.put, List.setIfInBounds_toArray, List.set_cons_succ, List.set_cons_zero]
                unfold Oper.wp
                go_simp
                exact HK.out
              · obtain rfl : 6 = st := by simpa using hs
                obtain ⟨x0, x1, x2, rfl⟩ := list3 hv
                obtain ⟨y0, y1, y2, y3, y4, rfl⟩ := list5 hbl
                have ho' := Option.some.inj ho
                obtain rfl : y1 = true := hpre 1 4 rfl (by rw [← ho']; kernel_rfl)
                obtain rfl : y3 = false := hk
                obtain ⟨g, q1⟩ := hM.t1 rfl
                obtain rfl : x1 = .tuple #[ptr g, .int .i64 0] := q1
                have HK := Lib.hid (show Nq F w wr Q c n [y0, true, y2, true, y4] [x0, .tuple #[ptr g, .int .i64 0], x2] Y from ⟨hM.cfg, hM.low, hM.ord, hM.t1, hM.c0, hM.c1, hM.c2, hM.c4⟩)
                clear hM
                obtain rfl := ho'
                simp only [Lt.putAll, List.zip_cons_cons, List.zip_nil_right, List.foldl_cons, List.foldl_nil, Act.put, List.setIfInBounds_toArray, List.set_cons_succ, List.set_cons_zero]
                unfold Oper.wp
                go_simp
                exact ⟨rfl, HK.out⟩
              · obtain rfl : 10 = st := by simpa using hs
                obtain ⟨x0, x1, x2, rfl⟩ := list3 hv
                obtain ⟨y0, y1, y2, y3, y4, rfl⟩ := list5 hbl
                have ho' := Option.some.inj ho
                obtain rfl : y2 = true := hpre 2 5 rfl (by rw [← ho']; kernel_rfl)
                obtain rfl : y1 = true := hpre 1 4 rfl (by rw [← ho']; kernel_rfl)
                obtain rfl : y0 = true := hpre 0 3 rfl (by rw [← ho']; kernel_rfl)
                obtain rfl : y4 = false := hk
                obtain ⟨g, S, q1, q2, q3⟩ := hM.c2 rfl rfl
                obtain rfl : x2 = ptr g := q1
                have K := H.out.on (hM.low rfl)
                have cz := K.fus.cell (2 + n) (v := pgs Q.g n n) (by rcases eight hn with rfl | rfl | rfl | rfl | rfl | rfl | rfl | rfl <;> rfl)
                have fz := K.fus.frozen (2 + n)
                obtain ⟨P', n1, n2⟩ := H.out.next hn q2 q3 (hM.low rfl)
                have HK := Lib.hid (show Nq F w wr Q c n [true, true, true, y3, true] [x0, x1, ptr g] (Y.setCell ⟨Q.f, 2 + n, none⟩ (ptr g)) from ⟨n1.cfg, fun e => (by cases e), fun _ => ⟨rfl, rfl, rfl⟩, hM.t1, fun _ e => (by cases e), fun _ e => (by cases e), fun _ e => (by cases e), fun _ => ⟨P', n1, n2⟩⟩)
                clear hM K n1 n2 q2 q3
                obtain rfl := ho'
                unfold ptr at HK ⊢
                rw [hqf] at cz fz HK
                simp only [Lt.putAll, List.zip_cons_cons, List.zip_nil_right, List.foldl_cons, List.foldl_nil, Act.put, List.setIfInBounds_toArray, List.set_cons_succ, List.set_cons_zero]
                unfold Oper.wp
                go_simp
                exact HK.out
              · simp at hs
            case hend =>
              intro vs Y hv hM
              obtain ⟨x0, x1, x2, rfl⟩ := list3 hv
              obtain ⟨P', n1, n2⟩ := hM.c4 rfl
              have HN1 := Lib.hid n1
              have HF1 := Lib.hid (n2.trans HQ.out)
              clear n1 n2 hM hv
              simp only [Lt.putAll, List.zip_cons_cons, List.zip_nil_right, List.foldl_cons, List.foldl_nil, Act.put, List.setIfInBounds_toArray, List.set_cons_succ, List.set_cons_zero]
              go_wp2_with fail
              go_roundg (gk - 1)
              case rel => exact ⟨n + 1, P', by omega, by go_num, HN1, HF1⟩
              case measure => omega
          · obtain rfl : n = 8 := by omega
            have HL := Lib.hid (H.out.full HG.out)
            have HNW := Lib.hid (show ∀ b, Q.col b ≠ 0 → w.heap.size ≤ b from fun b hb => by have := H.out.new b hb; omega)
            have HB := Lib.hid H.out.below
            have hqf := HQ.out
            subst hqf
            clear H
            go_wp2_with fail
            go_ret2
            exact ⟨Q, rfl, HL.out, HB.out, HNW.out⟩
end Fu
end Go.Proofs.YtpoededbmdffpaaGreatDoor
