/-
  What the document's Cycle does: its contract by walking the Go text. Conditions: how the scene lies; that it is right; that there is such a point.
-/
import Derived.Test.YtpamegkbhdbheaaJSceneCycles2
import Derived.Test.YtpamegkbhdbheaaFrameRefB
import Derived.Test.YtpamegkbhdbheaaJTail2
namespace Go.Proofs.Ytpamegkbhdbheaa
set_option maxRecDepth 100000
open Go.ChangeShapes Go.WideShapes Go.ChangeAt Go.RowKit Go.Deep
namespace Sc
open Cf (G CA)

/-- What a slot holds (whatever its room). -/
structure GoodR (W : World) (u : Sl4) (is : Bool) (l : List Int) : Prop where
  eis : u.is = is
  el : u.l = l
  at_ : IntsAt .u8 W u.a l
def wis (s : Sn) (i n j : Nat) : Bool := if j < n then sis s i j else false
def wby (s : Sn) (i n j : Nat) : List Int := if j < n then sby s i j else []
/-- The first n slots of a cycle have come. -/
structure Fc (w W : World) (og rg : Nat) (s : Sn) (i : Nat) (T : Nat → Sl4) (n : Nat) : Prop where
  below : Below w.heap.size w W
  row : VRow W og 46 (cyl 4 T)
  res : VRow W rg 46 (cyl 4 (fun _ => zSl))
  ge : w.heap.size ≤ og
  ge' : w.heap.size ≤ rg
  ne : rg ≠ og
  good : ∀ j, j < 4 → GoodR W (T j) (wis s i n j) (wby s i n j)
section
variable {w W W' : World} {og rg fg : Nat} {s : Sn} {i n : Nat} {T : Nat → Sl4} {l : List Int}
theorem Fc.on (h : Fc w W og rg s i T n) (b : Below W.heap.size W W') : Fc w W' og rg s i T n :=
  ⟨grow h.below b, h.row.below b h.row.lt, h.res.below b h.res.lt, h.ge, h.ge', h.ne, fun j hj => ⟨(h.good j hj).eis, (h.good j hj).el, (h.good j hj).at_.below b⟩⟩
theorem Fc.put (h : Fc w W og rg s i T n) (hn : n < 4) {u : Sl4} (hu : GoodR W u (sis s i n) (sby s i n)) : Fc w (W.setCells og (n * 2) (s2 u)) og rg s i (upd T n u) (n + 1) := by
  have e : W.setCells og (n * 2) (s2 u) = (W.setCell ⟨og, 2 * n, none⟩ (.bool u.is)).setCell ⟨og, 2 * n + 1, none⟩ (.slice u.a u.l.length u.cap) := by
    rw [Nat.mul_comm n 2]; rfl
  rw [e]
  have stay : ∀ {a : Option Addr} {l : List Int}, IntsAt .u8 W a l → IntsAt .u8 ((W.setCell ⟨og, 2 * n, none⟩ (.bool u.is)).setCell ⟨og, 2 * n + 1, none⟩ (.slice u.a u.l.length u.cap)) a l := fun q => u8_set q h.row (cyl_not _ _)
  refine ⟨(h.below.setCell (p := ⟨og, 2 * n, none⟩) h.ge _).setCell (p := ⟨og, 2 * n + 1, none⟩) h.ge _, ?_, (h.res.setOther (p := ⟨og, 2 * n, none⟩) h.ne _).setOther (p := ⟨og, 2 * n + 1, none⟩) h.ne _, h.ge, h.ge', h.ne, fun j hj => ?_⟩
  · rw [← cyl_set T 4 n u hn]
    exact (h.row.set (2 * n) _).set (2 * n + 1) _
  · unfold upd
    by_cases ej : j = n
    · subst ej
      have e1 : wis s i (j + 1) j = sis s i j := by unfold wis; rw [if_pos (by omega)]
      have e2 : wby s i (j + 1) j = sby s i j := by unfold wby; rw [if_pos (by omega)]
      rw [if_pos rfl, e1, e2]
      exact ⟨hu.eis, hu.el, stay hu.at_⟩
    · rw [if_neg ej]
      have e1 : wis s i (n + 1) j = wis s i n j := by unfold wis; by_cases q : j < n <;> simp [q] <;> omega
      have e2 : wby s i (n + 1) j = wby s i n j := by unfold wby; by_cases q : j < n <;> simp [q] <;> omega
      rw [e1, e2]
      have g := h.good j hj
      exact ⟨g.eis, g.el, stay g.at_⟩
theorem Fc.there (h : Fc w W og rg s i T n) (hn : n < 4) : W.there og (n * 2) 2 := fun j hj => ⟨by
  have hl' : n * 2 + j < (cyl 4 T).length := by rw [cyl_len]; omega
  rw [h.row.cell _ (List.getElem?_eq_getElem hl')]; rfl, h.row.frozen _⟩
/-- A frame is being filled. -/
structure Fd (w W : World) (og rg fg : Nat) (s : Sn) (i : Nat) (T : Nat → Sl4) (n : Nat) (l : List Int) : Prop where
  fc : Fc w W og rg s i T n
  fr : IRow .i64 W fg 52 l
  ge : w.heap.size ≤ fg
  n1 : og ≠ fg
  n2 : rg ≠ fg
theorem Fd.on (h : Fd w W og rg fg s i T n l) (b : Below W.heap.size W W') : Fd w W' og rg fg s i T n l := ⟨h.fc.on b, h.fr.below b h.fr.lt, h.ge, h.n1, h.n2⟩
theorem Fd.drew (h : Fd w W og rg fg s i T n l) : Fd w W.drew og rg fg s i T n l := h.on (below_drewN (Below.refl _ W) 1)
theorem Fd.set (h : Fd w W og rg fg s i T n l) (j : Nat) (x : Int) : Fd w (W.setCell ⟨fg, j, none⟩ (.int .i64 x)) og rg fg s i T n (l.set j x) := by
  have hnot : ∀ u, u ∈ cellsI .i64 l → ∀ x, u ≠ .int .u8 x := by
    intro u hu x e
    unfold cellsI at hu
    rw [List.mem_map] at hu
    obtain ⟨y, -, rfl⟩ := hu
    cases e
  have stay : ∀ {a : Option Addr} {r : List Int}, IntsAt .u8 W a r → IntsAt .u8 (W.setCell ⟨fg, j, none⟩ (.int .i64 x)) a r := fun {a r} q => by
    by_cases hl : 0 < r.length
    · exact q.but ((But.refl (· = fg) W).setCell (p := ⟨fg, j, none⟩) (Or.inl rfl) _) (u8_apart q hl h.fr.vrow hnot)
    · exact Or.inl (List.length_eq_zero_iff.1 (by omega))
  exact ⟨⟨h.fc.below.setCell (p := ⟨fg, j, none⟩) h.ge _, h.fc.row.setOther (p := ⟨fg, j, none⟩) h.n1 _, h.fc.res.setOther (p := ⟨fg, j, none⟩) h.n2 _, h.fc.ge, h.fc.ge', h.fc.ne, fun k hk => ⟨(h.fc.good k hk).eis, (h.fc.good k hk).el, stay (h.fc.good k hk).at_⟩⟩, h.fr.set j x, h.ge, h.n1, h.n2⟩
end
/-- What Cycle hands back. -/
def RetQ (w : World) (s : Sn) (i : Nat) (e : Ending) (w' : World) : Prop :=
  ∃ T, e = .returned (.agg (cyl 4 T).toArray) ∧ (∀ j, j < 4 → GoodR w' (T j) (sisC s i j) (sbyC s i j)) ∧ Below w.heap.size w w'
theorem sizeY (T : Nat → Sl4) : (Try.prog.info? 46).map (·.size) = some (cyl 4 T).length := by rw [cyl_len]; kernel_rfl
theorem aggY (W : World) : (isAgg 46).run Try.prog W = .ok true W := by simp [isAgg, run_underlying Try.underlying46]
theorem cyl_all (T : Nat → Sl4) (m : Nat) : (cyl m T).toArray.all (·.oneCell') = true := all_oneCell_toArray (fun v hv => by
  obtain ⟨j, hj⟩ := cyl_mem T m v hv
  simp [s2] at hj
  rcases hj with rfl | rfl <;> rfl)
section
variable (g : Nat) (s : Sn) (a : Option Addr) (cap : Nat) (w : World) (R : RAt w g s a cap)
include R
set_option maxRecDepth 100000 in
set_option maxHeartbeats 6400000 in
theorem rcycle_any (H : Ok s) (i : Nat) (hi : i < s.ps.length) :
    Calls Try.prog 14 #[.pointer (some ⟨g, 0, none⟩), .int .i64 i] w (RetQ w s i) := by
  have C := cv_of H.cov
  obtain ⟨b, off, rfl, -⟩ := R.ps.at_ hi
  have RR := Lib.hid (show ∀ W, Below w.heap.size w W → RAt W g s (some ⟨b, off, none⟩) cap from fun W hb => R.on hb)
  have HI := Lib.hid hi
  have hli : (i : Int) < s.ps.length := by omega
  have hN := C.nn
  have CE := C.eq
  have hfew := H.few
  have HP := Lib.hid (show ∀ W, Below w.heap.size w W → PtOk W b (off + i * 42) (pt s i) from fun W hb => (R.on hb).ps.here hi)
  have HS := Lib.hid (show ∀ k, k < NN s → (¬ (k : Int) = s.odd → (0 ≤ qv s k ∧ qv s k ≤ 65535) ∧ Fm.right (sq s i k) (vs s i k) = true ∧ Fm.chan k = true ∧ sis s i k = true ∧ sby s i k = Fm.enc k (sq s i k) (vs s i k)) from fun k hk ho => ⟨H.num k hk, (H.right hi hk ho).1, (H.right hi hk ho).2, by unfold sis; rw [if_neg ho], by unfold sby; rw [if_neg ho]⟩)
  have HO := Lib.hid (show ∀ k : Nat, (k : Int) = s.odd → sis s i k = (pt s i).is ∧ sby s i k = (pt s i).l from fun k ho => ⟨by unfold sis; rw [if_pos ho], by unfold sby; rw [if_pos ho]⟩)
  have HW := Lib.hid (show ∀ k n, k < NN s → ¬ (k : Int) = s.odd → n < 8 → -9223372036854775808 ≤ val s i k n ∧ val s i k n ≤ 9223372036854775807 from fun k n hk ho hn => by have := H.within hi hk hn ho; have := C.lo; have := C.hi; omega)
  have B1 := (below_new w (cyl 4 (fun _ => zSl)).toArray 46).alloc (by simp) (.cells (cyl 4 (fun _ => zSl)).toArray 46)
  have O1 := VRow.new (w.alloc (.cells (cyl 4 (fun _ => zSl)).toArray 46)) (cyl 4 (fun _ => zSl)) 46
  rw [World.size_alloc] at O1
  have F0 := Lib.hid (show Fc w ((w.alloc (.cells (cyl 4 (fun _ => zSl)).toArray 46)).alloc (.cells (cyl 4 (fun _ => zSl)).toArray 46)) (w.heap.size + 1) w.heap.size s i (fun _ => zSl) 0 from
    ⟨B1, O1, (VRow.new w (cyl 4 (fun _ => zSl)) 46).alloc _, by omega, Nat.le_refl _, by omega, fun j hj => ⟨rfl, rfl, Or.inl rfl⟩⟩)
  have HEND := Lib.hid (show ∀ W T, Fc w W (w.heap.size + 1) w.heap.size s i T (NN s) → ∀ j, j < 4 → GoodR W (T j) (sisC s i j) (sbyC s i j) from fun W T F j hj => by
    have g := F.good j hj
    have e1 : wis s i (NN s) j = sisC s i j := rfl
    have e2 : wby s i (NN s) j = sbyC s i j := rfl
    rw [e1, e2] at g
    exact g)
  clear H C R hi B1 O1
  generalize hnn : NN s = N at *
  go_enter Try.func14, Try.ntmps14
  go_upto_region 2 with fail
  rw [show (cyl 4 (fun _ => zSl)).toArray = #[.bool false, .slice none 0 0, .bool false, .slice none 0 0, .bool false, .slice none 0 0, .bool false, .slice none 0 0] from rfl] at F0
  generalize (w.alloc (.cells #[.bool false, .slice none 0 0, .bool false, .slice none 0 0, .bool false, .slice none 0 0, .bool false, .slice none 0 0] 46)).alloc (.cells #[.bool false, .slice none 0 0, .bool false, .slice none 0 0, .bool false, .slice none 0 0, .bool false, .slice none 0 0] 46) = w0 at *
  generalize hog : w.heap.size + 1 = og at *
  generalize hrg : w.heap.size = rg at *
  have HRG := Lib.hid hrg
  rw [← hrg] at RR HP
  clear hog hrg
  go_wp2_with fail
  go_loopg [6] N (fun gg s6 wr => ∃ (k : Nat) (T : Nat → Sl4), k + gg = N ∧ s6 = .int .i64 k ∧ Hid (Fc w wr og rg s i T k))
  case atStart => exact ⟨0, _, by omega, rfl, F0⟩
  case round =>
    clear F0
    rename World => W
    obtain ⟨k, T, hk, rfl, F⟩ := hrel
    have HK := Lib.hid hk
    clear hk
    have RA := Lib.hid (RR.out _ F.out.below)
    have c0 := RA.out.c 0 (by omega)
    rw [CE] at c0
    by_cases hlt : k < N
    · have hlk : (k : Int) < N := by omega
      have hk4 : (k : Int) < 4 := by omega
      have HK4 := Lib.hid (show k < 4 by omega)
      have q1 := RA.out.odd
      have q5 := RA.out.p
      by_cases hod : (k : Int) = s.odd
      · have d1 : ((k : Int) == s.odd) = true := by simp [hod]
        have P := HP.out _ F.out.below
        have hs := HO.out k hod
        have HRS := Lib.hid (show W.rangeAt b (off + i * 42 + 40) [.bool (pt s i).is, .slice (pt s i).a (pt s i).l.length (pt s i).cap] from fun j v hv => by
          match j, hv with
          | 0, hv => cases hv; exact P.cell 40 _ (ptv_is P.t8 P.o32)
          | 1, hv => cases hv; exact P.cell 41 _ (ptv_l P.t8 P.o32)
          | j + 2, hv => simp at hv)
        have F2 := Lib.hid (F.out.put HK4.out (u := ⟨(pt s i).is, (pt s i).a, (pt s i).l, (pt s i).cap⟩) ⟨hs.1.symm, hs.2.symm, by rw [hs.2]; exact P.bytes⟩)
        have TH := Lib.hid (F.out.there HK4.out)
        clear P hs hod hlt
        generalize s.odd = od at *
        go_wp2_with (first
          | ((with_reducible show wpList _ _ _ (⟨some 34, _, _, _, _, _⟩ :: _) _ _); refine wpList_load_mid rfl _ _ rfl b (off + i * 42 + 40) rfl [.bool (pt s i).is, .slice (pt s i).a (pt s i).l.length (pt s i).cap] _ HRS.out Try.underlying44 rfl sizeL ?_)
          | ((with_reducible show wpList _ _ _ (⟨none, .store _ (.tmp 35) _, _, _, _, _⟩ :: _) _ _); refine wpList_store_mid rfl _ _ _ rfl og (k * 2) #[.bool (pt s i).is, .slice (pt s i).a (pt s i).l.length (pt s i).cap] rfl rfl TH.out sizeL (by simp [Value.oneCell']) ?_))
        go_roundg (gk - 1)
        case rel => exact ⟨k + 1, _, by have := HK.out; omega, by go_num, F2⟩
        case measure => have := HK.out; omega
      · have d1 : ((k : Int) == s.odd) = false := by simp [hod]
        obtain ⟨hq, hr, hc, hs1, hs2⟩ := HS.out k hlt hod
        have CE2 := Lib.hid (fun W => (show Calls Try.prog 31 #[.int .i64 k, .agg (cellsI .i64 (sq s i k :: vs s i k)).toArray] W (Fm.RetIE W (Fm.enc k (sq s i k) (vs s i k)) (Fm.encE k (sq s i k) (vs s i k))) from
          Fm.renc_yes_any k (sq s i k) (val s i k 0) (val s i k 1) (val s i k 2) (val s i k 3) (val s i k 4) (val s i k 5) (val s i k 6) (val s i k 7) W hr hc))
        unfold Fm.RetIE at CE2
        rw [Fm.encE_yes hr hc, Fm.enc_len hr hc vs_len] at CE2
        have HEL := Lib.hid (Fm.enc_len hr hc (vs_len (s := s) (i := i) (k := k)))
        have hqm : (qv s k + (i : Int)).tmod 65536 = sq s i k := by unfold sq; rw [Int.tmod_eq_emod_of_nonneg (by omega)]
        have HVS := Lib.hid (fun n (hn : n < 8) => vs_at (s := s) (i := i) (k := k) hn)
        have HSET := Lib.hid (fun n (hn : n < 8) => fl_set (q := sq s i k) (vs_len (s := s) (i := i) (k := k)) hn)
        have HLV := Lib.hid (vs_len (s := s) (i := i) (k := k))
        have HSS := Lib.hid (show sis s i k = true ∧ sby s i k = Fm.enc k (sq s i k) (vs s i k) from ⟨hs1, hs2⟩)
        have HWK := Lib.hid (fun n hn => HW.out k n hlt hod hn)
        have cq := RA.out.q k (by omega)
        clear hr hc hs1 hs2 hod hlt
        generalize vs s i k = vl at *
        generalize hsn : sq s i k = sn at *
        clear hsn
        generalize qv s k = qq at *
        generalize s.odd = od at *
        go_upto_region 8 with fail
        have BA := below_new W #[.int .i64 sn, .int .i64 0, .int .i64 0, .int .i64 0, .int .i64 0, .int .i64 0, .int .i64 0, .int .i64 0, .int .i64 0] 52
        have S0 := Lib.hid (show Fd w (W.alloc (.cells #[.int .i64 sn, .int .i64 0, .int .i64 0, .int .i64 0, .int .i64 0, .int .i64 0, .int .i64 0, .int .i64 0, .int .i64 0] 52)) og rg W.heap.size s i T k (sn :: (vl.take 0 ++ List.replicate (8 - 0) 0)) from
          ⟨F.out.on BA, heap_alloc_new W (.cells #[.int .i64 sn, .int .i64 0, .int .i64 0, .int .i64 0, .int .i64 0, .int .i64 0, .int .i64 0, .int .i64 0, .int .i64 0] 52), F.out.below.size, by have := F.out.row.lt; omega, by have := F.out.res.lt; omega⟩)
        clear BA F q1 q5 cq c0 RA hqm hq d1
        generalize W.alloc (.cells #[.int .i64 sn, .int .i64 0, .int .i64 0, .int .i64 0, .int .i64 0, .int .i64 0, .int .i64 0, .int .i64 0, .int .i64 0] 52) = W2 at *
        generalize W.heap.size = fg at *
        go_wp2_with fail
        go_loopg [8] 8 (fun gg s8 wr => ∃ n : Nat, n + gg = 8 ∧ s8 = .int .i64 n ∧ Hid (Fd w wr og rg fg s i T k (sn :: (vl.take n ++ List.replicate (8 - n) 0))))
        case atStart => exact ⟨0, rfl, rfl, S0⟩
        case round =>
          clear S0
          rename World => W3
          obtain ⟨n, hn, rfl, S⟩ := hrel
          have HN := Lib.hid hn
          clear hn
          by_cases hln : n < 8
          · have hl8 : (n : Int) < 8 := by omega
            have q5 := (RR.out _ S.out.fc.below).p
            have P := HP.out _ S.out.fc.below
            have ct := P.t n hln
            have co := P.o (k * 8 + n) (by have := HK4.out; omega)
            rw [← Nat.add_assoc, ← Nat.add_assoc] at co
            have hv : (pt s i).t.getD n 0 + (pt s i).o.getD (k * 8 + n) 0 = val s i k n := rfl
            have hb := HWK.out n hln
            have HST := Lib.hid (HSET.out n hln)
            rw [HVS.out n hln] at HST
            have cf := S.out.fr.cell (1 + n) (by simp; have := HLV.out; omega)
            have ff := S.out.fr.frozen (1 + n)
            have S4 := Lib.hid ((S.out.set (1 + n) (val s i k n)).drew)
            rw [HST.out] at S4
            clear P HST hln
            generalize val s i k n = x at *
            generalize (pt s i).t.getD n 0 = x1 at *
            generalize (pt s i).o.getD (k * 8 + n) 0 = x2 at *
            have p1 : IntKind.i64.wrap x = x := IntWalk.i64_in _ (by omega)
            go_upto_region 11 with fail
            refine Tail.wp_region_quiet_tail 26 (by kernel_rfl) (by kernel_rfl) ?_
            simp only [List.take_succ_cons, List.take_zero, List.drop_succ_cons, List.drop_zero]
            repeat (go_big_quiet_step (fail))
            refine wpQuiet_nil ?_
            go_wp2_with fail
            go_roundg (gk - 1)
            case rel => exact ⟨n + 1, by have := HN.out; omega, by go_num, S4⟩
            case measure => have := HN.out; omega
          · obtain rfl : n = 8 := by have := HN.out; omega
            have HL : vl.take 8 ++ List.replicate (8 - 8) 0 = vl := by rw [List.take_of_length_le (by rw [HLV.out]; decide)]; simp
            rw [HL] at S
            have SF := Lib.hid (show (Try.prog.info? 52).map (·.size) = some (cellsI .i64 (sn :: vl)).length by rw [cellsI, List.length_map, List.length_cons, HLV.out]; kernel_rfl)
            clear HL
            go_wp2_with ((with_reducible show wpList _ _ _ (⟨some 78, _, _, _, _, _⟩ :: _) _ _); refine VB.loaded rfl _ rfl fg rfl S.out.fr.vrow Try.underlying52 rfl SF.out ?_)
            refine (CE2.out _).mono ?_; rintro e w4 ⟨a4, k4, rfl, i4, b4⟩
            have F5 := Lib.hid (S.out.on b4).fc
            have F6 := Lib.hid (F5.out.put HK4.out (u := ⟨true, a4, Fm.enc k sn vl, k4⟩) ⟨HSS.out.1.symm, HSS.out.2.symm, by rw [HSS.out.2]; exact i4⟩)
            have TH := Lib.hid (F5.out.there HK4.out)
            unfold s2 at F6
            rw [HEL.out] at F6
            clear i4 b4 S CE2 F5
            go_wp2_with ((with_reducible show wpList _ _ _ (⟨none, .store _ (.tmp 85) _, _, _, _, _⟩ :: _) _ _); refine wpList_store_mid rfl _ _ _ rfl og (k * 2) #[.bool true, .slice a4 38 k4] rfl rfl TH.out sizeL (by simp [Value.oneCell']) ?_)
            go_roundg (N - k - 1)
            case rel => exact ⟨k + 1, _, by have := HK.out; omega, by go_num, F6⟩
            case measure => have := HK.out; omega
    · obtain rfl : k = N := by have := HK.out; omega
      have HG := Lib.hid (HEND.out _ _ F.out)
      have NE := Lib.hid (show rg ≠ og from F.out.ne)
      clear RA
      go_wp2_with (first
        | ((with_reducible show wpList _ _ _ (⟨some 86, _, _, _, _, _⟩ :: _) _ _); refine VB.loaded rfl _ rfl og rfl F.out.row Try.underlying46 rfl (sizeY T) ?_)
        | ((with_reducible show wpList _ _ _ (⟨none, .store _ (.tmp 4) _, _, _, _, _⟩ :: _) _ _); refine VB.store rfl _ _ rfl rg (cyl 4 T) rfl rfl F.out.res (sizeY T) rfl (cyl_all T 4) ?_))
      refine bodyPost_ret ((VB.ret1 (cs := cyl 4 T) rfl rfl (aggY _) (sizeY T) (F.out.res.put _)).trans rfl) rfl ⟨T, rfl, fun j hj => ?_, ?_⟩
      · have g := HG.out j hj
        exact ⟨g.eis, g.el, u8_put g.at_ F.out.res (cyl_not _ _)⟩
      · exact Below.put F.out.below (by have := F.out.ge'; omega) _
end
end Sc
end Go.Proofs.Ytpamegkbhdbheaa
