/-
  What read of package output tells: a contract by walking the Go text (a range over the iterator words). Conditions: how the bytes lie.
  What told, fits and same of package rudderlaw23 tell: contracts by walking the Go text. Conditions: how outputs, and complaints lie.
-/
import Derived.Test.YtchnnpaebggfdaaJJudgeSeq4
import Derived.Test.YtchnnpaebggfdaaWordPutAll
import Derived.Test.YtchnnpaebggfdaaJStatusWord2
import Derived.Laws.CopyOwn
import Derived.BigQuiet
import Derived.Deep.LoopGhost
namespace Go.Proofs.Ytchnnpaebggfdaa
set_option maxRecDepth 100000
open Go.ChangeShapes Go.WideShapes Go.ChangeAt Go.RowKit Go.Deep Go.Shelf
namespace Ot
open Ss (St str zer stv rgt prs isw)
open Rf
open Wd (get2v get2b getAll)
open Cr (Bytes)
attribute [local go_sem] Oper.semAt_some
theorem wpList_buildTo {P : Program} {ops : Array Oper} {rest : List Oper} {o : Oper} {a : Act} {w : World} {Q : Exit → Act → World → Prop} (hg : o.guard = none) (t : TypeId) (parts : Array (Nat × Operand)) (ho : o.op = .build t parts)
    (cells : Array Value) (hf : P.built t (parts.map fun (i, x) => (i, a.eval x)).toList = some cells) (h : wpList P ops Q rest (a.put o.dst (.agg cells)) w) : wpList P ops Q (o :: rest) a w :=
  wpList_build hg t parts ho (by rw [hf]; rfl) (by rw [hf]; exact h)
theorem but_setCells {S : Nat → Prop} {a : World} {g : Nat} : ∀ {w : World} (_ : But S a w) (_ : S g ∨ a.heap.size ≤ g) (off : Nat) (vs : List Value), But S a (w.setCells g off vs)
  | _, h, _, _, [] => h
  | _, h, hg, off, v :: r => by rw [World.setCells]; exact but_setCells (h.setCell (p := ⟨g, off, none⟩) hg v) hg (off + 1) r
def half (x : List Int) (n : Nat) : Ou := ⟨oq x, ov x, sts x n ++ List.replicate (8 - n) zer⟩
end Ot
end Go.Proofs.Ytchnnpaebggfdaa

namespace Go.Proofs.Ytchnnpaebggfdaa
set_option maxRecDepth 100000
open Go.ChangeShapes Go.WideShapes Go.ChangeAt Go.RowKit Go.Deep
namespace Jd
open Cf (G CA)
open Ot (Ou ouc)
open Ss (St str zer)
set_option maxHeartbeats 1600000 in
theorem same_self (a1 a2 : Option Addr) (c1 c2 : Nat) (f : Nat → ByteArray) (ps : List Nat) (w : World) (h1 : CmAt w a1 f ps) (h2 : CmAt w a2 f ps) (hl : ps.length ≤ 100000) :
    Calls Try.prog 15 #[.slice a1 ps.length c1, .slice a2 ps.length c2] w fun e w' => e = .returned (.bool true) ∧ Below w.heap.size w w' := by
  have H1 := Lib.hid h1
  have H2 := Lib.hid h2
  have hl63 : (ps.length : Int) ≤ 100000 := by omega
  clear h1 h2 hl
  obtain ⟨m, hm⟩ : ∃ m, m = ps.length := ⟨_, rfl⟩
  rw [← hm] at hl63 ⊢
  have HL := Lib.hid hm
  clear hm
  go_enter Try.func15, Try.ntmps15
  go_wp2_with fail
  go_loopg [5] m (fun gg s5 wr => ∃ i : Nat, i + gg = m ∧ s5 = .int .i64 i ∧ Hid (Below w.heap.size w wr))
  case atStart => exact ⟨0, by omega, rfl, Lib.hid (Below.refl _ _)⟩
  case round =>
    rename World => W
    obtain ⟨i, hi, rfl, B⟩ := hrel
    have HI := Lib.hid hi
    clear hi
    by_cases hlt : i < m
    · have hli : (i : Int) < m := by omega
      have hn : ps ≠ [] := by intro e; have := HL.out; rw [e] at this; simp at this; omega
      obtain ⟨b1, o1, rfl, g1⟩ := H1.out.resolve_left hn
      obtain ⟨b2, o2, rfl, g2⟩ := H2.out.resolve_left hn
      have hp : i < ps.length := by have := HL.out; omega
      have r1 := g1 i _ (List.getElem?_eq_getElem hp)
      have r2 := g2 i _ (List.getElem?_eq_getElem hp)
      generalize ps[i] = p at *
      have k1 := range_below r1 B.out
      have k2 := range_below r2 B.out
      have u0 := k1 0 _ rfl
      have u1 := k1 1 _ rfl
      have u2 := k1 2 _ rfl
      have v0 := k2 0 _ rfl
      have v1 := k2 1 _ rfl
      have v2 := k2 2 _ rfl
      rw [Nat.add_zero] at u0 v0
      generalize ((p / 8 : Nat) : Int) = x at *
      generalize ((p % 8 : Nat) : Int) = y at *
      generalize f p = z at *
      have hi63 : (i : Int) ≤ 100000 := by omega
      clear r1 r2 k1 k2 g1 g2 hn hp hlt
      go_wp2_with fail
      go_quiet (fail)
      have bd := below_drewN B.out nq
      have B3 := Lib.hid bd
      clear bd
      generalize W.drewN nq = W3 at *
      go_wp2_with fail
      go_roundg (gk - 1)
      case rel => exact ⟨i + 1, by have := HI.out; omega, by go_num, B3⟩
      case measure => have := HI.out; omega
    · obtain rfl : m = i := by have := HI.out; omega
      go_wp2_with fail
      go_ret
      exact ⟨rfl, B.out⟩
/-- Are outputs such as are gone through? -/
def lf1 (o : Ou) (n : Nat) : Bool := decide (-1099511627776 ≤ o.v.getD n 0) && decide (o.v.getD n 0 ≤ 1099511627776)
def lfit (ls : List Ou) : Bool := decide (ls.length ≤ 60) && (List.range ls.length).all fun i => (List.range 8).all (lf1 (ou ls i))
set_option maxHeartbeats 1600000 in
theorem lfits_any (al : Option Addr) (lcap : Nat) (ls : List Ou) (w : World) (ho : OutsAt w al ls) :
    Calls Try.prog 6 #[.slice al ls.length lcap] w fun e w' => e = .returned (.bool (lfit ls)) ∧ Below w.heap.size w w' := by
  have HO := Lib.hid ho
  have HF := Lib.hid (show lfit ls = (decide (ls.length ≤ 60) && (List.range ls.length).all fun i => (List.range 8).all (lf1 (ou ls i))) from rfl)
  clear ho
  obtain ⟨m, hm⟩ : ∃ m, m = ls.length := ⟨_, rfl⟩
  rw [← hm] at HF ⊢
  have HL := Lib.hid hm
  clear hm
  generalize lfit ls = ans at *
  go_enter Try.func6, Try.ntmps6
  by_cases h60 : 60 < m
  · have d1 : decide (60 < (m : Int)) = true := by simp; omega
    have HA := Lib.hid (show ans = false by rw [HF.out]; simp; omega)
    clear h60
    go_wp2_with fail
    go_ret
    exact ⟨Sc.ret_bool HA.out.symm, Below.refl _ _⟩
  · have d1 : decide (60 < (m : Int)) = false := by simp; omega
    have HN := Lib.hid (show ∀ i, i < m → ∀ n, n < 8 → lf1 (ou ls i) n = false → ans = false from fun i hi n hn h => by
      rw [HF.out, Sc.all_range_no hi (Sc.all_range_no hn h)]; simp)
    have HY := Lib.hid (show (∀ i, i < m → ∀ n, n < 8 → lf1 (ou ls i) n = true) → ans = true from fun h => by
      rw [HF.out, Sc.all_range.2 (fun i hi => Sc.all_range.2 (h i hi))]; simp; omega)
    have hmx : (m : Int) ≤ 60 := by omega
    clear h60 HF
    go_wp2_with fail
    clear d1
    go_loopg [3, 4] m (fun gg s3 _ wr => ∃ i : Nat, i + gg = m ∧ s3 = .int .i64 i ∧ Hid (∀ j, j < i → ∀ n, n < 8 → lf1 (ou ls j) n = true) ∧ Hid (Below w.heap.size w wr))
    case atStart => exact ⟨0, by omega, rfl, Lib.hid (fun j hj => by omega), Lib.hid (Below.refl _ _)⟩
    case round =>
      rename World => W
      obtain ⟨i, hi, rfl, HA, B⟩ := hrel
      have HI := Lib.hid hi
      clear hi
      by_cases hlt : i < m
      · have hli : (i : Int) < m := by omega
        obtain ⟨ob, off, rfl, KO, HR⟩ := HO.out.at_ (i := i) (by have := HL.out; omega)
        have HK := Lib.hid KO
        have HRR := Lib.hid HR
        have HNi := Lib.hid (HN.out i hlt)
        have HLT := Lib.hid hlt
        clear KO HR hlt
        go_wp2_with fail
        go_loopg [4] 8 (fun gg s4 wr => ∃ n : Nat, n + gg = 8 ∧ s4 = .int .i64 n ∧ Hid (∀ j, j < n → lf1 (ou ls i) j = true) ∧ Hid (Below w.heap.size w wr))
        case atStart => exact ⟨0, rfl, rfl, Lib.hid (fun j hj => by omega), B⟩
        case round =>
          clear B
          rename World => W2
          obtain ⟨n, hn, rfl, HB, B⟩ := hrel
          have HN8 := Lib.hid hn
          clear hn
          by_cases hln : n < 8
          · have hl8 : (n : Int) < 8 := by omega
            have cn := range_below HRR.out B.out (1 + n) _ (Ot.ouc_v HK.out n hln)
            have HV := Lib.hid (show lf1 (ou ls i) n = (decide (-1099511627776 ≤ (ou ls i).v.getD n 0) && decide ((ou ls i).v.getD n 0 ≤ 1099511627776)) from rfl)
            have HNn := Lib.hid (HNi.out n hln)
            have HBn := Lib.hid (show lf1 (ou ls i) n = true → ∀ j, j < n + 1 → lf1 (ou ls i) j = true from fun h j hj => by
              rcases Nat.lt_succ_iff_lt_or_eq.1 hj with h' | rfl
              · exact HB.out j h'
              · exact h)
            rw [← Nat.add_assoc] at cn
            clear hln
            generalize (ou ls i).v.getD n 0 = x at *
            by_cases h1 : x < -1099511627776
            · have e1 : decide (x < -1099511627776) = true := by simpa using h1
              have HX := Lib.hid (HNn.out (by rw [HV.out]; simp; omega))
              clear h1
              go_wp2_with fail
              go_ret
              exact ⟨Sc.ret_bool HX.out.symm, B.out⟩
            · have e1 : decide (x < -1099511627776) = false := by simpa using h1
              by_cases h2 : 1099511627776 < x
              · have e2 : decide (1099511627776 < x) = true := by simpa using h2
                have HX := Lib.hid (HNn.out (by rw [HV.out]; simp; omega))
                clear h1 h2
                go_wp2_with fail
                go_ret
                exact ⟨Sc.ret_bool HX.out.symm, B.out⟩
              · have e2 : decide (1099511627776 < x) = false := by simpa using h2
                have HX := Lib.hid (HBn.out (by rw [HV.out]; simp; omega))
                clear h1 h2
                go_wp2_with fail
                go_roundg (gk - 1)
                case rel => exact ⟨n + 1, by have := HN8.out; omega, by go_num, HX, B⟩
                case measure => have := HN8.out; omega
          · obtain rfl : 8 = n := by have := HN8.out; omega
            go_wp2_with fail
            go_roundg (m - i - 1)
            case rel => exact ⟨i + 1, by have := HI.out; omega, by go_num, Lib.hid (fun j hj => by
              rcases Nat.lt_succ_iff_lt_or_eq.1 hj with h' | rfl
              · exact HA.out j h'
              · exact HB.out), B⟩
            case measure => have := HI.out; have := HLT.out; omega
      · obtain rfl : m = i := by have := HI.out; omega
        have HX := Lib.hid (HY.out HA.out)
        go_wp2_with fail
        go_ret
        exact ⟨Sc.ret_bool HX.out.symm, B.out⟩
/-- An output that tells one value of the first k signals, with some channels in, and some latched. -/
def tlk (n i l : Int) : Nat → Ou
  | 0 => Ot.zou
  | k + 1 => { (tlk n i l k) with v := (tlk n i l k).v.set k n, s := (tlk n i l k).s.set k ⟨i, l, -1, false⟩ }
theorem tlk_ok (n i l : Int) : ∀ k, Ot.Ok (tlk n i l k)
  | 0 => Ot.ok_zou
  | k + 1 => ((tlk_ok n i l k).sv k n).ss k _
def tld (n i l : Int) : Ou := ⟨0, List.replicate 8 n, List.replicate 8 ⟨i, l, -1, false⟩⟩
theorem tlk_all (n i l : Int) : tlk n i l 8 = tld n i l := rfl
theorem aggOu (w : World) : (isAgg 57).run Try.prog w = .ok true w := by simp [isAgg, run_underlying Try.underlying57]
set_option maxRecDepth 100000 in
set_option maxHeartbeats 3200000 in
theorem told_any (n i l : Int) (w : World) :
    Calls Try.prog 18 #[.int .i64 n, .int .i64 i, .int .i64 l] w fun e w' => e = .returned (.agg (ouc (tld n i l)).toArray) ∧ Below w.heap.size w w' := by
  have HAG := Lib.hid aggOu
  have R1' := (VRow.new w (ouc Ot.zou) 57).alloc (.cells (ouc Ot.zou).toArray 57)
  have R2' := VRow.new (w.alloc (.cells (ouc Ot.zou).toArray 57)) (ouc Ot.zou) 57
  rw [World.size_alloc] at R2'
  have B2' := (Sc.below_new w (ouc Ot.zou).toArray 57).alloc (by simp) (.cells (ouc Ot.zou).toArray 57)
  have R1 := Lib.hid R1'
  have R2 := Lib.hid R2'
  have B2 := Lib.hid B2'
  clear R1' R2' B2'
  go_enter Try.func18, Try.ntmps18
  go_wp2_with fail
  change Code.wp _ _ _ _ ((w.alloc (.cells (ouc Ot.zou).toArray 57)).alloc (.cells (ouc Ot.zou).toArray 57))
  generalize (w.alloc (.cells (ouc Ot.zou).toArray 57)).alloc (.cells (ouc Ot.zou).toArray 57) = w0 at *
  generalize hg : w.heap.size = g at *
  go_loopg [8] 8 (fun gg s8 wr => ∃ k : Nat, k + gg = 8 ∧ s8 = .int .i64 k ∧ Hid (VRow wr g 57 (ouc Ot.zou)) ∧ Hid (VRow wr (g + 1) 57 (ouc (tlk n i l k))) ∧ Hid (Below g w wr))
  case atStart => exact ⟨0, rfl, rfl, R1, R2, B2⟩
  case round =>
    clear R1 R2 B2
    rename World => W
    obtain ⟨k, hk, rfl, R1, R2, B2⟩ := hrel
    have HK := Lib.hid hk
    clear hk
    by_cases hlt : k < 8
    · have hl8 : (k : Int) < 8 := by omega
      have ck := R2.out.cell (1 + k) (Ot.ouc_v (tlk_ok n i l k) k hlt)
      have fk := R2.out.frozen (1 + k)
      have V3' := R2.out.set (1 + k) (.int .i64 n)
      rw [Ot.set_v (tlk_ok n i l k) k hlt] at V3'
      have OK3 := (tlk_ok n i l k).sv k n
      have TH := Lib.hid (Ot.there_st V3' OK3 k hlt)
      have V4' := Ot.VRow.setCells (str ⟨i, l, -1, false⟩) (9 + k * 4) _ _ V3' (by rw [Ot.ouc_len OK3, Ot.str_len]; omega)
      rw [Ot.set_s OK3 k hlt] at V4'
      have V4 := Lib.hid V4'
      have Z3 := R1.out.setOther (p := ⟨g + 1, 1 + k, none⟩) (show g ≠ g + 1 by omega) (.int .i64 n)
      have N3 : But (· = g + 1) W (W.setCell ⟨g + 1, 1 + k, none⟩ (.int .i64 n)) := (But.refl (· = g + 1) W).setCell (p := ⟨g + 1, 1 + k, none⟩) (Or.inl rfl) _
      have N4 := Lib.hid (Ot.but_setCells N3 (Or.inl rfl) (9 + k * 4) (str ⟨i, l, -1, false⟩))
      clear V3' OK3 V4' Z3 N3 R2
      generalize (tlk n i l k).v.getD k 0 = v0 at *
      go_wp2_with ((with_reducible show wpList _ _ _ (⟨none, .store _ (.tmp 22) _, _, _, _, _⟩ :: _) _ _); refine wpList_store_mid rfl _ _ _ rfl (g + 1) (9 + k * 4) (str ⟨i, l, -1, false⟩).toArray rfl rfl TH.out Ss.sizeS (Ss.str_one _) ?_)
      go_roundg (gk - 1)
      case rel => exact ⟨k + 1, by have := HK.out; omega, by go_num, Lib.hid (R1.out.but N4.out (fun (e : g = g + 1) => by omega)), V4, Lib.hid (But.below B2.out N4.out (by rw [← hg]; exact B2.out.size) (fun j (e : j = g + 1) => by omega))⟩
      case measure => have := HK.out; omega
    · obtain rfl : 8 = k := by have := HK.out; omega
      have KO := tlk_ok n i l 8
      have HZ := Lib.hid (Ot.sizeO KO)
      have HL := Lib.hid (show (ouc Ot.zou).length = (ouc (tlk n i l 8)).length by rw [Ot.ouc_len KO, Ot.ouc_len Ot.ok_zou])
      have HA := Lib.hid (Ot.ouc_all (tlk n i l 8))
      clear KO
      go_wp2_with (first
        | ((with_reducible show wpList _ _ _ (⟨some 23, _, _, _, _, _⟩ :: _) _ _); refine VB.loaded rfl _ rfl (g + 1) rfl R2.out Try.underlying57 rfl HZ.out ?_)
        | ((with_reducible show wpList _ _ _ (⟨none, .store _ (.tmp 6) _, _, _, _, _⟩ :: _) _ _); refine VB.store rfl _ _ rfl g (ouc (tlk n i l 8)) rfl rfl R1.out HZ.out HL.out HA.out ?_))
      exact bodyPost_ret (VB.ret1 rfl rfl (HAG.out _) HZ.out (VRow.put R1.out _)) rfl ⟨by rw [← tlk_all], by rw [hg]; exact Below.put B2.out (Nat.le_refl _) _⟩
end Jd
end Go.Proofs.Ytchnnpaebggfdaa
