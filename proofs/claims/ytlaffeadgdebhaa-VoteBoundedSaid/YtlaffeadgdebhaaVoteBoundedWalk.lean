/-
  The walk of the law VoteBounded: for every rule, and every case, it returns true, and writes nothing that was there. No conditions.
-/
import Derived.Test.YtlaffeadgdebhaaVoteAlive
import Derived.Test.YtlaffeadgdebhaaTwoRows
import Derived.Deep.DeepCutAuto
import Derived.Deep.CutBlock
import Derived.Deep.RegionLaw
import Derived.Deep.LoopGhost
namespace Go.Proofs.Ytlaffeadgdebhaa
open Go.ChangeShapes Go.WideShapes Go.ChangeAt Go.RowKit Go.Deep
namespace voteBounded
open Fx Od Vo

theorem intInfo : (Try.prog.info? 3).map (fun i => (i.zero, i.size, i.bytes)) = some (some (.int .i64 0), 1, 8) := by kernel_rfl

theorem some_at {w : World} {a : Option Addr} {l : List Int} (h : IntsAt .i64 w a l) (h1 : 1 ≤ l.length) : ∃ b off, a = some ⟨b, off, none⟩ := by
  rcases h with h0 | ⟨b, off, h2, _⟩
  · rw [h0] at h1; simp at h1
  · exact ⟨b, off, h2⟩
/-- The case as it lies in a box. -/
def cas (low odd by_ : Int) (A W : List Int) (nn : Int) : List Value := [.int .i32 low, .int .i32 odd, .int .u16 by_] ++ A.map (.int .u16) ++ W.map (.int .u8) ++ [.int .u8 nn]
theorem cas_at {w : World} {g : Nat} {t : TypeId} {low odd by_ nn : Int} {A W : List Int} (hA : A.length = 3) (hW : W.length = 4) (h : VRow w g t (cas low odd by_ A W nn)) :
    w.cell? ⟨g, 0, none⟩ = some (.int .i32 low) ∧ w.cell? ⟨g, 1, none⟩ = some (.int .i32 odd) ∧ w.cell? ⟨g, 2, none⟩ = some (.int .u16 by_) ∧ w.cell? ⟨g, 10, none⟩ = some (.int .u8 nn) ∧
    (∀ k, k < 3 → w.cell? ⟨g, 3 + k, none⟩ = some (.int .u16 (A.getD k 0))) ∧ (∀ k, k < 4 → w.cell? ⟨g, 6 + k, none⟩ = some (.int .u8 (W.getD k 0))) := by
  match A, hA, W, hW with
  | [a0, a1, a2], _, [w0, w1, w2, w3], _ =>
    refine ⟨h.cell 0 rfl, h.cell 1 rfl, h.cell 2 rfl, h.cell 10 rfl, fun k hk => ?_, fun k hk => ?_⟩
    · match k, hk with
      | 0, _ => exact h.cell 3 rfl
      | 1, _ => exact h.cell 4 rfl
      | 2, _ => exact h.cell 5 rfl
    · match k, hk with
      | 0, _ => exact h.cell 6 rfl
      | 1, _ => exact h.cell 7 rfl
      | 2, _ => exact h.cell 8 rfl
      | 3, _ => exact h.cell 9 rfl

/-- The values between two numbers, and the weights, that the law makes. -/
def hv (low by_ : Int) (A : List Int) (k : Nat) : Int := low + A.getD k 0 % (by_ + 1)
def wv (W : List Int) (k : Nat) : Int := W.getD k 0 % 16 + 1
def hs (low by_ : Int) (A : List Int) (k : Nat) : List Int := (List.range k).map (hv low by_ A)
def ws (W : List Int) (k : Nat) : List Int := (List.range k).map (wv W)
theorem hs_snoc (low by_ : Int) (A : List Int) (k : Nat) : hs low by_ A (k + 1) = hs low by_ A k ++ [hv low by_ A k] := by unfold hs; rw [List.range_succ, List.map_append]; rfl
theorem ws_snoc (W : List Int) (k : Nat) : ws W (k + 1) = ws W k ++ [wv W k] := by unfold ws; rw [List.range_succ, List.map_append]; rfl
theorem hs_len (low by_ : Int) (A : List Int) (k : Nat) : (hs low by_ A k).length = k := by unfold hs; simp
theorem ws_len (W : List Int) (k : Nat) : (ws W k).length = k := by unfold ws; simp
theorem hs_bd {low by_ : Int} {A : List Int} (hb : 0 ≤ by_) {n : Nat} : ∀ j, j < n → low ≤ (hs low by_ A n).getD j 0 ∧ (hs low by_ A n).getD j 0 ≤ low + by_ := by
  intro j hj
  have e : (hs low by_ A n).getD j 0 = hv low by_ A j := by unfold hs; simp [List.getD_eq_getElem?_getD, hj]
  rw [e]
  have h1 := Int.emod_nonneg (A.getD j 0) (show by_ + 1 ≠ 0 by omega)
  have h2 := Int.emod_lt_of_pos (A.getD j 0) (show 0 < by_ + 1 by omega)
  unfold hv
  omega
theorem ws_bd {U : List Int} {n : Nat} : ∀ u ∈ ws U n, 1 ≤ u ∧ u ≤ 16 := by
  intro u hu
  unfold ws at hu
  obtain ⟨j, _, rfl⟩ := List.mem_map.1 hu
  unfold wv
  omega
theorem mid_perm (l : List Int) (x : Int) (k : Nat) : ([] ++ l.take k ++ [x] ++ l.drop k).Perm (l ++ [x]) := by
  rw [List.nil_append, List.append_assoc]
  have h := List.perm_append_comm (l₁ := [x]) (l₂ := l.drop k)
  refine (List.Perm.append_left (l.take k) h).trans ?_
  rw [← List.append_assoc, List.take_append_drop]
/-- There is a vote of such lists just if the rule may be. -/
theorem case_votb {lo hi clip low odd by_ r : Int} {A U : List Int} {n K : Nat} (h2 : 2 ≤ n) (h3 : n ≤ 3) (hb : 0 ≤ by_ ∧ by_ ≤ 65535) (hl : -2147483648 ≤ low ∧ low ≤ 2147483647) (ho : -2147483648 ≤ odd ∧ odd ≤ 2147483647) (hr : 0 ≤ r ∧ r ≤ 15) :
    votb lo hi clip ([] ++ (hs low by_ A n).take K ++ [odd] ++ (hs low by_ A n).drop K) ([] ++ (ws U n).take K ++ [r + 1] ++ (ws U n).drop K) = rmay lo hi clip := by
  have p1 := mid_perm (hs low by_ A n) odd K
  have p2 := mid_perm (ws U n) (r + 1) K
  have l1 := p1.length_eq.trans (show (hs low by_ A n ++ [odd]).length = n + 1 by rw [List.length_append, hs_len]; rfl)
  have l2 := p2.length_eq.trans (show (ws U n ++ [r + 1]).length = n + 1 by rw [List.length_append, ws_len]; rfl)
  have m1 : ∀ x ∈ [] ++ (hs low by_ A n).take K ++ [odd] ++ (hs low by_ A n).drop K, -4294967296 ≤ x ∧ x ≤ 4294967296 := by
    intro x hx
    rcases List.mem_append.1 (p1.mem_iff.1 hx) with q | q
    · obtain ⟨j, hj, rfl⟩ := List.getElem_of_mem q
      rw [hs_len] at hj
      have := hs_bd (low := low) (A := A) hb.1 j hj
      rw [getD_at _ _ (by rw [hs_len]; exact hj)] at this
      omega
    · rw [List.mem_singleton.1 q]; omega
  have m2 : ∀ u ∈ [] ++ (ws U n).take K ++ [r + 1] ++ (ws U n).drop K, 1 ≤ u ∧ u ≤ 16 := by
    intro u hu
    rcases List.mem_append.1 (p2.mem_iff.1 hu) with q | q
    · exact ws_bd u q
    · rw [List.mem_singleton.1 q]; omega
  generalize [] ++ (hs low by_ A n).take K ++ [odd] ++ (hs low by_ A n).drop K = V at *
  generalize [] ++ (ws U n).take K ++ [r + 1] ++ (ws U n).drop K = W at *
  have ok : okk V W V.length = true := okk_of fun i hi => (okp_iff _ _).2 ⟨by
    have := m1 (V.getD i 0) (by rw [getD_at _ _ hi]; exact List.getElem_mem _)
    exact this, by
    have := m2 (W.getD i 0) (by rw [getD_at _ _ (by omega)]; exact List.getElem_mem _)
    exact this⟩
  rw [votb_doc, ok, show decide (1 ≤ V.length) = true by simp; omega, show decide (V.length ≤ 4) = true by simp; omega, show decide (W.length = V.length) = true by simp; omega]
  simp
/-- Does one of both numbers lie in the range? -/
def tou (lo hi clip low up : Int) : Bool := rmay lo hi clip && ((decide (lo ≤ low) && decide (low ≤ hi)) || (decide (lo ≤ up) && decide (up ≤ hi)))
theorem case_bounded {lo hi clip low odd by_ r : Int} {A U : List Int} {n K : Nat} (h2 : 2 ≤ n) (h3 : n ≤ 3) (hb : 0 ≤ by_ ∧ by_ ≤ 65535) (hl : -2147483648 ≤ low ∧ low ≤ 2147483647) (ho : -2147483648 ≤ odd ∧ odd ≤ 2147483647) (hr : 0 ≤ r ∧ r ≤ 15) {x : Int}
    (hx : votv lo hi clip ([] ++ (hs low by_ A n).take K ++ [odd] ++ (hs low by_ A n).drop K) ([] ++ (ws U n).take K ++ [r + 1] ++ (ws U n).drop K) = x) (ht : tou lo hi clip low (low + by_) = true) :
    (0 ≤ clip ∧ clip ≤ 2147483647) ∧ (low - clip ≤ x ∧ x ≤ low + by_ + clip) ∧ lo ≤ x ∧ x ≤ hi := by
  unfold tou at ht
  rw [Bool.and_eq_true] at ht
  have hv := (case_votb (lo := lo) (hi := hi) (clip := clip) (A := A) (U := U) (K := K) h2 h3 hb hl ho hr).trans ht.1
  have q := vote_in hv
  have b := vote_bounded (H := hs low by_ A n) (x := odd) hv (mid_perm _ _ _) (by rw [hs_len]; exact h2) (by rw [hs_len]; exact h3) (a := low) (b := low + by_) (fun j hj => hs_bd hb.1 j (by rwa [hs_len] at hj)) (by omega) (by
    have := ht.2; simp at this; omega)
  have := (rmay_iff _ _ _).1 ht.1
  rw [hx] at q b
  exact ⟨this.2.2, b, q⟩
/-- What lies about while the lists grow: both boxes, both rows. -/
structure Bg (w W : World) (lo hi clip low odd by_ : Int) (A U : List Int) (nn : Int) (v u : Value) (i j : Nat) : Prop where
  rule : VRow W w.heap.size 23 (rul lo hi clip)
  case : VRow W (w.heap.size + 1) 42 (cas low odd by_ A U nn)
  below : Below w.heap.size w W
  big : w.heap.size + 2 ≤ W.heap.size
  rowV : OwnI .i64 (w.heap.size + 2) 3 W v (hs low by_ A i)
  rowU : OwnI .i64 (w.heap.size + 2) 3 W u (ws U j)
  apart : Apart v u

section
variable {w W W' : World} {lo hi clip low odd by_ nn : Int} {A U : List Int} {v v' u u' : Value} {i j : Nat}
theorem Bg.addV (B : Bg w W lo hi clip low odd by_ A U nn v u i j) (o : Obj) (hO : OwnI .i64 (w.heap.size + 2) 3 W' v' (hs low by_ A (i + 1))) (hb : Below (w.heap.size + 2) W W') (hg : ((W.alloc o).drew).grownBy W' v.ownBlock) (hm : Moved ((W.alloc o).drew) v v') :
    Bg w W' lo hi clip low odd by_ A U nn v' u (i + 1) j :=
  ⟨B.rule.below hb (by omega), B.case.below hb (by omega), B.below.trans (hb.mono (by omega)), Nat.le_trans B.big hb.size, hO, B.apart.kept (B.rowU.alloc o).drew hg, B.apart.moved (B.rowU.alloc o).drew hm⟩
theorem Bg.addU (B : Bg w W lo hi clip low odd by_ A U nn v u i j) (o : Obj) (hO : OwnI .i64 (w.heap.size + 2) 3 W' u' (ws U (j + 1))) (hb : Below (w.heap.size + 2) W W') (hg : (W.alloc o).grownBy W' u.ownBlock) (hm : Moved (W.alloc o) u u') :
    Bg w W' lo hi clip low odd by_ A U nn v u' i (j + 1) :=
  ⟨B.rule.below hb (by omega), B.case.below hb (by omega), B.below.trans (hb.mono (by omega)), Nat.le_trans B.big hb.size, B.apart.symm.kept (B.rowV.alloc o) hg, hO, (B.apart.symm.moved (B.rowV.alloc o) hm).symm⟩
/-- Room for one more. -/
theorem Bg.room (l : List Int) (x : Int) (h : l.length ≤ 3) : l.length + [x].length ≤ maxLen ∧ (l.length + [x].length) * 8 ≤ 140737488355328 := by simp only [List.length_cons, List.length_nil, maxLen]; omega
end

/-- The rest of a list that fits its room, cut off where its room may end. -/
theorem drop_at {w : World} {b off c k : Nat} {l : List Int} (h : IntsAt .i64 w (some ⟨b, off, none⟩) l) (hc : l.length ≤ c) : IntsAt .i64 w (if c = k then some ⟨b, off, none⟩ else some ⟨b, off + k, none⟩) (l.drop k) := by
  split
  · exact Or.inl (List.drop_eq_nil_of_le (by omega))
  · rcases h with h0 | ⟨_, _, h1, hc⟩
    · rw [h0]; exact Or.inl (by simp)
    · cases h1; exact intsAt_drop k hc
/-- What is asked of the three appends. -/
theorem room3 (l : List Int) (x : Int) (k : Nat) (h : l.length ≤ 3) : ([] : List Int).length + (l.take k).length ≤ maxLen ∧ (([] : List Int).length + (l.take k).length) * 8 ≤ 140737488355328 ∧
    ([] ++ l.take k).length + [x].length ≤ maxLen ∧ (([] ++ l.take k).length + [x].length) * 8 ≤ 140737488355328 ∧
    ([] ++ l.take k ++ [x]).length + (l.drop k).length ≤ maxLen ∧ (([] ++ l.take k ++ [x]).length + (l.drop k).length) * 8 ≤ 140737488355328 ∧
    ([] ++ l.take k ++ [x]).length + ([] : List Int).length ≤ maxLen ∧ (([] ++ l.take k ++ [x]).length + ([] : List Int).length) * 8 ≤ 140737488355328 := by
  simp only [List.nil_append, List.length_nil, List.length_append, List.length_cons, List.length_drop, List.length_take, maxLen]
  omega

set_option maxRecDepth 100000 in
set_option maxHeartbeats 3200000 in
theorem main (lo hi clip low odd by_ nn : Int) (A U : List Int) (w : World) (hA : A.length = 3) (hU : U.length = 4) (hlow : -2147483648 ≤ low ∧ low ≤ 2147483647) (hodd : -2147483648 ≤ odd ∧ odd ≤ 2147483647) (hby : 0 ≤ by_ ∧ by_ ≤ 65535)
    (hAb : ∀ k, k < 3 → 0 ≤ A.getD k 0 ∧ A.getD k 0 ≤ 65535) (hUb : ∀ k, k < 4 → 0 ≤ U.getD k 0 ∧ U.getD k 0 ≤ 255) (hnn : 0 ≤ nn ∧ nn ≤ 255) :
    Calls Try.prog 5 #[.agg #[.int .i64 lo, .int .i64 hi, .int .i64 clip], .agg (cas low odd by_ A U nn).toArray] w
      fun e w' => e = .returned (.bool true) ∧ Below w.heap.size w w' := by
  obtain ⟨M, hM⟩ : ∃ M : Nat, (M : Int) = 2 + nn % 2 := ⟨(2 + nn % 2).toNat, by omega⟩
  have hM2 : 2 ≤ M := by omega
  have hM3 : M ≤ 3 := by omega
  have hm : nn % 2 = (M : Int) - 2 := by omega
  have HM := Lib.hid hM
  clear hM
  have n1 : -9223372036854775808 ≤ low + by_ := by omega
  have n2 : low + by_ ≤ 9223372036854775807 := by omega
  have B0 : Bg w ((w.alloc (.cells #[.int .i64 lo, .int .i64 hi, .int .i64 clip] 23)).alloc (.cells (cas low odd by_ A U nn).toArray 42)) lo hi clip low odd by_ A U nn (.slice none 0 0) (.slice none 0 0) 0 0 := by
    have hx := VRow.new (w.alloc (.cells #[.int .i64 lo, .int .i64 hi, .int .i64 clip] 23)) (cas low odd by_ A U nn) 42
    rw [World.size_alloc] at hx
    exact ⟨(rul_new w lo hi clip 23).alloc _, hx, ((Below.refl w.heap.size w).alloc (Nat.le_refl _) _).alloc (by simp) _, by simp, OwnI.nil, OwnI.nil, fun _ h => by cases h⟩
  have cs0 := cas_at hA hU B0.case
  have c0 := cs0.1
  have c2 := cs0.2.2.1
  have HB0 := Lib.hid B0
  clear cs0 B0
  generalize hc : (cas low odd by_ A U nn).toArray = C at *
  go_enter Try.func5, Try.ntmps5
  go_wp2_with fail
  go_loopg [7, 8, 9] M (fun gg s7 s8 s9 wr => ∃ k : Nat, k + gg = M ∧ s9 = .int .i64 k ∧ Hid (Bg w wr lo hi clip low odd by_ A U nn s7 s8 k k))
  case atStart => exact ⟨0, by omega, rfl, HB0⟩
  case round =>
    obtain ⟨k, hk, rfl, HB⟩ := hrel
    by_cases hlt : k < M
    · obtain ⟨q, hq⟩ : ∃ q, A.getD k 0 % (by_ + 1) = q := ⟨_, rfl⟩
      obtain ⟨r, hr⟩ : ∃ r, U.getD k 0 % 16 = r := ⟨_, rfl⟩
      have ab := hAb k (by omega)
      have ub := hUb k (by omega)
      have HS := Lib.hid (show hs low by_ A k ++ [low + q] = hs low by_ A (k + 1) by rw [hs_snoc]; unfold hv; rw [hq])
      have HW := Lib.hid (show ws U k ++ [r + 1] = ws U (k + 1) by rw [ws_snoc]; unfold wv; rw [hr])
      have qb : 0 ≤ q ∧ q ≤ 65535 := by
        have h1 := Int.emod_nonneg (A.getD k 0) (show by_ + 1 ≠ 0 by omega)
        have h2 := Int.emod_lt_of_pos (A.getD k 0) (show 0 < by_ + 1 by omega)
        omega
      have rb : 0 ≤ r ∧ r ≤ 15 := by omega
      have tq : Int.tmod (A.getD k 0) (by_ + 1) = q := by rw [Int.tmod_eq_emod_of_nonneg ab.1]; exact hq
      have tr : Int.tmod (U.getD k 0) 16 = r := by rw [Int.tmod_eq_emod_of_nonneg ub.1]; exact hr
      have cs := cas_at hA hU HB.out.case
      have c2 := cs.2.2.1
      have c10 := cs.2.2.2.1
      have cA := cs.2.2.2.2.1 k (by omega)
      have cU := cs.2.2.2.2.2 k (by omega)
      have R1 := Lib.hid (Bg.room (hs low by_ A k) (low + q) (by rw [hs_len]; omega))
      have R2 := Lib.hid (Bg.room (ws U k) (r + 1) (by rw [ws_len]; omega))
      have kl : (k : Int) < 2 + nn % 2 := by omega
      have k3 : (k : Int) < 3 := by omega
      have k4 : (k : Int) < 4 := by omega
      have kz : ¬ (by_ + 1 = 0) := by omega
      have big := HB.out.big
      have wx : IntKind.i64.wrap (A.getD k 0) = A.getD k 0 := IntWalk.i64_in _ (by omega)
      have wb : IntKind.i64.wrap by_ = by_ := IntWalk.i64_in _ (by omega)
      have wb1 : IntKind.i64.wrap (by_ + 1) = by_ + 1 := IntWalk.i64_in _ (by omega)
      have wq : IntKind.i64.wrap (low + q) = low + q := IntWalk.i64_in _ (by omega)
      have wr1 : IntKind.i64.wrap (r + 1) = r + 1 := IntWalk.i64_in _ (by omega)
      have wr0 : IntKind.i64.wrap r = r := IntWalk.i64_in _ (by omega)
      clear cs hq hm
      generalize A.getD k 0 = x at *
      generalize hyk : U.getD k 0 = y at *
      have HY := Lib.hid hyk
      clear hyk
      go_upto_region 8 with fail
      go_cut [7] (fun s7 wx => Hid (Bg w wx lo hi clip low odd by_ A U nn s7 u8 (k + 1) k))
      case first =>
        go_region_law (refine step_appendI_at rfl (.tmp 34) (.tmp 47) _ rfl .i64 (w.heap.size + 2) 3 8 Try.underlying24 intInfo u7 (hs low by_ A k) (some ⟨wr.heap.size, 0, none⟩) 1 1 [low + q] (by simp [Act.eval]) (by simp [Act.eval]) rfl (HB.out.rowV.alloc _).drew (laid1 _ _ _).drew R1.out.1 R1.out.2 wr ((Below.refl _ _).alloc big _).drew big ?_; intro v48 w48 O48' B48' G48' M48'; rw [HS.out] at O48'; have H1 := Lib.hid (HB.out.addV _ O48' B48' G48' M48'); clear O48' B48' G48' M48')
        all_goals
          go_wp2_with fail
          go_meet
          exact H1
      case rest =>
        have H1 := hcut
        clear hcut HB c2 c10 cA cU big
        have cs := cas_at hA hU H1.out.case
        have cU := cs.2.2.2.2.2 k (by omega)
        rw [HY.out] at cU
        clear cs
        have big1 := H1.out.big
        go_wp2_with ((with_reducible show wpList _ _ _ (⟨some 58, _, _, _, _, _⟩ :: _) _ _); refine wpList_appendI_at rfl (.tmp 49) (.tmp 57) _ rfl .i64 (w.heap.size + 2) 3 8 Try.underlying24 intInfo u8 (ws U k) (some ⟨wc.heap.size, 0, none⟩) 1 1 [r + 1] rfl rfl rfl (H1.out.rowU.alloc _) (laid1 _ _ _) R2.out.1 R2.out.2 wc ((Below.refl _ _).alloc big1 _) big1 ?_; intro v58 w58 O58' B58' G58' M58'; rw [HW.out] at O58'; have H2 := Lib.hid (H1.out.addU _ O58' B58' G58' M58'); clear O58' B58' G58' M58')
        go_roundg (gk - 1)
        case rel => exact ⟨k + 1, by omega, by go_num, H2⟩
        case measure => omega
    · obtain rfl : k = M := by omega
      obtain ⟨H, hH⟩ : ∃ H, hs low by_ A k = H := ⟨_, rfl⟩
      obtain ⟨Z, hZ⟩ : ∃ Z, ws U k = Z := ⟨_, rfl⟩
      have hl : H.length = k := by rw [← hH, hs_len]
      have zl : Z.length = k := by rw [← hZ, ws_len]
      have q7 := HB.out.rowV
      have q8 := HB.out.rowU
      rw [hH] at q7
      rw [hZ] at q8
      obtain ⟨a7, c7, rfl, i7, j7, m7⟩ := q7.form2
      obtain ⟨a8, c8, rfl, i8, j8, m8⟩ := q8.form2
      obtain ⟨b7, o7, rfl⟩ := some_at i7 (by omega)
      obtain ⟨b8, o8, rfl⟩ := some_at i8 (by omega)
      obtain ⟨n', rfl⟩ := Int.eq_ofNat_of_zero_le hnn.1
      obtain ⟨K, hK⟩ : ∃ K, n' % (k + 1) = K := ⟨_, rfl⟩
      have tk : Int.tmod (n' : Int) ((k : Int) + 1) = (K : Int) := by rw [← hK]; rfl
      have hKM : K ≤ k := by have := Nat.mod_lt n' (show 0 < k + 1 by omega); omega
      have I7 := Lib.hid i7
      have I8 := Lib.hid i8
      rw [hl] at j7 ⊢
      rw [zl] at j8 ⊢
      have G := Lib.hid HB.out.below
      have RB := Lib.hid HB.out.rule
      have CB := Lib.hid HB.out.case
      have cs := cas_at hA hU HB.out.case
      have c1 := cs.2.1
      have c10 := cs.2.2.2.1
      have kl : decide ((k : Int) < 2 + (n' : Int) % 2) = false := by simp; omega
      have kz : ¬ ((k : Int) + 1 = 0) := by omega
      unfold maxLen at m7 m8
      obtain ⟨tv, htv⟩ : ∃ tv, [] ++ H.take K ++ [odd] ++ H.drop K = tv := ⟨_, rfl⟩
      have HTV := Lib.hid htv
      have HTVo := Lib.hid htv
      have TL := Lib.hid (show tv.length = k + 1 by rw [← htv]; simp only [List.length_append, List.length_nil, List.length_cons, List.length_take, List.length_drop]; omega)
      have RM7 := Lib.hid (room3 H odd K (by omega))
      clear cs i7 i8 q7 q8 HB hK hm c0 c2 htv
      go_upto_region 12 with fail
      clear c1 c10 tk
      have wodd : IntKind.i64.wrap odd = odd := IntWalk.i64_in _ (by omega)
      have k2 : 0 ≤ (K : Int) := by omega
      have k3 : (K : Int) ≤ (k : Int) := by omega
      have k1 : (K : Int) ≤ (c7 : Int) := by omega
      have k1' : (K : Int) ≤ (c8 : Int) := by omega
      have k6 : K ≤ c7 := by omega
      have k6' : K ≤ c8 := by omega
      go_cut [12] (fun s12 wx => ∃ a c, s12 = .slice a (k + 1) c ∧ Hid (IntsAt .i64 wx a tv) ∧ Hid (Below wr.heap.size wr wx))
      case first =>
        have HT7 := Lib.hid (I7.out.take K)
        have TK7 := Lib.hid (show (H.take K).length = K by rw [List.length_take]; omega)
        have HD7 := Lib.hid (show IntsAt .i64 wr (if c7 = K then some ⟨b7, o7, none⟩ else some ⟨b7, o7 + K, none⟩) (H.drop K) from drop_at I7.out (by omega))
        have DKHD7 := Lib.hid (show (H.drop K).length = k - K by rw [List.length_drop, hl])
        have HL := Lib.hid hl
        clear hl
        go_region_law (first
          | (refine step_appendI_at rfl (.tmp 69) (.tmp 72) _ rfl .i64 wr.heap.size 3 8 Try.underlying24 intInfo (.slice (some ⟨wr.heap.size, 0, none⟩) 0 0) [] (some ⟨b7, o7, none⟩) K c7 (H.take K) (by simp [Act.eval]) (by simp [Act.eval]) TK7.out (OwnI.lit0 (Nat.le_refl _)).drew (HT7.out.below ((Below.refl _ _).alloc (Nat.le_refl _) _)).drew RM7.out.1 RM7.out.2.1 wr ((Below.refl _ _).alloc (Nat.le_refl _) _).drew (Nat.le_refl _) ?_; intro v73 w73 O73' B73' G73' M73'; have O73 := Lib.hid O73'; have B73 := Lib.hid B73'; clear O73' B73' G73' M73')
          | (refine step_appendI_at rfl (.tmp 69) (.tmp 72) _ rfl .i64 wr.heap.size 3 8 Try.underlying24 intInfo (.slice (some ⟨wr.heap.size, 0, none⟩) 0 0) [] (some ⟨b7, o7, none⟩) K c7 (H.take K) (by simp [Act.eval]) (by simp [Act.eval]) TK7.out ((OwnI.lit0 (Nat.le_refl _)).alloc _).drew (HT7.out.below (((Below.refl _ _).alloc (Nat.le_refl _) _).alloc (by simp) _)).drew RM7.out.1 RM7.out.2.1 wr (((Below.refl _ _).alloc (Nat.le_refl _) _).alloc (by simp) _).drew (Nat.le_refl _) ?_; intro v73 w73 O73' B73' G73' M73'; have L75 := Lib.hid (IntsAt.grown (laid1_behind _ _ _ _).drew G73' (by simp [Value.ownBlock])); have O73 := Lib.hid O73'; have B73 := Lib.hid B73'; clear O73' B73' G73' M73')
          | (refine step_appendI_at rfl (.tmp 69) (.tmp 72) _ rfl .i64 wr.heap.size 3 8 Try.underlying24 intInfo (.slice (some ⟨wr.heap.size + 1, 0, none⟩) 0 0) [] (some ⟨b7, o7, none⟩) K c7 (H.take K) (by simp [Act.eval]) (by simp [Act.eval]) TK7.out (lit0_behind _ _ (Nat.le_refl _)).drew (HT7.out.below (((Below.refl _ _).alloc (Nat.le_refl _) _).alloc (by simp) _)).drew RM7.out.1 RM7.out.2.1 wr (((Below.refl _ _).alloc (Nat.le_refl _) _).alloc (by simp) _).drew (Nat.le_refl _) ?_; intro v73 w73 O73' B73' G73' M73'; have L75 := Lib.hid (IntsAt.grown ((laid1 _ _ _).below ((Below.refl _ _).alloc (Nat.le_refl _) _)).drew G73' (by simp [Value.ownBlock])); have O73 := Lib.hid O73'; have B73 := Lib.hid B73'; clear O73' B73' G73' M73')
          | (refine step_appendI_at rfl (.tmp 73) (.tmp 75) _ rfl .i64 wr.heap.size 3 8 Try.underlying24 intInfo v73 ([] ++ H.take K) (some ⟨w73.heap.size, 0, none⟩) 1 1 [odd] (by simp [Act.eval]) (by simp [Act.eval]) rfl (O73.out.alloc _) (laid1 _ _ _) RM7.out.2.2.1 RM7.out.2.2.2.1 wr (B73.out.alloc B73.out.size _) (Nat.le_refl _) ?_; intro v76 w76 O76' B76' G76' M76'; have O76 := Lib.hid O76'; have B76 := Lib.hid B76'; clear O76' B76' G76' M76')
          | (refine step_appendI_at rfl (.tmp 73) (.tmp 75) _ rfl .i64 wr.heap.size 3 8 Try.underlying24 intInfo v73 ([] ++ H.take K) _ 1 1 [odd] (by simp [Act.eval]) (by simp [Act.eval]) rfl O73.out L75.out RM7.out.2.2.1 RM7.out.2.2.2.1 wr B73.out (Nat.le_refl _) ?_; intro v76 w76 O76' B76' G76' M76'; have O76 := Lib.hid O76'; have B76 := Lib.hid B76'; clear O76' B76' G76' M76')
          | (refine step_appendI_at rfl (.tmp 76) (.tmp 79) _ rfl .i64 wr.heap.size 3 8 Try.underlying24 intInfo v76 ([] ++ H.take K ++ [odd]) (if c7 = K then some ⟨b7, o7, none⟩ else some ⟨b7, o7 + K, none⟩) (k - K) (c7 - K) (H.drop K) (by simp [Act.eval]) (by simp [Act.eval]) DKHD7.out O76.out (HD7.out.below B76.out) RM7.out.2.2.2.2.1 RM7.out.2.2.2.2.2.1 wr B76.out (Nat.le_refl _) ?_; intro v80 w80 O80' B80' G80' M80'; rw [HTV.out] at O80'; have B80 := Lib.hid B80'; obtain ⟨a80, c80, rfl, i80, j80⟩ := O80'.form2; have I80 := Lib.hid i80; clear O80' B80' G80' M80' i80 j80))
        all_goals
          generalize (if c7 = K then (some ⟨b7, o7, none⟩ : Option Addr) else some ⟨b7, o7 + K, none⟩) = ad at *
          go_wp2_with fail
          go_meet
          exact ⟨a80, c80, by rw [TL.out], I80, B80⟩
      case rest =>
        obtain ⟨a12, c12, rfl, I12, G12⟩ := hcut
        have I8c := Lib.hid (I8.out.below G12.out)
        have RBc := Lib.hid (RB.out.below G12.out RB.out.lt)
        have CBc := Lib.hid (CB.out.below G12.out CB.out.lt)
        have Gc := Lib.hid (grow G.out G12.out)
        clear I7 I8 RB CB G G12 RM7 HTV k1 k6 wodd
        obtain ⟨r, hr⟩ : ∃ r, U.getD 3 0 % 16 = r := ⟨_, rfl⟩
        have ub := hUb 3 (by omega)
        have rb : 0 ≤ r ∧ r ≤ 15 := by omega
        have tr : Int.tmod (U.getD 3 0) 16 = r := by rw [Int.tmod_eq_emod_of_nonneg ub.1]; exact hr
        have cU := (cas_at hA hU CBc.out).2.2.2.2.2 3 (by omega)
        generalize hyk : U.getD 3 0 = y at *
        have HY := Lib.hid hyk
        clear hyk
        rw [show 6 + 3 = 9 from rfl] at cU
        have CU := Lib.hid cU
        have wr1 : IntKind.i64.wrap (r + 1) = r + 1 := IntWalk.i64_in _ (by omega)
        have wr0 : IntKind.i64.wrap r = r := IntWalk.i64_in _ (by omega)
        obtain ⟨tu, htu⟩ : ∃ tu, [] ++ Z.take K ++ [r + 1] ++ Z.drop K = tu := ⟨_, rfl⟩
        have HTU := Lib.hid htu
        have TM := Lib.hid (show tu.length = k + 1 by rw [← htu]; simp only [List.length_append, List.length_nil, List.length_cons, List.length_take, List.length_drop]; omega)
        have RM8 := Lib.hid (room3 Z (r + 1) K (by omega))
        clear htu
        go_upto_region 13 with fail
        go_cut [13] (fun s13 wx => ∃ a c, s13 = .slice a (k + 1) c ∧ Hid (IntsAt .i64 wx a tu) ∧ Hid (Below wc.heap.size wc wx))
        case first =>
          have HT8 := Lib.hid (I8c.out.take K)
          have TK8 := Lib.hid (show (Z.take K).length = K by rw [List.length_take]; omega)
          have cUa := fun o => (((Below.refl wc.heap.size wc).alloc (Nat.le_refl _) o).cell (p := ⟨w.heap.size + 1, 9, none⟩) (cell_lt cU)).trans cU
          have HD8 := Lib.hid (show IntsAt .i64 wc (if c8 = K then some ⟨b8, o8, none⟩ else some ⟨b8, o8 + K, none⟩) (Z.drop K) from drop_at I8c.out (by omega))
          have DK8 := Lib.hid (show (Z.drop K).length = k - K by rw [List.length_drop, zl])
          have HL := Lib.hid zl
          clear zl
          go_region_law (first
            | (refine step_appendI_at rfl (.tmp 81) (.tmp 84) _ rfl .i64 wc.heap.size 3 8 Try.underlying24 intInfo (.slice (some ⟨wc.heap.size, 0, none⟩) 0 0) [] (some ⟨b8, o8, none⟩) K c8 (Z.take K) (by simp [Act.eval, Act.put]) (by simp [Act.eval, Act.put]) TK8.out (OwnI.lit0 (Nat.le_refl _)).drew (HT8.out.below ((Below.refl _ _).alloc (Nat.le_refl _) _)).drew RM8.out.1 RM8.out.2.1 wc ((Below.refl _ _).alloc (Nat.le_refl _) _).drew (Nat.le_refl _) ?_; intro v85 w85 O85' B85' G85' M85'; have cB := (B85'.cell (p := ⟨w.heap.size + 1, 9, none⟩) (cell_lt CU.out)).trans CU.out; have O85 := Lib.hid O85'; have B85 := Lib.hid B85'; clear O85' B85' G85' M85')
            | (refine step_appendI_at rfl (.tmp 81) (.tmp 84) _ rfl .i64 wc.heap.size 3 8 Try.underlying24 intInfo (.slice (some ⟨wc.heap.size, 0, none⟩) 0 0) [] (some ⟨b8, o8, none⟩) K c8 (Z.take K) (by simp [Act.eval]) (by simp [Act.eval]) TK8.out ((OwnI.lit0 (Nat.le_refl _)).alloc _).drew (HT8.out.below (((Below.refl _ _).alloc (Nat.le_refl _) _).alloc (by simp) _)).drew RM8.out.1 RM8.out.2.1 wc (((Below.refl _ _).alloc (Nat.le_refl _) _).alloc (by simp) _).drew (Nat.le_refl _) ?_; intro v85 w85 O85' B85' G85' M85'; have L92 := Lib.hid (IntsAt.grown (laid1_behind _ _ _ _).drew G85' (by simp [Value.ownBlock])); have O85 := Lib.hid O85'; have B85 := Lib.hid B85'; clear O85' B85' G85' M85')
            | (refine step_appendI_at rfl (.tmp 81) (.tmp 84) _ rfl .i64 wc.heap.size 3 8 Try.underlying24 intInfo (.slice (some ⟨wc.heap.size + 1, 0, none⟩) 0 0) [] (some ⟨b8, o8, none⟩) K c8 (Z.take K) (by simp [Act.eval]) (by simp [Act.eval]) TK8.out (lit0_behind _ _ (Nat.le_refl _)).drew (HT8.out.below (((Below.refl _ _).alloc (Nat.le_refl _) _).alloc (by simp) _)).drew RM8.out.1 RM8.out.2.1 wc (((Below.refl _ _).alloc (Nat.le_refl _) _).alloc (by simp) _).drew (Nat.le_refl _) ?_; intro v85 w85 O85' B85' G85' M85'; have L92 := Lib.hid (IntsAt.grown ((laid1 _ _ _).below ((Below.refl _ _).alloc (Nat.le_refl _) _)).drew G85' (by simp [Value.ownBlock])); have O85 := Lib.hid O85'; have B85 := Lib.hid B85'; clear O85' B85' G85' M85')
            | (refine step_appendI_at rfl (.tmp 85) (.tmp 92) _ rfl .i64 wc.heap.size 3 8 Try.underlying24 intInfo v85 ([] ++ Z.take K) (some ⟨w85.heap.size, 0, none⟩) 1 1 [(r + 1)] (by simp [Act.eval]) (by simp [Act.eval]) rfl (O85.out.alloc _) (laid1 _ _ _) RM8.out.2.2.1 RM8.out.2.2.2.1 wc (B85.out.alloc B85.out.size _) (Nat.le_refl _) ?_; intro v93 w93 O93' B93' G93' M93'; have O93 := Lib.hid O93'; have B93 := Lib.hid B93'; clear O93' B93' G93' M93')
            | (refine step_appendI_at rfl (.tmp 85) (.tmp 92) _ rfl .i64 wc.heap.size 3 8 Try.underlying24 intInfo v85 ([] ++ Z.take K) _ 1 1 [(r + 1)] (by simp [Act.eval]) (by simp [Act.eval]) rfl O85.out L92.out RM8.out.2.2.1 RM8.out.2.2.2.1 wc B85.out (Nat.le_refl _) ?_; intro v93 w93 O93' B93' G93' M93'; have O93 := Lib.hid O93'; have B93 := Lib.hid B93'; clear O93' B93' G93' M93')
            | (refine step_appendI_at rfl (.tmp 93) (.tmp 96) _ rfl .i64 wc.heap.size 3 8 Try.underlying24 intInfo v93 ([] ++ Z.take K ++ [(r + 1)]) (if c8 = K then some ⟨b8, o8, none⟩ else some ⟨b8, o8 + K, none⟩) (k - K) (c8 - K) (Z.drop K) (by simp [Act.eval]) (by simp [Act.eval]) DK8.out O93.out (HD8.out.below B93.out) RM8.out.2.2.2.2.1 RM8.out.2.2.2.2.2.1 wc B93.out (Nat.le_refl _) ?_; intro v97 w97 O97' B97' G97' M97'; rw [HTU.out] at O97'; have B97 := Lib.hid B97'; obtain ⟨a97, c97, rfl, i97, j97⟩ := O97'.form2; have I97 := Lib.hid i97; clear O97' B97' G97' M97' i97 j97))
          all_goals
            generalize (if c8 = K then (some ⟨b8, o8, none⟩ : Option Addr) else some ⟨b8, o8 + K, none⟩) = ad at *
            go_wp2_with fail
            go_meet
            exact ⟨a97, c97, by rw [TM.out], I97, B97⟩
        case rest =>
          obtain ⟨a13, c13, rfl, I13, G13⟩ := hcut
          have I12d := Lib.hid (I12.out.below G13.out)
          have RBd := Lib.hid (RBc.out.below G13.out RBc.out.lt)
          have Gd := Lib.hid (grow Gc.out G13.out)
          have HVB := Lib.hid (case_votb (lo := lo) (hi := hi) (clip := clip) (A := A) (U := U) (K := K) hM2 hM3 hby hlow hodd rb)
          have HBD := Lib.hid (fun x h => case_bounded (lo := lo) (hi := hi) (clip := clip) (A := A) (U := U) (K := K) (x := x) hM2 hM3 hby hlow hodd rb h)
          rw [hH, hZ, HTVo.out, HTU.out] at HVB HBD
          have CV := fun W h h' => vote_any lo hi clip a12 a13 c12 c13 tv tu W (by rw [TL.out]; omega) h h'
          rw [HVB.out, TL.out, TM.out] at CV
          have HBV := Lib.hid (HBD.out _ rfl)
          have CR := fun W => vright_any lo hi clip W
          have cc := rul_cells RBd.out
          clear HVB HBD hH hZ I12 RBc CBc Gc G13 I8c
          generalize votv lo hi clip tv tu = n at *
          go_wp2_with fail
          refine (CV _ I12d.out I13.out).mono ?_; rintro e w4 ⟨rfl, b4⟩
          have Ge := Lib.hid (grow Gd.out b4)
          have RBe := Lib.hid (RBd.out.below b4 RBd.out.lt)
          clear b4 Gd RBd CV I12d I13 cc
          have cc := rul_cells RBe.out
          have HT := Lib.hid (show tou lo hi clip low (low + by_) = (rmay lo hi clip && ((decide (lo ≤ low) && decide (low ≤ hi)) || (decide (lo ≤ low + by_) && decide (low + by_ ≤ hi)))) from rfl)
          have up1 : -2147483648 ≤ low + by_ ∧ low + by_ ≤ 2147549182 := by omega
          generalize rmay lo hi clip = R at *
          generalize low + by_ = up at *
          generalize tou lo hi clip low up = T at *
          have HR := Lib.hid (fun h : T = true => (show R = true from by
            have e := HT.out
            rw [h] at e
            cases R
            · cases e
            · rfl))
          go_upto_region 15 with fail
          go_cut [16] (fun s16 wx => s16 = .bool T ∧ Hid (Below w4.heap.size w4 wx))
          case first =>
            cases R
            · go_wp2_with (go_at_call 9; refine (CR _).mono ?_; rintro e w5 ⟨rfl, b5⟩; have B5 := Lib.hid b5; clear b5)
              go_meet
              exact ⟨by rw [HT.out]; rfl, B5⟩
            · cases d1 : decide (lo ≤ low) <;> cases d2 : decide (low ≤ hi)
              case true.true =>
                rw [d1, d2] at HT
                go_wp2_with (go_at_call 9; refine (CR _).mono ?_; rintro e w5 ⟨rfl, b5⟩; have B5 := Lib.hid b5; have cc5 := rul_cells (RBe.out.below b5 RBe.out.lt); clear b5)
                go_meet
                exact ⟨by rw [HT.out]; rfl, B5⟩
              all_goals
                cases d3 : decide (lo ≤ up)
                · rw [d1, d2, d3] at HT
                  go_wp2_with (go_at_call 9; refine (CR _).mono ?_; rintro e w5 ⟨rfl, b5⟩; have B5 := Lib.hid b5; have cc5 := rul_cells (RBe.out.below b5 RBe.out.lt); clear b5)
                  go_meet
                  exact ⟨by rw [HT.out]; rfl, B5⟩
                · rw [d1, d2, d3] at HT
                  go_wp2_with (go_at_call 9; refine (CR _).mono ?_; rintro e w5 ⟨rfl, b5⟩; have B5 := Lib.hid b5; have cc5 := rul_cells (RBe.out.below b5 RBe.out.lt); clear b5)
                  go_meet
                  exact ⟨by rw [HT.out]; rfl, B5⟩
          case rest =>
            obtain ⟨rfl, B5⟩ := hcut
            have Gf := Lib.hid (grow Ge.out B5.out)
            have RBf := Lib.hid (RBe.out.below B5.out RBe.out.lt)
            clear Ge RBe cc B5 HT
            cases T
            · go_wp2_with fail
              refine (alive_any _).mono ?_; rintro e w6 ⟨rfl, b6⟩
              have Gg := Lib.hid (grow Gf.out b6)
              have cc := rul_cells (RBf.out.below b6 RBf.out.lt)
              clear b6 Gf RBf
              go_wp2_with fail
              refine (CR _).mono ?_; rintro e w7 ⟨rfl, b7'⟩
              have Gh := Lib.hid (grow Gg.out b7')
              clear b7' Gg cc
              go_wp2_with fail
              go_ret
              exact ⟨rfl, Gh.out⟩
            · obtain ⟨⟨q1, q2⟩, ⟨q3, q4⟩, q5, q6⟩ := HBV.out rfl
              obtain rfl := HR.out rfl
              have z1 : -9223372036854775808 ≤ low - clip := by omega
              have z2 : low - clip ≤ 9223372036854775807 := by omega
              have z3 : -9223372036854775808 ≤ up + clip := by omega
              have z4 : up + clip ≤ 9223372036854775807 := by omega
              go_wp2_with fail
              refine (alive_any _).mono ?_; rintro e w6 ⟨rfl, b6⟩
              have Gg := Lib.hid (grow Gf.out b6)
              have cc := rul_cells (RBf.out.below b6 RBf.out.lt)
              clear b6 Gf RBf
              go_wp2_with fail
              go_ret
              exact ⟨rfl, Gg.out⟩

theorem i32_bd {n : Int} (h : (Lit.int .i32 n).wf = true) : -2147483648 ≤ n ∧ n ≤ 2147483647 := by
  have h1 : IntKind.i32.min = -2147483648 := rfl
  have h2 : IntKind.i32.max = 2147483647 := rfl
  simp only [Lit.wf, Bool.and_eq_true, decide_eq_true_eq] at h
  omega
theorem u16_bd {n : Int} (h : (Lit.int .u16 n).wf = true) : 0 ≤ n ∧ n ≤ 65535 := by
  have h1 : IntKind.u16.min = 0 := rfl
  have h2 : IntKind.u16.max = 65535 := rfl
  simp only [Lit.wf, Bool.and_eq_true, decide_eq_true_eq] at h
  omega
theorem u8_bd {n : Int} (h : (Lit.int .u8 n).wf = true) : 0 ≤ n ∧ n ≤ 255 := by
  have h1 : IntKind.u8.min = 0 := rfl
  have h2 : IntKind.u8.max = 255 := rfl
  simp only [Lit.wf, Bool.and_eq_true, decide_eq_true_eq] at h
  omega
theorem walk (l : List Int) (low odd by_ a0 a1 a2 w0 w1 w2 w3 nn : Int) (w : World) (hl : l.length = 3) (_w0 : ∀ n ∈ l, (Lit.int .i64 n).wf = true) (u0 : (Lit.int .i32 low).wf = true) (u1 : (Lit.int .i32 odd).wf = true) (u2 : (Lit.int .u16 by_).wf = true)
    (u3 : (Lit.int .u16 a0).wf = true) (u4 : (Lit.int .u16 a1).wf = true) (u5 : (Lit.int .u16 a2).wf = true) (u6 : (Lit.int .u8 w0).wf = true) (u7 : (Lit.int .u8 w1).wf = true) (u8 : (Lit.int .u8 w2).wf = true) (u9 : (Lit.int .u8 w3).wf = true) (u10 : (Lit.int .u8 nn).wf = true) :
    Calls Try.prog 5 #[.agg (l.map (.int .i64)).toArray, .agg #[.int .i32 low, .int .i32 odd, .int .u16 by_, .int .u16 a0, .int .u16 a1, .int .u16 a2, .int .u8 w0, .int .u8 w1, .int .u8 w2, .int .u8 w3, .int .u8 nn]] w
      fun e w' => e = .returned (.bool true) ∧ Below w.heap.size w w' := by
  obtain ⟨lo, hi, clip, rfl⟩ := three hl
  refine main lo hi clip low odd by_ nn [a0, a1, a2] [w0, w1, w2, w3] w rfl rfl (i32_bd u0) (i32_bd u1) (u16_bd u2) (fun k hk => ?_) (fun k hk => ?_) (u8_bd u10)
  · match k, hk with
    | 0, _ => exact u16_bd u3
    | 1, _ => exact u16_bd u4
    | 2, _ => exact u16_bd u5
  · match k, hk with
    | 0, _ => exact u8_bd u6
    | 1, _ => exact u8_bd u7
    | 2, _ => exact u8_bd u8
    | 3, _ => exact u8_bd u9
end voteBounded
end Go.Proofs.Ytlaffeadgdebhaa
