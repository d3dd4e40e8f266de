/-
  What the document's own answers for layer 2 (package rudderref02) return: contracts by walking the Go text. No conditions beyond the numbers' kinds and where the list lies.
-/
import Derived.Test.YtiniijoodgdikaaRef01
import Derived.Test.YtiniijoodgdikaaOrderMath
import Derived.Deep.LoopGhost
import Derived.Deep.QuietTactic
import Derived.BigQuiet
import Derived.IntWalk
import Derived.WalkSmall
namespace Go.Proofs.Ytiniijoodgdikaa
open Go.ChangeShapes Go.WideShapes Go.ChangeAt Go.RowKit Go.Deep
namespace Od
open Fx

theorem rintInfo : (Try.prog.info? 3).map (fun i => (i.zero, i.size, i.bytes)) = some (some (.int .i64 0), 1, 8) := by kernel_rfl

set_option maxHeartbeats 400000 in
theorem rright_any (a : Option Addr) (cap : Nat) (l : List Int) (w : World) (hl : l.length ≤ 9223372036854775807) (hb : IntsAt .i64 w a l) :
    Calls Try.prog 19 #[.slice a l.length cap] w fun e w' => e = .returned (.bool (ok l)) ∧ w = w' := by
  have C := rall_any a cap l w hl hb
  cases ha : l.all sm
  · have HF := Lib.hid ((ok_false l).2 (by rw [ha]; simp))
    rw [ha] at C
    go_enter Try.func19, Try.ntmps19
    go_wp2_with (first | (go_at_call 23; refine C.mono ?_; rintro e w' ⟨rfl, rfl⟩))
    go_ret
    exact ⟨ret_bool HF.out.symm, rfl⟩
  · rw [ha] at C
    by_cases h : l.length ≤ 16
    · have HF := Lib.hid ((ok_iff l).2 ⟨h, ha⟩)
      have d1 : decide ((l.length : Int) ≤ 16) = true := by simp; omega
      go_enter Try.func19, Try.ntmps19
      go_wp2_with (first | (go_at_call 23; refine C.mono ?_; rintro e w' ⟨rfl, rfl⟩))
      go_ret
      exact ⟨ret_bool HF.out.symm, rfl⟩
    · have HF := Lib.hid ((ok_false l).2 (fun q => h q.1))
      have d1 : decide ((l.length : Int) ≤ 16) = false := by simp; omega
      go_enter Try.func19, Try.ntmps19
      go_wp2_with (first | (go_at_call 23; refine C.mono ?_; rintro e w' ⟨rfl, rfl⟩))
      go_ret
      exact ⟨ret_bool HF.out.symm, rfl⟩

/-- What the inner loop of Sort has gathered of the first m elements. -/
def InsAt (x : Int) (s : List Int) (m : Nat) (d : Bool) (nx : List Int) : Prop :=
  (d = true → (∃ y ∈ s.take m, x < y) ∧ nx = ins x (s.take m)) ∧ (d = false → (∀ y ∈ s.take m, ¬ x < y) ∧ nx = s.take m)
theorem ins_any (x : Int) (p q : List Int) (h : ∃ y ∈ p, x < y) : ins x (p ++ q) = ins x p ++ q := by
  induction p with
  | nil => obtain ⟨y, hy, _⟩ := h; cases hy
  | cons z t ih =>
    by_cases hz : x < z
    · simp [ins, hz]
    · obtain ⟨y, hy, hxy⟩ := h
      have : ∃ y ∈ t, x < y := by
        rcases List.mem_cons.1 hy with rfl | hy
        · exact absurd hxy hz
        · exact ⟨y, hy, hxy⟩
      simp [ins, hz, ih this]
theorem ins_none (x : Int) (p : List Int) (h : ∀ y ∈ p, ¬ x < y) : ins x p = p ++ [x] := by
  induction p with
  | nil => rfl
  | cons z t ih => simp [ins, h z (List.mem_cons_self ..), ih (fun y hy => h y (List.mem_cons_of_mem _ hy))]
theorem ins_first (x y : Int) (p : List Int) (h : ∀ y ∈ p, ¬ x < y) (hy : x < y) : ins x (p ++ [y]) = p ++ [x] ++ [y] := by
  induction p with
  | nil => simp [ins, hy]
  | cons z t ih => simp [ins, h z (List.mem_cons_self ..)]; simpa using ih (fun y hy => h y (List.mem_cons_of_mem _ hy))
theorem insAt_0 (x : Int) (s : List Int) : InsAt x s 0 false [] := ⟨(fun h => by cases h), fun _ => ⟨by simp, by simp⟩⟩
theorem insAt_done {x : Int} {s nx : List Int} {m : Nat} (h : InsAt x s m true nx) (hm : m < s.length) : InsAt x s (m + 1) true (nx ++ [s.getD m 0]) := by
  obtain ⟨⟨y, hy, hxy⟩, rfl⟩ := h.1 rfl
  refine ⟨fun _ => ?_, fun h => by cases h⟩
  rw [take_snoc s m hm]
  exact ⟨⟨y, List.mem_append_left _ hy, hxy⟩, (ins_any x _ _ ⟨y, hy, hxy⟩).symm⟩
theorem insAt_hit {x : Int} {s nx : List Int} {m : Nat} (h : InsAt x s m false nx) (hm : m < s.length) (hx : x < s.getD m 0) : InsAt x s (m + 1) true (nx ++ [x] ++ [s.getD m 0]) := by
  obtain ⟨hn, rfl⟩ := h.2 rfl
  refine ⟨fun _ => ?_, fun h => by cases h⟩
  rw [take_snoc s m hm]
  exact ⟨⟨_, List.mem_append_right _ (List.mem_singleton.2 rfl), hx⟩, (ins_first x _ _ hn hx).symm⟩
theorem insAt_pass {x : Int} {s nx : List Int} {m : Nat} (h : InsAt x s m false nx) (hm : m < s.length) (hx : ¬ x < s.getD m 0) : InsAt x s (m + 1) false (nx ++ [s.getD m 0]) := by
  obtain ⟨hn, rfl⟩ := h.2 rfl
  refine ⟨(fun h => by cases h), fun _ => ?_⟩
  rw [take_snoc s m hm]
  refine ⟨fun y hy => ?_, rfl⟩
  rcases List.mem_append.1 hy with hy | hy
  · exact hn y hy
  · rw [List.mem_singleton.1 hy]; exact hx
theorem insAt_end_true {x : Int} {s nx : List Int} (h : InsAt x s s.length true nx) : nx = ins x s := by
  have := (h.1 rfl).2; rwa [List.take_of_length_le (Nat.le_refl _)] at this
theorem insAt_end_false {x : Int} {s nx : List Int} (h : InsAt x s s.length false nx) : nx ++ [x] = ins x s := by
  obtain ⟨h1, rfl⟩ := h.2 rfl
  rw [List.take_of_length_le (Nat.le_refl _)] at h1 ⊢
  exact (ins_none x s h1).symm

set_option maxHeartbeats 1600000 in
theorem rsort_any (a : Option Addr) (cap : Nat) (l : List Int) (w : World) (hl : l.length ≤ 9223372036854775807) (hb : IntsAt .i64 w a l) :
    Calls Try.prog 20 #[.slice a l.length cap] w (RetI .i64 w (osort l)) := by
  have C := rright_any a cap l w hl hb
  cases hok : ok l
  · have HF := Lib.hid (show osort l = [] by unfold osort; rw [hok]; rfl)
    rw [hok] at C
    go_enter Try.func20, Try.ntmps20
    go_wp2_with (first | (go_at_call 19; refine C.mono ?_; rintro e w' ⟨rfl, rfl⟩))
    go_ret
    exact retI_nil HF.out (Below.refl _ _)
  · have HF := Lib.hid (show osort l = srt l by unfold osort; rw [if_pos hok])
    have h16 := ok_len hok
    have HB := Lib.hid hb
    rw [hok] at C
    clear hb
    go_enter Try.func20, Try.ntmps20
    go_wp2_with (first | (go_at_call 19; refine C.mono ?_; rintro e w' ⟨rfl, rfl⟩))
    clear C
    go_loopg [4, 5] l.length (fun g s4 s5 wr => ∃ (k : Nat) (s : List Int) (a1 : Option Addr) (c1 : Nat), k + g = l.length ∧ s5 = .int .i64 k ∧ s4 = .slice a1 s.length c1 ∧ Hid (s = srt (l.take k)) ∧ Hid (IntsAt .i64 wr a1 s) ∧ Hid (Below w.heap.size w wr))
    case atStart => exact ⟨0, [], none, 0, by omega, rfl, rfl, Lib.hid rfl, Lib.hid (Or.inl rfl), Lib.hid (Below.refl _ _)⟩
    case round =>
      rename World => W1
      obtain ⟨k, s, a1, c1, hkg, rfl, rfl, HS, I1, B1⟩ := hrel
      have hsl : s.length ≤ k := by rw [HS.out, srt_len, List.length_take]; omega
      have hsz := B1.out.size
      by_cases hlt : k < l.length
      · have hki : (k : Int) < (l.length : Int) := by omega
        rcases HB.out with hnil | ⟨b, off, rfl, hc⟩
        · rw [hnil] at hlt; simp at hlt
        have hcx := Lib.hid ((B1.out.cell (p := ⟨b, off + k, none⟩) (cell_lt (hc k hlt))).trans (hc k hlt))
        clear hc
        have HX := Lib.hid (srt_take l k hlt)
        generalize l.getD k 0 = x at *
        go_wp2
        go_loopg [6, 7, 8] s.length (fun g2 s6 s7 s8 wx => ∃ (m : Nat) (d : Bool) (nx : List Int), m + g2 = s.length ∧ s8 = .int .i64 m ∧ s7 = .bool d ∧ Hid (InsAt x s m d nx) ∧ nx.length ≤ m + d.toNat ∧ Hid (OwnI .i64 W1.heap.size 3 wx s6 nx) ∧ Hid (Below W1.heap.size W1 wx))
        case atStart => exact ⟨0, false, [], by omega, rfl, rfl, Lib.hid (insAt_0 x s), by simp, Lib.hid OwnI.nil, Lib.hid (Below.refl _ _)⟩
        case round =>
          obtain ⟨m, d, nx, hmg, rfl, rfl, HI, hnl, O2, B2⟩ := hrel
          have hcell : wr.cell? ⟨b, off + k, none⟩ = some (.int .i64 x) := (B2.out.cell (p := ⟨b, off + k, none⟩) (cell_lt hcx.out)).trans hcx.out
          by_cases hmt : m < s.length
          · have hmi : (m : Int) < (s.length : Int) := by omega
            rcases I1.out with hnil | ⟨b1, off1, rfl, hc1⟩
            · rw [hnil] at hmt; simp at hmt
            have hcy := hc1 m hmt
            have hcelly : wr.cell? ⟨b1, off1 + m, none⟩ = some (.int .i64 (s.getD m 0)) := (B2.out.cell (p := ⟨b1, off1 + m, none⟩) (cell_lt hcy)).trans hcy
            have HCY := Lib.hid hcy
            clear hc1 hcy
            cases d
            · have hn2 : nx.length ≤ m := hnl
              clear hnl
              have H1 := Lib.hid (insAt_hit HI.out hmt)
              have H2 := Lib.hid (insAt_pass HI.out hmt)
              generalize s.getD m 0 = y at *
              by_cases hxy : x < y
              · have d1 : decide (x < y) = true := by simpa using hxy
                go_wp2
                go_quiet (fail)
                go_wp2_with (first | ((with_reducible show wpList _ _ _ (⟨some 44, _, _, _, _, _⟩ :: _) _ _); refine wpList_append1 rfl (.tmp 38) (.tmp 43) _ rfl .i64 W1.heap.size 3 8 Try.underlying22 rintInfo _ nx x _ rfl rfl (O2.out.drewN _) (by first | omega | (simp; omega)) (by omega) W1 (below_drewN B2.out _) (Nat.le_refl _) ?_; intro v44 w44 O44' B44'; have O44 := Lib.hid O44'; have B44 := Lib.hid B44'; clear O44' B44'; have hy44 := (B44.out.cell (p := ⟨b1, off1 + m, none⟩) (cell_lt HCY.out)).trans HCY.out) | ((with_reducible show wpList _ _ _ (⟨some 51, _, _, _, _, _⟩ :: _) _ _); refine wpList_append1 rfl (.tmp 45) (.tmp 50) _ rfl .i64 W1.heap.size 3 8 Try.underlying22 rintInfo _ (nx ++ [x]) y _ rfl rfl O44.out (by first | omega | (simp; omega)) (by omega) W1 B44.out (Nat.le_refl _) ?_; intro v51 w51 O51' B51'; have O51 := Lib.hid O51'; have B51 := Lib.hid B51'; clear O51' B51'))
                go_roundg (gk - 1)
                case rel => exact ⟨m + 1, true, nx ++ [x] ++ [y], by omega, by go_num, rfl, Lib.hid (H1.out hxy), by simp; omega, O51, B51⟩
                case measure => omega
              · have d1 : decide (x < y) = false := by simpa using hxy
                go_wp2
                go_quiet (fail)
                go_wp2_with (first | ((with_reducible show wpList _ _ _ (⟨some 51, _, _, _, _, _⟩ :: _) _ _); refine wpList_append1 rfl (.tmp 45) (.tmp 50) _ rfl .i64 W1.heap.size 3 8 Try.underlying22 rintInfo _ nx y _ rfl rfl (O2.out.drewN _) (by first | omega | (simp; omega)) (by omega) W1 (below_drewN B2.out _) (Nat.le_refl _) ?_; intro v51 w51 O51' B51'; have O51 := Lib.hid O51'; have B51 := Lib.hid B51'; clear O51' B51'))
                go_roundg (gk - 1)
                case rel => exact ⟨m + 1, false, nx ++ [y], by omega, by go_num, rfl, Lib.hid (H2.out hxy), by simp; omega, O51, B51⟩
                case measure => omega
            · have hn2 : nx.length ≤ m + 1 := hnl
              clear hnl
              have H1 := Lib.hid (insAt_done HI.out hmt)
              generalize s.getD m 0 = y at *
              go_wp2
              go_quiet (fail)
              go_wp2_with (first | ((with_reducible show wpList _ _ _ (⟨some 51, _, _, _, _, _⟩ :: _) _ _); refine wpList_append1 rfl (.tmp 45) (.tmp 50) _ rfl .i64 W1.heap.size 3 8 Try.underlying22 rintInfo _ nx y _ rfl rfl (O2.out.drewN _) (by first | omega | (simp; omega)) (by omega) W1 (below_drewN B2.out _) (Nat.le_refl _) ?_; intro v51 w51 O51' B51'; have O51 := Lib.hid O51'; have B51 := Lib.hid B51'; clear O51' B51'))
              go_roundg (gk - 1)
              case rel => exact ⟨m + 1, true, nx ++ [y], by omega, by go_num, rfl, H1, by simp; omega, O51, B51⟩
              case measure => omega
          · have : m = s.length := by omega
            subst this
            cases d
            · have hn2 : nx.length ≤ s.length := hnl
              clear hnl
              have HE := Lib.hid (insAt_end_false HI.out)
              go_wp2_with (first | ((with_reducible show wpList _ _ _ (⟨some 60, _, _, _, _, _⟩ :: _) _ _); refine wpList_append1 rfl (.tmp 54) (.tmp 59) _ rfl .i64 W1.heap.size 3 8 Try.underlying22 rintInfo _ nx x _ rfl rfl O2.out (by first | omega | (simp; omega)) (by omega) W1 B2.out (Nat.le_refl _) ?_; intro v60 w60 O60' B60'; have O60 := Lib.hid O60'; have B60 := Lib.hid B60'; clear O60' B60'))
              obtain ⟨a2, c2, rfl, i2⟩ := O60.out.form
              go_roundg (l.length - (k + 1))
              case rel => exact ⟨k + 1, nx ++ [x], a2, c2, by omega, by go_num, rfl, Lib.hid (by rw [HX.out, ← HS.out]; exact HE.out), Lib.hid i2, Lib.hid (B1.out.trans (B60.out.mono hsz))⟩
              case measure => omega
            · clear hnl
              have HE := Lib.hid (insAt_end_true HI.out)
              obtain ⟨a2, c2, rfl, i2⟩ := O2.out.form
              have I2 := Lib.hid i2
              clear i2
              go_wp2
              go_roundg (l.length - (k + 1))
              case rel => exact ⟨k + 1, nx, a2, c2, by omega, by go_num, rfl, Lib.hid (by rw [HX.out, ← HS.out]; exact HE.out), I2, Lib.hid (B1.out.trans (B2.out.mono hsz))⟩
              case measure => omega
      · go_wp2
        go_ret
        have : k = l.length := by omega
        subst this
        exact retI_mk (by rw [HS.out, List.take_of_length_le (Nat.le_refl _)]; exact HF.out.symm) rfl I1.out B1.out
end Od
end Go.Proofs.Ytiniijoodgdikaa
