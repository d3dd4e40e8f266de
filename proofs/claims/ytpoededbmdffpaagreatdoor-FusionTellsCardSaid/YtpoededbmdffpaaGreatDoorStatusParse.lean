/-
  What Parse of package status, and that of rudderref16, tell: contracts by walking the Go text. No conditions beyond the number's kind.
-/
import Derived.Test.YtpoededbmdffpaaGreatDoorStatusWord
namespace Go.Proofs.YtpoededbmdffpaaGreatDoor
set_option maxRecDepth 100000
open Go.ChangeShapes Go.WideShapes Go.ChangeAt Go.RowKit Go.Deep
namespace Ss
open Fx
/-- A block of zeros, of a status. -/
abbrev zob : Obj := .cells #[.int .i64 0, .int .i64 0, .int .i64 0, .bool false] 37
/-- A result's cell, and another status's. -/
structure Two (w W : World) (g : Nat) (a b : St) : Prop where
  below : Below w.heap.size w W
  ge : w.heap.size < g
  res : VRow W w.heap.size 37 (str a)
  box : VRow W g 37 (str b)
theorem Two.on {w W W' : World} {g : Nat} {a b : St} (h : Two w W g a b) (k : Below W.heap.size W W') : Two w W' g a b := ⟨grow h.below k, h.ge, onB h.res k, onB h.box k⟩
theorem Two.putRes {w W : World} {g : Nat} {a b : St} (h : Two w W g a b) (c : St) : Two w (W.setRow w.heap.size (str c).toArray) g c b :=
  ⟨Below.put h.below (Nat.le_refl _) _, h.ge, h.res.put (str c), h.box.putOther (by have := h.ge; omega) _⟩
theorem Two.putBox {w W : World} {g : Nat} {a b : St} (h : Two w W g a b) (c : St) : Two w (W.setRow g (str c).toArray) g a c :=
  ⟨Below.put h.below (by have := h.ge; omega) _, h.ge, h.res.putOther (by have := h.ge; omega) _, h.box.put (str c)⟩
theorem Two.setBox {w W : World} {g : Nat} {a b : St} (h : Two w W g a b) (i : Nat) (x : Value) (c : St) (hc : (str b).set i x = str c) : Two w (W.setCell ⟨g, i, none⟩ x) g a c :=
  ⟨h.below.setCell (by show w.heap.size ≤ g; have := h.ge; omega) x, h.ge, h.res.setOther (by show w.heap.size ≠ g; have := h.ge; omega) x, hc ▸ h.box.set i x⟩
theorem two_new (w w1 : World) (b : Below (w.alloc zob).heap.size (w.alloc zob) w1) : Two w (w1.alloc zob) w1.heap.size zer zer :=
  ⟨((Below.refl _ w).alloc (Nat.le_refl _) zob |>.trans (b.mono (by simp))).alloc (by have := b.size; simp at this; omega) _, by have := b.size; simp at this; omega, (onB (VRow.new w (str zer) _) b).alloc _, VRow.new w1 (str zer) _⟩
theorem two_first (w : World) : Two w ((w.alloc zob).alloc zob) (w.heap.size + 1) zer zer := by
  have := two_new w (w.alloc zob) (Below.refl _ _)
  rwa [show (w.alloc zob).heap.size = w.heap.size + 1 by simp] at this
/-- What its parts are ahead of the suspect's turn. -/
def raw (n : Int) : St := ⟨n.tmod 16, (n.tmod 256).tdiv 16, (n.tmod 2048).tdiv 256, n.tdiv 2048 == 1⟩
theorem small_div (x m d : Int) (hm : 0 < m) (hd : 0 < d) : -m < (x.tmod m).tdiv d ∧ (x.tmod m).tdiv d < m := by
  have h1 := Int.tmod_lt_of_pos x hm
  have h2 : -m < x.tmod m := by
    have := Int.lt_tmod_of_pos x hm
    omega
  generalize x.tmod m = y at *
  by_cases hy : 0 ≤ y
  · rw [Int.tdiv_eq_ediv_of_nonneg hy]
    have := Int.ediv_le_self d hy
    have := Int.ediv_nonneg hy (Int.le_of_lt hd)
    omega
  · have e : y.tdiv d = -((-y).tdiv d) := by rw [Int.neg_tdiv]; omega
    rw [e, Int.tdiv_eq_ediv_of_nonneg (show (0 : Int) ≤ -y by omega)]
    have := Int.ediv_le_self d (show (0 : Int) ≤ -y by omega)
    have := Int.ediv_nonneg (show (0 : Int) ≤ -y by omega) (Int.le_of_lt hd)
    omega
theorem i64_in {x : Int} (h : (Lit.int .i64 x).wf = true) : -9223372036854775808 ≤ x ∧ x ≤ 9223372036854775807 := by
  simp [Lit.wf] at h
  have hmin : IntKind.i64.min = -9223372036854775808 := rfl
  have hmax : IntKind.i64.max = 9223372036854775807 := rfl
  omega
set_option maxHeartbeats 1600000 in
theorem parts_any (n : Int) (w : World) (hn : (Lit.int .i64 n).wf = true) :
    Calls Tryz.prog 153 #[.int .i64 n] w fun e w' => e = .returned (stv (parts n)) ∧ Below w.heap.size w w' := by
  have hb := i64_in hn
  have T := Lib.hid (two_first w)
  have b2 := small_div n 256 16 (by omega) (by omega)
  have b3 := small_div n 2048 256 (by omega) (by omega)
  obtain ⟨a, e1⟩ : ∃ a, n.tmod 16 = a := ⟨_, rfl⟩
  obtain ⟨b, e2⟩ : ∃ b, (n.tmod 256).tdiv 16 = b := ⟨_, rfl⟩
  obtain ⟨c, e3⟩ : ∃ c, (n.tmod 2048).tdiv 256 = c := ⟨_, rfl⟩
  obtain ⟨d, e4⟩ : ∃ d, (n.tdiv 2048 == 1) = d := ⟨_, rfl⟩
  rw [e2] at b2
  rw [e3] at b3
  have HP := Lib.hid (show parts n = ⟨a, b, sp c, d⟩ by rw [← e1, ← e2, ← e3, ← e4]; rfl)
  generalize parts n = p at *
  clear hn
  by_cases h7 : c = 7
  · subst h7
    have HQ := Lib.hid (show p = ⟨a, b, -1, d⟩ from HP.out)
    go_enter Tryz.func153, Tryz.ntmps153
    go_wp2_with (first
      | ((with_reducible show wpList _ _ _ (⟨none, .store _ (.tmp 3) _, _, _, _, _⟩ :: _) _ _); refine VB.store rfl _ _ rfl (w.heap.size + 1) (str ⟨a, b, 7, d⟩) rfl rfl T.out.box sizeS rfl (str_one _) ?_; have T1 := Lib.hid (T.out.putBox ⟨a, b, 7, d⟩); generalize ((w.alloc zob).alloc zob).setRow (w.heap.size + 1) (str ⟨a, b, 7, d⟩).toArray = W1 at *; obtain ⟨c0, c1, c2, c3⟩ := st_cells T1.out.box; have f2 := T1.out.box.frozen 2; have T2 := Lib.hid (T1.out.setBox 2 (.int .i64 (-1)) ⟨a, b, -1, d⟩ rfl))
      | ((with_reducible show wpList _ _ _ (⟨none, .store _ (.tmp 2) _, _, _, _, _⟩ :: _) _ _); refine VB.store rfl _ _ rfl w.heap.size (str ⟨a, b, -1, d⟩) rfl rfl T2.out.res sizeS rfl (str_one _) ?_))
    refine bodyPost_ret (v := .agg (str ⟨a, b, -1, d⟩).toArray) ?_ rfl ⟨by rw [HQ.out]; rfl, (T2.out.putRes ⟨a, b, -1, d⟩).below⟩
    exact (VB.ret1 (cs := str ⟨a, b, -1, d⟩) rfl rfl (aggS _) sizeS (T2.out.putRes ⟨a, b, -1, d⟩).res).trans rfl
  · have d7 : (c == 7) = false := by simpa using h7
    have HQ := Lib.hid (show p = ⟨a, b, c, d⟩ by rw [HP.out]; unfold sp; rw [if_neg h7])
    clear h7 HP
    go_enter Tryz.func153, Tryz.ntmps153
    go_wp2_with (first
      | ((with_reducible show wpList _ _ _ (⟨none, .store _ (.tmp 3) _, _, _, _, _⟩ :: _) _ _); refine VB.store rfl _ _ rfl (w.heap.size + 1) (str ⟨a, b, c, d⟩) rfl rfl T.out.box sizeS rfl (str_one _) ?_; have T1 := Lib.hid (T.out.putBox ⟨a, b, c, d⟩); generalize ((w.alloc zob).alloc zob).setRow (w.heap.size + 1) (str ⟨a, b, c, d⟩).toArray = W1 at *; obtain ⟨c0, c1, c2, c3⟩ := st_cells T1.out.box)
      | ((with_reducible show wpList _ _ _ (⟨none, .store _ (.tmp 2) _, _, _, _, _⟩ :: _) _ _); refine VB.store rfl _ _ rfl w.heap.size (str ⟨a, b, c, d⟩) rfl rfl T1.out.res sizeS rfl (str_one _) ?_))
    refine bodyPost_ret (v := .agg (str ⟨a, b, c, d⟩).toArray) ?_ rfl ⟨by rw [HQ.out]; rfl, (T1.out.putRes ⟨a, b, c, d⟩).below⟩
    exact (VB.ret1 (cs := str ⟨a, b, c, d⟩) rfl rfl (aggS _) sizeS (T1.out.putRes ⟨a, b, c, d⟩).res).trans rfl
/-- What Parse hands back. -/
def RetP (w : World) (n : Int) (e : Ending) (w' : World) : Prop := e = .returned (.tuple #[stv (prs n), .int .i64 (pre n)]) ∧ Below w.heap.size w w'
theorem retP_yes {w : World} {n : Int} (h : isw n = true) : RetP w n = fun e w' => e = .returned (.tuple #[stv (parts n), .int .i64 0]) ∧ Below w.heap.size w w' := by
  unfold RetP prs pre; rw [h]; rfl
theorem retP_no {w : World} {n : Int} (h : isw n = false) : RetP w n = fun e w' => e = .returned (.tuple #[stv zer, .int .i64 3]) ∧ Below w.heap.size w w' := by
  unfold RetP prs pre; rw [h]; rfl
/-- The three ways: a word, a status's but another one's, none's. -/
theorem ways (n : Int) : (isw n = true ∧ wde (parts n) = 0 ∧ wdv (parts n) = n) ∨ (isw n = false ∧ wde (parts n) = 0 ∧ (wdv (parts n) == n) = false) ∨ (isw n = false ∧ wde (parts n) = 1) := by
  unfold isw wde wdv
  cases h1 : rgt (parts n)
  · simp
  · cases h2 : (wrd (parts n) == n)
    · simp [h2]
    · simp only [Bool.and_self, if_true, true_and]; left; simpa using h2
set_option maxHeartbeats 1600000 in
theorem parse_any (n : Int) (w : World) (hn : (Lit.int .i64 n).wf = true) :
    Calls Tryz.prog 106 #[.int .i64 n] w (RetP w n) := by
  have CP := fun W => parts_any n W hn
  have CW := fun W => word_any (parts n) W
  rcases ways n with ⟨h0, h1, h2⟩ | ⟨h0, h1, h2⟩ | ⟨h0, h1⟩
  · rw [retP_yes h0]
    rw [h1, h2] at CW
    clear h0 h1 h2
    generalize parts n = p at *
    unfold stv at *
    go_enter Tryz.func106, Tryz.ntmps106
    go_wp2_with (first
      | (go_at_call 153; refine (CP _).mono ?_; rintro e w1 ⟨rfl, b1⟩; have T := Lib.hid (two_new w w1 b1); clear b1)
      | ((with_reducible show wpList _ _ _ (⟨none, .store _ (.tmp 4) _, _, _, _, _⟩ :: _) _ _); refine VB.store rfl _ _ rfl w1.heap.size (str p) rfl rfl T.out.box sizeS rfl (str_one _) ?_; have T1 := Lib.hid (T.out.putBox p); generalize (w1.alloc zob).setRow w1.heap.size (str p).toArray = W1 at *; obtain ⟨c0, c1, c2, c3⟩ := st_cells T1.out.box)
      | (go_at_call 84; refine (CW _).mono ?_; rintro e w2 ⟨rfl, b2⟩; have T2 := Lib.hid (T1.out.on b2); clear b2 c0 c1 c2 c3; obtain ⟨c0, c1, c2, c3⟩ := st_cells T2.out.box)
      | ((with_reducible show wpList _ _ _ (⟨none, .store _ (.tmp 2) _, _, _, _, _⟩ :: _) _ _); refine VB.store rfl _ _ rfl w.heap.size (str p) rfl rfl T2.out.res sizeS rfl (str_one _) ?_))
    refine bodyPost_ret (v := .tuple #[.agg (str p).toArray, .int .i64 0]) ?_ rfl ⟨rfl, (T2.out.putRes p).below⟩
    exact (VB.ret2 (cs := str p) rfl rfl (aggS _) sizeS (T2.out.putRes p).res).trans rfl
  · rw [retP_no h0]
    rw [h1] at CW
    clear h0 h1
    generalize wdv (parts n) = v at *
    generalize parts n = p at *
    unfold stv at *
    go_enter Tryz.func106, Tryz.ntmps106
    go_wp2_with (first
      | (go_at_call 153; refine (CP _).mono ?_; rintro e w1 ⟨rfl, b1⟩; have T := Lib.hid (two_new w w1 b1); clear b1)
      | ((with_reducible show wpList _ _ _ (⟨none, .store _ (.tmp 4) _, _, _, _, _⟩ :: _) _ _); refine VB.store rfl _ _ rfl w1.heap.size (str p) rfl rfl T.out.box sizeS rfl (str_one _) ?_; have T1 := Lib.hid (T.out.putBox p); generalize (w1.alloc zob).setRow w1.heap.size (str p).toArray = W1 at *; obtain ⟨c0, c1, c2, c3⟩ := st_cells T1.out.box)
      | (go_at_call 84; refine (CW _).mono ?_; rintro e w2 ⟨rfl, b2⟩; have T2 := Lib.hid (T1.out.on b2); clear b2 c0 c1 c2 c3)
      | ((with_reducible show wpList _ _ _ (⟨none, .store _ (.tmp 2) _, _, _, _, _⟩ :: _) _ _); refine VB.store rfl _ _ rfl w.heap.size (str zer) rfl rfl T2.out.res sizeS rfl (str_one _) ?_))
    refine bodyPost_ret (v := .tuple #[.agg (str zer).toArray, .int .i64 3]) ?_ rfl ⟨rfl, (T2.out.putRes zer).below⟩
    exact (VB.ret2 (cs := str zer) rfl rfl (aggS _) sizeS (T2.out.putRes zer).res).trans rfl
  · rw [retP_no h0]
    rw [h1] at CW
    clear h0 h1
    generalize wdv (parts n) = v at *
    generalize parts n = p at *
    unfold stv at *
    go_enter Tryz.func106, Tryz.ntmps106
    go_wp2_with (first
      | (go_at_call 153; refine (CP _).mono ?_; rintro e w1 ⟨rfl, b1⟩; have T := Lib.hid (two_new w w1 b1); clear b1)
      | ((with_reducible show wpList _ _ _ (⟨none, .store _ (.tmp 4) _, _, _, _, _⟩ :: _) _ _); refine VB.store rfl _ _ rfl w1.heap.size (str p) rfl rfl T.out.box sizeS rfl (str_one _) ?_; have T1 := Lib.hid (T.out.putBox p); generalize (w1.alloc zob).setRow w1.heap.size (str p).toArray = W1 at *; obtain ⟨c0, c1, c2, c3⟩ := st_cells T1.out.box)
      | (go_at_call 84; refine (CW _).mono ?_; rintro e w2 ⟨rfl, b2⟩; have T2 := Lib.hid (T1.out.on b2); clear b2 c0 c1 c2 c3)
      | ((with_reducible show wpList _ _ _ (⟨none, .store _ (.tmp 2) _, _, _, _, _⟩ :: _) _ _); refine VB.store rfl _ _ rfl w.heap.size (str zer) rfl rfl T2.out.res sizeS rfl (str_one _) ?_))
    refine bodyPost_ret (v := .tuple #[.agg (str zer).toArray, .int .i64 3]) ?_ rfl ⟨rfl, (T2.out.putRes zer).below⟩
    exact (VB.ret2 (cs := str zer) rfl rfl (aggS _) sizeS (T2.out.putRes zer).res).trans rfl
end Ss
end Go.Proofs.YtpoededbmdffpaaGreatDoor
