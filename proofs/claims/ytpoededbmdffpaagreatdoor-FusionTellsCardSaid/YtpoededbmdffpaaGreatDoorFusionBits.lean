/-
  What a fusion tells each cycle, bit by bit: whom it shuts, and who is in. No Go text is reached here. No conditions.
-/
import Derived.Test.YtpoededbmdffpaaGreatDoorFusionMath
namespace Go.Proofs.YtpoededbmdffpaaGreatDoor
set_option maxRecDepth 100000
namespace Fu
open Sg (NN)
theorem mk4_seven {f : Nat → Bool} (h : f 3 = false) : 0 ≤ Sg.mk4 f ∧ Sg.mk4 f ≤ 7 := by
  unfold Sg.mk4
  rw [h]
  refine ⟨?_, ?_⟩ <;> split <;> split <;> split <;> simp <;> omega
section
variable {c : List Int} {m : Fs} {y : Nat → Sl} {i j : Nat}
theorem sta_in : 0 ≤ (sta c m y j).i ∧ (sta c m y j).i ≤ 15 := Sg.mk4_bd fun i => decide (i < NN c) && Sg.isin c (m.s j) (raw c m y j) (sh c m) i
theorem sta_seven (h : NN c = 3) : (sta c m y j).i ≤ 7 ∧ (sta c m y j).l ≤ 7 :=
  ⟨(mk4_seven (f := fun i => decide (i < NN c) && Sg.isin c (m.s j) (raw c m y j) (sh c m) i) (by simp [h])).2, (mk4_seven (f := fun i => decide (i < NN c) && ((sgn c m y j).ch i).st.la) (by simp [h])).2⟩
theorem shut_bit (hi : i < 4) : ((sh c m).tdiv (2 ^ i)).tmod 2 = if isSh c m i = true then 1 else 0 := Sg.mk4_bit _ hi
theorem in_bit (hi : i < 4) (h : isSh c m i = true) : (((sta c m y j).i).tdiv (2 ^ i)).tmod 2 = 0 := by
  have := Sg.mk4_bit (fun i => decide (i < NN c) && Sg.isin c (m.s j) (raw c m y j) (sh c m) i) hi
  rw [if_neg (by rw [shut_out hi h]; simp)] at this
  exact this
theorem more_notes : (Rg.lasts m.notes).length + Rg.lost m.notes ≤ (Rg.lasts (nx c m y).notes).length + Rg.lost (nx c m y).notes := by
  rw [Rg.lasts_len, Rg.lasts_len]
  have : (nx c m y).notes.length = m.notes.length + (nts c m y (NN c)).length := by unfold nx; simp
  unfold Rg.lost
  omega
theorem out_v (hj : j < 8) : (out c m y).v.getD j 0 = vls c m y j := by unfold out; simp [List.getD_eq_getElem?_getD, hj]
theorem out_s (hj : j < 8) : (out c m y).s.getD j Ss.zer = sta c m y j := by unfold out; simp [List.getD_eq_getElem?_getD, hj]
theorem out_q (hk : m.k < 65536) : (out c m y).q = (m.k : Int) := by
  show (m.k : Int) % 65536 = m.k
  omega
end
end Fu
end Go.Proofs.YtpoededbmdffpaaGreatDoor
