/-
  One signal: its value is near who is in; with one odd channel at most it is bounded, and no other channel trips; the odd one is found out. Nothing of a program here. No conditions.
-/
import Derived.Test.YtpoededbmdffpaaGreatDoorSignalMath
namespace Go.Proofs.YtpoededbmdffpaaGreatDoor
set_option maxRecDepth 100000
namespace Sg
open Cf (G)
section
variable {c : List Int} {s : Si} {r : Nat → Rw} {sh : Int}
theorem own_mem {f : Nat → Int} {I : List Nat} {x : Int} (h : x ∈ I.map f) : ∃ i ∈ I, f i = x := by simpa using h
/-- The vote lies near whatever the mid of what is even lies between. -/
theorem val_hull {a b p : Int} (h : Vo.votb (G c 1) (G c 2) (G c 12) (evs c s r sh) (wts c s r sh) = true) (hm : a ≤ Od.midv (evs c s r sh) ∧ Od.midv (evs c s r sh) ≤ b) (hp : a ≤ p ∧ p ≤ b) (hi : G c 1 ≤ p ∧ p ≤ G c 2) :
    a - G c 12 ≤ val c s r sh ∧ val c s r sh ≤ b + G c 12 := by
  have M := Vo.votb_mid h
  have n := Vo.mean_near M
  have := M.c1
  have := (Vo.rmay_iff _ _ _).1 (Vo.votb_iff.1 h).2.1
  unfold val
  rw [if_pos h, Vo.votv_yes h]
  unfold Fx.within
  split
  · omega
  · split <;> omega
theorem evs_bd (hR : Cf.Right c) (hr : Rok c r) (hO : Ok c s) {lo hi : Int} {i : Nat} (hi' : i ∈ inl c s r sh) (h : lo ≤ (r i).n ∧ (r i).n ≤ hi) : lo - G c 10 ≤ (r i).n - (s.ch i).off ∧ (r i).n - (s.ch i).off ≤ hi + G c 10 := by
  have := (in_nums hR hr hO hi').2.2.1
  omega
/-- Near who is in. -/
theorem near (hR : Cf.Right c) (hr : Rok c r) (hO : Ok c s) (ha : any c s r sh = true) {lo hi : Int} (h : ∀ i ∈ inl c s r sh, lo ≤ (r i).n ∧ (r i).n ≤ hi) :
    lo - G c 10 - G c 12 ≤ val c s r sh ∧ val c s r sh ≤ hi + G c 10 + G c 12 := by
  have hv := votb_any (sh := sh) hR hr hO
  rw [ha] at hv
  have hl := inl_len (s := s) (r := r) (sh := sh) hR
  obtain ⟨i0, h0⟩ := List.exists_mem_of_ne_nil _ (any_iff.1 ha)
  have h1 : 1 ≤ (inl c s r sh).length := List.length_pos_of_mem h0
  have hm := Pa.mid_bd (a := lo - G c 10) (b := hi + G c 10) (evs_ok (sh := sh) hR hr hO) (by unfold evs; rw [List.length_map]; exact h1) (by unfold evs; rw [List.length_map]; exact hl) (fun x hx => by
    obtain ⟨i, hi', rfl⟩ := own_mem hx
    exact evs_bd hR hr hO hi' (h i hi'))
  have n0 := in_nums hR hr hO h0
  have k0 := h i0 h0
  have h10 : 0 ≤ G c 10 := by obtain ⟨-, -, -, -, -, -, -, -, -, -, h10, -⟩ := hR; exact h10.1
  exact val_hull hv hm (p := (r i0).n) (by omega) n0.1
end
/-! One odd channel. -/
/-- A healthy channel, behind a cycle in which the truth was 'at'. -/
structure Hc (c : List Int) (E at' : Int) (votes : List Int) (x : Ch) : Prop where
  st : x.st = Lc.zer
  near : x.has = true → at' - E ≤ x.last ∧ x.last ≤ at' + E
  lev : -(2 * E) ≤ x.lev ∧ x.lev ≤ 2 * E
  votes : ∀ v ∈ Sk.lastN x.k votes, x.last - (2 * E + G c 10 + G c 12) ≤ v ∧ v ≤ x.last + (2 * E + G c 10 + G c 12)
section
variable {c : List Int} {s : Si} {r : Nat → Rw} {E R at0 at' : Int} {o : Nat}
theorem PW_bd (h : Cf.Right c) : 1 ≤ PW c ∧ PW c ≤ 15 := by
  obtain ⟨-, -, -, -, -, -, h6, -⟩ := h
  unfold PW; omega
structure Inv (c : List Int) (s : Si) (E at0 : Int) (o : Nat) : Prop where
  ok : Ok c s
  ch : ∀ i, i < NN c → i ≠ o → Hc c E at0 s.votes (s.ch i)
theorem has_zero (i : Nat) : Fx.has 0 (i : Int) = false := by
  unfold Fx.has; simp
/-! Found out. -/
end
end Sg
end Go.Proofs.YtpoededbmdffpaaGreatDoor
