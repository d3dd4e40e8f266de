/-
  What headReject and Name of package frame do: contracts by walking the Go text. Conditions: where the bytes lie; that the table of names holds the names.
-/
import Derived.Test.YtpamegkbhdbheaaJWordStep2
namespace Go.Proofs.Ytpamegkbhdbheaa
set_option maxRecDepth 100000
open Go.ChangeShapes Go.WideShapes Go.ChangeAt Go.RowKit Go.Deep
namespace Fm
open Wd
open Cr (Bytes)

/-- The first reject that holds ahead of the sum. -/
def hrej (c : Int) (is : Bool) (b : List Int) : Int :=
  if is = false then 1 else if b.length ≠ 38 then 2 else if b.getD 0 0 ≠ 165 then 3 else if b.getD 1 0 ≠ c then 4 else 0
theorem hrej_rej (c : Int) (is : Bool) (b : List Int) : rej c is b = if hrej c is b = 0 then (if Cr.opens b = true then 0 else 5) else hrej c is b := by
  unfold hrej rej
  generalize b.getD 0 0 = x
  generalize b.getD 1 0 = y
  generalize Cr.opens b = o
  by_cases h0 : is = false
  · rw [if_pos h0, if_pos h0, if_neg (by omega)]
  · rw [if_neg h0, if_neg h0]
    by_cases h1 : b.length ≠ 38
    · rw [if_pos h1, if_pos h1, if_neg (by omega)]
    · rw [if_neg h1, if_neg h1]
      by_cases h2 : x ≠ 165
      · rw [if_pos h2, if_pos h2, if_neg (by omega)]
      · rw [if_neg h2, if_neg h2]
        by_cases h3 : y ≠ c
        · rw [if_pos h3, if_pos h3, if_neg (by omega)]
        · rw [if_neg h3, if_neg h3, if_pos rfl]
          cases o <;> rfl
theorem hrej_fine {c : Int} {is : Bool} {b : List Int} (h : hrej c is b = 0) : is = true ∧ b.length = 38 ∧ b.getD 0 0 = 165 ∧ b.getD 1 0 = c := by
  unfold hrej at h
  cases is
  · simp at h
  · refine ⟨rfl, ?_⟩
    by_cases h1 : b.length = 38
    · by_cases h2 : b.getD 0 0 = 165
      · by_cases h3 : b.getD 1 0 = c
        · exact ⟨h1, h2, h3⟩
        · rw [if_neg (by simp), if_neg (by simp [h1]), if_neg (by simpa using h2), if_pos h3] at h; cases h
      · rw [if_neg (by simp), if_neg (by simp [h1]), if_pos h2] at h; cases h
    · rw [if_neg (by simp), if_pos h1] at h; cases h

set_option maxHeartbeats 800000 in
theorem head_any (c : Int) (is : Bool) (a : Option Addr) (cap : Nat) (l : List Int) (w : World) (hy : Bytes l) (hb : IntsAt .u8 w a l) :
    Calls Try.prog 33 #[.int .i64 c, .agg #[.bool is, .slice a l.length cap]] w fun e w' => e = .returned (.int .i64 (hrej c is l)) ∧ Below w.heap.size w w' := by
  have BA := Lib.hid ((Below.refl w.heap.size w).alloc (Nat.le_refl _) (.cells #[.bool is, .slice a l.length cap] 44))
  cases is
  · have HF := Lib.hid (show hrej c false l = 1 by unfold hrej; simp)
    clear hb hy
    generalize l.length = n at *
    go_enter Try.func33, Try.ntmps33
    go_wp2
    go_ret
    exact ⟨ret_int HF.out.symm, BA.out⟩
  · by_cases h1 : l.length = 38
    · rcases hb with hnil | ⟨b, off, rfl, hc⟩
      · rw [hnil] at h1; simp at h1
      have c0 := hc 0 (by omega)
      have c1 := hc 1 (by omega)
      have hbl := cell_lt c0
      have hy1 := hy.getD 1
      rw [Nat.add_zero] at c0
      have HR := Lib.hid (show hrej c true l = if l.getD 0 0 ≠ 165 then 3 else if l.getD 1 0 ≠ c then 4 else 0 by unfold hrej; rw [if_neg (by simp), if_neg (by simp [h1])])
      rw [h1] at *
      clear hc hy
      generalize l.getD 0 0 = x at *
      generalize l.getD 1 0 = y at *
      have c0' : (w.alloc (.cells #[.bool true, .slice (some ⟨b, off, none⟩) 38 cap] 44)).cell? ⟨b, off, none⟩ = some (.int .u8 x) := by
        rw [(Below.refl w.heap.size w |>.alloc (Nat.le_refl _) _).cell (p := ⟨b, off, none⟩) hbl]; exact c0
      have c1' : (w.alloc (.cells #[.bool true, .slice (some ⟨b, off, none⟩) 38 cap] 44)).cell? ⟨b, off + 1, none⟩ = some (.int .u8 y) := by
        rw [(Below.refl w.heap.size w |>.alloc (Nat.le_refl _) _).cell (p := ⟨b, off + 1, none⟩) hbl]; exact c1
      by_cases h2 : x = 165
      · subst h2
        by_cases h3 : y = c
        · subst h3
          have HF := Lib.hid (show hrej y true l = 0 by rw [HR.out, if_neg (by simp), if_neg (by simp)])
          clear HR
          go_enter Try.func33, Try.ntmps33
          go_wp2
          go_ret
          exact ⟨ret_int HF.out.symm, BA.out⟩
        · have HF := Lib.hid (show hrej c true l = 4 by rw [HR.out, if_neg (by simp), if_pos h3])
          have d : (y != c) = true := by simpa using h3
          clear HR
          go_enter Try.func33, Try.ntmps33
          go_wp2
          go_ret
          exact ⟨ret_int HF.out.symm, BA.out⟩
      · have HF := Lib.hid (show hrej c true l = 3 by rw [HR.out, if_pos h2])
        have d : (x != 165) = true := by simpa using h2
        clear HR
        go_enter Try.func33, Try.ntmps33
        go_wp2
        go_ret
        exact ⟨ret_int HF.out.symm, BA.out⟩
    · have HF := Lib.hid (show hrej c true l = 2 by unfold hrej; simp [h1])
      have d : ((l.length : Int) != 38) = true := by simp; omega
      clear hb hy
      generalize l.length = n at *
      go_enter Try.func33, Try.ntmps33
      go_wp2
      go_ret
      exact ⟨ret_int HF.out.symm, BA.out⟩

/-- The names, by number; the table of names in memory. -/
def names : List (List UInt8) := [[102, 105, 110, 101], [97, 98, 115, 101, 110, 116], [108, 101, 110, 103, 116, 104], [115, 121, 110, 99], [111, 116, 104, 101, 114], [115, 117, 109], [115, 116, 97, 108, 101]]
def nameOf (r : Int) : ByteArray := if 0 ≤ r then ⟨(names.getD r.toNat []).toArray⟩ else ⟨#[]⟩
theorem ret_str {a b : ByteArray} (h : a = b) : Ending.returned (.string a) = .returned (.string b) := by rw [h]
theorem nameOf_no {r : Int} (h : r < 0 ∨ 7 ≤ r) : nameOf r = ⟨#[]⟩ := by
  unfold nameOf
  split
  · have : names.getD r.toNat [] = [] := by
      rw [List.getD_eq_getElem?_getD, List.getElem?_eq_none (by show 7 ≤ r.toNat; omega)]; rfl
    rw [this]
  · rfl

end Fm
end Go.Proofs.Ytpamegkbhdbheaa
