/-
  What bytes.Clone does: its contract by walking the Go text. Conditions: where the bytes lie, and that they are as many as memory holds.
-/
import Derived.Test.YtpamegkbhdbheaaSceneLie
import Derived.Test.YtpamegkbhdbheaaJCrcStep3
import Derived.Test.YtpamegkbhdbheaaAppend
namespace Go.Proofs.Ytpamegkbhdbheaa
set_option maxRecDepth 100000
open Go.ChangeShapes Go.WideShapes Go.ChangeAt Go.RowKit Go.Deep
namespace Sc

theorem own_ret {k : IntKind} {base : Nat} {te : TypeId} {w W : World} {v : Value} {l : List Int} (h : OwnI k base te W v l) (b : Below w.heap.size w W) : Cr.RetC k w l (.returned v) W := by
  obtain ⟨a, cap, rfl, hi, hc, -⟩ := h.form2
  exact ⟨a, cap, rfl, hi, hc, b⟩
set_option maxHeartbeats 1600000 in
theorem clone_any (a : Option Addr) (cap : Nat) (l : List Int) (w : World) (hm : l.length ≤ 140737488351232) (hc : l.length ≤ cap) (hz : a = none → cap = 0) (hb : IntsAt .u8 w a l) :
    Calls Try.prog 38 #[.slice a l.length cap] w (Cr.RetC .u8 w l) := by
  rcases a with _ | ad
  · have hl : l = [] := by
      rcases hb with h | ⟨b, off, h, -⟩
      · exact h
      · cases h
    subst hl
    obtain rfl := hz rfl
    have E0 : ∀ W, (binOp BinOp.eql 42 (.slice none 0 0) (.slice none 0 0)).run Try.prog W = .ok (.bool true) W := fun W => by kernel_rfl
    go_enter Try.func38, Try.ntmps38
    go_wp2_with fail
    go_ret
    exact ⟨none, 0, rfl, Or.inl rfl, Nat.le_refl _, Below.refl _ _⟩
  · have HB := Lib.hid hb
    have h1 : l.length ≤ maxLen := by unfold maxLen; omega
    clear hb
    have E0 : ∀ n W, (binOp BinOp.eql 42 (.slice (some ad) n cap) (.slice none 0 0)).run Try.prog W = .ok (.bool false) W := fun n W => by kernel_rfl
    generalize hn : l.length = n at *
    have HN := Lib.hid hn
    clear hn
    go_enter Try.func38, Try.ntmps38
    go_wp2_with ((with_reducible show wpList _ _ _ (⟨some 7, _, _, _, _, _⟩ :: _) _ _); refine wpList_appendI rfl (.tmp 5) (.tmp 6) _ rfl .u8 w.heap.size 5 1 Try.underlying42 Cr.byteInfo _ [] (some ad) n cap l rfl rfl HN.out (OwnI.lit0 (Nat.le_refl _)) (HB.out.below ((Below.refl _ _).alloc (Nat.le_refl _) _)) (by simp [HN.out]; omega) (by simp [HN.out]; omega) w ((Below.refl _ _).alloc (Nat.le_refl _) _) (Nat.le_refl _) ?_; intro v4 w4 O4' B4'; have O4 := Lib.hid O4'; have B4 := Lib.hid B4'; clear O4' B4')
    go_ret
    exact own_ret O4.out B4.out
end Sc
end Go.Proofs.Ytpamegkbhdbheaa
