/-
  The walk of the law JumpPlays: for all numbers and values it returns true, and writes nothing that was there. Its conditions: how the values lie.
-/
import Derived.Test.YtchbnaaglichkaaJumpAlive
import Derived.Test.YtchbnaaglichkaaJumpRefCome
import Derived.Test.YtchbnaaglichkaaMany
import Derived.Deep.LoopGhost
namespace Go.Proofs.Ytchbnaaglichkaa
open Go.ChangeShapes Go.WideShapes Go.ChangeAt Go.RowKit Go.Deep
namespace Jp
open Mn

/-- Both watches, while the values are gone through. -/
structure Plays (w W : World) (g1 g2 : Nat) (lo hi step last : Int) (has : Bool) : Prop where
  below : Below w.heap.size w W
  t1 : VRow W g1 43 (wat lo hi step last has)
  t2 : RW W g2 lo hi step last has
  ge1 : w.heap.size ≤ g1
  ge2 : w.heap.size ≤ g2
  ne : g1 ≠ g2
  val : has = true → val last = true
  zero : has = false → last = 0
section
variable {w W W1 W2 : World} {g1 g2 : Nat} {lo hi step last : Int} {has : Bool}
theorem plays_start (w W : World) (lo hi step : Int) (b : Below w.heap.size w W) :
    Plays w ((W.alloc (.cells (wat lo hi step 0 false).toArray 43)).alloc (.cells (rwt lo hi step (.slice none 0 0)).toArray 46)) W.heap.size (W.heap.size + 1) lo hi step 0 false := by
  have hz := b.size
  have h2 := rw_new (W.alloc (.cells (wat lo hi step 0 false).toArray 43)) lo hi step 0
  rw [show (W.alloc (.cells (wat lo hi step 0 false).toArray 43)).heap.size = W.heap.size + 1 by simp] at h2
  have b1 := b.alloc hz (.cells (wat lo hi step 0 false).toArray 43)
  exact ⟨b1.alloc b1.size _, (VRow.new W (wat lo hi step 0 false) _).alloc _, h2, hz, by omega, by omega, fun h => by (cases h), fun _ => rfl⟩
theorem Plays.on (P : Plays w W g1 g2 lo hi step last has) (b : Below W.heap.size W W1) : Plays w W1 g1 g2 lo hi step last has :=
  ⟨grow P.below b, P.t1.below b P.t1.lt, P.t2.below b, P.ge1, P.ge2, P.ne, P.val, P.zero⟩
theorem Plays.past (P : Plays w W g1 g2 lo hi step last has) (o1 : Only g1 W W1) : RW W1 g2 lo hi step last has := P.t2.past P.t1 o1 (Ne.symm P.ne)
theorem Plays.come (P : Plays w W g1 g2 lo hi step last has) (n : Int) (o1 : Only g1 W W1) (h1 : VRow W1 g1 43 (wat lo hi step (cl last n) (ch has n))) (o2 : Only g2 W1 W2) (h2 : RW W2 g2 lo hi step (cl last n) (ch has n)) :
    Plays w W2 g1 g2 lo hi step (cl last n) (ch has n) := by
  have B1 := o1.below P.below P.below.size P.ge1
  refine ⟨o2.below B1 B1.size P.ge2, h1.only o2 P.ne, h2, P.ge1, P.ge2, P.ne, fun h => ?_, fun h => ?_⟩
  · cases hn : Jp.val n
    · rw [ch_no hn] at h; rw [cl_no hn]; exact P.val h
    · rw [cl_yes hn]; exact hn
  · cases hn : Jp.val n
    · rw [ch_no hn] at h; rw [cl_no hn]; exact P.zero h
    · rw [ch_yes hn] at h; cases h
theorem Plays.miss (P : Plays w W g1 g2 lo hi step last has) (o1 : Only g1 W W1) (h1 : VRow W1 g1 43 (wat lo hi step 0 false)) (o2 : Only g2 W1 W2) (h2 : RW W2 g2 lo hi step 0 false) : Plays w W2 g1 g2 lo hi step 0 false := by
  have B1 := o1.below P.below P.below.size P.ge1
  exact ⟨o2.below B1 B1.size P.ge2, h1.only o2 P.ne, h2, P.ge1, P.ge2, P.ne, fun h => by (cases h), fun _ => rfl⟩
end
end Jp
namespace jumpPlays
open Jp Mn
set_option maxRecDepth 100000 in
set_option maxHeartbeats 6400000 in
theorem walk (lo hi step : Int) (a : Option Addr) (cap : Nat) (ls : List (List Value)) (w : World) (_w0 : (Lit.int .i64 lo).wf = true) (_w1 : (Lit.int .i64 hi).wf = true) (_w2 : (Lit.int .i64 step).wf = true) (hm : ls.length ≤ cap) (hb : ManyAt w a [.bool, .int .i64] ls) :
    Calls Try.prog 3 #[.agg #[.int .i64 lo, .int .i64 hi, .int .i64 step], .slice a ls.length cap] w fun e w' => e = .returned (.bool true) ∧ Below w.heap.size w w' := by
  have AL := fun W => alive_any W
  have B0 := Lib.hid ((Below.refl w.heap.size w).alloc (Nat.le_refl _) (.cells #[.int .i64 lo, .int .i64 hi, .int .i64 step] 22))
  clear _w0 _w1 _w2
  by_cases hlen : 200 < ls.length
  · have d : decide (200 < (ls.length : Int)) = true := by simp; omega
    clear hb hlen
    generalize ls.length = m at *
    go_enter Try.func3, Try.ntmps3
    go_wp2_with fail
    refine (AL _).mono ?_; rintro e w2 ⟨rfl, b2⟩
    go_wp2
    go_ret
    exact ⟨rfl, grow B0.out b2⟩
  · have d : decide (200 < (ls.length : Int)) = false := by simp; omega
    have h200 : ls.length ≤ 200 := by omega
    have HS := Lib.hid hb
    clear hb hlen
    generalize hn : ls.length = m at *
    have HN := Lib.hid hn
    clear hn
    cases hmay : may lo hi step
    · have CN := fun W => new_no lo hi step W hmay
      have CM := fun W => rmay_any lo hi step W
      rw [hmay] at CM
      clear hmay
      go_enter Try.func3, Try.ntmps3
      go_wp2_with fail
      refine (CN _).mono ?_; rintro e w1 ⟨rfl, rfl⟩
      go_wp2_with fail
      refine (CM _).mono ?_; rintro e w2 ⟨rfl, rfl⟩
      go_wp2_with fail
      refine (AL _).mono ?_; rintro e w3 ⟨rfl, b3⟩
      go_wp2
      go_ret
      exact ⟨rfl, grow B0.out b3⟩
    · have CN := fun W => new_yes lo hi step W hmay
      have CM := fun W => rmay_any lo hi step W
      have CB := fun W => begin_any lo hi step W
      rw [hmay] at CM
      have hst := ((may_iff _ _ _).1 hmay).2.2.2.1
      clear hmay
      go_enter Try.func3, Try.ntmps3
      go_wp2_with fail
      refine (CN _).mono ?_; rintro e w1 ⟨rfl, rfl⟩
      go_wp2_with fail
      refine (CM _).mono ?_; rintro e w2 ⟨rfl, rfl⟩
      go_wp2_with fail
      refine (CB _).mono ?_; rintro e w3 ⟨rfl, rfl⟩
      have P0 := Lib.hid (plays_start w _ lo hi step B0.out)
      rw [show (w.alloc (.cells #[.int .i64 lo, .int .i64 hi, .int .i64 step] 22)).heap.size = w.heap.size + 1 by simp] at P0
      rw [show ((w.alloc (.cells #[.int .i64 lo, .int .i64 hi, .int .i64 step] 22)).alloc (.cells (wat lo hi step 0 false).toArray 43)).heap.size = w.heap.size + 1 + 1 by simp]
      generalize ((w.alloc (.cells #[.int .i64 lo, .int .i64 hi, .int .i64 step] 22)).alloc (.cells (wat lo hi step 0 false).toArray 43)).alloc (.cells (rwt lo hi step (.slice none 0 0)).toArray 46) = W0 at P0 ⊢
      generalize w.heap.size + 1 + 1 = g2 at P0 ⊢
      generalize w.heap.size + 1 = g1 at P0 ⊢
      clear CN CM CB
      go_wp2_with fail
      go_loopg [9] m (fun gg s9 wr => ∃ (k : Nat) (last : Int) (has : Bool), k + gg = m ∧ s9 = .int .i64 k ∧ Hid (Plays w wr g1 g2 lo hi step last has))
      case atStart => exact ⟨0, 0, false, by omega, rfl, P0⟩
      case round =>
        obtain ⟨k, last, has, hk, rfl, P⟩ := hrel
        clear P0 B0
        by_cases hlt : k < m
        · have hli : (k : Int) < m := by omega
          obtain ⟨b, off, rfl, hat⟩ := HS.out.some (by have := HN.out; omega)
          have hlt' : k < ls.length := by have := HN.out; omega
          obtain ⟨r, hr⟩ : ∃ r, ls[k]? = some r := ⟨_, List.getElem?_eq_getElem hlt'⟩
          have hok := (show RowOk w b (off + k * 2) [.bool, .int .i64] r from hat k r hr)
          have HO := Lib.hid hok
          obtain ⟨_, _, _, e0, e1, ⟨is, rfl⟩, n, rfl, _⟩ := hok.two
          have E1 := Lib.hid e1
          have c0 := (P.out.below.cell (p := ⟨b, off + k * 2, none⟩) (cell_lt e0)).trans e0
          have c1 := (P.out.below.cell (p := ⟨b, off + k * 2 + 1, none⟩) (cell_lt e1)).trans e1
          clear hat hr hok e0 e1 hlt'
          cases is
          · have CC := fun W h => come_any g1 lo hi step last has n W h P.out.val hst
            have RC := fun W h => rcome_any g2 lo hi step last has n W h P.out.val
            have PC := Lib.hid (fun W1 W2 => Plays.come (W1 := W1) (W2 := W2) P.out n)
            generalize ct lo hi step last has n = X at *
            generalize ce n = Y at *
            generalize cl last n = L at *
            generalize ch has n = H at *
            go_wp2_with fail
            refine (CC _ P.out.t1).mono ?_; rintro e w1 ⟨rfl, t1, o1⟩
            have B1 := o1.below P.out.below P.out.below.size P.out.ge1
            have c1' := (B1.cell (p := ⟨b, off + k * 2 + 1, none⟩) (cell_lt E1.out)).trans E1.out
            have R1 := Lib.hid (P.out.past o1)
            have PC1 := Lib.hid (fun W2 => PC.out w1 W2 o1 t1)
            clear PC CC c0 c1 o1 t1 B1
            go_wp2_with fail
            refine (RC _ R1.out).mono ?_; rintro e w2 ⟨rfl, r2, o2⟩
            have P2 := Lib.hid (PC1.out w2 o2 r2)
            clear PC1 RC R1 c1' P o2 r2
            have CL := fun W h => last_any g1 lo hi step L H W h
            have RL := fun W h => rlast_any g2 lo hi step L H W h P2.out.zero
            go_wp2_with fail
            refine (CL _ P2.out.t1).mono ?_; rintro e w3 ⟨rfl, b3⟩
            have P3 := Lib.hid (P2.out.on b3)
            clear P2 b3 CL
            go_wp2_with fail
            refine (RL _ P3.out.t2).mono ?_; rintro e w4 ⟨rfl, rfl⟩
            clear RL
            go_wp2
            go_roundg (gk - 1)
            case rel => exact ⟨k + 1, L, H, by omega, by go_num, P3⟩
            case measure => omega
          · have CC := fun W h => miss_any g1 lo hi step last has W h
            have RC := fun W h => rmiss_any g2 lo hi step last has W h
            have PC := Lib.hid (fun W1 W2 => Plays.miss (W1 := W1) (W2 := W2) P.out)
            clear c1
            go_wp2_with fail
            refine (CC _ P.out.t1).mono ?_; rintro e w1 ⟨rfl, t1, o1⟩
            have R1 := Lib.hid (P.out.past o1)
            have PC1 := Lib.hid (fun W2 => PC.out w1 W2 o1 t1)
            clear PC CC c0 o1 t1
            go_wp2_with fail
            refine (RC _ R1.out).mono ?_; rintro e w2 ⟨rfl, r2, o2⟩
            have P2 := Lib.hid (PC1.out w2 o2 r2)
            clear PC1 RC R1 P o2 r2
            have CL := fun W h => last_any g1 lo hi step 0 false W h
            have RL := fun W h => rlast_any g2 lo hi step 0 false W h (fun _ => rfl)
            go_wp2_with fail
            refine (CL _ P2.out.t1).mono ?_; rintro e w3 ⟨rfl, b3⟩
            have P3 := Lib.hid (P2.out.on b3)
            clear P2 b3 CL
            go_wp2_with fail
            refine (RL _ P3.out.t2).mono ?_; rintro e w4 ⟨rfl, rfl⟩
            clear RL
            go_wp2
            go_roundg (gk - 1)
            case rel => exact ⟨k + 1, 0, false, by omega, by go_num, P3⟩
            case measure => omega
        · obtain rfl : k = m := by omega
          have CM := fun W => miss_nil W
          have CC := fun W => come_nil 0 W
          have CL := fun W => last_nil W
          have BB := Lib.hid P.out.below
          clear P HS
          go_wp2_with fail
          refine (CM _).mono ?_; rintro e w1 ⟨rfl, rfl⟩
          go_wp2_with fail
          refine (CC _).mono ?_; rintro e w1 ⟨rfl, rfl⟩
          go_wp2_with fail
          refine (CL _).mono ?_; rintro e w1 ⟨rfl, rfl⟩
          go_wp2_with fail
          refine (AL _).mono ?_; rintro e w2 ⟨rfl, b2⟩
          go_wp2
          go_ret
          exact ⟨rfl, grow BB.out b2⟩
end jumpPlays
end Go.Proofs.Ytchbnaaglichkaa
