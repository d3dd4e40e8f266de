/-
  What Text of package trip returns, for every number: a contract by walking the Go text. Condition: the table of trips lies in memory as the text lays it.
-/
import Derived.Test.YtpoededbmdffpaaGreatDoorTripWalks
import Derived.Test.YtpoededbmdffpaaGreatDoorStrShelf
import Derived.Test.YtpoededbmdffpaaGreatDoorAppend
import Derived.Deep.LoopGhost
namespace Go.Proofs.YtpoededbmdffpaaGreatDoor
set_option maxRecDepth 100000
open Go.ChangeShapes Go.WideShapes Go.ChangeAt Go.RowKit Go.Deep
namespace Tp
open Fx
/-- The table of trips, where it lies. -/
def TabAt (w : World) : Prop := ∀ i, i < 6 → w.cell? ⟨0, 2 * i, none⟩ = some (.int .i64 (2 ^ i)) ∧ w.cell? ⟨0, 2 * i + 1, none⟩ = some (.string ⟨(nm i).toArray⟩)
theorem TabAt.below {w w' : World} (h : TabAt w) (hb : Below w.heap.size w w') : TabAt w' := fun i hi => by
  obtain ⟨h1, h2⟩ := h i hi
  exact ⟨(hb.cell (p := ⟨_, 2 * i, none⟩) (cell_lt h1)).trans h1, (hb.cell (p := ⟨_, 2 * i + 1, none⟩) (cell_lt h2)).trans h2⟩
/-- A row of texts that a call has made for itself. -/
def strs (l : List (List UInt8)) : List Value := l.map fun s => .string ⟨s.toArray⟩
theorem strs_app (l r : List (List UInt8)) : strs (l ++ r) = strs l ++ strs r := by simp [strs]
theorem strs_len (l : List (List UInt8)) : (strs l).length = l.length := by simp [strs]
def OwnS (base : Nat) (t : TypeId) (w : World) (v : Value) (l : List (List UInt8)) : Prop := w.ownsRow base t 1 v l.length (strs l)
theorem OwnS.blk {base : Nat} {t : TypeId} {w : World} {v : Value} {l : List (List UInt8)} (h : OwnS base t w v l) : ∀ j, v.ownBlock = some j → base ≤ j := fun j hj => (World.ownsRow.lt h j hj).1
theorem OwnS.alloc {base : Nat} {t : TypeId} {w : World} {v : Value} {l : List (List UInt8)} (h : OwnS base t w v l) (o : Obj) : OwnS base t (w.alloc o) v l := World.ownsRow.alloc h o
section
variable {P : Program}
/-- append(out, s) of one text, out the call's own row (nil or not). -/
theorem wpList_append1S {wr : World} {ops : Array Oper} {rest : List Oper} {o : Oper} {a : Act} {Q : Exit → Act → World → Prop} (hgd : o.guard = none) (s x : Operand) (t : TypeId)
    (ho : o.op = .call { callee := .builtin .append, args := #[s, x], argTypes := #[t, t] })
    (base : Nat) (e : TypeId) (bytes : Nat) (ht : P.underlying t = some (.slice e)) (hi : (P.info? e).map (fun i => (i.zero, i.size, i.bytes)) = some (some (.string ⟨#[]⟩), 1, bytes))
    (v : Value) (l : List (List UInt8)) (y : List UInt8) (te : TypeId) (hs : a.eval s = v) (hx : a.eval x = .slice (some ⟨wr.heap.size, 0, none⟩) 1 1) (hown : OwnS base e wr v l)
    (hl : l.length < 1099511627776) (hby : bytes ≤ 64) (w0 : World) (hb : Below base w0 wr) (hbase : base ≤ w0.heap.size)
    (h : ∀ v' w', OwnS base e w' v' (l ++ [y]) → Below base w0 w' → wpList P ops Q rest (a.put o.dst v') w') :
    wpList P ops Q (o :: rest) a (wr.alloc (.cells #[.string ⟨y.toArray⟩] te)) := by
  obtain ⟨i0, hi0, hz0, hz1, hz2⟩ := info_parts hi
  have hsz := hb.size
  refine wpList_append_own _ hgd s x t ho base e i0 _ 1 bytes ht hi0 hz0 hz1 hz2 rfl (by omega) v l.length (strs l) hs (hown.alloc _) ⟨wr.heap.size, 0, none⟩ 1 1 [.string ⟨y.toArray⟩] hx rfl ?_ ?_ (by unfold maxLen; omega) ?_ (by simp; omega) ?_
  · intro j u hj
    match j, hj with
    | 0, hj => simp at hj; subst hj; simp [Addr.add]
  · intro u hu; simp at hu; subst hu; rfl
  · calc (l.length + 1) * bytes ≤ 1099511627776 * 64 := Nat.mul_le_mul (by omega) hby
      _ ≤ 140737488355328 := by omega
  · intro v' w' h1 h2 _
    refine h v' w' ?_ ?_
    · unfold OwnS; rw [strs_app, List.length_append]; exact h1
    · exact (hb.alloc (by omega) _).grown h2 (by simp; omega) (fun j hj => hown.blk j hj)
end
/-- The names that have come, of the first k trips. -/
def pz (m : Int) (k : Nat) : List (List UInt8) := ((List.range k).filter fun i => inn m (2 ^ i)).map nm
theorem pz_yes {m : Int} {k : Nat} (h : inn m (2 ^ k) = true) : pz m (k + 1) = pz m k ++ [nm k] := by
  unfold pz; rw [List.range_succ, List.filter_append, List.filter_cons, if_pos (by simpa using h)]; simp
theorem pz_no {m : Int} {k : Nat} (h : inn m (2 ^ k) = false) : pz m (k + 1) = pz m k := by
  unfold pz; rw [List.range_succ, List.filter_append, List.filter_cons, if_neg (by simp [h])]; simp
theorem pz_len (m : Int) (k : Nat) : (pz m k).length ≤ k := by
  unfold pz; rw [List.length_map]; have := List.length_filter_le (fun i => inn m (2 ^ i)) (List.range k); simpa using this
theorem pz_six (m : Int) : pz m 6 = if 0 ≤ m ∧ m ≤ 63 then parts m.toNat 6 else [] := by
  unfold pz
  by_cases h : 0 ≤ m ∧ m ≤ 63
  · rw [if_pos h]
    unfold parts
    congr 1
    refine List.filter_congr fun i hi => ?_
    have hi' : i < 6 := by simpa using hi
    obtain ⟨q, rfl⟩ : ∃ q : Nat, m = q := ⟨m.toNat, by omega⟩
    rw [in_pow (by omega) hi', Int.toNat_natCast]
  · rw [if_neg h]
    have : ((List.range 6).filter fun i => inn m (2 ^ i)) = [] := List.filter_eq_nil_iff.2 fun i _ => by rw [in_out h]; simp
    rw [this]; rfl
theorem strInfo : (Tryz.prog.info? 9).map (fun i => (i.zero, i.size, i.bytes)) = some (some (.string ⟨#[]⟩), 1, 16) := by kernel_rfl
/-- The texts in Go's own make. -/
def bas (l : List (List UInt8)) : List ByteArray := l.map fun s => ⟨s.toArray⟩
theorem bas_lists (l : List (List UInt8)) : (bas l).map (·.data.toList) = l := by
  unfold bas; rw [List.map_map]
  have : ((fun x : ByteArray => x.data.toList) ∘ fun s : List UInt8 => (⟨s.toArray⟩ : ByteArray)) = id := by funext s; simp
  rw [this, List.map_id]
theorem txt_join {m : Int} (h : m ≠ 0) : txt m = Lib.join (pz m 6) [43] := by
  unfold txt
  rw [pz_six]
  by_cases c : 0 ≤ m ∧ m ≤ 63
  · rw [if_pos c, if_pos c]; unfold tx; rw [if_neg (by omega)]
  · rw [if_neg c, if_neg c]; rfl
theorem tab_short : ((List.range 64).all fun m => decide ((tx m).length ≤ 64)) = true := by decide +kernel
theorem txt_short (m : Int) : (txt m).length ≤ 64 := by
  unfold txt
  split
  · have := List.all_eq_true.1 tab_short m.toNat (List.mem_range.2 (by omega)); simpa using this
  · simp
/-- The table as a value, and one of its rows. -/
def tabv : Array Value := #[.int .i64 1, .string ⟨(nm 0).toArray⟩, .int .i64 2, .string ⟨(nm 1).toArray⟩, .int .i64 4, .string ⟨(nm 2).toArray⟩, .int .i64 8, .string ⟨(nm 3).toArray⟩, .int .i64 16, .string ⟨(nm 4).toArray⟩, .int .i64 32, .string ⟨(nm 5).toArray⟩]
theorem row0 (W : World) : (Instr.index 321 (.agg tabv) (.int .i64 0)).run Tryz.prog W = .ok (.agg #[.int .i64 1, .string ⟨(nm 0).toArray⟩]) W := by kernel_rfl
theorem row1 (W : World) : (Instr.index 321 (.agg tabv) (.int .i64 1)).run Tryz.prog W = .ok (.agg #[.int .i64 2, .string ⟨(nm 1).toArray⟩]) W := by kernel_rfl
theorem row2 (W : World) : (Instr.index 321 (.agg tabv) (.int .i64 2)).run Tryz.prog W = .ok (.agg #[.int .i64 4, .string ⟨(nm 2).toArray⟩]) W := by kernel_rfl
theorem row3 (W : World) : (Instr.index 321 (.agg tabv) (.int .i64 3)).run Tryz.prog W = .ok (.agg #[.int .i64 8, .string ⟨(nm 3).toArray⟩]) W := by kernel_rfl
theorem row4 (W : World) : (Instr.index 321 (.agg tabv) (.int .i64 4)).run Tryz.prog W = .ok (.agg #[.int .i64 16, .string ⟨(nm 4).toArray⟩]) W := by kernel_rfl
theorem row5 (W : World) : (Instr.index 321 (.agg tabv) (.int .i64 5)).run Tryz.prog W = .ok (.agg #[.int .i64 32, .string ⟨(nm 5).toArray⟩]) W := by kernel_rfl
theorem join_own {base : Nat} {W : World} {v : Value} {l : List (List UInt8)} (h : OwnS base 9 W v l) (hn : l.length ≤ 6) (hl : (Lib.join l [43]).length ≤ 64) :
    ∃ a cap, v = .slice a l.length cap ∧ Calls Tryz.prog 230 #[.slice a l.length cap, .string ⟨#[43]⟩] W fun e w' => e = .returned (.string ⟨(Lib.join l [43]).toArray⟩) ∧ Below W.heap.size W w' := by
  rcases h with ⟨hl0, ⟨rfl, h1⟩ | ⟨g, cap, cur, rfl, hb, hh, hc, hm, hr⟩⟩
  · obtain rfl : l = [] := List.eq_nil_of_length_eq_zero h1
    exact ⟨none, 0, rfl, (Sh.strings_Join_none none 0 ⟨#[43]⟩ W).mono fun e w' q => ⟨q.1, q.2 ▸ Below.refl _ _⟩⟩
  · have hw : OwnS base 9 W (.slice (some ⟨g, 0, none⟩) l.length cap) l := ⟨hl0, Or.inr ⟨g, cap, cur, rfl, hb, hh, hc, hm, hr⟩⟩
    have hlt : g < W.heap.size := by
      rcases Nat.lt_or_ge g W.heap.size with hlt | hge
      · exact hlt
      · rw [Array.getElem?_eq_none hge] at hh; cases hh
    refine ⟨_, cap, rfl, ?_⟩
    have J := Sh.strings_Join g 0 cap (bas l) ⟨#[43]⟩ W (fun j x hj => by
      have hj' : j < l.length := by
        have := (List.getElem?_eq_some_iff.1 hj).1
        simpa [bas] using this
      rw [Nat.zero_add, World.ownsRow.cellAt hw j (by omega)]
      unfold bas at hj
      unfold strs
      rw [List.getElem?_map] at hj ⊢
      rw [List.getElem?_eq_getElem hj'] at hj ⊢
      simp only [Option.map_some, Option.some.injEq] at hj ⊢
      rw [hj]) hlt (by simp [bas]; omega) (by simp [bas]; omega) (by rw [bas_lists]; simp; omega)
    rw [bas_lists] at J
    simpa [bas] using J
set_option maxRecDepth 100000 in
set_option maxHeartbeats 2000000 in
theorem text_any (m : Int) (w : World) (hT : TabAt w) :
    Calls Tryz.prog 212 #[.int .i64 m] w fun e w' => e = .returned (.string ⟨(txt m).toArray⟩) ∧ Below w.heap.size w w' := by
  by_cases h0 : m = 0
  · subst h0
    go_enter Tryz.func212, Tryz.ntmps212
    go_wp2
    go_ret
    exact ⟨rfl, Below.refl _ _⟩
  · have HJ := Lib.hid (txt_join h0)
    have d0 : (m == 0) = false := by simpa using h0
    have HT := Lib.hid hT
    have a0 : w.cell? ⟨0, 0, none⟩ = some (.int .i64 1) := (hT 0 (by omega)).1
    have a1 : w.cell? ⟨0, 1, none⟩ = some (.string ⟨(nm 0).toArray⟩) := (hT 0 (by omega)).2
    have a2 : w.cell? ⟨0, 2, none⟩ = some (.int .i64 2) := (hT 1 (by omega)).1
    have a3 : w.cell? ⟨0, 3, none⟩ = some (.string ⟨(nm 1).toArray⟩) := (hT 1 (by omega)).2
    have a4 : w.cell? ⟨0, 4, none⟩ = some (.int .i64 4) := (hT 2 (by omega)).1
    have a5 : w.cell? ⟨0, 5, none⟩ = some (.string ⟨(nm 2).toArray⟩) := (hT 2 (by omega)).2
    have a6 : w.cell? ⟨0, 6, none⟩ = some (.int .i64 8) := (hT 3 (by omega)).1
    have a7 : w.cell? ⟨0, 7, none⟩ = some (.string ⟨(nm 3).toArray⟩) := (hT 3 (by omega)).2
    have a8 : w.cell? ⟨0, 8, none⟩ = some (.int .i64 16) := (hT 4 (by omega)).1
    have a9 : w.cell? ⟨0, 9, none⟩ = some (.string ⟨(nm 4).toArray⟩) := (hT 4 (by omega)).2
    have a10 : w.cell? ⟨0, 10, none⟩ = some (.int .i64 32) := (hT 5 (by omega)).1
    have a11 : w.cell? ⟨0, 11, none⟩ = some (.string ⟨(nm 5).toArray⟩) := (hT 5 (by omega)).2
    clear hT
    have r0 := row0
    have r1 := row1
    have r2 := row2
    have r3 := row3
    have r4 := row4
    have r5 := row5
    unfold tabv at r0 r1 r2 r3 r4 r5
    go_enter Tryz.func212, Tryz.ntmps212
    go_wp2
    go_loopg [3, 5, 9] 6 (fun gg s3 _ s9 wr => ∃ k : Nat, k + gg = 6 ∧ s9 = .int .i64 k ∧ Hid (OwnS w.heap.size 9 wr s3 (pz m k)) ∧ Hid (Below w.heap.size w wr))
    case atStart => exact ⟨0, by omega, rfl, Lib.hid (World.ownsRow_nil _ _ _ _), Lib.hid (Below.refl _ _)⟩
    case round =>
      obtain ⟨k, hkg, rfl, O, B⟩ := hrel
      by_cases hk : k < 6
      · obtain ⟨p, hp⟩ : ∃ p : Int, (2 : Int) ^ k = p := ⟨_, rfl⟩
        obtain ⟨q, hq⟩ : ∃ q, q = k + 1 := ⟨_, rfl⟩
        have HY := Lib.hid (fun h : inn m p = true => show pz m q = pz m k ++ [nm k] from hq ▸ pz_yes (hp ▸ h))
        have HN := Lib.hid (fun h : inn m p = false => show pz m q = pz m k from hq ▸ pz_no (hp ▸ h))
        have hl := pz_len m k
        generalize pz m k = l at *
        have hki : k ∈ [0, 1, 2, 3, 4, 5] := by simp; omega
        simp only [List.mem_cons, List.mem_nil_iff, or_false] at hki
        cases hb : inn m p
        · have HE := Lib.hid (HN.out hb)
          clear HN HY
          rcases hki with rfl | rfl | rfl | rfl | rfl | rfl
          all_goals
            simp only [Int.reducePow] at hp
            subst hp
            go_wp2_with (go_at_call 229; refine (in_any _ _ _).mono ?_; rintro e w2 ⟨rfl, rfl⟩)
            go_roundg (gk - 1)
            case rel => exact ⟨q, by omega, by rw [hq]; rfl, Lib.hid (by rw [HE.out]; exact O.out.alloc _), Lib.hid (B.out.alloc B.out.size _)⟩
            case measure => omega
        · have HE := Lib.hid (HY.out hb)
          clear HN HY
          rcases hki with rfl | rfl | rfl | rfl | rfl | rfl
          all_goals
            simp only [Int.reducePow] at hp
            subst hp
            go_wp2_with (first | (go_at_call 229; refine (in_any _ _ _).mono ?_; rintro e w2 ⟨rfl, rfl⟩) | ((with_reducible show wpList _ _ _ (⟨some 20, _, _, _, _, _⟩ :: _) _ _); refine wpList_append1S rfl (.tmp 16) (.tmp 19) _ rfl w.heap.size 9 16 Tryz.underlying319 strInfo _ l _ _ rfl (by rw [World.size_alloc]; rfl) (O.out.alloc _) (by omega) (by omega) w (B.out.alloc B.out.size _) (Nat.le_refl _) ?_; intro v20 w20 O20' B20'; have O20 := Lib.hid O20'; have B20 := Lib.hid B20'; clear O20' B20'))
            go_roundg (gk - 1)
            case rel => exact ⟨q, by omega, by rw [hq]; rfl, Lib.hid (by rw [HE.out]; exact O20.out), B20⟩
            case measure => omega
      · obtain rfl : k = 6 := by omega
        obtain ⟨a, cap, rfl, J⟩ := join_own O.out (pz_len m 6) (by rw [← HJ.out]; exact txt_short m)
        rw [← HJ.out] at J
        generalize pz m 6 = l at *
        go_wp2_with (go_at_call 230; refine J.mono ?_; rintro e w2 ⟨rfl, b2⟩)
        go_ret
        exact ⟨rfl, grow B.out b2⟩
end Tp
end Go.Proofs.YtpoededbmdffpaaGreatDoor
