/-
 What In and Mask of package trip return, for every argument: contracts by walking the Go text. Conditions: where the list lies.
 Contracts of Go's library at this program, laid by the shelf's own command: strings.Join, and strings.Index of one byte. No conditions beyond those said.
 What Text of package trip returns, for every number: a contract by walking the Go text. Condition: the table of trips lies in memory as the text lays it.
 What Right of package ring, and that of rudderref17, tell: contracts by walking the Go text. Condition, of the first: the table of trips lies in memory as the text lays it.
-/
import Derived.Test.YticidhbnljdidaaGreatDoorJStatusMath4
import Derived.Test.YticidhbnljdidaaGreatDoorFixWalks
import Derived.Shelf.Strings.Builder1
import Derived.Shelf.Strings.Builder2
import Derived.Shelf.Strings.OnBuilder
import Derived.Shelf.Strings.Builder2Cap
import Derived.Shelf.Strings.Search1
import Derived.Shelf.Strings.Search2
import Derived.Shelf.Strings.Search3
import Derived.Shelf.LaysM
import Derived.Shelf.Strings.Shaped
import Derived.Shelf.Unicode.DecodeSlow
import Derived.Test.YticidhbnljdidaaGreatDoorProg
import Derived.Test.YticidhbnljdidaaGreatDoorJAgg8
import Derived.Deep.LoopGhost
import Derived.Test.YticidhbnljdidaaGreatDoorJSignalBound10
import Derived.Handy
import Derived.RegionTactic
import Derived.BigQuiet
namespace Go.Proofs.YticidhbnljdidaaGreatDoor
set_option maxRecDepth 100000
open Go.ChangeShapes Go.WideShapes Go.ChangeAt Go.RowKit Go.Deep
namespace Tp
open Fx
set_option maxHeartbeats 400000 in
theorem in_any (m b : Int) (w : World) :
 Calls Tryz.prog 229 #[.int .i64 m,.int .i64 b] w fun e w' => e = .returned (.bool (inn m b)) ∧ w = w' := by
 by_cases h0 : 0 ≤ m
 · have d0 : decide (0 ≤ m) = true := by simpa using h0
   by_cases h1 : m ≤ 63
   · have d1 : decide (m ≤ 63) = true := by simpa using h1
     by_cases h2 : count b = 1
     · have HF := Lib.hid (in_eq h0 h1 h2)
       have C := count_any b w
       rw [h2] at C
       clear h0 h1 h2
       go_enter Tryz.func229,Tryz.ntmps229
       go_wp2_with (go_at_call 99; refine C.mono ?_; rintro e w' ⟨rfl,rfl⟩)
       go_ret
       exact ⟨ret_bool HF.out,rfl⟩
     · have HF := Lib.hid (in_no (m := m) h2)
       have d2 : (count b == 1) = false := by simpa using h2
       clear h0 h1 h2
       go_enter Tryz.func229,Tryz.ntmps229
       go_wp2_with (go_at_call 99; refine (count_any b w).mono ?_; rintro e w' ⟨rfl,rfl⟩)
       go_ret
       exact ⟨ret_bool HF.out.symm,rfl⟩
   · have HF := Lib.hid (in_out (m := m) (b := b) (by omega))
     have d1 : decide (m ≤ 63) = false := by simpa using h1
     clear h0 h1
     go_enter Tryz.func229,Tryz.ntmps229
     go_wp2
     go_ret
     exact ⟨ret_bool HF.out.symm,rfl⟩
 · have HF := Lib.hid (in_out (m := m) (b := b) (by omega))
   have d0 : decide (0 ≤ m) = false := by simpa using h0
   clear h0
   go_enter Tryz.func229,Tryz.ntmps229
   go_wp2
   go_ret
   exact ⟨ret_bool HF.out.symm,rfl⟩
end Tp
open Go.Shelf
def Sh.lays156_ren : Go.Shelf.Ren := ⟨fun | 156 => 230 | 165 => 234 | 166 => 235 | 169 => 236 | 240 => 238 | 241 => 239 | 276 => 240 | 277 => 241 | n => n,fun | 31 => 319 | 9 => 9 | 3 => 3 | 4 => 4 | 0 => 0 | 20 => 20 | 72 => 328 | 76 => 332 | 70 => 326 | 37 => 41 | 75 => 331 | 127 => 335 | 164 => 336 | 5 => 5 | 80 => 334 | n => n,fun | n => n⟩
theorem Sh.lays156 : Go.Proofs.Lays.n156 Tryz.prog Sh.lays156_ren := {
 mixed := by kernel_rfl
 f156 := Tryz.func230.trans (congrArg some (by kernel_rfl))
 f165 := Tryz.func234.trans (congrArg some (by kernel_rfl))
 f166 := Tryz.func235.trans (congrArg some (by kernel_rfl))
 f169 := Tryz.func236.trans (congrArg some (by kernel_rfl))
 f240 := Tryz.func238.trans (congrArg some (by kernel_rfl))
 f241 := Tryz.func239.trans (congrArg some (by kernel_rfl))
 f276 := Tryz.func240.trans (congrArg some (by kernel_rfl))
 f277 := Tryz.func241.trans (congrArg some (by kernel_rfl))
 t0 := Tryz.underlying0
 a0 := Tryz.isAgg0
 z0 := Tryz.sizeOf0
 v0 := Tryz.zeroValue0
 t3 := Tryz.underlying3
 a3 := Tryz.isAgg3
 z3 := Tryz.sizeOf3
 v3 := Tryz.zeroValue3
 t4 := Tryz.underlying4
 a4 := Tryz.isAgg4
 z4 := Tryz.sizeOf4
 v4 := Tryz.zeroValue4
 t9 := Tryz.underlying9
 a9 := Tryz.isAgg9
 z9 := Tryz.sizeOf9
 v9 := Tryz.zeroValue9
 t20 := Tryz.underlying20
 a20 := Tryz.isAgg20
 z20 := Tryz.sizeOf20
 v20 := Tryz.zeroValue20
 t31 := Tryz.underlying319
 a31 := Tryz.isAgg319
 z31 := Tryz.sizeOf319
 v31 := Tryz.zeroValue319
 t37 := Tryz.underlying41
 a37 := Tryz.isAgg41
 z37 := Tryz.sizeOf41
 v37 := Tryz.zeroValue41
 t70 := Tryz.underlying326
 a70 := Tryz.isAgg326
 z70 := Tryz.sizeOf326
 v70 := Tryz.zeroValue326
 t72 := Tryz.underlying328
 a72 := Tryz.isAgg328
 z72 := Tryz.sizeOf328
 v72 := Tryz.zeroValue328
 t75 := Tryz.underlying331
 a75 := Tryz.isAgg331
 z75 := Tryz.sizeOf331
 v75 := Tryz.zeroValue331
 t76 := Tryz.underlying332
 a76 := Tryz.isAgg332
 z76 := Tryz.sizeOf332
 v76 := Tryz.zeroValue332
 t127 := Tryz.underlying335
 a127 := Tryz.isAgg335
 z127 := Tryz.sizeOf335
 v127 := Tryz.zeroValue335
 t164 := Tryz.underlying336
 a164 := Tryz.isAgg336
 z164 := Tryz.sizeOf336
 v164 := Tryz.zeroValue336 }
theorem Sh.Builder_Extra_156 : Builder.Extra Tryz.prog Sh.lays156_ren := {
 sizeBuilder := by kernel_rfl
 liesBuilder := by kernel_rfl
 t5 := Tryz.underlying5
 a5 := Tryz.isAgg5
 z5 := Tryz.sizeOf5
 v5 := Tryz.zeroValue5
 infoByte := by kernel_rfl
 cellsByte := by kernel_rfl
 sizeByte := by kernel_rfl
 neB5 := by decide }
open Go.RowKit in
theorem Sh.strings_Join_none (a : Option Addr) (c : Nat) (sep : ByteArray) (w : World) :
 Calls Tryz.prog 230 #[.slice a 0 c,.string sep] w fun e w' => e = .returned (.string ⟨#[]⟩) ∧ w' = w := Any.strings_Join_none Sh.lays156 Sh.Builder_Extra_156 a c sep w
open Go.RowKit in
theorem Sh.strings_Join (bk o c : Nat) (xs : List ByteArray) (sep : ByteArray) (w : World) (hcells : ∀ (j : Nat) x,xs[j]? = some x → w.cell? ⟨bk,o + j,none⟩ = some (.string x)) (hbk : bk < w.heap.size) (hN : xs.length ≤ 140737488355328) (hcap : xs.length ≤ c) (hlen : (Lib.join (xs.map (·.data.toList)) sep.data.toList).length ≤ 140737488355328) :
 Calls Tryz.prog 230 #[.slice (some ⟨bk,o,none⟩) xs.length c,.string sep] w fun e w' => e = .returned (.string ⟨(Lib.join (xs.map (·.data.toList)) sep.data.toList).toArray⟩) ∧ Below w.heap.size w w' := Any.strings_Join Sh.lays156 Sh.Builder_Extra_156 bk o c xs sep w hcells hbk hN hcap hlen
namespace Tp
open Fx
def TabAt (w : World) : Prop := ∀ i,i < 6 → w.cell? ⟨0,2 * i,none⟩ = some (.int .i64 (2 ^ i)) ∧ w.cell? ⟨0,2 * i + 1,none⟩ = some (.string ⟨(nm i).toArray⟩)
theorem TabAt.below {w w' : World} (h : TabAt w) (hb : Below w.heap.size w w') : TabAt w' := fun i hi => by
 obtain ⟨h1,h2⟩ := h i hi
 exact ⟨(hb.cell (p := ⟨_,2 * i,none⟩) (cell_lt h1)).trans h1,(hb.cell (p := ⟨_,2 * i + 1,none⟩) (cell_lt h2)).trans h2⟩
def strs (l : List (List UInt8)) : List Value := l.map fun s => .string ⟨s.toArray⟩
theorem strs_app (l r : List (List UInt8)) : strs (l ++ r) = strs l ++ strs r := by simp [strs]
def OwnS (base : Nat) (t : TypeId) (w : World) (v : Value) (l : List (List UInt8)) : Prop := w.ownsRow base t 1 v l.length (strs l)
theorem OwnS.blk {base : Nat} {t : TypeId} {w : World} {v : Value} {l : List (List UInt8)} (h : OwnS base t w v l) : ∀ j,v.ownBlock = some j → base ≤ j := fun j hj => (World.ownsRow.lt h j hj).1
theorem OwnS.alloc {base : Nat} {t : TypeId} {w : World} {v : Value} {l : List (List UInt8)} (h : OwnS base t w v l) (o : Obj) : OwnS base t (w.alloc o) v l := World.ownsRow.alloc h o
section
variable {P : Program}
theorem wpList_append1S {wr : World} {ops : Array Oper} {rest : List Oper} {o : Oper} {a : Act} {Q : Exit → Act → World → Prop} (hgd : o.guard = none) (s x : Operand) (t : TypeId)
 (ho : o.op = .call { callee := .builtin .append,args := #[s,x],argTypes := #[t,t] })
 (base : Nat) (e : TypeId) (bytes : Nat) (ht : P.underlying t = some (.slice e)) (hi : (P.info? e).map (fun i => (i.zero,i.size,i.bytes)) = some (some (.string ⟨#[]⟩),1,bytes))
 (v : Value) (l : List (List UInt8)) (y : List UInt8) (te : TypeId) (hs : a.eval s = v) (hx : a.eval x = .slice (some ⟨wr.heap.size,0,none⟩) 1 1) (hown : OwnS base e wr v l)
 (hl : l.length < 1099511627776) (hby : bytes ≤ 64) (w0 : World) (hb : Below base w0 wr) (hbase : base ≤ w0.heap.size)
 (h : ∀ v' w',OwnS base e w' v' (l ++ [y]) → Below base w0 w' → wpList P ops Q rest (a.put o.dst v') w') :
 wpList P ops Q (o :: rest) a (wr.alloc (.cells #[.string ⟨y.toArray⟩] te)) := by
 obtain ⟨i0,hi0,hz0,hz1,hz2⟩ := info_parts hi
 have hsz := hb.size
 refine wpList_append_own _ hgd s x t ho base e i0 _ 1 bytes ht hi0 hz0 hz1 hz2 rfl (by omega) v l.length (strs l) hs (hown.alloc _) ⟨wr.heap.size,0,none⟩ 1 1 [.string ⟨y.toArray⟩] hx rfl ?_ ?_ (by unfold maxLen; omega) ?_ (by simp; omega) ?_
 · intro j u hj
   match j,hj with
   | 0,hj => simp at hj; subst hj; simp [Addr.add]
 · intro u hu; simp at hu; subst hu; rfl
 · calc (l.length + 1) * bytes ≤ 1099511627776 * 64 := Nat.mul_le_mul (by omega) hby
    _ ≤ 140737488355328 := by omega
 · intro v' w' h1 h2 _
   refine h v' w' ?_ ?_
   · unfold OwnS; rw [strs_app,List.length_append]; exact h1
   · exact (hb.alloc (by omega) _).grown h2 (by simp; omega) (fun j hj => hown.blk j hj)
end
def pz (m : Int) (k : Nat) : List (List UInt8) := ((List.range k).filter fun i => inn m (2 ^ i)).map nm
theorem pz_yes {m : Int} {k : Nat} (h : inn m (2 ^ k) = true) : pz m (k + 1) = pz m k ++ [nm k] := by
 unfold pz; rw [List.range_succ,List.filter_append,List.filter_cons,if_pos (by simpa using h)]; simp
theorem pz_no {m : Int} {k : Nat} (h : inn m (2 ^ k) = false) : pz m (k + 1) = pz m k := by
 unfold pz; rw [List.range_succ,List.filter_append,List.filter_cons,if_neg (by simp [h])]; simp
theorem pz_len (m : Int) (k : Nat) : (pz m k).length ≤ k := by
 unfold pz; rw [List.length_map]; have := List.length_filter_le (fun i => inn m (2 ^ i)) (List.range k); simpa using this
theorem pz_six (m : Int) : pz m 6 = if 0 ≤ m ∧ m ≤ 63 then parts m.toNat 6 else [] := by
 unfold pz
 by_cases h : 0 ≤ m ∧ m ≤ 63
 · rw [if_pos h]
   unfold parts
   congr 1
   refine List.filter_congr fun i hi => ?_
   have hi' : i < 6 := by simpa using hi
   obtain ⟨q,rfl⟩ : ∃ q : Nat,m = q := ⟨m.toNat,by omega⟩
   rw [in_pow (by omega) hi',Int.toNat_natCast]
 · rw [if_neg h]
   have : ((List.range 6).filter fun i => inn m (2 ^ i)) = [] := List.filter_eq_nil_iff.2 fun i _ => by rw [in_out h]; simp
   rw [this]; rfl
theorem strInfo : (Tryz.prog.info? 9).map (fun i => (i.zero,i.size,i.bytes)) = some (some (.string ⟨#[]⟩),1,16) := by kernel_rfl
def bas (l : List (List UInt8)) : List ByteArray := l.map fun s => ⟨s.toArray⟩
theorem bas_lists (l : List (List UInt8)) : (bas l).map (·.data.toList) = l := by
 unfold bas; rw [List.map_map]
 have : ((fun x : ByteArray => x.data.toList) ∘ fun s : List UInt8 => (⟨s.toArray⟩ : ByteArray)) = id := by funext s; simp
 rw [this,List.map_id]
theorem txt_join {m : Int} (h : m ≠ 0) : txt m = Lib.join (pz m 6) [43] := by
 unfold txt
 rw [pz_six]
 by_cases c : 0 ≤ m ∧ m ≤ 63
 · rw [if_pos c,if_pos c]; unfold tx; rw [if_neg (by omega)]
 · rw [if_neg c,if_neg c]; rfl
theorem tab_short : ((List.range 64).all fun m => decide ((tx m).length ≤ 64)) = true := by decide +kernel
theorem txt_short (m : Int) : (txt m).length ≤ 64 := by
 unfold txt
 split
 · have := List.all_eq_true.1 tab_short m.toNat (List.mem_range.2 (by omega)); simpa using this
 · simp
def tabv : Array Value := #[.int .i64 1,.string ⟨(nm 0).toArray⟩,.int .i64 2,.string ⟨(nm 1).toArray⟩,.int .i64 4,.string ⟨(nm 2).toArray⟩,.int .i64 8,.string ⟨(nm 3).toArray⟩,.int .i64 16,.string ⟨(nm 4).toArray⟩,.int .i64 32,.string ⟨(nm 5).toArray⟩]
theorem row0 (W : World) : (Instr.index 321 (.agg tabv) (.int .i64 0)).run Tryz.prog W = .ok (.agg #[.int .i64 1,.string ⟨(nm 0).toArray⟩]) W := by kernel_rfl
theorem row1 (W : World) : (Instr.index 321 (.agg tabv) (.int .i64 1)).run Tryz.prog W = .ok (.agg #[.int .i64 2,.string ⟨(nm 1).toArray⟩]) W := by kernel_rfl
theorem row2 (W : World) : (Instr.index 321 (.agg tabv) (.int .i64 2)).run Tryz.prog W = .ok (.agg #[.int .i64 4,.string ⟨(nm 2).toArray⟩]) W := by kernel_rfl
theorem row3 (W : World) : (Instr.index 321 (.agg tabv) (.int .i64 3)).run Tryz.prog W = .ok (.agg #[.int .i64 8,.string ⟨(nm 3).toArray⟩]) W := by kernel_rfl
theorem row4 (W : World) : (Instr.index 321 (.agg tabv) (.int .i64 4)).run Tryz.prog W = .ok (.agg #[.int .i64 16,.string ⟨(nm 4).toArray⟩]) W := by kernel_rfl
theorem row5 (W : World) : (Instr.index 321 (.agg tabv) (.int .i64 5)).run Tryz.prog W = .ok (.agg #[.int .i64 32,.string ⟨(nm 5).toArray⟩]) W := by kernel_rfl
theorem join_own {base : Nat} {W : World} {v : Value} {l : List (List UInt8)} (h : OwnS base 9 W v l) (hn : l.length ≤ 6) (hl : (Lib.join l [43]).length ≤ 64) :
 ∃ a cap,v = .slice a l.length cap ∧ Calls Tryz.prog 230 #[.slice a l.length cap,.string ⟨#[43]⟩] W fun e w' => e = .returned (.string ⟨(Lib.join l [43]).toArray⟩) ∧ Below W.heap.size W w' := by
 rcases h with ⟨hl0,⟨rfl,h1⟩ | ⟨g,cap,cur,rfl,hb,hh,hc,hm,hr⟩⟩
 · obtain rfl : l = [] := List.eq_nil_of_length_eq_zero h1
   exact ⟨none,0,rfl,(Sh.strings_Join_none none 0 ⟨#[43]⟩ W).mono fun e w' q => ⟨q.1,q.2 ▸ Below.refl _ _⟩⟩
 · have hw : OwnS base 9 W (.slice (some ⟨g,0,none⟩) l.length cap) l := ⟨hl0,Or.inr ⟨g,cap,cur,rfl,hb,hh,hc,hm,hr⟩⟩
   have hlt : g < W.heap.size := by
    rcases Nat.lt_or_ge g W.heap.size with hlt | hge
    · exact hlt
    · rw [Array.getElem?_eq_none hge] at hh; cases hh
   refine ⟨_,cap,rfl,?_⟩
   have J := Sh.strings_Join g 0 cap (bas l) ⟨#[43]⟩ W (fun j x hj => by
    have hj' : j < l.length := by
     have := (List.getElem?_eq_some_iff.1 hj).1
     simpa [bas] using this
    rw [Nat.zero_add,World.ownsRow.cellAt hw j (by omega)]
    unfold bas at hj
    unfold strs
    rw [List.getElem?_map] at hj ⊢
    rw [List.getElem?_eq_getElem hj'] at hj ⊢
    simp only [Option.map_some,Option.some.injEq] at hj ⊢
    rw [hj]) hlt (by simp [bas]; omega) (by simp [bas]; omega) (by rw [bas_lists]; simp; omega)
   rw [bas_lists] at J
   simpa [bas] using J
set_option maxRecDepth 100000 in
set_option maxHeartbeats 2000000 in
theorem text_any (m : Int) (w : World) (hT : TabAt w) :
 Calls Tryz.prog 212 #[.int .i64 m] w fun e w' => e = .returned (.string ⟨(txt m).toArray⟩) ∧ Below w.heap.size w w' := by
 by_cases h0 : m = 0
 · subst h0
   go_enter Tryz.func212,Tryz.ntmps212
   go_wp2
   go_ret
   exact ⟨rfl,Below.refl _ _⟩
 · have HJ := Lib.hid (txt_join h0)
   have d0 : (m == 0) = false := by simpa using h0
   have HT := Lib.hid hT
   have a0 : w.cell? ⟨0,0,none⟩ = some (.int .i64 1) := (hT 0 (by omega)).1
   have a1 : w.cell? ⟨0,1,none⟩ = some (.string ⟨(nm 0).toArray⟩) := (hT 0 (by omega)).2
   have a2 : w.cell? ⟨0,2,none⟩ = some (.int .i64 2) := (hT 1 (by omega)).1
   have a3 : w.cell? ⟨0,3,none⟩ = some (.string ⟨(nm 1).toArray⟩) := (hT 1 (by omega)).2
   have a4 : w.cell? ⟨0,4,none⟩ = some (.int .i64 4) := (hT 2 (by omega)).1
   have a5 : w.cell? ⟨0,5,none⟩ = some (.string ⟨(nm 2).toArray⟩) := (hT 2 (by omega)).2
   have a6 : w.cell? ⟨0,6,none⟩ = some (.int .i64 8) := (hT 3 (by omega)).1
   have a7 : w.cell? ⟨0,7,none⟩ = some (.string ⟨(nm 3).toArray⟩) := (hT 3 (by omega)).2
   have a8 : w.cell? ⟨0,8,none⟩ = some (.int .i64 16) := (hT 4 (by omega)).1
   have a9 : w.cell? ⟨0,9,none⟩ = some (.string ⟨(nm 4).toArray⟩) := (hT 4 (by omega)).2
   have a10 : w.cell? ⟨0,10,none⟩ = some (.int .i64 32) := (hT 5 (by omega)).1
   have a11 : w.cell? ⟨0,11,none⟩ = some (.string ⟨(nm 5).toArray⟩) := (hT 5 (by omega)).2
   clear hT
   have r0 := row0
   have r1 := row1
   have r2 := row2
   have r3 := row3
   have r4 := row4
   have r5 := row5
   unfold tabv at r0 r1 r2 r3 r4 r5
   go_enter Tryz.func212,Tryz.ntmps212
   go_wp2
   go_loopg [3,5,9] 6 (fun gg s3 _ s9 wr => ∃ k : Nat,k + gg = 6 ∧ s9 = .int .i64 k ∧ Hid (OwnS w.heap.size 9 wr s3 (pz m k)) ∧ Hid (Below w.heap.size w wr))
   case atStart => exact ⟨0,by omega,rfl,Lib.hid (World.ownsRow_nil _ _ _ _),Lib.hid (Below.refl _ _)⟩
   case round =>
    obtain ⟨k,hkg,rfl,O,B⟩ := hrel
    by_cases hk : k < 6
    · obtain ⟨p,hp⟩ : ∃ p : Int,(2 : Int) ^ k = p := ⟨_,rfl⟩
      obtain ⟨q,hq⟩ : ∃ q,q = k + 1 := ⟨_,rfl⟩
      have HY := Lib.hid (fun h : inn m p = true => show pz m q = pz m k ++ [nm k] from hq ▸ pz_yes (hp ▸ h))
      have HN := Lib.hid (fun h : inn m p = false => show pz m q = pz m k from hq ▸ pz_no (hp ▸ h))
      have hl := pz_len m k
      generalize pz m k = l at *
      have hki : k ∈ [0,1,2,3,4,5] := by simp; omega
      simp only [List.mem_cons,List.mem_nil_iff,or_false] at hki
      cases hb : inn m p
      · have HE := Lib.hid (HN.out hb)
        clear HN HY
        rcases hki with rfl | rfl | rfl | rfl | rfl | rfl
        all_goals
         simp only [Int.reducePow] at hp
         subst hp
         go_wp2_with (go_at_call 229; refine (in_any _ _ _).mono ?_; rintro e w2 ⟨rfl,rfl⟩)
         go_roundg (gk - 1)
         case rel => exact ⟨q,by omega,by rw [hq]; rfl,Lib.hid (by rw [HE.out]; exact O.out.alloc _),Lib.hid (B.out.alloc B.out.size _)⟩
         case measure => omega
      · have HE := Lib.hid (HY.out hb)
        clear HN HY
        rcases hki with rfl | rfl | rfl | rfl | rfl | rfl
        all_goals
         simp only [Int.reducePow] at hp
         subst hp
         go_wp2_with (first | (go_at_call 229; refine (in_any _ _ _).mono ?_; rintro e w2 ⟨rfl,rfl⟩) | ((with_reducible show wpList _ _ _ (⟨some 20,_,_,_,_,_⟩ :: _) _ _); refine wpList_append1S rfl (.tmp 16) (.tmp 19) _ rfl w.heap.size 9 16 Tryz.underlying319 strInfo _ l _ _ rfl (by rw [World.size_alloc]; rfl) (O.out.alloc _) (by omega) (by omega) w (B.out.alloc B.out.size _) (Nat.le_refl _) ?_; intro v20 w20 O20' B20'; have O20 := Lib.hid O20'; have B20 := Lib.hid B20'; clear O20' B20'))
         go_roundg (gk - 1)
         case rel => exact ⟨q,by omega,by rw [hq]; rfl,Lib.hid (by rw [HE.out]; exact O20.out),B20⟩
         case measure => omega
    · obtain rfl : k = 6 := by omega
      obtain ⟨a,cap,rfl,J⟩ := join_own O.out (pz_len m 6) (by rw [← HJ.out]; exact txt_short m)
      rw [← HJ.out] at J
      generalize pz m 6 = l at *
      go_wp2_with (go_at_call 230; refine J.mono ?_; rintro e w2 ⟨rfl,b2⟩)
      go_ret
      exact ⟨rfl,grow B.out b2⟩
end Tp
namespace Rg
open Fx
def ntv (n : Nt) : Value := .agg #[.int .i64 n.y,.int .i64 n.c,.int .i64 n.s,.int .i64 n.k,.int .i64 n.t]
def ntr (n : Nt) : List Value := [.int .i64 n.y,.int .i64 n.c,.int .i64 n.s,.int .i64 n.k,.int .i64 n.t]
theorem nt_cells {w : World} {g : Nat} {t : TypeId} {n : Nt} (h : VRow w g t (ntr n)) : w.cell? ⟨g,0,none⟩ = some (.int .i64 n.y) ∧ w.cell? ⟨g,1,none⟩ = some (.int .i64 n.c) ∧ w.cell? ⟨g,2,none⟩ = some (.int .i64 n.s) ∧ w.cell? ⟨g,3,none⟩ = some (.int .i64 n.k) ∧ w.cell? ⟨g,4,none⟩ = some (.int .i64 n.t) :=
 ⟨h.cell 0 rfl,h.cell 1 rfl,h.cell 2 rfl,h.cell 3 rfl,h.cell 4 rfl⟩
theorem ntr_one (n : Nt) : (ntr n).toArray.all (·.oneCell') = true := by simp [ntr,Value.oneCell']
theorem onB {w w' : World} {g : Nat} {t : TypeId} {cs : List Value} (h : VRow w g t cs) (b : Below w.heap.size w w') : VRow w' g t cs := h.below b h.lt
theorem onI {k : IntKind} {w w' : World} {g : Nat} {t : TypeId} {l : List Int} (h : IRow k w g t l) (b : Below w.heap.size w w') : IRow k w' g t l := h.below b h.lt
theorem sizeN : (Tryz.prog.info? 86).map (·.size) = some 5 := by kernel_rfl
theorem box_new (w : World) (n : Nt) (t : TypeId) : VRow (w.alloc (.cells #[.int .i64 n.y,.int .i64 n.c,.int .i64 n.s,.int .i64 n.k,.int .i64 n.t] t)) w.heap.size t (ntr n) := VRow.new w (ntr n) t
def bel (n e : Int) : Bool := decide (0 ≤ n) && decide (n < e)
theorem below_any (n e : Int) (w : World) :
 Calls Tryz.prog 176 #[.int .i64 n,.int .i64 e] w fun r w' => r = .returned (.bool (bel n e)) ∧ w = w' := by
 have HF := Lib.hid (show bel n e = (decide (0 ≤ n) && decide (n < e)) from rfl)
 generalize bel n e = x at *
 cases d : decide (0 ≤ n)
 · rw [d,Bool.false_and] at HF
   go_enter Tryz.func176,Tryz.ntmps176
   go_wp2
   go_ret
   exact ⟨ret_bool HF.out.symm,rfl⟩
 · rw [d,Bool.true_and] at HF
   go_enter Tryz.func176,Tryz.ntmps176
   go_wp2
   go_ret
   exact ⟨ret_bool HF.out.symm,rfl⟩
theorem mkd_empty (m : Int) : ((⟨(Tp.txt m).toArray⟩ : ByteArray).toList == []) = !mkd m := by
 rw [ByteArray.toList_eq]
 have h := txt_ne m
 have k := mkd_iff m
 cases e : mkd m
 · rw [e] at k
   have : Tp.txt m = [] := by
    by_cases q : Tp.txt m = []
    · exact q
    · exact absurd (k.2 (h.1 q)) (by simp)
   simp [this]
 · have := h.2 (k.1 e)
   simpa using this
theorem masked_any (m : Int) (w : World) (hT : Tp.TabAt w) :
 Calls Tryz.prog 177 #[.int .i64 m] w fun r w' => r = .returned (.bool (mkd m)) ∧ Below w.heap.size w w' := by
 have C := Tp.text_any m w hT
 have HE := Lib.hid (mkd_empty m)
 obtain ⟨x,hx⟩ : ∃ x : ByteArray,x = ⟨(Tp.txt m).toArray⟩ := ⟨_,rfl⟩
 rw [← hx] at C HE
 clear hx hT
 cases d : (x.toList == [])
 · rw [d] at HE
   go_enter Tryz.func177,Tryz.ntmps177
   go_wp2_with (go_at_call 212; refine C.mono ?_; rintro e w1 ⟨rfl,b1⟩)
   go_ret
   exact ⟨ret_bool (by have := HE.out; revert this; cases mkd m <;> simp),b1⟩
 · rw [d] at HE
   go_enter Tryz.func177,Tryz.ntmps177
   go_wp2_with (go_at_call 212; refine C.mono ?_; rintro e w1 ⟨rfl,b1⟩)
   go_ret
   exact ⟨ret_bool (by have := HE.out; revert this; cases mkd m <;> simp),b1⟩
theorem bel_eq (n e : Int) (x : Bool) (w : World) (h : bel n e = x) :
 Calls Tryz.prog 176 #[.int .i64 n,.int .i64 e] w fun r w' => r = .returned (.bool x) ∧ w = w' := by subst h; exact below_any n e w
theorem rgn_eq (n : Nt) : rgn n = (decide (0 ≤ n.y) && bel n.c 4 && bel n.s 8 && bel n.k 3 && mkd n.t) := by
 unfold rgn bel mkd
 rw [show decide (n.c < 4) = decide (n.c ≤ 3) from decide_eq_decide.2 (by omega),show decide (n.s < 8) = decide (n.s ≤ 7) from decide_eq_decide.2 (by omega),show decide (n.k < 3) = decide (n.k ≤ 2) from decide_eq_decide.2 (by omega)]
set_option maxHeartbeats 1600000 in
theorem right_any (n : Nt) (w : World) (hT : Tp.TabAt w) :
 Calls Tryz.prog 124 #[ntv n] w fun e w' => e = .returned (.bool (rgn n)) ∧ Below w.heap.size w w' := by
 have HF := Lib.hid (rgn_eq n)
 have B0 := Lib.hid ((Below.refl w.heap.size w).alloc (Nat.le_refl _) (.cells #[.int .i64 n.y,.int .i64 n.c,.int .i64 n.s,.int .i64 n.k,.int .i64 n.t] 86))
 have CM := masked_any n.t _ (hT.below B0.out)
 clear hT
 generalize rgn n = r at *
 obtain ⟨y,c,s,k,t⟩ := n
 unfold ntv
 dsimp only at *
 generalize mkd t = v5 at *
 cases d1 : decide (0 ≤ y)
 case false =>
  rw [d1] at HF
  go_enter Tryz.func124,Tryz.ntmps124
  go_wp2_with (first | (go_at_call 176; refine (bel_eq _ _ _ _ (by first | exact D2.out | exact D3.out | exact D4.out)).mono ?_; rintro e w' ⟨rfl,rfl⟩) | (go_at_call 177; refine CM.mono ?_; rintro e w5 ⟨rfl,b5⟩))
  go_ret
  exact ⟨ret_bool (by rw [HF.out]; simp),B0.out⟩
 cases d2 : bel c 4
 case false =>
  rw [d1,d2] at HF
  have D2 := Lib.hid d2
  clear d2
  go_enter Tryz.func124,Tryz.ntmps124
  go_wp2_with (first | (go_at_call 176; refine (bel_eq _ _ _ _ (by first | exact D2.out | exact D3.out | exact D4.out)).mono ?_; rintro e w' ⟨rfl,rfl⟩) | (go_at_call 177; refine CM.mono ?_; rintro e w5 ⟨rfl,b5⟩))
  go_ret
  exact ⟨ret_bool (by rw [HF.out]; simp),B0.out⟩
 cases d3 : bel s 8
 case false =>
  rw [d1,d2,d3] at HF
  have D2 := Lib.hid d2
  clear d2
  have D3 := Lib.hid d3
  clear d3
  go_enter Tryz.func124,Tryz.ntmps124
  go_wp2_with (first | (go_at_call 176; refine (bel_eq _ _ _ _ (by first | exact D2.out | exact D3.out | exact D4.out)).mono ?_; rintro e w' ⟨rfl,rfl⟩) | (go_at_call 177; refine CM.mono ?_; rintro e w5 ⟨rfl,b5⟩))
  go_ret
  exact ⟨ret_bool (by rw [HF.out]; simp),B0.out⟩
 cases d4 : bel k 3
 case false =>
  rw [d1,d2,d3,d4] at HF
  have D2 := Lib.hid d2
  clear d2
  have D3 := Lib.hid d3
  clear d3
  have D4 := Lib.hid d4
  clear d4
  go_enter Tryz.func124,Tryz.ntmps124
  go_wp2_with (first | (go_at_call 176; refine (bel_eq _ _ _ _ (by first | exact D2.out | exact D3.out | exact D4.out)).mono ?_; rintro e w' ⟨rfl,rfl⟩) | (go_at_call 177; refine CM.mono ?_; rintro e w5 ⟨rfl,b5⟩))
  go_ret
  exact ⟨ret_bool (by rw [HF.out]; simp),B0.out⟩
 rw [d1,d2,d3,d4] at HF
 have D2 := Lib.hid d2
 clear d2
 have D3 := Lib.hid d3
 clear d3
 have D4 := Lib.hid d4
 clear d4
 go_enter Tryz.func124,Tryz.ntmps124
 go_wp2_with (first | (go_at_call 176; refine (bel_eq _ _ _ _ (by first | exact D2.out | exact D3.out | exact D4.out)).mono ?_; rintro e w' ⟨rfl,rfl⟩) | (go_at_call 177; refine CM.mono ?_; rintro e w5 ⟨rfl,b5⟩))
 go_ret
 exact ⟨ret_bool (by rw [HF.out]; simp),grow B0.out b5⟩
end Rg
end Go.Proofs.YticidhbnljdidaaGreatDoor
