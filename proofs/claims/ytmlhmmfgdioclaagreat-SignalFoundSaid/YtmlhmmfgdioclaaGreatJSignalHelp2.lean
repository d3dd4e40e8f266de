/-
  What the laws' own helpers of layer 18 tell: small, moved: contracts by walking the Go text. Conditions: the numbers' bounds.
  What the laws' own helper told tells: a contract by walking the Go text. Conditions: the numbers' bounds.
-/
import Derived.Test.YtmlhmmfgdioclaaGreatJKept4
import Derived.Test.YtmlhmmfgdioclaaGreatJConfigRows3
import Derived.Test.YtmlhmmfgdioclaaGreatJTail2
import Derived.Lib.MinMax
import Derived.Deep.LoopGhost
namespace Go.Proofs.YtmlhmmfgdioclaaGreat
set_option maxRecDepth 100000
open Go.ChangeShapes Go.WideShapes Go.ChangeAt Go.RowKit Go.Deep
namespace Sg
open Cf (G CA Box)

def smallc : List Int := [3, -100, 100, 5, 40, 9, 3, 30, 0, 20, 2, 0, 4, 2, 2, 1, 4, 1, 1, 2, 0]
theorem wpList_buildTo {P : Program} {ops : Array Oper} {rest : List Oper} {o : Oper} {a : Act} {w : World} {Q : Exit → Act → World → Prop} (hg : o.guard = none) (t : TypeId) (parts : Array (Nat × Operand)) (ho : o.op = .build t parts)
    (cells : Array Value) (hf : P.built t (parts.map fun (i, x) => (i, a.eval x)).toList = some cells) (h : wpList P ops Q rest (a.put o.dst (.agg cells)) w) : wpList P ops Q (o :: rest) a w :=
  wpList_build hg t parts ho (by rw [hf]; rfl) (by rw [hf]; exact h)
theorem wpList_storeC {ops : Array Oper} {rest : List Oper} {o : Oper} {a : Act} {w : World} {Q : Exit → Act → World → Prop} (hgd : o.guard = none) (x y : Operand) (ho : o.op = .store 24 x y)
    (b : Nat) (c c' : List Int) (hx : a.eval x = .pointer (some ⟨b, 0, none⟩)) (hy : a.eval y = .agg (CA c')) (hb : Box w b c) (hc : c.length = 21) (hc' : c'.length = 21)
    (h : wpList Tryz.prog ops Q rest (a.put o.dst undef) (w.setRow b (CA c'))) : wpList Tryz.prog ops Q (o :: rest) a w :=
  wpList_store_row hgd 24 x y ho b (CA c') hx hy 24 (CA c) hb (by rw [Cf.CA_size, hc']; exact Cf.sizeC) (by rw [Cf.CA_size, Cf.CA_size, hc, hc']) (Cf.CA_one c') h
theorem aggC (w : World) : (isAgg 24).run Tryz.prog w = .ok true w := by simp [isAgg, run_underlying Tryz.underlying24]
set_option maxHeartbeats 1600000 in
theorem small_any (w : World) : Calls Tryz.prog 23 #[] w fun e w' => e = .returned (.agg (CA smallc)) ∧ Below w.heap.size w w' := by
  have B0 := Lib.hid (Box.new w (List.replicate 21 0))
  have b0 := Lib.hid ((Below.refl w.heap.size w).alloc (Nat.le_refl _) (.cells (CA (List.replicate 21 0)) 24))
  go_enter Tryz.func23, Tryz.ntmps23
  go_wp2_with (first | ((with_reducible show wpList _ _ _ (⟨some 2, _, _, _, _, _⟩ :: _) _ _); refine wpList_buildTo rfl _ _ rfl (CA smallc) (by kernel_rfl) ?_) | ((with_reducible show wpList _ _ _ (⟨none, .store _ (.tmp 0) _, _, _, _, _⟩ :: _) _ _); refine wpList_storeC rfl _ _ rfl w.heap.size (List.replicate 21 0) smallc rfl rfl B0.out (by simp) rfl ?_))
  refine bodyPost_ret (v := .agg (CA smallc)) ?_ rfl ⟨rfl, Below.put b0.out (Nat.le_refl _) _⟩
  exact (VB.ret1 (cs := cellsI .i64 smallc) rfl rfl (aggC _) (by kernel_rfl) (VRow.put (show VRow _ _ 24 (cellsI .i64 (List.replicate 21 0)) from B0.out) (cellsI .i64 smallc))).trans rfl

/-- A point: by how much the truth moves, how far each channel is from it, and what the odd one tells. -/
structure Pt where
  mv : Int
  f0 : Int
  f1 : Int
  f2 : Int
  f3 : Int
  raw : Rw
def ptv (p : Pt) : List Value := [.int .i16 p.mv, .int .i16 p.f0, .int .i16 p.f1, .int .i16 p.f2, .int .i16 p.f3, .bool p.raw.is, .int .i64 p.raw.n]
structure Pok (p : Pt) : Prop where
  mv : -32768 ≤ p.mv ∧ p.mv ≤ 32767
  f0 : -32768 ≤ p.f0 ∧ p.f0 ≤ 32767
  f1 : -32768 ≤ p.f1 ∧ p.f1 ≤ 32767
  f2 : -32768 ≤ p.f2 ∧ p.f2 ≤ 32767
  f3 : -32768 ≤ p.f3 ∧ p.f3 ≤ 32767
def trv (E R O : Int) (a : Option Addr) (n cap : Nat) : List Value := [.int .i64 E, .int .i64 R, .int .i64 O, .slice a n cap]
/-- Where the truth is, behind a move. -/
def mvd (c : List Int) (E R a m : Int) : Int := max (G c 1 + E) (min (G c 2 - E) (a + m.tmod (R + 1)))
theorem tmod_bd {m b : Int} (hb : 0 ≤ b) : -b ≤ m.tmod (b + 1) ∧ m.tmod (b + 1) ≤ b := by
  have h1 := Int.tmod_lt_of_pos m (show 0 < b + 1 by omega)
  have h2 := Int.lt_tmod_of_pos m (show 0 < b + 1 by omega)
  omega
set_option maxHeartbeats 1600000 in
theorem moved_any (c : List Int) (E R O : Int) (a : Option Addr) (n cap : Nat) (at_ : Int) (p : Pt) (w : World) (hc : c.length = 21) (C : Cov c E R) (hp : Pok p) (ha : -4294967296 ≤ at_ ∧ at_ ≤ 4294967296) :
    Calls Tryz.prog 21 #[.agg (CA c), .agg (trv E R O a n cap).toArray, .int .i64 at_, .agg (ptv p).toArray] w fun e w' => e = .returned (.int .i64 (mvd c E R at_ p.mv)) ∧ Below w.heap.size w w' := by
  have V1 := Box.new w c
  have V2 := VRow.new (w.alloc (.cells (CA c) 24)) (trv E R O a n cap) 70
  have V3 := VRow.new ((w.alloc (.cells (CA c) 24)).alloc (.cells (trv E R O a n cap).toArray 70)) (ptv p) 77
  have B3 := Lib.hid ((((Below.refl w.heap.size w).alloc (Nat.le_refl _) (.cells (CA c) 24)).alloc (by simp) (.cells (trv E R O a n cap).toArray 70)).alloc (by simp; omega) (.cells (ptv p).toArray 77))
  replace V1 := VRow.alloc (VRow.alloc (show VRow _ _ 24 (cellsI .i64 c) from V1) (.cells (trv E R O a n cap).toArray 70)) (.cells (ptv p).toArray 77)
  replace V2 := V2.alloc (.cells (ptv p).toArray 77)
  have s1 : (w.alloc (.cells (CA c) 24)).heap.size = w.heap.size + 1 := by simp
  have s2 : ((w.alloc (.cells (CA c) 24)).alloc (.cells (trv E R O a n cap).toArray 70)).heap.size = w.heap.size + 1 + 1 := by simp
  rw [s1] at V2
  rw [s2] at V3
  have k1 := Cf.Box.at (c := c) V1 hc 1 (by omega)
  have k2 := Cf.Box.at (c := c) V1 hc 2 (by omega)
  have e0 := V2.cell 0 (v := .int .i64 E) rfl
  have e1 := V2.cell 1 (v := .int .i64 R) rfl
  have m0 := V3.cell 0 (v := .int .i16 p.mv) rfl
  have HM := Lib.hid (show mvd c E R at_ p.mv = max (G c 1 + E) (min (G c 2 - E) (at_ + p.mv.tmod (R + 1))) from rfl)
  have tb := tmod_bd (m := p.mv) C.r0
  obtain ⟨-, r1, r2, -⟩ := C.right
  have := C.e0; have := C.e1; have := C.r0; have := C.r1; have := hp.mv
  clear V1 V2 V3 s1 s2
  generalize mvd c E R at_ p.mv = out at *
  generalize G c 1 = lo at *
  generalize G c 2 = hi at *
  unfold trv ptv at *
  go_enter Tryz.func21, Tryz.ntmps21
  go_wp2_with fail
  generalize ((w.alloc (.cells (CA c) 24)).alloc (.cells #[.int .i64 E, .int .i64 R, .int .i64 O, .slice a n cap] 70)).alloc (.cells #[.int .i16 p.mv, .int .i16 p.f0, .int .i16 p.f1, .int .i16 p.f2, .int .i16 p.f3, .bool p.raw.is, .int .i64 p.raw.n] 77) = W at *
  have w1 : IntKind.i64.wrap (lo + E) = lo + E := IntWalk.i64_in _ (by omega)
  have w2 : IntKind.i64.wrap (hi - E) = hi - E := IntWalk.i64_in _ (by omega)
  have w3 : IntKind.i64.wrap (R + 1) = R + 1 := IntWalk.i64_in _ (by omega)
  have w4 : IntKind.i64.wrap p.mv = p.mv := IntWalk.i64_in _ (by omega)
  have w5 : IntKind.i64.wrap (at_ + p.mv.tmod (R + 1)) = at_ + p.mv.tmod (R + 1) := IntWalk.i64_in _ (by omega)
  have w6 : IntKind.i64.wrap (p.mv.tmod (R + 1)) = p.mv.tmod (R + 1) := IntWalk.i64_in _ (by omega)
  have z1 : ((R + 1) == 0) = false := by simp; omega
  have z2 : ¬ (R + 1 = 0) := by omega
  go_quiet (fail)
  go_wp2
  go_ret
  exact ⟨Fx.ret_int HM.out.symm, below_drewN B3.out _⟩
end Sg
end Go.Proofs.YtmlhmmfgdioclaaGreat

namespace Go.Proofs.YtmlhmmfgdioclaaGreat
set_option maxRecDepth 100000
open Go.ChangeShapes Go.WideShapes Go.ChangeAt Go.RowKit Go.Deep
namespace Sg
open Cf (G CA Box)

def pf (p : Pt) (i : Nat) : Int := if i = 0 then p.f0 else if i = 1 then p.f1 else if i = 2 then p.f2 else p.f3
/-- What a channel tells. -/
def tel (E O a : Int) (p : Pt) (i : Nat) : Rw := if (i : Int) = O then p.raw else ⟨true, a + (pf p i).tmod (E + 1)⟩
def upto (f : Nat → Rw) (k i : Nat) : Rw := if i < k then f i else rw0
def llo (E O a : Int) (p : Pt) : Nat → Int
  | 0 => 4294967296
  | k + 1 => if (k : Int) = O then llo E O a p k else min (llo E O a p k) (tel E O a p k).n
def lhi (E O a : Int) (p : Pt) : Nat → Int
  | 0 => -4294967296
  | k + 1 => if (k : Int) = O then lhi E O a p k else max (lhi E O a p k) (tel E O a p k).n
/-- What lies about, while the channels are gone through. -/
structure Tl (w W : World) (c : List Int) (E R O : Int) (a : Option Addr) (n cap : Nat) (p : Pt) (r : Nat → Rw) : Prop where
  below : Below w.heap.size w W
  cfg : Box W w.heap.size c
  trc : VRow W (w.heap.size + 1) 70 (trv E R O a n cap)
  pnt : VRow W (w.heap.size + 2) 77 (ptv p)
  rsl : VRow W (w.heap.size + 3) 42 (raw8 fun _ => rw0)
  out : VRow W (w.heap.size + 4) 42 (raw8 r)
theorem raw_cells {w : World} {g : Nat} {t : TypeId} {r : Nat → Rw} (h : VRow w g t (raw8 r)) : w.cell? ⟨g, 0, none⟩ = some (.bool (r 0).is) ∧ w.cell? ⟨g, 1, none⟩ = some (.int .i64 (r 0).n) ∧ w.cell? ⟨g, 2, none⟩ = some (.bool (r 1).is) ∧ w.cell? ⟨g, 3, none⟩ = some (.int .i64 (r 1).n) ∧ w.cell? ⟨g, 4, none⟩ = some (.bool (r 2).is) ∧ w.cell? ⟨g, 5, none⟩ = some (.int .i64 (r 2).n) ∧ w.cell? ⟨g, 6, none⟩ = some (.bool (r 3).is) ∧ w.cell? ⟨g, 7, none⟩ = some (.int .i64 (r 3).n) :=
  ⟨h.cell 0 rfl, h.cell 1 rfl, h.cell 2 rfl, h.cell 3 rfl, h.cell 4 rfl, h.cell 5 rfl, h.cell 6 rfl, h.cell 7 rfl⟩
theorem Tl.drew {w W : World} {c : List Int} {E R O : Int} {a : Option Addr} {n cap : Nat} {p : Pt} {r : Nat → Rw} (h : Tl w W c E R O a n cap p r) : Tl w W.drew c E R O a n cap p r := ⟨h.below.drew, h.cfg, h.trc, h.pnt, h.rsl, h.out⟩
/-- One more stored. -/
theorem Tl.put {w W : World} {c : List Int} {E R O : Int} {a : Option Addr} {n cap : Nat} {p : Pt} {r r' : Nat → Rw} (h : Tl w W c E R O a n cap p r) (k : Nat) (x : Rw) (hx : ((raw8 r).set (2 * k) (.bool x.is)).set (2 * k + 1) (.int .i64 x.n) = raw8 r') :
    Tl w ((W.setCell ⟨w.heap.size + 4, 2 * k, none⟩ (.bool x.is)).setCell ⟨w.heap.size + 4, 2 * k + 1, none⟩ (.int .i64 x.n)) c E R O a n cap p r' := by
  have b := (But.refl (· = w.heap.size + 4) W).setCell (p := ⟨w.heap.size + 4, 2 * k, none⟩) (Or.inl rfl) (.bool x.is)
  have b := b.setCell (p := ⟨w.heap.size + 4, 2 * k + 1, none⟩) (Or.inl rfl) (.int .i64 x.n)
  have o := (h.out.set (2 * k) (.bool x.is)).set (2 * k + 1) (.int .i64 x.n)
  rw [hx] at o
  exact ⟨But.below h.below b h.below.size (fun i hi => by omega), VRow.but (show VRow _ _ 24 (cellsI .i64 c) from h.cfg) b (by omega), h.trc.but b (by omega), h.pnt.but b (by omega), h.rsl.but b (by omega), o⟩
theorem tl_new (w : World) (c : List Int) (E R O : Int) (a : Option Addr) (n cap : Nat) (p : Pt) (f : Nat → Rw) :
    Tl w (((((w.alloc (.cells (CA c) 24)).alloc (.cells (trv E R O a n cap).toArray 70)).alloc (.cells (ptv p).toArray 77)).alloc (.cells (raw8 fun _ => rw0).toArray 42)).alloc (.cells (raw8 fun _ => rw0).toArray 42)) c E R O a n cap p (upto f 0) := by
  have e1 : (w.alloc (.cells (CA c) 24)).heap.size = w.heap.size + 1 := by simp
  have v1 : VRow (w.alloc (.cells (CA c) 24)) w.heap.size 24 (cellsI .i64 c) := Box.new w c
  have b1 := (Below.refl w.heap.size w).alloc (Nat.le_refl _) (.cells (CA c) 24)
  generalize w.alloc (.cells (CA c) 24) = W1 at *
  have e2 : (W1.alloc (.cells (trv E R O a n cap).toArray 70)).heap.size = w.heap.size + 2 := by simp [e1]
  have v2 := VRow.new W1 (trv E R O a n cap) 70
  rw [e1] at v2
  have u1 := v1.alloc (.cells (trv E R O a n cap).toArray 70)
  have b2 := b1.alloc (by omega) (.cells (trv E R O a n cap).toArray 70)
  generalize W1.alloc (.cells (trv E R O a n cap).toArray 70) = W2 at *
  have e3 : (W2.alloc (.cells (ptv p).toArray 77)).heap.size = w.heap.size + 3 := by simp [e2]
  have v3 := VRow.new W2 (ptv p) 77
  rw [e2] at v3
  have u2 := u1.alloc (.cells (ptv p).toArray 77)
  have q2 := v2.alloc (.cells (ptv p).toArray 77)
  have b3 := b2.alloc (by omega) (.cells (ptv p).toArray 77)
  generalize W2.alloc (.cells (ptv p).toArray 77) = W3 at *
  have e4 : (W3.alloc (.cells (raw8 fun _ => rw0).toArray 42)).heap.size = w.heap.size + 4 := by simp [e3]
  have v4 := VRow.new W3 (raw8 fun _ => rw0) 42
  rw [e3] at v4
  have u3 := u2.alloc (.cells (raw8 fun _ => rw0).toArray 42)
  have q3 := q2.alloc (.cells (raw8 fun _ => rw0).toArray 42)
  have p3 := v3.alloc (.cells (raw8 fun _ => rw0).toArray 42)
  have b4 := b3.alloc (by omega) (.cells (raw8 fun _ => rw0).toArray 42)
  generalize W3.alloc (.cells (raw8 fun _ => rw0).toArray 42) = W4 at *
  have v5 := VRow.new W4 (raw8 fun _ => rw0) 42
  rw [e4] at v5
  exact ⟨b4.alloc (by omega) _, u3.alloc _, q3.alloc _, p3.alloc _, v4.alloc _, v5⟩

theorem sizeR : (Tryz.prog.info? 42).map (·.size) = some 8 := by kernel_rfl
theorem aggR (w : World) : (isAgg 42).run Tryz.prog w = .ok true w := by simp [isAgg, run_underlying Tryz.underlying42]
theorem raw_one (r : Nat → Rw) : (raw8 r).toArray.all (·.oneCell') = true := by simp [raw8, Value.oneCell']
theorem put_eq (f : Nat → Rw) (k : Nat) (hk : k < 4) : ((raw8 (upto f k)).set (2 * k) (.bool (f k).is)).set (2 * k + 1) (.int .i64 (f k).n) = raw8 (upto f (k + 1)) := by
  have : k ∈ [0, 1, 2, 3] := by simp; omega
  simp only [List.mem_cons, List.mem_nil_iff, or_false] at this
  rcases this with rfl | rfl | rfl | rfl <;> simp [raw8, upto]
set_option maxHeartbeats 6400000 in
theorem told_any (c : List Int) (E R O : Int) (a : Option Addr) (n cap : Nat) (at_ : Int) (p : Pt) (w : World) (hc : c.length = 21) (C : Cov c E R) (hp : Pok p) (ha : -4294967296 ≤ at_ ∧ at_ ≤ 4294967296) :
    Calls Tryz.prog 22 #[.agg (CA c), .agg (trv E R O a n cap).toArray, .int .i64 at_, .agg (ptv p).toArray] w fun e w' => e = .returned (.tuple #[.agg (raw8 (upto (tel E O at_ p) (NN c))).toArray, .int .i64 (llo E O at_ p (NN c)), .int .i64 (lhi E O at_ p (NN c))]) ∧ Below w.heap.size w w' := by
  have T0 := Lib.hid (tl_new w c E R O a n cap p (tel E O at_ p))
  have h34 := NN_34 C.right
  have hNN := NN_eq C.right
  have HC := Lib.hid hc
  have e0 := C.e0
  have e1 := C.e1
  have HP := Lib.hid hp
  generalize NN c = m at *
  have W0eq : (((((w.alloc (.cells (CA c) 24)).alloc (.cells (trv E R O a n cap).toArray 70)).alloc (.cells (ptv p).toArray 77)).alloc (.cells (raw8 fun _ => rw0).toArray 42)).alloc (.cells (raw8 fun _ => rw0).toArray 42)) = (((((w.alloc (.cells (CA c) 24)).alloc (.cells #[.int .i64 E, .int .i64 R, .int .i64 O, .slice a n cap] 70)).alloc (.cells #[.int .i16 p.mv, .int .i16 p.f0, .int .i16 p.f1, .int .i16 p.f2, .int .i16 p.f3, .bool p.raw.is, .int .i64 p.raw.n] 77)).alloc (.cells #[.bool false, .int .i64 0, .bool false, .int .i64 0, .bool false, .int .i64 0, .bool false, .int .i64 0] 42)).alloc (.cells #[.bool false, .int .i64 0, .bool false, .int .i64 0, .bool false, .int .i64 0, .bool false, .int .i64 0] 42)) := rfl
  rw [W0eq] at T0
  clear W0eq hc hp
  unfold trv ptv
  go_enter Tryz.func22, Tryz.ntmps22
  go_wp2_with fail
  generalize (((((w.alloc (.cells (CA c) 24)).alloc (.cells #[.int .i64 E, .int .i64 R, .int .i64 O, .slice a n cap] 70)).alloc (.cells #[.int .i16 p.mv, .int .i16 p.f0, .int .i16 p.f1, .int .i16 p.f2, .int .i16 p.f3, .bool p.raw.is, .int .i64 p.raw.n] 77)).alloc (.cells #[.bool false, .int .i64 0, .bool false, .int .i64 0, .bool false, .int .i64 0, .bool false, .int .i64 0] 42)).alloc (.cells #[.bool false, .int .i64 0, .bool false, .int .i64 0, .bool false, .int .i64 0, .bool false, .int .i64 0] 42)) = W0 at *
  go_loopg [12, 13, 14] m (fun gg s12 s13 s14 wr => ∃ k : Nat, k + gg = m ∧ s14 = .int .i64 k ∧ s12 = .int .i64 (llo E O at_ p k) ∧ s13 = .int .i64 (lhi E O at_ p k) ∧ Hid (Tl w wr c E R O a n cap p (upto (tel E O at_ p) k)))
  case atStart => exact ⟨0, by omega, rfl, rfl, rfl, T0⟩
  case round =>
    obtain ⟨k, hk, rfl, rfl, rfl, T⟩ := hrel
    clear T0
    have q0 := T.out.cfg.at HC.out 0 (by omega)
    rw [← hNN] at q0
    have t0 := T.out.trc.cell 0 (v := .int .i64 E) rfl
    have t2 := T.out.trc.cell 2 (v := .int .i64 O) rfl
    by_cases hlt : k < m
    · have hk4 : k < 4 := by omega
      have HK := Lib.hid hk
      have hli : (k : Int) < m := by omega
      obtain ⟨o0, o1, o2, o3, o4, o5, o6, o7⟩ := raw_cells T.out.out
      have fz := T.out.out.frozen
      have PE := put_eq (tel E O at_ p) k hk4
      have TP := Lib.hid (T.out.drew.put k (tel E O at_ p k) PE)
      have TQ := Lib.hid (T.out.put k (tel E O at_ p k) PE)
      obtain ⟨k', hk'⟩ : ∃ k', k' = k + 1 := ⟨_, rfl⟩
      have HLO := Lib.hid (show llo E O at_ p k' = if (k : Int) = O then llo E O at_ p k else min (llo E O at_ p k) (tel E O at_ p k).n by rw [hk']; rfl)
      have HHI := Lib.hid (show lhi E O at_ p k' = if (k : Int) = O then lhi E O at_ p k else max (lhi E O at_ p k) (tel E O at_ p k).n by rw [hk']; rfl)
      rw [← hk'] at TP TQ
      have HKK := Lib.hid hk'
      have hki : k ∈ [0, 1, 2, 3] := by simp; omega
      simp only [List.mem_cons, List.mem_nil_iff, or_false] at hki
      clear PE hk
      by_cases hO : (k : Int) = O
      · have et : tel E O at_ p k = p.raw := if_pos hO
        rw [if_pos hO] at HLO HHI
        rw [et] at TQ
        have dO : ((k : Int) == O) = true := by simpa using hO
        have p5 := T.out.pnt.cell 5 (v := .bool p.raw.is) rfl
        have p6 := T.out.pnt.cell 6 (v := .int .i64 p.raw.n) rfl
        clear TP hO et hk'
        generalize llo E O at_ p k = l1 at *
        generalize lhi E O at_ p k = l2 at *
        generalize upto (tel E O at_ p) k = uk at *
        rcases hki with rfl | rfl | rfl | rfl
        all_goals
          go_wp2
          go_roundg (gk - 1)
          case rel => exact ⟨k', by have := HK.out; have := HKK.out; omega, by rw [HKK.out]; rfl, by rw [HLO.out], by rw [HHI.out], TQ⟩
          case measure => have := HK.out; omega
      · have et : tel E O at_ p k = ⟨true, at_ + (pf p k).tmod (E + 1)⟩ := if_neg hO
        rw [if_neg hO] at HLO HHI
        rw [et] at TP HLO HHI
        have dO : ((k : Int) == O) = false := by simpa using hO
        have pp : -32768 ≤ pf p k ∧ pf p k ≤ 32767 := by
          have h := HP.out
          unfold pf
          split
          · exact h.f0
          · split
            · exact h.f1
            · split
              · exact h.f2
              · exact h.f3
        have pc : wr.cell? ⟨w.heap.size + 2, 1 + k, none⟩ = some (.int .i16 (pf p k)) := by
          rcases hki with rfl | rfl | rfl | rfl
          · exact T.out.pnt.cell 1 rfl
          · exact T.out.pnt.cell 2 rfl
          · exact T.out.pnt.cell 3 rfl
          · exact T.out.pnt.cell 4 rfl
        have tb := tmod_bd (m := pf p k) e0
        have w3 : IntKind.i64.wrap (E + 1) = E + 1 := IntWalk.i64_in _ (by omega)
        have w4 : IntKind.i64.wrap (pf p k) = pf p k := IntWalk.i64_in _ (by omega)
        have w5 : IntKind.i64.wrap (at_ + (pf p k).tmod (E + 1)) = at_ + (pf p k).tmod (E + 1) := IntWalk.i64_in _ (by omega)
        have w7 : wrap64 (at_ + (pf p k).tmod (E + 1)) = at_ + (pf p k).tmod (E + 1) := by unfold wrap64; omega
        have w6 : IntKind.i64.wrap ((pf p k).tmod (E + 1)) = (pf p k).tmod (E + 1) := IntWalk.i64_in _ (by omega)
        have z1 : ((E + 1) == 0) = false := by simp; omega
        have z2 : ¬ (E + 1 = 0) := by omega
        have tcf : ∀ W : World, Tl w W c E R O a n cap p (upto (tel E O at_ p) k') → W.cell? ⟨w.heap.size + 4, 2 * k + 1, none⟩ = some (.int .i64 (at_ + (pf p k).tmod (E + 1))) := fun W h => by
          have := VRow.cell (Tl.out h) (2 * k + 1) (v := .int .i64 (tel E O at_ p k).n) (by
            rw [hk']
            rcases hki with rfl | rfl | rfl | rfl <;> simp [raw8, upto])
          rwa [et] at this
        have TC := Lib.hid tcf
        clear tcf
        clear TQ hO et hk'
        generalize llo E O at_ p k = l1 at *
        generalize lhi E O at_ p k = l2 at *
        generalize upto (tel E O at_ p) k = uk at *
        rcases hki with rfl | rfl | rfl | rfl
        all_goals
          go_wp2_with fail
          refine Tail.wp_region_quiet_tail 14 (by kernel_rfl) (by kernel_rfl) ?_
          simp only [List.take_succ_cons, List.take_zero, List.drop_succ_cons, List.drop_zero]
          repeat (go_big_quiet_step (fail))
          refine wpQuiet_nil ?_
          go_wp2
          go_roundg (gk - 1)
          case rel => exact ⟨k', by have := HK.out; have := HKK.out; omega, by rw [HKK.out]; rfl, by rw [HLO.out], by rw [HHI.out], TP⟩
          case measure => have := HK.out; omega
    · obtain rfl : k = m := by omega
      go_wp2_with (first | ((with_reducible show wpList _ _ _ (⟨some 55, _, _, _, _, _⟩ :: _) _ _); refine VB.loaded rfl _ rfl (w.heap.size + 4) rfl T.out.out Tryz.underlying42 rfl sizeR ?_) | ((with_reducible show wpList _ _ _ (⟨none, .store _ (.tmp 8) _, _, _, _, _⟩ :: _) _ _); refine VB.store rfl _ _ rfl (w.heap.size + 3) (raw8 (upto (tel E O at_ p) k)) rfl rfl T.out.rsl sizeR rfl (raw_one _) ?_))
      refine bodyPost_ret (v := .tuple #[.agg (raw8 (upto (tel E O at_ p) k)).toArray, .int .i64 (llo E O at_ p k), .int .i64 (lhi E O at_ p k)]) ?_ rfl ⟨rfl, Below.put T.out.below (by omega) _⟩
      exact (VB.ret3 (cs := raw8 (upto (tel E O at_ p) k)) rfl rfl (aggR _) sizeR (VRow.put T.out.rsl (raw8 (upto (tel E O at_ p) k)))).trans rfl
end Sg
end Go.Proofs.YtmlhmmfgdioclaaGreat
