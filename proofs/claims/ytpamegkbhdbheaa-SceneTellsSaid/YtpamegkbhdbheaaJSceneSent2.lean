/-
  What sent of package scene does: its contract by walking the Go text. Conditions: how the scene lies; that it is right; that there is such a point, and channel.
  Slots of many cycles in one row: how they come to lie there, one by one; what Cycles of package scene lays. No function of the program is walked here. No conditions.
-/
import Derived.Test.YtpamegkbhdbheaaJSceneWalks3
import Derived.Test.YtpamegkbhdbheaaJSceneClone4
import Derived.Test.YtpamegkbhdbheaaJFrameRead3
import Derived.Deep.RegionWith
namespace Go.Proofs.Ytpamegkbhdbheaa
set_option maxRecDepth 100000
open Go.ChangeShapes Go.WideShapes Go.ChangeAt Go.RowKit Go.Deep
namespace Sc
open Cf (G CA)

/-- Bytes lie where bytes lie. -/
theorem u8_apart {X : World} {a : Option Addr} {l : List Int} {b : Nat} {t : TypeId} {cs : List Value} (h : IntsAt .u8 X a l) (hl : 0 < l.length) (v : VRow X b t cs) (hn : ∀ u, u ∈ cs → ∀ x, u ≠ .int .u8 x) : ∀ ad, a = some ad → ¬ ad.block = b := by
  rcases h with h | ⟨b', off, rfl, hc⟩
  · rw [h] at hl; simp at hl
  · rintro ad e eb
    cases e
    have h0 := hc 0 hl
    replace eb : b' = b := eb
    subst eb
    rw [cell_of_row X b' (off + 0) _ t (0, 0) v] at h0
    exact hn _ (List.mem_of_getElem? (l := cs) (by simpa using h0)) _ rfl
/-- Bytes stay where another struct is written. -/
theorem u8_put {X : World} {a : Option Addr} {l : List Int} {b : Nat} {t : TypeId} {cs cs' : List Value} (h : IntsAt .u8 X a l) (v : VRow X b t cs) (hn : ∀ u, u ∈ cs → ∀ x, u ≠ .int .u8 x) : IntsAt .u8 (X.setRow b cs'.toArray) a l := by
  by_cases hl : 0 < l.length
  · exact h.but ((But.refl (· = b) X).put (g := b) (Or.inl rfl) cs'.toArray) (u8_apart h hl v hn)
  · exact Or.inl (List.length_eq_zero_iff.1 (by omega))
theorem u8_set {X : World} {a : Option Addr} {l : List Int} {b i j : Nat} {t : TypeId} {cs : List Value} {x y : Value} (h : IntsAt .u8 X a l) (v : VRow X b t cs) (hn : ∀ u, u ∈ cs → ∀ x, u ≠ .int .u8 x) : IntsAt .u8 ((X.setCell ⟨b, i, none⟩ x).setCell ⟨b, j, none⟩ y) a l := by
  by_cases hl : 0 < l.length
  · exact h.but (((But.refl (· = b) X).setCell (p := ⟨b, i, none⟩) (Or.inl rfl) x).setCell (p := ⟨b, j, none⟩) (Or.inl rfl) y) (u8_apart h hl v hn)
  · exact Or.inl (List.length_eq_zero_iff.1 (by omega))
theorem slot_not (is : Bool) (a : Option Addr) (n cap : Nat) : ∀ u, u ∈ ([.bool is, .slice a n cap] : List Value) → ∀ x, u ≠ .int .u8 x := by
  intro v hv x e; simp at hv; rcases hv with rfl | rfl <;> cases e
/-- What sent hands back: a slot, whose bytes are l. -/
def RetS (w : World) (is : Bool) (l : List Int) (e : Ending) (w' : World) : Prop :=
  ∃ a cap, e = .returned (.agg #[.bool is, .slice a l.length cap]) ∧ IntsAt .u8 w' a l ∧ l.length ≤ cap ∧ Below w.heap.size w w'
theorem sizeL : (Try.prog.info? 44).map (·.size) = some 2 := by kernel_rfl
theorem aggL (W : World) : (isAgg 44).run Try.prog W = .ok true W := by simp [isAgg, run_underlying Try.underlying44]
/-- What lies about while a frame is filled. -/
structure Sd (w W : World) (og pg fg : Nat) (p : Pt) (l : List Int) : Prop where
  below : Below w.heap.size w W
  out : VRow W og 44 [.bool false, .slice none 0 0]
  pt : VRow W pg 59 (ptv p)
  fr : IRow .i64 W fg 52 l
  ge : w.heap.size ≤ fg
  n1 : og ≠ fg
  n2 : pg ≠ fg
section
variable {w W W' : World} {og pg fg : Nat} {p : Pt} {l : List Int}
theorem Sd.on (h : Sd w W og pg fg p l) (b : Below W.heap.size W W') : Sd w W' og pg fg p l := ⟨grow h.below b, h.out.below b h.out.lt, h.pt.below b h.pt.lt, h.fr.below b h.fr.lt, h.ge, h.n1, h.n2⟩
theorem Sd.set (h : Sd w W og pg fg p l) (j : Nat) (x : Int) : Sd w (W.setCell ⟨fg, j, none⟩ (.int .i64 x)) og pg fg p (l.set j x) :=
  ⟨h.below.setCell (p := ⟨fg, j, none⟩) h.ge _, h.out.setOther (p := ⟨fg, j, none⟩) h.n1 _, h.pt.setOther (p := ⟨fg, j, none⟩) h.n2 _, h.fr.set j x, h.ge, h.n1, h.n2⟩
end
section
variable (s : Sn) (a : Option Addr) (cap : Nat) (w : World) (L : Lens s) (hp : PsAt w a s.ps)
include L hp
set_option maxHeartbeats 3200000 in
theorem sent_odd (i k : Nat) (hi : i < s.ps.length) (hk : (k : Int) = s.odd) :
    Calls Try.prog 22 #[.agg (scv s a cap).toArray, .int .i64 i, .int .i64 k] w (RetS w (pt s i).is (pt s i).l) := by
  have X0 := Lib.hid ((Bd.new (cap := cap) L hp).on (below_new _ #[.bool false, .slice none 0 0] 44))
  have O0 := Lib.hid (VRow.new (w.alloc (.cells (scv s a cap).toArray 27)) [.bool false, .slice none 0 0] 44)
  rw [World.size_alloc] at O0
  obtain ⟨b, off, rfl, P⟩ := hp.at_ hi
  have HI := Lib.hid hi
  have hli : (i : Int) < s.ps.length := by omega
  have SP := Lib.hid (sizeP P.t8 P.o32)
  have LP := Lib.hid (show ([.int .i64 0, .int .i64 0, .int .i64 0, .int .i64 0, .int .i64 0, .int .i64 0, .int .i64 0, .int .i64 0, .int .i64 0, .int .i64 0, .int .i64 0, .int .i64 0, .int .i64 0, .int .i64 0, .int .i64 0, .int .i64 0, .int .i64 0, .int .i64 0, .int .i64 0, .int .i64 0, .int .i64 0, .int .i64 0, .int .i64 0, .int .i64 0, .int .i64 0, .int .i64 0, .int .i64 0, .int .i64 0, .int .i64 0, .int .i64 0, .int .i64 0, .int .i64 0, .int .i64 0, .int .i64 0, .int .i64 0, .int .i64 0, .int .i64 0, .int .i64 0, .int .i64 0, .int .i64 0, .bool false, .slice none 0 0] : List Value).length = (ptv (pt s i)).length by rw [ptv_len P.t8 P.o32]; rfl)
  have P40 := Lib.hid (ptv_is P.t8 P.o32)
  have P41 := Lib.hid (ptv_l P.t8 P.o32)
  have d1 : ((k : Int) == s.odd) = true := by simp [hk]
  have CC := Lib.hid (fun W (h : IntsAt .u8 W (pt s i).a (pt s i).l) => clone_any (pt s i).a (pt s i).cap (pt s i).l W P.size P.cap.1 P.nil h)
  have HB := Lib.hid (fun W (D : At W w.heap.size s (some ⟨b, off, none⟩) cap) => (D.ps.here hi).bytes)
  have HR := Lib.hid (fun W (D : At W w.heap.size s (some ⟨b, off, none⟩) cap) => show W.rangeAt b (off + i * 42) (ptv (pt s i)) from fun j v hv => (D.ps.here hi).cell j v hv)
  clear L hp hi hk P
  go_enter Try.func22, Try.ntmps22
  go_upto_region 1 with fail
  generalize (w.alloc (.cells (scv s (some ⟨b, off, none⟩) cap).toArray 27)).alloc (.cells #[.bool false, .slice none 0 0] 44) = w0 at *
  generalize hg : w.heap.size = g at *
  have c28 := X0.out.at_.p
  have RP := Lib.hid (HR.out _ X0.out.at_)
  have V1 := (VRow.new w0 [.int .i64 0, .int .i64 0, .int .i64 0, .int .i64 0, .int .i64 0, .int .i64 0, .int .i64 0, .int .i64 0, .int .i64 0, .int .i64 0, .int .i64 0, .int .i64 0, .int .i64 0, .int .i64 0, .int .i64 0, .int .i64 0, .int .i64 0, .int .i64 0, .int .i64 0, .int .i64 0, .int .i64 0, .int .i64 0, .int .i64 0, .int .i64 0, .int .i64 0, .int .i64 0, .int .i64 0, .int .i64 0, .int .i64 0, .int .i64 0, .int .i64 0, .int .i64 0, .int .i64 0, .int .i64 0, .int .i64 0, .int .i64 0, .int .i64 0, .int .i64 0, .int .i64 0, .int .i64 0, .bool false, .slice none 0 0] 59).put (ptv (pt s i))
  have B1 : Below w0.heap.size w0 ((w0.alloc (.cells #[.int .i64 0, .int .i64 0, .int .i64 0, .int .i64 0, .int .i64 0, .int .i64 0, .int .i64 0, .int .i64 0, .int .i64 0, .int .i64 0, .int .i64 0, .int .i64 0, .int .i64 0, .int .i64 0, .int .i64 0, .int .i64 0, .int .i64 0, .int .i64 0, .int .i64 0, .int .i64 0, .int .i64 0, .int .i64 0, .int .i64 0, .int .i64 0, .int .i64 0, .int .i64 0, .int .i64 0, .int .i64 0, .int .i64 0, .int .i64 0, .int .i64 0, .int .i64 0, .int .i64 0, .int .i64 0, .int .i64 0, .int .i64 0, .int .i64 0, .int .i64 0, .int .i64 0, .int .i64 0, .bool false, .slice none 0 0] 59)).setRow w0.heap.size (ptv (pt s i)).toArray) := Below.put ((Below.refl _ w0).alloc (Nat.le_refl _) _) (Nat.le_refl _) _
  have V2 := Lib.hid V1
  have X1 := Lib.hid (X0.out.on B1)
  have O1 := Lib.hid (O0.out.below B1 O0.out.lt)
  have NE := Lib.hid (show g + 1 ≠ w0.heap.size by have := O0.out.lt; omega)
  clear V1 B1
  go_upto_region 2 with (first
    | ((with_reducible show wpList _ _ _ (⟨some 16, _, _, _, _, _⟩ :: _) _ _); refine wpList_load_mid rfl _ _ rfl b (off + i * 42) rfl (ptv (pt s i)) _ RP.out Try.underlying59 rfl SP.out ?_)
    | ((with_reducible show wpList _ _ _ (⟨none, .store _ (.tmp 7) _, _, _, _, _⟩ :: _) _ _); refine VB.store rfl _ _ rfl w0.heap.size (ptv (pt s i)) rfl rfl (VRow.new w0 [.int .i64 0, .int .i64 0, .int .i64 0, .int .i64 0, .int .i64 0, .int .i64 0, .int .i64 0, .int .i64 0, .int .i64 0, .int .i64 0, .int .i64 0, .int .i64 0, .int .i64 0, .int .i64 0, .int .i64 0, .int .i64 0, .int .i64 0, .int .i64 0, .int .i64 0, .int .i64 0, .int .i64 0, .int .i64 0, .int .i64 0, .int .i64 0, .int .i64 0, .int .i64 0, .int .i64 0, .int .i64 0, .int .i64 0, .int .i64 0, .int .i64 0, .int .i64 0, .int .i64 0, .int .i64 0, .int .i64 0, .int .i64 0, .int .i64 0, .int .i64 0, .int .i64 0, .int .i64 0, .bool false, .slice none 0 0] 59) SP.out LP.out ptv_all ?_))
  clear c28 RP O0 X0
  generalize (w0.alloc (.cells #[.int .i64 0, .int .i64 0, .int .i64 0, .int .i64 0, .int .i64 0, .int .i64 0, .int .i64 0, .int .i64 0, .int .i64 0, .int .i64 0, .int .i64 0, .int .i64 0, .int .i64 0, .int .i64 0, .int .i64 0, .int .i64 0, .int .i64 0, .int .i64 0, .int .i64 0, .int .i64 0, .int .i64 0, .int .i64 0, .int .i64 0, .int .i64 0, .int .i64 0, .int .i64 0, .int .i64 0, .int .i64 0, .int .i64 0, .int .i64 0, .int .i64 0, .int .i64 0, .int .i64 0, .int .i64 0, .int .i64 0, .int .i64 0, .int .i64 0, .int .i64 0, .int .i64 0, .int .i64 0, .bool false, .slice none 0 0] 59)).setRow w0.heap.size (ptv (pt s i)).toArray = W1 at *
  generalize w0.heap.size = pg at *
  have q1 := X1.out.at_.odd
  have c0 := V2.out.cell 40 P40.out
  have c1 := V2.out.cell 41 P41.out
  go_upto_region 3 with fail
  clear q1 d1
  go_region_with (go_at_call 38; refine (CC.out W1.drew (HB.out W1.drew (X1.out.at_.on (below_drewN (Below.refl _ W1) 1)))).mono ?_; rintro e w2 ⟨a2, k2, rfl, i2, m2, b2⟩; have O2 := Lib.hid (VRow.below (O1.out.drew) b2 O1.out.lt); have X2 := Lib.hid ((X1.out.on (below_drewN (Below.refl _ W1) 1)).on b2); have I2 := Lib.hid i2; have M2 := Lib.hid m2; have y0 := O2.out.cell 0 (v := .bool false) rfl; have y1 := O2.out.cell 1 (v := .slice none 0 0) rfl; have f0 := O2.out.frozen 0; have f1 := O2.out.frozen 1; have v0 := (VRow.below V2.out.drew b2 V2.out.lt).cell 40 P40.out; clear i2 m2 b2)
  all_goals
    go_wp2_with fail
    have V3 := (O2.out.set 0 (.bool (pt s i).is)).set 1 (.slice a2 (pt s i).l.length k2)
    refine bodyPost_ret ((VB.ret1 (cs := [.bool (pt s i).is, .slice a2 (pt s i).l.length k2]) rfl rfl (aggL _) sizeL V3).trans rfl) rfl ⟨a2, k2, rfl, ?_, M2.out, ?_⟩
    · exact u8_set I2.out O2.out (slot_not _ _ _ _)
    · exact (X2.out.below.setCell (p := ⟨g + 1, 0, none⟩) (by show _ ≤ g + 1; omega) _).setCell (p := ⟨g + 1, 1, none⟩) (by show _ ≤ g + 1; omega) _
omit L hp in
theorem fl_set {q : Int} {l : List Int} {n : Nat} (hl : l.length = 8) (hn : n < 8) : (q :: (l.take n ++ List.replicate (8 - n) 0)).set (1 + n) (l.getD n 0) = q :: (l.take (n + 1) ++ List.replicate (8 - (n + 1)) 0) := by
  rw [Nat.add_comm 1 n, List.set_cons_succ]
  congr 1
  rw [List.set_append_right _ _ (by rw [List.length_take]; omega), List.length_take, Nat.min_eq_left (by omega), Nat.sub_self,
    show 8 - n = (8 - (n + 1)) + 1 by omega, List.replicate_succ, List.set_cons_zero, List.take_succ_eq_append_getElem (by omega), List.append_assoc]
  simp [List.getD_eq_getElem?_getD, hl, hn]
set_option maxHeartbeats 3200000 in
theorem sent_other (H : Ok s) (i k : Nat) (hi : i < s.ps.length) (hk : k < NN s) (ho : ¬ (k : Int) = s.odd) :
    Calls Try.prog 22 #[.agg (scv s a cap).toArray, .int .i64 i, .int .i64 k] w (RetS w true (Fm.enc k (sq s i k) (vs s i k))) := by
  have X0 := Lib.hid ((Bd.new (cap := cap) L hp).on (below_new _ #[.bool false, .slice none 0 0] 44))
  have O0 := Lib.hid (VRow.new (w.alloc (.cells (scv s a cap).toArray 27)) [.bool false, .slice none 0 0] 44)
  rw [World.size_alloc] at O0
  obtain ⟨b, off, rfl, P⟩ := hp.at_ hi
  have HI := Lib.hid hi
  have hli : (i : Int) < s.ps.length := by omega
  have SP := Lib.hid (sizeP P.t8 P.o32)
  have LP := Lib.hid (show ([.int .i64 0, .int .i64 0, .int .i64 0, .int .i64 0, .int .i64 0, .int .i64 0, .int .i64 0, .int .i64 0, .int .i64 0, .int .i64 0, .int .i64 0, .int .i64 0, .int .i64 0, .int .i64 0, .int .i64 0, .int .i64 0, .int .i64 0, .int .i64 0, .int .i64 0, .int .i64 0, .int .i64 0, .int .i64 0, .int .i64 0, .int .i64 0, .int .i64 0, .int .i64 0, .int .i64 0, .int .i64 0, .int .i64 0, .int .i64 0, .int .i64 0, .int .i64 0, .int .i64 0, .int .i64 0, .int .i64 0, .int .i64 0, .int .i64 0, .int .i64 0, .int .i64 0, .int .i64 0, .bool false, .slice none 0 0] : List Value).length = (ptv (pt s i)).length by rw [ptv_len P.t8 P.o32]; rfl)
  have d1 : ((k : Int) == s.odd) = false := by simp [ho]
  have HR := Lib.hid (fun W (D : At W w.heap.size s (some ⟨b, off, none⟩) cap) => show W.rangeAt b (off + i * 42) (ptv (pt s i)) from fun j v hv => (D.ps.here hi).cell j v hv)
  have C := cv_of H.cov
  have hk4 : k < 4 := by have := C.nn; omega
  have hki : (k : Int) < 4 := by omega
  obtain ⟨hr, hc⟩ := H.right hi hk ho
  have CE := Lib.hid (fun W => (show Calls Try.prog 39 #[.int .i64 k, .agg (cellsI .i64 (sq s i k :: vs s i k)).toArray] W (Fm.RetCE W (Fm.enc k (sq s i k) (vs s i k)) (Fm.encE k (sq s i k) (vs s i k))) from
    Fm.enc_yes_any k (sq s i k) (val s i k 0) (val s i k 1) (val s i k 2) (val s i k 3) (val s i k 4) (val s i k 5) (val s i k 6) (val s i k 7) W hr hc))
  unfold Fm.RetCE at CE
  rw [Fm.encE_yes hr hc, Fm.enc_len hr hc vs_len] at CE
  have HEL := Lib.hid (Fm.enc_len hr hc (vs_len (s := s) (i := i) (k := k)))
  have CT := Lib.hid (fun W n (hn : n < 8) => told_any (pt s i) k n (val s i k n) W P.t8 P.o32 hk4 hn rfl (by have := H.within hi hk hn ho; have := C.lo; have := C.hi; omega))
  have hq := H.num k hk
  have hfew := H.few
  have hqm : (qv s k + (i : Int)).tmod 65536 = sq s i k := by unfold sq; rw [Int.tmod_eq_emod_of_nonneg (by omega)]
  have HVS := Lib.hid (fun n (hn : n < 8) => vs_at (s := s) (i := i) (k := k) hn)
  have HSET := Lib.hid (fun n (hn : n < 8) => fl_set (q := sq s i k) (vs_len (s := s) (i := i) (k := k)) hn)
  have HLV := Lib.hid (vs_len (s := s) (i := i) (k := k))
  have cq0 := X0.out.at_.q k hk4
  clear L hp hi hk P C hr hc H ho hk4
  go_enter Try.func22, Try.ntmps22
  go_upto_region 1 with fail
  generalize (w.alloc (.cells (scv s (some ⟨b, off, none⟩) cap).toArray 27)).alloc (.cells #[.bool false, .slice none 0 0] 44) = w0 at *
  generalize hg : w.heap.size = g at *
  have c28 := X0.out.at_.p
  have RP := Lib.hid (HR.out _ X0.out.at_)
  have V1 := (VRow.new w0 [.int .i64 0, .int .i64 0, .int .i64 0, .int .i64 0, .int .i64 0, .int .i64 0, .int .i64 0, .int .i64 0, .int .i64 0, .int .i64 0, .int .i64 0, .int .i64 0, .int .i64 0, .int .i64 0, .int .i64 0, .int .i64 0, .int .i64 0, .int .i64 0, .int .i64 0, .int .i64 0, .int .i64 0, .int .i64 0, .int .i64 0, .int .i64 0, .int .i64 0, .int .i64 0, .int .i64 0, .int .i64 0, .int .i64 0, .int .i64 0, .int .i64 0, .int .i64 0, .int .i64 0, .int .i64 0, .int .i64 0, .int .i64 0, .int .i64 0, .int .i64 0, .int .i64 0, .int .i64 0, .bool false, .slice none 0 0] 59).put (ptv (pt s i))
  have B1 : Below w0.heap.size w0 ((w0.alloc (.cells #[.int .i64 0, .int .i64 0, .int .i64 0, .int .i64 0, .int .i64 0, .int .i64 0, .int .i64 0, .int .i64 0, .int .i64 0, .int .i64 0, .int .i64 0, .int .i64 0, .int .i64 0, .int .i64 0, .int .i64 0, .int .i64 0, .int .i64 0, .int .i64 0, .int .i64 0, .int .i64 0, .int .i64 0, .int .i64 0, .int .i64 0, .int .i64 0, .int .i64 0, .int .i64 0, .int .i64 0, .int .i64 0, .int .i64 0, .int .i64 0, .int .i64 0, .int .i64 0, .int .i64 0, .int .i64 0, .int .i64 0, .int .i64 0, .int .i64 0, .int .i64 0, .int .i64 0, .int .i64 0, .bool false, .slice none 0 0] 59)).setRow w0.heap.size (ptv (pt s i)).toArray) := Below.put ((Below.refl _ w0).alloc (Nat.le_refl _) _) (Nat.le_refl _) _
  have V2 := Lib.hid V1
  have X1 := Lib.hid (X0.out.on B1)
  have O1 := Lib.hid (O0.out.below B1 O0.out.lt)
  clear V1 B1
  go_upto_region 2 with (first
    | ((with_reducible show wpList _ _ _ (⟨some 16, _, _, _, _, _⟩ :: _) _ _); refine wpList_load_mid rfl _ _ rfl b (off + i * 42) rfl (ptv (pt s i)) _ RP.out Try.underlying59 rfl SP.out ?_)
    | ((with_reducible show wpList _ _ _ (⟨none, .store _ (.tmp 7) _, _, _, _, _⟩ :: _) _ _); refine VB.store rfl _ _ rfl w0.heap.size (ptv (pt s i)) rfl rfl (VRow.new w0 [.int .i64 0, .int .i64 0, .int .i64 0, .int .i64 0, .int .i64 0, .int .i64 0, .int .i64 0, .int .i64 0, .int .i64 0, .int .i64 0, .int .i64 0, .int .i64 0, .int .i64 0, .int .i64 0, .int .i64 0, .int .i64 0, .int .i64 0, .int .i64 0, .int .i64 0, .int .i64 0, .int .i64 0, .int .i64 0, .int .i64 0, .int .i64 0, .int .i64 0, .int .i64 0, .int .i64 0, .int .i64 0, .int .i64 0, .int .i64 0, .int .i64 0, .int .i64 0, .int .i64 0, .int .i64 0, .int .i64 0, .int .i64 0, .int .i64 0, .int .i64 0, .int .i64 0, .int .i64 0, .bool false, .slice none 0 0] 59) SP.out LP.out ptv_all ?_))
  clear c28 RP O0 X0 cq0 LP
  generalize (w0.alloc (.cells #[.int .i64 0, .int .i64 0, .int .i64 0, .int .i64 0, .int .i64 0, .int .i64 0, .int .i64 0, .int .i64 0, .int .i64 0, .int .i64 0, .int .i64 0, .int .i64 0, .int .i64 0, .int .i64 0, .int .i64 0, .int .i64 0, .int .i64 0, .int .i64 0, .int .i64 0, .int .i64 0, .int .i64 0, .int .i64 0, .int .i64 0, .int .i64 0, .int .i64 0, .int .i64 0, .int .i64 0, .int .i64 0, .int .i64 0, .int .i64 0, .int .i64 0, .int .i64 0, .int .i64 0, .int .i64 0, .int .i64 0, .int .i64 0, .int .i64 0, .int .i64 0, .int .i64 0, .int .i64 0, .bool false, .slice none 0 0] 59)).setRow w0.heap.size (ptv (pt s i)).toArray = W1 at *
  generalize w0.heap.size = pg at *
  have q1 := X1.out.at_.odd
  have cq := X1.out.at_.q k (by omega)
  generalize qv s k = qq at *
  generalize s.odd = od at *
  generalize vs s i k = vl at *
  generalize sq s i k = sn at *
  go_upto_region 5 with fail
  have BA := below_new W1 #[.int .i64 sn, .int .i64 0, .int .i64 0, .int .i64 0, .int .i64 0, .int .i64 0, .int .i64 0, .int .i64 0, .int .i64 0] 52
  have S0 := Lib.hid (show Sd w (W1.alloc (.cells #[.int .i64 sn, .int .i64 0, .int .i64 0, .int .i64 0, .int .i64 0, .int .i64 0, .int .i64 0, .int .i64 0, .int .i64 0] 52)) (g + 1) pg W1.heap.size (pt s i) (sn :: (vl.take 0 ++ List.replicate (8 - 0) 0)) from
    ⟨grow X1.out.below BA, O1.out.below BA O1.out.lt, V2.out.below BA V2.out.lt, heap_alloc_new W1 (.cells #[.int .i64 sn, .int .i64 0, .int .i64 0, .int .i64 0, .int .i64 0, .int .i64 0, .int .i64 0, .int .i64 0, .int .i64 0] 52), X1.out.below.size, by have := O1.out.lt; omega, by have := V2.out.lt; omega⟩)
  clear BA X1 O1 V2 q1 cq d1 hqm hq hfew HR
  generalize W1.alloc (.cells #[.int .i64 sn, .int .i64 0, .int .i64 0, .int .i64 0, .int .i64 0, .int .i64 0, .int .i64 0, .int .i64 0, .int .i64 0] 52) = W2 at *
  generalize W1.heap.size = fg at *
  go_wp2_with fail
  go_loopg [9, 37] 8 (fun gg _ s37 wr => ∃ n : Nat, n + gg = 8 ∧ s37 = .int .i64 n ∧ Hid (Sd w wr (g + 1) pg fg (pt s i) (sn :: (vl.take n ++ List.replicate (8 - n) 0))))
  case atStart => exact ⟨0, rfl, rfl, S0⟩
  case round =>
    clear S0
    rename World => W
    obtain ⟨n, hn, rfl, S⟩ := hrel
    have HK := Lib.hid hn
    clear hn
    by_cases hlt : n < 8
    · have hl8 : (n : Int) < 8 := by omega
      have CT1 := fun W => CT.out W n hlt
      have HS := Lib.hid (HSET.out n hlt)
      rw [HVS.out n hlt] at HS
      generalize val s i k n = x at *
      go_wp2_with ((with_reducible show wpList _ _ _ (⟨some 41, _, _, _, _, _⟩ :: _) _ _); refine VB.loaded rfl _ rfl pg rfl S.out.pt Try.underlying59 rfl SP.out ?_)
      refine (CT1 _).mono ?_; rintro e w3 ⟨rfl, b3⟩
      have S3 := Lib.hid (S.out.on b3)
      clear b3 S CT1
      have cf := S3.out.fr.cell (1 + n) (by simp; have := HLV.out; omega)
      have ff := S3.out.fr.frozen (1 + n)
      have S4 := Lib.hid (S3.out.set (1 + n) x)
      rw [HS.out] at S4
      clear HS hlt
      go_wp2_with fail
      go_roundg (gk - 1)
      case rel => exact ⟨n + 1, by have := HK.out; omega, by go_num, S4⟩
      case measure => have := HK.out; omega
    · obtain rfl : n = 8 := by have := HK.out; omega
      have HL : vl.take 8 ++ List.replicate (8 - 8) 0 = vl := by rw [List.take_of_length_le (by rw [HLV.out]; decide)]; simp
      rw [HL] at S
      have SF := Lib.hid (show (Try.prog.info? 52).map (·.size) = some (cellsI .i64 (sn :: vl)).length by rw [cellsI, List.length_map, List.length_cons, HLV.out]; kernel_rfl)
      clear HL
      go_wp2_with ((with_reducible show wpList _ _ _ (⟨some 50, _, _, _, _, _⟩ :: _) _ _); refine VB.loaded rfl _ rfl fg rfl S.out.fr.vrow Try.underlying52 rfl SF.out ?_)
      refine (CE.out _).mono ?_; rintro e w4 ⟨a4, k4, rfl, i4, m4, b4⟩
      have S5 := Lib.hid (S.out.on b4)
      have I5 := Lib.hid i4
      have M5 := Lib.hid m4
      clear i4 m4 b4 S CE
      go_wp2_with ((with_reducible show wpList _ _ _ (⟨none, .store _ (.tmp 6) _, _, _, _, _⟩ :: _) _ _); refine VB.store rfl _ _ rfl (g + 1) [.bool true, .slice a4 38 k4] rfl rfl S5.out.out sizeL rfl (by simp [Value.oneCell']) ?_)
      refine bodyPost_ret ((VB.ret1 (cs := [.bool true, .slice a4 38 k4]) rfl rfl (aggL _) sizeL (S5.out.out.put _)).trans rfl) rfl ⟨a4, k4, by rw [HEL.out], ?_, by rw [HEL.out]; exact M5.out, ?_⟩
      · exact u8_put I5.out S5.out.out (slot_not _ _ _ _)
      · exact Below.put S5.out.below (by omega) _
end
end Sc
end Go.Proofs.Ytpamegkbhdbheaa

namespace Go.Proofs.Ytpamegkbhdbheaa
set_option maxRecDepth 100000
open Go.ChangeShapes Go.WideShapes Go.ChangeAt Go.RowKit Go.Deep
namespace Sc
open Cf (G CA)

/-- A slot, as it lies in memory. -/
structure Sl4 where
  is : Bool
  a : Option Addr
  l : List Int
  cap : Nat
def s2 (u : Sl4) : List Value := [.bool u.is, .slice u.a u.l.length u.cap]
def cyl : Nat → (Nat → Sl4) → List Value
  | 0, _ => []
  | m + 1, T => cyl m T ++ s2 (T m)
theorem cyl_len (T : Nat → Sl4) : ∀ m, (cyl m T).length = 2 * m
  | 0 => rfl
  | m + 1 => by rw [cyl, List.length_append, cyl_len T m]; simp [s2]; omega
theorem cyl_get (T : Nat → Sl4) : ∀ m j r, j < m → r < 2 → (cyl m T)[2 * j + r]? = (s2 (T j))[r]?
  | 0, j, r, h, _ => by omega
  | m + 1, j, r, h, hr => by
    rw [cyl]
    by_cases hj : j < m
    · rw [List.getElem?_append_left (by rw [cyl_len]; omega)]; exact cyl_get T m j r hj hr
    · obtain rfl : j = m := by omega
      rw [List.getElem?_append_right (by rw [cyl_len]; omega), cyl_len, Nat.add_sub_cancel_left]
theorem cyl_mem (T : Nat → Sl4) : ∀ m v, v ∈ cyl m T → ∃ j, v ∈ s2 (T j)
  | 0, v, h => by cases h
  | m + 1, v, h => by
    rw [cyl] at h
    rcases List.mem_append.1 h with h | h
    · exact cyl_mem T m v h
    · exact ⟨m, h⟩
theorem cyl_not (T : Nat → Sl4) (m : Nat) : ∀ v, v ∈ cyl m T → ∀ x, v ≠ .int .u8 x := by
  intro v hv x e
  obtain ⟨j, hj⟩ := cyl_mem T m v hv
  exact slot_not _ _ _ _ v hj x e
def upd (T : Nat → Sl4) (j : Nat) (u : Sl4) : Nat → Sl4 := fun x => if x = j then u else T x
theorem cyl_ext {l : List Value} {T : Nat → Sl4} {m : Nat} (hl : l.length = 2 * m) (h : ∀ j r, j < m → r < 2 → l[2 * j + r]? = (s2 (T j))[r]?) : l = cyl m T := by
  refine List.ext_getElem? fun x => ?_
  by_cases hx : x < 2 * m
  · have e : x = 2 * (x / 2) + x % 2 := by omega
    rw [e, h (x / 2) (x % 2) (by omega) (by omega), cyl_get T m (x / 2) (x % 2) (by omega) (by omega)]
  · rw [List.getElem?_eq_none (by omega), List.getElem?_eq_none (by rw [cyl_len]; omega)]
theorem cyl_set (T : Nat → Sl4) (m j : Nat) (u : Sl4) (hj : j < m) : ((cyl m T).set (2 * j) (.bool u.is)).set (2 * j + 1) (.slice u.a u.l.length u.cap) = cyl m (upd T j u) := by
  refine cyl_ext (by rw [List.length_set, List.length_set, cyl_len]) fun x r hx hr => ?_
  have hl := cyl_len T m
  unfold upd
  rcases (show r = 0 ∨ r = 1 by omega) with rfl | rfl
  · rw [List.getElem?_set_ne (by omega)]
    by_cases e : x = j
    · subst e; rw [if_pos rfl, Nat.add_zero, List.getElem?_set_self (by omega)]; rfl
    · rw [if_neg e, List.getElem?_set_ne (by omega)]; exact cyl_get T m x 0 hx (by omega)
  · by_cases e : x = j
    · subst e; rw [if_pos rfl, List.getElem?_set_self (by rw [List.length_set]; omega)]; rfl
    · rw [if_neg e, List.getElem?_set_ne (by omega), List.getElem?_set_ne (by omega)]; exact cyl_get T m x 1 hx (by omega)
/-- What a slot holds. -/
structure Good (W : World) (u : Sl4) (is : Bool) (l : List Int) : Prop where
  eis : u.is = is
  el : u.l = l
  cap : l.length ≤ u.cap
  at_ : IntsAt .u8 W u.a l
theorem Good.on {W W' : World} {u : Sl4} {is : Bool} {l : List Int} (h : Good W u is l) (b : Below W.heap.size W W') : Good W' u is l := ⟨h.eis, h.el, h.cap, h.at_.below b⟩
def sisC (s : Sn) (i k : Nat) : Bool := if k < NN s then sis s i k else false
def sbyC (s : Sn) (i k : Nat) : List Int := if k < NN s then sby s i k else []
def cis (s : Sn) (n j : Nat) : Bool := if j < n then sisC s (j / 4) (j % 4) else false
def cby (s : Sn) (n j : Nat) : List Int := if j < n then sbyC s (j / 4) (j % 4) else []
/-- The first n slots have come. -/
structure Fill (w W : World) (gl : Nat) (s : Sn) (m : Nat) (T : Nat → Sl4) (n : Nat) : Prop where
  below : Below w.heap.size w W
  row : VRow W gl 46 (cyl (4 * m) T)
  ge : w.heap.size ≤ gl
  good : ∀ j, j < 4 * m → Good W (T j) (cis s n j) (cby s n j)
section
variable {w W W' : World} {gl : Nat} {s : Sn} {m n : Nat} {T : Nat → Sl4}
theorem Fill.on (h : Fill w W gl s m T n) (b : Below W.heap.size W W') : Fill w W' gl s m T n := ⟨grow h.below b, h.row.below b h.row.lt, h.ge, fun j hj => (h.good j hj).on b⟩
theorem Fill.put (h : Fill w W gl s m T n) (i k : Nat) (hn : n = 4 * i + k) (hi : i < m) (hk : k < 4) {u : Sl4} (hu : Good W u (sisC s i k) (sbyC s i k)) :
    Fill w (W.setCells gl (i * 8 + k * 2) (s2 u)) gl s m (upd T n u) (n + 1) := by
  have e : W.setCells gl (i * 8 + k * 2) (s2 u) = (W.setCell ⟨gl, 2 * n, none⟩ (.bool u.is)).setCell ⟨gl, 2 * n + 1, none⟩ (.slice u.a u.l.length u.cap) := by
    rw [show i * 8 + k * 2 = 2 * n by omega]; rfl
  rw [e]
  have stay : ∀ {a : Option Addr} {l : List Int}, IntsAt .u8 W a l → IntsAt .u8 ((W.setCell ⟨gl, 2 * n, none⟩ (.bool u.is)).setCell ⟨gl, 2 * n + 1, none⟩ (.slice u.a u.l.length u.cap)) a l := fun q => u8_set q h.row (cyl_not _ _)
  refine ⟨(h.below.setCell (p := ⟨gl, 2 * n, none⟩) h.ge _).setCell (p := ⟨gl, 2 * n + 1, none⟩) h.ge _, ?_, h.ge, fun j hj => ?_⟩
  · rw [← cyl_set T (4 * m) n u (by omega)]
    exact (h.row.set (2 * n) _).set (2 * n + 1) _
  · unfold upd
    by_cases ej : j = n
    · subst ej
      rw [if_pos rfl]
      have e1 : cis s (j + 1) j = sisC s i k := by unfold cis; rw [if_pos (by omega), show j / 4 = i by omega, show j % 4 = k by omega]
      have e2 : cby s (j + 1) j = sbyC s i k := by unfold cby; rw [if_pos (by omega), show j / 4 = i by omega, show j % 4 = k by omega]
      rw [e1, e2]
      exact ⟨hu.eis, hu.el, hu.cap, stay hu.at_⟩
    · rw [if_neg ej]
      have e1 : cis s (n + 1) j = cis s n j := by unfold cis; by_cases q : j < n <;> simp [q] <;> omega
      have e2 : cby s (n + 1) j = cby s n j := by unfold cby; by_cases q : j < n <;> simp [q] <;> omega
      rw [e1, e2]
      have g := h.good j hj
      exact ⟨g.eis, g.el, g.cap, stay g.at_⟩
theorem Fill.next (h : Fill w W gl s m T n) (i : Nat) (hn : n = 4 * i + NN s) (h4 : NN s ≤ 4) : Fill w W gl s m T (4 * (i + 1)) := by
  refine ⟨h.below, h.row, h.ge, fun j hj => ?_⟩
  have e1 : cis s (4 * (i + 1)) j = cis s n j := by
    unfold cis
    by_cases q : j < n
    · rw [if_pos q, if_pos (by omega)]
    · rw [if_neg q]
      by_cases q2 : j < 4 * (i + 1)
      · rw [if_pos q2]; unfold sisC; rw [if_neg (by omega)]
      · rw [if_neg q2]
  have e2 : cby s (4 * (i + 1)) j = cby s n j := by
    unfold cby
    by_cases q : j < n
    · rw [if_pos q, if_pos (by omega)]
    · rw [if_neg q]
      by_cases q2 : j < 4 * (i + 1)
      · rw [if_pos q2]; unfold sbyC; rw [if_neg (by omega)]
      · rw [if_neg q2]
  rw [e1, e2]
  exact h.good j hj
end
theorem cycInfo : (Try.prog.info? 46).map (fun i => (i.zero, i.size, i.bytes)) = some (some (.agg #[.bool false, .slice none 0 0, .bool false, .slice none 0 0, .bool false, .slice none 0 0, .bool false, .slice none 0 0]), 8, 128) := by kernel_rfl
def zSl : Sl4 := ⟨false, none, [], 0⟩
theorem zeros_cyl (n : Nat) : (madeCells (Value.agg #[.bool false, .slice none 0 0, .bool false, .slice none 0 0, .bool false, .slice none 0 0, .bool false, .slice none 0 0]).cells (n * 8)).toList = cyl (4 * n) (fun _ => zSl) := by
  refine cyl_ext (by rw [Array.length_toList, size_madeCells]; omega) fun j r hj hr => ?_
  unfold madeCells
  simp only [Array.toList_map, Array.toList_range, List.getElem?_map]
  rw [List.getElem?_range (by omega)]
  simp only [Option.map_some, Value.cells]
  rcases (show r = 0 ∨ r = 1 by omega) with rfl | rfl
  · rcases (show 2 * j % 8 = 0 ∨ 2 * j % 8 = 2 ∨ 2 * j % 8 = 4 ∨ 2 * j % 8 = 6 by omega) with h | h | h | h <;> simp [h, s2, zSl]
  · rcases (show (2 * j + 1) % 8 = 1 ∨ (2 * j + 1) % 8 = 3 ∨ (2 * j + 1) % 8 = 5 ∨ (2 * j + 1) % 8 = 7 by omega) with h | h | h | h <;> simp [h, s2, zSl]
theorem row_of_own {w : World} {base n g : Nat} {t : TypeId} {xs : List Value} {z : Nat} (h : w.ownsRow base t z (.slice (some ⟨g, 0, none⟩) n n) n xs) : VRow w g t xs := by
  rcases h with ⟨_, ⟨h0, _⟩ | ⟨g', cap, cur, hv, _, hh, _, _, hs, ht⟩⟩
  · cases h0
  · injection hv with h1 h2 h3
    injection h1 with h1; injection h1 with h1
    subst h1; subst h3
    unfold VRow
    rw [hh]
    have : cur = xs.toArray := by
      apply Array.toList_inj.1
      rw [← ht, List.take_of_length_le (by rw [Array.length_toList, hs]; exact Nat.le_refl _)]
    rw [this]
theorem fill_new {w W : World} {base gl : Nat} {s : Sn} {m : Nat} (hb : Below w.heap.size w W) (hg : w.heap.size ≤ gl) (h : W.ownsRow base 46 8 (.slice (some ⟨gl, 0, none⟩) m m) m (madeCells (Value.agg #[.bool false, .slice none 0 0, .bool false, .slice none 0 0, .bool false, .slice none 0 0, .bool false, .slice none 0 0]).cells (m * 8)).toList) :
    Fill w W gl s m (fun _ => zSl) 0 := by
  rw [zeros_cyl] at h
  exact ⟨hb, row_of_own h, hg, fun j hj => ⟨rfl, rfl, Nat.zero_le _, Or.inl rfl⟩⟩
end Sc
end Go.Proofs.Ytpamegkbhdbheaa
