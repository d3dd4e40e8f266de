/-
  How a scene lies in memory: its numbers in a block, its points behind its slice. No function of the program is walked here. No conditions.
-/
import Derived.Test.YtchnnpaebggfdaaSceneMath
import Derived.Test.YtchnnpaebggfdaaJJudgeMath3
import Derived.Test.YtchnnpaebggfdaaJAppend3
import Derived.Deep.MidRow
import Derived.Deep.LoopGhost
import Derived.Deep.DeepCutAuto
import Derived.BigQuiet
import Derived.WalkMore
namespace Go.Proofs.Ytchnnpaebggfdaa
set_option maxRecDepth 100000
open Go.ChangeShapes Go.WideShapes Go.ChangeAt Go.RowKit Go.Deep
namespace Sc
open Cf (G CA)
theorem gd_l {l m : List Int} {i : Nat} {d : Int} (h : i < l.length) : (l ++ m).getD i d = l.getD i d := by
  rw [List.getD_eq_getElem?_getD, List.getD_eq_getElem?_getD, List.getElem?_append_left h]
theorem gd_r {l m : List Int} {i : Nat} {d : Int} (h : l.length ≤ i) : (l ++ m).getD i d = m.getD (i - l.length) d := by
  rw [List.getD_eq_getElem?_getD, List.getD_eq_getElem?_getD, List.getElem?_append_right h]
/-- The cells of a point, and of a scene. -/
def ptv (p : Pt) : List Value := cellsI .i64 (p.t ++ p.o) ++ [.bool p.is, .slice p.a p.l.length p.cap]
def scv (s : Sn) (a : Option Addr) (cap : Nat) : List Value := cellsI .i64 (s.c ++ ([s.e, s.r, s.odd] ++ s.q)) ++ [.slice a s.ps.length cap]
structure Lens (s : Sn) : Prop where
  c : s.c.length = 21
  q : s.q.length = 4
  n : s.ps.length ≤ 9223372036854775807
structure PtOk (w : World) (b off : Nat) (p : Pt) : Prop where
  cell : ∀ (j : Nat) v, (ptv p)[j]? = some v → w.cell? ⟨b, off + j, none⟩ = some v
  t8 : p.t.length = 8
  o32 : p.o.length = 32
  cap : p.l.length ≤ p.cap ∧ p.cap ≤ maxLen
  wf : ∀ n ∈ p.l, (Lit.int .u8 n).wf = true
  bytes : IntsAt .u8 w p.a p.l
  size : p.l.length ≤ 140737488351232
  nil : p.a = none → p.cap = 0
def PsAt (w : World) (a : Option Addr) (ps : List Pt) : Prop := ps = [] ∨ ∃ b off, a = some ⟨b, off, none⟩ ∧ ∀ (i : Nat) p, ps[i]? = some p → PtOk w b (off + i * 42) p
theorem PtOk.below {w w' : World} {b off : Nat} {p : Pt} (h : PtOk w b off p) (hb : Below w.heap.size w w') : PtOk w' b off p :=
  ⟨fun j v hv => (hb.cell (p := ⟨b, off + j, none⟩) (cell_lt (h.cell j v hv))).trans (h.cell j v hv), h.t8, h.o32, h.cap, h.wf, h.bytes.below hb, h.size, h.nil⟩
theorem PsAt.below {w w' : World} {a : Option Addr} {ps : List Pt} (h : PsAt w a ps) (hb : Below w.heap.size w w') : PsAt w' a ps := by
  rcases h with rfl | ⟨b, off, rfl, hs⟩
  · exact Or.inl rfl
  · exact Or.inr ⟨b, off, rfl, fun i q hi => (hs i q hi).below hb⟩
theorem PsAt.at_ {w : World} {a : Option Addr} {s : Sn} (h : PsAt w a s.ps) {i : Nat} (hi : i < s.ps.length) : ∃ b off, a = some ⟨b, off, none⟩ ∧ PtOk w b (off + i * 42) (pt s i) := by
  rcases h with h | ⟨b, off, rfl, hs⟩
  · rw [h] at hi; simp at hi
  · exact ⟨b, off, rfl, hs i _ (by unfold pt; rw [List.getD_eq_getElem?_getD, List.getElem?_eq_getElem hi]; rfl)⟩
theorem PsAt.each {w : World} {a : Option Addr} {s : Sn} (h : PsAt w a s.ps) (hp : 0 < s.ps.length) : ∃ b off, a = some ⟨b, off, none⟩ ∧ ∀ i, i < s.ps.length → PtOk w b (off + i * 42) (pt s i) := by
  rcases h with h | ⟨b, off, rfl, hs⟩
  · rw [h] at hp; simp at hp
  · exact ⟨b, off, rfl, fun i hi => hs i _ (by unfold pt; rw [List.getD_eq_getElem?_getD, List.getElem?_eq_getElem hi]; rfl)⟩
theorem PsAt.here {w : World} {b off : Nat} {s : Sn} (h : PsAt w (some ⟨b, off, none⟩) s.ps) {i : Nat} (hi : i < s.ps.length) : PtOk w b (off + i * 42) (pt s i) := by
  obtain ⟨b', off', e, P⟩ := h.at_ hi
  cases e
  exact P
section
variable {p : Pt} (h8 : p.t.length = 8) (h32 : p.o.length = 32)
include h8 h32
theorem ptv_len : (ptv p).length = 42 := by simp [ptv, cellsI, h8, h32]
theorem ptv_t (n : Nat) (hn : n < 8) : (ptv p)[n]? = some (.int .i64 (p.t.getD n 0)) := by
  unfold ptv
  rw [List.getElem?_append_left (by simp [cellsI, h8, h32]; omega), cellsI_get .i64 _ _ (by simp [h8, h32]; omega)]
  rw [gd_l (by omega)]
theorem ptv_o (n : Nat) (hn : n < 32) : (ptv p)[8 + n]? = some (.int .i64 (p.o.getD n 0)) := by
  unfold ptv
  rw [List.getElem?_append_left (by simp [cellsI, h8, h32]; omega), cellsI_get .i64 _ _ (by simp [h8, h32]; omega)]
  rw [gd_r (by omega), h8, Nat.add_sub_cancel_left]
theorem ptv_is : (ptv p)[40]? = some (.bool p.is) := by
  unfold ptv
  rw [List.getElem?_append_right (by simp [cellsI, h8, h32])]; simp [cellsI, h8, h32]
theorem ptv_l : (ptv p)[41]? = some (.slice p.a p.l.length p.cap) := by
  unfold ptv
  rw [List.getElem?_append_right (by simp [cellsI, h8, h32])]; simp [cellsI, h8, h32]
omit h8 h32 in
theorem ptv_all : (ptv p).toArray.all (·.oneCell') = true := by
  refine all_oneCell_toArray (fun v hv => ?_)
  unfold ptv at hv
  rcases List.mem_append.1 hv with hv | hv
  · exact cellsI_one _ _ v hv
  · simp at hv; rcases hv with rfl | rfl <;> rfl
end
theorem sizeP {p : Pt} (h8 : p.t.length = 8) (h32 : p.o.length = 32) : (Try.prog.info? 63).map (·.size) = some (ptv p).length := by rw [ptv_len h8 h32]; kernel_rfl
section
variable {s : Sn} {a : Option Addr} {cap : Nat} (L : Lens s)
include L
theorem nums_len : (s.c ++ ([s.e, s.r, s.odd] ++ s.q)).length = 28 := by simp [L.c, L.q]
theorem scv_len : (scv s a cap).length = 29 := by simp [scv, cellsI, L.c, L.q]
theorem scv_num (j : Nat) (hj : j < 28) : (scv s a cap)[j]? = some (.int .i64 ((s.c ++ ([s.e, s.r, s.odd] ++ s.q)).getD j 0)) := by
  unfold scv
  rw [List.getElem?_append_left (by rw [cellsI, List.length_map, nums_len L]; exact hj), cellsI_get .i64 _ _ (by rw [nums_len L]; exact hj)]
theorem scv_c (j : Nat) (hj : j < 21) : (scv s a cap)[j]? = some (.int .i64 (G s.c j)) := by
  rw [scv_num L j (by omega), gd_l (by rw [L.c]; exact hj)]; rfl
theorem scv_e : (scv s a cap)[21]? = some (.int .i64 s.e) := by
  rw [scv_num L 21 (by omega), gd_r (by rw [L.c]; omega), L.c]; rfl
theorem scv_r : (scv s a cap)[22]? = some (.int .i64 s.r) := by
  rw [scv_num L 22 (by omega), gd_r (by rw [L.c]; omega), L.c]; rfl
theorem scv_odd : (scv s a cap)[23]? = some (.int .i64 s.odd) := by
  rw [scv_num L 23 (by omega), gd_r (by rw [L.c]; omega), L.c]; rfl
theorem scv_q (k : Nat) (hk : k < 4) : (scv s a cap)[24 + k]? = some (.int .i64 (qv s k)) := by
  rw [scv_num L (24 + k) (by omega), gd_r (by rw [L.c]; omega), L.c, show 24 + k - 21 = 3 + k by omega,
    gd_r (by simp), show 3 + k - [s.e, s.r, s.odd].length = k by simp]; rfl
theorem scv_ps : (scv s a cap)[28]? = some (.slice a s.ps.length cap) := by
  unfold scv
  rw [List.getElem?_append_right (by simp [cellsI, L.c, L.q])]; simp [cellsI, L.c, L.q]
omit L in
theorem scv_all : (scv s a cap).toArray.all (·.oneCell') = true := by
  refine all_oneCell_toArray (fun v hv => ?_)
  unfold scv at hv
  rcases List.mem_append.1 hv with hv | hv
  · exact cellsI_one _ _ v hv
  · simp at hv; subst hv; rfl
theorem sizeS : (Try.prog.info? 27).map (·.size) = some (scv s a cap).length := by rw [scv_len L]; kernel_rfl
end
/-- A scene in a block of its own. -/
structure At (w : World) (g : Nat) (s : Sn) (a : Option Addr) (cap : Nat) : Prop where
  row : VRow w g 27 (scv s a cap)
  ps : PsAt w a s.ps
  len : Lens s
section
variable {w w' : World} {g : Nat} {s : Sn} {a : Option Addr} {cap : Nat}
theorem At.on (h : At w g s a cap) (b : Below w.heap.size w w') : At w' g s a cap := ⟨h.row.below b h.row.lt, h.ps.below b, h.len⟩
theorem At.new (L : Lens s) (h : PsAt w a s.ps) : At (w.alloc (.cells (scv s a cap).toArray 27)) w.heap.size s a cap :=
  ⟨VRow.new w _ _, h.below ((Below.refl _ w).alloc (Nat.le_refl _) _), L⟩
theorem below_new (w : World) (cs : Array Value) (t : TypeId) : Below w.heap.size w (w.alloc (.cells cs t)) := (Below.refl _ w).alloc (Nat.le_refl _) _
theorem At.c (h : At w g s a cap) (j : Nat) (hj : j < 21) : w.cell? ⟨g, j, none⟩ = some (.int .i64 (G s.c j)) := h.row.cell j (scv_c h.len j hj)
theorem At.e (h : At w g s a cap) : w.cell? ⟨g, 21, none⟩ = some (.int .i64 s.e) := h.row.cell 21 (scv_e h.len)
theorem At.r (h : At w g s a cap) : w.cell? ⟨g, 22, none⟩ = some (.int .i64 s.r) := h.row.cell 22 (scv_r h.len)
theorem At.odd (h : At w g s a cap) : w.cell? ⟨g, 23, none⟩ = some (.int .i64 s.odd) := h.row.cell 23 (scv_odd h.len)
theorem At.q (h : At w g s a cap) (k : Nat) (hk : k < 4) : w.cell? ⟨g, 24 + k, none⟩ = some (.int .i64 (qv s k)) := h.row.cell (24 + k) (scv_q h.len k hk)
theorem At.p (h : At w g s a cap) : w.cell? ⟨g, 28, none⟩ = some (.slice a s.ps.length cap) := h.row.cell 28 (scv_ps h.len)
theorem At.conf (h : At w g s a cap) : w.rangeAt g 0 (cellsI .i64 s.c) := fun j v hv => by
  have hj : j < s.c.length := by have := (List.getElem?_eq_some_iff.1 hv).1; simpa [cellsI] using this
  rw [cellsI_get .i64 s.c j hj] at hv
  cases hv
  rw [Nat.zero_add]
  exact h.c j (by rw [← h.len.c]; exact hj)
theorem sizeK (h : At w g s a cap) : (Try.prog.info? 24).map (·.size) = some (cellsI .i64 s.c).length := by rw [cellsI, List.length_map, h.len.c]; kernel_rfl
/-- A whole scene loaded. -/
theorem loadS {ops : Array Oper} {rest : List Oper} {o : Oper} {A : Act} {Q : Exit → Act → World → Prop} (hw : Region.wanted o (yielded ops A.tmps) = true) (x : Operand) (ho : o.op = .load 27 x)
    (g : Nat) (hx : A.eval x = .pointer (some ⟨g, 0, none⟩)) (h : At w g s a cap)
    (k : wpList Try.prog ops Q rest (A.put o.dst (.agg (scv s a cap).toArray)) w) : wpList Try.prog ops Q (o :: rest) A w := by
  unfold wpList
  rw [if_pos hw]
  exact .inl (wp_load_row 27 x ho g hx 27 (scv s a cap).toArray (0, 0) _ h.row Try.underlying27 rfl (by simpa using sizeS (a := a) (cap := cap) h.len) k)
/-- Its configuration loaded. -/
theorem loadK {ops : Array Oper} {rest : List Oper} {o : Oper} {A : Act} {Q : Exit → Act → World → Prop} (hgd : o.guard = none) (x : Operand) (ho : o.op = .load 24 x)
    (g : Nat) (hx : A.eval x = .pointer (some ⟨g, 0, none⟩)) (h : At w g s a cap)
    (k : wpList Try.prog ops Q rest (A.put o.dst (.agg (CA s.c))) w) : wpList Try.prog ops Q (o :: rest) A w :=
  wpList_load_mid hgd _ _ ho g 0 hx (cellsI .i64 s.c) _ h.conf Try.underlying24 rfl (sizeK h) k
end
/-- A scene while a call goes on. -/
structure Bd (w W : World) (g : Nat) (s : Sn) (a : Option Addr) (cap : Nat) : Prop where
  at_ : At W g s a cap
  below : Below w.heap.size w W
theorem Bd.on {w W W' : World} {g : Nat} {s : Sn} {a : Option Addr} {cap : Nat} (h : Bd w W g s a cap) (b : Below W.heap.size W W') : Bd w W' g s a cap := ⟨h.at_.on b, grow h.below b⟩
theorem Bd.new {w : World} {s : Sn} {a : Option Addr} {cap : Nat} (L : Lens s) (h : PsAt w a s.ps) : Bd w (w.alloc (.cells (scv s a cap).toArray 27)) w.heap.size s a cap := ⟨At.new L h, below_new _ _ _⟩
section
variable {w : World} {b off : Nat} {p : Pt} (h : PtOk w b off p)
include h
theorem PtOk.t (n : Nat) (hn : n < 8) : w.cell? ⟨b, off + n, none⟩ = some (.int .i64 (p.t.getD n 0)) := h.cell n _ (ptv_t h.t8 h.o32 n hn)
theorem PtOk.o (n : Nat) (hn : n < 32) : w.cell? ⟨b, off + (8 + n), none⟩ = some (.int .i64 (p.o.getD n 0)) := h.cell _ _ (ptv_o h.t8 h.o32 n hn)
theorem PtOk.rt : w.rangeAt b off (cellsI .i64 p.t) := fun j v hv => by
  have hj : j < p.t.length := by have := (List.getElem?_eq_some_iff.1 hv).1; simpa [cellsI] using this
  rw [cellsI_get .i64 _ j hj] at hv; cases hv
  exact h.t j (by rw [← h.t8]; exact hj)
theorem PtOk.ro (k : Nat) (hk : k < 4) : w.rangeAt b (off + 8 + k * 8) (cellsI .i64 ((p.o.drop (k * 8)).take 8)) := fun j v hv => by
  have hl : ((p.o.drop (k * 8)).take 8).length = 8 := by rw [List.length_take, List.length_drop, h.o32]; omega
  have hj : j < 8 := by have := (List.getElem?_eq_some_iff.1 hv).1; rw [cellsI, List.length_map, hl] at this; exact this
  rw [cellsI_get .i64 _ j (by rw [hl]; exact hj)] at hv; cases hv
  have := h.o (k * 8 + j) (by omega)
  rw [show off + 8 + k * 8 + j = off + (8 + (k * 8 + j)) by omega, this]
  simp [List.getD_eq_getElem?_getD, hj]
end
theorem off8 {o : List Int} (h : o.length = 32) (k : Nat) (hk : k < 4) : ((o.drop (k * 8)).take 8).length = 8 := by rw [List.length_take, List.length_drop, h]; omega
theorem off_at {o : List Int} (k n : Nat) (hn : n < 8) : ((o.drop (k * 8)).take 8).getD n 0 = o.getD (k * 8 + n) 0 := by simp [List.getD_eq_getElem?_getD, hn]
theorem idx8 {l : List Int} (h : l.length = 8) (n : Nat) (hn : n < 8) (w : World) : (Instr.index 52 (.agg (cellsI .i64 l).toArray) (.int .i64 n)).run Try.prog w = .ok (.int .i64 (l.getD n 0)) w := by
  obtain ⟨v0, v1, v2, v3, v4, v5, v6, v7, rfl⟩ := Fm.eight l h
  exact Fm.at8 v0 v1 v2 v3 v4 v5 v6 v7 n hn w
theorem size8 {l : List Int} (h : l.length = 8) : (Try.prog.info? 52).map (·.size) = some (cellsI .i64 l).length := by rw [cellsI, List.length_map, h]; kernel_rfl
theorem ret_bool {x y : Bool} (h : x = y) : Ending.returned (.bool x) = Ending.returned (.bool y) := by rw [h]
theorem ret_str {x y : ByteArray} (h : x = y) : Ending.returned (.string x) = Ending.returned (.string y) := by rw [h]
theorem ret_int {x y : Int} (h : x = y) : Ending.returned (.int .i64 x) = Ending.returned (.int .i64 y) := by rw [h]
end Sc
end Go.Proofs.Ytchnnpaebggfdaa
