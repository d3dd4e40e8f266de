/-
 How an argument that is a slice of structs is opened: its cells one by one; slices of slots. No Go text is reached here. No conditions.
-/
import Derived.Test.YticidhbnljdidaaGreatDoorFlat
import Derived.Deep.Slices
namespace Go.Proofs.YticidhbnljdidaaGreatDoor
set_option maxRecDepth 100000
open Go.ChangeShapes Go.WideShapes Go.ChangeAt Go.RowKit Go.Deep
namespace Fl
section
variable {H : Type} {enc : TypeId × Value → H} {P : Program} {w : World}
theorem open_rows {t e : TypeId} {n b0 base : Nat} {r : Reach} {ts : List TypeId} {v : Value} {d : DataW H} {p : List MemPlace} {spare : Nat → Bool} {held : Bool} (ht : P.underlying t = some (.slice e)) (hf : flat P n e = some ts) (hc : P.cellsOf e = ts.length) (hp : 0 < ts.length)
 (hv : Value.okWide P w r b0 t v) (h : DataW.Trod enc P w base spare held t v d p) :
 ∃ (a : Option Addr) (len cap : Nat),v = .slice a len cap ∧ len ≤ cap ∧ cap ≤ maxLen ∧ (len = 0 ∨ ∃ b off,a = some ⟨b,off,none⟩ ∧ ∀ i,i < len → ∃ cs : List Value,cs.length = ts.length ∧
   (∀ j,j < ts.length → w.cell? ⟨b,off + i * ts.length + j,none⟩ = cs[j]?) ∧ Leaves enc P w base spare held cs 0 ts) := by
 obtain ⟨a,len,cap,rfl⟩ := okWide_slice ht hv
 obtain ⟨fuel,hx⟩ := h
 rcases Go.Deep.open_slice ht hx with ⟨hcs,_⟩ | ⟨x,len',cap',m,n',D,Pl,hcs,_,hl,hm,hmm,_,hi⟩
 · simp [Value.cells] at hcs
   obtain ⟨rfl,rfl,rfl⟩ := hcs
   exact ⟨none,0,0,rfl,Nat.le_refl _,Nat.zero_le _,Or.inl rfl⟩
 · simp [Value.cells] at hcs
   obtain ⟨rfl,rfl,rfl⟩ := hcs
   refine ⟨some x,len,cap,rfl,hl,hm,?_⟩
   have hlm : len ≤ m := by rw [hmm]; split <;> omega
   by_cases h0 : len = 0
   · exact Or.inl h0
   · right
     have sp : x.spot = none := by
      obtain ⟨cs,h1,_⟩ := hi 0 (by omega)
      rw [hc] at h1
      obtain ⟨_,hlen,hcell⟩ := World.cells?_some h1
      have := hcell 0 hp
      rw [List.getElem?_eq_getElem (by omega)] at this
      have := World.cell?_spot this
      simpa [Addr.add] using this
     obtain ⟨b,off,spot⟩ := x
     have sp' : spot = none := sp
     subst sp'
     refine ⟨b,off,rfl,fun i hil => ?_⟩
     obtain ⟨cs,h1,h2⟩ := hi i (by omega)
     rw [hc] at h1
     obtain ⟨_,hlen,hcell⟩ := World.cells?_some h1
     refine ⟨cs,hlen,fun j hj => ?_,trod_flat n _ _ _ _ _ hf h2⟩
     have := hcell j hj
     rw [add_plain,add_plain] at this
     exact this
end
end Fl
structure SlotV where
 is : Bool
 a : Option Addr
 cap : Nat
 l : List Int
instance : Inhabited SlotV := ⟨⟨false,none,0,[]⟩⟩
structure SlotOk (w : World) (b off : Nat) (s : SlotV) : Prop where
 c0 : w.cell? ⟨b,off,none⟩ = some (.bool s.is)
 c1 : w.cell? ⟨b,off + 1,none⟩ = some (.slice s.a s.l.length s.cap)
 le : s.l.length ≤ s.cap
 cap : s.cap ≤ maxLen
 wf : ∀ n ∈ s.l,(Lit.int .u8 n).wf = true
 bytes : IntsAt .u8 w s.a s.l
def SlotsAt (w : World) (a : Option Addr) (ss : List SlotV) : Prop := ss = [] ∨ ∃ b off,a = some ⟨b,off,none⟩ ∧ ∀ i s,ss[i]? = some s → SlotOk w b (off + i * 2) s
theorem SlotOk.below {w w' : World} {b off : Nat} {s : SlotV} (h : SlotOk w b off s) (hb : Below w.heap.size w w') : SlotOk w' b off s :=
 ⟨(hb.cell (p := ⟨b,off,none⟩) (cell_lt h.c0)).trans h.c0,(hb.cell (p := ⟨b,off + 1,none⟩) (cell_lt h.c1)).trans h.c1,h.le,h.cap,h.wf,h.bytes.below hb⟩
theorem SlotsAt.below {w w' : World} {a : Option Addr} {ss : List SlotV} (h : SlotsAt w a ss) (hb : Below w.heap.size w w') : SlotsAt w' a ss := by
 rcases h with rfl | ⟨b,off,rfl,hs⟩
 · exact Or.inl rfl
 · exact Or.inr ⟨b,off,rfl,fun i s hi => (hs i s hi).below hb⟩
theorem SlotsAt.some {w : World} {a : Option Addr} {ss : List SlotV} (h : SlotsAt w a ss) (hp : 0 < ss.length) : ∃ b off,a = some ⟨b,off,none⟩ ∧ ∀ i s,ss[i]? = some s → SlotOk w b (off + i * 2) s := by
 rcases h with rfl | h
 · simp at hp
 · exact h
end Go.Proofs.YticidhbnljdidaaGreatDoor
