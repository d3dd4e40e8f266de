/-
 Package-level variables that the text lays, where they lie in memory: a table of strings. No function of the program is walked here. No conditions.
 A table of rows of a number and a text, and a table of numbers, that the text lays, where they lie in memory. No function of the program is walked here. No conditions.
-/
import Derived.Test.YticidhbnljdidaaGreatDoorJOpen2
import Derived.LaidMore
import Derived.MakeChecks
import Derived.ChangeSame
import Derived.Lib.LaidTab
namespace Go.Proofs.YticidhbnljdidaaGreatDoor
set_option maxRecDepth 100000
open Go.ChangeShapes Go.WideShapes Go.ChangeAt Go.RowKit Go.Deep
namespace La
theorem one {P : Program} {W : World} {n : String} {d : DataW Unit} : ∀ (l : List (String × DataW Unit)) (ps : List MemPlace),DataW.LaidVars P W l ps → (n,d) ∈ l →
 ∃ g t cs fuel p,P.globalNamed n = some g ∧ (P.globals[g]?).map (·.type) = some t ∧ W.var? P n = some cs ∧ DataW.trod (fun _ => ()) P W 0 (fun _ => true) false fuel t cs.toList = some (d,p)
 | [],_,_,h => by cases h
 | (m,e) :: r,ps,hl,h => by
   obtain ⟨g,t,cs,fuel,p,q,h1,h2,h3,h4,h5,_⟩ := hl
   rcases List.mem_cons.1 h with heq | h'
   · cases heq; exact ⟨g,t,cs,fuel,p,h1,h2,h3,h4⟩
   · exact one r q h5 h'
end La
namespace La
theorem pairs {P : Program} {W : World} {name : String} {g n : Nat} {t e tn ts : TypeId} {f0 f1 : Field} {laid : List (String × DataW Unit)} (ss : List (Int × List UInt8)) (hL : laidMetH P laid W) (hp : (laid.all fun x => x.2.handleName?.isNone) = true)
 (hm : (name,.agg (ss.map fun s => .agg [.lit (.int .i64 s.1),.lit (.string s.2)])) ∈ laid) (hg : P.globalNamed name = some g) (ht : (P.globals[g]?).map (·.type) = some t) (hu : P.underlying t = some (.array n e)) (he : P.underlying e = some (.struct #[f0,f1]))
 (h0 : f0.type = tn ∧ f0.offset = 0) (h1 : f1.type = ts ∧ f1.offset = 1) (hc : P.cellsOf e = 2) (hcn : P.cellsOf tn = 1) (hcs : P.cellsOf ts = 1) (hn : P.underlying tn = some (.int .i64)) (hs : P.underlying ts = some .string) (i : Nat) (hi : i < n) (z : Int) (l : List UInt8) (hz : ss[i]? = some (z,l)) :
 W.cell? ⟨g,2 * i,none⟩ = some (.int .i64 z) ∧ W.cell? ⟨g,2 * i + 1,none⟩ = some (.string ⟨l.toArray⟩) := by
 rw [MakeChecks.laidMetH_plain _ _ _ hp] at hL
 obtain ⟨ps,hv,_⟩ := hL
 obtain ⟨g',t',cs,fuel,p,q1,q2,q3,q4⟩ := one laid ps hv hm
 obtain rfl := Option.some.inj (hg.symm.trans q1)
 obtain rfl := Option.some.inj (ht.symm.trans q2)
 obtain ⟨xs,m,rfl,hx,hlen,hn',hel⟩ := DataW.trod_array hu q4
 have hxi : i < xs.length := by omega
 have h := hel i hi
 rw [hc,List.getElem?_eq_getElem hxi] at h
 obtain ⟨y0,y1,m',hy,hl,k0,k1⟩ := trod_struct2 he h
 rw [h0.1,h0.2,hcn] at k0
 rw [h1.1,h1.2,hcs] at k1
 obtain ⟨a,e1,e2,_⟩ := DataW.trod_int hn k0
 obtain ⟨b,e3,e4,_⟩ := DataW.trod_string hs k1
 simp only [Prod.mk.injEq,DataW.agg.injEq] at hx
 have hxx := congrArg (fun r => r[i]?) hx.1
 simp only [List.getElem?_map,List.getElem?_eq_getElem hxi,Option.map_some,hy,e2,e4,hz] at hxx
 simp only [Option.some.injEq,DataW.agg.injEq,List.cons.injEq,DataW.lit.injEq,Lit.int.injEq,Lit.string.injEq,true_and,and_true] at hxx
 obtain ⟨x1,x2⟩ := hxx
 have c0 := World.var?_cell hg q3 (2 * i)
 have c1 := World.var?_cell hg q3 (2 * i + 1)
 have g0 : cs[2 * i]? = some (.int .i64 a) := by
  have := congrArg (fun r => r[0]?) e1
  simp only [List.getElem?_take,List.getElem?_drop] at this
  rw [Nat.mul_comm] at this
  simpa using this
 have g1 : cs[2 * i + 1]? = some (.string b) := by
  have := congrArg (fun r => r[0]?) e3
  simp only [List.getElem?_take,List.getElem?_drop] at this
  rw [Nat.mul_comm] at this
  simpa using this
 rw [c0,c1,g0,g1]
 refine ⟨by rw [x1],?_⟩
 have : b = ⟨l.toArray⟩ := by rw [x2]
 rw [this]
end La
end Go.Proofs.YticidhbnljdidaaGreatDoor
