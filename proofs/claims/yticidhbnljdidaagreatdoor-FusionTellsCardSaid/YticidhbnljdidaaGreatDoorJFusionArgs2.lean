/-
 An argument that is a slice of cycles, as a list of cycles; package rudderlaw20's Fits: a contract by walking the Go text. Its conditions: how the cycles lie.
 What Latched of package fusion returns: a contract by walking the Go text. Conditions: how a fusion lies.
-/
import Derived.Test.YticidhbnljdidaaGreatDoorJFusionKit3
import Derived.Test.YticidhbnljdidaaGreatDoorSlots
import Derived.Test.YticidhbnljdidaaGreatDoorFixWalks
import Derived.Deep.LoopGhost
namespace Go.Proofs.YticidhbnljdidaaGreatDoor
set_option maxRecDepth 100000
open Go.ChangeShapes Go.WideShapes Go.ChangeAt Go.RowKit Go.Deep
namespace Fu
open Sg (NN)
open Cr (Bytes bytes_wf)
structure CyA where
 y : Nat → Sl
 A : Nat → Option Addr
 C : Nat → Nat
instance : Inhabited CyA := ⟨⟨fun _ => ⟨false,[]⟩,fun _ => none,fun _ => 0⟩⟩
def CyA.v (q : CyA) : List Value := cyv q.y q.A q.C
structure CyOk (w : World) (b off : Nat) (q : CyA) : Prop where
 cell : ∀ (j : Nat) v,q.v[j]? = some v → w.cell? ⟨b,off + j,none⟩ = some v
 cap : ∀ i,i < 4 → (q.y i).l.length ≤ q.C i ∧ q.C i ≤ maxLen
 wf : ∀ i,i < 4 → ∀ n ∈ (q.y i).l,(Lit.int .u8 n).wf = true
 bytes : ∀ i,i < 4 → IntsAt .u8 w (q.A i) (q.y i).l
def CysAt (w : World) (a : Option Addr) (qs : List CyA) : Prop := qs = [] ∨ ∃ b off,a = some ⟨b,off,none⟩ ∧ ∀ (i : Nat) q,qs[i]? = some q → CyOk w b (off + i * 8) q
theorem CyOk.below {w w' : World} {b off : Nat} {q : CyA} (h : CyOk w b off q) (hb : Below w.heap.size w w') : CyOk w' b off q :=
 ⟨fun j v hv => (hb.cell (p := ⟨b,off + j,none⟩) (cell_lt (h.cell j v hv))).trans (h.cell j v hv),h.cap,h.wf,fun i hi => (h.bytes i hi).below hb⟩
theorem CysAt.below {w w' : World} {a : Option Addr} {qs : List CyA} (h : CysAt w a qs) (hb : Below w.heap.size w w') : CysAt w' a qs := by
 rcases h with rfl | ⟨b,off,rfl,hs⟩
 · exact Or.inl rfl
 · exact Or.inr ⟨b,off,rfl,fun i q hi => (hs i q hi).below hb⟩
theorem CysAt.some {w : World} {a : Option Addr} {qs : List CyA} (h : CysAt w a qs) (hp : 0 < qs.length) : ∃ b off,a = some ⟨b,off,none⟩ ∧ ∀ (i : Nat) q,qs[i]? = some q → CyOk w b (off + i * 8) q := by
 rcases h with rfl | h
 · simp at hp
 · exact h
theorem CyOk.yat {w : World} {b off : Nat} {q : CyA} (h : CyOk w b off q) {c : List Int} (h4 : NN c ≤ 4) : YAt w c q.y q.A q.C :=
 ⟨fun i hi => bytes_wf (h.wf i (by omega)),fun i hi => (h.cap i (by omega)).1,fun i hi => h.bytes i (by omega)⟩
theorem openCys {H : Type} {enc : TypeId × Value → H} {P : Program} {w : World} {t e tb ts tu : TypeId} {n b0 : Nat} {r : Reach} {v : Value} {d : DataW H} {p : List MemPlace} {held : Bool} (ht : P.underlying t = some (.slice e)) (hf : Fl.flat P n e = some [tb,ts,tb,ts,tb,ts,tb,ts]) (hc : P.cellsOf e = 8)
 (hub : P.underlying tb = some .bool) (hus : P.underlying ts = some (.slice tu)) (huu : P.underlying tu = some (.int .u8)) (hcu : P.cellsOf tu = 1)
 (hv : Value.okWide P w r b0 t v) (h : DataW.Trod enc P w 0 (fun _ => true) held t v d p) :
 ∃ (a : Option Addr) (cap : Nat) (qs : List CyA),v = .slice a qs.length cap ∧ qs.length ≤ cap ∧ cap ≤ maxLen ∧ CysAt w a qs := by
 obtain ⟨a,len,cap,rfl,hl,hm,h0⟩ := Fl.open_rows ht hf hc (by simp) hv h
 rcases h0 with rfl | ⟨b,off,rfl,hi⟩
 · exact ⟨a,cap,[],rfl,Nat.zero_le _,hm,Or.inl rfl⟩
 · have each : ∀ i,i < len → ∃ q : CyA,CyOk w b (off + i * 8) q := by
    intro i hil
    obtain ⟨cs,hlen,hcell,lv⟩ := hi i hil
    have slot : ∀ k,k < 4 → ∃ (is : Bool) (a : Option Addr) (cap : Nat) (l : List Int),cs[k * 2]? = some (.bool is) ∧ cs[k * 2 + 1]? = some (.slice a l.length cap) ∧ l.length ≤ cap ∧ cap ≤ maxLen ∧ (∀ n ∈ l,(Lit.int .u8 n).wf = true) ∧ IntsAt .u8 w a l := by
     intro k hk
     obtain ⟨x,hx,rx⟩ := lv (k * 2) tb (by rcases four hk with rfl | rfl | rfl | rfl <;> rfl)
     obtain ⟨z,hz,rz⟩ := lv (k * 2 + 1) ts (by rcases four hk with rfl | rfl | rfl | rfl <;> rfl)
     rw [Nat.zero_add] at hx hz
     obtain ⟨is,rfl⟩ := rx.bool hub
     obtain ⟨a1,cap1,l1,rfl,c1,m1,f1,b1⟩ := rz.ints hus huu hcu
     exact ⟨is,a1,cap1,l1,hx,hz,c1,m1,f1,b1⟩
    have slot' : ∀ k,k < 4 → ∃ s : SlotV,cs[k * 2]? = some (.bool s.is) ∧ cs[k * 2 + 1]? = some (.slice s.a s.l.length s.cap) ∧ s.l.length ≤ s.cap ∧ s.cap ≤ maxLen ∧ (∀ n ∈ s.l,(Lit.int .u8 n).wf = true) ∧ IntsAt .u8 w s.a s.l := by
     intro k hk
     obtain ⟨is,a,cap,l,h1,h2,h3,h4,h5,h6⟩ := slot k hk
     exact ⟨⟨is,a,cap,l⟩,h1,h2,h3,h4,h5,h6⟩
    obtain ⟨s,hs⟩ := choose_lt slot'
    refine ⟨⟨fun k => ⟨(s k).is,(s k).l⟩,fun k => (s k).a,fun k => (s k).cap⟩,fun j v hv => ?_,fun k hk => ⟨(hs k hk).2.2.1,(hs k hk).2.2.2.1⟩,fun k hk => (hs k hk).2.2.2.2.1,fun k hk => (hs k hk).2.2.2.2.2⟩
    have hj : j < 8 := (List.getElem?_eq_some_iff.1 hv).1
    have hcj := hcell j (by simpa using hj)
    simp only [List.length_cons,List.length_nil] at hcj
    rw [hcj]
    have c0 := hs 0 (by decide)
    have c1 := hs 1 (by decide)
    have c2 := hs 2 (by decide)
    have c3 := hs 3 (by decide)
    rcases eight hj with rfl | rfl | rfl | rfl | rfl | rfl | rfl | rfl
    · exact c0.1.trans hv
    · exact c0.2.1.trans hv
    · exact c1.1.trans hv
    · exact c1.2.1.trans hv
    · exact c2.1.trans hv
    · exact c2.2.1.trans hv
    · exact c3.1.trans hv
    · exact c3.2.1.trans hv
   obtain ⟨f,hfi⟩ := choose_lt each
   refine ⟨_,cap,(List.range len).map f,by simp,by simpa using hl,hm,Or.inr ⟨b,off,rfl,fun i s hs => ?_⟩⟩
   rw [List.getElem?_map] at hs
   by_cases hil : i < len
   · rw [List.getElem?_range hil] at hs
     simp at hs
     subst hs
     exact hfi i hil
   · rw [List.getElem?_eq_none (by simp; omega)] at hs
     cases hs
def shortC (q : CyA) : Bool := (List.range 4).all fun i => decide ((q.y i).l.length ≤ 100)
def fits (qs : List CyA) : Bool := decide (qs.length ≤ 60) && qs.all shortC
theorem fits_len {qs : List CyA} (h : fits qs = true) : qs.length ≤ 60 := by
 unfold fits at h
 simp only [Bool.and_eq_true,decide_eq_true_eq] at h
 exact h.1
theorem all_take {qs : List CyA} {k : Nat} {q : CyA} (h : (qs.take k).all shortC = true) (hs : qs[k]? = some q) : (qs.take (k + 1)).all shortC = shortC q := by
 rw [List.take_add_one,List.all_append,h,hs]; simp
theorem fits_no {qs : List CyA} {q : CyA} (k i : Nat) (hs : qs[k]? = some q) (hi : i < 4) (h : 100 < (q.y i).l.length) : fits qs = false := by
 unfold fits
 rw [Bool.and_eq_false_iff]
 right
 rw [List.all_eq_false]
 refine ⟨q,List.mem_of_getElem? hs,?_⟩
 unfold shortC
 rw [Bool.not_eq_true,List.all_eq_false]
 exact ⟨i,List.mem_range.2 hi,by simp; omega⟩
theorem ret_bool {x y : Bool} (h : x = y) : Ending.returned (.bool x) = Ending.returned (.bool y) := by rw [h]
set_option maxHeartbeats 1600000 in
theorem fits_any (a : Option Addr) (cap : Nat) (qs : List CyA) (w : World) (hm : qs.length ≤ cap) (hs : CysAt w a qs) :
 Calls Tryz.prog 6 #[.slice a qs.length cap] w fun e w' => e = .returned (.bool (fits qs)) ∧ w = w' := by
 by_cases h : 60 < qs.length
 · have hf : fits qs = false := by unfold fits; simp; omega
   rw [hf]
   have d : decide (60 < (qs.length : Int)) = true := by simp; omega
   clear hf hs
   generalize qs.length = m at *
   go_enter Tryz.func6,Tryz.ntmps6
   go_wp2
   go_ret
   exact ⟨rfl,rfl⟩
 · have d : decide (60 < (qs.length : Int)) = false := by simp; omega
   have HS := Lib.hid hs
   clear hs
   generalize hn : qs.length = m at *
   have HN := Lib.hid hn
   clear hn
   go_enter Tryz.func6,Tryz.ntmps6
   go_wp2_with fail
   go_loopg [3] m (fun gg s3 wr => ∃ k : Nat,k + gg = m ∧ s3 = .int .i64 k ∧ w = wr ∧ Hid ((qs.take k).all shortC = true))
   case atStart => exact ⟨0,by omega,rfl,rfl,Lib.hid rfl⟩
   case round =>
    obtain ⟨k,hk,rfl,rfl,HA⟩ := hrel
    by_cases hlt : k < m
    · have hli : (k : Int) < m := by omega
      obtain ⟨b,off,rfl,hat⟩ := HS.out.some (by have := HN.out; omega)
      have hlt' : k < qs.length := by have := HN.out; omega
      obtain ⟨q,hqk⟩ : ∃ q,qs[k]? = some q := ⟨_,List.getElem?_eq_getElem hlt'⟩
      have HOK := Lib.hid (hat k q hqk)
      have HK := Lib.hid hqk
      clear hqk hat
      go_wp2_with fail
      go_loopg [4] 4 (fun gg s4 wr => ∃ i : Nat,i + gg = 4 ∧ s4 = .int .i64 i ∧ w = wr ∧ Hid (∀ j,j < i → (q.y j).l.length ≤ 100))
      case atStart => exact ⟨0,by omega,rfl,rfl,Lib.hid (fun j hj => by omega)⟩
      case round =>
       obtain ⟨i,hi,rfl,rfl,HI⟩ := hrel
       by_cases hl4 : i < 4
       · have hl4' : (i : Int) < 4 := by omega
         have hcell := HOK.out.cell (i * 2 + 1) _ (cyv_at _ _ _ hl4 1 _ rfl)
         rw [← Nat.add_assoc] at hcell
         have hsm : (q.y i).l.length ≤ 9223372036854775807 := by have := HOK.out.cap i hl4; unfold maxLen at this; omega
         by_cases hl : 100 < (q.y i).l.length
         · have d2 : decide (100 < ((q.y i).l.length : Int)) = true := by simp; omega
           have HF := Lib.hid (fits_no k i HK.out hl4 hl)
           clear hl
           generalize (q.y i).l.length = z at *
           go_wp2
           go_ret
           exact ⟨ret_bool HF.out.symm,rfl⟩
         · have d2 : decide (100 < ((q.y i).l.length : Int)) = false := by simp; omega
           have HI' := Lib.hid (show ∀ j,j < i + 1 → (q.y j).l.length ≤ 100 from fun j hj => by
            rcases Nat.lt_succ_iff_lt_or_eq.1 hj with h' | rfl
            · exact HI.out j h'
            · omega)
           clear hl
           generalize (q.y i).l.length = z at *
           go_wp2
           go_roundg (gk - 1)
           case rel => exact ⟨i + 1,by omega,by go_num,rfl,HI'⟩
           case measure => omega
       · obtain rfl : i = 4 := by omega
         have HA' := Lib.hid (show (qs.take (k + 1)).all shortC = true by
          rw [all_take HA.out HK.out]; unfold shortC; rw [List.all_eq_true]; intro j hj; rw [List.mem_range] at hj; simpa using HI.out j hj)
         go_wp2
         go_roundg (m - k - 1)
         case rel => exact ⟨k + 1,by omega,by go_num,rfl,HA'⟩
         case measure => omega
    · obtain rfl : k = m := by omega
      have hf : fits qs = true := by
       have h1 := HA.out
       have h2 := HN.out
       rw [List.take_of_length_le (Nat.le_of_eq h2)] at h1
       unfold fits; rw [h1]; simp; omega
      have HF := Lib.hid hf
      clear hf
      go_wp2
      go_ret
      exact ⟨ret_bool HF.out.symm,rfl⟩
end Fu
namespace Fu
open Cf (G)
open Sg (NN Si Face)
def lbi (c : List Int) (m : Fs) (i : Int) (j : Nat) : Bool := Fx.has (Sg.lam c (m.s j)) i
def lamI (c : List Int) (m : Fs) (i : Int) : Int := Fx.bits ((List.range 8).map (lbi c m i))
theorem lamI_in (c : List Int) (m : Fs) {i : Nat} (h : i < 4) : lamI c m (i : Int) = lam c m i := by
 unfold lamI lam lal
 congr 2
 funext j
 unfold lbi lac
 exact lam_bit h
set_option maxHeartbeats 1600000 in
theorem latched_any {F : Face} {W : World} {P : Pl} {c : List Int} {m : Fs} (hR : Cf.Right c) (L : Lie F W P c m) (i : Int) :
 Calls Tryz.prog 21 #[.pointer (some ⟨P.f,0,none⟩),.int .i64 i] W fun e w' => e = .returned (.int .i64 (lamI c m i)) ∧ Below W.heap.size W w' := by
 have CL := fun (V : World) (B : Below W.heap.size W V) (j : Nat) (hj : j < 8) => F.latched ((L.on B).sig j hj) hR
 have CH := fun (V : World) (j : Nat) => Fx.has_any (Sg.lam c (m.s j)) i V
 have hB0 := (Below.refl W.heap.size W).alloc (Nat.le_refl _) (.cells (((fillB (lbi c m i) 8 0).map Value.bool)).toArray 151)
 have hV0 := VRow.new W ((fillB (lbi c m i) 8 0).map Value.bool) 151
 have RG := Lib.hid (range_g (L.on hB0))
 have IG := fun (V : World) (j : Nat) (hj : j < 8) => index_g P hj V
 have SG := Lib.hid (sizeG P)
 have HF := Lib.hid (fillB_all (lbi c m i) 8)
 have hf : ∀ j,lbi c m i j = Fx.has (Sg.lam c (m.s j)) i := fun _ => rfl
 have hz : ((fillB (lbi c m i) 8 0).map Value.bool).toArray = #[.bool false,.bool false,.bool false,.bool false,.bool false,.bool false,.bool false,.bool false] := rfl
 have HE := Lib.hid (show Fx.bits ((List.range 8).map (lbi c m i)) = lamI c m i from rfl)
 rw [hz] at hB0 hV0 RG
 have HB0 := Lib.hid hB0
 have HV0 := Lib.hid hV0
 generalize lamI c m i = res at *
 generalize lbi c m i = f at *
 simp only [← hf] at CH
 generalize gs P = gl at *
 clear hB0 hV0 hz hf L hR
 go_enter Tryz.func21,Tryz.ntmps21
 go_wp2_with ((with_reducible show wpList _ _ _ (⟨some 13,_,_,_,_,_⟩ :: _) _ _); refine wpList_load_mid rfl _ _ rfl P.f 2 rfl gl _ RG.out Tryz.underlying91 rfl SG.out ?_)
 generalize W.alloc (.cells #[.bool false,.bool false,.bool false,.bool false,.bool false,.bool false,.bool false,.bool false] 151) = W1 at *
 go_loopg [6,7,14] 8 (fun gg _ _ s14 wr => ∃ k : Nat,k + gg = 8 ∧ s14 = .int .i64 k ∧ Hid (VRow wr W.heap.size 151 ((fillB f 8 k).map Value.bool)) ∧ Hid (Below W.heap.size W wr))
 case atStart => exact ⟨0,by omega,rfl,HV0,HB0⟩
 case round =>
  obtain ⟨k,hkg,rfl,HV,HB⟩ := hrel
  by_cases hk : k < 8
  · have hki : (k : Int) < 8 := by omega
    go_wp2_with (first
     | ((with_reducible show wpList _ _ _ (⟨some 17,_,_,_,_,_⟩ :: _) _ _); refine Ot.wpList_index rfl _ _ _ rfl gl.toArray k _ rfl rfl (IG _ k hk) ?_)
     | (go_at_call 61; refine (CL _ HB.out k hk).mono ?_; rintro e w1 ⟨rfl,b1⟩; have HB1 := Lib.hid (grow HB.out b1); have HV1 := Lib.hid (onB HV.out b1); clear b1)
     | (go_at_call 60; refine (CH _ k).mono ?_; rintro e w2 ⟨rfl,rfl⟩; obtain ⟨q0,cR⟩ := row_cell HV1.out hk; have fR := HV1.out.frozen k))
    go_roundg (gk - 1)
    case rel => exact ⟨k + 1,by omega,by go_num,Lib.hid (row_next HV1.out),Lib.hid (HB1.out.setCell (p := ⟨W.heap.size,k,none⟩) (Nat.le_refl _) _)⟩
    case measure => omega
  · obtain rfl : k = 8 := by omega
    have HB8 := Lib.hid (bools_row HV.out)
    have CB := Fx.bits_any (some ⟨W.heap.size,0,none⟩) 8 _ wr (by rw [fillB_len]; decide) HB8.out
    rw [fillB_len,HF.out,HE.out] at CB
    go_wp2_with (go_at_call 62; refine CB.mono ?_; rintro e w2 ⟨rfl,rfl⟩)
    go_ret
    exact ⟨rfl,HB.out⟩
end Fu
end Go.Proofs.YticidhbnljdidaaGreatDoor
