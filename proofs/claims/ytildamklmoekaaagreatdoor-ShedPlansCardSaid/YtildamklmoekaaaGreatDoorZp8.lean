/- Part 9 of what the law needs: own work, put together. -/
import Derived.ProofKit
import Derived.LaidMore
import Derived.LaidLaws
import Derived.LaidHandle
import Derived.Lib.LaidTab
import Derived.Stop.LaidErr
import Derived.OpenShut
import Derived.Stop.Joined
import Derived.Test.YtildamklmoekaaaGreatDoorRows
import Derived.Test.YtildamklmoekaaaGreatDoorTie
import Derived.Test.YtildamklmoekaaaGreatDoorCards
import Derived.SevenTiedAt
import Derived.Test.YtildamklmoekaaaGreatDoorZp7
set_option linter.unusedVariables false
set_option linter.unusedSimpArgs false
namespace Go.Proofs.YtildamklmoekaaaGreatDoor
section
open Go.RowKit Go.ChangeShapes Go.WideShapes Go.Deep
section
variable {H : Type} {enc : TypeId × Value → H} {W : World} {base : Nat} {spare : Nat → Bool} {held : Bool}
def hY (l : aG) : List Int:=[l.Worker,l.Day]
set_option maxRecDepth 100000 in
theorem aEW {n : Nat} {cs : List Value} {x : DataW H × List MemPlace} (h : DataW.trod enc Tryz.prog W base spare held n 70 cs = some x) : ∃ l : aG,cs = (hY l).map (Value.int .i64):=by
 obtain ⟨xs,m,_,_,hcl,hlen,hf⟩:=DataW.trod_struct Tryz.underlying70 h
 have kw : Tryz.prog.cellsOf 70 = 2:=by kernel_rfl
 rw [kw] at hcl
 match cs,hcl with
 | [c0,c1],_ =>
  obtain ⟨x0,e0⟩:=eY hlen (i:=0) (by decide)
  obtain ⟨z0,h0⟩:=qT (cs:=[c0,c1]) (off:=0) (by rw [e0]; simp) (hf 0 _ rfl)
  obtain ⟨x1,e1⟩:=eY hlen (i:=1) (by decide)
  obtain ⟨z1,h1⟩:=qT (cs:=[c0,c1]) (off:=1) (by rw [e1]; simp) (hf 1 _ rfl)
  simp at h0 h1
  subst h0 h1
  exact ⟨⟨z0,z1⟩,rfl⟩
theorem aBM (l : aG) : (aA l).cells = (hY l).map (AV.int .i64):=rfl
set_option maxRecDepth 100000 in
theorem aEl {a : Option Addr} {len cap : Nat} {x : DataW H × List MemPlace} {fuel : Nat} (hsp : ∀ b,spare b = true) (h : DataW.trod enc Tryz.prog W base spare held fuel 26 [.slice a len cap] = some x) :
  ∃ ls : List aG,ls.length ≤ maxLen ∧ VR (Gh.all W) (.sl (ls.map aA) none) (.slice a len cap):=by
 have kw : Tryz.prog.cellsOf 70 = 2:=by kernel_rfl
 rcases open_slice Tryz.underlying26 h with ⟨hcs,_⟩ | ⟨ad,l,c,m,n,D,Pl,hcs,hb,hl,hm,hmm,hx,hi⟩
 ·simp at hcs
  obtain ⟨rfl,rfl,rfl⟩:=hcs
  exact ⟨[],by simp,.sl0 _ _⟩
 ·simp at hcs
  obtain ⟨rfl,rfl,rfl⟩:=hcs
  have hw : ∀ i,∃ g : aG,i < len → ∀ j z,(hY g)[j]? = some z → W.cell? (ad.add (i * 2 + j)) = some (.int .i64 z):=by
   intro i
   by_cases hil : i < len
   ·obtain ⟨cs, hcells, ht⟩ := hi i (by rw [hmm]; split <;> omega)
    obtain ⟨g,rfl⟩:=aEW ht
    rw [kw] at hcells
    obtain ⟨_,hcl,hat⟩:=World.cells?_some hcells
    refine ⟨g,fun _ j z hz => ?_⟩
    have hj : j < 2:=(List.getElem?_eq_some_iff.1 hz).1
    rw [← Go.Deep.add_add,hat j hj,List.getElem?_map,hz]
    rfl
   ·exact ⟨default,fun h => absurd h hil⟩
  obtain ⟨f,hf⟩:=Classical.axiomOfChoice hw
  refine ⟨(List.range len).map f,by simp; omega,?_⟩
  by_cases h0 : len = 0
  ·subst h0
   exact .sl0 _ _
  ·have hx : ∃ b o,ad = ⟨b,o,none⟩:=by
    have h1:=hf 0 (by omega) 0 _ rfl
    obtain ⟨b,o,sp⟩:=ad
    cases sp with
    | none => exact ⟨b,o,rfl⟩
    | some s =>
     exfalso
     unfold World.cell? at h1
     simp only [Addr.add] at h1
     split at h1 <;> simp_all
   obtain ⟨b,o,rfl⟩:=hx
   have hcl : ∀ i,i < len → ∀ j z,(hY (f i))[j]? = some z → W.cell? ⟨b,o + (i * 2 + j),none⟩ = some (.int .i64 z):=fun i hi j z hz => by
    have h1:=hf i hi j z hz
    have ej : ((⟨b,o,none⟩ : Addr).add (i * 2 + j)) = ⟨b,o + (i * 2 + j),none⟩:=by unfold Addr.add; split <;> simp_all
    rw [ej] at h1
    exact h1
   have hel : ∀ (i : Nat) y,(((List.range len).map f).map aA)[i]? = some y → i < len ∧ y = aA (f i):=fun i y hy => by
    rw [List.map_map,List.getElem?_map,Option.map_eq_some_iff] at hy
    obtain ⟨z,hz1,rfl⟩:=hy
    have hi : i < (List.range len).length:=(List.getElem?_eq_some_iff.1 hz1).1
    rw [List.length_range] at hi
    rw [List.getElem?_range hi] at hz1
    cases hz1
    exact ⟨hi,rfl⟩
   have hcz : ∀ (i j : Nat) x,(aA (f i)).cells[j]? = some x → j < 2 ∧ ∃ z,(hY (f i))[j]? = some z ∧ x = .int .i64 z:=fun i j x hx => by
    rw [aBM,List.getElem?_map,Option.map_eq_some_iff] at hx
    obtain ⟨z,hz,rfl⟩:=hx
    exact ⟨(List.getElem?_eq_some_iff.1 hz).1,z,hz,rfl⟩
   have hus : ∀ (i j : Nat) z,j < 2 → (hY (f i))[j]? = some z → (hY (f ((i * 2 + j) / 2))).getD ((i * 2 + j) % 2) 0 = z:=fun i j z hj hz => by
    rw [show (i * 2 + j) / 2 = i by omega,show (i * 2 + j) % 2 = j by omega,List.getD_eq_getElem?_getD,hz]
    rfl
   have hlm : (((List.range len).map f).map aA).length = len:=by simp
   have key := VR.sl (G := Gh.all W) (((List.range len).map f).map aA) 2 b o cap (fun k => .int .i64 ((hY (f (k / 2))).getD (k % 2) 0)) (by rw [hlm]; exact hl) (fun i y hy => by rw [(hel i y hy).2]; rfl)
    (fun i y j x hy hx => by
      obtain ⟨hi,rfl⟩:=hel i y hy
      obtain ⟨hj,z,hz,rfl⟩:=hcz i j x hx
      show W.cell? _ = _
      rw [hcl i hi j z hz, hus i j z hj hz])
    (fun i y j x hy hx => by
      obtain ⟨hi,rfl⟩:=hel i y hy
      obtain ⟨hj,z,hz,rfl⟩:=hcz i j x hx
      rw [hus i j z hj hz]
      exact .int _ _)
   rw [hlm] at key
   exact key
theorem aDc {v : Value} {a : Option Addr} {len cap : Nat} (hv : v = .slice a len cap) {d : DataW H} {p : List MemPlace} (h : DataW.Trod enc Tryz.prog W base (fun _ => true) held 26 v d p) :
  ∃ ls : List aG,ls.length ≤ maxLen ∧ VR (Gh.all W) (.sl (ls.map aA) none) v:=by
 subst hv
 obtain ⟨fuel,hf⟩:=h
 exact aEl (fun _ => rfl) hf
end
end
section
open Go.RowKit Go.ChangeShapes Go.WideShapes Go.Deep
section
variable {H : Type} {enc : TypeId × Value → H} {W : World} {base : Nat} {spare : Nat → Bool} {held : Bool}
def gF (l : aX) : List Bool:=[l.Weld,l.Carve,l.Paint]
set_option maxRecDepth 100000 in
theorem aEi {n : Nat} {cs : List Value} {x : DataW H × List MemPlace} (h : DataW.trod enc Tryz.prog W base spare held n 67 cs = some x) : ∃ l : aX,cs = (gF l).map (Value.bool):=by
 obtain ⟨xs,m,_,_,hcl,hlen,hf⟩:=DataW.trod_struct Tryz.underlying67 h
 have kw : Tryz.prog.cellsOf 67 = 3:=by kernel_rfl
 rw [kw] at hcl
 match cs,hcl with
 | [c0,c1,c2],_ =>
  obtain ⟨x0,e0⟩:=eY hlen (i:=0) (by decide)
  obtain ⟨z0,h0⟩:=aBn (cs:=[c0,c1,c2]) (off:=0) (by rw [e0]; simp) (hf 0 _ rfl)
  obtain ⟨x1,e1⟩:=eY hlen (i:=1) (by decide)
  obtain ⟨z1,h1⟩:=aBn (cs:=[c0,c1,c2]) (off:=1) (by rw [e1]; simp) (hf 1 _ rfl)
  obtain ⟨x2,e2⟩:=eY hlen (i:=2) (by decide)
  obtain ⟨z2,h2⟩:=aBn (cs:=[c0,c1,c2]) (off:=2) (by rw [e2]; simp) (hf 2 _ rfl)
  simp at h0 h1 h2
  subst h0 h1 h2
  exact ⟨⟨z0,z1,z2⟩,rfl⟩
theorem aAH (l : aX) : (aE l).cells = (gF l).map (AV.bool):=rfl
set_option maxRecDepth 100000 in
theorem aCX {a : Option Addr} {len cap : Nat} {x : DataW H × List MemPlace} {fuel : Nat} (hsp : ∀ b,spare b = true) (h : DataW.trod enc Tryz.prog W base spare held fuel 22 [.slice a len cap] = some x) :
  ∃ ls : List aX,ls.length ≤ maxLen ∧ VR (Gh.all W) (.sl (ls.map aE) none) (.slice a len cap):=by
 have kw : Tryz.prog.cellsOf 67 = 3:=by kernel_rfl
 rcases open_slice Tryz.underlying22 h with ⟨hcs,_⟩ | ⟨ad,l,c,m,n,D,Pl,hcs,hb,hl,hm,hmm,hx,hi⟩
 ·simp at hcs
  obtain ⟨rfl,rfl,rfl⟩:=hcs
  exact ⟨[],by simp,.sl0 _ _⟩
 ·simp at hcs
  obtain ⟨rfl,rfl,rfl⟩:=hcs
  have hw : ∀ i,∃ g : aX,i < len → ∀ j z,(gF g)[j]? = some z → W.cell? (ad.add (i * 3 + j)) = some (.bool z):=by
   intro i
   by_cases hil : i < len
   ·obtain ⟨cs, hcells, ht⟩ := hi i (by rw [hmm]; split <;> omega)
    obtain ⟨g,rfl⟩:=aEi ht
    rw [kw] at hcells
    obtain ⟨_,hcl,hat⟩:=World.cells?_some hcells
    refine ⟨g,fun _ j z hz => ?_⟩
    have hj : j < 3:=(List.getElem?_eq_some_iff.1 hz).1
    rw [← Go.Deep.add_add,hat j hj,List.getElem?_map,hz]
    rfl
   ·exact ⟨default,fun h => absurd h hil⟩
  obtain ⟨f,hf⟩:=Classical.axiomOfChoice hw
  refine ⟨(List.range len).map f,by simp; omega,?_⟩
  by_cases h0 : len = 0
  ·subst h0
   exact .sl0 _ _
  ·have hx : ∃ b o,ad = ⟨b,o,none⟩:=by
    have h1:=hf 0 (by omega) 0 _ rfl
    obtain ⟨b,o,sp⟩:=ad
    cases sp with
    | none => exact ⟨b,o,rfl⟩
    | some s =>
     exfalso
     unfold World.cell? at h1
     simp only [Addr.add] at h1
     split at h1 <;> simp_all
   obtain ⟨b,o,rfl⟩:=hx
   have hcl : ∀ i,i < len → ∀ j z,(gF (f i))[j]? = some z → W.cell? ⟨b,o + (i * 3 + j),none⟩ = some (.bool z):=fun i hi j z hz => by
    have h1:=hf i hi j z hz
    have ej : ((⟨b,o,none⟩ : Addr).add (i * 3 + j)) = ⟨b,o + (i * 3 + j),none⟩:=by unfold Addr.add; split <;> simp_all
    rw [ej] at h1
    exact h1
   have hel : ∀ (i : Nat) y,(((List.range len).map f).map aE)[i]? = some y → i < len ∧ y = aE (f i):=fun i y hy => by
    rw [List.map_map,List.getElem?_map,Option.map_eq_some_iff] at hy
    obtain ⟨z,hz1,rfl⟩:=hy
    have hi : i < (List.range len).length:=(List.getElem?_eq_some_iff.1 hz1).1
    rw [List.length_range] at hi
    rw [List.getElem?_range hi] at hz1
    cases hz1
    exact ⟨hi,rfl⟩
   have hcz : ∀ (i j : Nat) x,(aE (f i)).cells[j]? = some x → j < 3 ∧ ∃ z,(gF (f i))[j]? = some z ∧ x = .bool z:=fun i j x hx => by
    rw [aAH,List.getElem?_map,Option.map_eq_some_iff] at hx
    obtain ⟨z,hz,rfl⟩:=hx
    exact ⟨(List.getElem?_eq_some_iff.1 hz).1,z,hz,rfl⟩
   have hus : ∀ (i j : Nat) z,j < 3 → (gF (f i))[j]? = some z → (gF (f ((i * 3 + j) / 3))).getD ((i * 3 + j) % 3) false = z:=fun i j z hj hz => by
    rw [show (i * 3 + j) / 3 = i by omega,show (i * 3 + j) % 3 = j by omega,List.getD_eq_getElem?_getD,hz]
    rfl
   have hlm : (((List.range len).map f).map aE).length = len:=by simp
   have key := VR.sl (G := Gh.all W) (((List.range len).map f).map aE) 3 b o cap (fun k => .bool ((gF (f (k / 3))).getD (k % 3) false)) (by rw [hlm]; exact hl) (fun i y hy => by rw [(hel i y hy).2]; rfl)
    (fun i y j x hy hx => by
      obtain ⟨hi,rfl⟩:=hel i y hy
      obtain ⟨hj,z,hz,rfl⟩:=hcz i j x hx
      show W.cell? _ = _
      rw [hcl i hi j z hz, hus i j z hj hz])
    (fun i y j x hy hx => by
      obtain ⟨hi,rfl⟩:=hel i y hy
      obtain ⟨hj,z,hz,rfl⟩:=hcz i j x hx
      rw [hus i j z hj hz]
      exact .bool _)
   rw [hlm] at key
   exact key
end
end
section
open Go.RowKit Go.ChangeShapes Go.WideShapes Go.Deep
section
variable {H : Type} {enc : TypeId × Value → H} {W : World} {base : Nat} {spare : Nat → Bool} {held : Bool}
set_option maxRecDepth 100000 in
theorem aFX {r0 : Reach} {b0 : Nat} {v : Value} {d : DataW H} {p : List MemPlace} (hv : Value.okWide Tryz.prog W r0 b0 25 v) (h : DataW.Trod enc Tryz.prog W base (fun _ => true) held 25 v d p) :
  ∃ x : aH,(x.Workers.length ≤ maxLen ∧ x.Jobs.length ≤ maxLen) ∧ VR (Gh.all W) (aC x) v:=by
 obtain ⟨us,rfl,hsz⟩:=okWide_struct Tryz.underlying25 hv
 obtain ⟨fuel,hf⟩:=h
 have kw : Tryz.prog.cellsOf 25 = 2:=by kernel_rfl
 have ks : Tryz.prog.cellsOf 22 = 1:=by kernel_rfl
 have kt : Tryz.prog.cellsOf 23 = 1:=by kernel_rfl
 rw [kw] at hsz
 obtain ⟨us⟩:=us
 match us,hsz with
 | [c0,c1],_ =>
  obtain ⟨xs,m,_,_,_,hlen,hf⟩:=DataW.trod_struct Tryz.underlying25 hf
  obtain ⟨x0,e0⟩:=eY hlen (i:=0) (by decide)
  obtain ⟨x1,e1⟩:=eY hlen (i:=1) (by decide)
  have h0 : DataW.trod enc Tryz.prog W base (fun _ => true) held m 22 ((([c0,c1] : List Value).drop 0).take (Tryz.prog.cellsOf 22)) = xs[0]?:=by have:=hf 0 _ rfl; exact this
  have h1 : DataW.trod enc Tryz.prog W base (fun _ => true) held m 23 ((([c0,c1] : List Value).drop 1).take (Tryz.prog.cellsOf 23)) = xs[1]?:=by have:=hf 1 _ rfl; exact this
  rw [e0,ks] at h0
  rw [e1,kt] at h1
  replace h0 : DataW.trod enc Tryz.prog W base (fun _ => true) held m 22 [c0] = some x0:=h0
  replace h1 : DataW.trod enc Tryz.prog W base (fun _ => true) held m 23 [c1] = some x1:=h1
  have hsl : ∃ a len cap,c0 = .slice a len cap:=by
   rcases open_slice Tryz.underlying22 h0 with ⟨hcs,_⟩ | ⟨ad,l,c,m,n,D,Pl,hcs,_⟩
   ·simp at hcs; exact ⟨_,_,_,hcs⟩
   ·simp at hcs; exact ⟨_,_,_,hcs⟩
  obtain ⟨a,len,cap,rfl⟩:=hsl
  have hsl : ∃ a len cap,c1 = .slice a len cap:=by
   rcases open_slice Tryz.underlying23 h1 with ⟨hcs,_⟩ | ⟨ad,l,c,m,n,D,Pl,hcs,_⟩
   ·simp at hcs; exact ⟨_,_,_,hcs⟩
   ·simp at hcs; exact ⟨_,_,_,hcs⟩
  obtain ⟨a1,len1,cap1,rfl⟩:=hsl
  obtain ⟨ls,hl,hvr⟩:=aCX (fun _ => rfl) h0
  obtain ⟨ls1,hl1,hvr1⟩:=aGm (fun _ => rfl) h1
  refine ⟨⟨ls,ls1⟩,⟨hl,hl1⟩,.agg _ _ rfl ?_⟩
  intro i x u hx hu
  match i with
  | 0 => simp [aB] at hx hu; subst hx; subst hu; exact hvr
  | 1 => simp [aB] at hx hu; subst hx; subst hu; exact hvr1
  | i + 2 => simp [aB] at hx
end
end
section
open Go.RowKit Go.ChangeShapes Go.WideShapes Go.ChangeAt
def nums (zs : List Int) : AV:=.sl (zs.map fun z => .int .i64 z) none
theorem aEX : ownKnob Tryz.prog.godebug = none:=by kernel_rfl
theorem rS : laidOutB Tryz.prog = true:=by kernel_rfl
namespace shedPlans
theorem glw {W : World} (hL : laidMetH Tryz.prog Rows.shedPlansRow.laid W) : GLW W:=by
 rw [MakeChecks.laidMetH_plain _ _ _ (by kernel_rfl)] at hL
 have h0 : Lib.TabIs Tryz.prog W "bateria/shed.bitOf" .u8 gnum0 := Lib.tabIs_of_head (g := 0) (t := 111) (e := 110) (n := 4) (by kernel_rfl) (by kernel_rfl) (by kernel_rfl) (by kernel_rfl) (by kernel_rfl) (by kernel_rfl) (hL)
 intro B o u h
 by_cases e0 : B = 0
 ·subst e0
  have:=World.var?_cell (P:=Tryz.prog) (g:=0) (by kernel_rfl) h0 o
  rw [this]
  simpa [gcell,gtab,gtab0] using h
 simp [gcell,gtab,e0] at h
theorem aFw (os : Os) (args : Array Value) : laidMetH Tryz.prog Rows.shedPlansRow.laid ((World.doorLaid Tryz.prog 14 os).forCall (fun _ _ => 0) ⟨#[],args,[]⟩).memory :=
 laidMetH_of_parts3 (fuel:=8) (laidMet_of_run' 8 (by kernel_rfl) (by kernel_rfl)) (by kernel_rfl) (by kernel_rfl)
set_option maxRecDepth 100000 in
theorem lifted (hM : ∀ (x0 : aH),x0.Workers.length ≤ maxLen ∧ x0.Jobs.length ≤ maxLen → ∀ (x1 : List aG),x1.length ≤ maxLen → ∀ (x2 : bH),∀ (x3 : List Int),(∀ z ∈ x3,(Lit.int .i64 z).wf = true) → x3.length ≤ maxLen → Does Tryz.prog 3 [aC x0,.sl (x1.map aA) none,aI x2,nums x3] [] fun v _ => v = .bool true) (os : Os) (started : os.Started) (H : Type) (enc : TypeId × Value → H) :
  ReturnsInHanded {} Tryz.checked os 3 .any (fun w args => (Rows.shedPlansSpec.pre enc Tryz.prog Tryz.f3 Rows.shedPlansRow.domain false w args ∧ laidMetH Tryz.prog Rows.shedPlansRow.laid w) ∧ sizedMet enc Tryz.prog Tryz.f3 (OpenSpec.ofChange Rows.shedPlansSpec) false w args) (Rows.shedPlansSpec.post enc Tryz.prog Tryz.f3 false true false false):=by
 refine returnsInHanded_of_change_and (C := Tryz.checked) (X := fun w _ => laidMetH Tryz.prog Rows.shedPlansRow.laid w) (fun _ _ _ hh h => h.of_heap hh) aEX started (by kernel_rfl) Tryz.func3
  (ChangeSpec.witness_shaped (enc:=enc) (C:=Tryz.checked) (os:=os) (X:=fun w _ => laidMetH Tryz.prog Rows.shedPlansRow.laid w) false (World.doorLaid Tryz.prog 14 os) #[.agg #[.slice none 0 0,.slice none 0 0],.slice none 0 0,.agg #[.int .i64 0,.int .i64 0,.int .i64 0],.slice none 0 0] 8 rfl (World.shaped_of_RefB (by kernel_rfl) (by kernel_rfl)) (by kernel_rfl) (by kernel_rfl) (by kernel_rfl) (aFw os _)) ?_
 intro W base args ds gs before hval0 hW hcnd _ hL _
 have hval : ∀ (j : Nat) t v,Tryz.f3.params[j]? = some t → args[j]? = some v → Value.okWide Tryz.prog W .any base t v:=hval0
 have hW':=hW
 obtain ⟨p,q,hA0,hV,rfl,hfz,hnd⟩:=hW
 have hA : DataW.TrodAll enc Tryz.prog W 0 (fun _ => true) true Tryz.f3.params.toList args.toList ds p:=hA0
 rw [Tryz.params3] at hA hval
 obtain ⟨v0,vs0,d0,ds0,p0,q0,hargs,rfl,rfl,h0,r0⟩:=trodAll_cons hA
 obtain ⟨v1,vs1,d1,ds1,p1,q1,rfl,rfl,rfl,h1,r1⟩:=trodAll_cons r0
 obtain ⟨v2,vs2,d2,ds2,p2,q2,rfl,rfl,rfl,h2,r2⟩:=trodAll_cons r1
 obtain ⟨v3,vs3,d3,ds3,p3,q3,rfl,rfl,rfl,h3,r3⟩:=trodAll_cons r2
 obtain ⟨rfl,rfl,rfl⟩:=trodAll_nil r3
 obtain rfl : args = #[v0,v1,v2,v3]:=by cases args; simp_all
 obtain ⟨rfl,rfl⟩:=trodVars_none hV
 have k0:=h0
 have lt0 : ∀ x ∈ p0,x.block < W.heap.size:=by obtain ⟨m,hm⟩:=k0; exact DataW.trod_lt m _ _ _ hm
 obtain ⟨zs0,hlen0,hvr0⟩:=aFX (hval 0 25 v0 rfl rfl) h0
 have k1:=h1
 have lt1 : ∀ x ∈ p1,x.block < W.heap.size:=by obtain ⟨m,hm⟩:=k1; exact DataW.trod_lt m _ _ _ hm
 obtain ⟨a1,len1,cap1,hs1⟩:=okWide_slice Tryz.underlying26 (hval 1 26 v1 rfl rfl)
 obtain ⟨zs1,hlen1,hvr1⟩:=aDc hs1 h1
 have k2:=h2
 have lt2 : ∀ x ∈ p2,x.block < W.heap.size:=by obtain ⟨m,hm⟩:=k2; exact DataW.trod_lt m _ _ _ hm
 obtain ⟨zs2,hvr2⟩:=aHr (hval 2 28 v2 rfl rfl) h2
 have k3:=h3
 have lt3 : ∀ x ∈ p3,x.block < W.heap.size:=by obtain ⟨m,hm⟩:=k3; exact DataW.trod_lt m _ _ _ hm
 obtain ⟨a3,len3,cap3,rfl⟩:=okWide_slice Tryz.underlying29 (hval 3 29 v3 rfl rfl)
 obtain ⟨zs3,hwf3,hlen3,hvr3⟩:=aGn Tryz.underlying29 Tryz.underlying3 (by kernel_rfl) h3
 clear hA0 hval0
 refine ((hM zs0 hlen0 zs1 hlen1 zs2 zs3 hwf3 hlen3).law (us:=#[v0,v1,v2,.slice a3 len3 cap3]) ⟨rfl,fun i x u hx hu => ?_⟩ (glw hL)).mono fun e W' ⟨he,bel⟩ => ?_
 ·match i with
  | 0 => simp at hx hu; subst hx; subst hu; exact hvr0
  | 1 => simp at hx hu; subst hx; subst hu; exact hvr1
  | 2 => simp at hx hu; subst hx; subst hu; exact hvr2
  | 3 => simp at hx hu; subst hx; subst hu; exact hvr3
  | i + 4 => simp at hx
 subst he
 exact ⟨_,rfl,_,_,_,[],_,[],hW',trodAll_mk1 (shut_bool Tryz.underlying4 _),(trodAll_cons_mk (Below.trod rS (by kernel_rfl) (of_decide_eq_true (by kernel_rfl)) k0 bel lt0) (trodAll_cons_mk (Below.trod rS (by kernel_rfl) (of_decide_eq_true (by kernel_rfl)) k1 bel lt1) (trodAll_cons_mk (Below.trod rS (by kernel_rfl) (of_decide_eq_true (by kernel_rfl)) k2 bel lt2) (trodAll_cons_mk (Below.trod rS (by kernel_rfl) (of_decide_eq_true (by kernel_rfl)) k3 bel lt3) trodAll_mk0)))),rfl,bel.frame _,fun h => by cases h⟩
theorem frame (hM : ∀ (x0 : aH),x0.Workers.length ≤ maxLen ∧ x0.Jobs.length ≤ maxLen → ∀ (x1 : List aG),x1.length ≤ maxLen → ∀ (x2 : bH),∀ (x3 : List Int),(∀ z ∈ x3,(Lit.int .i64 z).wf = true) → x3.length ≤ maxLen → Does Tryz.prog 3 [aC x0,.sl (x1.map aA) none,aI x2,nums x3] [] fun v _ => v = .bool true) : Rows.ShedPlansSaid :=
 OpenClaim.holds_of_wide 3 Tryz.f3 rfl rfl rfl rfl rfl rfl rfl ⟨rfl, rfl, rfl, rfl, rfl⟩ rfl rfl rfl rfl rfl (by kernel_rfl) Tryz.func3 (by kernel_rfl)
  (of_decide_eq_true (by kernel_rfl)) (by unfold Func.isWrapper; first | (rw [if_pos (by decide +kernel)]; kernel_rfl) | (rw [if_neg (by decide +kernel)]; exact ⟨rfl,rfl⟩))
  (fun os started H enc _ => lifted hM os started H enc)
end shedPlans
end
section
open Go
set_option maxRecDepth 100000
theorem xX (h : Rows.ShedPlansSaid) : Rows.ShedPlansCardSaid :=
 Claim7.holds_tied_plain_at .later [] [.data] true (true, "b4d0259ef31fba8a91ecd6fd239f98c5d3e206ea6db5e940886e56ec3276b711") false
  h (fun _ h => by cases h) (by kernel_rfl) (fun _ h => by cases h) shedPlans_row_tie rfl ⟨rfl,rfl⟩ (by kernel_rfl) rfl
  (fun f fn hf hfn => by
    obtain rfl : f = 3 := Option.some.inj ((show Tryz.prog.funcNamed "bateria/baterialaw08.ShedPlans" = some 3 by kernel_rfl).symm.trans hf) |>.symm
    obtain rfl : fn = Tryz.f3:=(Option.some.inj ((Tryz.func3).symm.trans hfn)).symm
    refine ⟨by kernel_rfl,fun j t ht => ?_⟩
    have hall : (Tryz.f3.params.toList.all fun t => !Tryz.prog.wantsStandIn t) = true:=by kernel_rfl
    have hm : t ∈ Tryz.f3.params.toList:=by
     rw [← Array.getElem?_toList] at ht
     exact List.mem_of_getElem? ht
    have hq:=List.all_eq_true.1 hall t hm
    show Tryz.prog.wantsStandIn t = false
    simpa using hq)
  (by kernel_rfl)
end
end Go.Proofs.YtildamklmoekaaaGreatDoor
