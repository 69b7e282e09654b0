/- Part 1 of what the law needs: own work, put together. -/
import Derived.WalkKit
import Derived.Below
import Derived.Orders
import Derived.OrdersIn
import Derived.RangeFuncCalls
import Derived.Laws.AppendOwn
import Derived.KernelRfl
import Derived.Laws.StructEq
import Derived.ChangeKeysEq
import Derived.Laws.MakeOwn
import Derived.IntWalk
set_option linter.unusedVariables false
set_option linter.unusedSimpArgs false
namespace Go.Proofs.YtildamklmoekaaaGreatDoor
section
open Go.RowKit
def gnum0 : List Int:=[0,1,2,4]
def gtab0 : List Value:=gnum0.map (Value.int .u8)
def gtab : Nat → List Value:=fun g => if g = 0 then gtab0 else []
end
section
open Go.RowKit
inductive AV where
 | int (k : IntKind) (n : Int)
 | bool (b : Bool)
 | str (s : ByteArray)
 | agg (cs : List AV)
 | tup (vs : List AV)
 | nilp
 | ptr (b o : Nat)
 | rop (cs : List AV)
 | nils
 | sl (els : List AV) (tok : Option Nat)
 | ms (b n s : Nat)
 | mg (b n s : Nat)
 | fn (f : FuncId) (first caps : List AV)
 | nilf
 | junk
 | yld (l t : Nat)
 deriving Inhabited
def AV.cells : AV → List AV
 | .agg cs => cs
 | x => [x]
mutual
def AV.clean : AV → Bool
 | .int _ _ | .bool _ | .str _ | .nilp | .nils | .nilf | .junk => true
 | .agg cs => bB cs
 | .tup cs => bB cs
 | .rop cs => bB cs
 | .sl els none => bB els
 | .sl _ (some _) => false
 | .ptr _ _ => false
 | .ms _ _ _ => false
 | .mg _ _ _ => false
 | .fn _ ps caps => bB ps && bB caps
 | .yld _ _ => false
def bB : List AV → Bool
 | [] => true
 | x :: l => x.clean && bB l
end
theorem cO {l : List AV} : bB l = true ↔ ∀ x ∈ l,x.clean = true:=by
 induction l with
 | nil => simp [bB]
 | cons a l ih => simp [bB,ih]
inductive TB where
 | nil
 | blk (B s c : Nat)
structure Gh where
 al : Nat → Option Nat
 tb : Nat → Nat → Option TB
 fz : Nat → Nat → Option Value
 sz : Nat → Option Nat
structure Gh.le (G G' : Gh) : Prop where
 al : ∀ b B,G.al b = some B → G'.al b = some B
 tb : ∀ t n v,G.tb t n = some v → G'.tb t n = some v
 fz : ∀ b o u,G.fz b o = some u → G'.fz b o = some u
 sz : ∀ B m,G.sz B = some m → G'.sz B = some m
theorem Gh.le.refl (G : Gh) : G.le G:=⟨fun _ _ h => h,fun _ _ _ h => h,fun _ _ _ h => h,fun _ _ h => h⟩
theorem Gh.le.trans {G G1 G2 : Gh} (h : G.le G1) (k : G1.le G2) : G.le G2 :=
 ⟨fun b B e => k.al b B (h.al b B e),fun t n v e => k.tb t n v (h.tb t n v e),fun b o u e => k.fz b o u (h.fz b o u e),fun B m e => k.sz B m (h.sz B m e)⟩
inductive VR (G : Gh) : AV → Value → Prop
 | int (k n) : VR G (.int k n) (.int k n)
 | bool (b) : VR G (.bool b) (.bool b)
 | str (s) : VR G (.str s) (.string s)
 | agg (cs : List AV) (us : Array Value) (hl : us.size = cs.length) (h : ∀ (i : Nat) x u,cs[i]? = some x → us[i]? = some u → VR G x u) : VR G (.agg cs) (.agg us)
 | tup (cs : List AV) (us : Array Value) (hl : us.size = cs.length) (h : ∀ (i : Nat) x u,cs[i]? = some x → us[i]? = some u → VR G x u) : VR G (.tup cs) (.tuple us)
 | nilp : VR G .nilp (.pointer none)
 | ptr (b o B) (h : G.al b = some B) : VR G (.ptr b o) (.pointer (some ⟨B,o,none⟩))
 | rop (cs : List AV) (B O : Nat) (us : Nat → Value) (hf : ∀ (i : Nat) x,cs[i]? = some x → G.fz B (O + i) = some (us i)) (h : ∀ (i : Nat) x,cs[i]? = some x → VR G x (us i)) : VR G (.rop cs) (.pointer (some ⟨B,O,none⟩))
 | nils : VR G .nils (.slice none 0 0)
 | sl0 (A c) : VR G (.sl [] none) (.slice A 0 c)
 | sl (els : List AV) (s B O c : Nat) (us : Nat → Value) (hn : els.length ≤ c) (hs : ∀ (i : Nat) e,els[i]? = some e → e.cells.length = s)
   (hf : ∀ (i : Nat) e (j : Nat) x,els[i]? = some e → e.cells[j]? = some x → G.fz B (O + (i * s + j)) = some (us (i * s + j)))
   (h : ∀ (i : Nat) e (j : Nat) x,els[i]? = some e → e.cells[j]? = some x → VR G x (us (i * s + j))) : VR G (.sl els none) (.slice (some ⟨B,O,none⟩) els.length c)
 | slt (els : List AV) (t s B c : Nat) (us : Nat → Value) (hb : G.tb t els.length = some (.blk B s c)) (hn : els.length ≤ c) (hs : ∀ (i : Nat) e,els[i]? = some e → e.cells.length = s)
   (hf : ∀ (i : Nat) e (j : Nat) x,els[i]? = some e → e.cells[j]? = some x → G.fz B (i * s + j) = some (us (i * s + j)))
   (h : ∀ (i : Nat) e (j : Nat) x,els[i]? = some e → e.cells[j]? = some x → VR G x (us (i * s + j))) : VR G (.sl els (some t)) (.slice (some ⟨B,0,none⟩) els.length c)
 | slt0 (t) (hb : G.tb t 0 = some .nil) : VR G (.sl [] (some t)) (.slice none 0 0)
 | ms (b n s B c) (h : G.al b = some B) (hn : n ≤ c) : VR G (.ms b n s) (.slice (some ⟨B,0,none⟩) n c)
 | ms0 (b s A c) : VR G (.ms b 0 s) (.slice A 0 c)
 | mg (b n s B c) (h : G.al b = some B) (hn : n ≤ c) (hm : G.sz B = some (c * s)) (h0 : 0 < n) : VR G (.mg b n s) (.slice (some ⟨B,0,none⟩) n c)
 | mg0 (b s) : VR G (.mg b 0 s) (.slice none 0 0)
 | fn (f) (ps cs : List AV) (vs us : Array Value) (hlp : vs.size = ps.length) (hp : ∀ (i : Nat) x u,ps[i]? = some x → vs[i]? = some u → VR G x u) (hl : us.size = cs.length) (h : ∀ (i : Nat) x u,cs[i]? = some x → us[i]? = some u → VR G x u) : VR G (.fn f ps cs) (.func (.func f) vs us)
 | nilf : VR G .nilf .nilFunc
 | junk (u) : VR G .junk u
 | yld (l t) : VR G (.yld l t) (.func (.yield l) #[] #[])
theorem VR.mono {G G' : Gh} {x : AV} {u : Value} (h : VR G x u) (hg : G.le G') : VR G' x u:=by
 induction h with
 | int k n => exact .int k n
 | bool b => exact .bool b
 | str s => exact .str s
 | agg cs us hl _ ih => exact .agg cs us hl ih
 | tup cs us hl _ ih => exact .tup cs us hl ih
 | nilp => exact .nilp
 | ptr b o B h => exact .ptr b o B (hg.al _ _ h)
 | rop cs B O us hf _ ih => exact .rop cs B O us (fun i x hi => hg.fz _ _ _ (hf i x hi)) ih
 | nils => exact .nils
 | sl0 A c => exact .sl0 A c
 | sl els s B O c us hn hs hf _ ih => exact .sl els s B O c us hn hs (fun i e j x h1 h2 => hg.fz _ _ _ (hf i e j x h1 h2)) ih
 | slt els t s B c us hb hn hs hf _ ih => exact .slt els t s B c us (hg.tb _ _ _ hb) hn hs (fun i e j x h1 h2 => hg.fz _ _ _ (hf i e j x h1 h2)) ih
 | slt0 t hb => exact .slt0 t (hg.tb _ _ _ hb)
 | ms b n s B c h hn => exact .ms b n s B c (hg.al _ _ h) hn
 | ms0 b s A c => exact .ms0 b s A c
 | mg b n s B c h hn hm h0 => exact .mg b n s B c (hg.al _ _ h) hn (hg.sz _ _ hm) h0
 | mg0 b s => exact .mg0 b s
 | fn f ps cs vs us hlp _ hl _ ihp ih => exact .fn f ps cs vs us hlp ihp hl ih
 | nilf => exact .nilf
 | junk u => exact .junk u
 | yld l t => exact .yld l t
theorem VR.move {G G' : Gh} {x : AV} {u : Value} (h : VR G x u) (hc : x.clean = true) (hg : ∀ b o v,G.fz b o = some v → G'.fz b o = some v) : VR G' x u:=by
 induction h with
 | int k n => exact .int k n
 | bool b => exact .bool b
 | str s => exact .str s
 | agg cs us hl _ ih => exact .agg cs us hl fun i x u h1 h2 => ih i x u h1 h2 (cO.1 (by simpa [AV.clean] using hc) x (List.mem_of_getElem? h1))
 | tup cs us hl _ ih => exact .tup cs us hl fun i x u h1 h2 => ih i x u h1 h2 (cO.1 (by simpa [AV.clean] using hc) x (List.mem_of_getElem? h1))
 | nilp => exact .nilp
 | ptr b o B h => simp [AV.clean] at hc
 | rop cs B O us hf _ ih => exact .rop cs B O us (fun i x hi => hg _ _ _ (hf i x hi)) fun i x h1 => ih i x h1 (cO.1 (by simpa [AV.clean] using hc) x (List.mem_of_getElem? h1))
 | nils => exact .nils
 | sl0 A c => exact .sl0 A c
 | sl els s B O c us hn hs hf _ ih =>
  refine .sl els s B O c us hn hs (fun i e j x h1 h2 => hg _ _ _ (hf i e j x h1 h2)) fun i e j x h1 h2 => ih i e j x h1 h2 ?_
  have he:=cO.1 (show bB els = true by simpa [AV.clean] using hc) e (List.mem_of_getElem? h1)
  have hx:=List.mem_of_getElem? h2
  cases e <;> simp only [AV.cells,List.mem_singleton] at hx <;> first | (subst hx; exact he) | exact cO.1 (by simpa [AV.clean] using he) x hx
 | slt els t s B c us hb hn hs hf _ ih => simp [AV.clean] at hc
 | slt0 t hb => simp [AV.clean] at hc
 | ms b n s B c h hn => simp [AV.clean] at hc
 | ms0 b s A c => simp [AV.clean] at hc
 | mg b n s B c h hn hm h0 => simp [AV.clean] at hc
 | mg0 b s => simp [AV.clean] at hc
 | fn f ps cs vs us hlp _ hl _ ihp ih =>
  simp only [AV.clean,Bool.and_eq_true] at hc
  exact .fn f ps cs vs us hlp (fun i x u h1 h2 => ihp i x u h1 h2 (cO.1 hc.1 x (List.mem_of_getElem? h1))) hl fun i x u h1 h2 => ih i x u h1 h2 (cO.1 hc.2 x (List.mem_of_getElem? h1))
 | nilf => exact .nilf
 | junk u => exact .junk u
 | yld l t => simp [AV.clean] at hc
def AV.plain1 : AV → AV
 | .sl els _ => .sl els none
 | x => x
def AV.plain : AV → AV
 | .agg cs => .agg (cs.map AV.plain1)
 | x => x.plain1
theorem VR.plain1 {G : Gh} {x : AV} {u : Value} (h : VR G x u) : VR G x.plain1 u:=by
 cases h with
 | slt els t s B c us hb hn hs hf h => exact .sl els s B 0 c us hn hs (fun i e j x h1 h2 => by rw [Nat.zero_add]; exact hf i e j x h1 h2) h
 | slt0 t hb => exact .sl0 none 0
 | sl els s B O c us hn hs hf h => exact .sl els s B O c us hn hs hf h
 | sl0 A c => exact .sl0 A c
 | int k n => exact .int k n
 | bool b => exact .bool b
 | str s => exact .str s
 | agg cs us hl h => exact .agg cs us hl h
 | tup cs us hl h => exact .tup cs us hl h
 | nilp => exact .nilp
 | ptr b o B h => exact .ptr b o B h
 | rop cs B O us hf h => exact .rop cs B O us hf h
 | nils => exact .nils
 | ms b n s B c h hn => exact .ms b n s B c h hn
 | ms0 b s A c => exact .ms0 b s A c
 | mg b n s B c h hn hm h0 => exact .mg b n s B c h hn hm h0
 | mg0 b s => exact .mg0 b s
 | fn f ps cs vs us hlp hp hl h => exact .fn f ps cs vs us hlp hp hl h
 | nilf => exact .nilf
 | junk u => exact .junk u
 | yld l t => exact .yld l t
theorem VR.plain {G : Gh} {x : AV} {u : Value} (h : VR G x u) : VR G x.plain u:=by
 cases x with
 | agg cs =>
  cases h with
  | agg _ us hl h =>
   refine .agg _ us (by simpa using hl) fun i y v hy hv => ?_
   rw [List.getElem?_map,Option.map_eq_some_iff] at hy
   obtain ⟨z,hz,rfl⟩:=hy
   exact (h i z v hz hv).plain1
 | _ => exact h.plain1
theorem AV.plain_cells (x : AV) : x.plain.cells.length = x.cells.length:=by
 cases x <;> simp [AV.plain,AV.plain1,AV.cells]
def gcell (B o : Nat) : Option Value:=(gtab B)[o]?
def GLW (W : World) : Prop:=∀ B o u,gcell B o = some u → W.cell? ⟨B,o,none⟩ = some u
def GL (G : Gh) : Prop:=∀ B o u,gcell B o = some u → G.fz B o = some u
structure St where
 bx : List (List AV)
 lv : List (Nat × Nat)
 deriving Inhabited
structure Inv (G : Gh) (S : St) (w : World) : Prop where
 box : ∀ b B cs,G.al b = some B → S.bx[b]? = some cs → cs = [] ∨ ∃ us T,w.heap[B]? = some (.cells us T (0,0)) ∧ cs.length ≤ us.size ∧ (∀ (i : Nat) x u,cs[i]? = some x → us[i]? = some u → VR G x u) ∧ ∀ o,G.fz B o = none
 tok : ∀ t n s0 B s c,S.lv[t]? = some (n,s0) → G.tb t n = some (.blk B s c) → s = s0 ∧ (∃ us T,w.heap[B]? = some (.cells us T (0,0)) ∧ us.size = c * s) ∧ n ≤ c ∧ ∀ o,n * s ≤ o → G.fz B o = none
 fz : ∀ b o u,G.fz b o = some u → w.cell? ⟨b,o,none⟩ = some u
 dal : ∀ b B,G.al b = some B → b < S.bx.length ∧ B < w.heap.size
 dtb : ∀ t n v,G.tb t n = some v → ∃ m s,S.lv[t]? = some (m,s) ∧ n ≤ m
 injA : ∀ b b' B,G.al b = some B → G.al b' = some B → b = b'
 injT : ∀ t t' n n' s0 s0' B s s' c c',S.lv[t]? = some (n,s0) → S.lv[t']? = some (n',s0') → G.tb t n = some (.blk B s c) → G.tb t' n' = some (.blk B s' c') → t = t'
 sep : ∀ b B t n s0 s c,G.al b = some B → S.lv[t]? = some (n,s0) → G.tb t n ≠ some (.blk B s c)
 gl : GL G
 sz : ∀ B m,G.sz B = some m → ∃ us T,w.heap[B]? = some (.cells us T (0,0)) ∧ us.size = m
def vD (G : Gh) (S : St) (B : Nat) : Prop:=(∃ b,G.al b = some B) ∨ ∃ t n s0 s c,S.lv[t]? = some (n,s0) ∧ G.tb t n = some (.blk B s c)
structure Gro (G : Gh) (S : St) (w : World) (G' : Gh) (S' : St) (w' : World) : Prop where
 le : G.le G'
 os : w'.os = w.os
 tape : w'.tape = w.tape
 output : w'.output = w.output
 size : w.heap.size ≤ w'.heap.size
 fr : ∀ B,B < w.heap.size → ¬ vD G S B → w'.heap[B]? = w.heap[B]? ∧ ∀ o,G'.fz B o = G.fz B o
 own : ∀ B,vD G' S' B → vD G S B ∨ w.heap.size ≤ B
 oth : ∀ (k : Nat) (o : Obj),w.heap[k]? = some o → o.isCells = false → w'.heap[k]? = some o
theorem Gro.refl (G : Gh) (S : St) (w : World) : Gro G S w G S w :=
 ⟨.refl G,rfl,rfl,rfl,Nat.le_refl _,fun _ _ _ => ⟨rfl,fun _ => rfl⟩,fun _ h => .inl h,fun _ _ h _ => h⟩
theorem Gro.trans {G G1 G2 : Gh} {S S1 S2 : St} {w w1 w2 : World} (h : Gro G S w G1 S1 w1) (k : Gro G1 S1 w1 G2 S2 w2) : Gro G S w G2 S2 w2 where
 le:=h.le.trans k.le
 os:=k.os.trans h.os
 tape:=k.tape.trans h.tape
 output:=k.output.trans h.output
 size:=Nat.le_trans h.size k.size
 fr B hB hn:=by
  obtain ⟨a1,a2⟩:=h.fr B hB hn
  obtain ⟨b1, b2⟩ := k.fr B (Nat.lt_of_lt_of_le hB h.size) (fun ho => by
   rcases h.own B ho with h' | h'
   ·exact hn h'
   ·omega)
  exact ⟨b1.trans a1,fun o => (b2 o).trans (a2 o)⟩
 own B ho:=by
  rcases k.own B ho with h' | h'
  ·exact h.own B h'
  ·exact .inr (Nat.le_trans h.size h')
 oth i o hi ho:=k.oth i o (h.oth i o hi ho) ho
theorem Inv.drew {G : Gh} {S : St} {w : World} (h : Inv G S w) : Inv G S w.drew:=⟨h.box,h.tok,h.fz,h.dal,h.dtb,h.injA,h.injT,h.sep,h.gl,h.sz⟩
theorem Gro.drew (G : Gh) (S : St) (w : World) : Gro G S w G S w.drew:=⟨.refl G,rfl,rfl,rfl,Nat.le_refl _,fun _ _ _ => ⟨rfl,fun _ => rfl⟩,fun _ h => .inl h,fun _ _ h _ => h⟩
theorem Inv.cell {G : Gh} {S : St} {w : World} (hI : Inv G S w) {b B o : Nat} {cs : List AV} {x : AV} (ha : G.al b = some B) (hb : S.bx[b]? = some cs) (hx : cs[o]? = some x) : ∃ u,w.cell? ⟨B,o,none⟩ = some u ∧ VR G x u ∧ w.frozen? ⟨B,o,none⟩ = false:=by
 rcases hI.box b B cs ha hb with rfl | ⟨us,T,h1,h2,h3,_⟩
 ·simp at hx
 ·have hlt : o < us.size:=Nat.lt_of_lt_of_le (List.getElem?_eq_some_iff.1 hx).1 h2
  have hu : us[o]? = some us[o]:=Array.getElem?_eq_getElem hlt
  refine ⟨us[o],?_,h3 o x _ hx hu,?_⟩
  ·simp [World.cell?,h1]
  ·simp [World.frozen?,h1]
end
section
open Go.RowKit
inductive AOpd where
 | tmp (t : Nat)
 | con (x : AV)
 deriving Inhabited
inductive EqT where
 | sc (c : Nat)
 | nil
 | cons (off : Nat) (n : Option Nat) (h t : EqT)
 deriving Inhabited
inductive AOp where
 | eqn (neg : Bool) (k : Nat) (x y : AOpd)
 | eqs (neg : Bool) (T : EqT) (x y : AOpd)
 | mov (x : AOpd)
 | pick (c a b : AOpd)
 | box (x : AOpd)
 | build (zero : List AV) (parts : List (Nat × Nat × AOpd))
 | bsl (s : Nat) (ag : Bool) (zero : List AV) (len : Nat) (parts : List (Nat × AOpd))
 | load (n : Option Nat) (a : AOpd)
 | store (n : Nat) (a v : AOpd)
 | nilck (x : AOpd)
 | bin (op : BinOp) (x y : AOpd)
 | un (op : UnOp) (x : AOpd)
 | conv (k : IntKind) (x : AOpd)
 | mkfn (f : FuncId) (first caps : List AOpd)
 | mksl (s : Nat) (ag : Bool) (zero : List AV) (bytes : Nat) (len cap : AOpd)
 | slc (str : Bool) (s : Nat) (x : AOpd) (lo hi : Option AOpd)
 | faddr (x : AOpd) (off : Nat)
 | fld (x : AOpd) (off : Nat) (n : Option Nat)
 | iaddr (x i : AOpd) (s : Nat) (arr : Option Nat)
 | idx (x i : AOpd)
 | aidx (x i : AOpd) (len s : Nat) (n : Option Nat)
 | ext (x : AOpd) (i : Nat)
 | call (f : AOpd) (args : List AOpd)
 | app (s x : AOpd) (es bytes : Nat) (zero : List AV)
 | len (str : Bool) (x : AOpd)
 | mn (x y : AOpd)
 | mx (x y : AOpd)
 | sla (n s : Nat) (x : AOpd)
 | slb (n s : Nat) (x hi : AOpd)
 | cpy (s : Nat) (x y : AOpd)
 deriving Inhabited
structure aT where
 dst : Option Nat
 op : AOp
 guard : Option (Nat × Bool)
 deriving Inhabited
def AV.ofS : Value → Option AV
 | .int k n => some (.int k n)
 | .bool b => some (.bool b)
 | .string s => some (.str s)
 | .pointer none => some .nilp
 | .slice none 0 0 => some .nils
 | .nilFunc => some .nilf
 | _ => none
def AV.ofV : Value → Option AV
 | .agg cs => (cs.toList.mapM AV.ofS).map .agg
 | .tuple cs => (cs.toList.mapM AV.ofS).map .tup
 | v => AV.ofS v
def aV : Operand → Option AOpd
 | .tmp t => some (.tmp t)
 | .const v => (AV.ofV v).map .con
 | .func f => some (.con (.fn f [] []))
 | .global g => match gtab g with
  | [] => none
  | vs => (vs.mapM AV.ofS).map fun cs => .con (.rop cs)
def kH (xs : Array Operand) : Option (List AOpd):=xs.toList.mapM aV
def fQ : Option Operand → Option (Option AOpd)
 | none => some none
 | some x => (aV x).map some
def lP (P : Program) (t : TypeId) : Option (Option Nat) :=
 match P.underlying t,P.info? t with
 | some (.struct _),some i => some (some i.size)
 | some (.array _ _),some i => some (some i.size)
 | some _,some i => some none
 | _,_ => none
def iQ (P : Program) (t : TypeId) : Option (List AV) :=
 match P.info? t with
 | some i => match i.zero with
  | some v => if v.cells.size = i.size then v.cells.toList.mapM AV.ofS else none
  | none => none
 | none => none
def rW (P : Program) (t : TypeId) (f : Nat) : Option Field :=
 match P.underlying t with
 | some (.struct fs) => fs[f]?
 | _ => none
def rY (P : Program) (t : TypeId) : Option TypeId :=
 match P.underlying t with
 | some (.slice e) => some e
 | _ => none
def isEq : BinOp → Option Bool
 | .eql => some false
 | .neq => some true
 | _ => none
def yV (P : Program) (g : TypeId → Option EqT) : List Field → Option EqT
 | [] => some .nil
 | f :: fs => if f.name = "_" then none else do
  let n ← lP P f.type
  let a ← g f.type
  let b ← yV P g fs
  pure (.cons f.offset n a b)
def vX (m : Nat) (n : Option Nat) (a : EqT) : List Nat → EqT
 | [] => .nil
 | i :: is => .cons (i * m) n a (vX m n a is)
def lU (P : Program) : Nat → TypeId → Option EqT
 | 0,_ => none
 | d + 1,t => match P.underlying t with
  | some .bool => some (.sc 0)
  | some (.int _) => some (.sc 1)
  | some .string => some (.sc 2)
  | some (.struct fs) => if P.stoodInHeld t then none else yV P (lU P d) fs.toList
  | some (.array len e) => if 64 < len then none else do
   let n ← lP P e
   let a ← lU P d e
   let i ← P.info? e
   pure (vX i.size n a (List.range len))
  | _ => none
def nA (P : Program) (type : TypeId) : Op → Option AOp
 | .move x | .assign x => (aV x).map .mov
 | .pick c a b => do pure (.pick (← aV c) (← aV a) (← aV b))
 | .alloc t => do
  let z ← iQ P t
  match ← lP P t with
  | some _ => pure (.box (.con (.agg z)))
  | none => match z with
   | [x] => pure (.box (.con x))
   | _ => none
 | .box t x => (aV x).map .box
 | .build t parts => do
  let d ← P.underlying t
  match d with
  | .struct fs =>
   let z ← iQ P t
   let ps ← parts.toList.mapM fun (i,x) => do
    let f ← fs[i]?
    let j ← P.info? f.type
    pure (f.offset,j.size,← aV x)
   if fs.all fun f => (P.info? f.type).isSome then pure (.build z ps) else none
  | .array _ e =>
   let z ← iQ P t
   let j ← P.info? e
   let ps ← parts.toList.mapM fun (i,x) => do pure (i * j.size,j.size,← aV x)
   pure (.build z ps)
  | _ => none
 | .buildSlice t len parts => do
  let e ← rY P t
  let i ← P.info? e
  let z ← iQ P e
  let g ← lP P e
  let ps ← parts.toList.mapM fun (i,x) => do pure (i,← aV x)
  if 0 < i.size && decide (len * i.size ≤ 2 ^ 24) then pure (.bsl i.size g.isSome z len ps) else none
 | .load t a => do pure (.load (← lP P t) (← aV a))
 | .store t a v => do pure (.store (← P.info? t).size (← aV a) (← aV v))
 | .nilCheck x => (aV x).map .nilck
 | .binOp op t x y _ => do
  let x ← aV x
  let y ← aV y
  match isEq op,P.underlying t with
  | some n,some (.slice _) => some (.eqn n 0 x y)
  | some n,some (.pointer _) => some (.eqn n 1 x y)
  | some n,some (.func _ _ _) => some (.eqn n 2 x y)
  | some n,some (.struct _) => if P.eqGuardType P.depth t then none else (lU P 8 t).map fun T => .eqs n T x y
  | some n,some (.array _ _) => if P.eqGuardType P.depth t then none else (lU P 8 t).map fun T => .eqs n T x y
  | some n,some .bool => some (.eqs n (.sc 0) x y)
  | _,_ => some (.bin op x y)
 | .unOp op _ x => do pure (.un op (← aV x))
 | .convert src dst x => do
  let _ ← P.underlying src
  let .int k ← P.underlying dst | none
  pure (.conv k (← aV x))
 | .makeFunc (.func f) first caps => do pure (.mkfn f (← kH first) (← kH caps))
 | .makeSlice t l c => do
  let e ← rY P t
  let i ← P.info? e
  let z ← iQ P e
  let g ← lP P e
  if 0 < i.size then pure (.mksl i.size g.isSome z i.bytes (← aV l) (← aV c)) else none
 | .slice t x lo hi none => do
  match P.underlying t with
  | some .string => pure (.slc true 1 (← aV x) (← fQ lo) (← fQ hi))
  | some (.slice e) => do
   let i ← P.info? e
   pure (.slc false i.size (← aV x) (← fQ lo) (← fQ hi))
  | some (.array n e) => match lo,hi with
   | none,none => do
    let i ← P.info? e
    pure (.sla n i.size (← aV x))
   | none,some h => do
    let i ← P.info? e
    pure (.slb n i.size (← aV x) (← aV h))
   | _,_ => none
  | _ => none
 | .fieldAddr t x f => do
  let f ← rW P t f
  let i ← P.info? f.type
  if i.size = 0 then none else pure (.faddr (← aV x) f.offset)
 | .field t x f => do
  let f ← rW P t f
  pure (.fld (← aV x) f.offset (← lP P f.type))
 | .indexAddr t x i => do
  match P.underlying t with
  | some (.slice e) => do pure (.iaddr (← aV x) (← aV i) (← P.info? e).size none)
  | some (.array n e) => do pure (.iaddr (← aV x) (← aV i) (← P.info? e).size (some n))
  | _ => none
 | .index t x i => do
  match P.underlying t with
  | some .string => pure (.idx (← aV x) (← aV i))
  | some (.array n e) => do pure (.aidx (← aV x) (← aV i) n (← P.info? e).size (← lP P e))
  | _ => none
 | .extract t i => do pure (.ext (← aV t) i)
 | .call { callee:=.value f,args,.. } => do pure (.call (← aV f) (← kH args))
 | .call { callee:=.builtin .append,args,argTypes } =>
  match args.toList,argTypes.toList with
  | [s,x],[t,u] => do
   let e ← rY P t
   let i ← P.info? e
   let z ← iQ P e
   if t = u && 0 < i.size then pure (.app (← aV s) (← aV x) i.size i.bytes z) else none
  | _,_ => none
 | .call { callee:=.builtin .len,args,argTypes } =>
  match args.toList,argTypes.toList with
  | [x],[t] => do
   match P.underlying t with
   | some .string => pure (.len true (← aV x))
   | some (.slice _) => pure (.len false (← aV x))
   | _ => none
  | _,_ => none
 | .call { callee:=.builtin .min,args,.. } =>
  match args.toList with
  | [x,y] => do pure (.mn (← aV x) (← aV y))
  | _ => none
 | .call { callee:=.builtin .max,args,.. } =>
  match args.toList with
  | [x,y] => do pure (.mx (← aV x) (← aV y))
  | _ => none
 | .call { callee:=.builtin .copy,args,argTypes } =>
  match args.toList,argTypes.toList with
  | [x,y],[t,u] => do
   let e ← rY P t
   let i ← P.info? e
   if t = u && i.size = 1 then pure (.cpy i.size (← aV x) (← aV y)) else none
  | _,_ => none
 | _ => none
inductive Res where
 | val (v : AV)
 | box (cs : List AV)
 | mbox (cs : List AV) (n s : Nat)
 | lit (s : Nat) (els : List AV)
 | put (b : Nat) (cs : List AV)
 | app (s : Nat) (t : Option Nat) (els news : List AV)
 | call (f : FuncId) (args : List AV)
def AV.scalar : AV → Bool
 | .agg _ | .tup _ | .junk => false
 | _ => true
def AV.okCells (x : AV) : Bool:=x.cells.all AV.scalar && (match x with | .tup _ | .junk => false | _ => true)
def evd (a : List AV) : AOpd → AV
 | .tmp t => a.getD t .junk
 | .con x => x
def cmpI (op : BinOp) (x y : Int) : Option Bool :=
 match op with
 | .eql => some (x == y)
 | .neq => some (x != y)
 | .lss => some (decide (x < y))
 | .leq => some (decide (x ≤ y))
 | .gtr => some (decide (x > y))
 | .geq => some (decide (x ≥ y))
 | _ => none
def binA (op : BinOp) : AV → AV → Option AV
 | .int k x,.int k' y =>
  match op with
  | .shl => if y < 0 then none else some (.int k (k.wrap (x * 2 ^ (min y.toNat k.bits))))
  | .shr => if y < 0 then none else some (.int k (x.fdiv (2 ^ (min y.toNat k.bits))))
  | _ => if k ≠ k' then none else
   match op with
   | .add => some (.int k (k.wrap (x + y)))
   | .sub => some (.int k (k.wrap (x - y)))
   | .mul => some (.int k (k.wrap (x * y)))
   | .quo => if y = 0 then none else some (.int k (k.wrap (x.tdiv y)))
   | .rem => if y = 0 then none else some (.int k (x.tmod y))
   | .and => some (.int k (k.wrap (BitVec.ofInt k.bits x &&& BitVec.ofInt k.bits y).toNat))
   | .or => some (.int k (k.wrap (BitVec.ofInt k.bits x ||| BitVec.ofInt k.bits y).toNat))
   | .xor => some (.int k (k.wrap (BitVec.ofInt k.bits x ^^^ BitVec.ofInt k.bits y).toNat))
   | _ => (cmpI op x y).map .bool
 | .str x,.str y =>
  match op with
  | .add => if ((x.size + y.size : Nat) : Int) > IntKind.i64.max then none else some (.str (x ++ y))
  | .eql => some (.bool (x.toList == y.toList))
  | .neq => some (.bool !(x.toList == y.toList))
  | .lss => some (.bool (Op.bytesLess x.toList y.toList))
  | _ => none
 | _,_ => none
def hH (cs : List AV) (off : Nat) : List AV → List AV
 | [] => cs
 | x :: l => hH (cs.set off x) (off + 1) l
def qF (a : AOpd → AV) (cs : List AV) : List (Nat × Nat × AOpd) → Option (List AV)
 | [] => some cs
 | (off,s,x) :: l =>
  let v:=a x
  if v.okCells && decide (v.cells.length = s ∧ off + s ≤ cs.length) then qF a (hH cs off v.cells) l else none
def bN (cs : List AV) (o : Nat) : Option Nat → Option AV
 | none => cs[o]?
 | some n => if o + n ≤ cs.length then some (.agg ((cs.drop o).take n)) else none
def chunk (ag : Bool) (s : Nat) : Nat → List AV → List AV
 | 0,_ => []
 | n + 1,cs => (if ag then .agg (cs.take s) else cs.headD .junk) :: chunk ag s n (cs.drop s)
def rep (z : List AV) : Nat → List AV
 | 0 => []
 | n + 1 => z ++ rep z n
def tF : AV → Option (List AV)
 | .sl els _ => some els
 | .nils => some []
 | _ => none
def aAk : AOpd → AOpd → Bool
 | .tmp i,.tmp j => Nat.beq i j
 | _,_ => false
def aAQ : Nat → AV → Option Bool
 | 0,.nils => some true
 | 0,.sl (_ :: _) _ => some false
 | 0,.ms _ (_ + 1) _ => some false
 | 1,.nilp => some true
 | 1,.ptr _ _ => some false
 | 1,.rop _ => some false
 | 2,.nilf => some true
 | 2,.fn _ _ _ => some false
 | _,_ => none
def eqSc : Nat → AV → AV → Option Bool
 | 0,.bool a,.bool b => some (a == b)
 | 1,.int k a,.int k' b => if k = k' then some (a == b) else none
 | 2,.str a,.str b => some (a.toList == b.toList)
 | _,_,_ => none
def eqT : EqT → AV → AV → Option Bool
 | .sc c,x,y => eqSc c x y
 | .nil,.agg _,.agg _ => some true
 | .cons off n h t,.agg xs,.agg ys =>
  match bN xs off n,bN ys off n with
  | some x,some y => match eqT h x y,eqT t (.agg xs) (.agg ys) with
   | some p,some q => some (p && q)
   | _,_ => none
  | _,_ => none
 | _,_,_ => none
def aop (op : AOp) (a : AOpd → AV) (S : St) : Option Res :=
 match op with
 | .eqn n k x y => match aAQ k (a x),aAQ k (a y) with
  | some p,some q => if p || q then some (.val (.bool (if n then !(p && q) else p && q))) else none
  | _,_ => none
 | .eqs n T x y => (eqT T (a x) (a y)).map fun b => .val (.bool (if n then !b else b))
 | .mov x => some (.val (a x))
 | .pick c x y => match a c with
  | .bool b => some (.val (if b then a x else a y))
  | _ => none
 | .box x => match a x with
  | .junk => none
  | v => some (.box v.cells)
 | .build z ps => (qF a z ps).map fun cs => .val (.agg cs)
 | .bsl s ag z len ps => (qF a (rep z len) (ps.map fun (i,x) => (i * s,s,x))).bind fun cs => if ag = true ∨ (s = 1 ∧ cs.all AV.scalar = true) then some (.lit s (chunk ag s len cs)) else none
 | .load n x => match a x with
  | .rop cs => (bN cs 0 n).map .val
  | .ptr b o => (S.bx[b]?).bind fun cs => (bN cs o n).map .val
  | _ => none
 | .store n x y => match a x with
  | .ptr b o =>
   let v:=a y
   (S.bx[b]?).bind fun cs => if v.okCells && decide (v.cells.length = n ∧ 0 < n ∧ o + n ≤ cs.length) then some (.put b (hH cs o v.cells)) else none
  | _ => none
 | .nilck x => match a x with
  | .ptr b o => some (.val (.ptr b o))
  | .rop cs => some (.val (.rop cs))
  | .fn f ps caps => some (.val (.fn f ps caps))
  | _ => none
 | .bin op x y => (binA op (a x) (a y)).map .val
 | .un op x => match op,a x with
  | .neg,.int k n => some (.val (.int k (k.wrap (0 - n))))
  | .not,.bool b => some (.val (.bool !b))
  | _,_ => none
 | .conv k x => match a x with
  | .int _ n => some (.val (.int k (k.wrap n)))
  | _ => none
 | .mkfn f ps caps => some (.val (.fn f (ps.map a) (caps.map a)))
 | .mksl s ag z by_ l c => match a l,a c with
  | .int _ n,.int _ m => if 0 ≤ n ∧ n ≤ m ∧ m ≤ 65536 ∧ by_ ≤ 65536 then
    (if n = 0 ∧ aAk l c = false then some (.lit s []) else some (.mbox (rep z m.toNat) n.toNat s)) else none
  | _,_ => none
 | .slc true _ x lo hi => match a x with
  | .str b =>
   match (match lo with | none => some 0 | some l => match a l with | .int _ n => if 0 ≤ n then some n.toNat else none | _ => none),
    (match hi with | none => some b.size | some h => match a h with | .int _ n => if 0 ≤ n then some n.toNat else none | _ => none) with
   | some l,some h => if l ≤ h ∧ h ≤ b.size then some (.val (.str (b.extract l h))) else none
   | _,_ => none
  | _ => none
 | .slc false s x lo hi => match a x with
  | .sl els _ =>
   match (match lo with | none => some 0 | some l => match a l with | .int _ n => if 0 ≤ n then some n.toNat else none | _ => none),
    (match hi with | none => some els.length | some h => match a h with | .int _ n => if 0 ≤ n then some n.toNat else none | _ => none) with
   | some l,some h => if l ≤ h ∧ h ≤ els.length ∧ els.all (fun e => decide (e.cells.length = s)) then some (.val (.sl ((els.take h).drop l) none)) else none
   | _,_ => none
  | _ => none
 | .faddr x off => match a x with
  | .ptr b o => some (.val (.ptr b (o + off)))
  | .rop cs => if off ≤ cs.length then some (.val (.rop (cs.drop off))) else none
  | _ => none
 | .fld x off n => match a x with
  | .agg cs => (bN cs off n).map .val
  | _ => none
 | .iaddr x i s none => match a x,a i with
  | .sl els _,.int _ n => if 0 ≤ n ∧ n < els.length then
    (els[n.toNat]?).bind fun e => if e.cells.length = s then some (.val (.rop e.cells)) else none else none
  | .ms b m s',.int _ n => if 0 ≤ n ∧ n < m ∧ s = s' then some (.val (.ptr b (n.toNat * s))) else none
  | .mg b m s',.int _ n => if 0 ≤ n ∧ n < m ∧ s = s' then some (.val (.ptr b (n.toNat * s))) else none
  | _,_ => none
 | .iaddr x i s (some m) => match a x,a i with
  | .ptr b o,.int _ n => if 0 ≤ n ∧ n < m then some (.val (.ptr b (o + n.toNat * s))) else none
  | .rop cs,.int _ n => if 0 ≤ n ∧ n < m ∧ n.toNat * s ≤ cs.length then some (.val (.rop ((cs.drop (n.toNat * s)).take s))) else none
  | _,_ => none
 | .idx x i => match a x,a i with
  | .str b,.int _ n => if 0 ≤ n then (b[n.toNat]?).map fun c => .val (.int .u8 c.toNat) else none
  | _,_ => none
 | .aidx x i m s n => match a x,a i with
  | .agg cs,.int _ j => if 0 ≤ j ∧ j < m then (bN cs (j.toNat * s) n).map .val else none
  | _,_ => none
 | .ext x i => match a x with
  | .tup vs => (vs[i]?).map .val
  | _ => none
 | .call f args => match a f with
  | .fn g ps caps => some (.call g (ps ++ args.map a ++ caps))
  | _ => none
 | .app s x es by_ z =>
  match tF (a x) with
  | none => none
  | some news =>
   if news.all (fun e => decide (e.cells.length = es) && e.okCells) && decide (by_ ≤ 65536) then
    match a s with
    | .nils => if news.length ≤ 65536 then (if news.length = 0 then some (.val .nils) else some (.app es none [] (news.map AV.plain))) else none
    | .sl els (some t) => if S.lv[t]? = some (els.length,es) ∧ els.length + news.length ≤ 65536 ∧ els.all (fun e => decide (e.cells.length = es)) then
      (if news.length = 0 then some (.val (.sl els (some t))) else some (.app es (some t) els (news.map AV.plain))) else none
    | _ => none
   else none
 | .len true x => match a x with
  | .str b => some (.val (.int .i64 b.size))
  | _ => none
 | .len false x => match a x with
  | .sl els _ => some (.val (.int .i64 els.length))
  | .nils => some (.val (.int .i64 0))
  | .ms _ n _ => some (.val (.int .i64 n))
  | .mg _ n _ => some (.val (.int .i64 n))
  | _ => none
 | .mn x y => match a x,a y with
  | .int k m,.int _ n => some (.val (.int k (if n < m then n else m)))
  | _,_ => none
 | .mx x y => match a x,a y with
  | .int k m,.int _ n => some (.val (.int k (if n > m then n else m)))
  | _,_ => none
 | .sla n s x => match a x with
  | .ptr b o => if o = 0 then some (.val (.ms b n s)) else none
  | _ => none
 | .cpy _ _ _ => none
 | .slb n s x hi => match a x,a hi with
  | .ptr b o,.int _ m => if o = 0 ∧ 0 ≤ m ∧ m ≤ n then some (.val (.ms b m.toNat s)) else none
  | _,_ => none
end
section
open Go.RowKit
def dR (G : Gh) (a : AOpd → AV) (ρ : Operand → Value) : Prop:=∀ x y,aV x = some y → VR G (a y) (ρ x)
section inv
variable {G : Gh}
theorem VR.inv_int {k : IntKind} {n : Int} {u : Value} (h : VR G (.int k n) u) : u = .int k n:=by cases h; rfl
theorem VR.inv_bool {b : Bool} {u : Value} (h : VR G (.bool b) u) : u = .bool b:=by cases h; rfl
theorem VR.inv_str {b : ByteArray} {u : Value} (h : VR G (.str b) u) : u = .string b:=by cases h; rfl
theorem VR.inv_agg {cs : List AV} {u : Value} (h : VR G (.agg cs) u) : ∃ us : Array Value,u = .agg us ∧ us.size = cs.length ∧ ∀ (i : Nat) x v,cs[i]? = some x → us[i]? = some v → VR G x v:=by
 cases h with | agg _ us hl h => exact ⟨us,rfl,hl,h⟩
theorem VR.inv_tup {cs : List AV} {u : Value} (h : VR G (.tup cs) u) : ∃ us : Array Value,u = .tuple us ∧ us.size = cs.length ∧ ∀ (i : Nat) x v,cs[i]? = some x → us[i]? = some v → VR G x v:=by
 cases h with | tup _ us hl h => exact ⟨us,rfl,hl,h⟩
theorem VR.inv_ptr {b o : Nat} {u : Value} (h : VR G (.ptr b o) u) : ∃ B,G.al b = some B ∧ u = .pointer (some ⟨B,o,none⟩):=by
 cases h with | ptr _ _ B h => exact ⟨B,h,rfl⟩
theorem VR.inv_ms {b n s : Nat} {u : Value} (h : VR G (.ms b n s) u) : (∃ B c,G.al b = some B ∧ u = .slice (some ⟨B,0,none⟩) n c ∧ n ≤ c) ∨ (n = 0 ∧ ∃ A c,u = .slice A 0 c):=by
 cases h with
 | ms _ _ _ B c h hn => exact .inl ⟨B,c,h,rfl,hn⟩
 | ms0 _ _ A c => exact .inr ⟨rfl,A,c,rfl⟩
theorem VR.inv_mg {b n s : Nat} {u : Value} (h : VR G (.mg b n s) u) : (∃ B c,G.al b = some B ∧ u = .slice (some ⟨B,0,none⟩) n c ∧ n ≤ c ∧ G.sz B = some (c * s) ∧ 0 < n) ∨ (n = 0 ∧ u = .slice none 0 0):=by
 cases h with
 | mg _ _ _ B c h hn hm h0 => exact .inl ⟨B,c,h,rfl,hn,hm,h0⟩
 | mg0 _ _ => exact .inr ⟨rfl,rfl⟩
theorem VR.inv_rop {cs : List AV} {u : Value} (h : VR G (.rop cs) u) : ∃ B O,∃ us : Nat → Value,u = .pointer (some ⟨B,O,none⟩) ∧ (∀ (i : Nat) x,cs[i]? = some x → G.fz B (O + i) = some (us i)) ∧ ∀ (i : Nat) x,cs[i]? = some x → VR G x (us i):=by
 cases h with | rop _ B O us hf h => exact ⟨B,O,us,rfl,hf,h⟩
def VL (G : Gh) (xs : List AV) (us : Array Value) : Prop:=us.size = xs.length ∧ ∀ (i : Nat) x u,xs[i]? = some x → us[i]? = some u → VR G x u
theorem VL.append {G : Gh} {xs ys : List AV} {us vs : Array Value} (h : VL G xs us) (k : VL G ys vs) : VL G (xs ++ ys) (us ++ vs):=by
 refine ⟨by simp [h.1,k.1],fun i x u hx hu => ?_⟩
 rw [List.getElem?_append] at hx
 rw [Array.getElem?_append,h.1] at hu
 split at hx
 ·rename_i hlt
  rw [if_pos hlt] at hu
  exact h.2 i x u hx hu
 ·rename_i hlt
  rw [if_neg hlt] at hu
  exact k.2 _ x u hx hu
theorem VR.inv_fn {f : FuncId} {ps cs : List AV} {u : Value} (h : VR G (.fn f ps cs) u) : ∃ vs us : Array Value,u = .func (.func f) vs us ∧ VL G ps vs ∧ VL G cs us:=by
 cases h with | fn _ _ _ vs us hlp hp hl h => exact ⟨vs,us,rfl,⟨hlp,hp⟩,⟨hl,h⟩⟩
theorem VR.inv_nils {u : Value} (h : VR G .nils u) : u = .slice none 0 0:=by cases h; rfl
theorem VR.inv_sl {els : List AV} {t : Option Nat} {u : Value} (h : VR G (.sl els t) u) : ∃ A c, u = .slice A els.length c ∧ (els ≠ [] → ∃ s B O, ∃ us : Nat → Value, A = some ⟨B, O, none⟩ ∧ els.length ≤ c ∧ (∀ (i : Nat) e, els[i]? = some e → e.cells.length = s) ∧
   (∀ (i : Nat) e (j : Nat) x,els[i]? = some e → e.cells[j]? = some x → G.fz B (O + (i * s + j)) = some (us (i * s + j))) ∧
   (∀ (i : Nat) e (j : Nat) x, els[i]? = some e → e.cells[j]? = some x → VR G x (us (i * s + j)))) := by
 cases h with
 | sl0 A c => exact ⟨A,c,rfl,fun h => absurd rfl h⟩
 | sl _ s B O c us hn hs hf h => exact ⟨_,c,rfl,fun _ => ⟨s,B,O,us,rfl,hn,hs,hf,h⟩⟩
 | slt _ t s B c us hb hn hs hf h => exact ⟨_,c,rfl,fun _ => ⟨s,B,0,us,rfl,hn,hs,fun i e j x h1 h2 => by rw [Nat.zero_add]; exact hf i e j x h1 h2,h⟩⟩
 | slt0 t hb => exact ⟨none,0,rfl,fun h => absurd rfl h⟩
end inv
theorem yD {G : Gh} {v : Value} {x : AV} (h : AV.ofS v = some x) : VR G x v:=by
 unfold AV.ofS at h
 split at h <;> first | (cases h; constructor) | cases h
theorem bU {α β : Type} {f : α → Option β} : ∀ {l : List α} {m : List β},l.mapM f = some m → m.length = l.length ∧ ∀ (i : Nat) y,m[i]? = some y → ∃ x,l[i]? = some x ∧ f x = some y
 | [],m,h => by simp at h; subst h; exact ⟨rfl,fun i y h => by simp at h⟩
 | a :: l,m,h => by
  rw [List.mapM_cons] at h
  cases ha : f a with
  | none => rw [ha] at h; cases h
  | some b =>
   rw [ha] at h
   cases hl : l.mapM f with
   | none => rw [hl] at h; cases h
   | some k =>
    rw [hl] at h
    cases h
    obtain ⟨h1,h2⟩:=bU hl
    refine ⟨by simp [h1],fun i y hi => ?_⟩
    cases i with
    | zero => simp at hi; subst hi; exact ⟨a,rfl,ha⟩
    | succ i => exact h2 i y hi
theorem aEo {v : Value} {x : AV} (h : AV.ofS v = some x) : x.cells = [x] ∧ v.cells = #[v]:=by
 unfold AV.ofS at h
 split at h <;> first | (cases h; exact ⟨rfl,rfl⟩) | cases h
theorem aHi {G : Gh} {v : Value} {x : AV} (h : AV.ofV v = some x) : VR G x v:=by
 unfold AV.ofV at h
 split at h
 ·rename_i cs
  cases hm : cs.toList.mapM AV.ofS with
  | none => rw [hm] at h; cases h
  | some m =>
   rw [hm] at h; cases h
   obtain ⟨h1,h2⟩:=bU hm
   refine .agg _ _ (by simp [h1]) fun i x u hx hu => ?_
   obtain ⟨y,hy,hf⟩:=h2 i x hx
   rw [Array.getElem?_toList,hu] at hy
   cases hy
   exact yD hf
 ·rename_i cs
  cases hm : cs.toList.mapM AV.ofS with
  | none => rw [hm] at h; cases h
  | some m =>
   rw [hm] at h; cases h
   obtain ⟨h1,h2⟩:=bU hm
   refine .tup _ _ (by simp [h1]) fun i x u hx hu => ?_
   obtain ⟨y,hy,hf⟩:=h2 i x hx
   rw [Array.getElem?_toList,hu] at hy
   cases hy
   exact yD hf
 ·exact yD h
structure Rel (G : Gh) (a : List AV) (act : Act) : Prop where
 size : act.tmps.size = a.length
 slot : ∀ (i : Nat) x u,a[i]? = some x → act.tmps[i]? = some u → VR G x u
theorem Rel.opd {G : Gh} {a : List AV} {act : Act} (h : Rel G a act) (hgl : GL G) : dR G (evd a) act.eval:=by
 intro x y hxy
 cases x with
 | tmp t =>
  cases hxy
  show VR G (a.getD t .junk) (act.tmps.getD t undef)
  by_cases ht : t < a.length
  ·have ht' : t < act.tmps.size := by rw [h.size]; exact ht
   have e1 : a[t]? = some a[t]:=List.getElem?_eq_getElem ht
   have e2 : act.tmps[t]? = some act.tmps[t]:=Array.getElem?_eq_getElem ht'
   have:=h.slot t _ _ e1 e2
   simpa [List.getD,Array.getD,ht',e1] using this
  ·have e1 : a[t]? = none:=List.getElem?_eq_none (Nat.le_of_not_lt ht)
   simp only [List.getD,e1]
   exact .junk _
 | const v =>
  simp only [aV] at hxy
  cases hv : AV.ofV v with
  | none => rw [hv] at hxy; cases hxy
  | some z => rw [hv] at hxy; cases hxy; exact aHi hv
 | func f => cases hxy; exact .fn f [] [] #[] #[] rfl (fun i x u h => by simp at h) rfl (fun i x u h => by simp at h)
 | global g =>
  simp only [aV] at hxy
  split at hxy
  ·cases hxy
  ·rename_i vs _ 
   cases hm : (gtab g).mapM AV.ofS with
   | none => rw [hm] at hxy; cases hxy
   | some cs =>
    rw [hm] at hxy; cases hxy
    obtain ⟨h1,h2⟩:=bU hm
    refine .rop cs g 0 (fun i => ((gtab g)[i]?).getD undef) (fun i x hx => ?_) (fun i x hx => ?_)
    ·obtain ⟨v,hv,_⟩:=h2 i x hx
     rw [Nat.zero_add,hgl g i v (by unfold gcell; exact hv),hv]; rfl
    ·obtain ⟨v,hv,hs⟩:=h2 i x hx
     rw [hv]; exact yD hs
theorem Rel.mono {G G' : Gh} {a : List AV} {act : Act} (h : Rel G a act) (hg : G.le G') : Rel G' a act :=
 ⟨h.size,fun i x u h1 h2 => (h.slot i x u h1 h2).mono hg⟩
def putA (a : List AV) : Option Nat → AV → List AV
 | none,_ => a
 | some d,v => a.set d v
theorem Rel.put {G : Gh} {a : List AV} {act : Act} (h : Rel G a act) (d : Option Nat) {v : AV} {u : Value} (hv : VR G v u) : Rel G (putA a d v) (act.put d u):=by
 cases d with
 | none => exact h
 | some d =>
  refine ⟨by simp [putA,Act.put,h.size],fun i x y h1 h2 => ?_⟩
  simp only [putA] at h1
  simp only [Act.put] at h2
  by_cases hd : d = i
  ·subst hd
   rw [List.getElem?_set] at h1
   rw [Array.getElem?_setIfInBounds] at h2
   simp only [if_true] at h1 h2
   split at h1
   ·split at h2
    ·cases h1; cases h2; exact hv
    ·cases h2
   ·cases h1
  ·rw [List.getElem?_set_ne hd] at h1
   rw [Array.getElem?_setIfInBounds_ne hd] at h2
   exact h.slot i x y h1 h2
def fT (P : Program) (G : Gh) (w : World) (o : Oper) (ρ : Operand → Value) (v : AV) : Prop:=∃ u,(execOp ρ o).run P w = .ok (.value u) w ∧ VR G v u
section ops
variable {P : Program} {G : Gh} {w : World} {o : Oper} {ρ : Operand → Value} {a : AOpd → AV} {S : St}
theorem aEZ {x : Operand} {y : AOpd} (ho : o.op = .move x ∨ o.op = .assign x) (hy : aV x = some y) (h : dR G a ρ) : fT P G w o ρ (a y):=by
 refine ⟨ρ x,?_,h x y hy⟩
 rcases ho with ho | ho <;> simp [execOp,ho]
theorem aGb {c x y : Operand} {c' x' y' : AOpd} {b : Bool} (ho : o.op = .pick c x y) (hc : aV c = some c') (hx : aV x = some x') (hy : aV y = some y') (h : dR G a ρ) (hb : a c' = .bool b) : fT P G w o ρ (if b then a x' else a y'):=by
 have e:=(hb ▸ h c c' hc).inv_bool
 refine ⟨if b then ρ x else ρ y,?_,?_⟩
 ·simp [execOp,ho,e,asBool]
 ·cases b
  ·exact h y y' hy
  ·exact h x x' hx
theorem VL.opds {cs : List AOpd} {caps : Array Operand} (hc : kH caps = some cs) (h : dR G a ρ) : VL G (cs.map a) (caps.map ρ):=by
 obtain ⟨h1,h2⟩:=bU hc
 refine ⟨by simp [h1],fun i x u hx hu => ?_⟩
 simp only [List.getElem?_map,Array.getElem?_map,Option.map_eq_some_iff] at hx hu
 obtain ⟨y,hy,rfl⟩:=hx
 obtain ⟨z,hz,rfl⟩:=hu
 obtain ⟨z',hz',hf⟩:=h2 i y hy
 rw [Array.getElem?_toList,hz] at hz'
 cases hz'
 exact h _ _ hf
theorem aGe {f : FuncId} {first caps : Array Operand} {ps cs : List AOpd} (ho : o.op = .makeFunc (.func f) first caps) (hp : kH first = some ps) (hc : kH caps = some cs) (h : dR G a ρ) : fT P G w o ρ (.fn f (ps.map a) (cs.map a)):=by
 have h1:=VL.opds hp h
 have h2:=VL.opds hc h
 exact ⟨.func (.func f) (first.map ρ) (caps.map ρ),by simp [execOp,ho,Instr.makeFunc],.fn _ _ _ _ _ h1.1 h1.2 h2.1 h2.2⟩
theorem aHv {t : Operand} {t' : AOpd} {i : Nat} {vs : List AV} {v : AV} (ho : o.op = .extract t i) (ht : aV t = some t') (h : dR G a ρ) (hv : a t' = .tup vs) (hi : vs[i]? = some v) : fT P G w o ρ v:=by
 obtain ⟨us,hu,hl,hr⟩:=(hv ▸ h t t' ht).inv_tup
 have hlt : i < us.size:=by rw [hl]; exact (List.getElem?_eq_some_iff.1 hi).1
 have hui : us[i]? = some us[i]:=Array.getElem?_eq_getElem hlt
 exact ⟨us[i],by simp [execOp,ho,Instr.extract,hu,hlt],hr i v _ hi hui⟩
theorem aGt {src dst : TypeId} {d : TypeDesc} {k k' : IntKind} {n : Int} {x : Operand} {x' : AOpd} (ho : o.op = .convert src dst x) (hs : P.underlying src = some d) (hd : P.underlying dst = some (.int k)) (hx : aV x = some x') (h : dR G a ρ) (hv : a x' = .int k' n) : fT P G w o ρ (.int k (k.wrap n)):=by
 have e:=(hv ▸ h x x' hx).inv_int
 exact ⟨.int k (k.wrap n),by simp [execOp,ho,convert,run_underlying hs,run_underlying hd,e,Conv.intToInt],.int _ _⟩
theorem aHG {op : UnOp} {t : TypeId} {x : Operand} {x' : AOpd} {v : AV} (ho : o.op = .unOp op t x) (hx : aV x = some x') (h : dR G a ρ) (hv : aop (.un op x') a S = some (.val v)) : fT P G w o ρ v:=by
 have hr:=h x x' hx
 simp only [aop] at hv
 split at hv
 ·rename_i k n e
  cases hv
  rw [e] at hr
  exact ⟨_,by simp [execOp,ho,Op.unary,hr.inv_int,Op.intArith],.int _ _⟩
 ·rename_i b e
  cases hv
  rw [e] at hr
  exact ⟨_,by simp [execOp,ho,Op.unary,hr.inv_bool],.bool _⟩
 ·cases hv
theorem aGv {op : BinOp} {x y : Int} {b : Bool} (h : cmpI op x y = some b) : Op.intCmp op x y = pure (.bool b):=by
 cases op <;> simp only [cmpI,Option.some.injEq,reduceCtorEq] at h <;> first | (subst h; rfl) | cases h
theorem aGy {op : BinOp} {x y : AV} {v : AV} {t : TypeId} {u1 u2 : Value} (h : binA op x y = some v) (h1 : VR G x u1) (h2 : VR G y u2) : ∃ u,(binOp op t u1 u2).run P w = .ok u w ∧ VR G v u ∧ (∀ X Y : Operand,(eqGuard op t X Y u1 u2).run P w = .ok () w):=by
 unfold binA at h
 split at h
 ·rename_i k x k' y
  cases h1.inv_int; cases h2.inv_int
  have hg : ∀ X Y : Operand,(eqGuard op t X Y (.int k x) (.int k' y)).run P w = .ok () w:=by
   intro X Y
   unfold eqGuard
   split <;> simp
  split at h
  ·split at h
   ·cases h
   ·rename_i hy; cases h
    exact ⟨_,by simp [binOp,Op.shift,hy],.int _ _,hg⟩
  ·split at h
   ·cases h
   ·rename_i hy; cases h
    exact ⟨_,by simp [binOp,Op.shift,hy],.int _ _,hg⟩
  ·rename_i ns1 ns2
   split at h
   ·cases h
   ·rename_i hk
    have hk : k = k':=Classical.not_not.1 hk
    subst hk
    cases op <;> simp only [Option.map_eq_some_iff] at h <;>
     first
     | exact absurd rfl ns1
     | exact absurd rfl ns2
     | (cases h; exact ⟨_,by simp only [binOp,ne_eq,not_true,if_false,Op.intArith]; rfl,.int _ _,hg⟩)
     | (cases h; exact ⟨_,by simp only [binOp,ne_eq,not_true,if_false,Op.intBits]; rfl,.int _ _,hg⟩)
     | (split at h
        ·cases h
        ·rename_i hy; cases h; exact ⟨_, by simp [binOp, Op.intDiv, hy], .int _ _, hg⟩)
     | (obtain ⟨b,hb,rfl⟩:=h; simp [cmpI] at hb; done)
     | (obtain ⟨b, hb, rfl⟩ := h
        have hc:=aGv hb
        exact ⟨_, by simp [binOp, hc], .bool _, hg⟩)
 ·rename_i x y
  cases h1.inv_str; cases h2.inv_str
  have hg : ∀ X Y : Operand,(eqGuard op t X Y (.string x) (.string y)).run P w = .ok () w:=by
   intro X Y
   unfold eqGuard
   split <;> simp
  split at h
  ·split at h
   ·cases h
   ·rename_i hy; cases h; exact ⟨_,by simp only [binOp,Op.stringOp,hy]; simp,.str _,hg⟩
  ·cases h; exact ⟨_,by simp [binOp,Op.stringOp],.bool _,hg⟩
  ·cases h; exact ⟨_,by simp [binOp,Op.stringOp],.bool _,hg⟩
  ·cases h; exact ⟨_,by simp [binOp,Op.stringOp],.bool _,hg⟩
  ·cases h
 ·cases h
theorem aHC {op : BinOp} {t t2 : TypeId} {x y : Operand} {x' y' : AOpd} {v : AV} (ho : o.op = .binOp op t x y t2) (hx : aV x = some x') (hy : aV y = some y') (h : dR G a ρ) (hv : binA op (a x') (a y') = some v) : fT P G w o ρ v:=by
 obtain ⟨u,h1,h2,h3⟩:=aGy (P:=P) (w:=w) (t:=t) hv (h x x' hx) (h y y' hy)
 exact ⟨u,by simp [execOp,ho,h3,h1],h2⟩
end ops
end
section
open Go.RowKit
theorem VR.cells {G : Gh} {x : AV} {u : Value} (h : VR G x u) (hj : x ≠ .junk) : u.cells.size = x.cells.length ∧ ∀ (i : Nat) y v,x.cells[i]? = some y → u.cells[i]? = some v → VR G y v:=by
 have one : ∀ (x : AV) (u : Value),VR G x u → x.cells = [x] → u.cells = #[u] → u.cells.size = x.cells.length ∧ ∀ (i : Nat) y v,x.cells[i]? = some y → u.cells[i]? = some v → VR G y v:=by
  intro x u h h1 h2
  rw [h1,h2]
  refine ⟨rfl,fun i y v hy hv => ?_⟩
  cases i with
  | zero => simp at hy hv; subst hy hv; exact h
  | succ i => simp at hy
 cases h with
 | agg cs us hl h => exact ⟨hl,h⟩
 | junk u => exact absurd rfl hj
 | int k n => exact one _ _ (.int k n) rfl rfl
 | bool b => exact one _ _ (.bool b) rfl rfl
 | str s => exact one _ _ (.str s) rfl rfl
 | tup cs us hl h => exact one _ _ (.tup cs us hl h) rfl rfl
 | nilp => exact one _ _ .nilp rfl rfl
 | ptr b o B h => exact one _ _ (.ptr b o B h) rfl rfl
 | rop cs B O us hf h => exact one _ _ (.rop cs B O us hf h) rfl rfl
 | nils => exact one _ _ .nils rfl rfl
 | sl0 A c => exact one _ _ (.sl0 A c) rfl rfl
 | sl els s B O c us hn hs hf h => exact one _ _ (.sl els s B O c us hn hs hf h) rfl rfl
 | slt els t s B c us hb hn hs hf h => exact one _ _ (.slt els t s B c us hb hn hs hf h) rfl rfl
 | slt0 t hb => exact one _ _ (.slt0 t hb) rfl rfl
 | ms b n s B c h hn => exact one _ _ (.ms b n s B c h hn) rfl rfl
 | ms0 b s A c => exact one _ _ (.ms0 b s A c) rfl rfl
 | mg b n s B c h hn hm h0 => exact one _ _ (.mg b n s B c h hn hm h0) rfl rfl
 | mg0 b s => exact one _ _ (.mg0 b s) rfl rfl
 | fn f ps cs vs us hlp hp hl h => exact one _ _ (.fn f ps cs vs us hlp hp hl h) rfl rfl
 | nilf => exact one _ _ .nilf rfl rfl
 | yld l t => exact one _ _ (.yld l t) rfl rfl
theorem VR.scalar {G : Gh} {x : AV} {u : Value} (h : VR G x u) (hs : x.scalar = true) : u.oneCell' = true:=by
 cases h <;> first | rfl | simp [AV.scalar] at hs
theorem wP {x : AV} (h : x.okCells = true) : x ≠ .junk ∧ ∀ y ∈ x.cells,y.scalar = true:=by
 unfold AV.okCells at h
 simp only [Bool.and_eq_true,List.all_eq_true] at h
 refine ⟨?_,h.1⟩
 rintro rfl
 simp at h
theorem VR.okCells {G : Gh} {x : AV} {u : Value} (h : VR G x u) (hk : x.okCells = true) : u.cells.size = x.cells.length ∧ (∀ (i : Nat) y v,x.cells[i]? = some y → u.cells[i]? = some v → VR G y v) ∧ ∀ v ∈ u.cells.toList,v.oneCell' = true:=by
 obtain ⟨h1,h2⟩:=wP hk
 obtain ⟨h3,h4⟩:=h.cells h1
 refine ⟨h3,h4,fun v hv => ?_⟩
 obtain ⟨i,hi,rfl⟩:=List.mem_iff_getElem.1 hv
 have hlt : i < u.cells.size:=by simpa using hi
 have hx : i < x.cells.length:=by omega
 exact (h4 i x.cells[i] u.cells[i] (List.getElem?_eq_getElem hx) (Array.getElem?_eq_getElem hlt)).scalar (h2 _ (List.getElem_mem hx))
section ops
variable {P : Program} {G : Gh} {w : World} {o : Oper} {ρ : Operand → Value} {a : AOpd → AV} {S : St}
def aFQ (P : Program) (G : Gh) (w : World) (o : Oper) (ρ : Operand → Value) (cs : List AV) : Prop :=
 ∃ (us : Array Value) (T : TypeId),(execOp ρ o).run P w = .ok (.value (.pointer (some ⟨w.heap.size,0,none⟩))) (w.alloc (.cells us T)) ∧ us.size = cs.length ∧ ∀ (i : Nat) x u,cs[i]? = some x → us[i]? = some u → VR G x u
theorem aHB {t : TypeId} {x : Operand} {y : AOpd} (ho : o.op = .box t x) (hy : aV x = some y) (h : dR G a ρ) (hj : a y ≠ .junk) : aFQ P G w o ρ (a y).cells:=by
 obtain ⟨h1,h2⟩:=(h x y hy).cells hj
 exact ⟨(ρ x).cells,t,by simp [execOp,ho,Instr.box,newVar,newRow],h1,h2⟩
theorem kQ {t : TypeId} {z : List AV} (h : iQ P t = some z) : ∃ i v,P.info? t = some i ∧ i.zero = some v ∧ v.cells.size = i.size ∧ z.length = i.size ∧ ∀ (G : Gh) (j : Nat) x u,z[j]? = some x → v.cells[j]? = some u → VR G x u:=by
 unfold iQ at h
 cases hi : P.info? t with
 | none => rw [hi] at h; cases h
 | some i =>
  rw [hi] at h
  simp only at h
  cases hz : i.zero with
  | none => rw [hz] at h; cases h
  | some v =>
   rw [hz] at h
   simp only at h
   split at h
   ·rename_i hs
    obtain ⟨h1,h2⟩:=bU h
    refine ⟨i,v,rfl,hz,hs,by simpa [hs] using h1,fun G j x u hx hu => ?_⟩
    obtain ⟨y,hy,hf⟩:=h2 j x hx
    rw [Array.getElem?_toList,hu] at hy
    cases hy
    exact yD hf
   ·cases h
theorem aFF {t : TypeId} {z : List AV} (ho : o.op = .alloc t) (hz : iQ P t = some z) : aFQ P G w o ρ z:=by
 obtain ⟨i,v,h1,h2,h3,h4,h5⟩:=kQ hz
 refine ⟨v.cells,t,?_,by rw [h3,h4],fun j x u => h5 G j x u⟩
 simp [execOp,ho,Instr.alloc,newVar,newRow,zeroValue,typeInfo,h1,h2]
theorem aCH {t : TypeId} {n : Option Nat} (h : lP P t = some n) (w : World) : ∃ sz,(isAgg t).run P w = .ok n.isSome w ∧ (sizeOf t).run P w = .ok sz w ∧ ∀ k,n = some k → k = sz:=by
 unfold lP at h
 split at h
 ·rename_i fs i hu hi
  cases h
  exact ⟨i.size,by simp [isAgg,run_underlying hu],by simp [sizeOf,typeInfo,hi],fun k e => by cases e; rfl⟩
 ·rename_i k e i hu hi
  cases h
  exact ⟨i.size,by simp [isAgg,run_underlying hu],by simp [sizeOf,typeInfo,hi],fun k e => by cases e; rfl⟩
 ·rename_i d i n1 n2 hu hi
  cases h
  refine ⟨i.size,?_,by simp [sizeOf,typeInfo,hi],fun k e => by cases e⟩
  simp only [isAgg,Sem.run_bind,run_underlying hu,Result.andThen_ok]
  rfl
 ·cases h
def aAG (G : Gh) (w : World) (B O : Nat) (cs : List AV) : Prop:=∀ (i : Nat) x,cs[i]? = some x → ∃ u,w.cell? ⟨B,O + i,none⟩ = some u ∧ VR G x u
theorem aAG.drop {B O : Nat} {cs : List AV} (h : aAG G w B O cs) (k : Nat) : aAG G w B (O + k) (cs.drop k):=by
 intro i x hx
 rw [List.getElem?_drop] at hx
 have:=h (k + i) x hx
 rwa [← Nat.add_assoc] at this
theorem tG {t : TypeId} {n : Option Nat} {B O o' : Nat} {cs : List AV} {v : AV} (hn : lP P t = some n) (hr : aAG G w B O cs) (hv : bN cs o' n = some v) : ∃ u,(loadVar t ⟨B,O + o',none⟩).run P w = .ok u w ∧ VR G v u:=by
 obtain ⟨sz,h1,h2,h3⟩:=aCH hn w
 cases n with
 | none =>
  obtain ⟨u,hu,hvr⟩:=hr o' v hv
  exact ⟨u,by simp [loadVar,h1,load,Sem.run,hu],hvr⟩
 | some k =>
  have:=h3 k rfl
  subst this
  simp only [bN] at hv
  split at hv
  ·rename_i hle
   cases hv
   have hex : ∀ j,j < k → ∃ u,w.cell? ⟨B,O + o' + j,none⟩ = some u ∧ VR G (cs.getD (o' + j) .junk) u:=fun j hj => by
    have hlt : o' + j < cs.length:=by omega
    obtain ⟨u,h4,h5⟩:=hr (o' + j) cs[o' + j] (List.getElem?_eq_getElem hlt)
    exact ⟨u,by rw [Nat.add_assoc]; exact h4,by simpa [List.getD,List.getElem?_eq_getElem hlt] using h5⟩
   let f : Nat → Value:=fun j => (w.cell? ⟨B,O + o' + j,none⟩).getD undef
   have hf : ∀ j,j < k → w.cell? (Addr.add ⟨B,O + o',none⟩ j) = some (f j):=fun j hj => by
    obtain ⟨u,h4,_⟩:=hex j hj
    rw [Addr.add_lit]
    simp [f,h4]
   have hl:=run_loadCells (P:=P) w ⟨B,O + o',none⟩ k f hf
   refine ⟨.agg ((List.range k).map f).toArray,by simp [loadVar,h1,h2,hl],.agg _ _ (by simp; omega) fun j x u hx hu => ?_⟩
   have hj : j < k:=by
    have:=(Array.getElem?_eq_some_iff.1 hu).1
    simpa using this
   obtain ⟨u',h4,h5⟩:=hex j hj
   rw [List.getElem?_take_of_lt hj,List.getElem?_drop] at hx
   have hu' : u = f j:=by simpa [hj] using hu.symm
   have : f j = u':=by simp [f,h4]
   rw [hu',this]
   simpa [List.getD,hx] using h5
  ·cases hv
theorem Inv.reads {b B : Nat} {cs : List AV} (hI : Inv G S w) (ha : G.al b = some B) (hb : S.bx[b]? = some cs) : aAG G w B 0 cs:=by
 intro i x hx
 obtain ⟨u,h1,h2,_⟩:=hI.cell ha hb hx
 exact ⟨u,by rw [Nat.zero_add]; exact h1,h2⟩
theorem aGh {t : TypeId} {n : Option Nat} {x : Operand} {y : AOpd} {v : AV} (ho : o.op = .load t x) (hn : lP P t = some n) (hy : aV x = some y) (h : dR G a ρ) (hI : Inv G S w) (hv : aop (.load n y) a S = some (.val v)) : fT P G w o ρ v:=by
 have hr:=h x y hy
 simp only [aop] at hv
 split at hv
 ·rename_i cs e
  rw [e] at hr
  obtain ⟨B,O,us,hu,hf,hc⟩:=hr.inv_rop
  simp only [Option.map_eq_some_iff,Res.val.injEq,exists_eq_right] at hv
  have hR : aAG G w B O cs:=fun i x hx => ⟨us i,hI.fz _ _ _ (hf i x hx),hc i x hx⟩
  obtain ⟨u,h1,h2⟩:=tG hn hR hv
  rw [Nat.add_zero] at h1
  exact ⟨u,by simp [execOp,ho,Instr.loadAt,Instr.sureAddr,hu,h1],h2⟩
 ·rename_i b o' e
  rw [e] at hr
  obtain ⟨B,hB,hu⟩:=hr.inv_ptr
  simp only [Option.bind_eq_some_iff,Option.map_eq_some_iff,Res.val.injEq,exists_eq_right] at hv
  obtain ⟨cs,hcs,hv⟩:=hv
  obtain ⟨u,h1,h2⟩:=tG hn (hI.reads hB hcs) hv
  rw [Nat.zero_add] at h1
  exact ⟨u,by simp [execOp,ho,Instr.loadAt,Instr.sureAddr,hu,h1],h2⟩
 ·cases hv
theorem aEY {x : Operand} {y : AOpd} {v : AV} (ho : o.op = .nilCheck x) (hy : aV x = some y) (h : dR G a ρ) (hv : aop (.nilck y) a S = some (.val v)) : fT P G w o ρ v:=by
 have hr:=h x y hy
 simp only [aop] at hv
 split at hv
 ·rename_i b o' e
  cases hv; rw [e] at hr
  obtain ⟨B,hB,hu⟩:=hr.inv_ptr
  exact ⟨_,by simp [execOp,ho,hu],.ptr b o' B hB⟩
 ·rename_i cs e
  cases hv; rw [e] at hr
  obtain ⟨B,O,us,hu,hf,hc⟩:=hr.inv_rop
  exact ⟨_,by simp [execOp,ho,hu],.rop cs B O us hf hc⟩
 ·rename_i f ps caps e
  cases hv; rw [e] at hr
  obtain ⟨vs,us,hu,hp,hc⟩:=hr.inv_fn
  exact ⟨_,by simp [execOp,ho,hu],.fn f ps caps vs us hp.1 hp.2 hc.1 hc.2⟩
 ·cases hv
theorem yL {t : TypeId} {f : Nat} {d : Field} (h : rW P t f = some d) : ∃ fs : Array Field,P.underlying t = some (.struct fs) ∧ fs[f]? = some d:=by
 unfold rW at h
 split at h
 ·rename_i fs hu; exact ⟨fs,hu,h⟩
 ·cases h
theorem aFr {t : TypeId} {f : Nat} {d : Field} {i : TypeInfo} {x : Operand} {y : AOpd} {v : AV} (ho : o.op = .fieldAddr t x f) (hd : rW P t f = some d) (hi : P.info? d.type = some i) (hs : i.size ≠ 0) (hy : aV x = some y) (h : dR G a ρ) (hv : aop (.faddr y d.offset) a S = some (.val v)) : fT P G w o ρ v:=by
 have hr:=h x y hy
 obtain ⟨fs,h1,h2⟩:=yL hd
 simp only [aop] at hv
 split at hv
 ·rename_i b o' e
  cases hv; rw [e] at hr
  obtain ⟨B,hB,hu⟩:=hr.inv_ptr
  exact ⟨_,by simp [execOp,ho,Instr.fieldAt,run_underlying h1,h2,Instr.sureAddr,hu,fieldPlace,sizeOf,typeInfo,hi,hs,Addr.add_lit],.ptr b _ B hB⟩
 ·rename_i cs e
  split at hv
  ·cases hv; rw [e] at hr
   obtain ⟨B,O,us,hu,hf,hc⟩:=hr.inv_rop
   refine ⟨_,by simp [execOp,ho,Instr.fieldAt,run_underlying h1,h2,Instr.sureAddr,hu,fieldPlace,sizeOf,typeInfo,hi,hs,Addr.add_lit],.rop _ B (O + d.offset) (fun j => us (d.offset + j)) (fun j x hx => ?_) (fun j x hx => ?_)⟩
   ·rw [List.getElem?_drop] at hx
    rw [Nat.add_assoc]; exact hf _ x hx
   ·rw [List.getElem?_drop] at hx
    exact hc _ x hx
  ·cases hv
 ·cases hv
theorem rT {t : TypeId} {n : Option Nat} {off : Nat} {cs : List AV} {us : Array Value} {v : AV} (hn : lP P t = some n) (hl : us.size = cs.length) (hc : ∀ (i : Nat) x u,cs[i]? = some x → us[i]? = some u → VR G x u) (hv : bN cs off n = some v) : ∃ u,(part t us off).run P w = .ok u w ∧ VR G v u:=by
 obtain ⟨sz,h1,h2,h3⟩:=aCH hn w
 cases n with
 | none =>
  simp only [bN] at hv
  have hlt : off < us.size:=by rw [hl]; exact (List.getElem?_eq_some_iff.1 hv).1
  exact ⟨us[off],by simp [part,h1,hlt],hc off v _ hv (Array.getElem?_eq_getElem hlt)⟩
 | some k =>
  have:=h3 k rfl
  subst this
  simp only [bN] at hv
  split at hv
  ·rename_i hle
   cases hv
   refine ⟨.agg (us.extract off (off + k)),by simp [part,h1,h2],.agg _ _ (by simp; omega) fun j x u hx hu => ?_⟩
   have hj : j < k:=by
    have:=(List.getElem?_eq_some_iff.1 hx).1
    simp at this; omega
   rw [List.getElem?_take_of_lt hj,List.getElem?_drop] at hx
   refine hc (off + j) x u hx ?_
   rw [Array.getElem?_extract] at hu
   split at hu
   ·exact hu
   ·cases hu
  ·cases hv
theorem aAZ {c d : Nat} {t : TypeId} {x y : AV} {u v : Value} {b : Bool} (ht : (c = 0 ∧ P.underlying t = some .bool) ∨ (c = 1 ∧ ∃ k,P.underlying t = some (.int k)) ∨ (c = 2 ∧ P.underlying t = some .string)) (hu : VR G x u) (hv : VR G y v) (h : eqSc c x y = some b) : (Op.equalIn (d + 1) t u v).run P w = .ok b w:=by
 rcases ht with ⟨rfl,ht⟩ | ⟨rfl,k0,ht⟩ | ⟨rfl,ht⟩
 ·unfold eqSc at h
  split at h <;> first
   | (cases h; rw [hu.inv_bool,hv.inv_bool]; exact run_equalIn_bool' w d t _ _ ht)
   | (exfalso; simp_all; done)
   | cases h
 ·unfold eqSc at h
  split at h <;> first
   | (split at h <;> first | (rename_i hk; subst hk; cases h; rw [hu.inv_int,hv.inv_int]; exact run_equalIn_int w d t _ _ _ _ ht) | cases h)
   | (exfalso; simp_all; done)
   | cases h
 ·unfold eqSc at h
  split at h <;> first
   | (cases h; rw [hu.inv_str,hv.inv_str]; exact run_equalIn_string w d t _ _ ht)
   | (exfalso; simp_all; done)
   | cases h
theorem yU {g : TypeId → Option EqT} {l : List Field} {T : EqT} {x y : AV} {b : Bool} (h : yV P g l = some T) (he : eqT T x y = some b) : ∃ xs ys,x = .agg xs ∧ y = .agg ys:=by
 cases l with
 | nil =>
  cases h
  cases x <;> cases y <;> simp only [eqT,reduceCtorEq] at he <;> exact ⟨_,_,rfl,rfl⟩
 | cons f l =>
  simp only [yV] at h
  split at h
  ·cases h
  ·simp only [Option.bind_eq_bind,Option.bind_eq_some_iff,Option.pure_def,Option.some.injEq] at h
   obtain ⟨_,_,_,_,_,_,rfl⟩:=h
   cases x <;> cases y <;> simp only [eqT,reduceCtorEq] at he <;> exact ⟨_,_,rfl,rfl⟩
theorem yT {m : Nat} {n : Option Nat} {A : EqT} {l : List Nat} {x y : AV} {b : Bool} (he : eqT (vX m n A l) x y = some b) : ∃ xs ys,x = .agg xs ∧ y = .agg ys:=by
 cases l <;> cases x <;> cases y <;> simp only [vX,eqT,reduceCtorEq] at he <;> exact ⟨_,_,rfl,rfl⟩
theorem aEE {x y : AV} {b : Bool} (h : eqT (.sc 0) x y = some b) : ∃ p q,x = .bool p ∧ y = .bool q:=by
 cases x <;> cases y <;> simp only [eqT,eqSc,reduceCtorEq] at h <;> exact ⟨_,_,rfl,rfl⟩
theorem aHw : ∀ (k : Nat) (t : TypeId) (T : EqT),lU P k t = some T → ∀ (d : Nat),k ≤ d → ∀ (x y : AV) (u v : Value) (b : Bool),VR G x u → VR G y v → eqT T x y = some b → (Op.equalIn d t u v).run P w = .ok b w:=by
 intro k
 induction k with
 | zero => intro t T h; cases h
 | succ k ih =>
  intro t T h d hd x y u v b hu hv he
  obtain ⟨d,rfl⟩ : ∃ e,d = e + 1:=⟨d - 1,by omega⟩
  unfold lU at h
  split at h
  ·rename_i ht; cases h; exact aAZ (.inl ⟨rfl,ht⟩) hu hv he
  ·rename_i k' ht; cases h; exact aAZ (.inr (.inl ⟨rfl,k',ht⟩)) hu hv he
  ·rename_i ht; cases h; exact aAZ (.inr (.inr ⟨rfl,ht⟩)) hu hv he
  ·rename_i fs ht
   split at h
   ·cases h
   ·rename_i hst
    have hagg : ∃ xs ys,x = .agg xs ∧ y = .agg ys:=yU h he
    obtain ⟨xs,ys,rfl,rfl⟩:=hagg
    obtain ⟨us,rfl,hl1,hc1⟩:=hu.inv_agg
    obtain ⟨vs,rfl,hl2,hc2⟩:=hv.inv_agg
    have hfo : P.fieldsOf t = fs:=by simp [Program.fieldsOf,ht]
    rw [run_equalIn_struct w d t us vs (by rw [hfo]; exact ht) (by simpa using hst),hfo]
    clear hfo ht hst
    generalize fs.toList = l at h
    clear fs
    induction l generalizing T b with
    | nil =>
     cases h
     simp only [eqT,Option.some.injEq] at he
     subst he
     simp [Op.eqFields]
    | cons f l ihl =>
     simp only [yV] at h
     split at h
     ·cases h
     ·rename_i hname
      simp only [Option.bind_eq_bind,Option.bind_eq_some_iff,Option.pure_def,Option.some.injEq] at h
      obtain ⟨n,hn,A,hA,B,hB,rfl⟩:=h
      simp only [eqT] at he
      split at he
      ·rename_i x y hx hy
       split at he
       ·rename_i p q hp hq
        simp only [Option.some.injEq] at he
        subst he
        obtain ⟨u1,g1,g2⟩:=rT (w:=w) hn hl1 hc1 hx
        obtain ⟨v1,k1,k2⟩:=rT (w:=w) hn hl2 hc2 hy
        have hr:=ih _ _ hA d (by omega) _ _ _ _ _ g2 k2 hp
        have hrest:=ihl _ _ hq hB
        simp only [Op.eqFields,ne_eq,hname,not_false_eq_true,if_true,Sem.run_bind,g1,Result.andThen_ok,k1,hr]
        cases p
        ·simp
        ·simpa using hrest
       ·cases he
      ·cases he
  ·rename_i len e ht
   split at h
   ·cases h
   ·simp only [Option.bind_eq_bind,Option.bind_eq_some_iff,Option.pure_def,Option.some.injEq] at h
    obtain ⟨n,hn,A,hA,i,hi,rfl⟩:=h
    obtain ⟨xs,ys,rfl,rfl⟩:=yT he
    obtain ⟨us,rfl,hl1,hc1⟩:=hu.inv_agg
    obtain ⟨vs,rfl,hl2,hc2⟩:=hv.inv_agg
    have hsz : P.cellsOf e = i.size:=by simp [Program.cellsOf,hi]
    rw [run_equalIn_array w d us vs ht hi,hsz]
    generalize List.range len = l at he
    induction l generalizing b with
    | nil =>
     simp only [vX,eqT,Option.some.injEq] at he
     subst he
     simp [Op.eqItems]
    | cons j l ihl =>
     simp only [vX,eqT] at he
     split at he
     ·rename_i x y hx hy
      split at he
      ·rename_i p q hp hq
       simp only [Option.some.injEq] at he
       subst he
       obtain ⟨u1,g1,g2⟩:=rT (w:=w) hn hl1 hc1 hx
       obtain ⟨v1,k1,k2⟩:=rT (w:=w) hn hl2 hc2 hy
       have hr:=ih _ _ hA d (by omega) _ _ _ _ _ g2 k2 hp
       have hrest:=ihl _ hq
       simp only [Op.eqItems,Sem.run_bind,g1,Result.andThen_ok,k1,hr]
       cases p
       ·simp
       ·simpa using hrest
      ·cases he
     ·cases he
  ·cases h
theorem aDl {op : BinOp} {n : Bool} {t t2 : TypeId} {T : EqT} {k : Nat} {x y : Operand} {x' y' : AOpd} {v : AV} (ho : o.op = .binOp op t x y t2) (hn : isEq op = some n) (hT : lU P k t = some T) (hk : k ≤ 10000) (hg : ((∃ fs,P.underlying t = some (.struct fs)) ∨ ∃ m e,P.underlying t = some (.array m e)) ∧ P.eqGuardType P.depth t = false ∨ T = .sc 0) (hx : aV x = some x') (hy : aV y = some y') (h : dR G a ρ) (hv : aop (.eqs n T x' y') a S = some (.val v)) : fT P G w o ρ v:=by
 have h1:=h x x' hx
 have h2:=h y y' hy
 simp only [aop,Option.map_eq_some_iff,Res.val.injEq] at hv
 obtain ⟨b,hb,rfl⟩:=hv
 have he:=aHw (P:=P) (w:=w) k t T hT 10000 hk _ _ _ _ _ h1 h2 hb
 have hop : op = if n then .neq else .eql:=by cases op <;> simp [isEq] at hn <;> subst hn <;> rfl
 have hsh : (∃ us vs,ρ x = .agg us ∧ ρ y = .agg vs) ∧ P.eqGuardType P.depth t = false ∨ ∃ p q,ρ x = .bool p ∧ ρ y = .bool q:=by
  rcases hg with ⟨⟨fs,hfs⟩ | ⟨m,e,hfs⟩,hg⟩ | rfl
  ·refine .inl ⟨?_,hg⟩
   obtain ⟨k,rfl⟩ : ∃ e,k = e + 1:=⟨k - 1,by cases k <;> simp_all [lU]⟩
   unfold lU at hT
   rw [hfs] at hT
   simp only at hT
   split at hT
   ·cases hT
   ·have : ∃ xs ys,a x' = .agg xs ∧ a y' = .agg ys:=yU hT hb
    obtain ⟨xs,ys,e1,e2⟩:=this
    rw [e1] at h1; rw [e2] at h2
    obtain ⟨us,hu,_⟩:=h1.inv_agg
    obtain ⟨vs,hv,_⟩:=h2.inv_agg
    exact ⟨us,vs,hu,hv⟩
  ·refine .inl ⟨?_,hg⟩
   obtain ⟨k,rfl⟩ : ∃ e,k = e + 1:=⟨k - 1,by cases k <;> simp_all [lU]⟩
   unfold lU at hT
   rw [hfs] at hT
   simp only at hT
   split at hT
   ·cases hT
   ·simp only [Option.bind_eq_bind,Option.bind_eq_some_iff,Option.pure_def,Option.some.injEq] at hT
    obtain ⟨_,_,_,_,_,_,rfl⟩:=hT
    obtain ⟨xs,ys,e1,e2⟩:=yT hb
    rw [e1] at h1; rw [e2] at h2
    obtain ⟨us,hu,_⟩:=h1.inv_agg
    obtain ⟨vs,hv,_⟩:=h2.inv_agg
    exact ⟨us,vs,hu,hv⟩
  ·right
   obtain ⟨p,q,e1,e2⟩:=aEE hb
   rw [e1] at h1; rw [e2] at h2
   exact ⟨p,q,h1.inv_bool,h2.inv_bool⟩
 refine ⟨.bool (if n then !b else b),?_,.bool _⟩
 rcases hsh with ⟨⟨us,vs,e1,e2⟩,hg⟩ | ⟨p,q,e1,e2⟩
 ·rw [e1,e2] at he
  cases n
  ·simp [execOp,ho,hop,e1,e2,run_eqGuard_agg w _ t x y us vs hg,run_eql_struct,he]
  ·simp [execOp,ho,hop,e1,e2,run_eqGuard_agg w _ t x y us vs hg,run_neq_struct,he]
 ·rw [e1,e2] at he
  cases n
  ·simp [execOp,ho,hop,e1,e2,eqGuard,binOp,Op.equal,Op.maxDepth,he]
  ·simp [execOp,ho,hop,e1,e2,eqGuard,binOp,Op.equal,Op.maxDepth,he]
theorem aBX {k : Nat} {x : AV} {u : Value} {p : Bool} (hx : VR G x u) (h : aAQ k x = some p) :
  (k = 0 ∧ ((p = true ∧ u = .slice none 0 0) ∨ (p = false ∧ ∃ A n c,u = .slice (some A) n c))) ∨ (k = 1 ∧ ((p = true ∧ u = .pointer none) ∨ (p = false ∧ ∃ A,u = .pointer (some A)))) ∨ (k = 2 ∧ ((p = true ∧ u = .nilFunc) ∨ (p = false ∧ ∃ f vs us,u = .func f vs us))):=by
 unfold aAQ at h
 split at h
 ·cases h; cases hx; exact .inl ⟨rfl,.inl ⟨rfl,rfl⟩⟩
 ·cases h
  refine .inl ⟨rfl,.inr ⟨rfl,?_⟩⟩
  cases hx with
  | sl els s B O c us hn hs hf h => exact ⟨_,_,_,rfl⟩
  | slt els t s B c us hb hn hs hf h => exact ⟨_,_,_,rfl⟩
 ·cases h
  rcases hx.inv_ms with ⟨B,c,_,rfl,_⟩ | ⟨h,_⟩
  ·exact .inl ⟨rfl,.inr ⟨rfl,_,_,_,rfl⟩⟩
  ·simp at h
 ·cases h; cases hx; exact .inr (.inl ⟨rfl,.inl ⟨rfl,rfl⟩⟩)
 ·cases h
  obtain ⟨B,_,rfl⟩:=hx.inv_ptr
  exact .inr (.inl ⟨rfl,.inr ⟨rfl,_,rfl⟩⟩)
 ·cases h
  obtain ⟨B,O,us,rfl,_⟩:=hx.inv_rop
  exact .inr (.inl ⟨rfl,.inr ⟨rfl,_,rfl⟩⟩)
 ·cases h; cases hx; exact .inr (.inr ⟨rfl,.inl ⟨rfl,rfl⟩⟩)
 ·cases h
  obtain ⟨vs,us,rfl,_⟩:=hx.inv_fn
  exact .inr (.inr ⟨rfl,.inr ⟨rfl,_,_,_,rfl⟩⟩)
 ·cases h
theorem aDm {op : BinOp} {n : Bool} {k : Nat} {t t2 : TypeId} {x y : Operand} {x' y' : AOpd} {v : AV} (ho : o.op = .binOp op t x y t2) (hn : isEq op = some n) (ht : (k = 0 ∧ ∃ e,P.underlying t = some (.slice e)) ∨ (k = 1 ∧ ∃ e,P.underlying t = some (.pointer e)) ∨ (k = 2 ∧ ∃ a b c,P.underlying t = some (.func a b c))) (hx : aV x = some x') (hy : aV y = some y') (h : dR G a ρ) (hv : aop (.eqn n k x' y') a S = some (.val v)) : fT P G w o ρ v:=by
 have h1:=h x x' hx
 have h2:=h y y' hy
 have hop : op = if n then .neq else .eql:=by cases op <;> simp [isEq] at hn <;> subst hn <;> rfl
 simp only [aop] at hv
 split at hv
 ·rename_i p q e1 e2
  split at hv
  ·rename_i hpq
   cases hv
   have g1:=aBX h1 e1
   have g2:=aBX h2 e2
   have he : (eqGuard op t x y (ρ x) (ρ y)).run P w = .ok () w ∧ (∀ d,(Op.equalIn (d + 1) t (ρ x) (ρ y)).run P w = .ok (p && q) w) ∧ (binOp .eql t (ρ x) (ρ y)).run P w = ((Op.equalIn Op.maxDepth t (ρ x) (ρ y)).run P w).andThen (fun b w' => .ok (.bool b) w') ∧ (binOp .neq t (ρ x) (ρ y)).run P w = ((Op.equalIn Op.maxDepth t (ρ x) (ρ y)).run P w).andThen (fun b w' => .ok (.bool (!b)) w'):=by
    rcases ht with ⟨rfl,e,ht⟩ | ⟨rfl,e,ht⟩ | ⟨rfl,a1,b1,c1,ht⟩
    ·rcases g1 with ⟨_, g1⟩ | ⟨hk, _⟩ | ⟨hk, _⟩ <;> first | (exact absurd hk (by decide)) | skip
     rcases g2 with ⟨_,g2⟩ | ⟨hk,_⟩ | ⟨hk,_⟩ <;> first | (exact absurd hk (by decide)) | skip
     rcases g1 with ⟨rfl,r1⟩ | ⟨rfl,A1,n1,c1,r1⟩ <;> rcases g2 with ⟨rfl,r2⟩ | ⟨rfl,A2,n2,c2,r2⟩ <;> first
      | (simp at hpq; done)
      | (rw [r1,r2]; exact ⟨by cases op <;> simp [eqGuard],fun d => by simp [Op.equalIn,run_underlying ht],by simp only [binOp]; simp [Op.equal],by simp only [binOp]; simp [Op.equal]⟩)
    ·rcases g1 with ⟨hk, _⟩ | ⟨_, g1⟩ | ⟨hk, _⟩ <;> first | (exact absurd hk (by decide)) | skip
     rcases g2 with ⟨hk,_⟩ | ⟨_,g2⟩ | ⟨hk,_⟩ <;> first | (exact absurd hk (by decide)) | skip
     rcases g1 with ⟨rfl,r1⟩ | ⟨rfl,A1,r1⟩ <;> rcases g2 with ⟨rfl,r2⟩ | ⟨rfl,A2,r2⟩ <;> first
      | (simp at hpq; done)
      | (rw [r1,r2]; exact ⟨by cases op <;> simp [eqGuard],fun d => by simp [Op.equalIn,run_underlying ht],by simp only [binOp]; simp [Op.equal],by simp only [binOp]; simp [Op.equal]⟩)
    ·rcases g1 with ⟨hk, _⟩ | ⟨hk, _⟩ | ⟨_, g1⟩ <;> first | (exact absurd hk (by decide)) | skip
     rcases g2 with ⟨hk,_⟩ | ⟨hk,_⟩ | ⟨_,g2⟩ <;> first | (exact absurd hk (by decide)) | skip
     rcases g1 with ⟨rfl,r1⟩ | ⟨rfl,A1,B1,C1,r1⟩ <;> rcases g2 with ⟨rfl,r2⟩ | ⟨rfl,A2,B2,C2,r2⟩ <;> first
      | (simp at hpq; done)
      | (rw [r1,r2]; exact ⟨by cases op <;> simp [eqGuard],fun d => by simp [Op.equalIn,run_underlying ht],by simp only [binOp]; simp [Op.equal],by simp only [binOp]; simp [Op.equal]⟩)
   obtain ⟨f1,f2,f3,f4⟩:=he
   refine ⟨.bool (if n then !(p && q) else p && q),?_,.bool _⟩
   have f5:=f2 9999
   cases n
   ·have : op = .eql:=hop
    subst this
    simp only [execOp,ho,Sem.run_bind,f1,Result.andThen_ok,f3,Op.maxDepth,f5,Sem.run_pure]
    rfl
   ·have : op = .neq:=hop
    subst this
    simp only [execOp,ho,Sem.run_bind,f1,Result.andThen_ok,f4,Op.maxDepth,f5,Sem.run_pure]
    rfl
  ·cases hv
 ·cases hv
theorem aHu {t : TypeId} {f : Nat} {d : Field} {n : Option Nat} {x : Operand} {y : AOpd} {v : AV} (ho : o.op = .field t x f) (hd : rW P t f = some d) (hn : lP P d.type = some n) (hy : aV x = some y) (h : dR G a ρ) (hv : aop (.fld y d.offset n) a S = some (.val v)) : fT P G w o ρ v:=by
 have hr:=h x y hy
 obtain ⟨fs,h1,h2⟩:=yL hd
 simp only [aop] at hv
 split at hv
 ·rename_i cs e
  rw [e] at hr
  obtain ⟨us,hu,hl,hc⟩:=hr.inv_agg
  simp only [Option.map_eq_some_iff,Res.val.injEq,exists_eq_right] at hv
  obtain ⟨u,h3,h4⟩:=rT (w:=w) hn hl hc hv
  exact ⟨u,by simp [execOp,ho,Instr.field,run_underlying h1,h2,hu,asAgg,h3],h4⟩
 ·cases hv
theorem aHt {t : TypeId} {x i : Operand} {x' i' : AOpd} {v : AV} (ho : o.op = .index t x i) (ht : P.underlying t = some .string) (hx : aV x = some x') (hi : aV i = some i') (h : dR G a ρ) (hv : aop (.idx x' i') a S = some (.val v)) : fT P G w o ρ v:=by
 have h1:=h x x' hx
 have h2:=h i i' hi
 simp only [aop] at hv
 split at hv
 ·rename_i b k n e1 e2
  rw [e1] at h1; rw [e2] at h2
  split at hv
  ·rename_i hn
   simp only [Option.map_eq_some_iff,Res.val.injEq] at hv
   obtain ⟨c,hc,rfl⟩:=hv
   exact ⟨_,by simp [execOp,ho,Instr.index,run_underlying ht,h1.inv_str,h2.inv_int,asIntOf,hn,hc],.int _ _⟩
  ·cases hv
 ·cases hv
theorem aGB {t e : TypeId} {len : Nat} {j : TypeInfo} {n : Option Nat} {x i : Operand} {x' i' : AOpd} {v : AV} (ho : o.op = .index t x i) (ht : P.underlying t = some (.array len e)) (hj : P.info? e = some j) (hn : lP P e = some n) (hx : aV x = some x') (hi : aV i = some i') (h : dR G a ρ) (hv : aop (.aidx x' i' len j.size n) a S = some (.val v)) : fT P G w o ρ v:=by
 have h1:=h x x' hx
 have h2:=h i i' hi
 simp only [aop] at hv
 split at hv
 ·rename_i cs k m e1 e2
  rw [e1] at h1; rw [e2] at h2
  obtain ⟨us,hu,hl,hc⟩:=h1.inv_agg
  split at hv
  ·rename_i hm
   simp only [Option.map_eq_some_iff,Res.val.injEq,exists_eq_right] at hv
   obtain ⟨u,h3,h4⟩:=rT (w:=w) hn hl hc hv
   exact ⟨u,by simp [execOp,ho,Instr.index,run_underlying ht,hu,h2.inv_int,asIntOf,hm,sizeOf,typeInfo,hj,h3],h4⟩
  ·cases hv
 ·cases hv
theorem aFi {t e : TypeId} {j : TypeInfo} {x i : Operand} {x' i' : AOpd} {v : AV} (ho : o.op = .indexAddr t x i) (ht : P.underlying t = some (.slice e)) (hj : P.info? e = some j) (hx : aV x = some x') (hi : aV i = some i') (h : dR G a ρ) (hv : aop (.iaddr x' i' j.size none) a S = some (.val v)) : fT P G w o ρ v:=by
 have h1:=h x x' hx
 have h2:=h i i' hi
 simp only [aop] at hv
 split at hv
 ·rename_i els tk k n e1 e2
  rw [e1] at h1; rw [e2] at h2
  split at hv
  ·rename_i hn
   simp only [Option.bind_eq_some_iff] at hv
   obtain ⟨el,hel,hv⟩:=hv
   split at hv
   ·rename_i hsz
    cases hv
    obtain ⟨A,c,hu,hrest⟩:=h1.inv_sl
    obtain ⟨s,B,O,us,rfl,hc,hs,hf,hvr⟩:=hrest (by rintro rfl; simp at hel)
    have hss : s = j.size:=by rw [← hs _ _ hel]; exact hsz
    subst hss
    refine ⟨.pointer (some ⟨B, O + n.toNat * j.size, none⟩), by simp [execOp, ho, Instr.indexAt, run_underlying ht, hu, h2.inv_int, asIntOf, hn, sizeOf, typeInfo, hj, Addr.add_lit],
     .rop _ B _ (fun q => us (n.toNat * j.size + q)) (fun q y hq => ?_) (fun q y hq => hvr _ _ _ _ hel hq)⟩
    rw [Nat.add_assoc]; exact hf _ _ _ _ hel hq
   ·cases hv
  ·cases hv
 ·rename_i b m s' k n e1 e2
  rw [e1] at h1; rw [e2] at h2
  split at hv
  ·rename_i hn
   cases hv
   obtain ⟨hn0,hn1,rfl⟩:=hn
   obtain ⟨B,c,hB,hu,hc⟩ : ∃ B c,_:=h1.inv_ms.resolve_right (fun h => by omega)
   exact ⟨.pointer (some ⟨B,n.toNat * j.size,none⟩),by simp [execOp,ho,Instr.indexAt,run_underlying ht,hu,h2.inv_int,asIntOf,hn0,hn1,sizeOf,typeInfo,hj,Addr.add_lit],.ptr b _ B hB⟩
  ·cases hv
 ·rename_i b m s' k n e1 e2
  rw [e1] at h1; rw [e2] at h2
  split at hv
  ·rename_i hn
   cases hv
   obtain ⟨hn0,hn1,rfl⟩:=hn
   obtain ⟨B,c,hB,hu,hc,_⟩ : ∃ B c,_:=h1.inv_mg.resolve_right (fun h => by omega)
   exact ⟨.pointer (some ⟨B,n.toNat * j.size,none⟩),by simp [execOp,ho,Instr.indexAt,run_underlying ht,hu,h2.inv_int,asIntOf,hn0,hn1,sizeOf,typeInfo,hj,Addr.add_lit],.ptr b _ B hB⟩
  ·cases hv
 ·cases hv
theorem aEx {t e : TypeId} {len : Nat} {j : TypeInfo} {x i : Operand} {x' i' : AOpd} {v : AV} (ho : o.op = .indexAddr t x i) (ht : P.underlying t = some (.array len e)) (hj : P.info? e = some j) (hx : aV x = some x') (hi : aV i = some i') (h : dR G a ρ) (hv : aop (.iaddr x' i' j.size (some len)) a S = some (.val v)) : fT P G w o ρ v:=by
 have h1:=h x x' hx
 have h2:=h i i' hi
 simp only [aop] at hv
 split at hv
 ·rename_i b o' k n e1 e2
  rw [e1] at h1; rw [e2] at h2
  split at hv
  ·rename_i hn
   cases hv
   obtain ⟨B,hB,hu⟩:=h1.inv_ptr
   exact ⟨.pointer (some ⟨B,o' + n.toNat * j.size,none⟩),by simp [execOp,ho,Instr.indexAt,run_underlying ht,hu,h2.inv_int,asIntOf,Instr.sureAddr,hn,sizeOf,typeInfo,hj,Addr.add_lit],.ptr b _ B hB⟩
  ·cases hv
 ·rename_i cs k n e1 e2
  rw [e1] at h1; rw [e2] at h2
  split at hv
  ·rename_i hn
   cases hv
   obtain ⟨B,O,us,hu,hf,hc⟩:=h1.inv_rop
   obtain ⟨hn0,hn1,hn2⟩:=hn
   refine ⟨.pointer (some ⟨B, O + n.toNat * j.size, none⟩), by simp [execOp, ho, Instr.indexAt, run_underlying ht, hu, h2.inv_int, asIntOf, Instr.sureAddr, hn0, hn1, sizeOf, typeInfo, hj, Addr.add_lit],
    .rop _ B _ (fun q => us (n.toNat * j.size + q)) (fun q y hq => ?_) (fun q y hq => ?_)⟩
   ·rw [List.getElem?_take] at hq
    split at hq
    ·rw [List.getElem?_drop] at hq
     rw [Nat.add_assoc]; exact hf _ _ hq
    ·cases hq
   ·rw [List.getElem?_take] at hq
    split at hq
    ·rw [List.getElem?_drop] at hq
     exact hc _ _ hq
    ·cases hq
  ·cases hv
 ·cases hv
theorem aGi {t : TypeId} {x : Operand} {x' : AOpd} {v : AV} (ho : o.op = .call { callee:=.builtin .len,args:=#[x],argTypes:=#[t] }) (ht : P.underlying t = some .string) (hx : aV x = some x') (h : dR G a ρ) (hv : aop (.len true x') a S = some (.val v)) : fT P G w o ρ v:=by
 have h1:=h x x' hx
 simp only [aop] at hv
 split at hv
 ·rename_i b e
  cases hv; rw [e] at h1
  exact ⟨_,by simp [execOp,ho,resolve,invoke,builtin,Builtin.len_,run_underlying ht,h1.inv_str,goInt],.int _ _⟩
 ·cases hv
theorem aHp {t el : TypeId} {x : Operand} {x' : AOpd} {v : AV} (ho : o.op = .call { callee:=.builtin .len,args:=#[x],argTypes:=#[t] }) (ht : P.underlying t = some (.slice el)) (hx : aV x = some x') (h : dR G a ρ) (hv : aop (.len false x') a S = some (.val v)) : fT P G w o ρ v:=by
 have h1:=h x x' hx
 simp only [aop] at hv
 split at hv
 ·rename_i els tk e
  cases hv; rw [e] at h1
  obtain ⟨A,c,hu,_⟩:=h1.inv_sl
  exact ⟨_,by simp [execOp,ho,resolve,invoke,builtin,Builtin.len_,run_underlying ht,hu,goInt],.int _ _⟩
 ·rename_i e
  cases hv; rw [e] at h1
  exact ⟨_,by simp [execOp,ho,resolve,invoke,builtin,Builtin.len_,run_underlying ht,h1.inv_nils,goInt],.int _ _⟩
 ·rename_i b n s e
  cases hv; rw [e] at h1
  rcases h1.inv_ms with ⟨B,c,_,hu,_⟩ | ⟨rfl,A,c,hu⟩
  ·exact ⟨_,by simp [execOp,ho,resolve,invoke,builtin,Builtin.len_,run_underlying ht,hu,goInt],.int _ _⟩
  ·exact ⟨_,by simp [execOp,ho,resolve,invoke,builtin,Builtin.len_,run_underlying ht,hu,goInt],.int _ _⟩
 ·rename_i b n s e
  cases hv; rw [e] at h1
  rcases h1.inv_mg with ⟨B,c,_,hu,_⟩ | ⟨rfl,hu⟩
  ·exact ⟨_,by simp [execOp,ho,resolve,invoke,builtin,Builtin.len_,run_underlying ht,hu,goInt],.int _ _⟩
  ·exact ⟨_,by simp [execOp,ho,resolve,invoke,builtin,Builtin.len_,run_underlying ht,hu,goInt],.int _ _⟩
 ·cases hv
theorem aHO {ts : Array TypeId} {x y : Operand} {x' y' : AOpd} {v : AV} (ho : o.op = .call { callee:=.builtin .min,args:=#[x,y],argTypes:=ts }) (hx : aV x = some x') (hy : aV y = some y') (h : dR G a ρ) (hv : aop (.mn x' y') a S = some (.val v)) : fT P G w o ρ v:=by
 have h1:=h x x' hx
 have h2:=h y y' hy
 simp only [aop] at hv
 split at hv
 ·rename_i k m k' n e1 e2
  cases hv; rw [e1] at h1; rw [e2] at h2
  exact ⟨_,by simp [execOp,ho,resolve,invoke,builtin,Builtin.min_,Builtin.min2,h1.inv_int,h2.inv_int],.int _ _⟩
 ·cases hv
theorem aHN {ts : Array TypeId} {x y : Operand} {x' y' : AOpd} {v : AV} (ho : o.op = .call { callee:=.builtin .max,args:=#[x,y],argTypes:=ts }) (hx : aV x = some x') (hy : aV y = some y') (h : dR G a ρ) (hv : aop (.mx x' y') a S = some (.val v)) : fT P G w o ρ v:=by
 have h1:=h x x' hx
 have h2:=h y y' hy
 simp only [aop] at hv
 split at hv
 ·rename_i k m k' n e1 e2
  cases hv; rw [e1] at h1; rw [e2] at h2
  exact ⟨_,by simp [execOp,ho,resolve,invoke,builtin,Builtin.max_,Builtin.max2,h1.inv_int,h2.inv_int],.int _ _⟩
 ·cases hv
end ops
end
section
open Go.RowKit
section ops
variable {P : Program} {G : Gh} {w : World} {o : Oper} {ρ : Operand → Value} {a : AOpd → AV} {S : St}
def bndA (a : AOpd → AV) (d : Nat) : Option AOpd → Option Nat
 | none => some d
 | some l => match a l with | .int _ n => if 0 ≤ n then some n.toNat else none | _ => none
theorem yS {x : Option Operand} {y : Option AOpd} (h : fQ x = some y) : (x = none ∧ y = none) ∨ ∃ z z',x = some z ∧ y = some z' ∧ aV z = some z':=by
 cases x with
 | none => cases h; exact .inl ⟨rfl,rfl⟩
 | some z =>
  simp only [fQ,Option.map_eq_some_iff] at h
  obtain ⟨z',h1,rfl⟩:=h
  exact .inr ⟨z,z',rfl,rfl,h1⟩
theorem mO (isS : Bool) {len cap : Nat} {lo hi : Option Operand} {lo' hi' : Option AOpd} {l h : Nat} (h1 : fQ lo = some lo') (h2 : fQ hi = some hi') (hop : dR G a ρ)
  (hl : bndA a 0 lo' = some l) (hh : bndA a len hi' = some h) (hlh : l ≤ h) (hhl : h ≤ len) (hlc : len ≤ cap) :
  (Instr.sliceBounds isS len cap (lo.map ρ) (hi.map ρ) none).run P w = .ok (l,h,cap) w:=by
 have hbl : ∀ (z : Operand) (z' : AOpd) (y n : Nat) (code : BoundsCode),aV z = some z' → bndA a 0 (some z') = some n → n ≤ y → (Instr.sliceBound (ρ z) y code).run P w = .ok n w:=by
  intro z z' y n code hz hb hn
  have hr:=hop z z' hz
  simp only [bndA] at hb
  split at hb
  ·rename_i k m e
   rw [e] at hr
   split at hb
   ·rename_i hm
    cases hb
    have : m ≤ (y : Int):=by omega
    simp [Instr.sliceBound,hr.inv_int,asIntOf,hm,this]
   ·cases hb
  ·cases hb
 rcases yS h1 with ⟨rfl,rfl⟩ | ⟨z1,z1',rfl,rfl,hz1⟩ <;> rcases yS h2 with ⟨rfl,rfl⟩ | ⟨z2,z2',rfl,rfl,hz2⟩
 ·simp only [bndA,Option.some.injEq] at hl hh
  subst hl hh
  simp [Instr.sliceBounds]
 ·simp only [bndA,Option.some.injEq] at hl
  subst hl
  simp [Instr.sliceBounds,hbl z2 z2' cap h _ hz2 hh (by omega)]
 ·simp only [bndA,Option.some.injEq] at hh
  subst hh
  simp [Instr.sliceBounds,hbl z1 z1' len l _ hz1 hl hlh]
 ·simp [Instr.sliceBounds,hbl z2 z2' cap h _ hz2 hh (by omega),hbl z1 z1' h l _ hz1 hl hlh]
theorem aFU {t : TypeId} {x : Operand} {lo hi : Option Operand} {x' : AOpd} {lo' hi' : Option AOpd} {n : Nat} {v : AV} (ho : o.op = .slice t x lo hi none) (ht : P.underlying t = some .string) (hx : aV x = some x') (h1 : fQ lo = some lo') (h2 : fQ hi = some hi')
  (h : dR G a ρ) (hv : aop (.slc true n x' lo' hi') a S = some (.val v)) : fT P G w o ρ v:=by
 have hr:=h x x' hx
 simp only [aop] at hv
 split at hv
 ·rename_i b e
  rw [e] at hr
  split at hv
  ·rename_i l hh e1 e2
   split at hv
   ·rename_i hle
    cases hv
    have hb:=mO (P:=P) (w:=w) false (len:=b.size) (cap:=b.size) h1 h2 h (l:=l) (h:=hh) (by unfold bndA; exact e1) (by unfold bndA; exact e2) hle.1 hle.2 (Nat.le_refl _)
    exact ⟨_,by simp [execOp,ho,Instr.sliceAt,Instr.slice,run_underlying ht,hr.inv_str,hb],.str _⟩
   ·cases hv
  ·cases hv
 ·cases hv
theorem aHf {t el : TypeId} {j : TypeInfo} {x : Operand} {lo hi : Option Operand} {x' : AOpd} {lo' hi' : Option AOpd} {v : AV} (ho : o.op = .slice t x lo hi none) (ht : P.underlying t = some (.slice el)) (hj : P.info? el = some j) (hx : aV x = some x') (h1 : fQ lo = some lo') (h2 : fQ hi = some hi')
  (h : dR G a ρ) (hv : aop (.slc false j.size x' lo' hi') a S = some (.val v)) : fT P G w o ρ v:=by
 have hr:=h x x' hx
 simp only [aop] at hv
 split at hv
 ·rename_i els tk e
  rw [e] at hr
  split at hv
  ·rename_i l hh e1 e2
   split at hv
   ·rename_i hle
    cases hv
    obtain ⟨hle1,hle2,hsz⟩:=hle
    obtain ⟨A,c,hu,hrest⟩:=hr.inv_sl
    by_cases hne : els = []
    ·subst hne
     have hh0 : hh = 0:=by simpa using hle2
     have hl0 : l = 0:=by omega
     subst hh0 hl0
     have hb:=mO (P:=P) (w:=w) true (len:=0) (cap:=c) h1 h2 h (l:=0) (h:=0) (by unfold bndA; exact e1) (by unfold bndA; exact e2) (Nat.le_refl _) (Nat.le_refl _) (Nat.zero_le _)
     refine ⟨.slice (if c = 0 then A else A.map (·.add (0 * j.size))) (0 - 0) (c - 0),?_,?_⟩
     ·simp only [List.length_nil] at hu
      simp [execOp,ho,Instr.sliceAt,Instr.slice,run_underlying ht,hu,hb,sizeOf,typeInfo,hj]
     ·simp only [List.take_nil,List.drop_nil]
      exact .sl0 _ _
    ·obtain ⟨s,B,O,us,rfl,hc,hs,hf,hvr⟩:=hrest hne
     have hss : s = j.size:=by
      obtain ⟨e0,l0,rfl⟩ : ∃ e0 l0,els = e0 :: l0:=List.exists_cons_of_ne_nil hne
      have h3:=hs 0 e0 rfl
      have h4:=List.all_eq_true.1 hsz e0 (by simp)
      rw [← h3]; simpa using h4
     subst hss
     have hb:=mO (P:=P) (w:=w) true (len:=els.length) (cap:=c) h1 h2 h (l:=l) (h:=hh) (by unfold bndA; exact e1) (by unfold bndA; exact e2) hle1 hle2 hc
     have hlen : ((els.take hh).drop l).length = hh - l:=by simp; omega
     by_cases hcl : c = l
     ·subst hcl
      have : hh = c:=by omega
      subst this
      refine ⟨.slice (some ⟨B,O,none⟩) (hh - hh) (hh - hh),by simp [execOp,ho,Instr.sliceAt,Instr.slice,run_underlying ht,hu,hb,sizeOf,typeInfo,hj],?_⟩
      have e0 : (els.take hh).drop hh = []:=List.eq_nil_of_length_eq_zero (by rw [hlen]; omega)
      rw [e0,Nat.sub_self]
      exact .sl0 _ _
     ·refine ⟨.slice (some ⟨B, O + l * j.size, none⟩) (hh - l) (c - l), by simp [execOp, ho, Instr.sliceAt, Instr.slice, run_underlying ht, hu, hb, sizeOf, typeInfo, hj, hcl, Addr.add_lit], ?_⟩
      have key : ∀ (i : Nat) e,((els.take hh).drop l)[i]? = some e → els[l + i]? = some e:=by
       intro i e he
       rw [List.getElem?_drop,List.getElem?_take] at he
       split at he
       ·exact he
       ·cases he
      have := VR.sl (G := G) ((els.take hh).drop l) j.size B (O + l * j.size) (c - l) (fun q => us (l * j.size + q)) (by rw [hlen]; omega) (fun i e he => hs _ _ (key i e he))
       (fun i e q y he hy => by
         have:=hf _ _ _ _ (key i e he) hy
         rw [Nat.add_mul,Nat.add_assoc] at this
         rw [Nat.add_assoc]; exact this)
       (fun i e q y he hy => by
         have:=hvr _ _ _ _ (key i e he) hy
         rw [Nat.add_mul,Nat.add_assoc] at this
         exact this)
      rw [hlen] at this
      exact this
   ·cases hv
  ·cases hv
 ·cases hv
theorem aHh {t el : TypeId} {n : Nat} {j : TypeInfo} {x : Operand} {x' : AOpd} {v : AV} (ho : o.op = .slice t x none none none) (ht : P.underlying t = some (.array n el)) (hj : P.info? el = some j) (hx : aV x = some x')
  (h : dR G a ρ) (hv : aop (.sla n j.size x') a S = some (.val v)) : fT P G w o ρ v:=by
 have hr:=h x x' hx
 simp only [aop] at hv
 split at hv
 ·rename_i b off e
  rw [e] at hr
  obtain ⟨B,hB,hu⟩:=hr.inv_ptr
  split at hv
  ·rename_i hc
   subst hc
   cases hv
   refine ⟨.slice (some ⟨B,0,none⟩) n n,?_,.ms b n j.size B n hB (Nat.le_refl _)⟩
   by_cases hn : n = 0
   ·subst hn
    simp [execOp,ho,Instr.sliceAt,run_underlying ht,hu,Instr.sureAddr,Instr.sliceBounds,sizeOf,typeInfo,hj]
   ·simp [execOp,ho,Instr.sliceAt,run_underlying ht,hu,Instr.sureAddr,Instr.sliceBounds,sizeOf,typeInfo,hj,hn,Addr.add_lit]
  ·cases hv
 ·cases hv
theorem aHg {t el : TypeId} {n : Nat} {j : TypeInfo} {x hi : Operand} {x' hi' : AOpd} {v : AV} (ho : o.op = .slice t x none (some hi) none) (ht : P.underlying t = some (.array n el)) (hj : P.info? el = some j) (hx : aV x = some x') (hh : aV hi = some hi')
  (h : dR G a ρ) (hv : aop (.slb n j.size x' hi') a S = some (.val v)) : fT P G w o ρ v:=by
 have hr:=h x x' hx
 simp only [aop] at hv
 split at hv
 ·rename_i b off k m e e2
  rw [e] at hr
  obtain ⟨B,hB,hu⟩:=hr.inv_ptr
  split at hv
  ·rename_i hc
   obtain ⟨rfl,hm0,hm1⟩:=hc
   cases hv
   have e1 : bndA a 0 none = some 0:=rfl
   have e3 : bndA a n (some hi') = some m.toNat:=by simp only [bndA,e2]; rw [if_pos (by omega)]
   have hhi' : fQ (some hi) = some (some hi'):=by simp [fQ,hh]
   have hlo : fQ none = some none:=rfl
   have hb : (Instr.sliceBounds false n n none (some (ρ hi)) none).run P w = .ok (0,m.toNat,n) w:=mO (P:=P) (w:=w) false (len:=n) (cap:=n) hlo hhi' h (l:=0) (h:=m.toNat) e1 e3 (Nat.zero_le _) (by omega) (Nat.le_refl _)
   refine ⟨.slice (some ⟨B,0,none⟩) m.toNat n,?_,.ms b m.toNat j.size B n hB (by omega)⟩
   by_cases hn : n = 0
   ·subst hn
    simp [execOp,ho,Instr.sliceAt,run_underlying ht,hu,Instr.sureAddr,hb,sizeOf,typeInfo,hj]
   ·simp [execOp,ho,Instr.sliceAt,run_underlying ht,hu,Instr.sureAddr,hb,sizeOf,typeInfo,hj,hn,Addr.add_lit]
  ·cases hv
 ·cases hv
theorem pM (cs : List AV) (off : Nat) (vs : List AV) : (hH cs off vs).length = cs.length:=by
 induction vs generalizing cs off with
 | nil => rfl
 | cons v l ih => rw [hH,ih,List.length_set]
theorem aEt (cs : List AV) (off : Nat) (vs : List AV) (hf : off + vs.length ≤ cs.length) (i : Nat) : (hH cs off vs)[i]? = if off ≤ i ∧ i < off + vs.length then vs[i - off]? else cs[i]?:=by
 induction vs generalizing cs off with
 | nil => simp only [hH,List.length_nil,Nat.add_zero]; rw [if_neg (by omega)]
 | cons v l ih =>
  simp only [List.length_cons] at hf
  rw [hH,ih _ _ (by rw [List.length_set]; omega)]
  by_cases h1 : off + 1 ≤ i ∧ i < off + 1 + l.length
  ·rw [if_pos h1, if_pos (by simp only [List.length_cons]; omega)]
   rw [show i - off = (i - (off + 1)) + 1 by omega,List.getElem?_cons_succ]
  ·rw [if_neg h1]
   by_cases h2 : i = off
   ·subst h2
    rw [if_pos (by simp only [List.length_cons]; omega),List.getElem?_set]
    simp; omega
   ·rw [if_neg (by simp only [List.length_cons]; omega),List.getElem?_set_ne (Ne.symm h2)]
theorem xN {α : Type} (l : List α) (off : Nat) (vs : List α) (hf : off + vs.length ≤ l.length) (i : Nat) : (l.take off ++ vs ++ l.drop (off + vs.length))[i]? = if off ≤ i ∧ i < off + vs.length then vs[i - off]? else l[i]?:=by
 have h1 : (l.take off).length = off:=by simp; omega
 by_cases h : off ≤ i ∧ i < off + vs.length
 ·rw [if_pos h,List.append_assoc,List.getElem?_append_right (by omega),h1,List.getElem?_append_left (by omega)]
 ·rw [if_neg h]
  by_cases h2 : i < off
  ·rw [List.append_assoc,List.getElem?_append_left (by omega),List.getElem?_take_of_lt h2]
  ·rw [List.getElem?_append_right (by simp; omega), List.getElem?_drop]
   congr 1
   simp; omega
theorem aDJ {α : Type} (l : List α) (off : Nat) (vs : List α) (hf : off + vs.length ≤ l.length) : (l.take off ++ vs ++ l.drop (off + vs.length)).length = l.length:=by
 simp; omega
def aGW (P : Program) (G : Gh) (w : World) (o : Oper) (ρ : Operand → Value) (b : Nat) (cs : List AV) : Prop :=
 ∃ (B : Nat) (us old : Array Value) (T : TypeId),G.al b = some B ∧ w.heap[B]? = some (.cells old T (0,0)) ∧ old.size = us.size ∧ (execOp ρ o).run P w = .ok .skip (w.setRow B us) ∧ cs.length ≤ us.size ∧ (∀ (i : Nat) x u,cs[i]? = some x → us[i]? = some u → VR G x u) ∧ ∀ o,G.fz B o = none
theorem aES {t : TypeId} {j : TypeInfo} {x y : Operand} {x' y' : AOpd} {b : Nat} {cs : List AV} (ho : o.op = .store t x y) (hj : P.info? t = some j) (hx : aV x = some x') (hy : aV y = some y') (h : dR G a ρ) (hI : Inv G S w) (hv : aop (.store j.size x' y') a S = some (.put b cs)) :
  aGW P G w o ρ b cs ∧ ∃ old,S.bx[b]? = some old ∧ old.length = cs.length:=by
 have h1:=h x x' hx
 have h2:=h y y' hy
 simp only [aop] at hv
 split at hv
 ·rename_i b' off e
  rw [e] at h1
  obtain ⟨B,hB,hu⟩:=h1.inv_ptr
  simp only [Option.bind_eq_some_iff] at hv
  obtain ⟨old,hold,hv⟩:=hv
  split at hv
  ·rename_i hc
   simp only [Option.some.injEq,Res.put.injEq] at hv
   obtain ⟨rfl,rfl⟩:=hv
   simp only [Bool.and_eq_true,decide_eq_true_eq] at hc
   obtain ⟨hok,hsz,hpos,hfit⟩:=hc
   refine ⟨?_,old,hold,(pM _ _ _).symm⟩
   obtain ⟨g1,g2,g3⟩:=h2.okCells hok
   rcases hI.box b' B old hB hold with rfl | ⟨us,T,k1,k2,k3,k4⟩
   ·simp at hfit; omega
   ·have hcl : (ρ y).cells.toList.length = (a y').cells.length := by simpa using g1
    have hst:=run_storeCells_at P B off T (ρ y).cells.toList 0 us w k1 (by rw [hcl,hsz]; omega) g3
    rw [Nat.add_zero] at hst
    have hsz' : ((ρ y).cells.size ≠ j.size) = False:=by simp [g1,hsz]
    refine ⟨B,(us.toList.take off ++ (ρ y).cells.toList ++ us.toList.drop (off + (ρ y).cells.toList.length)).toArray,us,T,hB,k1,?_,by simp only [execOp,ho,Instr.storeAt,Instr.sureAddr,hu,storeVar,sizeOf,typeInfo,Sem.run_bind,Sem.run_pure,Result.andThen_ok,hst,hj,program,Sem.run,hsz',if_false],?_,?_,k4⟩
    ·simp [g1,hsz]; omega
    ·simp [pM,g1,hsz]; omega
    ·intro i z u hz hu'
     rw [aEt _ _ _ (by omega)] at hz
     rw [List.getElem?_toArray,xN _ _ _ (by rw [hcl,hsz,Array.length_toList]; omega),hcl] at hu'
     split at hz
     ·rename_i hin
      rw [if_pos hin] at hu'
      exact g2 _ z u hz (by simpa using hu')
     ·rename_i hin
      rw [if_neg hin] at hu'
      exact k3 i z u hz (by simpa using hu')
  ·cases hv
 ·cases hv
def aFP (P : Program) (G : Gh) (w : World) (o : Oper) (ρ : Operand → Value) (f : FuncId) (args : List AV) : Prop :=
 ∃ us : Array Value,(execOp ρ o).run P w = (callFunc f us).run P w ∧ us.size = args.length ∧ ∀ (i : Nat) x u,args[i]? = some x → us[i]? = some u → VR G x u
theorem aGx {f : Operand} {args : Array Operand} {ts : Array TypeId} {f' : AOpd} {args' : List AOpd} {g : FuncId} {as1 : List AV} (ho : o.op = .call { callee:=.value f,args,argTypes:=ts }) (hf : aV f = some f') (ha : kH args = some args') (h : dR G a ρ) (hv : aop (.call f' args') a S = some (.call g as1)) : aFP P G w o ρ g as1:=by
 have h1:=h f f' hf
 simp only [aop] at hv
 split at hv
 ·rename_i g' ps caps e
  simp only [Option.some.injEq,Res.call.injEq] at hv
  obtain ⟨rfl,rfl⟩:=hv
  rw [e] at h1
  obtain ⟨vs,us,hu,hp,hc⟩:=h1.inv_fn
  have hall:=(hp.append (VL.opds ha h)).append hc
  exact ⟨vs ++ args.map ρ ++ us,by simp [execOp,ho,resolve,hu,Deferred.ofValue,invoke],hall.1,hall.2⟩
 ·cases hv
end ops
end
section
open Go.RowKit
def RelL (G : Gh) (cs : List AV) (us : Array Value) : Prop:=us.size = cs.length ∧ ∀ (i : Nat) x u,cs[i]? = some x → us[i]? = some u → VR G x u
theorem RelL.set {G : Gh} {cs : List AV} {us : Array Value} (h : RelL G cs us) {x : AV} {u : Value} (hx : VR G x u) (k : Nat) : RelL G (cs.set k x) (us.setIfInBounds k u):=by
 refine ⟨by simp [h.1],fun i y v hy hv => ?_⟩
 by_cases hk : k = i
 ·subst hk
  rw [List.getElem?_set] at hy
  rw [Array.getElem?_setIfInBounds] at hv
  simp only [if_true] at hy hv
  split at hy
  ·split at hv
   ·cases hy; cases hv; exact hx
   ·cases hv
  ·cases hy
 ·rw [List.getElem?_set_ne hk] at hy
  rw [Array.getElem?_setIfInBounds_ne hk] at hv
  exact h.2 i y v hy hv
theorem aDU {G : Gh} (off : Nat) : ∀ (vs : List Value) (xs : List AV) (k : Nat) (cells : Array Value) (cs : List AV),RelL G cs cells → vs.length = xs.length → (∀ (i : Nat) x u,xs[i]? = some x → vs[i]? = some u → VR G x u) →
  RelL G (hH cs (off + k) xs) ((vs.zipIdx k).foldl (fun cs p => cs.setIfInBounds (off + p.2) p.1) cells)
 | [],[],k,cells,cs,h,_,_ => h
 | v :: vs,x :: xs,k,cells,cs,h,hl,hp => by
  simp only [List.zipIdx_cons,List.foldl_cons,hH]
  have:=aDU off vs xs (k + 1) _ _ (h.set (hp 0 x v rfl rfl) (off + k)) (by simpa using hl) (fun i y u h1 h2 => hp (i + 1) y u (by simpa using h1) (by simpa using h2))
  rwa [← Nat.add_assoc] at this
 | [],x :: xs,k,cells,cs,h,hl,_ => by simp at hl
 | v :: vs,[],k,cells,cs,h,hl,_ => by simp at hl
theorem uJ {G : Gh} {a : AOpd → AV} (place : Nat → Option (Nat × Nat)) : ∀ (ps : List (Nat × Value)) (qs : List (Nat × Nat × AOpd)) (cs cs' : List AV) (cells : Array Value),RelL G cs cells → ps.length = qs.length →
  (∀ (i : Nat) p q,ps[i]? = some p → qs[i]? = some q → place p.1 = some (q.1,q.2.1) ∧ VR G (a q.2.2) p.2) → qF a cs qs = some cs' → ∃ cells',Instr.fill place cells ps = some cells' ∧ RelL G cs' cells'
 | [],[],cs,cs',cells,h,_,_,hf => by cases hf; exact ⟨cells,rfl,h⟩
 | (i,v) :: ps,(off,s,x) :: qs,cs,cs',cells,h,hl,hp,hf => by
  obtain ⟨h1,h2⟩:=hp 0 _ _ rfl rfl
  simp only at h1 h2
  simp only [qF] at hf
  split at hf
  ·rename_i hc
   simp only [Bool.and_eq_true,decide_eq_true_eq] at hc
   obtain ⟨hok,hsz,hfit⟩:=hc
   obtain ⟨g1,g2,_⟩:=h2.okCells hok
   have hlay:=aDU off v.cells.toList (a x).cells 0 cells cs h (by simpa using g1) (fun i y u hy hu => g2 i y u hy (by simpa using hu))
   have e : (v.cells.zipIdx.foldl (fun cs x => cs.setIfInBounds (off + x.2) x.1) cells) = ((v.cells.toList.zipIdx 0).foldl (fun cs p => cs.setIfInBounds (off + p.2) p.1) cells):=by
    rw [← Array.foldl_toList,Array.toList_zipIdx]
   obtain ⟨cells',h3,h4⟩:=uJ place ps qs _ cs' _ hlay (by simpa using hl) (fun i p q h1 h2 => hp (i + 1) p q (by simpa using h1) (by simpa using h2)) hf
   refine ⟨cells',?_,h4⟩
   have c1 : ¬ (v.cells.size ≠ s ∨ off + v.cells.size > cells.size):=by
    rw [g1,hsz,h.1]; omega
   simp only [Instr.fill,h1]
   rw [if_neg (by simpa using c1),e]
   exact h3
  ·cases hf
 | [],q :: qs,cs,cs',cells,h,hl,_,_ => by simp at hl
 | p :: ps,[],cs,cs',cells,h,hl,_,_ => by simp at hl
section ops
variable {P : Program} {G : Gh} {w : World} {o : Oper} {ρ : Operand → Value} {a : AOpd → AV} {S : St}
theorem aBR {α β : Type} (f : α → Sem β) (g : α → β) (w : World) : ∀ (l : List α),(∀ x ∈ l,(f x).run P w = .ok (g x) w) → (l.mapM f).run P w = .ok (l.map g) w
 | [],_ => by simp
 | x :: l,h => by
  simp [List.mapM_cons,h x (by simp),aBR f g w l (fun y hy => h y (by simp [hy]))]
theorem aFz {t : TypeId} {fs : Array Field} {z : List AV} {parts : Array (Nat × Operand)} {ps : List (Nat × Nat × AOpd)} {cs : List AV} (ho : o.op = .build t parts) (ht : P.underlying t = some (.struct fs)) (hz : iQ P t = some z)
  (hp : (parts.toList.mapM fun (i,x) => do let f ← fs[i]?; let j ← P.info? f.type; pure (f.offset,j.size,← aV x)) = some ps) (hall : (fs.all fun f => (P.info? f.type).isSome) = true) (h : dR G a ρ) (hv : qF a z ps = some cs) : fT P G w o ρ (.agg cs):=by
 obtain ⟨i,v,h1,h2,h3,h4,h5⟩:=kQ hz
 obtain ⟨hl,hm⟩:=bU hp
 let pl : Field → Nat × Nat:=fun f => (f.offset,((P.info? f.type).map (·.size)).getD 0)
 have hplaces := aBR (P := P) (fun f : Field => (Prod.mk f.offset <$> sizeOf f.type : Sem (Nat × Nat))) pl w fs.toList (fun f hf => by
  have hs:=Array.all_eq_true_iff_forall_mem.1 hall f (by simpa using hf)
  obtain ⟨j,hj⟩:=Option.isSome_iff_exists.1 hs
  simp [sizeOf, typeInfo, hj, pl])
 obtain ⟨cells', h6, h7⟩ := uJ (G := G) (a := a) (fun i => (fs.map pl)[i]?) ((parts.map fun x => (x.1, ρ x.2)).toList) ps z cs v.cells ⟨by rw [h3, h4], fun j x u => h5 G j x u⟩ (by simp [hl]) (fun k p q hp' hq => by
  obtain ⟨y,hy,hf⟩:=hm k q hq
  simp only [Array.toList_map,List.getElem?_map,hy,Option.map_some,Option.some.injEq] at hp'
  subst hp'
  obtain ⟨i',x'⟩:=y
  simp only [Option.bind_eq_bind,Option.bind_eq_some_iff,Option.pure_def,Option.some.injEq] at hf
  obtain ⟨f,hf1,j,hj,y',hy',rfl⟩:=hf
  exact ⟨by simp [hf1, pl, hj], h _ _ hy'⟩) hv
 refine ⟨.agg cells',?_,.agg _ _ h7.1 h7.2⟩
 simp [execOp,ho,Instr.build,zeroValue,typeInfo,h1,h2,run_underlying ht,Array.mapM_eq_mapM_toList,hplaces]
 simp at h6
 simp [h6]
theorem aEI {t e : TypeId} {n : Nat} {j : TypeInfo} {z : List AV} {parts : Array (Nat × Operand)} {ps : List (Nat × Nat × AOpd)} {cs : List AV} (ho : o.op = .build t parts) (ht : P.underlying t = some (.array n e)) (hz : iQ P t = some z) (hj : P.info? e = some j)
  (hp : (parts.toList.mapM fun (i,x) => do pure (i * j.size,j.size,← aV x)) = some ps) (h : dR G a ρ) (hv : qF a z ps = some cs) : fT P G w o ρ (.agg cs):=by
 obtain ⟨i,v,h1,h2,h3,h4,h5⟩:=kQ hz
 obtain ⟨hl,hm⟩:=bU hp
 obtain ⟨cells', h6, h7⟩ := uJ (G := G) (a := a) (fun i => some (i * j.size, j.size)) ((parts.map fun x => (x.1, ρ x.2)).toList) ps z cs v.cells ⟨by rw [h3, h4], fun j x u => h5 G j x u⟩ (by simp [hl]) (fun k p q hp' hq => by
  obtain ⟨y,hy,hf⟩:=hm k q hq
  simp only [Array.toList_map,List.getElem?_map,hy,Option.map_some,Option.some.injEq] at hp'
  subst hp'
  obtain ⟨i',x'⟩:=y
  simp only [Option.bind_eq_bind,Option.bind_eq_some_iff,Option.pure_def,Option.some.injEq] at hf
  obtain ⟨y',hy',rfl⟩:=hf
  exact ⟨rfl, h _ _ hy'⟩) hv
 refine ⟨.agg cells',?_,.agg _ _ h7.1 h7.2⟩
 simp [execOp,ho,Instr.build,zeroValue,typeInfo,h1,h2,run_underlying ht,sizeOf,hj]
 simp at h6
 simp [h6]
theorem aDL (z : List AV) (hz : 0 < z.length) : ∀ (n j : Nat),j < n * z.length → (rep z n)[j]? = z[j % z.length]?
 | 0,j,h => by omega
 | n + 1,j,h => by
  rw [rep]
  by_cases hj : j < z.length
  ·rw [List.getElem?_append_left hj,Nat.mod_eq_of_lt hj]
  ·rw [List.getElem?_append_right (by omega), aDL z hz n (j - z.length) (by rw [Nat.add_mul, Nat.one_mul] at h; omega)]
   congr 1
   rw [Nat.mod_eq_sub_mod (by omega : j ≥ z.length)]
theorem tD (z : List AV) : ∀ n,(rep z n).length = n * z.length
 | 0 => by simp [rep]
 | n + 1 => by rw [rep,List.length_append,tD z n,Nat.add_mul,Nat.one_mul,Nat.add_comm]
theorem aAg {z : List AV} {v : Value} (n : Nat) (hl : z.length = v.cells.size) (hz : 0 < z.length) (hr : ∀ (j : Nat) x u,z[j]? = some x → v.cells[j]? = some u → VR G x u) : RelL G (rep z n) ((Array.range (n * v.cells.size)).map (v.cells[· % v.cells.size]!)):=by
 refine ⟨by simp [tD,hl],fun i x u hx hu => ?_⟩
 have hi : i < n * v.cells.size:=by simpa using (Array.getElem?_eq_some_iff.1 hu).1
 rw [aDL z hz n i (by rw [hl]; exact hi)] at hx
 have hm : i % v.cells.size < v.cells.size:=Nat.mod_lt _ (by omega)
 have e : u = v.cells[i % v.cells.size]:=by
  simp [hi] at hu
  rw [← hu]; simp [hm]
 rw [hl] at hx
 exact hr _ x u hx (by rw [e]; exact Array.getElem?_eq_getElem hm)
def aGY (P : Program) (G : Gh) (w : World) (o : Oper) (ρ : Operand → Value) (s : Nat) (els : List AV) : Prop :=
 ∃ (us : Array Value) (T : TypeId) (c : Nat),(execOp ρ o).run P w = .ok (.value (.slice (some ⟨w.heap.size,0,none⟩) els.length c)) (w.alloc (.cells us T)) ∧ els.length ≤ c ∧ us.size = c * s ∧ (∀ (i : Nat) e,els[i]? = some e → e.cells.length = s) ∧
  ∀ (i : Nat) e (j : Nat) x,els[i]? = some e → e.cells[j]? = some x → ∃ u,us[i * s + j]? = some u ∧ VR G x u
theorem kI (ag : Bool) (s : Nat) : ∀ (n : Nat) (cs : List AV),(chunk ag s n cs).length = n
 | 0,_ => rfl
 | n + 1,cs => by rw [chunk,List.length_cons,kI]
theorem vZ (ag : Bool) (s : Nat) : ∀ (n : Nat) (cs : List AV) (i : Nat),i < n → (chunk ag s n cs)[i]? = some (if ag then .agg ((cs.drop (i * s)).take s) else (cs.drop (i * s)).headD .junk)
 | 0,cs,i,h => by omega
 | n + 1,cs,0,h => by simp [chunk]
 | n + 1,cs,i + 1,h => by
  rw [chunk,List.getElem?_cons_succ,vZ ag s n _ i (by omega),List.drop_drop]
  rw [show s + i * s = (i + 1) * s by rw [Nat.add_mul,Nat.one_mul,Nat.add_comm]]
theorem aHA {t e : TypeId} {j : TypeInfo} {z : List AV} {g : Option Nat} {len : Nat} {parts : Array (Nat × Operand)} {ps : List (Nat × AOpd)} {els : List AV} (ho : o.op = .buildSlice t len parts) (ht : P.underlying t = some (.slice e)) (hj : P.info? e = some j) (hz : iQ P e = some z) (hg : lP P e = some g)
  (hp : (parts.toList.mapM fun (i,x) => do pure (i,← aV x)) = some ps) (hs0 : 0 < j.size) (hs : len * j.size ≤ 2 ^ 24) (h : dR G a ρ) (hv : aop (.bsl j.size g.isSome z len ps) a S = some (.lit j.size els)) : aGY P G w o ρ j.size els:=by
 obtain ⟨i,v,h1,h2,h3,h4,h5⟩:=kQ hz
 rw [hj] at h1
 cases h1
 obtain ⟨hl,hm⟩:=bU hp
 simp only [aop,Option.bind_eq_some_iff] at hv
 obtain ⟨cs,hf,hv⟩:=hv
 split at hv
 ·rename_i hag
  simp only [Option.some.injEq,Res.lit.injEq,true_and] at hv
  subst hv
  have hzr:=aAg (G:=G) (z:=z) (v:=v) len (by rw [h4,h3]) (by rw [h4]; exact hs0) (fun q x u => h5 G q x u)
  obtain ⟨cells', h6, h7⟩ := uJ (G := G) (a := a) (fun i => some (i * j.size, j.size)) ((parts.map fun x => (x.1, ρ x.2)).toList) (ps.map fun (i, x) => (i * j.size, j.size, x)) (rep z len) cs _ hzr (by simp [hl]) (fun k p q hp' hq => by
   rw [List.getElem?_map,Option.map_eq_some_iff] at hq
   obtain ⟨q',hq',rfl⟩:=hq
   obtain ⟨y,hy,hf⟩:=hm k q' hq'
   simp only [Array.toList_map,List.getElem?_map,hy,Option.map_some,Option.some.injEq] at hp'
   subst hp'
   obtain ⟨i',x'⟩:=y
   simp only [Option.bind_eq_bind,Option.bind_eq_some_iff,Option.pure_def,Option.some.injEq] at hf
   obtain ⟨y',hy',rfl⟩:=hf
   exact ⟨rfl, h _ _ hy'⟩) hf
  have hcl : cs.length = len * j.size:=by
   have e1 : ∀ (qs : List (Nat × Nat × AOpd)) (c c' : List AV),qF a c qs = some c' → c'.length = c.length:=by
    intro qs
    induction qs with
    | nil => intro c c' hh; cases hh; rfl
    | cons q qs ih =>
     intro c c' hh
     obtain ⟨o1,s1,x1⟩:=q
     simp only [qF] at hh
     split at hh
     ·rw [ih _ _ hh,pM]
     ·cases hh
   rw [e1 _ _ _ hf,tD,h4]
  refine ⟨cells',e,len,?_,by rw [kI]; exact Nat.le_refl _,by rw [h7.1,hcl],?_,?_⟩
  ·have hne : ¬ (len * j.size > 2 ^ 24) := by omega
   have hsz : (sizeOf e).run P w = .ok j.size w:=by simp [sizeOf,typeInfo,hj]
   have hzv : (zeroValue e).run P w = .ok v w:=by simp [zeroValue,typeInfo,hj,h2]
   simp only [execOp,ho,Instr.buildSlice,Sem.run_bind,run_underlying ht,Result.andThen_ok,hsz,hne,if_false,Sem.run_pure,kI]
   rcases Nat.eq_zero_or_pos len with rfl | hlen
   ·simp only [Nat.zero_mul,if_true,Sem.run_bind,Sem.run_pure,Result.andThen_ok]
    have e1 : (Array.range 0).map (fun x => (#[] : Array Value)[x % (#[] : Array Value).size]!) = (Array.range (0 * v.cells.size)).map (v.cells[· % v.cells.size]!):=by simp
    rw [e1,h6]
    simp [newRow]
   have h0 : ¬ len * j.size = 0:=Nat.ne_of_gt (Nat.mul_pos hlen hs0)
   simp only [h0,if_false,Sem.run_bind,hzv,Result.andThen_ok,Sem.run_pure]
   have e1 : (Array.range (len * j.size)).map (v.cells[· % v.cells.size]!) = (Array.range (len * v.cells.size)).map (v.cells[· % v.cells.size]!):=by rw [h3]
   rw [e1,h6]
   simp [newRow]
  ·intro i' e' he
   have hi : i' < len:=by rw [← kI g.isSome j.size len cs]; exact (List.getElem?_eq_some_iff.1 he).1
   have hb : i' * j.size + j.size ≤ len * j.size:=by
    have:=Nat.mul_le_mul_right j.size hi
    rw [Nat.succ_mul] at this; exact this
   rw [vZ _ _ _ _ _ hi] at he
   cases hg' : g.isSome with
   | true =>
    rw [hg',if_pos rfl] at he
    cases he
    show ((cs.drop (i' * j.size)).take j.size).length = _
    simp; omega
   | false =>
    rcases hag with h | ⟨hs1,hsc⟩
    ·rw [hg'] at h; cases h
    rw [hg',if_neg (by simp)] at he
    cases he
    have hlt : i' * j.size < cs.length:=by rw [hcl,hs1]; omega
    rw [List.drop_eq_getElem_cons hlt]
    simp only [List.headD_cons]
    have hsc':=List.all_eq_true.1 hsc _ (List.getElem_mem hlt)
    have hcell : (cs[i' * j.size]).cells = [cs[i' * j.size]]:=by
     cases hx' : cs[i' * j.size] <;> first | rfl | (rw [hx'] at hsc'; cases hsc')
    rw [hcell]
    exact hs1.symm
  ·intro i' e' q x he hx
   have hi : i' < len:=by rw [← kI g.isSome j.size len cs]; exact (List.getElem?_eq_some_iff.1 he).1
   have hb : i' * j.size + j.size ≤ len * j.size:=by
    have:=Nat.mul_le_mul_right j.size hi
    rw [Nat.succ_mul] at this; exact this
   rw [vZ _ _ _ _ _ hi] at he
   have hcx : cs[i' * j.size + q]? = some x:=by
    cases hg' : g.isSome with
    | true =>
     rw [hg',if_pos rfl] at he
     cases he
     simp only [AV.cells] at hx
     rw [List.getElem?_take] at hx
     split at hx
     ·rw [List.getElem?_drop] at hx; exact hx
     ·cases hx
    | false =>
     rcases hag with h | ⟨hs1,hsc⟩
     ·rw [hg'] at h; cases h
     rw [hg',if_neg (by simp)] at he
     cases he
     have hlt : i' * j.size < cs.length:=by rw [hcl,hs1]; omega
     rw [List.drop_eq_getElem_cons hlt] at hx
     simp only [List.headD_cons] at hx
     have hsc':=List.all_eq_true.1 hsc _ (List.getElem_mem hlt)
     have hcell : (cs[i' * j.size]).cells = [cs[i' * j.size]]:=by
      cases hx' : cs[i' * j.size] <;> first | rfl | (rw [hx'] at hsc'; cases hsc')
     rw [hcell] at hx
     cases q with
     | zero => simp at hx; subst hx; exact List.getElem?_eq_getElem hlt
     | succ q => simp at hx
   have hlt : i' * j.size + q < cells'.size:=by rw [h7.1]; exact (List.getElem?_eq_some_iff.1 hcx).1
   exact ⟨cells'[i' * j.size + q],Array.getElem?_eq_getElem hlt,h7.2 _ _ _ hcx (Array.getElem?_eq_getElem hlt)⟩
 ·cases hv
def aFH (P : Program) (G : Gh) (w : World) (o : Oper) (ρ : Operand → Value) (cs : List AV) (n : Nat) : Prop :=
 ∃ (us : Array Value) (T : TypeId) (c : Nat),(execOp ρ o).run P w = .ok (.value (.slice (some ⟨w.heap.size,0,none⟩) n c)) (w.alloc (.cells us T)) ∧ n ≤ c ∧ RelL G cs us
theorem aFa {t e : TypeId} {j : TypeInfo} {z : List AV} {l c : Operand} {k1 k2 : IntKind} {n m : Int} (ho : o.op = .makeSlice t l c) (ht : P.underlying t = some (.slice e)) (hj : P.info? e = some j) (hz : iQ P e = some z) (hs0 : 0 < j.size)
  (hl : ρ l = .int k1 n) (hc : ρ c = .int k2 m) (h0 : 0 ≤ n) (h1 : n ≤ m) (h2 : m ≤ 65536) (h3 : j.bytes ≤ 65536) : aFH P G w o ρ (rep z m.toNat) n.toNat ∧ ∃ (us : Array Value) (T : TypeId),(execOp ρ o).run P w = .ok (.value (.slice (some ⟨w.heap.size,0,none⟩) n.toNat m.toNat)) (w.alloc (.cells us T)) ∧ us.size = m.toNat * j.size:=by
 obtain ⟨i,v,g1,g2,g3,g4,g5⟩:=kQ hz
 rw [hj] at g1
 cases g1
 have hzr:=aAg (G:=G) (z:=z) (v:=v) m.toNat (by rw [g4,g3]) (by rw [g4]; exact hs0) (fun q x u => g5 G q x u)
 have hb : (j.bytes : Int) * m ≤ 281474976710656:=by
  have : (j.bytes : Int) * m ≤ 65536 * 65536:=Int.mul_le_mul (by omega) h2 (by omega) (by omega)
  omega
 have hrun : (execOp ρ o).run P w = .ok (.value (.slice (some ⟨w.heap.size,0,none⟩) n.toNat m.toNat)) (w.alloc (.cells ((Array.range (m.toNat * v.cells.size)).map (v.cells[· % v.cells.size]!)) e)):=by
  have:=run_make (P:=P) w t e j v ht hj g2 k1 k2 n m h0 h1 hb (by omega)
  rw [← g3] at this
  simp only [execOp,ho,hl,hc,Sem.run_bind,this,Result.andThen_ok,Sem.run_pure]
  rfl
 exact ⟨⟨_,e,m.toNat,hrun,by omega,hzr⟩,_,e,hrun,by simp [g3]⟩
def aFR (P : Program) (G : Gh) (w : World) (o : Oper) (ρ : Operand → Value) (s : Nat) (t : Option Nat) (els news : List AV) : Prop :=
 ∃ (B c : Nat) (us : Array Value) (T : TypeId) (w' : World),(execOp ρ o).run P w = .ok (.value (.slice (some ⟨B,0,none⟩) (els ++ news).length c)) w' ∧ (els ++ news).length ≤ c ∧ us.size = c * s ∧
  (∀ (i : Nat) e,(els ++ news)[i]? = some e → e.cells.length = s) ∧ (∀ (i : Nat) e (j : Nat) x,(els ++ news)[i]? = some e → e.cells[j]? = some x → ∃ u,us[i * s + j]? = some u ∧ VR G x u) ∧
  ((B = w.heap.size ∧ w' = w.drew.alloc (.cells us T)) ∨ ∃ t' old,t = some t' ∧ G.tb t' els.length = some (.blk B s c) ∧ w.heap[B]? = some (.cells old T (0,0)) ∧ w' = w.setRow B us ∧ old.size = us.size ∧ ∀ k,k < els.length * s → us[k]? = old[k]?)
def kP (us : Nat → Value) (n : Nat) : List Value:=(List.range n).map us
theorem kU (us : Nat → Value) (n j : Nat) : (kP us n)[j]? = if j < n then some (us j) else none:=by
 unfold kP
 rw [List.getElem?_map]
 by_cases h : j < n
 ·rw [if_pos h,List.getElem?_range h]; rfl
 ·rw [if_neg h,List.getElem?_eq_none (by simpa using h)]; rfl
theorem vR (us : Nat → Value) (n : Nat) : (kP us n).length = n:=by simp [kP]
theorem tQ {els : List AV} {s : Nat} (hs : ∀ (i : Nat) e,els[i]? = some e → e.cells.length = s) (hs0 : 0 < s) {k : Nat} (hk : k < els.length * s) : ∃ e x,els[k / s]? = some e ∧ e.cells[k % s]? = some x ∧ k = k / s * s + k % s:=by
 have h1 : k / s < els.length:=(Nat.div_lt_iff_lt_mul hs0).2 hk
 have h2:=hs _ _ (List.getElem?_eq_getElem h1)
 have h3 : k % s < (els[k / s]).cells.length:=by rw [h2]; exact Nat.mod_lt _ hs0
 exact ⟨els[k / s],(els[k / s]).cells[k % s],List.getElem?_eq_getElem h1,List.getElem?_eq_getElem h3,by rw [Nat.mul_comm]; exact (Nat.div_add_mod k s).symm⟩
theorem qL {els : List AV} {s : Nat} (hs : ∀ (i : Nat) e,els[i]? = some e → e.cells.length = s) {i j : Nat} {e x : AV} (h1 : els[i]? = some e) (h2 : e.cells[j]? = some x) : i * s + j < els.length * s:=by
 have a1 : i < els.length:=(List.getElem?_eq_some_iff.1 h1).1
 have a2 : j < s:=by rw [← hs i e h1]; exact (List.getElem?_eq_some_iff.1 h2).1
 have:=Nat.mul_le_mul_right s a1
 rw [Nat.succ_mul] at this
 omega
theorem vI (t ty e T : TypeId) (i : TypeInfo) (ht : P.underlying t = some (.slice e)) (hi : P.info? e = some i)
  (g sLen sCap : Nat) (cur : Array Value) (hg : w.heap[g]? = some (.cells cur T (0,0)))
  (a : Addr) (m c : Nat) (news : List Value) (hl : news.length = m * i.size) (hnews : ∀ j u,news[j]? = some u → w.cell? (a.add j) = some u) (h1 : ∀ u ∈ news,u.oneCell' = true)
  (hroom : sLen + m ≤ sCap) (hfit : sLen * i.size + news.length ≤ cur.size) :
  (Builtin.append_ #[t,t] ty #[.slice (some ⟨g,0,none⟩) sLen sCap,.slice (some a) m c]).run P w =
   .ok (.slice (some ⟨g,0,none⟩) (sLen + m) sCap) (w.setRow g (cur.toList.take (sLen * i.size) ++ news ++ cur.toList.drop (sLen * i.size + news.length)).toArray):=by
 have hf:=run_firstCells_some (P:=P) w i.size m a m c news hl hnews
 have hst:=run_storeCells_at P g (sLen * i.size) T news 0 cur w hg (by simpa using hfit) h1
 simp only [Nat.add_zero] at hst
 simp [Builtin.append_,run_underlying ht,sizeOf,typeInfo,hi,Builtin.lenOf,hroom,hf,Addr.add_lit,hst]
theorem VR.tok {G : Gh} {els : List AV} {t : Nat} {u : Value} (h : VR G (.sl els (some t)) u) : ∃ k v,G.tb t k = some v:=by
 cases h with
 | slt _ _ s B c us hb => exact ⟨_,_,hb⟩
 | slt0 _ hb => exact ⟨_,_,hb⟩
theorem aHD {t e : TypeId} {j : TypeInfo} {z : List AV} {sx x : Operand} {sx' x' : AOpd} {tk : Option Nat} {es : Nat} {els news : List AV} (ho : o.op = .call { callee:=.builtin .append,args:=#[sx,x],argTypes:=#[t,t] }) (ht : P.underlying t = some (.slice e)) (hj : P.info? e = some j) (hz : iQ P e = some z) (hs0 : 0 < j.size)
  (hx : aV x = some x') (hsx : aV sx = some sx') (h : dR G a ρ) (hI : Inv G S w) (hv : aop (.app sx' x' j.size j.bytes z) a S = some (.app es tk els news)) : es = j.size ∧ aFR P G w o ρ es tk els news ∧ (∀ t',tk = some t' → S.lv[t']? = some (els.length,es) ∧ ∃ k v,G.tb t' k = some v) ∧ (tk = none → els = []) ∧ news ≠ []:=by
 obtain ⟨zi,zv,g1,g2,g3,g4,g5⟩:=kQ hz
 rw [hj] at g1
 cases g1
 have r1:=h x x' hx
 have r2:=h sx sx' hsx
 simp only [aop] at hv
 cases hnw : tF (a x') with
 | none => rw [hnw] at hv; cases hv
 | some nw =>
  rw [hnw] at hv
  simp only [] at hv
  split at hv
  ·rename_i hall
   simp only [Bool.and_eq_true,List.all_eq_true,decide_eq_true_eq] at hall
   obtain ⟨hcells,hby⟩:=hall
   -- the new ones' cells
   have hnews : nw ≠ [] → ∃ (ad : Addr) (c : Nat) (us : Nat → Value),ρ x = .slice (some ad) nw.length c ∧ (∀ q,q < nw.length * j.size → w.cell? (ad.add q) = some (us q)) ∧ (∀ (i : Nat) el (q : Nat) y,nw[i]? = some el → el.cells[q]? = some y → VR G y (us (i * j.size + q))):=by
    intro hne
    cases hax : a x' <;> rw [hax] at hnw <;> simp only [tF,Option.some.injEq,reduceCtorEq] at hnw
    ·exact absurd hnw.symm hne
    ·subst hnw
     rw [hax] at r1
     obtain ⟨A,c,hu,hrest⟩:=r1.inv_sl
     obtain ⟨s,B,O,us,rfl,hc,hs,hf,hvr⟩:=hrest hne
     have hss : s = j.size:=by
      obtain ⟨e0,l0,he0⟩:=List.exists_cons_of_ne_nil hne
      have h3:=hs 0 e0 (by rw [he0]; rfl)
      rw [← h3]; exact (hcells e0 (by rw [he0]; simp)).1
     subst hss
     refine ⟨⟨B,O,none⟩,c,us,hu,fun q hq => ?_,fun i el q y h1 h2 => hvr i el q y h1 h2⟩
     obtain ⟨el,y,h1,h2,h3⟩:=tQ (fun i el hel => hs i el hel) hs0 hq
     have:=hI.fz _ _ _ (hf _ _ _ _ h1 h2)
     rw [← h3] at this
     rw [Addr.add_lit]; exact this
   have hone : ∀ (us : Nat → Value),(∀ (i : Nat) el (q : Nat) y,nw[i]? = some el → el.cells[q]? = some y → VR G y (us (i * j.size + q))) → ∀ u ∈ kP us (nw.length * j.size),u.oneCell' = true:=by
    intro us hus u hu
    obtain ⟨q,hq,rfl⟩:=List.mem_map.1 hu
    have hq:=List.mem_range.1 hq
    obtain ⟨el,y,h1,h2,h3⟩:=tQ (fun i el hel => (hcells el (List.mem_of_getElem? hel)).1) hs0 hq
    rw [h3]
    exact (hus _ _ _ _ h1 h2).scalar ((wP (hcells el (List.mem_of_getElem? h1)).2).2 y (List.mem_of_getElem? h2))
   have hpl : ∀ (i : Nat) el,(nw.map AV.plain)[i]? = some el → el.cells.length = j.size:=by
    intro i el hel
    rw [List.getElem?_map,Option.map_eq_some_iff] at hel
    obtain ⟨el0,h1,rfl⟩:=hel
    rw [AV.plain_cells]
    exact (hcells el0 (List.mem_of_getElem? h1)).1
   have hplv : ∀ (us : Nat → Value),(∀ (i : Nat) el (q : Nat) y,nw[i]? = some el → el.cells[q]? = some y → VR G y (us (i * j.size + q))) → ∀ (i : Nat) el (q : Nat) y,(nw.map AV.plain)[i]? = some el → el.cells[q]? = some y → VR G y (us (i * j.size + q)):=by
    intro us hus i el q y hel hy
    rw [List.getElem?_map,Option.map_eq_some_iff] at hel
    obtain ⟨el0,h1,rfl⟩:=hel
    have hsome : ∃ y0,el0.cells[q]? = some y0 ∧ y = y0.plain1:=by
     cases el0 with
     | agg cs =>
      simp only [AV.plain,AV.cells,List.getElem?_map,Option.map_eq_some_iff] at hy
      obtain ⟨y0,h2,rfl⟩:=hy
      exact ⟨y0,h2,rfl⟩
     | sl els tk =>
      cases q with
      | zero => simp [AV.plain,AV.plain1,AV.cells] at hy ⊢; exact hy.symm
      | succ q => simp [AV.plain,AV.plain1,AV.cells] at hy
     | _ => exact ⟨y, hy, by
       cases q with
       | zero => simp [AV.plain,AV.plain1,AV.cells] at hy; subst hy; rfl
       | succ q => simp [AV.plain, AV.plain1, AV.cells] at hy⟩
    obtain ⟨y0,h2,rfl⟩:=hsome
    exact (hus i el0 q y0 h1 h2).plain1
   -- from nothing
   have hnil : ρ sx = .slice none 0 0 → nw ≠ [] → nw.length ≤ 65536 → ∀ tk,aFR P G w o ρ j.size tk [] (nw.map AV.plain):=by
    intro hs hne hlen tk
    obtain ⟨ad,c,us,hu,hcell,hvr⟩:=hnews hne
    have hfl:=vR us (nw.length * j.size)
    have hpos : 0 < nw.length:=List.length_pos_iff.2 hne
    have hbb : nw.length * j.bytes ≤ 281474976710656:=by
     have : nw.length * j.bytes ≤ 65536 * 65536:=Nat.mul_le_mul hlen hby
     omega
    have hr := run_append_nil (P := P) w t o.type e j zv ht hj g2 ad nw.length c (kP us (nw.length * j.size)) hfl (fun q u hq => by
     rw [kU] at hq
     split at hq
     ·cases hq; exact hcell q ‹_›
     ·cases hq) hpos (by omega) hbb
    have hge:=grownCap_ge w nw.length 0 e
    refine ⟨w.heap.size,grownCap w nw.length 0 e,(kP us (nw.length * j.size)).toArray ++ Builtin.zeroCells zv.cells (grownCap w nw.length 0 e - nw.length),e,_,?_,?_,?_,?_,?_,.inl ⟨rfl,rfl⟩⟩
    ·simp only [execOp,ho,resolve,invoke,builtin,Sem.run_bind,Sem.run_pure,Result.andThen_ok,List.map_toArray,List.map_cons,List.map_nil,hs,hu,hr,List.nil_append,List.length_map]
    ·simpa using hge
    ·simp only [Array.size_append,List.size_toArray,hfl,size_zeroCells,g3,← Nat.add_mul]
     congr 1; omega
    ·intro i el hel; exact hpl i el (by simpa using hel)
    ·intro i el q y hel hy
     rw [List.nil_append] at hel
     have hlt:=qL hpl hel hy
     rw [List.length_map] at hlt
     refine ⟨us (i * j.size + q),?_,hplv us hvr i el q y hel hy⟩
     rw [Array.getElem?_append_left (by simpa [hfl] using hlt),List.getElem?_toArray,kU,if_pos hlt]
   split at hv
   ·rename_i e1
    rw [e1] at r2
    split at hv
    ·rename_i hlen
     split at hv
     ·cases hv
     ·rename_i hne
      simp only [Option.some.injEq,Res.app.injEq] at hv
      obtain ⟨rfl,rfl,rfl,rfl⟩:=hv
      have hne' : nw ≠ []:=by rintro rfl; simp at hne
      exact ⟨rfl,hnil r2.inv_nils hne' hlen _,by simp,by simp,by simpa using hne'⟩
    ·cases hv
   ·rename_i els0 t0 e1
    rw [e1] at r2
    split at hv
    ·rename_i hc
     obtain ⟨hlv,hlen,hsz⟩:=hc
     split at hv
     ·cases hv
     ·rename_i hne
      simp only [Option.some.injEq,Res.app.injEq] at hv
      obtain ⟨rfl,rfl,rfl,rfl⟩:=hv
      have hne' : nw ≠ []:=by rintro rfl; simp at hne
      have htk:=r2.tok
      refine ⟨rfl,?_,fun t' ht' => (by cases ht'; exact ⟨hlv,htk⟩),fun h => (by cases h),by simpa using hne'⟩
      generalize hu2 : ρ sx = u2 at r2
      cases r2 with
      | slt0 _ hb => exact hnil hu2 hne' (by omega) _
      | slt _ _ s B c us0 hb hn hs hf hvr0 =>
       obtain ⟨rfl,⟨cur,T,k1,k2⟩,k3,k4⟩:=hI.tok _ _ _ _ _ _ hlv hb
       obtain ⟨ad,c2,us,hu,hcell,hvr⟩:=hnews hne'
       have hfl:=vR us (nw.length * j.size)
       have hget : ∀ q u,(kP us (nw.length * j.size))[q]? = some u → w.cell? (ad.add q) = some u:=fun q u hq => by
        rw [kU] at hq
        split at hq
        ·cases hq; exact hcell q ‹_›
        ·cases hq
       have hold : ∀ q,q < els0.length * j.size → ∃ e0 x0,els0[q / j.size]? = some e0 ∧ e0.cells[q % j.size]? = some x0 ∧ cur[q]? = some (us0 q):=by
        intro q hq
        obtain ⟨e0,x0,h1,h2,h3⟩:=tQ hs hs0 hq
        have:=hI.fz _ _ _ (hf _ _ _ _ h1 h2)
        rw [← h3] at this
        exact ⟨e0,x0,h1,h2,by simpa [World.cell?,k1] using this⟩
       have hall : ∀ (i : Nat) el,(els0 ++ nw.map AV.plain)[i]? = some el → el.cells.length = j.size:=by
        intro i el hel
        rw [List.getElem?_append] at hel
        split at hel
        ·exact hs i el hel
        ·exact hpl _ el hel
       have hlt : (els0 ++ nw.map AV.plain).length * j.size = els0.length * j.size + nw.length * j.size:=by rw [List.length_append,List.length_map,Nat.add_mul]
       -- cells of old and new elements in one list
       have hread : ∀ (M : Nat → Option Value),(∀ q,q < els0.length * j.size → M q = some (us0 q)) → (∀ q,q < nw.length * j.size → M (els0.length * j.size + q) = some (us q)) →
         ∀ (i : Nat) el (q : Nat) y,(els0 ++ nw.map AV.plain)[i]? = some el → el.cells[q]? = some y → ∃ u,M (i * j.size + q) = some u ∧ VR G y u:=by
        intro M hM1 hM2 i el q y hel hy
        rw [List.getElem?_append] at hel
        split at hel
        ·have:=qL hs hel hy
         exact ⟨_,hM1 _ this,hvr0 i el q y hel hy⟩
        ·rename_i hge
         have:=qL hpl hel hy
         rw [List.length_map] at this
         refine ⟨us ((i - els0.length) * j.size + q),?_,hplv us hvr _ el q y hel hy⟩
         rw [← hM2 _ this]
         congr 1
         have : i * j.size = els0.length * j.size + (i - els0.length) * j.size:=by rw [← Nat.add_mul]; congr 1; omega
         omega
       by_cases hroom : els0.length + nw.length ≤ c
       ·have hfit : els0.length * j.size + (kP us (nw.length * j.size)).length ≤ cur.size := by rw [hfl, k2, ← Nat.add_mul]; exact Nat.mul_le_mul_right _ hroom
        have hr:=vI (P:=P) (w:=w) t o.type e T j ht hj B els0.length c cur k1 ad nw.length c2 (kP us (nw.length * j.size)) hfl hget (hone us hvr) hroom hfit
        have hcl : els0.length * j.size + (kP us (nw.length * j.size)).length ≤ cur.toList.length:=by rw [Array.length_toList]; exact hfit
        refine ⟨B,c,(cur.toList.take (els0.length * j.size) ++ kP us (nw.length * j.size) ++ cur.toList.drop (els0.length * j.size + (kP us (nw.length * j.size)).length)).toArray,T,_,?_,by simpa using hroom,?_,hall,?_,.inr ⟨t0,cur,rfl,hb,k1,rfl,?_,?_⟩⟩
        ·simp only [execOp,ho,resolve,invoke,builtin,Sem.run_bind,Sem.run_pure,Result.andThen_ok,List.map_toArray,List.map_cons,List.map_nil,hu2,hu,hr,List.length_append,List.length_map]
        ·rw [List.size_toArray,aDJ _ _ _ hcl,Array.length_toList,k2]
        ·refine hread (fun q => _) (fun q hq => ?_) (fun q hq => ?_)
         ·rw [List.getElem?_toArray, xN _ _ _ hcl, if_neg (by omega)]
          obtain ⟨_,_,_,_,h5⟩:=hold q hq
          simpa using h5
         ·rw [List.getElem?_toArray,xN _ _ _ hcl,if_pos (by rw [hfl]; omega),Nat.add_sub_cancel_left,kU,if_pos hq]
        ·exact (Array.length_toList (xs:=cur)).symm.trans ((aDJ _ _ _ hcl).symm.trans List.size_toArray.symm)
        ·intro k hk
         rw [List.getElem?_toArray,xN _ _ _ hcl,if_neg (by omega)]
         simp
       ·have holds : ∀ q u,(kP us0 (els0.length * j.size))[q]? = some u → w.cell? (Addr.add ⟨B,0,none⟩ q) = some u:=fun q u hq => by
         rw [kU] at hq
         split at hq
         ·cases hq
          obtain ⟨_,_,_,_,h5⟩:=hold q ‹_›
          rw [Addr.add_lit,Nat.zero_add]
          simpa [World.cell?,k1] using h5
         ·cases hq
        have hfo:=vR us0 (els0.length * j.size)
        have hbb : (els0.length + nw.length) * j.bytes ≤ 140737488355328:=by
         have : (els0.length + nw.length) * j.bytes ≤ 65536 * 65536:=Nat.mul_le_mul hlen hby
         omega
        have hr:=run_append_grow (P:=P) w t o.type e j zv ht hj g2 ⟨B,0,none⟩ els0.length c (kP us0 (els0.length * j.size)) hfo holds ad nw.length c2 (kP us (nw.length * j.size)) hfl hget (by omega) (by omega) (growslice_fits (by omega) hbb)
        have hge:=grownCap_ge w (els0.length + nw.length) c e
        refine ⟨w.heap.size,grownCap w (els0.length + nw.length) c e,(kP us0 (els0.length * j.size)).toArray ++ (kP us (nw.length * j.size)).toArray ++ Builtin.zeroCells zv.cells (grownCap w (els0.length + nw.length) c e - (els0.length + nw.length)),e,_,?_,?_,?_,hall,?_,.inl ⟨rfl,rfl⟩⟩
        ·simp only [execOp,ho,resolve,invoke,builtin,Sem.run_bind,Sem.run_pure,Result.andThen_ok,List.map_toArray,List.map_cons,List.map_nil,hu2,hu,hr,List.length_append,List.length_map]
        ·simpa using hge
        ·simp only [Array.size_append,List.size_toArray,hfl,hfo,size_zeroCells,g3,← Nat.add_mul]
         congr 1; omega
        ·refine hread (fun q => _) (fun q hq => ?_) (fun q hq => ?_)
         ·rw [Array.append_assoc,Array.getElem?_append_left (by simpa [hfo] using hq),List.getElem?_toArray,kU,if_pos hq]
         ·rw [Array.append_assoc,Array.getElem?_append_right (by simp [hfo]),List.size_toArray,hfo,Nat.add_sub_cancel_left,Array.getElem?_append_left (by simpa [hfl] using hq),List.getElem?_toArray,kU,if_pos hq]
    ·cases hv
   ·cases hv
  ·cases hv
end ops
end
section
open Go.RowKit
theorem Inv.fzlt {G : Gh} {S : St} {w : World} (hI : Inv G S w) {b o : Nat} {u : Value} (h : G.fz b o = some u) : b < w.heap.size:=by
 have:=hI.fz b o u h
 unfold World.cell? at this
 split at this
 ·rename_i h'; exact (Array.getElem?_eq_some_iff.1 h').1
 ·cases this
theorem Inv.fznew {G : Gh} {S : St} {w : World} (hI : Inv G S w) (o : Nat) : G.fz w.heap.size o = none:=by
 cases h : G.fz w.heap.size o with
 | none => rfl
 | some u => exact absurd (hI.fzlt h) (Nat.lt_irrefl _)
theorem Inv.toklt {G : Gh} {S : St} {w : World} (hI : Inv G S w) {t n s0 B s c : Nat} (h1 : S.lv[t]? = some (n,s0)) (h2 : G.tb t n = some (.blk B s c)) : B < w.heap.size:=by
 obtain ⟨_,⟨us,T,h,_⟩,_⟩:=hI.tok t n s0 B s c h1 h2
 exact (Array.getElem?_eq_some_iff.1 h).1
theorem gQ {w w' : World} {b : Nat} (h : w'.heap[b]? = w.heap[b]?) (o : Nat) : w'.cell? ⟨b,o,none⟩ = w.cell? ⟨b,o,none⟩:=by simp [World.cell?,h]
theorem rU (w : World) (x : Obj) : ∀ (k : Nat) (o : Obj),w.heap[k]? = some o → o.isCells = false → (w.alloc x).heap[k]? = some o:=(KeepsOthers.alloc w x).same
theorem aDM {w : World} {B : Nat} {us0 : Array Value} {T : TypeId} {r : Nat × Nat} (us : Array Value) (h : w.heap[B]? = some (.cells us0 T r)) : ∀ (k : Nat) (o : Obj),w.heap[k]? = some o → o.isCells = false → (w.setRow B us).heap[k]? = some o:=fun k o hk ho => by
 have hne : k ≠ B:=by
  rintro rfl
  rw [h] at hk; cases hk; cases ho
 rw [setRow_other w B k us hne]; exact hk
theorem xV {G : Gh} {w : World} (o : Obj) (h : ∀ B m,G.sz B = some m → ∃ us T,w.heap[B]? = some (.cells us T (0,0)) ∧ us.size = m) : ∀ B m,G.sz B = some m → ∃ us T,(w.alloc o).heap[B]? = some (.cells us T (0,0)) ∧ us.size = m:=fun B m hm => by
 obtain ⟨us,T,h1,h2⟩:=h B m hm
 exact ⟨us,T,by rw [Below.heap_alloc w _ B (Array.getElem?_eq_some_iff.1 h1).1]; exact h1,h2⟩
theorem aHe {G : Gh} {w w' : World} (h : ∀ B m,G.sz B = some m → ∃ us T,w.heap[B]? = some (.cells us T (0,0)) ∧ us.size = m) (ho : ∀ B,B < w.heap.size → w'.heap[B]? = w.heap[B]?) : ∀ B m,G.sz B = some m → ∃ us T,w'.heap[B]? = some (.cells us T (0,0)) ∧ us.size = m:=fun B m hm => by
 obtain ⟨us,T,h1,h2⟩:=h B m hm
 exact ⟨us,T,by rw [ho B (Array.getElem?_eq_some_iff.1 h1).1]; exact h1,h2⟩
theorem aER {G : Gh} {w : World} {B0 : Nat} {vs vs0 : Array Value} {T0 : TypeId} (hB : w.heap[B0]? = some (.cells vs0 T0 (0,0))) (he : vs.size = vs0.size) (h : ∀ B m,G.sz B = some m → ∃ us T,w.heap[B]? = some (.cells us T (0,0)) ∧ us.size = m) : ∀ B m,G.sz B = some m → ∃ us T,(w.setRow B0 vs).heap[B]? = some (.cells us T (0,0)) ∧ us.size = m:=fun B m hm => by
 obtain ⟨us1,T,h1,h2⟩:=h B m hm
 by_cases hb : B = B0
 ·subst hb
  rw [hB] at h1; cases h1
  exact ⟨vs,T0,setRow_heap w B vs0 vs T0 _ hB,he.trans h2⟩
 ·exact ⟨us1,T,by rw [setRow_other w B0 B vs hb]; exact h1,h2⟩
def Gh.box (G : Gh) (n B : Nat) : Gh:={ G with al:=fun k => if k = n then some B else G.al k }
theorem aAM {G : Gh} {S : St} {w : World} (hI : Inv G S w) (cs : List AV) (us : Array Value) (T : TypeId) (h : RelL G cs us) :
  (G.box S.bx.length w.heap.size).al S.bx.length = some w.heap.size ∧ Inv (G.box S.bx.length w.heap.size) ⟨S.bx ++ [cs],S.lv⟩ (w.alloc (.cells us T)) ∧ Gro G S w (G.box S.bx.length w.heap.size) ⟨S.bx ++ [cs],S.lv⟩ (w.alloc (.cells us T)):=by
 have hle : G.le (G.box S.bx.length w.heap.size) := ⟨fun b B hb => by
  have:=(hI.dal b B hb).1
  simp only [Gh.box]; rw [if_neg (by omega)]; exact hb, fun _ _ _ h => h, fun _ _ _ h => h, fun _ _ h => h⟩
 have hold : ∀ b,b < w.heap.size → (w.alloc (.cells us T)).heap[b]? = w.heap[b]?:=fun b hb => Below.heap_alloc w _ b hb
 refine ⟨by simp [Gh.box],⟨?_,?_,?_,?_,hI.dtb,?_,hI.injT,?_,hI.gl,xV _ hI.sz⟩,⟨hle,rfl,rfl,rfl,by simp,fun B hB _ => ⟨hold B hB,fun _ => rfl⟩,?_,rU w _⟩⟩
 ·intro b B cs' hb hcs
  simp only [Gh.box] at hb
  split at hb
  ·rename_i hbn
   subst hbn
   cases hb
   simp only [List.getElem?_append_right (Nat.le_refl _),Nat.sub_self,List.getElem?_cons_zero,Option.some.injEq] at hcs
   subst hcs
   exact .inr ⟨us,T,heap_alloc_new w _,Nat.le_of_eq h.1.symm,fun i x u h1 h2 => (h.2 i x u h1 h2).mono hle,hI.fznew⟩
  ·have hd:=hI.dal b B hb
   rw [List.getElem?_append_left hd.1] at hcs
   rcases hI.box b B cs' hb hcs with h0 | ⟨us',T',k1,k2,k3,k4⟩
   ·exact .inl h0
   ·exact .inr ⟨us',T',by rw [hold B hd.2]; exact k1,k2,fun i x u h1 h2 => (k3 i x u h1 h2).mono hle,k4⟩
 ·intro t n s0 B s c h1 h2
  obtain ⟨k1,⟨us',T',k2,k3⟩,k4⟩:=hI.tok t n s0 B s c h1 h2
  exact ⟨k1,⟨us',T',by rw [hold B (hI.toklt h1 h2)]; exact k2,k3⟩,k4⟩
 ·intro b o u hf
  rw [gQ (hold b (hI.fzlt hf))]
  exact hI.fz b o u hf
 ·intro b B hb
  simp only [Gh.box] at hb
  split at hb
  ·rename_i hbn; subst hbn; cases hb; simp
  ·have:=hI.dal b B hb; simp; omega
 ·intro b b' B h1 h2
  simp only [Gh.box] at h1 h2
  split at h1 <;> split at h2
  ·omega
  ·cases h1; have:=hI.dal _ _ h2; omega
  ·cases h2; have:=hI.dal _ _ h1; omega
  ·exact hI.injA _ _ _ h1 h2
 ·intro b B t n s0 s c h1 h2 h3
  simp only [Gh.box] at h1
  split at h1
  ·cases h1; have:=hI.toklt h2 h3; omega
  ·exact hI.sep b B t n s0 s c h1 h2 h3
 ·rintro B (⟨b,hb⟩ | ⟨t,n,s0,s,c,h1,h2⟩)
  ·simp only [Gh.box] at hb
   split at hb
   ·cases hb; exact .inr (Nat.le_refl _)
   ·exact .inl (.inl ⟨b,hb⟩)
  ·exact .inl (.inr ⟨t,n,s0,s,c,h1,h2⟩)
theorem aGa {G : Gh} {S : St} {w : World} (hI : Inv G S w) {b B : Nat} {cs old : List AV} {us us0 : Array Value} {T : TypeId} (hb : G.al b = some B) (hB : w.heap[B]? = some (.cells us0 T (0,0))) (hold : S.bx[b]? = some old) (h : cs.length ≤ us.size ∧ ∀ (i : Nat) x u,cs[i]? = some x → us[i]? = some u → VR G x u) (hf : ∀ o,G.fz B o = none) (hsz : us0.size = us.size) :
  Inv G ⟨S.bx.set b cs,S.lv⟩ (w.setRow B us) ∧ Gro G S w G ⟨S.bx.set b cs,S.lv⟩ (w.setRow B us):=by
 have hother : ∀ k,k ≠ B → (w.setRow B us).heap[k]? = w.heap[k]?:=fun k hk => setRow_other w B k us hk
 have hblt:=(List.getElem?_eq_some_iff.1 hold).1
 refine ⟨⟨?_,?_,?_,?_,hI.dtb,hI.injA,hI.injT,hI.sep,hI.gl,aER hB hsz.symm hI.sz⟩,⟨.refl G,rfl,rfl,rfl,by simp [World.setRow],fun k _ hk => ⟨hother k fun e => hk (.inl ⟨b,e ▸ hb⟩),fun _ => rfl⟩,fun B' ho => .inl ho,aDM us hB⟩⟩
 ·intro b' B' cs' hb' hcs'
  by_cases he : b' = b
  ·subst he
   rw [hb] at hb'; cases hb'
   rw [List.getElem?_set_self hblt] at hcs'
   cases hcs'
   exact .inr ⟨us,T,setRow_heap w B us0 us T _ hB,h.1,h.2,hf⟩
  ·rw [List.getElem?_set_ne (Ne.symm he)] at hcs'
   have hne : B' ≠ B:=fun e => he (hI.injA _ _ _ (e ▸ hb') hb)
   rcases hI.box b' B' cs' hb' hcs' with h0 | ⟨us',T',k1,k2,k3,k4⟩
   ·exact .inl h0
   ·exact .inr ⟨us',T',by rw [hother B' hne]; exact k1,k2,k3,k4⟩
 ·intro t n s0 B' s c h1 h2
  obtain ⟨k1,⟨us',T',k2,k3⟩,k4⟩:=hI.tok t n s0 B' s c h1 h2
  have hne : B' ≠ B:=fun e => hI.sep b B t n s0 s c hb h1 (e ▸ h2)
  exact ⟨k1,⟨us',T',by rw [hother B' hne]; exact k2,k3⟩,k4⟩
 ·intro b' o u hf'
  have hne : b' ≠ B:=by rintro rfl; rw [hf o] at hf'; cases hf'
  rw [gQ (hother b' hne)]
  exact hI.fz b' o u hf'
 ·intro b' B' hb'
  have:=hI.dal b' B' hb'
  exact ⟨by simpa using this.1,by simpa [World.setRow] using this.2⟩
def Gh.lit (G : Gh) (t n B s c : Nat) (us : Array Value) : Gh :=
 { G with tb:=fun t' n' => if t' = t ∧ n' = n then some (.blk B s c) else G.tb t' n',fz:=fun b o => if b = B ∧ o < n * s then us[o]? else G.fz b o }
theorem aHo {G : Gh} {S : St} {w : World} (hI : Inv G S w) (t n s c : Nat) (us : Array Value) (ht : ∀ v,G.tb t n ≠ some v) : G.le (G.lit t n w.heap.size s c us) :=
 ⟨fun _ _ h => h, fun t' n' v h => by
  simp only [Gh.lit]
  rw [if_neg]
  ·exact h
  ·rintro ⟨rfl,rfl⟩; exact ht v h,fun b o u h => by
  simp only [Gh.lit]
  rw [if_neg]
  ·exact h
  ·rintro ⟨rfl, _⟩; exact absurd (hI.fzlt h) (Nat.lt_irrefl _), fun _ _ h => h⟩
theorem xO {G : Gh} {S : St} {w : World} (hI : Inv G S w) (lv : List (Nat × Nat)) (t : Nat) (els : List AV) (s c : Nat) (us : Array Value) (T : TypeId)
  (ht : lv[t]? = some (els.length,s)) (hlv : ∀ t' m,t' ≠ t → (lv[t']? = some m ↔ S.lv[t']? = some m)) (hnew : ∀ n v,G.tb t n = some v → n < els.length)
  (hc : els.length ≤ c) (hsz : us.size = c * s) (hs : ∀ (i : Nat) e,els[i]? = some e → e.cells.length = s) (hv : ∀ (i : Nat) e (j : Nat) x,els[i]? = some e → e.cells[j]? = some x → ∃ u,us[i * s + j]? = some u ∧ VR G x u) :
  VR (G.lit t els.length w.heap.size s c us) (.sl els (some t)) (.slice (some ⟨w.heap.size,0,none⟩) els.length c) ∧ Inv (G.lit t els.length w.heap.size s c us) ⟨S.bx,lv⟩ (w.alloc (.cells us T)) ∧ Gro G S w (G.lit t els.length w.heap.size s c us) ⟨S.bx,lv⟩ (w.alloc (.cells us T)):=by
 have hle:=aHo hI t els.length s c us (fun v h => absurd (hnew _ v h) (Nat.lt_irrefl _))
 have hold : ∀ b,b < w.heap.size → (w.alloc (.cells us T)).heap[b]? = w.heap[b]?:=fun b hb => Below.heap_alloc w _ b hb
 have hlt : els.length * s ≤ us.size:=by rw [hsz]; exact Nat.mul_le_mul_right _ hc
 refine ⟨?_,⟨?_,?_,?_,?_,?_,hI.injA,?_,?_,fun B o u h => hle.fz B o u (hI.gl B o u h),xV _ hI.sz⟩,⟨hle,rfl,rfl,rfl,by simp,fun B hB _ => ⟨hold B hB,fun o => ?_⟩,?_,rU w _⟩⟩
 ·refine .slt els t s w.heap.size c (fun k => us[k]?.getD undef) (by simp [Gh.lit]) hc hs (fun i e j x h1 h2 => ?_) (fun i e j x h1 h2 => ?_)
  ·have hp:=qL hs h1 h2
   obtain ⟨u,hu,_⟩:=hv i e j x h1 h2
   simp only [Gh.lit]
   rw [if_pos ⟨trivial,hp⟩,hu]; rfl
  ·obtain ⟨u,hu,hr⟩:=hv i e j x h1 h2
   rw [hu]
   exact hr.mono hle
 ·intro b B cs hb hcs
  rcases hI.box b B cs hb hcs with h0 | ⟨us',T',k1,k2,k3,k4⟩
  ·exact .inl h0
  ·refine .inr ⟨us', T', by rw [hold B (hI.dal b B hb).2]; exact k1, k2, fun i x u h1 h2 => (k3 i x u h1 h2).mono hle, fun o => ?_⟩
   simp only [Gh.lit]
   rw [if_neg]
   ·exact k4 o
   ·rintro ⟨rfl,_⟩; have:=(hI.dal b _ hb).2; omega
 ·intro t' n s0 B s' c' h1 h2
  by_cases he : t' = t
  ·subst he
   rw [ht] at h1
   simp only [Option.some.injEq,Prod.mk.injEq] at h1
   obtain ⟨rfl,rfl⟩:=h1
   simp only [Gh.lit,and_self,if_true,Option.some.injEq,TB.blk.injEq] at h2
   obtain ⟨rfl,rfl,rfl⟩:=h2
   refine ⟨rfl,⟨us,T,heap_alloc_new w _,hsz⟩,hc,fun o ho => ?_⟩
   simp only [Gh.lit]
   rw [if_neg (by omega)]
   exact hI.fznew o
  ·have h1':=(hlv t' _ he).1 h1
   simp only [Gh.lit,he,false_and,if_false] at h2
   obtain ⟨k1,⟨us',T',k2,k3⟩,k4,k5⟩:=hI.tok t' n s0 B s' c' h1' h2
   refine ⟨k1,⟨us',T',by rw [hold B (hI.toklt h1' h2)]; exact k2,k3⟩,k4,fun o ho => ?_⟩
   simp only [Gh.lit]
   rw [if_neg]
   ·exact k5 o ho
   ·rintro ⟨rfl,_⟩; have:=hI.toklt h1' h2; omega
 ·intro b o u hf
  simp only [Gh.lit] at hf
  split at hf
  ·rename_i h
   obtain ⟨rfl,_⟩:=h
   unfold World.cell?
   rw [heap_alloc_new w]
   exact hf
  ·rw [gQ (hold b (hI.fzlt hf))]
   exact hI.fz b o u hf
 ·intro b B hb
  have:=hI.dal b B hb
  exact ⟨this.1,by simp; omega⟩
 ·intro t' n v h
  simp only [Gh.lit] at h
  by_cases he : t' = t
  ·subst he
   split at h
   ·rename_i hh; exact ⟨_,_,ht,by rw [hh.2]; exact Nat.le_refl _⟩
   ·exact ⟨_,_,ht,Nat.le_of_lt (hnew n v h)⟩
  ·rw [if_neg (by simp [he])] at h
   obtain ⟨m,s',h1,h2⟩:=hI.dtb t' n v h
   exact ⟨m,s',(hlv t' _ he).2 h1,h2⟩
 ·intro t1 t2 n1 n2 s1 s2 B s' s'' c' c'' h1 h2 h3 h4
  simp only [Gh.lit] at h3 h4
  by_cases e1 : t1 = t <;> by_cases e2 : t2 = t
  ·rw [e1,e2]
  ·have h2':=(hlv t2 _ e2).1 h2
   rw [if_neg (by simp [e2])] at h4
   subst e1
   rw [ht] at h1
   simp only [Option.some.injEq,Prod.mk.injEq] at h1
   rw [if_pos ⟨rfl,h1.1.symm⟩] at h3
   cases h3
   have:=hI.toklt h2' h4; omega
  ·have h1':=(hlv t1 _ e1).1 h1
   rw [if_neg (by simp [e1])] at h3
   subst e2
   rw [ht] at h2
   simp only [Option.some.injEq,Prod.mk.injEq] at h2
   rw [if_pos ⟨rfl,h2.1.symm⟩] at h4
   cases h4
   have:=hI.toklt h1' h3; omega
  ·rw [if_neg (by simp [e1])] at h3
   rw [if_neg (by simp [e2])] at h4
   exact hI.injT _ _ _ _ _ _ _ _ _ _ _ ((hlv t1 _ e1).1 h1) ((hlv t2 _ e2).1 h2) h3 h4
 ·intro b B t' n s0 s' c' h1 h2 h3
  simp only [Gh.lit] at h3
  by_cases he : t' = t
  ·subst he
   rw [ht] at h2
   simp only [Option.some.injEq,Prod.mk.injEq] at h2
   rw [if_pos ⟨rfl,h2.1.symm⟩] at h3
   cases h3
   have:=(hI.dal b _ h1).2; omega
  ·rw [if_neg (by simp [he])] at h3
   exact hI.sep b B t' n s0 s' c' h1 ((hlv t' _ he).1 h2) h3
 ·simp only [Gh.lit]
  rw [if_neg (by omega)]
 ·rintro B (⟨b,hb⟩ | ⟨t',n,s0,s',c',h1,h2⟩)
  ·exact .inl (.inl ⟨b,hb⟩)
  ·simp only [Gh.lit] at h2
   by_cases he : t' = t
   ·subst he
    rw [ht] at h1
    simp only [Option.some.injEq,Prod.mk.injEq] at h1
    rw [if_pos ⟨rfl,h1.1.symm⟩] at h2
    cases h2
    exact .inr (Nat.le_refl _)
   ·rw [if_neg (by simp [he])] at h2
    exact .inl (.inr ⟨t',n,s0,s',c',(hlv t' _ he).1 h1,h2⟩)
theorem aFk {G : Gh} {S : St} {w : World} (hI : Inv G S w) (t m : Nat) (els : List AV) (B s c : Nat) (us old : Array Value) (T : TypeId)
  (hlt : S.lv[t]? = some (m,s)) (hb : G.tb t m = some (.blk B s c)) (hB : w.heap[B]? = some (.cells old T (0,0))) (hm : m < els.length) (hos : old.size = us.size) (hsame : ∀ k,k < m * s → us[k]? = old[k]?)
  (hc : els.length ≤ c) (hsz : us.size = c * s) (hs : ∀ (i : Nat) e,els[i]? = some e → e.cells.length = s) (hv : ∀ (i : Nat) e (j : Nat) x,els[i]? = some e → e.cells[j]? = some x → ∃ u,us[i * s + j]? = some u ∧ VR G x u) :
  VR (G.lit t els.length B s c us) (.sl els (some t)) (.slice (some ⟨B,0,none⟩) els.length c) ∧ Inv (G.lit t els.length B s c us) ⟨S.bx,S.lv.set t (els.length,s)⟩ (w.setRow B us) ∧ Gro G S w (G.lit t els.length B s c us) ⟨S.bx,S.lv.set t (els.length,s)⟩ (w.setRow B us):=by
 obtain ⟨_,⟨us1,T1,q1,q2⟩,q3,q4⟩:=hI.tok t m s B s c hlt hb
 rw [hB] at q1; cases q1
 have hfzB : ∀ o u,G.fz B o = some u → o < m * s ∧ old[o]? = some u:=by
  intro o u hf
  refine ⟨?_,by simpa [World.cell?,hB] using hI.fz B o u hf⟩
  rcases Nat.lt_or_ge o (m * s) with h | h
  ·exact h
  ·rw [q4 o h] at hf; cases hf
 have hle : G.le (G.lit t els.length B s c us) := ⟨fun _ _ h => h, fun t' n' v h => by
  simp only [Gh.lit]
  rw [if_neg]
  ·exact h
  ·rintro ⟨rfl,rfl⟩
   obtain ⟨m',s',h1,h2⟩:=hI.dtb _ _ _ h
   rw [hlt] at h1; cases h1; omega,fun b o u h => by
  simp only [Gh.lit]
  split
  ·rename_i hh
   obtain ⟨rfl,_⟩:=hh
   obtain ⟨h1,h2⟩:=hfzB o u h
   rw [hsame o h1]; exact h2
  ·exact h, fun _ _ h => h⟩
 have hother : ∀ k,k ≠ B → (w.setRow B us).heap[k]? = w.heap[k]?:=fun k hk => setRow_other w B k us hk
 have htl:=(List.getElem?_eq_some_iff.1 hlt).1
 have hset : (S.lv.set t (els.length,s))[t]? = some (els.length,s):=List.getElem?_set_self htl
 have hsne : ∀ t',t' ≠ t → (S.lv.set t (els.length,s))[t']? = S.lv[t']?:=fun t' h => List.getElem?_set_ne (Ne.symm h)
 refine ⟨?_,⟨?_,?_,?_,?_,?_,hI.injA,?_,?_,fun B o u h => hle.fz B o u (hI.gl B o u h),aER hB hos.symm hI.sz⟩,⟨hle,rfl,rfl,rfl,by simp [World.setRow],fun k hk hk' => ?_,?_,aDM us hB⟩⟩
 ·refine .slt els t s B c (fun k => us[k]?.getD undef) (by simp [Gh.lit]) hc hs (fun i e j x h1 h2 => ?_) (fun i e j x h1 h2 => ?_)
  ·have hp:=qL hs h1 h2
   obtain ⟨u,hu,_⟩:=hv i e j x h1 h2
   simp only [Gh.lit]
   rw [if_pos ⟨trivial,hp⟩,hu]; rfl
  ·obtain ⟨u,hu,hr⟩:=hv i e j x h1 h2
   rw [hu]
   exact hr.mono hle
 ·intro b B' cs hb' hcs
  have hne : B' ≠ B:=fun e => hI.sep b B t m s s c (e ▸ hb') hlt hb
  rcases hI.box b B' cs hb' hcs with h0 | ⟨us',T',k1,k2,k3,k4⟩
  ·exact .inl h0
  ·refine .inr ⟨us', T', by rw [hother B' hne]; exact k1, k2, fun i x u h1 h2 => (k3 i x u h1 h2).mono hle, fun o => ?_⟩
   simp only [Gh.lit]
   rw [if_neg (by simp [hne])]
   exact k4 o
 ·intro t' n s0 B' s' c' h1 h2
  by_cases he : t' = t
  ·subst he
   rw [hset] at h1
   simp only [Option.some.injEq,Prod.mk.injEq] at h1
   obtain ⟨rfl,rfl⟩:=h1
   simp only [Gh.lit,and_self,if_true,Option.some.injEq,TB.blk.injEq] at h2
   obtain ⟨rfl,rfl,rfl⟩:=h2
   refine ⟨rfl,⟨us,T,setRow_heap w _ old us T _ hB,hsz⟩,hc,fun o ho => ?_⟩
   simp only [Gh.lit]
   rw [if_neg (by omega)]
   refine q4 o (Nat.le_trans (Nat.mul_le_mul_right _ (Nat.le_of_lt hm)) ho)
  ·rw [hsne t' he] at h1
   simp only [Gh.lit,he,false_and,if_false] at h2
   obtain ⟨k1,⟨us',T',k2,k3⟩,k4,k5⟩:=hI.tok t' n s0 B' s' c' h1 h2
   have hne : B' ≠ B:=fun e => he (hI.injT _ _ _ _ _ _ _ _ _ _ _ h1 hlt (e ▸ h2) hb)
   refine ⟨k1,⟨us',T',by rw [hother B' hne]; exact k2,k3⟩,k4,fun o ho => ?_⟩
   simp only [Gh.lit]
   rw [if_neg (by simp [hne])]
   exact k5 o ho
 ·intro b o u hf
  simp only [Gh.lit] at hf
  by_cases hbB : b = B
  ·subst hbB
   have hcell : (w.setRow b us).cell? ⟨b,o,none⟩ = us[o]?:=cell_setRow_same w b o old us T _ hB
   rw [hcell]
   split at hf
   ·exact hf
   ·obtain ⟨h1,h2⟩:=hfzB o u hf
    rw [hsame o h1]; exact h2
  ·rw [if_neg (by simp [hbB])] at hf
   rw [gQ (hother b hbB)]
   exact hI.fz b o u hf
 ·intro b B' hb'
  have:=hI.dal b B' hb'
  exact ⟨this.1,by simpa [World.setRow] using this.2⟩
 ·intro t' n v h
  simp only [Gh.lit] at h
  by_cases he : t' = t
  ·subst he
   split at h
   ·rename_i hh; exact ⟨_,_,hset,by rw [hh.2]; exact Nat.le_refl _⟩
   ·obtain ⟨m',s',h1,h2⟩:=hI.dtb _ _ _ h
    rw [hlt] at h1; cases h1
    exact ⟨_,_,hset,by omega⟩
  ·rw [if_neg (by simp [he])] at h
   obtain ⟨m',s',h1,h2⟩:=hI.dtb t' n v h
   exact ⟨m',s',by rw [hsne t' he]; exact h1,h2⟩
 ·intro t1 t2 n1 n2 s1 s2 B' s' s'' c' c'' h1 h2 h3 h4
  simp only [Gh.lit] at h3 h4
  by_cases e1 : t1 = t <;> by_cases e2 : t2 = t
  ·rw [e1,e2]
  ·rw [hsne t2 e2] at h2
   rw [if_neg (by simp [e2])] at h4
   subst e1
   rw [hset] at h1
   simp only [Option.some.injEq,Prod.mk.injEq] at h1
   rw [if_pos ⟨rfl,h1.1.symm⟩] at h3
   cases h3
   exact absurd (hI.injT _ _ _ _ _ _ _ _ _ _ _ h2 hlt h4 hb) e2
  ·rw [hsne t1 e1] at h1
   rw [if_neg (by simp [e1])] at h3
   subst e2
   rw [hset] at h2
   simp only [Option.some.injEq,Prod.mk.injEq] at h2
   rw [if_pos ⟨rfl,h2.1.symm⟩] at h4
   cases h4
   exact absurd (hI.injT _ _ _ _ _ _ _ _ _ _ _ h1 hlt h3 hb) e1
  ·rw [if_neg (by simp [e1])] at h3
   rw [if_neg (by simp [e2])] at h4
   rw [hsne t1 e1] at h1
   rw [hsne t2 e2] at h2
   exact hI.injT _ _ _ _ _ _ _ _ _ _ _ h1 h2 h3 h4
 ·intro b B' t' n s0 s' c' h1 h2 h3
  simp only [Gh.lit] at h3
  by_cases he : t' = t
  ·subst he
   rw [hset] at h2
   simp only [Option.some.injEq,Prod.mk.injEq] at h2
   rw [if_pos ⟨rfl,h2.1.symm⟩] at h3
   cases h3
   exact hI.sep b _ _ _ _ _ _ h1 hlt hb
  ·rw [if_neg (by simp [he])] at h3
   rw [hsne t' he] at h2
   exact hI.sep b B' t' n s0 s' c' h1 h2 h3
 ·have hkB : k ≠ B:=fun e => hk' (.inr ⟨t,m,s,s,c,hlt,e ▸ hb⟩)
  refine ⟨hother k hkB,fun o => ?_⟩
  simp only [Gh.lit]
  rw [if_neg (by simp [hkB])]
 ·rintro B' (⟨b,hb'⟩ | ⟨t',n,s0,s',c',h1,h2⟩)
  ·exact .inl (.inl ⟨b,hb'⟩)
  ·simp only [Gh.lit] at h2
   by_cases he : t' = t
   ·subst he
    rw [hset] at h1
    simp only [Option.some.injEq,Prod.mk.injEq] at h1
    rw [if_pos ⟨rfl,h1.1.symm⟩] at h2
    cases h2
    exact .inl (.inr ⟨_,m,s,s,c,hlt,hb⟩)
   ·rw [if_neg (by simp [he])] at h2
    rw [hsne t' he] at h1
    exact .inl (.inr ⟨t',n,s0,s',c',h1,h2⟩)
end
section
open Go.RowKit
section
variable {P : Program} {G : Gh} {w : World} {o : Oper} {ρ : Operand → Value} {a : AOpd → AV} {S : St}
def aIb (P : Program) (G : Gh) (S : St) (w : World) (o : Oper) (ρ : Operand → Value) : Res → Prop
 | .val v => fT P G w o ρ v
 | .box cs => aFQ P G w o ρ cs
 | .mbox cs n s => aFH P G w o ρ cs n
 | .lit s els => aGY P G w o ρ s els
 | .put b cs => aGW P G w o ρ b cs ∧ ∃ old,S.bx[b]? = some old ∧ old.length = cs.length
 | .app s tk els news => aFR P G w o ρ s tk els news ∧ (∀ t',tk = some t' → S.lv[t']? = some (els.length,s) ∧ ∃ k v,G.tb t' k = some v) ∧ (tk = none → els = []) ∧ news ≠ []
 | .call f args => aFP P G w o ρ f args
theorem aFC {t e : TypeId} {j : TypeInfo} {z : List AV} {sx x : Operand} {sx' x' : AOpd} {v : AV} (ho : o.op = .call { callee:=.builtin .append,args:=#[sx,x],argTypes:=#[t,t] }) (ht : P.underlying t = some (.slice e)) (hj : P.info? e = some j) (hz : iQ P e = some z)
  (hx : aV x = some x') (hsx : aV sx = some sx') (h : dR G a ρ) (hI : Inv G S w) (hv : aop (.app sx' x' j.size j.bytes z) a S = some (.val v)) : fT P G w o ρ v:=by
 have r1:=h x x' hx
 have r2:=h sx sx' hsx
 simp only [aop] at hv
 cases hnw : tF (a x') with
 | none => rw [hnw] at hv; cases hv
 | some nw =>
  rw [hnw] at hv
  simp only [] at hv
  split at hv
  ·have hx0 : nw = [] → ∃ A c,ρ x = .slice A 0 c:=by
    rintro rfl
    cases hax : a x' <;> rw [hax] at hnw <;> simp only [tF,Option.some.injEq,reduceCtorEq] at hnw
    ·rw [hax] at r1; exact ⟨none,0,r1.inv_nils⟩
    ·subst hnw
     rw [hax] at r1
     obtain ⟨A,c,hu,_⟩:=r1.inv_sl
     exact ⟨A,c,hu⟩
   have hrun : ∀ (A B : Option Addr) (n c c2 : Nat),n ≤ c → ρ sx = .slice A n c → ρ x = .slice B 0 c2 → (execOp ρ o).run P w = .ok (.value (.slice A n c)) w:=by
    intro A B n c c2 hnc h1 h2
    have hz0 : n + 0 ≤ c:=by omega
    cases A <;> cases B <;> simp [execOp,ho,resolve,invoke,builtin,h1,h2,Builtin.append_,run_underlying ht,sizeOf,typeInfo,hj,Builtin.lenOf,hnc,Builtin.firstCells,loadCells,loadCellsFrom,storeCells]
   split at hv
   ·rename_i e1
    rw [e1] at r2
    split at hv
    ·split at hv
     ·rename_i hne
      cases hv
      obtain ⟨B,c2,hb⟩:=hx0 (List.eq_nil_of_length_eq_zero hne)
      exact ⟨_,hrun none B 0 0 c2 (Nat.le_refl _) r2.inv_nils hb,.nils⟩
     ·cases hv
    ·cases hv
   ·rename_i els0 t0 e1
    rw [e1] at r2
    split at hv
    ·split at hv
     ·rename_i hne
      cases hv
      obtain ⟨B,c2,hb⟩:=hx0 (List.eq_nil_of_length_eq_zero hne)
      generalize hu2 : ρ sx = u2 at r2
      have r3:=r2
      cases r2 with
      | slt0 _ hb' => exact ⟨_,hrun none B 0 0 c2 (Nat.le_refl _) hu2 hb,r3⟩
      | slt _ _ s B' c us0 hb' hn hs hf hvr0 => exact ⟨_,hrun _ B _ c c2 hn hu2 hb,r3⟩
     ·cases hv
    ·cases hv
   ·cases hv
  ·cases hv
theorem aFg {n : Option Nat} {y : AOpd} {r : Res} (h : aop (.load n y) a S = some r) : ∃ v,r = .val v:=by
 simp only [aop] at h
 split at h
 ·simp only [Option.map_eq_some_iff] at h; obtain ⟨v,_,rfl⟩:=h; exact ⟨v,rfl⟩
 ·simp only [Option.bind_eq_some_iff,Option.map_eq_some_iff] at h; obtain ⟨_,_,v,_,rfl⟩:=h; exact ⟨v,rfl⟩
 ·cases h
theorem aAY {n : Bool} {k : Nat} {x y : AOpd} {r : Res} (h : aop (.eqn n k x y) a S = some r) : ∃ v,r = .val v:=by
 simp only [aop] at h
 split at h
 ·split at h
  ·cases h; exact ⟨_,rfl⟩
  ·cases h
 ·cases h
theorem aAX {n : Bool} {T : EqT} {x y : AOpd} {r : Res} (h : aop (.eqs n T x y) a S = some r) : ∃ v,r = .val v:=by
 simp only [aop,Option.map_eq_some_iff] at h
 obtain ⟨b,_,rfl⟩:=h
 exact ⟨_,rfl⟩
theorem aEp {y : AOpd} {r : Res} (h : aop (.nilck y) a S = some r) : ∃ v,r = .val v:=by
 simp only [aop] at h
 split at h <;> first | (cases h; exact ⟨_,rfl⟩) | cases h
theorem aHd {op : UnOp} {y : AOpd} {r : Res} (h : aop (.un op y) a S = some r) : ∃ v,r = .val v:=by
 simp only [aop] at h
 split at h <;> first | (cases h; exact ⟨_,rfl⟩) | cases h
theorem aDG {b : Bool} {s : Nat} {y : AOpd} {lo hi : Option AOpd} {r : Res} (h : aop (.slc b s y lo hi) a S = some r) : ∃ v,r = .val v:=by
 cases b <;> simp only [aop] at h <;> (split at h <;> try (cases h; done)) <;> (split at h <;> try (cases h; done)) <;> (split at h <;> try (cases h; done)) <;> (cases h; exact ⟨_,rfl⟩)
theorem aEA {y : AOpd} {off : Nat} {r : Res} (h : aop (.faddr y off) a S = some r) : ∃ v,r = .val v:=by
 simp only [aop] at h
 split at h
 ·cases h; exact ⟨_,rfl⟩
 ·split at h
  ·cases h; exact ⟨_,rfl⟩
  ·cases h
 ·cases h
theorem aGr {y : AOpd} {off : Nat} {n : Option Nat} {r : Res} (h : aop (.fld y off n) a S = some r) : ∃ v,r = .val v:=by
 simp only [aop] at h
 split at h
 ·simp only [Option.map_eq_some_iff] at h; obtain ⟨v,_,rfl⟩:=h; exact ⟨v,rfl⟩
 ·cases h
theorem aAr {x i : AOpd} {s : Nat} {n : Option Nat} {r : Res} (h : aop (.iaddr x i s n) a S = some r) : ∃ v,r = .val v:=by
 cases n <;> simp only [aop] at h
 ·split at h
  ·split at h
   ·simp only [Option.bind_eq_some_iff] at h
    obtain ⟨e,_,h⟩:=h
    split at h
    ·cases h; exact ⟨_,rfl⟩
    ·cases h
   ·cases h
  ·split at h
   ·cases h; exact ⟨_,rfl⟩
   ·cases h
  ·split at h
   ·cases h; exact ⟨_,rfl⟩
   ·cases h
  ·cases h
 ·split at h
  ·split at h
   ·cases h; exact ⟨_,rfl⟩
   ·cases h
  ·split at h
   ·cases h; exact ⟨_,rfl⟩
   ·cases h
  ·cases h
theorem aGo {x i : AOpd} {r : Res} (h : aop (.idx x i) a S = some r) : ∃ v,r = .val v:=by
 simp only [aop] at h
 split at h
 ·split at h
  ·simp only [Option.map_eq_some_iff] at h; obtain ⟨v,_,rfl⟩:=h; exact ⟨_,rfl⟩
  ·cases h
 ·cases h
theorem aFG {x i : AOpd} {m s : Nat} {n : Option Nat} {r : Res} (h : aop (.aidx x i m s n) a S = some r) : ∃ v,r = .val v:=by
 simp only [aop] at h
 split at h
 ·split at h
  ·simp only [Option.map_eq_some_iff] at h; obtain ⟨v,_,rfl⟩:=h; exact ⟨_,rfl⟩
  ·cases h
 ·cases h
theorem aDT {b : Bool} {x : AOpd} {r : Res} (h : aop (.len b x) a S = some r) : ∃ v,r = .val v:=by
 cases b <;> simp only [aop] at h <;> split at h <;> first | (cases h; exact ⟨_,rfl⟩) | cases h
theorem aHk {x y : AOpd} {r : Res} (h : aop (.mn x y) a S = some r) : ∃ v,r = .val v:=by
 simp only [aop] at h; split at h <;> first | (cases h; exact ⟨_,rfl⟩) | cases h
theorem aHj {x y : AOpd} {r : Res} (h : aop (.mx x y) a S = some r) : ∃ v,r = .val v:=by
 simp only [aop] at h; split at h <;> first | (cases h; exact ⟨_,rfl⟩) | cases h
theorem aFW {n s : Nat} {x : AOpd} {r : Res} (h : aop (.sla n s x) a S = some r) : ∃ v,r = .val v:=by
 simp only [aop] at h
 split at h
 ·split at h
  ·cases h; exact ⟨_,rfl⟩
  ·cases h
 ·cases h
theorem aFV {n s : Nat} {x y : AOpd} {r : Res} (h : aop (.slb n s x y) a S = some r) : ∃ v,r = .val v:=by
 simp only [aop] at h
 split at h
 ·split at h
  ·cases h; exact ⟨_,rfl⟩
  ·cases h
 ·cases h
theorem aEk {n : Nat} {x y : AOpd} {r : Res} (h : aop (.store n x y) a S = some r) : ∃ b cs,r = .put b cs:=by
 simp only [aop] at h
 split at h
 ·simp only [Option.bind_eq_some_iff] at h
  obtain ⟨cs,_,h⟩:=h
  split at h
  ·cases h; exact ⟨_,_,rfl⟩
  ·cases h
 ·cases h
theorem aEG {f : AOpd} {args : List AOpd} {r : Res} (h : aop (.call f args) a S = some r) : ∃ g as1,r = .call g as1:=by
 simp only [aop] at h; split at h <;> first | (cases h; exact ⟨_,_,rfl⟩) | cases h
theorem aFD {sx x : AOpd} {es by_ : Nat} {z : List AV} {r : Res} (h : aop (.app sx x es by_ z) a S = some r) : (∃ v,r = .val v) ∨ ∃ s tk els news,r = .app s tk els news:=by
 simp only [aop] at h
 split at h
 ·cases h
 ·split at h
  ·split at h
   ·split at h
    ·split at h
     ·cases h; exact .inl ⟨_,rfl⟩
     ·cases h; exact .inr ⟨_,_,_,_,rfl⟩
    ·cases h
   ·split at h
    ·split at h
     ·cases h; exact .inl ⟨_,rfl⟩
     ·cases h; exact .inr ⟨_,_,_,_,rfl⟩
    ·cases h
   ·cases h
  ·cases h
theorem rX {t e : TypeId} (h : rY P t = some e) : P.underlying t = some (.slice e):=by
 unfold rY at h
 split at h
 ·rename_i e' hu; cases h; exact hu
 ·cases h
theorem jF {ty : TypeId} {ao : AOp} {r : Res} (hc : nA P ty o.op = some ao) (hcon : ∀ x,a (.con x) = x) (h : dR G a ρ) (hI : Inv G S w) (hr : aop ao a S = some r) : aIb P G S w o ρ r:=by
 generalize hop : o.op = op at hc
 unfold nA at hc
 split at hc
 ·-- move
  rename_i x
  simp only [Option.map_eq_some_iff] at hc
  obtain ⟨y,hy,rfl⟩:=hc
  cases hr
  exact aEZ (.inl hop) hy h
 ·rename_i x
  simp only [Option.map_eq_some_iff] at hc
  obtain ⟨y,hy,rfl⟩:=hc
  cases hr
  exact aEZ (.inr hop) hy h
 ·-- pick
  rename_i c x y
  simp only [Option.bind_eq_bind,Option.bind_eq_some_iff,Option.pure_def,Option.some.injEq] at hc
  obtain ⟨c',hc',x',hx',y',hy',rfl⟩:=hc
  simp only [aop] at hr
  split at hr
  ·rename_i b e
   cases hr
   exact aGb hop hc' hx' hy' h e
  ·cases hr
 ·-- alloc
  rename_i t
  simp only [Option.bind_eq_bind,Option.bind_eq_some_iff,Option.pure_def] at hc
  obtain ⟨z,hz,g,hg,hc⟩:=hc
  have hb:=aFF (P:=P) (G:=G) (w:=w) (ρ:=ρ) hop hz
  split at hc
  ·cases hc
   simp only [aop,hcon] at hr
   cases hr
   exact hb
  ·split at hc
   ·rename_i x
    cases hc
    obtain ⟨i,v,_,_,_,_,h5⟩:=kQ hz
    have hxs : ∃ y,AV.ofS y = some x:=by
     unfold iQ at hz
     split at hz
     ·split at hz
      ·split at hz
       ·obtain ⟨_,hm⟩:=bU hz
        obtain ⟨y,_,hy⟩:=hm 0 x rfl
        exact ⟨y,hy⟩
       ·cases hz
      ·cases hz
     ·cases hz
    obtain ⟨y,hy⟩:=hxs
    have hcl:=(aEo hy).1
    simp only [aop,hcon] at hr
    split at hr
    ·cases hr
    ·cases hr
     rw [hcl]
     exact hb
   ·cases hc
 ·-- box
  rename_i t x
  simp only [Option.map_eq_some_iff] at hc
  obtain ⟨y,hy,rfl⟩:=hc
  simp only [aop] at hr
  split at hr
  ·cases hr
  ·rename_i hj
   cases hr
   exact aHB hop hy h (fun e => hj e)
 ·-- build
  rename_i t parts
  simp only [Option.bind_eq_bind,Option.bind_eq_some_iff,Option.pure_def] at hc
  obtain ⟨d,hd,hc⟩:=hc
  split at hc
  ·rename_i fs
   simp only [Option.bind_eq_some_iff] at hc
   obtain ⟨z,hz,ps,hps,hc⟩:=hc
   split at hc
   ·rename_i hall
    cases hc
    simp only [aop,Option.map_eq_some_iff] at hr
    obtain ⟨cs,hf,rfl⟩:=hr
    exact aFz hop hd hz hps hall h hf
   ·cases hc
  ·simp only [Option.bind_eq_some_iff,Option.some.injEq] at hc
   obtain ⟨z,hz,j,hj,ps,hps,rfl⟩:=hc
   simp only [aop,Option.map_eq_some_iff] at hr
   obtain ⟨cs,hf,rfl⟩:=hr
   exact aEI hop hd hz hj hps h hf
  ·cases hc
 ·-- buildSlice
  rename_i t len parts
  simp only [Option.bind_eq_bind,Option.bind_eq_some_iff,Option.pure_def] at hc
  obtain ⟨e,he,i,hi,z,hz,g,hg,ps,hps,hc⟩:=hc
  split at hc
  ·rename_i hcond
   cases hc
   simp only [Bool.and_eq_true,decide_eq_true_eq] at hcond
   simp only [aop,Option.bind_eq_some_iff] at hr
   obtain ⟨cs,hf,hr'⟩:=hr
   split at hr'
   ·rename_i hag
    cases hr'
    exact aHA (S:=S) hop (rX he) hi hz hg hps hcond.1 hcond.2 h (by simp only [aop,Option.bind_eq_some_iff]; exact ⟨cs,hf,by rw [if_pos hag]⟩)
   ·cases hr'
  ·cases hc
 ·-- load
  rename_i t x
  simp only [Option.bind_eq_bind,Option.bind_eq_some_iff,Option.pure_def,Option.some.injEq] at hc
  obtain ⟨n,hn,y,hy,rfl⟩:=hc
  obtain ⟨v,rfl⟩:=aFg hr
  exact aGh hop hn hy h hI hr
 ·-- store
  rename_i t x v
  simp only [Option.bind_eq_bind,Option.bind_eq_some_iff,Option.pure_def,Option.some.injEq] at hc
  obtain ⟨j,hj,x',hx',v',hv',rfl⟩:=hc
  obtain ⟨b,cs,rfl⟩:=aEk hr
  exact aES hop hj hx' hv' h hI hr
 ·-- nilCheck
  rename_i x
  simp only [Option.map_eq_some_iff] at hc
  obtain ⟨y,hy,rfl⟩:=hc
  obtain ⟨v,rfl⟩:=aEp hr
  exact aEY hop hy h hr
 ·-- binOp
  rename_i op t x y t2
  simp only [Option.bind_eq_bind,Option.bind_eq_some_iff] at hc
  obtain ⟨x',hx',y',hy',hc⟩:=hc
  split at hc
  ·rename_i n e hn ht
   cases hc
   obtain ⟨v,rfl⟩:=aAY hr
   exact aDm hop hn (.inl ⟨rfl,_,ht⟩) hx' hy' h hr
  ·rename_i n e hn ht
   cases hc
   obtain ⟨v,rfl⟩:=aAY hr
   exact aDm hop hn (.inr (.inl ⟨rfl,_,ht⟩)) hx' hy' h hr
  ·rename_i hn ht
   cases hc
   obtain ⟨v,rfl⟩:=aAY hr
   exact aDm hop hn (.inr (.inr ⟨rfl,_,_,_,ht⟩)) hx' hy' h hr
  ·rename_i n fs hn ht
   split at hc
   ·cases hc
   ·rename_i hg
    simp only [Option.map_eq_some_iff] at hc
    obtain ⟨T,hT,rfl⟩:=hc
    obtain ⟨v,rfl⟩:=aAX hr
    exact aDl hop hn hT (by omega) (.inl ⟨.inl ⟨_,ht⟩,by simpa using hg⟩) hx' hy' h hr
  ·rename_i n len e hn ht
   split at hc
   ·cases hc
   ·rename_i hg
    simp only [Option.map_eq_some_iff] at hc
    obtain ⟨T,hT,rfl⟩:=hc
    obtain ⟨v,rfl⟩:=aAX hr
    exact aDl hop hn hT (by omega) (.inl ⟨.inr ⟨_,_,ht⟩,by simpa using hg⟩) hx' hy' h hr
  ·rename_i n hn ht
   cases hc
   obtain ⟨v,rfl⟩:=aAX hr
   exact aDl (k:=1) hop hn (by simp [lU,ht]) (by omega) (.inr rfl) hx' hy' h hr
  ·cases hc
   simp only [aop,Option.map_eq_some_iff] at hr
   obtain ⟨v,hv,rfl⟩:=hr
   exact aHC hop hx' hy' h hv
 ·-- unOp
  rename_i op t x
  simp only [Option.bind_eq_bind,Option.bind_eq_some_iff,Option.pure_def,Option.some.injEq] at hc
  obtain ⟨x',hx',rfl⟩:=hc
  obtain ⟨v,rfl⟩:=aHd hr
  exact aHG hop hx' h hr
 ·-- convert
  rename_i src dst x
  simp only [Option.bind_eq_bind,Option.bind_eq_some_iff,Option.pure_def] at hc
  obtain ⟨d,hd,k0,hk,hc⟩:=hc
  split at hc
  ·rename_i k
   simp only [Option.bind_eq_some_iff,Option.some.injEq] at hc
   obtain ⟨x',hx',rfl⟩:=hc
   simp only [aop] at hr
   split at hr
   ·rename_i k' n e
    cases hr
    exact aGt hop hd hk hx' h e
   ·cases hr
  ·cases hc
 ·-- makeFunc
  rename_i f first caps
  simp only [Option.bind_eq_bind,Option.bind_eq_some_iff,Option.pure_def,Option.some.injEq] at hc
  obtain ⟨ps,hps,cs,hcs,rfl⟩:=hc
  cases hr
  exact aGe hop hps hcs h
 ·-- makeSlice
  rename_i t l c
  simp only [Option.bind_eq_bind,Option.bind_eq_some_iff,Option.pure_def] at hc
  obtain ⟨e,he,i,hi,z,hz,g,hg,hc⟩:=hc
  split at hc
  ·rename_i hs
   simp only [Option.bind_eq_some_iff,Option.some.injEq] at hc
   obtain ⟨l',hl',c',hc',rfl⟩:=hc
   have r1:=h l l' hl'
   have r2:=h c c' hc'
   simp only [aop] at hr
   split at hr
   ·rename_i k1 n k2 m e1 e2
    rw [e1] at r1; rw [e2] at r2
    split at hr
    ·rename_i hb
     obtain ⟨h1,us,T,h2,h3⟩:=aFa (P:=P) (G:=G) (w:=w) hop (rX he) hi hz hs r1.inv_int r2.inv_int hb.1 hb.2.1 hb.2.2.1 hb.2.2.2
     split at hr
     ·rename_i hn
      cases hr
      obtain ⟨rfl,_⟩:=hn
      exact ⟨us,T,m.toNat,h2,Nat.zero_le _,h3,fun i e he => by simp at he,fun i e j x he => by simp at he⟩
     ·cases hr
      exact h1
    ·cases hr
   ·cases hr
  ·cases hc
 ·-- slice
  rename_i t x lo hi
  simp only [Option.bind_eq_bind,Option.pure_def] at hc
  split at hc
  ·rename_i ht
   simp only [Option.bind_eq_some_iff,Option.some.injEq] at hc
   obtain ⟨x',hx',lo',hlo,hi',hhi,rfl⟩:=hc
   obtain ⟨v,rfl⟩:=aDG hr
   exact aFU hop ht hx' hlo hhi h hr
  ·rename_i e ht
   simp only [Option.bind_eq_some_iff,Option.some.injEq] at hc
   obtain ⟨i,hi0,x',hx',lo',hlo,hi',hhi,rfl⟩:=hc
   obtain ⟨v,rfl⟩:=aDG hr
   exact aHf hop ht hi0 hx' hlo hhi h hr
  ·rename_i n e ht
   split at hc
   ·simp only [Option.bind_eq_some_iff,Option.some.injEq] at hc
    obtain ⟨i,hi0,x',hx',rfl⟩:=hc
    obtain ⟨v,rfl⟩:=aFW hr
    exact aHh hop ht hi0 hx' h hr
   ·simp only [Option.bind_eq_some_iff,Option.some.injEq] at hc
    obtain ⟨i,hi0,x',hx',h',hh',rfl⟩:=hc
    obtain ⟨v,rfl⟩:=aFV hr
    exact aHg hop ht hi0 hx' hh' h hr
   ·cases hc
  ·cases hc
 ·-- fieldAddr
  rename_i t x f
  simp only [Option.bind_eq_bind,Option.bind_eq_some_iff,Option.pure_def] at hc
  obtain ⟨d,hd,i,hi,hc⟩:=hc
  split at hc
  ·cases hc
  ·rename_i hs
   simp only [Option.bind_eq_some_iff,Option.some.injEq] at hc
   obtain ⟨x',hx',rfl⟩:=hc
   obtain ⟨v,rfl⟩:=aEA hr
   exact aFr hop hd hi hs hx' h hr
 ·-- field
  rename_i t x f
  simp only [Option.bind_eq_bind,Option.bind_eq_some_iff,Option.pure_def,Option.some.injEq] at hc
  obtain ⟨d,hd,x',hx',n,hn,rfl⟩:=hc
  obtain ⟨v,rfl⟩:=aGr hr
  exact aHu hop hd hn hx' h hr
 ·-- indexAddr
  rename_i t x i
  simp only [Option.bind_eq_bind,Option.pure_def] at hc
  split at hc
  ·rename_i e ht
   simp only [Option.bind_eq_some_iff,Option.some.injEq] at hc
   obtain ⟨x',hx',i',hi',j,hj,rfl⟩:=hc
   obtain ⟨v,rfl⟩:=aAr hr
   exact aFi hop ht hj hx' hi' h hr
  ·rename_i n e ht
   simp only [Option.bind_eq_some_iff,Option.some.injEq] at hc
   obtain ⟨x',hx',i',hi',j,hj,rfl⟩:=hc
   obtain ⟨v,rfl⟩:=aAr hr
   exact aEx hop ht hj hx' hi' h hr
  ·cases hc
 ·-- index
  rename_i t x i
  simp only [Option.bind_eq_bind,Option.pure_def] at hc
  split at hc
  ·rename_i ht
   simp only [Option.bind_eq_some_iff,Option.some.injEq] at hc
   obtain ⟨x',hx',i',hi',rfl⟩:=hc
   obtain ⟨v,rfl⟩:=aGo hr
   exact aHt hop ht hx' hi' h hr
  ·rename_i n e ht
   simp only [Option.bind_eq_some_iff,Option.some.injEq] at hc
   obtain ⟨x',hx',i',hi',j,hj,g,hg,rfl⟩:=hc
   obtain ⟨v,rfl⟩:=aFG hr
   exact aGB hop ht hj hg hx' hi' h hr
  ·cases hc
 ·-- extract
  rename_i t i
  simp only [Option.bind_eq_bind,Option.bind_eq_some_iff,Option.pure_def,Option.some.injEq] at hc
  obtain ⟨x',hx',rfl⟩:=hc
  simp only [aop] at hr
  split at hr
  ·rename_i vs e
   simp only [Option.map_eq_some_iff] at hr
   obtain ⟨v,hv,rfl⟩:=hr
   exact aHv hop hx' h e hv
  ·cases hr
 ·-- call
  rename_i f args ts
  simp only [Option.bind_eq_bind,Option.bind_eq_some_iff,Option.pure_def,Option.some.injEq] at hc
  obtain ⟨f',hf',as',has',rfl⟩:=hc
  obtain ⟨g,as1,rfl⟩:=aEG hr
  exact aGx hop hf' has' h hr
 ·-- append
  rename_i args ts
  split at hc
  ·rename_i sx x t u ha ht
   simp only [Option.bind_eq_bind,Option.bind_eq_some_iff,Option.pure_def] at hc
   obtain ⟨e,he,i,hi,z,hz,hc⟩:=hc
   split at hc
   ·rename_i hcond
    simp only [Bool.and_eq_true,decide_eq_true_eq] at hcond
    obtain ⟨htu,hs⟩:=hcond
    subst htu
    simp only [Option.bind_eq_some_iff,Option.some.injEq] at hc
    obtain ⟨s',hs',x',hx',rfl⟩:=hc
    have ea : args = #[sx,x]:=by rw [← Array.toList_inj,ha]
    have et : ts = #[t,t]:=by rw [← Array.toList_inj,ht]
    subst ea et
    rcases aFD hr with ⟨v,rfl⟩ | ⟨s0,tk,els,news,rfl⟩
    ·exact aFC hop (rX he) hi hz hx' hs' h hI hr
    ·obtain ⟨rfl,h1,h2,h3,h4⟩:=aHD hop (rX he) hi hz hs hx' hs' h hI hr
     exact ⟨h1,h2,h3,h4⟩
   ·cases hc
  ·cases hc
 ·-- len
  rename_i args ts
  split at hc
  ·rename_i x t ha ht0
   have ea : args = #[x]:=by rw [← Array.toList_inj,ha]
   have et : ts = #[t]:=by rw [← Array.toList_inj,ht0]
   subst ea et
   simp only [Option.bind_eq_bind,Option.pure_def] at hc
   split at hc
   ·rename_i ht
    simp only [Option.bind_eq_some_iff,Option.some.injEq] at hc
    obtain ⟨x',hx',rfl⟩:=hc
    obtain ⟨v,rfl⟩:=aDT hr
    exact aGi hop ht hx' h hr
   ·rename_i e ht
    simp only [Option.bind_eq_some_iff,Option.some.injEq] at hc
    obtain ⟨x',hx',rfl⟩:=hc
    obtain ⟨v,rfl⟩:=aDT hr
    exact aHp hop ht hx' h hr
   ·cases hc
  ·cases hc
 ·-- min
  rename_i args ts
  split at hc
  ·rename_i x y ha
   have ea : args = #[x,y]:=by rw [← Array.toList_inj,ha]
   subst ea
   simp only [Option.bind_eq_bind,Option.bind_eq_some_iff,Option.pure_def,Option.some.injEq] at hc
   obtain ⟨x',hx',y',hy',rfl⟩:=hc
   obtain ⟨v,rfl⟩:=aHk hr
   exact aHO hop hx' hy' h hr
  ·cases hc
 ·-- max
  rename_i args ts
  split at hc
  ·rename_i x y ha
   have ea : args = #[x,y]:=by rw [← Array.toList_inj,ha]
   subst ea
   simp only [Option.bind_eq_bind,Option.bind_eq_some_iff,Option.pure_def,Option.some.injEq] at hc
   obtain ⟨x',hx',y',hy',rfl⟩:=hc
   obtain ⟨v,rfl⟩:=aHj hr
   exact aHN hop hx' hy' h hr
  ·cases hc
 ·-- copy
  rename_i args ts
  split at hc
  ·simp only [Option.bind_eq_bind,Option.bind_eq_some_iff,Option.pure_def] at hc
   obtain ⟨e,he,i,hi,hc⟩:=hc
   split at hc
   ·simp only [Option.bind_eq_some_iff,Option.some.injEq] at hc
    obtain ⟨x',hx',y',hy',rfl⟩:=hc
    cases hr
   ·cases hc
  ·cases hc
 ·cases hc
end
end
section
open Go.RowKit
def VRs (G : Gh) (as1 : List AV) (us : Array Value) : Prop:=us.size = as1.length ∧ ∀ (i : Nat) x u,as1[i]? = some x → us[i]? = some u → VR G x u
structure rO (P : Program) (f : FuncId) (as1 : List AV) (cells : List (List AV)) (v : AV) (cells' : List (List AV)) : Prop where
 enter : ∀ (us : Array Value) (w : World),(callFunc f us).run P w = .ok (.enter f us) w
 len : cells.length ≤ cells'.length
 calls : ∀ (G : Gh) (w : World) (us : Array Value),Inv G ⟨cells,[]⟩ w → VRs G as1 us → Calls P f us w fun e w' => ∃ u G' bx lv,e = .returned u ∧ VR G' v u ∧ Inv G' ⟨cells' ++ bx,lv⟩ w' ∧ Gro G ⟨cells,[]⟩ w G' ⟨cells' ++ bx,lv⟩ w'
def fp1 : AV → List Nat
 | .ptr b _ => [b]
 | .ms b _ _ => [b]
 | _ => []
def fpV : AV → List Nat
 | .fn _ ps caps => ps.flatMap fp1 ++ caps.flatMap fp1
 | x => fp1 x
def fpOf (as1 : List AV) : List Nat:=(as1.flatMap fpV).eraseDups
def ren1 (bs : List Nat) (x : AV) : Option AV :=
 match x with
 | .ptr b o => (bs.idxOf? b).map fun i => .ptr i o
 | .ms b n s => (bs.idxOf? b).map fun i => .ms i n s
 | x => if x.plain.clean then some x.plain else none
def ren (bs : List Nat) (x : AV) : Option AV :=
 match x with
 | .fn f ps caps => (ps.mapM (ren1 bs)).bind fun ps' => (caps.mapM (ren1 bs)).map (.fn f ps')
 | x => ren1 bs x
def back1 (n n' m : Nat) (x : AV) : Option AV :=
 match x with
 | .ptr i o => if n ≤ i ∧ i < n' then some (.ptr (m + (i - n)) o) else none
 | .ms i k s => if n ≤ i ∧ i < n' then some (.ms (m + (i - n)) k s) else none
 | x => if x.plain.clean then some x.plain else none
def back (n n' m : Nat) (x : AV) : Option AV :=
 match x with
 | .tup vs => (vs.mapM (back1 n n' m)).map .tup
 | x => back1 n n' m x
def bD (bx : List (List AV)) : List Nat → List (List AV) → List (List AV)
 | b :: bs,c :: cs => bD (bx.set b c) bs cs
 | _,_ => bx
abbrev Orc:=FuncId → List AV → List (List AV) → Option (AV × List (List AV))
def aGX (P : Program) (orc : Orc) : Prop:=∀ f as1 cells v cells',orc f as1 cells = some (v,cells') → rO P f as1 cells v cells'
def kV (orc : Orc) (f : FuncId) (as1 : List AV) (S : St) : Option (AV × St) :=
 let bs:=fpOf as1
 match as1.mapM (ren bs),bs.mapM (fun b => S.bx[b]?) with
 | some as',some cells =>
  if cells.all bB && decide bs.Nodup then
   match orc f as' cells with
   | some (v,cells') =>
    match back bs.length cells'.length S.bx.length v with
    | some v' => if cells'.all bB then some (v',⟨bD S.bx bs cells' ++ cells'.drop bs.length,S.lv⟩) else none
    | none => none
   | none => none
  else none
 | _,_ => none
theorem xY (bs : List Nat) : ∀ (bx cs : List (List AV)),bs.Nodup → bs.length ≤ cs.length → (∀ b ∈ bs,b < bx.length) → ∀ b,(∀ (i : Nat),bs[i]? = some b → (bD bx bs cs)[b]? = cs[i]?) ∧ (b ∉ bs → (bD bx bs cs)[b]? = bx[b]?):=by
 induction bs with
 | nil => intro bx cs _ _ _ b; exact ⟨fun i h => by simp at h,fun _ => by cases cs <;> rfl⟩
 | cons a bs ih =>
  intro bx cs hn hl hlt b
  cases cs with
  | nil => simp at hl
  | cons c cs =>
   simp only [bD]
   have hn':=List.nodup_cons.1 hn
   obtain ⟨h1,h2⟩:=ih (bx.set a c) cs hn'.2 (by simpa using hl) (fun b hb => by rw [List.length_set]; exact hlt b (List.mem_cons_of_mem _ hb)) b
   refine ⟨fun i hi => ?_,fun hb => ?_⟩
   ·cases i with
    | zero =>
     simp only [List.getElem?_cons_zero,Option.some.injEq] at hi
     subst hi
     rw [h2 hn'.1,List.getElem?_set_self (hlt a (by simp))]
     rfl
    | succ i =>
     rw [List.getElem?_cons_succ] at hi ⊢
     exact h1 i hi
   ·simp only [List.mem_cons,not_or] at hb
    rw [h2 hb.2,List.getElem?_set_ne (Ne.symm hb.1)]
theorem iV (bs : List Nat) : ∀ (bx cs : List (List AV)),(bD bx bs cs).length = bx.length:=by
 induction bs with
 | nil => intro bx cs; cases cs <;> rfl
 | cons a bs ih => intro bx cs; cases cs with
  | nil => rfl
  | cons c cs => simp only [bD]; rw [ih,List.length_set]
theorem vP {bs : List Nat} {b i : Nat} (h : bs.idxOf? b = some i) : bs[i]? = some b:=by
 have:=List.idxOf?_eq_some_iff.1 h
 obtain ⟨hlt,h1,_⟩:=this
 rw [List.getElem?_eq_getElem hlt,h1]
def Gh.sub (G : Gh) (bs : List Nat) : Gh:={ al:=fun i => (bs[i]?).bind G.al,tb:=fun _ _ => none,fz:=G.fz,sz:=G.sz }
theorem VR.ren1 {G : Gh} {bs : List Nat} {x y : AV} {u : Value} (h : VR G x u) (hr : ren1 bs x = some y) : VR (G.sub bs) y u:=by
 unfold Proofs.YtildamklmoekaaaGreatDoor.ren1 at hr
 split at hr
 ·rename_i b o
  simp only [Option.map_eq_some_iff] at hr
  obtain ⟨i,hi,rfl⟩:=hr
  obtain ⟨B,hB,rfl⟩:=h.inv_ptr
  exact .ptr i o B (by simp [Gh.sub,vP hi,hB])
 ·rename_i b n s
  simp only [Option.map_eq_some_iff] at hr
  obtain ⟨i,hi,rfl⟩:=hr
  rcases h.inv_ms with ⟨B,c,hB,rfl,hc⟩ | ⟨rfl,A,c,rfl⟩
  ·exact .ms i n s B c (by simp [Gh.sub,vP hi,hB]) hc
  ·exact .ms0 i s A c
 ·split at hr
  ·rename_i hc
   cases hr
   exact h.plain.move hc (fun _ _ _ h => h)
  ·cases hr
theorem VR.ren {G : Gh} {bs : List Nat} {x y : AV} {u : Value} (h : VR G x u) (hr : ren bs x = some y) : VR (G.sub bs) y u:=by
 unfold Proofs.YtildamklmoekaaaGreatDoor.ren at hr
 split at hr
 ·rename_i f ps caps
  simp only [Option.map_eq_some_iff,Option.bind_eq_some_iff] at hr
  obtain ⟨qs,hqs,cs,hcs,rfl⟩:=hr
  obtain ⟨vs,us,rfl,hp,hl,hv⟩:=h.inv_fn
  obtain ⟨h1,h2⟩:=bU hcs
  obtain ⟨g1,g2⟩:=bU hqs
  refine .fn f qs cs vs us (by rw [hp.1,g1]) (fun i z v hz hv' => ?_) (by rw [hl,h1]) fun i z v hz hv' => ?_
  ·obtain ⟨z',hz',hr'⟩:=g2 i z hz
   exact (hp.2 i z' v hz' hv').ren1 hr'
  ·obtain ⟨z',hz',hr'⟩:=h2 i z hz
   exact (hv i z' v hz' hv').ren1 hr'
 ·exact h.ren1 hr
theorem VR.back1 {G Gc : Gh} {n n' m : Nat} {x y : AV} {u : Value} (h : VR Gc x u) (hr : back1 n n' m x = some y) (hal : ∀ i B,n ≤ i → i < n' → Gc.al i = some B → G.al (m + (i - n)) = some B) (hfz : ∀ b o v,Gc.fz b o = some v → G.fz b o = some v) : VR G y u:=by
 unfold Proofs.YtildamklmoekaaaGreatDoor.back1 at hr
 split at hr
 ·rename_i i o
  split at hr
  ·rename_i hn
   cases hr
   obtain ⟨B,hB,rfl⟩:=h.inv_ptr
   exact .ptr _ o B (hal i B hn.1 hn.2 hB)
  ·cases hr
 ·rename_i i k s
  split at hr
  ·rename_i hn
   cases hr
   rcases h.inv_ms with ⟨B,c,hB,rfl,hc⟩ | ⟨rfl,A,c,rfl⟩
   ·exact .ms _ k s B c (hal i B hn.1 hn.2 hB) hc
   ·exact .ms0 _ s A c
  ·cases hr
 ·split at hr
  ·rename_i hc
   cases hr
   exact h.plain.move hc hfz
  ·cases hr
theorem VR.back {G Gc : Gh} {n n' m : Nat} {x y : AV} {u : Value} (h : VR Gc x u) (hr : back n n' m x = some y) (hal : ∀ i B,n ≤ i → i < n' → Gc.al i = some B → G.al (m + (i - n)) = some B) (hfz : ∀ b o v,Gc.fz b o = some v → G.fz b o = some v) : VR G y u:=by
 unfold Proofs.YtildamklmoekaaaGreatDoor.back at hr
 split at hr
 ·rename_i vs
  simp only [Option.map_eq_some_iff] at hr
  obtain ⟨cs,hcs,rfl⟩:=hr
  obtain ⟨us,rfl,hl,hv⟩:=h.inv_tup
  obtain ⟨h1,h2⟩:=bU hcs
  refine .tup cs us (by rw [hl,h1]) fun i z v hz hv' => ?_
  obtain ⟨z',hz',hr'⟩:=h2 i z hz
  exact (hv i z' v hz' hv').back1 hr' hal hfz
 ·exact h.back1 hr hal hfz
theorem tR {bs : List Nat} {S : St} {cells : List (List AV)} (hcells : bs.mapM (fun b => S.bx[b]?) = some cells) : cells.length = bs.length ∧ ∀ (i b : Nat),bs[i]? = some b → ∃ cs,cells[i]? = some cs ∧ S.bx[b]? = some cs:=by
 obtain ⟨hl2,hm2⟩:=bU hcells
 refine ⟨hl2,fun i b hib => ?_⟩
 have hlt : i < cells.length:=by rw [hl2]; exact (List.getElem?_eq_some_iff.1 hib).1
 obtain ⟨b',hb',hcs⟩:=hm2 i cells[i] (List.getElem?_eq_getElem hlt)
 rw [hib] at hb'; cases hb'
 exact ⟨_,List.getElem?_eq_getElem hlt,hcs⟩
theorem uR {as1 as' : List AV} {S : St} {bs : List Nat} {cells : List (List AV)} (has : as1.mapM (ren bs) = some as') (hcells : bs.mapM (fun b => S.bx[b]?) = some cells) (hclean : ∀ x ∈ cells,bB x = true) (hnd : bs.Nodup) {G : Gh} {w : World} {us : Array Value} (hI : Inv G S w) (hv : VRs G as1 us) : Inv (G.sub bs) ⟨cells,[]⟩ w ∧ VRs (G.sub bs) as' us:=by
 obtain ⟨hl1,hm1⟩:=bU has
 obtain ⟨hl2,hm2⟩:=bU hcells
 have hbx : ∀ (i b : Nat),bs[i]? = some b → ∃ cs,cells[i]? = some cs ∧ S.bx[b]? = some cs:=by
  intro i b hib
  have hlt : i < cells.length:=by rw [hl2]; exact (List.getElem?_eq_some_iff.1 hib).1
  obtain ⟨b',hb',hcs⟩:=hm2 i cells[i] (List.getElem?_eq_getElem hlt)
  rw [hib] at hb'; cases hb'
  exact ⟨_,List.getElem?_eq_getElem hlt,hcs⟩
 have hIc : Inv (G.sub bs) ⟨cells,[]⟩ w:=by
  refine ⟨?_,fun t n s0 B s c h => by simp at h,hI.fz,?_,fun t n v h => by simp [Gh.sub] at h,?_,fun t t' n n' s0 s0' B s s' c c' h => by simp at h,fun b B t n s0 s c h1 h2 => by simp at h2,hI.gl,hI.sz⟩
  ·intro i B cs hal hcs
   simp only [Gh.sub,Option.bind_eq_some_iff] at hal
   obtain ⟨b,hb,hB⟩:=hal
   obtain ⟨cs',h1,h2⟩:=hbx i b hb
   rw [hcs] at h1; cases h1
   rcases hI.box b B cs hB h2 with h0 | ⟨us',T,k1,k2,k3,k4⟩
   ·exact .inl h0
   ·refine .inr ⟨us',T,k1,k2,fun j x u hx hu => (k3 j x u hx hu).move ?_ (fun _ _ _ h => h),k4⟩
    exact cO.1 (hclean cs (List.mem_of_getElem? hcs)) x (List.mem_of_getElem? hx)
  ·intro i B hal
   simp only [Gh.sub,Option.bind_eq_some_iff] at hal
   obtain ⟨b,hb,hB⟩:=hal
   exact ⟨by rw [hl2]; exact (List.getElem?_eq_some_iff.1 hb).1,(hI.dal b B hB).2⟩
  ·intro i i' B h1 h2
   simp only [Gh.sub,Option.bind_eq_some_iff] at h1 h2
   obtain ⟨b,hb,hB⟩:=h1
   obtain ⟨b',hb',hB'⟩:=h2
   have:=hI.injA _ _ _ hB hB'
   subst this
   have hlt:=(List.getElem?_eq_some_iff.1 hb).1
   exact (List.getElem?_inj hlt hnd).1 (by rw [hb,hb'])
 have hvs : VRs (G.sub bs) as' us:=by
  refine ⟨by rw [hv.1,hl1],fun i x u hx hu => ?_⟩
  obtain ⟨x',hx',hr⟩:=hm1 i x hx
  exact (hv.2 i x' u hx' hu).ren hr
 exact ⟨hIc,hvs⟩
theorem sB {S : St} {bs : List Nat} {cells cells' bx : List (List AV)} {lv : List (Nat × Nat)} (hcells : bs.mapM (fun b => S.bx[b]?) = some cells) (hnd : bs.Nodup) {G Gc : Gh} {w w' : World} {v0 v1 : AV} {u : Value} (hI : Inv G S w) (hlen : cells.length ≤ cells'.length) (hback : back bs.length cells'.length S.bx.length v0 = some v1) (hclean' : ∀ x ∈ cells',bB x = true)
  (hvr : VR Gc v0 u) (hI' : Inv Gc ⟨cells' ++ bx,lv⟩ w') (hg : Gro (G.sub bs) ⟨cells,[]⟩ w Gc ⟨cells' ++ bx,lv⟩ w') : ∃ G',VR G' v1 u ∧ Inv G' ⟨bD S.bx bs cells' ++ cells'.drop bs.length,S.lv⟩ w' ∧ Gro G S w G' ⟨bD S.bx bs cells' ++ cells'.drop bs.length,S.lv⟩ w' ∧ (∀ b,b < S.bx.length → G'.al b = G.al b) ∧ G'.tb = G.tb:=by
 obtain ⟨hl2,hbx⟩:=tR hcells
 have hfz : ∀ b o v,G.fz b o = some v → Gc.fz b o = some v:=hg.le.fz
 have hlen' : bs.length ≤ cells'.length:=by rw [← hl2]; exact hlen
 -- the caller's boxes,and the new ones
 obtain ⟨al',hal'⟩ : ∃ al' : Nat → Option Nat,al' = fun k => if k < S.bx.length then G.al k else if k < S.bx.length + (cells'.length - bs.length) then Gc.al (bs.length + (k - S.bx.length)) else none:=⟨_,rfl⟩
 have ha1 : ∀ k,k < S.bx.length → al' k = G.al k:=fun k h => by rw [hal']; simp [h]
 have ha2 : ∀ k B,S.bx.length ≤ k → al' k = some B → k - S.bx.length < cells'.length - bs.length ∧ Gc.al (bs.length + (k - S.bx.length)) = some B:=fun k B h h2 => by
  rw [hal'] at h2
  simp only at h2
  rw [if_neg (by omega)] at h2
  split at h2
  ·exact ⟨by omega,h2⟩
  ·cases h2
 have hnewB : ∀ i B,bs.length ≤ i → Gc.al i = some B → w.heap.size ≤ B:=by
  intro i B hi hB
  rcases hg.own B (.inl ⟨i,hB⟩) with (⟨j,hj⟩ | ⟨t,n,s0,s,c,h1,_⟩) | h
  ·exfalso
   have h2:=hI'.injA _ _ _ hB (hg.le.al _ _ hj)
   simp only [Gh.sub,Option.bind_eq_some_iff] at hj
   obtain ⟨b,hb,_⟩:=hj
   have:=(List.getElem?_eq_some_iff.1 hb).1
   omega
  ·simp at h1
  ·exact h
 have hle : G.le ⟨al', G.tb, Gc.fz, Gc.sz⟩ := ⟨fun b B h => by
  show al' b = some B
  rw [ha1 b (hI.dal b B h).1]; exact h, fun _ _ _ h => h, hfz, fun B m h => hg.le.sz B m h⟩
 have hnown : ∀ B,(∀ (i b : Nat),bs[i]? = some b → G.al b ≠ some B) → ¬ vD (G.sub bs) ⟨cells,[]⟩ B:=by
  rintro B h (⟨i,hi⟩ | ⟨t,n,s0,s,c,h1,_⟩)
  ·simp only [Gh.sub,Option.bind_eq_some_iff] at hi
   obtain ⟨b,hb,hB⟩:=hi
   exact h i b hb hB
  ·simp at h1
 have hget := xY bs S.bx cells' hnd hlen' (fun b hb => by
  obtain ⟨i,hi,rfl⟩:=List.mem_iff_getElem.1 hb
  obtain ⟨cs,_,h2⟩:=hbx i _ (List.getElem?_eq_getElem hi)
  exact (List.getElem?_eq_some_iff.1 h2).1)
 have hsl:=iV bs S.bx cells'
 refine ⟨⟨al',G.tb,Gc.fz,Gc.sz⟩,?_,⟨?_,?_,hI'.fz,?_,hI.dtb,?_,hI.injT,?_,hI'.gl,hI'.sz⟩,⟨hle,hg.os,hg.tape,hg.output,hg.size,?_,?_,hg.oth⟩,ha1,rfl⟩
 ·refine hvr.back hback (fun i B hi hi' hB => ?_) (fun _ _ _ h => h)
  show al' _ = _
  rw [hal']
  simp only
  rw [if_neg (by omega),if_pos (by omega),show bs.length + (S.bx.length + (i - bs.length) - S.bx.length) = i by omega]
  exact hB
 ·intro b B cs hal hcs
  by_cases hbS : b < S.bx.length
  ·rw [List.getElem?_append_left (by rw [hsl]; exact hbS)] at hcs
   have hal : G.al b = some B:=by rw [← ha1 b hbS]; exact hal
   by_cases hmem : b ∈ bs
   ·obtain ⟨i,hi,hib⟩:=List.mem_iff_getElem.1 hmem
    have hib' : bs[i]? = some b:=by rw [List.getElem?_eq_getElem hi,hib]
    have h1:=(hget b).1 i hib'
    rw [h1] at hcs
    have hic : i < cells'.length:=(List.getElem?_eq_some_iff.1 hcs).1
    have hal' : Gc.al i = some B:=hg.le.al i B (by simp [Gh.sub,hib',hal])
    rcases hI'.box i B cs hal' (by rw [List.getElem?_append_left hic]; exact hcs) with h0 | ⟨us',T,k1,k2,k3,k4⟩
    ·exact .inl h0
    ·refine .inr ⟨us',T,k1,k2,fun j x u hx hu => (k3 j x u hx hu).move ?_ (fun _ _ _ h => h),k4⟩
     exact cO.1 (hclean' cs (List.mem_of_getElem? hcs)) x (List.mem_of_getElem? hx)
   ·rw [(hget b).2 hmem] at hcs
    have hd:=hI.dal b B hal
    have hn := hnown B (fun i b' hb' hal' => hmem (by
     have:=hI.injA _ _ _ hal hal'
     subst this
     exact List.mem_of_getElem? hb'))
    obtain ⟨hh,hf⟩:=hg.fr B hd.2 hn
    rcases hI.box b B cs hal hcs with h0 | ⟨us',T,k1,k2,k3,k4⟩
    ·exact .inl h0
    ·exact .inr ⟨us',T,by rw [hh]; exact k1,k2,fun j x u hx hu => (k3 j x u hx hu).mono hle,fun o => by rw [show (Gh.mk al' G.tb Gc.fz Gc.sz).fz B o = Gc.fz B o from rfl,hf o]; exact k4 o⟩
  ·have hbS:=Nat.le_of_not_lt hbS
   obtain ⟨hk,hB⟩:=ha2 b B hbS hal
   rw [List.getElem?_append_right (by rw [hsl]; exact hbS),List.getElem?_drop,hsl] at hcs
   rcases hI'.box _ B cs hB (by rw [List.getElem?_append_left (by omega)]; exact hcs) with h0 | ⟨us',T,k1,k2,k3,k4⟩
   ·exact .inl h0
   ·refine .inr ⟨us',T,k1,k2,fun j x u hx hu => (k3 j x u hx hu).move ?_ (fun _ _ _ h => h),k4⟩
    exact cO.1 (hclean' cs (List.mem_of_getElem? hcs)) x (List.mem_of_getElem? hx)
 ·intro t n s0 B s c h1 h2
  obtain ⟨k1,⟨us',T,k2,k3⟩,k4,k5⟩:=hI.tok t n s0 B s c h1 h2
  have hlt:=hI.toklt h1 h2
  obtain ⟨hh,hf⟩:=hg.fr B hlt (hnown B fun i b hb hal => hI.sep b B t n s0 s c hal h1 h2)
  exact ⟨k1,⟨us',T,by rw [hh]; exact k2,k3⟩,k4,fun o ho => by rw [show (Gh.mk al' G.tb Gc.fz Gc.sz).fz B o = Gc.fz B o from rfl,hf o]; exact k5 o ho⟩
 ·intro b B hal
  by_cases hbS : b < S.bx.length
  ·have hal : G.al b = some B := by rw [← ha1 b hbS]; exact hal
   have:=hI.dal b B hal
   exact ⟨by simp [hsl]; omega,Nat.lt_of_lt_of_le this.2 hg.size⟩
  ·obtain ⟨hk,hB⟩:=ha2 b B (Nat.le_of_not_lt hbS) hal
   exact ⟨by simp [hsl]; omega,(hI'.dal _ B hB).2⟩
 ·intro b b' B h1 h2
  by_cases hb1 : b < S.bx.length <;> by_cases hb2 : b' < S.bx.length
  ·exact hI.injA b b' B (by rw [← ha1 b hb1]; exact h1) (by rw [← ha1 b' hb2]; exact h2)
  ·obtain ⟨_,hB⟩:=ha2 b' B (Nat.le_of_not_lt hb2) h2
   have:=hnewB _ B (by omega) hB
   have:=(hI.dal b B (by rw [← ha1 b hb1]; exact h1)).2
   omega
  ·obtain ⟨_,hB⟩:=ha2 b B (Nat.le_of_not_lt hb1) h1
   have:=hnewB _ B (by omega) hB
   have:=(hI.dal b' B (by rw [← ha1 b' hb2]; exact h2)).2
   omega
  ·obtain ⟨_,hB⟩:=ha2 b B (Nat.le_of_not_lt hb1) h1
   obtain ⟨_,hB'⟩:=ha2 b' B (Nat.le_of_not_lt hb2) h2
   have:=hI'.injA _ _ _ hB hB'
   omega
 ·intro b B t n s0 s c h1 h2 h3
  by_cases hb1 : b < S.bx.length
  ·exact hI.sep b B t n s0 s c (by rw [← ha1 b hb1]; exact h1) h2 h3
  ·obtain ⟨_,hB⟩:=ha2 b B (Nat.le_of_not_lt hb1) h1
   have:=hnewB _ B (by omega) hB
   have:=hI.toklt h2 h3
   omega
 ·intro B hB hno
  exact hg.fr B hB (hnown B fun i b hb hal => hno (.inl ⟨b,hal⟩))
 ·rintro B (⟨b,hb⟩ | ho')
  ·by_cases hb1 : b < S.bx.length
   ·exact .inl (.inl ⟨b,by rw [← ha1 b hb1]; exact hb⟩)
   ·obtain ⟨_,hB⟩:=ha2 b B (Nat.le_of_not_lt hb1) hb
    exact .inr (hnewB _ B (by omega) hB)
  ·exact .inl (.inr ho')
theorem aEC {P : Program} {orc : Orc} {f : FuncId} {as1 : List AV} {S S' : St} {v : AV} (ho : aGX P orc) (he : kV orc f as1 S = some (v,S')) {G : Gh} {w : World} {us : Array Value} (hI : Inv G S w) (hv : VRs G as1 us) :
  (callFunc f us).run P w = .ok (.enter f us) w ∧ Calls P f us w fun e w' => ∃ u G',e = .returned u ∧ VR G' v u ∧ Inv G' S' w' ∧ Gro G S w G' S' w' ∧ (∀ b,b < S.bx.length → G'.al b = G.al b) ∧ G'.tb = G.tb:=by
 unfold kV at he
 simp only [] at he
 generalize hbs : fpOf as1 = bs at he
 split at he
 ·rename_i as' cells has hcells
  split at he
  ·rename_i hcond
   simp only [Bool.and_eq_true,decide_eq_true_eq,List.all_eq_true] at hcond
   obtain ⟨hclean,hnd⟩:=hcond
   split at he
   ·rename_i v0 cells' horc
    split at he
    ·rename_i v1 hback
     split at he
     ·rename_i hclean'
      cases he
      rw [List.all_eq_true] at hclean'
      obtain ⟨hen,hlen,hcalls⟩:=ho _ _ _ _ _ horc
      obtain ⟨hIc,hvs⟩:=uR has hcells hclean hnd hI hv
      refine ⟨hen us w,(hcalls (G.sub bs) w us hIc hvs).mono ?_⟩
      rintro e w' ⟨u,Gc,bx,lv,rfl,hvr,hI',hg⟩
      obtain ⟨G',k1,k2,k3,k4,k5⟩:=sB hcells hnd hI hlen hback hclean' hvr hI' hg
      exact ⟨u,G',rfl,k1,k2,k3,k4,k5⟩
     ·cases he
    ·cases he
   ·cases he
  ·cases he
 ·cases he
abbrev Clr:=FuncId → List AV → St → Option (AV × Option St)
def gT (X : Clr) (f : FuncId) (xs : List AV) (S : St) : Option (AV × St):=match X f xs S with
 | some (v,none) => some (v,S)
 | some (v,some T) => some (v,T)
 | none => none
structure Keep (G : Gh) (S : St) (G' : Gh) (S' : St) : Prop where
 bl : S.bx.length ≤ S'.bx.length
 ll : S.lv.length ≤ S'.lv.length
 al : ∀ b,b < S.bx.length → G.al b = none → G'.al b = none
 tb : ∀ t,t < S.lv.length → (∀ n,G.tb t n = none) → ∀ n,G'.tb t n = none
 lvn : ∀ t,t < S.lv.length → (∀ n,G.tb t n = none) → S'.lv[t]? = S.lv[t]?
theorem Keep.refl (G : Gh) (S : St) : Keep G S G S:=⟨Nat.le_refl _,Nat.le_refl _,fun _ _ h => h,fun _ _ h => h,fun _ _ _ => rfl⟩
theorem Keep.trans {G G1 G2 : Gh} {S S1 S2 : St} (h : Keep G S G1 S1) (k : Keep G1 S1 G2 S2) : Keep G S G2 S2 :=
 ⟨Nat.le_trans h.bl k.bl,Nat.le_trans h.ll k.ll,fun b hb h0 => k.al b (Nat.lt_of_lt_of_le hb h.bl) (h.al b hb h0),fun t ht h0 => k.tb t (Nat.lt_of_lt_of_le ht h.ll) (h.tb t ht h0),fun t ht h0 => (k.lvn t (Nat.lt_of_lt_of_le ht h.ll) (h.tb t ht h0)).trans (h.lvn t ht h0)⟩
theorem Keep.box (G : Gh) (S : St) (B : Nat) (cs : List AV) : Keep G S (G.box S.bx.length B) ⟨S.bx ++ [cs],S.lv⟩ :=
 ⟨by simp,Nat.le_refl _,fun b hb h => by simp only [Gh.box]; rw [if_neg (by omega)]; exact h,fun _ _ h => h,fun _ _ _ => rfl⟩
theorem Keep.put (G : Gh) (S : St) (b : Nat) (cs : List AV) : Keep G S G ⟨S.bx.set b cs,S.lv⟩:=⟨by simp,Nat.le_refl _,fun _ _ h => h,fun _ _ h => h,fun _ _ _ => rfl⟩
theorem Keep.lit {G : Gh} {S : St} {lv : List (Nat × Nat)} {t n B s c : Nat} {us : Array Value} (hl : S.lv.length ≤ lv.length) (h : S.lv.length ≤ t ∨ ∃ k v, G.tb t k = some v) (hv : ∀ t', t' < S.lv.length → t' ≠ t → lv[t']? = S.lv[t']? := by first | (intro t' h _; exact List.getElem?_append_left h) | (intro t' _ hne; exact List.getElem?_set_ne (Ne.symm hne))) : Keep G S (G.lit t n B s c us) ⟨S.bx, lv⟩ := ⟨Nat.le_refl _, hl, fun _ _ h => h, fun t' ht' h' n' => by
 simp only [Gh.lit]
 rw [if_neg]
 ·exact h' n'
 ·rintro ⟨rfl,rfl⟩
  rcases h with h | ⟨k,v,h⟩
  ·omega
  ·(rw [h' k] at h; cases h),fun t' ht' h' => hv t' ht' fun he => by
  subst he
  rcases h with h | ⟨k,v,h⟩
  ·omega
  ·rw [h' k] at h; cases h⟩
structure eE (P : Program) (X : Clr) : Prop where
 ok : ∀ f as1 S v S',gT X f as1 S = some (v,S') → ∀ (G : Gh) (w : World) (us : Array Value),Inv G S w → VRs G as1 us →
  (callFunc f us).run P w = .ok (.enter f us) w ∧ Calls P f us w fun e w' => ∃ u G',e = .returned u ∧ VR G' v u ∧ Inv G' S' w' ∧ Gro G S w G' S' w' ∧ Keep G S G' S'
theorem aDk {orc : Orc} {f : FuncId} {as1 : List AV} {S S' : St} {v : AV} (he : kV orc f as1 S = some (v,S')) : S.bx.length ≤ S'.bx.length ∧ S'.lv = S.lv:=by
 unfold kV at he
 simp only [] at he
 split at he
 ·split at he
  ·split at he
   ·split at he
    ·split at he
     ·cases he
      exact ⟨by simp [iV],rfl⟩
     ·cases he
    ·cases he
   ·cases he
  ·cases he
 ·cases he
theorem aCa {orc : Orc} {f : FuncId} {as1 : List AV} {S S' : St} {v : AV} (hf : fpOf as1 = []) (h : kV orc f as1 S = some (v,S')) (hl : S'.bx.length = S.bx.length) : S' = S:=by
 unfold kV at h
 rw [hf] at h
 simp only [List.mapM_nil,Option.pure_def] at h
 split at h
 ·split at h
  ·split at h
   ·rename_i v0 cells' horc
    split at h
    ·split at h
     ·simp only [Option.some.injEq,Prod.mk.injEq] at h
      obtain ⟨_,rfl⟩:=h
      have hs : bD S.bx [] cells' = S.bx:=by cases cells' <;> rfl
      simp only [hs,List.length_append,List.length_nil,List.drop_zero] at hl ⊢
      have : cells' = []:=List.eq_nil_of_length_eq_zero (by omega)
      rw [this,List.append_nil]
     ·cases h
    ·cases h
   ·cases h
  ·cases h
 ·cases h
def nB (orc : Orc) : Clr:=fun f xs S => match kV orc f xs S with
 | some (v,T) => bif (fpOf xs).isEmpty && Nat.beq T.bx.length S.bx.length then some (v,none) else some (v,some T)
 | none => none
theorem rC (orc : Orc) (f : FuncId) (xs : List AV) (S : St) : gT (nB orc) f xs S = kV orc f xs S:=by
 unfold gT nB
 cases he : kV orc f xs S with
 | none => rfl
 | some p =>
  obtain ⟨v,T⟩:=p
  simp only []
  cases hc : ((fpOf xs).isEmpty && Nat.beq T.bx.length S.bx.length) with
  | false => rfl
  | true =>
   simp only [Bool.and_eq_true,List.isEmpty_iff] at hc
   rw [cond_true]
   simp only []
   rw [aCa hc.1 he (Nat.eq_of_beq_eq_true hc.2)]
theorem aFx {P : Program} {orc : Orc} (ho : aGX P orc) : eE P (nB orc) := ⟨by
 intro f as1 S v S' he G w us hI hv
 rw [rC] at he
 obtain ⟨h1,h2⟩:=aEC ho he hI hv
 obtain ⟨h3,h4⟩:=aDk he
 refine ⟨h1,h2.mono ?_⟩
 rintro e w' ⟨u,G',rfl,k1,k2,k3,k4,k5⟩
 exact ⟨u, G', rfl, k1, k2, k3, h3, by rw [h4]; exact Nat.le_refl _, fun b hb h => by rw [k4 b hb]; exact h, fun t _ h n => by rw [k5]; exact h n, fun t _ _ => by rw [h4]⟩⟩
end
section
open Go.RowKit
def kD (ops : Array Oper) : Bool:=ops.all fun o => match o.op with | .defer _ => false | _ => true
theorem uB {ops : Array Oper} (h : kD ops = true) {i : Nat} {o : Oper} (ho : ops[i]? = some o) : ∀ c,o.op ≠ .defer c:=by
 intro c hc
 have:=Array.all_eq_true_iff_forall_mem.1 h o (Array.mem_of_getElem? ho)
 rw [hc] at this
 cases this
theorem xZ {l0 n : Nat} {P : Program} {row : String} {args : Array Value} {w : World} {R : Value → World → Prop} (h : Rows P row args w R) : RowsIn (Fence.wide.inRound l0) n P row args w R :=
 fun c cs _ => let ⟨v,w',r,s⟩:=h c cs; ⟨v,w',r,stepsIn_wide.2 s⟩
theorem xS {P : Program} {ops : Array Oper} {Q : Exit → Act → World → Prop} {l0 n : Nat} (hnd : kD ops = true) (hQ : ∀ a w,¬ Q .outgrown a w) {i : Nat} {K K' : Act → World → Prop} {a : Act} {w : World}
  (hK : ∀ a w,K a w → K' a w) (h : wpOp P ops Q i K a w) : wpOpIn (Fence.wide.inRound l0) n P ops Q i K' a w:=by
 have hL : ¬ LetsOut Q:=fun ⟨a,w,hq⟩ => hQ a w hq
 unfold wpOp at h
 unfold wpOpIn
 cases ho : ops[i]? with
 | none => rw [ho] at h; exact hK _ _ h
 | some o =>
  rw [ho] at h
  simp only [] at h ⊢
  by_cases hw : Region.wanted o (yielded ops a.tmps) = true
  ·rw [if_pos hw] at h ⊢
   rcases h with h | ⟨_,h⟩
   ·refine ⟨fun f _ => trivial,?_⟩
    have hs : o.semAt (Fence.wide.inRound l0).round a.eval = execOp a.eval o:=Oper.semAt_eq _ _ _ (uB hnd ho)
    rw [hs]
    unfold Oper.wp at h
    generalize (execOp a.eval o).run P w = r at h
    cases r with
    | ok nx w' =>
     cases nx <;> simp only [Oper.upon,Oper.uponIn] at h ⊢
     case value v => exact hK _ _ h
     case skip => exact hK _ _ h
     case defer d => exact hK _ _ h
     case enter f args =>
      refine ⟨fun hd => by simp [Fence.wide,Fence.inRound] at hd,CallsIn.inRound l0 (callsIn_wide.2 (Calls.mono h fun e w'' he => ?_))⟩
      cases e with
      | returned v => exact hK _ _ he
      | panicked c => exact he
      | outgrown => exact he
     case row row args => exact ⟨fun hd => by simp [Fence.wide,Fence.inRound] at hd,xZ (Rows.mono h fun v w'' he => hK _ _ he)⟩
    | halt x w' => cases x <;> simp only [Oper.upon,Oper.uponIn] at h ⊢ <;> exact h
   ·exact absurd h hL
  ·rw [if_neg hw] at h ⊢
   exact ⟨fun f _ => trivial,hK _ _ h⟩
theorem wM {P : Program} {ops : Array Oper} {Q : Exit → Act → World → Prop} {l0 n : Nat} (hnd : kD ops = true) (hQ : ∀ a w,¬ Q .outgrown a w) :
  ∀ (fuel : Nat) (listed : Array Bool) (a : Act) (w : World),wpAny P .any ops Q fuel listed a w → wpAnyIn (Fence.wide.inRound l0) n P .any ops Q fuel listed a w
 | 0,_,_,_,h => h
 | fuel + 1,_,_,_,h => ⟨h.1,fun i hi => xS hnd hQ (fun a w h' => wM hnd hQ fuel _ a w h') (h.2 i hi)⟩
theorem wL {P : Program} {ops : Array Oper} {Q : Exit → Act → World → Prop} {l0 n : Nat} (hnd : kD ops = true) (hQ : ∀ a w,¬ Q .outgrown a w) :
  ∀ (l : List Nat) (a : Act) (w : World),wpOps P ops Q l a w → wpOpsIn (Fence.wide.inRound l0) n P ops Q l a w
 | [],_,_,h => h
 | i :: l,a,w,h => by
  rw [wpOps_cons] at h
  rw [wpOpsIn_cons]
  exact xS hnd hQ (fun a w h' => wL hnd hQ l a w h') h
inductive Md where
 | plain
 | round (l n : Nat)
def cwp (md : Md) (P : Program) (c : Code) (Q : Exit → Act → World → Prop) (a : Act) (w : World) : Prop :=
 match md with
 | .plain => c.wp P Q a w
 | .round l n => c.wpIn (Fence.wide.inRound l) n P Q a w
section rules
variable {md : Md} {P : Program} {Q : Exit → Act → World → Prop} {a : Act} {w : World}
theorem gE {c : Code} {Q' : Exit → Act → World → Prop} (h : cwp md P c Q a w) (hq : ∀ e a w,Q e a w → Q' e a w) : cwp md P c Q' a w:=by
 cases md
 ·exact wp_mono h hq
 ·exact wpIn_mono h hq
theorem aCo (h : Q .normal a w) : cwp md P .skip Q a w:=by
 cases md
 ·exact wp_skip h
 ·exact wpIn_skip h
theorem aAy {l : Nat} (h : Q .normal a w) : cwp md P (.label l) Q a w:=by
 cases md
 ·exact wp_label h
 ·exact wpIn_label h
theorem aCp {id : Nat} (h : Q (.exit id) a w) : cwp md P (.exit id) Q a w:=by
 cases md
 ·exact wp_exit h
 ·exact wpIn_exit h
theorem aEa (h : Q .ret a w) : cwp md P .ret Q a w:=by
 cases md
 ·exact wp_ret h
 ·exact wpIn_ret h
theorem aBi {x y : Code} (h : cwp md P x (Exit.then (cwp md P y Q) Q) a w) : cwp md P (.seq x y) Q a w:=by
 cases md
 ·exact wp_seq h
 ·exact wpIn_seq h
theorem aCq {c : Operand} {x y : Code} {t : Bool} (hc : a.eval c = .bool t) (h : cwp md P (if t then x else y) Q a w) : cwp md P (.cond c x y) Q a w:=by
 cases md
 ·exact wp_cond hc h
 ·exact wpIn_cond hc h
theorem aAz {id : Nat} {c : Code} (h : cwp md P c (Exit.inBlock id Q) a w) : cwp md P (.block id c) Q a w:=by
 cases md
 ·exact wp_block h
 ·exact wpIn_block h
theorem yR {c : Code} (I : Act → World → Prop) (μ : Act → World → Nat) (h₀ : I a w)
  (round : ∀ a w,I a w → cwp md P c (Exit.then (fun a' w' => I a' w' ∧ μ a' w' < μ a w) Q) a w) : cwp md P (.loop c) Q a w:=by
 cases md
 ·exact wp_loop I μ h₀ round
 ·exact wpIn_loop I μ h₀ round
theorem yQ {id : Nat} {ops : Array Oper} (hnd : kD ops = true) (hQ : ∀ a w,¬ Q .outgrown a w) (h : wpOps P ops Q (List.range ops.size) a w) : cwp md P (.region id ops false) Q a w:=by
 cases md
 ·exact wp_region h
 ·exact wpIn_region (wL hnd hQ _ _ _ h)
theorem lT {id : Nat} {ops : Array Oper} (hm : P.follows .mixedOrders = true) (hnd : kD ops = true) (hQ : ∀ a w,¬ Q .outgrown a w) (h : wpAny P .any ops Q ops.size (Array.replicate ops.size false) a w.drew) : cwp md P (.region id ops true) Q a w:=by
 cases md
 ·exact wp_region_any hm h
 ·exact wpIn_region_any hm (wM hnd hQ _ _ _ _ h)
end rules
def finish (r : Res) (S : St) : AV × St :=
 match r with
 | .val v => (v,S)
 | .box cs => (.ptr S.bx.length 0,⟨S.bx ++ [cs],S.lv⟩)
 | .mbox cs n s => (.ms S.bx.length n s,⟨S.bx ++ [cs],S.lv⟩)
 | .lit s els => (.sl els (some S.lv.length),⟨S.bx,S.lv ++ [(els.length,s)]⟩)
 | .put b cs => (.tup [],⟨S.bx.set b cs,S.lv⟩)
 | .app s none els news => (.sl (els ++ news) (some S.lv.length),⟨S.bx,S.lv ++ [((els ++ news).length,s)]⟩)
 | .app s (some t) els news => (.sl (els ++ news) (some t),⟨S.bx,S.lv.set t ((els ++ news).length,s)⟩)
 | .call _ _ => (.junk,S)
section
variable {β : Type}
def fNat (n : Nat) (k : Nat → β) : β:=match n with
 | 0 => k 0
 | n + 1 => k (n + 1)
theorem xP (n : Nat) (k : Nat → β) : fNat n k = k n:=by cases n <;> rfl
def fInt (z : Int) (k : Int → β) : β:=match z with
 | .ofNat n => fNat n fun n => k (.ofNat n)
 | .negSucc n => fNat n fun n => k (.negSucc n)
theorem aDZ (z : Int) (k : Int → β) : fInt z k = k z:=by cases z <;> simp [fInt,xP]
def aFs (b : Bool) (k : Bool → β) : β:=match b with
 | true => k true
 | false => k false
theorem aBZ (z : Bool) (k : Bool → β) : aFs z k = k z:=by cases z <;> rfl
def fOpt (t : Option Nat) (k : Option Nat → β) : β:=match t with
 | none => k none
 | some n => fNat n fun n => k (some n)
theorem aDY (z : Option Nat) (k : Option Nat → β) : fOpt z k = k z:=by cases z <;> simp [fOpt,xP]
def f0 (x : AV) (k : AV → β) : β:=match x with
 | .int i z => fInt z fun z => k (.int i z)
 | .bool b => aFs b fun b => k (.bool b)
 | .ptr b o => fNat b fun b => fNat o fun o => k (.ptr b o)
 | .ms b n s => fNat b fun b => fNat n fun n => fNat s fun s => k (.ms b n s)
 | .mg b n s => fNat b fun b => fNat n fun n => fNat s fun s => k (.mg b n s)
 | x => k x
theorem aHU (x : AV) (k : AV → β) : f0 x k = k x:=by cases x <;> simp [f0,xP,aDZ,aBZ]
def fw (x : AV) (k : AV → β) : β:=match x with
 | .int i z => k (.int i z)
 | .bool b => k (.bool b)
 | .agg l => k (.agg l)
 | .tup l => k (.tup l)
 | .ptr b o => k (.ptr b o)
 | .rop l => k (.rop l)
 | .sl l t => k (.sl l t)
 | .ms b n s => k (.ms b n s)
 | .mg b n s => k (.mg b n s)
 | .fn f ps cs => k (.fn f ps cs)
 | x => k x
theorem aHT (x : AV) (k : AV → β) : fw x k = k x:=by cases x <;> rfl
noncomputable def flw (l : List AV) : (List AV → β) → β:=List.rec (fun k => k []) (fun x _ ih k => fw x fun x => ih fun l => k (x :: l)) l
theorem tI : ∀ (l : List AV) (k : List AV → β),flw l k = k l
 | [],k => rfl
 | x :: l,k => by
  show fw x (fun x => flw l fun l => k (x :: l)) = _
  rw [aHT,tI l]
noncomputable def fv (x : AV) (k : AV → β) : β:=match x with
 | .int i z => fInt z fun z => k (.int i z)
 | .agg l => flw l fun l => k (.agg l)
 | .bool b => aFs b fun b => k (.bool b)
 | .sl l t => flw l fun l => fOpt t fun t => k (.sl l t)
 | .tup l => flw l fun l => k (.tup l)
 | .rop l => flw l fun l => k (.rop l)
 | .fn f ps cs => flw ps fun ps => flw cs fun cs => k (.fn f ps cs)
 | x => f0 x k
theorem uI (x : AV) (k : AV → β) : fv x k = k x:=by cases x <;> simp [fv,tI,aDY,aHU,aDZ,aBZ]
noncomputable def sp {α : Type} (l : List α) : (List α → β) → β:=List.rec (fun k => k []) (fun x _ ih k => ih fun l => k (x :: l)) l
theorem xW {α : Type} : ∀ (l : List α) (k : List α → β),sp l k = k l
 | [],k => rfl
 | x :: l,k => by
  show sp l (fun l => k (x :: l)) = _
  rw [xW l]
noncomputable def setK (l : List AV) : Nat → AV → (List AV → β) → β:=List.rec (fun _ _ k => k []) (fun x l ih n y k => Nat.rec (k (y :: l)) (fun m _ => ih m y fun l => k (x :: l)) n) l
theorem aDI : ∀ (l : List AV) (n : Nat) (y : AV) (k : List AV → β),setK l n y k = k (l.set n y)
 | [],n,y,k => rfl
 | x :: l,0,y,k => rfl
 | x :: l,n + 1,y,k => by
  show setK l n y (fun l => k (x :: l)) = _
  rw [aDI l]
  rfl
noncomputable def putK (a : List AV) (d : Option Nat) (v : AV) (k : List AV → β) : β:=match d with
 | none => k a
 | some d => setK a d v k
theorem jV (a : List AV) (d : Option Nat) (v : AV) (k : List AV → β) : putK a d v k = k (putA a d v):=by
 cases d with
 | none => rfl
 | some d => exact aDI a d v k
noncomputable def fRes (r : Res) (k : Res → β) : β:=match r with
 | .val v => fv v fun v => k (.val v)
 | .box cs => flw cs fun cs => k (.box cs)
 | .mbox cs n s => flw cs fun cs => fNat n fun n => fNat s fun s => k (.mbox cs n s)
 | .lit s els => flw els fun els => k (.lit s els)
 | .put b cs => fNat b fun b => flw cs fun cs => k (.put b cs)
 | .app s t els news => fOpt t fun t => flw els fun els => flw news fun news => k (.app s t els news)
 | .call f xs => k (.call f xs)
theorem aAS (r : Res) (k : Res → β) : fRes r k = k r:=by cases r <;> simp [fRes,uI,tI,xP,aDY]
noncomputable def nthA (l : List AV) : Nat → AV:=List.rec (fun _ => .junk) (fun x _ ih n => Nat.rec x (fun m _ => ih m) n) l
theorem aDN : ∀ (l : List AV) (n : Nat),nthA l n = l.getD n .junk
 | [],n => rfl
 | x :: l,0 => rfl
 | x :: l,n + 1 => by
  show nthA l n = _
  rw [aDN l]
  simp
noncomputable def evf (a : List AV) : AOpd → AV
 | .tmp t => nthA a t
 | .con x => x
theorem bT (a : List AV) : evf a = evd a:=by
 funext x
 cases x with
 | tmp t => exact aDN a t
 | con x => rfl
end
noncomputable def evOp (orc : Clr) (o : AOp) (a : List AV) (S : St) : Option (AV × St) :=
 match aop o (evf a) S with
 | some (.call f xs) => flw xs fun xs => match gT orc f xs S with
  | some (v,T) => fv v fun v => some (v,T)
  | none => none
 | some r => fRes r fun r => some (finish r S)
 | none => none
theorem oQ {orc : Clr} {o : AOp} {a : List AV} {S : St} {f : FuncId} {xs : List AV} (h : aop o (evd a) S = some (.call f xs)) : evOp orc o a S = gT orc f xs S:=by
 unfold evOp
 rw [bT,h]
 simp only [tI,uI]
 cases gT orc f xs S with
 | none => rfl
 | some p => rfl
theorem cQ {orc : Clr} {o : AOp} {a : List AV} {S : St} {r : Res} (h : aop o (evd a) S = some r) (hc : ∀ f xs,r ≠ .call f xs) : evOp orc o a S = some (finish r S):=by
 unfold evOp
 rw [bT,h]
 cases r with
 | call f xs => exact absurd rfl (hc f xs)
 | _ => simp only [aAS]
theorem aEB {orc : Clr} {o : AOp} {a : List AV} {S : St} (h : aop o (evd a) S = none) : evOp orc o a S = none:=by
 unfold evOp
 rw [bT,h]
theorem VR.undef (G : Gh) : VR G (.tup []) undef:=.tup [] #[] rfl (fun i x u h => by simp at h)
theorem aAV {P : Program} {orc : Clr} {ao : AOp} {o : Oper} {a : List AV} {S S' : St} {v : AV} (ho : eE P orc) (hc : nA P o.type o.op = some ao) (he : evOp orc ao a S = some (v,S'))
  {G : Gh} {act : Act} {w : World} (hI : Inv G S w) (hR : Rel G a act) {K : Act → World → Prop} {Q : Exit → Act → World → Prop}
  (hK : ∀ G' u w',VR G' v u → Inv G' S' w' → Gro G S w G' S' w' → Keep G S G' S' → K (act.put o.dst u) w') : o.wp P act w K Q:=by
 unfold Oper.wp
 rcases hr : aop ao (evd a) S with _ | r
 ·rw [aEB hr] at he; cases he
 by_cases hcall : ∃ f xs,r = .call f xs
 ·obtain ⟨f,as1,rfl⟩:=hcall
  rw [oQ hr] at he
  have hs:=jF hc (fun _ => rfl) (hR.opd hI.gl) hI hr
  obtain ⟨us,hrun,hvs⟩:=hs
  obtain ⟨h1,h2⟩:=ho.ok _ _ _ _ _ he G w us hI hvs
  rw [hrun,h1]
  simp only [Oper.upon_enter]
  refine h2.mono fun e w' ⟨u,G',e',hv,hI',hg,hk⟩ => ?_
  subst e'
  exact hK G' u w' hv hI' hg hk
 ·have hnc : ∀ f xs,r ≠ .call f xs:=fun f xs h => hcall ⟨f,xs,h⟩
  rw [cQ hr hnc] at he
  have hs:=jF hc (fun _ => rfl) (hR.opd hI.gl) hI hr
  simp only [Option.some.injEq] at he
  cases r with
  | val v' =>
   obtain ⟨u,hrun,hv⟩:=hs
   cases he
   rw [hrun]
   exact hK G u w hv hI (.refl _ _ _) (.refl _ _)
  | box cs =>
   obtain ⟨us,T,hrun,hrel⟩:=hs
   cases he
   obtain ⟨h1,h2,h3⟩:=aAM hI cs us T hrel
   rw [hrun]
   exact hK _ _ _ (.ptr _ _ _ h1) h2 h3 (.box _ _ _ _)
  | mbox cs n s =>
   obtain ⟨us,T,c,hrun,hn,hrel⟩:=hs
   cases he
   obtain ⟨h1,h2,h3⟩:=aAM hI cs us T hrel
   rw [hrun]
   exact hK _ _ _ (.ms _ _ _ _ _ h1 hn) h2 h3 (.box _ _ _ _)
  | lit s els =>
   obtain ⟨us,T,c,hrun,hn,hsz,hss,hv⟩:=hs
   cases he
   obtain ⟨h1, h2, h3⟩ := xO hI (S.lv ++ [(els.length, s)]) S.lv.length els s c us T (by simp) (fun t' m ht => by
     rw [List.getElem?_append]
     split
     ·rfl
     ·rename_i hge
      have e1 : S.lv[t']? = none:=List.getElem?_eq_none (by omega)
      rw [e1]
      cases hh : t' - S.lv.length with
      | zero => omega
      | succ q => simp)
    (fun n v h => by
      obtain ⟨m,s',h1,_⟩:=hI.dtb _ _ _ h
      have:=(List.getElem?_eq_some_iff.1 h1).1
      omega) hn hsz hss hv
   rw [hrun]
   exact hK _ _ _ h1 h2 h3 (.lit (by simp) (.inl (Nat.le_refl _)))
  | put b cs =>
   obtain ⟨⟨B,us,old,T,h1,h2,h3,hrun,h4,h5,h6⟩,old',h7,h8⟩:=hs
   cases he
   obtain ⟨k1,k2⟩:=aGa hI h1 h2 h7 ⟨h4,h5⟩ h6 h3
   rw [hrun]
   exact hK _ _ _ (VR.undef _) k1 k2 (.put _ _ _ _)
  | app s tk els news =>
   obtain ⟨⟨B,c,us,T,w',hrun,hn,hsz,hss,hv,hway⟩,ht1,ht2,hne⟩:=hs
   have hpos : 0 < news.length:=List.length_pos_iff.2 hne
   rw [hrun]
   cases tk with
   | none =>
    cases he
    have:=ht2 rfl
    subst this
    rcases hway with ⟨rfl,rfl⟩ | ⟨t',_,h,_⟩
    ·obtain ⟨h1, h2, h3⟩ := xO hI.drew (S.lv ++ [(([] ++ news).length, s)]) S.lv.length ([] ++ news) s c us T (by simp) (fun t' m ht => by
       rw [List.getElem?_append]
       split
       ·rfl
       ·rename_i hge
        have e1 : S.lv[t']? = none:=List.getElem?_eq_none (by omega)
        rw [e1]
        cases hh : t' - S.lv.length with
        | zero => omega
        | succ q => simp)
      (fun n v h => by
        obtain ⟨m,s',h1,_⟩:=hI.dtb _ _ _ h
        have:=(List.getElem?_eq_some_iff.1 h1).1
        omega) hn hsz hss hv
     exact hK _ _ _ h1 h2 ((Gro.drew G S w).trans h3) (.lit (by simp) (.inl (Nat.le_refl _)))
    ·cases h
   | some t =>
    cases he
    obtain ⟨hlv,htb⟩:=ht1 t rfl
    have htl:=(List.getElem?_eq_some_iff.1 hlv).1
    rcases hway with ⟨rfl,rfl⟩ | ⟨t',old,h,hb,hB,rfl,hos,hsame⟩
    ·obtain ⟨h1, h2, h3⟩ := xO hI.drew (S.lv.set t ((els ++ news).length, s)) t (els ++ news) s c us T (by rw [List.getElem?_set_self htl]) (fun t' m ht => by rw [List.getElem?_set_ne (Ne.symm ht)])
      (fun n v h => by
        obtain ⟨m,s',h1,h2⟩:=hI.dtb _ _ _ h
        rw [hlv] at h1; cases h1
        simp; omega) hn hsz hss hv
     exact hK _ _ _ h1 h2 ((Gro.drew G S w).trans h3) (.lit (by simp) (.inr htb))
    ·cases h
     obtain ⟨h1,h2,h3⟩:=aFk hI t els.length (els ++ news) B s c us old T hlv hb hB (by simp; omega) hos hsame hn hsz hss hv
     exact hK _ _ _ h1 h2 h3 (.lit (by simp) (.inr ⟨_,_,hb⟩))
  | call f as1 => exact absurd rfl (hnc f as1)
def bG (g : Option (Nat × Bool)) (a : List AV) : Option Bool :=
 match g with
 | none => some true
 | some (d,want) => match a.getD d .junk with
  | .bool b => some (b == want)
  | .tup _ => some false
  | _ => none
def cL (P : Program) (ops : Array Oper) (o : Oper) : Option aT:=do
 let op ← nA P o.type o.op
 match o.guard with
 | none => pure ⟨o.dst,op,none⟩
 | some (j,w) => do
  let d ← (ops[j]?).bind (·.dst)
  pure ⟨o.dst,op,some (d,w)⟩
theorem cN {P : Program} {ops : Array Oper} {o : Oper} {x : aT} (h : cL P ops o = some x) : nA P o.type o.op = some x.op ∧ x.dst = o.dst ∧ ((o.guard = none ∧ x.guard = none) ∨ ∃ j w d,o.guard = some (j,w) ∧ (ops[j]?).bind (·.dst) = some d ∧ x.guard = some (d,w)):=by
 simp only [cL,Option.bind_eq_bind,Option.bind_eq_some_iff,Option.pure_def] at h
 obtain ⟨op,h1,h2⟩:=h
 split at h2
 ·rename_i hg; cases h2; exact ⟨h1,rfl,.inl ⟨hg,rfl⟩⟩
 ·rename_i j w hg
  simp only [Option.bind_eq_some_iff,Option.some.injEq] at h2
  obtain ⟨d,⟨o',ho',hd⟩,rfl⟩:=h2
  exact ⟨h1,rfl,.inr ⟨j,w,d,hg,by simp [ho',hd],rfl⟩⟩
theorem cU {P : Program} {ops : Array Oper} {o : Oper} {x : aT} (h : cL P ops o = some x) {G : Gh} {a : List AV} {act : Act} (hR : Rel G a act) {b : Bool} (hw : bG x.guard a = some b) : Region.wanted o (yielded ops act.tmps) = b:=by
 obtain ⟨_,_,hg⟩:=cN h
 rcases hg with ⟨h1,h2⟩ | ⟨j,w,d,h1,h2,h3⟩
 ·rw [h2] at hw; cases hw; simp [Region.wanted,h1]
 ·rw [h3] at hw
  simp only [bG] at hw
  simp only [Region.wanted,h1,yielded,h2,Option.bind_some]
  have hgd : ∀ z,a.getD d .junk = z → z ≠ .junk → a[d]? = some z:=by
   intro z hz hne
   simp only [List.getD] at hz
   cases hd : a[d]? with
   | none => rw [hd] at hz; exact absurd hz.symm hne
   | some y => rw [hd] at hz; simpa using hz
  split at hw
  ·rename_i c e
   cases hw
   have e1:=hgd _ e (by simp)
   have hlt : d < act.tmps.size:=by rw [hR.size]; exact (List.getElem?_eq_some_iff.1 e1).1
   have:=(hR.slot d _ _ e1 (Array.getElem?_eq_getElem hlt)).inv_bool
   rw [Array.getElem?_eq_getElem hlt,this]
   cases c <;> cases w <;> rfl
  ·rename_i vs e
   cases hw
   have e1:=hgd _ e (by simp)
   have hlt : d < act.tmps.size:=by rw [hR.size]; exact (List.getElem?_eq_some_iff.1 e1).1
   obtain ⟨us,hu,_⟩:=(hR.slot d _ _ e1 (Array.getElem?_eq_getElem hlt)).inv_tup
   rw [Array.getElem?_eq_getElem hlt,hu]
   rfl
  ·cases hw
noncomputable def evOps (orc : Clr) : List aT → List AV → St → Option (List AV × St)
 | [],a,S => some (a,S)
 | o :: l,a,S =>
  match bG o.guard a with
  | some true => match evOp orc o.op a S with
   | some (v,S') => putK a o.dst v fun a' => sp S'.bx fun bx => evOps orc l a' ⟨bx,S'.lv⟩
   | none => none
  | some false => evOps orc l (putA a o.dst (.tup [])) S
  | none => none
theorem qW {P : Program} {orc : Clr} (ho : eE P orc) {ops : Array Oper} {Q : Exit → Act → World → Prop} : ∀ (l : List Oper) (xs : List aT) (a a' : List AV) (S S' : St),l.mapM (cL P ops) = some xs → evOps orc xs a S = some (a',S') →
  ∀ (G : Gh) (act : Act) (w : World),Inv G S w → Rel G a act → (∀ G' act' w',Inv G' S' w' → Rel G' a' act' → Gro G S w G' S' w' → Keep G S G' S' → act'.defers = act.defers → Q .normal act' w') → wpList P ops Q l act w
 | [],xs,a,a',S,S',hc,he,G,act,w,hI,hR,hQ => by
  simp at hc; subst hc
  cases he
  exact hQ G act w hI hR (.refl _ _ _) (.refl _ _) rfl
 | o :: l,xs,a,a',S,S',hc,he,G,act,w,hI,hR,hQ => by
  rw [List.mapM_cons] at hc
  simp only [Option.bind_eq_bind,Option.bind_eq_some_iff,Option.pure_def,Option.some.injEq] at hc
  obtain ⟨x,hx,ys,hys,rfl⟩:=hc
  obtain ⟨h1,h2,_⟩:=cN hx
  simp only [evOps] at he
  simp only [wpList]
  split at he
  ·rename_i hw
   rw [if_pos (cU hx hR hw)]
   split at he
   ·rename_i v S1 hop
    rw [jV,xW] at he
    refine .inl (aAV ho h1 hop hI hR fun G' u w' hv hI' hg hk => ?_)
    refine qW ho l ys _ _ _ _ hys he G' _ w' hI' (h2 ▸ (hR.mono hg.le).put x.dst hv) fun G2 act2 w2 hI2 hR2 hg2 hk2 hd2 => ?_
    exact hQ G2 act2 w2 hI2 hR2 (hg.trans hg2) (hk.trans hk2) (hd2.trans (by cases o.dst <;> rfl))
   ·cases he
  ·rename_i hw
   rw [if_neg (by rw [cU hx hR hw]; simp)]
   refine qW ho l ys _ _ _ _ hys he G _ w hI (h2 ▸ hR.put x.dst (VR.undef G)) fun G2 act2 w2 hI2 hR2 hg2 hk2 hd2 => ?_
   exact hQ G2 act2 w2 hI2 hR2 hg2 hk2 (hd2.trans (by cases o.dst <;> rfl))
  ·cases he
end
section
open Go.RowKit
inductive AEx where
 | norm
 | ex (id : Nat)
 | ret
 deriving DecidableEq,Repr,Inhabited
def AEx.out : AEx → Exit
 | .norm => .normal
 | .ex id => .exit id
 | .ret => .ret
def Post (x : AEx) (a' : List AV) (S' : St) (G : Gh) (S : St) (act : Act) (w : World) : Exit → Act → World → Prop :=
 fun e act' w' => e = x.out ∧ ∃ G',Inv G' S' w' ∧ Rel G' a' act' ∧ Gro G S w G' S' w' ∧ Keep G S G' S' ∧ act'.defers = act.defers
def Run (md : Md) (P : Program) (c : Code) (a : List AV) (S : St) (x : AEx) (a' : List AV) (S' : St) : Prop :=
 ∀ (G : Gh) (act : Act) (w : World),Inv G S w → Rel G a act → cwp md P c (Post x a' S' G S act w) act w
theorem yC {x : AEx} {a' : List AV} {S S' : St} {G : Gh} {act : Act} {w : World} (a : Act) (w' : World) : ¬ Post x a' S' G S act w .outgrown a w':=by
 rintro ⟨h,_⟩
 cases x <;> simp [AEx.out] at h
theorem yB {x : AEx} {a' : List AV} {S S1 S' : St} {G G1 : Gh} {act act1 : Act} {w w1 : World} (hg : Gro G S w G1 S1 w1) (hk : Keep G S G1 S1) (hd : act1.defers = act.defers) {e : Exit} {act2 : Act} {w2 : World} (h : Post x a' S' G1 S1 act1 w1 e act2 w2) : Post x a' S' G S act w e act2 w2:=by
 obtain ⟨he,G2,h1,h2,h3,h5,h4⟩:=h
 exact ⟨he,G2,h1,h2,hg.trans h3,hk.trans h5,h4.trans hd⟩
inductive zI (md : Md) (P : Program) (c : Code) : Nat → List AV → St → AEx → List AV → St → Prop
 | last {a : List AV} {S : St} {x : AEx} {a' : List AV} {S' : St} (h : Run md P c a S x a' S') (hx : x ≠ .norm) : zI md P c 0 a S x a' S'
 | step {n : Nat} {a : List AV} {S : St} {a1 : List AV} {S1 : St} {x : AEx} {a' : List AV} {S' : St} (h : Run md P c a S .norm a1 S1) (k : zI md P c n a1 S1 x a' S') : zI md P c (n + 1) a S x a' S'
section rules
variable {md : Md} {P : Program} {a a1 a' : List AV} {S S1 S' : St} {x : AEx}
theorem Run.skip : Run md P .skip a S .norm a S:=fun G act w hI hR => aCo ⟨rfl,G,hI,hR,.refl _ _ _,.refl _ _,rfl⟩
theorem Run.label {l : Nat} : Run md P (.label l) a S .norm a S:=fun G act w hI hR => aAy ⟨rfl,G,hI,hR,.refl _ _ _,.refl _ _,rfl⟩
theorem Run.exit {id : Nat} : Run md P (.exit id) a S (.ex id) a S:=fun G act w hI hR => aCp ⟨rfl,G,hI,hR,.refl _ _ _,.refl _ _,rfl⟩
theorem Run.ret : Run md P .ret a S .ret a S:=fun G act w hI hR => aEa ⟨rfl,G,hI,hR,.refl _ _ _,.refl _ _,rfl⟩
theorem Run.seq {c d : Code} (h : Run md P c a S .norm a1 S1) (k : Run md P d a1 S1 x a' S') : Run md P (.seq c d) a S x a' S':=by
 intro G act w hI hR
 refine aBi (gE (h G act w hI hR) ?_)
 rintro e act1 w1 ⟨rfl,G1,hI1,hR1,hg,hk,hd⟩
 show cwp md P d (Post x a' S' G S act w) act1 w1
 exact gE (k G1 act1 w1 hI1 hR1) fun e act2 w2 hp => yB hg hk hd hp
theorem Run.seq_left {c d : Code} (h : Run md P c a S x a' S') (hx : x ≠ .norm) : Run md P (.seq c d) a S x a' S':=by
 intro G act w hI hR
 refine aBi (gE (h G act w hI hR) ?_)
 rintro e act1 w1 ⟨rfl,G1,hI1,hR1,hg,hk,hd⟩
 cases x with
 | norm => exact absurd rfl hx
 | ex id => exact ⟨rfl,G1,hI1,hR1,hg,hk,hd⟩
 | ret => exact ⟨rfl,G1,hI1,hR1,hg,hk,hd⟩
theorem Run.cond {c : Operand} {c' : AOpd} {t : Bool} {d e : Code} (hc : aV c = some c') (ht : evd a c' = .bool t) (h : Run md P (if t then d else e) a S x a' S') : Run md P (.cond c d e) a S x a' S':=by
 intro G act w hI hR
 have:=(hR.opd hI.gl) c c' hc
 rw [ht] at this
 exact aCq this.inv_bool (h G act w hI hR)
theorem Run.block {id : Nat} {c : Code} (h : Run md P c a S x a' S') : Run md P (.block id c) a S (if x = .ex id then .norm else x) a' S':=by
 intro G act w hI hR
 refine aAz (gE (h G act w hI hR) ?_)
 rintro e act1 w1 ⟨rfl,hrest⟩
 cases x with
 | norm => exact ⟨rfl,hrest⟩
 | ret => exact ⟨rfl,hrest⟩
 | ex i =>
  simp only [AEx.out,Exit.inBlock,AEx.ex.injEq]
  by_cases hi : i = id
  ·rw [if_pos hi,if_pos hi]; exact ⟨rfl,hrest⟩
  ·rw [if_neg hi,if_neg hi]; exact ⟨rfl,hrest⟩
theorem least {p : Nat → Prop} (h : ∃ n,p n) : ∃ n,p n ∧ ∀ m,m < n → ¬ p m:=by
 obtain ⟨n,hn⟩:=h
 induction n using Nat.strongRecOn with
 | ind n ih =>
  by_cases hex : ∃ m,m < n ∧ p m
  ·obtain ⟨m,hm,hp⟩:=hex; exact ih m hm hp
  ·exact ⟨n,hn,fun m hm hp => hex ⟨m,hm,hp⟩⟩
open Classical in
noncomputable def kE (p : Nat → Prop) : Nat:=if h : ∃ n,p n then Classical.choose (least h) else 0
theorem iM {p : Nat → Prop} (h : ∃ n,p n) : p (kE p) ∧ ∀ m,p m → kE p ≤ m:=by
 have hs:=Classical.choose_spec (least h)
 unfold kE
 rw [dif_pos h]
 exact ⟨hs.1,fun m hm => Nat.le_of_not_lt fun hlt => hs.2 m hlt hm⟩
theorem Run.loop {c : Code} {n : Nat} (h : zI md P c n a S x a' S') : Run md P (.loop c) a S x a' S':=by
 intro G act w hI hR
 let I0 : Nat → Act → World → Prop:=fun n act1 w1 => ∃ a1 S1 G1,zI md P c n a1 S1 x a' S' ∧ Inv G1 S1 w1 ∧ Rel G1 a1 act1 ∧ Gro G S w G1 S1 w1 ∧ Keep G S G1 S1 ∧ act1.defers = act.defers
 refine yR (fun act1 w1 => ∃ n,I0 n act1 w1) (fun act1 w1 => kE fun n => I0 n act1 w1) ⟨n,a,S,G,h,hI,hR,.refl _ _ _,.refl _ _,rfl⟩ ?_
 intro act1 w1 hex
 obtain ⟨⟨a1,S1,G1,hch,hI1,hR1,hg1,hk1,hd1⟩,hmin⟩:=iM hex
 generalize hm : (kE fun n => I0 n act1 w1) = m at hch hmin
 cases hch with
 | last hr hx =>
  refine gE (hr G1 act1 w1 hI1 hR1) ?_
  intro e act2 w2 hp
  have hp':=yB hg1 hk1 hd1 hp
  obtain ⟨he,_⟩:=hp
  subst he
  cases x with
  | norm => exact absurd rfl hx
  | ex id => exact hp'
  | ret => exact hp'
 | @step n' _ _ a2 S2 _ _ _ hr hk =>
  refine gE (hr G1 act1 w1 hI1 hR1) ?_
  rintro e act2 w2 ⟨rfl,G2,hI2,hR2,hg2,hk2,hd2⟩
  have hi : I0 n' act2 w2:=⟨a2,S2,G2,hk,hI2,hR2,hg1.trans hg2,hk1.trans hk2,hd2.trans hd1⟩
  refine ⟨⟨n',hi⟩,?_⟩
  have:=(iM (p:=fun n => I0 n act2 w2) ⟨n',hi⟩).2 n' hi
  exact Nat.lt_succ_of_le this
theorem Run.region {orc : Clr} (ho : eE P orc) {id : Nat} {ops : Array Oper} {xs : List aT} (hnd : kD ops = true) (hc : ops.toList.mapM (cL P ops) = some xs) (he : evOps orc xs a S = some (a',S')) : Run md P (.region id ops false) a S .norm a' S':=by
 intro G act w hI hR
 refine yQ hnd yC ?_
 have hl:=wpOps_eq_wpList (P:=P) (ops:=ops) (Q:=Post .norm a' S' G S act w) ops.toList 0 (fun j => by simp)
 rw [Array.length_toList,← List.range_eq_range'] at hl
 rw [hl]
 exact qW ho _ xs a a' S S' hc he G act w hI hR fun G' act' w' h1 h2 h3 h4 h5 => ⟨rfl,G',h1,h2,h3,h4,h5⟩
end rules
end
section
open Go.RowKit
mutual
def AV.beq : AV → AV → Bool
 | .int k n,.int k' n' => decide (k = k') && decide (n = n')
 | .bool b,.bool b' => b == b'
 | .str s,.str s' => s.data == s'.data
 | .agg cs,.agg cs' => beqL cs cs'
 | .tup cs,.tup cs' => beqL cs cs'
 | .nilp,.nilp => true
 | .ptr b o,.ptr b' o' => b == b' && o == o'
 | .rop cs,.rop cs' => beqL cs cs'
 | .nils,.nils => true
 | .sl els t,.sl els' t' => beqL els els' && t == t'
 | .ms b n s,.ms b' n' s' => b == b' && n == n' && s == s'
 | .mg b n s,.mg b' n' s' => b == b' && n == n' && s == s'
 | .fn f ps cs,.fn f' ps' cs' => f == f' && (beqL ps ps' && beqL cs cs')
 | .nilf,.nilf => true
 | .junk,.junk => true
 | .yld l t,.yld l' t' => l == l' && t == t'
 | _,_ => false
def beqL : List AV → List AV → Bool
 | [],[] => true
 | x :: l,y :: m => x.beq y && beqL l m
 | _,_ => false
end
mutual
theorem AV.beq_eq : ∀ (x y : AV),x.beq y = true → x = y:=by
 intro x y h
 cases x <;> cases y <;> simp only [AV.beq,Bool.and_eq_true,decide_eq_true_eq,beq_iff_eq,reduceCtorEq] at h <;> first
  | rfl
  | (cases h; done)
  | (obtain ⟨h1,h2⟩:=h; first | (subst h1; subst h2; rfl) | (have:=jH _ _ h1; subst this; subst h2; rfl) | (have:=jH _ _ h2; subst this; subst h1; rfl))
  | (subst h; rfl)
  | (obtain ⟨h1,h2,h3⟩:=h; have e2:=jH _ _ h2; have e3:=jH _ _ h3; subst h1; subst e2; subst e3; rfl)
  | (have:=ByteArray.ext h; subst this; rfl)
  | (have:=jH _ _ h; subst this; rfl)
  | (obtain ⟨⟨h1,h2⟩,h3⟩:=h; subst h1; subst h2; subst h3; rfl)
theorem jH : ∀ (l m : List AV),beqL l m = true → l = m:=by
 intro l m h
 cases l with
 | nil => cases m with
  | nil => rfl
  | cons y m => simp [beqL] at h
 | cons x l => cases m with
  | nil => simp [beqL] at h
  | cons y m =>
   simp only [beqL,Bool.and_eq_true] at h
   rw [AV.beq_eq x y h.1,jH l m h.2]
end
def optL : Option AOpd → List AOpd
 | none => []
 | some x => [x]
def AOp.opds : AOp → List AOpd
 | .mov x | .box x | .load _ x | .nilck x | .un _ x | .conv _ x | .faddr x _ | .fld x _ _ | .ext x _ | .len _ x | .sla _ _ x => [x]
 | .pick c x y => [c,x,y]
 | .build _ ps => ps.map (·.2.2)
 | .bsl _ _ _ _ ps => ps.map (·.2)
 | .store _ x y | .bin _ x y | .eqn _ _ x y | .eqs _ _ x y | .mksl _ _ _ _ x y | .iaddr x y _ _ | .idx x y | .aidx x y _ _ _ | .app x y _ _ _ | .mn x y | .mx x y | .cpy _ x y | .slb _ _ x y => [x,y]
 | .mkfn _ ps cs => ps ++ cs
 | .slc _ _ x lo hi => x :: (optL lo ++ optL hi)
 | .call f args => f :: args
theorem qU {a b : AOpd → AV} : ∀ (qs : List (Nat × Nat × AOpd)) (cs : List AV),(∀ q ∈ qs,a q.2.2 = b q.2.2) → qF a cs qs = qF b cs qs
 | [],cs,_ => rfl
 | (o,s,x) :: l,cs,h => by
  have hx : a x = b x:=h (o,s,x) (by simp)
  simp only [qF,hx]
  split
  ·exact qU l _ fun q hq => h q (List.mem_cons_of_mem _ hq)
  ·rfl
theorem wD {a b : AOpd → AV} (op : AOp) (S : St) (h : ∀ y ∈ op.opds,a y = b y) : aop op a S = aop op b S:=by
 cases op with
 | build z ps => simp only [aop]; rw [qU ps z fun q hq => h _ (by simp only [AOp.opds,List.mem_map]; exact ⟨q,hq,rfl⟩)]
 | bsl s ag z len ps =>
  simp only [aop]
  rw [qU _ _ fun q hq => ?_]
  obtain ⟨q',hq',rfl⟩:=List.mem_map.1 hq
  exact h _ (by simp only [AOp.opds,List.mem_map]; exact ⟨q',hq',rfl⟩)
 | mkfn f ps cs => simp only [aop]; rw [List.map_congr_left (l:=ps) fun x hx => h x (by simp [AOp.opds,hx]),List.map_congr_left (l:=cs) fun x hx => h x (by simp [AOp.opds,hx])]
 | call f args =>
  have hf:=h f (by simp [AOp.opds])
  have ha : args.map a = args.map b:=List.map_congr_left fun x hx => h x (by simp [AOp.opds,hx])
  simp only [aop,hf,ha]
 | slc st s x lo hi =>
  have hx:=h x (by simp [AOp.opds])
  cases st <;> cases lo <;> cases hi <;> simp only [AOp.opds,optL,List.append_nil,List.nil_append,List.cons_append,List.mem_cons,List.not_mem_nil,or_false,forall_eq_or_imp,forall_eq] at h <;> simp only [aop,hx] <;>
   first
   | rfl
   | (rw [h.2.1,h.2.2])
   | (rw [h.2])
 | iaddr x i s n => cases n <;> (simp only [aop]; rw [h x (by simp [AOp.opds]),h i (by simp [AOp.opds])])
 | len st x => cases st <;> (simp only [aop]; rw [h x (by simp [AOp.opds])])
 | un op x => simp only [aop]; rw [h x (by simp [AOp.opds])]
 | pick c x y => simp only [aop]; rw [h c (by simp [AOp.opds]),h x (by simp [AOp.opds]),h y (by simp [AOp.opds])]
 | mov x | box x | load _ x | nilck x | conv _ x | faddr x _ | fld x _ _ | ext x _ | sla _ _ x => simp only [aop]; rw [h x (by simp [AOp.opds])]
 | cpy _ _ _ => rfl
 | slb _ _ x y | store _ x y | bin _ x y | eqn _ _ x y | eqs _ _ x y | mksl _ _ _ _ x y | idx x y | aidx x y _ _ _ | app x y _ _ _ | mn x y | mx x y => simp only [aop]; rw [h x (by simp [AOp.opds]),h y (by simp [AOp.opds])]
theorem aDi {orc : Clr} {a b : List AV} (op : AOp) (S : St) (h : ∀ y ∈ op.opds,evd a y = evd b y) : evOp orc op a S = evOp orc op b S:=by
 unfold evOp
 rw [bT,bT,wD op S h]
theorem aFo {G : Gh} {S : St} {w : World} (hI : Inv G S w) {id : Nat} {cs : List AV} {us : Array Value} {T : TypeId} (hb : S.bx[id]? = some cs) (hal : G.al id = none) (h : RelL G cs us) :
  (G.box id w.heap.size).al id = some w.heap.size ∧ Inv (G.box id w.heap.size) S (w.alloc (.cells us T)) ∧ Gro G S w (G.box id w.heap.size) S (w.alloc (.cells us T)):=by
 have hle : G.le (G.box id w.heap.size) := ⟨fun b B hb0 => by
  simp only [Gh.box]; rw [if_neg (by rintro rfl; rw [hal] at hb0; cases hb0)]; exact hb0, fun _ _ _ h => h, fun _ _ _ h => h, fun _ _ h => h⟩
 have hold : ∀ b,b < w.heap.size → (w.alloc (.cells us T)).heap[b]? = w.heap[b]?:=fun b hb => Below.heap_alloc w _ b hb
 have hid:=(List.getElem?_eq_some_iff.1 hb).1
 refine ⟨by simp [Gh.box],⟨?_,?_,?_,?_,hI.dtb,?_,hI.injT,?_,hI.gl,xV _ hI.sz⟩,⟨hle,rfl,rfl,rfl,by simp,fun B hB _ => ⟨hold B hB,fun _ => rfl⟩,?_,rU w _⟩⟩
 ·intro b B cs' hb' hcs
  simp only [Gh.box] at hb'
  split at hb'
  ·rename_i hbn
   subst hbn
   cases hb'
   rw [hb] at hcs; cases hcs
   exact .inr ⟨us,T,heap_alloc_new w _,Nat.le_of_eq h.1.symm,fun i x u h1 h2 => (h.2 i x u h1 h2).mono hle,hI.fznew⟩
  ·have hd:=hI.dal b B hb'
   rcases hI.box b B cs' hb' hcs with h0 | ⟨us',T',k1,k2,k3,k4⟩
   ·exact .inl h0
   ·exact .inr ⟨us',T',by rw [hold B hd.2]; exact k1,k2,fun i x u h1 h2 => (k3 i x u h1 h2).mono hle,k4⟩
 ·intro t n s0 B s c h1 h2
  obtain ⟨k1,⟨us',T',k2,k3⟩,k4⟩:=hI.tok t n s0 B s c h1 h2
  exact ⟨k1,⟨us',T',by rw [hold B (hI.toklt h1 h2)]; exact k2,k3⟩,k4⟩
 ·intro b o u hf
  rw [gQ (hold b (hI.fzlt hf))]
  exact hI.fz b o u hf
 ·intro b B hb'
  simp only [Gh.box] at hb'
  split at hb'
  ·rename_i hbn; subst hbn; cases hb'; exact ⟨hid,by simp⟩
  ·have:=hI.dal b B hb'; simp; omega
 ·intro b b' B h1 h2
  simp only [Gh.box] at h1 h2
  split at h1 <;> split at h2
  ·omega
  ·cases h1; have:=hI.dal _ _ h2; omega
  ·cases h2; have:=hI.dal _ _ h1; omega
  ·exact hI.injA _ _ _ h1 h2
 ·intro b B t n s0 s c h1 h2 h3
  simp only [Gh.box] at h1
  split at h1
  ·cases h1; have:=hI.toklt h2 h3; omega
  ·exact hI.sep b B t n s0 s c h1 h2 h3
 ·rintro B (⟨b,hb'⟩ | ⟨t,n,s0,s,c,h1,h2⟩)
  ·simp only [Gh.box] at hb'
   split at hb'
   ·cases hb'; exact .inr (Nat.le_refl _)
   ·exact .inl (.inl ⟨b,hb'⟩)
  ·exact .inl (.inr ⟨t,n,s0,s,c,h1,h2⟩)
theorem wE {G : Gh} {S : St} {w : World} (hI : Inv G S w) (l : List (List AV)) (k : List (Nat × Nat)) : Inv G ⟨S.bx ++ l,S.lv ++ k⟩ w ∧ Gro G S w G ⟨S.bx ++ l,S.lv ++ k⟩ w ∧ (∀ b,S.bx.length ≤ b → G.al b = none) ∧ ∀ t n,S.lv.length ≤ t → G.tb t n = none:=by
 have ha : ∀ b B,G.al b = some B → b < S.bx.length:=fun b B h => (hI.dal b B h).1
 have ht : ∀ t n v,G.tb t n = some v → t < S.lv.length:=fun t n v h => by
  obtain ⟨m,s,h1,_⟩:=hI.dtb t n v h
  exact (List.getElem?_eq_some_iff.1 h1).1
 have hlv : ∀ t n m v,(S.lv ++ k)[t]? = some m → G.tb t n = some v → S.lv[t]? = some m:=fun t n m v h1 h2 => by
  rwa [List.getElem?_append_left (ht t n v h2)] at h1
 refine ⟨⟨?_,?_,hI.fz,?_,?_,hI.injA,?_,?_,hI.gl,hI.sz⟩,⟨.refl G,rfl,rfl,rfl,Nat.le_refl _,fun B _ _ => ⟨rfl,fun _ => rfl⟩,?_,fun _ _ h _ => h⟩,?_,?_⟩
 ·intro b B cs h1 h2
  rw [List.getElem?_append_left (ha b B h1)] at h2
  exact hI.box b B cs h1 h2
 ·intro t n s0 B s c h1 h2
  exact hI.tok t n s0 B s c (hlv t n _ _ h1 h2) h2
 ·intro b B h
  have:=hI.dal b B h
  exact ⟨by simp; omega,this.2⟩
 ·intro t n v h
  obtain ⟨m,s,h1,h2⟩:=hI.dtb t n v h
  exact ⟨m,s,by rw [List.getElem?_append_left (ht t n v h)]; exact h1,h2⟩
 ·intro t t' n n' s0 s0' B s s' c c' h1 h2 h3 h4
  exact hI.injT t t' n n' s0 s0' B s s' c c' (hlv t n _ _ h1 h3) (hlv t' n' _ _ h2 h4) h3 h4
 ·intro b B t n s0 s c h1 h2 h3
  exact hI.sep b B t n s0 s c h1 (hlv t n _ _ h2 h3) h3
 ·rintro B (⟨b,hb⟩ | ⟨t,n,s0,s,c,h1,h2⟩)
  ·exact .inl (.inl ⟨b,hb⟩)
  ·exact .inl (.inr ⟨t,n,s0,s,c,hlv t n _ _ h1 h2,h2⟩)
 ·intro b hb
  cases h : G.al b with
  | none => rfl
  | some B => have:=ha b B h; omega
 ·intro t n htl
  cases h : G.tb t n with
  | none => rfl
  | some v => have:=ht t n v h; omega
end
section
open Go.RowKit
def eU (o : Oper) : List Nat:=(o.after.toList.filter (Region.binds .any)).map (·.on)
def dO (xs : List aT) (i : Nat) : Option Nat:=(xs[i]?).bind (·.dst)
def aAn (o : Oper) : Bool:=match o.op with
 | .store .. => true
 | .call { callee:=.value _,.. } => true
 | .call { callee:=.builtin .append,.. } => true
 | _ => false
def sT : AOp → Bool
 | .store _ _ _ | .call _ _ | .app _ _ _ _ _ => true
 | _ => false
def kF (ops : Array Oper) (i : Nat) : Bool:=((ops[i]?).map aAn).getD false
def uA (ops : Array Oper) (i : Nat) : Option Nat:=((List.range i).filter (kF ops)).getLast?
def uG (acc : List Nat) (s : Nat) : List Nat → Nat
 | [] => s
 | k :: l => uG acc (s ||| 2 ^ k ||| acc.getD k 0) l
def masks (ops : List Oper) : List Nat:=ops.foldl (fun acc o => acc ++ [uG acc 0 (eU o)]) []
theorem uF {acc : List Nat} {j : Nat} : ∀ (l : List Nat) (s : Nat),(uG acc s l).testBit j = true → s.testBit j = true ∨ ∃ k ∈ l,j = k ∨ (acc.getD k 0).testBit j = true
 | [],s,h => .inl h
 | k :: l,s,h => by
  rcases uF l _ h with h | ⟨k',hk',h⟩
  ·simp only [Nat.testBit_or,Nat.testBit_two_pow,Bool.or_eq_true,decide_eq_true_eq] at h
   rcases h with (h | h) | h
   ·exact .inl h
   ·exact .inr ⟨k,by simp,.inl h.symm⟩
   ·exact .inr ⟨k,by simp,.inr h⟩
  ·exact .inr ⟨k',by simp [hk'],h⟩
theorem uE (l : List Oper) (o : Oper) : masks (l ++ [o]) = masks l ++ [uG (masks l) 0 (eU o)]:=by
 simp [masks,List.foldl_append]
theorem mK (l : List Oper) : (masks l).length = l.length:=by
 have key : ∀ (n : Nat) (l : List Oper),l.length = n → (masks l).length = l.length:=by
  intro n
  induction n with
  | zero => intro l h; have:=List.eq_nil_of_length_eq_zero h; subst this; rfl
  | succ n ih =>
   intro l h
   have hne : l ≠ []:=by rintro rfl; simp at h
   rw [← List.dropLast_concat_getLast hne,uE]
   simp only [List.length_append,List.length_cons,List.length_nil]
   rw [ih _ (by simp [h])]
 exact key _ l rfl
theorem aBQ {L : Nat → Prop} : ∀ (n : Nat) (l : List Oper),l.length = n → (∀ i o,l[i]? = some o → L i → ∀ k ∈ eU o,L k) → ∀ i o,l[i]? = some o → (∀ k ∈ eU o,L k) → ∀ j,((masks l).getD i 0).testBit j = true → L j:=by
 intro n
 induction n with
 | zero => intro l h _ i o hi; have:=List.eq_nil_of_length_eq_zero h; subst this; simp at hi
 | succ n ih =>
  intro l h hcl i o hi hall j hj
  have hne : l ≠ []:=by rintro rfl; simp at h
  obtain ⟨l',z,rfl⟩ : ∃ l' z,l = l' ++ [z]:=⟨l.dropLast,l.getLast hne,(List.dropLast_concat_getLast hne).symm⟩
  have hl' : l'.length = n:=by simpa using h
  have hcl' : ∀ i o,l'[i]? = some o → L i → ∀ k ∈ eU o,L k:=fun i o hi => hcl i o (by rw [List.getElem?_append_left (List.getElem?_eq_some_iff.1 hi).1]; exact hi)
  rw [uE] at hj
  by_cases hin : i < l'.length
  ·rw [List.getD, List.getElem?_append_left (by rw [mK]; exact hin)] at hj
   rw [List.getElem?_append_left hin] at hi
   exact ih l' hl' hcl' i o hi hall j hj
  ·have hie : i = l'.length:=by
    have:=(List.getElem?_eq_some_iff.1 hi).1
    simp at this
    omega
   subst hie
   rw [List.getElem?_append_right (Nat.le_refl _)] at hi
   simp only [Nat.sub_self,List.getElem?_cons_zero,Option.some.injEq] at hi
   subst hi
   rw [List.getD,List.getElem?_append_right (by rw [mK]; exact Nat.le_refl _),mK] at hj
   simp only [Nat.sub_self,List.getElem?_cons_zero,Option.getD_some] at hj
   rcases uF _ _ hj with h0 | ⟨k,hk,rfl | hb⟩
   ·simp at h0
   ·exact hall _ hk
   ·by_cases hkl : k < l'.length
    ·have hok : l'[k]? = some l'[k]:=List.getElem?_eq_getElem hkl
     exact ih l' hl' hcl' k _ hok (hcl' k _ hok (hall k hk)) j hb
    ·rw [List.getD, List.getElem?_eq_none (by rw [mK]; omega)] at hb
     simp at hb
def okD (ops : Array Oper) (xs : List aT) (m : Nat) : Bool :=
 kD ops && decide (m ≤ ops.size) && decide (xs.length = ops.size) &&
 (List.range ops.size).all fun i => match ops[i]?,xs[i]? with
  | some o,some x =>
   (eU o).all (· < i) &&
   (if i < m then
     ((List.range m).all fun k => k == i || dO xs k != x.dst || x.dst.isNone) &&
     (match x.guard with | none => true | some (d,_) => (List.range m).all fun k => dO xs k != some d || (eU o).contains k) &&
     (x.op.opds.all fun y => match y with | .con _ => true | .tmp t => (List.range m).all fun k => dO xs k != some t || (eU o).contains k || ((ops[k]?).map fun ok => (eU ok).contains i).getD false) &&
     (!aAn o || (match uA ops i with | none => true | some j => (eU o).contains j || ((masks ops.toList).getD i 0).testBit j)) &&
     (!sT x.op || aAn o)
   else if i = m then (List.range m).all fun k => (List.range (m + 1)).any fun s => decide (k < s) && ((ops[s]?).map fun os => (eU os).contains k).getD false
   else (eU o).contains (i - 1))
  | _,_ => false
theorem oK {ops : Array Oper} {xs : List aT} {m : Nat} (h : okD ops xs m = true) : kD ops = true ∧ m ≤ ops.size ∧ xs.length = ops.size ∧ ∀ i,i < ops.size → ∃ o x,ops[i]? = some o ∧ xs[i]? = some x ∧ (∀ j ∈ eU o,j < i) ∧
  (i < m → (∀ k,k < m → k ≠ i → ∀ t,x.dst = some t → dO xs k ≠ some t) ∧ (∀ d w,x.guard = some (d,w) → ∀ k,k < m → dO xs k = some d → k ∈ eU o) ∧ (∀ t,.tmp t ∈ x.op.opds → ∀ k,k < m → dO xs k = some t → k ∈ eU o ∨ ∃ ok,ops[k]? = some ok ∧ i ∈ eU ok) ∧ (aAn o = true → ∀ j,uA ops i = some j → j ∈ eU o ∨ ((masks ops.toList).getD i 0).testBit j = true) ∧ (sT x.op = true → aAn o = true)) ∧
  (m = i → ∀ k,k < m → ∃ s os,k < s ∧ s ≤ m ∧ ops[s]? = some os ∧ k ∈ eU os) ∧ (m < i → i - 1 ∈ eU o):=by
 simp only [okD,Bool.and_eq_true,decide_eq_true_eq,List.all_eq_true,List.mem_range] at h
 obtain ⟨⟨⟨h0,h1⟩,h2⟩,h3⟩:=h
 refine ⟨h0,h1,h2,fun i hi => ?_⟩
 have h4:=h3 i hi
 cases ho : ops[i]? with
 | none => rw [ho] at h4; cases h4
 | some o =>
  cases hx : xs[i]? with
  | none => rw [ho,hx] at h4; cases h4
  | some x =>
   rw [ho,hx] at h4
   simp only [Bool.and_eq_true,List.all_eq_true,decide_eq_true_eq] at h4
   refine ⟨o,x,rfl,rfl,h4.1,fun him => ?_,fun him k hk => ?_,fun him => ?_⟩
   ·have h5:=h4.2
    rw [if_pos him] at h5
    simp only [Bool.and_eq_true,List.all_eq_true,List.mem_range,Bool.or_eq_true,bne_iff_ne,ne_eq,List.contains_iff_mem,beq_iff_eq,Bool.not_eq_true'] at h5
    obtain ⟨⟨⟨⟨h6,h7⟩,h8⟩,h9⟩,h10⟩:=h5
    refine ⟨fun k hk hne t ht => ?_,fun d w hg k hk he => ?_,fun t ht k hk he => ?_,fun hl j hj => ?_,fun hl => ?_⟩
    ·rcases h6 k hk with (h | h) | h
     ·exact absurd h hne
     ·rw [← ht]; exact h
     ·rw [ht] at h; cases h
    ·rw [hg] at h7
     simp only [List.all_eq_true,List.mem_range,Bool.or_eq_true,bne_iff_ne,ne_eq,List.contains_iff_mem] at h7
     rcases h7 k hk with h | h
     ·exact absurd he h
     ·exact h
    ·have:=h8 _ ht
     simp only [List.all_eq_true,List.mem_range,Bool.or_eq_true,bne_iff_ne,ne_eq,List.contains_iff_mem] at this
     rcases this k hk with (h | h) | h
     ·exact absurd he h
     ·exact .inl h
     ·cases hok : ops[k]? with
      | none => rw [hok] at h; cases h
      | some ok => rw [hok] at h; exact .inr ⟨ok,rfl,by simpa using h⟩
    ·rcases h9 with h | h
     ·rw [hl] at h; cases h
     ·rw [hj] at h
      simpa only [Bool.or_eq_true,List.contains_iff_mem] using h
    ·rcases h10 with h | h
     ·rw [hl] at h; cases h
     ·exact h
   ·have h5:=h4.2
    rw [if_neg (by omega),if_pos him.symm] at h5
    simp only [List.all_eq_true,List.any_eq_true,List.mem_range,Bool.and_eq_true,decide_eq_true_eq] at h5
    obtain ⟨s,hs1,hs2,hs3⟩:=h5 k hk
    cases hos : ops[s]? with
    | none => rw [hos] at hs3; cases hs3
    | some os =>
     rw [hos] at hs3
     exact ⟨s,os,hs2,by omega,hos,by simpa using hs3⟩
   ·have h5:=h4.2
    rw [if_neg (by omega),if_neg (by omega)] at h5
    simpa using h5
theorem oJ {ops : Array Oper} {listed : Array Bool} {j : Nat} : j ∈ Region.ready .any ops listed ↔
  listed.getD j true = false ∧ ∃ o,ops[j]? = some o ∧ ∀ k ∈ eU o,listed.getD k false = true:=by
 rw [mem_ready]
 constructor
 ·rintro ⟨h1,o,ho,h2⟩
  refine ⟨h1,o,ho,fun k hk => ?_⟩
  simp only [eU,List.mem_map,List.mem_filter] at hk
  obtain ⟨e,⟨he,hb⟩,rfl⟩:=hk
  exact h2 e (by simpa using he) hb
 ·rintro ⟨h1,o,ho,h2⟩
  refine ⟨h1,o,ho,fun e he hb => h2 e.on ?_⟩
  simp only [eU,List.mem_map,List.mem_filter]
  exact ⟨e,⟨by simpa using he,hb⟩,rfl⟩
def mQ (n : Nat) (listed : Array Bool) : Nat:=((List.range n).filter fun i => !listed.getD i true).length
theorem aCZ {n i : Nat} {listed : Array Bool} (hi : i < n) (hs : listed.size = n) (hl : listed.getD i true = false) : mQ n (listed.setIfInBounds i true) + 1 = mQ n listed:=by
 unfold mQ
 have key : ∀ (l : List Nat),l.Nodup → i ∈ l → ((l.filter fun j => !(listed.setIfInBounds i true).getD j true).length + 1 = (l.filter fun j => !listed.getD j true).length):=by
  intro l
  induction l with
  | nil => intro _ h; cases h
  | cons x l ih =>
   intro hnd hm
   have hx:=List.nodup_cons.1 hnd
   by_cases hxi : x = i
   ·subst hxi
    have e1 : (listed.setIfInBounds x true).getD x true = true:=by simp [Array.getElem?_setIfInBounds,hs,hi]
    have e2 : l.filter (fun j => !(listed.setIfInBounds x true).getD j true) = l.filter (fun j => !listed.getD j true):=by
     apply List.filter_congr
     intro j hj
     have : x ≠ j:=by rintro rfl; exact hx.1 hj
     simp [Array.getElem?_setIfInBounds_ne this]
    rw [List.filter_cons,List.filter_cons,e1,hl,e2]
    simp
   ·have hm' : i ∈ l:=by
     rcases List.mem_cons.1 hm with h | h
     ·exact absurd h.symm hxi
     ·exact h
    have e1 : (listed.setIfInBounds i true).getD x true = listed.getD x true:=by
     have : i ≠ x:=Ne.symm hxi
     simp [Array.getElem?_setIfInBounds_ne this]
    have:=ih hx.2 hm'
    rw [List.filter_cons,List.filter_cons,e1]
    split
    ·simp only [List.length_cons]; omega
    ·exact this
 exact key _ List.nodup_range (List.mem_range.2 hi)
theorem aDa {n i : Nat} {listed : Array Bool} (hi : i < n) (hl : listed.getD i true = false) : 0 < mQ n listed :=
 List.length_pos_of_mem (List.mem_filter.2 ⟨List.mem_range.2 hi,by rw [hl]; rfl⟩)
theorem aDb {ops : Array Oper} {listed : Array Bool} (hs : listed.size = ops.size) (hsp : ∀ i,i < ops.size → ∃ o,ops[i]? = some o ∧ ∀ j ∈ eU o,j < i) :
  ∀ i,i < ops.size → listed.getD i true = false → ∃ j,j ∈ Region.ready .any ops listed:=by
 intro i
 induction i using Nat.strongRecOn with
 | ind i ih =>
  intro hi hl
  obtain ⟨o,ho,hj⟩:=hsp i hi
  by_cases hall : ∀ k ∈ eU o,listed.getD k false = true
  ·exact ⟨i,oJ.2 ⟨hl,o,ho,hall⟩⟩
  ·simp only [Classical.not_forall] at hall
   obtain ⟨k,hk,hkl⟩:=hall
   have hki:=hj k hk
   refine ih k hki (by omega) ?_
   have hkn : k < listed.size:=by omega
   simp [hkn] at hkl ⊢
   exact hkl
theorem zK {ops : Array Oper} {i j : Nat} (hj : kF ops j = true) (hji : j < i) : ∃ p,uA ops i = some p ∧ j ≤ p ∧ p < i ∧ kF ops p = true:=by
 unfold uA
 have hmem : j ∈ (List.range i).filter (kF ops):=List.mem_filter.2 ⟨List.mem_range.2 hji,hj⟩
 cases hl : ((List.range i).filter (kF ops)).getLast? with
 | none => rw [List.getLast?_eq_none_iff] at hl; rw [hl] at hmem; cases hmem
 | some p =>
  have hp:=List.mem_filter.1 (List.mem_of_getLast? hl)
  refine ⟨p,rfl,?_,List.mem_range.1 hp.1,hp.2⟩
  have hpw : ((List.range i).filter (kF ops)).Pairwise (· < ·):=List.Pairwise.filter _ List.pairwise_lt_range
  obtain ⟨l,hl'⟩:=List.getLast?_eq_some_iff.1 hl
  rw [hl'] at hmem hpw
  rcases List.mem_append.1 hmem with h | h
  ·have := (List.pairwise_append.1 hpw).2.2 j h p (by simp)
   omega
  ·simp at h; omega
theorem vK {ops : Array Oper} {xs : List aT} {m : Nat} (hok : okD ops xs m = true) {listed : Array Bool} (hcl : ∀ i,listed.getD i false = true → ∀ o,ops[i]? = some o → ∀ k ∈ eU o,listed.getD k false = true) :
  ∀ (i : Nat),i < m → kF ops i = true → (∀ o,ops[i]? = some o → ∀ k ∈ eU o,listed.getD k false = true) → ∀ j,j < i → kF ops j = true → listed.getD j false = true:=by
 obtain ⟨_,hm,_,hsp⟩:=oK hok
 intro i
 induction i using Nat.strongRecOn with
 | ind i ih =>
  intro him hl hw j hji hj
  obtain ⟨p,hp,h1,h2,h3⟩:=zK hj hji
  obtain ⟨o,x,ho,hx,_,hmain,_⟩:=hsp i (by omega)
  have hlo : aAn o = true:=by simpa [kF,ho] using hl
  have hpl : listed.getD p false = true:=by
   rcases (hmain him).2.2.2.1 hlo p hp with h | h
   ·exact hw o ho p h
   ·exact aBQ (L:=fun k => listed.getD k false = true) _ ops.toList rfl (fun k ok hok' hk => hcl k hk ok (by simpa using hok')) i o (by simpa using ho) (hw o ho) p h
  rcases Nat.lt_or_ge j p with h | h
  ·exact ih p h2 (by omega) h3 (hcl p hpl) j h hj
  ·have : j = p := by omega
   rw [this]; exact hpl
def aBE (orc : Clr) (a1 am : List AV) (st : Nat → St) (K : Nat) (lv : Nat) (x : aT) (v : AV) (eff : Bool) (bid tid : Option Nat) : Prop :=
 (bG x.guard a1 = some false ∧ v = .tup [] ∧ eff = false ∧ bid = none ∧ tid = none) ∨
 (bG x.guard a1 = some true ∧
   ((eff = false ∧ bid = none ∧ tid = none ∧ ∀ k, k ≤ K → aop x.op (evd am) (st k) = some (.val v) ∨ ∃ f as1, aop x.op (evd am) (st k) = some (.call f as1) ∧ gT orc f as1 (st k) = some (v, st k)) ∨
    (eff = false ∧ tid = none ∧ ∃ cs id,bid = some id ∧ v = .ptr id 0 ∧ ∀ k,k ≤ K → aop x.op (evd am) (st k) = some (.box cs) ∧ (st k).bx[id]? = some cs) ∨
    (eff = false ∧ bid = none ∧ ∃ s els id,tid = some id ∧ v = .sl els (some id) ∧ ∀ k,k ≤ K → aop x.op (evd am) (st k) = some (.lit s els) ∧ (st k).lv[id]? = some (els.length,s)) ∨
    (eff = true ∧ bid = none ∧ tid = none ∧ lv + 1 ≤ K ∧ evOp orc x.op am (st lv) = some (v, st (lv + 1)))))
def aEd (orc : Clr) (a1 am : List AV) (st : Nat → St) (U K : Nat) (lv : Nat) (x : aT) (v : AV) (eff : Bool) (bid tid : Option Nat) : Prop :=
 (bG x.guard a1 = some false ∧ v = .tup [] ∧ eff = false ∧ bid = none ∧ tid = none) ∨
 (bG x.guard a1 = some true ∧
   ((eff = false ∧ bid = none ∧ tid = none ∧ ∀ k, k ≤ U → aop x.op (evd am) (st k) = some (.val v) ∨ ∃ f as1, aop x.op (evd am) (st k) = some (.call f as1) ∧ gT orc f as1 (st k) = some (v, st k)) ∨
    (eff = false ∧ tid = none ∧ ∃ cs id,bid = some id ∧ v = .ptr id 0 ∧ (∀ k,k ≤ U → aop x.op (evd am) (st k) = some (.box cs) ∧ (st k).bx[id]? = some cs) ∧ ∀ k,k ≤ K → id < (st k).bx.length) ∨
    (eff = false ∧ bid = none ∧ ∃ s els id,tid = some id ∧ v = .sl els (some id) ∧ (∀ k,k ≤ U → aop x.op (evd am) (st k) = some (.lit s els) ∧ (st k).lv[id]? = some (els.length,s)) ∧ ∀ k,k ≤ K → id < (st k).lv.length) ∨
    (eff = true ∧ bid = none ∧ tid = none ∧ lv + 1 ≤ K ∧ evOp orc x.op am (st lv) = some (v, st (lv + 1)))))
theorem aBE.toU {orc : Clr} {a1 am : List AV} {st : Nat → St} {K lv : Nat} {x : aT} {v : AV} {eff : Bool} {bid tid : Option Nat} (h : aBE orc a1 am st K lv x v eff bid tid) : aEd orc a1 am st K K lv x v eff bid tid:=by
 rcases h with h | ⟨h0,h | ⟨e1,e2,cs,id,e3,e4,e5⟩ | ⟨e1,e2,s,els,id,e3,e4,e5⟩ | h⟩
 ·exact .inl h
 ·exact .inr ⟨h0,.inl h⟩
 ·exact .inr ⟨h0,.inr (.inl ⟨e1,e2,cs,id,e3,e4,e5,fun k hk => (List.getElem?_eq_some_iff.1 (e5 k hk).2).1⟩)⟩
 ·exact .inr ⟨h0,.inr (.inr (.inl ⟨e1,e2,s,els,id,e3,e4,e5,fun k hk => (List.getElem?_eq_some_iff.1 (e5 k hk).2).1⟩))⟩
 ·exact .inr ⟨h0,.inr (.inr (.inr h))⟩
inductive Pre (ops : Array Oper) : Nat → Nat → Prop
 | one {i j : Nat} {oj : Oper} (h : ops[j]? = some oj) (k : i ∈ eU oj) : Pre ops i j
 | more {i k j : Nat} (h : Pre ops i k) (g : Pre ops k j) : Pre ops i j
theorem Pre.listed {ops : Array Oper} {listed : Array Bool} (h4 : ∀ i,listed.getD i false = true → ∀ o,ops[i]? = some o → ∀ k ∈ eU o,listed.getD k false = true) {i j : Nat} (h : Pre ops i j) (hj : listed.getD j false = true) : listed.getD i false = true:=by
 induction h with
 | one h k => exact h4 _ hj _ h _ k
 | more _ _ ih1 ih2 => exact ih1 (ih2 hj)
def lvl (eff : Nat → Bool) (i : Nat) : Nat:=((List.range i).filter eff).length
def cnt (eff : Nat → Bool) (m : Nat) (listed : Array Bool) : Nat:=((List.range m).filter fun i => listed.getD i true && eff i).length
theorem aFc {eff : Nat → Bool} {m i : Nat} (hi : i ≤ m) : ((List.range m).filter fun j => decide (j < i) && eff j).length = lvl eff i:=by
 unfold lvl
 have e0 : List.range m = List.range i ++ List.range' i (m - i):=by
  have e:=List.range'_append (s:=0) (m:=i) (n:=m - i) (step:=1)
  rw [Nat.zero_add,Nat.one_mul] at e
  rw [List.range_eq_range',List.range_eq_range',e]
  congr 1
  omega
 rw [e0,List.filter_append]
 have e1 : (List.range i).filter (fun j => decide (j < i) && eff j) = (List.range i).filter eff:=by
  apply List.filter_congr
  intro j hj
  simp [List.mem_range.1 hj]
 have e2 : (List.range' i (m - i)).filter (fun j => decide (j < i) && eff j) = []:=by
  apply List.filter_eq_nil_iff.2
  intro j hj
  have:=List.mem_range'_1.1 hj
  simp; omega
 rw [e1,e2,List.append_nil]
theorem aGu {eff : Nat → Bool} {m i : Nat} {listed : Array Bool} (hi : i < m) (hs : i < listed.size) (hl : listed.getD i true = false) : cnt eff m (listed.setIfInBounds i true) = cnt eff m listed + if eff i then 1 else 0:=by
 unfold cnt
 have key : ∀ (l : List Nat),l.Nodup → i ∈ l → (l.filter fun j => (listed.setIfInBounds i true).getD j true && eff j).length = (l.filter fun j => listed.getD j true && eff j).length + if eff i then 1 else 0:=by
  intro l
  induction l with
  | nil => intro _ h; cases h
  | cons x l ih =>
   intro hnd hm
   have hx:=List.nodup_cons.1 hnd
   by_cases hxi : x = i
   ·subst hxi
    have e1 : (listed.setIfInBounds x true).getD x true = true:=by simp [Array.getElem?_setIfInBounds,hs]
    have e2 : l.filter (fun j => (listed.setIfInBounds x true).getD j true && eff j) = l.filter (fun j => listed.getD j true && eff j):=by
     apply List.filter_congr
     intro j hj
     have : x ≠ j:=by rintro rfl; exact hx.1 hj
     simp [Array.getElem?_setIfInBounds_ne this]
    rw [List.filter_cons,List.filter_cons,e1,hl,e2]
    cases eff x <;> simp
   ·have hm' : i ∈ l:=by
     rcases List.mem_cons.1 hm with h | h
     ·exact absurd h.symm hxi
     ·exact h
    have e1 : (listed.setIfInBounds i true).getD x true = listed.getD x true:=by
     have : i ≠ x:=Ne.symm hxi
     simp [Array.getElem?_setIfInBounds_ne this]
    have:=ih hx.2 hm'
    rw [List.filter_cons,List.filter_cons,e1]
    split
    ·simp only [List.length_cons]; omega
    ·exact this
 exact key _ List.nodup_range (List.mem_range.2 hi)
theorem aFl {a b : List AV} (hl : a.length = b.length) (h : ∀ t,a.getD t .junk = b.getD t .junk) : a = b:=by
 apply List.ext_getElem? 
 intro t
 by_cases ht : t < a.length
 ·have h1:=h t
  rw [List.getD,List.getD,List.getElem?_eq_getElem ht,List.getElem?_eq_getElem (by omega)] at h1
  simp only [Option.getD_some] at h1
  rw [List.getElem?_eq_getElem ht,List.getElem?_eq_getElem (by omega),h1]
 ·rw [List.getElem?_eq_none (by omega),List.getElem?_eq_none (by omega)]
structure Mid (ops : Array Oper) (xs : List aT) (m : Nat) (a : List AV) (v : Nat → AV) (st : Nat → St) (eff : Nat → Bool) (bid tid : Nat → Option Nat) (G0 : Gh) (S0 : St) (w0 : World) (act0 : Act) (listed : Array Bool) (act : Act) (w : World) (G : Gh) (aD : List AV) : Prop where
 inv : Inv G (st (cnt eff m listed)) w
 rel : Rel G aD act
 len : aD.length = a.length
 done : ∀ i,i < m → listed.getD i true = true → ∀ t,dO xs i = some t → aD.getD t .junk = v i
 rest : ∀ t,(∀ i,i < m → listed.getD i true = true → dO xs i ≠ some t) → aD.getD t .junk = a.getD t .junk
 bx : ∀ i,i < m → listed.getD i true = false → ∀ id,bid i = some id → G.al id = none
 tk : ∀ i,i < m → listed.getD i true = false → ∀ id,tid i = some id → ∀ n,G.tb id n = none
 gro : Gro G0 S0 w0 G (st (cnt eff m listed)) w
 keep : Keep G0 S0 G (st (cnt eff m listed))
 def_ : act.defers = act0.defers
end
end Go.Proofs.YtildamklmoekaaaGreatDoor
