/- The engine, part 1: values without memory (AV), and how they stand for Go's values in a world (VR, Inv, Gro). Own work; imports no translation. -/
import Derived.WalkKit
import Derived.Below
import Derived.Orders
import Derived.OrdersIn
import Derived.RangeFuncCalls
import Derived.Laws.AppendOwn
namespace Go.Proofs.Ytncaneioenanjaa
open Go.RowKit
set_option linter.unusedVariables false
set_option linter.unusedSimpArgs false

/-- A value without memory: lists that are only read stand for slices, numbers of boxes for addresses. -/
inductive AV where
  | int (k : IntKind) (n : Int)
  | bool (b : Bool)
  | str (s : ByteArray)
  | agg (cs : List AV)
  | tup (vs : List AV)
  | nilp
  | ptr (b o : Nat)
  | rop (cs : List AV)
  | nils
  | sl (els : List AV) (tok : Option Nat)
  | ms (b n s : Nat)
  | fn (f : FuncId) (first caps : List AV)
  | nilf
  | junk
  deriving Inhabited

def AV.cells : AV → List AV
  | .agg cs => cs
  | x => [x]

mutual
/-- It names no box and no token. -/
def AV.clean : AV → Bool
  | .int _ _ | .bool _ | .str _ | .nilp | .nils | .nilf | .junk => true
  | .agg cs => cleanL cs
  | .tup cs => cleanL cs
  | .rop cs => cleanL cs
  | .sl els none => cleanL els
  | .sl _ (some _) => false
  | .ptr _ _ => false
  | .ms _ _ _ => false
  | .fn _ ps caps => cleanL ps && cleanL caps
def cleanL : List AV → Bool
  | [] => true
  | x :: l => x.clean && cleanL l
end

theorem cleanL_iff {l : List AV} : cleanL l = true ↔ ∀ x ∈ l, x.clean = true := by
  induction l with
  | nil => simp [cleanL]
  | cons a l ih => simp [cleanL, ih]

/-- Where a growing slice's elements lie at some length: nowhere, or in a block of c places of s cells. -/
inductive TB where
  | nil
  | blk (B s c : Nat)

/-- What stands for what: boxes' blocks, growing slices' blocks at each length, and the cells that nobody turns any more. -/
structure Gh where
  al : Nat → Option Nat
  tb : Nat → Nat → Option TB
  fz : Nat → Nat → Option Value

structure Gh.le (G G' : Gh) : Prop where
  al : ∀ b B, G.al b = some B → G'.al b = some B
  tb : ∀ t n v, G.tb t n = some v → G'.tb t n = some v
  fz : ∀ b o u, G.fz b o = some u → G'.fz b o = some u

theorem Gh.le.refl (G : Gh) : G.le G := ⟨fun _ _ h => h, fun _ _ _ h => h, fun _ _ _ h => h⟩
theorem Gh.le.trans {G G1 G2 : Gh} (h : G.le G1) (k : G1.le G2) : G.le G2 :=
  ⟨fun b B e => k.al b B (h.al b B e), fun t n v e => k.tb t n v (h.tb t n v e), fun b o u e => k.fz b o u (h.fz b o u e)⟩

/-- The value stands for Go's. -/
inductive VR (G : Gh) : AV → Value → Prop
  | int (k n) : VR G (.int k n) (.int k n)
  | bool (b) : VR G (.bool b) (.bool b)
  | str (s) : VR G (.str s) (.string s)
  | agg (cs : List AV) (us : Array Value) (hl : us.size = cs.length) (h : ∀ (i : Nat) x u, cs[i]? = some x → us[i]? = some u → VR G x u) : VR G (.agg cs) (.agg us)
  | tup (cs : List AV) (us : Array Value) (hl : us.size = cs.length) (h : ∀ (i : Nat) x u, cs[i]? = some x → us[i]? = some u → VR G x u) : VR G (.tup cs) (.tuple us)
  | nilp : VR G .nilp (.pointer none)
  | ptr (b o B) (h : G.al b = some B) : VR G (.ptr b o) (.pointer (some ⟨B, o, none⟩))
  | rop (cs : List AV) (B O : Nat) (us : Nat → Value) (hf : ∀ (i : Nat) x, cs[i]? = some x → G.fz B (O + i) = some (us i)) (h : ∀ (i : Nat) x, cs[i]? = some x → VR G x (us i)) : VR G (.rop cs) (.pointer (some ⟨B, O, none⟩))
  | nils : VR G .nils (.slice none 0 0)
  | sl0 (A c) : VR G (.sl [] none) (.slice A 0 c)
  | sl (els : List AV) (s B O c : Nat) (us : Nat → Value) (hn : els.length ≤ c) (hs : ∀ (i : Nat) e, els[i]? = some e → e.cells.length = s)
      (hf : ∀ (i : Nat) e (j : Nat) x, els[i]? = some e → e.cells[j]? = some x → G.fz B (O + (i * s + j)) = some (us (i * s + j)))
      (h : ∀ (i : Nat) e (j : Nat) x, els[i]? = some e → e.cells[j]? = some x → VR G x (us (i * s + j))) : VR G (.sl els none) (.slice (some ⟨B, O, none⟩) els.length c)
  | slt (els : List AV) (t s B c : Nat) (us : Nat → Value) (hb : G.tb t els.length = some (.blk B s c)) (hn : els.length ≤ c) (hs : ∀ (i : Nat) e, els[i]? = some e → e.cells.length = s)
      (hf : ∀ (i : Nat) e (j : Nat) x, els[i]? = some e → e.cells[j]? = some x → G.fz B (i * s + j) = some (us (i * s + j)))
      (h : ∀ (i : Nat) e (j : Nat) x, els[i]? = some e → e.cells[j]? = some x → VR G x (us (i * s + j))) : VR G (.sl els (some t)) (.slice (some ⟨B, 0, none⟩) els.length c)
  | slt0 (t) (hb : G.tb t 0 = some .nil) : VR G (.sl [] (some t)) (.slice none 0 0)
  | ms (b n s B c) (h : G.al b = some B) (hn : n ≤ c) : VR G (.ms b n s) (.slice (some ⟨B, 0, none⟩) n c)
  | fn (f) (ps cs : List AV) (vs us : Array Value) (hlp : vs.size = ps.length) (hp : ∀ (i : Nat) x u, ps[i]? = some x → vs[i]? = some u → VR G x u) (hl : us.size = cs.length) (h : ∀ (i : Nat) x u, cs[i]? = some x → us[i]? = some u → VR G x u) : VR G (.fn f ps cs) (.func (.func f) vs us)
  | nilf : VR G .nilf .nilFunc
  | junk (u) : VR G .junk u

theorem VR.mono {G G' : Gh} {x : AV} {u : Value} (h : VR G x u) (hg : G.le G') : VR G' x u := by
  induction h with
  | int k n => exact .int k n
  | bool b => exact .bool b
  | str s => exact .str s
  | agg cs us hl _ ih => exact .agg cs us hl ih
  | tup cs us hl _ ih => exact .tup cs us hl ih
  | nilp => exact .nilp
  | ptr b o B h => exact .ptr b o B (hg.al _ _ h)
  | rop cs B O us hf _ ih => exact .rop cs B O us (fun i x hi => hg.fz _ _ _ (hf i x hi)) ih
  | nils => exact .nils
  | sl0 A c => exact .sl0 A c
  | sl els s B O c us hn hs hf _ ih => exact .sl els s B O c us hn hs (fun i e j x h1 h2 => hg.fz _ _ _ (hf i e j x h1 h2)) ih
  | slt els t s B c us hb hn hs hf _ ih => exact .slt els t s B c us (hg.tb _ _ _ hb) hn hs (fun i e j x h1 h2 => hg.fz _ _ _ (hf i e j x h1 h2)) ih
  | slt0 t hb => exact .slt0 t (hg.tb _ _ _ hb)
  | ms b n s B c h hn => exact .ms b n s B c (hg.al _ _ h) hn
  | fn f ps cs vs us hlp _ hl _ ihp ih => exact .fn f ps cs vs us hlp ihp hl ih
  | nilf => exact .nilf
  | junk u => exact .junk u

/-- A value that names no box and no token wants nothing but the cells. -/
theorem VR.move {G G' : Gh} {x : AV} {u : Value} (h : VR G x u) (hc : x.clean = true) (hg : ∀ b o v, G.fz b o = some v → G'.fz b o = some v) : VR G' x u := by
  induction h with
  | int k n => exact .int k n
  | bool b => exact .bool b
  | str s => exact .str s
  | agg cs us hl _ ih => exact .agg cs us hl fun i x u h1 h2 => ih i x u h1 h2 (cleanL_iff.1 (by simpa [AV.clean] using hc) x (List.mem_of_getElem? h1))
  | tup cs us hl _ ih => exact .tup cs us hl fun i x u h1 h2 => ih i x u h1 h2 (cleanL_iff.1 (by simpa [AV.clean] using hc) x (List.mem_of_getElem? h1))
  | nilp => exact .nilp
  | ptr b o B h => simp [AV.clean] at hc
  | rop cs B O us hf _ ih => exact .rop cs B O us (fun i x hi => hg _ _ _ (hf i x hi)) fun i x h1 => ih i x h1 (cleanL_iff.1 (by simpa [AV.clean] using hc) x (List.mem_of_getElem? h1))
  | nils => exact .nils
  | sl0 A c => exact .sl0 A c
  | sl els s B O c us hn hs hf _ ih =>
    refine .sl els s B O c us hn hs (fun i e j x h1 h2 => hg _ _ _ (hf i e j x h1 h2)) fun i e j x h1 h2 => ih i e j x h1 h2 ?_
    have he := cleanL_iff.1 (show cleanL els = true by simpa [AV.clean] using hc) e (List.mem_of_getElem? h1)
    have hx := List.mem_of_getElem? h2
    cases e <;> simp only [AV.cells, List.mem_singleton] at hx <;> first | (subst hx; exact he) | exact cleanL_iff.1 (by simpa [AV.clean] using he) x hx
  | slt els t s B c us hb hn hs hf _ ih => simp [AV.clean] at hc
  | slt0 t hb => simp [AV.clean] at hc
  | ms b n s B c h hn => simp [AV.clean] at hc
  | fn f ps cs vs us hlp _ hl _ ihp ih =>
    simp only [AV.clean, Bool.and_eq_true] at hc
    exact .fn f ps cs vs us hlp (fun i x u h1 h2 => ihp i x u h1 h2 (cleanL_iff.1 hc.1 x (List.mem_of_getElem? h1))) hl fun i x u h1 h2 => ih i x u h1 h2 (cleanL_iff.1 hc.2 x (List.mem_of_getElem? h1))
  | nilf => exact .nilf
  | junk u => exact .junk u

/-- The token is forgotten. -/
def AV.plain1 : AV → AV
  | .sl els _ => .sl els none
  | x => x
def AV.plain : AV → AV
  | .agg cs => .agg (cs.map AV.plain1)
  | x => x.plain1
theorem VR.plain1 {G : Gh} {x : AV} {u : Value} (h : VR G x u) : VR G x.plain1 u := by
  cases h with
  | slt els t s B c us hb hn hs hf h => exact .sl els s B 0 c us hn hs (fun i e j x h1 h2 => by rw [Nat.zero_add]; exact hf i e j x h1 h2) h
  | slt0 t hb => exact .sl0 none 0
  | sl els s B O c us hn hs hf h => exact .sl els s B O c us hn hs hf h
  | sl0 A c => exact .sl0 A c
  | int k n => exact .int k n
  | bool b => exact .bool b
  | str s => exact .str s
  | agg cs us hl h => exact .agg cs us hl h
  | tup cs us hl h => exact .tup cs us hl h
  | nilp => exact .nilp
  | ptr b o B h => exact .ptr b o B h
  | rop cs B O us hf h => exact .rop cs B O us hf h
  | nils => exact .nils
  | ms b n s B c h hn => exact .ms b n s B c h hn
  | fn f ps cs vs us hlp hp hl h => exact .fn f ps cs vs us hlp hp hl h
  | nilf => exact .nilf
  | junk u => exact .junk u
theorem VR.plain {G : Gh} {x : AV} {u : Value} (h : VR G x u) : VR G x.plain u := by
  cases x with
  | agg cs =>
    cases h with
    | agg _ us hl h =>
      refine .agg _ us (by simpa using hl) fun i y v hy hv => ?_
      rw [List.getElem?_map, Option.map_eq_some_iff] at hy
      obtain ⟨z, hz, rfl⟩ := hy
      exact (h i z v hz hv).plain1
  | _ => exact h.plain1
theorem AV.plain_cells (x : AV) : x.plain.cells.length = x.cells.length := by
  cases x <;> simp [AV.plain, AV.plain1, AV.cells]

/-- Boxes, and the growing slices' lengths. -/
structure St where
  bx : List (List AV)
  lv : List (Nat × Nat)
  deriving Inhabited

/-- The world holds what the boxes say. -/
structure Inv (G : Gh) (S : St) (w : World) : Prop where
  box : ∀ b B cs, G.al b = some B → S.bx[b]? = some cs → cs = [] ∨ ∃ us T, w.heap[B]? = some (.cells us T (0, 0)) ∧ us.size = cs.length ∧ (∀ (i : Nat) x u, cs[i]? = some x → us[i]? = some u → VR G x u) ∧ ∀ o, G.fz B o = none
  tok : ∀ t n s0 B s c, S.lv[t]? = some (n, s0) → G.tb t n = some (.blk B s c) → s = s0 ∧ (∃ us T, w.heap[B]? = some (.cells us T (0, 0)) ∧ us.size = c * s) ∧ n ≤ c ∧ ∀ o, n * s ≤ o → G.fz B o = none
  fz : ∀ b o u, G.fz b o = some u → w.cell? ⟨b, o, none⟩ = some u
  dal : ∀ b B, G.al b = some B → b < S.bx.length ∧ B < w.heap.size
  dtb : ∀ t n v, G.tb t n = some v → ∃ m s, S.lv[t]? = some (m, s) ∧ n ≤ m
  injA : ∀ b b' B, G.al b = some B → G.al b' = some B → b = b'
  injT : ∀ t t' n n' s0 s0' B s s' c c', S.lv[t]? = some (n, s0) → S.lv[t']? = some (n', s0') → G.tb t n = some (.blk B s c) → G.tb t' n' = some (.blk B s' c') → t = t'
  sep : ∀ b B t n s0 s c, G.al b = some B → S.lv[t]? = some (n, s0) → G.tb t n ≠ some (.blk B s c)

/-- Blocks that may be turned. -/
def Owned (G : Gh) (S : St) (B : Nat) : Prop := (∃ b, G.al b = some B) ∨ ∃ t n s0 s c, S.lv[t]? = some (n, s0) ∧ G.tb t n = some (.blk B s c)

/-- What became of a world: what is not owned is as it was. -/
structure Gro (G : Gh) (S : St) (w : World) (G' : Gh) (S' : St) (w' : World) : Prop where
  le : G.le G'
  os : w'.os = w.os
  tape : w'.tape = w.tape
  output : w'.output = w.output
  size : w.heap.size ≤ w'.heap.size
  fr : ∀ B, B < w.heap.size → ¬ Owned G S B → w'.heap[B]? = w.heap[B]? ∧ ∀ o, G'.fz B o = G.fz B o
  own : ∀ B, Owned G' S' B → Owned G S B ∨ w.heap.size ≤ B

theorem Gro.refl (G : Gh) (S : St) (w : World) : Gro G S w G S w :=
  ⟨.refl G, rfl, rfl, rfl, Nat.le_refl _, fun _ _ _ => ⟨rfl, fun _ => rfl⟩, fun _ h => .inl h⟩
theorem Gro.trans {G G1 G2 : Gh} {S S1 S2 : St} {w w1 w2 : World} (h : Gro G S w G1 S1 w1) (k : Gro G1 S1 w1 G2 S2 w2) : Gro G S w G2 S2 w2 where
  le := h.le.trans k.le
  os := k.os.trans h.os
  tape := k.tape.trans h.tape
  output := k.output.trans h.output
  size := Nat.le_trans h.size k.size
  fr B hB hn := by
    obtain ⟨a1, a2⟩ := h.fr B hB hn
    obtain ⟨b1, b2⟩ := k.fr B (Nat.lt_of_lt_of_le hB h.size) (fun ho => by
      rcases h.own B ho with h' | h'
      · exact hn h'
      · omega)
    exact ⟨b1.trans a1, fun o => (b2 o).trans (a2 o)⟩
  own B ho := by
    rcases k.own B ho with h' | h'
    · exact h.own B h'
    · exact .inr (Nat.le_trans h.size h')

/-- The world has been asked something: nothing else. -/
theorem Inv.drew {G : Gh} {S : St} {w : World} (h : Inv G S w) : Inv G S w.drew := ⟨h.box, h.tok, h.fz, h.dal, h.dtb, h.injA, h.injT, h.sep⟩
theorem Gro.drew (G : Gh) (S : St) (w : World) : Gro G S w G S w.drew := ⟨.refl G, rfl, rfl, rfl, Nat.le_refl _, fun _ _ _ => ⟨rfl, fun _ => rfl⟩, fun _ h => .inl h⟩

/-- A box's cell, read. -/
theorem Inv.cell {G : Gh} {S : St} {w : World} (hI : Inv G S w) {b B o : Nat} {cs : List AV} {x : AV} (ha : G.al b = some B) (hb : S.bx[b]? = some cs) (hx : cs[o]? = some x) : ∃ u, w.cell? ⟨B, o, none⟩ = some u ∧ VR G x u ∧ w.frozen? ⟨B, o, none⟩ = false := by
  rcases hI.box b B cs ha hb with rfl | ⟨us, T, h1, h2, h3, _⟩
  · simp at hx
  · have hlt : o < us.size := by rw [h2]; exact (List.getElem?_eq_some_iff.1 hx).1
    have hu : us[o]? = some us[o] := Array.getElem?_eq_getElem hlt
    refine ⟨us[o], ?_, h3 o x _ hx hu, ?_⟩
    · simp [World.cell?, h1]
    · simp [World.frozen?, h1]
end Go.Proofs.Ytncaneioenanjaa
