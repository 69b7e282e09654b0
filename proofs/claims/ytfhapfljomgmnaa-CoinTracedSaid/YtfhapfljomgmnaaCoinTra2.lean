/- Part 3 of what the law needs: own work, put together. -/
import Derived.RangeFuncNested
import Derived.Scope
import Derived.Laws.CopyRow
import Derived.Laws.IdiomCopy
import Derived.Test.YtfhapfljomgmnaaProg
import Derived.KernelRfl
import Derived.Test.YtfhapfljomgmnaaCoinTra1
set_option linter.unusedVariables false
set_option linter.unusedSimpArgs false
set_option maxRecDepth 10000
set_option maxHeartbeats 4000000
section
namespace Go.Proofs.Ytfhapfljomgmnaa
open Go.RowKit

theorem Forgets.castR {n0 : Cx} {a a2 b : List AV} {S S2 T : St} (h1 : a2 = b) (h2 : S2 = T) (h : Forgets n0 a S a2 S2) : Forgets n0 a S b T := by rw [← h1, ← h2]; exact h
theorem fadeS_cells (e : AV) : (fadeS e).cells = e.cells.map fadeV := by
 cases e <;> rfl
theorem fadeE_vr {G : Gh} {els : List AV} {t : Option Nat} {u : Value} (h : VR G (.sl els t) u) : VR G (.sl (els.map fadeS) t) u := by
 have hget : ∀ (i : Nat) e, (els.map fadeS)[i]? = some e → ∃ e0, els[i]? = some e0 ∧ e = fadeS e0 := fun i e h => by
  rw [List.getElem?_map, Option.map_eq_some_iff] at h
  obtain ⟨e0, h0, h1⟩ := h
  exact ⟨e0, h0, h1.symm⟩
 have hcell : ∀ e0 (j : Nat) x, (fadeS e0).cells[j]? = some x → ∃ y, e0.cells[j]? = some y ∧ x = fadeV y := fun e0 j x h => by
  rw [fadeS_cells, List.getElem?_map, Option.map_eq_some_iff] at h
  obtain ⟨y, h0, h1⟩ := h
  exact ⟨y, h0, h1.symm⟩
 have hl : els.length = (els.map fadeS).length := by rw [List.length_map]
 cases h with
 | sl0 A c => exact .sl0 A c
 | sl _ s B O c us hn hs hf h =>
  rw [hl]
  refine .sl _ s B O c us (by rw [← hl]; exact hn) (fun i e he => ?_) (fun i e j x he hx => ?_) fun i e j x he hx => ?_
  ·obtain ⟨e0, h0, rfl⟩ := hget i e he
   rw [fadeS_cells, List.length_map]; exact hs i e0 h0
  ·obtain ⟨e0, h0, rfl⟩ := hget i e he
   obtain ⟨y, hy, rfl⟩ := hcell e0 j x hx
   exact hf i e0 j y h0 hy
  ·obtain ⟨e0, h0, rfl⟩ := hget i e he
   obtain ⟨y, hy, rfl⟩ := hcell e0 j x hx
   exact (h i e0 j y h0 hy).fadeV
 | slt _ t s B c us hb hn hs hf h =>
  rw [hl] at hb ⊢
  refine .slt _ t s B c us hb (by rw [← hl]; exact hn) (fun i e he => ?_) (fun i e j x he hx => ?_) fun i e j x he hx => ?_
  ·obtain ⟨e0, h0, rfl⟩ := hget i e he
   rw [fadeS_cells, List.length_map]; exact hs i e0 h0
  ·obtain ⟨e0, h0, rfl⟩ := hget i e he
   obtain ⟨y, hy, rfl⟩ := hcell e0 j x hx
   exact hf i e0 j y h0 hy
  ·obtain ⟨e0, h0, rfl⟩ := hget i e he
   obtain ⟨y, hy, rfl⟩ := hcell e0 j x hx
   exact (h i e0 j y h0 hy).fadeV
 | slt0 t hb => exact .slt0 t hb
theorem slotK {n0 : Cx} {a : List AV} {S : St} (k : Nat) (x y : AV) (hk : a[k]? = some x) (h : ∀ G u, VR G x u → VR G y u) : Forgets n0 a S (a.set k y) S := by
 intro E hE act w ⟨G, hI, hR, hg, hkp, hd⟩
 refine ⟨G, hI, ⟨by rw [List.length_set]; exact hR.size, fun i z u hz hu => ?_⟩, hg, hkp, hd⟩
 rw [List.getElem?_set] at hz
 split at hz
 ·rename_i hki
  subst hki
  split at hz
  ·cases hz
   exact h G u (hR.slot k x u hk hu)
  ·cases hz
 ·exact hR.slot i z u hz hu
theorem fadeE {n0 : Cx} {a : List AV} {S : St} (k : Nat) (els : List AV) (t : Option Nat) (hk : a[k]? = some (.sl els t)) : Forgets n0 a S (a.set k (.sl (els.map fadeS) t)) S := slotK k _ _ hk fun _ _ h => fadeE_vr h
end Go.Proofs.Ytfhapfljomgmnaa
end
section
namespace Go.Proofs.Ytfhapfljomgmnaa
open Go.RowKit

theorem compCode_rangeF {P : Program} {code : Code} {g : AOpd} {ps : List Nat} {x y : ACode} (h : compCode P code = some (.rangeF g ps x y)) : ∃ g' ps' x' y', code = .rangeFunc g' ps' x' y' ∧ compOpd g' = some g ∧ ps'.toList = ps ∧ compCode P x' = some x ∧ compCode P y' = some y := by
 cases code <;> simp only [compCode, reduceCtorEq] at h
 case rangeFunc g' ps' x' y' =>
  split at h
  ·rename_i h1 h2 h3
   simp only [Option.some.injEq, ACode.rangeF.injEq] at h
   obtain ⟨rfl, rfl, rfl, rfl⟩ := h
   exact ⟨g', ps', x', y', rfl, h1, rfl, h2, h3⟩
  ·cases h
 case region id ops draw =>
  split at h
  ·split at h
   ·split at h
    ·split at h <;> simp at h
    ·cases h
   ·cases h
  ·split at h
   ·cases h
   ·simp at h
 case seq => split at h <;> simp at h
 case cond => split at h <;> simp at h
 all_goals simp at h

def Md.F : Md → Fence
 | .plain => Fence.wide
 | .round l _ => Fence.wide.inRound l
def Md.n : Md → Nat
 | .plain => 2
 | .round _ n => n
theorem Md.fn (md : Md) (f : FuncId) : md.F.fn f := by cases md <;> trivial
theorem Md.depth (md : Md) {p : Prop} (h : md.F.depth.isSome = true) : p := by cases md <;> simp [Md.F, Fence.wide, Fence.inRound] at h
theorem cwp_of_in {md : Md} {P : Program} {c : Code} {Q : Exit → Act → World → Prop} {a : Act} {w : World} (h : c.wpIn md.F md.n P Q a w) : cwp md P c Q a w := by
 cases md
 ·exact wpIn_wide.1 h
 ·exact h
theorem callsIn_md (md : Md) {n : Nat} {P : Program} {f : FuncId} {args : Array Value} {w : World} {R : Ending → World → Prop} (h : Calls P f args w R) : CallsIn md.F n P f args w R := by
 cases md with
 | plain => exact callsIn_wide.2 h
 | round l k => exact CallsIn.inRound l (callsIn_wide.2 h)
theorem rowsIn_md (md : Md) {n : Nat} {P : Program} {row : String} {args : Array Value} {w : World} {R : Value → World → Prop} (h : Rows P row args w R) : RowsIn md.F n P row args w R := by
 cases md with
 | plain => exact fun c cs _ => let ⟨v, w', r, s⟩ := h c cs; ⟨v, w', r, stepsIn_wide.2 s⟩
 | round l k => exact rows_round h
theorem listIn_of {md : Md} {P : Program} {ops : Array Oper} {Q : Exit → Act → World → Prop} {K : Act → World → Prop} (l2 : List Oper) (hn : ∀ a w, K a w → wpListIn md.F md.n P ops Q l2 a w) : ∀ (l : List Oper) (a : Act) (w : World), (∀ o ∈ l, ∀ d, o.op ≠ .defer d) → wpList P ops (fun e a w => e = .normal ∧ K a w) l a w → wpListIn md.F md.n P ops Q (l ++ l2) a w
 | [], a, w, _, h => hn a w h.2
 | o :: l, a, w, hd, h => by
  have ih := listIn_of (md := md) (P := P) (ops := ops) (Q := Q) (K := K) l2 hn l
  have hd' : ∀ o ∈ l, ∀ d, o.op ≠ .defer d := fun o ho => hd o (List.mem_cons_of_mem _ ho)
  have hL : ¬ LetsOut (fun (e : Exit) (a : Act) (w : World) => e = Exit.normal ∧ K a w) := fun ⟨a, w, hq⟩ => by cases hq.1
  simp only [List.cons_append, wpListIn]
  simp only [wpList] at h
  by_cases hw : Region.wanted o (yielded ops a.tmps) = true
  ·rw [if_pos hw] at h ⊢
   rcases h with h | ⟨_, h⟩
   ·refine ⟨fun f _ => md.fn f, ?_⟩
    rw [Oper.semAt_eq _ _ _ (hd o (by simp))]
    unfold Oper.wp at h
    generalize (execOp a.eval o).run P w = r at h
    cases r with
    | ok nx w' =>
     cases nx <;> simp only [Oper.upon, Oper.uponIn] at h ⊢
     case value v => exact ih _ _ hd' h
     case skip => exact ih _ _ hd' h
     case defer d => exact ih _ _ hd' h
     case enter f args =>
      refine ⟨fun hdp => md.depth hdp, callsIn_md md (Calls.mono h fun e w'' he => ?_)⟩
      cases e with
      | returned v => exact ih _ _ hd' he
      | panicked c => cases he.1
      | outgrown => exact absurd he hL
     case row row args => exact ⟨fun hdp => md.depth hdp, rowsIn_md md (Rows.mono h fun v w'' he => ih _ _ hd' he)⟩
    | halt x w' => cases x <;> simp only [Oper.upon, Oper.uponIn] at h ⊢ <;> cases h.1
   ·exact absurd h hL
  ·rw [if_neg hw] at h ⊢
   exact ⟨fun f _ => md.fn f, ih _ _ hd' h⟩

def ExI (c : Cx) (md : Md) (P : Program) (xs : List AOper) (a : List AV) (S : St) (R : List AV → St → Prop) : Prop :=
 ∀ (E : Ent), E.c = c → ∀ (ops : Array Oper) (l : List Oper) (Q : Exit → Act → World → Prop), l.mapM (compOper P ops) = some xs → (∀ o ∈ l, ∀ d, o.op ≠ .defer d) → (∀ a' S' act' w', R a' S' → At E a' S' act' w' → Q .normal act' w') → ∀ act w, At E a S act w → wpListIn md.F md.n P ops Q l act w

theorem mapM_append_inv {P : Program} {ops : Array Oper} : ∀ (xs : List AOper) {ys : List AOper} {l : List Oper}, l.mapM (compOper P ops) = some (xs ++ ys) → ∃ l1 l2, l = l1 ++ l2 ∧ l1.mapM (compOper P ops) = some xs ∧ l2.mapM (compOper P ops) = some ys
 | [], ys, l, h => ⟨[], l, rfl, rfl, h⟩
 | x :: xs, ys, l, h => by
  obtain ⟨o, l', rfl, hx, hl'⟩ := mapM_cons_inv h
  obtain ⟨l1, l2, rfl, h1, h2⟩ := mapM_append_inv xs hl'
  exact ⟨o :: l1, l2, rfl, by simp [List.mapM_cons, hx, h1], h2⟩

section rules
variable {c : Cx} {md : Md} {P : Program} {a : List AV} {S : St} {Q : AEx → List AV → St → Prop} {R : List AV → St → Prop}
theorem ExI.nil (h : R a S) : ExI c md P [] a S R := by
 intro E hE ops l Q hl hd hq act w hA
 cases l with
 | nil => exact hq _ _ _ _ h hA
 | cons o l =>
  rw [List.mapM_cons] at hl
  simp only [Option.bind_eq_bind, Option.bind_eq_some_iff, Option.pure_def, Option.some.injEq] at hl
  obtain ⟨_, _, _, _, h⟩ := hl
  cases h
theorem ExI.pre {xs ys : List AOper} (h : ExO c P xs a S fun a1 S1 => ExI c md P ys a1 S1 R) : ExI c md P (xs ++ ys) a S R := by
 intro E hE ops l Q hl hd hq act w hA
 obtain ⟨l1, l2, rfl, h1, h2⟩ := mapM_append_inv xs hl
 refine listIn_of (K := fun act w => wpListIn md.F md.n P ops Q l2 act w) l2 (fun _ _ h => h) l1 act w (fun o ho => hd o (List.mem_append_left _ ho)) ?_
 refine h E hE ops l1 _ h1 (fun a' S' act' w' hr hA' => ⟨rfl, ?_⟩) act w hA
 exact hr E hE ops l2 Q h2 (fun o ho => hd o (List.mem_append_right _ ho)) hq act' w' hA'
theorem ExI.of {xs : List AOper} (h : ExO c P xs a S R) : ExI c md P xs a S R := by
 have := ExI.pre (c := c) (md := md) (P := P) (a := a) (S := S) (R := R) (xs := xs) (ys := []) (by
  intro E hE ops l Q hl hq act w hA
  exact h E hE ops l Q hl (fun a' S' act' w' hr hA' => hq a' S' act' w' (ExI.nil hr) hA') act w hA)
 rwa [List.append_nil] at this
theorem Ex.regI {xs : List AOper} (h : ExI c md P xs a S (Q .norm)) : Ex c md P (.reg xs) a S Q := by
 intro E hE code hc act w hA
 obtain ⟨id, ops, rfl, hnd, hxs⟩ := compCode_reg hc
 refine cwp_of_in (wpIn_region_list ?_)
 refine h E hE ops _ _ hxs (fun o ho => ?_) (fun a' S' act' w' h1 h2 => ⟨.norm, a', S', rfl, h1, h2⟩) act w hA
 obtain ⟨i, hi⟩ := List.mem_iff_getElem?.1 ho
 exact noDefer_spec hnd (i := i) (by simpa using hi)
end rules

def Fact.free (l t : Nat) : Fact → Prop
 | .lp L | .bz L => L.l ≠ l ∧ L.t ≠ t
 | _ => True
structure LpOk (P : Program) (c : Cx) (L : Lp) (a0 : List AV) (ps : List Nat) (x y : ACode) : Prop where
 fs : ∃ f1 f2, c.fs = f1 ++ .lp L :: f2 ∧ ∀ f ∈ f1 ++ f2, f.free L.l L.t
 rel : ∃ G0 n m, Fact.le G0 n m ∈ c.fs ∧ L.r.tmps.size = a0.length ∧ ∀ (i : Nat) z u, a0[i]? = some z → L.r.tmps[i]? = some u → VR G0 z u
 ps : L.r.params.toList = ps
 x : compCode P L.r.assign = some x
 y : compCode P L.r.body = some y
theorem Fact.wf.mono {f : Fact} {n m n' m' : Nat} (h : f.wf n m) (hn : n ≤ n') (hm : m ≤ m') : f.wf n' m' := by
 cases f with
 | le G0 n0 m0 => exact ⟨Nat.le_trans h.1 hn, Nat.le_trans h.2 hm⟩
 | lp L => exact Nat.lt_of_lt_of_le h hm
 | bz L => exact Nat.lt_of_lt_of_le h hm
 | df _ _ _ _ => trivial
theorem Fact.below.mono {f : Fact} {k k' : Nat} (h : f.below k) (hk : k ≤ k') : f.below k' := by
 cases f with
 | lp L => exact Nat.lt_of_lt_of_le h hk
 | bz L => exact Nat.lt_of_lt_of_le h hk
 | df _ u _ _ => exact Nat.le_trans h hk
 | _ => trivial
theorem Fact.above.mono {f : Fact} {k k' : Nat} (h : f.above k) (hk : k' ≤ k) : f.above k' := by
 cases f with
 | lp L => exact Nat.le_trans hk h
 | bz L => exact Nat.le_trans hk h
 | _ => trivial

def setPs (a : List AV) : List Nat → List AV → List AV
 | p :: ps, x :: xs => setPs (a.set p x) ps xs
 | _, _ => a
theorem setPs_rel {G : Gh} : ∀ (ps : List Nat) (xs : List AV) (us : List Value) (a : List AV) (t : Array Value), us.length = xs.length → (∀ (i : Nat) x u, xs[i]? = some x → us[i]? = some u → VR G x u) → t.size = a.length → (∀ (i : Nat) z u, a[i]? = some z → t[i]? = some u → VR G z u) →
  ((ps.zip us).foldl (fun t (p, v) => t.setIfInBounds p v) t).size = (setPs a ps xs).length ∧ ∀ (i : Nat) z u, (setPs a ps xs)[i]? = some z → ((ps.zip us).foldl (fun t (p, v) => t.setIfInBounds p v) t)[i]? = some u → VR G z u
 | [], xs, us, a, t, _, _, hs, h => by
  have : setPs a [] xs = a := by cases xs <;> rfl
  rw [this]
  exact ⟨hs, h⟩
 | p :: ps, [], us, a, t, hl, _, hs, h => by
  have : us = [] := List.eq_nil_of_length_eq_zero (by simpa using hl)
  subst this
  exact ⟨hs, h⟩
 | p :: ps, x :: xs, [], a, t, hl, _, hs, h => by simp at hl
 | p :: ps, x :: xs, u :: us, a, t, hl, hv, hs, h => by
  simp only [List.zip_cons_cons, List.foldl_cons, setPs]
  refine setPs_rel ps xs us _ _ (by simpa using hl) (fun i x u h1 h2 => hv (i + 1) x u (by simpa using h1) (by simpa using h2)) (by simpa using hs) fun i z v hz hv' => ?_
  rw [List.getElem?_set] at hz
  rw [Array.getElem?_setIfInBounds] at hv'
  by_cases hpi : p = i
  ·subst hpi
   rw [if_pos rfl] at hz hv'
   split at hz
   ·split at hv'
    ·cases hz; cases hv'
     exact hv 0 _ _ rfl rfl
    ·cases hv'
   ·cases hz
  ·rw [if_neg hpi] at hz hv'
   exact h i z v hz hv'

theorem Gro.putObj {G0 G : Gh} {S0 S : St} {w0 w : World} (h : Gro G0 S0 w0 G S w) {l : Nat} (o : Obj) (hl : w0.heap.size ≤ l) : Gro G0 S0 w0 G S (w.putObj l o) := by
 refine ⟨h.le, h.os, h.tape, h.output, by simp [World.putObj]; exact h.size, fun B hB hno => ?_, h.own, fun k o' hk ho => ?_⟩
 ·rw [World.putObj_heap_other (by omega)]; exact h.fr B hB hno
 ·have hlt := (Array.getElem?_eq_some_iff.1 hk).1
  rw [World.putObj_heap_other (by omega)]; exact h.oth k o' hk ho
theorem Inv.flag {G : Gh} {S : St} {w : World} (hI : Inv G S w) {t : Nat} (p : Nat × Nat) (ht : ∀ n, G.tb t n = none) : Inv G ⟨S.bx, S.lv.set t p⟩ w := by
 have hg : ∀ t' n v, G.tb t' n = some v → (S.lv.set t p)[t']? = S.lv[t']? := fun t' n v h => by
  refine List.getElem?_set_ne ?_
  rintro rfl; rw [ht] at h; cases h
 refine ⟨hI.box, fun t' n s0 B s c h1 h2 => hI.tok t' n s0 B s c (by rw [← hg t' n _ h2]; exact h1) h2, hI.fz, hI.dal, fun t' n v h => ?_, hI.injA, fun t1 t2 n n' s0 s0' B s s' c c' h1 h2 h3 h4 => ?_, fun b B t' n s0 s c h1 h2 h3 => ?_⟩
 ·obtain ⟨m, s, h1, h2⟩ := hI.dtb t' n v h
  exact ⟨m, s, by rw [← h1]; exact hg t' n v h, h2⟩
 ·exact hI.injT t1 t2 n n' s0 s0' B s s' c c' (by rw [← hg t1 n _ h3]; exact h1) (by rw [← hg t2 n' _ h4]; exact h2) h3 h4
 ·exact hI.sep b B t' n s0 s c h1 (by rw [← hg t' n _ h3]; exact h2) h3
theorem Gro.flag {G0 G : Gh} {S0 S : St} {w0 w : World} (h : Gro G0 S0 w0 G S w) {t : Nat} (p : Nat × Nat) (ht : ∀ n, G.tb t n = none) : Gro G0 S0 w0 G ⟨S.bx, S.lv.set t p⟩ w := by
 refine ⟨h.le, h.os, h.tape, h.output, h.size, h.fr, fun B ho => h.own B ?_, h.oth⟩
 rcases ho with hb | ⟨t', n, s0, s, c, h1, h2⟩
 ·exact .inl hb
 ·refine .inr ⟨t', n, s0, s, c, ?_, h2⟩
  rw [← h1]
  refine (List.getElem?_set_ne ?_).symm
  rintro rfl; rw [ht] at h2; cases h2
theorem Inv.allocO {G : Gh} {S : St} {w : World} (hI : Inv G S w) (o : Obj) : Inv G S (w.alloc o) := by
 have hold : ∀ b, b < w.heap.size → (w.alloc o).heap[b]? = w.heap[b]? := fun b hb => Below.heap_alloc w _ b hb
 refine ⟨fun b B cs h1 h2 => ?_, fun t n s0 B s c h1 h2 => ?_, fun b o u hf => ?_, fun b B h1 => ?_, hI.dtb, hI.injA, hI.injT, hI.sep⟩
 ·rcases hI.box b B cs h1 h2 with h0 | ⟨us, T, k1, k2⟩
  ·exact .inl h0
  ·exact .inr ⟨us, T, by rw [hold B (hI.dal b B h1).2]; exact k1, k2⟩
 ·obtain ⟨k1, ⟨us, T, k2, k3⟩, k4⟩ := hI.tok t n s0 B s c h1 h2
  exact ⟨k1, ⟨us, T, by rw [hold B (hI.toklt h1 h2)]; exact k2, k3⟩, k4⟩
 ·rw [cell_of_heap (hold b (hI.fzlt hf))]; exact hI.fz b o u hf
 ·have := hI.dal b B h1
  exact ⟨this.1, by simp; omega⟩
theorem Gro.allocO (G : Gh) (S : St) (w : World) (o : Obj) : Gro G S w G S (w.alloc o) :=
 ⟨.refl G, rfl, rfl, rfl, by simp, fun B hB _ => ⟨Below.heap_alloc w _ B hB, fun _ => rfl⟩, fun _ h => .inl h, oth_alloc w o⟩
end Go.Proofs.Ytfhapfljomgmnaa
end
section
namespace Go.Proofs.Ytfhapfljomgmnaa
open Go.RowKit

theorem compOp_call {P : Program} {ty : TypeId} {op : Op} {f : AOpd} {args : List AOpd} (h : compOp P ty op = some (.call f args)) : ∃ sf sargs ts, op = .call { callee := .value sf, args := sargs, argTypes := ts } ∧ compOpd sf = some f ∧ compOpds sargs = some args := by
 unfold compOp at h
 split at h
 all_goals first
  | (rename_i sf sargs ts
     simp only [Option.bind_eq_bind, Option.bind_eq_some_iff, Option.pure_def, Option.some.injEq, AOp.call.injEq] at h
     obtain ⟨f', hf, as', has, rfl, rfl⟩ := h
     exact ⟨_, _, _, rfl, hf, has⟩)
  | (exfalso; cases h; done)
  | (exfalso; simp [Option.bind_eq_some_iff] at h; done)
  | skip
 all_goals (exfalso; revert h)
 all_goals (try (simp [Option.bind_eq_some_iff]; done))
 all_goals (repeat (first | (intro h; cases h; done) | split))
 all_goals (try (simp [Option.bind_eq_some_iff]; done))
 all_goals (try (repeat (first | (intro h; cases h; done) | split)))
 all_goals (try (intro h; simp [Option.bind_eq_some_iff] at h; done))
 all_goals (intro h; simp only [Option.bind_eq_bind, Option.bind_eq_some_iff, Option.pure_def, Option.map_eq_some_iff, Option.some.injEq, reduceCtorEq, and_false, exists_false] at h)
 all_goals (repeat' (first | (cases h; done) | (obtain ⟨_, _, h⟩ := h; try simp only [Option.bind_eq_bind, Option.bind_eq_some_iff, Option.pure_def, Option.map_eq_some_iff, Option.some.injEq, reduceCtorEq, and_false, exists_false] at h) | (simp [Option.bind_eq_some_iff] at h; done) | split at h))

theorem VR.inv_yld {G : Gh} {l t : Nat} {u : Value} (h : VR G (.yld l t) u) : u = .func (.yield l) #[] #[] := by cases h; rfl
theorem yield_run {P : Program} {G : Gh} {w : World} {o : Oper} {ρ : Operand → Value} {a : AOpd → AV} {sf : Operand} {sargs : Array Operand} {ts : Array TypeId} {f : AOpd} {args : List AOpd} {l t : Nat} {r : Loop} (ho : o.op = .call { callee := .value sf, args := sargs, argTypes := ts }) (hf : compOpd sf = some f) (ha : compOpds sargs = some args) (h : OpdOk G a ρ) (hv : a f = .yld l t) (hl : w.heap[l]? = some (.loop r)) (hs : r.params.size = args.length) :
  ∃ us : Array Value, (execOp ρ o).run P w = .ok (.round l r.fn ((r.params.zip us).foldl (fun tmps (t, a) => tmps.setIfInBounds t a) r.tmps) r.assign r.body) w ∧ us.size = args.length ∧ ∀ (i : Nat) x u, (args.map a)[i]? = some x → us[i]? = some u → VR G x u := by
 have h1 := h sf f hf
 rw [hv] at h1
 have hu := h1.inv_yld
 have hall := VL.opds ha h
 have hsz : (sargs.map ρ).size = args.length := by rw [hall.1, List.length_map]
 refine ⟨sargs.map ρ, ?_, hsz, hall.2⟩
 have hy := run_yield (P := P) (args := sargs.map ρ) hl (by rw [hsz, hs])
 simp only [execOp, ho, resolve, hu, Deferred.ofValue, invoke]
 simp [hy]

theorem zip_foldl (ps : Array Tmp) (us : Array Value) (t : Array Value) : (ps.zip us).foldl (fun tmps (t, a) => tmps.setIfInBounds t a) t = (ps.toList.zip us.toList).foldl (fun tmps (t, a) => tmps.setIfInBounds t a) t := by
 rw [← Array.foldl_toList, Array.toList_zip]

section rules
variable {c : Cx} {md : Md} {P : Program} {a : List AV} {S : St} {Q : AEx → List AV → St → Prop} {R : List AV → St → Prop}

theorem ExI.yield {L : Lp} {a0 : List AV} {ps : List Nat} {x0 y0 : ACode} (hL : LpOk P c L a0 ps x0 y0) {x : AOper} {l : List AOper} (f : AOpd) (args : List AOpd) (t : Nat) (xs : List AV) (hw : wantedA x.guard a = some true) (ho : x.op = .call f args) (hf : evd a f = .yld L.l t) (hxs : args.map (evd a) = xs) (hps : ps.length = xs.length) (hr : S.lv[L.t]? = some (0, 0)) (hn : c.n ≤ S.bx.length)
  (h : ∀ (ca cb : Cx), ca.n = S.bx.length → cb.n = S.bx.length → ca.m = S.lv.length → cb.m = S.lv.length → (∀ L' a' ps' x' y', LpOk P c L' a' ps' x' y' → L'.l ≠ L.l → LpOk P ca L' a' ps' x' y' ∧ LpOk P cb L' a' ps' x' y') → Fact.bz L ∈ cb.fs →
    Ex ca (.round L.l (md.n - 1)) P x0 (setPs a0 ps xs) S fun z a1 S1 => z = .norm ∧ S1.lv[L.t]? = some (0, 0) ∧
     Ex cb (.round L.l (md.n - 1)) P y0 a1 S1 fun z a2 S2 => match z with
      | .norm => ExI c md P l (putA a x.dst (.bool true)) S2 R
      | .ret => ExI c md P l (putA a x.dst (.bool false)) ⟨S2.bx, S2.lv.set L.t (1, 0)⟩ R
      | .ex i => ExI c md P l (putA a x.dst (.bool false)) ⟨S2.bx, S2.lv.set L.t (i + 2, 0)⟩ R) : ExI c md P (x :: l) a S R := by
 intro E hE ops l0 Q hco hdef hq act w hA
 obtain ⟨o, l', rfl, hx, hl'⟩ := mapM_cons_inv hco
 obtain ⟨h1, h2, _⟩ := compOper_ok hx
 obtain ⟨G, hI, hR, hg, hk, hd⟩ := hA
 have hgr := hg
 subst hE
 obtain ⟨f1, f2, hfs, hfree⟩ := hL.fs
 obtain ⟨G0, n0, m0, hle0, htz, htv⟩ := hL.rel
 have hmem : Fact.lp L ∈ E.c.fs := by rw [hfs]; simp
 have hlp := hd.x _ hmem
 obtain ⟨hnone, k, hk1, hk2⟩ := hlp
 rw [hr] at hk1
 cases hk1
 have hlt : L.t < E.c.m := E.c.hw _ hmem
 have hlk : L.l < E.c.k := E.c.hk _ hmem
 have hab : E.w.heap.size ≤ L.l := E.hW _ hmem
 have hG0 := (hd.x _ hle0).1
 obtain ⟨sf, sargs, ts, hop, hsf, hsa⟩ := compOp_call (ho ▸ h1)
 have hpl : L.r.params.size = args.length := by
  rw [← Array.length_toList, hL.ps, hps, ← hxs, List.length_map]
 have hk2' : w.heap[L.l]? = some (.loop { L.r with state := .ready, pending := none }) := hk2
 obtain ⟨us, hrun, husz, husv⟩ := yield_run (P := P) (w := w) hop hsf hsa hR.opd hf hk2' hpl
 simp only [wpListIn]
 rw [if_pos (wantedA_ok hx hR hw)]
 refine ⟨fun g _ => md.fn g, ?_⟩
 rw [Oper.semAt_eq _ _ _ (hdef o (by simp)), hrun, Oper.uponIn_round]
 refine ⟨fun hdp => md.depth hdp, ?_⟩
 rw [hxs] at husv
 have husl : us.toList.length = xs.length := by rw [Array.length_toList, husz, ← hxs, List.length_map]
 -- the two contexts
 have hwf : ∀ g ∈ E.c.fs, g.wf S.bx.length S.lv.length := fun g hg' => (E.c.hw g hg').mono hn hd.m
 have hdomA : ∀ b B, G.al b = some B → b < S.bx.length := fun b B h => (hI.dal b B h).1
 have hdomT : ∀ t k v, G.tb t k = some v → t < S.lv.length := fun t k v h => by
  obtain ⟨m, s, h1, _⟩ := hI.dtb t k v h
  exact (List.getElem?_eq_some_iff.1 h1).1
 let ca : Cx := ⟨S.bx.length, S.lv.length, w.heap.size, .le G S.bx.length S.lv.length :: .df E.b w.heap.size E.d act.defers :: E.c.fs, fun g hg' => (by
  rcases List.mem_cons.1 hg' with rfl | hg'
  ·exact ⟨Nat.le_refl _, Nat.le_refl _⟩
  rcases List.mem_cons.1 hg' with rfl | hg'
  ·trivial
  ·exact hwf g hg'), fun g hg' => (by
  rcases List.mem_cons.1 hg' with rfl | hg'
  ·trivial
  rcases List.mem_cons.1 hg' with rfl | hg'
  ·exact Nat.le_refl _
  ·exact (E.c.hk g hg').mono hd.k)⟩
 let cb : Cx := ⟨S.bx.length, S.lv.length, w.heap.size, .le G S.bx.length S.lv.length :: .df E.b w.heap.size E.d act.defers :: (f1 ++ .bz L :: f2), fun g hg' => (by
  rcases List.mem_cons.1 hg' with rfl | hg'
  ·exact ⟨Nat.le_refl _, Nat.le_refl _⟩
  rcases List.mem_cons.1 hg' with rfl | hg'
  ·trivial
  ·rcases List.mem_append.1 hg' with hg' | hg'
   ·exact hwf g (by rw [hfs]; simp [hg'])
   ·rcases List.mem_cons.1 hg' with rfl | hg'
    ·exact (show L.t < S.lv.length from hwf (.lp L) hmem)
    ·exact hwf g (by rw [hfs]; simp [hg'])), fun g hg' => (by
  rcases List.mem_cons.1 hg' with rfl | hg'
  ·trivial
  rcases List.mem_cons.1 hg' with rfl | hg'
  ·exact Nat.le_refl _
  ·rcases List.mem_append.1 hg' with hg' | hg'
   ·exact (E.c.hk g (by rw [hfs]; simp [hg'])).mono hd.k
   ·rcases List.mem_cons.1 hg' with rfl | hg'
    ·exact Nat.lt_of_lt_of_le hlk hd.k
    ·exact (E.c.hk g (by rw [hfs]; simp [hg'])).mono hd.k)⟩
 have hup : ∀ L' a' ps' x' y', LpOk P E.c L' a' ps' x' y' → L'.l ≠ L.l → LpOk P ca L' a' ps' x' y' ∧ LpOk P cb L' a' ps' x' y' := by
  intro L' a' ps' x' y' hL' hne
  obtain ⟨g1, g2, hgs, hgf⟩ := hL'.fs
  obtain ⟨G', n', m', hle', h3, h4⟩ := hL'.rel
  refine ⟨⟨⟨.le G S.bx.length S.lv.length :: .df E.b w.heap.size E.d act.defers :: g1, g2, by show _ :: _ :: E.c.fs = _; rw [hgs]; rfl, fun g hg' => ?_⟩, ⟨G', n', m', List.mem_cons_of_mem _ (List.mem_cons_of_mem _ hle'), h3, h4⟩, hL'.ps, hL'.x, hL'.y⟩, ⟨?_, ⟨G', n', m', ?_, h3, h4⟩, hL'.ps, hL'.x, hL'.y⟩⟩
  ·rcases List.mem_cons.1 hg' with rfl | hg'
   ·trivial
   rcases List.mem_cons.1 hg' with rfl | hg'
   ·trivial
   ·exact hgf g hg'
  ·-- L' among the others
   have hin : Fact.lp L' ∈ f1 ++ f2 := by
    have : Fact.lp L' ∈ E.c.fs := by rw [hgs]; simp
    rw [hfs] at this
    rcases List.mem_append.1 this with h | h
    ·exact List.mem_append_left _ h
    ·rcases List.mem_cons.1 h with h | h
     ·cases h; exact absurd rfl hne
     ·exact List.mem_append_right _ h
   have hfL := hfree _ hin
   have hothers : ∀ g ∈ f1 ++ .bz L :: f2, g ≠ .lp L' → g.free L'.l L'.t := by
    intro g hg' hne'
    have hgE : g = .bz L ∨ g ∈ E.c.fs := by
     rcases List.mem_append.1 hg' with h | h
     ·exact .inr (by rw [hfs]; simp [h])
     ·rcases List.mem_cons.1 h with h | h
      ·exact .inl h
      ·exact .inr (by rw [hfs]; simp [h])
    rcases hgE with rfl | hgE
    ·exact ⟨fun e => hfL.1 e.symm, fun e => hfL.2 e.symm⟩
    ·rw [hgs] at hgE
     rcases List.mem_append.1 hgE with h | h
     ·exact hgf g (List.mem_append_left _ h)
     ·rcases List.mem_cons.1 h with h | h
      ·exact absurd h hne'
      ·exact hgf g (List.mem_append_right _ h)
   -- it stands there once
   have honce : ∃ h1 h2, f1 ++ .bz L :: f2 = h1 ++ .lp L' :: h2 ∧ ∀ g ∈ h1 ++ h2, g ≠ .lp L' := by
    have hE1 : ∀ u v, f1 ++ .lp L :: f2 = u ++ v → True := fun _ _ _ => trivial
    have hg12 : ∀ g ∈ g1 ++ g2, g ≠ .lp L' := fun g hg' e => by
     have := hgf g hg'; rw [e] at this; exact this.1 rfl
    have heq : f1 ++ .lp L :: f2 = g1 ++ .lp L' :: g2 := by rw [← hfs, hgs]
    rcases List.append_eq_append_iff.1 heq with ⟨m, e1, e2⟩ | ⟨m, e1, e2⟩
    ·cases m with
     | nil =>
      simp at e2
      exact absurd (by rw [e2.1]) hne
     | cons q m =>
      simp only [List.cons_append, List.cons.injEq] at e2
      obtain ⟨rfl, e2⟩ := e2
      refine ⟨f1 ++ .bz L :: m, g2, by rw [e2]; simp, fun g hg' => ?_⟩
      simp only [List.mem_append, List.mem_cons] at hg'
      rcases hg' with (hg' | rfl | hg') | hg'
      ·exact hg12 g (by rw [e1]; simp [hg'])
      ·simp
      ·exact hg12 g (by rw [e1]; simp [hg'])
      ·exact hg12 g (by simp [hg'])
    ·cases m with
     | nil =>
      simp at e2
      exact absurd (by rw [← e2.1]) hne
     | cons q m =>
      simp only [List.cons_append, List.cons.injEq] at e2
      obtain ⟨rfl, e2⟩ := e2
      refine ⟨g1, m ++ .bz L :: f2, by rw [e1]; simp, fun g hg' => ?_⟩
      simp only [List.mem_append, List.mem_cons] at hg'
      rcases hg' with hg' | hg' | rfl | hg'
      ·exact hg12 g (by simp [hg'])
      ·exact hg12 g (by rw [e2]; simp [hg'])
      ·simp
      ·exact hg12 g (by rw [e2]; simp [hg'])
   obtain ⟨h1, h2, e1, e2⟩ := honce
   refine ⟨.le G S.bx.length S.lv.length :: .df E.b w.heap.size E.d act.defers :: h1, h2, by show _ :: _ :: (f1 ++ .bz L :: f2) = _; rw [e1]; rfl, fun g hg' => ?_⟩
   rcases List.mem_cons.1 hg' with rfl | hg'
   ·trivial
   rcases List.mem_cons.1 hg' with rfl | hg'
   ·trivial
   ·refine hothers g (by rw [e1]; rcases List.mem_append.1 hg' with h | h <;> simp [h]) (e2 g hg')
  ·rw [hfs] at hle'
   rcases List.mem_append.1 hle' with h | h
   ·exact List.mem_cons_of_mem _ (List.mem_cons_of_mem _ (List.mem_append_left _ h))
   ·rcases List.mem_cons.1 h with h | h
    ·cases h
    ·exact List.mem_cons_of_mem _ (List.mem_cons_of_mem _ (List.mem_append_right _ (List.mem_cons_of_mem _ h)))
 have hEx := h ca cb rfl rfl rfl rfl hup (by show _ ∈ _ :: _ :: (f1 ++ .bz L :: f2); simp)
 -- the assignments
 let Ea : Ent := ⟨E.G, E.S, E.w, [], E.inv, ca, hk.ll, E.tr, Nat.le_trans hk.bl (Nat.le_refl _), fun g hg' => (by
  rcases List.mem_cons.1 hg' with rfl | hg'
  ·trivial
  rcases List.mem_cons.1 hg' with rfl | hg'
  ·trivial
  ·exact E.hW g hg'), w.heap.size, hgr.size⟩
 let Eb : Ent := ⟨E.G, E.S, E.w, [], E.inv, cb, hk.ll, E.tr, Nat.le_trans hk.bl (Nat.le_refl _), fun g hg' => (by
  rcases List.mem_cons.1 hg' with rfl | hg'
  ·trivial
  rcases List.mem_cons.1 hg' with rfl | hg'
  ·trivial
  ·rcases List.mem_append.1 hg' with hg' | hg'
   ·exact E.hW g (by rw [hfs]; simp [hg'])
   ·rcases List.mem_cons.1 hg' with rfl | hg'
    ·exact hab
    ·exact E.hW g (by rw [hfs]; simp [hg'])), w.heap.size, hgr.size⟩
 obtain ⟨hps1, hps2⟩ := setPs_rel ps xs us.toList a0 L.r.tmps husl (fun i x u h1 h2 => husv i x u h1 (by simpa using h2)) htz (fun i z u h1 h2 => (htv i z u h1 h2).mono hG0)
 have hAa : At Ea (setPs a0 ps xs) S { tmps := (ps.zip us.toList).foldl (fun t (p, v) => t.setIfInBounds p v) L.r.tmps, defers := [] } w := by
  refine ⟨G, hI, ⟨hps1, hps2⟩, hg, hk, ⟨⟨[], rfl, .nil, fun _ h => (by cases h)⟩, fun g hg' => ?_, Nat.le_refl _, Nat.le_refl _, Nat.le_refl _⟩⟩
  rcases List.mem_cons.1 hg' with rfl | hg'
  ·exact ⟨.refl G, hdomA, hdomT⟩
  rcases List.mem_cons.1 hg' with rfl | hg'
  ·exact hd.d
  ·exact hd.x g hg'
 refine roundIn_of_wpIn (md.fn _) ?_
 have hz : (L.r.params.zip us).foldl (fun (t : Array Value) (p : Tmp × Value) => t.setIfInBounds p.1 p.2) L.r.tmps = (ps.zip us.toList).foldl (fun t p => t.setIfInBounds p.1 p.2) L.r.tmps := by
  rw [← hL.ps]; exact zip_foldl L.r.params us L.r.tmps
 have hfr : md.F.inRound L.l = Fence.wide.inRound L.l := by cases md <;> rfl
 rw [hfr]
 have hasg := hEx Ea rfl L.r.assign hL.x _ w hAa
 simp only [cwp] at hasg
 change Code.wpIn (Fence.wide.inRound L.l) (md.n - 1) P L.r.assign _ { tmps := (L.r.params.zip us).foldl (fun (t : Array Value) (p : Tmp × Value) => t.setIfInBounds p.1 p.2) L.r.tmps, defers := [] } w
 rw [hz]
 refine wpIn_mono hasg ?_
 rintro e act1 w1 ⟨z, a1, S1, rfl, ⟨rfl, hfl1, hbody⟩, G1, hI1, hR1, hg1, hk1', hd1⟩
 have hf1 : ∀ g ∈ ca.fs, g.ok G1 S1 w1 := hd1.x
 obtain ⟨hn1, k1, hk11, hk12⟩ := hf1 (.lp L) (List.mem_cons_of_mem _ (List.mem_cons_of_mem _ hmem))
 rw [hfl1] at hk11
 cases hk11
 have hk12 : w1.heap[L.l]? = some (.loop { L.r with state := .ready, pending := none }) := hk12
 refine ⟨w1.putObj L.l L.busy, run_beginRound hk12 rfl, ?_⟩
 have hlt1 : L.l < w1.heap.size := (Array.getElem?_eq_some_iff.1 hk12).1
 have hAb : At Eb a1 S1 act1 (w1.putObj L.l L.busy) := by
  refine ⟨G1, hI1.putObj _ hk12 rfl, hR1, hg1.putObj _ hab, hk1', ⟨?_, fun g hg' => ?_, hd1.m, ?_, ?_⟩⟩
  ·refine DefOk.mono (Fact.other (f := .df w.heap.size w1.heap.size [] act1.defers) (S := S1) (G := G1) L.busy hd1.d hk12 trivial) ?_
   simp [World.putObj]
  ·rcases List.mem_cons.1 hg' with rfl | hg'
   ·exact hf1 _ (List.mem_cons_self ..)
   rcases List.mem_cons.1 hg' with rfl | hg'
   ·exact Fact.other L.busy (hf1 _ (List.mem_cons_of_mem _ (List.mem_cons_self ..))) hk12 trivial
   have hoth : ∀ g ∈ f1 ++ f2, g.ok G1 S1 (w1.putObj L.l L.busy) := fun g hg' => by
    have hgE : g ∈ E.c.fs := by
     rw [hfs]
     rcases List.mem_append.1 hg' with h | h <;> simp [h]
    refine Fact.other L.busy (hf1 g (List.mem_cons_of_mem _ (List.mem_cons_of_mem _ hgE))) hk12 ?_
    have := hfree g hg'
    cases g <;> first | trivial | exact this.1
   rcases List.mem_append.1 hg' with hg' | hg'
   ·exact hoth g (List.mem_append_left _ hg')
   ·rcases List.mem_cons.1 hg' with rfl | hg'
    ·exact ⟨hn1, hfl1, World.putObj_heap_same hlt1⟩
    ·exact hoth g (List.mem_append_right _ hg')
  ·show w.heap.size ≤ _
   have := hd1.k
   simp only [World.putObj, Array.size_setIfInBounds]
   exact this
  ·have := hd1.b
   simp only [World.putObj, Array.size_setIfInBounds]
   exact this
 have hbod := hbody Eb rfl L.r.body hL.y act1 _ hAb
 simp only [cwp] at hbod
 refine wpIn_mono hbod ?_
 rintro e act2 w3 ⟨z, a2, S2, rfl, hz, G2, hI2, hR2, hg2, hk2', hd2⟩
 have hf2 : ∀ g ∈ cb.fs, g.ok G2 S2 w3 := hd2.x
 obtain ⟨hn2, hfl2, hbz⟩ := hf2 (.bz L) (by show _ ∈ _ :: _ :: (f1 ++ .bz L :: f2); simp)
 have hle2 : G.le G2 := (hf2 _ (List.mem_cons_self ..)).1
 have hdf2 : DefOk E.b w.heap.size E.d act.defers w3 := hf2 _ (List.mem_cons_of_mem _ (List.mem_cons_self ..))
 have hlt3 : L.l < w3.heap.size := (Array.getElem?_eq_some_iff.1 hbz).1
 have htl : L.t < S2.lv.length := (List.getElem?_eq_some_iff.1 hfl2).1
 have fin : ∀ (k : Nat) (b : Bool), At E (putA a x.dst (.bool b)) ⟨S2.bx, S2.lv.set L.t (k, 0)⟩ (act.put o.dst (.bool b)) (w3.putObj L.l (L.obj k)) := by
  intro k b
  refine ⟨G2, (hI2.putObj _ hbz rfl).flag _ hn2, h2 ▸ (hR.mono hle2).put x.dst (.bool b), (hg2.putObj _ hab).flag _ hn2, ⟨hk2'.bl, by simpa using hk2'.ll, hk2'.al, hk2'.tb, fun t ht h0 => (E.tbN ht h0).elim⟩, ⟨?_, fun g hg' => ?_, ?_, ?_, ?_⟩⟩
  ·have hd' : DefOk E.b w.heap.size E.d act.defers (w3.putObj L.l (L.obj k)) := Fact.other (f := .df E.b w.heap.size E.d act.defers) (S := S2) (G := G2) (L.obj k) hdf2 hbz trivial
   have hsz : w.heap.size ≤ (w3.putObj L.l (L.obj k)).heap.size := by
    have := hd2.b
    simp only [World.putObj, Array.size_setIfInBounds]
    exact this
   cases o.dst <;> exact hd'.mono hsz
  ·have hoth : ∀ g ∈ f1 ++ f2, g.ok G2 ⟨S2.bx, S2.lv.set L.t (k, 0)⟩ (w3.putObj L.l (L.obj k)) := fun g hg' => by
    have hin : g ∈ cb.fs := by
     show g ∈ _ :: _ :: (f1 ++ .bz L :: f2)
     rcases List.mem_append.1 hg' with h | h <;> simp [h]
    have hfr := hfree g hg'
    refine Fact.flag _ (Fact.other (L.obj k) (hf2 g hin) hbz ?_) ?_
    ·cases g <;> first | trivial | exact hfr.1
    ·cases g <;> first | trivial | exact hfr.2
   rw [hfs] at hg'
   rcases List.mem_append.1 hg' with hg' | hg'
   ·exact hoth g (List.mem_append_left _ hg')
   ·rcases List.mem_cons.1 hg' with rfl | hg'
    ·exact ⟨hn2, k, List.getElem?_set_self htl, World.putObj_heap_same hlt3⟩
    ·exact hoth g (List.mem_append_right _ hg')
  ·show E.c.m ≤ (S2.lv.set L.t (k, 0)).length
   rw [List.length_set]
   exact Nat.le_trans hd.m hd2.m
  ·have := hd2.k
   simp only [World.putObj, Array.size_setIfInBounds]
   exact Nat.le_trans hd.k this
  ·have := hd2.b
   simp only [World.putObj, Array.size_setIfInBounds]
   exact Nat.le_trans hd.b this
 have hset0 : S2.lv.set L.t (0, 0) = S2.lv := by
  apply List.ext_getElem?
  intro i
  rw [List.getElem?_set]
  split
  ·rename_i hti
   subst hti
   first | rw [if_pos htl, hfl2] | rw [hfl2]
  ·rfl
 have hdef' : ∀ o ∈ l', ∀ d, o.op ≠ .defer d := fun o ho => hdef o (List.mem_cons_of_mem _ ho)
 cases z with
 | norm =>
  refine ⟨.bool true, w3.putObj L.l (L.obj 0), run_endRound (r := { L.r with state := .busy, pending := none }) none hbz, ?_⟩
  have hA3 := fin 0 true
  rw [hset0] at hA3
  exact hz E rfl ops l' Q hl' hdef' hq _ _ hA3
 | ret =>
  refine ⟨.bool false, w3.putObj L.l (L.obj 1), run_endRound (r := { L.r with state := .busy, pending := none }) (some .ret) hbz, ?_⟩
  exact hz E rfl ops l' Q hl' hdef' hq _ _ (fin 1 false)
 | ex i =>
  refine ⟨.bool false, w3.putObj L.l (L.obj (i + 2)), run_endRound (r := { L.r with state := .busy, pending := none }) (some (.exit i)) hbz, ?_⟩
  exact hz E rfl ops l' Q hl' hdef' hq _ _ (fin (i + 2) false)
end rules
end Go.Proofs.Ytfhapfljomgmnaa
end
section
namespace Go.Proofs.Ytfhapfljomgmnaa
open Go.RowKit

theorem compFn_inv {P : Program} {f : FuncId} {F : AFn} (hF : compFn P f = some F) : ∃ fn c, P.funcs[f]? = some fn ∧ fn.body = some c ∧ fn.results.toList.mapM (compRes P) = some F.res ∧ compCode P c = some F.code ∧ F.ntmps = fn.ntmps ∧ ∀ us w, (callFunc f us).run P w = .ok (.enter f us) w := by
 unfold compFn at hF
 split at hF
 ·rename_i fn hf
  split at hF
  ·rename_i c rs hb hrs
   split at hF
   ·rename_i ac hac
    split at hF
    ·cases hF
    ·rename_i hname
     cases hF
     refine ⟨fn, c, hf, hb, hrs, hac, rfl, fun us w => ?_⟩
     simp only [callFunc, program, Sem.run, hf, Sem.run_bind, Result.andThen_ok, hname, hb]
     rfl
   ·cases hF
  ·cases hF
 ·cases hF
theorem start_rel {G : Gh} {F : AFn} {xs : List AV} {us : Array Value} {n : Nat} (hn : F.ntmps = n) (hvs : VRs G xs us) : Rel G (start F xs) { tmps := us ++ Array.replicate (n - us.size) undef, defers := [] } := by
 subst hn
 refine ⟨by simp [start, hvs.1], fun i y u hy hu => ?_⟩
 simp only [start] at hy
 simp only at hu
 rw [List.getElem?_append] at hy
 rw [Array.getElem?_append, hvs.1] at hu
 split at hy
 ·rename_i hlt
  rw [if_pos hlt] at hu
  exact hvs.2 i y u hy hu
 ·rename_i hlt
  rw [if_neg hlt] at hu
  have e1 := List.eq_of_mem_replicate (List.mem_of_getElem? hy)
  have e2 : u ∈ (Array.replicate (F.ntmps - xs.length) undef) := Array.mem_of_getElem? hu
  have e3 := (Array.mem_replicate.1 e2).2
  rw [e1, e3]
  exact .undef G

def exitOf : Nat → AEx
 | 0 => .norm
 | 1 => .ret
 | i + 2 => .ex i
theorem jump_wpIn {F : Fence} {n : Nat} {P : Program} {Q : Exit → Act → World → Prop} {a : Act} {w : World} (k : Nat) (h : Q (exitOf (k + 1)).out a w) : (jumpOf k).wpIn F n P Q a w := by
 cases k with
 | zero => exact wpIn_ret h
 | succ i => exact wpIn_exit h

section rules
variable {c : Cx} {md : Md} {P : Program} {a : List AV} {S : St} {Q : AEx → List AV → St → Prop} {R : List AV → St → Prop}

theorem Ex.rangeF {g : AOpd} {ps : List Nat} {x y : ACode} (f : FuncId) (caps : List AV) (F : AFn) (hg0 : evd a g = .fn f [] caps) (hF : compFn P f = some F) (hres : F.res = []) (hn : c.n ≤ S.bx.length) (hmd : match md with | .plain => True | .round l _ => ∃ L, Fact.bz L ∈ c.fs ∧ L.l = l)
  (h : ∀ (c1 : Cx) (L : Lp), c1.n = S.bx.length → c1.m = S.lv.length + 1 → L.t = S.lv.length → LpOk P c1 L a ps x y → (∀ L' a' ps' x' y', LpOk P c L' a' ps' x' y' → L'.l ≠ L.l ∧ LpOk P c1 L' a' ps' x' y') →
    Ex c1 .plain P F.code (start F (.yld L.l S.lv.length :: caps)) ⟨S.bx, S.lv ++ [(0, 0)]⟩ fun z a' S' => (z = .norm ∨ z = .ret) ∧ ∃ k, S'.lv[S.lv.length]? = some (k, 0) ∧ Q (exitOf k) a S') : Ex c md P (.rangeF g ps x y) a S Q := by
 intro E hE code hco act w hA
 subst hE
 obtain ⟨g', ps', x', y', rfl, hg', hps, hx, hy⟩ := compCode_rangeF hco
 obtain ⟨G, hI, hR, hgr, hk, hd⟩ := hA
 have hv := hR.opd g' g hg'
 rw [hg0] at hv
 obtain ⟨vs, us, hval, hvp, hvc⟩ := hv.inv_fn
 have hvs0 : vs = #[] := Array.eq_empty_of_size_eq_zero hvp.1
 subst hvs0
 obtain ⟨fn, c1, hf, hb, hrs, hac, hnt, hen⟩ := compFn_inv hF
 refine cwp_of_in (wpIn_rangeFunc ?_)
 intro fn0 hfn0
 obtain ⟨l, mk, dD, W1, hent, hrec, hwl, hI1, hg1, hmk⟩ : ∃ (l : Nat) (mk : List Nat) (dD : Nat) (W1 : World), (Instr.enterLoop fn0 act.tmps ps' x' y' md.F.round).run P w = .ok (l, mk.map markOf) W1 ∧ W1.heap[l]? = some (.loop { state := .ready, pending := none, fn := fn0, tmps := act.tmps, params := ps', assign := x', body := y', defers := dD }) ∧ w.heap.size ≤ l ∧ Inv G S W1 ∧ Gro G S w G S W1 ∧ (mk.Nodup ∧ ∀ D ∈ mk, w.heap.size ≤ D ∧ W1.heap[D]? = some (.deferred (some []))) := by
  cases md with
  | plain =>
   refine ⟨w.heap.size + 1, [w.heap.size], w.heap.size, _, run_enterLoop_outer fn0 act.tmps ps' x' y', ?_, by omega, (hI.allocO _).allocO _, (Gro.allocO G S w _).trans (Gro.allocO G S _ _), by simp, fun D hD => ?_⟩
   ·have := World.alloc_heap_new (w.alloc (.deferred (some []))) (.loop { state := .ready, pending := none, fn := fn0, tmps := act.tmps, params := ps', assign := x', body := y', defers := w.heap.size })
    rwa [World.size_alloc] at this
   ·have hD : D = w.heap.size := by simpa using hD
    subst hD
    exact ⟨Nat.le_refl _, (Below.heap_alloc _ _ _ (by simp)).trans (World.alloc_heap_new w _)⟩
  | round l0 n0 =>
   obtain ⟨L0, hL0, rfl⟩ := hmd
   obtain ⟨_, _, hbz⟩ := hd.x _ hL0
   exact ⟨w.heap.size, [], _, _, run_enterLoop_inner hbz fn0 act.tmps ps' x' y', World.alloc_heap_new w _, Nat.le_refl _, hI.allocO _, Gro.allocO G S w _, .nil, fun D hD => by cases hD⟩
 obtain ⟨r, hr⟩ : ∃ r : Loop, r = { state := .ready, pending := none, fn := fn0, tmps := act.tmps, params := ps', assign := x', body := y', defers := dD } := ⟨_, rfl⟩
 rw [← hr] at hrec
 have hlW : l < W1.heap.size := (Array.getElem?_eq_some_iff.1 hrec).1
 have hrt : r.tmps = act.tmps := by rw [hr]
 let L : Lp := ⟨l, S.lv.length, r⟩
 have hobj0 : L.obj 0 = .loop r := by rw [hr]; show Obj.loop _ = _; simp only [L, hr]
 have hdW : DefOk E.b W1.heap.size E.d (mk.map markOf ++ act.defers) W1 := by
  obtain ⟨Ds, h1, h2, h3⟩ := (hd.d.oth hg1.oth)
  refine ⟨mk ++ Ds, by rw [h1, List.map_append, List.append_assoc], List.nodup_append.2 ⟨hmk.1, h2, fun D hD D' hD' e => ?_⟩, fun D hD => ?_⟩
  ·subst e
   have := (hmk.2 D hD).1
   have := (h3 D hD').1.2
   omega
  ·rcases List.mem_append.1 hD with hD | hD
   ·exact ⟨⟨Nat.le_trans hd.b (hmk.2 D hD).1, (Array.getElem?_eq_some_iff.1 (hmk.2 D hD).2).1⟩, (hmk.2 D hD).2⟩
   ·exact ⟨⟨(h3 D hD).1.1, Nat.lt_of_lt_of_le (h3 D hD).1.2 hg1.size⟩, (h3 D hD).2⟩
 have hbel : ∀ f' ∈ E.c.fs, f'.below l := fun f' hf' => (E.c.hk f' hf').mono (Nat.le_trans hd.k hwl)
 let cc : Cx := ⟨S.bx.length, S.lv.length + 1, W1.heap.size, .le G S.bx.length S.lv.length :: .df E.b W1.heap.size E.d (mk.map markOf ++ act.defers) :: .lp L :: E.c.fs, fun f' hf' => (by
  rcases List.mem_cons.1 hf' with rfl | hf'
  ·exact ⟨Nat.le_refl _, Nat.le_succ _⟩
  rcases List.mem_cons.1 hf' with rfl | hf'
  ·trivial
  rcases List.mem_cons.1 hf' with rfl | hf'
  ·exact Nat.lt_succ_self _
  ·exact (E.c.hw f' hf').mono hn (Nat.le_succ_of_le hd.m)), fun f' hf' => (by
  rcases List.mem_cons.1 hf' with rfl | hf'
  ·trivial
  rcases List.mem_cons.1 hf' with rfl | hf'
  ·exact Nat.le_refl _
  rcases List.mem_cons.1 hf' with rfl | hf'
  ·exact hlW
  ·exact (hbel f' hf').mono (Nat.le_of_lt hlW))⟩
 have hfree : ∀ f' ∈ E.c.fs, f'.free l S.lv.length := fun f' hf' => by
  have h1 := hbel f' hf'
  have h2 := E.c.hw f' hf'
  have h3 := hd.m
  cases f' with
  | lp L' => exact ⟨Nat.ne_of_lt h1, Nat.ne_of_lt (Nat.lt_of_lt_of_le h2 h3)⟩
  | bz L' => exact ⟨Nat.ne_of_lt h1, Nat.ne_of_lt (Nat.lt_of_lt_of_le h2 h3)⟩
  | _ => trivial
 have hLok : LpOk P cc L a ps x y := by
  refine ⟨⟨[.le G S.bx.length S.lv.length, .df E.b W1.heap.size E.d (mk.map markOf ++ act.defers)], E.c.fs, rfl, fun f' hf' => ?_⟩, ⟨G, S.bx.length, S.lv.length, List.mem_cons_self .., by show r.tmps.size = _; rw [hrt]; exact hR.size, fun i z u hz hu => ?_⟩, by show r.params.toList = ps; rw [hr]; exact hps, by show compCode P r.assign = _; rw [hr]; exact hx, by show compCode P r.body = _; rw [hr]; exact hy⟩
  ·rcases List.mem_append.1 hf' with hf' | hf'
   ·simp only [List.mem_cons, List.not_mem_nil, or_false] at hf'
    rcases hf' with rfl | rfl <;> trivial
   ·exact hfree f' hf'
  ·have hu : r.tmps[i]? = some u := hu
   rw [hrt] at hu
   exact hR.slot i z u hz hu
 have hup : ∀ L' a' ps' x' y', LpOk P E.c L' a' ps' x' y' → L'.l ≠ L.l ∧ LpOk P cc L' a' ps' x' y' := by
  intro L' a' ps' x' y' hL'
  obtain ⟨g1, g2, hgs, hgf⟩ := hL'.fs
  obtain ⟨G', n', m', hle', h3, h4⟩ := hL'.rel
  have hin : Fact.lp L' ∈ E.c.fs := by rw [hgs]; simp
  have hfr := hfree _ hin
  refine ⟨hfr.1, ⟨.le G S.bx.length S.lv.length :: .df E.b W1.heap.size E.d (mk.map markOf ++ act.defers) :: .lp L :: g1, g2, by show _ :: _ :: _ :: E.c.fs = _; rw [hgs]; rfl, fun f' hf' => ?_⟩, ⟨G', n', m', List.mem_cons_of_mem _ (List.mem_cons_of_mem _ (List.mem_cons_of_mem _ hle')), h3, h4⟩, hL'.ps, hL'.x, hL'.y⟩
  rcases List.mem_cons.1 hf' with rfl | hf'
  ·trivial
  rcases List.mem_cons.1 hf' with rfl | hf'
  ·trivial
  rcases List.mem_cons.1 hf' with rfl | hf'
  ·exact ⟨fun e => hfr.1 e.symm, fun e => hfr.2 e.symm⟩
  ·exact hgf f' hf'
 have hEx := h cc L rfl rfl rfl hLok hup
 let E1 : Ent := ⟨E.G, E.S, E.w, [], E.inv, cc, by show _ ≤ S.lv.length + 1; exact Nat.le_succ_of_le hk.ll, E.tr, hk.bl, fun f' hf' => (by
  rcases List.mem_cons.1 hf' with rfl | hf'
  ·trivial
  rcases List.mem_cons.1 hf' with rfl | hf'
  ·trivial
  rcases List.mem_cons.1 hf' with rfl | hf'
  ·exact Nat.le_trans hgr.size hwl
  ·exact E.hW f' hf'), W1.heap.size, Nat.le_trans hgr.size hg1.size⟩
 obtain ⟨k1, k2, k3, k4⟩ := add_ahead hI1 [] [(0, 0)]
 rw [List.append_nil] at k1 k2
 have hvrs : VRs G (.yld l S.lv.length :: caps) (#[.func (.yield l) #[] #[]] ++ us) := by
  refine ⟨by simp [hvc.1]; omega, fun i z u hz hu => ?_⟩
  cases i with
  | zero =>
   rw [Array.getElem?_append_left (by simp)] at hu
   simp at hz hu
   subst hz; subst hu
   exact .yld _ _
  | succ i =>
   rw [Array.getElem?_append_right (by simp)] at hu
   exact hvc.2 i z u (by simpa using hz) (by simpa using hu)
 have hA1 : At E1 (start F (.yld l S.lv.length :: caps)) ⟨S.bx, S.lv ++ [(0, 0)]⟩ { tmps := (#[Value.func (.yield l) #[] #[]] ++ us) ++ Array.replicate (fn.ntmps - (#[Value.func (.yield l) #[] #[]] ++ us).size) undef, defers := [] } W1 := by
  refine ⟨G, k1, start_rel hnt hvrs, (hgr.trans hg1).trans k2, ⟨hk.bl, by simp; exact Nat.le_succ_of_le hk.ll, hk.al, hk.tb, fun t ht h0 => (E.tbN ht h0).elim⟩, ⟨⟨[], rfl, .nil, fun _ h => (by cases h)⟩, fun f' hf' => ?_, by show S.lv.length + 1 ≤ _; simp, Nat.le_refl _, Nat.le_refl _⟩⟩
  rcases List.mem_cons.1 hf' with rfl | hf'
  ·exact ⟨.refl G, fun b B h => (hI.dal b B h).1, fun t k v h => by
    obtain ⟨m, s, h1, _⟩ := hI.dtb t k v h
    exact (List.getElem?_eq_some_iff.1 h1).1⟩
  rcases List.mem_cons.1 hf' with rfl | hf'
  ·exact hdW
  rcases List.mem_cons.1 hf' with rfl | hf'
  ·exact ⟨fun n => k4 _ n (Nat.le_refl _), 0, (by show (S.lv ++ [(0, 0)])[S.lv.length]? = some (0, 0); simp), by rw [hobj0]; exact hrec⟩
  ·exact Fact.step (Fact.step (hd.x f' hf') hg1 (.refl G S)) k2 ⟨Nat.le_refl _, by simp, fun _ _ h => h, fun _ _ h => h, fun t ht _ => List.getElem?_append_left ht⟩
 refine ⟨l, mk.map markOf, W1, { target := .fn (.func f) us, args := #[.func (.yield l) #[] #[]] }, W1, f, #[.func (.yield l) #[] #[]] ++ us, W1, hent, ?_, fun f' _ => md.fn f', ?_, fun hdp => md.depth hdp, ?_⟩
 ·simp only [resolve, hval]
  simp [go_sem]
 ·simp [invoke, go_sem, hen]
 refine callsIn_md md (calls_of_marks hf hb (wp_mono (hEx E1 rfl c1 hac _ W1 hA1) ?_))
 rintro e act' w' ⟨z, a', S', rfl, ⟨hz, k, hk1, hq⟩, G', hI', hR', hg', hk', hd'⟩
 have hfs : ∀ f' ∈ cc.fs, f'.ok G' S' w' := hd'.x
 obtain ⟨Ds, e1, e2, e3⟩ := hd'.d
 have e1 : act'.defers = Ds.map markOf := by rw [e1]; exact List.append_nil _
 have hI2 := hI'.shut e2 fun D hD => (e3 D hD).2
 have hg2 := hg'.shut fun D hD => Nat.le_trans E1.hb (e3 D hD).1.1
 have hrs0 : evRes a' S' F.res = some (.tup []) := by rw [hres]; rfl
 obtain ⟨u, hu, _⟩ := res_ok hI2 hR' hrs hrs0
 refine ⟨by rcases hz with rfl | rfl <;> simp [AEx.out], Ds, e1, e2, fun D hD => (e3 D hD).2, u, hu, ?_⟩
 -- the loop's end
 obtain ⟨hn3, k', hk2, hk3⟩ := hfs (.lp L) (by show _ ∈ _ :: _ :: _ :: E.c.fs; simp)
 have hk2 : S'.lv[S.lv.length]? = some (k', 0) := hk2
 rw [hk1] at hk2
 cases hk2
 have hlD : l ∉ Ds := fun hm => by
  have h1 := (e3 l hm).2
  have h2 : w'.heap[l]? = some (L.obj k) := hk3
  rw [h1] at h2
  cases k <;> cases h2
 have hk3' : (shutW w' Ds).heap[l]? = some (L.obj k) := (shut_heap.2.2.2.2 l hlD).trans hk3
 have hle : G.le G' := (hfs _ (List.mem_cons_self ..)).1
 have hdf : DefOk E.b W1.heap.size E.d (mk.map markOf ++ act.defers) w' := hfs _ (List.mem_cons_of_mem _ (List.mem_cons_self ..))
 have hsz2 : (shutW w' Ds).heap.size = w'.heap.size := shut_heap.1
 have hW1w : W1.heap.size ≤ w'.heap.size := hd'.b
 have fin : ∀ (o' o : Obj) (r' : Loop), o = .loop r' → (shutW w' Ds).heap[l]? = some o → At E a S' { act with defers := mk.map markOf ++ act.defers } ((shutW w' Ds).putObj l o') := by
  rintro o' o r' rfl ho
  refine ⟨G', hI2.putObj _ ho rfl, ⟨hR.size, fun i y u h1 h2 => (hR.slot i y u h1 h2).mono hle⟩, hg2.putObj _ (Nat.le_trans hgr.size hwl), ⟨hk'.bl, hk'.ll, hk'.al, hk'.tb, fun t ht h0 => (E.tbN ht h0).elim⟩, ⟨?_, fun f' hf' => ?_, ?_, ?_, ?_⟩⟩
  ·obtain ⟨Dc, d1, d2, d3⟩ := hdf
   refine ⟨Dc, d1, d2, fun D hD => ⟨⟨(d3 D hD).1.1, ?_⟩, ?_⟩⟩
   ·have := (d3 D hD).1.2
    simp only [World.putObj, Array.size_setIfInBounds, hsz2]
    omega
   ·have h4 := (d3 D hD).2
    have hnD : D ∉ Ds := fun hm => by
     have := (d3 D hD).1.2
     have : W1.heap.size ≤ D := (e3 D hm).1.1
     omega
    have h5 : (shutW w' Ds).heap[D]? = some (.deferred (some [])) := (shut_heap.2.2.2.2 D hnD).trans h4
    rw [World.putObj_heap_other]
    ·exact h5
    ·rintro rfl; rw [ho] at h5; cases h5
  ·-- what the activation keeps
   have hin : f'.ok G' S' w' := hfs f' (by show _ ∈ _ :: _ :: _ :: E.c.fs; simp [hf'])
   have hfr := hfree f' hf'
   have hbl := hbel f' hf'
   refine Fact.other o' (l := l) (r := r') ?_ ho (by cases f' <;> first | trivial | exact hfr.1)
   -- its own marks are shut
   cases f' with
   | le G0 n m => exact hin
   | lp L' =>
    refine ⟨hin.1, hin.2.imp fun kk hkk => ⟨hkk.1, (shut_heap.2.2.2.2 _ fun hm => ?_).trans hkk.2⟩⟩
    have h1 := (e3 _ hm).2
    rw [hkk.2] at h1
    cases kk <;> cases h1
   | bz L' =>
    refine ⟨hin.1, hin.2.1, (shut_heap.2.2.2.2 _ fun hm => ?_).trans hin.2.2⟩
    have h1 := (e3 _ hm).2
    rw [hin.2.2] at h1
    cases h1
   | df n u' d l' =>
    obtain ⟨Dc, d1, d2, d3⟩ := hin
    refine ⟨Dc, d1, d2, fun D hD => ⟨(d3 D hD).1, ?_⟩⟩
    refine (shut_heap.2.2.2.2 D fun hm => ?_).trans (d3 D hD).2
    have h1 : W1.heap.size ≤ D := (e3 D hm).1.1
    have h2 := (d3 D hD).1.2
    have h3 : u' ≤ E.c.k := E.c.hk _ hf'
    have h4 := hd.k
    have h5 := hg1.size
    omega
  ·exact Nat.le_trans hd.m (Nat.le_trans (Nat.le_succ _) hd'.m)
  ·have := hd.k
   simp only [World.putObj, Array.size_setIfInBounds, hsz2]
   have := hg1.size
   omega
  ·have := hd.b
   simp only [World.putObj, Array.size_setIfInBounds, hsz2]
   have := hg1.size
   omega
 cases k with
 | zero =>
  refine ⟨none, _, run_endLoop (r := { L.r with state := .ready, pending := none }) hk3' (by simp), ?_⟩
  exact ⟨.norm, a, S', rfl, hq, fin _ _ _ rfl hk3'⟩
 | succ k =>
  refine ⟨some (jumpOf k), _, run_endLoop (r := { L.r with state := .done, pending := some (jumpOf k) }) hk3' (by simp), ?_⟩
  exact jump_wpIn k ⟨exitOf (k + 1), a, S', rfl, hq, fin _ _ _ rfl hk3'⟩
end rules
end Go.Proofs.Ytfhapfljomgmnaa
end
section
namespace Go.Proofs.Ytfhapfljomgmnaa
open Go.RowKit

theorem leC {c : Cx} {k n : Nat} (h : c.n = k) (hk : k ≤ n) : c.n ≤ n := h ▸ hk
theorem sig0 {c : Cx} {σ : List Nat} (k : Nat) (hk : c.m = k) (h : σ.take k = List.range k) : ∀ t, t < c.m → σ[t]? = some t := fun t ht => by
 rw [hk] at ht
 have h1 : (σ.take k)[t]? = σ[t]? := List.getElem?_take_of_lt ht
 rw [← h1, h, List.getElem?_range ht]

section rules
variable {c : Cx} {md : Md} {P : Program} {a : List AV} {S : St} {Q : AEx → List AV → St → Prop} {R : List AV → St → Prop}

theorem ExI.op {X : Clr} (hX : ClrOk P X) {x : AOper} {xs : List AOper} {v : AV} {S1 : St} (hw : wantedA x.guard a = some true) (hv : evOp X x.op a S = some (v, S1)) (h : ExI c md P xs (putA a x.dst v) S1 R) : ExI c md P (x :: xs) a S R :=
 ExI.pre (xs := [x]) (ys := xs) (ExO.op hX hw hv (ExO.nil h))
theorem ExI.skip {x : AOper} {xs : List AOper} (hw : wantedA x.guard a = some false) (h : ExI c md P xs (putA a x.dst (.tup [])) S R) : ExI c md P (x :: xs) a S R :=
 ExI.pre (xs := [x]) (ys := xs) (ExO.skip hw (ExO.nil h))
theorem ExI.forget {a2 : List AV} {S2 : St} {xs : List AOper} (hf : Forgets c a S a2 S2) (h : ExI c md P xs a2 S2 R) : ExI c md P xs a S R := fun E hE ops l Q hl hd hq act w hA => h E hE ops l Q hl hd hq act w (hf E hE act w hA)
theorem evHI_ok {hs : List (Nat × Hint)} : ∀ (k i : Nat) {l : List AOper} {a a2 : List AV} {S S2 : St} {Fs : List Prop}, evH hs i k l a S = some (Fs, a2, S2) → AllP Fs → ExI c md P (l.drop k) a2 S2 R → ExI c md P l a S R
 | 0, i, l, a, a2, S, S2, Fs, h, _, hx => by
  cases l <;> (simp only [evH] at h; cases h; exact hx)
 | k + 1, i, [], a, a2, S, S2, Fs, h, _, hx => by simp [evH] at h
 | k + 1, i, x :: l, a, a2, S, S2, Fs, h, hF, hx => by
  simp only [evH] at h
  split at h
  ·rename_i hw
   split at h
   ·rename_i F v S1 hd
    split at h
    ·rename_i Fs1 a3 S3 hr
     cases h
     refine ExI.op (noClr_ok P) hw (doH_ok hd ?_) (evHI_ok k (i + 1) hr ?_ hx)
     ·cases F with
      | none => trivial
      | some F => exact hF.1
     ·cases F with
      | none => exact hF
      | some F => exact hF.2
    ·cases h
   ·cases h
  ·rename_i hw
   exact ExI.skip hw (evHI_ok k (i + 1) h hF hx)
  ·cases h
theorem runI {l : List AOper} (k : Nat) (hs : List (Nat × Hint)) (live : List Nat) (Fs : List Prop) (a2 : List AV) (S2 : St) (h : (evH hs 0 k l a S).map (fun p => (p.1, keepB 0 live p.2.1, p.2.2)) = some (Fs, a2, S2)) (hF : AllP Fs) (hx : ExI c md P (l.drop k) a2 S2 R) : ExI c md P l a S R := by
 cases he : evH hs 0 k l a S with
 | none => rw [he] at h; cases h
 | some p =>
  obtain ⟨Fs1, a1, S1⟩ := p
  rw [he] at h
  simp only [Option.map_some, Option.some.injEq, Prod.mk.injEq] at h
  obtain ⟨rfl, rfl, rfl⟩ := h
  exact evHI_ok k 0 he hF (ExI.forget (forgetK live) hx)
theorem ExI.one {x : AOper} {xs : List AOper} (h : ExO c P [x] a S fun a1 S1 => ExI c md P xs a1 S1 R) : ExI c md P (x :: xs) a S R := ExI.pre (xs := [x]) (ys := xs) h

theorem ExO.inlC {x : AOper} {l : List AOper} (f : FuncId) (xs : List AV) (F : AFn) (hF : compFn P f = some F) (hn : c.n ≤ S.bx.length) (hw : wantedA x.guard a = some true) (hv : aop x.op (evd a) S = some (.call f xs))
  (h : ∀ c1 : Cx, c1.n = S.bx.length → c1.m = S.lv.length → (∀ L' a' ps' x' y', LpOk P c L' a' ps' x' y' → LpOk P c1 L' a' ps' x' y') →
    Ex c1 .plain P F.code (start F xs) S fun z a' S' => (z = .norm ∨ z = .ret) ∧ ∃ v, evRes a' S' F.res = some v ∧ ExO c P l (putA a x.dst v) S' R) : ExO c P (x :: l) a S R := by
 intro E hE ops l0 Q hco hq act w hA
 subst hE
 obtain ⟨o, l', rfl, hx, hl'⟩ := mapM_cons_inv hco
 obtain ⟨h1, h2, _⟩ := compOper_ok hx
 obtain ⟨G, hI, hR, hgr, hk, hd⟩ := hA
 obtain ⟨fn, cc1, hf, hb, hrs, hac, hnt, hen⟩ := compFn_inv hF
 simp only [wpList]
 rw [if_pos (wantedA_ok hx hR hw)]
 refine .inl ?_
 unfold Oper.wp
 have hs := step_ok h1 (fun _ => rfl) hR.opd hI hv
 obtain ⟨us, hrun, hvs⟩ := hs
 rw [hrun, hen]
 simp only [Oper.upon_enter]
 let cc : Cx := ⟨S.bx.length, S.lv.length, w.heap.size, .le G S.bx.length S.lv.length :: .df E.b w.heap.size E.d act.defers :: E.c.fs, fun f' hf' => (by
  rcases List.mem_cons.1 hf' with rfl | hf'
  ·exact ⟨Nat.le_refl _, Nat.le_refl _⟩
  rcases List.mem_cons.1 hf' with rfl | hf'
  ·trivial
  ·exact (E.c.hw f' hf').mono hn hd.m), fun f' hf' => (by
  rcases List.mem_cons.1 hf' with rfl | hf'
  ·trivial
  rcases List.mem_cons.1 hf' with rfl | hf'
  ·exact Nat.le_refl _
  ·exact (E.c.hk f' hf').mono hd.k)⟩
 have hup : ∀ L' a' ps' x' y', LpOk P E.c L' a' ps' x' y' → LpOk P cc L' a' ps' x' y' := by
  intro L' a' ps' x' y' hL'
  obtain ⟨g1, g2, hgs, hgf⟩ := hL'.fs
  obtain ⟨G', n', m', hle', h3, h4⟩ := hL'.rel
  refine ⟨⟨.le G S.bx.length S.lv.length :: .df E.b w.heap.size E.d act.defers :: g1, g2, by show _ :: _ :: E.c.fs = _; rw [hgs]; rfl, fun f' hf' => ?_⟩, ⟨G', n', m', List.mem_cons_of_mem _ (List.mem_cons_of_mem _ hle'), h3, h4⟩, hL'.ps, hL'.x, hL'.y⟩
  rcases List.mem_cons.1 hf' with rfl | hf'
  ·trivial
  rcases List.mem_cons.1 hf' with rfl | hf'
  ·trivial
  ·exact hgf f' hf'
 have hEx := h cc rfl rfl hup
 let E1 : Ent := ⟨E.G, E.S, E.w, [], E.inv, cc, hk.ll, E.tr, hk.bl, fun f' hf' => (by
  rcases List.mem_cons.1 hf' with rfl | hf'
  ·trivial
  rcases List.mem_cons.1 hf' with rfl | hf'
  ·trivial
  ·exact E.hW f' hf'), w.heap.size, hgr.size⟩
 have hA1 : At E1 (start F xs) S { tmps := us ++ Array.replicate (fn.ntmps - us.size) undef, defers := [] } w := by
  refine ⟨G, hI, start_rel hnt hvs, hgr, hk, ⟨⟨[], rfl, .nil, fun _ h => (by cases h)⟩, fun f' hf' => ?_, Nat.le_refl _, Nat.le_refl _, Nat.le_refl _⟩⟩
  rcases List.mem_cons.1 hf' with rfl | hf'
  ·exact ⟨.refl G, fun b B h => (hI.dal b B h).1, fun t k v h => by
    obtain ⟨m, s, h1, _⟩ := hI.dtb t k v h
    exact (List.getElem?_eq_some_iff.1 h1).1⟩
  rcases List.mem_cons.1 hf' with rfl | hf'
  ·exact hd.d
  ·exact hd.x f' hf'
 refine calls_of_marks hf hb (wp_mono (hEx E1 rfl cc1 hac _ w hA1) ?_)
 rintro e act' w' ⟨z, a', S', rfl, ⟨hz, v, hres, hrest⟩, G', hI', hR', hg', hk', hd'⟩
 have hfs : ∀ f' ∈ cc.fs, f'.ok G' S' w' := hd'.x
 obtain ⟨Ds, e1, e2, e3⟩ := hd'.d
 have e1 : act'.defers = Ds.map markOf := by rw [e1]; exact List.append_nil _
 have hI2 := hI'.shut e2 fun D hD => (e3 D hD).2
 have hg2 := hg'.shut fun D hD => Nat.le_trans E1.hb (e3 D hD).1.1
 obtain ⟨u, hu, hvr⟩ := res_ok hI2 hR' hrs hres
 refine ⟨by rcases hz with rfl | rfl <;> simp [AEx.out], Ds, e1, e2, fun D hD => (e3 D hD).2, u, hu, ?_⟩
 have hle : G.le G' := (hfs _ (List.mem_cons_self ..)).1
 have hdf : DefOk E.b w.heap.size E.d act.defers w' := hfs _ (List.mem_cons_of_mem _ (List.mem_cons_self ..))
 have hsz2 : (shutW w' Ds).heap.size = w'.heap.size := shut_heap.1
 have hww : w.heap.size ≤ w'.heap.size := hd'.b
 refine hrest E rfl ops l' Q hl' hq _ _ ⟨G', hI2, h2 ▸ (hR.mono hle).put x.dst hvr, hg2, ⟨hk'.bl, hk'.ll, hk'.al, hk'.tb, fun t ht h0 => (E.tbN ht h0).elim⟩, ⟨?_, fun f' hf' => ?_, Nat.le_trans hd.m hd'.m, ?_, ?_⟩⟩
 ·have hd2 : DefOk E.b (shutW w' Ds).heap.size E.d act.defers (shutW w' Ds) := by
   obtain ⟨Dc, d1, d2, d3⟩ := hdf
   refine ⟨Dc, d1, d2, fun D hD => ⟨⟨(d3 D hD).1.1, ?_⟩, ?_⟩⟩
   ·have := (d3 D hD).1.2
    omega
   ·refine (shut_heap.2.2.2.2 D fun hm => ?_).trans (d3 D hD).2
    have := (d3 D hD).1.2
    have : w.heap.size ≤ D := (e3 D hm).1.1
    omega
  cases o.dst <;> exact hd2
 ·have hin : f'.ok G' S' w' := hfs f' (by show _ ∈ _ :: _ :: E.c.fs; simp [hf'])
  cases f' with
  | le G0 n m => exact hin
  | lp L' =>
   refine ⟨hin.1, hin.2.imp fun kk hkk => ⟨hkk.1, (shut_heap.2.2.2.2 _ fun hm => ?_).trans hkk.2⟩⟩
   have h1 := (e3 _ hm).2
   rw [hkk.2] at h1
   cases kk <;> cases h1
  | bz L' =>
   refine ⟨hin.1, hin.2.1, (shut_heap.2.2.2.2 _ fun hm => ?_).trans hin.2.2⟩
   have h1 := (e3 _ hm).2
   rw [hin.2.2] at h1
   cases h1
  | df n u' d l' =>
   obtain ⟨Dc, d1, d2, d3⟩ := hin
   refine ⟨Dc, d1, d2, fun D hD => ⟨(d3 D hD).1, ?_⟩⟩
   refine (shut_heap.2.2.2.2 D fun hm => ?_).trans (d3 D hD).2
   have h1 : w.heap.size ≤ D := (e3 D hm).1.1
   have h2 := (d3 D hD).1.2
   have h3 : u' ≤ E.c.k := E.c.hk _ hf'
   have h4 := hd.k
   omega
 ·rw [hsz2]; exact Nat.le_trans hd.k hww
 ·rw [hsz2]; exact Nat.le_trans hd.b hww
theorem ExI.yieldT {L : Lp} {a0 : List AV} {ps : List Nat} {x0 y0 : ACode} (t0 : Nat) (ht : L.t = t0) (hL : LpOk P c L a0 ps x0 y0) {x : AOper} {l : List AOper} {f : AOpd} {args : List AOpd} {t : Nat} (xs : List AV) (hw : wantedA x.guard a = some true) (ho : x.op = .call f args) (hf : evd a f = .yld L.l t) (hxs : args.map (evd a) = xs) (hps : ps.length = xs.length) (hr : S.lv[t0]? = some (0, 0)) (hn : c.n ≤ S.bx.length)
  (h : ∀ (ca cb : Cx), ca.n = S.bx.length → cb.n = S.bx.length → ca.m = S.lv.length → cb.m = S.lv.length → (∀ L' a' ps' x' y', LpOk P c L' a' ps' x' y' → L'.l ≠ L.l → LpOk P ca L' a' ps' x' y' ∧ LpOk P cb L' a' ps' x' y') → Fact.bz L ∈ cb.fs →
    Ex ca (.round L.l (md.n - 1)) P x0 (setPs a0 ps xs) S fun z a1 S1 => z = .norm ∧ S1.lv[t0]? = some (0, 0) ∧
     Ex cb (.round L.l (md.n - 1)) P y0 a1 S1 fun z a2 S2 => match z with
      | .norm => ExI c md P l (putA a x.dst (.bool true)) S2 R
      | .ret => ExI c md P l (putA a x.dst (.bool false)) ⟨S2.bx, S2.lv.set t0 (1, 0)⟩ R
      | .ex i => ExI c md P l (putA a x.dst (.bool false)) ⟨S2.bx, S2.lv.set t0 (i + 2, 0)⟩ R) : ExI c md P (x :: l) a S R := by
 subst ht
 exact ExI.yield hL f args t xs hw ho hf hxs hps hr hn h
theorem Ex.rangeJ {g : AOpd} {ps : List Nat} {x y : ACode} (J : Nat → St → Prop) (f : FuncId) (caps : List AV) (F : AFn) (hg0 : evd a g = .fn f [] caps) (hF : compFn P f = some F) (hres : F.res = []) (hn : c.n ≤ S.bx.length) (hmd : match md with | .plain => True | .round l _ => ∃ L, Fact.bz L ∈ c.fs ∧ L.l = l) (a1 : List AV) (S1 : St) (he : ∀ l, start F (.yld l S.lv.length :: caps) = a1.set 0 (.yld l S.lv.length)) (hS : (⟨S.bx, S.lv ++ [(0, 0)]⟩ : St) = S1)
  (h : ∀ (c1 : Cx) (L : Lp), c1.n = S.bx.length → c1.m = S.lv.length + 1 → L.t = S.lv.length → LpOk P c1 L a ps x y → (∀ L' a' ps' x' y', LpOk P c L' a' ps' x' y' → L'.l ≠ L.l ∧ LpOk P c1 L' a' ps' x' y') →
    Ex c1 .plain P F.code (a1.set 0 (.yld L.l S.lv.length)) S1 fun z a' S' => ∃ a2 S2, Forgets c1 a' S' a2 S2 ∧ (z = .norm ∨ z = .ret) ∧ ∃ k, S2.lv[S.lv.length]? = some (k, 0) ∧ J k S2)
  (k : ∀ k S', J k S' → Q (exitOf k) a S') : Ex c md P (.rangeF g ps x y) a S Q := by
 refine Ex.rangeF f caps F hg0 hF hres hn hmd fun c1 L h1 h2 h3 h4 h5 => ?_
 rw [he, hS]
 refine Ex.postF ((h c1 L h1 h2 h3 h4 h5).mono ?_)
 rintro z a' S' ⟨a2, S2, hf, hz, j, hj, hJ⟩
 exact ⟨a2, S2, hf, hz, j, hj, k j S2 hJ⟩
theorem Ex.two {ca cb : Cx} {x y : ACode} {t0 : Nat} (J : AEx → St → Prop) (h : Ex ca md P x a S fun z a1 S1 => z = .norm ∧ S1.lv[t0]? = some (0, 0) ∧ Ex cb md P y a1 S1 fun z a2 S2 => ∃ a3 S3, Forgets cb a2 S2 a3 S3 ∧ J z S3) (k : ∀ z a2 S2, J z S2 → Q z a2 S2) : Ex ca md P x a S fun z a1 S1 => z = .norm ∧ S1.lv[t0]? = some (0, 0) ∧ Ex cb md P y a1 S1 Q := by
 refine h.mono ?_
 rintro z a1 S1 ⟨h1, h2, h3⟩
 refine ⟨h1, h2, Ex.postF (h3.mono ?_)⟩
 rintro z a2 S2 ⟨a3, S3, hf, hJ⟩
 exact ⟨a3, S3, hf, k z a3 S3 hJ⟩
theorem ExO.inlJ {x : AOper} {l : List AOper} (J : AV → St → Prop) (f : FuncId) (xs : List AV) (F : AFn) (hF : compFn P f = some F) (hn : c.n ≤ S.bx.length) (hw : wantedA x.guard a = some true) (hv : aop x.op (evd a) S = some (.call f xs)) (a1 : List AV) (he : start F xs = a1)
  (h : ∀ c1 : Cx, c1.n = S.bx.length → c1.m = S.lv.length → (∀ L' a' ps' x' y', LpOk P c L' a' ps' x' y' → LpOk P c1 L' a' ps' x' y') →
    Ex c1 .plain P F.code a1 S fun z a' S' => (z = .norm ∨ z = .ret) ∧ ∃ v, evRes a' S' F.res = some v ∧ J v S')
  (k : ∀ v S', J v S' → ExO c P l (putA a x.dst v) S' R) : ExO c P (x :: l) a S R := by
 subst he
 refine ExO.inlC f xs F hF hn hw hv fun c1 h1 h2 h3 => (h c1 h1 h2 h3).mono ?_
 rintro z a' S' ⟨h4, v, h5, h6⟩
 exact ⟨h4, v, h5, k v S' h6⟩
end rules
end Go.Proofs.Ytfhapfljomgmnaa
end
section
namespace Go.Proofs.Ytfhapfljomgmnaa
open Go.RowKit

structure TokT where
 f : FuncId
 gs : List AV
 pre : List AV
 els : List AV
 post : List AV
 n : Nat
 s : Nat
theorem mid_get {pre post : List AV} {a x : AV} {i : Nat} (h : (pre ++ a :: post)[i]? = some x) : (i = pre.length ∧ x = a) ∨ ((x ∈ pre ∨ x ∈ post) ∧ ∀ b, (pre ++ b :: post)[i]? = some x) := by
 by_cases hi : i < pre.length
 ·rw [List.getElem?_append_left hi] at h
  exact .inr ⟨.inl (List.mem_of_getElem? h), fun b => by rw [List.getElem?_append_left hi]; exact h⟩
 ·rw [List.getElem?_append_right (by omega)] at h
  obtain ⟨k, hk⟩ : ∃ k, i - pre.length = k := ⟨_, rfl⟩
  rw [hk] at h
  cases k with
  | zero =>
   simp only [List.getElem?_cons_zero, Option.some.injEq] at h
   exact .inl ⟨by omega, h.symm⟩
  | succ k =>
   rw [List.getElem?_cons_succ] at h
   exact .inr ⟨.inr (List.mem_of_getElem? h), fun b => by rw [List.getElem?_append_right (by omega), hk, List.getElem?_cons_succ]; exact h⟩
theorem mid_at (pre post : List AV) (a : AV) : (pre ++ a :: post)[pre.length]? = some a := by simp
end Go.Proofs.Ytfhapfljomgmnaa
end
section
namespace Go.Proofs.Ytfhapfljomgmnaa
open Go.RowKit

theorem own_ms {S : St} {G Gc : Gh} {w w' : World} {bx : List (List AV)} {lv : List (Nat × Nat)} {els : List AV} {t n s : Nat} {u : Value} (hI : Inv G S w) (hI' : Inv Gc ⟨bx, lv⟩ w') (hg : Gro (G.sub []) ⟨[], []⟩ w Gc ⟨bx, lv⟩ w')
  (hv : VR Gc (.sl els (some t)) u) (hlv : lv[t]? = some (n, s)) (hl : els.length = n) (hs : 0 < s) (hcl : ∀ e ∈ els, e.cells.length = s) (hsc : (flat els).all scal = true) :
  ∃ G2, G.le G2 ∧ VR G2 (.ms S.bx.length n s) u ∧ Inv G2 ⟨S.bx ++ [flat els], S.lv⟩ w' ∧ Gro G S w G2 ⟨S.bx ++ [flat els], S.lv⟩ w' ∧ Keep G S G2 ⟨S.bx ++ [flat els], S.lv⟩ := by
 by_cases hn : 0 < n
 ·exact own_box hI hI' hg hv hlv hl hn hs hcl hsc
 obtain rfl : n = 0 := by omega
 obtain rfl := List.eq_nil_of_length_eq_zero hl
 have hvr : ∀ G2 : Gh, VR G2 (.ms S.bx.length 0 s) u := by
  intro G2
  cases hv with
  | slt _ _ s' B c us hb hn' hs' hf hv => exact .ms0 _ _ _ _
  | slt0 _ hb => exact .ms0 _ _ _ _
 have hno : ∀ B, ¬ Owned (G.sub []) ⟨[], []⟩ B := by
  rintro B (⟨b, hb⟩ | ⟨t, n, s0, s, c, h1, _⟩)
  ·simp [Gh.sub] at hb
  ·simp at h1
 have hfr : ∀ k, k < w.heap.size → w'.heap[k]? = w.heap[k]? := fun k hk => (hg.fr k hk (hno k)).1
 have hfzlt : ∀ k o v, G.fz k o = some v → k < w.heap.size := by
  intro k o v h
  have := hI.fz k o v h
  cases hh : w.heap[k]? with
  | none => simp [World.cell?, hh] at this
  | some r => exact (Array.getElem?_eq_some_iff.1 hh).1
 refine ⟨G, .refl G, hvr G, ⟨?_, ?_, ?_, ?_, ?_, ?_, ?_, ?_⟩, ⟨.refl G, hg.os, hg.tape, hg.output, hg.size, ?_, ?_, hg.oth⟩, ⟨?_, Nat.le_refl _, ?_, ?_, fun _ _ _ => rfl⟩⟩
 ·intro b B' cs hb hcs
  have hlt' := (hI.dal b B' hb).1
  rw [List.getElem?_append_left hlt'] at hcs
  rcases hI.box b B' cs hb hcs with rfl | ⟨us', T', k1, k2, k3, k4⟩
  ·exact .inl rfl
  ·exact .inr ⟨us', T', by rw [hfr B' (hI.dal b B' hb).2]; exact k1, k2, k3, k4⟩
 ·intro t' k s0 B' s' c' h1 h2
  obtain ⟨k1, ⟨us', T', k2, k3⟩, k4, k5⟩ := hI.tok t' k s0 B' s' c' h1 h2
  exact ⟨k1, ⟨us', T', by rw [hfr B' (hI.toklt h1 h2)]; exact k2, k3⟩, k4, k5⟩
 ·intro k o v h
  rw [cell_of_heap (hfr k (hfzlt k o v h))]
  exact hI.fz k o v h
 ·intro b B' hb
  exact ⟨by have := (hI.dal b B' hb).1; simp; omega, Nat.lt_of_lt_of_le (hI.dal b B' hb).2 hg.size⟩
 ·intro t' k v h
  exact hI.dtb t' k v h
 ·exact hI.injA
 ·exact hI.injT
 ·exact hI.sep
 ·intro B' hB' _
  exact ⟨hfr B' hB', fun o => rfl⟩
 ·rintro B' (⟨b, hb⟩ | ⟨t', k, s0, s', c', h1, h2⟩)
  ·exact .inl (.inl ⟨b, hb⟩)
  ·exact .inl (.inr ⟨t', k, s0, s', c', h1, h2⟩)
 ·simp
 ·intro b hb h
  exact h
 ·intro t' _ h k
  exact h k
theorem ExO.callV {n0 : Cx} {P : Program} {a : List AV} {S : St} {R : List AV → St → Prop} {x : AOper} {l : List AOper} {f : FuncId} {xs ys : List AV} {K : AV → List (Nat × Nat) → Prop} (hw : wantedA x.guard a = some true) (hv : aop x.op (evd a) S = some (.call f xs)) (hbs : fpOf xs = []) (hr : xs.mapM (ren []) = some ys)
  (ho : DoesT P f ys K)
  (h : ∀ v lv, K v lv → (∃ pre els t n s post, v = .agg (pre ++ .sl els (some t) :: post) ∧ (∀ y ∈ pre, scal y = true) ∧ (∀ y ∈ post, scal y = true) ∧ lv[t]? = some (n, s) ∧ els.length = n ∧ 0 < s ∧ (∀ e ∈ els, e.cells.length = s) ∧ (flat els).all scal = true ∧ ExO n0 P l (putA a x.dst (.agg (pre ++ .ms S.bx.length n s :: post))) ⟨S.bx ++ [flat els], S.lv⟩ R)
    ∨ ∃ els t n s, v = .sl els (some t) ∧ lv[t]? = some (n, s) ∧ els.length = n ∧ 0 < s ∧ (∀ e ∈ els, e.cells.length = s) ∧ (flat els).all scal = true ∧ ExO n0 P l (putA a x.dst (.ms S.bx.length n s)) ⟨S.bx ++ [flat els], S.lv⟩ R) : ExO n0 P (x :: l) a S R := by
 intro E hn ops l0 Q hco hq act w hA
 obtain ⟨o, l', rfl, hx, hl'⟩ := mapM_cons_inv hco
 obtain ⟨h1, h2, _⟩ := compOper_ok hx
 obtain ⟨G, hI, hR, hg, hk, hd⟩ := hA
 simp only [wpList]
 rw [if_pos (wantedA_ok hx hR hw)]
 refine .inl ?_
 unfold Oper.wp
 have hs := step_ok h1 (fun _ => rfl) hR.opd hI hv
 obtain ⟨us, hrun, hvs⟩ := hs
 obtain ⟨hIc, hvc⟩ := call_in (bs := []) (cells := []) hr rfl (by simp) (by simp) hI hvs
 rw [hrun, ho.enter]
 simp only [Oper.upon_enter]
 refine (ho.calls (G.sub []) w us hIc hvc).mono ?_
 rintro e w' ⟨u, v, Gc, bx, lv, hK, rfl, hvr, hI', hg'⟩
 rcases h v lv hK with ⟨pre, els, t, n, s, post, rfl, hpre, hpost, hlv, hl, hs0, hcl, hsc, hrest⟩ | ⟨els, t, n, s, rfl, hlv, hl, hs0, hcl, hsc, hrest⟩
 ·obtain ⟨us', rfl, hsz, hcells⟩ := hvr.inv_agg
  have hilt : pre.length < us'.size := by rw [hsz]; simp
  have hui : us'[pre.length]? = some us'[pre.length] := Array.getElem?_eq_getElem hilt
  obtain ⟨G2, hle, hms, hI2, hg2, hk2⟩ := own_ms hI hI' hg' (hcells pre.length _ _ (mid_at _ _ _) hui) hlv hl hs0 hcl hsc
  have hv2 : VR G2 (.agg (pre ++ .ms S.bx.length n s :: post)) (.agg us') := by
   refine .agg _ us' (by rw [hsz]; simp) fun j y v hy hv => ?_
   rcases mid_get hy with ⟨rfl, rfl⟩ | ⟨hmem, hall⟩
   ·rw [hui] at hv; cases hv
    exact hms
   ·refine (hcells j y v (hall _) hv).scal ?_
    rcases hmem with hm' | hm'
    ·exact hpre y hm'
    ·exact hpost y hm'
  exact hrest E hn ops l' Q hl' hq _ _ ⟨G2, hI2, h2 ▸ (hR.mono hle).put x.dst hv2, hg.trans hg2, hk.trans hk2, by cases o.dst <;> exact hd.step hg2 hk2⟩
 ·obtain ⟨G2, hle, hms, hI2, hg2, hk2⟩ := own_ms hI hI' hg' hvr hlv hl hs0 hcl hsc
  exact hrest E hn ops l' Q hl' hq _ _ ⟨G2, hI2, h2 ▸ (hR.mono hle).put x.dst hms, hg.trans hg2, hk.trans hk2, by cases o.dst <;> exact hd.step hg2 hk2⟩
theorem ExO.callMs {n0 : Cx} {P : Program} {R : List AV → St → Prop} {x : AOper} {l : List AOper} {a : List AV} {S : St} {r : TokR} (hr : TokOk P r) (hs0 : 0 < r.s) (hcl : ∀ e ∈ r.els, e.cells.length = r.s) (hsc : (flat r.els).all scal = true) (xs : List AV) (hw : wantedA x.guard a = some true) (hv : aop x.op (evd a) S = some (.call r.f xs)) (hf : fpOf xs = []) (hx : xs.mapM (ren []) = some r.as) (h : ExO n0 P l (putA a x.dst (.ms S.bx.length r.n r.s)) ⟨S.bx ++ [flat r.els], S.lv⟩ R) : ExO n0 P (x :: l) a S R :=
 ExO.callV hw hv hf hx hr.1 fun v lv ⟨t, hv, hlv⟩ => .inr ⟨r.els, t, r.n, r.s, hv, hlv, hr.2.2, hs0, hcl, hsc, h⟩

theorem flat_scal {α : Type} {f : α → AV} (h : ∀ x, (f x).cells.all scal = true) (l : List α) : (flat (l.map f)).all scal = true := by
 rw [List.all_eq_true]
 intro c hc
 obtain ⟨e, he, hce⟩ := List.mem_flatMap.1 hc
 obtain ⟨x, _, rfl⟩ := List.mem_map.1 he
 exact List.all_eq_true.1 (h x) c hce
theorem mapM_id {f : AV → Option AV} : ∀ (l : List AV), (∀ x ∈ l, f x = some x) → l.mapM f = some l
 | [], _ => rfl
 | x :: l, h => by
  rw [List.mapM_cons, h x (by simp), mapM_id l fun y hy => h y (by simp [hy])]
  rfl
theorem flat_lenF {α : Type} {f : α → AV} {s : Nat} (hs : ∀ x, (f x).cells.length = s) (l : List α) : (flat (l.map f)).length = l.length * s := by
 rw [flat_len s, List.length_map]
 intro i e he
 rw [List.getElem?_map, Option.map_eq_some_iff] at he
 obtain ⟨x, _, rfl⟩ := he
 exact hs x
theorem map_cells {α : Type} {f : α → AV} {s : Nat} (hs : ∀ x, (f x).cells.length = s) (l : List α) : ∀ e ∈ l.map f, e.cells.length = s := by
 intro e he
 obtain ⟨x, _, rfl⟩ := List.mem_map.1 he
 exact hs x
theorem ldFl {α : Type} {f : α → AV} {s : Nat} (l : List α) (off j : Nat) (i : Int) (x : α) (c : AV) (hs : ∀ x, (f x).cells.length = s) (hx : l[i.toNat]? = some x) (hc : (f x).cells[j]? = some c) (ho : off = i.toNat * s + j) : takeCells (flat (l.map f)) off none = some c := by
 subst ho
 exact flat_at s (l.map f) i.toNat (f x) j c (fun k e he => map_cells hs l e (List.mem_of_getElem? he)) (by rw [List.getElem?_map, hx]; rfl) hc
theorem layAt_left : ∀ (vs cs ds : List AV) (o : Nat), o + vs.length ≤ cs.length → layAt (cs ++ ds) o vs = layAt cs o vs ++ ds
 | [], _, _, _, _ => rfl
 | v :: vs, cs, ds, o, h => by
  simp only [List.length_cons] at h
  simp only [layAt]
  rw [List.set_append_left _ _ (by omega)]
  exact layAt_left vs _ ds (o + 1) (by simp; omega)
theorem layAt_right : ∀ (vs cs ds : List AV) (o : Nat), layAt (cs ++ ds) (cs.length + o) vs = cs ++ layAt ds o vs
 | [], _, _, _ => rfl
 | v :: vs, cs, ds, o => by
  simp only [layAt]
  rw [List.set_append_right _ _ (by omega), Nat.add_sub_cancel_left, Nat.add_assoc]
  exact layAt_right vs cs _ (o + 1)
theorem lay_flat {s : Nat} : ∀ (els : List AV) (k j : Nat) (e e' : AV) (vs : List AV), (∀ e ∈ els, e.cells.length = s) → els[k]? = some e → j + vs.length ≤ s → layAt e.cells j vs = e'.cells → layAt (flat els) (k * s + j) vs = flat (els.set k e')
 | [], _, _, _, _, _, _, h, _, _ => by simp at h
 | e0 :: els, 0, j, e, e', vs, hs, h, hj, hl => by
  obtain rfl : e0 = e := by simpa using h
  simp only [flat, List.flatMap_cons, List.set_cons_zero, Nat.zero_mul, Nat.zero_add]
  rw [layAt_left _ _ _ _ (by rw [hs e0 (by simp)]; exact hj), hl]
 | e0 :: els, k + 1, j, e, e', vs, hs, h, hj, hl => by
  have h0 := hs e0 (by simp)
  have ih := lay_flat els k j e e' vs (fun e he => hs e (by simp [he])) (by simpa using h) hj hl
  simp only [flat, List.flatMap_cons, List.set_cons_succ] at ih ⊢
  rw [show (k + 1) * s + j = e0.cells.length + (k * s + j) by rw [h0, Nat.succ_mul]; omega, layAt_right, ih]
def setI {α : Type} (l : List α) (i : Int) (g : α → α) : Option (List α) := (l[i.toNat]?).map fun x => l.set i.toNat (g x)
theorem setI.of {α : Type} {l l' : List α} {i : Int} {g : α → α} (h : setI l i g = some l') : ∃ x, l[i.toNat]? = some x ∧ l' = l.set i.toNat (g x) := by
 simp only [setI, Option.map_eq_some_iff] at h
 obtain ⟨x, hx, rfl⟩ := h
 exact ⟨x, hx, rfl⟩
theorem stFl {α : Type} {f : α → AV} {s : Nat} {l l' : List α} (off j n : Nat) (i : Int) (g : α → α) (vs : List AV) (hs : ∀ x, (f x).cells.length = s) (h : setI l i g = some l') (hn : vs.length = n) (hjn : j + n ≤ s) (ho : off = i.toNat * s + j) (hl : ∀ x, layAt (f x).cells j vs = (f (g x)).cells) : off + n ≤ (flat (l.map f)).length ∧ layAt (flat (l.map f)) off vs = flat (l'.map f) := by
 obtain ⟨x, hx, rfl⟩ := setI.of h
 subst ho hn
 have hlt := (List.getElem?_eq_some_iff.1 hx).1
 refine ⟨?_, ?_⟩
 ·rw [flat_lenF hs]
  have : (i.toNat + 1) * s ≤ l.length * s := Nat.mul_le_mul_right _ hlt
  rw [Nat.succ_mul] at this
  omega
 ·rw [lay_flat (l.map f) i.toNat j (f x) (f (g x)) vs (map_cells hs l) (by rw [List.getElem?_map, hx]; rfl) hjn (hl x), List.map_set]
def lenI {α : Type} (l : List α) (n : Nat) : Option Unit := if l.length = n then some () else none
theorem lenI.of {α : Type} {l : List α} {n : Nat} {u : Unit} (h : lenI l n = some u) : l.length = n := by
 unfold lenI at h
 split at h
 ·assumption
 ·cases h

theorem chillL_at (f : AV → AV) : ∀ (k : Nat) (a : List AV) (v : AV), a[k]? = some v → chillL f (List.replicate k false ++ [true]) a = a.set k (f v)
 | 0, x :: a, v, h => by
  obtain rfl : x = v := by simpa using h
  simp [chillL]
 | k + 1, x :: a, v, h => by
  have ih := chillL_at f k a v (by simpa using h)
  simp only [List.replicate_succ, List.cons_append, chillL, List.set_cons_succ, ih]
  rfl
 | k, [], v, h => by simp at h
theorem chillB_at (f : AV → AV) (c : List Bool) : ∀ (k : Nat) (a : List (List AV)) (v : List AV), a[k]? = some v → chillB f (List.replicate k [] ++ [c]) a = a.set k (chillL f c v)
 | 0, x :: a, v, h => by
  obtain rfl : x = v := by simpa using h
  simp [chillB]
 | k + 1, x :: a, v, h => by
  have ih := chillB_at f c k a v (by simpa using h)
  simp only [List.replicate_succ, List.cons_append, chillB, List.set_cons_succ, ih]
  simp [chillL]
 | k, [], v, h => by simp at h
theorem chillK {α : Type} {f : α → AV} {n0 : Cx} {a : List AV} {S : St} (b k n s : Nat) (l : List α) (v v' : AV) {u : Unit} (hn : lenI l n = some u) (hb : S.bx[b]? = some (flat (l.map f))) (hs : ∀ x, (f x).cells.length = s) (hk : a[k]? = some v) (hv : chillS b n s (l.map f) v = v') : Forgets n0 a S (a.set k v') ⟨S.bx.set b [], S.lv⟩ := by
 have := chill (n0 := n0) (a := a) (S := S) b n s (l.map f) (List.replicate k false ++ [true]) [] hb (by rw [List.length_map]; exact lenI.of hn) (map_cells hs l)
 rw [chillL_at _ k a v hk, hv] at this
 exact this
theorem chillX {α : Type} {f : α → AV} {n0 : Cx} {a : List AV} {S : St} (b b2 o n s : Nat) (l : List α) (cs : List AV) {u : Unit} (hn : lenI l n = some u) (hb : S.bx[b]? = some (flat (l.map f))) (hs : ∀ x, (f x).cells.length = s) (h2 : S.bx[b2]? = some cs) (hbb : b ≠ b2) (ho : cs[o]? = some (.ms b n s)) : Forgets n0 a S a ⟨(S.bx.set b []).set b2 (cs.set o (.sl (l.map f) none)), S.lv⟩ := by
 have := chill (n0 := n0) (a := a) (S := S) b n s (l.map f) [] (List.replicate b2 [] ++ [List.replicate o false ++ [true]]) hb (by rw [List.length_map]; exact lenI.of hn) (map_cells hs l)
 rw [chillB_at _ _ b2 _ cs (by rw [List.getElem?_set_ne hbb]; exact h2), chillL_at _ o cs _ ho] at this
 simpa [chillL, chillV] using this
theorem mapMC {α β : Type} {f : α → Option β} {x : α} {y : β} {l : List α} {ys : List β} (h : f x = some y) (t : l.mapM f = some ys) : (x :: l).mapM f = some (y :: ys) := by
 rw [List.mapM_cons, h, t]
 rfl
def mkI (n : Int) : Option Nat := if 0 ≤ n ∧ n ≤ 65536 then some n.toNat else none
theorem mkI.of {n : Int} {k : Nat} (h : mkI n = some k) : n = (k : Int) ∧ k ≤ 65536 := by
 unfold mkI at h
 split at h
 ·cases h; omega
 ·cases h
theorem repFl {α : Type} {f : α → AV} {z : List AV} (x : α) (hz : (f x).cells = z) : ∀ k, rep z k = flat ((List.replicate k x).map f)
 | 0 => rfl
 | k + 1 => by
  simp only [rep, List.replicate_succ, List.map_cons, flat, List.flatMap_cons, hz]
  congr 1
  exact repFl x hz k
theorem mk_of {α : Type} {f : α → AV} {z : List AV} {n : Int} {k : Nat} (x : α) (hz : (f x).cells = z) (h : mkI n = some k) : n = (k : Int) ∧ k ≤ 65536 ∧ rep z k = flat ((List.replicate k x).map f) :=
 ⟨(mkI.of h).1, (mkI.of h).2, repFl x hz k⟩
def idxB (b : ByteArray) (n : Int) : Option Int := if 0 ≤ n then (b[n.toNat]?).map fun c => (c.toNat : Int) else none
theorem idxB.of {b : ByteArray} {n z : Int} (h : idxB b n = some z) : LIdx b n z := by
 unfold idxB at h
 split at h
 ·rename_i h0
  rw [Option.map_eq_some_iff] at h
  obtain ⟨c, hc, rfl⟩ := h
  exact ⟨h0, c, hc, rfl⟩
 ·cases h
def partI {α : Type} (l : List α) (lo hi : Int) : Option (List α) := if 0 ≤ lo ∧ lo ≤ hi ∧ hi ≤ (l.length : Int) then some ((l.take hi.toNat).drop lo.toNat) else none
theorem partI.of {α : Type} {f : α → AV} {s : Nat} {l r : List α} {lo hi : Int} (hs : ∀ x, (f x).cells.length = s) (h : partI l lo hi = some r) : LSlc (l.map f) (some lo) (some hi) s (r.map f) := by
 unfold partI at h
 split at h
 ·rename_i hc
  cases h
  exact ⟨lo.toNat, hi.toNat, by show lo = _; omega, by show hi = _; omega, by omega, by rw [List.length_map]; omega, map_cells hs l, by rw [List.map_drop, List.map_take]⟩
 ·cases h
theorem partI.ofL {α : Type} {f : α → AV} {s : Nat} {l r : List α} {lo : Int} (hs : ∀ x, (f x).cells.length = s) (h : partI l lo (l.length : Int) = some r) : LSlc (l.map f) (some lo) none s (r.map f) := by
 unfold partI at h
 split at h
 ·rename_i hc
  cases h
  exact ⟨lo.toNat, l.length, by show lo = _; omega, by simp, by omega, by simp, map_cells hs l, by rw [List.map_drop, Int.toNat_natCast, List.take_length, List.take_of_length_le (by simp)]⟩
 ·cases h
def nnI (n : Int) : Option Unit := if n < 0 then none else some ()
theorem binSl {k k' : IntKind} {x y : Int} {u : Unit} (h : nnI y = some u) : binA .shl (.int k x) (.int k' y) = some (.int k (k.wrap (x * 2 ^ (min y.toNat k.bits)))) := by
 unfold nnI at h
 split at h
 ·cases h
 ·rename_i h0
  simp [binA, h0]
theorem binSr {k k' : IntKind} {x y : Int} {u : Unit} (h : nnI y = some u) : binA .shr (.int k x) (.int k' y) = some (.int k (x.fdiv (2 ^ (min y.toNat k.bits)))) := by
 unfold nnI at h
 split at h
 ·cases h
 ·rename_i h0
  simp [binA, h0]
end Go.Proofs.Ytfhapfljomgmnaa
end
section
namespace Go.Proofs.Ytfhapfljomgmnaa
open Go.RowKit

structure DoesTB (P : Program) (f : FuncId) (xs : List AV) (cells : List (List AV)) (K : AV → List (List AV) → List (Nat × Nat) → Prop) : Prop where
 enter : ∀ (us : Array Value) (w : World), (callFunc f us).run P w = .ok (.enter f us) w
 calls : ∀ (G : Gh) (w : World) (us : Array Value), Inv G ⟨cells, []⟩ w → VRs G xs us → Calls P f us w fun e w' => ∃ u v c' G' bx lv, K v c' lv ∧ e = .returned u ∧ VR G' v u ∧ c'.length = cells.length ∧ Inv G' ⟨c' ++ bx, lv⟩ w' ∧ Gro G ⟨cells, []⟩ w G' ⟨c' ++ bx, lv⟩ w'
theorem DoesTB.of {P : Program} {f : FuncId} {F : AFn} (hF : compFn P f = some F) {xs : List AV} {cells : List (List AV)} {K : AV → List (List AV) → List (Nat × Nat) → Prop}
  (h : Ex cells.length .plain P F.code (start F xs) ⟨cells, []⟩ fun x a' S' => (x = .norm ∨ x = .ret) ∧ ∃ v, evRes a' S' F.res = some v ∧ K v (S'.bx.take cells.length) S'.lv) : DoesTB P f xs cells K := by
 unfold compFn at hF
 split at hF
 ·rename_i fn hf
  split at hF
  ·rename_i c rs hb hrs
   split at hF
   ·rename_i ac hac
    split at hF
    ·cases hF
    ·rename_i hname
     cases hF
     refine ⟨fun us w => ?_, fun G w us hI hvs => ?_⟩
     ·simp only [callFunc, program, Sem.run, hf, Sem.run_bind, Result.andThen_ok, hname, hb]
      rfl
     ·refine calls_of_marks hf hb ?_
      have hR : Rel G (start ⟨fn.params.size, fn.ntmps, rs, ac⟩ xs) { tmps := us ++ Array.replicate (fn.ntmps - us.size) undef, defers := [] } := by
       refine ⟨by simp [start, hvs.1], fun i y u hy hu => ?_⟩
       simp only [start] at hy
       simp only at hu
       rw [List.getElem?_append] at hy
       rw [Array.getElem?_append, hvs.1] at hu
       split at hy
       ·rename_i hlt
        rw [if_pos hlt] at hu
        exact hvs.2 i y u hy hu
       ·rename_i hlt
        rw [if_neg hlt] at hu
        have e1 := List.eq_of_mem_replicate (List.mem_of_getElem? hy)
        have e2 : u ∈ (Array.replicate (fn.ntmps - xs.length) undef) := Array.mem_of_getElem? hu
        have e3 := (Array.mem_replicate.1 e2).2
        rw [e1, e3]
        exact .undef G
      refine wp_mono (h (.of G ⟨cells, []⟩ w hI rfl) rfl c hac _ w ⟨G, hI, hR, .refl _ _ _, .refl _ _, .begin _ _ _ _ _⟩) ?_
      rintro e act' w' ⟨x, a', S', he, ⟨hx, v, hv, hq⟩, G', hI', hR', hg, hk, hd⟩
      have hbl := hk.bl
      obtain ⟨Ds, e1, e2, e3⟩ := hd.d
      have e1 : act'.defers = Ds.map markOf := by rw [e1]; exact List.append_nil _
      have hI' := hI'.shut e2 fun D hD => (e3 D hD).2
      have hg := hg.shut fun D hD => (e3 D hD).1.1
      obtain ⟨u, h1, h2⟩ := res_ok hI' hR' hrs hv
      obtain ⟨S'bx, S'lv⟩ := S'
      have hbx : S'bx = S'bx.take cells.length ++ S'bx.drop cells.length := by simp
      have hcl : (S'bx.take cells.length).length = cells.length := by
       rw [List.length_take]; exact Nat.min_eq_left hbl
      generalize S'bx.take cells.length = c1 at hq hbx hcl
      generalize S'bx.drop cells.length = bx at hbx
      subst hbx
      rcases hx with rfl | rfl
      ·subst he; exact ⟨.inl rfl, Ds, e1, e2, fun D hD => (e3 D hD).2, u, h1, u, v, c1, G', bx, S'lv, hq, rfl, h2, hcl, hI', hg⟩
      ·subst he; exact ⟨.inr rfl, Ds, e1, e2, fun D hD => (e3 D hD).2, u, h1, u, v, c1, G', bx, S'lv, hq, rfl, h2, hcl, hI', hg⟩
   ·cases hF
  ·cases hF
 ·cases hF

structure TokB where
 f : FuncId
 gs : List AV
 cells : List (List AV)
 c1 : List (List AV)
 pre : List AV
 els : List AV
 post : List AV
 n : Nat
 s : Nat
end Go.Proofs.Ytfhapfljomgmnaa
end
section
namespace Go.Proofs.Ytfhapfljomgmnaa
open Go.RowKit

theorem compCode_scope {P : Program} {code : Code} {c : ACode} (h : compCode P code = some (.scope c)) : ∃ x, code = .scope x ∧ compCode P x = some c := by
 cases code <;> simp only [compCode, reduceCtorEq] at h
 case scope x =>
  simp only [Option.map_eq_some_iff, ACode.scope.injEq] at h
  obtain ⟨c', h1, rfl⟩ := h
  exact ⟨x, rfl, h1⟩
 case seq => split at h <;> simp at h
 case cond => split at h <;> simp at h
 case region id ops draw =>
  split at h
  ·split at h
   ·split at h
    ·split at h <;> simp at h
    ·cases h
   ·cases h
  ·split at h
   ·cases h
   ·simp at h
 case rangeFunc => split at h <;> simp at h
 all_goals simp at h
theorem Ex.scope {n0 : Cx} {P : Program} {a : List AV} {S : St} {Q : AEx → List AV → St → Prop} {c : ACode} (h : Ex n0 .plain P c a S Q) : Ex n0 .plain P (.scope c) a S Q := by
 intro E hn code hc act w hA
 obtain ⟨x, rfl, h1⟩ := compCode_scope hc
 show (Code.scope x).wp P _ act w
 refine wp_scope_straight (wp_mono (h E hn x h1 act w hA) ?_)
 rintro e act' w' ⟨z, a', S', rfl, hq, hA'⟩
 cases z
 ·exact ⟨.norm, a', S', rfl, hq, hA'⟩
 ·exact ⟨.ex _, a', S', rfl, hq, hA'⟩
 ·exact ⟨.ret, a', S', rfl, hq, hA'⟩

def caseS {α β ρ : Type} (s : α ⊕ β) (f : α → Option ρ) (g : β → Option ρ) : Option ρ := match s with
 | .inl a => f a
 | .inr b => g b
theorem ExO.castA {c : Cx} {P : Program} {a : List AV} {S : St} {R : List AV → St → Prop} {xs : List AOper} {a2 : List AV} {S2 : St} (h1 : a = a2) (h2 : S = S2) (h : ExO c P xs a2 S2 R) : ExO c P xs a S R := by rw [h1, h2]; exact h
theorem ExI.castA {c : Cx} {md : Md} {P : Program} {a : List AV} {S : St} {R : List AV → St → Prop} {xs : List AOper} {a2 : List AV} {S2 : St} (h1 : a = a2) (h2 : S = S2) (h : ExI c md P xs a2 S2 R) : ExI c md P xs a S R := by rw [h1, h2]; exact h
theorem ExO.inlY {c : Cx} {P : Program} {a : List AV} {S : St} {R : List AV → St → Prop} {x : AOper} {l : List AOper} (J : AV → St → Prop) (f : FuncId) (xs : List AV) (F : AFn) (hF : compFn P f = some F) (hn : c.n ≤ S.bx.length) (hw : wantedA x.guard a = some true) (hv : aop x.op (evd a) S = some (.call f xs)) (a1 : List AV) (he : start F xs = a1)
  (h : ∀ c1 : Cx, c1.n = S.bx.length → c1.m = S.lv.length → (∀ L' a' ps' x' y', LpOk P c L' a' ps' x' y' → LpOk P c1 L' a' ps' x' y') →
    Ex c1 .plain P F.code a1 S fun z a' S' => ∃ a2 S2, Forgets c1 a' S' a2 S2 ∧ (z = .norm ∨ z = .ret) ∧ ∃ v, evRes a2 S2 F.res = some v ∧ J v S2)
  (k : ∀ v S', J v S' → ExO c P l (putA a x.dst v) S' R) : ExO c P (x :: l) a S R := by
 refine ExO.inlJ J f xs F hF hn hw hv a1 he (fun c1 h1 h2 h3 => ?_) k
 exact Ex.postF (h c1 h1 h2 h3)

theorem ExO.callN {n0 : Cx} {P : Program} {a : List AV} {S : St} {R : List AV → St → Prop} {x : AOper} {l : List AOper} {f : FuncId} {ys : List AV} (bs : List Nat) {cells : List (List AV)} {v v' : AV} {c' : List (List AV)} (xs : List AV) (hw : wantedA x.guard a = some true) (hv : aop x.op (evd a) S = some (.call f xs)) (hbs : fpOf xs = bs) (hr : xs.mapM (ren bs) = some ys) (hc : bs.mapM (fun b => S.bx[b]?) = some cells) (hcl : (cells.all cleanL && decide bs.Nodup) = true)
  (ho : Does P f ys cells fun w c => w = v ∧ c = c') (hb : back bs.length c'.length S.bx.length v = some v') (hc' : c'.all cleanL = true)
  (h : ExO n0 P l (putA a x.dst v') ⟨setAll S.bx bs c' ++ c'.drop bs.length, S.lv⟩ R) : ExO n0 P (x :: l) a S R :=
 ExO.call hw hv hbs hr hc hcl ho (by
  rintro w c ⟨rfl, rfl⟩
  exact ⟨v', hb, hc', h⟩)
theorem drK {X : Clr} {b0 k0 : Nat} {sts : List St} {x : AOper} {l : List AOper} {a a1 : List AV} {lv : Nat} {bs ts : List Nat} (hw : wantedA x.guard a = some false) (hd : dstOk x a.length = true) (h : DrO X b0 k0 sts l (putA a x.dst (.tup [])) lv bs ts a1) : DrO X b0 k0 sts (x :: l) a lv bs ts a1 := DrO.skip hw hd h

def fadeW : AV → AV
 | .sl els t => .sl (els.map fadeS) t
 | x => x
def fadeM : List Bool → List AV → List AV
 | true :: m, x :: l => fadeW x :: fadeM m l
 | false :: m, x :: l => x :: fadeM m l
 | _, l => l
theorem fadeM_get : ∀ (m : List Bool) (l : List AV) (i : Nat) (y : AV), (fadeM m l)[i]? = some y → ∃ z, l[i]? = some z ∧ (y = z ∨ y = fadeW z)
 | [], l, i, y, h => ⟨y, by simpa [fadeM] using h, .inl rfl⟩
 | b :: m, [], i, y, h => by cases b <;> simp [fadeM] at h
 | true :: m, x :: l, 0, y, h => ⟨x, rfl, .inr (by simpa [fadeM] using h.symm)⟩
 | false :: m, x :: l, 0, y, h => ⟨x, rfl, .inl (by simpa [fadeM] using h.symm)⟩
 | true :: m, x :: l, i + 1, y, h => by
  obtain ⟨z, h1, h2⟩ := fadeM_get m l i y (by simpa [fadeM] using h)
  exact ⟨z, by simpa using h1, h2⟩
 | false :: m, x :: l, i + 1, y, h => by
  obtain ⟨z, h1, h2⟩ := fadeM_get m l i y (by simpa [fadeM] using h)
  exact ⟨z, by simpa using h1, h2⟩
theorem fadeM_len : ∀ (m : List Bool) (l : List AV), (fadeM m l).length = l.length
 | [], l => by simp [fadeM]
 | b :: m, [] => by cases b <;> simp [fadeM]
 | true :: m, x :: l => by simp [fadeM, fadeM_len m l]
 | false :: m, x :: l => by simp [fadeM, fadeM_len m l]
theorem fadeW_vr {G : Gh} {x : AV} {u : Value} (h : VR G x u) : VR G (fadeW x) u := by
 cases x with
 | sl els t => exact fadeE_vr h
 | _ => exact h
theorem boxK {n0 : Cx} {a : List AV} {S : St} (b : Nat) (cs cs' : List AV) (hb : S.bx[b]? = some cs) (hl : cs'.length = cs.length) (h : ∀ (i : Nat) y, cs'[i]? = some y → ∃ x, cs[i]? = some x ∧ ∀ (G : Gh) u, VR G x u → VR G y u) : Forgets n0 a S a ⟨S.bx.set b cs', S.lv⟩ := by
 intro E hE act w ⟨G, hI, hR, hg, hk, hd⟩
 have hblt := (List.getElem?_eq_some_iff.1 hb).1
 refine ⟨G, ⟨fun b' B c h1 h2 => ?_, hI.tok, hI.fz, fun b' B h1 => ?_, hI.dtb, hI.injA, hI.injT, hI.sep⟩, hR, ⟨hg.le, hg.os, hg.tape, hg.output, hg.size, hg.fr, hg.own, hg.oth⟩, ⟨?_, hk.ll, hk.al, hk.tb, hk.lvn⟩, hd.same rfl⟩
 ·by_cases he : b' = b
  ·subst he
   rw [List.getElem?_set_self hblt] at h2
   cases h2
   rcases hI.box b' B cs h1 hb with h0 | ⟨us, T, k1, k2, k3, k4⟩
   ·left
    rw [h0] at hl
    exact List.eq_nil_of_length_eq_zero (by simpa using hl)
   ·refine .inr ⟨us, T, k1, by omega, fun i y u hy hu => ?_, k4⟩
    obtain ⟨x, hx, hxy⟩ := h i y hy
    exact hxy G u (k3 i x u hx hu)
  ·rw [List.getElem?_set_ne (Ne.symm he)] at h2
   exact hI.box b' B c h1 h2
 ·have := hI.dal b' B h1
  exact ⟨by rw [List.length_set]; exact this.1, this.2⟩
 ·have := hk.bl
  simpa using this
theorem fadeB {n0 : Cx} {a : List AV} {S : St} (b : Nat) (cs : List AV) (m : List Bool) (hb : S.bx[b]? = some cs) : Forgets n0 a S a ⟨S.bx.set b (fadeM m cs), S.lv⟩ := boxK b cs _ hb (fadeM_len m cs) fun i y hy => by
 obtain ⟨z, h1, rfl | rfl⟩ := fadeM_get m cs i y hy
 ·exact ⟨_, h1, fun _ _ h => h⟩
 ·exact ⟨z, h1, fun _ _ h => fadeW_vr h⟩

theorem blankB {n0 : Cx} {a : List AV} {S : St} (b : Nat) (cs : List AV) (n : Nat) (hb : S.bx[b]? = some cs) (hn : n = cs.length) : Forgets n0 a S a ⟨S.bx.set b (List.replicate n .junk), S.lv⟩ :=
 boxK b cs _ hb (by rw [List.length_replicate, hn]) fun i y hy => by
  rw [List.getElem?_replicate] at hy
  split at hy
  ·rename_i hi
   cases hy
   exact ⟨cs[i]'(by omega), List.getElem?_eq_getElem _, fun _ _ _ => .junk _⟩
  ·cases hy
theorem rep1 (z : AV) : ∀ k, rep [z] k = List.replicate k z
 | 0 => rfl
 | k + 1 => by simp [rep, List.replicate_succ, rep1 z k]
theorem flat_nils {α : Type} (g : α → AV) : ∀ k, flat ((List.replicate k ([] : List α)).map (SV g)) = List.replicate k (.sl [] none)
 | 0 => rfl
 | k + 1 => by
  have ih := flat_nils g k
  simp only [List.replicate_succ, List.map_cons, flat, List.flatMap_cons] at ih ⊢
  rw [ih]
  rfl
theorem nilsB {α : Type} {g : α → AV} {n0 : Cx} {a : List AV} {S : St} (b k : Nat) (hb : S.bx[b]? = some (rep [.nils] k)) : Forgets n0 a S a ⟨S.bx.set b (flat ((List.replicate k ([] : List α)).map (SV g))), S.lv⟩ := by
 rw [flat_nils]
 refine boxK b _ _ hb (by rw [rep1]; simp) fun i y hy => ?_
 rw [rep1]
 rw [List.getElem?_replicate] at hy ⊢
 split at hy
 ·rename_i hi
  cases hy
  refine ⟨.nils, by rw [if_pos hi], fun G u h => ?_⟩
  cases h
  exact .sl0 _ _
 ·cases hy
theorem ExO.lb {c : Cx} {P : Program} {a : List AV} {S : St} {R : List AV → St → Prop} {x : AOper} {l : List AOper} {s : Nat} {els : List AV} (hw : wantedA x.guard a = some true) (hv : aop x.op (evd a) S = some (.lit s els)) (hs0 : 0 < s)
  (h : ExO c P l (putA a x.dst (.ms S.bx.length els.length s)) ⟨S.bx ++ [flat els], S.lv⟩ R) : ExO c P (x :: l) a S R := by
 intro E hE ops l1 Q hco hq act w hA
 obtain ⟨o, l', rfl, hx, hl'⟩ := mapM_cons_inv hco
 obtain ⟨h1, h2, _⟩ := compOper_ok hx
 obtain ⟨G, hI, hR, hgr, hk, hdf⟩ := hA
 simp only [wpList]
 rw [if_pos (wantedA_ok hx hR hw)]
 refine .inl ?_
 have hs := step_ok h1 (fun _ => rfl) hR.opd hI hv
 obtain ⟨us, T, cc, hrun, hn, hsz, hes, hcell⟩ := hs
 have hle : els.length * s ≤ us.size := by rw [hsz]; exact Nat.mul_le_mul_right _ hn
 have hfl : (flat els).length = els.length * s := flat_len s els hes
 obtain ⟨b1, b2, b3⟩ := new_box hI (flat els ++ List.replicate (us.size - els.length * s) .junk) us T ⟨by simp [hfl]; omega, fun i y u hy hu => by
  by_cases hi : i < (flat els).length
  ·rw [List.getElem?_append_left hi] at hy
   obtain ⟨e, g1, g2⟩ := flat_get s hs0 els i y hes hy
   obtain ⟨u', g3, g4⟩ := hcell _ e _ y g1 g2
   rw [show i / s * s + i % s = i by rw [Nat.mul_comm]; exact Nat.div_add_mod i s, hu] at g3
   cases g3
   exact g4
  ·rw [List.getElem?_append_right (by omega), List.getElem?_replicate] at hy
   split at hy
   ·cases hy; exact .junk _
   ·cases hy⟩
 have hI2 : Inv (G.box S.bx.length w.heap.size) ⟨S.bx ++ [flat els], S.lv⟩ (w.alloc (.cells us T)) := by
  refine ⟨fun b' B c' h1 h2 => ?_, b2.tok, b2.fz, fun b' B h1 => ?_, b2.dtb, b2.injA, b2.injT, b2.sep⟩
  ·by_cases hb : b' < S.bx.length
   ·rw [List.getElem?_append_left hb] at h2
    exact b2.box b' B c' h1 (by rw [List.getElem?_append_left hb]; exact h2)
   ·have hb' : b' = S.bx.length := by
     have := (b2.dal b' B h1).1
     simp at this; omega
    subst hb'
    rw [List.getElem?_append_right (Nat.le_refl _)] at h2
    simp at h2
    subst h2
    rcases b2.box _ B (flat els ++ List.replicate (us.size - els.length * s) .junk) h1 (by simp) with h0 | ⟨us', T', k1, k2, k3, k4⟩
    ·exact .inl (List.append_eq_nil_iff.1 h0).1
    ·refine .inr ⟨us', T', k1, by rw [List.length_append] at k2; omega, fun i y u hy hu => k3 i y u (by rw [List.getElem?_append_left (List.getElem?_eq_some_iff.1 hy).1]; exact hy) hu, k4⟩
  ·have := b2.dal b' B h1
   exact ⟨by simpa using this.1, this.2⟩
 have hG2 : Gro G S w (G.box S.bx.length w.heap.size) ⟨S.bx ++ [flat els], S.lv⟩ (w.alloc (.cells us T)) := ⟨b3.le, b3.os, b3.tape, b3.output, b3.size, b3.fr, b3.own, b3.oth⟩
 unfold Oper.wp
 rw [hrun]
 simp only [Oper.upon]
 exact h E hE ops l' Q hl' hq _ _ ⟨_, hI2, h2 ▸ (hR.mono hG2.le).put x.dst (.ms _ _ _ _ _ b1 hn), hgr.trans hG2, hk.trans (Keep.box G S _ _), by cases o.dst <;> exact hdf.step hG2 (Keep.box G S _ _)⟩
def frzV (b : Nat) (cs : List AV) (x : AV) : AV := match x with
 | .ptr b' o => if b' = b ∧ o ≤ cs.length then .rop (cs.drop o) else x
 | x => x
def frzS (b : Nat) (cs : List AV) (x : AV) : AV := match x with
 | .fn f ps caps => .fn f ps (caps.map (frzV b cs))
 | x => frzV b cs x
theorem VR.frzV {G G2 : Gh} {b : Nat} {cs : List AV} {x : AV} {u : Value} (h : VR G x u) (hle : G.le G2) (hrop : ∀ B o, G.al b = some B → o ≤ cs.length → VR G2 (.rop (cs.drop o)) (.pointer (some ⟨B, o, none⟩))) : VR G2 (frzV b cs x) u := by
 unfold Proofs.Ytfhapfljomgmnaa.frzV
 split
 ·split
  ·rename_i hc
   obtain ⟨rfl, ho⟩ := hc
   obtain ⟨B, hB, rfl⟩ := h.inv_ptr
   exact hrop B _ hB ho
  ·exact h.mono hle
 ·exact h.mono hle
theorem VR.frzS {G G2 : Gh} {b : Nat} {cs : List AV} {x : AV} {u : Value} (h : VR G x u) (hle : G.le G2) (hrop : ∀ B o, G.al b = some B → o ≤ cs.length → VR G2 (.rop (cs.drop o)) (.pointer (some ⟨B, o, none⟩))) : VR G2 (frzS b cs x) u := by
 unfold Proofs.Ytfhapfljomgmnaa.frzS
 split
 ·rename_i f ps caps
  obtain ⟨vs, us, rfl, hp, hl, hv⟩ := h.inv_fn
  refine .fn f ps _ vs us hp.1 (fun i z v hz hv' => (hp.2 i z v hz hv').mono hle) (by rw [List.length_map]; exact hl) fun i z v hz hv' => ?_
  rw [List.getElem?_map, Option.map_eq_some_iff] at hz
  obtain ⟨z', hz', rfl⟩ := hz
  exact (hv i z' v hz' hv').frzV hle hrop
 ·exact h.frzV hle hrop
theorem chillP {n0 : Cx} {a : List AV} {S : St} (k b : Nat) (cs : List AV) (v : AV) (hk : a[k]? = some v) (hb : S.bx[b]? = some cs) : Forgets n0 a S (a.set k (frzS b cs v)) ⟨S.bx.set b [], S.lv⟩ := by
 intro E hE act w ⟨G, hI, hR, hg, hkp, hd⟩
 obtain ⟨F, hF⟩ : ∃ F : Nat → Option Value, ∀ B, G.al b = some B → (∀ o u, G.fz B o = some u → F o = some u) ∧ (∀ o u, F o = some u → w.cell? ⟨B, o, none⟩ = some u) ∧ ∀ o x, cs[o]? = some x → ∃ u, F o = some u ∧ VR G x u := by
  cases hal : G.al b with
  | none => exact ⟨fun _ => none, fun B h => by cases h⟩
  | some B =>
   rcases hI.box b B _ hal hb with h | ⟨us, T, k1, k2, k3, k4⟩
   ·refine ⟨fun o => G.fz B o, fun B' hB' => ?_⟩
    cases hB'
    exact ⟨fun o u h => h, fun o u h2 => hI.fz B o u h2, fun o x hx => by rw [h] at hx; simp at hx⟩
   ·refine ⟨fun o => us[o]?, fun B' h => ?_⟩
    cases h
    refine ⟨fun o u h => (by rw [k4 o] at h; cases h), fun o u h => by simp [World.cell?, k1, h], fun o x hx => ?_⟩
    have hlt : o < us.size := Nat.lt_of_lt_of_le (List.getElem?_eq_some_iff.1 hx).1 k2
    have hu : us[o]? = some us[o] := Array.getElem?_eq_getElem hlt
    exact ⟨us[o], hu, k3 o x _ hx hu⟩
 obtain ⟨G2, hG2⟩ : ∃ G2 : Gh, G2 = ⟨G.al, G.tb, fun k o => if G.al b = some k then F o else G.fz k o⟩ := ⟨_, rfl⟩
 have hal2 : G2.al = G.al := by rw [hG2]
 have htb2 : G2.tb = G.tb := by rw [hG2]
 have hfz2 : ∀ k o, G2.fz k o = if G.al b = some k then F o else G.fz k o := fun k o => by rw [hG2]
 have hle : G.le G2 := ⟨fun b B h => by rw [hal2]; exact h, fun t k v h => by rw [htb2]; exact h, fun k o u h => by
  rw [hfz2]
  split
  ·rename_i hB
   exact (hF k hB).1 o u h
  ·exact h⟩
 have hrop : ∀ B o, G.al b = some B → o ≤ cs.length → VR G2 (.rop (cs.drop o)) (.pointer (some ⟨B, o, none⟩)) := fun B o hB ho => by
  refine .rop _ B o (fun i => (F (o + i)).getD undef) (fun i x hx => ?_) fun i x hx => ?_
  ·rw [List.getElem?_drop] at hx
   obtain ⟨u, h1, _⟩ := (hF B hB).2.2 _ x hx
   rw [hfz2, if_pos hB, h1]; rfl
  ·rw [List.getElem?_drop] at hx
   obtain ⟨u, h1, h2⟩ := (hF B hB).2.2 _ x hx
   rw [h1]; exact h2.mono hle
 have hsepb : ∀ {B t k s0 s' c}, G.al b = some B → S.lv[t]? = some (k, s0) → G.tb t k = some (.blk B s' c) → False := fun h1 h2 h3 => hI.sep _ _ _ _ _ _ _ h1 h2 h3
 refine ⟨G2, ⟨?_, ?_, ?_, ?_, ?_, ?_, ?_, ?_⟩, ⟨?_, ?_⟩, ⟨hg.le.trans hle, hg.os, hg.tape, hg.output, hg.size, ?_, ?_, hg.oth⟩, ⟨?_, ?_, ?_, ?_, hkp.lvn⟩, hd.same2 hle htb2 rfl⟩
 ·intro b' B c h1 h2
  rw [hal2] at h1
  by_cases hbb : b = b'
  ·subst hbb
   rw [List.getElem?_set] at h2
   simp only [if_true] at h2
   split at h2
   ·cases h2; exact .inl rfl
   ·cases h2
  ·rw [List.getElem?_set_ne hbb] at h2
   rcases hI.box b' B c h1 h2 with rfl | ⟨us, T, k1, k2, k3, k4⟩
   ·exact .inl rfl
   ·refine .inr ⟨us, T, k1, k2, fun i x u hx hu => (k3 i x u hx hu).mono hle, fun o => ?_⟩
    rw [hfz2, if_neg (fun h => hbb (hI.injA b b' B h h1))]
    exact k4 o
 ·intro t k s0 B s' c h1 h2
  rw [htb2] at h2
  obtain ⟨e1, e2, e3, e4⟩ := hI.tok t k s0 B s' c h1 h2
  exact ⟨e1, e2, e3, fun o ho => by rw [hfz2, if_neg (fun h => hsepb h h1 h2)]; exact e4 o ho⟩
 ·intro k o u h
  rw [hfz2] at h
  split at h
  ·rename_i hB
   exact (hF k hB).2.1 o u h
  ·exact hI.fz k o u h
 ·intro b' B h
  rw [hal2] at h
  exact ⟨by rw [List.length_set]; exact (hI.dal b' B h).1, (hI.dal b' B h).2⟩
 ·intro t k v h
  rw [htb2] at h
  exact hI.dtb t k v h
 ·intro b1 b2 B h1 h2
  rw [hal2] at h1 h2
  exact hI.injA b1 b2 B h1 h2
 ·intro t t' k k' s0 s0' B s1 s2 c c' h1 h2 h3 h4
  rw [htb2] at h3 h4
  exact hI.injT t t' k k' s0 s0' B s1 s2 c c' h1 h2 h3 h4
 ·intro b' B t k s0 s' c h1 h2
  rw [hal2] at h1
  rw [htb2]
  exact hI.sep b' B t k s0 s' c h1 h2
 ·rw [List.length_set]; exact hR.size
 ·intro i y u hy hu
  rw [List.getElem?_set] at hy
  split at hy
  ·rename_i hki
   subst hki
   split at hy
   ·cases hy
    exact (hR.slot k v u hk hu).frzS hle hrop
   ·cases hy
  ·exact (hR.slot i y u hy hu).mono hle
 ·intro B hB hno
  obtain ⟨h1, h2⟩ := hg.fr B hB hno
  refine ⟨h1, fun o => ?_⟩
  rw [hfz2, if_neg (fun h => ?_)]
  ·exact h2 o
  ·rcases hg.own B (.inl ⟨b, h⟩) with h' | h'
   ·exact hno h'
   ·omega
 ·rintro B (⟨b', hb'⟩ | ⟨t, k, s0, s', c, h1, h2⟩)
  ·rw [hal2] at hb'
   exact hg.own B (.inl ⟨b', hb'⟩)
  ·rw [htb2] at h2
   exact hg.own B (.inr ⟨t, k, s0, s', c, h1, h2⟩)
 ·simp only [List.length_set]
  exact hkp.bl
 ·exact hkp.ll
 ·intro b' hb' h
  rw [hal2]
  exact hkp.al b' hb' h
 ·intro t ht h k
  rw [htb2]
  exact hkp.tb t ht h k

theorem compOp_cpy {P : Program} {ty : TypeId} {op : Op} {s : Nat} {d y : AOpd} (h : compOp P ty op = some (.cpy s d y)) : ∃ sd sy t e i, op = .call { callee := .builtin .copy, args := #[sd, sy], argTypes := #[t, t] } ∧ P.underlying t = some (.slice e) ∧ P.info? e = some i ∧ i.size = 1 ∧ compOpd sd = some d ∧ compOpd sy = some y := by
 unfold compOp at h
 split at h
 all_goals first
  | (rename_i args ts
     split at h
     ·rename_i x y' t u ha ht0
      simp only [Option.bind_eq_bind, Option.bind_eq_some_iff, Option.pure_def] at h
      obtain ⟨e, he, i, hi, h⟩ := h
      split at h
      ·rename_i hcond
       simp only [Bool.and_eq_true, decide_eq_true_eq] at hcond
       obtain ⟨htu, hs⟩ := hcond
       subst htu
       simp only [Option.bind_eq_some_iff, Option.some.injEq, AOp.cpy.injEq] at h
       obtain ⟨x', hx', y'', hy', hss, rfl, rfl⟩ := h
       have ea : args = #[x, y'] := by rw [← Array.toList_inj, ha]
       have et : ts = #[t, t] := by rw [← Array.toList_inj, ht0]
       subst ea et
       exact ⟨x, y', t, e, i, rfl, elemOf_ok he, hi, hs, hx', hy'⟩
      ·cases h
     ·cases h
     done)
  | (exfalso; cases h; done)
  | (exfalso; simp [Option.bind_eq_some_iff] at h; done)
  | skip
 all_goals (exfalso; revert h)
 all_goals (try (simp [Option.bind_eq_some_iff]; done))
 all_goals (repeat (first | (intro h; cases h; done) | split))
 all_goals (try (simp [Option.bind_eq_some_iff]; done))
 all_goals (try (repeat (first | (intro h; cases h; done) | split)))
 all_goals (try (intro h; simp [Option.bind_eq_some_iff] at h; done))
 all_goals (intro h; simp only [Option.bind_eq_bind, Option.bind_eq_some_iff, Option.pure_def, Option.map_eq_some_iff, Option.some.injEq, reduceCtorEq, and_false, exists_false] at h)
 all_goals (repeat' (first | (cases h; done) | (obtain ⟨_, _, h⟩ := h; try simp only [Option.bind_eq_bind, Option.bind_eq_some_iff, Option.pure_def, Option.map_eq_some_iff, Option.some.injEq, reduceCtorEq, and_false, exists_false] at h) | (simp [Option.bind_eq_some_iff] at h; done) | split at h))
def copyI {α : Type} (l : List α) (n : Nat) (src : List α) (m : Nat) : Option (List α) := if l.length = n ∧ src.length = m then some (src.take n ++ l.drop m) else none
theorem flat1 {α : Type} {f : α → AV} (hf : ∀ x, (f x).cells = [f x]) : ∀ (l : List α), flat (l.map f) = l.map f
 | [] => rfl
 | x :: l => by
  have ih := flat1 hf l
  simp only [flat, List.map_cons, List.flatMap_cons, hf] at ih ⊢
  rw [ih]
  rfl
theorem ExO.cpyL {c : Cx} {P : Program} {a : List AV} {S : St} {R : List AV → St → Prop} {x : AOper} {l : List AOper} {α : Type} {f : α → AV} {s : Nat} {d y : AOpd} (b n b2 m : Nat) (l0 src : List α) {r : List α} (hf : ∀ x, (f x).cells = [f x]) (hfs : ∀ x, (f x).scalar = true) (hw : wantedA x.guard a = some true) (ho : x.op = .cpy s d y) (hd : evd a d = .ms b n s) (hy : evd a y = .ms b2 m s) (hb : S.bx[b]? = some (flat (l0.map f))) (hb2 : S.bx[b2]? = some (src.map f)) (h0 : copyI l0 n src m = some r)
  (h : ExO c P l (putA a x.dst (.int .i64 ((min m n : Nat) : Int))) ⟨S.bx.set b (flat (r.map f)), S.lv⟩ R) : ExO c P (x :: l) a S R := by
 unfold copyI at h0
 split at h0
 case isFalse => cases h0
 rename_i hnm
 obtain ⟨hn, hm⟩ := hnm
 cases h0
 rw [flat1 hf] at hb h
 intro E hE ops l1 Q hco hq act w hA
 obtain ⟨o, l', rfl, hx, hl'⟩ := mapM_cons_inv hco
 obtain ⟨h1, h2, _⟩ := compOper_ok hx
 obtain ⟨G, hI, hR, hgr, hk, hdf⟩ := hA
 obtain ⟨sd, sy, t, e, i, hop, hu, hi, hi1, hsd, hsy⟩ := compOp_cpy (ho ▸ h1)
 simp only [wpList]
 rw [if_pos (wantedA_ok hx hR hw)]
 refine .inl ?_
 have v1 := hR.opd sd d hsd
 have v2 := hR.opd sy y hsy
 rw [hd] at v1
 rw [hy] at v2
 have hsz : (P.info? e).map (·.size) = some 1 := by rw [hi]; simp [hi1]
 have hblt := (List.getElem?_eq_some_iff.1 hb).1
 have fin0 : min m n = 0 → ∀ (p1 p2 : Option Addr) (c1 c2 : Nat), act.eval sd = .slice p1 n c1 → act.eval sy = .slice p2 m c2 → Oper.wp P o act w (fun act' w' => wpList P ops Q l' act' w') Q := by
  intro hmin p1 p2 c1 c2 e1 e2
  have hrun := run_copy_none (P := P) w t t o.type e p1 p2 n c1 m c2 hu hsz (by simpa using hmin)
  have hsame : src.take n ++ l0.drop m = l0 := by
   by_cases hm0 : m = 0
   ·obtain rfl : src = [] := List.eq_nil_of_length_eq_zero (by omega)
    rw [hm0]; simp
   ·obtain rfl : l0 = [] := List.eq_nil_of_length_eq_zero (by omega)
    have hn0 : n = 0 := by omega
    rw [hn0]; simp
  have hset : (⟨S.bx.set b ((src.take n ++ l0.drop m).map f), S.lv⟩ : St) = S := by
   rw [hsame]
   have : S.bx.set b (l0.map f) = S.bx := by
    apply List.ext_getElem?
    intro k
    rw [List.getElem?_set]
    split
    ·rename_i hk
     subst hk
     exact hb.symm
    ·rfl
   rw [this]
  rw [hset, hmin] at h
  unfold Oper.wp
  simp only [execOp, hop, resolve, invoke, builtin]
  simp [e1, e2, hrun, Result.andThen]
  exact h E hE ops l' Q hl' hq _ _ ⟨G, hI, h2 ▸ hR.put x.dst (.int _ _), hgr, hk, by cases o.dst <;> exact hdf⟩
 rcases v1.inv_ms with ⟨B1, c1, hB1, e1, hc1⟩ | ⟨hn0, p1, c1, e1⟩
 ·rcases v2.inv_ms with ⟨B2, c2, hB2, e2, hc2⟩ | ⟨hm0, p2, c2, e2⟩
  ·by_cases hmin : min m n = 0
   ·exact fin0 hmin _ _ _ _ e1 e2
   ·rcases hI.box b B1 _ hB1 hb with h0 | ⟨us, T, k1, k2, k3, k4⟩
    ·rw [List.map_eq_nil_iff.1 h0] at hn
     simp at hn; omega
    rcases hI.box b2 B2 _ hB2 hb2 with h0 | ⟨us2, T2, q1, q2, q3, q4⟩
    ·rw [List.map_eq_nil_iff.1 h0] at hm
     simp at hm; omega
    rw [List.length_map] at k2 q2
    obtain ⟨vs, hvs⟩ : ∃ vs, vs = us2.toList.take (min m n) := ⟨_, rfl⟩
    have hvl : vs.length = min m n := by rw [hvs, List.length_take, Array.length_toList]; omega
    have hvg : ∀ (j : Nat) v, vs[j]? = some v → us2[j]? = some v ∧ j < min m n := fun j v hj => by
     have hlt := (List.getElem?_eq_some_iff.1 hj).1
     rw [hvs, List.getElem?_take_of_lt (by omega)] at hj
     exact ⟨by simpa using hj, by omega⟩
    have hrun := run_copy_row (P := P) w t t o.type e B1 0 n c1 ⟨B2, 0, none⟩ m c2 us T vs hu hsz k1 (by simpa using hvl) (fun j v hj => by
     rw [Addr.add_lit, Nat.zero_add]
     simp [World.cell?, q1, (hvg j v hj).1]) (by omega) (fun v hv => by
     obtain ⟨j, hj⟩ := List.mem_iff_getElem?.1 hv
     obtain ⟨g1, g2⟩ := hvg j v hj
     have hjs : j < src.length := by omega
     exact (q3 j (f src[j]) v (by rw [List.getElem?_map, List.getElem?_eq_getElem hjs]; rfl) g1).scalar (hfs _))
    obtain ⟨usN, hN⟩ : ∃ usN, usN = (us.toList.take 0 ++ vs ++ us.toList.drop (0 + vs.length)).toArray := ⟨_, rfl⟩
    rw [← hN] at hrun
    have hNg : ∀ i : Nat, usN[i]? = if i < min m n then us2[i]? else us[i]? := fun i => by
     rw [hN, List.getElem?_toArray, List.take_zero, List.nil_append, Nat.zero_add]
     by_cases hi : i < min m n
     ·rw [if_pos hi, List.getElem?_append_left (by omega), hvs, List.getElem?_take_of_lt hi]
      simp
     ·rw [if_neg hi, List.getElem?_append_right (by omega), List.getElem?_drop, show vs.length + (i - vs.length) = i by omega]
      simp
    obtain ⟨p1, p2⟩ := put_box hI hB1 k1 hb (cs := (src.take n ++ l0.drop m).map f) (us := usN) ⟨by
     have : usN.size = us.size := by rw [hN]; simp; omega
     rw [this, List.length_map, List.length_append, List.length_take, List.length_drop]; omega, fun i z v hz hv => by
     rw [List.getElem?_map, Option.map_eq_some_iff] at hz
     obtain ⟨y', hy', rfl⟩ := hz
     rw [hNg] at hv
     by_cases hi : i < min m n
     ·rw [if_pos hi] at hv
      rw [List.getElem?_append_left (by rw [List.length_take]; omega), List.getElem?_take_of_lt (by omega)] at hy'
      exact q3 i _ v (by rw [List.getElem?_map, hy']; rfl) hv
     ·rw [if_neg hi] at hv
      have hlt := (List.getElem?_eq_some_iff.1 hy').1
      rw [List.length_append, List.length_take, List.length_drop] at hlt
      have hmn : m < n := by omega
      rw [List.getElem?_append_right (by rw [List.length_take]; omega), List.length_take, List.getElem?_drop, show m + (i - min n src.length) = i by omega] at hy'
      exact k3 i _ v (by rw [List.getElem?_map, hy']; rfl) hv⟩ k4
    unfold Oper.wp
    simp only [execOp, hop, resolve, invoke, builtin]
    simp [e1, e2, hrun, Result.andThen]
    refine h E hE ops l' Q hl' hq _ _ ⟨G, p1, h2 ▸ hR.put x.dst (by rw [hvl]; exact .int _ _), hgr.trans p2, hk.trans (Keep.put G S b _), by cases o.dst <;> exact hdf.step p2 (Keep.put G S b _)⟩
  ·exact fin0 (by omega) _ _ _ _ e1 (by rw [hm0]; exact e2)
 ·rcases v2.inv_ms with ⟨B2, c2, hB2, e2, hc2⟩ | ⟨hm0, p2, c2, e2⟩
  ·exact fin0 (by omega) _ _ _ _ (by rw [hn0]; exact e1) e2
  ·exact fin0 (by omega) _ _ _ _ (by rw [hn0]; exact e1) (by rw [hm0]; exact e2)
theorem re1_clean {x : AV} (h : x.clean = true) (n : Nat) (σ : List Nat) : re1 n σ x = some x := by
 cases x with
 | ptr b o => simp [AV.clean] at h
 | ms b k s => simp [AV.clean] at h
 | yld l t => rfl
 | sl els t => cases t with
  | none => simp [re1, h]
  | some t => simp [AV.clean] at h
 | _ => simp [re1, h]
theorem re_clean {x : AV} (h : x.clean = true) (n : Nat) (σ : List Nat) : re n σ x = some x := by
 cases x with
 | agg cs =>
  simp only [re]
  rw [mapM_id cs fun y hy => re1_clean (cleanL_iff.1 (by simpa [AV.clean] using h) y hy) n σ]
  rfl
 | tup cs =>
  simp only [re]
  rw [mapM_id cs fun y hy => re1_clean (cleanL_iff.1 (by simpa [AV.clean] using h) y hy) n σ]
  rfl
 | fn f ps cs =>
  simp only [AV.clean, Bool.and_eq_true] at h
  simp only [re]
  rw [mapM_id ps fun y hy => re1_clean (cleanL_iff.1 h.1 y hy) n σ, mapM_id cs fun y hy => re1_clean (cleanL_iff.1 h.2 y hy) n σ]
  rfl
 | _ => exact re1_clean h n σ
theorem flat_reC {α : Type} {f : α → AV} (h : ∀ x, ∀ c ∈ (f x).cells, c.clean = true) (n : Nat) (σ : List Nat) (l : List α) : (flat (l.map f)).mapM (re n σ) = some (flat (l.map f)) :=
 mapM_id _ fun c hc => by
  obtain ⟨e, he, hce⟩ := List.mem_flatMap.1 hc
  obtain ⟨x, _, rfl⟩ := List.mem_map.1 he
  have h1 := h x c hce
  exact re_clean h1 n σ
theorem stHole {α : Type} {f : α → AV} (l : List α) (off : Nat) (i : Int) (x : α) (m : AV) (hs : ∀ x, (f x).cells.length = 1) (hx : l[i.toNat]? = some x) (ho : off = i.toNat) : off + 1 ≤ (flat (l.map f)).length ∧ layAt (flat (l.map f)) off [m] = layAt (flat (l.map f)) off [m] := by
 have := (List.getElem?_eq_some_iff.1 hx).1
 refine ⟨?_, rfl⟩
 rw [flat_lenF hs]; omega
theorem ldHole {α : Type} {f : α → AV} (l : List α) (off : Nat) (i : Int) (x : α) (m : AV) (hs : ∀ x, (f x).cells.length = 1) (hx : l[i.toNat]? = some x) (ho : off = i.toNat) : takeCells (layAt (flat (l.map f)) off [m]) off none = some m := by
 have := (List.getElem?_eq_some_iff.1 hx).1
 simp only [takeCells, layAt]
 rw [List.getElem?_set_self]
 rw [flat_lenF hs]; omega
theorem chillH {α : Type} {g : α → AV} {n0 : Cx} {a : List AV} {S : St} (b b2 n s off : Nat) (i : Int) (r : List α) (l : List (List α)) {u : Unit} {x : List α} (hn : lenI r n = some u) (hb : S.bx[b]? = some (flat (r.map g))) (hs : ∀ x, (g x).cells.length = s) (hx : l[i.toNat]? = some x) (ho : off = i.toNat) (h2 : S.bx[b2]? = some (layAt (flat (l.map (SV g))) off [.ms b n s])) (hbb : b ≠ b2) : Forgets n0 a S a ⟨(S.bx.set b []).set b2 (flat ((l.set i.toNat r).map (SV g))), S.lv⟩ := by
 subst ho
 have hlt := (List.getElem?_eq_some_iff.1 hx).1
 have hc : ∀ x : List α, (SV g x).cells = [SV g x] := fun _ => rfl
 have key := chillX (n0 := n0) (a := a) (S := S) b b2 i.toNat n s r _ hn hb hs h2 hbb (by
  simp only [layAt]
  rw [List.getElem?_set_self]
  rw [flat1 hc, List.length_map]; exact hlt)
 have e : (layAt (flat (l.map (SV g))) i.toNat [AV.ms b n s]).set i.toNat (.sl (r.map g) none) = flat ((l.set i.toNat r).map (SV g)) := by
  simp only [layAt]
  rw [List.set_set, flat1 hc, flat1 hc, List.map_set]
  rfl
 rw [e] at key
 exact key
end Go.Proofs.Ytfhapfljomgmnaa
end
section
namespace Go.Proofs.Ytfhapfljomgmnaa
open Go.RowKit

def Cx.one : Cx := ⟨0, 1, 0, [], fun _ h => (by cases h), fun _ h => (by cases h)⟩
@[simp] theorem Cx.one_n : Cx.one.n = 0 := rfl
@[simp] theorem Cx.one_m : Cx.one.m = 1 := rfl
@[simp] theorem Cx.zero_n : Cx.n 0 = 0 := rfl
@[simp] theorem Cx.zero_m : Cx.m 0 = 0 := rfl
@[simp] theorem cleanI3 (k : IntKind) (l : List (List (List Int))) : cleanL (l.map (SV (SV (AV.int k)))) = true := cleanM (fun x => by simp only [SV, AV.clean]; exact cleanII k x) l
structure DoesG (P : Program) (f : FuncId) (xs : List AV) (n s : Nat) (K : List AV → Prop) : Prop where
 enter : ∀ (us : Array Value) (w : World), (callFunc f us).run P w = .ok (.enter f us) w
 calls : ∀ (G : Gh) (w : World) (us : Array Value), Inv G ⟨[], [(n, s)]⟩ w → (∃ v, G.tb 0 n = some v) → VRs G xs us → Calls P f us w fun e w' => ∃ u r G' bx lv, K r ∧ e = .returned u ∧ VR G' (.sl r (some 0)) u ∧ lv[0]? = some (r.length, s) ∧ Inv G' ⟨bx, lv⟩ w' ∧ Gro G ⟨[], [(n, s)]⟩ w G' ⟨bx, lv⟩ w'
theorem DoesG.of {P : Program} {f : FuncId} {F : AFn} (hF : compFn P f = some F) {xs : List AV} {n s : Nat} {K : List AV → Prop}
  (h : Ex Cx.one .plain P F.code (start F xs) ⟨[], [(n, s)]⟩ fun x a' S' => (x = .norm ∨ x = .ret) ∧ ∃ r, evRes a' S' F.res = some (.sl r (some 0)) ∧ S'.lv[0]? = some (r.length, s) ∧ K r) : DoesG P f xs n s K := by
 unfold compFn at hF
 split at hF
 ·rename_i fn hf
  split at hF
  ·rename_i c rs hb hrs
   split at hF
   ·rename_i ac hac
    split at hF
    ·cases hF
    ·rename_i hname
     cases hF
     refine ⟨fun us w => ?_, fun G w us hI htb hvs => ?_⟩
     ·simp only [callFunc, program, Sem.run, hf, Sem.run_bind, Result.andThen_ok, hname, hb]
      rfl
     ·refine calls_of_marks hf hb ?_
      have hR := start_rel (F := ⟨fn.params.size, fn.ntmps, rs, ac⟩) (n := fn.ntmps) rfl hvs
      let E : Ent := ⟨G, ⟨[], [(n, s)]⟩, w, [], hI, Cx.one, Nat.le_refl _, fun t ht => by
       obtain ⟨v, hv⟩ := htb
       have : t = 0 := by simpa using ht
       subst this
       exact ⟨n, v, hv⟩, Nat.le_refl _, fun _ h => (by cases h), w.heap.size, Nat.le_refl _⟩
      refine wp_mono (h E rfl c hac _ w ⟨G, hI, hR, .refl _ _ _, .refl _ _, ⟨⟨[], rfl, .nil, fun _ h => (by cases h)⟩, fun _ h => (by cases h), Nat.le_refl _, Nat.zero_le _, Nat.le_refl _⟩⟩) ?_
      rintro e act' w' ⟨x, a', S', he, ⟨hx, r, hv, hl, hq⟩, G', hI', hR', hg, hk, hd⟩
      obtain ⟨Ds, e1, e2, e3⟩ := hd.d
      have e1 : act'.defers = Ds.map markOf := by rw [e1]; exact List.append_nil _
      have hI' := hI'.shut e2 fun D hD => (e3 D hD).2
      have hg := hg.shut fun D hD => (e3 D hD).1.1
      obtain ⟨u, h1, h2⟩ := res_ok hI' hR' hrs hv
      obtain ⟨S'bx, S'lv⟩ := S'
      rcases hx with rfl | rfl
      ·subst he; exact ⟨.inl rfl, Ds, e1, e2, fun D hD => (e3 D hD).2, u, h1, u, r, G', S'bx, S'lv, hq, rfl, h2, hl, hI', hg⟩
      ·subst he; exact ⟨.inr rfl, Ds, e1, e2, fun D hD => (e3 D hD).2, u, h1, u, r, G', S'bx, S'lv, hq, rfl, h2, hl, hI', hg⟩
   ·cases hF
  ·cases hF
 ·cases hF

def Gh.subT (G : Gh) (t : Nat) : Gh := ⟨fun _ => none, fun t' k => if t' = 0 then G.tb t k else none, G.fz⟩
theorem subT_inv {G : Gh} {S : St} {w : World} {t n s : Nat} (hI : Inv G S w) (hlv : S.lv[t]? = some (n, s)) : Inv (G.subT t) ⟨[], [(n, s)]⟩ w := by
 have h0 : ∀ (t' : Nat) (p : Nat × Nat), ([(n, s)] : List (Nat × Nat))[t']? = some p → t' = 0 ∧ p = (n, s) := fun t' p h => by
  cases t' with
  | zero => exact ⟨rfl, by simpa using h.symm⟩
  | succ t' => simp at h
 refine ⟨fun b B cs h => by simp [Gh.subT] at h, fun t' k s0 B s' c h1 h2 => ?_, hI.fz, fun b B h => by simp [Gh.subT] at h, fun t' k v h => ?_, fun b b' B h => by simp [Gh.subT] at h, fun t' t'' k k' s0 s0' B s1 s2 c c' h1 h2 h3 h4 => ?_, fun b B t' k s0 s1 c h => by simp [Gh.subT] at h⟩
 ·obtain ⟨rfl, hp⟩ := h0 _ _ h1
  cases hp
  simp only [Gh.subT, if_true] at h2
  exact hI.tok t n s B s' c hlv h2
 ·simp only [Gh.subT] at h
  split at h
  ·rename_i ht
   subst ht
   obtain ⟨m, s', h1, h2⟩ := hI.dtb t k v h
   rw [hlv] at h1
   cases h1
   exact ⟨n, s, rfl, h2⟩
  ·cases h
 ·rw [(h0 _ _ h1).1, (h0 _ _ h2).1]
theorem subT_val {G : Gh} {t n : Nat} {els : List AV} {u : Value} (h : VR G (.sl els (some t)) u) (hl : els.length = n) (hcl : cleanL els = true) : VR (G.subT t) (.sl els (some 0)) u ∧ ∃ v, G.tb t n = some v := by
 cases h with
 | slt _ _ s' B c us hb hn' hs' hf hvv =>
  refine ⟨.slt els 0 s' B c us (by simp [Gh.subT, hb]) hn' hs' hf fun i e j x h1 h2 => (hvv i e j x h1 h2).move ?_ (fun b o v h => h), by rw [← hl]; exact ⟨_, hb⟩⟩
  have he := cleanL_iff.1 hcl e (List.mem_of_getElem? h1)
  have hx := List.mem_of_getElem? h2
  cases e <;> simp only [AV.cells, List.mem_singleton] at hx <;> first | (subst hx; exact he) | exact cleanL_iff.1 (by simpa [AV.clean] using he) x hx
 | slt0 _ hb => exact ⟨.slt0 0 (by simp [Gh.subT, hb]), by rw [← hl]; exact ⟨_, hb⟩⟩
theorem grow_back {S : St} {G Gc : Gh} {w w' : World} {bx : List (List AV)} {lv : List (Nat × Nat)} {r : List AV} {t n s : Nat} {u : Value} (hI : Inv G S w) (hlv : S.lv[t]? = some (n, s)) (htb : ∃ v, G.tb t n = some v)
  (hI' : Inv Gc ⟨bx, lv⟩ w') (hg : Gro (G.subT t) ⟨[], [(n, s)]⟩ w Gc ⟨bx, lv⟩ w') (hv : VR Gc (.sl r (some 0)) u) (hl' : lv[0]? = some (r.length, s)) (hcl : cleanL r = true) :
  ∃ G2, VR G2 (.sl r (some t)) u ∧ Inv G2 ⟨S.bx, S.lv.set t (r.length, s)⟩ w' ∧ Gro G S w G2 ⟨S.bx, S.lv.set t (r.length, s)⟩ w' ∧ Keep G S G2 ⟨S.bx, S.lv.set t (r.length, s)⟩ := by
 have htl : t < S.lv.length := (List.getElem?_eq_some_iff.1 hlv).1
 have hown : ∀ B, Owned (G.subT t) ⟨[], [(n, s)]⟩ B → ∃ s' c, G.tb t n = some (.blk B s' c) := by
  rintro B (⟨b, hb⟩ | ⟨t', k, s0, s', c, h1, h2⟩)
  ·simp [Gh.subT] at hb
  ·cases t' with
   | zero =>
    have : (n, s) = (k, s0) := by simpa using h1
    cases this
    exact ⟨s', c, by simpa [Gh.subT] using h2⟩
   | succ t' => simp at h1
 have hownS : ∀ B, Owned (G.subT t) ⟨[], [(n, s)]⟩ B → Owned G S B := fun B h => by
  obtain ⟨s', c, h'⟩ := hown B h
  exact .inr ⟨t, n, s, s', c, hlv, h'⟩
 have hfr : ∀ B, B < w.heap.size → (∀ s' c, G.tb t n ≠ some (.blk B s' c)) → w'.heap[B]? = w.heap[B]? ∧ ∀ o, Gc.fz B o = G.fz B o := fun B hB hno => hg.fr B hB (fun h => by
  obtain ⟨s', c, h'⟩ := hown B h
  exact hno s' c h')
 obtain ⟨G2, hG2⟩ : ∃ G2 : Gh, G2 = ⟨G.al, fun t' k => if t' = t then Gc.tb 0 k else G.tb t' k, Gc.fz⟩ := ⟨_, rfl⟩
 have htb1 : ∀ t' k, t' ≠ t → G2.tb t' k = G.tb t' k := fun t' k h => by rw [hG2]; simp [h]
 have htb2 : ∀ k, G2.tb t k = Gc.tb 0 k := fun k => by rw [hG2]; simp
 have hal2 : G2.al = G.al := by rw [hG2]
 have hfz2 : G2.fz = Gc.fz := by rw [hG2]
 have hle : G.le G2 := by
  refine ⟨fun b B h => by rw [hal2]; exact h, fun t' k v h => ?_, fun k o v h => by rw [hfz2]; exact hg.le.fz k o v h⟩
  by_cases ht : t' = t
  ·subst ht
   rw [htb2]
   exact hg.le.tb 0 k v (by simp [Gh.subT, h])
  ·rw [htb1 t' k ht]; exact h
 have hlva : ∀ (t' : Nat) p, (S.lv.set t (r.length, s))[t']? = some p → (t' ≠ t ∧ S.lv[t']? = some p) ∨ (t' = t ∧ p = (r.length, s)) := by
  intro t' p h
  by_cases ht : t' = t
  ·subst ht
   rw [List.getElem?_set_self htl] at h
   exact .inr ⟨rfl, by simpa using h.symm⟩
  ·rw [List.getElem?_set_ne (Ne.symm ht)] at h
   exact .inl ⟨ht, h⟩
 have hnew : ∀ B s' c, Gc.tb 0 r.length = some (.blk B s' c) → (∃ s'' c', G.tb t n = some (.blk B s'' c')) ∨ w.heap.size ≤ B := by
  intro B s' c h
  rcases hg.own B (.inr ⟨0, r.length, s, s', c, hl', h⟩) with h' | h'
  ·exact .inl (hown B h')
  ·exact .inr h'
 have hold : ∀ t' k s0 B s' c, (S.lv.set t (r.length, s))[t']? = some (k, s0) → G2.tb t' k = some (.blk B s' c) → (t' ≠ t ∧ S.lv[t']? = some (k, s0) ∧ G.tb t' k = some (.blk B s' c) ∧ B < w.heap.size ∧ (∀ s'' c', G.tb t n ≠ some (.blk B s'' c'))) ∨ (t' = t ∧ (k, s0) = (r.length, s) ∧ Gc.tb 0 r.length = some (.blk B s' c)) := by
  intro t' k s0 B s' c h1 h2
  rcases hlva t' _ h1 with ⟨hne, h3⟩ | ⟨rfl, h3⟩
  ·rw [htb1 t' k hne] at h2
   exact .inl ⟨hne, h3, h2, hI.toklt h3 h2, fun s'' c' h => hne (hI.injT t' t k n s0 s B s' s'' c c' h3 hlv h2 h)⟩
  ·cases h3
   rw [htb2] at h2
   exact .inr ⟨rfl, rfl, h2⟩
 have hnbox : ∀ b B, G.al b = some B → ∀ s' c, G.tb t n ≠ some (.blk B s' c) := fun b B h s' c => hI.sep b B t n s s' c h hlv
 refine ⟨G2, ?_, ⟨?_, ?_, ?_, ?_, ?_, ?_, ?_, ?_⟩, ⟨hle, hg.os, hg.tape, hg.output, hg.size, ?_, ?_, hg.oth⟩, ⟨Nat.le_refl _, by simp, ?_, ?_, ?_⟩⟩
 ·cases hv with
  | slt _ _ s' B c us hb hn' hs' hf hvv =>
   refine .slt r t s' B c us (by rw [htb2]; exact hb) hn' hs' (fun i e j x h1 h2 => by rw [hfz2]; exact hf i e j x h1 h2) fun i e j x h1 h2 => (hvv i e j x h1 h2).move ?_ (fun b o v h => by rw [hfz2]; exact h)
   have he := cleanL_iff.1 hcl e (List.mem_of_getElem? h1)
   have hx := List.mem_of_getElem? h2
   cases e <;> simp only [AV.cells, List.mem_singleton] at hx <;> first | (subst hx; exact he) | exact cleanL_iff.1 (by simpa [AV.clean] using he) x hx
  | slt0 _ hb => exact .slt0 t (by rw [htb2]; exact hb)
 ·intro b B cs hb hcs
  rw [hal2] at hb
  obtain ⟨f1, f2⟩ := hfr B (hI.dal b B hb).2 (hnbox b B hb)
  rcases hI.box b B cs hb hcs with rfl | ⟨us', T', k1, k2, k3, k4⟩
  ·exact .inl rfl
  ·exact .inr ⟨us', T', by rw [f1]; exact k1, k2, fun i x u hx hu => (k3 i x u hx hu).mono hle, fun o => by rw [hfz2, f2]; exact k4 o⟩
 ·intro t' k s0 B s' c h1 h2
  rcases hold t' k s0 B s' c h1 h2 with ⟨_, h3, h4, h5, h6⟩ | ⟨rfl, h3, h4⟩
  ·obtain ⟨k1, ⟨us', T', k2, k3⟩, k4, k5⟩ := hI.tok t' k s0 B s' c h3 h4
   obtain ⟨f1, f2⟩ := hfr B h5 h6
   exact ⟨k1, ⟨us', T', by rw [f1]; exact k2, k3⟩, k4, fun o ho => by rw [hfz2, f2]; exact k5 o ho⟩
  ·cases h3
   obtain ⟨k1, k2, k3, k4⟩ := hI'.tok 0 r.length s B s' c hl' h4
   exact ⟨k1, k2, k3, fun o ho => by rw [hfz2]; exact k4 o ho⟩
 ·intro k o v h
  rw [hfz2] at h
  exact hI'.fz k o v h
 ·intro b B hb
  rw [hal2] at hb
  exact ⟨(hI.dal b B hb).1, Nat.lt_of_lt_of_le (hI.dal b B hb).2 hg.size⟩
 ·intro t' k v h
  by_cases ht : t' = t
  ·subst ht
   rw [htb2] at h
   obtain ⟨m, s', h1, h2⟩ := hI'.dtb 0 k v h
   have h1 : lv[0]? = some (m, s') := h1
   rw [hl'] at h1
   cases h1
   exact ⟨r.length, s, List.getElem?_set_self htl, h2⟩
  ·rw [htb1 t' k ht] at h
   obtain ⟨m, s', h1, h2⟩ := hI.dtb t' k v h
   exact ⟨m, s', by rw [List.getElem?_set_ne (Ne.symm ht)]; exact h1, h2⟩
 ·rw [hal2]; exact hI.injA
 ·intro t' t'' k k' s0 s0' B s1 s2 c c' h1 h2 h3 h4
  rcases hold t' k s0 B s1 c h1 h3 with ⟨_, g1, g2, g3, g4⟩ | ⟨rfl, g1, g2⟩ <;> rcases hold t'' k' s0' B s2 c' h2 h4 with ⟨_, j1, j2, j3, j4⟩ | ⟨rfl, j1, j2⟩
  ·exact hI.injT t' t'' k k' s0 s0' B s1 s2 c c' g1 j1 g2 j2
  ·rcases hnew _ _ _ j2 with ⟨x, y, h⟩ | h
   ·exact absurd h (g4 x y)
   ·omega
  ·rcases hnew _ _ _ g2 with ⟨x, y, h⟩ | h
   ·exact absurd h (j4 x y)
   ·omega
  ·rfl
 ·intro b B t' k s0 s1 c h1 h2 h3
  rw [hal2] at h1
  rcases hold t' k s0 B s1 c h2 h3 with ⟨_, g1, g2, g3, _⟩ | ⟨rfl, g1, g2⟩
  ·exact hI.sep b B t' k s0 s1 c h1 g1 g2
  ·rcases hnew _ _ _ g2 with ⟨x, y, h⟩ | h
   ·exact hnbox b B h1 x y h
   ·have := (hI.dal b B h1).2; omega
 ·intro B hB hno
  obtain ⟨f1, f2⟩ := hg.fr B hB (fun h => hno (hownS B h))
  exact ⟨f1, fun o => by rw [hfz2]; exact f2 o⟩
 ·rintro B (⟨b, hb⟩ | ⟨t', k, s0, s', c, h1, h2⟩)
  ·rw [hal2] at hb
   exact .inl (.inl ⟨b, hb⟩)
  ·rcases hold t' k s0 B s' c h1 h2 with ⟨_, g1, g2, g3⟩ | ⟨rfl, g1, g2⟩
   ·exact .inl (.inr ⟨t', k, s0, s', c, g1, g2⟩)
   ·rcases hnew _ _ _ g2 with ⟨x, y, h⟩ | h
    ·exact .inl (.inr ⟨_, n, s, x, y, hlv, h⟩)
    ·exact .inr h
 ·intro b _ h
  rw [hal2]; exact h
 ·intro t' ht' h k
  by_cases ht : t' = t
  ·subst ht
   obtain ⟨v, hv'⟩ := htb
   rw [h] at hv'; cases hv'
  ·rw [htb1 t' k ht]; exact h k
 ·intro t' ht' h
  by_cases ht : t' = t
  ·subst ht
   obtain ⟨v, hv'⟩ := htb
   rw [h] at hv'; cases hv'
  ·exact List.getElem?_set_ne (Ne.symm ht)

structure GroR where
 f : FuncId
 pre : List AV
 els : List AV
 post : List AV
 n : Nat
 s : Nat
 r : List AV
 m : Nat
def GroOk (P : Program) (q : GroR) : Prop := DoesG P q.f (q.pre ++ .sl q.els (some 0) :: q.post) q.n q.s (fun r => r = q.r) ∧ cleanL q.r = true ∧ cleanL q.els = true ∧ q.els.length = q.n ∧ q.r.length = q.m
theorem mapM_ren_val {G G2 : Gh} {ys zs : List AV} (h : (ys.map fadeS).mapM (ren []) = some zs) (hfz : G2.fz = G.fz) : zs.length = ys.length ∧ ∀ (i : Nat) y, zs[i]? = some y → ∃ x, ys[i]? = some x ∧ ∀ u, VR G x u → VR G2 y u := by
 obtain ⟨h1, h2⟩ := mapM_get h
 refine ⟨by simpa using h1, fun i y hy => ?_⟩
 obtain ⟨x0, hx0, hr⟩ := h2 i y hy
 rw [List.getElem?_map, Option.map_eq_some_iff] at hx0
 obtain ⟨x, hx, rfl⟩ := hx0
 refine ⟨x, hx, fun u hu => ?_⟩
 have k1 := VR.ren (bs := []) hu.fadeS hr
 exact k1.mono ⟨fun b B h => by simp [Gh.sub] at h, fun t n v h => by simp [Gh.sub] at h, fun b o v h => by rw [hfz]; exact h⟩
theorem mid_vrs {G G2 : Gh} {pre pre' post post' : List AV} {x x' : AV} {us : Array Value} (hv : VRs G (pre ++ x :: post) us) (h1 : (pre.map fadeS).mapM (ren []) = some pre') (h2 : (post.map fadeS).mapM (ren []) = some post') (hfz : G2.fz = G.fz) (hx : ∀ u, VR G x u → VR G2 x' u) : VRs G2 (pre' ++ x' :: post') us := by
 obtain ⟨a1, a2⟩ := mapM_ren_val (G := G) (G2 := G2) h1 hfz
 obtain ⟨b1, b2⟩ := mapM_ren_val (G := G) (G2 := G2) h2 hfz
 refine ⟨by rw [hv.1]; simp [a1, b1], fun i y u hy hu => ?_⟩
 by_cases hi : i < pre'.length
 ·rw [List.getElem?_append_left hi] at hy
  obtain ⟨z, hz, hk⟩ := a2 i y hy
  exact hk u (hv.2 i z u (by rw [List.getElem?_append_left (by omega)]; exact hz) hu)
 ·rw [List.getElem?_append_right (by omega)] at hy
  obtain ⟨k, hk⟩ : ∃ k, i - pre'.length = k := ⟨_, rfl⟩
  rw [hk] at hy
  cases k with
  | zero =>
   simp only [List.getElem?_cons_zero, Option.some.injEq] at hy
   subst hy
   have : i = pre.length := by omega
   subst this
   exact hx u (hv.2 _ x u (mid_at _ _ _) hu)
  | succ k =>
   rw [List.getElem?_cons_succ] at hy
   obtain ⟨z, hz, hk'⟩ := b2 k y hy
   refine hk' u (hv.2 i z u ?_ hu)
   rw [List.getElem?_append_right (by omega), show i - pre.length = k + 1 by omega, List.getElem?_cons_succ]
   exact hz
open Classical in
noncomputable def groC (q : GroR) (t : Nat) (X : Clr) : Clr := fun f xs S => if f = q.f ∧ (∃ pre post, xs = pre ++ .sl q.els (some t) :: post ∧ (pre.map fadeS).mapM (ren []) = some q.pre ∧ (post.map fadeS).mapM (ren []) = some q.post) ∧ S.lv[t]? = some (q.n, q.s) then some (.sl q.r (some t), some ⟨S.bx, S.lv.set t (q.m, q.s)⟩) else X f xs S
theorem groC_ok {P : Program} {q : GroR} {t : Nat} {X : Clr} (hr : GroOk P q) (hX : ClrOk P X) : ClrOk P (groC q t X) := ⟨by
 intro f gs S v S' h G w us hI hv
 by_cases hc : f = q.f ∧ (∃ pre post, gs = pre ++ .sl q.els (some t) :: post ∧ (pre.map fadeS).mapM (ren []) = some q.pre ∧ (post.map fadeS).mapM (ren []) = some q.post) ∧ S.lv[t]? = some (q.n, q.s)
 ·simp only [callS, groC, if_pos hc, Option.some.injEq, Prod.mk.injEq] at h
  obtain ⟨rfl, rfl⟩ := h
  obtain ⟨rfl, ⟨pre, post, rfl, hp, hq⟩, hlv⟩ := hc
  have hmid := hv.2 pre.length _ us[pre.length]! (mid_at _ _ _) (by
   have : pre.length < us.size := by rw [hv.1]; simp
   simp [this])
  obtain ⟨_, htb⟩ := subT_val hmid hr.2.2.2.1 hr.2.2.1
  have hvs := mid_vrs (G2 := G.subT t) (x' := .sl q.els (some 0)) hv hp hq rfl (fun u hu => (subT_val hu hr.2.2.2.1 hr.2.2.1).1)
  refine ⟨hr.1.enter us w, (hr.1.calls (G.subT t) w us (subT_inv hI hlv) (by obtain ⟨v, h⟩ := htb; exact ⟨v, by simpa [Gh.subT] using h⟩) hvs).mono ?_⟩
  rintro e w' ⟨u, r, Gc, bx, lv, rfl, rfl, hvr, hl', hI', hg'⟩
  obtain ⟨G2, h1, h2, h3, h4⟩ := grow_back hI hlv htb hI' hg' hvr hl' hr.2.1
  rw [hr.2.2.2.2] at h2 h3 h4
  exact ⟨u, G2, rfl, h1, h2, h3, h4⟩
 ·have h' : callS X f gs S = some (v, S') := by
   simp only [callS, groC, if_neg hc] at h
   exact h
  exact hX.ok f gs S v S' h' G w us hI hv⟩
theorem groC_call {q : GroR} {t : Nat} {X : Clr} {pre post : List AV} {S : St} (hp : (pre.map fadeS).mapM (ren []) = some q.pre) (hq : (post.map fadeS).mapM (ren []) = some q.post) (hl : S.lv[t]? = some (q.n, q.s)) : callS (groC q t X) q.f (pre ++ .sl q.els (some t) :: post) S = some (.sl q.r (some t), ⟨S.bx, S.lv.set t (q.m, q.s)⟩) := by
 have : q.f = q.f ∧ (∃ pre' post', pre ++ AV.sl q.els (some t) :: post = pre' ++ .sl q.els (some t) :: post' ∧ (pre'.map fadeS).mapM (ren []) = some q.pre ∧ (post'.map fadeS).mapM (ren []) = some q.post) ∧ S.lv[t]? = some (q.n, q.s) := ⟨rfl, ⟨pre, post, rfl, hp, hq⟩, hl⟩
 simp only [callS, groC, if_pos this]
theorem ExO.callG {n0 : Cx} {P : Program} {R : List AV → St → Prop} {x : AOper} {l : List AOper} {a : List AV} {S : St} {q : GroR} (hr : GroOk P q) (pre : List AV) (t : Nat) (post : List AV) (hw : wantedA x.guard a = some true) (hv : aop x.op (evd a) S = some (.call q.f (pre ++ .sl q.els (some t) :: post))) (hp : (pre.map fadeS).mapM (ren []) = some q.pre) (hq : (post.map fadeS).mapM (ren []) = some q.post) (hl : S.lv[t]? = some (q.n, q.s)) (h : ExO n0 P l (putA a x.dst (.sl q.r (some t))) ⟨S.bx, S.lv.set t (q.m, q.s)⟩ R) : ExO n0 P (x :: l) a S R :=
 ExO.op (groC_ok (t := t) hr (noClr_ok P)) hw (by rw [evOp_call hv, groC_call hp hq hl]) h
theorem ExO.callG0 {n0 : Cx} {P : Program} {R : List AV → St → Prop} {x : AOper} {l : List AOper} {a : List AV} {S : St} {q : GroR} (hr : GroOk P q) (pre post : List AV) (hels : q.els = []) (hw : wantedA x.guard a = some true) (hv : aop x.op (evd a) S = some (.call q.f (pre ++ .nils :: post))) (hp : (pre.map fadeS).mapM (ren []) = some q.pre) (hq : (post.map fadeS).mapM (ren []) = some q.post) (h : ExO n0 P l (putA a x.dst (.sl q.r (some S.lv.length))) ⟨S.bx, S.lv ++ [(q.m, q.s)]⟩ R) : ExO n0 P (x :: l) a S R := by
 intro E hn ops l0 Q hco hqq act w hA
 obtain ⟨o, l', rfl, hx, hl'⟩ := mapM_cons_inv hco
 obtain ⟨h1, h2, _⟩ := compOper_ok hx
 obtain ⟨G, hI, hR, hg, hk, hd⟩ := hA
 simp only [wpList]
 rw [if_pos (wantedA_ok hx hR hw)]
 refine .inl ?_
 unfold Oper.wp
 obtain ⟨us, hrun, hvs⟩ := step_ok h1 (fun _ => rfl) hR.opd hI hv
 let G0 : Gh := ⟨fun _ => none, fun t' k => if t' = 0 ∧ k = 0 then some .nil else none, G.fz⟩
 have hb0 : ∀ t' k B s' c, G0.tb t' k ≠ some (.blk B s' c) := fun t' k B s' c h => by
  simp only [G0] at h
  split at h <;> cases h
 have hI0 : Inv G0 ⟨[], [(0, q.s)]⟩ w := by
  refine ⟨fun b B cs h => by simp [G0] at h, fun t' k s0 B s' c h1 h2 => absurd h2 (hb0 _ _ _ _ _), hI.fz, fun b B h => by simp [G0] at h, fun t' k v h => ?_, fun b b' B h => by simp [G0] at h, fun t' t'' k k' s0 s0' B s1 s2 c c' h1 h2 h3 h4 => absurd h3 (hb0 _ _ _ _ _), fun b B t' k s0 s1 c h => by simp [G0] at h⟩
  simp only [G0] at h
  split at h
  ·rename_i ht
   obtain ⟨rfl, rfl⟩ := ht
   exact ⟨0, q.s, rfl, Nat.le_refl _⟩
  ·cases h
 have hvs0 := mid_vrs (G2 := G0) (x' := .sl q.els (some 0)) hvs hp hq rfl (fun u hu => by
  cases hu
  rw [hels]
  exact .slt0 0 (by simp [G0]))
 have hle0 : q.n = 0 := by rw [← hr.2.2.2.1, hels]; rfl
 have hcalls := hr.1.calls G0 w us (by rw [hle0]; exact hI0) ⟨.nil, by rw [hle0]; simp [G0]⟩ hvs0
 rw [hrun, hr.1.enter]
 simp only [Oper.upon_enter]
 refine hcalls.mono ?_
 rintro e w' ⟨u, r, Gc, bx, lv, rfl, rfl, hvr, hlv', hI', hg'⟩
 rw [hle0] at hg'
 have hno : ∀ B, ¬ Owned G0 ⟨[], [(0, q.s)]⟩ B := by
  rintro B (⟨b, hb⟩ | ⟨t', k, s0, s', c, _, h2⟩)
  ·simp [G0] at hb
  ·exact hb0 _ _ _ _ _ h2
 have hg2 : Gro (G.sub []) ⟨[], []⟩ w Gc ⟨bx, lv⟩ w' := by
  refine ⟨⟨fun b B h => by simp [Gh.sub] at h, fun t' k v h => by simp [Gh.sub] at h, fun k o v h => hg'.le.fz k o v h⟩, hg'.os, hg'.tape, hg'.output, hg'.size, fun B hB _ => hg'.fr B hB (hno B), fun B hB => ?_, hg'.oth⟩
  rcases hg'.own B hB with h' | h'
  ·exact absurd h' (hno B)
  ·exact .inr h'
 obtain ⟨G2, hle, k1, k2, k3, k4⟩ := own_tok hI hI' hg2 hvr hlv' rfl hr.2.1
 rw [hr.2.2.2.2] at k2 k3 k4
 exact h E hn ops l' Q hl' hqq _ _ ⟨G2, k2, h2 ▸ (hR.mono hle).put x.dst k1, hg.trans k3, hk.trans k4, by cases o.dst <;> exact hd.step k3 k4⟩
end Go.Proofs.Ytfhapfljomgmnaa
end
section
namespace Go.Proofs.Ytfhapfljomgmnaa
set_option maxRecDepth 100000

abbrev oo (d : Nat) (x : AOp) : AOper := ⟨some d, x, none⟩
abbrev on (x : AOp) : AOper := ⟨none, x, none⟩
theorem rg {n0 : Cx} {md : Md} {P : Program} {Q : AEx → List AV → St → Prop} {l : List AOper} {a : List AV} {S : St} (k : Nat) (live : List Nat) (a2 : List AV) (S2 : St) (hx : Q .norm a2 S2) (h : (evH [] 0 k l a S).map (fun p => (p.1, keepB 0 live p.2.1, p.2.2)) = some ([], a2, S2) := by kernel_rfl) (hl : l.drop k = [] := by rfl) : Ex n0 md P (.reg l) a S Q :=
 regH k [] live [] a2 S2 h trivial hl hx
theorem rn {n0 : Cx} {P : Program} {R : List AV → St → Prop} {l : List AOper} {a : List AV} {S : St} (k : Nat) (live : List Nat) (a2 : List AV) (S2 : St) (hx : ExO n0 P (l.drop k) a2 S2 R) (h : (evH [] 0 k l a S).map (fun p => (p.1, keepB 0 live p.2.1, p.2.2)) = some ([], a2, S2) := by kernel_rfl) : ExO n0 P l a S R :=
 runH k [] live [] a2 S2 h trivial hx
theorem bE {α β : Type} {o : Option α} {f : α → Option β} {b : β} (h : o.bind f = some b) : ∃ a, o = some a ∧ f a = some b := Option.bind_eq_some_iff.1 h
theorem rt {a' : List AV} {S' : St} {res : List ARes} {n : Nat} {c1 : List (List AV)} {r : AV} (v : AV) (h1 : evRes a' S' res = some v := by kernel_rfl) (h2 : v.names = false := by kernel_rfl) (h3 : fadeT v = r := by kernel_rfl) (h4 : S'.bx.take n = c1 := by kernel_rfl) : (AEx.ret = .norm ∨ AEx.ret = .ret) ∧ ∃ v, evRes a' S' res = some v ∧ v.names = false ∧ fadeT v = r ∧ S'.bx.take n = c1 := ⟨.inr rfl, v, h1, h2, h3, h4⟩
abbrev i6 (x : Int) : AV := .int .i64 x
theorem sJ {α : Type} {a b : α} (h : some a = some b) : a = b := Option.some.inj h
def F4 : AFn := ⟨1, 62, [.tmp 2], (.seq (.reg [oo 2 (.mov (.con (.bool false)))]) (.seq (.reg [oo 9 (.mov (.tmp 0)), oo 10 (.call (.con (.fn 10 [] [])) [(.tmp 9)]), oo 11 (.call (.con (.fn 11 [] [])) [(.tmp 10), (.con (i6 3)), (.con (i6 3)), (.con (i6 4))]), oo 3 (.box (.con (.agg [.nils, .nils]))), on (.store 2 (.tmp 3) (.tmp 11))]) (.seq (.reg [oo 13 (.load (some 2) (.tmp 3)), oo 14 (.call (.con (.fn 15 [] [])) [(.tmp 13)]), oo 12 (.mov (.tmp 14)), oo 15 (.ext (.tmp 12) 0), oo 16 (.ext (.tmp 12) 1), oo 4 (.mov (.tmp 15)), oo 5 (.mov (.tmp 16))]) (.seq (.reg [oo 17 (.load (some 2) (.tmp 3)), oo 18 (.call (.con (.fn 26 [] [])) [(.tmp 17)]), oo 6 (.mov (.tmp 18))]) (.seq (.seq (.reg [oo 19 (.mov (.tmp 5)), oo 20 (.bin .neq (.tmp 19) (.con (i6 0)))]) (.cond (.tmp 20) (.seq (.reg [oo 21 (.mov (.tmp 5)), oo 22 (.bin .eql (.tmp 21) (.con (i6 4))), oo 23 (.mov (.tmp 22)), ⟨some 24, .mov (.tmp 6), some (23, true)⟩, ⟨some 25, .len false (.tmp 24), some (23, true)⟩, ⟨some 26, .bin .eql (.tmp 25) (.con (i6 0)), some (23, true)⟩, oo 27 (.pick (.tmp 23) (.tmp 26) (.con (.bool false))), oo 28 (.mov (.tmp 27)), ⟨some 29, .call (.con (.fn 9 [] [])) [], some (28, true)⟩, oo 30 (.pick (.tmp 28) (.tmp 29) (.con (.bool false))), oo 2 (.mov (.tmp 30))]) .ret) .skip)) (.seq (.reg [oo 32 (.load (some 2) (.tmp 3)), oo 33 (.mov (.tmp 4)), oo 34 (.call (.con (.fn 27 [] [])) [(.tmp 32), (.tmp 33)]), oo 31 (.mov (.tmp 34)), oo 35 (.ext (.tmp 31) 0), oo 36 (.ext (.tmp 31) 1), oo 7 (.mov (.tmp 35)), oo 8 (.mov (.tmp 36))]) (.seq (.reg [oo 37 (.mov (.tmp 8)), oo 38 (.bin .eql (.tmp 37) (.con (i6 0))), oo 39 (.mov (.tmp 38)), ⟨some 40, .mov (.tmp 7), some (39, true)⟩, ⟨some 41, .len false (.tmp 40), some (39, true)⟩, ⟨some 42, .bin .eql (.tmp 41) (.con (i6 0)), some (39, true)⟩, oo 43 (.pick (.tmp 39) (.tmp 42) (.con (.bool false))), oo 44 (.mov (.tmp 43)), ⟨some 45, .mov (.tmp 6), some (44, true)⟩, ⟨some 46, .len false (.tmp 45), some (44, true)⟩, ⟨some 47, .bin .gtr (.tmp 46) (.con (i6 0)), some (44, true)⟩, oo 48 (.pick (.tmp 44) (.tmp 47) (.con (.bool false))), oo 49 (.mov (.tmp 48)), ⟨some 50, .mov (.tmp 4), some (49, true)⟩, ⟨some 51, .mov (.tmp 6), some (49, true)⟩, ⟨some 52, .mov (.tmp 6), some (49, true)⟩, ⟨some 53, .len false (.tmp 52), some (49, true)⟩, ⟨some 54, .bin .sub (.tmp 53) (.con (i6 1)), some (49, true)⟩, ⟨some 55, .iaddr (.tmp 51) (.tmp 54) 1 none, some (49, true)⟩, ⟨some 56, .load none (.tmp 55), some (49, true)⟩, ⟨some 57, .call (.con (.fn 23 [] [])) [(.tmp 50), (.tmp 56)], some (49, true)⟩, oo 58 (.pick (.tmp 49) (.tmp 57) (.con (.bool false))), oo 59 (.mov (.tmp 58)), ⟨some 60, .call (.con (.fn 9 [] [])) [], some (59, true)⟩, oo 61 (.pick (.tmp 59) (.tmp 60) (.con (.bool false))), oo 2 (.mov (.tmp 61))]) .ret)))))))⟩
theorem comp4 : compFn Try.prog 4 = some F4 := by kernel_rfl
def F9 : AFn := ⟨0, 69, [.tmp 0], (.seq (.reg [oo 0 (.mov (.con (.bool false)))]) (.seq (.reg [oo 11 (.call (.con (.fn 32 [] [])) []), oo 12 (.call (.con (.fn 15 [] [])) [(.tmp 11)]), oo 10 (.mov (.tmp 12)), oo 13 (.ext (.tmp 10) 0), oo 14 (.ext (.tmp 10) 1), oo 1 (.mov (.tmp 13)), oo 2 (.mov (.tmp 14))]) (.seq (.reg [oo 16 (.call (.con (.fn 33 [] [])) [(.con (i6 1101))]), oo 17 (.call (.con (.fn 17 [] [])) [(.tmp 16)]), oo 15 (.mov (.tmp 17)), oo 18 (.ext (.tmp 15) 0), oo 19 (.ext (.tmp 15) 1), oo 3 (.mov (.tmp 18)), oo 4 (.mov (.tmp 19))]) (.seq (.reg [oo 21 (.call (.con (.fn 32 [] [])) []), oo 22 (.call (.con (.fn 19 [] [])) [(.tmp 21), (.con (i6 1))]), oo 20 (.mov (.tmp 22)), oo 23 (.ext (.tmp 20) 0), oo 24 (.ext (.tmp 20) 1), oo 5 (.box (.con (.agg [i6 0, i6 0]))), on (.store 2 (.tmp 5) (.tmp 23)), oo 6 (.mov (.tmp 24))]) (.seq (.reg [oo 26 (.bsl 1 false [i6 0] 3 [(0, (.con (i6 3))), (1, (.con (i6 0))), (2, (.con (i6 2)))]), oo 27 (.bsl 1 false [i6 0] 3 [(0, (.con (i6 7))), (1, (.con (i6 1))), (2, (.con (i6 6)))]), oo 28 (.call (.con (.fn 34 [] [])) [(.tmp 26), (.tmp 27)]), oo 25 (.mov (.tmp 28)), oo 29 (.ext (.tmp 25) 0), oo 30 (.ext (.tmp 25) 1), oo 31 (.ext (.tmp 25) 2), oo 7 (.mov (.tmp 29)), oo 8 (.mov (.tmp 30)), oo 9 (.mov (.tmp 31))]) (.seq (.dreg 35 [oo 32 (.mov (.tmp 2)), oo 33 (.bin .eql (.tmp 32) (.con (i6 0))), oo 34 (.mov (.tmp 33)), ⟨some 35, .mov (.tmp 4), some (34, true)⟩, ⟨some 36, .bin .eql (.tmp 35) (.con (i6 0)), some (34, true)⟩, oo 37 (.pick (.tmp 34) (.tmp 36) (.con (.bool false))), oo 38 (.mov (.tmp 37)), ⟨some 39, .mov (.tmp 6), some (38, true)⟩, ⟨some 40, .bin .eql (.tmp 39) (.con (i6 0)), some (38, true)⟩, oo 41 (.pick (.tmp 38) (.tmp 40) (.con (.bool false))), oo 42 (.mov (.tmp 41)), ⟨some 43, .mov (.tmp 9), some (42, true)⟩, ⟨some 44, .bin .eql (.tmp 43) (.con (i6 0)), some (42, true)⟩, oo 45 (.pick (.tmp 42) (.tmp 44) (.con (.bool false))), oo 46 (.mov (.tmp 45)), ⟨some 47, .mov (.tmp 7), some (46, true)⟩, ⟨some 48, .bin .eql (.tmp 47) (.con (i6 4)), some (46, true)⟩, oo 49 (.pick (.tmp 46) (.tmp 48) (.con (.bool false))), oo 50 (.mov (.tmp 49)), ⟨some 51, .mov (.tmp 8), some (50, true)⟩, ⟨some 52, .bin .eql (.tmp 51) (.con (i6 2)), some (50, true)⟩, oo 53 (.pick (.tmp 50) (.tmp 52) (.con (.bool false))), oo 54 (.mov (.tmp 53)), ⟨some 55, .load (some 2) (.tmp 5), some (54, true)⟩, ⟨some 56, .call (.con (.fn 30 [] [])) [(.con (i6 400)), (.con (i6 500))], some (54, true)⟩, ⟨some 57, .eqs false (.cons 0 none (.sc 1) (.cons 1 none (.sc 1) .nil)) (.tmp 55) (.tmp 56), some (54, true)⟩, oo 58 (.pick (.tmp 54) (.tmp 57) (.con (.bool false))), oo 59 (.mov (.tmp 58)), ⟨some 60, .mov (.tmp 3), some (59, true)⟩, ⟨some 61, .bsl 1 false [i6 0] 2 [(0, (.con (i6 1))), (1, (.con (i6 2)))], some (59, true)⟩, ⟨some 62, .call (.con (.fn 24 [] [])) [(.tmp 60), (.tmp 61)], some (59, true)⟩, oo 63 (.pick (.tmp 59) (.tmp 62) (.con (.bool false))), oo 64 (.mov (.tmp 63)), ⟨some 65, .mov (.tmp 1), some (64, true)⟩, ⟨some 66, .call (.con (.fn 35 [] [])) [], some (64, true)⟩, ⟨some 67, .call (.con (.fn 23 [] [])) [(.tmp 65), (.tmp 66)], some (64, true)⟩, oo 68 (.pick (.tmp 64) (.tmp 67) (.con (.bool false))), oo 0 (.mov (.tmp 68))]) .ret))))))⟩
theorem comp9 : compFn Try.prog 9 = some F9 := by kernel_rfl
def F10 : AFn := ⟨1, 29, [.tmp 2], (.seq (.reg [oo 2 (.mov (.con (.nilp)))]) (.seq (.reg [oo 5 (.build [.int .u64 0] [(0, 1, (.con (.int .u64 2685821657736338717)))]), oo 6 (.box (.tmp 5)), oo 3 (.mov (.tmp 6))]) (.seq (.seq (.reg [oo 4 (.mov (.con (i6 0)))]) (.block 0 (.loop (.seq (.seq (.reg [oo 7 (.mov (.tmp 4)), oo 8 (.mov (.tmp 0)), oo 9 (.len false (.tmp 8)), oo 10 (.bin .lss (.tmp 7) (.tmp 9))]) (.cond (.tmp 10) .skip (.exit 0))) (.seq (.block 1 (.seq (.dreg 11 [oo 13 (.mov (.tmp 3)), oo 14 (.mov (.tmp 3)), oo 15 (.nilck (.tmp 14)), oo 16 (.faddr (.tmp 15) 0), oo 17 (.load none (.tmp 16)), oo 18 (.mov (.tmp 0)), oo 19 (.mov (.tmp 4)), oo 20 (.iaddr (.tmp 18) (.tmp 19) 1 none), oo 21 (.load none (.tmp 20)), oo 22 (.conv .u64 (.tmp 21)), oo 23 (.bin .xor (.tmp 17) (.tmp 22)), oo 24 (.nilck (.tmp 13)), oo 25 (.faddr (.tmp 24) 0), on (.store 1 (.tmp 25) (.tmp 23))]) (.reg [oo 26 (.mov (.tmp 3)), oo 27 (.call (.con (.fn 36 [] [])) [(.tmp 26)])]))) (.reg [oo 11 (.mov (.tmp 4)), oo 12 (.bin .add (.tmp 11) (.con (i6 1))), oo 4 (.mov (.tmp 12))])))))) (.seq (.reg [oo 28 (.mov (.tmp 3)), oo 2 (.mov (.tmp 28))]) .ret))))⟩
theorem comp10 : compFn Try.prog 10 = some F10 := by kernel_rfl
def F11 : AFn := ⟨4, 82, [.cell 8 (some 2)], (.seq (.reg [oo 8 (.box (.con (.agg [.nils, .nils])))]) (.seq (.reg [oo 9 (.box (.con (.agg [.nils, .nils])))]) (.seq (.seq (.reg [oo 15 (.mov (.tmp 0)), oo 16 (.mov (.tmp 1)), oo 17 (.bin .add (.tmp 16) (.con (i6 1))), oo 18 (.call (.con (.fn 14 [] [])) [(.tmp 15), (.tmp 17)]), oo 10 (.mov (.tmp 18))]) (.block 0 (.loop (.seq (.seq (.reg [oo 19 (.mov (.tmp 10)), oo 20 (.bin .gtr (.tmp 19) (.con (i6 0)))]) (.cond (.tmp 20) .skip (.exit 0))) (.seq (.block 1 (.seq (.reg [oo 23 (.mov (.tmp 0)), oo 24 (.call (.con (.fn 14 [] [])) [(.tmp 23), (.con (i6 10))]), oo 11 (.mov (.tmp 24))]) (.seq (.reg [oo 25 (.mov (.tmp 11)), oo 26 (.mov (.tmp 0)), oo 27 (.mov (.tmp 11)), oo 28 (.mov (.tmp 0)), oo 29 (.mov (.tmp 11)), oo 30 (.bin .add (.tmp 29) (.con (i6 4))), oo 31 (.bsl 1 false [i6 0] 2 [(0, (.tmp 30)), (1, (.con (i6 20)))]), oo 32 (.call (.con (.fn 12 [] [])) [(.tmp 28), (.tmp 31)]), oo 33 (.call (.con (.fn 31 [] [])) [(.tmp 26), (.tmp 27), (.tmp 32)]), oo 34 (.mov (.tmp 0)), oo 35 (.mov (.tmp 3)), oo 36 (.bin .mul (.con (i6 2)) (.tmp 35)), oo 37 (.bin .add (.tmp 36) (.con (i6 1))), oo 38 (.call (.con (.fn 14 [] [])) [(.tmp 34), (.tmp 37)]), oo 39 (.build [i6 0, i6 0, i6 0, .nils] [(0, 1, (.tmp 25)), (1, 1, (.tmp 33)), (2, 1, (.tmp 38))]), oo 12 (.box (.con (.agg [i6 0, i6 0, i6 0, .nils]))), on (.store 4 (.tmp 12) (.tmp 39))]) (.seq (.seq (.reg [oo 13 (.mov (.con (i6 0)))]) (.block 2 (.loop (.seq (.seq (.reg [oo 40 (.mov (.tmp 13)), oo 41 (.bin .lss (.tmp 40) (.con (i6 3)))]) (.cond (.tmp 41) .skip (.exit 2))) (.seq (.block 3 (.seq (.reg [oo 44 (.mov (.tmp 0)), oo 45 (.call (.con (.fn 28 [] [])) [(.tmp 44), (.con (i6 3))]), oo 46 (.un .not (.tmp 45))]) (.cond (.tmp 46) (.reg [oo 47 (.faddr (.tmp 12) 3), oo 48 (.load none (.tmp 47)), oo 49 (.mov (.tmp 13)), oo 50 (.bsl 1 false [i6 0] 1 [(0, (.tmp 49))]), oo 51 (.app (.tmp 48) (.tmp 50) 1 8 [i6 0]), oo 52 (.faddr (.tmp 12) 3), on (.store 1 (.tmp 52) (.tmp 51))]) .skip))) (.reg [oo 42 (.mov (.tmp 13)), oo 43 (.bin .add (.tmp 42) (.con (i6 1))), oo 13 (.mov (.tmp 43))])))))) (.reg [oo 53 (.faddr (.tmp 9) 0), oo 54 (.load none (.tmp 53)), oo 55 (.load (some 4) (.tmp 12)), oo 56 (.bsl 4 true [i6 0, i6 0, i6 0, .nils] 1 [(0, (.tmp 55))]), oo 57 (.app (.tmp 54) (.tmp 56) 4 48 [i6 0, i6 0, i6 0, .nils]), oo 58 (.faddr (.tmp 9) 0), on (.store 1 (.tmp 58) (.tmp 57))]))))) (.reg [oo 21 (.mov (.tmp 10)), oo 22 (.bin .sub (.tmp 21) (.con (i6 1))), oo 10 (.mov (.tmp 22))])))))) (.seq (.seq (.reg [oo 59 (.mov (.tmp 0)), oo 60 (.mov (.tmp 2)), oo 61 (.bin .add (.tmp 60) (.con (i6 1))), oo 62 (.call (.con (.fn 14 [] [])) [(.tmp 59), (.tmp 61)]), oo 14 (.mov (.tmp 62))]) (.block 4 (.loop (.seq (.seq (.reg [oo 63 (.mov (.tmp 14)), oo 64 (.bin .gtr (.tmp 63) (.con (i6 0)))]) (.cond (.tmp 64) .skip (.exit 4))) (.seq (.block 5 (.dreg 12 [oo 67 (.faddr (.tmp 9) 1), oo 68 (.load none (.tmp 67)), oo 69 (.mov (.tmp 0)), oo 70 (.call (.con (.fn 31 [] [])) [(.tmp 69), (.con (i6 3)), (.con (i6 12))]), oo 71 (.mov (.tmp 0)), oo 72 (.call (.con (.fn 14 [] [])) [(.tmp 71), (.con (i6 3))]), oo 73 (.mov (.tmp 0)), oo 74 (.mov (.tmp 3)), oo 75 (.bin .add (.tmp 74) (.con (i6 1))), oo 76 (.call (.con (.fn 14 [] [])) [(.tmp 73), (.tmp 75)]), oo 77 (.build [i6 0, i6 0, i6 0] [(0, 1, (.tmp 70)), (1, 1, (.tmp 72)), (2, 1, (.tmp 76))]), oo 78 (.bsl 3 true [i6 0, i6 0, i6 0] 1 [(0, (.tmp 77))]), oo 79 (.app (.tmp 68) (.tmp 78) 3 24 [i6 0, i6 0, i6 0]), oo 80 (.faddr (.tmp 9) 1), on (.store 1 (.tmp 80) (.tmp 79))])) (.reg [oo 65 (.mov (.tmp 14)), oo 66 (.bin .sub (.tmp 65) (.con (i6 1))), oo 14 (.mov (.tmp 66))])))))) (.seq (.reg [oo 81 (.load (some 2) (.tmp 9)), on (.store 2 (.tmp 8) (.tmp 81))]) .ret)))))⟩
theorem comp11 : compFn Try.prog 11 = some F11 := by kernel_rfl
def F12 : AFn := ⟨2, 15, [.tmp 4], (.seq (.reg [oo 4 (.mov (.con (i6 0)))]) (.seq (.seq (.reg [oo 5 (.mov (.tmp 1)), oo 6 (.len false (.tmp 5)), oo 7 (.bin .eql (.tmp 6) (.con (i6 0)))]) (.cond (.tmp 7) (.seq (.reg [oo 4 (.mov (.con (i6 0)))]) .ret) .skip)) (.seq (.reg [oo 8 (.mov (.tmp 1)), oo 9 (.mov (.tmp 0)), oo 10 (.mov (.tmp 1)), oo 11 (.len false (.tmp 10)), oo 12 (.call (.con (.fn 14 [] [])) [(.tmp 9), (.tmp 11)]), oo 13 (.iaddr (.tmp 8) (.tmp 12) 1 none), oo 14 (.load none (.tmp 13)), oo 4 (.mov (.tmp 14))]) .ret)))⟩
theorem comp12 : compFn Try.prog 12 = some F12 := by kernel_rfl
def F14 : AFn := ⟨2, 14, [.tmp 4], (.seq (.reg [oo 4 (.mov (.con (i6 0)))]) (.seq (.seq (.reg [oo 5 (.mov (.tmp 1)), oo 6 (.bin .lss (.tmp 5) (.con (i6 2)))]) (.cond (.tmp 6) (.seq (.reg [oo 4 (.mov (.con (i6 0)))]) .ret) .skip)) (.seq (.reg [oo 7 (.mov (.tmp 0)), oo 8 (.call (.con (.fn 36 [] [])) [(.tmp 7)]), oo 9 (.bin .shr (.tmp 8) (.con (.int .u64 1))), oo 10 (.mov (.tmp 1)), oo 11 (.conv .u64 (.tmp 10)), oo 12 (.bin .rem (.tmp 9) (.tmp 11)), oo 13 (.conv .i64 (.tmp 12)), oo 4 (.mov (.tmp 13))]) .ret)))⟩
theorem comp14 : compFn Try.prog 14 = some F14 := by kernel_rfl
def F15 : AFn := ⟨1, 55, [.tmp 2, .tmp 3], (.seq (.reg [oo 1 (.box (.tmp 0)), oo 2 (.mov (.con (.nils))), oo 3 (.mov (.con (i6 0)))]) (.seq (.seq (.reg [oo 10 (.load (some 2) (.tmp 1)), oo 11 (.call (.con (.fn 21 [] [])) [(.tmp 10)]), oo 4 (.mov (.tmp 11))]) (.seq (.reg [oo 12 (.mov (.tmp 4)), oo 13 (.bin .neq (.tmp 12) (.con (i6 0)))]) (.cond (.tmp 13) (.seq (.reg [oo 14 (.mov (.tmp 4)), oo 2 (.mov (.con (.nils))), oo 3 (.mov (.tmp 14))]) .ret) .skip))) (.seq (.dreg 5 [oo 15 (.load (some 2) (.tmp 1)), oo 16 (.call (.con (.fn 38 [] [])) [(.tmp 15)]), oo 17 (.load (some 2) (.tmp 1)), oo 18 (.call (.con (.fn 39 [] [])) [(.tmp 17)]), oo 6 (.box (.con (.agg [i6 0, i6 0, i6 0, i6 0, i6 0, i6 0, i6 0, i6 0]))), oo 5 (.mov (.tmp 16)), on (.store 8 (.tmp 6) (.tmp 18))]) (.seq (.seq (.reg [oo 19 (.mov (.tmp 5)), oo 20 (.load (some 8) (.tmp 6)), oo 21 (.call (.con (.fn 40 [] [])) [(.tmp 19), (.tmp 20)]), oo 22 (.bin .gtr (.tmp 21) (.con (i6 0)))]) (.cond (.tmp 22) (.seq (.reg [oo 2 (.mov (.con (.nils))), oo 3 (.mov (.con (i6 4)))]) .ret) .skip)) (.seq (.reg [oo 23 (.mov (.tmp 5)), oo 24 (.len false (.tmp 23)), oo 25 (.mksl 1 false [.nils] 24 (.tmp 24) (.tmp 24)), oo 7 (.mov (.tmp 25))]) (.seq (.reg [oo 26 (.build [i6 0, i6 0, i6 0, i6 0, i6 0, i6 0, i6 0, i6 0] []), oo 8 (.box (.con (.agg [i6 0, i6 0, i6 0, i6 0, i6 0, i6 0, i6 0, i6 0]))), on (.store 8 (.tmp 8) (.tmp 26))]) (.seq (.seq (.reg [oo 27 (.mov (.tmp 7)), oo 28 (.len false (.tmp 27)), oo 29 (.mov (.con (i6 0)))]) (.block 0 (.loop (.seq (.reg [oo 30 (.bin .lss (.tmp 29) (.tmp 28))]) (.seq (.cond (.tmp 30) .skip (.exit 0)) (.seq (.block 1 (.seq (.reg [oo 31 (.mov (.tmp 29)), oo 9 (.mov (.tmp 31))]) (.seq (.dreg 9 [oo 33 (.mov (.tmp 5)), oo 34 (.mov (.tmp 9)), oo 35 (.slc false 2 (.tmp 33) (some (.tmp 34)) none), oo 36 (.load (some 8) (.tmp 6)), oo 37 (.call (.con (.fn 41 [] [])) [(.tmp 35), (.tmp 36)]), oo 32 (.mov (.tmp 37)), oo 38 (.ext (.tmp 32) 0), oo 39 (.ext (.tmp 32) 1), on (.store 8 (.tmp 8) (.tmp 38)), on (.store 8 (.tmp 6) (.tmp 39))]) (.seq (.reg [oo 40 (.mov (.tmp 7)), oo 41 (.mov (.tmp 9)), oo 42 (.faddr (.tmp 1) 0), oo 43 (.load none (.tmp 42)), oo 44 (.len false (.tmp 43)), oo 45 (.mksl 1 false [i6 0] 8 (.tmp 44) (.tmp 44)), oo 46 (.iaddr (.tmp 40) (.tmp 41) 1 none), on (.store 1 (.tmp 46) (.tmp 45))]) (.dreg 5 [oo 47 (.mov (.tmp 7)), oo 48 (.mov (.tmp 9)), oo 49 (.iaddr (.tmp 47) (.tmp 48) 1 none), oo 50 (.load none (.tmp 49)), oo 51 (.sla 8 1 (.tmp 8)), oo 52 (.cpy 1 (.tmp 50) (.tmp 51))]))))) (.reg [oo 53 (.bin .add (.tmp 29) (.con (i6 1))), oo 29 (.mov (.tmp 53))]))))))) (.seq (.reg [oo 54 (.mov (.tmp 7)), oo 2 (.mov (.tmp 54)), oo 3 (.mov (.con (i6 0)))]) .ret))))))))⟩
theorem comp15 : compFn Try.prog 15 = some F15 := by kernel_rfl
def F17 : AFn := ⟨1, 21, [.tmp 2, .tmp 3], (.seq (.reg [oo 1 (.box (.tmp 0)), oo 2 (.mov (.con (.nils))), oo 3 (.mov (.con (i6 0)))]) (.seq (.seq (.reg [oo 6 (.load (some 2) (.tmp 1)), oo 7 (.call (.con (.fn 21 [] [])) [(.tmp 6)]), oo 4 (.mov (.tmp 7))]) (.seq (.reg [oo 8 (.mov (.tmp 4)), oo 9 (.bin .neq (.tmp 8) (.con (i6 0)))]) (.cond (.tmp 9) (.seq (.reg [oo 10 (.mov (.tmp 4)), oo 2 (.mov (.con (.nils))), oo 3 (.mov (.tmp 10))]) .ret) .skip))) (.seq (.dreg 3 [oo 11 (.load (some 2) (.tmp 1)), oo 12 (.call (.con (.fn 38 [] [])) [(.tmp 11)]), oo 13 (.load (some 2) (.tmp 1)), oo 14 (.call (.con (.fn 39 [] [])) [(.tmp 13)]), oo 15 (.call (.con (.fn 46 [] [])) [(.tmp 12), (.tmp 14)]), oo 5 (.mov (.tmp 15))]) (.seq (.seq (.reg [oo 16 (.mov (.tmp 5)), oo 17 (.bin .eql (.tmp 16) (.con (.int .u8 0)))]) (.cond (.tmp 17) (.seq (.reg [oo 2 (.mov (.con (.nils))), oo 3 (.mov (.con (i6 7)))]) .ret) .skip)) (.seq (.reg [oo 18 (.mov (.tmp 5)), oo 19 (.call (.con (.fn 48 [] [])) [(.tmp 18)]), oo 20 (.call (.con (.fn 47 [] [])) [(.tmp 19)]), oo 2 (.mov (.tmp 20)), oo 3 (.mov (.con (i6 0)))]) .ret)))))⟩
theorem comp17 : compFn Try.prog 17 = some F17 := by kernel_rfl
def F19 : AFn := ⟨2, 45, [.cell 4 (some 2), .tmp 5], (.seq (.reg [oo 2 (.box (.tmp 0)), oo 4 (.box (.con (.agg [i6 0, i6 0]))), oo 5 (.mov (.con (i6 0)))]) (.seq (.seq (.reg [oo 9 (.load (some 2) (.tmp 2)), oo 10 (.call (.con (.fn 21 [] [])) [(.tmp 9)]), oo 6 (.mov (.tmp 10))]) (.seq (.reg [oo 11 (.mov (.tmp 6)), oo 12 (.bin .neq (.tmp 11) (.con (i6 0)))]) (.cond (.tmp 12) (.seq (.reg [oo 13 (.build [i6 0, i6 0] []), oo 14 (.mov (.tmp 6)), on (.store 2 (.tmp 4) (.tmp 13)), oo 5 (.mov (.tmp 14))]) .ret) .skip))) (.seq (.seq (.reg [oo 15 (.mov (.tmp 1)), oo 16 (.faddr (.tmp 2) 0), oo 17 (.load none (.tmp 16)), oo 18 (.len false (.tmp 17)), oo 19 (.bin .sub (.tmp 18) (.con (i6 1))), oo 20 (.call (.con (.fn 51 [] [])) [(.tmp 15), (.con (i6 0)), (.tmp 19)]), oo 21 (.un .not (.tmp 20))]) (.cond (.tmp 21) (.seq (.reg [oo 22 (.build [i6 0, i6 0] []), on (.store 2 (.tmp 4) (.tmp 22)), oo 5 (.mov (.con (i6 7)))]) .ret) .skip)) (.seq (.dreg 5 [oo 23 (.load (some 2) (.tmp 2)), oo 24 (.call (.con (.fn 38 [] [])) [(.tmp 23)]), oo 25 (.load (some 2) (.tmp 2)), oo 26 (.call (.con (.fn 39 [] [])) [(.tmp 25)]), oo 8 (.box (.con (.agg [i6 0, i6 0, i6 0, i6 0, i6 0, i6 0, i6 0, i6 0]))), oo 7 (.mov (.tmp 24)), on (.store 8 (.tmp 8) (.tmp 26))]) (.seq (.seq (.reg [oo 27 (.mov (.tmp 7)), oo 28 (.load (some 8) (.tmp 8)), oo 29 (.call (.con (.fn 40 [] [])) [(.tmp 27), (.tmp 28)]), oo 30 (.bin .gtr (.tmp 29) (.con (i6 0)))]) (.cond (.tmp 30) (.seq (.reg [oo 31 (.build [i6 0, i6 0] []), on (.store 2 (.tmp 4) (.tmp 31)), oo 5 (.mov (.con (i6 4)))]) .ret) .skip)) (.seq (.dreg 11 [oo 32 (.mov (.tmp 7)), oo 33 (.load (some 8) (.tmp 8)), oo 34 (.mov (.tmp 1)), oo 35 (.call (.con (.fn 52 [] [])) [(.tmp 33), (.tmp 34), (.con (i6 0))]), oo 36 (.call (.con (.fn 40 [] [])) [(.tmp 32), (.tmp 35)]), oo 37 (.mov (.tmp 1)), oo 38 (.iaddr (.tmp 8) (.tmp 37) 1 (some 8)), oo 39 (.load none (.tmp 38)), oo 40 (.mov (.tmp 7)), oo 41 (.mov (.tmp 1)), oo 42 (.call (.con (.fn 53 [] [])) [(.tmp 40), (.tmp 41)]), oo 43 (.mn (.tmp 39) (.tmp 42)), oo 44 (.build [i6 0, i6 0] [(0, 1, (.tmp 36)), (1, 1, (.tmp 43))]), on (.store 2 (.tmp 4) (.tmp 44)), oo 5 (.mov (.con (i6 0)))]) .ret))))))⟩
theorem comp19 : compFn Try.prog 19 = some F19 := by kernel_rfl
def F21 : AFn := ⟨1, 53, [.tmp 2], (.seq (.reg [oo 1 (.box (.tmp 0)), oo 2 (.mov (.con (i6 0)))]) (.seq (.seq (.reg [oo 8 (.faddr (.tmp 1) 0), oo 9 (.load none (.tmp 8)), oo 10 (.len false (.tmp 9)), oo 11 (.bin .gtr (.tmp 10) (.con (i6 8)))]) (.cond (.tmp 11) (.seq (.reg [oo 2 (.mov (.con (i6 5)))]) .ret) .skip)) (.seq (.seq (.reg [oo 12 (.faddr (.tmp 1) 0), oo 13 (.load none (.tmp 12)), oo 14 (.len false (.tmp 13)), oo 15 (.mov (.con (i6 0)))]) (.block 0 (.loop (.seq (.reg [oo 16 (.bin .lss (.tmp 15) (.tmp 14))]) (.seq (.cond (.tmp 16) .skip (.exit 0)) (.seq (.block 1 (.seq (.reg [oo 17 (.iaddr (.tmp 13) (.tmp 15) 4 none), oo 18 (.load (some 4) (.tmp 17)), oo 4 (.box (.con (.agg [i6 0, i6 0, i6 0, .nils]))), on (.store 4 (.tmp 4) (.tmp 18))]) (.seq (.reg [oo 19 (.load (some 4) (.tmp 4)), oo 20 (.call (.con (.fn 55 [] [])) [(.tmp 19)]), oo 5 (.mov (.tmp 20))]) (.seq (.reg [oo 21 (.mov (.tmp 5)), oo 22 (.bin .neq (.tmp 21) (.con (i6 0)))]) (.cond (.tmp 22) (.seq (.reg [oo 23 (.mov (.tmp 5)), oo 2 (.mov (.tmp 23))]) .ret) .skip))))) (.reg [oo 24 (.bin .add (.tmp 15) (.con (i6 1))), oo 15 (.mov (.tmp 24))]))))))) (.seq (.seq (.reg [oo 25 (.faddr (.tmp 1) 1), oo 26 (.load none (.tmp 25)), oo 27 (.len false (.tmp 26)), oo 28 (.bin .gtr (.tmp 27) (.con (i6 8)))]) (.cond (.tmp 28) (.seq (.reg [oo 2 (.mov (.con (i6 5)))]) .ret) .skip)) (.seq (.seq (.reg [oo 29 (.faddr (.tmp 1) 1), oo 30 (.load none (.tmp 29)), oo 31 (.len false (.tmp 30)), oo 32 (.mov (.con (i6 0)))]) (.block 2 (.loop (.seq (.reg [oo 33 (.bin .lss (.tmp 32) (.tmp 31))]) (.seq (.cond (.tmp 33) .skip (.exit 2)) (.seq (.block 3 (.seq (.reg [oo 34 (.iaddr (.tmp 30) (.tmp 32) 3 none), oo 35 (.load (some 3) (.tmp 34)), oo 7 (.box (.con (.agg [i6 0, i6 0, i6 0]))), on (.store 3 (.tmp 7) (.tmp 35))]) (.seq (.reg [oo 36 (.faddr (.tmp 7) 0), oo 37 (.load none (.tmp 36)), oo 38 (.call (.con (.fn 56 [] [])) [(.tmp 37)]), oo 39 (.un .not (.tmp 38)), oo 40 (.mov (.tmp 39)), ⟨some 41, .faddr (.tmp 7) 1, some (40, false)⟩, ⟨some 42, .load none (.tmp 41), some (40, false)⟩, ⟨some 43, .call (.con (.fn 57 [] [])) [(.tmp 42)], some (40, false)⟩, ⟨some 44, .un .not (.tmp 43), some (40, false)⟩, oo 45 (.pick (.tmp 40) (.con (.bool true)) (.tmp 44)), oo 46 (.mov (.tmp 45)), ⟨some 47, .faddr (.tmp 7) 2, some (46, false)⟩, ⟨some 48, .load none (.tmp 47), some (46, false)⟩, ⟨some 49, .call (.con (.fn 58 [] [])) [(.tmp 48)], some (46, false)⟩, ⟨some 50, .un .not (.tmp 49), some (46, false)⟩, oo 51 (.pick (.tmp 46) (.con (.bool true)) (.tmp 50))]) (.cond (.tmp 51) (.seq (.reg [oo 2 (.mov (.con (i6 2)))]) .ret) .skip)))) (.reg [oo 52 (.bin .add (.tmp 32) (.con (i6 1))), oo 32 (.mov (.tmp 52))]))))))) (.seq (.reg [oo 2 (.mov (.con (i6 0)))]) .ret))))))⟩
theorem comp21 : compFn Try.prog 21 = some F21 := by kernel_rfl
def F23 : AFn := ⟨2, 27, [.tmp 4], (.seq (.reg [oo 4 (.mov (.con (.bool false)))]) (.seq (.seq (.reg [oo 6 (.mov (.tmp 0)), oo 7 (.len false (.tmp 6)), oo 8 (.mov (.tmp 1)), oo 9 (.len false (.tmp 8)), oo 10 (.bin .neq (.tmp 7) (.tmp 9))]) (.cond (.tmp 10) (.seq (.reg [oo 4 (.mov (.con (.bool false)))]) .ret) .skip)) (.seq (.seq (.reg [oo 5 (.mov (.con (i6 0)))]) (.block 0 (.loop (.seq (.seq (.reg [oo 11 (.mov (.tmp 5)), oo 12 (.mov (.tmp 0)), oo 13 (.len false (.tmp 12)), oo 14 (.bin .lss (.tmp 11) (.tmp 13))]) (.cond (.tmp 14) .skip (.exit 0))) (.seq (.block 1 (.seq (.dreg 8 [oo 17 (.mov (.tmp 0)), oo 18 (.mov (.tmp 5)), oo 19 (.iaddr (.tmp 17) (.tmp 18) 1 none), oo 20 (.load none (.tmp 19)), oo 21 (.mov (.tmp 1)), oo 22 (.mov (.tmp 5)), oo 23 (.iaddr (.tmp 21) (.tmp 22) 1 none), oo 24 (.load none (.tmp 23)), oo 25 (.call (.con (.fn 24 [] [])) [(.tmp 20), (.tmp 24)]), oo 26 (.un .not (.tmp 25))]) (.cond (.tmp 26) (.seq (.reg [oo 4 (.mov (.con (.bool false)))]) .ret) .skip))) (.reg [oo 15 (.mov (.tmp 5)), oo 16 (.bin .add (.tmp 15) (.con (i6 1))), oo 5 (.mov (.tmp 16))])))))) (.seq (.reg [oo 4 (.mov (.con (.bool true)))]) .ret))))⟩
theorem comp23 : compFn Try.prog 23 = some F23 := by kernel_rfl
def F24 : AFn := ⟨2, 26, [.tmp 4], (.seq (.reg [oo 4 (.mov (.con (.bool false)))]) (.seq (.seq (.reg [oo 6 (.mov (.tmp 0)), oo 7 (.len false (.tmp 6)), oo 8 (.mov (.tmp 1)), oo 9 (.len false (.tmp 8)), oo 10 (.bin .neq (.tmp 7) (.tmp 9))]) (.cond (.tmp 10) (.seq (.reg [oo 4 (.mov (.con (.bool false)))]) .ret) .skip)) (.seq (.seq (.reg [oo 5 (.mov (.con (i6 0)))]) (.block 0 (.loop (.seq (.seq (.reg [oo 11 (.mov (.tmp 5)), oo 12 (.mov (.tmp 0)), oo 13 (.len false (.tmp 12)), oo 14 (.bin .lss (.tmp 11) (.tmp 13))]) (.cond (.tmp 14) .skip (.exit 0))) (.seq (.block 1 (.seq (.dreg 8 [oo 17 (.mov (.tmp 0)), oo 18 (.mov (.tmp 5)), oo 19 (.iaddr (.tmp 17) (.tmp 18) 1 none), oo 20 (.load none (.tmp 19)), oo 21 (.mov (.tmp 1)), oo 22 (.mov (.tmp 5)), oo 23 (.iaddr (.tmp 21) (.tmp 22) 1 none), oo 24 (.load none (.tmp 23)), oo 25 (.bin .neq (.tmp 20) (.tmp 24))]) (.cond (.tmp 25) (.seq (.reg [oo 4 (.mov (.con (.bool false)))]) .ret) .skip))) (.reg [oo 15 (.mov (.tmp 5)), oo 16 (.bin .add (.tmp 15) (.con (i6 1))), oo 5 (.mov (.tmp 16))])))))) (.seq (.reg [oo 4 (.mov (.con (.bool true)))]) .ret))))⟩
theorem comp24 : compFn Try.prog 24 = some F24 := by kernel_rfl
def F26 : AFn := ⟨1, 35, [.tmp 2], (.seq (.reg [oo 1 (.box (.tmp 0)), oo 2 (.mov (.con (.nils)))]) (.seq (.reg [oo 3 (.mov (.con (.nils)))]) (.seq (.seq (.reg [oo 4 (.mov (.con (i6 0)))]) (.block 0 (.loop (.seq (.seq (.reg [oo 6 (.mov (.tmp 4)), oo 7 (.faddr (.tmp 1) 0), oo 8 (.load none (.tmp 7)), oo 9 (.len false (.tmp 8)), oo 10 (.bin .lss (.tmp 6) (.tmp 9))]) (.cond (.tmp 10) .skip (.exit 0))) (.seq (.block 1 (.reg [oo 13 (.mov (.tmp 3)), oo 14 (.faddr (.tmp 1) 0), oo 15 (.load none (.tmp 14)), oo 16 (.mov (.tmp 4)), oo 17 (.iaddr (.tmp 15) (.tmp 16) 4 none), oo 18 (.faddr (.tmp 17) 2), oo 19 (.load none (.tmp 18)), oo 20 (.bsl 1 false [i6 0] 1 [(0, (.tmp 19))]), oo 21 (.app (.tmp 13) (.tmp 20) 1 8 [i6 0]), oo 3 (.mov (.tmp 21))])) (.reg [oo 11 (.mov (.tmp 4)), oo 12 (.bin .add (.tmp 11) (.con (i6 1))), oo 4 (.mov (.tmp 12))])))))) (.seq (.reg [oo 5 (.mov (.con (i6 0)))]) (.seq (.seq (.reg [oo 22 (.faddr (.tmp 1) 1), oo 23 (.load none (.tmp 22)), oo 24 (.len false (.tmp 23)), oo 25 (.bin .gtr (.tmp 24) (.con (i6 0)))]) (.cond (.tmp 25) (.reg [oo 26 (.faddr (.tmp 1) 1), oo 27 (.load none (.tmp 26)), oo 28 (.iaddr (.tmp 27) (.con (i6 0)) 3 none), oo 29 (.faddr (.tmp 28) 2), oo 30 (.load none (.tmp 29)), oo 5 (.mov (.tmp 30))]) .skip)) (.seq (.reg [oo 31 (.load (some 2) (.tmp 1)), oo 32 (.mov (.tmp 3)), oo 33 (.mov (.tmp 5)), oo 34 (.call (.con (.fn 60 [] [])) [(.tmp 31), (.con (.nils)), (.con (.nils)), (.tmp 32), (.tmp 33), (.con (.nils))]), oo 2 (.mov (.tmp 34))]) .ret))))))⟩
theorem comp26 : compFn Try.prog 26 = some F26 := by kernel_rfl
def F27 : AFn := ⟨2, 62, [.tmp 4, .tmp 5], (.seq (.reg [oo 2 (.box (.tmp 0)), oo 4 (.mov (.con (.nils))), oo 5 (.mov (.con (i6 0)))]) (.seq (.seq (.reg [oo 14 (.load (some 2) (.tmp 2)), oo 15 (.call (.con (.fn 21 [] [])) [(.tmp 14)]), oo 6 (.mov (.tmp 15))]) (.seq (.reg [oo 16 (.mov (.tmp 6)), oo 17 (.bin .neq (.tmp 16) (.con (i6 0)))]) (.cond (.tmp 17) (.seq (.reg [oo 18 (.mov (.tmp 6)), oo 4 (.mov (.con (.nils))), oo 5 (.mov (.tmp 18))]) .ret) .skip))) (.seq (.seq (.reg [oo 19 (.load (some 2) (.tmp 2)), oo 20 (.mov (.tmp 1)), oo 21 (.call (.con (.fn 61 [] [])) [(.tmp 19), (.tmp 20)]), oo 7 (.mov (.tmp 21))]) (.seq (.reg [oo 22 (.mov (.tmp 7)), oo 23 (.bin .neq (.tmp 22) (.con (i6 0)))]) (.cond (.tmp 23) (.seq (.reg [oo 24 (.mov (.tmp 7)), oo 4 (.mov (.con (.nils))), oo 5 (.mov (.tmp 24))]) .ret) .skip))) (.seq (.reg [oo 8 (.mov (.con (.nils)))]) (.seq (.seq (.reg [oo 25 (.mov (.tmp 1)), oo 26 (.len false (.tmp 25)), oo 27 (.mov (.con (i6 0)))]) (.block 0 (.loop (.seq (.reg [oo 28 (.bin .lss (.tmp 27) (.tmp 26))]) (.seq (.cond (.tmp 28) .skip (.exit 0)) (.seq (.block 1 (.seq (.reg [oo 29 (.mov (.tmp 27)), oo 30 (.iaddr (.tmp 25) (.tmp 27) 1 none), oo 31 (.load none (.tmp 30)), oo 9 (.mov (.tmp 29)), oo 10 (.mov (.tmp 31))]) (.reg [oo 32 (.mov (.tmp 8)), oo 33 (.load (some 2) (.tmp 2)), oo 34 (.mov (.tmp 9)), oo 35 (.mov (.tmp 10)), oo 36 (.call (.con (.fn 62 [] [])) [(.tmp 33), (.tmp 34), (.tmp 35)]), oo 37 (.app (.tmp 32) (.tmp 36) 3 24 [i6 0, i6 0, i6 0]), oo 8 (.mov (.tmp 37))]))) (.reg [oo 38 (.bin .add (.tmp 27) (.con (i6 1))), oo 27 (.mov (.tmp 38))]))))))) (.seq (.seq (.reg [oo 39 (.faddr (.tmp 2) 0), oo 40 (.load none (.tmp 39)), oo 41 (.len false (.tmp 40)), oo 42 (.mov (.con (i6 0)))]) (.block 2 (.loop (.seq (.reg [oo 43 (.bin .lss (.tmp 42) (.tmp 41))]) (.seq (.cond (.tmp 43) .skip (.exit 2)) (.seq (.block 3 (.seq (.reg [oo 44 (.mov (.tmp 42)), oo 45 (.iaddr (.tmp 40) (.tmp 42) 4 none), oo 46 (.load (some 4) (.tmp 45)), oo 11 (.box (.con (i6 0))), oo 12 (.box (.con (.agg [i6 0, i6 0, i6 0, .nils]))), on (.store 1 (.tmp 11) (.tmp 44)), on (.store 4 (.tmp 12) (.tmp 46))]) (.seq (.reg [oo 47 (.mov (.tmp 1)), oo 48 (.call (.con (.fn 64 [] [])) [(.tmp 47)]), oo 49 (.mkfn 65 [] [(.tmp 11)]), oo 50 (.call (.con (.fn 63 [] [])) [(.tmp 48), (.tmp 49)]), oo 13 (.mov (.tmp 50))]) (.seq (.reg [oo 51 (.mov (.tmp 13)), oo 52 (.faddr (.tmp 12) 2), oo 53 (.load none (.tmp 52)), oo 54 (.bin .gtr (.tmp 51) (.tmp 53))]) (.cond (.tmp 54) (.reg [oo 55 (.mov (.tmp 8)), oo 56 (.load none (.tmp 11)), oo 57 (.build [i6 0, i6 0, i6 0] [(0, 1, (.con (i6 3))), (2, 1, (.tmp 56))]), oo 58 (.bsl 3 true [i6 0, i6 0, i6 0] 1 [(0, (.tmp 57))]), oo 59 (.app (.tmp 55) (.tmp 58) 3 24 [i6 0, i6 0, i6 0]), oo 8 (.mov (.tmp 59))]) .skip))))) (.reg [oo 60 (.bin .add (.tmp 42) (.con (i6 1))), oo 42 (.mov (.tmp 60))]))))))) (.seq (.reg [oo 61 (.mov (.tmp 8)), oo 4 (.mov (.tmp 61)), oo 5 (.mov (.con (i6 0)))]) .ret)))))))⟩
theorem comp27 : compFn Try.prog 27 = some F27 := by kernel_rfl
def F28 : AFn := ⟨2, 9, [.tmp 4], (.seq (.reg [oo 4 (.mov (.con (.bool false)))]) (.seq (.reg [oo 5 (.mov (.tmp 0)), oo 6 (.mov (.tmp 1)), oo 7 (.call (.con (.fn 14 [] [])) [(.tmp 5), (.tmp 6)]), oo 8 (.bin .eql (.tmp 7) (.con (i6 0))), oo 4 (.mov (.tmp 8))]) .ret))⟩
theorem comp28 : compFn Try.prog 28 = some F28 := by kernel_rfl
def F29 : AFn := ⟨1, 20, [.tmp 2], (.seq (.reg [oo 2 (.mov (.con (.nils)))]) (.seq (.reg [oo 3 (.mov (.con (.nils)))]) (.seq (.seq (.reg [oo 4 (.mov (.con (i6 0)))]) (.block 0 (.loop (.seq (.seq (.reg [oo 5 (.mov (.tmp 4)), oo 6 (.mov (.tmp 0)), oo 7 (.len false (.tmp 6)), oo 8 (.bin .lss (.tmp 5) (.tmp 7))]) (.cond (.tmp 8) .skip (.exit 0))) (.seq (.block 1 (.reg [oo 11 (.mov (.tmp 3)), oo 12 (.mov (.tmp 0)), oo 13 (.mov (.tmp 4)), oo 14 (.iaddr (.tmp 12) (.tmp 13) 1 none), oo 15 (.load none (.tmp 14)), oo 16 (.call (.con (.fn 37 [] [])) [(.tmp 15)]), oo 17 (.bsl 1 false [.nils] 1 [(0, (.tmp 16))]), oo 18 (.app (.tmp 11) (.tmp 17) 1 24 [.nils]), oo 3 (.mov (.tmp 18))])) (.reg [oo 9 (.mov (.tmp 4)), oo 10 (.bin .add (.tmp 9) (.con (i6 1))), oo 4 (.mov (.tmp 10))])))))) (.seq (.reg [oo 19 (.mov (.tmp 3)), oo 2 (.mov (.tmp 19))]) .ret))))⟩
theorem comp29 : compFn Try.prog 29 = some F29 := by kernel_rfl
def F30 : AFn := ⟨2, 8, [.cell 4 (some 2)], (.seq (.reg [oo 4 (.box (.con (.agg [i6 0, i6 0])))]) (.seq (.reg [oo 5 (.mov (.tmp 0)), oo 6 (.mov (.tmp 1)), oo 7 (.build [i6 0, i6 0] [(0, 1, (.tmp 5)), (1, 1, (.tmp 6))]), on (.store 2 (.tmp 4) (.tmp 7))]) .ret))⟩
theorem comp30 : compFn Try.prog 30 = some F30 := by kernel_rfl
def F31 : AFn := ⟨3, 15, [.tmp 6], (.seq (.reg [oo 6 (.mov (.con (i6 0)))]) (.seq (.reg [oo 7 (.mov (.tmp 1)), oo 8 (.mov (.tmp 0)), oo 9 (.mov (.tmp 2)), oo 10 (.mov (.tmp 1)), oo 11 (.bin .sub (.tmp 9) (.tmp 10)), oo 12 (.bin .add (.tmp 11) (.con (i6 1))), oo 13 (.call (.con (.fn 14 [] [])) [(.tmp 8), (.tmp 12)]), oo 14 (.bin .add (.tmp 7) (.tmp 13)), oo 6 (.mov (.tmp 14))]) .ret))⟩
theorem comp31 : compFn Try.prog 31 = some F31 := by kernel_rfl
def F32 : AFn := ⟨0, 13, [.cell 0 (some 2)], (.seq (.reg [oo 0 (.box (.con (.agg [.nils, .nils])))]) (.seq (.reg [oo 1 (.bsl 1 false [i6 0] 2 [(0, (.con (i6 0))), (1, (.con (i6 1)))]), oo 2 (.build [i6 0, i6 0, i6 0, .nils] [(1, 1, (.con (i6 30))), (2, 1, (.con (i6 1000))), (3, 1, (.tmp 1))]), oo 3 (.bsl 1 false [i6 0] 1 [(0, (.con (i6 1)))]), oo 4 (.build [i6 0, i6 0, i6 0, .nils] [(0, 1, (.con (i6 5))), (1, 1, (.con (i6 20))), (2, 1, (.con (i6 500))), (3, 1, (.tmp 3))]), oo 5 (.bsl 1 false [i6 0] 3 [(0, (.con (i6 0))), (1, (.con (i6 1))), (2, (.con (i6 2)))]), oo 6 (.build [i6 0, i6 0, i6 0, .nils] [(1, 1, (.con (i6 40))), (2, 1, (.con (i6 300))), (3, 1, (.tmp 5))]), oo 7 (.bsl 4 true [i6 0, i6 0, i6 0, .nils] 3 [(0, (.tmp 2)), (1, (.tmp 4)), (2, (.tmp 6))]), oo 8 (.build [i6 0, i6 0, i6 0] [(0, 1, (.con (i6 10))), (1, 1, (.con (i6 1))), (2, 1, (.con (i6 600)))]), oo 9 (.build [i6 0, i6 0, i6 0] [(0, 1, (.con (i6 15))), (2, 1, (.con (i6 900)))]), oo 10 (.build [i6 0, i6 0, i6 0] [(0, 1, (.con (i6 35))), (1, 1, (.con (i6 2))), (2, 1, (.con (i6 200)))]), oo 11 (.bsl 3 true [i6 0, i6 0, i6 0] 3 [(0, (.tmp 8)), (1, (.tmp 9)), (2, (.tmp 10))]), oo 12 (.build [.nils, .nils] [(0, 1, (.tmp 7)), (1, 1, (.tmp 11))]), on (.store 2 (.tmp 0) (.tmp 12))]) .ret))⟩
theorem comp32 : compFn Try.prog 32 = some F32 := by kernel_rfl
def F33 : AFn := ⟨1, 11, [.cell 2 (some 2)], (.seq (.reg [oo 2 (.box (.con (.agg [.nils, .nils])))]) (.seq (.reg [oo 4 (.call (.con (.fn 32 [] [])) []), oo 3 (.box (.con (.agg [.nils, .nils]))), on (.store 2 (.tmp 3) (.tmp 4))]) (.seq (.reg [oo 5 (.faddr (.tmp 3) 1), oo 6 (.load none (.tmp 5)), oo 7 (.mov (.tmp 0)), oo 8 (.iaddr (.tmp 6) (.con (i6 1)) 3 none), oo 9 (.faddr (.tmp 8) 2), on (.store 1 (.tmp 9) (.tmp 7))]) (.seq (.reg [oo 10 (.load (some 2) (.tmp 3)), on (.store 2 (.tmp 2) (.tmp 10))]) .ret))))⟩
theorem comp33 : compFn Try.prog 33 = some F33 := by kernel_rfl
def F34 : AFn := ⟨2, 23, [.tmp 4, .tmp 5, .tmp 6], (.seq (.reg [oo 4 (.mov (.con (i6 0))), oo 5 (.mov (.con (i6 0))), oo 6 (.mov (.con (i6 0)))]) (.seq (.seq (.reg [oo 8 (.mov (.tmp 0)), oo 9 (.mov (.tmp 1)), oo 10 (.call (.con (.fn 66 [] [])) [(.tmp 8), (.tmp 9)]), oo 7 (.mov (.tmp 10))]) (.seq (.reg [oo 11 (.mov (.tmp 7)), oo 12 (.bin .neq (.tmp 11) (.con (i6 0)))]) (.cond (.tmp 12) (.seq (.reg [oo 13 (.mov (.tmp 7)), oo 4 (.mov (.con (i6 0))), oo 5 (.mov (.con (i6 0))), oo 6 (.mov (.tmp 13))]) .ret) .skip))) (.seq (.reg [oo 14 (.mov (.tmp 1)), oo 15 (.call (.con (.fn 67 [] [])) [(.tmp 14)]), oo 16 (.mov (.tmp 0)), oo 17 (.call (.con (.fn 67 [] [])) [(.tmp 16)]), oo 18 (.bin .rem (.tmp 15) (.tmp 17)), oo 4 (.mov (.tmp 18))]) (.seq (.reg [oo 19 (.mov (.tmp 4)), oo 20 (.mov (.tmp 0)), oo 21 (.mov (.tmp 4)), oo 22 (.call (.con (.fn 68 [] [])) [(.tmp 20), (.tmp 21)]), oo 4 (.mov (.tmp 19)), oo 5 (.mov (.tmp 22)), oo 6 (.mov (.con (i6 0)))]) .ret))))⟩
theorem comp34 : compFn Try.prog 34 = some F34 := by kernel_rfl
def F35 : AFn := ⟨0, 5, [.tmp 0], (.seq (.reg [oo 0 (.mov (.con (.nils)))]) (.seq (.reg [oo 1 (.bsl 1 false [i6 0] 3 [(0, (.con (i6 200))), (1, (.con (i6 400))), (2, (.con (i6 0)))]), oo 2 (.bsl 1 false [i6 0] 3 [(0, (.con (i6 800))), (1, (.con (i6 0))), (2, (.con (i6 100)))]), oo 3 (.bsl 1 false [i6 0] 3 [(0, (.con (i6 0))), (1, (.con (i6 0))), (2, (.con (i6 200)))]), oo 4 (.bsl 1 false [.nils] 3 [(0, (.tmp 1)), (1, (.tmp 2)), (2, (.tmp 3))]), oo 0 (.mov (.tmp 4))]) .ret))⟩
theorem comp35 : compFn Try.prog 35 = some F35 := by kernel_rfl
def F36 : AFn := ⟨1, 31, [.tmp 2], (.seq (.reg [oo 2 (.mov (.con (.int .u64 0)))]) (.seq (.reg [oo 4 (.mov (.tmp 0)), oo 5 (.mov (.tmp 0)), oo 6 (.nilck (.tmp 5)), oo 7 (.faddr (.tmp 6) 0), oo 8 (.load none (.tmp 7)), oo 9 (.bin .mul (.tmp 8) (.con (.int .u64 15074714826142052245))), oo 10 (.bin .add (.tmp 9) (.con (.int .u64 11400714819323198485))), oo 11 (.nilck (.tmp 4)), oo 12 (.faddr (.tmp 11) 0), on (.store 1 (.tmp 12) (.tmp 10))]) (.seq (.reg [oo 13 (.mov (.tmp 0)), oo 14 (.nilck (.tmp 13)), oo 15 (.faddr (.tmp 14) 0), oo 16 (.load none (.tmp 15)), oo 3 (.mov (.tmp 16))]) (.seq (.reg [oo 17 (.mov (.tmp 3)), oo 18 (.mov (.tmp 3)), oo 19 (.bin .shr (.tmp 18) (.con (.int .u64 32))), oo 20 (.bin .xor (.tmp 17) (.tmp 19)), oo 21 (.bin .mul (.tmp 20) (.con (.int .u64 15760922415973212899))), oo 3 (.mov (.tmp 21))]) (.seq (.reg [oo 22 (.mov (.tmp 3)), oo 23 (.mov (.tmp 3)), oo 24 (.bin .shr (.tmp 23) (.con (.int .u64 32))), oo 25 (.bin .xor (.tmp 22) (.tmp 24)), oo 26 (.bin .mul (.tmp 25) (.con (.int .u64 15760922415973212899))), oo 3 (.mov (.tmp 26))]) (.seq (.reg [oo 27 (.mov (.tmp 3)), oo 28 (.mov (.tmp 3)), oo 29 (.bin .shr (.tmp 28) (.con (.int .u64 32))), oo 30 (.bin .xor (.tmp 27) (.tmp 29)), oo 2 (.mov (.tmp 30))]) .ret))))))⟩
theorem comp36 : compFn Try.prog 36 = some F36 := by kernel_rfl
def F37 : AFn := ⟨1, 6, [.tmp 2], (.seq (.reg [oo 2 (.mov (.con (.nils)))]) (.seq (.reg [oo 3 (.bsl 1 false [i6 0] 0 []), oo 4 (.mov (.tmp 0)), oo 5 (.app (.tmp 3) (.tmp 4) 1 8 [i6 0]), oo 2 (.mov (.tmp 5))]) .ret))⟩
theorem comp37 : compFn Try.prog 37 = some F37 := by kernel_rfl
def F38 : AFn := ⟨1, 39, [.tmp 2], (.seq (.reg [oo 1 (.box (.tmp 0)), oo 2 (.mov (.con (.nils)))]) (.seq (.reg [oo 3 (.mov (.con (.nils)))]) (.seq (.seq (.reg [oo 9 (.faddr (.tmp 1) 1), oo 10 (.load none (.tmp 9)), oo 11 (.len false (.tmp 10)), oo 12 (.mov (.con (i6 0)))]) (.block 0 (.loop (.seq (.reg [oo 13 (.bin .lss (.tmp 12) (.tmp 11))]) (.seq (.cond (.tmp 13) .skip (.exit 0)) (.seq (.block 1 (.seq (.reg [oo 14 (.iaddr (.tmp 10) (.tmp 12) 3 none), oo 15 (.load (some 3) (.tmp 14)), oo 5 (.box (.con (.agg [i6 0, i6 0, i6 0]))), on (.store 3 (.tmp 5) (.tmp 15))]) (.seq (.reg [oo 6 (.box (.con (.int .u8 0))), on (.store 1 (.tmp 6) (.con (.int .u8 0)))]) (.seq (.seq (.reg [oo 16 (.faddr (.tmp 1) 0), oo 17 (.load none (.tmp 16)), oo 18 (.len false (.tmp 17)), oo 19 (.mov (.con (i6 0)))]) (.block 2 (.loop (.seq (.reg [oo 20 (.bin .lss (.tmp 19) (.tmp 18))]) (.seq (.cond (.tmp 20) .skip (.exit 2)) (.seq (.block 3 (.seq (.reg [oo 21 (.mov (.tmp 19)), oo 22 (.iaddr (.tmp 17) (.tmp 19) 4 none), oo 23 (.load (some 4) (.tmp 22)), oo 8 (.box (.con (.agg [i6 0, i6 0, i6 0, .nils]))), oo 7 (.mov (.tmp 21)), on (.store 4 (.tmp 8) (.tmp 23))]) (.seq (.reg [oo 24 (.load (some 4) (.tmp 8)), oo 25 (.load (some 3) (.tmp 5)), oo 26 (.call (.con (.fn 69 [] [])) [(.tmp 24), (.tmp 25)])]) (.cond (.tmp 26) (.reg [oo 27 (.mov (.tmp 7)), oo 28 (.call (.con (.fn 70 [] [])) [(.tmp 6), (.tmp 27)])]) .skip)))) (.reg [oo 29 (.bin .add (.tmp 19) (.con (i6 1))), oo 19 (.mov (.tmp 29))]))))))) (.reg [oo 30 (.mov (.tmp 3)), oo 31 (.faddr (.tmp 5) 2), oo 32 (.load none (.tmp 31)), oo 33 (.load none (.tmp 6)), oo 34 (.build [i6 0, .int .u8 0] [(0, 1, (.tmp 32)), (1, 1, (.tmp 33))]), oo 35 (.bsl 2 true [i6 0, .int .u8 0] 1 [(0, (.tmp 34))]), oo 36 (.app (.tmp 30) (.tmp 35) 2 16 [i6 0, .int .u8 0]), oo 3 (.mov (.tmp 36))]))))) (.reg [oo 37 (.bin .add (.tmp 12) (.con (i6 1))), oo 12 (.mov (.tmp 37))]))))))) (.seq (.reg [oo 38 (.mov (.tmp 3)), oo 2 (.mov (.tmp 38))]) .ret))))⟩
theorem comp38 : compFn Try.prog 38 = some F38 := by kernel_rfl
def F39 : AFn := ⟨1, 21, [.cell 2 (some 8)], (.seq (.reg [oo 1 (.box (.tmp 0)), oo 2 (.box (.con (.agg [i6 0, i6 0, i6 0, i6 0, i6 0, i6 0, i6 0, i6 0])))]) (.seq (.reg [oo 6 (.build [i6 0, i6 0, i6 0, i6 0, i6 0, i6 0, i6 0, i6 0] []), oo 3 (.box (.con (.agg [i6 0, i6 0, i6 0, i6 0, i6 0, i6 0, i6 0, i6 0]))), on (.store 8 (.tmp 3) (.tmp 6))]) (.seq (.seq (.reg [oo 7 (.faddr (.tmp 1) 0), oo 8 (.load none (.tmp 7)), oo 9 (.len false (.tmp 8)), oo 10 (.mov (.con (i6 0)))]) (.block 0 (.loop (.seq (.reg [oo 11 (.bin .lss (.tmp 10) (.tmp 9))]) (.seq (.cond (.tmp 11) .skip (.exit 0)) (.seq (.block 1 (.seq (.reg [oo 12 (.mov (.tmp 10)), oo 13 (.iaddr (.tmp 8) (.tmp 10) 4 none), oo 14 (.load (some 4) (.tmp 13)), oo 5 (.box (.con (.agg [i6 0, i6 0, i6 0, .nils]))), oo 4 (.mov (.tmp 12)), on (.store 4 (.tmp 5) (.tmp 14))]) (.reg [oo 15 (.mov (.tmp 4)), oo 16 (.faddr (.tmp 5) 2), oo 17 (.load none (.tmp 16)), oo 18 (.iaddr (.tmp 3) (.tmp 15) 1 (some 8)), on (.store 1 (.tmp 18) (.tmp 17))]))) (.reg [oo 19 (.bin .add (.tmp 10) (.con (i6 1))), oo 10 (.mov (.tmp 19))]))))))) (.seq (.reg [oo 20 (.load (some 8) (.tmp 3)), on (.store 8 (.tmp 2) (.tmp 20))]) .ret))))⟩
theorem comp39 : compFn Try.prog 39 = some F39 := by kernel_rfl
def F40 : AFn := ⟨2, 27, [.tmp 4], (.seq (.reg [oo 2 (.box (.tmp 0)), oo 3 (.box (.tmp 1)), oo 4 (.mov (.con (i6 0)))]) (.seq (.reg [oo 5 (.box (.con (i6 0))), on (.store 1 (.tmp 5) (.con (i6 0)))]) (.seq (.seq (.reg [oo 8 (.load none (.tmp 2)), oo 9 (.len false (.tmp 8)), oo 10 (.bin .add (.tmp 9) (.con (i6 1))), oo 11 (.mov (.con (i6 0)))]) (.block 0 (.loop (.seq (.reg [oo 12 (.bin .lss (.tmp 11) (.tmp 10))]) (.seq (.cond (.tmp 12) .skip (.exit 0)) (.seq (.block 1 (.seq (.reg [oo 13 (.mov (.tmp 11)), oo 6 (.mov (.tmp 13))]) (.seq (.reg [oo 14 (.mov (.tmp 6)), oo 15 (.load none (.tmp 2)), oo 16 (.len false (.tmp 15)), oo 17 (.call (.con (.fn 71 [] [])) [(.tmp 14), (.tmp 16)])]) (.block 2 (.rangeF (.tmp 17) [18] (.reg [oo 7 (.mov (.tmp 18))]) (.block 3 (.dreg 5 [oo 19 (.load none (.tmp 5)), oo 20 (.load none (.tmp 2)), oo 21 (.mov (.tmp 7)), oo 22 (.load (some 8) (.tmp 3)), oo 23 (.call (.con (.fn 72 [] [])) [(.tmp 20), (.tmp 21), (.tmp 22)]), oo 24 (.mx (.tmp 19) (.tmp 23)), on (.store 1 (.tmp 5) (.tmp 24))]))))))) (.reg [oo 25 (.bin .add (.tmp 11) (.con (i6 1))), oo 11 (.mov (.tmp 25))]))))))) (.seq (.reg [oo 26 (.load none (.tmp 5)), oo 4 (.mov (.tmp 26))]) .ret))))⟩
theorem comp40 : compFn Try.prog 40 = some F40 := by kernel_rfl
def F41 : AFn := ⟨2, 52, [.cell 4 (some 8), .cell 5 (some 8)], (.seq (.reg [oo 3 (.box (.tmp 1)), oo 4 (.box (.con (.agg [i6 0, i6 0, i6 0, i6 0, i6 0, i6 0, i6 0, i6 0]))), oo 5 (.box (.con (.agg [i6 0, i6 0, i6 0, i6 0, i6 0, i6 0, i6 0, i6 0])))]) (.seq (.dreg 9 [oo 11 (.mov (.tmp 0)), oo 12 (.iaddr (.tmp 11) (.con (i6 0)) 2 none), oo 13 (.faddr (.tmp 12) 0), oo 14 (.load none (.tmp 13)), oo 15 (.mov (.tmp 0)), oo 16 (.slc false 2 (.tmp 15) (some (.con (i6 1))) none), oo 6 (.box (.con (i6 0))), oo 7 (.box (.con (.nils))), on (.store 1 (.tmp 6) (.tmp 14)), on (.store 1 (.tmp 7) (.tmp 16))]) (.seq (.seq (.reg [oo 17 (.mov (.tmp 0)), oo 18 (.iaddr (.tmp 17) (.con (i6 0)) 2 none), oo 19 (.faddr (.tmp 18) 1), oo 20 (.load none (.tmp 19)), oo 21 (.call (.con (.fn 48 [] [])) [(.tmp 20)])]) (.block 0 (.rangeF (.tmp 21) [22] (.reg [oo 8 (.mov (.tmp 22))]) (.block 1 (.seq (.dreg 4 [oo 23 (.load none (.tmp 7)), oo 24 (.load (some 8) (.tmp 3)), oo 25 (.mov (.tmp 8)), oo 26 (.call (.con (.fn 52 [] [])) [(.tmp 24), (.tmp 25), (.con (i6 0))]), oo 27 (.call (.con (.fn 40 [] [])) [(.tmp 23), (.tmp 26)]), oo 9 (.mov (.tmp 27))]) (.seq (.dreg 6 [oo 28 (.load none (.tmp 6)), oo 29 (.mov (.tmp 8)), oo 30 (.iaddr (.tmp 3) (.tmp 29) 1 (some 8)), oo 31 (.load none (.tmp 30)), oo 32 (.mov (.tmp 9)), oo 33 (.bin .sub (.tmp 31) (.tmp 32)), oo 34 (.mn (.tmp 28) (.tmp 33)), oo 10 (.mov (.tmp 34))]) (.seq (.reg [oo 35 (.load none (.tmp 6)), oo 36 (.mov (.tmp 10)), oo 37 (.bin .sub (.tmp 35) (.tmp 36)), on (.store 1 (.tmp 6) (.tmp 37))]) (.seq (.reg [oo 38 (.load (some 8) (.tmp 4)), oo 39 (.mov (.tmp 8)), oo 40 (.mov (.tmp 10)), oo 41 (.call (.con (.fn 52 [] [])) [(.tmp 38), (.tmp 39), (.tmp 40)]), on (.store 8 (.tmp 4) (.tmp 41))]) (.dreg 7 [oo 42 (.load (some 8) (.tmp 3)), oo 43 (.mov (.tmp 8)), oo 44 (.mov (.tmp 8)), oo 45 (.iaddr (.tmp 3) (.tmp 44) 1 (some 8)), oo 46 (.load none (.tmp 45)), oo 47 (.mov (.tmp 10)), oo 48 (.bin .sub (.tmp 46) (.tmp 47)), oo 49 (.call (.con (.fn 52 [] [])) [(.tmp 42), (.tmp 43), (.tmp 48)]), on (.store 8 (.tmp 3) (.tmp 49))]))))))))) (.seq (.dreg 3 [oo 50 (.load (some 8) (.tmp 4)), oo 51 (.load (some 8) (.tmp 3)), on (.store 8 (.tmp 4) (.tmp 50)), on (.store 8 (.tmp 5) (.tmp 51))]) .ret))))⟩
theorem comp41 : compFn Try.prog 41 = some F41 := by kernel_rfl
def F43 : AFn := ⟨2, 35, [.tmp 4], (.seq (.reg [oo 2 (.box (.tmp 0)), oo 3 (.box (.tmp 1)), oo 4 (.mov (.con (.bool false)))]) (.seq (.reg [oo 5 (.mov (.con (.bool false)))]) (.seq (.seq (.reg [oo 6 (.mov (.con (i6 0)))]) (.block 0 (.loop (.seq (.seq (.reg [oo 7 (.mov (.tmp 6)), oo 8 (.faddr (.tmp 2) 3), oo 9 (.load none (.tmp 8)), oo 10 (.len false (.tmp 9)), oo 11 (.bin .lss (.tmp 7) (.tmp 10))]) (.cond (.tmp 11) .skip (.exit 0))) (.seq (.block 1 (.dreg 9 [oo 14 (.mov (.tmp 5)), oo 15 (.mov (.tmp 14)), ⟨some 16, .faddr (.tmp 2) 3, some (15, false)⟩, ⟨some 17, .load none (.tmp 16), some (15, false)⟩, ⟨some 18, .mov (.tmp 6), some (15, false)⟩, ⟨some 19, .iaddr (.tmp 17) (.tmp 18) 1 none, some (15, false)⟩, ⟨some 20, .load none (.tmp 19), some (15, false)⟩, ⟨some 21, .faddr (.tmp 3) 1, some (15, false)⟩, ⟨some 22, .load none (.tmp 21), some (15, false)⟩, ⟨some 23, .bin .eql (.tmp 20) (.tmp 22), some (15, false)⟩, oo 24 (.pick (.tmp 15) (.con (.bool true)) (.tmp 23)), oo 5 (.mov (.tmp 24))])) (.reg [oo 12 (.mov (.tmp 6)), oo 13 (.bin .add (.tmp 12) (.con (i6 1))), oo 6 (.mov (.tmp 13))])))))) (.seq (.reg [oo 25 (.mov (.tmp 5)), oo 26 (.mov (.tmp 25)), ⟨some 27, .faddr (.tmp 3) 0, some (26, true)⟩, ⟨some 28, .load none (.tmp 27), some (26, true)⟩, ⟨some 29, .faddr (.tmp 2) 0, some (26, true)⟩, ⟨some 30, .load none (.tmp 29), some (26, true)⟩, ⟨some 31, .faddr (.tmp 2) 1, some (26, true)⟩, ⟨some 32, .load none (.tmp 31), some (26, true)⟩, ⟨some 33, .call (.con (.fn 54 [] [])) [(.tmp 28), (.tmp 30), (.tmp 32)], some (26, true)⟩, oo 34 (.pick (.tmp 26) (.tmp 33) (.con (.bool false))), oo 4 (.mov (.tmp 34))]) .ret))))⟩
theorem comp43 : compFn Try.prog 43 = some F43 := by kernel_rfl
def F46 : AFn := ⟨2, 27, [.tmp 4], (.seq (.reg [oo 2 (.box (.tmp 0)), oo 3 (.box (.tmp 1)), oo 4 (.mov (.con (.int .u8 0)))]) (.scope (.seq (.reg [oo 5 (.box (.con (.int .u8 0))), on (.store 1 (.tmp 5) (.con (.int .u8 0)))]) (.seq .skip (.seq (.seq (.reg [oo 8 (.load none (.tmp 2)), oo 9 (.len false (.tmp 8)), oo 10 (.bin .add (.tmp 9) (.con (i6 1))), oo 11 (.mov (.con (i6 0)))]) (.block 0 (.loop (.seq (.reg [oo 12 (.bin .lss (.tmp 11) (.tmp 10))]) (.seq (.cond (.tmp 12) .skip (.exit 0)) (.seq (.block 1 (.seq (.reg [oo 13 (.mov (.tmp 11)), oo 6 (.mov (.tmp 13))]) (.seq (.reg [oo 14 (.mov (.tmp 6)), oo 15 (.load none (.tmp 2)), oo 16 (.len false (.tmp 15)), oo 17 (.call (.con (.fn 71 [] [])) [(.tmp 14), (.tmp 16)])]) (.block 2 (.rangeF (.tmp 17) [18] (.reg [oo 7 (.mov (.tmp 18))]) (.block 3 (.seq (.reg [oo 19 (.load none (.tmp 2)), oo 20 (.mov (.tmp 7)), oo 21 (.load (some 8) (.tmp 3)), oo 22 (.call (.con (.fn 72 [] [])) [(.tmp 19), (.tmp 20), (.tmp 21)]), oo 23 (.bin .gtr (.tmp 22) (.con (i6 0)))]) (.cond (.tmp 23) (.seq (.reg [oo 24 (.mov (.tmp 7)), on (.store 1 (.tmp 5) (.tmp 24))]) (.exit 0)) .skip)))))))) (.reg [oo 25 (.bin .add (.tmp 11) (.con (i6 1))), oo 11 (.mov (.tmp 25))]))))))) (.seq (.reg [oo 26 (.load none (.tmp 5)), oo 4 (.mov (.tmp 26))]) .ret))))))⟩
theorem comp46 : compFn Try.prog 46 = some F46 := by kernel_rfl
def F47 : AFn := ⟨1, 5, [.tmp 2], (.seq (.reg [oo 2 (.mov (.con (.nils)))]) (.seq (.reg [oo 3 (.mov (.tmp 0)), oo 4 (.call (.con (.fn 73 [] [])) [(.con (.nils)), (.tmp 3)]), oo 2 (.mov (.tmp 4))]) .ret))⟩
theorem comp47 : compFn Try.prog 47 = some F47 := by kernel_rfl
def F48 : AFn := ⟨1, 4, [.tmp 2], (.seq (.reg [oo 1 (.box (.tmp 0)), oo 2 (.mov (.con (.nilf)))]) (.seq (.reg [oo 3 (.mkfn 74 [] [(.tmp 1)]), oo 2 (.mov (.tmp 3))]) .ret))⟩
theorem comp48 : compFn Try.prog 48 = some F48 := by kernel_rfl
def F51 : AFn := ⟨3, 15, [.tmp 6], (.seq (.reg [oo 6 (.mov (.con (.bool false)))]) (.seq (.reg [oo 7 (.mov (.tmp 0)), oo 8 (.mov (.tmp 1)), oo 9 (.bin .geq (.tmp 7) (.tmp 8)), oo 10 (.mov (.tmp 9)), ⟨some 11, .mov (.tmp 0), some (10, true)⟩, ⟨some 12, .mov (.tmp 2), some (10, true)⟩, ⟨some 13, .bin .leq (.tmp 11) (.tmp 12), some (10, true)⟩, oo 14 (.pick (.tmp 10) (.tmp 13) (.con (.bool false))), oo 6 (.mov (.tmp 14))]) .ret))⟩
theorem comp51 : compFn Try.prog 51 = some F51 := by kernel_rfl
def F52 : AFn := ⟨3, 11, [.cell 6 (some 8)], (.seq (.reg [oo 3 (.box (.tmp 0)), oo 6 (.box (.con (.agg [i6 0, i6 0, i6 0, i6 0, i6 0, i6 0, i6 0, i6 0])))]) (.seq (.reg [oo 7 (.mov (.tmp 1)), oo 8 (.mov (.tmp 2)), oo 9 (.iaddr (.tmp 3) (.tmp 7) 1 (some 8)), on (.store 1 (.tmp 9) (.tmp 8))]) (.seq (.reg [oo 10 (.load (some 8) (.tmp 3)), on (.store 8 (.tmp 6) (.tmp 10))]) .ret)))⟩
theorem comp52 : compFn Try.prog 52 = some F52 := by kernel_rfl
def F53 : AFn := ⟨2, 9, [.tmp 4], (.seq (.reg [oo 3 (.box (.tmp 1)), oo 4 (.mov (.con (i6 0)))]) (.seq (.reg [oo 5 (.mov (.tmp 0)), oo 6 (.call (.con (.fn 77 [] [])) [(.tmp 5)]), oo 7 (.mkfn 78 [] [(.tmp 3)]), oo 8 (.call (.con (.fn 76 [] [])) [(.tmp 6), (.tmp 7)]), oo 4 (.mov (.tmp 8))]) .ret))⟩
theorem comp53 : compFn Try.prog 53 = some F53 := by kernel_rfl
def F54 : AFn := ⟨3, 15, [.tmp 6], (.seq (.reg [oo 6 (.mov (.con (.bool false)))]) (.seq (.reg [oo 7 (.mov (.tmp 0)), oo 8 (.mov (.tmp 1)), oo 9 (.bin .geq (.tmp 7) (.tmp 8)), oo 10 (.mov (.tmp 9)), ⟨some 11, .mov (.tmp 0), some (10, true)⟩, ⟨some 12, .mov (.tmp 2), some (10, true)⟩, ⟨some 13, .bin .leq (.tmp 11) (.tmp 12), some (10, true)⟩, oo 14 (.pick (.tmp 10) (.tmp 13) (.con (.bool false))), oo 6 (.mov (.tmp 14))]) .ret))⟩
theorem comp54 : compFn Try.prog 54 = some F54 := by kernel_rfl
def F55 : AFn := ⟨1, 33, [.tmp 2], (.seq (.reg [oo 1 (.box (.tmp 0)), oo 2 (.mov (.con (i6 0)))]) (.seq (.block 0 (.seq (.reg [oo 4 (.faddr (.tmp 1) 0), oo 5 (.load none (.tmp 4)), oo 6 (.call (.con (.fn 56 [] [])) [(.tmp 5)]), oo 7 (.un .not (.tmp 6)), oo 8 (.mov (.tmp 7)), ⟨some 9, .faddr (.tmp 1) 1, some (8, false)⟩, ⟨some 10, .load none (.tmp 9), some (8, false)⟩, ⟨some 11, .call (.con (.fn 56 [] [])) [(.tmp 10)], some (8, false)⟩, ⟨some 12, .un .not (.tmp 11), some (8, false)⟩, oo 13 (.pick (.tmp 8) (.con (.bool true)) (.tmp 12)), oo 3 (.mov (.tmp 13))]) (.cond (.tmp 3) (.seq (.reg [oo 2 (.mov (.con (i6 2)))]) .ret) (.seq (.reg [oo 15 (.faddr (.tmp 1) 0), oo 16 (.load none (.tmp 15)), oo 17 (.faddr (.tmp 1) 1), oo 18 (.load none (.tmp 17)), oo 19 (.bin .gtr (.tmp 16) (.tmp 18)), oo 14 (.mov (.tmp 19))]) (.cond (.tmp 14) (.seq (.reg [oo 2 (.mov (.con (i6 9)))]) .ret) (.seq (.reg [oo 21 (.faddr (.tmp 1) 2), oo 22 (.load none (.tmp 21)), oo 23 (.call (.con (.fn 58 [] [])) [(.tmp 22)]), oo 24 (.un .not (.tmp 23)), oo 20 (.mov (.tmp 24))]) (.cond (.tmp 20) (.seq (.reg [oo 2 (.mov (.con (i6 2)))]) .ret) (.seq (.reg [oo 26 (.faddr (.tmp 1) 3), oo 27 (.load none (.tmp 26)), oo 28 (.len false (.tmp 27)), oo 29 (.bin .gtr (.tmp 28) (.con (i6 8))), oo 25 (.mov (.tmp 29))]) (.cond (.tmp 25) (.seq (.reg [oo 2 (.mov (.con (i6 5)))]) .ret) .skip))))))))) (.seq (.reg [oo 30 (.faddr (.tmp 1) 3), oo 31 (.load none (.tmp 30)), oo 32 (.call (.con (.fn 80 [] [])) [(.tmp 31)]), oo 2 (.mov (.tmp 32))]) .ret)))⟩
theorem comp55 : compFn Try.prog 55 = some F55 := by kernel_rfl
def F56 : AFn := ⟨1, 5, [.tmp 2], (.seq (.reg [oo 2 (.mov (.con (.bool false)))]) (.seq (.reg [oo 3 (.mov (.tmp 0)), oo 4 (.call (.con (.fn 51 [] [])) [(.tmp 3), (.con (i6 0)), (.con (i6 3650))]), oo 2 (.mov (.tmp 4))]) .ret))⟩
theorem comp56 : compFn Try.prog 56 = some F56 := by kernel_rfl
def F57 : AFn := ⟨1, 5, [.tmp 2], (.seq (.reg [oo 2 (.mov (.con (.bool false)))]) (.seq (.reg [oo 3 (.mov (.tmp 0)), oo 4 (.call (.con (.fn 51 [] [])) [(.tmp 3), (.con (i6 0)), (.con (i6 7))]), oo 2 (.mov (.tmp 4))]) .ret))⟩
theorem comp57 : compFn Try.prog 57 = some F57 := by kernel_rfl
def F58 : AFn := ⟨1, 5, [.tmp 2], (.seq (.reg [oo 2 (.mov (.con (.bool false)))]) (.seq (.reg [oo 3 (.mov (.tmp 0)), oo 4 (.call (.con (.fn 51 [] [])) [(.tmp 3), (.con (i6 0)), (.con (i6 1000000000))]), oo 2 (.mov (.tmp 4))]) .ret))⟩
theorem comp58 : compFn Try.prog 58 = some F58 := by kernel_rfl
def F60 : AFn := ⟨6, 110, [.tmp 12], (.seq (.reg [oo 6 (.box (.tmp 0)), oo 12 (.mov (.con (.nils)))]) (.seq (.reg [oo 19 (.mov (.tmp 1)), oo 20 (.len false (.tmp 19)), oo 21 (.mov (.tmp 2)), oo 22 (.len false (.tmp 21)), oo 13 (.mov (.tmp 20)), oo 14 (.mov (.tmp 22))]) (.seq (.seq (.reg [oo 23 (.mov (.tmp 13)), oo 24 (.faddr (.tmp 6) 1), oo 25 (.load none (.tmp 24)), oo 26 (.len false (.tmp 25)), oo 27 (.bin .eql (.tmp 23) (.tmp 26))]) (.cond (.tmp 27) (.seq (.reg [oo 28 (.mov (.tmp 5)), oo 29 (.mov (.tmp 1)), oo 30 (.bsl 1 false [.nils] 1 [(0, (.tmp 29))]), oo 31 (.app (.tmp 28) (.tmp 30) 1 24 [.nils]), oo 12 (.mov (.tmp 31))]) .ret) .skip)) (.seq (.seq (.reg [oo 32 (.mov (.tmp 14)), oo 33 (.faddr (.tmp 6) 0), oo 34 (.load none (.tmp 33)), oo 35 (.len false (.tmp 34)), oo 36 (.bin .eql (.tmp 32) (.tmp 35))]) (.cond (.tmp 36) (.seq (.seq (.reg [oo 37 (.mov (.tmp 4)), oo 38 (.bin .gtr (.tmp 37) (.con (i6 0)))]) (.cond (.tmp 38) (.seq (.reg [oo 39 (.mov (.tmp 5)), oo 12 (.mov (.tmp 39))]) .ret) .skip)) (.seq (.reg [oo 15 (.mov (.con (i6 0)))]) (.seq (.seq (.reg [oo 40 (.mov (.tmp 13)), oo 41 (.bin .add (.tmp 40) (.con (i6 1))), oo 42 (.faddr (.tmp 6) 1), oo 43 (.load none (.tmp 42)), oo 44 (.len false (.tmp 43)), oo 45 (.bin .lss (.tmp 41) (.tmp 44))]) (.cond (.tmp 45) (.reg [oo 46 (.faddr (.tmp 6) 1), oo 47 (.load none (.tmp 46)), oo 48 (.mov (.tmp 13)), oo 49 (.bin .add (.tmp 48) (.con (i6 1))), oo 50 (.iaddr (.tmp 47) (.tmp 49) 3 none), oo 51 (.faddr (.tmp 50) 2), oo 52 (.load none (.tmp 51)), oo 15 (.mov (.tmp 52))]) .skip)) (.seq (.dreg 9 [oo 53 (.load (some 2) (.tmp 6)), oo 54 (.mov (.tmp 1)), oo 55 (.call (.con (.fn 29 [] [])) [(.tmp 54)]), oo 56 (.mov (.tmp 2)), oo 57 (.bsl 1 false [.nils] 1 [(0, (.tmp 56))]), oo 58 (.app (.tmp 55) (.tmp 57) 1 24 [.nils]), oo 59 (.mov (.tmp 3)), oo 60 (.mov (.tmp 15)), oo 61 (.mov (.tmp 5)), oo 62 (.call (.con (.fn 60 [] [])) [(.tmp 53), (.tmp 58), (.con (.nils)), (.tmp 59), (.tmp 60), (.tmp 61)]), oo 12 (.mov (.tmp 62))]) .ret)))) .skip)) (.seq (.reg [oo 16 (.mov (.con (i6 0)))]) (.seq (.seq (.dreg 10 [oo 63 (.faddr (.tmp 6) 0), oo 64 (.load none (.tmp 63)), oo 65 (.mov (.tmp 14)), oo 66 (.iaddr (.tmp 64) (.tmp 65) 4 none), oo 67 (.load (some 4) (.tmp 66)), oo 68 (.faddr (.tmp 6) 1), oo 69 (.load none (.tmp 68)), oo 70 (.mov (.tmp 13)), oo 71 (.iaddr (.tmp 69) (.tmp 70) 3 none), oo 72 (.load (some 3) (.tmp 71)), oo 73 (.call (.con (.fn 43 [] [])) [(.tmp 67), (.tmp 72)])]) (.cond (.tmp 73) (.reg [oo 74 (.mov (.tmp 4)), oo 75 (.mov (.tmp 3)), oo 76 (.mov (.tmp 14)), oo 77 (.iaddr (.tmp 75) (.tmp 76) 1 none), oo 78 (.load none (.tmp 77)), oo 79 (.mn (.tmp 74) (.tmp 78)), oo 16 (.mov (.tmp 79))]) .skip)) (.seq (.seq (.reg [oo 17 (.mov (.con (i6 0)))]) (.block 0 (.loop (.seq (.seq (.reg [oo 80 (.mov (.tmp 17)), oo 81 (.mov (.tmp 16)), oo 82 (.bin .leq (.tmp 80) (.tmp 81))]) (.cond (.tmp 82) .skip (.exit 0))) (.seq (.block 1 (.seq (.reg [oo 85 (.mov (.tmp 3)), oo 86 (.call (.con (.fn 37 [] [])) [(.tmp 85)]), oo 18 (.mov (.tmp 86))]) (.seq (.reg [oo 87 (.mov (.tmp 18)), oo 88 (.mov (.tmp 14)), oo 89 (.mov (.tmp 18)), oo 90 (.mov (.tmp 14)), oo 91 (.iaddr (.tmp 89) (.tmp 90) 1 none), oo 92 (.load none (.tmp 91)), oo 93 (.mov (.tmp 17)), oo 94 (.bin .sub (.tmp 92) (.tmp 93)), oo 95 (.iaddr (.tmp 87) (.tmp 88) 1 none), on (.store 1 (.tmp 95) (.tmp 94))]) (.dreg 12 [oo 96 (.load (some 2) (.tmp 6)), oo 97 (.mov (.tmp 1)), oo 98 (.mov (.tmp 2)), oo 99 (.call (.con (.fn 37 [] [])) [(.tmp 98)]), oo 100 (.mov (.tmp 17)), oo 101 (.bsl 1 false [i6 0] 1 [(0, (.tmp 100))]), oo 102 (.app (.tmp 99) (.tmp 101) 1 8 [i6 0]), oo 103 (.mov (.tmp 18)), oo 104 (.mov (.tmp 4)), oo 105 (.mov (.tmp 17)), oo 106 (.bin .sub (.tmp 104) (.tmp 105)), oo 107 (.mov (.tmp 5)), oo 108 (.call (.con (.fn 60 [] [])) [(.tmp 96), (.tmp 97), (.tmp 102), (.tmp 103), (.tmp 106), (.tmp 107)]), oo 5 (.mov (.tmp 108))])))) (.reg [oo 83 (.mov (.tmp 17)), oo 84 (.bin .add (.tmp 83) (.con (i6 1))), oo 17 (.mov (.tmp 84))])))))) (.seq (.reg [oo 109 (.mov (.tmp 5)), oo 12 (.mov (.tmp 109))]) .ret))))))))⟩
theorem comp60 : compFn Try.prog 60 = some F60 := by kernel_rfl
def F61 : AFn := ⟨2, 24, [.tmp 4], (.seq (.reg [oo 2 (.box (.tmp 0)), oo 4 (.mov (.con (i6 0)))]) (.seq (.reg [oo 7 (.mkfn 81 [] [(.tmp 2)]), oo 5 (.mov (.tmp 7))]) (.seq (.reg [oo 6 (.mov (.con (.fn 82 [] [])))]) (.seq (.block 0 (.seq (.reg [oo 9 (.mov (.tmp 1)), oo 10 (.len false (.tmp 9)), oo 11 (.faddr (.tmp 2) 1), oo 12 (.load none (.tmp 11)), oo 13 (.len false (.tmp 12)), oo 14 (.bin .neq (.tmp 10) (.tmp 13)), oo 15 (.mov (.tmp 14)), ⟨some 16, .mov (.tmp 1), some (15, false)⟩, ⟨some 17, .mov (.tmp 5), some (15, false)⟩, ⟨some 18, .call (.con (.fn 85 [] [])) [(.tmp 16), (.tmp 17)], some (15, false)⟩, oo 19 (.pick (.tmp 15) (.con (.bool true)) (.tmp 18)), oo 8 (.mov (.tmp 19))]) (.cond (.tmp 8) (.seq (.reg [oo 4 (.mov (.con (i6 1)))]) .ret) (.seq (.reg [oo 21 (.mov (.tmp 1)), oo 22 (.mov (.tmp 6)), oo 23 (.call (.con (.fn 85 [] [])) [(.tmp 21), (.tmp 22)]), oo 20 (.mov (.tmp 23))]) (.cond (.tmp 20) (.seq (.reg [oo 4 (.mov (.con (i6 2)))]) .ret) .skip))))) (.seq (.reg [oo 4 (.mov (.con (i6 0)))]) .ret)))))⟩
theorem comp61 : compFn Try.prog 61 = some F61 := by kernel_rfl
def F62 : AFn := ⟨3, 53, [.tmp 6], (.seq (.reg [oo 3 (.box (.tmp 0)), oo 6 (.mov (.con (.nils)))]) (.seq (.reg [oo 7 (.mov (.con (.nils)))]) (.seq (.reg [oo 11 (.faddr (.tmp 3) 1), oo 12 (.load none (.tmp 11)), oo 13 (.mov (.tmp 1)), oo 14 (.iaddr (.tmp 12) (.tmp 13) 3 none), oo 15 (.load (some 3) (.tmp 14)), oo 8 (.box (.con (.agg [i6 0, i6 0, i6 0]))), on (.store 3 (.tmp 8) (.tmp 15))]) (.seq (.seq (.dreg 4 [oo 16 (.mov (.tmp 2)), oo 17 (.call (.con (.fn 67 [] [])) [(.tmp 16)]), oo 18 (.faddr (.tmp 8) 2), oo 19 (.load none (.tmp 18)), oo 20 (.bin .neq (.tmp 17) (.tmp 19))]) (.cond (.tmp 20) (.reg [oo 21 (.mov (.tmp 7)), oo 22 (.mov (.tmp 1)), oo 23 (.build [i6 0, i6 0, i6 0] [(0, 1, (.con (i6 1))), (1, 1, (.tmp 22))]), oo 24 (.bsl 3 true [i6 0, i6 0, i6 0] 1 [(0, (.tmp 23))]), oo 25 (.app (.tmp 21) (.tmp 24) 3 24 [i6 0, i6 0, i6 0]), oo 7 (.mov (.tmp 25))]) .skip)) (.seq (.seq (.reg [oo 26 (.mov (.tmp 2)), oo 27 (.len false (.tmp 26)), oo 28 (.mov (.con (i6 0)))]) (.block 0 (.loop (.seq (.reg [oo 29 (.bin .lss (.tmp 28) (.tmp 27))]) (.seq (.cond (.tmp 29) .skip (.exit 0)) (.seq (.block 1 (.seq (.reg [oo 30 (.mov (.tmp 28)), oo 31 (.iaddr (.tmp 26) (.tmp 28) 1 none), oo 32 (.load none (.tmp 31)), oo 9 (.mov (.tmp 30)), oo 10 (.mov (.tmp 32))]) (.seq (.dreg 9 [oo 33 (.mov (.tmp 10)), oo 34 (.bin .gtr (.tmp 33) (.con (i6 0))), oo 35 (.mov (.tmp 34)), ⟨some 36, .faddr (.tmp 3) 0, some (35, true)⟩, ⟨some 37, .load none (.tmp 36), some (35, true)⟩, ⟨some 38, .mov (.tmp 9), some (35, true)⟩, ⟨some 39, .iaddr (.tmp 37) (.tmp 38) 4 none, some (35, true)⟩, ⟨some 40, .load (some 4) (.tmp 39), some (35, true)⟩, ⟨some 41, .load (some 3) (.tmp 8), some (35, true)⟩, ⟨some 42, .call (.con (.fn 69 [] [])) [(.tmp 40), (.tmp 41)], some (35, true)⟩, ⟨some 43, .un .not (.tmp 42), some (35, true)⟩, oo 44 (.pick (.tmp 35) (.tmp 43) (.con (.bool false)))]) (.cond (.tmp 44) (.reg [oo 45 (.mov (.tmp 7)), oo 46 (.mov (.tmp 1)), oo 47 (.mov (.tmp 9)), oo 48 (.build [i6 0, i6 0, i6 0] [(0, 1, (.con (i6 2))), (1, 1, (.tmp 46)), (2, 1, (.tmp 47))]), oo 49 (.bsl 3 true [i6 0, i6 0, i6 0] 1 [(0, (.tmp 48))]), oo 50 (.app (.tmp 45) (.tmp 49) 3 24 [i6 0, i6 0, i6 0]), oo 7 (.mov (.tmp 50))]) .skip)))) (.reg [oo 51 (.bin .add (.tmp 28) (.con (i6 1))), oo 28 (.mov (.tmp 51))]))))))) (.seq (.reg [oo 52 (.mov (.tmp 7)), oo 6 (.mov (.tmp 52))]) .ret))))))⟩
theorem comp62 : compFn Try.prog 62 = some F62 := by kernel_rfl
def F63 : AFn := ⟨2, 15, [.tmp 4], (.seq (.reg [oo 3 (.box (.tmp 1)), oo 4 (.mov (.con (i6 0)))]) (.seq (.reg [oo 5 (.box (.con (i6 0))), on (.store 1 (.tmp 5) (.con (i6 0)))]) (.seq (.seq (.reg [oo 7 (.mov (.tmp 0))]) (.block 0 (.rangeF (.tmp 7) [8] (.reg [oo 6 (.mov (.tmp 8))]) (.block 1 (.dreg 4 [oo 9 (.load none (.tmp 5)), oo 10 (.load none (.tmp 3)), oo 11 (.mov (.tmp 6)), oo 12 (.call (.tmp 10) [(.tmp 11)]), oo 13 (.bin .add (.tmp 9) (.tmp 12)), on (.store 1 (.tmp 5) (.tmp 13))]))))) (.seq (.reg [oo 14 (.load none (.tmp 5)), oo 4 (.mov (.tmp 14))]) .ret))))⟩
theorem comp63 : compFn Try.prog 63 = some F63 := by kernel_rfl
def F64 : AFn := ⟨1, 4, [.tmp 2], (.seq (.reg [oo 1 (.box (.tmp 0)), oo 2 (.mov (.con (.nilf)))]) (.seq (.reg [oo 3 (.mkfn 86 [] [(.tmp 1)]), oo 2 (.mov (.tmp 3))]) .ret))⟩
theorem comp64 : compFn Try.prog 64 = some F64 := by kernel_rfl
def F65 : AFn := ⟨1, 8, [.tmp 3], (.seq (.reg [oo 3 (.mov (.con (i6 0)))]) (.seq (.reg [oo 4 (.mov (.tmp 0)), oo 5 (.load none (.tmp 1)), oo 6 (.iaddr (.tmp 4) (.tmp 5) 1 none), oo 7 (.load none (.tmp 6)), oo 3 (.mov (.tmp 7))]) .ret))⟩
theorem comp65 : compFn Try.prog 65 = some F65 := by kernel_rfl
def F66 : AFn := ⟨2, 40, [.tmp 4], (.seq (.reg [oo 4 (.mov (.con (i6 0)))]) (.seq (.seq (.reg [oo 9 (.mov (.tmp 0)), oo 10 (.len false (.tmp 9)), oo 11 (.bin .gtr (.tmp 10) (.con (i6 12)))]) (.cond (.tmp 11) (.seq (.reg [oo 4 (.mov (.con (i6 5)))]) .ret) .skip)) (.seq (.seq (.reg [oo 12 (.mov (.tmp 0)), oo 13 (.len false (.tmp 12)), oo 14 (.mov (.con (i6 0)))]) (.block 0 (.loop (.seq (.reg [oo 15 (.bin .lss (.tmp 14) (.tmp 13))]) (.seq (.cond (.tmp 15) .skip (.exit 0)) (.seq (.block 1 (.seq (.reg [oo 16 (.iaddr (.tmp 12) (.tmp 14) 1 none), oo 17 (.load none (.tmp 16)), oo 6 (.mov (.tmp 17))]) (.seq (.reg [oo 18 (.mov (.tmp 6)), oo 19 (.call (.con (.fn 51 [] [])) [(.tmp 18), (.con (i6 0)), (.con (i6 1000))]), oo 20 (.un .not (.tmp 19))]) (.cond (.tmp 20) (.seq (.reg [oo 4 (.mov (.con (i6 2)))]) .ret) .skip)))) (.reg [oo 21 (.bin .add (.tmp 14) (.con (i6 1))), oo 14 (.mov (.tmp 21))]))))))) (.seq (.seq (.reg [oo 22 (.mov (.tmp 1)), oo 23 (.len false (.tmp 22)), oo 24 (.mov (.tmp 0)), oo 25 (.len false (.tmp 24)), oo 26 (.bin .neq (.tmp 23) (.tmp 25))]) (.cond (.tmp 26) (.seq (.reg [oo 4 (.mov (.con (i6 1)))]) .ret) .skip)) (.seq (.seq (.reg [oo 27 (.mov (.tmp 1)), oo 28 (.len false (.tmp 27)), oo 29 (.mov (.con (i6 0)))]) (.block 2 (.loop (.seq (.reg [oo 30 (.bin .lss (.tmp 29) (.tmp 28))]) (.seq (.cond (.tmp 30) .skip (.exit 2)) (.seq (.block 3 (.seq (.reg [oo 31 (.iaddr (.tmp 27) (.tmp 29) 1 none), oo 32 (.load none (.tmp 31)), oo 8 (.mov (.tmp 32))]) (.seq (.reg [oo 33 (.mov (.tmp 8)), oo 34 (.call (.con (.fn 51 [] [])) [(.tmp 33), (.con (i6 0)), (.con (i6 1000000000))]), oo 35 (.un .not (.tmp 34))]) (.cond (.tmp 35) (.seq (.reg [oo 4 (.mov (.con (i6 2)))]) .ret) .skip)))) (.reg [oo 36 (.bin .add (.tmp 29) (.con (i6 1))), oo 29 (.mov (.tmp 36))]))))))) (.seq (.seq (.reg [oo 37 (.mov (.tmp 0)), oo 38 (.call (.con (.fn 67 [] [])) [(.tmp 37)]), oo 39 (.bin .eql (.tmp 38) (.con (i6 0)))]) (.cond (.tmp 39) (.seq (.reg [oo 4 (.mov (.con (i6 4)))]) .ret) .skip)) (.seq (.reg [oo 4 (.mov (.con (i6 0)))]) .ret)))))))⟩
theorem comp66 : compFn Try.prog 66 = some F66 := by kernel_rfl
def F67 : AFn := ⟨1, 6, [.tmp 2], (.seq (.reg [oo 2 (.mov (.con (i6 0)))]) (.seq (.reg [oo 3 (.mov (.tmp 0)), oo 4 (.call (.con (.fn 88 [] [])) [(.tmp 3)]), oo 5 (.call (.con (.fn 87 [] [])) [(.tmp 4), (.con (.fn 89 [] []))]), oo 2 (.mov (.tmp 5))]) .ret))⟩
theorem comp67 : compFn Try.prog 67 = some F67 := by kernel_rfl
def F68 : AFn := ⟨2, 21, [.tmp 4], (.seq (.reg [oo 4 (.mov (.con (i6 0)))]) (.seq (.reg [oo 5 (.mov (.con (i6 0)))]) (.seq (.block 0 (.loop (.seq (.seq (.reg [oo 6 (.mov (.tmp 1)), oo 7 (.mov (.tmp 0)), oo 8 (.mov (.tmp 5)), oo 9 (.iaddr (.tmp 7) (.tmp 8) 1 none), oo 10 (.load none (.tmp 9)), oo 11 (.bin .geq (.tmp 6) (.tmp 10))]) (.cond (.tmp 11) .skip (.exit 0))) (.block 1 (.seq (.reg [oo 12 (.mov (.tmp 1)), oo 13 (.mov (.tmp 0)), oo 14 (.mov (.tmp 5)), oo 15 (.iaddr (.tmp 13) (.tmp 14) 1 none), oo 16 (.load none (.tmp 15)), oo 17 (.bin .sub (.tmp 12) (.tmp 16)), oo 1 (.mov (.tmp 17))]) (.reg [oo 18 (.mov (.tmp 5)), oo 19 (.bin .add (.tmp 18) (.con (i6 1))), oo 5 (.mov (.tmp 19))])))))) (.seq (.reg [oo 20 (.mov (.tmp 5)), oo 4 (.mov (.tmp 20))]) .ret))))⟩
theorem comp68 : compFn Try.prog 68 = some F68 := by kernel_rfl
def F69 : AFn := ⟨2, 19, [.tmp 4], (.seq (.reg [oo 2 (.box (.tmp 0)), oo 3 (.box (.tmp 1)), oo 4 (.mov (.con (.bool false)))]) (.seq (.dreg 12 [oo 5 (.faddr (.tmp 3) 0), oo 6 (.load none (.tmp 5)), oo 7 (.faddr (.tmp 2) 0), oo 8 (.load none (.tmp 7)), oo 9 (.faddr (.tmp 2) 1), oo 10 (.load none (.tmp 9)), oo 11 (.call (.con (.fn 51 [] [])) [(.tmp 6), (.tmp 8), (.tmp 10)]), oo 12 (.mov (.tmp 11)), ⟨some 13, .load (some 4) (.tmp 2), some (12, true)⟩, ⟨some 14, .call (.con (.fn 90 [] [])) [(.tmp 13)], some (12, true)⟩, ⟨some 15, .faddr (.tmp 3) 1, some (12, true)⟩, ⟨some 16, .load none (.tmp 15), some (12, true)⟩, ⟨some 17, .call (.con (.fn 79 [] [])) [(.tmp 14), (.tmp 16)], some (12, true)⟩, oo 18 (.pick (.tmp 12) (.tmp 17) (.con (.bool false))), oo 4 (.mov (.tmp 18))]) .ret))⟩
theorem comp69 : compFn Try.prog 69 = some F69 := by kernel_rfl
def F70 : AFn := ⟨2, 11, [], (.dreg 5 [oo 4 (.mov (.tmp 0)), oo 5 (.nilck (.tmp 4)), oo 6 (.load none (.tmp 5)), oo 7 (.mov (.tmp 1)), oo 8 (.bin .shl (.con (.int .u8 1)) (.tmp 7)), oo 9 (.bin .or (.tmp 6) (.tmp 8)), oo 10 (.nilck (.tmp 4)), on (.store 1 (.tmp 10) (.tmp 9))])⟩
theorem comp70 : compFn Try.prog 70 = some F70 := by kernel_rfl
def F71 : AFn := ⟨2, 6, [.tmp 4], (.seq (.reg [oo 2 (.box (.tmp 0)), oo 3 (.box (.tmp 1)), oo 4 (.mov (.con (.nilf)))]) (.seq (.reg [oo 5 (.mkfn 91 [] [(.tmp 3), (.tmp 2)]), oo 4 (.mov (.tmp 5))]) .ret))⟩
theorem comp71 : compFn Try.prog 71 = some F71 := by kernel_rfl
def F72 : AFn := ⟨3, 30, [.tmp 6], (.seq (.reg [oo 3 (.box (.tmp 0)), oo 5 (.box (.tmp 2)), oo 6 (.mov (.con (i6 0)))]) (.seq (.reg [oo 7 (.box (.con (.int .u8 0))), on (.store 1 (.tmp 7) (.con (.int .u8 0)))]) (.seq (.seq (.reg [oo 9 (.mov (.tmp 1)), oo 10 (.call (.con (.fn 48 [] [])) [(.tmp 9)])]) (.block 0 (.rangeF (.tmp 10) [11] (.reg [oo 8 (.mov (.tmp 11))]) (.block 1 (.dreg 6 [oo 12 (.load none (.tmp 7)), oo 13 (.load none (.tmp 3)), oo 14 (.mov (.tmp 8)), oo 15 (.iaddr (.tmp 13) (.tmp 14) 2 none), oo 16 (.faddr (.tmp 15) 1), oo 17 (.load none (.tmp 16)), oo 18 (.bin .or (.tmp 12) (.tmp 17)), on (.store 1 (.tmp 7) (.tmp 18))]))))) (.seq (.dreg 9 [oo 19 (.mov (.tmp 1)), oo 20 (.call (.con (.fn 48 [] [])) [(.tmp 19)]), oo 21 (.load none (.tmp 3)), oo 22 (.mkfn 93 [(.tmp 21)] []), oo 23 (.call (.con (.fn 87 [] [])) [(.tmp 20), (.tmp 22)]), oo 24 (.load none (.tmp 7)), oo 25 (.call (.con (.fn 48 [] [])) [(.tmp 24)]), oo 26 (.load (some 8) (.tmp 5)), oo 27 (.mkfn 94 [(.tmp 26)] []), oo 28 (.call (.con (.fn 87 [] [])) [(.tmp 25), (.tmp 27)]), oo 29 (.bin .sub (.tmp 23) (.tmp 28)), oo 6 (.mov (.tmp 29))]) .ret))))⟩
theorem comp72 : compFn Try.prog 72 = some F72 := by kernel_rfl
def F73 : AFn := ⟨2, 13, [.tmp 4], (.seq (.reg [oo 2 (.box (.tmp 0)), oo 4 (.mov (.con (.nils)))]) (.seq (.seq (.reg [oo 6 (.mov (.tmp 1))]) (.block 0 (.rangeF (.tmp 6) [7] (.reg [oo 5 (.mov (.tmp 7))]) (.block 1 (.reg [oo 8 (.load none (.tmp 2)), oo 9 (.mov (.tmp 5)), oo 10 (.bsl 1 false [i6 0] 1 [(0, (.tmp 9))]), oo 11 (.app (.tmp 8) (.tmp 10) 1 8 [i6 0]), on (.store 1 (.tmp 2) (.tmp 11))]))))) (.seq (.reg [oo 12 (.load none (.tmp 2)), oo 4 (.mov (.tmp 12))]) .ret)))⟩
theorem comp73 : compFn Try.prog 73 = some F73 := by kernel_rfl
def F74 : AFn := ⟨1, 16, [], (.seq (.reg [oo 4 (.load none (.tmp 1)), oo 3 (.mov (.tmp 4))]) (.block 0 (.loop (.seq (.seq (.reg [oo 5 (.mov (.tmp 3)), oo 6 (.bin .neq (.tmp 5) (.con (.int .u8 0)))]) (.cond (.tmp 6) .skip (.exit 0))) (.seq (.block 1 (.seq (.reg [oo 11 (.mov (.tmp 0)), oo 12 (.mov (.tmp 3)), oo 13 (.call (.con (.fn 75 [] [])) [(.tmp 12)]), oo 14 (.call (.tmp 11) [(.tmp 13)]), oo 15 (.un .not (.tmp 14))]) (.cond (.tmp 15) .ret .skip))) (.reg [oo 7 (.mov (.tmp 3)), oo 8 (.mov (.tmp 3)), oo 9 (.bin .sub (.tmp 8) (.con (.int .u8 1))), oo 10 (.bin .and (.tmp 7) (.tmp 9)), oo 3 (.mov (.tmp 10))]))))))⟩
theorem comp74 : compFn Try.prog 74 = some F74 := by kernel_rfl
def F75 : AFn := ⟨1, 6, [.tmp 2], (.seq (.reg [oo 2 (.mov (.con (i6 0)))]) (.seq (.reg [oo 3 (.mov (.tmp 0)), oo 4 (.idx (.con (.str (ByteArray.mk #[8, 0, 1, 0, 2, 0, 1, 0, 3, 0, 1, 0, 2, 0, 1, 0, 4, 0, 1, 0, 2, 0, 1, 0, 3, 0, 1, 0, 2, 0, 1, 0, 5, 0, 1, 0, 2, 0, 1, 0, 3, 0, 1, 0, 2, 0, 1, 0, 4, 0, 1, 0, 2, 0, 1, 0, 3, 0, 1, 0, 2, 0, 1, 0, 6, 0, 1, 0, 2, 0, 1, 0, 3, 0, 1, 0, 2, 0, 1, 0, 4, 0, 1, 0, 2, 0, 1, 0, 3, 0, 1, 0, 2, 0, 1, 0, 5, 0, 1, 0, 2, 0, 1, 0, 3, 0, 1, 0, 2, 0, 1, 0, 4, 0, 1, 0, 2, 0, 1, 0, 3, 0, 1, 0, 2, 0, 1, 0, 7, 0, 1, 0, 2, 0, 1, 0, 3, 0, 1, 0, 2, 0, 1, 0, 4, 0, 1, 0, 2, 0, 1, 0, 3, 0, 1, 0, 2, 0, 1, 0, 5, 0, 1, 0, 2, 0, 1, 0, 3, 0, 1, 0, 2, 0, 1, 0, 4, 0, 1, 0, 2, 0, 1, 0, 3, 0, 1, 0, 2, 0, 1, 0, 6, 0, 1, 0, 2, 0, 1, 0, 3, 0, 1, 0, 2, 0, 1, 0, 4, 0, 1, 0, 2, 0, 1, 0, 3, 0, 1, 0, 2, 0, 1, 0, 5, 0, 1, 0, 2, 0, 1, 0, 3, 0, 1, 0, 2, 0, 1, 0, 4, 0, 1, 0, 2, 0, 1, 0, 3, 0, 1, 0, 2, 0, 1, 0]))) (.tmp 3)), oo 5 (.conv .i64 (.tmp 4)), oo 2 (.mov (.tmp 5))]) .ret))⟩
theorem comp75 : compFn Try.prog 75 = some F75 := by kernel_rfl
def F76 : AFn := ⟨2, 15, [.tmp 4], (.seq (.reg [oo 3 (.box (.tmp 1)), oo 4 (.mov (.con (i6 0)))]) (.seq (.reg [oo 5 (.box (.con (i6 0))), on (.store 1 (.tmp 5) (.con (i6 0)))]) (.seq (.seq (.reg [oo 7 (.mov (.tmp 0))]) (.block 0 (.rangeF (.tmp 7) [8] (.reg [oo 6 (.box (.con (.agg [i6 0, .int .u8 0]))), on (.store 2 (.tmp 6) (.tmp 8))]) (.block 1 (.dreg 4 [oo 9 (.load none (.tmp 5)), oo 10 (.load none (.tmp 3)), oo 11 (.load (some 2) (.tmp 6)), oo 12 (.call (.tmp 10) [(.tmp 11)]), oo 13 (.bin .add (.tmp 9) (.tmp 12)), on (.store 1 (.tmp 5) (.tmp 13))]))))) (.seq (.reg [oo 14 (.load none (.tmp 5)), oo 4 (.mov (.tmp 14))]) .ret))))⟩
theorem comp76 : compFn Try.prog 76 = some F76 := by kernel_rfl
def F77 : AFn := ⟨1, 4, [.tmp 2], (.seq (.reg [oo 1 (.box (.tmp 0)), oo 2 (.mov (.con (.nilf)))]) (.seq (.reg [oo 3 (.mkfn 95 [] [(.tmp 1)]), oo 2 (.mov (.tmp 3))]) .ret))⟩
theorem comp77 : compFn Try.prog 77 = some F77 := by kernel_rfl
def F78 : AFn := ⟨1, 10, [.tmp 3], (.seq (.reg [oo 2 (.box (.tmp 0)), oo 3 (.mov (.con (i6 0)))]) (.seq (.seq (.reg [oo 4 (.faddr (.tmp 2) 1), oo 5 (.load none (.tmp 4)), oo 6 (.load none (.tmp 1)), oo 7 (.call (.con (.fn 79 [] [])) [(.tmp 5), (.tmp 6)])]) (.cond (.tmp 7) (.seq (.reg [oo 8 (.faddr (.tmp 2) 0), oo 9 (.load none (.tmp 8)), oo 3 (.mov (.tmp 9))]) .ret) .skip)) (.seq (.reg [oo 3 (.mov (.con (i6 0)))]) .ret)))⟩
theorem comp78 : compFn Try.prog 78 = some F78 := by kernel_rfl
def F79 : AFn := ⟨2, 10, [.tmp 4], (.seq (.reg [oo 4 (.mov (.con (.bool false)))]) (.seq (.reg [oo 5 (.mov (.tmp 0)), oo 6 (.mov (.tmp 1)), oo 7 (.bin .shr (.tmp 5) (.tmp 6)), oo 8 (.bin .and (.tmp 7) (.con (.int .u8 1))), oo 9 (.bin .eql (.tmp 8) (.con (.int .u8 1))), oo 4 (.mov (.tmp 9))]) .ret))⟩
theorem comp79 : compFn Try.prog 79 = some F79 := by kernel_rfl
def F80 : AFn := ⟨1, 29, [.tmp 2], (.seq (.reg [oo 2 (.mov (.con (i6 0)))]) (.seq (.seq (.reg [oo 5 (.mov (.tmp 0)), oo 6 (.len false (.tmp 5)), oo 7 (.mov (.con (i6 0)))]) (.block 0 (.loop (.seq (.reg [oo 8 (.bin .lss (.tmp 7) (.tmp 6))]) (.seq (.cond (.tmp 8) .skip (.exit 0)) (.seq (.block 1 (.seq (.reg [oo 9 (.mov (.tmp 7)), oo 10 (.iaddr (.tmp 5) (.tmp 7) 1 none), oo 11 (.load none (.tmp 10)), oo 3 (.mov (.tmp 9)), oo 4 (.mov (.tmp 11))]) (.block 2 (.seq (.reg [oo 13 (.mov (.tmp 4)), oo 14 (.call (.con (.fn 57 [] [])) [(.tmp 13)]), oo 15 (.un .not (.tmp 14)), oo 12 (.mov (.tmp 15))]) (.cond (.tmp 12) (.seq (.reg [oo 2 (.mov (.con (i6 2)))]) .ret) (.seq (.reg [oo 17 (.mov (.tmp 3)), oo 18 (.bin .gtr (.tmp 17) (.con (i6 0))), oo 19 (.mov (.tmp 18)), ⟨some 20, .mov (.tmp 4), some (19, true)⟩, ⟨some 21, .mov (.tmp 0), some (19, true)⟩, ⟨some 22, .mov (.tmp 3), some (19, true)⟩, ⟨some 23, .bin .sub (.tmp 22) (.con (i6 1)), some (19, true)⟩, ⟨some 24, .iaddr (.tmp 21) (.tmp 23) 1 none, some (19, true)⟩, ⟨some 25, .load none (.tmp 24), some (19, true)⟩, ⟨some 26, .bin .leq (.tmp 20) (.tmp 25), some (19, true)⟩, oo 27 (.pick (.tmp 19) (.tmp 26) (.con (.bool false))), oo 16 (.mov (.tmp 27))]) (.cond (.tmp 16) (.seq (.reg [oo 2 (.mov (.con (i6 9)))]) .ret) .skip))))))) (.reg [oo 28 (.bin .add (.tmp 7) (.con (i6 1))), oo 7 (.mov (.tmp 28))]))))))) (.seq (.reg [oo 2 (.mov (.con (i6 0)))]) .ret)))⟩
theorem comp80 : compFn Try.prog 80 = some F80 := by kernel_rfl
def F81 : AFn := ⟨1, 10, [.tmp 3], (.seq (.reg [oo 3 (.mov (.con (.bool false)))]) (.seq (.reg [oo 4 (.mov (.tmp 0)), oo 5 (.len false (.tmp 4)), oo 6 (.faddr (.tmp 1) 0), oo 7 (.load none (.tmp 6)), oo 8 (.len false (.tmp 7)), oo 9 (.bin .neq (.tmp 5) (.tmp 8)), oo 3 (.mov (.tmp 9))]) .ret))⟩
theorem comp81 : compFn Try.prog 81 = some F81 := by kernel_rfl
def F82 : AFn := ⟨1, 5, [.tmp 2], (.seq (.reg [oo 2 (.mov (.con (.bool false)))]) (.seq (.reg [oo 3 (.mov (.tmp 0)), oo 4 (.call (.con (.fn 83 [] [])) [(.tmp 3), (.con (.fn 84 [] []))]), oo 2 (.mov (.tmp 4))]) .ret))⟩
theorem comp82 : compFn Try.prog 82 = some F82 := by kernel_rfl
def F83 : AFn := ⟨2, 9, [.tmp 4], (.seq (.reg [oo 4 (.mov (.con (.bool false)))]) (.seq (.reg [oo 5 (.mov (.tmp 0)), oo 6 (.mov (.tmp 1)), oo 7 (.call (.con (.fn 96 [] [])) [(.tmp 5), (.tmp 6)]), oo 8 (.bin .geq (.tmp 7) (.con (i6 0))), oo 4 (.mov (.tmp 8))]) .ret))⟩
theorem comp83 : compFn Try.prog 83 = some F83 := by kernel_rfl
def F84 : AFn := ⟨1, 6, [.tmp 2], (.seq (.reg [oo 2 (.mov (.con (.bool false)))]) (.seq (.reg [oo 3 (.mov (.tmp 0)), oo 4 (.call (.con (.fn 58 [] [])) [(.tmp 3)]), oo 5 (.un .not (.tmp 4)), oo 2 (.mov (.tmp 5))]) .ret))⟩
theorem comp84 : compFn Try.prog 84 = some F84 := by kernel_rfl
def F85 : AFn := ⟨2, 9, [.tmp 4], (.seq (.reg [oo 4 (.mov (.con (.bool false)))]) (.seq (.reg [oo 5 (.mov (.tmp 0)), oo 6 (.mov (.tmp 1)), oo 7 (.call (.con (.fn 97 [] [])) [(.tmp 5), (.tmp 6)]), oo 8 (.bin .geq (.tmp 7) (.con (i6 0))), oo 4 (.mov (.tmp 8))]) .ret))⟩
theorem comp85 : compFn Try.prog 85 = some F85 := by kernel_rfl
def F86 : AFn := ⟨1, 16, [], (.seq (.reg [oo 5 (.load none (.tmp 1)), oo 6 (.len false (.tmp 5)), oo 7 (.mov (.con (i6 0)))]) (.block 0 (.loop (.seq (.reg [oo 8 (.bin .lss (.tmp 7) (.tmp 6))]) (.seq (.cond (.tmp 8) .skip (.exit 0)) (.seq (.block 1 (.seq (.reg [oo 9 (.iaddr (.tmp 5) (.tmp 7) 1 none), oo 10 (.load none (.tmp 9)), oo 4 (.mov (.tmp 10))]) (.seq (.reg [oo 11 (.mov (.tmp 0)), oo 12 (.mov (.tmp 4)), oo 13 (.call (.tmp 11) [(.tmp 12)]), oo 14 (.un .not (.tmp 13))]) (.cond (.tmp 14) .ret .skip)))) (.reg [oo 15 (.bin .add (.tmp 7) (.con (i6 1))), oo 7 (.mov (.tmp 15))])))))))⟩
theorem comp86 : compFn Try.prog 86 = some F86 := by kernel_rfl
def F87 : AFn := ⟨2, 15, [.tmp 4], (.seq (.reg [oo 3 (.box (.tmp 1)), oo 4 (.mov (.con (i6 0)))]) (.seq (.reg [oo 5 (.box (.con (i6 0))), on (.store 1 (.tmp 5) (.con (i6 0)))]) (.seq (.seq (.reg [oo 7 (.mov (.tmp 0))]) (.block 0 (.rangeF (.tmp 7) [8] (.reg [oo 6 (.mov (.tmp 8))]) (.block 1 (.dreg 4 [oo 9 (.load none (.tmp 5)), oo 10 (.load none (.tmp 3)), oo 11 (.mov (.tmp 6)), oo 12 (.call (.tmp 10) [(.tmp 11)]), oo 13 (.bin .add (.tmp 9) (.tmp 12)), on (.store 1 (.tmp 5) (.tmp 13))]))))) (.seq (.reg [oo 14 (.load none (.tmp 5)), oo 4 (.mov (.tmp 14))]) .ret))))⟩
theorem comp87 : compFn Try.prog 87 = some F87 := by kernel_rfl
def F88 : AFn := ⟨1, 4, [.tmp 2], (.seq (.reg [oo 1 (.box (.tmp 0)), oo 2 (.mov (.con (.nilf)))]) (.seq (.reg [oo 3 (.mkfn 98 [] [(.tmp 1)]), oo 2 (.mov (.tmp 3))]) .ret))⟩
theorem comp88 : compFn Try.prog 88 = some F88 := by kernel_rfl
def F89 : AFn := ⟨1, 4, [.tmp 2], (.seq (.reg [oo 2 (.mov (.con (i6 0)))]) (.seq (.reg [oo 3 (.mov (.tmp 0)), oo 2 (.mov (.tmp 3))]) .ret))⟩
theorem comp89 : compFn Try.prog 89 = some F89 := by kernel_rfl
def F90 : AFn := ⟨1, 9, [.tmp 2], (.seq (.reg [oo 1 (.box (.tmp 0)), oo 2 (.mov (.con (.int .u8 0)))]) (.seq (.reg [oo 3 (.box (.con (.int .u8 0))), on (.store 1 (.tmp 3) (.con (.int .u8 0)))]) (.seq (.reg [oo 4 (.faddr (.tmp 1) 3), oo 5 (.load none (.tmp 4)), oo 6 (.mkfn 70 [(.tmp 3)] []), oo 7 (.call (.con (.fn 99 [] [])) [(.tmp 5), (.tmp 6)])]) (.seq (.reg [oo 8 (.load none (.tmp 3)), oo 2 (.mov (.tmp 8))]) .ret))))⟩
theorem comp90 : compFn Try.prog 90 = some F90 := by kernel_rfl
def F91 : AFn := ⟨1, 9, [], (.seq (.reg [oo 3 (.box (.tmp 0))]) (.seq (.reg [oo 4 (.box (.con (.nilf)))]) (.seq (.reg [oo 5 (.mkfn 92 [] [(.tmp 3), (.tmp 1), (.tmp 4)]), on (.store 1 (.tmp 4) (.tmp 5))]) (.reg [oo 6 (.load none (.tmp 4)), oo 7 (.load none (.tmp 2)), oo 8 (.call (.tmp 6) [(.con (.int .u8 0)), (.con (i6 0)), (.tmp 7)])]))))⟩
theorem comp91 : compFn Try.prog 91 = some F91 := by kernel_rfl
def F92 : AFn := ⟨3, 36, [.tmp 9], (.seq (.reg [oo 9 (.mov (.con (.bool false)))]) (.seq (.seq (.reg [oo 12 (.mov (.tmp 2)), oo 13 (.bin .eql (.tmp 12) (.con (i6 0)))]) (.cond (.tmp 13) (.seq (.reg [oo 14 (.load none (.tmp 3)), oo 15 (.mov (.tmp 0)), oo 16 (.call (.tmp 14) [(.tmp 15)]), oo 9 (.mov (.tmp 16))]) .ret) .skip)) (.seq (.seq (.reg [oo 17 (.mov (.tmp 1)), oo 10 (.mov (.tmp 17))]) (.block 0 (.loop (.seq (.seq (.reg [oo 18 (.mov (.tmp 10)), oo 19 (.mov (.tmp 2)), oo 20 (.bin .add (.tmp 18) (.tmp 19)), oo 21 (.load none (.tmp 4)), oo 22 (.bin .leq (.tmp 20) (.tmp 21))]) (.cond (.tmp 22) .skip (.exit 0))) (.seq (.block 1 (.seq (.reg [oo 25 (.mov (.tmp 0)), oo 11 (.box (.con (.int .u8 0))), on (.store 1 (.tmp 11) (.tmp 25))]) (.seq (.reg [oo 26 (.mov (.tmp 10)), oo 27 (.call (.con (.fn 70 [] [])) [(.tmp 11), (.tmp 26)])]) (.seq (.reg [oo 28 (.load none (.tmp 5)), oo 29 (.load none (.tmp 11)), oo 30 (.mov (.tmp 10)), oo 31 (.bin .add (.tmp 30) (.con (i6 1))), oo 32 (.mov (.tmp 2)), oo 33 (.bin .sub (.tmp 32) (.con (i6 1))), oo 34 (.call (.tmp 28) [(.tmp 29), (.tmp 31), (.tmp 33)]), oo 35 (.un .not (.tmp 34))]) (.cond (.tmp 35) (.seq (.reg [oo 9 (.mov (.con (.bool false)))]) .ret) .skip))))) (.reg [oo 23 (.mov (.tmp 10)), oo 24 (.bin .add (.tmp 23) (.con (i6 1))), oo 10 (.mov (.tmp 24))])))))) (.seq (.reg [oo 9 (.mov (.con (.bool true)))]) .ret))))⟩
theorem comp92 : compFn Try.prog 92 = some F92 := by kernel_rfl
def F93 : AFn := ⟨2, 10, [.tmp 4], (.seq (.reg [oo 4 (.mov (.con (i6 0)))]) (.seq (.reg [oo 5 (.mov (.tmp 0)), oo 6 (.mov (.tmp 1)), oo 7 (.iaddr (.tmp 5) (.tmp 6) 2 none), oo 8 (.faddr (.tmp 7) 0), oo 9 (.load none (.tmp 8)), oo 4 (.mov (.tmp 9))]) .ret))⟩
theorem comp93 : compFn Try.prog 93 = some F93 := by kernel_rfl
def F94 : AFn := ⟨2, 8, [.tmp 4], (.seq (.reg [oo 2 (.box (.tmp 0)), oo 4 (.mov (.con (i6 0)))]) (.seq (.reg [oo 5 (.mov (.tmp 1)), oo 6 (.iaddr (.tmp 2) (.tmp 5) 1 (some 8)), oo 7 (.load none (.tmp 6)), oo 4 (.mov (.tmp 7))]) .ret))⟩
theorem comp94 : compFn Try.prog 94 = some F94 := by kernel_rfl
def F95 : AFn := ⟨1, 16, [], (.seq (.reg [oo 5 (.load none (.tmp 1)), oo 6 (.len false (.tmp 5)), oo 7 (.mov (.con (i6 0)))]) (.block 0 (.loop (.seq (.reg [oo 8 (.bin .lss (.tmp 7) (.tmp 6))]) (.seq (.cond (.tmp 8) .skip (.exit 0)) (.seq (.block 1 (.seq (.reg [oo 9 (.iaddr (.tmp 5) (.tmp 7) 2 none), oo 10 (.load (some 2) (.tmp 9)), oo 4 (.box (.con (.agg [i6 0, .int .u8 0]))), on (.store 2 (.tmp 4) (.tmp 10))]) (.seq (.reg [oo 11 (.mov (.tmp 0)), oo 12 (.load (some 2) (.tmp 4)), oo 13 (.call (.tmp 11) [(.tmp 12)]), oo 14 (.un .not (.tmp 13))]) (.cond (.tmp 14) .ret .skip)))) (.reg [oo 15 (.bin .add (.tmp 7) (.con (i6 1))), oo 7 (.mov (.tmp 15))])))))))⟩
theorem comp95 : compFn Try.prog 95 = some F95 := by kernel_rfl
def F96 : AFn := ⟨2, 19, [.tmp 4], (.seq (.reg [oo 4 (.mov (.con (i6 0)))]) (.seq (.seq (.reg [oo 6 (.mov (.tmp 0)), oo 7 (.len false (.tmp 6)), oo 8 (.mov (.con (i6 0)))]) (.block 0 (.loop (.seq (.reg [oo 9 (.bin .lss (.tmp 8) (.tmp 7))]) (.seq (.cond (.tmp 9) .skip (.exit 0)) (.seq (.block 1 (.seq (.reg [oo 10 (.mov (.tmp 8)), oo 5 (.mov (.tmp 10))]) (.seq (.reg [oo 11 (.mov (.tmp 1)), oo 12 (.mov (.tmp 0)), oo 13 (.mov (.tmp 5)), oo 14 (.iaddr (.tmp 12) (.tmp 13) 1 none), oo 15 (.load none (.tmp 14)), oo 16 (.call (.tmp 11) [(.tmp 15)])]) (.cond (.tmp 16) (.seq (.reg [oo 17 (.mov (.tmp 5)), oo 4 (.mov (.tmp 17))]) .ret) .skip)))) (.reg [oo 18 (.bin .add (.tmp 8) (.con (i6 1))), oo 8 (.mov (.tmp 18))]))))))) (.seq (.reg [oo 4 (.mov (.con (i6 (-1))))]) .ret)))⟩
theorem comp96 : compFn Try.prog 96 = some F96 := by kernel_rfl
def F97 : AFn := ⟨2, 19, [.tmp 4], (.seq (.reg [oo 4 (.mov (.con (i6 0)))]) (.seq (.seq (.reg [oo 6 (.mov (.tmp 0)), oo 7 (.len false (.tmp 6)), oo 8 (.mov (.con (i6 0)))]) (.block 0 (.loop (.seq (.reg [oo 9 (.bin .lss (.tmp 8) (.tmp 7))]) (.seq (.cond (.tmp 9) .skip (.exit 0)) (.seq (.block 1 (.seq (.reg [oo 10 (.mov (.tmp 8)), oo 5 (.mov (.tmp 10))]) (.seq (.reg [oo 11 (.mov (.tmp 1)), oo 12 (.mov (.tmp 0)), oo 13 (.mov (.tmp 5)), oo 14 (.iaddr (.tmp 12) (.tmp 13) 1 none), oo 15 (.load none (.tmp 14)), oo 16 (.call (.tmp 11) [(.tmp 15)])]) (.cond (.tmp 16) (.seq (.reg [oo 17 (.mov (.tmp 5)), oo 4 (.mov (.tmp 17))]) .ret) .skip)))) (.reg [oo 18 (.bin .add (.tmp 8) (.con (i6 1))), oo 8 (.mov (.tmp 18))]))))))) (.seq (.reg [oo 4 (.mov (.con (i6 (-1))))]) .ret)))⟩
theorem comp97 : compFn Try.prog 97 = some F97 := by kernel_rfl
def F98 : AFn := ⟨1, 16, [], (.seq (.reg [oo 5 (.load none (.tmp 1)), oo 6 (.len false (.tmp 5)), oo 7 (.mov (.con (i6 0)))]) (.block 0 (.loop (.seq (.reg [oo 8 (.bin .lss (.tmp 7) (.tmp 6))]) (.seq (.cond (.tmp 8) .skip (.exit 0)) (.seq (.block 1 (.seq (.reg [oo 9 (.iaddr (.tmp 5) (.tmp 7) 1 none), oo 10 (.load none (.tmp 9)), oo 4 (.mov (.tmp 10))]) (.seq (.reg [oo 11 (.mov (.tmp 0)), oo 12 (.mov (.tmp 4)), oo 13 (.call (.tmp 11) [(.tmp 12)]), oo 14 (.un .not (.tmp 13))]) (.cond (.tmp 14) .ret .skip)))) (.reg [oo 15 (.bin .add (.tmp 7) (.con (i6 1))), oo 7 (.mov (.tmp 15))])))))))⟩
theorem comp98 : compFn Try.prog 98 = some F98 := by kernel_rfl
def F99 : AFn := ⟨2, 16, [], (.seq (.reg [oo 6 (.mov (.tmp 0)), oo 7 (.len false (.tmp 6)), oo 8 (.mov (.con (i6 0)))]) (.block 0 (.loop (.seq (.reg [oo 9 (.bin .lss (.tmp 8) (.tmp 7))]) (.seq (.cond (.tmp 9) .skip (.exit 0)) (.seq (.block 1 (.seq (.reg [oo 10 (.iaddr (.tmp 6) (.tmp 8) 1 none), oo 11 (.load none (.tmp 10)), oo 5 (.mov (.tmp 11))]) (.reg [oo 12 (.mov (.tmp 1)), oo 13 (.mov (.tmp 5)), oo 14 (.call (.tmp 12) [(.tmp 13)])]))) (.reg [oo 15 (.bin .add (.tmp 8) (.con (i6 1))), oo 8 (.mov (.tmp 15))])))))))⟩
theorem comp99 : compFn Try.prog 99 = some F99 := by kernel_rfl
end Go.Proofs.Ytfhapfljomgmnaa
end
section
namespace Go.Proofs.Ytfhapfljomgmnaa
open Go.RowKit
attribute [local simp] cleanL AV.clean cleanI cleanBo cleanSt cleanII re re1 back back1 AV.plain AV.plain1 ren ren1 fadeS fadeV List.idxOf? List.findIdx? List.findIdx?.go
structure T_bk_Drum where
 beat_ : Int
 deriving Inhabited
def C_bk_Drum (x : T_bk_Drum) : List AV := [.int .u64 x.beat_]
attribute [local simp] C_bk_Drum
def A_bk_Drum (x : T_bk_Drum) : AV := .agg (C_bk_Drum x)
attribute [local simp] A_bk_Drum
theorem KC_bk_Drum (x : T_bk_Drum) : cleanL (C_bk_Drum x) = true := by simp
theorem KA_bk_Drum (x : T_bk_Drum) : (A_bk_Drum x).clean = true := KC_bk_Drum x
theorem KL_bk_Drum (l : List T_bk_Drum) : cleanL (l.map A_bk_Drum) = true := cleanM KA_bk_Drum l
attribute [local simp] KL_bk_Drum
theorem KB_bk_Drum (x : T_bk_Drum) (n : Nat) (σ : List Nat) : (C_bk_Drum x).mapM (re n σ) = some (C_bk_Drum x) := by simp
def p_bk_Drum_hit (N : Nat) (d_1 : T_bk_Drum) : Option (Int × T_bk_Drum) := ((some (Int.fdiv (IntKind.u64.wrap ((IntKind.u64.wrap (d_1.beat_ * 15074714826142052245)) + 11400714819323198485)) ((2 : Int) ^ (min (Int.toNat 32) (IntKind.bits .u64))))).bind fun n_2 => ((some (IntKind.u64.wrap (((BitVec.ofInt (IntKind.bits .u64) (IntKind.u64.wrap ((IntKind.u64.wrap (d_1.beat_ * 15074714826142052245)) + 11400714819323198485)) ^^^ BitVec.ofInt (IntKind.bits .u64) n_2).toNat : Nat) : Int))).bind fun n_3 => ((some (Int.fdiv (IntKind.u64.wrap (n_3 * 15760922415973212899)) ((2 : Int) ^ (min (Int.toNat 32) (IntKind.bits .u64))))).bind fun n_4 => ((some (IntKind.u64.wrap (((BitVec.ofInt (IntKind.bits .u64) (IntKind.u64.wrap (n_3 * 15760922415973212899)) ^^^ BitVec.ofInt (IntKind.bits .u64) n_4).toNat : Nat) : Int))).bind fun n_5 => ((some (Int.fdiv (IntKind.u64.wrap (n_5 * 15760922415973212899)) ((2 : Int) ^ (min (Int.toNat 32) (IntKind.bits .u64))))).bind fun n_6 => ((some (IntKind.u64.wrap (((BitVec.ofInt (IntKind.bits .u64) (IntKind.u64.wrap (n_5 * 15760922415973212899)) ^^^ BitVec.ofInt (IntKind.bits .u64) n_6).toNat : Nat) : Int))).bind fun n_7 => some (n_7, (⟨(IntKind.u64.wrap ((IntKind.u64.wrap (d_1.beat_ * 15074714826142052245)) + 11400714819323198485))⟩ : T_bk_Drum))))))))
def v_bk_Drum_hit (r : Int × T_bk_Drum) : AV := .int .u64 r.1
attribute [local simp] v_bk_Drum_hit
theorem b_bk_Drum_hit (r : Int × T_bk_Drum) (n n2 m : Nat) : back n n2 m (v_bk_Drum_hit r) = some (v_bk_Drum_hit r) := by simp
theorem d_bk_Drum_hit (N : Nat) (d_1 : T_bk_Drum) (r : Int × T_bk_Drum) (h : p_bk_Drum_hit N d_1 = some r) : Does Try.prog 36 [.ptr 0 0] [(C_bk_Drum d_1)] fun v c => v = v_bk_Drum_hit r ∧ c = [(C_bk_Drum r.2)] := by
 unfold p_bk_Drum_hit at h
 refine Does.ofL comp36 _ _ rfl rfl ?_
 refine Ex.seq (rg 1 [0] (mkS 31 [(0, .ptr 0 0)]) ⟨[(C_bk_Drum d_1)], []⟩ ?_)
 refine Ex.seq (rg 10 [0] (mkS 31 [(0, .ptr 0 0)]) ⟨[[.int .u64 (IntKind.u64.wrap ((IntKind.u64.wrap (d_1.beat_ * 15074714826142052245)) + 11400714819323198485))]], []⟩ ?_)
 refine Ex.seq (rg 5 [3] (mkS 31 [(3, .int .u64 (IntKind.u64.wrap ((IntKind.u64.wrap (d_1.beat_ * 15074714826142052245)) + 11400714819323198485)))]) ⟨[[.int .u64 (IntKind.u64.wrap ((IntKind.u64.wrap (d_1.beat_ * 15074714826142052245)) + 11400714819323198485))]], []⟩ ?_)
 refine Ex.seq ?_
 obtain ⟨n_2, hn_2, h⟩ := bE h
 obtain ⟨n_3, hn_3, h⟩ := bE h
 refine regH 6 [(2, .eq (.int .u64 n_2)), (3, .eq (.int .u64 n_3))] [3] [AV.int .u64 (Int.fdiv (IntKind.u64.wrap ((IntKind.u64.wrap (d_1.beat_ * 15074714826142052245)) + 11400714819323198485)) ((2 : Int) ^ (min (Int.toNat 32) (IntKind.bits .u64)))) = AV.int .u64 n_2, AV.int .u64 (IntKind.u64.wrap (((BitVec.ofInt (IntKind.bits .u64) (IntKind.u64.wrap ((IntKind.u64.wrap (d_1.beat_ * 15074714826142052245)) + 11400714819323198485)) ^^^ BitVec.ofInt (IntKind.bits .u64) n_2).toNat : Nat) : Int)) = AV.int .u64 n_3] (mkS 31 [(3, .int .u64 (IntKind.u64.wrap (n_3 * 15760922415973212899)))]) (⟨[[.int .u64 (IntKind.u64.wrap ((IntKind.u64.wrap (d_1.beat_ * 15074714826142052245)) + 11400714819323198485))]], []⟩) (by kernel_rfl) ⟨congrArg (AV.int .u64) (Option.some.inj hn_2), congrArg (AV.int .u64) (Option.some.inj hn_3), trivial⟩ rfl ?_
 refine Ex.seq ?_
 obtain ⟨n_4, hn_4, h⟩ := bE h
 obtain ⟨n_5, hn_5, h⟩ := bE h
 refine regH 6 [(2, .eq (.int .u64 n_4)), (3, .eq (.int .u64 n_5))] [3] [AV.int .u64 (Int.fdiv (IntKind.u64.wrap (n_3 * 15760922415973212899)) ((2 : Int) ^ (min (Int.toNat 32) (IntKind.bits .u64)))) = AV.int .u64 n_4, AV.int .u64 (IntKind.u64.wrap (((BitVec.ofInt (IntKind.bits .u64) (IntKind.u64.wrap (n_3 * 15760922415973212899)) ^^^ BitVec.ofInt (IntKind.bits .u64) n_4).toNat : Nat) : Int)) = AV.int .u64 n_5] (mkS 31 [(3, .int .u64 (IntKind.u64.wrap (n_5 * 15760922415973212899)))]) (⟨[[.int .u64 (IntKind.u64.wrap ((IntKind.u64.wrap (d_1.beat_ * 15074714826142052245)) + 11400714819323198485))]], []⟩) (by kernel_rfl) ⟨congrArg (AV.int .u64) (Option.some.inj hn_4), congrArg (AV.int .u64) (Option.some.inj hn_5), trivial⟩ rfl ?_
 refine Ex.seq ?_
 obtain ⟨n_6, hn_6, h⟩ := bE h
 obtain ⟨n_7, hn_7, h⟩ := bE h
 refine regH 5 [(2, .eq (.int .u64 n_6)), (3, .eq (.int .u64 n_7))] [2] [AV.int .u64 (Int.fdiv (IntKind.u64.wrap (n_5 * 15760922415973212899)) ((2 : Int) ^ (min (Int.toNat 32) (IntKind.bits .u64)))) = AV.int .u64 n_6, AV.int .u64 (IntKind.u64.wrap (((BitVec.ofInt (IntKind.bits .u64) (IntKind.u64.wrap (n_5 * 15760922415973212899)) ^^^ BitVec.ofInt (IntKind.bits .u64) n_6).toNat : Nat) : Int)) = AV.int .u64 n_7] (mkS 31 [(2, .int .u64 n_7)]) (⟨[[.int .u64 (IntKind.u64.wrap ((IntKind.u64.wrap (d_1.beat_ * 15074714826142052245)) + 11400714819323198485))]], []⟩) (by kernel_rfl) ⟨congrArg (AV.int .u64) (Option.some.inj hn_6), congrArg (AV.int .u64) (Option.some.inj hn_7), trivial⟩ rfl ?_
 refine Ex.ret ?_
 obtain rfl := sJ h
 exact rt (.int .u64 n_7)
def p_bk_DrumOf (N : Nat) (nums_1 : (List Int)) : Option (T_bk_Drum) := (letJ (fun (b_2 : Int) => some (⟨b_2⟩ : T_bk_Drum)) (fun k_3 => (loop2 (fun rec_8 (i_6 : Int) (b_7 : Int) => (bif (decide (i_6 < ((nums_1.length : Nat) : Int))) then ((getI nums_1 i_6).bind fun x_12 => ((some (IntKind.u64.wrap (((BitVec.ofInt (IntKind.bits .u64) b_7 ^^^ BitVec.ofInt (IntKind.bits .u64) (IntKind.u64.wrap x_12)).toNat : Nat) : Int))).bind fun n_13 => ((p_bk_Drum_hit N (⟨n_13⟩ : T_bk_Drum)).bind fun r_14 => (rec_8 (IntKind.i64.wrap (i_6 + 1)) r_14.2.beat_)))) else (k_3 b_7))) N 0 2685821657736338717)))
def v_bk_DrumOf (r : T_bk_Drum) : AV := .ptr 0 0
theorem a_bk_DrumOf (nums_1 : (List Int)) : [.sl (nums_1.map (AV.int .i64)) none].mapM (ren []) = some [.sl (nums_1.map (AV.int .i64)) none] := by simp
theorem d_bk_DrumOf (N : Nat) (nums_1 : (List Int)) (r : T_bk_Drum) (h : p_bk_DrumOf N nums_1 = some r) : Does Try.prog 10 [.sl (nums_1.map (AV.int .i64)) none] [] fun v c => v = v_bk_DrumOf r ∧ c = [(C_bk_Drum r)] := by
 unfold p_bk_DrumOf at h
 refine Does.ofP comp10 _ _ rfl rfl ?_
 refine Ex.seq (rg 1 [0] (mkS 29 [(0, .sl (nums_1.map (AV.int .i64)) none)]) ⟨[], []⟩ ?_)
 refine Ex.seq (rg 3 [0, 3] (mkS 29 [(0, .sl (nums_1.map (AV.int .i64)) none), (3, .ptr 0 0)]) ⟨[[.int .u64 2685821657736338717]], []⟩ ?_)
 refine Ex.seq (Ex.seq ?_)
 refine rg 1 [0, 3, 4] (mkS 29 [(0, .sl (nums_1.map (AV.int .i64)) none), (3, .ptr 0 0), (4, i6 0)]) ⟨[[.int .u64 2685821657736338717]], []⟩ ?_
 obtain ⟨K_4, hK_5, h⟩ := letE h
 refine Ex.blockJ (fun a S => ∃ (b_2 : Int), K_4 b_2 = some r ∧ a = mkS 29 [(3, .ptr 0 0)] ∧ S = ⟨[[.int .u64 b_2]], []⟩) ?_ ?_
 ·obtain ⟨B_9, hB_10, h⟩ := loop2I h
  refine Ex.loopF (fun k a S => ∃ (i_6 : Int), ∃ (b_7 : Int), loop2 B_9 k i_6 b_7 = some r ∧ a = mkS 29 [(0, .sl (nums_1.map (AV.int .i64)) none), (3, .ptr 0 0), (4, i6 i_6)] ∧ S = ⟨[[.int .u64 b_7]], []⟩) N ⟨_, _, Forgets.refl _ _ _, 0, 2685821657736338717, h, rfl, rfl⟩ ?_
  rintro k a S ⟨i_6, b_7, h, rfl, rfl⟩
  cases k with
  | zero => exact (loop2Z h).elim
  | succ k =>
   replace h := loop2S h hB_10
   refine Ex.seq (Ex.seq ?_)
   refine regH 4 [(2, .eq (i6 ((nums_1.length : Nat) : Int)))] [0, 3, 4, 10] [AV.int .i64 (((nums_1.map (AV.int .i64)).length : Nat) : Int) = AV.int .i64 ((nums_1.length : Nat) : Int)] (mkS 29 [(0, .sl (nums_1.map (AV.int .i64)) none), (3, .ptr 0 0), (4, i6 i_6), (10, .bool (decide (i_6 < ((nums_1.length : Nat) : Int))))]) (⟨[[.int .u64 b_7]], []⟩) (by kernel_rfl) ⟨lenM _ _, trivial⟩ rfl ?_
   rcases condI h with ⟨hc_11, h⟩ | ⟨hc_11, h⟩
   ·refine Ex.condT _ rfl hc_11 ?_
    refine Ex.skip ?_
    refine Ex.seq ?_
    refine Ex.blockK ?_
    refine Ex.seq ?_
    obtain ⟨x_12, hx_12, h⟩ := bE h
    obtain ⟨n_13, hn_13, h⟩ := bE h
    refine Ex.drawE (a1 := mkS 29 [(0, .sl (nums_1.map (AV.int .i64)) none), (3, .ptr 0 0), (4, i6 i_6), (10, .bool (decide (i_6 < ((nums_1.length : Nat) : Int)))), (13, .ptr 0 0), (14, .ptr 0 0), (15, .ptr 0 0), (16, .ptr 0 0), (17, .int .u64 b_7), (18, .sl (nums_1.map (AV.int .i64)) none), (19, i6 i_6), (20, .rop [i6 x_12]), (21, i6 x_12), (22, .int .u64 (IntKind.u64.wrap x_12)), (23, .int .u64 n_13)]) (noClr_ok _) [] [] [] ?_ ?_
    ·refine drS [0] 11 [(7, .rop [i6 x_12]), (10, .eq (.int .u64 n_13))] [LGet (nums_1.map (AV.int .i64)) i_6 1 [i6 x_12], AV.int .u64 (IntKind.u64.wrap (((BitVec.ofInt (IntKind.bits .u64) b_7 ^^^ BitVec.ofInt (IntKind.bits .u64) (IntKind.u64.wrap x_12)).toNat : Nat) : Int)) = AV.int .u64 n_13] (mkS 29 [(0, .sl (nums_1.map (AV.int .i64)) none), (3, .ptr 0 0), (4, i6 i_6), (10, .bool (decide (i_6 < ((nums_1.length : Nat) : Int)))), (13, .ptr 0 0), (14, .ptr 0 0), (15, .ptr 0 0), (16, .ptr 0 0), (17, .int .u64 b_7), (18, .sl (nums_1.map (AV.int .i64)) none), (19, i6 i_6), (20, .rop [i6 x_12]), (21, i6 x_12), (22, .int .u64 (IntKind.u64.wrap x_12)), (23, .int .u64 n_13)]) (by simp) (by kernel_rfl) ⟨LGet.of hx_12 rfl, congrArg (AV.int .u64) (Option.some.inj hn_13), trivial⟩ (by kernel_rfl) ?_
     exact DrO.nil rfl
    ·dsimp only [List.getLastD_cons, List.getLastD_nil]
     refine rn 3 [0, 3, 4] (mkS 29 [(0, .sl (nums_1.map (AV.int .i64)) none), (3, .ptr 0 0), (4, i6 i_6)]) ⟨[[.int .u64 n_13]], []⟩ ?_
     refine ExO.nil ?_
     obtain ⟨r_14, hr_14, h⟩ := bE h
     refine Ex.reg (rn 1 [0, 3, 4, 26] (mkS 29 [(0, .sl (nums_1.map (AV.int .i64)) none), (3, .ptr 0 0), (4, i6 i_6), (26, .ptr 0 0)]) ⟨[[.int .u64 n_13]], []⟩ ?_)
     refine ExO.callL [0] [.ptr 0 0] rfl rfl (by simp; try rfl) rfl (by simp) (d_bk_Drum_hit N (⟨n_13⟩ : T_bk_Drum) r_14 hr_14) (b_bk_Drum_hit _ _ _ _) (by simp) ?_
     refine rn 0 [0, 3, 4] (mkS 29 [(0, .sl (nums_1.map (AV.int .i64)) none), (3, .ptr 0 0), (4, i6 i_6)]) ⟨[(C_bk_Drum r_14.2)], []⟩ ?_
     refine ExO.nil ?_
     refine rg 3 [0, 3, 4] (mkS 29 [(0, .sl (nums_1.map (AV.int .i64)) none), (3, .ptr 0 0), (4, i6 (IntKind.i64.wrap (i_6 + 1)))]) ⟨[(C_bk_Drum r_14.2)], []⟩ ?_
     dsimp only
     exact ⟨_, _, Forgets.refl _ _ _, k, Nat.lt_succ_self k, (IntKind.i64.wrap (i_6 + 1)), r_14.2.beat_, h, rfl, rfl⟩
   ·refine Ex.condF _ rfl hc_11 ?_
    refine Ex.exit ?_
    (try simp only [reduceCtorEq, AEx.ex.injEq, Nat.reduceEqDiff, if_true, if_false])
    exact ⟨_, _, forgetK [3], b_7, h, rfl, rfl⟩
 ·rintro a S ⟨b_2, h, rfl, rfl⟩
  subst hK_5
  refine Ex.seq (rg 2 [2] (mkS 29 [(2, .ptr 0 0)]) ⟨[[.int .u64 b_2]], []⟩ ?_)
  refine Ex.ret ?_
  obtain rfl := sJ h
  exact ⟨.inr rfl, .ptr 0 0, by kernel_rfl, by kernel_rfl, by kernel_rfl, [], by kernel_rfl⟩
def p_bk_Drum_Roll (N : Nat) (d_1 : T_bk_Drum) (n_2 : Int) : Option (Int × T_bk_Drum) := (bif (decide (n_2 < 2)) then some (0, d_1) else ((p_bk_Drum_hit N d_1).bind fun r_4 => ((nzI (IntKind.u64.wrap n_2)).bind fun u_5 => some ((IntKind.i64.wrap (Int.tmod (Int.fdiv r_4.1 ((2 : Int) ^ (min (Int.toNat 1) (IntKind.bits .u64)))) (IntKind.u64.wrap n_2))), r_4.2))))
def v_bk_Drum_Roll (r : Int × T_bk_Drum) : AV := i6 r.1
attribute [local simp] v_bk_Drum_Roll
theorem b_bk_Drum_Roll (r : Int × T_bk_Drum) (n n2 m : Nat) : back n n2 m (v_bk_Drum_Roll r) = some (v_bk_Drum_Roll r) := by simp
theorem d_bk_Drum_Roll (N : Nat) (d_1 : T_bk_Drum) (n_2 : Int) (r : Int × T_bk_Drum) (h : p_bk_Drum_Roll N d_1 n_2 = some r) : Does Try.prog 14 [.ptr 0 0, i6 n_2] [(C_bk_Drum d_1)] fun v c => v = v_bk_Drum_Roll r ∧ c = [(C_bk_Drum r.2)] := by
 unfold p_bk_Drum_Roll at h
 refine Does.ofL comp14 _ _ rfl rfl ?_
 refine Ex.seq (rg 1 [0, 1] (mkS 14 [(0, .ptr 0 0), (1, i6 n_2)]) ⟨[(C_bk_Drum d_1)], []⟩ ?_)
 refine Ex.seq (Ex.seq ?_)
 refine rg 2 [0, 1, 6] (mkS 14 [(0, .ptr 0 0), (1, i6 n_2), (6, .bool (decide (n_2 < 2)))]) ⟨[(C_bk_Drum d_1)], []⟩ ?_
 rcases condI h with ⟨hc_3, h⟩ | ⟨hc_3, h⟩
 ·refine Ex.condT _ rfl hc_3 ?_
  refine Ex.seq (rg 1 [4] (mkS 14 [(4, i6 0)]) ⟨[(C_bk_Drum d_1)], []⟩ ?_)
  refine Ex.ret ?_
  obtain rfl := sJ h
  exact rt (i6 0)
 ·refine Ex.condF _ rfl hc_3 ?_
  refine Ex.skip ?_
  refine Ex.seq ?_
  obtain ⟨r_4, hr_4, h⟩ := bE h
  refine Ex.reg (rn 1 [1, 7] (mkS 14 [(1, i6 n_2), (7, .ptr 0 0)]) ⟨[(C_bk_Drum d_1)], []⟩ ?_)
  refine ExO.callL [0] [.ptr 0 0] rfl rfl (by simp; try rfl) rfl (by simp) (d_bk_Drum_hit N d_1 r_4 hr_4) (b_bk_Drum_hit _ _ _ _) (by simp) ?_
  obtain ⟨u_5, hu_5, h⟩ := bE h
  refine runH 6 [(3, .bin (.int .u64 (Int.tmod (Int.fdiv r_4.1 ((2 : Int) ^ (min (Int.toNat 1) (IntKind.bits .u64)))) (IntKind.u64.wrap n_2))))] [4] [binA .rem (.int .u64 (Int.fdiv r_4.1 ((2 : Int) ^ (min (Int.toNat 1) (IntKind.bits .u64))))) (.int .u64 (IntKind.u64.wrap n_2)) = some (.int .u64 (Int.tmod (Int.fdiv r_4.1 ((2 : Int) ^ (min (Int.toNat 1) (IntKind.bits .u64)))) (IntKind.u64.wrap n_2)))] (mkS 14 [(4, i6 (IntKind.i64.wrap (Int.tmod (Int.fdiv r_4.1 ((2 : Int) ^ (min (Int.toNat 1) (IntKind.bits .u64)))) (IntKind.u64.wrap n_2))))]) (⟨[(C_bk_Drum r_4.2)], []⟩) (by kernel_rfl) ⟨binR hu_5, trivial⟩ ?_
  refine ExO.nil ?_
  refine Ex.ret ?_
  obtain rfl := sJ h
  exact rt (i6 (IntKind.i64.wrap (Int.tmod (Int.fdiv r_4.1 ((2 : Int) ^ (min (Int.toNat 1) (IntKind.bits .u64)))) (IntKind.u64.wrap n_2))))
def p_bk_Drum_Mid (N : Nat) (d_1 : T_bk_Drum) (low_2 : Int) (high_3 : Int) : Option (Int × T_bk_Drum) := ((p_bk_Drum_Roll N d_1 (IntKind.i64.wrap ((IntKind.i64.wrap (high_3 - low_2)) + 1))).bind fun r_4 => some ((IntKind.i64.wrap (low_2 + r_4.1)), r_4.2))
def v_bk_Drum_Mid (r : Int × T_bk_Drum) : AV := i6 r.1
attribute [local simp] v_bk_Drum_Mid
theorem b_bk_Drum_Mid (r : Int × T_bk_Drum) (n n2 m : Nat) : back n n2 m (v_bk_Drum_Mid r) = some (v_bk_Drum_Mid r) := by simp
theorem d_bk_Drum_Mid (N : Nat) (d_1 : T_bk_Drum) (low_2 : Int) (high_3 : Int) (r : Int × T_bk_Drum) (h : p_bk_Drum_Mid N d_1 low_2 high_3 = some r) : Does Try.prog 31 [.ptr 0 0, i6 low_2, i6 high_3] [(C_bk_Drum d_1)] fun v c => v = v_bk_Drum_Mid r ∧ c = [(C_bk_Drum r.2)] := by
 unfold p_bk_Drum_Mid at h
 refine Does.ofL comp31 _ _ rfl rfl ?_
 refine Ex.seq (rg 1 [0, 1, 2] (mkS 15 [(0, .ptr 0 0), (1, i6 low_2), (2, i6 high_3)]) ⟨[(C_bk_Drum d_1)], []⟩ ?_)
 refine Ex.seq ?_
 obtain ⟨r_4, hr_4, h⟩ := bE h
 refine Ex.reg (rn 6 [7, 8, 12] (mkS 15 [(7, i6 low_2), (8, .ptr 0 0), (12, i6 (IntKind.i64.wrap ((IntKind.i64.wrap (high_3 - low_2)) + 1)))]) ⟨[(C_bk_Drum d_1)], []⟩ ?_)
 refine ExO.callL [0] [.ptr 0 0, i6 (IntKind.i64.wrap ((IntKind.i64.wrap (high_3 - low_2)) + 1))] rfl rfl (by simp; try rfl) rfl (by simp) (d_bk_Drum_Roll N d_1 (IntKind.i64.wrap ((IntKind.i64.wrap (high_3 - low_2)) + 1)) r_4 hr_4) (b_bk_Drum_Roll _ _ _ _) (by simp) ?_
 refine rn 2 [6] (mkS 15 [(6, i6 (IntKind.i64.wrap (low_2 + r_4.1)))]) ⟨[(C_bk_Drum r_4.2)], []⟩ ?_
 refine ExO.nil ?_
 refine Ex.ret ?_
 obtain rfl := sJ h
 exact rt (i6 (IntKind.i64.wrap (low_2 + r_4.1)))
def p_bk_Drum_Any (N : Nat) (d_1 : T_bk_Drum) (l_2 : (List Int)) : Option (Int × T_bk_Drum) := (bif (((l_2.length : Nat) : Int) == 0) then some (0, d_1) else ((p_bk_Drum_Roll N d_1 ((l_2.length : Nat) : Int)).bind fun r_4 => ((getI l_2 r_4.1).bind fun x_5 => some (x_5, r_4.2))))
def v_bk_Drum_Any (r : Int × T_bk_Drum) : AV := i6 r.1
attribute [local simp] v_bk_Drum_Any
theorem b_bk_Drum_Any (r : Int × T_bk_Drum) (n n2 m : Nat) : back n n2 m (v_bk_Drum_Any r) = some (v_bk_Drum_Any r) := by simp
theorem d_bk_Drum_Any (N : Nat) (d_1 : T_bk_Drum) (l_2 : (List Int)) (r : Int × T_bk_Drum) (h : p_bk_Drum_Any N d_1 l_2 = some r) : Does Try.prog 12 [.ptr 0 0, .sl (l_2.map (AV.int .i64)) none] [(C_bk_Drum d_1)] fun v c => v = v_bk_Drum_Any r ∧ c = [(C_bk_Drum r.2)] := by
 unfold p_bk_Drum_Any at h
 refine Does.ofL comp12 _ _ rfl rfl ?_
 refine Ex.seq (rg 1 [0, 1] (mkS 15 [(0, .ptr 0 0), (1, .sl (l_2.map (AV.int .i64)) none)]) ⟨[(C_bk_Drum d_1)], []⟩ ?_)
 refine Ex.seq (Ex.seq ?_)
 refine regH 3 [(1, .eq (i6 ((l_2.length : Nat) : Int)))] [0, 1, 7] [AV.int .i64 (((l_2.map (AV.int .i64)).length : Nat) : Int) = AV.int .i64 ((l_2.length : Nat) : Int)] (mkS 15 [(0, .ptr 0 0), (1, .sl (l_2.map (AV.int .i64)) none), (7, .bool (((l_2.length : Nat) : Int) == 0))]) (⟨[(C_bk_Drum d_1)], []⟩) (by kernel_rfl) ⟨lenM _ _, trivial⟩ rfl ?_
 rcases condI h with ⟨hc_3, h⟩ | ⟨hc_3, h⟩
 ·refine Ex.condT _ rfl hc_3 ?_
  refine Ex.seq (rg 1 [4] (mkS 15 [(4, i6 0)]) ⟨[(C_bk_Drum d_1)], []⟩ ?_)
  refine Ex.ret ?_
  obtain rfl := sJ h
  exact rt (i6 0)
 ·refine Ex.condF _ rfl hc_3 ?_
  refine Ex.skip ?_
  refine Ex.seq ?_
  obtain ⟨r_4, hr_4, h⟩ := bE h
  refine Ex.reg ?_
  refine runH 4 [(3, .eq (i6 ((l_2.length : Nat) : Int)))] [8, 9, 11] [AV.int .i64 (((l_2.map (AV.int .i64)).length : Nat) : Int) = AV.int .i64 ((l_2.length : Nat) : Int)] (mkS 15 [(8, .sl (l_2.map (AV.int .i64)) none), (9, .ptr 0 0), (11, i6 ((l_2.length : Nat) : Int))]) (⟨[(C_bk_Drum d_1)], []⟩) (by kernel_rfl) ⟨lenM _ _, trivial⟩ ?_
  refine ExO.callL [0] [.ptr 0 0, i6 ((l_2.length : Nat) : Int)] rfl rfl (by simp; try rfl) rfl (by simp) (d_bk_Drum_Roll N d_1 ((l_2.length : Nat) : Int) r_4 hr_4) (b_bk_Drum_Roll _ _ _ _) (by simp) ?_
  obtain ⟨x_5, hx_5, h⟩ := bE h
  refine runH 3 [(0, .rop [i6 x_5])] [4] [LGet (l_2.map (AV.int .i64)) r_4.1 1 [i6 x_5]] (mkS 15 [(4, i6 x_5)]) (⟨[(C_bk_Drum r_4.2)], []⟩) (by kernel_rfl) ⟨LGet.of hx_5 rfl, trivial⟩ ?_
  refine ExO.nil ?_
  refine Ex.ret ?_
  obtain rfl := sJ h
  exact rt (i6 x_5)
def p_bk_Drum_Rare (N : Nat) (d_1 : T_bk_Drum) (n_2 : Int) : Option (Bool × T_bk_Drum) := ((p_bk_Drum_Roll N d_1 n_2).bind fun r_3 => some ((r_3.1 == 0), r_3.2))
def v_bk_Drum_Rare (r : Bool × T_bk_Drum) : AV := .bool r.1
attribute [local simp] v_bk_Drum_Rare
theorem b_bk_Drum_Rare (r : Bool × T_bk_Drum) (n n2 m : Nat) : back n n2 m (v_bk_Drum_Rare r) = some (v_bk_Drum_Rare r) := by simp
theorem d_bk_Drum_Rare (N : Nat) (d_1 : T_bk_Drum) (n_2 : Int) (r : Bool × T_bk_Drum) (h : p_bk_Drum_Rare N d_1 n_2 = some r) : Does Try.prog 28 [.ptr 0 0, i6 n_2] [(C_bk_Drum d_1)] fun v c => v = v_bk_Drum_Rare r ∧ c = [(C_bk_Drum r.2)] := by
 unfold p_bk_Drum_Rare at h
 refine Does.ofL comp28 _ _ rfl rfl ?_
 refine Ex.seq (rg 1 [0, 1] (mkS 9 [(0, .ptr 0 0), (1, i6 n_2)]) ⟨[(C_bk_Drum d_1)], []⟩ ?_)
 refine Ex.seq ?_
 obtain ⟨r_3, hr_3, h⟩ := bE h
 refine Ex.reg (rn 2 [5, 6] (mkS 9 [(5, .ptr 0 0), (6, i6 n_2)]) ⟨[(C_bk_Drum d_1)], []⟩ ?_)
 refine ExO.callL [0] [.ptr 0 0, i6 n_2] rfl rfl (by simp; try rfl) rfl (by simp) (d_bk_Drum_Roll N d_1 n_2 r_3 hr_3) (b_bk_Drum_Roll _ _ _ _) (by simp) ?_
 refine rn 2 [4] (mkS 9 [(4, .bool (r_3.1 == 0))]) ⟨[(C_bk_Drum r_3.2)], []⟩ ?_
 refine ExO.nil ?_
 refine Ex.ret ?_
 obtain rfl := sJ h
 exact rt (.bool (r_3.1 == 0))
end Go.Proofs.Ytfhapfljomgmnaa
end
