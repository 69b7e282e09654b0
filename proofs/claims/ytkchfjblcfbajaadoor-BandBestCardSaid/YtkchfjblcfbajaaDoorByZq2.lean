/- Part 3 of what the law needs: own work, put together. -/
import Derived.RangeFuncNested
import Derived.Scope
import Derived.Laws.CopyRow
import Derived.Laws.IdiomCopy
import Derived.Test.YtkchfjblcfbajaaDoorProg
import Derived.KernelRfl
import Derived.Test.YtkchfjblcfbajaaDoorByZq1
set_option linter.unusedVariables false
set_option linter.unusedSimpArgs false
set_option maxRecDepth 10000
set_option maxHeartbeats 4000000
section
namespace Go.Proofs.YtkchfjblcfbajaaDoor
open Go.RowKit

theorem compCode_rangeF {P : Program} {code : Code} {g : AOpd} {ps : List Nat} {x y : ACode} (h : compCode P code = some (.rangeF g ps x y)) : ∃ g' ps' x' y', code = .rangeFunc g' ps' x' y' ∧ compOpd g' = some g ∧ ps'.toList = ps ∧ compCode P x' = some x ∧ compCode P y' = some y := by
 cases code <;> simp only [compCode, reduceCtorEq] at h
 case rangeFunc g' ps' x' y' =>
  split at h
  ·rename_i h1 h2 h3
   simp only [Option.some.injEq, ACode.rangeF.injEq] at h
   obtain ⟨rfl, rfl, rfl, rfl⟩ := h
   exact ⟨g', ps', x', y', rfl, h1, rfl, h2, h3⟩
  ·cases h
 case region id ops draw =>
  split at h
  ·split at h
   ·split at h
    ·split at h <;> simp at h
    ·cases h
   ·cases h
  ·split at h
   ·cases h
   ·simp at h
 case seq => split at h <;> simp at h
 case cond => split at h <;> simp at h
 all_goals simp at h

def Md.F : Md → Fence
 | .plain => Fence.wide
 | .round l _ => Fence.wide.inRound l
def Md.n : Md → Nat
 | .plain => 2
 | .round _ n => n
theorem Md.fn (md : Md) (f : FuncId) : md.F.fn f := by cases md <;> trivial
theorem Md.depth (md : Md) {p : Prop} (h : md.F.depth.isSome = true) : p := by cases md <;> simp [Md.F, Fence.wide, Fence.inRound] at h
theorem cwp_of_in {md : Md} {P : Program} {c : Code} {Q : Exit → Act → World → Prop} {a : Act} {w : World} (h : c.wpIn md.F md.n P Q a w) : cwp md P c Q a w := by
 cases md
 ·exact wpIn_wide.1 h
 ·exact h
theorem callsIn_md (md : Md) {n : Nat} {P : Program} {f : FuncId} {args : Array Value} {w : World} {R : Ending → World → Prop} (h : Calls P f args w R) : CallsIn md.F n P f args w R := by
 cases md with
 | plain => exact callsIn_wide.2 h
 | round l k => exact CallsIn.inRound l (callsIn_wide.2 h)
theorem rowsIn_md (md : Md) {n : Nat} {P : Program} {row : String} {args : Array Value} {w : World} {R : Value → World → Prop} (h : Rows P row args w R) : RowsIn md.F n P row args w R := by
 cases md with
 | plain => exact fun c cs _ => let ⟨v, w', r, s⟩ := h c cs; ⟨v, w', r, stepsIn_wide.2 s⟩
 | round l k => exact rows_round h
theorem listIn_of {md : Md} {P : Program} {ops : Array Oper} {Q : Exit → Act → World → Prop} {K : Act → World → Prop} (l2 : List Oper) (hn : ∀ a w, K a w → wpListIn md.F md.n P ops Q l2 a w) : ∀ (l : List Oper) (a : Act) (w : World), (∀ o ∈ l, ∀ d, o.op ≠ .defer d) → wpList P ops (fun e a w => e = .normal ∧ K a w) l a w → wpListIn md.F md.n P ops Q (l ++ l2) a w
 | [], a, w, _, h => hn a w h.2
 | o :: l, a, w, hd, h => by
  have ih := listIn_of (md := md) (P := P) (ops := ops) (Q := Q) (K := K) l2 hn l
  have hd' : ∀ o ∈ l, ∀ d, o.op ≠ .defer d := fun o ho => hd o (List.mem_cons_of_mem _ ho)
  have hL : ¬ LetsOut (fun (e : Exit) (a : Act) (w : World) => e = Exit.normal ∧ K a w) := fun ⟨a, w, hq⟩ => by cases hq.1
  simp only [List.cons_append, wpListIn]
  simp only [wpList] at h
  by_cases hw : Region.wanted o (yielded ops a.tmps) = true
  ·rw [if_pos hw] at h ⊢
   rcases h with h | ⟨_, h⟩
   ·refine ⟨fun f _ => md.fn f, ?_⟩
    rw [Oper.semAt_eq _ _ _ (hd o (by simp))]
    unfold Oper.wp at h
    generalize (execOp a.eval o).run P w = r at h
    cases r with
    | ok nx w' =>
     cases nx <;> simp only [Oper.upon, Oper.uponIn] at h ⊢
     case value v => exact ih _ _ hd' h
     case skip => exact ih _ _ hd' h
     case defer d => exact ih _ _ hd' h
     case enter f args =>
      refine ⟨fun hdp => md.depth hdp, callsIn_md md (Calls.mono h fun e w'' he => ?_)⟩
      cases e with
      | returned v => exact ih _ _ hd' he
      | panicked c => cases he.1
      | outgrown => exact absurd he hL
     case row row args => exact ⟨fun hdp => md.depth hdp, rowsIn_md md (Rows.mono h fun v w'' he => ih _ _ hd' he)⟩
    | halt x w' => cases x <;> simp only [Oper.upon, Oper.uponIn] at h ⊢ <;> cases h.1
   ·exact absurd h hL
  ·rw [if_neg hw] at h ⊢
   exact ⟨fun f _ => md.fn f, ih _ _ hd' h⟩

def ExI (c : Cx) (md : Md) (P : Program) (xs : List AOper) (a : List AV) (S : St) (R : List AV → St → Prop) : Prop :=
 ∀ (E : Ent), E.c = c → ∀ (ops : Array Oper) (l : List Oper) (Q : Exit → Act → World → Prop), l.mapM (compOper P ops) = some xs → (∀ o ∈ l, ∀ d, o.op ≠ .defer d) → (∀ a' S' act' w', R a' S' → At E a' S' act' w' → Q .normal act' w') → ∀ act w, At E a S act w → wpListIn md.F md.n P ops Q l act w

theorem mapM_append_inv {P : Program} {ops : Array Oper} : ∀ (xs : List AOper) {ys : List AOper} {l : List Oper}, l.mapM (compOper P ops) = some (xs ++ ys) → ∃ l1 l2, l = l1 ++ l2 ∧ l1.mapM (compOper P ops) = some xs ∧ l2.mapM (compOper P ops) = some ys
 | [], ys, l, h => ⟨[], l, rfl, rfl, h⟩
 | x :: xs, ys, l, h => by
  obtain ⟨o, l', rfl, hx, hl'⟩ := mapM_cons_inv h
  obtain ⟨l1, l2, rfl, h1, h2⟩ := mapM_append_inv xs hl'
  exact ⟨o :: l1, l2, rfl, by simp [List.mapM_cons, hx, h1], h2⟩

section rules
variable {c : Cx} {md : Md} {P : Program} {a : List AV} {S : St} {Q : AEx → List AV → St → Prop} {R : List AV → St → Prop}
theorem ExI.nil (h : R a S) : ExI c md P [] a S R := by
 intro E hE ops l Q hl hd hq act w hA
 cases l with
 | nil => exact hq _ _ _ _ h hA
 | cons o l =>
  rw [List.mapM_cons] at hl
  simp only [Option.bind_eq_bind, Option.bind_eq_some_iff, Option.pure_def, Option.some.injEq] at hl
  obtain ⟨_, _, _, _, h⟩ := hl
  cases h
theorem ExI.pre {xs ys : List AOper} (h : ExO c P xs a S fun a1 S1 => ExI c md P ys a1 S1 R) : ExI c md P (xs ++ ys) a S R := by
 intro E hE ops l Q hl hd hq act w hA
 obtain ⟨l1, l2, rfl, h1, h2⟩ := mapM_append_inv xs hl
 refine listIn_of (K := fun act w => wpListIn md.F md.n P ops Q l2 act w) l2 (fun _ _ h => h) l1 act w (fun o ho => hd o (List.mem_append_left _ ho)) ?_
 refine h E hE ops l1 _ h1 (fun a' S' act' w' hr hA' => ⟨rfl, ?_⟩) act w hA
 exact hr E hE ops l2 Q h2 (fun o ho => hd o (List.mem_append_right _ ho)) hq act' w' hA'
theorem ExI.of {xs : List AOper} (h : ExO c P xs a S R) : ExI c md P xs a S R := by
 have := ExI.pre (c := c) (md := md) (P := P) (a := a) (S := S) (R := R) (xs := xs) (ys := []) (by
  intro E hE ops l Q hl hq act w hA
  exact h E hE ops l Q hl (fun a' S' act' w' hr hA' => hq a' S' act' w' (ExI.nil hr) hA') act w hA)
 rwa [List.append_nil] at this
theorem Ex.regI {xs : List AOper} (h : ExI c md P xs a S (Q .norm)) : Ex c md P (.reg xs) a S Q := by
 intro E hE code hc act w hA
 obtain ⟨id, ops, rfl, hnd, hxs⟩ := compCode_reg hc
 refine cwp_of_in (wpIn_region_list ?_)
 refine h E hE ops _ _ hxs (fun o ho => ?_) (fun a' S' act' w' h1 h2 => ⟨.norm, a', S', rfl, h1, h2⟩) act w hA
 obtain ⟨i, hi⟩ := List.mem_iff_getElem?.1 ho
 exact noDefer_spec hnd (i := i) (by simpa using hi)
end rules

def Fact.free (l t : Nat) : Fact → Prop
 | .lp L | .bz L => L.l ≠ l ∧ L.t ≠ t
 | _ => True
structure LpOk (P : Program) (c : Cx) (L : Lp) (a0 : List AV) (ps : List Nat) (x y : ACode) : Prop where
 fs : ∃ f1 f2, c.fs = f1 ++ .lp L :: f2 ∧ ∀ f ∈ f1 ++ f2, f.free L.l L.t
 rel : ∃ G0 n m, Fact.le G0 n m ∈ c.fs ∧ L.r.tmps.size = a0.length ∧ ∀ (i : Nat) z u, a0[i]? = some z → L.r.tmps[i]? = some u → VR G0 z u
 ps : L.r.params.toList = ps
 x : compCode P L.r.assign = some x
 y : compCode P L.r.body = some y
theorem Fact.wf.mono {f : Fact} {n m n' m' : Nat} (h : f.wf n m) (hn : n ≤ n') (hm : m ≤ m') : f.wf n' m' := by
 cases f with
 | le G0 n0 m0 => exact ⟨Nat.le_trans h.1 hn, Nat.le_trans h.2 hm⟩
 | lp L => exact Nat.lt_of_lt_of_le h hm
 | bz L => exact Nat.lt_of_lt_of_le h hm
 | df _ _ _ _ => trivial
theorem Fact.below.mono {f : Fact} {k k' : Nat} (h : f.below k) (hk : k ≤ k') : f.below k' := by
 cases f with
 | lp L => exact Nat.lt_of_lt_of_le h hk
 | bz L => exact Nat.lt_of_lt_of_le h hk
 | df _ u _ _ => exact Nat.le_trans h hk
 | _ => trivial
theorem Fact.above.mono {f : Fact} {k k' : Nat} (h : f.above k) (hk : k' ≤ k) : f.above k' := by
 cases f with
 | lp L => exact Nat.le_trans hk h
 | bz L => exact Nat.le_trans hk h
 | _ => trivial

def setPs (a : List AV) : List Nat → List AV → List AV
 | p :: ps, x :: xs => setPs (a.set p x) ps xs
 | _, _ => a
theorem setPs_rel {G : Gh} : ∀ (ps : List Nat) (xs : List AV) (us : List Value) (a : List AV) (t : Array Value), us.length = xs.length → (∀ (i : Nat) x u, xs[i]? = some x → us[i]? = some u → VR G x u) → t.size = a.length → (∀ (i : Nat) z u, a[i]? = some z → t[i]? = some u → VR G z u) →
  ((ps.zip us).foldl (fun t (p, v) => t.setIfInBounds p v) t).size = (setPs a ps xs).length ∧ ∀ (i : Nat) z u, (setPs a ps xs)[i]? = some z → ((ps.zip us).foldl (fun t (p, v) => t.setIfInBounds p v) t)[i]? = some u → VR G z u
 | [], xs, us, a, t, _, _, hs, h => by
  have : setPs a [] xs = a := by cases xs <;> rfl
  rw [this]
  exact ⟨hs, h⟩
 | p :: ps, [], us, a, t, hl, _, hs, h => by
  have : us = [] := List.eq_nil_of_length_eq_zero (by simpa using hl)
  subst this
  exact ⟨hs, h⟩
 | p :: ps, x :: xs, [], a, t, hl, _, hs, h => by simp at hl
 | p :: ps, x :: xs, u :: us, a, t, hl, hv, hs, h => by
  simp only [List.zip_cons_cons, List.foldl_cons, setPs]
  refine setPs_rel ps xs us _ _ (by simpa using hl) (fun i x u h1 h2 => hv (i + 1) x u (by simpa using h1) (by simpa using h2)) (by simpa using hs) fun i z v hz hv' => ?_
  rw [List.getElem?_set] at hz
  rw [Array.getElem?_setIfInBounds] at hv'
  by_cases hpi : p = i
  ·subst hpi
   rw [if_pos rfl] at hz hv'
   split at hz
   ·split at hv'
    ·cases hz; cases hv'
     exact hv 0 _ _ rfl rfl
    ·cases hv'
   ·cases hz
  ·rw [if_neg hpi] at hz hv'
   exact h i z v hz hv'

theorem Gro.putObj {G0 G : Gh} {S0 S : St} {w0 w : World} (h : Gro G0 S0 w0 G S w) {l : Nat} (o : Obj) (hl : w0.heap.size ≤ l) : Gro G0 S0 w0 G S (w.putObj l o) := by
 refine ⟨h.le, h.os, h.tape, h.output, by simp [World.putObj]; exact h.size, fun B hB hno => ?_, h.own, fun k o' hk ho => ?_⟩
 ·rw [World.putObj_heap_other (by omega)]; exact h.fr B hB hno
 ·have hlt := (Array.getElem?_eq_some_iff.1 hk).1
  rw [World.putObj_heap_other (by omega)]; exact h.oth k o' hk ho
theorem Inv.flag {G : Gh} {S : St} {w : World} (hI : Inv G S w) {t : Nat} (p : Nat × Nat) (ht : ∀ n, G.tb t n = none) : Inv G ⟨S.bx, S.lv.set t p⟩ w := by
 have hg : ∀ t' n v, G.tb t' n = some v → (S.lv.set t p)[t']? = S.lv[t']? := fun t' n v h => by
  refine List.getElem?_set_ne ?_
  rintro rfl; rw [ht] at h; cases h
 refine ⟨hI.box, fun t' n s0 B s c h1 h2 => hI.tok t' n s0 B s c (by rw [← hg t' n _ h2]; exact h1) h2, hI.fz, hI.dal, fun t' n v h => ?_, hI.injA, fun t1 t2 n n' s0 s0' B s s' c c' h1 h2 h3 h4 => ?_, fun b B t' n s0 s c h1 h2 h3 => ?_, hI.gl⟩
 ·obtain ⟨m, s, h1, h2⟩ := hI.dtb t' n v h
  exact ⟨m, s, by rw [← h1]; exact hg t' n v h, h2⟩
 ·exact hI.injT t1 t2 n n' s0 s0' B s s' c c' (by rw [← hg t1 n _ h3]; exact h1) (by rw [← hg t2 n' _ h4]; exact h2) h3 h4
 ·exact hI.sep b B t' n s0 s c h1 (by rw [← hg t' n _ h3]; exact h2) h3
theorem Gro.flag {G0 G : Gh} {S0 S : St} {w0 w : World} (h : Gro G0 S0 w0 G S w) {t : Nat} (p : Nat × Nat) (ht : ∀ n, G.tb t n = none) : Gro G0 S0 w0 G ⟨S.bx, S.lv.set t p⟩ w := by
 refine ⟨h.le, h.os, h.tape, h.output, h.size, h.fr, fun B ho => h.own B ?_, h.oth⟩
 rcases ho with hb | ⟨t', n, s0, s, c, h1, h2⟩
 ·exact .inl hb
 ·refine .inr ⟨t', n, s0, s, c, ?_, h2⟩
  rw [← h1]
  refine (List.getElem?_set_ne ?_).symm
  rintro rfl; rw [ht] at h2; cases h2
theorem Inv.allocO {G : Gh} {S : St} {w : World} (hI : Inv G S w) (o : Obj) : Inv G S (w.alloc o) := by
 have hold : ∀ b, b < w.heap.size → (w.alloc o).heap[b]? = w.heap[b]? := fun b hb => Below.heap_alloc w _ b hb
 refine ⟨fun b B cs h1 h2 => ?_, fun t n s0 B s c h1 h2 => ?_, fun b o u hf => ?_, fun b B h1 => ?_, hI.dtb, hI.injA, hI.injT, hI.sep, hI.gl⟩
 ·rcases hI.box b B cs h1 h2 with h0 | ⟨us, T, k1, k2⟩
  ·exact .inl h0
  ·exact .inr ⟨us, T, by rw [hold B (hI.dal b B h1).2]; exact k1, k2⟩
 ·obtain ⟨k1, ⟨us, T, k2, k3⟩, k4⟩ := hI.tok t n s0 B s c h1 h2
  exact ⟨k1, ⟨us, T, by rw [hold B (hI.toklt h1 h2)]; exact k2, k3⟩, k4⟩
 ·rw [cell_of_heap (hold b (hI.fzlt hf))]; exact hI.fz b o u hf
 ·have := hI.dal b B h1
  exact ⟨this.1, by simp; omega⟩
theorem Gro.allocO (G : Gh) (S : St) (w : World) (o : Obj) : Gro G S w G S (w.alloc o) :=
 ⟨.refl G, rfl, rfl, rfl, by simp, fun B hB _ => ⟨Below.heap_alloc w _ B hB, fun _ => rfl⟩, fun _ h => .inl h, oth_alloc w o⟩
end Go.Proofs.YtkchfjblcfbajaaDoor
end
section
namespace Go.Proofs.YtkchfjblcfbajaaDoor
open Go.RowKit

theorem compOp_call {P : Program} {ty : TypeId} {op : Op} {f : AOpd} {args : List AOpd} (h : compOp P ty op = some (.call f args)) : ∃ sf sargs ts, op = .call { callee := .value sf, args := sargs, argTypes := ts } ∧ compOpd sf = some f ∧ compOpds sargs = some args := by
 unfold compOp at h
 split at h
 all_goals first
  | (rename_i sf sargs ts
     simp only [Option.bind_eq_bind, Option.bind_eq_some_iff, Option.pure_def, Option.some.injEq, AOp.call.injEq] at h
     obtain ⟨f', hf, as', has, rfl, rfl⟩ := h
     exact ⟨_, _, _, rfl, hf, has⟩)
  | (exfalso; cases h; done)
  | (exfalso; simp [Option.bind_eq_some_iff] at h; done)
  | skip
 all_goals (exfalso; revert h)
 all_goals (try (simp [Option.bind_eq_some_iff]; done))
 all_goals (repeat (first | (intro h; cases h; done) | split))
 all_goals (try (simp [Option.bind_eq_some_iff]; done))
 all_goals (try (repeat (first | (intro h; cases h; done) | split)))
 all_goals (try (intro h; simp [Option.bind_eq_some_iff] at h; done))
 all_goals (intro h; simp only [Option.bind_eq_bind, Option.bind_eq_some_iff, Option.pure_def, Option.map_eq_some_iff, Option.some.injEq, reduceCtorEq, and_false, exists_false] at h)
 all_goals (repeat' (first | (cases h; done) | (obtain ⟨_, _, h⟩ := h; try simp only [Option.bind_eq_bind, Option.bind_eq_some_iff, Option.pure_def, Option.map_eq_some_iff, Option.some.injEq, reduceCtorEq, and_false, exists_false] at h) | (simp [Option.bind_eq_some_iff] at h; done) | split at h))

theorem VR.inv_yld {G : Gh} {l t : Nat} {u : Value} (h : VR G (.yld l t) u) : u = .func (.yield l) #[] #[] := by cases h; rfl
theorem yield_run {P : Program} {G : Gh} {w : World} {o : Oper} {ρ : Operand → Value} {a : AOpd → AV} {sf : Operand} {sargs : Array Operand} {ts : Array TypeId} {f : AOpd} {args : List AOpd} {l t : Nat} {r : Loop} (ho : o.op = .call { callee := .value sf, args := sargs, argTypes := ts }) (hf : compOpd sf = some f) (ha : compOpds sargs = some args) (h : OpdOk G a ρ) (hv : a f = .yld l t) (hl : w.heap[l]? = some (.loop r)) (hs : r.params.size = args.length) :
  ∃ us : Array Value, (execOp ρ o).run P w = .ok (.round l r.fn ((r.params.zip us).foldl (fun tmps (t, a) => tmps.setIfInBounds t a) r.tmps) r.assign r.body) w ∧ us.size = args.length ∧ ∀ (i : Nat) x u, (args.map a)[i]? = some x → us[i]? = some u → VR G x u := by
 have h1 := h sf f hf
 rw [hv] at h1
 have hu := h1.inv_yld
 have hall := VL.opds ha h
 have hsz : (sargs.map ρ).size = args.length := by rw [hall.1, List.length_map]
 refine ⟨sargs.map ρ, ?_, hsz, hall.2⟩
 have hy := run_yield (P := P) (args := sargs.map ρ) hl (by rw [hsz, hs])
 simp only [execOp, ho, resolve, hu, Deferred.ofValue, invoke]
 simp [hy]

theorem zip_foldl (ps : Array Tmp) (us : Array Value) (t : Array Value) : (ps.zip us).foldl (fun tmps (t, a) => tmps.setIfInBounds t a) t = (ps.toList.zip us.toList).foldl (fun tmps (t, a) => tmps.setIfInBounds t a) t := by
 rw [← Array.foldl_toList, Array.toList_zip]

section rules
variable {c : Cx} {md : Md} {P : Program} {a : List AV} {S : St} {Q : AEx → List AV → St → Prop} {R : List AV → St → Prop}

theorem ExI.yield {L : Lp} {a0 : List AV} {ps : List Nat} {x0 y0 : ACode} (hL : LpOk P c L a0 ps x0 y0) {x : AOper} {l : List AOper} (f : AOpd) (args : List AOpd) (t : Nat) (xs : List AV) (hw : wantedA x.guard a = some true) (ho : x.op = .call f args) (hf : evd a f = .yld L.l t) (hxs : args.map (evd a) = xs) (hps : ps.length = xs.length) (hr : S.lv[L.t]? = some (0, 0)) (hn : c.n ≤ S.bx.length)
  (h : ∀ (ca cb : Cx), ca.n = S.bx.length → cb.n = S.bx.length → ca.m = S.lv.length → cb.m = S.lv.length → (∀ L' a' ps' x' y', LpOk P c L' a' ps' x' y' → L'.l ≠ L.l → LpOk P ca L' a' ps' x' y' ∧ LpOk P cb L' a' ps' x' y') → Fact.bz L ∈ cb.fs →
    Ex ca (.round L.l (md.n - 1)) P x0 (setPs a0 ps xs) S fun z a1 S1 => z = .norm ∧ S1.lv[L.t]? = some (0, 0) ∧
     Ex cb (.round L.l (md.n - 1)) P y0 a1 S1 fun z a2 S2 => match z with
      | .norm => ExI c md P l (putA a x.dst (.bool true)) S2 R
      | .ret => ExI c md P l (putA a x.dst (.bool false)) ⟨S2.bx, S2.lv.set L.t (1, 0)⟩ R
      | .ex i => ExI c md P l (putA a x.dst (.bool false)) ⟨S2.bx, S2.lv.set L.t (i + 2, 0)⟩ R) : ExI c md P (x :: l) a S R := by
 intro E hE ops l0 Q hco hdef hq act w hA
 obtain ⟨o, l', rfl, hx, hl'⟩ := mapM_cons_inv hco
 obtain ⟨h1, h2, _⟩ := compOper_ok hx
 obtain ⟨G, hI, hR, hg, hk, hd⟩ := hA
 have hgr := hg
 subst hE
 obtain ⟨f1, f2, hfs, hfree⟩ := hL.fs
 obtain ⟨G0, n0, m0, hle0, htz, htv⟩ := hL.rel
 have hmem : Fact.lp L ∈ E.c.fs := by rw [hfs]; simp
 have hlp := hd.x _ hmem
 obtain ⟨hnone, k, hk1, hk2⟩ := hlp
 rw [hr] at hk1
 cases hk1
 have hlt : L.t < E.c.m := E.c.hw _ hmem
 have hlk : L.l < E.c.k := E.c.hk _ hmem
 have hab : E.w.heap.size ≤ L.l := E.hW _ hmem
 have hG0 := (hd.x _ hle0).1
 obtain ⟨sf, sargs, ts, hop, hsf, hsa⟩ := compOp_call (ho ▸ h1)
 have hpl : L.r.params.size = args.length := by
  rw [← Array.length_toList, hL.ps, hps, ← hxs, List.length_map]
 have hk2' : w.heap[L.l]? = some (.loop { L.r with state := .ready, pending := none }) := hk2
 obtain ⟨us, hrun, husz, husv⟩ := yield_run (P := P) (w := w) hop hsf hsa (hR.opd hI.gl) hf hk2' hpl
 simp only [wpListIn]
 rw [if_pos (wantedA_ok hx hR hw)]
 refine ⟨fun g _ => md.fn g, ?_⟩
 rw [Oper.semAt_eq _ _ _ (hdef o (by simp)), hrun, Oper.uponIn_round]
 refine ⟨fun hdp => md.depth hdp, ?_⟩
 rw [hxs] at husv
 have husl : us.toList.length = xs.length := by rw [Array.length_toList, husz, ← hxs, List.length_map]
 -- the two contexts
 have hwf : ∀ g ∈ E.c.fs, g.wf S.bx.length S.lv.length := fun g hg' => (E.c.hw g hg').mono hn hd.m
 have hdomA : ∀ b B, G.al b = some B → b < S.bx.length := fun b B h => (hI.dal b B h).1
 have hdomT : ∀ t k v, G.tb t k = some v → t < S.lv.length := fun t k v h => by
  obtain ⟨m, s, h1, _⟩ := hI.dtb t k v h
  exact (List.getElem?_eq_some_iff.1 h1).1
 let ca : Cx := ⟨S.bx.length, S.lv.length, w.heap.size, .le G S.bx.length S.lv.length :: .df E.b w.heap.size E.d act.defers :: E.c.fs, fun g hg' => (by
  rcases List.mem_cons.1 hg' with rfl | hg'
  ·exact ⟨Nat.le_refl _, Nat.le_refl _⟩
  rcases List.mem_cons.1 hg' with rfl | hg'
  ·trivial
  ·exact hwf g hg'), fun g hg' => (by
  rcases List.mem_cons.1 hg' with rfl | hg'
  ·trivial
  rcases List.mem_cons.1 hg' with rfl | hg'
  ·exact Nat.le_refl _
  ·exact (E.c.hk g hg').mono hd.k)⟩
 let cb : Cx := ⟨S.bx.length, S.lv.length, w.heap.size, .le G S.bx.length S.lv.length :: .df E.b w.heap.size E.d act.defers :: (f1 ++ .bz L :: f2), fun g hg' => (by
  rcases List.mem_cons.1 hg' with rfl | hg'
  ·exact ⟨Nat.le_refl _, Nat.le_refl _⟩
  rcases List.mem_cons.1 hg' with rfl | hg'
  ·trivial
  ·rcases List.mem_append.1 hg' with hg' | hg'
   ·exact hwf g (by rw [hfs]; simp [hg'])
   ·rcases List.mem_cons.1 hg' with rfl | hg'
    ·exact (show L.t < S.lv.length from hwf (.lp L) hmem)
    ·exact hwf g (by rw [hfs]; simp [hg'])), fun g hg' => (by
  rcases List.mem_cons.1 hg' with rfl | hg'
  ·trivial
  rcases List.mem_cons.1 hg' with rfl | hg'
  ·exact Nat.le_refl _
  ·rcases List.mem_append.1 hg' with hg' | hg'
   ·exact (E.c.hk g (by rw [hfs]; simp [hg'])).mono hd.k
   ·rcases List.mem_cons.1 hg' with rfl | hg'
    ·exact Nat.lt_of_lt_of_le hlk hd.k
    ·exact (E.c.hk g (by rw [hfs]; simp [hg'])).mono hd.k)⟩
 have hup : ∀ L' a' ps' x' y', LpOk P E.c L' a' ps' x' y' → L'.l ≠ L.l → LpOk P ca L' a' ps' x' y' ∧ LpOk P cb L' a' ps' x' y' := by
  intro L' a' ps' x' y' hL' hne
  obtain ⟨g1, g2, hgs, hgf⟩ := hL'.fs
  obtain ⟨G', n', m', hle', h3, h4⟩ := hL'.rel
  refine ⟨⟨⟨.le G S.bx.length S.lv.length :: .df E.b w.heap.size E.d act.defers :: g1, g2, by show _ :: _ :: E.c.fs = _; rw [hgs]; rfl, fun g hg' => ?_⟩, ⟨G', n', m', List.mem_cons_of_mem _ (List.mem_cons_of_mem _ hle'), h3, h4⟩, hL'.ps, hL'.x, hL'.y⟩, ⟨?_, ⟨G', n', m', ?_, h3, h4⟩, hL'.ps, hL'.x, hL'.y⟩⟩
  ·rcases List.mem_cons.1 hg' with rfl | hg'
   ·trivial
   rcases List.mem_cons.1 hg' with rfl | hg'
   ·trivial
   ·exact hgf g hg'
  ·-- L' among the others
   have hin : Fact.lp L' ∈ f1 ++ f2 := by
    have : Fact.lp L' ∈ E.c.fs := by rw [hgs]; simp
    rw [hfs] at this
    rcases List.mem_append.1 this with h | h
    ·exact List.mem_append_left _ h
    ·rcases List.mem_cons.1 h with h | h
     ·cases h; exact absurd rfl hne
     ·exact List.mem_append_right _ h
   have hfL := hfree _ hin
   have hothers : ∀ g ∈ f1 ++ .bz L :: f2, g ≠ .lp L' → g.free L'.l L'.t := by
    intro g hg' hne'
    have hgE : g = .bz L ∨ g ∈ E.c.fs := by
     rcases List.mem_append.1 hg' with h | h
     ·exact .inr (by rw [hfs]; simp [h])
     ·rcases List.mem_cons.1 h with h | h
      ·exact .inl h
      ·exact .inr (by rw [hfs]; simp [h])
    rcases hgE with rfl | hgE
    ·exact ⟨fun e => hfL.1 e.symm, fun e => hfL.2 e.symm⟩
    ·rw [hgs] at hgE
     rcases List.mem_append.1 hgE with h | h
     ·exact hgf g (List.mem_append_left _ h)
     ·rcases List.mem_cons.1 h with h | h
      ·exact absurd h hne'
      ·exact hgf g (List.mem_append_right _ h)
   -- it stands there once
   have honce : ∃ h1 h2, f1 ++ .bz L :: f2 = h1 ++ .lp L' :: h2 ∧ ∀ g ∈ h1 ++ h2, g ≠ .lp L' := by
    have hE1 : ∀ u v, f1 ++ .lp L :: f2 = u ++ v → True := fun _ _ _ => trivial
    have hg12 : ∀ g ∈ g1 ++ g2, g ≠ .lp L' := fun g hg' e => by
     have := hgf g hg'; rw [e] at this; exact this.1 rfl
    have heq : f1 ++ .lp L :: f2 = g1 ++ .lp L' :: g2 := by rw [← hfs, hgs]
    rcases List.append_eq_append_iff.1 heq with ⟨m, e1, e2⟩ | ⟨m, e1, e2⟩
    ·cases m with
     | nil =>
      simp at e2
      exact absurd (by rw [e2.1]) hne
     | cons q m =>
      simp only [List.cons_append, List.cons.injEq] at e2
      obtain ⟨rfl, e2⟩ := e2
      refine ⟨f1 ++ .bz L :: m, g2, by rw [e2]; simp, fun g hg' => ?_⟩
      simp only [List.mem_append, List.mem_cons] at hg'
      rcases hg' with (hg' | rfl | hg') | hg'
      ·exact hg12 g (by rw [e1]; simp [hg'])
      ·simp
      ·exact hg12 g (by rw [e1]; simp [hg'])
      ·exact hg12 g (by simp [hg'])
    ·cases m with
     | nil =>
      simp at e2
      exact absurd (by rw [← e2.1]) hne
     | cons q m =>
      simp only [List.cons_append, List.cons.injEq] at e2
      obtain ⟨rfl, e2⟩ := e2
      refine ⟨g1, m ++ .bz L :: f2, by rw [e1]; simp, fun g hg' => ?_⟩
      simp only [List.mem_append, List.mem_cons] at hg'
      rcases hg' with hg' | hg' | rfl | hg'
      ·exact hg12 g (by simp [hg'])
      ·exact hg12 g (by rw [e2]; simp [hg'])
      ·simp
      ·exact hg12 g (by rw [e2]; simp [hg'])
   obtain ⟨h1, h2, e1, e2⟩ := honce
   refine ⟨.le G S.bx.length S.lv.length :: .df E.b w.heap.size E.d act.defers :: h1, h2, by show _ :: _ :: (f1 ++ .bz L :: f2) = _; rw [e1]; rfl, fun g hg' => ?_⟩
   rcases List.mem_cons.1 hg' with rfl | hg'
   ·trivial
   rcases List.mem_cons.1 hg' with rfl | hg'
   ·trivial
   ·refine hothers g (by rw [e1]; rcases List.mem_append.1 hg' with h | h <;> simp [h]) (e2 g hg')
  ·rw [hfs] at hle'
   rcases List.mem_append.1 hle' with h | h
   ·exact List.mem_cons_of_mem _ (List.mem_cons_of_mem _ (List.mem_append_left _ h))
   ·rcases List.mem_cons.1 h with h | h
    ·cases h
    ·exact List.mem_cons_of_mem _ (List.mem_cons_of_mem _ (List.mem_append_right _ (List.mem_cons_of_mem _ h)))
 have hEx := h ca cb rfl rfl rfl rfl hup (by show _ ∈ _ :: _ :: (f1 ++ .bz L :: f2); simp)
 -- the assignments
 let Ea : Ent := ⟨E.G, E.S, E.w, [], E.inv, ca, hk.ll, E.tr, Nat.le_trans hk.bl (Nat.le_refl _), fun g hg' => (by
  rcases List.mem_cons.1 hg' with rfl | hg'
  ·trivial
  rcases List.mem_cons.1 hg' with rfl | hg'
  ·trivial
  ·exact E.hW g hg'), w.heap.size, hgr.size⟩
 let Eb : Ent := ⟨E.G, E.S, E.w, [], E.inv, cb, hk.ll, E.tr, Nat.le_trans hk.bl (Nat.le_refl _), fun g hg' => (by
  rcases List.mem_cons.1 hg' with rfl | hg'
  ·trivial
  rcases List.mem_cons.1 hg' with rfl | hg'
  ·trivial
  ·rcases List.mem_append.1 hg' with hg' | hg'
   ·exact E.hW g (by rw [hfs]; simp [hg'])
   ·rcases List.mem_cons.1 hg' with rfl | hg'
    ·exact hab
    ·exact E.hW g (by rw [hfs]; simp [hg'])), w.heap.size, hgr.size⟩
 obtain ⟨hps1, hps2⟩ := setPs_rel ps xs us.toList a0 L.r.tmps husl (fun i x u h1 h2 => husv i x u h1 (by simpa using h2)) htz (fun i z u h1 h2 => (htv i z u h1 h2).mono hG0)
 have hAa : At Ea (setPs a0 ps xs) S { tmps := (ps.zip us.toList).foldl (fun t (p, v) => t.setIfInBounds p v) L.r.tmps, defers := [] } w := by
  refine ⟨G, hI, ⟨hps1, hps2⟩, hg, hk, ⟨⟨[], rfl, .nil, fun _ h => (by cases h)⟩, fun g hg' => ?_, Nat.le_refl _, Nat.le_refl _, Nat.le_refl _⟩⟩
  rcases List.mem_cons.1 hg' with rfl | hg'
  ·exact ⟨.refl G, hdomA, hdomT⟩
  rcases List.mem_cons.1 hg' with rfl | hg'
  ·exact hd.d
  ·exact hd.x g hg'
 refine roundIn_of_wpIn (md.fn _) ?_
 have hz : (L.r.params.zip us).foldl (fun (t : Array Value) (p : Tmp × Value) => t.setIfInBounds p.1 p.2) L.r.tmps = (ps.zip us.toList).foldl (fun t p => t.setIfInBounds p.1 p.2) L.r.tmps := by
  rw [← hL.ps]; exact zip_foldl L.r.params us L.r.tmps
 have hfr : md.F.inRound L.l = Fence.wide.inRound L.l := by cases md <;> rfl
 rw [hfr]
 have hasg := hEx Ea rfl L.r.assign hL.x _ w hAa
 simp only [cwp] at hasg
 change Code.wpIn (Fence.wide.inRound L.l) (md.n - 1) P L.r.assign _ { tmps := (L.r.params.zip us).foldl (fun (t : Array Value) (p : Tmp × Value) => t.setIfInBounds p.1 p.2) L.r.tmps, defers := [] } w
 rw [hz]
 refine wpIn_mono hasg ?_
 rintro e act1 w1 ⟨z, a1, S1, rfl, ⟨rfl, hfl1, hbody⟩, G1, hI1, hR1, hg1, hk1', hd1⟩
 have hf1 : ∀ g ∈ ca.fs, g.ok G1 S1 w1 := hd1.x
 obtain ⟨hn1, k1, hk11, hk12⟩ := hf1 (.lp L) (List.mem_cons_of_mem _ (List.mem_cons_of_mem _ hmem))
 rw [hfl1] at hk11
 cases hk11
 have hk12 : w1.heap[L.l]? = some (.loop { L.r with state := .ready, pending := none }) := hk12
 refine ⟨w1.putObj L.l L.busy, run_beginRound hk12 rfl, ?_⟩
 have hlt1 : L.l < w1.heap.size := (Array.getElem?_eq_some_iff.1 hk12).1
 have hAb : At Eb a1 S1 act1 (w1.putObj L.l L.busy) := by
  refine ⟨G1, hI1.putObj _ hk12 rfl, hR1, hg1.putObj _ hab, hk1', ⟨?_, fun g hg' => ?_, hd1.m, ?_, ?_⟩⟩
  ·refine DefOk.mono (Fact.other (f := .df w.heap.size w1.heap.size [] act1.defers) (S := S1) (G := G1) L.busy hd1.d hk12 trivial) ?_
   simp [World.putObj]
  ·rcases List.mem_cons.1 hg' with rfl | hg'
   ·exact hf1 _ (List.mem_cons_self ..)
   rcases List.mem_cons.1 hg' with rfl | hg'
   ·exact Fact.other L.busy (hf1 _ (List.mem_cons_of_mem _ (List.mem_cons_self ..))) hk12 trivial
   have hoth : ∀ g ∈ f1 ++ f2, g.ok G1 S1 (w1.putObj L.l L.busy) := fun g hg' => by
    have hgE : g ∈ E.c.fs := by
     rw [hfs]
     rcases List.mem_append.1 hg' with h | h <;> simp [h]
    refine Fact.other L.busy (hf1 g (List.mem_cons_of_mem _ (List.mem_cons_of_mem _ hgE))) hk12 ?_
    have := hfree g hg'
    cases g <;> first | trivial | exact this.1
   rcases List.mem_append.1 hg' with hg' | hg'
   ·exact hoth g (List.mem_append_left _ hg')
   ·rcases List.mem_cons.1 hg' with rfl | hg'
    ·exact ⟨hn1, hfl1, World.putObj_heap_same hlt1⟩
    ·exact hoth g (List.mem_append_right _ hg')
  ·show w.heap.size ≤ _
   have := hd1.k
   simp only [World.putObj, Array.size_setIfInBounds]
   exact this
  ·have := hd1.b
   simp only [World.putObj, Array.size_setIfInBounds]
   exact this
 have hbod := hbody Eb rfl L.r.body hL.y act1 _ hAb
 simp only [cwp] at hbod
 refine wpIn_mono hbod ?_
 rintro e act2 w3 ⟨z, a2, S2, rfl, hz, G2, hI2, hR2, hg2, hk2', hd2⟩
 have hf2 : ∀ g ∈ cb.fs, g.ok G2 S2 w3 := hd2.x
 obtain ⟨hn2, hfl2, hbz⟩ := hf2 (.bz L) (by show _ ∈ _ :: _ :: (f1 ++ .bz L :: f2); simp)
 have hle2 : G.le G2 := (hf2 _ (List.mem_cons_self ..)).1
 have hdf2 : DefOk E.b w.heap.size E.d act.defers w3 := hf2 _ (List.mem_cons_of_mem _ (List.mem_cons_self ..))
 have hlt3 : L.l < w3.heap.size := (Array.getElem?_eq_some_iff.1 hbz).1
 have htl : L.t < S2.lv.length := (List.getElem?_eq_some_iff.1 hfl2).1
 have fin : ∀ (k : Nat) (b : Bool), At E (putA a x.dst (.bool b)) ⟨S2.bx, S2.lv.set L.t (k, 0)⟩ (act.put o.dst (.bool b)) (w3.putObj L.l (L.obj k)) := by
  intro k b
  refine ⟨G2, (hI2.putObj _ hbz rfl).flag _ hn2, h2 ▸ (hR.mono hle2).put x.dst (.bool b), (hg2.putObj _ hab).flag _ hn2, ⟨hk2'.bl, by simpa using hk2'.ll, hk2'.al, hk2'.tb, fun t ht h0 => (E.tbN ht h0).elim⟩, ⟨?_, fun g hg' => ?_, ?_, ?_, ?_⟩⟩
  ·have hd' : DefOk E.b w.heap.size E.d act.defers (w3.putObj L.l (L.obj k)) := Fact.other (f := .df E.b w.heap.size E.d act.defers) (S := S2) (G := G2) (L.obj k) hdf2 hbz trivial
   have hsz : w.heap.size ≤ (w3.putObj L.l (L.obj k)).heap.size := by
    have := hd2.b
    simp only [World.putObj, Array.size_setIfInBounds]
    exact this
   cases o.dst <;> exact hd'.mono hsz
  ·have hoth : ∀ g ∈ f1 ++ f2, g.ok G2 ⟨S2.bx, S2.lv.set L.t (k, 0)⟩ (w3.putObj L.l (L.obj k)) := fun g hg' => by
    have hin : g ∈ cb.fs := by
     show g ∈ _ :: _ :: (f1 ++ .bz L :: f2)
     rcases List.mem_append.1 hg' with h | h <;> simp [h]
    have hfr := hfree g hg'
    refine Fact.flag _ (Fact.other (L.obj k) (hf2 g hin) hbz ?_) ?_
    ·cases g <;> first | trivial | exact hfr.1
    ·cases g <;> first | trivial | exact hfr.2
   rw [hfs] at hg'
   rcases List.mem_append.1 hg' with hg' | hg'
   ·exact hoth g (List.mem_append_left _ hg')
   ·rcases List.mem_cons.1 hg' with rfl | hg'
    ·exact ⟨hn2, k, List.getElem?_set_self htl, World.putObj_heap_same hlt3⟩
    ·exact hoth g (List.mem_append_right _ hg')
  ·show E.c.m ≤ (S2.lv.set L.t (k, 0)).length
   rw [List.length_set]
   exact Nat.le_trans hd.m hd2.m
  ·have := hd2.k
   simp only [World.putObj, Array.size_setIfInBounds]
   exact Nat.le_trans hd.k this
  ·have := hd2.b
   simp only [World.putObj, Array.size_setIfInBounds]
   exact Nat.le_trans hd.b this
 have hset0 : S2.lv.set L.t (0, 0) = S2.lv := by
  apply List.ext_getElem?
  intro i
  rw [List.getElem?_set]
  split
  ·rename_i hti
   subst hti
   first | rw [if_pos htl, hfl2] | rw [hfl2]
  ·rfl
 have hdef' : ∀ o ∈ l', ∀ d, o.op ≠ .defer d := fun o ho => hdef o (List.mem_cons_of_mem _ ho)
 cases z with
 | norm =>
  refine ⟨.bool true, w3.putObj L.l (L.obj 0), run_endRound (r := { L.r with state := .busy, pending := none }) none hbz, ?_⟩
  have hA3 := fin 0 true
  rw [hset0] at hA3
  exact hz E rfl ops l' Q hl' hdef' hq _ _ hA3
 | ret =>
  refine ⟨.bool false, w3.putObj L.l (L.obj 1), run_endRound (r := { L.r with state := .busy, pending := none }) (some .ret) hbz, ?_⟩
  exact hz E rfl ops l' Q hl' hdef' hq _ _ (fin 1 false)
 | ex i =>
  refine ⟨.bool false, w3.putObj L.l (L.obj (i + 2)), run_endRound (r := { L.r with state := .busy, pending := none }) (some (.exit i)) hbz, ?_⟩
  exact hz E rfl ops l' Q hl' hdef' hq _ _ (fin (i + 2) false)
end rules
end Go.Proofs.YtkchfjblcfbajaaDoor
end
section
namespace Go.Proofs.YtkchfjblcfbajaaDoor
open Go.RowKit

theorem compFn_inv {P : Program} {f : FuncId} {F : AFn} (hF : compFn P f = some F) : ∃ fn c, P.funcs[f]? = some fn ∧ fn.body = some c ∧ fn.results.toList.mapM (compRes P) = some F.res ∧ compCode P c = some F.code ∧ F.ntmps = fn.ntmps ∧ ∀ us w, (callFunc f us).run P w = .ok (.enter f us) w := by
 unfold compFn at hF
 split at hF
 ·rename_i fn hf
  split at hF
  ·rename_i c rs hb hrs
   split at hF
   ·rename_i ac hac
    split at hF
    ·cases hF
    ·rename_i hname
     cases hF
     refine ⟨fn, c, hf, hb, hrs, hac, rfl, fun us w => ?_⟩
     simp only [callFunc, program, Sem.run, hf, Sem.run_bind, Result.andThen_ok, hname, hb]
     rfl
   ·cases hF
  ·cases hF
 ·cases hF
theorem start_rel {G : Gh} {F : AFn} {xs : List AV} {us : Array Value} {n : Nat} (hn : F.ntmps = n) (hvs : VRs G xs us) : Rel G (start F xs) { tmps := us ++ Array.replicate (n - us.size) undef, defers := [] } := by
 subst hn
 refine ⟨by simp [start, hvs.1], fun i y u hy hu => ?_⟩
 simp only [start] at hy
 simp only at hu
 rw [List.getElem?_append] at hy
 rw [Array.getElem?_append, hvs.1] at hu
 split at hy
 ·rename_i hlt
  rw [if_pos hlt] at hu
  exact hvs.2 i y u hy hu
 ·rename_i hlt
  rw [if_neg hlt] at hu
  have e1 := List.eq_of_mem_replicate (List.mem_of_getElem? hy)
  have e2 : u ∈ (Array.replicate (F.ntmps - xs.length) undef) := Array.mem_of_getElem? hu
  have e3 := (Array.mem_replicate.1 e2).2
  rw [e1, e3]
  exact .undef G

def exitOf : Nat → AEx
 | 0 => .norm
 | 1 => .ret
 | i + 2 => .ex i
theorem jump_wpIn {F : Fence} {n : Nat} {P : Program} {Q : Exit → Act → World → Prop} {a : Act} {w : World} (k : Nat) (h : Q (exitOf (k + 1)).out a w) : (jumpOf k).wpIn F n P Q a w := by
 cases k with
 | zero => exact wpIn_ret h
 | succ i => exact wpIn_exit h

section rules
variable {c : Cx} {md : Md} {P : Program} {a : List AV} {S : St} {Q : AEx → List AV → St → Prop} {R : List AV → St → Prop}

theorem Ex.rangeF {g : AOpd} {ps : List Nat} {x y : ACode} (f : FuncId) (caps : List AV) (F : AFn) (hg0 : evd a g = .fn f [] caps) (hF : compFn P f = some F) (hres : F.res = []) (hn : c.n ≤ S.bx.length) (hmd : match md with | .plain => True | .round l _ => ∃ L, Fact.bz L ∈ c.fs ∧ L.l = l)
  (h : ∀ (c1 : Cx) (L : Lp), c1.n = S.bx.length → c1.m = S.lv.length + 1 → L.t = S.lv.length → LpOk P c1 L a ps x y → (∀ L' a' ps' x' y', LpOk P c L' a' ps' x' y' → L'.l ≠ L.l ∧ LpOk P c1 L' a' ps' x' y') →
    Ex c1 .plain P F.code (start F (.yld L.l S.lv.length :: caps)) ⟨S.bx, S.lv ++ [(0, 0)]⟩ fun z a' S' => (z = .norm ∨ z = .ret) ∧ ∃ k, S'.lv[S.lv.length]? = some (k, 0) ∧ Q (exitOf k) a S') : Ex c md P (.rangeF g ps x y) a S Q := by
 intro E hE code hco act w hA
 subst hE
 obtain ⟨g', ps', x', y', rfl, hg', hps, hx, hy⟩ := compCode_rangeF hco
 obtain ⟨G, hI, hR, hgr, hk, hd⟩ := hA
 have hv := (hR.opd hI.gl) g' g hg'
 rw [hg0] at hv
 obtain ⟨vs, us, hval, hvp, hvc⟩ := hv.inv_fn
 have hvs0 : vs = #[] := Array.eq_empty_of_size_eq_zero hvp.1
 subst hvs0
 obtain ⟨fn, c1, hf, hb, hrs, hac, hnt, hen⟩ := compFn_inv hF
 refine cwp_of_in (wpIn_rangeFunc ?_)
 intro fn0 hfn0
 obtain ⟨l, mk, dD, W1, hent, hrec, hwl, hI1, hg1, hmk⟩ : ∃ (l : Nat) (mk : List Nat) (dD : Nat) (W1 : World), (Instr.enterLoop fn0 act.tmps ps' x' y' md.F.round).run P w = .ok (l, mk.map markOf) W1 ∧ W1.heap[l]? = some (.loop { state := .ready, pending := none, fn := fn0, tmps := act.tmps, params := ps', assign := x', body := y', defers := dD }) ∧ w.heap.size ≤ l ∧ Inv G S W1 ∧ Gro G S w G S W1 ∧ (mk.Nodup ∧ ∀ D ∈ mk, w.heap.size ≤ D ∧ W1.heap[D]? = some (.deferred (some []))) := by
  cases md with
  | plain =>
   refine ⟨w.heap.size + 1, [w.heap.size], w.heap.size, _, run_enterLoop_outer fn0 act.tmps ps' x' y', ?_, by omega, (hI.allocO _).allocO _, (Gro.allocO G S w _).trans (Gro.allocO G S _ _), by simp, fun D hD => ?_⟩
   ·have := World.alloc_heap_new (w.alloc (.deferred (some []))) (.loop { state := .ready, pending := none, fn := fn0, tmps := act.tmps, params := ps', assign := x', body := y', defers := w.heap.size })
    rwa [World.size_alloc] at this
   ·have hD : D = w.heap.size := by simpa using hD
    subst hD
    exact ⟨Nat.le_refl _, (Below.heap_alloc _ _ _ (by simp)).trans (World.alloc_heap_new w _)⟩
  | round l0 n0 =>
   obtain ⟨L0, hL0, rfl⟩ := hmd
   obtain ⟨_, _, hbz⟩ := hd.x _ hL0
   exact ⟨w.heap.size, [], _, _, run_enterLoop_inner hbz fn0 act.tmps ps' x' y', World.alloc_heap_new w _, Nat.le_refl _, hI.allocO _, Gro.allocO G S w _, .nil, fun D hD => by cases hD⟩
 obtain ⟨r, hr⟩ : ∃ r : Loop, r = { state := .ready, pending := none, fn := fn0, tmps := act.tmps, params := ps', assign := x', body := y', defers := dD } := ⟨_, rfl⟩
 rw [← hr] at hrec
 have hlW : l < W1.heap.size := (Array.getElem?_eq_some_iff.1 hrec).1
 have hrt : r.tmps = act.tmps := by rw [hr]
 let L : Lp := ⟨l, S.lv.length, r⟩
 have hobj0 : L.obj 0 = .loop r := by rw [hr]; show Obj.loop _ = _; simp only [L, hr]
 have hdW : DefOk E.b W1.heap.size E.d (mk.map markOf ++ act.defers) W1 := by
  obtain ⟨Ds, h1, h2, h3⟩ := (hd.d.oth hg1.oth)
  refine ⟨mk ++ Ds, by rw [h1, List.map_append, List.append_assoc], List.nodup_append.2 ⟨hmk.1, h2, fun D hD D' hD' e => ?_⟩, fun D hD => ?_⟩
  ·subst e
   have := (hmk.2 D hD).1
   have := (h3 D hD').1.2
   omega
  ·rcases List.mem_append.1 hD with hD | hD
   ·exact ⟨⟨Nat.le_trans hd.b (hmk.2 D hD).1, (Array.getElem?_eq_some_iff.1 (hmk.2 D hD).2).1⟩, (hmk.2 D hD).2⟩
   ·exact ⟨⟨(h3 D hD).1.1, Nat.lt_of_lt_of_le (h3 D hD).1.2 hg1.size⟩, (h3 D hD).2⟩
 have hbel : ∀ f' ∈ E.c.fs, f'.below l := fun f' hf' => (E.c.hk f' hf').mono (Nat.le_trans hd.k hwl)
 let cc : Cx := ⟨S.bx.length, S.lv.length + 1, W1.heap.size, .le G S.bx.length S.lv.length :: .df E.b W1.heap.size E.d (mk.map markOf ++ act.defers) :: .lp L :: E.c.fs, fun f' hf' => (by
  rcases List.mem_cons.1 hf' with rfl | hf'
  ·exact ⟨Nat.le_refl _, Nat.le_succ _⟩
  rcases List.mem_cons.1 hf' with rfl | hf'
  ·trivial
  rcases List.mem_cons.1 hf' with rfl | hf'
  ·exact Nat.lt_succ_self _
  ·exact (E.c.hw f' hf').mono hn (Nat.le_succ_of_le hd.m)), fun f' hf' => (by
  rcases List.mem_cons.1 hf' with rfl | hf'
  ·trivial
  rcases List.mem_cons.1 hf' with rfl | hf'
  ·exact Nat.le_refl _
  rcases List.mem_cons.1 hf' with rfl | hf'
  ·exact hlW
  ·exact (hbel f' hf').mono (Nat.le_of_lt hlW))⟩
 have hfree : ∀ f' ∈ E.c.fs, f'.free l S.lv.length := fun f' hf' => by
  have h1 := hbel f' hf'
  have h2 := E.c.hw f' hf'
  have h3 := hd.m
  cases f' with
  | lp L' => exact ⟨Nat.ne_of_lt h1, Nat.ne_of_lt (Nat.lt_of_lt_of_le h2 h3)⟩
  | bz L' => exact ⟨Nat.ne_of_lt h1, Nat.ne_of_lt (Nat.lt_of_lt_of_le h2 h3)⟩
  | _ => trivial
 have hLok : LpOk P cc L a ps x y := by
  refine ⟨⟨[.le G S.bx.length S.lv.length, .df E.b W1.heap.size E.d (mk.map markOf ++ act.defers)], E.c.fs, rfl, fun f' hf' => ?_⟩, ⟨G, S.bx.length, S.lv.length, List.mem_cons_self .., by show r.tmps.size = _; rw [hrt]; exact hR.size, fun i z u hz hu => ?_⟩, by show r.params.toList = ps; rw [hr]; exact hps, by show compCode P r.assign = _; rw [hr]; exact hx, by show compCode P r.body = _; rw [hr]; exact hy⟩
  ·rcases List.mem_append.1 hf' with hf' | hf'
   ·simp only [List.mem_cons, List.not_mem_nil, or_false] at hf'
    rcases hf' with rfl | rfl <;> trivial
   ·exact hfree f' hf'
  ·have hu : r.tmps[i]? = some u := hu
   rw [hrt] at hu
   exact hR.slot i z u hz hu
 have hup : ∀ L' a' ps' x' y', LpOk P E.c L' a' ps' x' y' → L'.l ≠ L.l ∧ LpOk P cc L' a' ps' x' y' := by
  intro L' a' ps' x' y' hL'
  obtain ⟨g1, g2, hgs, hgf⟩ := hL'.fs
  obtain ⟨G', n', m', hle', h3, h4⟩ := hL'.rel
  have hin : Fact.lp L' ∈ E.c.fs := by rw [hgs]; simp
  have hfr := hfree _ hin
  refine ⟨hfr.1, ⟨.le G S.bx.length S.lv.length :: .df E.b W1.heap.size E.d (mk.map markOf ++ act.defers) :: .lp L :: g1, g2, by show _ :: _ :: _ :: E.c.fs = _; rw [hgs]; rfl, fun f' hf' => ?_⟩, ⟨G', n', m', List.mem_cons_of_mem _ (List.mem_cons_of_mem _ (List.mem_cons_of_mem _ hle')), h3, h4⟩, hL'.ps, hL'.x, hL'.y⟩
  rcases List.mem_cons.1 hf' with rfl | hf'
  ·trivial
  rcases List.mem_cons.1 hf' with rfl | hf'
  ·trivial
  rcases List.mem_cons.1 hf' with rfl | hf'
  ·exact ⟨fun e => hfr.1 e.symm, fun e => hfr.2 e.symm⟩
  ·exact hgf f' hf'
 have hEx := h cc L rfl rfl rfl hLok hup
 let E1 : Ent := ⟨E.G, E.S, E.w, [], E.inv, cc, by show _ ≤ S.lv.length + 1; exact Nat.le_succ_of_le hk.ll, E.tr, hk.bl, fun f' hf' => (by
  rcases List.mem_cons.1 hf' with rfl | hf'
  ·trivial
  rcases List.mem_cons.1 hf' with rfl | hf'
  ·trivial
  rcases List.mem_cons.1 hf' with rfl | hf'
  ·exact Nat.le_trans hgr.size hwl
  ·exact E.hW f' hf'), W1.heap.size, Nat.le_trans hgr.size hg1.size⟩
 obtain ⟨k1, k2, k3, k4⟩ := add_ahead hI1 [] [(0, 0)]
 rw [List.append_nil] at k1 k2
 have hvrs : VRs G (.yld l S.lv.length :: caps) (#[.func (.yield l) #[] #[]] ++ us) := by
  refine ⟨by simp [hvc.1]; omega, fun i z u hz hu => ?_⟩
  cases i with
  | zero =>
   rw [Array.getElem?_append_left (by simp)] at hu
   simp at hz hu
   subst hz; subst hu
   exact .yld _ _
  | succ i =>
   rw [Array.getElem?_append_right (by simp)] at hu
   exact hvc.2 i z u (by simpa using hz) (by simpa using hu)
 have hA1 : At E1 (start F (.yld l S.lv.length :: caps)) ⟨S.bx, S.lv ++ [(0, 0)]⟩ { tmps := (#[Value.func (.yield l) #[] #[]] ++ us) ++ Array.replicate (fn.ntmps - (#[Value.func (.yield l) #[] #[]] ++ us).size) undef, defers := [] } W1 := by
  refine ⟨G, k1, start_rel hnt hvrs, (hgr.trans hg1).trans k2, ⟨hk.bl, by simp; exact Nat.le_succ_of_le hk.ll, hk.al, hk.tb, fun t ht h0 => (E.tbN ht h0).elim⟩, ⟨⟨[], rfl, .nil, fun _ h => (by cases h)⟩, fun f' hf' => ?_, by show S.lv.length + 1 ≤ _; simp, Nat.le_refl _, Nat.le_refl _⟩⟩
  rcases List.mem_cons.1 hf' with rfl | hf'
  ·exact ⟨.refl G, fun b B h => (hI.dal b B h).1, fun t k v h => by
    obtain ⟨m, s, h1, _⟩ := hI.dtb t k v h
    exact (List.getElem?_eq_some_iff.1 h1).1⟩
  rcases List.mem_cons.1 hf' with rfl | hf'
  ·exact hdW
  rcases List.mem_cons.1 hf' with rfl | hf'
  ·exact ⟨fun n => k4 _ n (Nat.le_refl _), 0, (by show (S.lv ++ [(0, 0)])[S.lv.length]? = some (0, 0); simp), by rw [hobj0]; exact hrec⟩
  ·exact Fact.step (Fact.step (hd.x f' hf') hg1 (.refl G S)) k2 ⟨Nat.le_refl _, by simp, fun _ _ h => h, fun _ _ h => h, fun t ht _ => List.getElem?_append_left ht⟩
 refine ⟨l, mk.map markOf, W1, { target := .fn (.func f) us, args := #[.func (.yield l) #[] #[]] }, W1, f, #[.func (.yield l) #[] #[]] ++ us, W1, hent, ?_, fun f' _ => md.fn f', ?_, fun hdp => md.depth hdp, ?_⟩
 ·simp only [resolve, hval]
  simp [go_sem]
 ·simp [invoke, go_sem, hen]
 refine callsIn_md md (calls_of_marks hf hb (wp_mono (hEx E1 rfl c1 hac _ W1 hA1) ?_))
 rintro e act' w' ⟨z, a', S', rfl, ⟨hz, k, hk1, hq⟩, G', hI', hR', hg', hk', hd'⟩
 have hfs : ∀ f' ∈ cc.fs, f'.ok G' S' w' := hd'.x
 obtain ⟨Ds, e1, e2, e3⟩ := hd'.d
 have e1 : act'.defers = Ds.map markOf := by rw [e1]; exact List.append_nil _
 have hI2 := hI'.shut e2 fun D hD => (e3 D hD).2
 have hg2 := hg'.shut fun D hD => Nat.le_trans E1.hb (e3 D hD).1.1
 have hrs0 : evRes a' S' F.res = some (.tup []) := by rw [hres]; rfl
 obtain ⟨u, hu, _⟩ := res_ok hI2 hR' hrs hrs0
 refine ⟨by rcases hz with rfl | rfl <;> simp [AEx.out], Ds, e1, e2, fun D hD => (e3 D hD).2, u, hu, ?_⟩
 -- the loop's end
 obtain ⟨hn3, k', hk2, hk3⟩ := hfs (.lp L) (by show _ ∈ _ :: _ :: _ :: E.c.fs; simp)
 have hk2 : S'.lv[S.lv.length]? = some (k', 0) := hk2
 rw [hk1] at hk2
 cases hk2
 have hlD : l ∉ Ds := fun hm => by
  have h1 := (e3 l hm).2
  have h2 : w'.heap[l]? = some (L.obj k) := hk3
  rw [h1] at h2
  cases k <;> cases h2
 have hk3' : (shutW w' Ds).heap[l]? = some (L.obj k) := (shut_heap.2.2.2.2 l hlD).trans hk3
 have hle : G.le G' := (hfs _ (List.mem_cons_self ..)).1
 have hdf : DefOk E.b W1.heap.size E.d (mk.map markOf ++ act.defers) w' := hfs _ (List.mem_cons_of_mem _ (List.mem_cons_self ..))
 have hsz2 : (shutW w' Ds).heap.size = w'.heap.size := shut_heap.1
 have hW1w : W1.heap.size ≤ w'.heap.size := hd'.b
 have fin : ∀ (o' o : Obj) (r' : Loop), o = .loop r' → (shutW w' Ds).heap[l]? = some o → At E a S' { act with defers := mk.map markOf ++ act.defers } ((shutW w' Ds).putObj l o') := by
  rintro o' o r' rfl ho
  refine ⟨G', hI2.putObj _ ho rfl, ⟨hR.size, fun i y u h1 h2 => (hR.slot i y u h1 h2).mono hle⟩, hg2.putObj _ (Nat.le_trans hgr.size hwl), ⟨hk'.bl, hk'.ll, hk'.al, hk'.tb, fun t ht h0 => (E.tbN ht h0).elim⟩, ⟨?_, fun f' hf' => ?_, ?_, ?_, ?_⟩⟩
  ·obtain ⟨Dc, d1, d2, d3⟩ := hdf
   refine ⟨Dc, d1, d2, fun D hD => ⟨⟨(d3 D hD).1.1, ?_⟩, ?_⟩⟩
   ·have := (d3 D hD).1.2
    simp only [World.putObj, Array.size_setIfInBounds, hsz2]
    omega
   ·have h4 := (d3 D hD).2
    have hnD : D ∉ Ds := fun hm => by
     have := (d3 D hD).1.2
     have : W1.heap.size ≤ D := (e3 D hm).1.1
     omega
    have h5 : (shutW w' Ds).heap[D]? = some (.deferred (some [])) := (shut_heap.2.2.2.2 D hnD).trans h4
    rw [World.putObj_heap_other]
    ·exact h5
    ·rintro rfl; rw [ho] at h5; cases h5
  ·-- what the activation keeps
   have hin : f'.ok G' S' w' := hfs f' (by show _ ∈ _ :: _ :: _ :: E.c.fs; simp [hf'])
   have hfr := hfree f' hf'
   have hbl := hbel f' hf'
   refine Fact.other o' (l := l) (r := r') ?_ ho (by cases f' <;> first | trivial | exact hfr.1)
   -- its own marks are shut
   cases f' with
   | le G0 n m => exact hin
   | lp L' =>
    refine ⟨hin.1, hin.2.imp fun kk hkk => ⟨hkk.1, (shut_heap.2.2.2.2 _ fun hm => ?_).trans hkk.2⟩⟩
    have h1 := (e3 _ hm).2
    rw [hkk.2] at h1
    cases kk <;> cases h1
   | bz L' =>
    refine ⟨hin.1, hin.2.1, (shut_heap.2.2.2.2 _ fun hm => ?_).trans hin.2.2⟩
    have h1 := (e3 _ hm).2
    rw [hin.2.2] at h1
    cases h1
   | df n u' d l' =>
    obtain ⟨Dc, d1, d2, d3⟩ := hin
    refine ⟨Dc, d1, d2, fun D hD => ⟨(d3 D hD).1, ?_⟩⟩
    refine (shut_heap.2.2.2.2 D fun hm => ?_).trans (d3 D hD).2
    have h1 : W1.heap.size ≤ D := (e3 D hm).1.1
    have h2 := (d3 D hD).1.2
    have h3 : u' ≤ E.c.k := E.c.hk _ hf'
    have h4 := hd.k
    have h5 := hg1.size
    omega
  ·exact Nat.le_trans hd.m (Nat.le_trans (Nat.le_succ _) hd'.m)
  ·have := hd.k
   simp only [World.putObj, Array.size_setIfInBounds, hsz2]
   have := hg1.size
   omega
  ·have := hd.b
   simp only [World.putObj, Array.size_setIfInBounds, hsz2]
   have := hg1.size
   omega
 cases k with
 | zero =>
  refine ⟨none, _, run_endLoop (r := { L.r with state := .ready, pending := none }) hk3' (by simp), ?_⟩
  exact ⟨.norm, a, S', rfl, hq, fin _ _ _ rfl hk3'⟩
 | succ k =>
  refine ⟨some (jumpOf k), _, run_endLoop (r := { L.r with state := .done, pending := some (jumpOf k) }) hk3' (by simp), ?_⟩
  exact jump_wpIn k ⟨exitOf (k + 1), a, S', rfl, hq, fin _ _ _ rfl hk3'⟩
end rules
end Go.Proofs.YtkchfjblcfbajaaDoor
end
section
namespace Go.Proofs.YtkchfjblcfbajaaDoor
open Go.RowKit

theorem leC {c : Cx} {k n : Nat} (h : c.n = k) (hk : k ≤ n) : c.n ≤ n := h ▸ hk
theorem sig0 {c : Cx} {σ : List Nat} (k : Nat) (hk : c.m = k) (h : σ.take k = List.range k) : ∀ t, t < c.m → σ[t]? = some t := fun t ht => by
 rw [hk] at ht
 have h1 : (σ.take k)[t]? = σ[t]? := List.getElem?_take_of_lt ht
 rw [← h1, h, List.getElem?_range ht]

section rules
variable {c : Cx} {md : Md} {P : Program} {a : List AV} {S : St} {Q : AEx → List AV → St → Prop} {R : List AV → St → Prop}

theorem ExI.op {X : Clr} (hX : ClrOk P X) {x : AOper} {xs : List AOper} {v : AV} {S1 : St} (hw : wantedA x.guard a = some true) (hv : evOp X x.op a S = some (v, S1)) (h : ExI c md P xs (putA a x.dst v) S1 R) : ExI c md P (x :: xs) a S R :=
 ExI.pre (xs := [x]) (ys := xs) (ExO.op hX hw hv (ExO.nil h))
theorem ExI.skip {x : AOper} {xs : List AOper} (hw : wantedA x.guard a = some false) (h : ExI c md P xs (putA a x.dst (.tup [])) S R) : ExI c md P (x :: xs) a S R :=
 ExI.pre (xs := [x]) (ys := xs) (ExO.skip hw (ExO.nil h))
theorem ExI.forget {a2 : List AV} {S2 : St} {xs : List AOper} (hf : Forgets c a S a2 S2) (h : ExI c md P xs a2 S2 R) : ExI c md P xs a S R := fun E hE ops l Q hl hd hq act w hA => h E hE ops l Q hl hd hq act w (hf E hE act w hA)
theorem evHI_ok {hs : List (Nat × Hint)} : ∀ (k i : Nat) {l : List AOper} {a a2 : List AV} {S S2 : St} {Fs : List Prop}, evH hs i k l a S = some (Fs, a2, S2) → AllP Fs → ExI c md P (l.drop k) a2 S2 R → ExI c md P l a S R
 | 0, i, l, a, a2, S, S2, Fs, h, _, hx => by
  cases l <;> (simp only [evH] at h; cases h; exact hx)
 | k + 1, i, [], a, a2, S, S2, Fs, h, _, hx => by simp [evH] at h
 | k + 1, i, x :: l, a, a2, S, S2, Fs, h, hF, hx => by
  simp only [evH] at h
  split at h
  ·rename_i hw
   split at h
   ·rename_i F v S1 hd
    split at h
    ·rename_i Fs1 a3 S3 hr
     cases h
     refine ExI.op (noClr_ok P) hw (doH_ok hd ?_) (evHI_ok k (i + 1) hr ?_ hx)
     ·cases F with
      | none => trivial
      | some F => exact hF.1
     ·cases F with
      | none => exact hF
      | some F => exact hF.2
    ·cases h
   ·cases h
  ·rename_i hw
   exact ExI.skip hw (evHI_ok k (i + 1) h hF hx)
  ·cases h
theorem runI {l : List AOper} (k : Nat) (hs : List (Nat × Hint)) (live : List Nat) (Fs : List Prop) (a2 : List AV) (S2 : St) (h : (evH hs 0 k l a S).map (fun p => (p.1, keepB 0 live p.2.1, p.2.2)) = some (Fs, a2, S2)) (hF : AllP Fs) (hx : ExI c md P (l.drop k) a2 S2 R) : ExI c md P l a S R := by
 cases he : evH hs 0 k l a S with
 | none => rw [he] at h; cases h
 | some p =>
  obtain ⟨Fs1, a1, S1⟩ := p
  rw [he] at h
  simp only [Option.map_some, Option.some.injEq, Prod.mk.injEq] at h
  obtain ⟨rfl, rfl, rfl⟩ := h
  exact evHI_ok k 0 he hF (ExI.forget (forgetK live) hx)
theorem ExI.one {x : AOper} {xs : List AOper} (h : ExO c P [x] a S fun a1 S1 => ExI c md P xs a1 S1 R) : ExI c md P (x :: xs) a S R := ExI.pre (xs := [x]) (ys := xs) h

theorem ExO.inlC {x : AOper} {l : List AOper} (f : FuncId) (xs : List AV) (F : AFn) (hF : compFn P f = some F) (hn : c.n ≤ S.bx.length) (hw : wantedA x.guard a = some true) (hv : aop x.op (evd a) S = some (.call f xs))
  (h : ∀ c1 : Cx, c1.n = S.bx.length → c1.m = S.lv.length → (∀ L' a' ps' x' y', LpOk P c L' a' ps' x' y' → LpOk P c1 L' a' ps' x' y') →
    Ex c1 .plain P F.code (start F xs) S fun z a' S' => (z = .norm ∨ z = .ret) ∧ ∃ v, evRes a' S' F.res = some v ∧ ExO c P l (putA a x.dst v) S' R) : ExO c P (x :: l) a S R := by
 intro E hE ops l0 Q hco hq act w hA
 subst hE
 obtain ⟨o, l', rfl, hx, hl'⟩ := mapM_cons_inv hco
 obtain ⟨h1, h2, _⟩ := compOper_ok hx
 obtain ⟨G, hI, hR, hgr, hk, hd⟩ := hA
 obtain ⟨fn, cc1, hf, hb, hrs, hac, hnt, hen⟩ := compFn_inv hF
 simp only [wpList]
 rw [if_pos (wantedA_ok hx hR hw)]
 refine .inl ?_
 unfold Oper.wp
 have hs := step_ok h1 (fun _ => rfl) (hR.opd hI.gl) hI hv
 obtain ⟨us, hrun, hvs⟩ := hs
 rw [hrun, hen]
 simp only [Oper.upon_enter]
 let cc : Cx := ⟨S.bx.length, S.lv.length, w.heap.size, .le G S.bx.length S.lv.length :: .df E.b w.heap.size E.d act.defers :: E.c.fs, fun f' hf' => (by
  rcases List.mem_cons.1 hf' with rfl | hf'
  ·exact ⟨Nat.le_refl _, Nat.le_refl _⟩
  rcases List.mem_cons.1 hf' with rfl | hf'
  ·trivial
  ·exact (E.c.hw f' hf').mono hn hd.m), fun f' hf' => (by
  rcases List.mem_cons.1 hf' with rfl | hf'
  ·trivial
  rcases List.mem_cons.1 hf' with rfl | hf'
  ·exact Nat.le_refl _
  ·exact (E.c.hk f' hf').mono hd.k)⟩
 have hup : ∀ L' a' ps' x' y', LpOk P E.c L' a' ps' x' y' → LpOk P cc L' a' ps' x' y' := by
  intro L' a' ps' x' y' hL'
  obtain ⟨g1, g2, hgs, hgf⟩ := hL'.fs
  obtain ⟨G', n', m', hle', h3, h4⟩ := hL'.rel
  refine ⟨⟨.le G S.bx.length S.lv.length :: .df E.b w.heap.size E.d act.defers :: g1, g2, by show _ :: _ :: E.c.fs = _; rw [hgs]; rfl, fun f' hf' => ?_⟩, ⟨G', n', m', List.mem_cons_of_mem _ (List.mem_cons_of_mem _ hle'), h3, h4⟩, hL'.ps, hL'.x, hL'.y⟩
  rcases List.mem_cons.1 hf' with rfl | hf'
  ·trivial
  rcases List.mem_cons.1 hf' with rfl | hf'
  ·trivial
  ·exact hgf f' hf'
 have hEx := h cc rfl rfl hup
 let E1 : Ent := ⟨E.G, E.S, E.w, [], E.inv, cc, hk.ll, E.tr, hk.bl, fun f' hf' => (by
  rcases List.mem_cons.1 hf' with rfl | hf'
  ·trivial
  rcases List.mem_cons.1 hf' with rfl | hf'
  ·trivial
  ·exact E.hW f' hf'), w.heap.size, hgr.size⟩
 have hA1 : At E1 (start F xs) S { tmps := us ++ Array.replicate (fn.ntmps - us.size) undef, defers := [] } w := by
  refine ⟨G, hI, start_rel hnt hvs, hgr, hk, ⟨⟨[], rfl, .nil, fun _ h => (by cases h)⟩, fun f' hf' => ?_, Nat.le_refl _, Nat.le_refl _, Nat.le_refl _⟩⟩
  rcases List.mem_cons.1 hf' with rfl | hf'
  ·exact ⟨.refl G, fun b B h => (hI.dal b B h).1, fun t k v h => by
    obtain ⟨m, s, h1, _⟩ := hI.dtb t k v h
    exact (List.getElem?_eq_some_iff.1 h1).1⟩
  rcases List.mem_cons.1 hf' with rfl | hf'
  ·exact hd.d
  ·exact hd.x f' hf'
 refine calls_of_marks hf hb (wp_mono (hEx E1 rfl cc1 hac _ w hA1) ?_)
 rintro e act' w' ⟨z, a', S', rfl, ⟨hz, v, hres, hrest⟩, G', hI', hR', hg', hk', hd'⟩
 have hfs : ∀ f' ∈ cc.fs, f'.ok G' S' w' := hd'.x
 obtain ⟨Ds, e1, e2, e3⟩ := hd'.d
 have e1 : act'.defers = Ds.map markOf := by rw [e1]; exact List.append_nil _
 have hI2 := hI'.shut e2 fun D hD => (e3 D hD).2
 have hg2 := hg'.shut fun D hD => Nat.le_trans E1.hb (e3 D hD).1.1
 obtain ⟨u, hu, hvr⟩ := res_ok hI2 hR' hrs hres
 refine ⟨by rcases hz with rfl | rfl <;> simp [AEx.out], Ds, e1, e2, fun D hD => (e3 D hD).2, u, hu, ?_⟩
 have hle : G.le G' := (hfs _ (List.mem_cons_self ..)).1
 have hdf : DefOk E.b w.heap.size E.d act.defers w' := hfs _ (List.mem_cons_of_mem _ (List.mem_cons_self ..))
 have hsz2 : (shutW w' Ds).heap.size = w'.heap.size := shut_heap.1
 have hww : w.heap.size ≤ w'.heap.size := hd'.b
 refine hrest E rfl ops l' Q hl' hq _ _ ⟨G', hI2, h2 ▸ (hR.mono hle).put x.dst hvr, hg2, ⟨hk'.bl, hk'.ll, hk'.al, hk'.tb, fun t ht h0 => (E.tbN ht h0).elim⟩, ⟨?_, fun f' hf' => ?_, Nat.le_trans hd.m hd'.m, ?_, ?_⟩⟩
 ·have hd2 : DefOk E.b (shutW w' Ds).heap.size E.d act.defers (shutW w' Ds) := by
   obtain ⟨Dc, d1, d2, d3⟩ := hdf
   refine ⟨Dc, d1, d2, fun D hD => ⟨⟨(d3 D hD).1.1, ?_⟩, ?_⟩⟩
   ·have := (d3 D hD).1.2
    omega
   ·refine (shut_heap.2.2.2.2 D fun hm => ?_).trans (d3 D hD).2
    have := (d3 D hD).1.2
    have : w.heap.size ≤ D := (e3 D hm).1.1
    omega
  cases o.dst <;> exact hd2
 ·have hin : f'.ok G' S' w' := hfs f' (by show _ ∈ _ :: _ :: E.c.fs; simp [hf'])
  cases f' with
  | le G0 n m => exact hin
  | lp L' =>
   refine ⟨hin.1, hin.2.imp fun kk hkk => ⟨hkk.1, (shut_heap.2.2.2.2 _ fun hm => ?_).trans hkk.2⟩⟩
   have h1 := (e3 _ hm).2
   rw [hkk.2] at h1
   cases kk <;> cases h1
  | bz L' =>
   refine ⟨hin.1, hin.2.1, (shut_heap.2.2.2.2 _ fun hm => ?_).trans hin.2.2⟩
   have h1 := (e3 _ hm).2
   rw [hin.2.2] at h1
   cases h1
  | df n u' d l' =>
   obtain ⟨Dc, d1, d2, d3⟩ := hin
   refine ⟨Dc, d1, d2, fun D hD => ⟨(d3 D hD).1, ?_⟩⟩
   refine (shut_heap.2.2.2.2 D fun hm => ?_).trans (d3 D hD).2
   have h1 : w.heap.size ≤ D := (e3 D hm).1.1
   have h2 := (d3 D hD).1.2
   have h3 : u' ≤ E.c.k := E.c.hk _ hf'
   have h4 := hd.k
   omega
 ·rw [hsz2]; exact Nat.le_trans hd.k hww
 ·rw [hsz2]; exact Nat.le_trans hd.b hww
theorem ExI.yieldT {L : Lp} {a0 : List AV} {ps : List Nat} {x0 y0 : ACode} (t0 : Nat) (ht : L.t = t0) (hL : LpOk P c L a0 ps x0 y0) {x : AOper} {l : List AOper} {f : AOpd} {args : List AOpd} {t : Nat} (xs : List AV) (hw : wantedA x.guard a = some true) (ho : x.op = .call f args) (hf : evd a f = .yld L.l t) (hxs : args.map (evd a) = xs) (hps : ps.length = xs.length) (hr : S.lv[t0]? = some (0, 0)) (hn : c.n ≤ S.bx.length)
  (h : ∀ (ca cb : Cx), ca.n = S.bx.length → cb.n = S.bx.length → ca.m = S.lv.length → cb.m = S.lv.length → (∀ L' a' ps' x' y', LpOk P c L' a' ps' x' y' → L'.l ≠ L.l → LpOk P ca L' a' ps' x' y' ∧ LpOk P cb L' a' ps' x' y') → Fact.bz L ∈ cb.fs →
    Ex ca (.round L.l (md.n - 1)) P x0 (setPs a0 ps xs) S fun z a1 S1 => z = .norm ∧ S1.lv[t0]? = some (0, 0) ∧
     Ex cb (.round L.l (md.n - 1)) P y0 a1 S1 fun z a2 S2 => match z with
      | .norm => ExI c md P l (putA a x.dst (.bool true)) S2 R
      | .ret => ExI c md P l (putA a x.dst (.bool false)) ⟨S2.bx, S2.lv.set t0 (1, 0)⟩ R
      | .ex i => ExI c md P l (putA a x.dst (.bool false)) ⟨S2.bx, S2.lv.set t0 (i + 2, 0)⟩ R) : ExI c md P (x :: l) a S R := by
 subst ht
 exact ExI.yield hL f args t xs hw ho hf hxs hps hr hn h
theorem Ex.rangeJ {g : AOpd} {ps : List Nat} {x y : ACode} (J : Nat → St → Prop) (f : FuncId) (caps : List AV) (F : AFn) (hg0 : evd a g = .fn f [] caps) (hF : compFn P f = some F) (hres : F.res = []) (hn : c.n ≤ S.bx.length) (hmd : match md with | .plain => True | .round l _ => ∃ L, Fact.bz L ∈ c.fs ∧ L.l = l) (a1 : List AV) (S1 : St) (he : ∀ l, start F (.yld l S.lv.length :: caps) = a1.set 0 (.yld l S.lv.length)) (hS : (⟨S.bx, S.lv ++ [(0, 0)]⟩ : St) = S1)
  (h : ∀ (c1 : Cx) (L : Lp), c1.n = S.bx.length → c1.m = S.lv.length + 1 → L.t = S.lv.length → LpOk P c1 L a ps x y → (∀ L' a' ps' x' y', LpOk P c L' a' ps' x' y' → L'.l ≠ L.l ∧ LpOk P c1 L' a' ps' x' y') →
    Ex c1 .plain P F.code (a1.set 0 (.yld L.l S.lv.length)) S1 fun z a' S' => ∃ a2 S2, Forgets c1 a' S' a2 S2 ∧ (z = .norm ∨ z = .ret) ∧ ∃ k, S2.lv[S.lv.length]? = some (k, 0) ∧ J k S2)
  (k : ∀ k S', J k S' → Q (exitOf k) a S') : Ex c md P (.rangeF g ps x y) a S Q := by
 refine Ex.rangeF f caps F hg0 hF hres hn hmd fun c1 L h1 h2 h3 h4 h5 => ?_
 rw [he, hS]
 refine Ex.postF ((h c1 L h1 h2 h3 h4 h5).mono ?_)
 rintro z a' S' ⟨a2, S2, hf, hz, j, hj, hJ⟩
 exact ⟨a2, S2, hf, hz, j, hj, k j S2 hJ⟩
theorem Ex.two {ca cb : Cx} {x y : ACode} {t0 : Nat} (J : AEx → St → Prop) (h : Ex ca md P x a S fun z a1 S1 => z = .norm ∧ S1.lv[t0]? = some (0, 0) ∧ Ex cb md P y a1 S1 fun z a2 S2 => ∃ a3 S3, Forgets cb a2 S2 a3 S3 ∧ J z S3) (k : ∀ z a2 S2, J z S2 → Q z a2 S2) : Ex ca md P x a S fun z a1 S1 => z = .norm ∧ S1.lv[t0]? = some (0, 0) ∧ Ex cb md P y a1 S1 Q := by
 refine h.mono ?_
 rintro z a1 S1 ⟨h1, h2, h3⟩
 refine ⟨h1, h2, Ex.postF (h3.mono ?_)⟩
 rintro z a2 S2 ⟨a3, S3, hf, hJ⟩
 exact ⟨a3, S3, hf, k z a3 S3 hJ⟩
theorem ExO.inlJ {x : AOper} {l : List AOper} (J : AV → St → Prop) (f : FuncId) (xs : List AV) (F : AFn) (hF : compFn P f = some F) (hn : c.n ≤ S.bx.length) (hw : wantedA x.guard a = some true) (hv : aop x.op (evd a) S = some (.call f xs)) (a1 : List AV) (he : start F xs = a1)
  (h : ∀ c1 : Cx, c1.n = S.bx.length → c1.m = S.lv.length → (∀ L' a' ps' x' y', LpOk P c L' a' ps' x' y' → LpOk P c1 L' a' ps' x' y') →
    Ex c1 .plain P F.code a1 S fun z a' S' => (z = .norm ∨ z = .ret) ∧ ∃ v, evRes a' S' F.res = some v ∧ J v S')
  (k : ∀ v S', J v S' → ExO c P l (putA a x.dst v) S' R) : ExO c P (x :: l) a S R := by
 subst he
 refine ExO.inlC f xs F hF hn hw hv fun c1 h1 h2 h3 => (h c1 h1 h2 h3).mono ?_
 rintro z a' S' ⟨h4, v, h5, h6⟩
 exact ⟨h4, v, h5, k v S' h6⟩
end rules
end Go.Proofs.YtkchfjblcfbajaaDoor
end
section
namespace Go.Proofs.YtkchfjblcfbajaaDoor
open Go.RowKit

structure TokT where
 f : FuncId
 gs : List AV
 pre : List AV
 els : List AV
 post : List AV
 n : Nat
 s : Nat
end Go.Proofs.YtkchfjblcfbajaaDoor
end
section
namespace Go.Proofs.YtkchfjblcfbajaaDoor
open Go.RowKit


theorem flat_scal {α : Type} {f : α → AV} (h : ∀ x, (f x).cells.all scal = true) (l : List α) : (flat (l.map f)).all scal = true := by
 rw [List.all_eq_true]
 intro c hc
 obtain ⟨e, he, hce⟩ := List.mem_flatMap.1 hc
 obtain ⟨x, _, rfl⟩ := List.mem_map.1 he
 exact List.all_eq_true.1 (h x) c hce
theorem scal_re {x : AV} (h : scal x = true) (n : Nat) (σ : List Nat) : re n σ x = some x := by
 cases x <;> first | (simp [scal] at h; done) | rfl | simp [re, re1, AV.clean]
theorem mapM_id {f : AV → Option AV} : ∀ (l : List AV), (∀ x ∈ l, f x = some x) → l.mapM f = some l
 | [], _ => rfl
 | x :: l, h => by
  rw [List.mapM_cons, h x (by simp), mapM_id l fun y hy => h y (by simp [hy])]
  rfl
theorem flat_re {α : Type} {f : α → AV} (h : ∀ x, (f x).cells.all scal = true) (n : Nat) (σ : List Nat) (l : List α) : (flat (l.map f)).mapM (re n σ) = some (flat (l.map f)) :=
 mapM_id _ fun x hx => scal_re (List.all_eq_true.1 (flat_scal h l) x hx) n σ
theorem flat_lenF {α : Type} {f : α → AV} {s : Nat} (hs : ∀ x, (f x).cells.length = s) (l : List α) : (flat (l.map f)).length = l.length * s := by
 rw [flat_len s, List.length_map]
 intro i e he
 rw [List.getElem?_map, Option.map_eq_some_iff] at he
 obtain ⟨x, _, rfl⟩ := he
 exact hs x
theorem map_cells {α : Type} {f : α → AV} {s : Nat} (hs : ∀ x, (f x).cells.length = s) (l : List α) : ∀ e ∈ l.map f, e.cells.length = s := by
 intro e he
 obtain ⟨x, _, rfl⟩ := List.mem_map.1 he
 exact hs x
theorem ldFl {α : Type} {f : α → AV} {s : Nat} (l : List α) (off j : Nat) (i : Int) (x : α) (c : AV) (hs : ∀ x, (f x).cells.length = s) (hx : l[i.toNat]? = some x) (hc : (f x).cells[j]? = some c) (ho : off = i.toNat * s + j) : takeCells (flat (l.map f)) off none = some c := by
 subst ho
 exact flat_at s (l.map f) i.toNat (f x) j c (fun k e he => map_cells hs l e (List.mem_of_getElem? he)) (by rw [List.getElem?_map, hx]; rfl) hc
theorem layAt_left : ∀ (vs cs ds : List AV) (o : Nat), o + vs.length ≤ cs.length → layAt (cs ++ ds) o vs = layAt cs o vs ++ ds
 | [], _, _, _, _ => rfl
 | v :: vs, cs, ds, o, h => by
  simp only [List.length_cons] at h
  simp only [layAt]
  rw [List.set_append_left _ _ (by omega)]
  exact layAt_left vs _ ds (o + 1) (by simp; omega)
theorem layAt_right : ∀ (vs cs ds : List AV) (o : Nat), layAt (cs ++ ds) (cs.length + o) vs = cs ++ layAt ds o vs
 | [], _, _, _ => rfl
 | v :: vs, cs, ds, o => by
  simp only [layAt]
  rw [List.set_append_right _ _ (by omega), Nat.add_sub_cancel_left, Nat.add_assoc]
  exact layAt_right vs cs _ (o + 1)
theorem lay_flat {s : Nat} : ∀ (els : List AV) (k j : Nat) (e e' : AV) (vs : List AV), (∀ e ∈ els, e.cells.length = s) → els[k]? = some e → j + vs.length ≤ s → layAt e.cells j vs = e'.cells → layAt (flat els) (k * s + j) vs = flat (els.set k e')
 | [], _, _, _, _, _, _, h, _, _ => by simp at h
 | e0 :: els, 0, j, e, e', vs, hs, h, hj, hl => by
  obtain rfl : e0 = e := by simpa using h
  simp only [flat, List.flatMap_cons, List.set_cons_zero, Nat.zero_mul, Nat.zero_add]
  rw [layAt_left _ _ _ _ (by rw [hs e0 (by simp)]; exact hj), hl]
 | e0 :: els, k + 1, j, e, e', vs, hs, h, hj, hl => by
  have h0 := hs e0 (by simp)
  have ih := lay_flat els k j e e' vs (fun e he => hs e (by simp [he])) (by simpa using h) hj hl
  simp only [flat, List.flatMap_cons, List.set_cons_succ] at ih ⊢
  rw [show (k + 1) * s + j = e0.cells.length + (k * s + j) by rw [h0, Nat.succ_mul]; omega, layAt_right, ih]
def setI {α : Type} (l : List α) (i : Int) (g : α → α) : Option (List α) := (l[i.toNat]?).map fun x => l.set i.toNat (g x)
theorem setI.of {α : Type} {l l' : List α} {i : Int} {g : α → α} (h : setI l i g = some l') : ∃ x, l[i.toNat]? = some x ∧ l' = l.set i.toNat (g x) := by
 simp only [setI, Option.map_eq_some_iff] at h
 obtain ⟨x, hx, rfl⟩ := h
 exact ⟨x, hx, rfl⟩
theorem stFl {α : Type} {f : α → AV} {s : Nat} {l l' : List α} (off j n : Nat) (i : Int) (g : α → α) (vs : List AV) (hs : ∀ x, (f x).cells.length = s) (h : setI l i g = some l') (hn : vs.length = n) (hjn : j + n ≤ s) (ho : off = i.toNat * s + j) (hl : ∀ x, layAt (f x).cells j vs = (f (g x)).cells) : off + n ≤ (flat (l.map f)).length ∧ layAt (flat (l.map f)) off vs = flat (l'.map f) := by
 obtain ⟨x, hx, rfl⟩ := setI.of h
 subst ho hn
 have hlt := (List.getElem?_eq_some_iff.1 hx).1
 refine ⟨?_, ?_⟩
 ·rw [flat_lenF hs]
  have : (i.toNat + 1) * s ≤ l.length * s := Nat.mul_le_mul_right _ hlt
  rw [Nat.succ_mul] at this
  omega
 ·rw [lay_flat (l.map f) i.toNat j (f x) (f (g x)) vs (map_cells hs l) (by rw [List.getElem?_map, hx]; rfl) hjn (hl x), List.map_set]
def lenI {α : Type} (l : List α) (n : Nat) : Option Unit := if l.length = n then some () else none
theorem lenI.of {α : Type} {l : List α} {n : Nat} {u : Unit} (h : lenI l n = some u) : l.length = n := by
 unfold lenI at h
 split at h
 ·assumption
 ·cases h

theorem chillL_at (f : AV → AV) : ∀ (k : Nat) (a : List AV) (v : AV), a[k]? = some v → chillL f (List.replicate k false ++ [true]) a = a.set k (f v)
 | 0, x :: a, v, h => by
  obtain rfl : x = v := by simpa using h
  simp [chillL]
 | k + 1, x :: a, v, h => by
  have ih := chillL_at f k a v (by simpa using h)
  simp only [List.replicate_succ, List.cons_append, chillL, List.set_cons_succ, ih]
  rfl
 | k, [], v, h => by simp at h
theorem chillB_at (f : AV → AV) (c : List Bool) : ∀ (k : Nat) (a : List (List AV)) (v : List AV), a[k]? = some v → chillB f (List.replicate k [] ++ [c]) a = a.set k (chillL f c v)
 | 0, x :: a, v, h => by
  obtain rfl : x = v := by simpa using h
  simp [chillB]
 | k + 1, x :: a, v, h => by
  have ih := chillB_at f c k a v (by simpa using h)
  simp only [List.replicate_succ, List.cons_append, chillB, List.set_cons_succ, ih]
  simp [chillL]
 | k, [], v, h => by simp at h
theorem chillX {α : Type} {f : α → AV} {n0 : Cx} {a : List AV} {S : St} (b b2 o n s : Nat) (l : List α) (cs : List AV) {u : Unit} (hn : lenI l n = some u) (hb : S.bx[b]? = some (flat (l.map f))) (hs : ∀ x, (f x).cells.length = s) (h2 : S.bx[b2]? = some cs) (hbb : b ≠ b2) (ho : cs[o]? = some (.ms b n s)) : Forgets n0 a S a ⟨(S.bx.set b []).set b2 (cs.set o (.sl (l.map f) none)), S.lv⟩ := by
 have := chill (n0 := n0) (a := a) (S := S) b n s (l.map f) [] (List.replicate b2 [] ++ [List.replicate o false ++ [true]]) hb (by rw [List.length_map]; exact lenI.of hn) (map_cells hs l)
 rw [chillB_at _ _ b2 _ cs (by rw [List.getElem?_set_ne hbb]; exact h2), chillL_at _ o cs _ ho] at this
 simpa [chillL, chillV] using this
theorem mapMC {α β : Type} {f : α → Option β} {x : α} {y : β} {l : List α} {ys : List β} (h : f x = some y) (t : l.mapM f = some ys) : (x :: l).mapM f = some (y :: ys) := by
 rw [List.mapM_cons, h, t]
 rfl
def mkI (n : Int) : Option Nat := if 0 ≤ n ∧ n ≤ 65536 then some n.toNat else none
theorem mkI.of {n : Int} {k : Nat} (h : mkI n = some k) : n = (k : Int) ∧ k ≤ 65536 := by
 unfold mkI at h
 split at h
 ·cases h; omega
 ·cases h
theorem repFl {α : Type} {f : α → AV} {z : List AV} (x : α) (hz : (f x).cells = z) : ∀ k, rep z k = flat ((List.replicate k x).map f)
 | 0 => rfl
 | k + 1 => by
  simp only [rep, List.replicate_succ, List.map_cons, flat, List.flatMap_cons, hz]
  congr 1
  exact repFl x hz k
theorem mk_of {α : Type} {f : α → AV} {z : List AV} {n : Int} {k : Nat} (x : α) (hz : (f x).cells = z) (h : mkI n = some k) : n = (k : Int) ∧ k ≤ 65536 ∧ rep z k = flat ((List.replicate k x).map f) :=
 ⟨(mkI.of h).1, (mkI.of h).2, repFl x hz k⟩
theorem mk0_of {n : Int} {k : Nat} (h : mkI n = some k) : 0 ≤ n ∧ n ≤ 65536 := by have := mkI.of h; omega
def idxB (b : ByteArray) (n : Int) : Option Int := if 0 ≤ n then (b[n.toNat]?).map fun c => (c.toNat : Int) else none
theorem idxB.of {b : ByteArray} {n z : Int} (h : idxB b n = some z) : LIdx b n z := by
 unfold idxB at h
 split at h
 ·rename_i h0
  rw [Option.map_eq_some_iff] at h
  obtain ⟨c, hc, rfl⟩ := h
  exact ⟨h0, c, hc, rfl⟩
 ·cases h
def partI {α : Type} (l : List α) (lo hi : Int) : Option (List α) := if 0 ≤ lo ∧ lo ≤ hi ∧ hi ≤ (l.length : Int) then some ((l.take hi.toNat).drop lo.toNat) else none
theorem partI.of {α : Type} {f : α → AV} {s : Nat} {l r : List α} {lo hi : Int} (hs : ∀ x, (f x).cells.length = s) (h : partI l lo hi = some r) : LSlc (l.map f) (some lo) (some hi) s (r.map f) := by
 unfold partI at h
 split at h
 ·rename_i hc
  cases h
  exact ⟨lo.toNat, hi.toNat, by show lo = _; omega, by show hi = _; omega, by omega, by rw [List.length_map]; omega, map_cells hs l, by rw [List.map_drop, List.map_take]⟩
 ·cases h
theorem partI.ofL {α : Type} {f : α → AV} {s : Nat} {l r : List α} {lo : Int} (hs : ∀ x, (f x).cells.length = s) (h : partI l lo (l.length : Int) = some r) : LSlc (l.map f) (some lo) none s (r.map f) := by
 unfold partI at h
 split at h
 ·rename_i hc
  cases h
  exact ⟨lo.toNat, l.length, by show lo = _; omega, by simp, by omega, by simp, map_cells hs l, by rw [List.map_drop, Int.toNat_natCast, List.take_length, List.take_of_length_le (by simp)]⟩
 ·cases h
theorem partI.ofR {α : Type} {f : α → AV} {s : Nat} {l r : List α} {hi : Int} (hs : ∀ x, (f x).cells.length = s) (h : partI l 0 hi = some r) : LSlc (l.map f) none (some hi) s (r.map f) := by
 unfold partI at h
 split at h
 ·rename_i hc
  cases h
  exact ⟨0, hi.toNat, rfl, by show hi = _; omega, by omega, by rw [List.length_map]; omega, map_cells hs l, by simp [List.map_take]⟩
 ·cases h
def nnI (n : Int) : Option Unit := if n < 0 then none else some ()
theorem binSl {k k' : IntKind} {x y : Int} {u : Unit} (h : nnI y = some u) : binA .shl (.int k x) (.int k' y) = some (.int k (k.wrap (x * 2 ^ (min y.toNat k.bits)))) := by
 unfold nnI at h
 split at h
 ·cases h
 ·rename_i h0
  simp [binA, h0]
theorem binSr {k k' : IntKind} {x y : Int} {u : Unit} (h : nnI y = some u) : binA .shr (.int k x) (.int k' y) = some (.int k (x.fdiv (2 ^ (min y.toNat k.bits)))) := by
 unfold nnI at h
 split at h
 ·cases h
 ·rename_i h0
  simp [binA, h0]
end Go.Proofs.YtkchfjblcfbajaaDoor
end
section
namespace Go.Proofs.YtkchfjblcfbajaaDoor
open Go.RowKit

structure DoesTB (P : Program) (f : FuncId) (xs : List AV) (cells : List (List AV)) (K : AV → List (List AV) → List (Nat × Nat) → Prop) : Prop where
 enter : ∀ (us : Array Value) (w : World), (callFunc f us).run P w = .ok (.enter f us) w
 calls : ∀ (G : Gh) (w : World) (us : Array Value), Inv G ⟨cells, []⟩ w → VRs G xs us → Calls P f us w fun e w' => ∃ u v c' G' bx lv, K v c' lv ∧ e = .returned u ∧ VR G' v u ∧ c'.length = cells.length ∧ Inv G' ⟨c' ++ bx, lv⟩ w' ∧ Gro G ⟨cells, []⟩ w G' ⟨c' ++ bx, lv⟩ w'
theorem DoesTB.of {P : Program} {f : FuncId} {F : AFn} (hF : compFn P f = some F) {xs : List AV} {cells : List (List AV)} {K : AV → List (List AV) → List (Nat × Nat) → Prop}
  (h : Ex cells.length .plain P F.code (start F xs) ⟨cells, []⟩ fun x a' S' => (x = .norm ∨ x = .ret) ∧ ∃ v, evRes a' S' F.res = some v ∧ K v (S'.bx.take cells.length) S'.lv) : DoesTB P f xs cells K := by
 unfold compFn at hF
 split at hF
 ·rename_i fn hf
  split at hF
  ·rename_i c rs hb hrs
   split at hF
   ·rename_i ac hac
    split at hF
    ·cases hF
    ·rename_i hname
     cases hF
     refine ⟨fun us w => ?_, fun G w us hI hvs => ?_⟩
     ·simp only [callFunc, program, Sem.run, hf, Sem.run_bind, Result.andThen_ok, hname, hb]
      rfl
     ·refine calls_of_marks hf hb ?_
      have hR : Rel G (start ⟨fn.params.size, fn.ntmps, rs, ac⟩ xs) { tmps := us ++ Array.replicate (fn.ntmps - us.size) undef, defers := [] } := by
       refine ⟨by simp [start, hvs.1], fun i y u hy hu => ?_⟩
       simp only [start] at hy
       simp only at hu
       rw [List.getElem?_append] at hy
       rw [Array.getElem?_append, hvs.1] at hu
       split at hy
       ·rename_i hlt
        rw [if_pos hlt] at hu
        exact hvs.2 i y u hy hu
       ·rename_i hlt
        rw [if_neg hlt] at hu
        have e1 := List.eq_of_mem_replicate (List.mem_of_getElem? hy)
        have e2 : u ∈ (Array.replicate (fn.ntmps - xs.length) undef) := Array.mem_of_getElem? hu
        have e3 := (Array.mem_replicate.1 e2).2
        rw [e1, e3]
        exact .undef G
      refine wp_mono (h (.of G ⟨cells, []⟩ w hI rfl) rfl c hac _ w ⟨G, hI, hR, .refl _ _ _, .refl _ _, .begin _ _ _ _ _⟩) ?_
      rintro e act' w' ⟨x, a', S', he, ⟨hx, v, hv, hq⟩, G', hI', hR', hg, hk, hd⟩
      have hbl := hk.bl
      obtain ⟨Ds, e1, e2, e3⟩ := hd.d
      have e1 : act'.defers = Ds.map markOf := by rw [e1]; exact List.append_nil _
      have hI' := hI'.shut e2 fun D hD => (e3 D hD).2
      have hg := hg.shut fun D hD => (e3 D hD).1.1
      obtain ⟨u, h1, h2⟩ := res_ok hI' hR' hrs hv
      obtain ⟨S'bx, S'lv⟩ := S'
      have hbx : S'bx = S'bx.take cells.length ++ S'bx.drop cells.length := by simp
      have hcl : (S'bx.take cells.length).length = cells.length := by
       rw [List.length_take]; exact Nat.min_eq_left hbl
      generalize S'bx.take cells.length = c1 at hq hbx hcl
      generalize S'bx.drop cells.length = bx at hbx
      subst hbx
      rcases hx with rfl | rfl
      ·subst he; exact ⟨.inl rfl, Ds, e1, e2, fun D hD => (e3 D hD).2, u, h1, u, v, c1, G', bx, S'lv, hq, rfl, h2, hcl, hI', hg⟩
      ·subst he; exact ⟨.inr rfl, Ds, e1, e2, fun D hD => (e3 D hD).2, u, h1, u, v, c1, G', bx, S'lv, hq, rfl, h2, hcl, hI', hg⟩
   ·cases hF
  ·cases hF
 ·cases hF

structure TokB where
 f : FuncId
 gs : List AV
 cells : List (List AV)
 c1 : List (List AV)
 pre : List AV
 els : List AV
 post : List AV
 n : Nat
 s : Nat
end Go.Proofs.YtkchfjblcfbajaaDoor
end
section
namespace Go.Proofs.YtkchfjblcfbajaaDoor
open Go.RowKit

theorem compCode_scope {P : Program} {code : Code} {c : ACode} (h : compCode P code = some (.scope c)) : ∃ x, code = .scope x ∧ compCode P x = some c := by
 cases code <;> simp only [compCode, reduceCtorEq] at h
 case scope x =>
  simp only [Option.map_eq_some_iff, ACode.scope.injEq] at h
  obtain ⟨c', h1, rfl⟩ := h
  exact ⟨x, rfl, h1⟩
 case seq => split at h <;> simp at h
 case cond => split at h <;> simp at h
 case region id ops draw =>
  split at h
  ·split at h
   ·split at h
    ·split at h <;> simp at h
    ·cases h
   ·cases h
  ·split at h
   ·cases h
   ·simp at h
 case rangeFunc => split at h <;> simp at h
 all_goals simp at h
theorem Ex.scope {n0 : Cx} {P : Program} {a : List AV} {S : St} {Q : AEx → List AV → St → Prop} {c : ACode} (h : Ex n0 .plain P c a S Q) : Ex n0 .plain P (.scope c) a S Q := by
 intro E hn code hc act w hA
 obtain ⟨x, rfl, h1⟩ := compCode_scope hc
 show (Code.scope x).wp P _ act w
 refine wp_scope_straight (wp_mono (h E hn x h1 act w hA) ?_)
 rintro e act' w' ⟨z, a', S', rfl, hq, hA'⟩
 cases z
 ·exact ⟨.norm, a', S', rfl, hq, hA'⟩
 ·exact ⟨.ex _, a', S', rfl, hq, hA'⟩
 ·exact ⟨.ret, a', S', rfl, hq, hA'⟩

theorem ExO.castA {c : Cx} {P : Program} {a : List AV} {S : St} {R : List AV → St → Prop} {xs : List AOper} {a2 : List AV} {S2 : St} (h1 : a = a2) (h2 : S = S2) (h : ExO c P xs a2 S2 R) : ExO c P xs a S R := by rw [h1, h2]; exact h
theorem ExI.castA {c : Cx} {md : Md} {P : Program} {a : List AV} {S : St} {R : List AV → St → Prop} {xs : List AOper} {a2 : List AV} {S2 : St} (h1 : a = a2) (h2 : S = S2) (h : ExI c md P xs a2 S2 R) : ExI c md P xs a S R := by rw [h1, h2]; exact h
theorem ExO.inlY {c : Cx} {P : Program} {a : List AV} {S : St} {R : List AV → St → Prop} {x : AOper} {l : List AOper} (J : AV → St → Prop) (f : FuncId) (xs : List AV) (F : AFn) (hF : compFn P f = some F) (hn : c.n ≤ S.bx.length) (hw : wantedA x.guard a = some true) (hv : aop x.op (evd a) S = some (.call f xs)) (a1 : List AV) (he : start F xs = a1)
  (h : ∀ c1 : Cx, c1.n = S.bx.length → c1.m = S.lv.length → (∀ L' a' ps' x' y', LpOk P c L' a' ps' x' y' → LpOk P c1 L' a' ps' x' y') →
    Ex c1 .plain P F.code a1 S fun z a' S' => ∃ a2 S2, Forgets c1 a' S' a2 S2 ∧ (z = .norm ∨ z = .ret) ∧ ∃ v, evRes a2 S2 F.res = some v ∧ J v S2)
  (k : ∀ v S', J v S' → ExO c P l (putA a x.dst v) S' R) : ExO c P (x :: l) a S R := by
 refine ExO.inlJ J f xs F hF hn hw hv a1 he (fun c1 h1 h2 h3 => ?_) k
 exact Ex.postF (h c1 h1 h2 h3)

theorem ExO.callN {n0 : Cx} {P : Program} {a : List AV} {S : St} {R : List AV → St → Prop} {x : AOper} {l : List AOper} {f : FuncId} {ys : List AV} (bs : List Nat) {cells : List (List AV)} {v v' : AV} {c' : List (List AV)} (xs : List AV) (hw : wantedA x.guard a = some true) (hv : aop x.op (evd a) S = some (.call f xs)) (hbs : fpOf xs = bs) (hr : xs.mapM (ren bs) = some ys) (hc : bs.mapM (fun b => S.bx[b]?) = some cells) (hcl : (cells.all cleanL && decide bs.Nodup) = true)
  (ho : Does P f ys cells fun w c => w = v ∧ c = c') (hb : back bs.length c'.length S.bx.length v = some v') (hc' : c'.all cleanL = true)
  (h : ExO n0 P l (putA a x.dst v') ⟨setAll S.bx bs c' ++ c'.drop bs.length, S.lv⟩ R) : ExO n0 P (x :: l) a S R :=
 ExO.call hw hv hbs hr hc hcl ho (by
  rintro w c ⟨rfl, rfl⟩
  exact ⟨v', hb, hc', h⟩)


theorem ExO.lb {c : Cx} {P : Program} {a : List AV} {S : St} {R : List AV → St → Prop} {x : AOper} {l : List AOper} {s : Nat} {els : List AV} (hw : wantedA x.guard a = some true) (hv : aop x.op (evd a) S = some (.lit s els)) (hs0 : 0 < s)
  (h : ExO c P l (putA a x.dst (.ms S.bx.length els.length s)) ⟨S.bx ++ [flat els], S.lv⟩ R) : ExO c P (x :: l) a S R := by
 intro E hE ops l1 Q hco hq act w hA
 obtain ⟨o, l', rfl, hx, hl'⟩ := mapM_cons_inv hco
 obtain ⟨h1, h2, _⟩ := compOper_ok hx
 obtain ⟨G, hI, hR, hgr, hk, hdf⟩ := hA
 simp only [wpList]
 rw [if_pos (wantedA_ok hx hR hw)]
 refine .inl ?_
 have hs := step_ok h1 (fun _ => rfl) (hR.opd hI.gl) hI hv
 obtain ⟨us, T, cc, hrun, hn, hsz, hes, hcell⟩ := hs
 have hle : els.length * s ≤ us.size := by rw [hsz]; exact Nat.mul_le_mul_right _ hn
 have hfl : (flat els).length = els.length * s := flat_len s els hes
 obtain ⟨b1, b2, b3⟩ := new_box hI (flat els ++ List.replicate (us.size - els.length * s) .junk) us T ⟨by simp [hfl]; omega, fun i y u hy hu => by
  by_cases hi : i < (flat els).length
  ·rw [List.getElem?_append_left hi] at hy
   obtain ⟨e, g1, g2⟩ := flat_get s hs0 els i y hes hy
   obtain ⟨u', g3, g4⟩ := hcell _ e _ y g1 g2
   rw [show i / s * s + i % s = i by rw [Nat.mul_comm]; exact Nat.div_add_mod i s, hu] at g3
   cases g3
   exact g4
  ·rw [List.getElem?_append_right (by omega), List.getElem?_replicate] at hy
   split at hy
   ·cases hy; exact .junk _
   ·cases hy⟩
 have hI2 : Inv (G.box S.bx.length w.heap.size) ⟨S.bx ++ [flat els], S.lv⟩ (w.alloc (.cells us T)) := by
  refine ⟨fun b' B c' h1 h2 => ?_, b2.tok, b2.fz, fun b' B h1 => ?_, b2.dtb, b2.injA, b2.injT, b2.sep, b2.gl⟩
  ·by_cases hb : b' < S.bx.length
   ·rw [List.getElem?_append_left hb] at h2
    exact b2.box b' B c' h1 (by rw [List.getElem?_append_left hb]; exact h2)
   ·have hb' : b' = S.bx.length := by
     have := (b2.dal b' B h1).1
     simp at this; omega
    subst hb'
    rw [List.getElem?_append_right (Nat.le_refl _)] at h2
    simp at h2
    subst h2
    rcases b2.box _ B (flat els ++ List.replicate (us.size - els.length * s) .junk) h1 (by simp) with h0 | ⟨us', T', k1, k2, k3, k4⟩
    ·exact .inl (List.append_eq_nil_iff.1 h0).1
    ·refine .inr ⟨us', T', k1, by rw [List.length_append] at k2; omega, fun i y u hy hu => k3 i y u (by rw [List.getElem?_append_left (List.getElem?_eq_some_iff.1 hy).1]; exact hy) hu, k4⟩
  ·have := b2.dal b' B h1
   exact ⟨by simpa using this.1, this.2⟩
 have hG2 : Gro G S w (G.box S.bx.length w.heap.size) ⟨S.bx ++ [flat els], S.lv⟩ (w.alloc (.cells us T)) := ⟨b3.le, b3.os, b3.tape, b3.output, b3.size, b3.fr, b3.own, b3.oth⟩
 unfold Oper.wp
 rw [hrun]
 simp only [Oper.upon]
 exact h E hE ops l' Q hl' hq _ _ ⟨_, hI2, h2 ▸ (hR.mono hG2.le).put x.dst (.ms _ _ _ _ _ b1 hn), hgr.trans hG2, hk.trans (Keep.box G S _ _), by cases o.dst <;> exact hdf.step hG2 (Keep.box G S _ _)⟩
def frzV (b : Nat) (cs : List AV) (x : AV) : AV := match x with
 | .ptr b' o => if b' = b ∧ o ≤ cs.length then .rop (cs.drop o) else x
 | x => x
def frzS (b : Nat) (cs : List AV) (x : AV) : AV := match x with
 | .fn f ps caps => .fn f ps (caps.map (frzV b cs))
 | x => frzV b cs x
theorem VR.frzV {G G2 : Gh} {b : Nat} {cs : List AV} {x : AV} {u : Value} (h : VR G x u) (hle : G.le G2) (hrop : ∀ B o, G.al b = some B → o ≤ cs.length → VR G2 (.rop (cs.drop o)) (.pointer (some ⟨B, o, none⟩))) : VR G2 (frzV b cs x) u := by
 unfold Proofs.YtkchfjblcfbajaaDoor.frzV
 split
 ·split
  ·rename_i hc
   obtain ⟨rfl, ho⟩ := hc
   obtain ⟨B, hB, rfl⟩ := h.inv_ptr
   exact hrop B _ hB ho
  ·exact h.mono hle
 ·exact h.mono hle
theorem VR.frzS {G G2 : Gh} {b : Nat} {cs : List AV} {x : AV} {u : Value} (h : VR G x u) (hle : G.le G2) (hrop : ∀ B o, G.al b = some B → o ≤ cs.length → VR G2 (.rop (cs.drop o)) (.pointer (some ⟨B, o, none⟩))) : VR G2 (frzS b cs x) u := by
 unfold Proofs.YtkchfjblcfbajaaDoor.frzS
 split
 ·rename_i f ps caps
  obtain ⟨vs, us, rfl, hp, hl, hv⟩ := h.inv_fn
  refine .fn f ps _ vs us hp.1 (fun i z v hz hv' => (hp.2 i z v hz hv').mono hle) (by rw [List.length_map]; exact hl) fun i z v hz hv' => ?_
  rw [List.getElem?_map, Option.map_eq_some_iff] at hz
  obtain ⟨z', hz', rfl⟩ := hz
  exact (hv i z' v hz' hv').frzV hle hrop
 ·exact h.frzV hle hrop
theorem chillP {n0 : Cx} {a : List AV} {S : St} (k b : Nat) (cs : List AV) (v : AV) (hk : a[k]? = some v) (hb : S.bx[b]? = some cs) : Forgets n0 a S (a.set k (frzS b cs v)) ⟨S.bx.set b [], S.lv⟩ := by
 intro E hE act w ⟨G, hI, hR, hg, hkp, hd⟩
 obtain ⟨F, hF⟩ : ∃ F : Nat → Option Value, ∀ B, G.al b = some B → (∀ o u, G.fz B o = some u → F o = some u) ∧ (∀ o u, F o = some u → w.cell? ⟨B, o, none⟩ = some u) ∧ ∀ o x, cs[o]? = some x → ∃ u, F o = some u ∧ VR G x u := by
  cases hal : G.al b with
  | none => exact ⟨fun _ => none, fun B h => by cases h⟩
  | some B =>
   rcases hI.box b B _ hal hb with h | ⟨us, T, k1, k2, k3, k4⟩
   ·refine ⟨fun o => G.fz B o, fun B' hB' => ?_⟩
    cases hB'
    exact ⟨fun o u h => h, fun o u h2 => hI.fz B o u h2, fun o x hx => by rw [h] at hx; simp at hx⟩
   ·refine ⟨fun o => us[o]?, fun B' h => ?_⟩
    cases h
    refine ⟨fun o u h => (by rw [k4 o] at h; cases h), fun o u h => by simp [World.cell?, k1, h], fun o x hx => ?_⟩
    have hlt : o < us.size := Nat.lt_of_lt_of_le (List.getElem?_eq_some_iff.1 hx).1 k2
    have hu : us[o]? = some us[o] := Array.getElem?_eq_getElem hlt
    exact ⟨us[o], hu, k3 o x _ hx hu⟩
 obtain ⟨G2, hG2⟩ : ∃ G2 : Gh, G2 = ⟨G.al, G.tb, fun k o => if G.al b = some k then F o else G.fz k o⟩ := ⟨_, rfl⟩
 have hal2 : G2.al = G.al := by rw [hG2]
 have htb2 : G2.tb = G.tb := by rw [hG2]
 have hfz2 : ∀ k o, G2.fz k o = if G.al b = some k then F o else G.fz k o := fun k o => by rw [hG2]
 have hle : G.le G2 := ⟨fun b B h => by rw [hal2]; exact h, fun t k v h => by rw [htb2]; exact h, fun k o u h => by
  rw [hfz2]
  split
  ·rename_i hB
   exact (hF k hB).1 o u h
  ·exact h⟩
 have hrop : ∀ B o, G.al b = some B → o ≤ cs.length → VR G2 (.rop (cs.drop o)) (.pointer (some ⟨B, o, none⟩)) := fun B o hB ho => by
  refine .rop _ B o (fun i => (F (o + i)).getD undef) (fun i x hx => ?_) fun i x hx => ?_
  ·rw [List.getElem?_drop] at hx
   obtain ⟨u, h1, _⟩ := (hF B hB).2.2 _ x hx
   rw [hfz2, if_pos hB, h1]; rfl
  ·rw [List.getElem?_drop] at hx
   obtain ⟨u, h1, h2⟩ := (hF B hB).2.2 _ x hx
   rw [h1]; exact h2.mono hle
 have hsepb : ∀ {B t k s0 s' c}, G.al b = some B → S.lv[t]? = some (k, s0) → G.tb t k = some (.blk B s' c) → False := fun h1 h2 h3 => hI.sep _ _ _ _ _ _ _ h1 h2 h3
 refine ⟨G2, ⟨?_, ?_, ?_, ?_, ?_, ?_, ?_, ?_, fun B o u h => hle.fz B o u (hI.gl B o u h)⟩, ⟨?_, ?_⟩, ⟨hg.le.trans hle, hg.os, hg.tape, hg.output, hg.size, ?_, ?_, hg.oth⟩, ⟨?_, ?_, ?_, ?_, hkp.lvn⟩, hd.same2 hle htb2 rfl⟩
 ·intro b' B c h1 h2
  rw [hal2] at h1
  by_cases hbb : b = b'
  ·subst hbb
   rw [List.getElem?_set] at h2
   simp only [if_true] at h2
   split at h2
   ·cases h2; exact .inl rfl
   ·cases h2
  ·rw [List.getElem?_set_ne hbb] at h2
   rcases hI.box b' B c h1 h2 with rfl | ⟨us, T, k1, k2, k3, k4⟩
   ·exact .inl rfl
   ·refine .inr ⟨us, T, k1, k2, fun i x u hx hu => (k3 i x u hx hu).mono hle, fun o => ?_⟩
    rw [hfz2, if_neg (fun h => hbb (hI.injA b b' B h h1))]
    exact k4 o
 ·intro t k s0 B s' c h1 h2
  rw [htb2] at h2
  obtain ⟨e1, e2, e3, e4⟩ := hI.tok t k s0 B s' c h1 h2
  exact ⟨e1, e2, e3, fun o ho => by rw [hfz2, if_neg (fun h => hsepb h h1 h2)]; exact e4 o ho⟩
 ·intro k o u h
  rw [hfz2] at h
  split at h
  ·rename_i hB
   exact (hF k hB).2.1 o u h
  ·exact hI.fz k o u h
 ·intro b' B h
  rw [hal2] at h
  exact ⟨by rw [List.length_set]; exact (hI.dal b' B h).1, (hI.dal b' B h).2⟩
 ·intro t k v h
  rw [htb2] at h
  exact hI.dtb t k v h
 ·intro b1 b2 B h1 h2
  rw [hal2] at h1 h2
  exact hI.injA b1 b2 B h1 h2
 ·intro t t' k k' s0 s0' B s1 s2 c c' h1 h2 h3 h4
  rw [htb2] at h3 h4
  exact hI.injT t t' k k' s0 s0' B s1 s2 c c' h1 h2 h3 h4
 ·intro b' B t k s0 s' c h1 h2
  rw [hal2] at h1
  rw [htb2]
  exact hI.sep b' B t k s0 s' c h1 h2
 ·rw [List.length_set]; exact hR.size
 ·intro i y u hy hu
  rw [List.getElem?_set] at hy
  split at hy
  ·rename_i hki
   subst hki
   split at hy
   ·cases hy
    exact (hR.slot k v u hk hu).frzS hle hrop
   ·cases hy
  ·exact (hR.slot i y u hy hu).mono hle
 ·intro B hB hno
  obtain ⟨h1, h2⟩ := hg.fr B hB hno
  refine ⟨h1, fun o => ?_⟩
  rw [hfz2, if_neg (fun h => ?_)]
  ·exact h2 o
  ·rcases hg.own B (.inl ⟨b, h⟩) with h' | h'
   ·exact hno h'
   ·omega
 ·rintro B (⟨b', hb'⟩ | ⟨t, k, s0, s', c, h1, h2⟩)
  ·rw [hal2] at hb'
   exact hg.own B (.inl ⟨b', hb'⟩)
  ·rw [htb2] at h2
   exact hg.own B (.inr ⟨t, k, s0, s', c, h1, h2⟩)
 ·simp only [List.length_set]
  exact hkp.bl
 ·exact hkp.ll
 ·intro b' hb' h
  rw [hal2]
  exact hkp.al b' hb' h
 ·intro t ht h k
  rw [htb2]
  exact hkp.tb t ht h k

end Go.Proofs.YtkchfjblcfbajaaDoor
end
section
namespace Go.Proofs.YtkchfjblcfbajaaDoor
open Go.RowKit

def Cx.one : Cx := ⟨0, 1, 0, [], fun _ h => (by cases h), fun _ h => (by cases h)⟩
@[simp] theorem Cx.one_n : Cx.one.n = 0 := rfl
@[simp] theorem Cx.one_m : Cx.one.m = 1 := rfl
@[simp] theorem Cx.zero_n : Cx.n 0 = 0 := rfl
@[simp] theorem Cx.zero_m : Cx.m 0 = 0 := rfl
@[simp] theorem SV_clean {α : Type} (f : α → AV) (l : List α) : (SV f l).clean = cleanL (l.map f) := by simp only [SV, AV.clean]
@[simp] theorem cleanI3 (k : IntKind) (l : List (List (List Int))) : cleanL (l.map (SV (SV (AV.int k)))) = true := cleanM (fun x => by simp only [SV, AV.clean]; exact cleanII k x) l
structure DoesG (P : Program) (f : FuncId) (xs : List AV) (n s : Nat) (K : List AV → Prop) : Prop where
 enter : ∀ (us : Array Value) (w : World), (callFunc f us).run P w = .ok (.enter f us) w
 calls : ∀ (G : Gh) (w : World) (us : Array Value), Inv G ⟨[], [(n, s)]⟩ w → (∃ v, G.tb 0 n = some v) → VRs G xs us → Calls P f us w fun e w' => ∃ u r G' bx lv, K r ∧ e = .returned u ∧ VR G' (.sl r (some 0)) u ∧ lv[0]? = some (r.length, s) ∧ Inv G' ⟨bx, lv⟩ w' ∧ Gro G ⟨[], [(n, s)]⟩ w G' ⟨bx, lv⟩ w'
theorem DoesG.of {P : Program} {f : FuncId} {F : AFn} (hF : compFn P f = some F) {xs : List AV} {n s : Nat} {K : List AV → Prop}
  (h : Ex Cx.one .plain P F.code (start F xs) ⟨[], [(n, s)]⟩ fun x a' S' => (x = .norm ∨ x = .ret) ∧ ∃ r, evRes a' S' F.res = some (.sl r (some 0)) ∧ S'.lv[0]? = some (r.length, s) ∧ K r) : DoesG P f xs n s K := by
 unfold compFn at hF
 split at hF
 ·rename_i fn hf
  split at hF
  ·rename_i c rs hb hrs
   split at hF
   ·rename_i ac hac
    split at hF
    ·cases hF
    ·rename_i hname
     cases hF
     refine ⟨fun us w => ?_, fun G w us hI htb hvs => ?_⟩
     ·simp only [callFunc, program, Sem.run, hf, Sem.run_bind, Result.andThen_ok, hname, hb]
      rfl
     ·refine calls_of_marks hf hb ?_
      have hR := start_rel (F := ⟨fn.params.size, fn.ntmps, rs, ac⟩) (n := fn.ntmps) rfl hvs
      let E : Ent := ⟨G, ⟨[], [(n, s)]⟩, w, [], hI, Cx.one, Nat.le_refl _, fun t ht => by
       obtain ⟨v, hv⟩ := htb
       have : t = 0 := by simpa using ht
       subst this
       exact ⟨n, v, hv⟩, Nat.le_refl _, fun _ h => (by cases h), w.heap.size, Nat.le_refl _⟩
      refine wp_mono (h E rfl c hac _ w ⟨G, hI, hR, .refl _ _ _, .refl _ _, ⟨⟨[], rfl, .nil, fun _ h => (by cases h)⟩, fun _ h => (by cases h), Nat.le_refl _, Nat.zero_le _, Nat.le_refl _⟩⟩) ?_
      rintro e act' w' ⟨x, a', S', he, ⟨hx, r, hv, hl, hq⟩, G', hI', hR', hg, hk, hd⟩
      obtain ⟨Ds, e1, e2, e3⟩ := hd.d
      have e1 : act'.defers = Ds.map markOf := by rw [e1]; exact List.append_nil _
      have hI' := hI'.shut e2 fun D hD => (e3 D hD).2
      have hg := hg.shut fun D hD => (e3 D hD).1.1
      obtain ⟨u, h1, h2⟩ := res_ok hI' hR' hrs hv
      obtain ⟨S'bx, S'lv⟩ := S'
      rcases hx with rfl | rfl
      ·subst he; exact ⟨.inl rfl, Ds, e1, e2, fun D hD => (e3 D hD).2, u, h1, u, r, G', S'bx, S'lv, hq, rfl, h2, hl, hI', hg⟩
      ·subst he; exact ⟨.inr rfl, Ds, e1, e2, fun D hD => (e3 D hD).2, u, h1, u, r, G', S'bx, S'lv, hq, rfl, h2, hl, hI', hg⟩
   ·cases hF
  ·cases hF
 ·cases hF

structure GroR where
 f : FuncId
 pre : List AV
 els : List AV
 post : List AV
 n : Nat
 s : Nat
 r : List AV
 m : Nat
end Go.Proofs.YtkchfjblcfbajaaDoor
end
section
namespace Go.Proofs.YtkchfjblcfbajaaDoor
open Go.RowKit

theorem adrT (l : List Int) (k : IntKind) {i : Int} {m : Nat} {u} (h : idxI i m = some u) (hl : m ≤ l.length) : 0 ≤ i ∧ i < ((m : Nat) : Int) ∧ i.toNat * 1 ≤ (l.map (AV.int k)).length := by
 obtain ⟨h1, h2⟩ := idxI.of h
 refine ⟨h1, h2, ?_⟩
 simp; omega
theorem ldTab (l : List Int) (k : IntKind) {i x : Int} (h : l[i.toNat]? = some x) : takeCells ((l.map (AV.int k)).drop (i.toNat * 1)) 0 none = some (.int k x) := by
 simp only [takeCells, List.getElem?_drop, Nat.mul_one, Nat.add_zero, List.getElem?_map, h, Option.map_some]

def Unr (n0 : Cx) (md : Md) (P : Program) (c : ACode) (Q : AEx → List AV → St → Prop) : Nat → List AV → St → Prop
 | 0, _, _ => False
 | k + 1, a, S => Ex n0 md P c a S fun x a' S' => match x with | .norm => Unr n0 md P c Q k a' S' | x => Q x a' S'
theorem Unr.step {n0 : Cx} {md : Md} {P : Program} {c : ACode} {Q : AEx → List AV → St → Prop} {k : Nat} {a : List AV} {S : St} (h : Ex n0 md P c a S fun x a' S' => match x with | .norm => Unr n0 md P c Q k a' S' | x => Q x a' S') : Unr n0 md P c Q (k + 1) a S := h
theorem Ex.unroll {n0 : Cx} {md : Md} {P : Program} {c : ACode} {Q : AEx → List AV → St → Prop} (n : Nat) {a : List AV} {S : St} (h : Unr n0 md P c Q n a S) : Ex n0 md P (.loop c) a S Q := by
 refine Ex.loop (Unr n0 md P c Q) n h fun k a S hk => ?_
 cases k with
 | zero => exact hk.elim
 | succ k =>
  refine Ex.mono hk fun x a' S' hx => ?_
  cases x with
  | norm => exact ⟨k, Nat.lt_succ_self k, hx⟩
  | ret => exact hx
  | ex i => exact hx

def ib (x : AV) : Bool := match x with
 | .int _ _ | .bool _ => true
 | _ => false
theorem ib_cells {x : AV} (h : ib x = true) : x.cells = [x] := by cases x <;> first | rfl | (simp [ib] at h)
theorem ib_p1 {x : AV} (h : ib x = true) : x.plain1 = x := by cases x <;> first | rfl | (simp [ib] at h)
theorem ib_fa {x : AV} (h : ib x = true) : fadeV x = x := by cases x <;> first | rfl | (simp [ib] at h)
theorem ib_clean {x : AV} (h : ib x = true) : x.clean = true := by cases x <;> first | rfl | (simp [ib] at h)
theorem ib_scalar {x : AV} (h : ib x = true) : x.scalar = true := by cases x <;> first | rfl | (simp [ib] at h)
theorem ib_re1 {x : AV} (h : ib x = true) (n : Nat) (σ : List Nat) : re1 n σ x = some x := by cases x <;> first | rfl | (simp [ib] at h)
theorem map_ib {g : AV → AV} (hg : ∀ x, ib x = true → g x = x) {α : Type} {f : α → AV} (h : ∀ x, ib (f x) = true) (l : List α) : (l.map f).map g = l.map f := by
 rw [List.map_map]; exact List.map_congr_left fun x _ => hg _ (h x)
theorem flat_ib {α : Type} {f : α → AV} (h : ∀ x, ib (f x) = true) : ∀ (l : List α), flat (l.map f) = l.map f
 | [] => rfl
 | x :: l => by
  have := flat_ib h l
  unfold flat at this ⊢
  rw [List.map_cons, List.flatMap_cons, this, ib_cells (h x)]; rfl
theorem clean_ib {α : Type} {f : α → AV} (h : ∀ x, ib (f x) = true) (l : List α) : cleanL (flat (l.map f)) = true := by
 rw [flat_ib h, cleanL_iff]
 intro x hx
 obtain ⟨y, _, rfl⟩ := List.mem_map.1 hx
 exact ib_clean (h y)
theorem plFB (l : List Bool) : (flat (l.map AV.bool)).map AV.plain1 = flat (l.map AV.bool) := by
 rw [flat_ib (f := AV.bool) (fun _ => rfl)]; exact map_ib (g := AV.plain1) (f := AV.bool) (fun x h => ib_p1 h) (fun _ => rfl) l
theorem clFB (l : List Bool) : cleanL (flat (l.map AV.bool)) = true := clean_ib (f := AV.bool) (fun _ => rfl) l
theorem faFB (l : List Bool) : (flat (l.map AV.bool)).map fadeV = flat (l.map AV.bool) := by
 rw [flat_ib (f := AV.bool) (fun _ => rfl)]; exact map_ib (g := fadeV) (f := AV.bool) (fun x h => ib_fa h) (fun _ => rfl) l
theorem fadeArr {α : Type} {f : α → AV} (h : ∀ x, ib (f x) = true) (l : List α) : fadeT (.agg (flat (l.map f))) = .agg (flat (l.map f)) := by
 rw [flat_ib h]
 show AV.agg ((l.map f).map fadeV) = _
 rw [map_ib (g := fadeV) (fun x h => ib_fa h) h]
theorem mapM_idO {α : Type} {g : α → Option α} : ∀ (l : List α), (∀ x ∈ l, g x = some x) → l.mapM g = some l
 | [], _ => rfl
 | x :: l, h => by
  rw [List.mapM_cons, h x (by simp), mapM_idO l fun y hy => h y (List.mem_cons_of_mem _ hy)]; rfl
theorem reArr {α : Type} {f : α → AV} (h : ∀ x, ib (f x) = true) (l : List α) {n : Nat} {σ : List Nat} : re n σ (.agg (flat (l.map f))) = some (.agg (flat (l.map f))) := by
 rw [flat_ib h]
 show ((l.map f).mapM (re1 n σ)).map AV.agg = _
 rw [mapM_idO]
 ·rfl
 ·intro x hx
  obtain ⟨y, _, rfl⟩ := List.mem_map.1 hx
  exact ib_re1 (h y) n σ
def len2 {α : Type} (l l' : List α) (n : Nat) : Option Unit := if l.length = n ∧ l'.length = n then some () else none
theorem len2.of {α : Type} {l l' : List α} {n : Nat} {u : Unit} (h : len2 l l' n = some u) : l.length = n ∧ l'.length = n := by
 unfold len2 at h
 split at h
 ·assumption
 ·cases h
theorem ldArrA {α : Type} {f : α → AV} (l : List α) (h : ∀ x, ib (f x) = true) {n : Nat} {u : Unit} (hl : lenI l n = some u) : takeCells (flat (l.map f)) 0 (some n) = some (.agg (flat (l.map f))) := by
 have hl := lenI.of hl
 rw [flat_ib h]
 simp only [takeCells]
 rw [if_pos (by simp [hl]), List.drop_zero, List.take_of_length_le (by simp [hl])]
theorem layAt_all : ∀ (vs pre cs : List AV), cs.length = vs.length → layAt (pre ++ cs) pre.length vs = pre ++ vs
 | [], pre, cs, h => by
  obtain rfl := List.eq_nil_of_length_eq_zero h
  rfl
 | v :: vs, pre, [], h => by simp at h
 | v :: vs, pre, c :: cs, h => by
  have hs : (pre ++ c :: cs).set pre.length v = (pre ++ [v]) ++ cs := by
   simp
  show layAt ((pre ++ c :: cs).set pre.length v) (pre.length + 1) vs = _
  rw [hs]
  have := layAt_all vs (pre ++ [v]) cs (by simpa using h)
  rw [List.length_append, List.length_singleton] at this
  rw [this]; simp
theorem stArrA {α : Type} {f : α → AV} (l l' : List α) (h : ∀ x, ib (f x) = true) {n : Nat} {u : Unit} (hn : 0 < n) (hl : len2 l l' n = some u) :
  (AV.agg (flat (l'.map f))).okCells = true ∧ (AV.agg (flat (l'.map f))).cells.length = n ∧ 0 < n ∧ 0 + n ≤ (flat (l.map f)).length ∧ layAt (flat (l.map f)) 0 (AV.agg (flat (l'.map f))).cells = flat (l'.map f) := by
 obtain ⟨h1, h2⟩ := len2.of hl
 rw [flat_ib h, flat_ib h]
 refine ⟨?_, by simp [AV.cells, h2], hn, by simp [h1], ?_⟩
 ·simp only [AV.okCells, AV.cells, Bool.and_true, List.all_eq_true]
  intro x hx
  obtain ⟨y, _, rfl⟩ := List.mem_map.1 hx
  exact ib_scalar (h y)
 ·have := layAt_all (l'.map f) [] (l.map f) (by simp [h1, h2])
  exact this
theorem axArrA {α : Type} {f : α → AV} (l : List α) (h : ∀ x, ib (f x) = true) {i : Int} {m : Nat} {x : α} (hx : getA l i m = some x) : (0 ≤ i ∧ i < ((m : Nat) : Int)) ∧ takeCells (flat (l.map f)) (i.toNat * 1) none = some (f x) := by
 obtain ⟨h1, h2⟩ := getA.of hx
 refine ⟨idxI.of h1, ?_⟩
 rw [flat_ib h]
 simp only [takeCells, Nat.mul_one, List.getElem?_map, h2, Option.map_some]
theorem evResArr {α : Type} {f : α → AV} {a : List AV} {S : St} {t b n : Nat} {l : List α} (h1 : a[t]? = some (.ptr b 0)) (h2 : S.bx[b]? = some (flat (l.map f))) (h : ∀ x, ib (f x) = true) {u : Unit} (hl : lenI l n = some u) : evRes a S [.cell t (some n)] = some (.agg (flat (l.map f))) := by
 have := ldArrA l h hl
 unfold evRes
 simp only [List.mapM_cons, List.mapM_nil, evRes1, h1, h2, Option.bind_some, this]
 rfl
end Go.Proofs.YtkchfjblcfbajaaDoor
end
section
namespace Go.Proofs.YtkchfjblcfbajaaDoor
open Go.RowKit
theorem w64 {x : Int} (h0 : -9223372036854775808 ≤ x) (h1 : x < 9223372036854775808) : IntKind.i64.wrap x = x := by
 simp [IntKind.wrap, IntKind.bits, IntKind.signed]
 omega
theorem wu64 (x : Int) : 0 ≤ IntKind.u64.wrap x ∧ IntKind.u64.wrap x < 2 ^ 64 := by
 have e : IntKind.u64.wrap x = x % 2 ^ 64 := rfl
 omega
theorem wu64_id {x : Int} (h0 : 0 ≤ x) (h1 : x < 2 ^ 64) : IntKind.u64.wrap x = x := by
 have e : IntKind.u64.wrap x = x % 2 ^ 64 := rfl
 omega
section
variable {α A B C D ρ : Type}
theorem loop1_T {body : (A → Option ρ) → A → Option ρ} (T : Option ρ → Prop) (P : A → Prop) (μ : A → Nat) (h : ∀ rec a, P a → (∀ a', P a' → μ a' < μ a → T (rec a')) → T (body rec a)) : ∀ (N : Nat) (a : A), P a → μ a < N → T (loop1 body N a)
 | 0, a, _, hm => absurd hm (Nat.not_lt_zero _)
 | n + 1, a, hp, hm => h (loop1 body n) a hp fun a' hp' hm' => loop1_T T P μ h n a' hp' (by omega)
theorem loop2_T {body : (A → B → Option ρ) → A → B → Option ρ} (T : Option ρ → Prop) (P : A → B → Prop) (μ : A → B → Nat) (h : ∀ rec a b, P a b → (∀ a' b', P a' b' → μ a' b' < μ a b → T (rec a' b')) → T (body rec a b)) : ∀ (N : Nat) (a : A) (b : B), P a b → μ a b < N → T (loop2 body N a b)
 | 0, a, b, _, hm => absurd hm (Nat.not_lt_zero _)
 | n + 1, a, b, hp, hm => h (loop2 body n) a b hp fun a' b' hp' hm' => loop2_T T P μ h n a' b' hp' (by omega)
theorem loop3_T {body : (A → B → C → Option ρ) → A → B → C → Option ρ} (T : Option ρ → Prop) (P : A → B → C → Prop) (μ : A → B → C → Nat) (h : ∀ rec a b c, P a b c → (∀ a' b' c', P a' b' c' → μ a' b' c' < μ a b c → T (rec a' b' c')) → T (body rec a b c)) : ∀ (N : Nat) (a : A) (b : B) (c : C), P a b c → μ a b c < N → T (loop3 body N a b c)
 | 0, a, b, c, _, hm => absurd hm (Nat.not_lt_zero _)
 | n + 1, a, b, c, hp, hm => h (loop3 body n) a b c hp fun a' b' c' hp' hm' => loop3_T T P μ h n a' b' c' hp' (by omega)
theorem loop4_T {body : (A → B → C → D → Option ρ) → A → B → C → D → Option ρ} (T : Option ρ → Prop) (P : A → B → C → D → Prop) (μ : A → B → C → D → Nat) (h : ∀ rec a b c d, P a b c d → (∀ a' b' c' d', P a' b' c' d' → μ a' b' c' d' < μ a b c d → T (rec a' b' c' d')) → T (body rec a b c d)) : ∀ (N : Nat) (a : A) (b : B) (c : C) (d : D), P a b c d → μ a b c d < N → T (loop4 body N a b c d)
 | 0, a, b, c, d, _, hm => absurd hm (Nat.not_lt_zero _)
 | n + 1, a, b, c, d, hp, hm => h (loop4 body n) a b c d hp fun a' b' c' d' hp' hm' => loop4_T T P μ h n a' b' c' d' hp' (by omega)
end
theorem getI_nat {α : Type} (l : List α) (i : Nat) : getI l (i : Int) = l[i]? := by simp [getI]
theorem getI_lt {α : Type} {l : List α} {i : Int} (h0 : 0 ≤ i) (h1 : i < (l.length : Int)) : ∃ x, getI l i = some x ∧ l[i.toNat]? = some x ∧ x ∈ l := by
 have hlt : i.toNat < l.length := by omega
 refine ⟨l[i.toNat], ?_, List.getElem?_eq_getElem hlt, List.getElem_mem hlt⟩
 simp only [getI, h0, if_true]
 exact List.getElem?_eq_getElem hlt
theorem pushI_ok {α : Type} {l m : List α} (h : l.length + m.length ≤ 65536) : pushI l m = some (l ++ m) := if_pos h
theorem letJ_eq {κ ρ : Type} (K : κ) (f : κ → Option ρ) : letJ K f = f K := rfl
theorem letJ_gen {κ ρ : Type} (T : Option ρ → Prop) (K : κ) (f : κ → Option ρ) (h : ∀ k, k = K → T (f k)) : T (letJ K f) := h K rfl
section
variable {A B ρ : Type}
theorem st1 (n : Nat) (body : (Int → Option ρ) → Int → Option ρ) (r : Option ρ) (hend : ∀ rec, body rec (n : Int) = r) (hstep : ∀ rec (i : Nat), i < n → body rec (i : Int) = rec ((i + 1 : Nat) : Int)) : ∀ (N i : Nat), i ≤ n → n - i < N → loop1 body N (i : Int) = r
 | 0, i, _, h => absurd h (Nat.not_lt_zero _)
 | N + 1, i, hle, hN => by
  show body (loop1 body N) (i : Int) = _
  by_cases hlt : i < n
  ·rw [hstep _ i hlt]; exact st1 n body r hend hstep N (i + 1) (by omega) (by omega)
  ·have : i = n := by omega
   subst this
   exact hend _
theorem st2 (n : Nat) (st : Nat → A) (body : (Int → A → Option ρ) → Int → A → Option ρ) (r : Option ρ) (hend : ∀ rec, body rec (n : Int) (st n) = r) (hstep : ∀ rec (i : Nat), i < n → body rec (i : Int) (st i) = rec ((i + 1 : Nat) : Int) (st (i + 1))) : ∀ (N i : Nat), i ≤ n → n - i < N → loop2 body N (i : Int) (st i) = r
 | 0, i, _, h => absurd h (Nat.not_lt_zero _)
 | N + 1, i, hle, hN => by
  show body (loop2 body N) (i : Int) (st i) = _
  by_cases hlt : i < n
  ·rw [hstep _ i hlt]; exact st2 n st body r hend hstep N (i + 1) (by omega) (by omega)
  ·have : i = n := by omega
   subst this
   exact hend _
theorem st2' (n : Nat) (st : Nat → A) (body : (A → Int → Option ρ) → A → Int → Option ρ) (r : Option ρ) (hend : ∀ rec, body rec (st n) (n : Int) = r) (hstep : ∀ rec (i : Nat), i < n → body rec (st i) (i : Int) = rec (st (i + 1)) ((i + 1 : Nat) : Int)) : ∀ (N i : Nat), i ≤ n → n - i < N → loop2 body N (st i) (i : Int) = r
 | 0, i, _, h => absurd h (Nat.not_lt_zero _)
 | N + 1, i, hle, hN => by
  show body (loop2 body N) (st i) (i : Int) = _
  by_cases hlt : i < n
  ·rw [hstep _ i hlt]; exact st2' n st body r hend hstep N (i + 1) (by omega) (by omega)
  ·have : i = n := by omega
   subst this
   exact hend _
theorem st3' (n : Nat) (sa : Nat → A) (sb : Nat → B) (body : (A → B → Int → Option ρ) → A → B → Int → Option ρ) (r : Option ρ) (hend : ∀ rec, body rec (sa n) (sb n) (n : Int) = r) (hstep : ∀ rec (i : Nat), i < n → body rec (sa i) (sb i) (i : Int) = rec (sa (i + 1)) (sb (i + 1)) ((i + 1 : Nat) : Int)) : ∀ (N i : Nat), i ≤ n → n - i < N → loop3 body N (sa i) (sb i) (i : Int) = r
 | 0, i, _, h => absurd h (Nat.not_lt_zero _)
 | N + 1, i, hle, hN => by
  show body (loop3 body N) (sa i) (sb i) (i : Int) = _
  by_cases hlt : i < n
  ·rw [hstep _ i hlt]; exact st3' n sa sb body r hend hstep N (i + 1) (by omega) (by omega)
  ·have : i = n := by omega
   subst this
   exact hend _
theorem st2z' (n : Nat) (st : Nat → A) {body : (A → Int → Option ρ) → A → Int → Option ρ} {r : Option ρ} {a : A} {N : Nat} (ha : a = st 0) (hN : n < N) (hend : ∀ rec, body rec (st n) (n : Int) = r) (hstep : ∀ rec (i : Nat), i < n → body rec (st i) (i : Int) = rec (st (i + 1)) ((i + 1 : Nat) : Int)) : loop2 body N a 0 = r := by
 subst ha; exact st2' n st body r hend hstep N 0 (Nat.zero_le _) (by omega)
theorem st3z' (n : Nat) (sa : Nat → A) (sb : Nat → B) {body : (A → B → Int → Option ρ) → A → B → Int → Option ρ} {r : Option ρ} {a : A} {b : B} {N : Nat} (ha : a = sa 0) (hb : b = sb 0) (hN : n < N) (hend : ∀ rec, body rec (sa n) (sb n) (n : Int) = r) (hstep : ∀ rec (i : Nat), i < n → body rec (sa i) (sb i) (i : Int) = rec (sa (i + 1)) (sb (i + 1)) ((i + 1 : Nat) : Int)) : loop3 body N a b 0 = r := by
 subst ha hb; exact st3' n sa sb body r hend hstep N 0 (Nat.zero_le _) (by omega)
end
theorem nadd1 (i : Nat) (h : i < 4611686018427387904) : IntKind.i64.wrap ((i : Int) + 1) = ((i + 1 : Nat) : Int) := by
 rw [w64 (x := (i : Int) + 1) (by omega) (by omega)]
 omega
theorem ltD {i n : Nat} (h : i < n) : decide ((i : Int) < ((n : Nat) : Int)) = true := decide_eq_true (by omega)
theorem ltE (n : Nat) : decide (((n : Nat) : Int) < ((n : Nat) : Int)) = false := decide_eq_false (by omega)
def pre (l : List Int) (i : Nat) : Int := (l.take i).sum
theorem getD_at {α : Type} [Inhabited α] {l : List α} {i : Nat} {x : α} (h : l[i]? = some x) : getI l (i : Int) = some x := by
 rw [getI_nat, h]
section
variable {α A B C D ρ : Type}
end
end Go.Proofs.YtkchfjblcfbajaaDoor
end
section
namespace Go.Proofs.YtkchfjblcfbajaaDoor
set_option maxRecDepth 100000

abbrev oo (d : Nat) (x : AOp) : AOper := ⟨some d, x, none⟩
abbrev on (x : AOp) : AOper := ⟨none, x, none⟩
theorem rg {n0 : Cx} {md : Md} {P : Program} {Q : AEx → List AV → St → Prop} {l : List AOper} {a : List AV} {S : St} (k : Nat) (live : List Nat) (a2 : List AV) (S2 : St) (hx : Q .norm a2 S2) (h : (evH [] 0 k l a S).map (fun p => (p.1, keepB 0 live p.2.1, p.2.2)) = some ([], a2, S2) := by kernel_rfl) (hl : l.drop k = [] := by rfl) : Ex n0 md P (.reg l) a S Q :=
 regH k [] live [] a2 S2 h trivial hl hx
theorem rn {n0 : Cx} {P : Program} {R : List AV → St → Prop} {l : List AOper} {a : List AV} {S : St} (k : Nat) (live : List Nat) (a2 : List AV) (S2 : St) (hx : ExO n0 P (l.drop k) a2 S2 R) (h : (evH [] 0 k l a S).map (fun p => (p.1, keepB 0 live p.2.1, p.2.2)) = some ([], a2, S2) := by kernel_rfl) : ExO n0 P l a S R :=
 runH k [] live [] a2 S2 h trivial hx
theorem bE {α β : Type} {o : Option α} {f : α → Option β} {b : β} (h : o.bind f = some b) : ∃ a, o = some a ∧ f a = some b := Option.bind_eq_some_iff.1 h
theorem rt {a' : List AV} {S' : St} {res : List ARes} {n : Nat} {c1 : List (List AV)} {r : AV} (v : AV) (h1 : evRes a' S' res = some v := by kernel_rfl) (h2 : v.names = false := by kernel_rfl) (h3 : fadeT v = r := by kernel_rfl) (h4 : S'.bx.take n = c1 := by kernel_rfl) : (AEx.ret = .norm ∨ AEx.ret = .ret) ∧ ∃ v, evRes a' S' res = some v ∧ v.names = false ∧ fadeT v = r ∧ S'.bx.take n = c1 := ⟨.inr rfl, v, h1, h2, h3, h4⟩
abbrev i6 (x : Int) : AV := .int .i64 x
abbrev Z (t : Nat) : AOpd := .tmp t
theorem sJ {α : Type} {a b : α} (h : some a = some b) : a = b := Option.some.inj h
def F10 : AFn := ⟨1, 162, [.tmp 2], (.seq (.reg [oo 2 (.mov (.con (.bool false)))]) (.seq (.reg [oo 21 (.mov (Z 0)), oo 22 (.call (.con (.fn 15 [] [])) [(Z 21)]), oo 3 (.mov (Z 22))]) (.seq (.reg [oo 23 (.mov (Z 3)), oo 24 (.call (.con (.fn 16 [] [])) [(Z 23)]), oo 4 (.box (.con (.agg [.nils, .nils, .nils, i6 0, i6 0, .nils]))), on (.store 6 (Z 4) (Z 24))]) (.seq (.reg [oo 25 (.mov (Z 3)), oo 26 (.load (some 6) (Z 4)), oo 27 (.call (.con (.fn 17 [] [])) [(Z 25), (Z 26), (.con (i6 4))]), oo 5 (.mov (Z 27))]) (.seq (.reg [oo 29 (.load (some 6) (Z 4)), oo 30 (.mov (Z 5)), oo 31 (.call (.con (.fn 45 [] [])) [(Z 29), (Z 30)]), oo 28 (.mov (Z 31)), oo 32 (.ext (Z 28) 0), oo 33 (.ext (Z 28) 1), oo 6 (.mov (Z 32)), oo 7 (.mov (Z 33))]) (.seq (.reg [oo 35 (.load (some 6) (Z 4)), oo 36 (.mov (Z 5)), oo 37 (.call (.con (.fn 39 [] [])) [(Z 35), (Z 36)]), oo 34 (.mov (Z 37)), oo 38 (.ext (Z 34) 0), oo 39 (.ext (Z 34) 1), oo 8 (.mov (Z 38)), oo 9 (.mov (Z 39))]) (.seq (.seq (.reg [oo 40 (.mov (Z 7)), oo 41 (.bin .neq (Z 40) (.con (i6 0))), oo 42 (.mov (Z 41)), ⟨some 43, .mov (Z 9), some (42, false)⟩, ⟨some 44, .bin .neq (Z 43) (.con (i6 0)), some (42, false)⟩, oo 45 (.pick (Z 42) (.con (.bool true)) (Z 44)), oo 46 (.mov (Z 45)), ⟨some 47, .mov (Z 5), some (46, false)⟩, ⟨some 48, .mov (Z 8), some (46, false)⟩, ⟨some 49, .call (.con (.fn 40 [] [])) [(Z 47), (Z 48)], some (46, false)⟩, ⟨some 50, .len false (Z 49), some (46, false)⟩, ⟨some 51, .mov (Z 6), some (46, false)⟩, ⟨some 52, .len false (Z 51), some (46, false)⟩, ⟨some 53, .bin .gtr (Z 50) (Z 52), some (46, false)⟩, oo 54 (.pick (Z 46) (.con (.bool true)) (Z 53))]) (.cond (Z 54) (.seq (.reg [oo 2 (.mov (.con (.bool false)))]) .ret) .skip)) (.seq (.reg [oo 10 (.mov (.con (i6 0))), oo 11 (.mov (.con (.bool false)))]) (.seq (.seq (.reg [oo 12 (.mov (.con (i6 0)))]) (.block 0 (.loop (.seq (.seq (.reg [oo 55 (.mov (Z 12)), oo 56 (.mov (Z 6)), oo 57 (.len false (Z 56)), oo 58 (.bin .lss (Z 55) (Z 57))]) (.cond (Z 58) .skip (.exit 0))) (.seq (.block 1 (.seq (.seq (.reg [oo 61 (.mov (Z 6)), oo 62 (.mov (Z 12)), oo 63 (.iaddr (Z 61) (Z 62) 1 none), oo 64 (.load none (Z 63)), oo 65 (.bin .lss (Z 64) (.con (i6 0))), oo 66 (.mov (Z 65)), ⟨some 67, .mov (Z 6), some (66, false)⟩, ⟨some 68, .mov (Z 12), some (66, false)⟩, ⟨some 69, .iaddr (Z 67) (Z 68) 1 none, some (66, false)⟩, ⟨some 70, .load none (Z 69), some (66, false)⟩, ⟨some 71, .mov (Z 5), some (66, false)⟩, ⟨some 72, .len false (Z 71), some (66, false)⟩, ⟨some 73, .bin .geq (Z 70) (Z 72), some (66, false)⟩, oo 74 (.pick (Z 66) (.con (.bool true)) (Z 73))]) (.cond (Z 74) (.seq (.reg [oo 2 (.mov (.con (.bool false)))]) .ret) .skip)) (.reg [oo 75 (.mov (Z 10)), oo 76 (.mov (Z 5)), oo 77 (.mov (Z 6)), oo 78 (.mov (Z 12)), oo 79 (.iaddr (Z 77) (Z 78) 1 none), oo 80 (.load none (Z 79)), oo 81 (.iaddr (Z 76) (Z 80) 6 none), oo 82 (.faddr (Z 81) 5), oo 83 (.load none (Z 82)), oo 84 (.bin .add (Z 75) (Z 83)), oo 10 (.mov (Z 84))]))) (.reg [oo 59 (.mov (Z 12)), oo 60 (.bin .add (Z 59) (.con (i6 1))), oo 12 (.mov (Z 60))])))))) (.seq (.seq (.reg [oo 13 (.mov (.con (i6 0)))]) (.block 2 (.loop (.seq (.seq (.reg [oo 85 (.mov (Z 13)), oo 86 (.mov (Z 5)), oo 87 (.len false (Z 86)), oo 88 (.bin .shl (.con (i6 1)) (Z 87)), oo 89 (.bin .lss (Z 85) (Z 88))]) (.cond (Z 89) .skip (.exit 2))) (.seq (.block 3 (.seq (.reg [oo 93 (.mov (Z 5)), oo 94 (.mov (Z 13)), oo 95 (.call (.con (.fn 46 [] [])) [(Z 93), (Z 94)]), oo 92 (.mov (Z 95)), oo 96 (.ext (Z 92) 0), oo 97 (.ext (Z 92) 1), oo 98 (.ext (Z 92) 2), oo 14 (.mov (Z 96)), oo 15 (.mov (Z 97)), oo 16 (.mov (Z 98))]) (.seq (.reg [oo 99 (.mov (Z 14)), oo 100 (.mov (Z 6)), oo 101 (.call (.con (.fn 29 [] [])) [(Z 99), (Z 100)]), oo 17 (.mov (Z 101))]) (.seq (.reg [oo 102 (.mov (Z 14)), oo 103 (.len false (Z 102)), oo 104 (.mov (Z 6)), oo 105 (.len false (Z 104)), oo 106 (.bin .gtr (Z 103) (Z 105)), oo 107 (.mov (Z 106)), ⟨some 108, .mov (Z 14), some (107, false)⟩, ⟨some 109, .len false (Z 108), some (107, false)⟩, ⟨some 110, .mov (Z 6), some (107, false)⟩, ⟨some 111, .len false (Z 110), some (107, false)⟩, ⟨some 112, .bin .eql (Z 109) (Z 111), some (107, false)⟩, ⟨some 113, .mov (Z 112), some (107, false)⟩, ⟨some 114, .mov (Z 16), some (113, true)⟩, ⟨some 115, .mov (Z 10), some (113, true)⟩, ⟨some 116, .bin .gtr (Z 114) (Z 115), some (113, true)⟩, ⟨some 117, .mov (Z 116), some (113, true)⟩, ⟨some 118, .mov (Z 16), some (117, false)⟩, ⟨some 119, .mov (Z 10), some (117, false)⟩, ⟨some 120, .bin .eql (Z 118) (Z 119), some (117, false)⟩, ⟨some 121, .mov (Z 120), some (117, false)⟩, ⟨some 122, .mov (Z 14), some (121, true)⟩, ⟨some 123, .mov (Z 6), some (121, true)⟩, ⟨some 124, .call (.con (.fn 47 [] [])) [(Z 122), (Z 123)], some (121, true)⟩, ⟨some 125, .pick (Z 121) (Z 124) (.con (.bool false)), some (117, false)⟩, ⟨some 126, .pick (Z 117) (.con (.bool true)) (Z 125), some (113, true)⟩, ⟨some 127, .pick (Z 113) (Z 126) (.con (.bool false)), some (107, false)⟩, oo 128 (.pick (Z 107) (.con (.bool true)) (Z 127)), oo 18 (.mov (Z 128))]) (.seq (.seq (.reg [oo 129 (.mov (Z 17)), oo 130 (.un .not (Z 129)), oo 131 (.mov (Z 130)), ⟨some 132, .mov (Z 18), some (131, true)⟩, ⟨some 133, .un .not (Z 132), some (131, true)⟩, oo 134 (.pick (Z 131) (Z 133) (.con (.bool false)))]) (.cond (Z 134) (.exit 3) .skip)) (.seq (.reg [oo 136 (.load (some 6) (Z 4)), oo 137 (.mov (Z 15)), oo 138 (.call (.con (.fn 39 [] [])) [(Z 136), (Z 137)]), oo 135 (.mov (Z 138)), oo 139 (.ext (Z 135) 0), oo 140 (.ext (Z 135) 1), oo 19 (.mov (Z 139)), oo 20 (.mov (Z 140))]) (.seq (.seq (.reg [oo 141 (.mov (Z 20)), oo 142 (.bin .neq (Z 141) (.con (i6 0))), oo 143 (.mov (Z 142)), ⟨some 144, .mov (Z 15), some (143, false)⟩, ⟨some 145, .mov (Z 19), some (143, false)⟩, ⟨some 146, .call (.con (.fn 40 [] [])) [(Z 144), (Z 145)], some (143, false)⟩, ⟨some 147, .len false (Z 146), some (143, false)⟩, ⟨some 148, .mov (Z 15), some (143, false)⟩, ⟨some 149, .len false (Z 148), some (143, false)⟩, ⟨some 150, .bin .eql (Z 147) (Z 149), some (143, false)⟩, ⟨some 151, .mov (Z 17), some (143, false)⟩, ⟨some 152, .eqs true (.sc 0) (Z 150) (Z 151), some (143, false)⟩, oo 153 (.pick (Z 143) (.con (.bool true)) (Z 152))]) (.cond (Z 153) (.seq (.reg [oo 2 (.mov (.con (.bool false)))]) .ret) .skip)) (.reg [oo 154 (.mov (Z 11)), oo 155 (.mov (Z 154)), ⟨some 156, .mov (Z 17), some (155, false)⟩, oo 157 (.pick (Z 155) (.con (.bool true)) (Z 156)), oo 11 (.mov (Z 157))])))))))) (.reg [oo 90 (.mov (Z 13)), oo 91 (.bin .add (Z 90) (.con (i6 1))), oo 13 (.mov (Z 91))])))))) (.seq (.reg [oo 158 (.mov (Z 11)), oo 159 (.mov (Z 158)), ⟨some 160, .call (.con (.fn 14 [] [])) [], some (159, true)⟩, oo 161 (.pick (Z 159) (Z 160) (.con (.bool false))), oo 2 (.mov (Z 161))]) .ret)))))))))))⟩
theorem comp10 : compFn Tryd.prog 10 = some F10 := by kernel_rfl
def F14 : AFn := ⟨0, 58, [.tmp 0], (.seq (.reg [oo 0 (.mov (.con (.bool false)))]) (.seq (.reg [oo 9 (.call (.con (.fn 50 [] [])) []), oo 10 (.call (.con (.fn 51 [] [])) []), oo 11 (.call (.con (.fn 39 [] [])) [(Z 9), (Z 10)]), oo 8 (.mov (Z 11)), oo 12 (.ext (Z 8) 0), oo 13 (.ext (Z 8) 1), oo 1 (.mov (Z 12)), oo 2 (.mov (Z 13))]) (.seq (.dreg 10 [oo 15 (.call (.con (.fn 50 [] [])) []), oo 16 (.call (.con (.fn 51 [] [])) []), oo 17 (.iaddr (Z 16) (.con (i6 0)) 6 none), oo 18 (.load (some 6) (Z 17)), oo 19 (.call (.con (.fn 52 [] [])) [(.con (i6 60))]), oo 20 (.call (.con (.fn 32 [] [])) [(Z 15), (Z 18), (Z 19)]), oo 14 (.mov (Z 20)), oo 21 (.ext (Z 14) 0), oo 22 (.ext (Z 14) 1), oo 3 (.mov (Z 21)), oo 4 (.mov (Z 22))]) (.seq (.reg [oo 24 (.call (.con (.fn 50 [] [])) []), oo 25 (.call (.con (.fn 51 [] [])) []), oo 26 (.slc false 6 (Z 25) none (some (.con (i6 1)))), oo 27 (.call (.con (.fn 34 [] [])) [(Z 24), (Z 26), (.con (i6 0))]), oo 23 (.mov (Z 27)), oo 28 (.ext (Z 23) 0), oo 29 (.ext (Z 23) 1), oo 30 (.ext (Z 23) 2), oo 5 (.mov (Z 28)), oo 6 (.mov (Z 29)), oo 7 (.mov (Z 30))]) (.seq (.reg [oo 31 (.mov (Z 2)), oo 32 (.bin .eql (Z 31) (.con (i6 0))), oo 33 (.mov (Z 32)), ⟨some 34, .mov (Z 4), some (33, true)⟩, ⟨some 35, .bin .eql (Z 34) (.con (i6 0)), some (33, true)⟩, oo 36 (.pick (Z 33) (Z 35) (.con (.bool false))), oo 37 (.mov (Z 36)), ⟨some 38, .mov (Z 7), some (37, true)⟩, ⟨some 39, .bin .eql (Z 38) (.con (i6 0)), some (37, true)⟩, oo 40 (.pick (Z 37) (Z 39) (.con (.bool false))), oo 41 (.mov (Z 40)), ⟨some 42, .mov (Z 1), some (41, true)⟩, ⟨some 43, .bsl 1 false [i6 0] 4 [(0, (.con (i6 0))), (1, (.con (i6 10))), (2, (.con (i6 13))), (3, (.con (i6 11)))], some (41, true)⟩, ⟨some 44, .call (.con (.fn 44 [] [])) [(Z 42), (Z 43)], some (41, true)⟩, oo 45 (.pick (Z 41) (Z 44) (.con (.bool false))), oo 46 (.mov (Z 45)), ⟨some 47, .mov (Z 3), some (46, true)⟩, ⟨some 48, .bin .eql (Z 47) (.con (i6 3)), some (46, true)⟩, oo 49 (.pick (Z 46) (Z 48) (.con (.bool false))), oo 50 (.mov (Z 49)), ⟨some 51, .mov (Z 5), some (50, true)⟩, ⟨some 52, .bin .eql (Z 51) (.con (i6 130)), some (50, true)⟩, oo 53 (.pick (Z 50) (Z 52) (.con (.bool false))), oo 54 (.mov (Z 53)), ⟨some 55, .mov (Z 6), some (54, true)⟩, ⟨some 56, .bin .eql (Z 55) (.con (i6 590)), some (54, true)⟩, oo 57 (.pick (Z 54) (Z 56) (.con (.bool false))), oo 0 (.mov (Z 57))]) .ret)))))⟩
theorem comp14 : compFn Tryd.prog 14 = some F14 := by kernel_rfl
def F15 : AFn := ⟨1, 29, [.tmp 2], (.seq (.reg [oo 2 (.mov (.con (.nilp)))]) (.seq (.reg [oo 5 (.build [.int .u64 0] [(0, 1, (.con (.int .u64 2685821657736338717)))]), oo 6 (.box (Z 5)), oo 3 (.mov (Z 6))]) (.seq (.seq (.reg [oo 4 (.mov (.con (i6 0)))]) (.block 0 (.loop (.seq (.seq (.reg [oo 7 (.mov (Z 4)), oo 8 (.mov (Z 0)), oo 9 (.len false (Z 8)), oo 10 (.bin .lss (Z 7) (Z 9))]) (.cond (Z 10) .skip (.exit 0))) (.seq (.block 1 (.seq (.dreg 11 [oo 13 (.mov (Z 3)), oo 14 (.mov (Z 3)), oo 15 (.nilck (Z 14)), oo 16 (.faddr (Z 15) 0), oo 17 (.load none (Z 16)), oo 18 (.mov (Z 0)), oo 19 (.mov (Z 4)), oo 20 (.iaddr (Z 18) (Z 19) 1 none), oo 21 (.load none (Z 20)), oo 22 (.conv .u64 (Z 21)), oo 23 (.bin .xor (Z 17) (Z 22)), oo 24 (.nilck (Z 13)), oo 25 (.faddr (Z 24) 0), on (.store 1 (Z 25) (Z 23))]) (.reg [oo 26 (.mov (Z 3)), oo 27 (.call (.con (.fn 53 [] [])) [(Z 26)])]))) (.reg [oo 11 (.mov (Z 4)), oo 12 (.bin .add (Z 11) (.con (i6 1))), oo 4 (.mov (Z 12))])))))) (.seq (.reg [oo 28 (.mov (Z 3)), oo 2 (.mov (Z 28))]) .ret))))⟩
theorem comp15 : compFn Tryd.prog 15 = some F15 := by kernel_rfl
def F16 : AFn := ⟨1, 36, [.cell 2 (some 6)], (.seq (.reg [oo 2 (.box (.con (.agg [.nils, .nils, .nils, i6 0, i6 0, .nils])))]) (.seq (.reg [oo 5 (.mov (Z 0)), oo 6 (.call (.con (.fn 54 [] [])) [(Z 5), (.con (i6 4)), (.con (i6 5)), (.con (i6 1))]), oo 7 (.mov (Z 0)), oo 8 (.mov (Z 0)), oo 9 (.call (.con (.fn 19 [] [])) [(Z 8), (.con (i6 10))]), oo 10 (.mov (Z 0)), oo 11 (.call (.con (.fn 19 [] [])) [(Z 10), (.con (i6 60))]), oo 12 (.bsl 1 false [i6 0] 4 [(0, (.con (i6 0))), (1, (.con (i6 1))), (2, (Z 9)), (3, (Z 11))]), oo 13 (.call (.con (.fn 36 [] [])) [(Z 7), (Z 12)]), oo 14 (.build [.nils, .nils, .nils, i6 0, i6 0, .nils] [(0, 4, (Z 6)), (4, 1, (Z 13))]), oo 3 (.box (.con (.agg [.nils, .nils, .nils, i6 0, i6 0, .nils]))), on (.store 6 (Z 3) (Z 14))]) (.seq (.seq (.reg [oo 4 (.mov (.con (i6 0)))]) (.block 0 (.loop (.seq (.seq (.reg [oo 15 (.mov (Z 4)), oo 16 (.faddr (Z 3) 0), oo 17 (.faddr (Z 16) 0), oo 18 (.load none (Z 17)), oo 19 (.len false (Z 18)), oo 20 (.bin .lss (Z 15) (Z 19))]) (.cond (Z 20) .skip (.exit 0))) (.seq (.block 1 (.dreg 10 [oo 23 (.faddr (Z 3) 5), oo 24 (.load none (Z 23)), oo 25 (.mov (Z 0)), oo 26 (.mov (Z 0)), oo 27 (.call (.con (.fn 19 [] [])) [(Z 26), (.con (i6 721))]), oo 28 (.mov (Z 0)), oo 29 (.call (.con (.fn 55 [] [])) [(Z 28), (.con (i6 300)), (.con (i6 600))]), oo 30 (.bsl 1 false [i6 0] 3 [(0, (.con (i6 0))), (1, (Z 27)), (2, (Z 29))]), oo 31 (.call (.con (.fn 36 [] [])) [(Z 25), (Z 30)]), oo 32 (.bsl 1 false [i6 0] 1 [(0, (Z 31))]), oo 33 (.app (Z 24) (Z 32) 1 8 [i6 0]), oo 34 (.faddr (Z 3) 5), on (.store 1 (Z 34) (Z 33))])) (.reg [oo 21 (.mov (Z 4)), oo 22 (.bin .add (Z 21) (.con (i6 1))), oo 4 (.mov (Z 22))])))))) (.seq (.reg [oo 35 (.load (some 6) (Z 3)), on (.store 6 (Z 2) (Z 35))]) .ret))))⟩
theorem comp16 : compFn Tryd.prog 16 = some F16 := by kernel_rfl
def F17 : AFn := ⟨3, 24, [.tmp 6], (.seq (.reg [oo 4 (.box (Z 1)), oo 6 (.mov (.con (.nils)))]) (.seq (.reg [oo 7 (.mov (.con (.nils)))]) (.seq (.seq (.reg [oo 9 (.mov (Z 0)), oo 10 (.mov (Z 2)), oo 11 (.bin .add (Z 10) (.con (i6 1))), oo 12 (.call (.con (.fn 19 [] [])) [(Z 9), (Z 11)]), oo 8 (.mov (Z 12))]) (.block 0 (.loop (.seq (.seq (.reg [oo 13 (.mov (Z 8)), oo 14 (.bin .gtr (Z 13) (.con (i6 0)))]) (.cond (Z 14) .skip (.exit 0))) (.seq (.block 1 (.reg [oo 17 (.mov (Z 7)), oo 18 (.mov (Z 0)), oo 19 (.load (some 6) (Z 4)), oo 20 (.call (.con (.fn 18 [] [])) [(Z 18), (Z 19)]), oo 21 (.bsl 6 true [i6 0, .nils, i6 0, i6 0, i6 0, i6 0] 1 [(0, (Z 20))]), oo 22 (.app (Z 17) (Z 21) 6 64 [i6 0, .nils, i6 0, i6 0, i6 0, i6 0]), oo 7 (.mov (Z 22))])) (.reg [oo 15 (.mov (Z 8)), oo 16 (.bin .sub (Z 15) (.con (i6 1))), oo 8 (.mov (Z 16))])))))) (.seq (.reg [oo 23 (.mov (Z 7)), oo 6 (.mov (Z 23))]) .ret))))⟩
theorem comp17 : compFn Tryd.prog 17 = some F17 := by kernel_rfl
def F18 : AFn := ⟨2, 93, [.cell 4 (some 6)], (.seq (.reg [oo 3 (.box (Z 1)), oo 4 (.box (.con (.agg [i6 0, .nils, i6 0, i6 0, i6 0, i6 0])))]) (.seq (.reg [oo 11 (.mov (Z 0)), oo 12 (.faddr (Z 3) 0), oo 13 (.faddr (Z 12) 0), oo 14 (.load none (Z 13)), oo 15 (.len false (Z 14)), oo 16 (.call (.con (.fn 19 [] [])) [(Z 11), (Z 15)]), oo 17 (.mov (Z 0)), oo 18 (.mov (Z 0)), oo 19 (.bsl 1 false [i6 0] 2 [(0, (.con (i6 6))), (1, (.con (i6 20)))]), oo 20 (.call (.con (.fn 36 [] [])) [(Z 18), (Z 19)]), oo 21 (.call (.con (.fn 55 [] [])) [(Z 17), (.con (i6 1)), (Z 20)]), oo 22 (.mov (Z 0)), oo 23 (.mov (Z 0)), oo 24 (.call (.con (.fn 19 [] [])) [(Z 23), (.con (i6 60))]), oo 25 (.mov (Z 0)), oo 26 (.call (.con (.fn 19 [] [])) [(Z 25), (.con (i6 600))]), oo 27 (.bsl 1 false [i6 0] 3 [(0, (.con (i6 0))), (1, (Z 24)), (2, (Z 26))]), oo 28 (.call (.con (.fn 36 [] [])) [(Z 22), (Z 27)]), oo 29 (.build [i6 0, .nils, i6 0, i6 0, i6 0, i6 0] [(0, 1, (Z 16)), (4, 1, (Z 21)), (5, 1, (Z 28))]), oo 5 (.box (.con (.agg [i6 0, .nils, i6 0, i6 0, i6 0, i6 0]))), on (.store 6 (Z 5) (Z 29))]) (.seq (.reg [oo 30 (.faddr (Z 5) 0), oo 31 (.load none (Z 30)), oo 6 (.mov (Z 31))]) (.seq (.seq (.reg [oo 32 (.mov (Z 0)), oo 33 (.call (.con (.fn 19 [] [])) [(Z 32), (.con (i6 5))]), oo 7 (.mov (Z 33))]) (.block 0 (.loop (.seq (.seq (.reg [oo 34 (.mov (Z 7)), oo 35 (.bin .gtr (Z 34) (.con (i6 0))), oo 36 (.mov (Z 35)), ⟨some 37, .faddr (Z 3) 0, some (36, true)⟩, ⟨some 38, .faddr (Z 37) 1, some (36, true)⟩, ⟨some 39, .load none (Z 38), some (36, true)⟩, ⟨some 40, .len false (Z 39), some (36, true)⟩, ⟨some 41, .bin .gtr (Z 40) (.con (i6 0)), some (36, true)⟩, oo 42 (.pick (Z 36) (Z 41) (.con (.bool false)))]) (.cond (Z 42) .skip (.exit 0))) (.seq (.block 1 (.seq (.reg [oo 45 (.mov (Z 0)), oo 46 (.faddr (Z 3) 0), oo 47 (.faddr (Z 46) 1), oo 48 (.load none (Z 47)), oo 49 (.len false (Z 48)), oo 50 (.call (.con (.fn 19 [] [])) [(Z 45), (Z 49)]), oo 8 (.mov (Z 50))]) (.seq (.reg [oo 51 (.faddr (Z 3) 0), oo 52 (.faddr (Z 51) 1), oo 53 (.load none (Z 52)), oo 54 (.mov (Z 8)), oo 55 (.iaddr (Z 53) (Z 54) 2 none), oo 56 (.load (some 2) (Z 55)), oo 57 (.mov (Z 6)), oo 58 (.call (.con (.fn 56 [] [])) [(Z 56), (Z 57)]), oo 9 (.mov (Z 58))]) (.seq (.reg [oo 59 (.mov (Z 9)), oo 60 (.bin .geq (Z 59) (.con (i6 0)))]) (.cond (Z 60) (.reg [oo 61 (.faddr (Z 5) 1), oo 62 (.load none (Z 61)), oo 63 (.mov (Z 8)), oo 64 (.bsl 1 false [i6 0] 1 [(0, (Z 63))]), oo 65 (.app (Z 62) (Z 64) 1 8 [i6 0]), oo 66 (.mov (Z 9)), oo 67 (.faddr (Z 5) 1), on (.store 1 (Z 67) (Z 65)), oo 6 (.mov (Z 66))]) .skip))))) (.reg [oo 43 (.mov (Z 7)), oo 44 (.bin .sub (Z 43) (.con (i6 1))), oo 7 (.mov (Z 44))])))))) (.seq (.reg [oo 68 (.mov (Z 0)), oo 69 (.mov (Z 0)), oo 70 (.faddr (Z 5) 4), oo 71 (.load none (Z 70)), oo 72 (.faddr (Z 5) 1), oo 73 (.load none (Z 72)), oo 74 (.len false (Z 73)), oo 75 (.bin .add (Z 74) (.con (i6 1))), oo 76 (.bin .mul (Z 71) (Z 75)), oo 77 (.bin .sub (.con (i6 720)) (Z 76)), oo 78 (.bin .sub (Z 77) (.con (i6 4))), oo 79 (.bsl 1 false [i6 0] 3 [(0, (.con (i6 60))), (1, (.con (i6 200))), (2, (Z 78))]), oo 80 (.call (.con (.fn 36 [] [])) [(Z 69), (Z 79)]), oo 81 (.call (.con (.fn 19 [] [])) [(Z 68), (Z 80)]), oo 10 (.mov (Z 81))]) (.seq (.reg [oo 82 (.mov (Z 10)), oo 83 (.mov (Z 10)), oo 84 (.mov (Z 0)), oo 85 (.mov (Z 0)), oo 86 (.call (.con (.fn 19 [] [])) [(Z 85), (.con (i6 5))]), oo 87 (.bsl 1 false [i6 0] 3 [(0, (.con (i6 0))), (1, (.con (i6 0))), (2, (Z 86))]), oo 88 (.call (.con (.fn 36 [] [])) [(Z 84), (Z 87)]), oo 89 (.bin .add (Z 83) (Z 88)), oo 90 (.build [i6 0, i6 0] [(0, 1, (Z 82)), (1, 1, (Z 89))]), oo 91 (.faddr (Z 5) 2), on (.store 2 (Z 91) (Z 90))]) (.seq (.reg [oo 92 (.load (some 6) (Z 5)), on (.store 6 (Z 4) (Z 92))]) .ret)))))))⟩
theorem comp18 : compFn Tryd.prog 18 = some F18 := by kernel_rfl
def F19 : AFn := ⟨2, 14, [.tmp 4], (.seq (.reg [oo 4 (.mov (.con (i6 0)))]) (.seq (.seq (.reg [oo 5 (.mov (Z 1)), oo 6 (.bin .lss (Z 5) (.con (i6 2)))]) (.cond (Z 6) (.seq (.reg [oo 4 (.mov (.con (i6 0)))]) .ret) .skip)) (.seq (.reg [oo 7 (.mov (Z 0)), oo 8 (.call (.con (.fn 53 [] [])) [(Z 7)]), oo 9 (.bin .shr (Z 8) (.con (.int .u64 1))), oo 10 (.mov (Z 1)), oo 11 (.conv .u64 (Z 10)), oo 12 (.bin .rem (Z 9) (Z 11)), oo 13 (.conv .i64 (Z 12)), oo 4 (.mov (Z 13))]) .ret)))⟩
theorem comp19 : compFn Tryd.prog 19 = some F19 := by kernel_rfl
def F25 : AFn := ⟨1, 37, [.tmp 2], (.seq (.reg [oo 1 (.box (Z 0)), oo 2 (.mov (.con (i6 0)))]) (.seq (.seq (.reg [oo 6 (.faddr (Z 1) 0), oo 7 (.load (some 4) (Z 6)), oo 8 (.call (.con (.fn 68 [] [])) [(Z 7)]), oo 3 (.mov (Z 8))]) (.seq (.reg [oo 9 (.mov (Z 3)), oo 10 (.bin .neq (Z 9) (.con (i6 0)))]) (.cond (Z 10) (.seq (.reg [oo 11 (.mov (Z 3)), oo 2 (.mov (Z 11))]) .ret) .skip))) (.seq (.block 0 (.seq (.reg [oo 13 (.faddr (Z 1) 4), oo 14 (.load none (Z 13)), oo 15 (.call (.con (.fn 60 [] [])) [(Z 14), (.con (i6 0)), (.con (i6 120))]), oo 16 (.un .not (Z 15)), oo 12 (.mov (Z 16))]) (.cond (Z 12) (.seq (.reg [oo 2 (.mov (.con (i6 2)))]) .ret) (.seq (.reg [oo 18 (.faddr (Z 1) 5), oo 19 (.load none (Z 18)), oo 20 (.len false (Z 19)), oo 21 (.faddr (Z 1) 0), oo 22 (.faddr (Z 21) 0), oo 23 (.load none (Z 22)), oo 24 (.len false (Z 23)), oo 25 (.bin .neq (Z 20) (Z 24)), oo 17 (.mov (Z 25))]) (.cond (Z 17) (.seq (.reg [oo 2 (.mov (.con (i6 1)))]) .ret) .skip))))) (.seq (.seq (.reg [oo 26 (.faddr (Z 1) 5), oo 27 (.load none (Z 26)), oo 28 (.len false (Z 27)), oo 29 (.mov (.con (i6 0)))]) (.block 1 (.loop (.seq (.reg [oo 30 (.bin .lss (Z 29) (Z 28))]) (.seq (.cond (Z 30) .skip (.exit 1)) (.seq (.block 2 (.seq (.reg [oo 31 (.iaddr (Z 27) (Z 29) 1 none), oo 32 (.load none (Z 31)), oo 5 (.mov (Z 32))]) (.seq (.reg [oo 33 (.mov (Z 5)), oo 34 (.call (.con (.fn 60 [] [])) [(Z 33), (.con (i6 0)), (.con (i6 720))]), oo 35 (.un .not (Z 34))]) (.cond (Z 35) (.seq (.reg [oo 2 (.mov (.con (i6 2)))]) .ret) .skip)))) (.reg [oo 36 (.bin .add (Z 29) (.con (i6 1))), oo 29 (.mov (Z 36))]))))))) (.seq (.reg [oo 2 (.mov (.con (i6 0)))]) .ret)))))⟩
theorem comp25 : compFn Tryd.prog 25 = some F25 := by kernel_rfl
def F29 : AFn := ⟨2, 26, [.tmp 4], (.seq (.reg [oo 4 (.mov (.con (.bool false)))]) (.seq (.seq (.reg [oo 6 (.mov (Z 0)), oo 7 (.len false (Z 6)), oo 8 (.mov (Z 1)), oo 9 (.len false (Z 8)), oo 10 (.bin .neq (Z 7) (Z 9))]) (.cond (Z 10) (.seq (.reg [oo 4 (.mov (.con (.bool false)))]) .ret) .skip)) (.seq (.seq (.reg [oo 5 (.mov (.con (i6 0)))]) (.block 0 (.loop (.seq (.seq (.reg [oo 11 (.mov (Z 5)), oo 12 (.mov (Z 0)), oo 13 (.len false (Z 12)), oo 14 (.bin .lss (Z 11) (Z 13))]) (.cond (Z 14) .skip (.exit 0))) (.seq (.block 1 (.seq (.dreg 8 [oo 17 (.mov (Z 0)), oo 18 (.mov (Z 5)), oo 19 (.iaddr (Z 17) (Z 18) 1 none), oo 20 (.load none (Z 19)), oo 21 (.mov (Z 1)), oo 22 (.mov (Z 5)), oo 23 (.iaddr (Z 21) (Z 22) 1 none), oo 24 (.load none (Z 23)), oo 25 (.bin .neq (Z 20) (Z 24))]) (.cond (Z 25) (.seq (.reg [oo 4 (.mov (.con (.bool false)))]) .ret) .skip))) (.reg [oo 15 (.mov (Z 5)), oo 16 (.bin .add (Z 15) (.con (i6 1))), oo 5 (.mov (Z 16))])))))) (.seq (.reg [oo 4 (.mov (.con (.bool true)))]) .ret))))⟩
theorem comp29 : compFn Tryd.prog 29 = some F29 := by kernel_rfl
def F32 : AFn := ⟨3, 30, [.tmp 6, .tmp 7], (.seq (.reg [oo 3 (.box (Z 0)), oo 4 (.box (Z 1)), oo 5 (.box (Z 2)), oo 6 (.mov (.con (i6 0))), oo 7 (.mov (.con (i6 0)))]) (.seq (.reg [oo 11 (.load (some 6) (Z 3)), oo 12 (.load (some 6) (Z 4)), oo 13 (.load (some 6) (Z 5)), oo 14 (.bsl 6 true [i6 0, .nils, i6 0, i6 0, i6 0, i6 0] 2 [(0, (Z 12)), (1, (Z 13))]), oo 15 (.call (.con (.fn 58 [] [])) [(Z 11), (Z 14)]), oo 10 (.mov (Z 15)), oo 16 (.ext (Z 10) 0), oo 17 (.ext (Z 10) 1), oo 8 (.mov (Z 16)), oo 9 (.mov (Z 17))]) (.seq (.seq (.reg [oo 18 (.mov (Z 9)), oo 19 (.bin .neq (Z 18) (.con (i6 0)))]) (.cond (Z 19) (.seq (.reg [oo 20 (.mov (Z 9)), oo 6 (.mov (.con (i6 0))), oo 7 (.mov (Z 20))]) .ret) .skip)) (.seq (.dreg 8 [oo 21 (.mov (Z 8)), oo 22 (.iaddr (Z 21) (.con (i6 0)) 7 none), oo 23 (.load (some 7) (Z 22)), oo 24 (.mov (Z 8)), oo 25 (.iaddr (Z 24) (.con (i6 1)) 7 none), oo 26 (.load (some 7) (Z 25)), oo 27 (.faddr (Z 3) 4), oo 28 (.load none (Z 27)), oo 29 (.call (.con (.fn 72 [] [])) [(Z 23), (Z 26), (Z 28)]), oo 6 (.mov (Z 29)), oo 7 (.mov (.con (i6 0)))]) .ret))))⟩
theorem comp32 : compFn Tryd.prog 32 = some F32 := by kernel_rfl
def F34 : AFn := ⟨3, 38, [.tmp 6, .tmp 7, .tmp 8], (.seq (.reg [oo 3 (.box (Z 0)), oo 6 (.mov (.con (i6 0))), oo 7 (.mov (.con (i6 0))), oo 8 (.mov (.con (i6 0)))]) (.seq (.reg [oo 11 (.load (some 6) (Z 3)), oo 12 (.mov (Z 1)), oo 13 (.call (.con (.fn 58 [] [])) [(Z 11), (Z 12)]), oo 10 (.mov (Z 13)), oo 14 (.ext (Z 10) 0), oo 15 (.ext (Z 10) 1), oo 9 (.mov (Z 14)), oo 8 (.mov (Z 15))]) (.seq (.block 0 (.seq (.reg [oo 17 (.mov (Z 8)), oo 18 (.bin .neq (Z 17) (.con (i6 0))), oo 16 (.mov (Z 18))]) (.cond (Z 16) (.seq (.reg [oo 19 (.mov (Z 8)), oo 6 (.mov (.con (i6 0))), oo 7 (.mov (.con (i6 0))), oo 8 (.mov (Z 19))]) .ret) (.seq (.reg [oo 21 (.mov (Z 2)), oo 22 (.faddr (Z 3) 0), oo 23 (.faddr (Z 22) 0), oo 24 (.load none (Z 23)), oo 25 (.len false (Z 24)), oo 26 (.bin .sub (Z 25) (.con (i6 1))), oo 27 (.call (.con (.fn 60 [] [])) [(Z 21), (.con (i6 0)), (Z 26)]), oo 28 (.un .not (Z 27)), oo 20 (.mov (Z 28))]) (.cond (Z 20) (.seq (.reg [oo 6 (.mov (.con (i6 0))), oo 7 (.mov (.con (i6 0))), oo 8 (.mov (.con (i6 7)))]) .ret) .skip))))) (.seq (.reg [oo 30 (.mov (Z 9)), oo 31 (.mov (Z 2)), oo 32 (.call (.con (.fn 74 [] [])) [(Z 30), (Z 31)]), oo 33 (.call (.con (.fn 75 [] [])) [(Z 32)]), oo 29 (.mov (Z 33)), oo 34 (.ext (Z 29) 0), oo 35 (.ext (Z 29) 1), oo 6 (.mov (Z 34)), oo 7 (.mov (Z 35))]) (.seq (.reg [oo 36 (.mov (Z 6)), oo 37 (.mov (Z 7)), oo 6 (.mov (Z 36)), oo 7 (.mov (Z 37)), oo 8 (.mov (.con (i6 0)))]) .ret)))))⟩
theorem comp34 : compFn Tryd.prog 34 = some F34 := by kernel_rfl
def F36 : AFn := ⟨2, 15, [.tmp 4], (.seq (.reg [oo 4 (.mov (.con (i6 0)))]) (.seq (.seq (.reg [oo 5 (.mov (Z 1)), oo 6 (.len false (Z 5)), oo 7 (.bin .eql (Z 6) (.con (i6 0)))]) (.cond (Z 7) (.seq (.reg [oo 4 (.mov (.con (i6 0)))]) .ret) .skip)) (.seq (.reg [oo 8 (.mov (Z 1)), oo 9 (.mov (Z 0)), oo 10 (.mov (Z 1)), oo 11 (.len false (Z 10)), oo 12 (.call (.con (.fn 19 [] [])) [(Z 9), (Z 11)]), oo 13 (.iaddr (Z 8) (Z 12) 1 none), oo 14 (.load none (Z 13)), oo 4 (.mov (Z 14))]) .ret)))⟩
theorem comp36 : compFn Tryd.prog 36 = some F36 := by kernel_rfl
def F39 : AFn := ⟨2, 45, [.tmp 4, .tmp 5], (.seq (.reg [oo 2 (.box (Z 0)), oo 4 (.mov (.con (.nils))), oo 5 (.mov (.con (i6 0)))]) (.seq (.reg [oo 14 (.load (some 6) (Z 2)), oo 15 (.mov (Z 1)), oo 16 (.call (.con (.fn 58 [] [])) [(Z 14), (Z 15)]), oo 13 (.mov (Z 16)), oo 17 (.ext (Z 13) 0), oo 18 (.ext (Z 13) 1), oo 6 (.mov (Z 17)), oo 7 (.mov (Z 18))]) (.seq (.seq (.reg [oo 19 (.mov (Z 7)), oo 20 (.bin .neq (Z 19) (.con (i6 0)))]) (.cond (Z 20) (.seq (.reg [oo 21 (.mov (Z 7)), oo 4 (.mov (.con (.nils))), oo 5 (.mov (Z 21))]) .ret) .skip)) (.seq (.reg [oo 22 (.load (some 6) (Z 2)), oo 23 (.mov (Z 6)), oo 24 (.call (.con (.fn 77 [] [])) [(Z 22), (Z 23)]), oo 8 (.box (.con (.agg [.nils, .nils, .nils, i6 0, i6 0, .nils, .nils, .nils]))), on (.store 8 (Z 8) (Z 24))]) (.seq (.reg [oo 9 (.mov (.con (.int .u64 0)))]) (.seq (.reg [oo 10 (.mov (.con (.nils)))]) (.seq (.seq (.reg [oo 25 (.mov (Z 6)), oo 26 (.len false (Z 25)), oo 27 (.mov (.con (i6 0)))]) (.block 0 (.loop (.seq (.reg [oo 28 (.bin .lss (Z 27) (Z 26))]) (.seq (.cond (Z 28) .skip (.exit 0)) (.seq (.block 1 (.seq (.reg [oo 29 (.mov (Z 27)), oo 11 (.mov (Z 29))]) (.seq (.reg [oo 30 (.load (some 8) (Z 8)), oo 31 (.mov (Z 11)), oo 32 (.mov (Z 9)), oo 33 (.call (.con (.fn 78 [] [])) [(Z 30), (Z 31), (Z 32)]), oo 12 (.mov (Z 33))]) (.seq (.seq (.reg [oo 34 (.mov (Z 12)), oo 35 (.bin .eql (Z 34) (.con (i6 0)))]) (.cond (Z 35) (.reg [oo 36 (.mov (Z 9)), oo 37 (.mov (Z 11)), oo 38 (.call (.con (.fn 79 [] [])) [(Z 36), (Z 37)]), oo 9 (.mov (Z 38))]) .skip)) (.reg [oo 39 (.mov (Z 10)), oo 40 (.mov (Z 12)), oo 41 (.bsl 1 false [i6 0] 1 [(0, (Z 40))]), oo 42 (.app (Z 39) (Z 41) 1 8 [i6 0]), oo 10 (.mov (Z 42))]))))) (.reg [oo 43 (.bin .add (Z 27) (.con (i6 1))), oo 27 (.mov (Z 43))]))))))) (.seq (.reg [oo 44 (.mov (Z 10)), oo 4 (.mov (Z 44)), oo 5 (.mov (.con (i6 0)))]) .ret))))))))⟩
theorem comp39 : compFn Tryd.prog 39 = some F39 := by kernel_rfl
def F40 : AFn := ⟨2, 32, [.tmp 4], (.seq (.reg [oo 4 (.mov (.con (.nils)))]) (.seq (.reg [oo 5 (.mov (.con (.nils)))]) (.seq (.seq (.reg [oo 6 (.mov (.con (i6 0)))]) (.block 0 (.loop (.seq (.seq (.reg [oo 7 (.mov (Z 6)), oo 8 (.mov (Z 0)), oo 9 (.len false (Z 8)), oo 10 (.bin .lss (Z 7) (Z 9)), oo 11 (.mov (Z 10)), ⟨some 12, .mov (Z 6), some (11, true)⟩, ⟨some 13, .mov (Z 1), some (11, true)⟩, ⟨some 14, .len false (Z 13), some (11, true)⟩, ⟨some 15, .bin .lss (Z 12) (Z 14), some (11, true)⟩, oo 16 (.pick (Z 11) (Z 15) (.con (.bool false)))]) (.cond (Z 16) .skip (.exit 0))) (.seq (.block 1 (.seq (.reg [oo 19 (.mov (Z 1)), oo 20 (.mov (Z 6)), oo 21 (.iaddr (Z 19) (Z 20) 1 none), oo 22 (.load none (Z 21)), oo 23 (.bin .eql (Z 22) (.con (i6 0)))]) (.cond (Z 23) (.reg [oo 24 (.mov (Z 5)), oo 25 (.mov (Z 0)), oo 26 (.mov (Z 6)), oo 27 (.iaddr (Z 25) (Z 26) 6 none), oo 28 (.load (some 6) (Z 27)), oo 29 (.bsl 6 true [i6 0, .nils, i6 0, i6 0, i6 0, i6 0] 1 [(0, (Z 28))]), oo 30 (.app (Z 24) (Z 29) 6 64 [i6 0, .nils, i6 0, i6 0, i6 0, i6 0]), oo 5 (.mov (Z 30))]) .skip))) (.reg [oo 17 (.mov (Z 6)), oo 18 (.bin .add (Z 17) (.con (i6 1))), oo 6 (.mov (Z 18))])))))) (.seq (.reg [oo 31 (.mov (Z 5)), oo 4 (.mov (Z 31))]) .ret))))⟩
theorem comp40 : compFn Tryd.prog 40 = some F40 := by kernel_rfl
def F44 : AFn := ⟨2, 26, [.tmp 4], (.seq (.reg [oo 4 (.mov (.con (.bool false)))]) (.seq (.seq (.reg [oo 6 (.mov (Z 0)), oo 7 (.len false (Z 6)), oo 8 (.mov (Z 1)), oo 9 (.len false (Z 8)), oo 10 (.bin .neq (Z 7) (Z 9))]) (.cond (Z 10) (.seq (.reg [oo 4 (.mov (.con (.bool false)))]) .ret) .skip)) (.seq (.seq (.reg [oo 5 (.mov (.con (i6 0)))]) (.block 0 (.loop (.seq (.seq (.reg [oo 11 (.mov (Z 5)), oo 12 (.mov (Z 0)), oo 13 (.len false (Z 12)), oo 14 (.bin .lss (Z 11) (Z 13))]) (.cond (Z 14) .skip (.exit 0))) (.seq (.block 1 (.seq (.dreg 8 [oo 17 (.mov (Z 0)), oo 18 (.mov (Z 5)), oo 19 (.iaddr (Z 17) (Z 18) 1 none), oo 20 (.load none (Z 19)), oo 21 (.mov (Z 1)), oo 22 (.mov (Z 5)), oo 23 (.iaddr (Z 21) (Z 22) 1 none), oo 24 (.load none (Z 23)), oo 25 (.bin .neq (Z 20) (Z 24))]) (.cond (Z 25) (.seq (.reg [oo 4 (.mov (.con (.bool false)))]) .ret) .skip))) (.reg [oo 15 (.mov (Z 5)), oo 16 (.bin .add (Z 15) (.con (i6 1))), oo 5 (.mov (Z 16))])))))) (.seq (.reg [oo 4 (.mov (.con (.bool true)))]) .ret))))⟩
theorem comp44 : compFn Tryd.prog 44 = some F44 := by kernel_rfl
def F45 : AFn := ⟨2, 28, [.tmp 4, .tmp 5], (.seq (.reg [oo 2 (.box (Z 0)), oo 4 (.mov (.con (.nils))), oo 5 (.mov (.con (i6 0)))]) (.seq (.reg [oo 9 (.load (some 6) (Z 2)), oo 10 (.mov (Z 1)), oo 11 (.call (.con (.fn 58 [] [])) [(Z 9), (Z 10)]), oo 8 (.mov (Z 11)), oo 12 (.ext (Z 8) 0), oo 13 (.ext (Z 8) 1), oo 6 (.mov (Z 12)), oo 7 (.mov (Z 13))]) (.seq (.block 0 (.seq (.reg [oo 15 (.mov (Z 7)), oo 16 (.bin .neq (Z 15) (.con (i6 0))), oo 14 (.mov (Z 16))]) (.cond (Z 14) (.seq (.reg [oo 17 (.mov (Z 7)), oo 4 (.mov (.con (.nils))), oo 5 (.mov (Z 17))]) .ret) (.seq (.reg [oo 19 (.mov (Z 6)), oo 20 (.len false (Z 19)), oo 21 (.bin .gtr (Z 20) (.con (i6 8))), oo 18 (.mov (Z 21))]) (.cond (Z 18) (.seq (.reg [oo 4 (.mov (.con (.nils))), oo 5 (.mov (.con (i6 5)))]) .ret) .skip))))) (.seq (.reg [oo 22 (.load (some 6) (Z 2)), oo 23 (.mov (Z 6)), oo 24 (.call (.con (.fn 77 [] [])) [(Z 22), (Z 23)]), oo 25 (.call (.con (.fn 81 [] [])) [(Z 24)]), oo 26 (.call (.con (.fn 82 [] [])) [(Z 25)]), oo 27 (.call (.con (.fn 80 [] [])) [(Z 26)]), oo 4 (.mov (Z 27)), oo 5 (.mov (.con (i6 0)))]) .ret))))⟩
theorem comp45 : compFn Tryd.prog 45 = some F45 := by kernel_rfl
def F46 : AFn := ⟨2, 43, [.tmp 4, .tmp 5, .tmp 6], (.seq (.reg [oo 4 (.mov (.con (.nils))), oo 5 (.mov (.con (.nils))), oo 6 (.mov (.con (i6 0)))]) (.seq (.reg [oo 7 (.mov (.con (.nils)))]) (.seq (.reg [oo 8 (.mov (.con (.nils)))]) (.seq (.reg [oo 9 (.mov (.con (i6 0)))]) (.seq (.seq (.reg [oo 10 (.mov (.con (i6 0)))]) (.block 0 (.loop (.seq (.seq (.reg [oo 11 (.mov (Z 10)), oo 12 (.mov (Z 0)), oo 13 (.len false (Z 12)), oo 14 (.bin .lss (Z 11) (Z 13))]) (.cond (Z 14) .skip (.exit 0))) (.seq (.block 1 (.seq (.reg [oo 17 (.mov (Z 1)), oo 18 (.mov (Z 10)), oo 19 (.bin .shr (Z 17) (Z 18)), oo 20 (.bin .and (Z 19) (.con (i6 1))), oo 21 (.bin .eql (Z 20) (.con (i6 1)))]) (.cond (Z 21) (.dreg 20 [oo 22 (.mov (Z 7)), oo 23 (.mov (Z 10)), oo 24 (.bsl 1 false [i6 0] 1 [(0, (Z 23))]), oo 25 (.app (Z 22) (Z 24) 1 8 [i6 0]), oo 26 (.mov (Z 8)), oo 27 (.mov (Z 0)), oo 28 (.mov (Z 10)), oo 29 (.iaddr (Z 27) (Z 28) 6 none), oo 30 (.load (some 6) (Z 29)), oo 31 (.bsl 6 true [i6 0, .nils, i6 0, i6 0, i6 0, i6 0] 1 [(0, (Z 30))]), oo 32 (.app (Z 26) (Z 31) 6 64 [i6 0, .nils, i6 0, i6 0, i6 0, i6 0]), oo 33 (.mov (Z 9)), oo 34 (.mov (Z 0)), oo 35 (.mov (Z 10)), oo 36 (.iaddr (Z 34) (Z 35) 6 none), oo 37 (.faddr (Z 36) 5), oo 38 (.load none (Z 37)), oo 39 (.bin .add (Z 33) (Z 38)), oo 7 (.mov (Z 25)), oo 8 (.mov (Z 32)), oo 9 (.mov (Z 39))]) .skip))) (.reg [oo 15 (.mov (Z 10)), oo 16 (.bin .add (Z 15) (.con (i6 1))), oo 10 (.mov (Z 16))])))))) (.seq (.reg [oo 40 (.mov (Z 7)), oo 41 (.mov (Z 8)), oo 42 (.mov (Z 9)), oo 4 (.mov (Z 40)), oo 5 (.mov (Z 41)), oo 6 (.mov (Z 42))]) .ret))))))⟩
theorem comp46 : compFn Tryd.prog 46 = some F46 := by kernel_rfl
def F47 : AFn := ⟨2, 41, [.tmp 4], (.seq (.reg [oo 4 (.mov (.con (.bool false)))]) (.seq (.seq (.reg [oo 5 (.mov (.con (i6 0)))]) (.block 0 (.loop (.seq (.seq (.reg [oo 6 (.mov (Z 5)), oo 7 (.mov (Z 0)), oo 8 (.len false (Z 7)), oo 9 (.bin .lss (Z 6) (Z 8)), oo 10 (.mov (Z 9)), ⟨some 11, .mov (Z 5), some (10, true)⟩, ⟨some 12, .mov (Z 1), some (10, true)⟩, ⟨some 13, .len false (Z 12), some (10, true)⟩, ⟨some 14, .bin .lss (Z 11) (Z 13), some (10, true)⟩, oo 15 (.pick (Z 10) (Z 14) (.con (.bool false)))]) (.cond (Z 15) .skip (.exit 0))) (.seq (.block 1 (.seq (.dreg 8 [oo 18 (.mov (Z 0)), oo 19 (.mov (Z 5)), oo 20 (.iaddr (Z 18) (Z 19) 1 none), oo 21 (.load none (Z 20)), oo 22 (.mov (Z 1)), oo 23 (.mov (Z 5)), oo 24 (.iaddr (Z 22) (Z 23) 1 none), oo 25 (.load none (Z 24)), oo 26 (.bin .neq (Z 21) (Z 25))]) (.cond (Z 26) (.seq (.dreg 8 [oo 27 (.mov (Z 0)), oo 28 (.mov (Z 5)), oo 29 (.iaddr (Z 27) (Z 28) 1 none), oo 30 (.load none (Z 29)), oo 31 (.mov (Z 1)), oo 32 (.mov (Z 5)), oo 33 (.iaddr (Z 31) (Z 32) 1 none), oo 34 (.load none (Z 33)), oo 35 (.bin .lss (Z 30) (Z 34)), oo 4 (.mov (Z 35))]) .ret) .skip))) (.reg [oo 16 (.mov (Z 5)), oo 17 (.bin .add (Z 16) (.con (i6 1))), oo 5 (.mov (Z 17))])))))) (.seq (.reg [oo 36 (.mov (Z 0)), oo 37 (.len false (Z 36)), oo 38 (.mov (Z 1)), oo 39 (.len false (Z 38)), oo 40 (.bin .lss (Z 37) (Z 39)), oo 4 (.mov (Z 40))]) .ret)))⟩
theorem comp47 : compFn Tryd.prog 47 = some F47 := by kernel_rfl
def F50 : AFn := ⟨0, 9, [.cell 0 (some 6)], (.seq (.reg [oo 0 (.box (.con (.agg [.nils, .nils, .nils, i6 0, i6 0, .nils])))]) (.seq (.reg [oo 1 (.bsl 1 false [i6 0] 3 [(0, (.con (i6 110))), (1, (.con (i6 80))), (2, (.con (i6 50)))]), oo 2 (.build [i6 0, i6 0] [(0, 1, (.con (i6 0))), (1, 1, (.con (i6 1)))]), oo 3 (.build [i6 0, i6 0] [(0, 1, (.con (i6 1))), (1, 1, (.con (i6 2)))]), oo 4 (.build [i6 0, i6 0] [(0, 1, (.con (i6 0))), (1, 1, (.con (i6 2)))]), oo 5 (.bsl 2 true [i6 0, i6 0] 3 [(0, (Z 2)), (1, (Z 3)), (2, (Z 4))]), oo 6 (.build [.nils, .nils, .nils, i6 0] [(0, 1, (Z 1)), (1, 1, (Z 5)), (3, 1, (.con (i6 6)))]), oo 7 (.bsl 1 false [i6 0] 3 [(0, (.con (i6 590))), (1, (.con (i6 500))), (2, (.con (i6 0)))]), oo 8 (.build [.nils, .nils, .nils, i6 0, i6 0, .nils] [(0, 4, (Z 6)), (4, 1, (.con (i6 5))), (5, 1, (Z 7))]), on (.store 6 (Z 0) (Z 8))]) .ret))⟩
theorem comp50 : compFn Tryd.prog 50 = some F50 := by kernel_rfl
def F51 : AFn := ⟨0, 12, [.tmp 0], (.seq (.reg [oo 0 (.mov (.con (.nils)))]) (.seq (.reg [oo 1 (.bsl 1 false [i6 0] 2 [(0, (.con (i6 0))), (1, (.con (i6 1)))]), oo 2 (.call (.con (.fn 83 [] [])) [(.con (i6 100)), (.con (i6 110))]), oo 3 (.build [i6 0, .nils, i6 0, i6 0, i6 0, i6 0] [(1, 1, (Z 1)), (2, 2, (Z 2)), (4, 1, (.con (i6 20))), (5, 1, (.con (i6 50)))]), oo 4 (.bsl 1 false [i6 0] 1 [(0, (.con (i6 1)))]), oo 5 (.call (.con (.fn 83 [] [])) [(.con (i6 120)), (.con (i6 120))]), oo 6 (.build [i6 0, .nils, i6 0, i6 0, i6 0, i6 0] [(0, 1, (.con (i6 2))), (1, 1, (Z 4)), (2, 2, (Z 5)), (4, 1, (.con (i6 30))), (5, 1, (.con (i6 40)))]), oo 7 (.call (.con (.fn 83 [] [])) [(.con (i6 300)), (.con (i6 300))]), oo 8 (.build [i6 0, .nils, i6 0, i6 0, i6 0, i6 0] [(0, 1, (.con (i6 1))), (2, 2, (Z 7)), (4, 1, (.con (i6 10))), (5, 1, (.con (i6 90)))]), oo 9 (.call (.con (.fn 83 [] [])) [(.con (i6 650)), (.con (i6 650))]), oo 10 (.build [i6 0, .nils, i6 0, i6 0, i6 0, i6 0] [(2, 2, (Z 9)), (4, 1, (.con (i6 10))), (5, 1, (.con (i6 1)))]), oo 11 (.bsl 6 true [i6 0, .nils, i6 0, i6 0, i6 0, i6 0] 4 [(0, (Z 3)), (1, (Z 6)), (2, (Z 8)), (3, (Z 10))]), oo 0 (.mov (Z 11))]) .ret))⟩
theorem comp51 : compFn Tryd.prog 51 = some F51 := by kernel_rfl
def F52 : AFn := ⟨1, 12, [.cell 2 (some 6)], (.seq (.reg [oo 2 (.box (.con (.agg [i6 0, .nils, i6 0, i6 0, i6 0, i6 0])))]) (.seq (.reg [oo 4 (.call (.con (.fn 51 [] [])) []), oo 5 (.iaddr (Z 4) (.con (i6 1)) 6 none), oo 6 (.load (some 6) (Z 5)), oo 3 (.box (.con (.agg [i6 0, .nils, i6 0, i6 0, i6 0, i6 0]))), on (.store 6 (Z 3) (Z 6))]) (.seq (.reg [oo 7 (.mov (Z 0)), oo 8 (.mov (Z 0)), oo 9 (.call (.con (.fn 83 [] [])) [(Z 7), (Z 8)]), oo 10 (.faddr (Z 3) 2), on (.store 2 (Z 10) (Z 9))]) (.seq (.reg [oo 11 (.load (some 6) (Z 3)), on (.store 6 (Z 2) (Z 11))]) .ret))))⟩
theorem comp52 : compFn Tryd.prog 52 = some F52 := by kernel_rfl
def F53 : AFn := ⟨1, 31, [.tmp 2], (.seq (.reg [oo 2 (.mov (.con (.int .u64 0)))]) (.seq (.reg [oo 4 (.mov (Z 0)), oo 5 (.mov (Z 0)), oo 6 (.nilck (Z 5)), oo 7 (.faddr (Z 6) 0), oo 8 (.load none (Z 7)), oo 9 (.bin .mul (Z 8) (.con (.int .u64 15074714826142052245))), oo 10 (.bin .add (Z 9) (.con (.int .u64 11400714819323198485))), oo 11 (.nilck (Z 4)), oo 12 (.faddr (Z 11) 0), on (.store 1 (Z 12) (Z 10))]) (.seq (.reg [oo 13 (.mov (Z 0)), oo 14 (.nilck (Z 13)), oo 15 (.faddr (Z 14) 0), oo 16 (.load none (Z 15)), oo 3 (.mov (Z 16))]) (.seq (.reg [oo 17 (.mov (Z 3)), oo 18 (.mov (Z 3)), oo 19 (.bin .shr (Z 18) (.con (.int .u64 32))), oo 20 (.bin .xor (Z 17) (Z 19)), oo 21 (.bin .mul (Z 20) (.con (.int .u64 15760922415973212899))), oo 3 (.mov (Z 21))]) (.seq (.reg [oo 22 (.mov (Z 3)), oo 23 (.mov (Z 3)), oo 24 (.bin .shr (Z 23) (.con (.int .u64 32))), oo 25 (.bin .xor (Z 22) (Z 24)), oo 26 (.bin .mul (Z 25) (.con (.int .u64 15760922415973212899))), oo 3 (.mov (Z 26))]) (.seq (.reg [oo 27 (.mov (Z 3)), oo 28 (.mov (Z 3)), oo 29 (.bin .shr (Z 28) (.con (.int .u64 32))), oo 30 (.bin .xor (Z 27) (Z 29)), oo 2 (.mov (Z 30))]) .ret))))))⟩
theorem comp53 : compFn Tryd.prog 53 = some F53 := by kernel_rfl
def F54 : AFn := ⟨4, 142, [.cell 8 (some 4)], (.seq (.reg [oo 8 (.box (.con (.agg [.nils, .nils, .nils, i6 0])))]) (.seq (.reg [oo 20 (.mov (Z 0)), oo 21 (.mov (Z 0)), oo 22 (.bsl 1 false [i6 0] 2 [(0, (.con (i6 4))), (1, (.con (i6 11)))]), oo 23 (.call (.con (.fn 36 [] [])) [(Z 21), (Z 22)]), oo 24 (.call (.con (.fn 19 [] [])) [(Z 20), (Z 23)]), oo 25 (.build [.nils, .nils, .nils, i6 0] [(3, 1, (Z 24))]), oo 9 (.box (.con (.agg [.nils, .nils, .nils, i6 0]))), on (.store 4 (Z 9) (Z 25))]) (.seq (.reg [oo 26 (.mov (Z 0)), oo 27 (.mov (Z 1)), oo 28 (.call (.con (.fn 55 [] [])) [(Z 26), (.con (i6 1)), (Z 27)]), oo 10 (.mov (Z 28))]) (.seq (.seq (.reg [oo 11 (.mov (.con (i6 0)))]) (.block 0 (.loop (.seq (.seq (.reg [oo 29 (.mov (Z 11)), oo 30 (.mov (Z 10)), oo 31 (.bin .lss (Z 29) (Z 30))]) (.cond (Z 31) .skip (.exit 0))) (.seq (.block 1 (.dreg 10 [oo 34 (.faddr (Z 9) 0), oo 35 (.load none (Z 34)), oo 36 (.mov (Z 0)), oo 37 (.mov (Z 0)), oo 38 (.call (.con (.fn 19 [] [])) [(Z 37), (.con (i6 60))]), oo 39 (.mov (Z 0)), oo 40 (.call (.con (.fn 19 [] [])) [(Z 39), (.con (i6 150))]), oo 41 (.bsl 1 false [i6 0] 3 [(0, (Z 38)), (1, (Z 40)), (2, (.con (i6 500)))]), oo 42 (.call (.con (.fn 36 [] [])) [(Z 36), (Z 41)]), oo 43 (.bsl 1 false [i6 0] 1 [(0, (Z 42))]), oo 44 (.app (Z 35) (Z 43) 1 8 [i6 0]), oo 45 (.faddr (Z 9) 0), on (.store 1 (Z 45) (Z 44))])) (.reg [oo 32 (.mov (Z 11)), oo 33 (.bin .add (Z 32) (.con (i6 1))), oo 11 (.mov (Z 33))])))))) (.seq (.seq (.reg [oo 46 (.mov (Z 0)), oo 47 (.mov (Z 2)), oo 48 (.bin .add (Z 47) (.con (i6 1))), oo 49 (.call (.con (.fn 19 [] [])) [(Z 46), (Z 48)]), oo 12 (.mov (Z 49))]) (.block 2 (.loop (.seq (.seq (.reg [oo 50 (.mov (Z 12)), oo 51 (.bin .gtr (Z 50) (.con (i6 0))), oo 52 (.mov (Z 51)), ⟨some 53, .mov (Z 10), some (52, true)⟩, ⟨some 54, .bin .gtr (Z 53) (.con (i6 1)), some (52, true)⟩, oo 55 (.pick (Z 52) (Z 54) (.con (.bool false)))]) (.cond (Z 55) .skip (.exit 2))) (.seq (.block 3 (.seq (.reg [oo 58 (.mov (Z 0)), oo 59 (.mov (Z 10)), oo 60 (.call (.con (.fn 19 [] [])) [(Z 58), (Z 59)]), oo 13 (.mov (Z 60))]) (.dreg 13 [oo 61 (.faddr (Z 9) 1), oo 62 (.load none (Z 61)), oo 63 (.mov (Z 13)), oo 64 (.mov (Z 13)), oo 65 (.mov (Z 0)), oo 66 (.mov (Z 10)), oo 67 (.bin .sub (Z 66) (.con (i6 1))), oo 68 (.call (.con (.fn 55 [] [])) [(Z 65), (.con (i6 1)), (Z 67)]), oo 69 (.bin .add (Z 64) (Z 68)), oo 70 (.mov (Z 10)), oo 71 (.call (.con (.fn 84 [] [])) [(Z 69), (Z 70)]), oo 72 (.build [i6 0, i6 0] [(0, 1, (Z 63)), (1, 1, (Z 71))]), oo 73 (.bsl 2 true [i6 0, i6 0] 1 [(0, (Z 72))]), oo 74 (.app (Z 62) (Z 73) 2 16 [i6 0, i6 0]), oo 75 (.faddr (Z 9) 1), on (.store 1 (Z 75) (Z 74))]))) (.reg [oo 56 (.mov (Z 12)), oo 57 (.bin .sub (Z 56) (.con (i6 1))), oo 12 (.mov (Z 57))])))))) (.seq (.seq (.reg [oo 76 (.mov (Z 0)), oo 77 (.mov (Z 3)), oo 78 (.bin .add (Z 77) (.con (i6 1))), oo 79 (.call (.con (.fn 19 [] [])) [(Z 76), (Z 78)]), oo 14 (.mov (Z 79))]) (.block 4 (.loop (.seq (.seq (.reg [oo 80 (.mov (Z 14)), oo 81 (.bin .gtr (Z 80) (.con (i6 0)))]) (.cond (Z 81) .skip (.exit 4))) (.seq (.block 5 (.seq (.reg [oo 84 (.mov (Z 0)), oo 85 (.mov (Z 0)), oo 86 (.bsl 1 false [i6 0] 2 [(0, (.con (i6 30))), (1, (.con (i6 90)))]), oo 87 (.call (.con (.fn 36 [] [])) [(Z 85), (Z 86)]), oo 88 (.call (.con (.fn 85 [] [])) [(Z 84), (.con (i6 0)), (Z 87)]), oo 89 (.mov (Z 0)), oo 90 (.mov (Z 0)), oo 91 (.bsl 1 false [i6 0] 2 [(0, (.con (i6 0))), (1, (.con (i6 4)))]), oo 92 (.call (.con (.fn 36 [] [])) [(Z 90), (Z 91)]), oo 93 (.call (.con (.fn 85 [] [])) [(Z 89), (.con (i6 0)), (Z 92)]), oo 94 (.mov (Z 0)), oo 95 (.call (.con (.fn 55 [] [])) [(Z 94), (.con (i6 1)), (.con (i6 4))]), oo 96 (.mov (Z 0)), oo 97 (.mov (Z 10)), oo 98 (.call (.con (.fn 19 [] [])) [(Z 96), (Z 97)]), oo 99 (.build [i6 0, i6 0, i6 0, i6 0, i6 0, i6 0, .nils] [(0, 2, (Z 88)), (2, 2, (Z 93)), (4, 1, (Z 95)), (5, 1, (Z 98))]), oo 15 (.box (.con (.agg [i6 0, i6 0, i6 0, i6 0, i6 0, i6 0, .nils]))), on (.store 7 (Z 15) (Z 99))]) (.seq (.reg [oo 100 (.faddr (Z 15) 5), oo 101 (.load none (Z 100)), oo 16 (.mov (Z 101))]) (.seq (.seq (.reg [oo 102 (.mov (Z 0)), oo 103 (.call (.con (.fn 19 [] [])) [(Z 102), (.con (i6 5))]), oo 17 (.mov (Z 103))]) (.block 6 (.loop (.seq (.seq (.reg [oo 104 (.mov (Z 17)), oo 105 (.bin .gtr (Z 104) (.con (i6 0))), oo 106 (.mov (Z 105)), ⟨some 107, .faddr (Z 9) 1, some (106, true)⟩, ⟨some 108, .load none (Z 107), some (106, true)⟩, ⟨some 109, .len false (Z 108), some (106, true)⟩, ⟨some 110, .bin .gtr (Z 109) (.con (i6 0)), some (106, true)⟩, oo 111 (.pick (Z 106) (Z 110) (.con (.bool false)))]) (.cond (Z 111) .skip (.exit 6))) (.seq (.block 7 (.seq (.reg [oo 114 (.mov (Z 0)), oo 115 (.faddr (Z 9) 1), oo 116 (.load none (Z 115)), oo 117 (.len false (Z 116)), oo 118 (.call (.con (.fn 19 [] [])) [(Z 114), (Z 117)]), oo 18 (.mov (Z 118))]) (.seq (.reg [oo 119 (.faddr (Z 9) 1), oo 120 (.load none (Z 119)), oo 121 (.mov (Z 18)), oo 122 (.iaddr (Z 120) (Z 121) 2 none), oo 123 (.load (some 2) (Z 122)), oo 124 (.mov (Z 16)), oo 125 (.call (.con (.fn 56 [] [])) [(Z 123), (Z 124)]), oo 19 (.mov (Z 125))]) (.seq (.reg [oo 126 (.mov (Z 19)), oo 127 (.bin .geq (Z 126) (.con (i6 0)))]) (.cond (Z 127) (.reg [oo 128 (.faddr (Z 15) 6), oo 129 (.load none (Z 128)), oo 130 (.mov (Z 18)), oo 131 (.bsl 1 false [i6 0] 1 [(0, (Z 130))]), oo 132 (.app (Z 129) (Z 131) 1 8 [i6 0]), oo 133 (.mov (Z 19)), oo 134 (.faddr (Z 15) 6), on (.store 1 (Z 134) (Z 132)), oo 16 (.mov (Z 133))]) .skip))))) (.reg [oo 112 (.mov (Z 17)), oo 113 (.bin .sub (Z 112) (.con (i6 1))), oo 17 (.mov (Z 113))])))))) (.reg [oo 135 (.faddr (Z 9) 2), oo 136 (.load none (Z 135)), oo 137 (.load (some 7) (Z 15)), oo 138 (.bsl 7 true [i6 0, i6 0, i6 0, i6 0, i6 0, i6 0, .nils] 1 [(0, (Z 137))]), oo 139 (.app (Z 136) (Z 138) 7 72 [i6 0, i6 0, i6 0, i6 0, i6 0, i6 0, .nils]), oo 140 (.faddr (Z 9) 2), on (.store 1 (Z 140) (Z 139))]))))) (.reg [oo 82 (.mov (Z 14)), oo 83 (.bin .sub (Z 82) (.con (i6 1))), oo 14 (.mov (Z 83))])))))) (.seq (.reg [oo 141 (.load (some 4) (Z 9)), on (.store 4 (Z 8) (Z 141))]) .ret)))))))⟩
theorem comp54 : compFn Tryd.prog 54 = some F54 := by kernel_rfl
def F55 : AFn := ⟨3, 15, [.tmp 6], (.seq (.reg [oo 6 (.mov (.con (i6 0)))]) (.seq (.reg [oo 7 (.mov (Z 1)), oo 8 (.mov (Z 0)), oo 9 (.mov (Z 2)), oo 10 (.mov (Z 1)), oo 11 (.bin .sub (Z 9) (Z 10)), oo 12 (.bin .add (Z 11) (.con (i6 1))), oo 13 (.call (.con (.fn 19 [] [])) [(Z 8), (Z 12)]), oo 14 (.bin .add (Z 7) (Z 13)), oo 6 (.mov (Z 14))]) .ret))⟩
theorem comp55 : compFn Tryd.prog 55 = some F55 := by kernel_rfl
def F56 : AFn := ⟨2, 18, [.tmp 4], (.seq (.reg [oo 2 (.box (Z 0)), oo 4 (.mov (.con (i6 0)))]) (.seq (.seq (.reg [oo 5 (.mov (Z 1))]) (.block 0 (.seq (.reg [oo 7 (.faddr (Z 2) 0), oo 8 (.load none (Z 7)), oo 9 (.bin .eql (Z 5) (Z 8)), oo 6 (.mov (Z 9))]) (.cond (Z 6) (.seq (.reg [oo 10 (.faddr (Z 2) 1), oo 11 (.load none (Z 10)), oo 4 (.mov (Z 11))]) .ret) (.seq (.reg [oo 13 (.faddr (Z 2) 1), oo 14 (.load none (Z 13)), oo 15 (.bin .eql (Z 5) (Z 14)), oo 12 (.mov (Z 15))]) (.cond (Z 12) (.seq (.reg [oo 16 (.faddr (Z 2) 0), oo 17 (.load none (Z 16)), oo 4 (.mov (Z 17))]) .ret) .skip)))))) (.seq (.reg [oo 4 (.mov (.con (i6 (-1))))]) .ret)))⟩
theorem comp56 : compFn Tryd.prog 56 = some F56 := by kernel_rfl
def F58 : AFn := ⟨2, 50, [.tmp 4, .tmp 5], (.seq (.reg [oo 2 (.box (Z 0)), oo 4 (.mov (.con (.nils))), oo 5 (.mov (.con (i6 0)))]) (.seq (.seq (.reg [oo 13 (.load (some 6) (Z 2)), oo 14 (.call (.con (.fn 25 [] [])) [(Z 13)]), oo 6 (.mov (Z 14))]) (.seq (.reg [oo 15 (.mov (Z 6)), oo 16 (.bin .neq (Z 15) (.con (i6 0)))]) (.cond (Z 16) (.seq (.reg [oo 17 (.mov (Z 6)), oo 4 (.mov (.con (.nils))), oo 5 (.mov (Z 17))]) .ret) .skip))) (.seq (.seq (.reg [oo 18 (.mov (Z 1)), oo 19 (.len false (Z 18)), oo 20 (.bin .gtr (Z 19) (.con (i6 10)))]) (.cond (Z 20) (.seq (.reg [oo 4 (.mov (.con (.nils))), oo 5 (.mov (.con (i6 5)))]) .ret) .skip)) (.seq (.reg [oo 7 (.mov (.con (.nils)))]) (.seq (.seq (.reg [oo 21 (.mov (Z 1)), oo 22 (.len false (Z 21)), oo 23 (.mov (.con (i6 0)))]) (.block 0 (.loop (.seq (.reg [oo 24 (.bin .lss (Z 23) (Z 22))]) (.seq (.cond (Z 24) .skip (.exit 0)) (.seq (.block 1 (.seq (.reg [oo 25 (.iaddr (Z 21) (Z 23) 6 none), oo 26 (.load (some 6) (Z 25)), oo 9 (.box (.con (.agg [i6 0, .nils, i6 0, i6 0, i6 0, i6 0]))), on (.store 6 (Z 9) (Z 26))]) (.seq (.reg [oo 28 (.faddr (Z 2) 0), oo 29 (.load (some 4) (Z 28)), oo 30 (.load (some 6) (Z 9)), oo 31 (.call (.con (.fn 86 [] [])) [(Z 29), (Z 30)]), oo 27 (.mov (Z 31)), oo 32 (.ext (Z 27) 0), oo 33 (.ext (Z 27) 1), oo 10 (.mov (Z 32)), oo 11 (.mov (Z 33))]) (.seq (.seq (.reg [oo 34 (.mov (Z 11)), oo 35 (.bin .neq (Z 34) (.con (i6 0)))]) (.cond (Z 35) (.seq (.reg [oo 36 (.mov (Z 11)), oo 4 (.mov (.con (.nils))), oo 5 (.mov (Z 36))]) .ret) .skip)) (.seq (.seq (.reg [oo 37 (.load (some 6) (Z 9)), oo 38 (.call (.con (.fn 87 [] [])) [(Z 37)]), oo 12 (.mov (Z 38))]) (.seq (.reg [oo 39 (.mov (Z 12)), oo 40 (.bin .neq (Z 39) (.con (i6 0)))]) (.cond (Z 40) (.seq (.reg [oo 41 (.mov (Z 12)), oo 4 (.mov (.con (.nils))), oo 5 (.mov (Z 41))]) .ret) .skip))) (.reg [oo 42 (.mov (Z 7)), oo 43 (.load (some 6) (Z 9)), oo 44 (.mov (Z 10)), oo 45 (.build [i6 0, .nils, i6 0, i6 0, i6 0, i6 0, .nils] [(0, 6, (Z 43)), (6, 1, (Z 44))]), oo 46 (.bsl 7 true [i6 0, .nils, i6 0, i6 0, i6 0, i6 0, .nils] 1 [(0, (Z 45))]), oo 47 (.app (Z 42) (Z 46) 7 88 [i6 0, .nils, i6 0, i6 0, i6 0, i6 0, .nils]), oo 7 (.mov (Z 47))])))))) (.reg [oo 48 (.bin .add (Z 23) (.con (i6 1))), oo 23 (.mov (Z 48))]))))))) (.seq (.reg [oo 49 (.mov (Z 7)), oo 4 (.mov (Z 49)), oo 5 (.mov (.con (i6 0)))]) .ret))))))⟩
theorem comp58 : compFn Tryd.prog 58 = some F58 := by kernel_rfl
def F60 : AFn := ⟨3, 15, [.tmp 6], (.seq (.reg [oo 6 (.mov (.con (.bool false)))]) (.seq (.reg [oo 7 (.mov (Z 0)), oo 8 (.mov (Z 1)), oo 9 (.bin .geq (Z 7) (Z 8)), oo 10 (.mov (Z 9)), ⟨some 11, .mov (Z 0), some (10, true)⟩, ⟨some 12, .mov (Z 2), some (10, true)⟩, ⟨some 13, .bin .leq (Z 11) (Z 12), some (10, true)⟩, oo 14 (.pick (Z 10) (Z 13) (.con (.bool false))), oo 6 (.mov (Z 14))]) .ret))⟩
theorem comp60 : compFn Tryd.prog 60 = some F60 := by kernel_rfl
def F61 : AFn := ⟨1, 4, [.tmp 2], (.seq (.reg [oo 1 (.box (Z 0)), oo 2 (.mov (.con (.nilf)))]) (.seq (.reg [oo 3 (.mkfn 88 [] [(Z 1)]), oo 2 (.mov (Z 3))]) .ret))⟩
theorem comp61 : compFn Tryd.prog 61 = some F61 := by kernel_rfl
def F62 : AFn := ⟨2, 59, [.tmp 4], (.seq (.reg [oo 2 (.box (Z 0)), oo 3 (.box (Z 1)), oo 4 (.mov (.con (.nils)))]) (.seq (.reg [oo 10 (.faddr (Z 2) 6), oo 11 (.load none (Z 10)), oo 12 (.len false (Z 11)), oo 13 (.mksl 4 true [i6 0, i6 0, i6 0, i6 0] 32 (.con (i6 0)) (Z 12)), oo 5 (.mov (Z 13))]) (.seq (.reg [oo 6 (.mov (.con (i6 (-1))))]) (.seq (.seq (.reg [oo 14 (.faddr (Z 2) 6), oo 15 (.load none (Z 14)), oo 16 (.len false (Z 15)), oo 17 (.mov (.con (i6 0)))]) (.block 0 (.loop (.seq (.reg [oo 18 (.bin .lss (Z 17) (Z 16))]) (.seq (.cond (Z 18) .skip (.exit 0)) (.seq (.block 1 (.seq (.reg [oo 19 (.mov (Z 17)), oo 20 (.iaddr (Z 15) (Z 17) 1 none), oo 21 (.load none (Z 20)), oo 7 (.mov (Z 19)), oo 8 (.mov (Z 21))]) (.seq (.reg [oo 22 (.faddr (Z 3) 0), oo 23 (.load none (Z 22)), oo 24 (.mov (Z 7)), oo 25 (.faddr (Z 2) 0), oo 26 (.faddr (Z 25) 4), oo 27 (.load none (Z 26)), oo 28 (.bin .mul (Z 24) (Z 27)), oo 29 (.bin .add (Z 23) (Z 28)), oo 30 (.faddr (Z 3) 1), oo 31 (.load none (Z 30)), oo 32 (.mov (Z 7)), oo 33 (.bin .add (Z 32) (.con (i6 1))), oo 34 (.faddr (Z 2) 0), oo 35 (.faddr (Z 34) 4), oo 36 (.load none (Z 35)), oo 37 (.bin .mul (Z 33) (Z 36)), oo 38 (.bin .add (Z 31) (Z 37)), oo 39 (.bin .sub (Z 38) (.con (i6 1))), oo 40 (.build [i6 0, i6 0] [(0, 1, (Z 29)), (1, 1, (Z 39))]), oo 9 (.box (.con (.agg [i6 0, i6 0]))), on (.store 2 (Z 9) (Z 40))]) (.seq (.seq (.reg [oo 41 (.mov (Z 7)), oo 42 (.bin .gtr (Z 41) (.con (i6 0)))]) (.cond (Z 42) (.reg [oo 43 (.faddr (Z 2) 0), oo 44 (.faddr (Z 43) 1), oo 45 (.load none (Z 44)), oo 46 (.mov (Z 7)), oo 47 (.bin .sub (Z 46) (.con (i6 1))), oo 48 (.iaddr (Z 45) (Z 47) 1 none), oo 49 (.load none (Z 48)), oo 6 (.mov (Z 49))]) .skip)) (.reg [oo 50 (.mov (Z 5)), oo 51 (.load (some 2) (Z 9)), oo 52 (.mov (Z 8)), oo 53 (.mov (Z 6)), oo 54 (.build [i6 0, i6 0, i6 0, i6 0] [(0, 2, (Z 51)), (2, 1, (Z 52)), (3, 1, (Z 53))]), oo 55 (.bsl 4 true [i6 0, i6 0, i6 0, i6 0] 1 [(0, (Z 54))]), oo 56 (.app (Z 50) (Z 55) 4 32 [i6 0, i6 0, i6 0, i6 0]), oo 5 (.mov (Z 56))]))))) (.reg [oo 57 (.bin .add (Z 17) (.con (i6 1))), oo 17 (.mov (Z 57))]))))))) (.seq (.reg [oo 58 (.mov (Z 5)), oo 4 (.mov (Z 58))]) .ret)))))⟩
theorem comp62 : compFn Tryd.prog 62 = some F62 := by kernel_rfl
def F63 : AFn := ⟨2, 19, [.tmp 4], (.seq (.reg [oo 4 (.mov (.con (i6 0)))]) (.seq (.seq (.reg [oo 6 (.mov (Z 0)), oo 7 (.len false (Z 6)), oo 8 (.mov (.con (i6 0)))]) (.block 0 (.loop (.seq (.reg [oo 9 (.bin .lss (Z 8) (Z 7))]) (.seq (.cond (Z 9) .skip (.exit 0)) (.seq (.block 1 (.seq (.reg [oo 10 (.mov (Z 8)), oo 5 (.mov (Z 10))]) (.seq (.reg [oo 11 (.mov (Z 1)), oo 12 (.mov (Z 0)), oo 13 (.mov (Z 5)), oo 14 (.iaddr (Z 12) (Z 13) 4 none), oo 15 (.load (some 4) (Z 14)), oo 16 (.call (Z 11) [(Z 15)])]) (.cond (Z 16) (.seq (.reg [oo 17 (.mov (Z 5)), oo 4 (.mov (Z 17))]) .ret) .skip)))) (.reg [oo 18 (.bin .add (Z 8) (.con (i6 1))), oo 8 (.mov (Z 18))]))))))) (.seq (.reg [oo 4 (.mov (.con (i6 (-1))))]) .ret)))⟩
theorem comp63 : compFn Tryd.prog 63 = some F63 := by kernel_rfl
def F68 : AFn := ⟨1, 42, [.tmp 2], (.seq (.reg [oo 1 (.box (Z 0)), oo 2 (.mov (.con (i6 0)))]) (.seq (.seq (.reg [oo 8 (.load (some 4) (Z 1)), oo 9 (.call (.con (.fn 89 [] [])) [(Z 8)]), oo 3 (.mov (Z 9))]) (.seq (.reg [oo 10 (.mov (Z 3)), oo 11 (.bin .neq (Z 10) (.con (i6 0)))]) (.cond (Z 11) (.seq (.reg [oo 12 (.mov (Z 3)), oo 2 (.mov (Z 12))]) .ret) .skip))) (.seq (.seq (.reg [oo 13 (.load (some 4) (Z 1)), oo 14 (.call (.con (.fn 90 [] [])) [(Z 13)]), oo 4 (.mov (Z 14))]) (.seq (.reg [oo 15 (.mov (Z 4)), oo 16 (.bin .neq (Z 15) (.con (i6 0)))]) (.cond (Z 16) (.seq (.reg [oo 17 (.mov (Z 4)), oo 2 (.mov (Z 17))]) .ret) .skip))) (.seq (.block 0 (.seq (.reg [oo 19 (.faddr (Z 1) 3), oo 20 (.load none (Z 19)), oo 21 (.call (.con (.fn 91 [] [])) [(Z 20), (.con (i6 0)), (.con (i6 96))]), oo 22 (.un .not (Z 21)), oo 18 (.mov (Z 22))]) (.cond (Z 18) (.seq (.reg [oo 2 (.mov (.con (i6 2)))]) .ret) (.seq (.reg [oo 24 (.faddr (Z 1) 2), oo 25 (.load none (Z 24)), oo 26 (.len false (Z 25)), oo 27 (.bin .gtr (Z 26) (.con (i6 12))), oo 23 (.mov (Z 27))]) (.cond (Z 23) (.seq (.reg [oo 2 (.mov (.con (i6 5)))]) .ret) .skip))))) (.seq (.seq (.reg [oo 28 (.faddr (Z 1) 2), oo 29 (.load none (Z 28)), oo 30 (.len false (Z 29)), oo 31 (.mov (.con (i6 0)))]) (.block 1 (.loop (.seq (.reg [oo 32 (.bin .lss (Z 31) (Z 30))]) (.seq (.cond (Z 32) .skip (.exit 1)) (.seq (.block 2 (.seq (.reg [oo 33 (.iaddr (Z 29) (Z 31) 7 none), oo 34 (.load (some 7) (Z 33)), oo 6 (.box (.con (.agg [i6 0, i6 0, i6 0, i6 0, i6 0, i6 0, .nils]))), on (.store 7 (Z 6) (Z 34))]) (.seq (.reg [oo 35 (.load (some 4) (Z 1)), oo 36 (.load (some 7) (Z 6)), oo 37 (.call (.con (.fn 92 [] [])) [(Z 35), (Z 36)]), oo 7 (.mov (Z 37))]) (.seq (.reg [oo 38 (.mov (Z 7)), oo 39 (.bin .neq (Z 38) (.con (i6 0)))]) (.cond (Z 39) (.seq (.reg [oo 40 (.mov (Z 7)), oo 2 (.mov (Z 40))]) .ret) .skip))))) (.reg [oo 41 (.bin .add (Z 31) (.con (i6 1))), oo 31 (.mov (Z 41))]))))))) (.seq (.reg [oo 2 (.mov (.con (i6 0)))]) .ret))))))⟩
theorem comp68 : compFn Tryd.prog 68 = some F68 := by kernel_rfl
def F72 : AFn := ⟨3, 33, [.tmp 6], (.seq (.reg [oo 3 (.box (Z 0)), oo 4 (.box (Z 1)), oo 5 (.box (Z 2)), oo 6 (.mov (.con (i6 0)))]) (.seq (.reg [oo 7 (.box (.con (.bool false))), oo 8 (.box (.con (.bool false))), on (.store 1 (Z 7) (.con (.bool false))), on (.store 1 (Z 8) (.con (.bool false)))]) (.seq (.seq (.reg [oo 12 (.load (some 7) (Z 3)), oo 13 (.call (.con (.fn 61 [] [])) [(Z 12)])]) (.block 0 (.rangeF (Z 13) [14] (.reg [oo 9 (.box (.con (.agg [i6 0, i6 0]))), on (.store 2 (Z 9) (Z 14))]) (.block 1 (.seq (.reg [oo 15 (.load (some 7) (Z 3)), oo 16 (.load (some 2) (Z 9)), oo 17 (.call (.con (.fn 62 [] [])) [(Z 15), (Z 16)]), oo 10 (.box (.con (.nils))), on (.store 1 (Z 10) (Z 17))]) (.seq (.reg [oo 18 (.load (some 7) (Z 4)), oo 19 (.call (.con (.fn 61 [] [])) [(Z 18)])]) (.block 2 (.rangeF (Z 19) [20] (.reg [oo 11 (.box (.con (.agg [i6 0, i6 0]))), on (.store 2 (Z 11) (Z 20))]) (.block 3 (.seq (.dreg 5 [oo 21 (.load none (Z 10)), oo 22 (.load (some 7) (Z 4)), oo 23 (.load (some 2) (Z 11)), oo 24 (.call (.con (.fn 62 [] [])) [(Z 22), (Z 23)]), oo 25 (.load none (Z 5)), oo 26 (.call (.con (.fn 95 [] [])) [(Z 21), (Z 24), (Z 25)])]) (.cond (Z 26) (.reg [on (.store 1 (Z 7) (.con (.bool true)))]) (.reg [on (.store 1 (Z 8) (.con (.bool true)))])))))))))))) (.seq (.block 4 (.seq (.reg [oo 28 (.load none (Z 8)), oo 29 (.un .not (Z 28)), oo 27 (.mov (Z 29))]) (.cond (Z 27) (.seq (.reg [oo 6 (.mov (.con (i6 1)))]) .ret) (.seq (.reg [oo 31 (.load none (Z 7)), oo 32 (.un .not (Z 31)), oo 30 (.mov (Z 32))]) (.cond (Z 30) (.seq (.reg [oo 6 (.mov (.con (i6 2)))]) .ret) .skip))))) (.seq (.reg [oo 6 (.mov (.con (i6 3)))]) .ret)))))⟩
theorem comp72 : compFn Tryd.prog 72 = some F72 := by kernel_rfl
def F74 : AFn := ⟨2, 38, [.cell 4 (some 720)], (.seq (.reg [oo 4 (.box (.con (.agg (List.replicate 720 (.bool false)))))]) (.seq (.reg [oo 10 (.build (List.replicate 720 (.bool false)) []), oo 5 (.box (.con (.agg (List.replicate 720 (.bool false))))), on (.store 720 (Z 5) (Z 10))]) (.seq (.seq (.reg [oo 11 (.mov (Z 0)), oo 12 (.len false (Z 11)), oo 13 (.mov (.con (i6 0)))]) (.block 0 (.loop (.seq (.reg [oo 14 (.bin .lss (Z 13) (Z 12))]) (.seq (.cond (Z 14) .skip (.exit 0)) (.seq (.block 1 (.seq (.reg [oo 15 (.iaddr (Z 11) (Z 13) 7 none), oo 16 (.load (some 7) (Z 15)), oo 7 (.box (.con (.agg [i6 0, .nils, i6 0, i6 0, i6 0, i6 0, .nils]))), on (.store 7 (Z 7) (Z 16))]) (.seq (.reg [oo 17 (.load (some 7) (Z 7)), oo 18 (.faddr (Z 7) 0), oo 19 (.faddr (Z 18) 2), oo 20 (.load (some 2) (Z 19)), oo 21 (.call (.con (.fn 62 [] [])) [(Z 17), (Z 20)]), oo 22 (.len false (Z 21)), oo 23 (.mov (.con (i6 0)))]) (.block 2 (.loop (.seq (.reg [oo 24 (.bin .lss (Z 23) (Z 22))]) (.seq (.cond (Z 24) .skip (.exit 2)) (.seq (.block 3 (.seq (.reg [oo 25 (.iaddr (Z 21) (Z 23) 4 none), oo 26 (.load (some 4) (Z 25)), oo 9 (.box (.con (.agg [i6 0, i6 0, i6 0, i6 0]))), on (.store 4 (Z 9) (Z 26))]) (.seq (.reg [oo 27 (.faddr (Z 9) 2), oo 28 (.load none (Z 27)), oo 29 (.mov (Z 1)), oo 30 (.bin .eql (Z 28) (Z 29))]) (.cond (Z 30) (.reg [oo 31 (.load (some 720) (Z 5)), oo 32 (.faddr (Z 9) 0), oo 33 (.load (some 2) (Z 32)), oo 34 (.call (.con (.fn 96 [] [])) [(Z 31), (Z 33)]), on (.store 720 (Z 5) (Z 34))]) .skip)))) (.reg [oo 35 (.bin .add (Z 23) (.con (i6 1))), oo 23 (.mov (Z 35))]))))))))) (.reg [oo 36 (.bin .add (Z 13) (.con (i6 1))), oo 13 (.mov (Z 36))]))))))) (.seq (.reg [oo 37 (.load (some 720) (Z 5)), on (.store 720 (Z 4) (Z 37))]) .ret))))⟩
theorem comp74 : compFn Tryd.prog 74 = some F74 := by kernel_rfl
def F75 : AFn := ⟨1, 26, [.tmp 2, .tmp 3], (.seq (.reg [oo 1 (.box (Z 0)), oo 2 (.mov (.con (i6 0))), oo 3 (.mov (.con (i6 0)))]) (.seq (.reg [oo 4 (.mov (.con (i6 0)))]) (.seq (.seq (.reg [oo 7 (.load (some 720) (Z 1)), oo 8 (.mov (.con (i6 0)))]) (.block 0 (.loop (.seq (.reg [oo 9 (.bin .lss (Z 8) (.con (i6 720)))]) (.seq (.cond (Z 9) .skip (.exit 0)) (.seq (.block 1 (.seq (.reg [oo 10 (.mov (Z 8)), oo 11 (.aidx (Z 7) (Z 8) 720 1 none), oo 5 (.mov (Z 10)), oo 6 (.mov (Z 11))]) (.seq (.reg [oo 12 (.mov (Z 4)), oo 13 (.bin .add (Z 12) (.con (i6 1))), oo 4 (.mov (Z 13))]) (.seq (.seq (.reg [oo 14 (.mov (Z 6))]) (.cond (Z 14) (.reg [oo 4 (.mov (.con (i6 0)))]) .skip)) (.seq (.reg [oo 15 (.mov (Z 4)), oo 16 (.mov (Z 3)), oo 17 (.bin .gtr (Z 15) (Z 16))]) (.cond (Z 17) (.reg [oo 18 (.mov (Z 5)), oo 19 (.mov (Z 4)), oo 20 (.bin .sub (Z 18) (Z 19)), oo 21 (.bin .add (Z 20) (.con (i6 1))), oo 22 (.mov (Z 4)), oo 2 (.mov (Z 21)), oo 3 (.mov (Z 22))]) .skip)))))) (.reg [oo 23 (.bin .add (Z 8) (.con (i6 1))), oo 8 (.mov (Z 23))]))))))) (.seq (.reg [oo 24 (.mov (Z 2)), oo 25 (.mov (Z 3)), oo 2 (.mov (Z 24)), oo 3 (.mov (Z 25))]) .ret))))⟩
theorem comp75 : compFn Tryd.prog 75 = some F75 := by kernel_rfl
def F77 : AFn := ⟨2, 50, [.cell 4 (some 8)], (.seq (.reg [oo 2 (.box (Z 0)), oo 4 (.box (.con (.agg [.nils, .nils, .nils, i6 0, i6 0, .nils, .nils, .nils])))]) (.seq (.reg [oo 10 (.mov (Z 1)), oo 11 (.len false (Z 10)), oo 12 (.mksl 1 false [.int .u64 0] 8 (Z 11) (Z 11)), oo 5 (.mov (Z 12))]) (.seq (.seq (.reg [oo 13 (.mov (Z 1)), oo 14 (.len false (Z 13)), oo 15 (.mov (.con (i6 0)))]) (.block 0 (.loop (.seq (.reg [oo 16 (.bin .lss (Z 15) (Z 14))]) (.seq (.cond (Z 16) .skip (.exit 0)) (.seq (.block 1 (.seq (.reg [oo 17 (.mov (Z 15)), oo 18 (.iaddr (Z 13) (Z 15) 7 none), oo 19 (.load (some 7) (Z 18)), oo 7 (.box (.con (.agg [i6 0, .nils, i6 0, i6 0, i6 0, i6 0, .nils]))), oo 6 (.mov (Z 17)), on (.store 7 (Z 7) (Z 19))]) (.seq (.reg [oo 20 (.mov (Z 1)), oo 21 (.mov (Z 6)), oo 22 (.slc false 7 (Z 20) none (some (Z 21))), oo 23 (.len false (Z 22)), oo 24 (.mov (.con (i6 0)))]) (.block 2 (.loop (.seq (.reg [oo 25 (.bin .lss (Z 24) (Z 23))]) (.seq (.cond (Z 25) .skip (.exit 2)) (.seq (.block 3 (.seq (.reg [oo 26 (.mov (Z 24)), oo 27 (.iaddr (Z 22) (Z 24) 7 none), oo 28 (.load (some 7) (Z 27)), oo 9 (.box (.con (.agg [i6 0, .nils, i6 0, i6 0, i6 0, i6 0, .nils]))), oo 8 (.mov (Z 26)), on (.store 7 (Z 9) (Z 28))]) (.seq (.reg [oo 29 (.load (some 7) (Z 7)), oo 30 (.load (some 7) (Z 9)), oo 31 (.faddr (Z 2) 4), oo 32 (.load none (Z 31)), oo 33 (.call (.con (.fn 72 [] [])) [(Z 29), (Z 30), (Z 32)]), oo 34 (.bin .neq (Z 33) (.con (i6 2)))]) (.cond (Z 34) (.reg [oo 35 (.mov (Z 5)), oo 36 (.mov (Z 6)), oo 37 (.mov (Z 5)), oo 38 (.mov (Z 6)), oo 39 (.iaddr (Z 37) (Z 38) 1 none), oo 40 (.load none (Z 39)), oo 41 (.mov (Z 8)), oo 42 (.call (.con (.fn 79 [] [])) [(Z 40), (Z 41)]), oo 43 (.iaddr (Z 35) (Z 36) 1 none), on (.store 1 (Z 43) (Z 42))]) .skip)))) (.reg [oo 44 (.bin .add (Z 24) (.con (i6 1))), oo 24 (.mov (Z 44))]))))))))) (.reg [oo 45 (.bin .add (Z 15) (.con (i6 1))), oo 15 (.mov (Z 45))]))))))) (.seq (.reg [oo 46 (.load (some 6) (Z 2)), oo 47 (.mov (Z 1)), oo 48 (.mov (Z 5)), oo 49 (.build [.nils, .nils, .nils, i6 0, i6 0, .nils, .nils, .nils] [(0, 6, (Z 46)), (6, 1, (Z 47)), (7, 1, (Z 48))]), on (.store 8 (Z 4) (Z 49))]) .ret))))⟩
theorem comp77 : compFn Tryd.prog 77 = some F77 := by kernel_rfl
def F78 : AFn := ⟨3, 20, [.tmp 6], (.seq (.reg [oo 3 (.box (Z 0)), oo 6 (.mov (.con (i6 0)))]) (.seq (.reg [oo 8 (.load (some 8) (Z 3)), oo 9 (.mov (Z 1)), oo 10 (.mov (Z 2)), oo 11 (.build [.nils, .nils, .nils, i6 0, i6 0, .nils, .nils, .nils, i6 0, .int .u64 0] [(0, 8, (Z 8)), (8, 1, (Z 9)), (9, 1, (Z 10))]), oo 7 (.box (.con (.agg [.nils, .nils, .nils, i6 0, i6 0, .nils, .nils, .nils, i6 0, .int .u64 0]))), on (.store 10 (Z 7) (Z 11))]) (.seq (.reg [oo 12 (.load (some 10) (Z 7)), oo 13 (.mkfn 99 [(Z 12)] []), oo 14 (.load (some 10) (Z 7)), oo 15 (.mkfn 100 [(Z 14)] []), oo 16 (.load (some 10) (Z 7)), oo 17 (.mkfn 101 [(Z 16)] []), oo 18 (.bsl 1 false [.nilf] 3 [(0, (Z 13)), (1, (Z 15)), (2, (Z 17))]), oo 19 (.call (.con (.fn 98 [] [])) [(Z 18)]), oo 6 (.mov (Z 19))]) .ret)))⟩
theorem comp78 : compFn Tryd.prog 78 = some F78 := by kernel_rfl
def F79 : AFn := ⟨2, 9, [.tmp 4], (.seq (.reg [oo 4 (.mov (.con (.int .u64 0)))]) (.seq (.reg [oo 5 (.mov (Z 0)), oo 6 (.mov (Z 1)), oo 7 (.bin .shl (.con (.int .u64 1)) (Z 6)), oo 8 (.bin .or (Z 5) (Z 7)), oo 4 (.mov (Z 8))]) .ret))⟩
theorem comp79 : compFn Tryd.prog 79 = some F79 := by kernel_rfl
def F80 : AFn := ⟨1, 5, [.tmp 2], (.seq (.reg [oo 2 (.mov (.con (.nils)))]) (.seq (.reg [oo 3 (.mov (Z 0)), oo 4 (.call (.con (.fn 102 [] [])) [(.con (.nils)), (Z 3)]), oo 2 (.mov (Z 4))]) .ret))⟩
theorem comp80 : compFn Tryd.prog 80 = some F80 := by kernel_rfl
def F81 : AFn := ⟨1, 9, [.tmp 2], (.seq (.reg [oo 1 (.box (Z 0)), oo 2 (.mov (.con (.int .u64 0)))]) (.seq (.reg [oo 3 (.box (.con (.int .u64 0))), on (.store 1 (Z 3) (.con (.int .u64 0)))]) (.seq (.reg [oo 4 (.box (.con (.nilf)))]) (.seq (.reg [oo 5 (.mkfn 103 [] [(Z 1), (Z 3), (Z 4)]), on (.store 1 (Z 4) (Z 5))]) (.seq (.reg [oo 6 (.load none (Z 4)), oo 7 (.call (Z 6) [(.con (.int .u64 0)), (.con (i6 0))])]) (.seq (.reg [oo 8 (.load none (Z 3)), oo 2 (.mov (Z 8))]) .ret))))))⟩
theorem comp81 : compFn Tryd.prog 81 = some F81 := by kernel_rfl
def F82 : AFn := ⟨1, 4, [.tmp 2], (.seq (.reg [oo 1 (.box (Z 0)), oo 2 (.mov (.con (.nilf)))]) (.seq (.reg [oo 3 (.mkfn 105 [] [(Z 1)]), oo 2 (.mov (Z 3))]) .ret))⟩
theorem comp82 : compFn Tryd.prog 82 = some F82 := by kernel_rfl
def F83 : AFn := ⟨2, 8, [.cell 4 (some 2)], (.seq (.reg [oo 4 (.box (.con (.agg [i6 0, i6 0])))]) (.seq (.reg [oo 5 (.mov (Z 0)), oo 6 (.mov (Z 1)), oo 7 (.build [i6 0, i6 0] [(0, 1, (Z 5)), (1, 1, (Z 6))]), on (.store 2 (Z 4) (Z 7))]) .ret))⟩
theorem comp83 : compFn Tryd.prog 83 = some F83 := by kernel_rfl
def F84 : AFn := ⟨2, 16, [.tmp 4], (.seq (.reg [oo 4 (.mov (.con (i6 0)))]) (.seq (.seq (.reg [oo 5 (.mov (Z 1)), oo 6 (.bin .lss (Z 5) (.con (i6 2)))]) (.cond (Z 6) (.seq (.reg [oo 4 (.mov (.con (i6 0)))]) .ret) .skip)) (.seq (.reg [oo 7 (.mov (Z 0)), oo 8 (.mov (Z 1)), oo 9 (.bin .rem (Z 7) (Z 8)), oo 0 (.mov (Z 9))]) (.seq (.seq (.reg [oo 10 (.mov (Z 0)), oo 11 (.bin .lss (Z 10) (.con (i6 0)))]) (.cond (Z 11) (.reg [oo 12 (.mov (Z 0)), oo 13 (.mov (Z 1)), oo 14 (.bin .add (Z 12) (Z 13)), oo 0 (.mov (Z 14))]) .skip)) (.seq (.reg [oo 15 (.mov (Z 0)), oo 4 (.mov (Z 15))]) .ret)))))⟩
theorem comp84 : compFn Tryd.prog 84 = some F84 := by kernel_rfl
def F85 : AFn := ⟨3, 36, [.cell 6 (some 2)], (.seq (.reg [oo 6 (.box (.con (.agg [i6 0, i6 0])))]) (.seq (.reg [oo 8 (.mov (Z 0)), oo 9 (.mov (Z 1)), oo 10 (.mov (Z 2)), oo 11 (.call (.con (.fn 55 [] [])) [(Z 8), (Z 9), (Z 10)]), oo 7 (.mov (Z 11))]) (.seq (.seq (.reg [oo 12 (.mov (Z 0)), oo 13 (.call (.con (.fn 19 [] [])) [(Z 12), (.con (i6 3))])]) (.block 0 (.seq (.reg [oo 15 (.bin .eql (Z 13) (.con (i6 0))), oo 14 (.mov (Z 15))]) (.cond (Z 14) (.seq (.reg [oo 16 (.mov (Z 7)), oo 17 (.mov (Z 7)), oo 18 (.build [i6 0, i6 0] [(0, 1, (Z 16)), (1, 1, (Z 17))]), on (.store 2 (Z 6) (Z 18))]) .ret) (.seq (.reg [oo 20 (.bin .eql (Z 13) (.con (i6 1))), oo 19 (.mov (Z 20))]) (.cond (Z 19) (.seq (.reg [oo 21 (.mov (Z 7)), oo 22 (.mov (Z 0)), oo 23 (.mov (Z 7)), oo 24 (.mov (Z 2)), oo 25 (.mov (Z 7)), oo 26 (.bin .add (Z 25) (.con (i6 3))), oo 27 (.mn (Z 24) (Z 26)), oo 28 (.call (.con (.fn 55 [] [])) [(Z 22), (Z 23), (Z 27)]), oo 29 (.build [i6 0, i6 0] [(0, 1, (Z 21)), (1, 1, (Z 28))]), on (.store 2 (Z 6) (Z 29))]) .ret) .skip)))))) (.seq (.reg [oo 30 (.mov (Z 7)), oo 31 (.mov (Z 0)), oo 32 (.mov (Z 7)), oo 33 (.mov (Z 2)), oo 34 (.call (.con (.fn 55 [] [])) [(Z 31), (Z 32), (Z 33)]), oo 35 (.build [i6 0, i6 0] [(0, 1, (Z 30)), (1, 1, (Z 34))]), on (.store 2 (Z 6) (Z 35))]) .ret))))⟩
theorem comp85 : compFn Tryd.prog 85 = some F85 := by kernel_rfl
def F86 : AFn := ⟨2, 67, [.tmp 4, .tmp 5], (.seq (.reg [oo 2 (.box (Z 0)), oo 3 (.box (Z 1)), oo 4 (.mov (.con (.nils))), oo 5 (.mov (.con (i6 0)))]) (.seq (.block 0 (.seq (.reg [oo 12 (.faddr (Z 3) 0), oo 13 (.load none (Z 12)), oo 14 (.faddr (Z 2) 0), oo 15 (.load none (Z 14)), oo 16 (.len false (Z 15)), oo 17 (.bin .sub (Z 16) (.con (i6 1))), oo 18 (.call (.con (.fn 60 [] [])) [(Z 13), (.con (i6 0)), (Z 17)]), oo 19 (.un .not (Z 18)), oo 11 (.mov (Z 19))]) (.cond (Z 11) (.seq (.reg [oo 4 (.mov (.con (.nils))), oo 5 (.mov (.con (i6 7)))]) .ret) (.seq (.reg [oo 21 (.faddr (Z 3) 1), oo 22 (.load none (Z 21)), oo 23 (.len false (Z 22)), oo 24 (.bin .gtr (Z 23) (.con (i6 12))), oo 20 (.mov (Z 24))]) (.cond (Z 20) (.seq (.reg [oo 4 (.mov (.con (.nils))), oo 5 (.mov (.con (i6 5)))]) .ret) .skip))))) (.seq (.reg [oo 25 (.faddr (Z 3) 0), oo 26 (.load none (Z 25)), oo 6 (.mov (Z 26))]) (.seq (.reg [oo 27 (.mov (Z 6)), oo 28 (.bsl 1 false [i6 0] 1 [(0, (Z 27))]), oo 7 (.mov (Z 28))]) (.seq (.seq (.reg [oo 29 (.faddr (Z 3) 1), oo 30 (.load none (Z 29)), oo 31 (.len false (Z 30)), oo 32 (.mov (.con (i6 0)))]) (.block 1 (.loop (.seq (.reg [oo 33 (.bin .lss (Z 32) (Z 31))]) (.seq (.cond (Z 33) .skip (.exit 1)) (.seq (.block 2 (.seq (.reg [oo 34 (.iaddr (Z 30) (Z 32) 1 none), oo 35 (.load none (Z 34)), oo 9 (.mov (Z 35))]) (.seq (.seq (.reg [oo 36 (.mov (Z 9)), oo 37 (.faddr (Z 2) 1), oo 38 (.load none (Z 37)), oo 39 (.len false (Z 38)), oo 40 (.bin .sub (Z 39) (.con (i6 1))), oo 41 (.call (.con (.fn 60 [] [])) [(Z 36), (.con (i6 0)), (Z 40)]), oo 42 (.un .not (Z 41))]) (.cond (Z 42) (.seq (.reg [oo 4 (.mov (.con (.nils))), oo 5 (.mov (.con (i6 7)))]) .ret) .skip)) (.seq (.reg [oo 43 (.faddr (Z 2) 1), oo 44 (.load none (Z 43)), oo 45 (.mov (Z 9)), oo 46 (.iaddr (Z 44) (Z 45) 2 none), oo 47 (.load (some 2) (Z 46)), oo 10 (.box (.con (.agg [i6 0, i6 0]))), on (.store 2 (Z 10) (Z 47))]) (.seq (.seq (.reg [oo 48 (.mov (Z 6))]) (.block 3 (.seq (.reg [oo 50 (.faddr (Z 10) 0), oo 51 (.load none (Z 50)), oo 52 (.bin .eql (Z 48) (Z 51)), oo 49 (.mov (Z 52))]) (.cond (Z 49) (.reg [oo 53 (.faddr (Z 10) 1), oo 54 (.load none (Z 53)), oo 6 (.mov (Z 54))]) (.seq (.reg [oo 56 (.faddr (Z 10) 1), oo 57 (.load none (Z 56)), oo 58 (.bin .eql (Z 48) (Z 57)), oo 55 (.mov (Z 58))]) (.cond (Z 55) (.reg [oo 59 (.faddr (Z 10) 0), oo 60 (.load none (Z 59)), oo 6 (.mov (Z 60))]) (.seq (.reg [oo 4 (.mov (.con (.nils))), oo 5 (.mov (.con (i6 1)))]) .ret))))))) (.reg [oo 61 (.mov (Z 7)), oo 62 (.mov (Z 6)), oo 63 (.bsl 1 false [i6 0] 1 [(0, (Z 62))]), oo 64 (.app (Z 61) (Z 63) 1 8 [i6 0]), oo 7 (.mov (Z 64))])))))) (.reg [oo 65 (.bin .add (Z 32) (.con (i6 1))), oo 32 (.mov (Z 65))]))))))) (.seq (.reg [oo 66 (.mov (Z 7)), oo 4 (.mov (Z 66)), oo 5 (.mov (.con (i6 0)))]) .ret))))))⟩
theorem comp86 : compFn Tryd.prog 86 = some F86 := by kernel_rfl
def F87 : AFn := ⟨1, 53, [.tmp 2], (.seq (.reg [oo 1 (.box (Z 0)), oo 2 (.mov (.con (i6 0)))]) (.seq (.reg [oo 4 (.faddr (Z 1) 2), oo 5 (.load (some 2) (Z 4)), oo 3 (.box (.con (.agg [i6 0, i6 0]))), on (.store 2 (Z 3) (Z 5))]) (.seq (.block 0 (.seq (.reg [oo 7 (.faddr (Z 3) 0), oo 8 (.load none (Z 7)), oo 9 (.call (.con (.fn 60 [] [])) [(Z 8), (.con (i6 0)), (.con (i6 720))]), oo 10 (.un .not (Z 9)), oo 11 (.mov (Z 10)), ⟨some 12, .faddr (Z 3) 1, some (11, false)⟩, ⟨some 13, .load none (Z 12), some (11, false)⟩, ⟨some 14, .call (.con (.fn 60 [] [])) [(Z 13), (.con (i6 0)), (.con (i6 720))], some (11, false)⟩, ⟨some 15, .un .not (Z 14), some (11, false)⟩, oo 16 (.pick (Z 11) (.con (.bool true)) (Z 15)), oo 6 (.mov (Z 16))]) (.cond (Z 6) (.seq (.reg [oo 2 (.mov (.con (i6 2)))]) .ret) (.seq (.reg [oo 18 (.faddr (Z 3) 0), oo 19 (.load none (Z 18)), oo 20 (.faddr (Z 3) 1), oo 21 (.load none (Z 20)), oo 22 (.bin .gtr (Z 19) (Z 21)), oo 17 (.mov (Z 22))]) (.cond (Z 17) (.seq (.reg [oo 2 (.mov (.con (i6 9)))]) .ret) (.seq (.reg [oo 24 (.faddr (Z 3) 1), oo 25 (.load none (Z 24)), oo 26 (.faddr (Z 3) 0), oo 27 (.load none (Z 26)), oo 28 (.bin .sub (Z 25) (Z 27)), oo 29 (.bin .gtr (Z 28) (.con (i6 30))), oo 23 (.mov (Z 29))]) (.cond (Z 23) (.seq (.reg [oo 2 (.mov (.con (i6 2)))]) .ret) (.seq (.reg [oo 31 (.faddr (Z 1) 4), oo 32 (.load none (Z 31)), oo 33 (.call (.con (.fn 60 [] [])) [(Z 32), (.con (i6 1)), (.con (i6 120))]), oo 34 (.un .not (Z 33)), oo 35 (.mov (Z 34)), ⟨some 36, .faddr (Z 1) 5, some (35, false)⟩, ⟨some 37, .load none (Z 36), some (35, false)⟩, ⟨some 38, .call (.con (.fn 60 [] [])) [(Z 37), (.con (i6 0)), (.con (i6 1000000))], some (35, false)⟩, ⟨some 39, .un .not (Z 38), some (35, false)⟩, oo 40 (.pick (Z 35) (.con (.bool true)) (Z 39)), oo 30 (.mov (Z 40))]) (.cond (Z 30) (.seq (.reg [oo 2 (.mov (.con (i6 2)))]) .ret) (.seq (.reg [oo 42 (.faddr (Z 3) 1), oo 43 (.load none (Z 42)), oo 44 (.faddr (Z 1) 4), oo 45 (.load none (Z 44)), oo 46 (.faddr (Z 1) 1), oo 47 (.load none (Z 46)), oo 48 (.len false (Z 47)), oo 49 (.bin .add (Z 48) (.con (i6 1))), oo 50 (.bin .mul (Z 45) (Z 49)), oo 51 (.bin .add (Z 43) (Z 50)), oo 52 (.bin .gtr (Z 51) (.con (i6 720))), oo 41 (.mov (Z 52))]) (.cond (Z 41) (.seq (.reg [oo 2 (.mov (.con (i6 12)))]) .ret) .skip))))))))))) (.seq (.reg [oo 2 (.mov (.con (i6 0)))]) .ret))))⟩
theorem comp87 : compFn Tryd.prog 87 = some F87 := by kernel_rfl
def F88 : AFn := ⟨1, 22, [], (.seq (.reg [oo 4 (.faddr (Z 1) 0), oo 5 (.faddr (Z 4) 2), oo 6 (.faddr (Z 5) 0), oo 7 (.load none (Z 6)), oo 3 (.mov (Z 7))]) (.block 0 (.loop (.seq (.seq (.reg [oo 8 (.mov (Z 3)), oo 9 (.faddr (Z 1) 0), oo 10 (.faddr (Z 9) 2), oo 11 (.faddr (Z 10) 1), oo 12 (.load none (Z 11)), oo 13 (.bin .leq (Z 8) (Z 12))]) (.cond (Z 13) .skip (.exit 0))) (.seq (.block 1 (.seq (.reg [oo 16 (.mov (Z 0)), oo 17 (.mov (Z 3)), oo 18 (.mov (Z 3)), oo 19 (.build [i6 0, i6 0] [(0, 1, (Z 17)), (1, 1, (Z 18))]), oo 20 (.call (Z 16) [(Z 19)]), oo 21 (.un .not (Z 20))]) (.cond (Z 21) .ret .skip))) (.reg [oo 14 (.mov (Z 3)), oo 15 (.bin .add (Z 14) (.con (i6 1))), oo 3 (.mov (Z 15))]))))))⟩
theorem comp88 : compFn Tryd.prog 88 = some F88 := by kernel_rfl
def F89 : AFn := ⟨1, 26, [.tmp 2], (.seq (.reg [oo 1 (.box (Z 0)), oo 2 (.mov (.con (i6 0)))]) (.seq (.block 0 (.seq (.reg [oo 6 (.faddr (Z 1) 0), oo 7 (.load none (Z 6)), oo 8 (.len false (Z 7)), oo 9 (.bin .eql (Z 8) (.con (i6 0))), oo 5 (.mov (Z 9))]) (.cond (Z 5) (.seq (.reg [oo 2 (.mov (.con (i6 4)))]) .ret) (.seq (.reg [oo 11 (.faddr (Z 1) 0), oo 12 (.load none (Z 11)), oo 13 (.len false (Z 12)), oo 14 (.bin .gtr (Z 13) (.con (i6 12))), oo 10 (.mov (Z 14))]) (.cond (Z 10) (.seq (.reg [oo 2 (.mov (.con (i6 5)))]) .ret) .skip))))) (.seq (.seq (.reg [oo 15 (.faddr (Z 1) 0), oo 16 (.load none (Z 15)), oo 17 (.len false (Z 16)), oo 18 (.mov (.con (i6 0)))]) (.block 1 (.loop (.seq (.reg [oo 19 (.bin .lss (Z 18) (Z 17))]) (.seq (.cond (Z 19) .skip (.exit 1)) (.seq (.block 2 (.seq (.reg [oo 20 (.iaddr (Z 16) (Z 18) 1 none), oo 21 (.load none (Z 20)), oo 4 (.mov (Z 21))]) (.seq (.reg [oo 22 (.mov (Z 4)), oo 23 (.call (.con (.fn 91 [] [])) [(Z 22), (.con (i6 0)), (.con (i6 1000000))]), oo 24 (.un .not (Z 23))]) (.cond (Z 24) (.seq (.reg [oo 2 (.mov (.con (i6 2)))]) .ret) .skip)))) (.reg [oo 25 (.bin .add (Z 18) (.con (i6 1))), oo 18 (.mov (Z 25))]))))))) (.seq (.reg [oo 2 (.mov (.con (i6 0)))]) .ret))))⟩
theorem comp89 : compFn Tryd.prog 89 = some F89 := by kernel_rfl
def F90 : AFn := ⟨1, 36, [.tmp 2], (.seq (.reg [oo 1 (.box (Z 0)), oo 2 (.mov (.con (i6 0)))]) (.seq (.seq (.reg [oo 5 (.faddr (Z 1) 1), oo 6 (.load none (Z 5)), oo 7 (.len false (Z 6)), oo 8 (.bin .gtr (Z 7) (.con (i6 12)))]) (.cond (Z 8) (.seq (.reg [oo 2 (.mov (.con (i6 5)))]) .ret) .skip)) (.seq (.seq (.reg [oo 9 (.faddr (Z 1) 1), oo 10 (.load none (Z 9)), oo 11 (.len false (Z 10)), oo 12 (.mov (.con (i6 0)))]) (.block 0 (.loop (.seq (.reg [oo 13 (.bin .lss (Z 12) (Z 11))]) (.seq (.cond (Z 13) .skip (.exit 0)) (.seq (.block 1 (.seq (.reg [oo 14 (.iaddr (Z 10) (Z 12) 2 none), oo 15 (.load (some 2) (Z 14)), oo 4 (.box (.con (.agg [i6 0, i6 0]))), on (.store 2 (Z 4) (Z 15))]) (.block 2 (.seq (.reg [oo 17 (.load (some 4) (Z 1)), oo 18 (.faddr (Z 4) 0), oo 19 (.load none (Z 18)), oo 20 (.call (.con (.fn 107 [] [])) [(Z 17), (Z 19)]), oo 21 (.un .not (Z 20)), oo 22 (.mov (Z 21)), ⟨some 23, .load (some 4) (Z 1), some (22, false)⟩, ⟨some 24, .faddr (Z 4) 1, some (22, false)⟩, ⟨some 25, .load none (Z 24), some (22, false)⟩, ⟨some 26, .call (.con (.fn 107 [] [])) [(Z 23), (Z 25)], some (22, false)⟩, ⟨some 27, .un .not (Z 26), some (22, false)⟩, oo 28 (.pick (Z 22) (.con (.bool true)) (Z 27)), oo 16 (.mov (Z 28))]) (.cond (Z 16) (.seq (.reg [oo 2 (.mov (.con (i6 7)))]) .ret) (.seq (.reg [oo 30 (.faddr (Z 4) 0), oo 31 (.load none (Z 30)), oo 32 (.faddr (Z 4) 1), oo 33 (.load none (Z 32)), oo 34 (.bin .eql (Z 31) (Z 33)), oo 29 (.mov (Z 34))]) (.cond (Z 29) (.seq (.reg [oo 2 (.mov (.con (i6 1)))]) .ret) .skip))))))) (.reg [oo 35 (.bin .add (Z 12) (.con (i6 1))), oo 12 (.mov (Z 35))]))))))) (.seq (.reg [oo 2 (.mov (.con (i6 0)))]) .ret))))⟩
theorem comp90 : compFn Tryd.prog 90 = some F90 := by kernel_rfl
def F91 : AFn := ⟨3, 15, [.tmp 6], (.seq (.reg [oo 6 (.mov (.con (.bool false)))]) (.seq (.reg [oo 7 (.mov (Z 0)), oo 8 (.mov (Z 1)), oo 9 (.bin .geq (Z 7) (Z 8)), oo 10 (.mov (Z 9)), ⟨some 11, .mov (Z 0), some (10, true)⟩, ⟨some 12, .mov (Z 2), some (10, true)⟩, ⟨some 13, .bin .leq (Z 11) (Z 12), some (10, true)⟩, oo 14 (.pick (Z 10) (Z 13) (.con (.bool false))), oo 6 (.mov (Z 14))]) .ret))⟩
theorem comp91 : compFn Tryd.prog 91 = some F91 := by kernel_rfl
def F92 : AFn := ⟨2, 33, [.tmp 4], (.seq (.reg [oo 2 (.box (Z 0)), oo 3 (.box (Z 1)), oo 4 (.mov (.con (i6 0)))]) (.seq (.seq (.reg [oo 7 (.faddr (Z 3) 0), oo 8 (.load (some 2) (Z 7)), oo 9 (.call (.con (.fn 108 [] [])) [(Z 8), (.con (i6 1000000))]), oo 5 (.mov (Z 9))]) (.seq (.reg [oo 10 (.mov (Z 5)), oo 11 (.bin .neq (Z 10) (.con (i6 0)))]) (.cond (Z 11) (.seq (.reg [oo 12 (.mov (Z 5)), oo 4 (.mov (Z 12))]) .ret) .skip))) (.seq (.seq (.reg [oo 13 (.faddr (Z 3) 2), oo 14 (.load (some 2) (Z 13)), oo 15 (.call (.con (.fn 108 [] [])) [(Z 14), (.con (i6 96))]), oo 6 (.mov (Z 15))]) (.seq (.reg [oo 16 (.mov (Z 6)), oo 17 (.bin .neq (Z 16) (.con (i6 0)))]) (.cond (Z 17) (.seq (.reg [oo 18 (.mov (Z 6)), oo 4 (.mov (Z 18))]) .ret) .skip))) (.seq (.block 0 (.seq (.reg [oo 20 (.faddr (Z 3) 4), oo 21 (.load none (Z 20)), oo 22 (.call (.con (.fn 91 [] [])) [(Z 21), (.con (i6 1)), (.con (i6 96))]), oo 23 (.un .not (Z 22)), oo 19 (.mov (Z 23))]) (.cond (Z 19) (.seq (.reg [oo 4 (.mov (.con (i6 2)))]) .ret) (.seq (.reg [oo 25 (.load (some 4) (Z 2)), oo 26 (.faddr (Z 3) 5), oo 27 (.load none (Z 26)), oo 28 (.call (.con (.fn 107 [] [])) [(Z 25), (Z 27)]), oo 29 (.un .not (Z 28)), oo 24 (.mov (Z 29))]) (.cond (Z 24) (.seq (.reg [oo 4 (.mov (.con (i6 7)))]) .ret) .skip))))) (.seq (.reg [oo 30 (.load (some 4) (Z 2)), oo 31 (.load (some 7) (Z 3)), oo 32 (.call (.con (.fn 109 [] [])) [(Z 30), (Z 31)]), oo 4 (.mov (Z 32))]) .ret)))))⟩
theorem comp92 : compFn Tryd.prog 92 = some F92 := by kernel_rfl
def F95 : AFn := ⟨3, 10, [.tmp 6], (.seq (.reg [oo 4 (.box (Z 1)), oo 5 (.box (Z 2)), oo 6 (.mov (.con (.bool false)))]) (.seq (.reg [oo 7 (.mov (Z 0)), oo 8 (.mkfn 112 [] [(Z 4), (Z 5)]), oo 9 (.call (.con (.fn 111 [] [])) [(Z 7), (Z 8)]), oo 6 (.mov (Z 9))]) .ret))⟩
theorem comp95 : compFn Tryd.prog 95 = some F95 := by kernel_rfl
def F96 : AFn := ⟨2, 17, [.cell 4 (some 720)], (.seq (.reg [oo 2 (.box (Z 0)), oo 3 (.box (Z 1)), oo 4 (.box (.con (.agg (List.replicate 720 (.bool false)))))]) (.seq (.seq (.reg [oo 6 (.faddr (Z 3) 0), oo 7 (.load none (Z 6)), oo 5 (.mov (Z 7))]) (.block 0 (.loop (.seq (.seq (.reg [oo 8 (.mov (Z 5)), oo 9 (.faddr (Z 3) 1), oo 10 (.load none (Z 9)), oo 11 (.bin .leq (Z 8) (Z 10))]) (.cond (Z 11) .skip (.exit 0))) (.seq (.block 1 (.reg [oo 14 (.mov (Z 5)), oo 15 (.iaddr (Z 2) (Z 14) 1 (some 720)), on (.store 1 (Z 15) (.con (.bool true)))])) (.reg [oo 12 (.mov (Z 5)), oo 13 (.bin .add (Z 12) (.con (i6 1))), oo 5 (.mov (Z 13))])))))) (.seq (.reg [oo 16 (.load (some 720) (Z 2)), on (.store 720 (Z 4) (Z 16))]) .ret)))⟩
theorem comp96 : compFn Tryd.prog 96 = some F96 := by kernel_rfl
def F98 : AFn := ⟨1, 18, [.tmp 2], (.seq (.reg [oo 2 (.mov (.con (i6 0)))]) (.seq (.seq (.reg [oo 6 (.mov (Z 0)), oo 7 (.len false (Z 6)), oo 8 (.mov (.con (i6 0)))]) (.block 0 (.loop (.seq (.reg [oo 9 (.bin .lss (Z 8) (Z 7))]) (.seq (.cond (Z 9) .skip (.exit 0)) (.seq (.block 1 (.seq (.reg [oo 10 (.iaddr (Z 6) (Z 8) 1 none), oo 11 (.load none (Z 10)), oo 4 (.mov (Z 11))]) (.seq (.reg [oo 12 (.mov (Z 4)), oo 13 (.call (Z 12) []), oo 5 (.mov (Z 13))]) (.seq (.reg [oo 14 (.mov (Z 5)), oo 15 (.bin .neq (Z 14) (.con (i6 0)))]) (.cond (Z 15) (.seq (.reg [oo 16 (.mov (Z 5)), oo 2 (.mov (Z 16))]) .ret) .skip))))) (.reg [oo 17 (.bin .add (Z 8) (.con (i6 1))), oo 8 (.mov (Z 17))]))))))) (.seq (.reg [oo 2 (.mov (.con (i6 0)))]) .ret)))⟩
theorem comp98 : compFn Tryd.prog 98 = some F98 := by kernel_rfl
def F99 : AFn := ⟨1, 14, [.tmp 2], (.seq (.reg [oo 1 (.box (Z 0)), oo 2 (.mov (.con (i6 0)))]) (.seq (.seq (.dreg 9 [oo 3 (.faddr (Z 1) 0), oo 4 (.faddr (Z 3) 7), oo 5 (.load none (Z 4)), oo 6 (.faddr (Z 1) 8), oo 7 (.load none (Z 6)), oo 8 (.iaddr (Z 5) (Z 7) 1 none), oo 9 (.load none (Z 8)), oo 10 (.faddr (Z 1) 9), oo 11 (.load none (Z 10)), oo 12 (.bin .and (Z 9) (Z 11)), oo 13 (.bin .neq (Z 12) (.con (.int .u64 0)))]) (.cond (Z 13) (.seq (.reg [oo 2 (.mov (.con (i6 10)))]) .ret) .skip)) (.seq (.reg [oo 2 (.mov (.con (i6 0)))]) .ret)))⟩
theorem comp99 : compFn Tryd.prog 99 = some F99 := by kernel_rfl
def F100 : AFn := ⟨1, 33, [.tmp 2], (.seq (.reg [oo 1 (.box (Z 0)), oo 2 (.mov (.con (i6 0)))]) (.seq (.reg [oo 6 (.faddr (Z 1) 0), oo 7 (.faddr (Z 6) 6), oo 8 (.load none (Z 7)), oo 9 (.faddr (Z 1) 8), oo 10 (.load none (Z 9)), oo 11 (.iaddr (Z 8) (Z 10) 7 none), oo 12 (.load (some 7) (Z 11)), oo 3 (.box (.con (.agg [i6 0, .nils, i6 0, i6 0, i6 0, i6 0, .nils]))), on (.store 7 (Z 3) (Z 12))]) (.seq (.seq (.reg [oo 13 (.faddr (Z 3) 6), oo 14 (.load none (Z 13)), oo 15 (.len false (Z 14)), oo 16 (.mov (.con (i6 0)))]) (.block 0 (.loop (.seq (.reg [oo 17 (.bin .lss (Z 16) (Z 15))]) (.seq (.cond (Z 17) .skip (.exit 0)) (.seq (.block 1 (.seq (.reg [oo 18 (.iaddr (Z 14) (Z 16) 1 none), oo 19 (.load none (Z 18)), oo 5 (.mov (Z 19))]) (.seq (.dreg 11 [oo 20 (.faddr (Z 3) 0), oo 21 (.faddr (Z 20) 5), oo 22 (.load none (Z 21)), oo 23 (.faddr (Z 1) 0), oo 24 (.faddr (Z 23) 0), oo 25 (.faddr (Z 24) 0), oo 26 (.faddr (Z 25) 0), oo 27 (.load none (Z 26)), oo 28 (.mov (Z 5)), oo 29 (.iaddr (Z 27) (Z 28) 1 none), oo 30 (.load none (Z 29)), oo 31 (.bin .gtr (Z 22) (Z 30))]) (.cond (Z 31) (.seq (.reg [oo 2 (.mov (.con (i6 13)))]) .ret) .skip)))) (.reg [oo 32 (.bin .add (Z 16) (.con (i6 1))), oo 16 (.mov (Z 32))]))))))) (.seq (.reg [oo 2 (.mov (.con (i6 0)))]) .ret))))⟩
theorem comp100 : compFn Tryd.prog 100 = some F100 := by kernel_rfl
def F101 : AFn := ⟨1, 46, [.tmp 2], (.seq (.reg [oo 1 (.box (Z 0)), oo 2 (.mov (.con (i6 0)))]) (.seq (.reg [oo 3 (.box (.con (.nils)))]) (.seq (.seq (.reg [oo 9 (.faddr (Z 1) 9), oo 10 (.load none (Z 9)), oo 11 (.faddr (Z 1) 8), oo 12 (.load none (Z 11)), oo 13 (.call (.con (.fn 79 [] [])) [(Z 10), (Z 12)]), oo 14 (.call (.con (.fn 82 [] [])) [(Z 13)])]) (.block 0 (.rangeF (Z 14) [15] (.reg [oo 4 (.mov (Z 15))]) (.block 1 (.dreg 8 [oo 16 (.load none (Z 3)), oo 17 (.faddr (Z 1) 0), oo 18 (.faddr (Z 17) 6), oo 19 (.load none (Z 18)), oo 20 (.mov (Z 4)), oo 21 (.iaddr (Z 19) (Z 20) 7 none), oo 22 (.load (some 7) (Z 21)), oo 23 (.bsl 7 true [i6 0, .nils, i6 0, i6 0, i6 0, i6 0, .nils] 1 [(0, (Z 22))]), oo 24 (.app (Z 16) (Z 23) 7 88 [i6 0, .nils, i6 0, i6 0, i6 0, i6 0, .nils]), on (.store 1 (Z 3) (Z 24))]))))) (.seq (.seq (.reg [oo 25 (.faddr (Z 1) 0), oo 26 (.faddr (Z 25) 0), oo 27 (.faddr (Z 26) 5), oo 28 (.load none (Z 27)), oo 29 (.len false (Z 28)), oo 30 (.mov (.con (i6 0)))]) (.block 2 (.loop (.seq (.reg [oo 31 (.bin .lss (Z 30) (Z 29))]) (.seq (.cond (Z 31) .skip (.exit 2)) (.seq (.block 3 (.seq (.reg [oo 32 (.mov (Z 30)), oo 33 (.iaddr (Z 28) (Z 30) 1 none), oo 34 (.load none (Z 33)), oo 5 (.mov (Z 32)), oo 6 (.mov (Z 34))]) (.seq (.reg [oo 36 (.load none (Z 3)), oo 37 (.mov (Z 5)), oo 38 (.call (.con (.fn 74 [] [])) [(Z 36), (Z 37)]), oo 39 (.call (.con (.fn 75 [] [])) [(Z 38)]), oo 35 (.mov (Z 39)), oo 40 (.ext (Z 35) 0), oo 41 (.ext (Z 35) 1), oo 7 (.mov (Z 40)), oo 8 (.mov (Z 41))]) (.seq (.reg [oo 42 (.mov (Z 8)), oo 43 (.mov (Z 6)), oo 44 (.bin .lss (Z 42) (Z 43))]) (.cond (Z 44) (.seq (.reg [oo 2 (.mov (.con (i6 11)))]) .ret) .skip))))) (.reg [oo 45 (.bin .add (Z 30) (.con (i6 1))), oo 30 (.mov (Z 45))]))))))) (.seq (.reg [oo 2 (.mov (.con (i6 0)))]) .ret)))))⟩
theorem comp101 : compFn Tryd.prog 101 = some F101 := by kernel_rfl
def F102 : AFn := ⟨2, 13, [.tmp 4], (.seq (.reg [oo 2 (.box (Z 0)), oo 4 (.mov (.con (.nils)))]) (.seq (.seq (.reg [oo 6 (.mov (Z 1))]) (.block 0 (.rangeF (Z 6) [7] (.reg [oo 5 (.mov (Z 7))]) (.block 1 (.reg [oo 8 (.load none (Z 2)), oo 9 (.mov (Z 5)), oo 10 (.bsl 1 false [i6 0] 1 [(0, (Z 9))]), oo 11 (.app (Z 8) (Z 10) 1 8 [i6 0]), on (.store 1 (Z 2) (Z 11))]))))) (.seq (.reg [oo 12 (.load none (Z 2)), oo 4 (.mov (Z 12))]) .ret)))⟩
theorem comp102 : compFn Tryd.prog 102 = some F102 := by kernel_rfl
def F103 : AFn := ⟨2, 35, [], (.seq (.seq (.reg [oo 7 (.mov (Z 1)), oo 8 (.faddr (Z 2) 6), oo 9 (.load none (Z 8)), oo 10 (.len false (Z 9)), oo 11 (.bin .eql (Z 7) (Z 10))]) (.cond (Z 11) (.seq (.seq (.reg [oo 12 (.load (some 8) (Z 2)), oo 13 (.mov (Z 0)), oo 14 (.load none (Z 3)), oo 15 (.call (.con (.fn 104 [] [])) [(Z 12), (Z 13), (Z 14)]), oo 16 (.bin .gtr (Z 15) (.con (i6 0)))]) (.cond (Z 16) (.reg [oo 17 (.mov (Z 0)), on (.store 1 (Z 3) (Z 17))]) .skip)) .ret) .skip)) (.seq (.seq (.reg [oo 18 (.load (some 8) (Z 2)), oo 19 (.mov (Z 1)), oo 20 (.mov (Z 0)), oo 21 (.call (.con (.fn 78 [] [])) [(Z 18), (Z 19), (Z 20)]), oo 22 (.bin .eql (Z 21) (.con (i6 0)))]) (.cond (Z 22) (.dreg 6 [oo 23 (.load none (Z 4)), oo 24 (.mov (Z 0)), oo 25 (.mov (Z 1)), oo 26 (.call (.con (.fn 79 [] [])) [(Z 24), (Z 25)]), oo 27 (.mov (Z 1)), oo 28 (.bin .add (Z 27) (.con (i6 1))), oo 29 (.call (Z 23) [(Z 26), (Z 28)])]) .skip)) (.reg [oo 30 (.load none (Z 4)), oo 31 (.mov (Z 0)), oo 32 (.mov (Z 1)), oo 33 (.bin .add (Z 32) (.con (i6 1))), oo 34 (.call (Z 30) [(Z 31), (Z 33)])])))⟩
theorem comp103 : compFn Tryd.prog 103 = some F103 := by kernel_rfl
def F104 : AFn := ⟨3, 21, [.tmp 6], (.seq (.reg [oo 3 (.box (Z 0)), oo 6 (.mov (.con (i6 0)))]) (.seq (.dreg 10 [oo 7 (.mov (Z 1)), oo 8 (.call (.con (.fn 117 [] [])) [(Z 7)]), oo 9 (.mov (Z 2)), oo 10 (.call (.con (.fn 117 [] [])) [(Z 9)]), oo 11 (.call (.con (.fn 116 [] [])) [(Z 8), (Z 10)]), oo 12 (.load (some 8) (Z 3)), oo 13 (.mov (Z 1)), oo 14 (.call (.con (.fn 118 [] [])) [(Z 12), (Z 13)]), oo 15 (.load (some 8) (Z 3)), oo 16 (.mov (Z 2)), oo 17 (.call (.con (.fn 118 [] [])) [(Z 15), (Z 16)]), oo 18 (.call (.con (.fn 116 [] [])) [(Z 14), (Z 17)]), oo 19 (.bsl 1 false [i6 0] 2 [(0, (Z 11)), (1, (Z 18))]), oo 20 (.call (.con (.fn 115 [] [])) [(Z 19)]), oo 6 (.mov (Z 20))]) .ret))⟩
theorem comp104 : compFn Tryd.prog 104 = some F104 := by kernel_rfl
def F105 : AFn := ⟨1, 16, [], (.seq (.reg [oo 4 (.load none (Z 1)), oo 3 (.mov (Z 4))]) (.block 0 (.loop (.seq (.seq (.reg [oo 5 (.mov (Z 3)), oo 6 (.bin .neq (Z 5) (.con (.int .u64 0)))]) (.cond (Z 6) .skip (.exit 0))) (.seq (.block 1 (.seq (.reg [oo 11 (.mov (Z 0)), oo 12 (.mov (Z 3)), oo 13 (.call (.con (.fn 106 [] [])) [(Z 12)]), oo 14 (.call (Z 11) [(Z 13)]), oo 15 (.un .not (Z 14))]) (.cond (Z 15) .ret .skip))) (.reg [oo 7 (.mov (Z 3)), oo 8 (.mov (Z 3)), oo 9 (.bin .sub (Z 8) (.con (.int .u64 1))), oo 10 (.bin .and (Z 7) (Z 9)), oo 3 (.mov (Z 10))]))))))⟩
theorem comp105 : compFn Tryd.prog 105 = some F105 := by kernel_rfl
def F106 : AFn := ⟨1, 8, [.tmp 2], (.seq (.reg [oo 2 (.mov (.con (i6 0)))]) (.seq (.cond (.con (.bool false)) (.seq (.reg [oo 3 (.mov (Z 0)), oo 4 (.conv .u32 (Z 3)), oo 5 (.call (.con (.fn 119 [] [])) [(Z 4)]), oo 2 (.mov (Z 5))]) .ret) .skip) (.seq (.reg [oo 6 (.mov (Z 0)), oo 7 (.call (.con (.fn 120 [] [])) [(Z 6)]), oo 2 (.mov (Z 7))]) .ret)))⟩
theorem comp106 : compFn Tryd.prog 106 = some F106 := by kernel_rfl
def F107 : AFn := ⟨2, 11, [.tmp 4], (.seq (.reg [oo 2 (.box (Z 0)), oo 4 (.mov (.con (.bool false)))]) (.seq (.reg [oo 5 (.mov (Z 1)), oo 6 (.faddr (Z 2) 0), oo 7 (.load none (Z 6)), oo 8 (.len false (Z 7)), oo 9 (.bin .sub (Z 8) (.con (i6 1))), oo 10 (.call (.con (.fn 91 [] [])) [(Z 5), (.con (i6 0)), (Z 9)]), oo 4 (.mov (Z 10))]) .ret))⟩
theorem comp107 : compFn Tryd.prog 107 = some F107 := by kernel_rfl
def F108 : AFn := ⟨2, 24, [.tmp 4], (.seq (.reg [oo 2 (.box (Z 0)), oo 4 (.mov (.con (i6 0)))]) (.seq (.block 0 (.seq (.reg [oo 6 (.faddr (Z 2) 0), oo 7 (.load none (Z 6)), oo 8 (.mov (Z 1)), oo 9 (.call (.con (.fn 91 [] [])) [(Z 7), (.con (i6 0)), (Z 8)]), oo 10 (.un .not (Z 9)), oo 11 (.mov (Z 10)), ⟨some 12, .faddr (Z 2) 1, some (11, false)⟩, ⟨some 13, .load none (Z 12), some (11, false)⟩, ⟨some 14, .mov (Z 1), some (11, false)⟩, ⟨some 15, .call (.con (.fn 91 [] [])) [(Z 13), (.con (i6 0)), (Z 14)], some (11, false)⟩, ⟨some 16, .un .not (Z 15), some (11, false)⟩, oo 17 (.pick (Z 11) (.con (.bool true)) (Z 16)), oo 5 (.mov (Z 17))]) (.cond (Z 5) (.seq (.reg [oo 4 (.mov (.con (i6 2)))]) .ret) (.seq (.reg [oo 19 (.faddr (Z 2) 0), oo 20 (.load none (Z 19)), oo 21 (.faddr (Z 2) 1), oo 22 (.load none (Z 21)), oo 23 (.bin .gtr (Z 20) (Z 22)), oo 18 (.mov (Z 23))]) (.cond (Z 18) (.seq (.reg [oo 4 (.mov (.con (i6 9)))]) .ret) .skip))))) (.seq (.reg [oo 4 (.mov (.con (i6 0)))]) .ret)))⟩
theorem comp108 : compFn Tryd.prog 108 = some F108 := by kernel_rfl
def F109 : AFn := ⟨2, 45, [.tmp 4], (.seq (.reg [oo 2 (.box (Z 0)), oo 3 (.box (Z 1)), oo 4 (.mov (.con (i6 0)))]) (.seq (.seq (.reg [oo 9 (.faddr (Z 3) 6), oo 10 (.load none (Z 9)), oo 11 (.len false (Z 10)), oo 12 (.bin .gtr (Z 11) (.con (i6 12)))]) (.cond (Z 12) (.seq (.reg [oo 4 (.mov (.con (i6 5)))]) .ret) .skip)) (.seq (.reg [oo 13 (.faddr (Z 3) 5), oo 14 (.load none (Z 13)), oo 5 (.mov (Z 14))]) (.seq (.seq (.reg [oo 15 (.faddr (Z 3) 6), oo 16 (.load none (Z 15)), oo 17 (.len false (Z 16)), oo 18 (.mov (.con (i6 0)))]) (.block 0 (.loop (.seq (.reg [oo 19 (.bin .lss (Z 18) (Z 17))]) (.seq (.cond (Z 19) .skip (.exit 0)) (.seq (.block 1 (.seq (.reg [oo 20 (.iaddr (Z 16) (Z 18) 1 none), oo 21 (.load none (Z 20)), oo 7 (.mov (Z 21))]) (.seq (.seq (.reg [oo 22 (.load (some 4) (Z 2)), oo 23 (.mov (Z 7)), oo 24 (.call (.con (.fn 121 [] [])) [(Z 22), (Z 23)]), oo 25 (.un .not (Z 24))]) (.cond (Z 25) (.seq (.reg [oo 4 (.mov (.con (i6 7)))]) .ret) .skip)) (.seq (.reg [oo 26 (.faddr (Z 2) 1), oo 27 (.load none (Z 26)), oo 28 (.mov (Z 7)), oo 29 (.iaddr (Z 27) (Z 28) 2 none), oo 30 (.load (some 2) (Z 29)), oo 8 (.box (.con (.agg [i6 0, i6 0]))), on (.store 2 (Z 8) (Z 30))]) (.seq (.seq (.reg [oo 31 (.faddr (Z 8) 0), oo 32 (.load none (Z 31)), oo 33 (.mov (Z 5)), oo 34 (.bin .neq (Z 32) (Z 33)), oo 35 (.mov (Z 34)), ⟨some 36, .faddr (Z 8) 1, some (35, true)⟩, ⟨some 37, .load none (Z 36), some (35, true)⟩, ⟨some 38, .mov (Z 5), some (35, true)⟩, ⟨some 39, .bin .neq (Z 37) (Z 38), some (35, true)⟩, oo 40 (.pick (Z 35) (Z 39) (.con (.bool false)))]) (.cond (Z 40) (.seq (.reg [oo 4 (.mov (.con (i6 1)))]) .ret) .skip)) (.reg [oo 41 (.load (some 2) (Z 8)), oo 42 (.mov (Z 5)), oo 43 (.call (.con (.fn 122 [] [])) [(Z 41), (Z 42)]), oo 5 (.mov (Z 43))])))))) (.reg [oo 44 (.bin .add (Z 18) (.con (i6 1))), oo 18 (.mov (Z 44))]))))))) (.seq (.reg [oo 4 (.mov (.con (i6 0)))]) .ret)))))⟩
theorem comp109 : compFn Tryd.prog 109 = some F109 := by kernel_rfl
def F111 : AFn := ⟨2, 9, [.tmp 4], (.seq (.reg [oo 4 (.mov (.con (.bool false)))]) (.seq (.reg [oo 5 (.mov (Z 0)), oo 6 (.mov (Z 1)), oo 7 (.call (.con (.fn 63 [] [])) [(Z 5), (Z 6)]), oo 8 (.bin .geq (Z 7) (.con (i6 0))), oo 4 (.mov (Z 8))]) .ret))⟩
theorem comp111 : compFn Tryd.prog 111 = some F111 := by kernel_rfl
def F112 : AFn := ⟨1, 8, [.tmp 4], (.seq (.reg [oo 3 (.box (Z 0)), oo 4 (.mov (.con (.bool false)))]) (.seq (.reg [oo 5 (.load none (Z 1)), oo 6 (.mkfn 113 [] [(Z 3), (Z 2)]), oo 7 (.call (.con (.fn 111 [] [])) [(Z 5), (Z 6)]), oo 4 (.mov (Z 7))]) .ret))⟩
theorem comp112 : compFn Tryd.prog 112 = some F112 := by kernel_rfl
def F113 : AFn := ⟨1, 9, [.tmp 4], (.seq (.reg [oo 3 (.box (Z 0)), oo 4 (.mov (.con (.bool false)))]) (.seq (.reg [oo 5 (.load (some 4) (Z 1)), oo 6 (.load (some 4) (Z 3)), oo 7 (.load none (Z 2)), oo 8 (.call (.con (.fn 114 [] [])) [(Z 5), (Z 6), (Z 7)]), oo 4 (.mov (Z 8))]) .ret))⟩
theorem comp113 : compFn Tryd.prog 113 = some F113 := by kernel_rfl
def F114 : AFn := ⟨3, 59, [.tmp 6], (.seq (.reg [oo 3 (.box (Z 0)), oo 4 (.box (Z 1)), oo 6 (.mov (.con (.bool false)))]) (.seq (.reg [oo 9 (.faddr (Z 3) 2), oo 10 (.load none (Z 9)), oo 11 (.faddr (Z 4) 2), oo 12 (.load none (Z 11)), oo 13 (.bin .eql (Z 10) (Z 12)), oo 14 (.mov (Z 13)), ⟨some 15, .faddr (Z 4) 0, some (14, true)⟩, ⟨some 16, .faddr (Z 15) 0, some (14, true)⟩, ⟨some 17, .load none (Z 16), some (14, true)⟩, ⟨some 18, .faddr (Z 3) 0, some (14, true)⟩, ⟨some 19, .faddr (Z 18) 1, some (14, true)⟩, ⟨some 20, .load none (Z 19), some (14, true)⟩, ⟨some 21, .bin .sub (Z 17) (Z 20), some (14, true)⟩, ⟨some 22, .mov (Z 2), some (14, true)⟩, ⟨some 23, .bin .leq (Z 21) (Z 22), some (14, true)⟩, oo 24 (.pick (Z 14) (Z 23) (.con (.bool false))), oo 25 (.mov (Z 24)), ⟨some 26, .faddr (Z 3) 0, some (25, true)⟩, ⟨some 27, .faddr (Z 26) 0, some (25, true)⟩, ⟨some 28, .load none (Z 27), some (25, true)⟩, ⟨some 29, .faddr (Z 4) 0, some (25, true)⟩, ⟨some 30, .faddr (Z 29) 1, some (25, true)⟩, ⟨some 31, .load none (Z 30), some (25, true)⟩, ⟨some 32, .bin .sub (Z 28) (Z 31), some (25, true)⟩, ⟨some 33, .mov (Z 2), some (25, true)⟩, ⟨some 34, .bin .leq (Z 32) (Z 33), some (25, true)⟩, oo 35 (.pick (Z 25) (Z 34) (.con (.bool false))), oo 7 (.mov (Z 35))]) (.seq (.reg [oo 36 (.faddr (Z 3) 3), oo 37 (.load none (Z 36)), oo 38 (.faddr (Z 4) 3), oo 39 (.load none (Z 38)), oo 40 (.bin .eql (Z 37) (Z 39)), oo 41 (.mov (Z 40)), ⟨some 42, .faddr (Z 3) 3, some (41, true)⟩, ⟨some 43, .load none (Z 42), some (41, true)⟩, ⟨some 44, .bin .neq (Z 43) (.con (i6 (-1))), some (41, true)⟩, oo 45 (.pick (Z 41) (Z 44) (.con (.bool false))), oo 46 (.mov (Z 45)), ⟨some 47, .faddr (Z 3) 0, some (46, true)⟩, ⟨some 48, .faddr (Z 47) 0, some (46, true)⟩, ⟨some 49, .load none (Z 48), some (46, true)⟩, ⟨some 50, .faddr (Z 4) 0, some (46, true)⟩, ⟨some 51, .faddr (Z 50) 0, some (46, true)⟩, ⟨some 52, .load none (Z 51), some (46, true)⟩, ⟨some 53, .bin .eql (Z 49) (Z 52), some (46, true)⟩, oo 54 (.pick (Z 46) (Z 53) (.con (.bool false))), oo 8 (.mov (Z 54))]) (.seq (.reg [oo 55 (.mov (Z 7)), oo 56 (.mov (Z 55)), ⟨some 57, .mov (Z 8), some (56, false)⟩, oo 58 (.pick (Z 56) (.con (.bool true)) (Z 57)), oo 6 (.mov (Z 58))]) .ret))))⟩
theorem comp114 : compFn Tryd.prog 114 = some F114 := by kernel_rfl
def F115 : AFn := ⟨1, 18, [.tmp 2], (.seq (.reg [oo 2 (.mov (.con (i6 0)))]) (.seq (.reg [oo 3 (.mov (.con (i6 0)))]) (.seq (.seq (.reg [oo 6 (.mov (Z 0)), oo 7 (.len false (Z 6)), oo 8 (.mov (.con (i6 0)))]) (.block 0 (.loop (.seq (.reg [oo 9 (.bin .lss (Z 8) (Z 7))]) (.seq (.cond (Z 9) .skip (.exit 0)) (.seq (.block 1 (.seq (.reg [oo 10 (.iaddr (Z 6) (Z 8) 1 none), oo 11 (.load none (Z 10)), oo 5 (.mov (Z 11))]) (.seq (.reg [oo 12 (.mov (Z 5)), oo 13 (.mov (Z 3)), oo 14 (.bin .neq (Z 12) (Z 13))]) (.cond (Z 14) (.seq (.reg [oo 15 (.mov (Z 5)), oo 2 (.mov (Z 15))]) .ret) .skip)))) (.reg [oo 16 (.bin .add (Z 8) (.con (i6 1))), oo 8 (.mov (Z 16))]))))))) (.seq (.reg [oo 17 (.mov (Z 3)), oo 2 (.mov (Z 17))]) .ret))))⟩
theorem comp115 : compFn Tryd.prog 115 = some F115 := by kernel_rfl
def F116 : AFn := ⟨2, 20, [.tmp 4], (.seq (.reg [oo 4 (.mov (.con (i6 0)))]) (.seq (.reg [oo 7 (.mov (Z 0)), oo 8 (.call (.con (.fn 123 [] [])) [(Z 7)]), oo 5 (.mov (Z 8))]) (.seq (.reg [oo 9 (.mov (Z 1)), oo 10 (.call (.con (.fn 123 [] [])) [(Z 9)]), oo 6 (.mov (Z 10))]) (.seq (.seq (.reg [oo 11 (.mov (Z 5))]) (.cond (Z 11) (.seq (.seq (.reg [oo 12 (.mov (Z 6))]) (.cond (Z 12) (.seq (.reg [oo 4 (.mov (.con (i6 0)))]) .ret) .skip)) (.seq (.reg [oo 4 (.mov (.con (i6 (-1))))]) .ret)) .skip)) (.seq (.seq (.reg [oo 13 (.mov (Z 6))]) (.cond (Z 13) (.seq (.reg [oo 4 (.mov (.con (i6 1)))]) .ret) .skip)) (.seq (.seq (.reg [oo 14 (.mov (Z 0)), oo 15 (.mov (Z 1)), oo 16 (.bin .lss (Z 14) (Z 15))]) (.cond (Z 16) (.seq (.reg [oo 4 (.mov (.con (i6 (-1))))]) .ret) .skip)) (.seq (.seq (.reg [oo 17 (.mov (Z 0)), oo 18 (.mov (Z 1)), oo 19 (.bin .gtr (Z 17) (Z 18))]) (.cond (Z 19) (.seq (.reg [oo 4 (.mov (.con (i6 1)))]) .ret) .skip)) (.seq (.reg [oo 4 (.mov (.con (i6 0)))]) .ret))))))))⟩
theorem comp116 : compFn Tryd.prog 116 = some F116 := by kernel_rfl
def F117 : AFn := ⟨1, 5, [.tmp 2], (.seq (.reg [oo 2 (.mov (.con (i6 0)))]) (.seq (.reg [oo 3 (.mov (Z 0)), oo 4 (.call (.con (.fn 124 [] [])) [(Z 3)]), oo 2 (.mov (Z 4))]) .ret))⟩
theorem comp117 : compFn Tryd.prog 117 = some F117 := by kernel_rfl
def F118 : AFn := ⟨2, 20, [.tmp 4], (.seq (.reg [oo 2 (.box (Z 0)), oo 4 (.mov (.con (i6 0)))]) (.seq (.reg [oo 5 (.box (.con (i6 0))), on (.store 1 (Z 5) (.con (i6 0)))]) (.seq (.seq (.reg [oo 7 (.mov (Z 1)), oo 8 (.call (.con (.fn 82 [] [])) [(Z 7)])]) (.block 0 (.rangeF (Z 8) [9] (.reg [oo 6 (.mov (Z 9))]) (.block 1 (.dreg 8 [oo 10 (.load none (Z 5)), oo 11 (.faddr (Z 2) 6), oo 12 (.load none (Z 11)), oo 13 (.mov (Z 6)), oo 14 (.iaddr (Z 12) (Z 13) 7 none), oo 15 (.faddr (Z 14) 0), oo 16 (.faddr (Z 15) 5), oo 17 (.load none (Z 16)), oo 18 (.bin .add (Z 10) (Z 17)), on (.store 1 (Z 5) (Z 18))]))))) (.seq (.reg [oo 19 (.load none (Z 5)), oo 4 (.mov (Z 19))]) .ret))))⟩
theorem comp118 : compFn Tryd.prog 118 = some F118 := by kernel_rfl
def F120 : AFn := ⟨1, 14, [.tmp 2], (.seq (.reg [oo 2 (.mov (.con (i6 0)))]) (.seq (.seq (.reg [oo 3 (.mov (Z 0)), oo 4 (.bin .eql (Z 3) (.con (.int .u64 0)))]) (.cond (Z 4) (.seq (.reg [oo 2 (.mov (.con (i6 64)))]) .ret) .skip)) (.seq (.reg [oo 5 (.mov (Z 0)), oo 6 (.mov (Z 0)), oo 7 (.un .neg (Z 6)), oo 8 (.bin .and (Z 5) (Z 7)), oo 9 (.bin .mul (Z 8) (.con (.int .u64 285870213051353865))), oo 10 (.bin .shr (Z 9) (.con (.int .u64 58))), oo 11 (.iaddr (.con (.rop [.int .u8 0, .int .u8 1, .int .u8 56, .int .u8 2, .int .u8 57, .int .u8 49, .int .u8 28, .int .u8 3, .int .u8 61, .int .u8 58, .int .u8 42, .int .u8 50, .int .u8 38, .int .u8 29, .int .u8 17, .int .u8 4, .int .u8 62, .int .u8 47, .int .u8 59, .int .u8 36, .int .u8 45, .int .u8 43, .int .u8 51, .int .u8 22, .int .u8 53, .int .u8 39, .int .u8 33, .int .u8 30, .int .u8 24, .int .u8 18, .int .u8 12, .int .u8 5, .int .u8 63, .int .u8 55, .int .u8 48, .int .u8 27, .int .u8 60, .int .u8 41, .int .u8 37, .int .u8 16, .int .u8 46, .int .u8 35, .int .u8 44, .int .u8 21, .int .u8 52, .int .u8 32, .int .u8 23, .int .u8 11, .int .u8 54, .int .u8 26, .int .u8 40, .int .u8 15, .int .u8 34, .int .u8 20, .int .u8 31, .int .u8 10, .int .u8 25, .int .u8 14, .int .u8 19, .int .u8 9, .int .u8 13, .int .u8 8, .int .u8 7, .int .u8 6])) (Z 10) 1 (some 64)), oo 12 (.load none (Z 11)), oo 13 (.conv .i64 (Z 12)), oo 2 (.mov (Z 13))]) .ret)))⟩
theorem comp120 : compFn Tryd.prog 120 = some F120 := by kernel_rfl
def F121 : AFn := ⟨2, 11, [.tmp 4], (.seq (.reg [oo 2 (.box (Z 0)), oo 4 (.mov (.con (.bool false)))]) (.seq (.reg [oo 5 (.mov (Z 1)), oo 6 (.faddr (Z 2) 1), oo 7 (.load none (Z 6)), oo 8 (.len false (Z 7)), oo 9 (.bin .sub (Z 8) (.con (i6 1))), oo 10 (.call (.con (.fn 91 [] [])) [(Z 5), (.con (i6 0)), (Z 9)]), oo 4 (.mov (Z 10))]) .ret))⟩
theorem comp121 : compFn Tryd.prog 121 = some F121 := by kernel_rfl
def F122 : AFn := ⟨2, 13, [.tmp 4], (.seq (.reg [oo 2 (.box (Z 0)), oo 4 (.mov (.con (i6 0)))]) (.seq (.seq (.reg [oo 5 (.faddr (Z 2) 0), oo 6 (.load none (Z 5)), oo 7 (.mov (Z 1)), oo 8 (.bin .eql (Z 6) (Z 7))]) (.cond (Z 8) (.seq (.reg [oo 9 (.faddr (Z 2) 1), oo 10 (.load none (Z 9)), oo 4 (.mov (Z 10))]) .ret) .skip)) (.seq (.reg [oo 11 (.faddr (Z 2) 0), oo 12 (.load none (Z 11)), oo 4 (.mov (Z 12))]) .ret)))⟩
theorem comp122 : compFn Tryd.prog 122 = some F122 := by kernel_rfl
def F123 : AFn := ⟨1, 6, [.tmp 2], (.seq (.reg [oo 2 (.mov (.con (.bool false)))]) (.seq (.reg [oo 3 (.mov (Z 0)), oo 4 (.mov (Z 0)), oo 5 (.bin .neq (Z 3) (Z 4)), oo 2 (.mov (Z 5))]) .ret))⟩
theorem comp123 : compFn Tryd.prog 123 = some F123 := by kernel_rfl
def F124 : AFn := ⟨1, 8, [.tmp 2], (.seq (.reg [oo 2 (.mov (.con (i6 0)))]) (.seq (.cond (.con (.bool false)) (.seq (.reg [oo 3 (.mov (Z 0)), oo 4 (.conv .u32 (Z 3)), oo 5 (.call (.con (.fn 125 [] [])) [(Z 4)]), oo 2 (.mov (Z 5))]) .ret) .skip) (.seq (.reg [oo 6 (.mov (Z 0)), oo 7 (.call (.con (.fn 126 [] [])) [(Z 6)]), oo 2 (.mov (Z 7))]) .ret)))⟩
theorem comp124 : compFn Tryd.prog 124 = some F124 := by kernel_rfl
def F126 : AFn := ⟨1, 35, [.tmp 2], (.seq (.reg [oo 2 (.mov (.con (i6 0)))]) (.seq (.reg [oo 3 (.mov (Z 0)), oo 4 (.bin .shr (Z 3) (.con (.int .u64 1))), oo 5 (.bin .and (Z 4) (.con (.int .u64 6148914691236517205))), oo 6 (.mov (Z 0)), oo 7 (.bin .and (Z 6) (.con (.int .u64 6148914691236517205))), oo 8 (.bin .add (Z 5) (Z 7)), oo 0 (.mov (Z 8))]) (.seq (.reg [oo 9 (.mov (Z 0)), oo 10 (.bin .shr (Z 9) (.con (.int .u64 2))), oo 11 (.bin .and (Z 10) (.con (.int .u64 3689348814741910323))), oo 12 (.mov (Z 0)), oo 13 (.bin .and (Z 12) (.con (.int .u64 3689348814741910323))), oo 14 (.bin .add (Z 11) (Z 13)), oo 0 (.mov (Z 14))]) (.seq (.reg [oo 15 (.mov (Z 0)), oo 16 (.bin .shr (Z 15) (.con (.int .u64 4))), oo 17 (.mov (Z 0)), oo 18 (.bin .add (Z 16) (Z 17)), oo 19 (.bin .and (Z 18) (.con (.int .u64 1085102592571150095))), oo 0 (.mov (Z 19))]) (.seq (.reg [oo 20 (.mov (Z 0)), oo 21 (.mov (Z 0)), oo 22 (.bin .shr (Z 21) (.con (.int .u64 8))), oo 23 (.bin .add (Z 20) (Z 22)), oo 0 (.mov (Z 23))]) (.seq (.reg [oo 24 (.mov (Z 0)), oo 25 (.mov (Z 0)), oo 26 (.bin .shr (Z 25) (.con (.int .u64 16))), oo 27 (.bin .add (Z 24) (Z 26)), oo 0 (.mov (Z 27))]) (.seq (.reg [oo 28 (.mov (Z 0)), oo 29 (.mov (Z 0)), oo 30 (.bin .shr (Z 29) (.con (.int .u64 32))), oo 31 (.bin .add (Z 28) (Z 30)), oo 0 (.mov (Z 31))]) (.seq (.reg [oo 32 (.mov (Z 0)), oo 33 (.conv .i64 (Z 32)), oo 34 (.bin .and (Z 33) (.con (i6 127))), oo 2 (.mov (Z 34))]) .ret))))))))⟩
theorem comp126 : compFn Tryd.prog 126 = some F126 := by kernel_rfl
end Go.Proofs.YtkchfjblcfbajaaDoor
end
section
namespace Go.Proofs.YtkchfjblcfbajaaDoor
open Go.RowKit
attribute [local simp] cleanL AV.clean cleanI cleanBo cleanSt cleanII plFB clFB faFB re re1 back back1 AV.plain AV.plain1 ren ren1 fadeS fadeV List.idxOf? List.findIdx? List.findIdx?.go
structure T_bk_Drum where
 beat_ : Int
 deriving Inhabited
def C_bk_Drum (x : T_bk_Drum) : List AV := [.int .u64 x.beat_]
attribute [local simp] C_bk_Drum
def A_bk_Drum (x : T_bk_Drum) : AV := .agg (C_bk_Drum x)
attribute [local simp] A_bk_Drum
theorem KC_bk_Drum (x : T_bk_Drum) : cleanL (C_bk_Drum x) = true := by simp
theorem KA_bk_Drum (x : T_bk_Drum) : (A_bk_Drum x).clean = true := KC_bk_Drum x
theorem KL_bk_Drum (l : List T_bk_Drum) : cleanL (l.map A_bk_Drum) = true := cleanM KA_bk_Drum l
attribute [local simp] KL_bk_Drum
theorem KB_bk_Drum (x : T_bk_Drum) (n : Nat) (σ : List Nat) : (C_bk_Drum x).mapM (re n σ) = some (C_bk_Drum x) := by simp
def p_bk_Drum_hit (N : Nat) (d_1 : T_bk_Drum) : Option (Int × T_bk_Drum) := ((some (Int.fdiv (IntKind.u64.wrap ((IntKind.u64.wrap (d_1.beat_ * 15074714826142052245)) + 11400714819323198485)) ((2 : Int) ^ (min (Int.toNat 32) (IntKind.bits .u64))))).bind fun n_2 => ((some (IntKind.u64.wrap (((BitVec.ofInt (IntKind.bits .u64) (IntKind.u64.wrap ((IntKind.u64.wrap (d_1.beat_ * 15074714826142052245)) + 11400714819323198485)) ^^^ BitVec.ofInt (IntKind.bits .u64) n_2).toNat : Nat) : Int))).bind fun n_3 => ((some (Int.fdiv (IntKind.u64.wrap (n_3 * 15760922415973212899)) ((2 : Int) ^ (min (Int.toNat 32) (IntKind.bits .u64))))).bind fun n_4 => ((some (IntKind.u64.wrap (((BitVec.ofInt (IntKind.bits .u64) (IntKind.u64.wrap (n_3 * 15760922415973212899)) ^^^ BitVec.ofInt (IntKind.bits .u64) n_4).toNat : Nat) : Int))).bind fun n_5 => ((some (Int.fdiv (IntKind.u64.wrap (n_5 * 15760922415973212899)) ((2 : Int) ^ (min (Int.toNat 32) (IntKind.bits .u64))))).bind fun n_6 => ((some (IntKind.u64.wrap (((BitVec.ofInt (IntKind.bits .u64) (IntKind.u64.wrap (n_5 * 15760922415973212899)) ^^^ BitVec.ofInt (IntKind.bits .u64) n_6).toNat : Nat) : Int))).bind fun n_7 => some (n_7, (⟨(IntKind.u64.wrap ((IntKind.u64.wrap (d_1.beat_ * 15074714826142052245)) + 11400714819323198485))⟩ : T_bk_Drum))))))))
def v_bk_Drum_hit (r : Int × T_bk_Drum) : AV := .int .u64 r.1
attribute [local simp] v_bk_Drum_hit
theorem b_bk_Drum_hit (r : Int × T_bk_Drum) (n n2 m : Nat) : back n n2 m (v_bk_Drum_hit r) = some (v_bk_Drum_hit r) := by simp
theorem d_bk_Drum_hit (N : Nat) (d_1 : T_bk_Drum) (r : Int × T_bk_Drum) (h : p_bk_Drum_hit N d_1 = some r) : Does Tryd.prog 53 [.ptr 0 0] [(C_bk_Drum d_1)] fun v c => v = v_bk_Drum_hit r ∧ c = [(C_bk_Drum r.2)] := by
 unfold p_bk_Drum_hit at h
 refine Does.ofL comp53 _ _ rfl rfl ?_
 refine Ex.seq (rg 1 [0] (mkS 31 [(0, .ptr 0 0)]) ⟨[(C_bk_Drum d_1)], []⟩ ?_)
 refine Ex.seq (rg 10 [0] (mkS 31 [(0, .ptr 0 0)]) ⟨[[.int .u64 (IntKind.u64.wrap ((IntKind.u64.wrap (d_1.beat_ * 15074714826142052245)) + 11400714819323198485))]], []⟩ ?_)
 refine Ex.seq (rg 5 [3] (mkS 31 [(3, .int .u64 (IntKind.u64.wrap ((IntKind.u64.wrap (d_1.beat_ * 15074714826142052245)) + 11400714819323198485)))]) ⟨[[.int .u64 (IntKind.u64.wrap ((IntKind.u64.wrap (d_1.beat_ * 15074714826142052245)) + 11400714819323198485))]], []⟩ ?_)
 refine Ex.seq ?_
 obtain ⟨n_2, hn_2, h⟩ := bE h
 obtain ⟨n_3, hn_3, h⟩ := bE h
 refine regH 6 [(2, .eq (.int .u64 n_2)), (3, .eq (.int .u64 n_3))] [3] [AV.int .u64 (Int.fdiv (IntKind.u64.wrap ((IntKind.u64.wrap (d_1.beat_ * 15074714826142052245)) + 11400714819323198485)) ((2 : Int) ^ (min (Int.toNat 32) (IntKind.bits .u64)))) = AV.int .u64 n_2, AV.int .u64 (IntKind.u64.wrap (((BitVec.ofInt (IntKind.bits .u64) (IntKind.u64.wrap ((IntKind.u64.wrap (d_1.beat_ * 15074714826142052245)) + 11400714819323198485)) ^^^ BitVec.ofInt (IntKind.bits .u64) n_2).toNat : Nat) : Int)) = AV.int .u64 n_3] (mkS 31 [(3, .int .u64 (IntKind.u64.wrap (n_3 * 15760922415973212899)))]) (⟨[[.int .u64 (IntKind.u64.wrap ((IntKind.u64.wrap (d_1.beat_ * 15074714826142052245)) + 11400714819323198485))]], []⟩) (by kernel_rfl) ⟨congrArg (AV.int .u64) (Option.some.inj hn_2), congrArg (AV.int .u64) (Option.some.inj hn_3), trivial⟩ rfl ?_
 refine Ex.seq ?_
 obtain ⟨n_4, hn_4, h⟩ := bE h
 obtain ⟨n_5, hn_5, h⟩ := bE h
 refine regH 6 [(2, .eq (.int .u64 n_4)), (3, .eq (.int .u64 n_5))] [3] [AV.int .u64 (Int.fdiv (IntKind.u64.wrap (n_3 * 15760922415973212899)) ((2 : Int) ^ (min (Int.toNat 32) (IntKind.bits .u64)))) = AV.int .u64 n_4, AV.int .u64 (IntKind.u64.wrap (((BitVec.ofInt (IntKind.bits .u64) (IntKind.u64.wrap (n_3 * 15760922415973212899)) ^^^ BitVec.ofInt (IntKind.bits .u64) n_4).toNat : Nat) : Int)) = AV.int .u64 n_5] (mkS 31 [(3, .int .u64 (IntKind.u64.wrap (n_5 * 15760922415973212899)))]) (⟨[[.int .u64 (IntKind.u64.wrap ((IntKind.u64.wrap (d_1.beat_ * 15074714826142052245)) + 11400714819323198485))]], []⟩) (by kernel_rfl) ⟨congrArg (AV.int .u64) (Option.some.inj hn_4), congrArg (AV.int .u64) (Option.some.inj hn_5), trivial⟩ rfl ?_
 refine Ex.seq ?_
 obtain ⟨n_6, hn_6, h⟩ := bE h
 obtain ⟨n_7, hn_7, h⟩ := bE h
 refine regH 5 [(2, .eq (.int .u64 n_6)), (3, .eq (.int .u64 n_7))] [2] [AV.int .u64 (Int.fdiv (IntKind.u64.wrap (n_5 * 15760922415973212899)) ((2 : Int) ^ (min (Int.toNat 32) (IntKind.bits .u64)))) = AV.int .u64 n_6, AV.int .u64 (IntKind.u64.wrap (((BitVec.ofInt (IntKind.bits .u64) (IntKind.u64.wrap (n_5 * 15760922415973212899)) ^^^ BitVec.ofInt (IntKind.bits .u64) n_6).toNat : Nat) : Int)) = AV.int .u64 n_7] (mkS 31 [(2, .int .u64 n_7)]) (⟨[[.int .u64 (IntKind.u64.wrap ((IntKind.u64.wrap (d_1.beat_ * 15074714826142052245)) + 11400714819323198485))]], []⟩) (by kernel_rfl) ⟨congrArg (AV.int .u64) (Option.some.inj hn_6), congrArg (AV.int .u64) (Option.some.inj hn_7), trivial⟩ rfl ?_
 refine Ex.ret ?_
 obtain rfl := sJ h
 exact rt (.int .u64 n_7)
def p_bk_DrumOf (N : Nat) (nums_1 : (List Int)) : Option (T_bk_Drum) := (letJ (fun (b_2 : Int) => some (⟨b_2⟩ : T_bk_Drum)) (fun k_3 => (loop2 (fun rec_8 (i_6 : Int) (b_7 : Int) => (bif (decide (i_6 < ((nums_1.length : Nat) : Int))) then ((getI nums_1 i_6).bind fun x_12 => ((some (IntKind.u64.wrap (((BitVec.ofInt (IntKind.bits .u64) b_7 ^^^ BitVec.ofInt (IntKind.bits .u64) (IntKind.u64.wrap x_12)).toNat : Nat) : Int))).bind fun n_13 => ((p_bk_Drum_hit N (⟨n_13⟩ : T_bk_Drum)).bind fun r_14 => (rec_8 (IntKind.i64.wrap (i_6 + 1)) r_14.2.beat_)))) else (k_3 b_7))) N 0 2685821657736338717)))
def v_bk_DrumOf (r : T_bk_Drum) : AV := .ptr 0 0
theorem a_bk_DrumOf (nums_1 : (List Int)) : [.sl (nums_1.map (AV.int .i64)) none].mapM (ren []) = some [.sl (nums_1.map (AV.int .i64)) none] := by simp
theorem d_bk_DrumOf (N : Nat) (nums_1 : (List Int)) (r : T_bk_Drum) (h : p_bk_DrumOf N nums_1 = some r) : Does Tryd.prog 15 [.sl (nums_1.map (AV.int .i64)) none] [] fun v c => v = v_bk_DrumOf r ∧ c = [(C_bk_Drum r)] := by
 unfold p_bk_DrumOf at h
 refine Does.ofP comp15 _ _ rfl rfl ?_
 refine Ex.seq (rg 1 [0] (mkS 29 [(0, .sl (nums_1.map (AV.int .i64)) none)]) ⟨[], []⟩ ?_)
 refine Ex.seq (rg 3 [0, 3] (mkS 29 [(0, .sl (nums_1.map (AV.int .i64)) none), (3, .ptr 0 0)]) ⟨[[.int .u64 2685821657736338717]], []⟩ ?_)
 refine Ex.seq (Ex.seq ?_)
 refine rg 1 [0, 3, 4] (mkS 29 [(0, .sl (nums_1.map (AV.int .i64)) none), (3, .ptr 0 0), (4, i6 0)]) ⟨[[.int .u64 2685821657736338717]], []⟩ ?_
 obtain ⟨K_4, hK_5, h⟩ := letE h
 refine Ex.blockJ (fun a S => ∃ (b_2 : Int), K_4 b_2 = some r ∧ a = mkS 29 [(3, .ptr 0 0)] ∧ S = ⟨[[.int .u64 b_2]], []⟩) ?_ ?_
 ·obtain ⟨B_9, hB_10, h⟩ := loop2I h
  refine Ex.loopF (fun k a S => ∃ (i_6 : Int), ∃ (b_7 : Int), loop2 B_9 k i_6 b_7 = some r ∧ a = mkS 29 [(0, .sl (nums_1.map (AV.int .i64)) none), (3, .ptr 0 0), (4, i6 i_6)] ∧ S = ⟨[[.int .u64 b_7]], []⟩) N ⟨_, _, Forgets.refl _ _ _, 0, 2685821657736338717, h, rfl, rfl⟩ ?_
  rintro k a S ⟨i_6, b_7, h, rfl, rfl⟩
  cases k with
  | zero => exact (loop2Z h).elim
  | succ k =>
   replace h := loop2S h hB_10
   refine Ex.seq (Ex.seq ?_)
   refine regH 4 [(2, .eq (i6 ((nums_1.length : Nat) : Int)))] [0, 3, 4, 10] [AV.int .i64 (((nums_1.map (AV.int .i64)).length : Nat) : Int) = AV.int .i64 ((nums_1.length : Nat) : Int)] (mkS 29 [(0, .sl (nums_1.map (AV.int .i64)) none), (3, .ptr 0 0), (4, i6 i_6), (10, .bool (decide (i_6 < ((nums_1.length : Nat) : Int))))]) (⟨[[.int .u64 b_7]], []⟩) (by kernel_rfl) ⟨lenM _ _, trivial⟩ rfl ?_
   rcases condI h with ⟨hc_11, h⟩ | ⟨hc_11, h⟩
   ·refine Ex.condT _ rfl hc_11 ?_
    refine Ex.skip ?_
    refine Ex.seq ?_
    refine Ex.blockK ?_
    refine Ex.seq ?_
    obtain ⟨x_12, hx_12, h⟩ := bE h
    obtain ⟨n_13, hn_13, h⟩ := bE h
    refine Ex.drawE (a1 := mkS 29 [(0, .sl (nums_1.map (AV.int .i64)) none), (3, .ptr 0 0), (4, i6 i_6), (10, .bool (decide (i_6 < ((nums_1.length : Nat) : Int)))), (13, .ptr 0 0), (14, .ptr 0 0), (15, .ptr 0 0), (16, .ptr 0 0), (17, .int .u64 b_7), (18, .sl (nums_1.map (AV.int .i64)) none), (19, i6 i_6), (20, .rop [i6 x_12]), (21, i6 x_12), (22, .int .u64 (IntKind.u64.wrap x_12)), (23, .int .u64 n_13)]) (noClr_ok _) [] [] [] ?_ ?_
    ·refine drS [0] 11 [(7, .rop [i6 x_12]), (10, .eq (.int .u64 n_13))] [LGet (nums_1.map (AV.int .i64)) i_6 1 [i6 x_12], AV.int .u64 (IntKind.u64.wrap (((BitVec.ofInt (IntKind.bits .u64) b_7 ^^^ BitVec.ofInt (IntKind.bits .u64) (IntKind.u64.wrap x_12)).toNat : Nat) : Int)) = AV.int .u64 n_13] (mkS 29 [(0, .sl (nums_1.map (AV.int .i64)) none), (3, .ptr 0 0), (4, i6 i_6), (10, .bool (decide (i_6 < ((nums_1.length : Nat) : Int)))), (13, .ptr 0 0), (14, .ptr 0 0), (15, .ptr 0 0), (16, .ptr 0 0), (17, .int .u64 b_7), (18, .sl (nums_1.map (AV.int .i64)) none), (19, i6 i_6), (20, .rop [i6 x_12]), (21, i6 x_12), (22, .int .u64 (IntKind.u64.wrap x_12)), (23, .int .u64 n_13)]) (by simp) (by kernel_rfl) ⟨LGet.of hx_12 rfl, congrArg (AV.int .u64) (Option.some.inj hn_13), trivial⟩ (by kernel_rfl) ?_
     exact DrO.nil rfl
    ·dsimp only [List.getLastD_cons, List.getLastD_nil]
     refine rn 3 [0, 3, 4] (mkS 29 [(0, .sl (nums_1.map (AV.int .i64)) none), (3, .ptr 0 0), (4, i6 i_6)]) ⟨[[.int .u64 n_13]], []⟩ ?_
     refine ExO.nil ?_
     obtain ⟨r_14, hr_14, h⟩ := bE h
     refine Ex.reg (rn 1 [0, 3, 4, 26] (mkS 29 [(0, .sl (nums_1.map (AV.int .i64)) none), (3, .ptr 0 0), (4, i6 i_6), (26, .ptr 0 0)]) ⟨[[.int .u64 n_13]], []⟩ ?_)
     refine ExO.callL [0] [.ptr 0 0] rfl rfl (by simp; try rfl) rfl (by simp) (d_bk_Drum_hit N (⟨n_13⟩ : T_bk_Drum) r_14 hr_14) (b_bk_Drum_hit _ _ _ _) (by simp) ?_
     refine rn 0 [0, 3, 4] (mkS 29 [(0, .sl (nums_1.map (AV.int .i64)) none), (3, .ptr 0 0), (4, i6 i_6)]) ⟨[(C_bk_Drum r_14.2)], []⟩ ?_
     refine ExO.nil ?_
     refine rg 3 [0, 3, 4] (mkS 29 [(0, .sl (nums_1.map (AV.int .i64)) none), (3, .ptr 0 0), (4, i6 (IntKind.i64.wrap (i_6 + 1)))]) ⟨[(C_bk_Drum r_14.2)], []⟩ ?_
     dsimp only
     exact ⟨_, _, Forgets.refl _ _ _, k, Nat.lt_succ_self k, (IntKind.i64.wrap (i_6 + 1)), r_14.2.beat_, h, rfl, rfl⟩
   ·refine Ex.condF _ rfl hc_11 ?_
    refine Ex.exit ?_
    (try simp only [reduceCtorEq, AEx.ex.injEq, Nat.reduceEqDiff, if_true, if_false])
    exact ⟨_, _, forgetK [3], b_7, h, rfl, rfl⟩
 ·rintro a S ⟨b_2, h, rfl, rfl⟩
  subst hK_5
  refine Ex.seq (rg 2 [2] (mkS 29 [(2, .ptr 0 0)]) ⟨[[.int .u64 b_2]], []⟩ ?_)
  refine Ex.ret ?_
  obtain rfl := sJ h
  exact ⟨.inr rfl, .ptr 0 0, by kernel_rfl, by kernel_rfl, by kernel_rfl, [], by kernel_rfl⟩
def p_bk_Drum_Roll (N : Nat) (d_1 : T_bk_Drum) (n_2 : Int) : Option (Int × T_bk_Drum) := (bif (decide (n_2 < 2)) then some (0, d_1) else ((p_bk_Drum_hit N d_1).bind fun r_4 => ((nzI (IntKind.u64.wrap n_2)).bind fun u_5 => some ((IntKind.i64.wrap (Int.tmod (Int.fdiv r_4.1 ((2 : Int) ^ (min (Int.toNat 1) (IntKind.bits .u64)))) (IntKind.u64.wrap n_2))), r_4.2))))
def v_bk_Drum_Roll (r : Int × T_bk_Drum) : AV := i6 r.1
attribute [local simp] v_bk_Drum_Roll
theorem b_bk_Drum_Roll (r : Int × T_bk_Drum) (n n2 m : Nat) : back n n2 m (v_bk_Drum_Roll r) = some (v_bk_Drum_Roll r) := by simp
theorem d_bk_Drum_Roll (N : Nat) (d_1 : T_bk_Drum) (n_2 : Int) (r : Int × T_bk_Drum) (h : p_bk_Drum_Roll N d_1 n_2 = some r) : Does Tryd.prog 19 [.ptr 0 0, i6 n_2] [(C_bk_Drum d_1)] fun v c => v = v_bk_Drum_Roll r ∧ c = [(C_bk_Drum r.2)] := by
 unfold p_bk_Drum_Roll at h
 refine Does.ofL comp19 _ _ rfl rfl ?_
 refine Ex.seq (rg 1 [0, 1] (mkS 14 [(0, .ptr 0 0), (1, i6 n_2)]) ⟨[(C_bk_Drum d_1)], []⟩ ?_)
 refine Ex.seq (Ex.seq ?_)
 refine rg 2 [0, 1, 6] (mkS 14 [(0, .ptr 0 0), (1, i6 n_2), (6, .bool (decide (n_2 < 2)))]) ⟨[(C_bk_Drum d_1)], []⟩ ?_
 rcases condI h with ⟨hc_3, h⟩ | ⟨hc_3, h⟩
 ·refine Ex.condT _ rfl hc_3 ?_
  refine Ex.seq (rg 1 [4] (mkS 14 [(4, i6 0)]) ⟨[(C_bk_Drum d_1)], []⟩ ?_)
  refine Ex.ret ?_
  obtain rfl := sJ h
  exact rt (i6 0)
 ·refine Ex.condF _ rfl hc_3 ?_
  refine Ex.skip ?_
  refine Ex.seq ?_
  obtain ⟨r_4, hr_4, h⟩ := bE h
  refine Ex.reg (rn 1 [1, 7] (mkS 14 [(1, i6 n_2), (7, .ptr 0 0)]) ⟨[(C_bk_Drum d_1)], []⟩ ?_)
  refine ExO.callL [0] [.ptr 0 0] rfl rfl (by simp; try rfl) rfl (by simp) (d_bk_Drum_hit N d_1 r_4 hr_4) (b_bk_Drum_hit _ _ _ _) (by simp) ?_
  obtain ⟨u_5, hu_5, h⟩ := bE h
  refine runH 6 [(3, .bin (.int .u64 (Int.tmod (Int.fdiv r_4.1 ((2 : Int) ^ (min (Int.toNat 1) (IntKind.bits .u64)))) (IntKind.u64.wrap n_2))))] [4] [binA .rem (.int .u64 (Int.fdiv r_4.1 ((2 : Int) ^ (min (Int.toNat 1) (IntKind.bits .u64))))) (.int .u64 (IntKind.u64.wrap n_2)) = some (.int .u64 (Int.tmod (Int.fdiv r_4.1 ((2 : Int) ^ (min (Int.toNat 1) (IntKind.bits .u64)))) (IntKind.u64.wrap n_2)))] (mkS 14 [(4, i6 (IntKind.i64.wrap (Int.tmod (Int.fdiv r_4.1 ((2 : Int) ^ (min (Int.toNat 1) (IntKind.bits .u64)))) (IntKind.u64.wrap n_2))))]) (⟨[(C_bk_Drum r_4.2)], []⟩) (by kernel_rfl) ⟨binR hu_5, trivial⟩ ?_
  refine ExO.nil ?_
  refine Ex.ret ?_
  obtain rfl := sJ h
  exact rt (i6 (IntKind.i64.wrap (Int.tmod (Int.fdiv r_4.1 ((2 : Int) ^ (min (Int.toNat 1) (IntKind.bits .u64)))) (IntKind.u64.wrap n_2))))
def p_bk_Drum_Mid (N : Nat) (d_1 : T_bk_Drum) (low_2 : Int) (high_3 : Int) : Option (Int × T_bk_Drum) := ((p_bk_Drum_Roll N d_1 (IntKind.i64.wrap ((IntKind.i64.wrap (high_3 - low_2)) + 1))).bind fun r_4 => some ((IntKind.i64.wrap (low_2 + r_4.1)), r_4.2))
def v_bk_Drum_Mid (r : Int × T_bk_Drum) : AV := i6 r.1
attribute [local simp] v_bk_Drum_Mid
theorem b_bk_Drum_Mid (r : Int × T_bk_Drum) (n n2 m : Nat) : back n n2 m (v_bk_Drum_Mid r) = some (v_bk_Drum_Mid r) := by simp
theorem d_bk_Drum_Mid (N : Nat) (d_1 : T_bk_Drum) (low_2 : Int) (high_3 : Int) (r : Int × T_bk_Drum) (h : p_bk_Drum_Mid N d_1 low_2 high_3 = some r) : Does Tryd.prog 55 [.ptr 0 0, i6 low_2, i6 high_3] [(C_bk_Drum d_1)] fun v c => v = v_bk_Drum_Mid r ∧ c = [(C_bk_Drum r.2)] := by
 unfold p_bk_Drum_Mid at h
 refine Does.ofL comp55 _ _ rfl rfl ?_
 refine Ex.seq (rg 1 [0, 1, 2] (mkS 15 [(0, .ptr 0 0), (1, i6 low_2), (2, i6 high_3)]) ⟨[(C_bk_Drum d_1)], []⟩ ?_)
 refine Ex.seq ?_
 obtain ⟨r_4, hr_4, h⟩ := bE h
 refine Ex.reg (rn 6 [7, 8, 12] (mkS 15 [(7, i6 low_2), (8, .ptr 0 0), (12, i6 (IntKind.i64.wrap ((IntKind.i64.wrap (high_3 - low_2)) + 1)))]) ⟨[(C_bk_Drum d_1)], []⟩ ?_)
 refine ExO.callL [0] [.ptr 0 0, i6 (IntKind.i64.wrap ((IntKind.i64.wrap (high_3 - low_2)) + 1))] rfl rfl (by simp; try rfl) rfl (by simp) (d_bk_Drum_Roll N d_1 (IntKind.i64.wrap ((IntKind.i64.wrap (high_3 - low_2)) + 1)) r_4 hr_4) (b_bk_Drum_Roll _ _ _ _) (by simp) ?_
 refine rn 2 [6] (mkS 15 [(6, i6 (IntKind.i64.wrap (low_2 + r_4.1)))]) ⟨[(C_bk_Drum r_4.2)], []⟩ ?_
 refine ExO.nil ?_
 refine Ex.ret ?_
 obtain rfl := sJ h
 exact rt (i6 (IntKind.i64.wrap (low_2 + r_4.1)))
def p_bk_Drum_Any (N : Nat) (d_1 : T_bk_Drum) (l_2 : (List Int)) : Option (Int × T_bk_Drum) := (bif (((l_2.length : Nat) : Int) == 0) then some (0, d_1) else ((p_bk_Drum_Roll N d_1 ((l_2.length : Nat) : Int)).bind fun r_4 => ((getI l_2 r_4.1).bind fun x_5 => some (x_5, r_4.2))))
def v_bk_Drum_Any (r : Int × T_bk_Drum) : AV := i6 r.1
attribute [local simp] v_bk_Drum_Any
theorem b_bk_Drum_Any (r : Int × T_bk_Drum) (n n2 m : Nat) : back n n2 m (v_bk_Drum_Any r) = some (v_bk_Drum_Any r) := by simp
theorem d_bk_Drum_Any (N : Nat) (d_1 : T_bk_Drum) (l_2 : (List Int)) (r : Int × T_bk_Drum) (h : p_bk_Drum_Any N d_1 l_2 = some r) : Does Tryd.prog 36 [.ptr 0 0, .sl (l_2.map (AV.int .i64)) none] [(C_bk_Drum d_1)] fun v c => v = v_bk_Drum_Any r ∧ c = [(C_bk_Drum r.2)] := by
 unfold p_bk_Drum_Any at h
 refine Does.ofL comp36 _ _ rfl rfl ?_
 refine Ex.seq (rg 1 [0, 1] (mkS 15 [(0, .ptr 0 0), (1, .sl (l_2.map (AV.int .i64)) none)]) ⟨[(C_bk_Drum d_1)], []⟩ ?_)
 refine Ex.seq (Ex.seq ?_)
 refine regH 3 [(1, .eq (i6 ((l_2.length : Nat) : Int)))] [0, 1, 7] [AV.int .i64 (((l_2.map (AV.int .i64)).length : Nat) : Int) = AV.int .i64 ((l_2.length : Nat) : Int)] (mkS 15 [(0, .ptr 0 0), (1, .sl (l_2.map (AV.int .i64)) none), (7, .bool (((l_2.length : Nat) : Int) == 0))]) (⟨[(C_bk_Drum d_1)], []⟩) (by kernel_rfl) ⟨lenM _ _, trivial⟩ rfl ?_
 rcases condI h with ⟨hc_3, h⟩ | ⟨hc_3, h⟩
 ·refine Ex.condT _ rfl hc_3 ?_
  refine Ex.seq (rg 1 [4] (mkS 15 [(4, i6 0)]) ⟨[(C_bk_Drum d_1)], []⟩ ?_)
  refine Ex.ret ?_
  obtain rfl := sJ h
  exact rt (i6 0)
 ·refine Ex.condF _ rfl hc_3 ?_
  refine Ex.skip ?_
  refine Ex.seq ?_
  obtain ⟨r_4, hr_4, h⟩ := bE h
  refine Ex.reg ?_
  refine runH 4 [(3, .eq (i6 ((l_2.length : Nat) : Int)))] [8, 9, 11] [AV.int .i64 (((l_2.map (AV.int .i64)).length : Nat) : Int) = AV.int .i64 ((l_2.length : Nat) : Int)] (mkS 15 [(8, .sl (l_2.map (AV.int .i64)) none), (9, .ptr 0 0), (11, i6 ((l_2.length : Nat) : Int))]) (⟨[(C_bk_Drum d_1)], []⟩) (by kernel_rfl) ⟨lenM _ _, trivial⟩ ?_
  refine ExO.callL [0] [.ptr 0 0, i6 ((l_2.length : Nat) : Int)] rfl rfl (by simp; try rfl) rfl (by simp) (d_bk_Drum_Roll N d_1 ((l_2.length : Nat) : Int) r_4 hr_4) (b_bk_Drum_Roll _ _ _ _) (by simp) ?_
  obtain ⟨x_5, hx_5, h⟩ := bE h
  refine runH 3 [(0, .rop [i6 x_5])] [4] [LGet (l_2.map (AV.int .i64)) r_4.1 1 [i6 x_5]] (mkS 15 [(4, i6 x_5)]) (⟨[(C_bk_Drum r_4.2)], []⟩) (by kernel_rfl) ⟨LGet.of hx_5 rfl, trivial⟩ ?_
  refine ExO.nil ?_
  refine Ex.ret ?_
  obtain rfl := sJ h
  exact rt (i6 x_5)
structure T_Span where
 Lo : Int
 Hi : Int
 deriving Inhabited
def C_Span (x : T_Span) : List AV := [i6 x.Lo, i6 x.Hi]
attribute [local simp] C_Span
def A_Span (x : T_Span) : AV := .agg (C_Span x)
attribute [local simp] A_Span
theorem KC_Span (x : T_Span) : cleanL (C_Span x) = true := by simp
theorem KA_Span (x : T_Span) : (A_Span x).clean = true := KC_Span x
theorem KL_Span (l : List T_Span) : cleanL (l.map A_Span) = true := cleanM KA_Span l
attribute [local simp] KL_Span
theorem KB_Span (x : T_Span) (n : Nat) (σ : List Nat) : (C_Span x).mapM (re n σ) = some (C_Span x) := by simp
def p_bk_Drum_Span (N : Nat) (d_1 : T_bk_Drum) (low_2 : Int) (high_3 : Int) : Option (T_Span × T_bk_Drum) := ((p_bk_Drum_Mid N d_1 low_2 high_3).bind fun r_4 => ((p_bk_Drum_Roll N r_4.2 3).bind fun r_5 => (bif (r_5.1 == 0) then some ((⟨r_4.1, r_4.1⟩ : T_Span), r_5.2) else (bif (r_5.1 == 1) then ((p_bk_Drum_Mid N r_5.2 r_4.1 (if (IntKind.i64.wrap (r_4.1 + 3)) < high_3 then (IntKind.i64.wrap (r_4.1 + 3)) else high_3)).bind fun r_8 => some ((⟨r_4.1, r_8.1⟩ : T_Span), r_8.2)) else ((p_bk_Drum_Mid N r_5.2 r_4.1 high_3).bind fun r_9 => some ((⟨r_4.1, r_9.1⟩ : T_Span), r_9.2))))))
def v_bk_Drum_Span (r : T_Span × T_bk_Drum) : AV := (A_Span r.1)
attribute [local simp] v_bk_Drum_Span
theorem b_bk_Drum_Span (r : T_Span × T_bk_Drum) (n n2 m : Nat) : back n n2 m (v_bk_Drum_Span r) = some (v_bk_Drum_Span r) := by simp
theorem d_bk_Drum_Span (N : Nat) (d_1 : T_bk_Drum) (low_2 : Int) (high_3 : Int) (r : T_Span × T_bk_Drum) (h : p_bk_Drum_Span N d_1 low_2 high_3 = some r) : Does Tryd.prog 85 [.ptr 0 0, i6 low_2, i6 high_3] [(C_bk_Drum d_1)] fun v c => v = v_bk_Drum_Span r ∧ c = [(C_bk_Drum r.2)] := by
 unfold p_bk_Drum_Span at h
 refine Does.ofL comp85 _ _ rfl rfl ?_
 refine Ex.seq (rg 1 [0, 1, 2, 6] (mkS 36 [(0, .ptr 0 0), (1, i6 low_2), (2, i6 high_3), (6, .ptr 1 0)]) ⟨[(C_bk_Drum d_1), [i6 0, i6 0]], []⟩ ?_)
 refine Ex.seq ?_
 obtain ⟨r_4, hr_4, h⟩ := bE h
 refine Ex.reg (rn 3 [0, 2, 6, 8, 9, 10] (mkS 36 [(0, .ptr 0 0), (2, i6 high_3), (6, .ptr 1 0), (8, .ptr 0 0), (9, i6 low_2), (10, i6 high_3)]) ⟨[(C_bk_Drum d_1), [i6 0, i6 0]], []⟩ ?_)
 refine ExO.callL [0] [.ptr 0 0, i6 low_2, i6 high_3] rfl rfl (by simp; try rfl) rfl (by simp) (d_bk_Drum_Mid N d_1 low_2 high_3 r_4 hr_4) (b_bk_Drum_Mid _ _ _ _) (by simp) ?_
 refine rn 1 [0, 2, 6, 7] (mkS 36 [(0, .ptr 0 0), (2, i6 high_3), (6, .ptr 1 0), (7, i6 r_4.1)]) ⟨[(C_bk_Drum r_4.2), [i6 0, i6 0]], []⟩ ?_
 refine ExO.nil ?_
 refine Ex.seq (Ex.seq ?_)
 obtain ⟨r_5, hr_5, h⟩ := bE h
 refine Ex.reg (rn 1 [0, 2, 6, 7, 12] (mkS 36 [(0, .ptr 0 0), (2, i6 high_3), (6, .ptr 1 0), (7, i6 r_4.1), (12, .ptr 0 0)]) ⟨[(C_bk_Drum r_4.2), [i6 0, i6 0]], []⟩ ?_)
 refine ExO.callL [0] [.ptr 0 0, i6 3] rfl rfl (by simp; try rfl) rfl (by simp) (d_bk_Drum_Roll N r_4.2 3 r_5 hr_5) (b_bk_Drum_Roll _ _ _ _) (by simp) ?_
 refine rn 0 [0, 2, 6, 7, 13] (mkS 36 [(0, .ptr 0 0), (2, i6 high_3), (6, .ptr 1 0), (7, i6 r_4.1), (13, i6 r_5.1)]) ⟨[(C_bk_Drum r_5.2), [i6 0, i6 0]], []⟩ ?_
 refine ExO.nil ?_
 refine Ex.blockK ?_
 refine Ex.seq (rg 2 [0, 2, 6, 7, 13, 14] (mkS 36 [(0, .ptr 0 0), (2, i6 high_3), (6, .ptr 1 0), (7, i6 r_4.1), (13, i6 r_5.1), (14, .bool (r_5.1 == 0))]) ⟨[(C_bk_Drum r_5.2), [i6 0, i6 0]], []⟩ ?_)
 rcases condI h with ⟨hc_6, h⟩ | ⟨hc_6, h⟩
 ·refine Ex.condT _ rfl hc_6 ?_
  refine Ex.seq (rg 4 [6] (mkS 36 [(6, .ptr 1 0)]) ⟨[(C_bk_Drum r_5.2), [i6 r_4.1, i6 r_4.1]], []⟩ ?_)
  refine Ex.ret ?_
  obtain rfl := sJ h
  exact rt (.agg [i6 r_4.1, i6 r_4.1])
 ·refine Ex.condF _ rfl hc_6 ?_
  refine Ex.seq (rg 2 [0, 2, 6, 7, 19] (mkS 36 [(0, .ptr 0 0), (2, i6 high_3), (6, .ptr 1 0), (7, i6 r_4.1), (19, .bool (r_5.1 == 1))]) ⟨[(C_bk_Drum r_5.2), [i6 0, i6 0]], []⟩ ?_)
  rcases condI h with ⟨hc_7, h⟩ | ⟨hc_7, h⟩
  ·refine Ex.condT _ rfl hc_7 ?_
   refine Ex.seq ?_
   obtain ⟨r_8, hr_8, h⟩ := bE h
   refine Ex.reg (rn 7 [6, 21, 22, 23, 27] (mkS 36 [(6, .ptr 1 0), (21, i6 r_4.1), (22, .ptr 0 0), (23, i6 r_4.1), (27, i6 (if (IntKind.i64.wrap (r_4.1 + 3)) < high_3 then (IntKind.i64.wrap (r_4.1 + 3)) else high_3))]) ⟨[(C_bk_Drum r_5.2), [i6 0, i6 0]], []⟩ ?_)
   refine ExO.callL [0] [.ptr 0 0, i6 r_4.1, i6 (if (IntKind.i64.wrap (r_4.1 + 3)) < high_3 then (IntKind.i64.wrap (r_4.1 + 3)) else high_3)] rfl rfl (by simp; try rfl) rfl (by simp) (d_bk_Drum_Mid N r_5.2 r_4.1 (if (IntKind.i64.wrap (r_4.1 + 3)) < high_3 then (IntKind.i64.wrap (r_4.1 + 3)) else high_3) r_8 hr_8) (b_bk_Drum_Mid _ _ _ _) (by simp) ?_
   refine rn 2 [6] (mkS 36 [(6, .ptr 1 0)]) ⟨[(C_bk_Drum r_8.2), [i6 r_4.1, i6 r_8.1]], []⟩ ?_
   refine ExO.nil ?_
   refine Ex.ret ?_
   obtain rfl := sJ h
   exact rt (.agg [i6 r_4.1, i6 r_8.1])
  ·refine Ex.condF _ rfl hc_7 ?_
   refine Ex.skip ?_
   refine Ex.seq ?_
   obtain ⟨r_9, hr_9, h⟩ := bE h
   refine Ex.reg (rn 4 [6, 30, 31, 32, 33] (mkS 36 [(6, .ptr 1 0), (30, i6 r_4.1), (31, .ptr 0 0), (32, i6 r_4.1), (33, i6 high_3)]) ⟨[(C_bk_Drum r_5.2), [i6 0, i6 0]], []⟩ ?_)
   refine ExO.callL [0] [.ptr 0 0, i6 r_4.1, i6 high_3] rfl rfl (by simp; try rfl) rfl (by simp) (d_bk_Drum_Mid N r_5.2 r_4.1 high_3 r_9 hr_9) (b_bk_Drum_Mid _ _ _ _) (by simp) ?_
   refine rn 2 [6] (mkS 36 [(6, .ptr 1 0)]) ⟨[(C_bk_Drum r_9.2), [i6 r_4.1, i6 r_9.1]], []⟩ ?_
   refine ExO.nil ?_
   refine Ex.ret ?_
   obtain rfl := sJ h
   exact rt (.agg [i6 r_4.1, i6 r_9.1])
def v_bk_Drum_Of (r : Int × T_bk_Drum) : AV := i6 r.1
attribute [local simp] v_bk_Drum_Of
def v_bk_Drum_Less (r : T_Span × T_bk_Drum) : AV := (A_Span r.1)
attribute [local simp] v_bk_Drum_Less
end Go.Proofs.YtkchfjblcfbajaaDoor
end
section
namespace Go.Proofs.YtkchfjblcfbajaaDoor
open Go.RowKit
theorem hit_p (N : Nat) (d : T_bk_Drum) : ∃ y d', p_bk_Drum_hit N d = some (y, d') ∧ 0 ≤ y ∧ y < 2 ^ 64 := by
 refine ⟨_, _, rfl, ?_⟩
 exact wu64 _
theorem roll_p (N : Nat) (d : T_bk_Drum) (n : Int) (hn : n < 9223372036854775808) : ∃ r d', p_bk_Drum_Roll N d n = some (r, d') ∧ 0 ≤ r ∧ (n < 2 → r = 0) ∧ (2 ≤ n → r < n) := by
 unfold p_bk_Drum_Roll
 by_cases h2 : n < 2
 ·simp only [h2, decide_true, cond_true]
  exact ⟨0, d, rfl, by omega, fun _ => rfl, fun h => by omega⟩
 ·simp only [h2, decide_false, cond_false]
  obtain ⟨y, d', hy, h0, h1⟩ := hit_p N d
  have hu : IntKind.u64.wrap n = n := wu64_id (by omega) (by omega)
  have hnz : n ≠ 0 := by omega
  rw [hy, hu]
  simp only [Option.bind_some, nzI, hnz, if_false]
  have hsh : Int.fdiv y ((2 : Int) ^ (min (Int.toNat 1) (IntKind.bits .u64))) = y / 2 := by
   have : (2 : Int) ^ (min (Int.toNat 1) (IntKind.bits .u64)) = 2 := rfl
   rw [this, Int.fdiv_eq_ediv_of_nonneg _ (by omega)]
  rw [hsh]
  have hd0 : 0 ≤ y / 2 := by omega
  have hm : Int.tmod (y / 2) n = (y / 2) % n := Int.tmod_eq_emod_of_nonneg hd0
  have hm0 : 0 ≤ (y / 2) % n := Int.emod_nonneg _ hnz
  have hm1 : (y / 2) % n < n := Int.emod_lt_of_pos _ (by omega)
  rw [hm, w64 (x := y / 2 % n) (by omega) (by omega)]
  exact ⟨_, d', rfl, hm0, fun h => False.elim h, fun _ => hm1⟩
theorem any_p (N : Nat) (d : T_bk_Drum) (l : List Int) (hl : l ≠ []) (hlen : l.length < 1000) : ∃ r d', p_bk_Drum_Any N d l = some (r, d') ∧ r ∈ l := by
 unfold p_bk_Drum_Any
 have hpos : 0 < l.length := List.length_pos_iff.2 hl
 have hb : (((l.length : Nat) : Int) == 0) = false := by simp; omega
 rw [hb, cond_false]
 obtain ⟨r, d', h1, h2, h3, h4⟩ := roll_p N d ((l.length : Nat) : Int) (by omega)
 rw [h1]
 simp only [Option.bind_some]
 have hr : r < (l.length : Int) := by
  by_cases h : (l.length : Int) < 2
  ·rw [h3 h]; omega
  ·exact h4 (by omega)
 obtain ⟨x, e1, _, e3⟩ := getI_lt h2 hr
 rw [e1]
 exact ⟨x, d', rfl, e3⟩
theorem mid_p (N : Nat) (d : T_bk_Drum) (lo hi : Int) (h0 : -4611686018427387904 ≤ lo) (h1 : lo ≤ 4611686018427387903) (h2 : -4611686018427387904 ≤ hi) (h3 : hi ≤ 4611686018427387902) : ∃ r d', p_bk_Drum_Mid N d lo hi = some (r, d') ∧ lo ≤ r ∧ (lo ≤ hi → r ≤ hi) ∧ (hi < lo → r = lo) := by
 unfold p_bk_Drum_Mid
 rw [w64 (x := hi - lo) (by omega) (by omega)]
 by_cases hc : hi - lo + 1 < 9223372036854775808
 ·rw [w64 (x := hi - lo + 1) (by omega) hc]
  obtain ⟨r, d', e1, e2, e3, e4⟩ := roll_p N d (hi - lo + 1) hc
  rw [e1]
  simp only [Option.bind_some]
  have hr : r ≤ hi - lo ∨ r = 0 := by
   by_cases h : hi - lo + 1 < 2
   ·exact .inr (e3 h)
   ·have := e4 (by omega); exact .inl (by omega)
  rw [w64 (by omega) (by omega)]
  exact ⟨_, d', rfl, by omega, fun h => by omega, fun h => by
   have := e3 (by omega)
   omega⟩
 ·omega
theorem drumOf_step (N : Nat) (l : List Int) (rec : Int → Int → Option T_bk_Drum) (i q : Int) (h : i < 9223372036854775807) (h0 : 0 ≤ i) (ih : ∀ b', ∃ d, rec (i + 1) b' = some d) : ∃ d, ((p_bk_Drum_hit N (⟨q⟩ : T_bk_Drum)).bind fun r_14 => (rec (IntKind.i64.wrap (i + 1)) r_14.2.beat_)) = some d := by
 obtain ⟨y, d', g1, _, _⟩ := hit_p N ⟨q⟩
 rw [g1, w64 (x := i + 1) (by omega) (by omega)]
 exact ih _
theorem drumOf_p (N : Nat) (l : List Int) (hN : l.length < N) (hl : l.length < 9223372036854775808) : ∃ d, p_bk_DrumOf N l = some d := by
 unfold p_bk_DrumOf
 rw [letJ_eq]
 refine loop2_T (fun x => ∃ d, x = some d) (fun i b => 0 ≤ i ∧ i ≤ (l.length : Int)) (fun i b => l.length - i.toNat) ?_ N 0 _ ⟨by omega, by omega⟩ (by simpa using hN)
 rintro rec i b ⟨h0, h1⟩ ih
 by_cases hc : i < (l.length : Int)
 ·rw [show decide (i < ((l.length : Nat) : Int)) = true from decide_eq_true hc, cond_true]
  obtain ⟨x, e1, _, _⟩ := getI_lt h0 hc
  rw [e1, Option.bind_some, Option.bind_some]
  exact drumOf_step N l rec i _ (by omega) h0 fun b' => ih _ _ ⟨by omega, by omega⟩ (by omega)
 ·rw [show decide (i < ((l.length : Nat) : Int)) = false from decide_eq_false hc, cond_false]
  exact ⟨_, rfl⟩
theorem roll_le (N : Nat) (d : T_bk_Drum) (n : Int) (h1 : 1 ≤ n) (hn : n < 9223372036854775808) : ∃ r d', p_bk_Drum_Roll N d n = some (r, d') ∧ 0 ≤ r ∧ r < n := by
 obtain ⟨r, d', e, h0, h2, h3⟩ := roll_p N d n hn
 refine ⟨r, d', e, h0, ?_⟩
 by_cases h : n < 2
 ·rw [h2 h]; omega
 ·exact h3 (by omega)
end Go.Proofs.YtkchfjblcfbajaaDoor
end
