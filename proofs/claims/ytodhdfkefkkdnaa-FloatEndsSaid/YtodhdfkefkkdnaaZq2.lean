/- Part 3 of what the law needs: own work, put together. -/
import Derived.RangeFuncNested
import Derived.Scope
import Derived.Laws.CopyRow
import Derived.Laws.IdiomCopy
import Derived.Test.YtodhdfkefkkdnaaProg
import Derived.KernelRfl
import Derived.Test.YtodhdfkefkkdnaaZq1
set_option linter.unusedVariables false
set_option linter.unusedSimpArgs false
section
namespace Go.Proofs.Ytodhdfkefkkdnaa
open Go.RowKit

theorem compCode_rangeF {P : Program} {code : Code} {g : AOpd} {ps : List Nat} {x y : ACode} (h : compCode P code = some (.rangeF g ps x y)) : ∃ g' ps' x' y', code = .rangeFunc g' ps' x' y' ∧ compOpd g' = some g ∧ ps'.toList = ps ∧ compCode P x' = some x ∧ compCode P y' = some y := by
 cases code <;> simp only [compCode, reduceCtorEq] at h
 case rangeFunc g' ps' x' y' =>
  split at h
  ·rename_i h1 h2 h3
   simp only [Option.some.injEq, ACode.rangeF.injEq] at h
   obtain ⟨rfl, rfl, rfl, rfl⟩ := h
   exact ⟨g', ps', x', y', rfl, h1, rfl, h2, h3⟩
  ·cases h
 case region id ops draw =>
  split at h
  ·split at h
   ·split at h
    ·split at h <;> simp at h
    ·cases h
   ·cases h
  ·split at h
   ·cases h
   ·simp at h
 case seq => split at h <;> simp at h
 case cond => split at h <;> simp at h
 all_goals simp at h

def Md.F : Md → Fence
 | .plain => Fence.wide
 | .round l _ => Fence.wide.inRound l
def Md.n : Md → Nat
 | .plain => 2
 | .round _ n => n
theorem Md.fn (md : Md) (f : FuncId) : md.F.fn f := by cases md <;> trivial
theorem Md.depth (md : Md) {p : Prop} (h : md.F.depth.isSome = true) : p := by cases md <;> simp [Md.F, Fence.wide, Fence.inRound] at h
theorem cwp_of_in {md : Md} {P : Program} {c : Code} {Q : Exit → Act → World → Prop} {a : Act} {w : World} (h : c.wpIn md.F md.n P Q a w) : cwp md P c Q a w := by
 cases md
 ·exact wpIn_wide.1 h
 ·exact h
theorem callsIn_md (md : Md) {n : Nat} {P : Program} {f : FuncId} {args : Array Value} {w : World} {R : Ending → World → Prop} (h : Calls P f args w R) : CallsIn md.F n P f args w R := by
 cases md with
 | plain => exact callsIn_wide.2 h
 | round l k => exact CallsIn.inRound l (callsIn_wide.2 h)
theorem rowsIn_md (md : Md) {n : Nat} {P : Program} {row : String} {args : Array Value} {w : World} {R : Value → World → Prop} (h : Rows P row args w R) : RowsIn md.F n P row args w R := by
 cases md with
 | plain => exact fun c cs _ => let ⟨v, w', r, s⟩ := h c cs; ⟨v, w', r, stepsIn_wide.2 s⟩
 | round l k => exact rows_round h
theorem listIn_of {md : Md} {P : Program} {ops : Array Oper} {Q : Exit → Act → World → Prop} {K : Act → World → Prop} (l2 : List Oper) (hn : ∀ a w, K a w → wpListIn md.F md.n P ops Q l2 a w) : ∀ (l : List Oper) (a : Act) (w : World), (∀ o ∈ l, ∀ d, o.op ≠ .defer d) → wpList P ops (fun e a w => e = .normal ∧ K a w) l a w → wpListIn md.F md.n P ops Q (l ++ l2) a w
 | [], a, w, _, h => hn a w h.2
 | o :: l, a, w, hd, h => by
  have ih := listIn_of (md := md) (P := P) (ops := ops) (Q := Q) (K := K) l2 hn l
  have hd' : ∀ o ∈ l, ∀ d, o.op ≠ .defer d := fun o ho => hd o (List.mem_cons_of_mem _ ho)
  have hL : ¬ LetsOut (fun (e : Exit) (a : Act) (w : World) => e = Exit.normal ∧ K a w) := fun ⟨a, w, hq⟩ => by cases hq.1
  simp only [List.cons_append, wpListIn]
  simp only [wpList] at h
  by_cases hw : Region.wanted o (yielded ops a.tmps) = true
  ·rw [if_pos hw] at h ⊢
   rcases h with h | ⟨_, h⟩
   ·refine ⟨fun f _ => md.fn f, ?_⟩
    rw [Oper.semAt_eq _ _ _ (hd o (by simp))]
    unfold Oper.wp at h
    generalize (execOp a.eval o).run P w = r at h
    cases r with
    | ok nx w' =>
     cases nx <;> simp only [Oper.upon, Oper.uponIn] at h ⊢
     case value v => exact ih _ _ hd' h
     case skip => exact ih _ _ hd' h
     case defer d => exact ih _ _ hd' h
     case enter f args =>
      refine ⟨fun hdp => md.depth hdp, callsIn_md md (Calls.mono h fun e w'' he => ?_)⟩
      cases e with
      | returned v => exact ih _ _ hd' he
      | panicked c => cases he.1
      | outgrown => exact absurd he hL
     case row row args => exact ⟨fun hdp => md.depth hdp, rowsIn_md md (Rows.mono h fun v w'' he => ih _ _ hd' he)⟩
    | halt x w' => cases x <;> simp only [Oper.upon, Oper.uponIn] at h ⊢ <;> cases h.1
   ·exact absurd h hL
  ·rw [if_neg hw] at h ⊢
   exact ⟨fun f _ => md.fn f, ih _ _ hd' h⟩

def ExI (c : Cx) (md : Md) (P : Program) (xs : List AOper) (a : List AV) (S : St) (R : List AV → St → Prop) : Prop :=
 ∀ (E : Ent), E.c = c → ∀ (ops : Array Oper) (l : List Oper) (Q : Exit → Act → World → Prop), l.mapM (compOper P ops) = some xs → (∀ o ∈ l, ∀ d, o.op ≠ .defer d) → (∀ a' S' act' w', R a' S' → At E a' S' act' w' → Q .normal act' w') → ∀ act w, At E a S act w → wpListIn md.F md.n P ops Q l act w

theorem mapM_append_inv {P : Program} {ops : Array Oper} : ∀ (xs : List AOper) {ys : List AOper} {l : List Oper}, l.mapM (compOper P ops) = some (xs ++ ys) → ∃ l1 l2, l = l1 ++ l2 ∧ l1.mapM (compOper P ops) = some xs ∧ l2.mapM (compOper P ops) = some ys
 | [], ys, l, h => ⟨[], l, rfl, rfl, h⟩
 | x :: xs, ys, l, h => by
  obtain ⟨o, l', rfl, hx, hl'⟩ := mapM_cons_inv h
  obtain ⟨l1, l2, rfl, h1, h2⟩ := mapM_append_inv xs hl'
  exact ⟨o :: l1, l2, rfl, by simp [List.mapM_cons, hx, h1], h2⟩

section rules
variable {c : Cx} {md : Md} {P : Program} {a : List AV} {S : St} {Q : AEx → List AV → St → Prop} {R : List AV → St → Prop}
theorem ExI.nil (h : R a S) : ExI c md P [] a S R := by
 intro E hE ops l Q hl hd hq act w hA
 cases l with
 | nil => exact hq _ _ _ _ h hA
 | cons o l =>
  rw [List.mapM_cons] at hl
  simp only [Option.bind_eq_bind, Option.bind_eq_some_iff, Option.pure_def, Option.some.injEq] at hl
  obtain ⟨_, _, _, _, h⟩ := hl
  cases h
theorem ExI.pre {xs ys : List AOper} (h : ExO c P xs a S fun a1 S1 => ExI c md P ys a1 S1 R) : ExI c md P (xs ++ ys) a S R := by
 intro E hE ops l Q hl hd hq act w hA
 obtain ⟨l1, l2, rfl, h1, h2⟩ := mapM_append_inv xs hl
 refine listIn_of (K := fun act w => wpListIn md.F md.n P ops Q l2 act w) l2 (fun _ _ h => h) l1 act w (fun o ho => hd o (List.mem_append_left _ ho)) ?_
 refine h E hE ops l1 _ h1 (fun a' S' act' w' hr hA' => ⟨rfl, ?_⟩) act w hA
 exact hr E hE ops l2 Q h2 (fun o ho => hd o (List.mem_append_right _ ho)) hq act' w' hA'
theorem ExI.of {xs : List AOper} (h : ExO c P xs a S R) : ExI c md P xs a S R := by
 have := ExI.pre (c := c) (md := md) (P := P) (a := a) (S := S) (R := R) (xs := xs) (ys := []) (by
  intro E hE ops l Q hl hq act w hA
  exact h E hE ops l Q hl (fun a' S' act' w' hr hA' => hq a' S' act' w' (ExI.nil hr) hA') act w hA)
 rwa [List.append_nil] at this
end rules

def Fact.free (l t : Nat) : Fact → Prop
 | .lp L | .bz L => L.l ≠ l ∧ L.t ≠ t
 | _ => True
structure LpOk (P : Program) (c : Cx) (L : Lp) (a0 : List AV) (ps : List Nat) (x y : ACode) : Prop where
 fs : ∃ f1 f2, c.fs = f1 ++ .lp L :: f2 ∧ ∀ f ∈ f1 ++ f2, f.free L.l L.t
 rel : ∃ G0 n m, Fact.le G0 n m ∈ c.fs ∧ L.r.tmps.size = a0.length ∧ ∀ (i : Nat) z u, a0[i]? = some z → L.r.tmps[i]? = some u → VR G0 z u
 ps : L.r.params.toList = ps
 x : compCode P L.r.assign = some x
 y : compCode P L.r.body = some y
theorem Fact.wf.mono {f : Fact} {n m n' m' : Nat} (h : f.wf n m) (hn : n ≤ n') (hm : m ≤ m') : f.wf n' m' := by
 cases f with
 | le G0 n0 m0 => exact ⟨Nat.le_trans h.1 hn, Nat.le_trans h.2 hm⟩
 | lp L => exact Nat.lt_of_lt_of_le h hm
 | bz L => exact Nat.lt_of_lt_of_le h hm
 | df _ _ _ _ => trivial
theorem Fact.below.mono {f : Fact} {k k' : Nat} (h : f.below k) (hk : k ≤ k') : f.below k' := by
 cases f with
 | lp L => exact Nat.lt_of_lt_of_le h hk
 | bz L => exact Nat.lt_of_lt_of_le h hk
 | df _ u _ _ => exact Nat.le_trans h hk
 | _ => trivial
theorem Fact.above.mono {f : Fact} {k k' : Nat} (h : f.above k) (hk : k' ≤ k) : f.above k' := by
 cases f with
 | lp L => exact Nat.le_trans hk h
 | bz L => exact Nat.le_trans hk h
 | _ => trivial

def setPs (a : List AV) : List Nat → List AV → List AV
 | p :: ps, x :: xs => setPs (a.set p x) ps xs
 | _, _ => a
theorem setPs_rel {G : Gh} : ∀ (ps : List Nat) (xs : List AV) (us : List Value) (a : List AV) (t : Array Value), us.length = xs.length → (∀ (i : Nat) x u, xs[i]? = some x → us[i]? = some u → VR G x u) → t.size = a.length → (∀ (i : Nat) z u, a[i]? = some z → t[i]? = some u → VR G z u) →
  ((ps.zip us).foldl (fun t (p, v) => t.setIfInBounds p v) t).size = (setPs a ps xs).length ∧ ∀ (i : Nat) z u, (setPs a ps xs)[i]? = some z → ((ps.zip us).foldl (fun t (p, v) => t.setIfInBounds p v) t)[i]? = some u → VR G z u
 | [], xs, us, a, t, _, _, hs, h => by
  have : setPs a [] xs = a := by cases xs <;> rfl
  rw [this]
  exact ⟨hs, h⟩
 | p :: ps, [], us, a, t, hl, _, hs, h => by
  have : us = [] := List.eq_nil_of_length_eq_zero (by simpa using hl)
  subst this
  exact ⟨hs, h⟩
 | p :: ps, x :: xs, [], a, t, hl, _, hs, h => by simp at hl
 | p :: ps, x :: xs, u :: us, a, t, hl, hv, hs, h => by
  simp only [List.zip_cons_cons, List.foldl_cons, setPs]
  refine setPs_rel ps xs us _ _ (by simpa using hl) (fun i x u h1 h2 => hv (i + 1) x u (by simpa using h1) (by simpa using h2)) (by simpa using hs) fun i z v hz hv' => ?_
  rw [List.getElem?_set] at hz
  rw [Array.getElem?_setIfInBounds] at hv'
  by_cases hpi : p = i
  ·subst hpi
   rw [if_pos rfl] at hz hv'
   split at hz
   ·split at hv'
    ·cases hz; cases hv'
     exact hv 0 _ _ rfl rfl
    ·cases hv'
   ·cases hz
  ·rw [if_neg hpi] at hz hv'
   exact h i z v hz hv'

theorem Gro.putObj {G0 G : Gh} {S0 S : St} {w0 w : World} (h : Gro G0 S0 w0 G S w) {l : Nat} (o : Obj) (hl : w0.heap.size ≤ l) : Gro G0 S0 w0 G S (w.putObj l o) := by
 refine ⟨h.le, h.os, h.tape, h.output, by simp [World.putObj]; exact h.size, fun B hB hno => ?_, h.own, fun k o' hk ho => ?_⟩
 ·rw [World.putObj_heap_other (by omega)]; exact h.fr B hB hno
 ·have hlt := (Array.getElem?_eq_some_iff.1 hk).1
  rw [World.putObj_heap_other (by omega)]; exact h.oth k o' hk ho
theorem Inv.flag {G : Gh} {S : St} {w : World} (hI : Inv G S w) {t : Nat} (p : Nat × Nat) (ht : ∀ n, G.tb t n = none) : Inv G ⟨S.bx, S.lv.set t p⟩ w := by
 have hg : ∀ t' n v, G.tb t' n = some v → (S.lv.set t p)[t']? = S.lv[t']? := fun t' n v h => by
  refine List.getElem?_set_ne ?_
  rintro rfl; rw [ht] at h; cases h
 refine ⟨hI.box, fun t' n s0 B s c h1 h2 => hI.tok t' n s0 B s c (by rw [← hg t' n _ h2]; exact h1) h2, hI.fz, hI.dal, fun t' n v h => ?_, hI.injA, fun t1 t2 n n' s0 s0' B s s' c c' h1 h2 h3 h4 => ?_, fun b B t' n s0 s c h1 h2 h3 => ?_⟩
 ·obtain ⟨m, s, h1, h2⟩ := hI.dtb t' n v h
  exact ⟨m, s, by rw [← h1]; exact hg t' n v h, h2⟩
 ·exact hI.injT t1 t2 n n' s0 s0' B s s' c c' (by rw [← hg t1 n _ h3]; exact h1) (by rw [← hg t2 n' _ h4]; exact h2) h3 h4
 ·exact hI.sep b B t' n s0 s c h1 (by rw [← hg t' n _ h3]; exact h2) h3
theorem Gro.flag {G0 G : Gh} {S0 S : St} {w0 w : World} (h : Gro G0 S0 w0 G S w) {t : Nat} (p : Nat × Nat) (ht : ∀ n, G.tb t n = none) : Gro G0 S0 w0 G ⟨S.bx, S.lv.set t p⟩ w := by
 refine ⟨h.le, h.os, h.tape, h.output, h.size, h.fr, fun B ho => h.own B ?_, h.oth⟩
 rcases ho with hb | ⟨t', n, s0, s, c, h1, h2⟩
 ·exact .inl hb
 ·refine .inr ⟨t', n, s0, s, c, ?_, h2⟩
  rw [← h1]
  refine (List.getElem?_set_ne ?_).symm
  rintro rfl; rw [ht] at h2; cases h2
theorem Inv.allocO {G : Gh} {S : St} {w : World} (hI : Inv G S w) (o : Obj) : Inv G S (w.alloc o) := by
 have hold : ∀ b, b < w.heap.size → (w.alloc o).heap[b]? = w.heap[b]? := fun b hb => Below.heap_alloc w _ b hb
 refine ⟨fun b B cs h1 h2 => ?_, fun t n s0 B s c h1 h2 => ?_, fun b o u hf => ?_, fun b B h1 => ?_, hI.dtb, hI.injA, hI.injT, hI.sep⟩
 ·rcases hI.box b B cs h1 h2 with h0 | ⟨us, T, k1, k2⟩
  ·exact .inl h0
  ·exact .inr ⟨us, T, by rw [hold B (hI.dal b B h1).2]; exact k1, k2⟩
 ·obtain ⟨k1, ⟨us, T, k2, k3⟩, k4⟩ := hI.tok t n s0 B s c h1 h2
  exact ⟨k1, ⟨us, T, by rw [hold B (hI.toklt h1 h2)]; exact k2, k3⟩, k4⟩
 ·rw [cell_of_heap (hold b (hI.fzlt hf))]; exact hI.fz b o u hf
 ·have := hI.dal b B h1
  exact ⟨this.1, by simp; omega⟩
theorem Gro.allocO (G : Gh) (S : St) (w : World) (o : Obj) : Gro G S w G S (w.alloc o) :=
 ⟨.refl G, rfl, rfl, rfl, by simp, fun B hB _ => ⟨Below.heap_alloc w _ B hB, fun _ => rfl⟩, fun _ h => .inl h, oth_alloc w o⟩
end Go.Proofs.Ytodhdfkefkkdnaa
end
section
namespace Go.Proofs.Ytodhdfkefkkdnaa
open Go.RowKit

theorem compOp_call {P : Program} {ty : TypeId} {op : Op} {f : AOpd} {args : List AOpd} (h : compOp P ty op = some (.call f args)) : ∃ sf sargs ts, op = .call { callee := .value sf, args := sargs, argTypes := ts } ∧ compOpd sf = some f ∧ compOpds sargs = some args := by
 unfold compOp at h
 split at h
 all_goals first
  | (rename_i sf sargs ts
     simp only [Option.bind_eq_bind, Option.bind_eq_some_iff, Option.pure_def, Option.some.injEq, AOp.call.injEq] at h
     obtain ⟨f', hf, as', has, rfl, rfl⟩ := h
     exact ⟨_, _, _, rfl, hf, has⟩)
  | (exfalso; cases h; done)
  | (exfalso; simp [Option.bind_eq_some_iff] at h; done)
  | skip
 all_goals (exfalso; revert h)
 all_goals (try (simp [Option.bind_eq_some_iff]; done))
 all_goals (repeat (first | (intro h; cases h; done) | split))
 all_goals (try (simp [Option.bind_eq_some_iff]; done))
 all_goals (try (repeat (first | (intro h; cases h; done) | split)))
 all_goals (try (intro h; simp [Option.bind_eq_some_iff] at h; done))
 all_goals (intro h; simp only [Option.bind_eq_bind, Option.bind_eq_some_iff, Option.pure_def, Option.map_eq_some_iff, Option.some.injEq, reduceCtorEq, and_false, exists_false] at h)
 all_goals (repeat' (first | (cases h; done) | (obtain ⟨_, _, h⟩ := h; try simp only [Option.bind_eq_bind, Option.bind_eq_some_iff, Option.pure_def, Option.map_eq_some_iff, Option.some.injEq, reduceCtorEq, and_false, exists_false] at h) | (simp [Option.bind_eq_some_iff] at h; done) | split at h))

theorem VR.inv_yld {G : Gh} {l t : Nat} {u : Value} (h : VR G (.yld l t) u) : u = .func (.yield l) #[] #[] := by cases h; rfl
theorem yield_run {P : Program} {G : Gh} {w : World} {o : Oper} {ρ : Operand → Value} {a : AOpd → AV} {sf : Operand} {sargs : Array Operand} {ts : Array TypeId} {f : AOpd} {args : List AOpd} {l t : Nat} {r : Loop} (ho : o.op = .call { callee := .value sf, args := sargs, argTypes := ts }) (hf : compOpd sf = some f) (ha : compOpds sargs = some args) (h : OpdOk G a ρ) (hv : a f = .yld l t) (hl : w.heap[l]? = some (.loop r)) (hs : r.params.size = args.length) :
  ∃ us : Array Value, (execOp ρ o).run P w = .ok (.round l r.fn ((r.params.zip us).foldl (fun tmps (t, a) => tmps.setIfInBounds t a) r.tmps) r.assign r.body) w ∧ us.size = args.length ∧ ∀ (i : Nat) x u, (args.map a)[i]? = some x → us[i]? = some u → VR G x u := by
 have h1 := h sf f hf
 rw [hv] at h1
 have hu := h1.inv_yld
 have hall := VL.opds ha h
 have hsz : (sargs.map ρ).size = args.length := by rw [hall.1, List.length_map]
 refine ⟨sargs.map ρ, ?_, hsz, hall.2⟩
 have hy := run_yield (P := P) (args := sargs.map ρ) hl (by rw [hsz, hs])
 simp only [execOp, ho, resolve, hu, Deferred.ofValue, invoke]
 simp [hy]

theorem zip_foldl (ps : Array Tmp) (us : Array Value) (t : Array Value) : (ps.zip us).foldl (fun tmps (t, a) => tmps.setIfInBounds t a) t = (ps.toList.zip us.toList).foldl (fun tmps (t, a) => tmps.setIfInBounds t a) t := by
 rw [← Array.foldl_toList, Array.toList_zip]

section rules
variable {c : Cx} {md : Md} {P : Program} {a : List AV} {S : St} {Q : AEx → List AV → St → Prop} {R : List AV → St → Prop}

theorem ExI.yield {L : Lp} {a0 : List AV} {ps : List Nat} {x0 y0 : ACode} (hL : LpOk P c L a0 ps x0 y0) {x : AOper} {l : List AOper} (f : AOpd) (args : List AOpd) (t : Nat) (xs : List AV) (hw : wantedA x.guard a = some true) (ho : x.op = .call f args) (hf : evd a f = .yld L.l t) (hxs : args.map (evd a) = xs) (hps : ps.length = xs.length) (hr : S.lv[L.t]? = some (0, 0)) (hn : c.n ≤ S.bx.length)
  (h : ∀ (ca cb : Cx), ca.n = S.bx.length → cb.n = S.bx.length → ca.m = S.lv.length → cb.m = S.lv.length → (∀ L' a' ps' x' y', LpOk P c L' a' ps' x' y' → L'.l ≠ L.l → LpOk P ca L' a' ps' x' y' ∧ LpOk P cb L' a' ps' x' y') → Fact.bz L ∈ cb.fs →
    Ex ca (.round L.l (md.n - 1)) P x0 (setPs a0 ps xs) S fun z a1 S1 => z = .norm ∧ S1.lv[L.t]? = some (0, 0) ∧
     Ex cb (.round L.l (md.n - 1)) P y0 a1 S1 fun z a2 S2 => match z with
      | .norm => ExI c md P l (putA a x.dst (.bool true)) S2 R
      | .ret => ExI c md P l (putA a x.dst (.bool false)) ⟨S2.bx, S2.lv.set L.t (1, 0)⟩ R
      | .ex i => ExI c md P l (putA a x.dst (.bool false)) ⟨S2.bx, S2.lv.set L.t (i + 2, 0)⟩ R) : ExI c md P (x :: l) a S R := by
 intro E hE ops l0 Q hco hdef hq act w hA
 obtain ⟨o, l', rfl, hx, hl'⟩ := mapM_cons_inv hco
 obtain ⟨h1, h2, _⟩ := compOper_ok hx
 obtain ⟨G, hI, hR, hg, hk, hd⟩ := hA
 have hgr := hg
 subst hE
 obtain ⟨f1, f2, hfs, hfree⟩ := hL.fs
 obtain ⟨G0, n0, m0, hle0, htz, htv⟩ := hL.rel
 have hmem : Fact.lp L ∈ E.c.fs := by rw [hfs]; simp
 have hlp := hd.x _ hmem
 obtain ⟨hnone, k, hk1, hk2⟩ := hlp
 rw [hr] at hk1
 cases hk1
 have hlt : L.t < E.c.m := E.c.hw _ hmem
 have hlk : L.l < E.c.k := E.c.hk _ hmem
 have hab : E.w.heap.size ≤ L.l := E.hW _ hmem
 have hG0 := (hd.x _ hle0).1
 obtain ⟨sf, sargs, ts, hop, hsf, hsa⟩ := compOp_call (ho ▸ h1)
 have hpl : L.r.params.size = args.length := by
  rw [← Array.length_toList, hL.ps, hps, ← hxs, List.length_map]
 have hk2' : w.heap[L.l]? = some (.loop { L.r with state := .ready, pending := none }) := hk2
 obtain ⟨us, hrun, husz, husv⟩ := yield_run (P := P) (w := w) hop hsf hsa hR.opd hf hk2' hpl
 simp only [wpListIn]
 rw [if_pos (wantedA_ok hx hR hw)]
 refine ⟨fun g _ => md.fn g, ?_⟩
 rw [Oper.semAt_eq _ _ _ (hdef o (by simp)), hrun, Oper.uponIn_round]
 refine ⟨fun hdp => md.depth hdp, ?_⟩
 rw [hxs] at husv
 have husl : us.toList.length = xs.length := by rw [Array.length_toList, husz, ← hxs, List.length_map]
 -- the two contexts
 have hwf : ∀ g ∈ E.c.fs, g.wf S.bx.length S.lv.length := fun g hg' => (E.c.hw g hg').mono hn hd.m
 have hdomA : ∀ b B, G.al b = some B → b < S.bx.length := fun b B h => (hI.dal b B h).1
 have hdomT : ∀ t k v, G.tb t k = some v → t < S.lv.length := fun t k v h => by
  obtain ⟨m, s, h1, _⟩ := hI.dtb t k v h
  exact (List.getElem?_eq_some_iff.1 h1).1
 let ca : Cx := ⟨S.bx.length, S.lv.length, w.heap.size, .le G S.bx.length S.lv.length :: .df E.b w.heap.size E.d act.defers :: E.c.fs, fun g hg' => (by
  rcases List.mem_cons.1 hg' with rfl | hg'
  ·exact ⟨Nat.le_refl _, Nat.le_refl _⟩
  rcases List.mem_cons.1 hg' with rfl | hg'
  ·trivial
  ·exact hwf g hg'), fun g hg' => (by
  rcases List.mem_cons.1 hg' with rfl | hg'
  ·trivial
  rcases List.mem_cons.1 hg' with rfl | hg'
  ·exact Nat.le_refl _
  ·exact (E.c.hk g hg').mono hd.k)⟩
 let cb : Cx := ⟨S.bx.length, S.lv.length, w.heap.size, .le G S.bx.length S.lv.length :: .df E.b w.heap.size E.d act.defers :: (f1 ++ .bz L :: f2), fun g hg' => (by
  rcases List.mem_cons.1 hg' with rfl | hg'
  ·exact ⟨Nat.le_refl _, Nat.le_refl _⟩
  rcases List.mem_cons.1 hg' with rfl | hg'
  ·trivial
  ·rcases List.mem_append.1 hg' with hg' | hg'
   ·exact hwf g (by rw [hfs]; simp [hg'])
   ·rcases List.mem_cons.1 hg' with rfl | hg'
    ·exact (show L.t < S.lv.length from hwf (.lp L) hmem)
    ·exact hwf g (by rw [hfs]; simp [hg'])), fun g hg' => (by
  rcases List.mem_cons.1 hg' with rfl | hg'
  ·trivial
  rcases List.mem_cons.1 hg' with rfl | hg'
  ·exact Nat.le_refl _
  ·rcases List.mem_append.1 hg' with hg' | hg'
   ·exact (E.c.hk g (by rw [hfs]; simp [hg'])).mono hd.k
   ·rcases List.mem_cons.1 hg' with rfl | hg'
    ·exact Nat.lt_of_lt_of_le hlk hd.k
    ·exact (E.c.hk g (by rw [hfs]; simp [hg'])).mono hd.k)⟩
 have hup : ∀ L' a' ps' x' y', LpOk P E.c L' a' ps' x' y' → L'.l ≠ L.l → LpOk P ca L' a' ps' x' y' ∧ LpOk P cb L' a' ps' x' y' := by
  intro L' a' ps' x' y' hL' hne
  obtain ⟨g1, g2, hgs, hgf⟩ := hL'.fs
  obtain ⟨G', n', m', hle', h3, h4⟩ := hL'.rel
  refine ⟨⟨⟨.le G S.bx.length S.lv.length :: .df E.b w.heap.size E.d act.defers :: g1, g2, by show _ :: _ :: E.c.fs = _; rw [hgs]; rfl, fun g hg' => ?_⟩, ⟨G', n', m', List.mem_cons_of_mem _ (List.mem_cons_of_mem _ hle'), h3, h4⟩, hL'.ps, hL'.x, hL'.y⟩, ⟨?_, ⟨G', n', m', ?_, h3, h4⟩, hL'.ps, hL'.x, hL'.y⟩⟩
  ·rcases List.mem_cons.1 hg' with rfl | hg'
   ·trivial
   rcases List.mem_cons.1 hg' with rfl | hg'
   ·trivial
   ·exact hgf g hg'
  ·-- L' among the others
   have hin : Fact.lp L' ∈ f1 ++ f2 := by
    have : Fact.lp L' ∈ E.c.fs := by rw [hgs]; simp
    rw [hfs] at this
    rcases List.mem_append.1 this with h | h
    ·exact List.mem_append_left _ h
    ·rcases List.mem_cons.1 h with h | h
     ·cases h; exact absurd rfl hne
     ·exact List.mem_append_right _ h
   have hfL := hfree _ hin
   have hothers : ∀ g ∈ f1 ++ .bz L :: f2, g ≠ .lp L' → g.free L'.l L'.t := by
    intro g hg' hne'
    have hgE : g = .bz L ∨ g ∈ E.c.fs := by
     rcases List.mem_append.1 hg' with h | h
     ·exact .inr (by rw [hfs]; simp [h])
     ·rcases List.mem_cons.1 h with h | h
      ·exact .inl h
      ·exact .inr (by rw [hfs]; simp [h])
    rcases hgE with rfl | hgE
    ·exact ⟨fun e => hfL.1 e.symm, fun e => hfL.2 e.symm⟩
    ·rw [hgs] at hgE
     rcases List.mem_append.1 hgE with h | h
     ·exact hgf g (List.mem_append_left _ h)
     ·rcases List.mem_cons.1 h with h | h
      ·exact absurd h hne'
      ·exact hgf g (List.mem_append_right _ h)
   -- it stands there once
   have honce : ∃ h1 h2, f1 ++ .bz L :: f2 = h1 ++ .lp L' :: h2 ∧ ∀ g ∈ h1 ++ h2, g ≠ .lp L' := by
    have hE1 : ∀ u v, f1 ++ .lp L :: f2 = u ++ v → True := fun _ _ _ => trivial
    have hg12 : ∀ g ∈ g1 ++ g2, g ≠ .lp L' := fun g hg' e => by
     have := hgf g hg'; rw [e] at this; exact this.1 rfl
    have heq : f1 ++ .lp L :: f2 = g1 ++ .lp L' :: g2 := by rw [← hfs, hgs]
    rcases List.append_eq_append_iff.1 heq with ⟨m, e1, e2⟩ | ⟨m, e1, e2⟩
    ·cases m with
     | nil =>
      simp at e2
      exact absurd (by rw [e2.1]) hne
     | cons q m =>
      simp only [List.cons_append, List.cons.injEq] at e2
      obtain ⟨rfl, e2⟩ := e2
      refine ⟨f1 ++ .bz L :: m, g2, by rw [e2]; simp, fun g hg' => ?_⟩
      simp only [List.mem_append, List.mem_cons] at hg'
      rcases hg' with (hg' | rfl | hg') | hg'
      ·exact hg12 g (by rw [e1]; simp [hg'])
      ·simp
      ·exact hg12 g (by rw [e1]; simp [hg'])
      ·exact hg12 g (by simp [hg'])
    ·cases m with
     | nil =>
      simp at e2
      exact absurd (by rw [← e2.1]) hne
     | cons q m =>
      simp only [List.cons_append, List.cons.injEq] at e2
      obtain ⟨rfl, e2⟩ := e2
      refine ⟨g1, m ++ .bz L :: f2, by rw [e1]; simp, fun g hg' => ?_⟩
      simp only [List.mem_append, List.mem_cons] at hg'
      rcases hg' with hg' | hg' | rfl | hg'
      ·exact hg12 g (by simp [hg'])
      ·exact hg12 g (by rw [e2]; simp [hg'])
      ·simp
      ·exact hg12 g (by rw [e2]; simp [hg'])
   obtain ⟨h1, h2, e1, e2⟩ := honce
   refine ⟨.le G S.bx.length S.lv.length :: .df E.b w.heap.size E.d act.defers :: h1, h2, by show _ :: _ :: (f1 ++ .bz L :: f2) = _; rw [e1]; rfl, fun g hg' => ?_⟩
   rcases List.mem_cons.1 hg' with rfl | hg'
   ·trivial
   rcases List.mem_cons.1 hg' with rfl | hg'
   ·trivial
   ·refine hothers g (by rw [e1]; rcases List.mem_append.1 hg' with h | h <;> simp [h]) (e2 g hg')
  ·rw [hfs] at hle'
   rcases List.mem_append.1 hle' with h | h
   ·exact List.mem_cons_of_mem _ (List.mem_cons_of_mem _ (List.mem_append_left _ h))
   ·rcases List.mem_cons.1 h with h | h
    ·cases h
    ·exact List.mem_cons_of_mem _ (List.mem_cons_of_mem _ (List.mem_append_right _ (List.mem_cons_of_mem _ h)))
 have hEx := h ca cb rfl rfl rfl rfl hup (by show _ ∈ _ :: _ :: (f1 ++ .bz L :: f2); simp)
 -- the assignments
 let Ea : Ent := ⟨E.G, E.S, E.w, [], E.inv, ca, hk.ll, E.tr, Nat.le_trans hk.bl (Nat.le_refl _), fun g hg' => (by
  rcases List.mem_cons.1 hg' with rfl | hg'
  ·trivial
  rcases List.mem_cons.1 hg' with rfl | hg'
  ·trivial
  ·exact E.hW g hg'), w.heap.size, hgr.size⟩
 let Eb : Ent := ⟨E.G, E.S, E.w, [], E.inv, cb, hk.ll, E.tr, Nat.le_trans hk.bl (Nat.le_refl _), fun g hg' => (by
  rcases List.mem_cons.1 hg' with rfl | hg'
  ·trivial
  rcases List.mem_cons.1 hg' with rfl | hg'
  ·trivial
  ·rcases List.mem_append.1 hg' with hg' | hg'
   ·exact E.hW g (by rw [hfs]; simp [hg'])
   ·rcases List.mem_cons.1 hg' with rfl | hg'
    ·exact hab
    ·exact E.hW g (by rw [hfs]; simp [hg'])), w.heap.size, hgr.size⟩
 obtain ⟨hps1, hps2⟩ := setPs_rel ps xs us.toList a0 L.r.tmps husl (fun i x u h1 h2 => husv i x u h1 (by simpa using h2)) htz (fun i z u h1 h2 => (htv i z u h1 h2).mono hG0)
 have hAa : At Ea (setPs a0 ps xs) S { tmps := (ps.zip us.toList).foldl (fun t (p, v) => t.setIfInBounds p v) L.r.tmps, defers := [] } w := by
  refine ⟨G, hI, ⟨hps1, hps2⟩, hg, hk, ⟨⟨[], rfl, .nil, fun _ h => (by cases h)⟩, fun g hg' => ?_, Nat.le_refl _, Nat.le_refl _, Nat.le_refl _⟩⟩
  rcases List.mem_cons.1 hg' with rfl | hg'
  ·exact ⟨.refl G, hdomA, hdomT⟩
  rcases List.mem_cons.1 hg' with rfl | hg'
  ·exact hd.d
  ·exact hd.x g hg'
 refine roundIn_of_wpIn (md.fn _) ?_
 have hz : (L.r.params.zip us).foldl (fun (t : Array Value) (p : Tmp × Value) => t.setIfInBounds p.1 p.2) L.r.tmps = (ps.zip us.toList).foldl (fun t p => t.setIfInBounds p.1 p.2) L.r.tmps := by
  rw [← hL.ps]; exact zip_foldl L.r.params us L.r.tmps
 have hfr : md.F.inRound L.l = Fence.wide.inRound L.l := by cases md <;> rfl
 rw [hfr]
 have hasg := hEx Ea rfl L.r.assign hL.x _ w hAa
 simp only [cwp] at hasg
 change Code.wpIn (Fence.wide.inRound L.l) (md.n - 1) P L.r.assign _ { tmps := (L.r.params.zip us).foldl (fun (t : Array Value) (p : Tmp × Value) => t.setIfInBounds p.1 p.2) L.r.tmps, defers := [] } w
 rw [hz]
 refine wpIn_mono hasg ?_
 rintro e act1 w1 ⟨z, a1, S1, rfl, ⟨rfl, hfl1, hbody⟩, G1, hI1, hR1, hg1, hk1', hd1⟩
 have hf1 : ∀ g ∈ ca.fs, g.ok G1 S1 w1 := hd1.x
 obtain ⟨hn1, k1, hk11, hk12⟩ := hf1 (.lp L) (List.mem_cons_of_mem _ (List.mem_cons_of_mem _ hmem))
 rw [hfl1] at hk11
 cases hk11
 have hk12 : w1.heap[L.l]? = some (.loop { L.r with state := .ready, pending := none }) := hk12
 refine ⟨w1.putObj L.l L.busy, run_beginRound hk12 rfl, ?_⟩
 have hlt1 : L.l < w1.heap.size := (Array.getElem?_eq_some_iff.1 hk12).1
 have hAb : At Eb a1 S1 act1 (w1.putObj L.l L.busy) := by
  refine ⟨G1, hI1.putObj _ hk12 rfl, hR1, hg1.putObj _ hab, hk1', ⟨?_, fun g hg' => ?_, hd1.m, ?_, ?_⟩⟩
  ·refine DefOk.mono (Fact.other (f := .df w.heap.size w1.heap.size [] act1.defers) (S := S1) (G := G1) L.busy hd1.d hk12 trivial) ?_
   simp [World.putObj]
  ·rcases List.mem_cons.1 hg' with rfl | hg'
   ·exact hf1 _ (List.mem_cons_self ..)
   rcases List.mem_cons.1 hg' with rfl | hg'
   ·exact Fact.other L.busy (hf1 _ (List.mem_cons_of_mem _ (List.mem_cons_self ..))) hk12 trivial
   have hoth : ∀ g ∈ f1 ++ f2, g.ok G1 S1 (w1.putObj L.l L.busy) := fun g hg' => by
    have hgE : g ∈ E.c.fs := by
     rw [hfs]
     rcases List.mem_append.1 hg' with h | h <;> simp [h]
    refine Fact.other L.busy (hf1 g (List.mem_cons_of_mem _ (List.mem_cons_of_mem _ hgE))) hk12 ?_
    have := hfree g hg'
    cases g <;> first | trivial | exact this.1
   rcases List.mem_append.1 hg' with hg' | hg'
   ·exact hoth g (List.mem_append_left _ hg')
   ·rcases List.mem_cons.1 hg' with rfl | hg'
    ·exact ⟨hn1, hfl1, World.putObj_heap_same hlt1⟩
    ·exact hoth g (List.mem_append_right _ hg')
  ·show w.heap.size ≤ _
   have := hd1.k
   simp only [World.putObj, Array.size_setIfInBounds]
   exact this
  ·have := hd1.b
   simp only [World.putObj, Array.size_setIfInBounds]
   exact this
 have hbod := hbody Eb rfl L.r.body hL.y act1 _ hAb
 simp only [cwp] at hbod
 refine wpIn_mono hbod ?_
 rintro e act2 w3 ⟨z, a2, S2, rfl, hz, G2, hI2, hR2, hg2, hk2', hd2⟩
 have hf2 : ∀ g ∈ cb.fs, g.ok G2 S2 w3 := hd2.x
 obtain ⟨hn2, hfl2, hbz⟩ := hf2 (.bz L) (by show _ ∈ _ :: _ :: (f1 ++ .bz L :: f2); simp)
 have hle2 : G.le G2 := (hf2 _ (List.mem_cons_self ..)).1
 have hdf2 : DefOk E.b w.heap.size E.d act.defers w3 := hf2 _ (List.mem_cons_of_mem _ (List.mem_cons_self ..))
 have hlt3 : L.l < w3.heap.size := (Array.getElem?_eq_some_iff.1 hbz).1
 have htl : L.t < S2.lv.length := (List.getElem?_eq_some_iff.1 hfl2).1
 have fin : ∀ (k : Nat) (b : Bool), At E (putA a x.dst (.bool b)) ⟨S2.bx, S2.lv.set L.t (k, 0)⟩ (act.put o.dst (.bool b)) (w3.putObj L.l (L.obj k)) := by
  intro k b
  refine ⟨G2, (hI2.putObj _ hbz rfl).flag _ hn2, h2 ▸ (hR.mono hle2).put x.dst (.bool b), (hg2.putObj _ hab).flag _ hn2, ⟨hk2'.bl, by simpa using hk2'.ll, hk2'.al, hk2'.tb, fun t ht h0 => (E.tbN ht h0).elim⟩, ⟨?_, fun g hg' => ?_, ?_, ?_, ?_⟩⟩
  ·have hd' : DefOk E.b w.heap.size E.d act.defers (w3.putObj L.l (L.obj k)) := Fact.other (f := .df E.b w.heap.size E.d act.defers) (S := S2) (G := G2) (L.obj k) hdf2 hbz trivial
   have hsz : w.heap.size ≤ (w3.putObj L.l (L.obj k)).heap.size := by
    have := hd2.b
    simp only [World.putObj, Array.size_setIfInBounds]
    exact this
   cases o.dst <;> exact hd'.mono hsz
  ·have hoth : ∀ g ∈ f1 ++ f2, g.ok G2 ⟨S2.bx, S2.lv.set L.t (k, 0)⟩ (w3.putObj L.l (L.obj k)) := fun g hg' => by
    have hin : g ∈ cb.fs := by
     show g ∈ _ :: _ :: (f1 ++ .bz L :: f2)
     rcases List.mem_append.1 hg' with h | h <;> simp [h]
    have hfr := hfree g hg'
    refine Fact.flag _ (Fact.other (L.obj k) (hf2 g hin) hbz ?_) ?_
    ·cases g <;> first | trivial | exact hfr.1
    ·cases g <;> first | trivial | exact hfr.2
   rw [hfs] at hg'
   rcases List.mem_append.1 hg' with hg' | hg'
   ·exact hoth g (List.mem_append_left _ hg')
   ·rcases List.mem_cons.1 hg' with rfl | hg'
    ·exact ⟨hn2, k, List.getElem?_set_self htl, World.putObj_heap_same hlt3⟩
    ·exact hoth g (List.mem_append_right _ hg')
  ·show E.c.m ≤ (S2.lv.set L.t (k, 0)).length
   rw [List.length_set]
   exact Nat.le_trans hd.m hd2.m
  ·have := hd2.k
   simp only [World.putObj, Array.size_setIfInBounds]
   exact Nat.le_trans hd.k this
  ·have := hd2.b
   simp only [World.putObj, Array.size_setIfInBounds]
   exact Nat.le_trans hd.b this
 have hset0 : S2.lv.set L.t (0, 0) = S2.lv := by
  apply List.ext_getElem?
  intro i
  rw [List.getElem?_set]
  split
  ·rename_i hti
   subst hti
   first | rw [if_pos htl, hfl2] | rw [hfl2]
  ·rfl
 have hdef' : ∀ o ∈ l', ∀ d, o.op ≠ .defer d := fun o ho => hdef o (List.mem_cons_of_mem _ ho)
 cases z with
 | norm =>
  refine ⟨.bool true, w3.putObj L.l (L.obj 0), run_endRound (r := { L.r with state := .busy, pending := none }) none hbz, ?_⟩
  have hA3 := fin 0 true
  rw [hset0] at hA3
  exact hz E rfl ops l' Q hl' hdef' hq _ _ hA3
 | ret =>
  refine ⟨.bool false, w3.putObj L.l (L.obj 1), run_endRound (r := { L.r with state := .busy, pending := none }) (some .ret) hbz, ?_⟩
  exact hz E rfl ops l' Q hl' hdef' hq _ _ (fin 1 false)
 | ex i =>
  refine ⟨.bool false, w3.putObj L.l (L.obj (i + 2)), run_endRound (r := { L.r with state := .busy, pending := none }) (some (.exit i)) hbz, ?_⟩
  exact hz E rfl ops l' Q hl' hdef' hq _ _ (fin (i + 2) false)
end rules
end Go.Proofs.Ytodhdfkefkkdnaa
end
section
namespace Go.Proofs.Ytodhdfkefkkdnaa
open Go.RowKit

theorem compFn_inv {P : Program} {f : FuncId} {F : AFn} (hF : compFn P f = some F) : ∃ fn c, P.funcs[f]? = some fn ∧ fn.body = some c ∧ fn.results.toList.mapM (compRes P) = some F.res ∧ compCode P c = some F.code ∧ F.ntmps = fn.ntmps ∧ ∀ us w, (callFunc f us).run P w = .ok (.enter f us) w := by
 unfold compFn at hF
 split at hF
 ·rename_i fn hf
  split at hF
  ·rename_i c rs hb hrs
   split at hF
   ·rename_i ac hac
    split at hF
    ·cases hF
    ·rename_i hname
     cases hF
     refine ⟨fn, c, hf, hb, hrs, hac, rfl, fun us w => ?_⟩
     simp only [callFunc, program, Sem.run, hf, Sem.run_bind, Result.andThen_ok, hname, hb]
     rfl
   ·cases hF
  ·cases hF
 ·cases hF
theorem start_rel {G : Gh} {F : AFn} {xs : List AV} {us : Array Value} {n : Nat} (hn : F.ntmps = n) (hvs : VRs G xs us) : Rel G (start F xs) { tmps := us ++ Array.replicate (n - us.size) undef, defers := [] } := by
 subst hn
 refine ⟨by simp [start, hvs.1], fun i y u hy hu => ?_⟩
 simp only [start] at hy
 simp only at hu
 rw [List.getElem?_append] at hy
 rw [Array.getElem?_append, hvs.1] at hu
 split at hy
 ·rename_i hlt
  rw [if_pos hlt] at hu
  exact hvs.2 i y u hy hu
 ·rename_i hlt
  rw [if_neg hlt] at hu
  have e1 := List.eq_of_mem_replicate (List.mem_of_getElem? hy)
  have e2 : u ∈ (Array.replicate (F.ntmps - xs.length) undef) := Array.mem_of_getElem? hu
  have e3 := (Array.mem_replicate.1 e2).2
  rw [e1, e3]
  exact .undef G

def exitOf : Nat → AEx
 | 0 => .norm
 | 1 => .ret
 | i + 2 => .ex i
theorem jump_wpIn {F : Fence} {n : Nat} {P : Program} {Q : Exit → Act → World → Prop} {a : Act} {w : World} (k : Nat) (h : Q (exitOf (k + 1)).out a w) : (jumpOf k).wpIn F n P Q a w := by
 cases k with
 | zero => exact wpIn_ret h
 | succ i => exact wpIn_exit h

section rules
variable {c : Cx} {md : Md} {P : Program} {a : List AV} {S : St} {Q : AEx → List AV → St → Prop} {R : List AV → St → Prop}

theorem Ex.rangeF {g : AOpd} {ps : List Nat} {x y : ACode} (f : FuncId) (caps : List AV) (F : AFn) (hg0 : evd a g = .fn f [] caps) (hF : compFn P f = some F) (hres : F.res = []) (hn : c.n ≤ S.bx.length) (hmd : match md with | .plain => True | .round l _ => ∃ L, Fact.bz L ∈ c.fs ∧ L.l = l)
  (h : ∀ (c1 : Cx) (L : Lp), c1.n = S.bx.length → c1.m = S.lv.length + 1 → L.t = S.lv.length → LpOk P c1 L a ps x y → (∀ L' a' ps' x' y', LpOk P c L' a' ps' x' y' → L'.l ≠ L.l ∧ LpOk P c1 L' a' ps' x' y') →
    Ex c1 .plain P F.code (start F (.yld L.l S.lv.length :: caps)) ⟨S.bx, S.lv ++ [(0, 0)]⟩ fun z a' S' => (z = .norm ∨ z = .ret) ∧ ∃ k, S'.lv[S.lv.length]? = some (k, 0) ∧ Q (exitOf k) a S') : Ex c md P (.rangeF g ps x y) a S Q := by
 intro E hE code hco act w hA
 subst hE
 obtain ⟨g', ps', x', y', rfl, hg', hps, hx, hy⟩ := compCode_rangeF hco
 obtain ⟨G, hI, hR, hgr, hk, hd⟩ := hA
 have hv := hR.opd g' g hg'
 rw [hg0] at hv
 obtain ⟨vs, us, hval, hvp, hvc⟩ := hv.inv_fn
 have hvs0 : vs = #[] := Array.eq_empty_of_size_eq_zero hvp.1
 subst hvs0
 obtain ⟨fn, c1, hf, hb, hrs, hac, hnt, hen⟩ := compFn_inv hF
 refine cwp_of_in (wpIn_rangeFunc ?_)
 intro fn0 hfn0
 obtain ⟨l, mk, dD, W1, hent, hrec, hwl, hI1, hg1, hmk⟩ : ∃ (l : Nat) (mk : List Nat) (dD : Nat) (W1 : World), (Instr.enterLoop fn0 act.tmps ps' x' y' md.F.round).run P w = .ok (l, mk.map markOf) W1 ∧ W1.heap[l]? = some (.loop { state := .ready, pending := none, fn := fn0, tmps := act.tmps, params := ps', assign := x', body := y', defers := dD }) ∧ w.heap.size ≤ l ∧ Inv G S W1 ∧ Gro G S w G S W1 ∧ (mk.Nodup ∧ ∀ D ∈ mk, w.heap.size ≤ D ∧ W1.heap[D]? = some (.deferred (some []))) := by
  cases md with
  | plain =>
   refine ⟨w.heap.size + 1, [w.heap.size], w.heap.size, _, run_enterLoop_outer fn0 act.tmps ps' x' y', ?_, by omega, (hI.allocO _).allocO _, (Gro.allocO G S w _).trans (Gro.allocO G S _ _), by simp, fun D hD => ?_⟩
   ·have := World.alloc_heap_new (w.alloc (.deferred (some []))) (.loop { state := .ready, pending := none, fn := fn0, tmps := act.tmps, params := ps', assign := x', body := y', defers := w.heap.size })
    rwa [World.size_alloc] at this
   ·have hD : D = w.heap.size := by simpa using hD
    subst hD
    exact ⟨Nat.le_refl _, (Below.heap_alloc _ _ _ (by simp)).trans (World.alloc_heap_new w _)⟩
  | round l0 n0 =>
   obtain ⟨L0, hL0, rfl⟩ := hmd
   obtain ⟨_, _, hbz⟩ := hd.x _ hL0
   exact ⟨w.heap.size, [], _, _, run_enterLoop_inner hbz fn0 act.tmps ps' x' y', World.alloc_heap_new w _, Nat.le_refl _, hI.allocO _, Gro.allocO G S w _, .nil, fun D hD => by cases hD⟩
 obtain ⟨r, hr⟩ : ∃ r : Loop, r = { state := .ready, pending := none, fn := fn0, tmps := act.tmps, params := ps', assign := x', body := y', defers := dD } := ⟨_, rfl⟩
 rw [← hr] at hrec
 have hlW : l < W1.heap.size := (Array.getElem?_eq_some_iff.1 hrec).1
 have hrt : r.tmps = act.tmps := by rw [hr]
 let L : Lp := ⟨l, S.lv.length, r⟩
 have hobj0 : L.obj 0 = .loop r := by rw [hr]; show Obj.loop _ = _; simp only [L, hr]
 have hdW : DefOk E.b W1.heap.size E.d (mk.map markOf ++ act.defers) W1 := by
  obtain ⟨Ds, h1, h2, h3⟩ := (hd.d.oth hg1.oth)
  refine ⟨mk ++ Ds, by rw [h1, List.map_append, List.append_assoc], List.nodup_append.2 ⟨hmk.1, h2, fun D hD D' hD' e => ?_⟩, fun D hD => ?_⟩
  ·subst e
   have := (hmk.2 D hD).1
   have := (h3 D hD').1.2
   omega
  ·rcases List.mem_append.1 hD with hD | hD
   ·exact ⟨⟨Nat.le_trans hd.b (hmk.2 D hD).1, (Array.getElem?_eq_some_iff.1 (hmk.2 D hD).2).1⟩, (hmk.2 D hD).2⟩
   ·exact ⟨⟨(h3 D hD).1.1, Nat.lt_of_lt_of_le (h3 D hD).1.2 hg1.size⟩, (h3 D hD).2⟩
 have hbel : ∀ f' ∈ E.c.fs, f'.below l := fun f' hf' => (E.c.hk f' hf').mono (Nat.le_trans hd.k hwl)
 let cc : Cx := ⟨S.bx.length, S.lv.length + 1, W1.heap.size, .le G S.bx.length S.lv.length :: .df E.b W1.heap.size E.d (mk.map markOf ++ act.defers) :: .lp L :: E.c.fs, fun f' hf' => (by
  rcases List.mem_cons.1 hf' with rfl | hf'
  ·exact ⟨Nat.le_refl _, Nat.le_succ _⟩
  rcases List.mem_cons.1 hf' with rfl | hf'
  ·trivial
  rcases List.mem_cons.1 hf' with rfl | hf'
  ·exact Nat.lt_succ_self _
  ·exact (E.c.hw f' hf').mono hn (Nat.le_succ_of_le hd.m)), fun f' hf' => (by
  rcases List.mem_cons.1 hf' with rfl | hf'
  ·trivial
  rcases List.mem_cons.1 hf' with rfl | hf'
  ·exact Nat.le_refl _
  rcases List.mem_cons.1 hf' with rfl | hf'
  ·exact hlW
  ·exact (hbel f' hf').mono (Nat.le_of_lt hlW))⟩
 have hfree : ∀ f' ∈ E.c.fs, f'.free l S.lv.length := fun f' hf' => by
  have h1 := hbel f' hf'
  have h2 := E.c.hw f' hf'
  have h3 := hd.m
  cases f' with
  | lp L' => exact ⟨Nat.ne_of_lt h1, Nat.ne_of_lt (Nat.lt_of_lt_of_le h2 h3)⟩
  | bz L' => exact ⟨Nat.ne_of_lt h1, Nat.ne_of_lt (Nat.lt_of_lt_of_le h2 h3)⟩
  | _ => trivial
 have hLok : LpOk P cc L a ps x y := by
  refine ⟨⟨[.le G S.bx.length S.lv.length, .df E.b W1.heap.size E.d (mk.map markOf ++ act.defers)], E.c.fs, rfl, fun f' hf' => ?_⟩, ⟨G, S.bx.length, S.lv.length, List.mem_cons_self .., by show r.tmps.size = _; rw [hrt]; exact hR.size, fun i z u hz hu => ?_⟩, by show r.params.toList = ps; rw [hr]; exact hps, by show compCode P r.assign = _; rw [hr]; exact hx, by show compCode P r.body = _; rw [hr]; exact hy⟩
  ·rcases List.mem_append.1 hf' with hf' | hf'
   ·simp only [List.mem_cons, List.not_mem_nil, or_false] at hf'
    rcases hf' with rfl | rfl <;> trivial
   ·exact hfree f' hf'
  ·have hu : r.tmps[i]? = some u := hu
   rw [hrt] at hu
   exact hR.slot i z u hz hu
 have hup : ∀ L' a' ps' x' y', LpOk P E.c L' a' ps' x' y' → L'.l ≠ L.l ∧ LpOk P cc L' a' ps' x' y' := by
  intro L' a' ps' x' y' hL'
  obtain ⟨g1, g2, hgs, hgf⟩ := hL'.fs
  obtain ⟨G', n', m', hle', h3, h4⟩ := hL'.rel
  have hin : Fact.lp L' ∈ E.c.fs := by rw [hgs]; simp
  have hfr := hfree _ hin
  refine ⟨hfr.1, ⟨.le G S.bx.length S.lv.length :: .df E.b W1.heap.size E.d (mk.map markOf ++ act.defers) :: .lp L :: g1, g2, by show _ :: _ :: _ :: E.c.fs = _; rw [hgs]; rfl, fun f' hf' => ?_⟩, ⟨G', n', m', List.mem_cons_of_mem _ (List.mem_cons_of_mem _ (List.mem_cons_of_mem _ hle')), h3, h4⟩, hL'.ps, hL'.x, hL'.y⟩
  rcases List.mem_cons.1 hf' with rfl | hf'
  ·trivial
  rcases List.mem_cons.1 hf' with rfl | hf'
  ·trivial
  rcases List.mem_cons.1 hf' with rfl | hf'
  ·exact ⟨fun e => hfr.1 e.symm, fun e => hfr.2 e.symm⟩
  ·exact hgf f' hf'
 have hEx := h cc L rfl rfl rfl hLok hup
 let E1 : Ent := ⟨E.G, E.S, E.w, [], E.inv, cc, by show _ ≤ S.lv.length + 1; exact Nat.le_succ_of_le hk.ll, E.tr, hk.bl, fun f' hf' => (by
  rcases List.mem_cons.1 hf' with rfl | hf'
  ·trivial
  rcases List.mem_cons.1 hf' with rfl | hf'
  ·trivial
  rcases List.mem_cons.1 hf' with rfl | hf'
  ·exact Nat.le_trans hgr.size hwl
  ·exact E.hW f' hf'), W1.heap.size, Nat.le_trans hgr.size hg1.size⟩
 obtain ⟨k1, k2, k3, k4⟩ := add_ahead hI1 [] [(0, 0)]
 rw [List.append_nil] at k1 k2
 have hvrs : VRs G (.yld l S.lv.length :: caps) (#[.func (.yield l) #[] #[]] ++ us) := by
  refine ⟨by simp [hvc.1]; omega, fun i z u hz hu => ?_⟩
  cases i with
  | zero =>
   rw [Array.getElem?_append_left (by simp)] at hu
   simp at hz hu
   subst hz; subst hu
   exact .yld _ _
  | succ i =>
   rw [Array.getElem?_append_right (by simp)] at hu
   exact hvc.2 i z u (by simpa using hz) (by simpa using hu)
 have hA1 : At E1 (start F (.yld l S.lv.length :: caps)) ⟨S.bx, S.lv ++ [(0, 0)]⟩ { tmps := (#[Value.func (.yield l) #[] #[]] ++ us) ++ Array.replicate (fn.ntmps - (#[Value.func (.yield l) #[] #[]] ++ us).size) undef, defers := [] } W1 := by
  refine ⟨G, k1, start_rel hnt hvrs, (hgr.trans hg1).trans k2, ⟨hk.bl, by simp; exact Nat.le_succ_of_le hk.ll, hk.al, hk.tb, fun t ht h0 => (E.tbN ht h0).elim⟩, ⟨⟨[], rfl, .nil, fun _ h => (by cases h)⟩, fun f' hf' => ?_, by show S.lv.length + 1 ≤ _; simp, Nat.le_refl _, Nat.le_refl _⟩⟩
  rcases List.mem_cons.1 hf' with rfl | hf'
  ·exact ⟨.refl G, fun b B h => (hI.dal b B h).1, fun t k v h => by
    obtain ⟨m, s, h1, _⟩ := hI.dtb t k v h
    exact (List.getElem?_eq_some_iff.1 h1).1⟩
  rcases List.mem_cons.1 hf' with rfl | hf'
  ·exact hdW
  rcases List.mem_cons.1 hf' with rfl | hf'
  ·exact ⟨fun n => k4 _ n (Nat.le_refl _), 0, (by show (S.lv ++ [(0, 0)])[S.lv.length]? = some (0, 0); simp), by rw [hobj0]; exact hrec⟩
  ·exact Fact.step (Fact.step (hd.x f' hf') hg1 (.refl G S)) k2 ⟨Nat.le_refl _, by simp, fun _ _ h => h, fun _ _ h => h, fun t ht _ => List.getElem?_append_left ht⟩
 refine ⟨l, mk.map markOf, W1, { target := .fn (.func f) us, args := #[.func (.yield l) #[] #[]] }, W1, f, #[.func (.yield l) #[] #[]] ++ us, W1, hent, ?_, fun f' _ => md.fn f', ?_, fun hdp => md.depth hdp, ?_⟩
 ·simp only [resolve, hval]
  simp [go_sem]
 ·simp [invoke, go_sem, hen]
 refine callsIn_md md (calls_of_marks hf hb (wp_mono (hEx E1 rfl c1 hac _ W1 hA1) ?_))
 rintro e act' w' ⟨z, a', S', rfl, ⟨hz, k, hk1, hq⟩, G', hI', hR', hg', hk', hd'⟩
 have hfs : ∀ f' ∈ cc.fs, f'.ok G' S' w' := hd'.x
 obtain ⟨Ds, e1, e2, e3⟩ := hd'.d
 have e1 : act'.defers = Ds.map markOf := by rw [e1]; exact List.append_nil _
 have hI2 := hI'.shut e2 fun D hD => (e3 D hD).2
 have hg2 := hg'.shut fun D hD => Nat.le_trans E1.hb (e3 D hD).1.1
 have hrs0 : evRes a' S' F.res = some (.tup []) := by rw [hres]; rfl
 obtain ⟨u, hu, _⟩ := res_ok hI2 hR' hrs hrs0
 refine ⟨by rcases hz with rfl | rfl <;> simp [AEx.out], Ds, e1, e2, fun D hD => (e3 D hD).2, u, hu, ?_⟩
 -- the loop's end
 obtain ⟨hn3, k', hk2, hk3⟩ := hfs (.lp L) (by show _ ∈ _ :: _ :: _ :: E.c.fs; simp)
 have hk2 : S'.lv[S.lv.length]? = some (k', 0) := hk2
 rw [hk1] at hk2
 cases hk2
 have hlD : l ∉ Ds := fun hm => by
  have h1 := (e3 l hm).2
  have h2 : w'.heap[l]? = some (L.obj k) := hk3
  rw [h1] at h2
  cases k <;> cases h2
 have hk3' : (shutW w' Ds).heap[l]? = some (L.obj k) := (shut_heap.2.2.2.2 l hlD).trans hk3
 have hle : G.le G' := (hfs _ (List.mem_cons_self ..)).1
 have hdf : DefOk E.b W1.heap.size E.d (mk.map markOf ++ act.defers) w' := hfs _ (List.mem_cons_of_mem _ (List.mem_cons_self ..))
 have hsz2 : (shutW w' Ds).heap.size = w'.heap.size := shut_heap.1
 have hW1w : W1.heap.size ≤ w'.heap.size := hd'.b
 have fin : ∀ (o' o : Obj) (r' : Loop), o = .loop r' → (shutW w' Ds).heap[l]? = some o → At E a S' { act with defers := mk.map markOf ++ act.defers } ((shutW w' Ds).putObj l o') := by
  rintro o' o r' rfl ho
  refine ⟨G', hI2.putObj _ ho rfl, ⟨hR.size, fun i y u h1 h2 => (hR.slot i y u h1 h2).mono hle⟩, hg2.putObj _ (Nat.le_trans hgr.size hwl), ⟨hk'.bl, hk'.ll, hk'.al, hk'.tb, fun t ht h0 => (E.tbN ht h0).elim⟩, ⟨?_, fun f' hf' => ?_, ?_, ?_, ?_⟩⟩
  ·obtain ⟨Dc, d1, d2, d3⟩ := hdf
   refine ⟨Dc, d1, d2, fun D hD => ⟨⟨(d3 D hD).1.1, ?_⟩, ?_⟩⟩
   ·have := (d3 D hD).1.2
    simp only [World.putObj, Array.size_setIfInBounds, hsz2]
    omega
   ·have h4 := (d3 D hD).2
    have hnD : D ∉ Ds := fun hm => by
     have := (d3 D hD).1.2
     have : W1.heap.size ≤ D := (e3 D hm).1.1
     omega
    have h5 : (shutW w' Ds).heap[D]? = some (.deferred (some [])) := (shut_heap.2.2.2.2 D hnD).trans h4
    rw [World.putObj_heap_other]
    ·exact h5
    ·rintro rfl; rw [ho] at h5; cases h5
  ·-- what the activation keeps
   have hin : f'.ok G' S' w' := hfs f' (by show _ ∈ _ :: _ :: _ :: E.c.fs; simp [hf'])
   have hfr := hfree f' hf'
   have hbl := hbel f' hf'
   refine Fact.other o' (l := l) (r := r') ?_ ho (by cases f' <;> first | trivial | exact hfr.1)
   -- its own marks are shut
   cases f' with
   | le G0 n m => exact hin
   | lp L' =>
    refine ⟨hin.1, hin.2.imp fun kk hkk => ⟨hkk.1, (shut_heap.2.2.2.2 _ fun hm => ?_).trans hkk.2⟩⟩
    have h1 := (e3 _ hm).2
    rw [hkk.2] at h1
    cases kk <;> cases h1
   | bz L' =>
    refine ⟨hin.1, hin.2.1, (shut_heap.2.2.2.2 _ fun hm => ?_).trans hin.2.2⟩
    have h1 := (e3 _ hm).2
    rw [hin.2.2] at h1
    cases h1
   | df n u' d l' =>
    obtain ⟨Dc, d1, d2, d3⟩ := hin
    refine ⟨Dc, d1, d2, fun D hD => ⟨(d3 D hD).1, ?_⟩⟩
    refine (shut_heap.2.2.2.2 D fun hm => ?_).trans (d3 D hD).2
    have h1 : W1.heap.size ≤ D := (e3 D hm).1.1
    have h2 := (d3 D hD).1.2
    have h3 : u' ≤ E.c.k := E.c.hk _ hf'
    have h4 := hd.k
    have h5 := hg1.size
    omega
  ·exact Nat.le_trans hd.m (Nat.le_trans (Nat.le_succ _) hd'.m)
  ·have := hd.k
   simp only [World.putObj, Array.size_setIfInBounds, hsz2]
   have := hg1.size
   omega
  ·have := hd.b
   simp only [World.putObj, Array.size_setIfInBounds, hsz2]
   have := hg1.size
   omega
 cases k with
 | zero =>
  refine ⟨none, _, run_endLoop (r := { L.r with state := .ready, pending := none }) hk3' (by simp), ?_⟩
  exact ⟨.norm, a, S', rfl, hq, fin _ _ _ rfl hk3'⟩
 | succ k =>
  refine ⟨some (jumpOf k), _, run_endLoop (r := { L.r with state := .done, pending := some (jumpOf k) }) hk3' (by simp), ?_⟩
  exact jump_wpIn k ⟨exitOf (k + 1), a, S', rfl, hq, fin _ _ _ rfl hk3'⟩
end rules
end Go.Proofs.Ytodhdfkefkkdnaa
end
section
namespace Go.Proofs.Ytodhdfkefkkdnaa
open Go.RowKit

theorem sig0 {c : Cx} {σ : List Nat} (k : Nat) (hk : c.m = k) (h : σ.take k = List.range k) : ∀ t, t < c.m → σ[t]? = some t := fun t ht => by
 rw [hk] at ht
 have h1 : (σ.take k)[t]? = σ[t]? := List.getElem?_take_of_lt ht
 rw [← h1, h, List.getElem?_range ht]

section rules
variable {c : Cx} {md : Md} {P : Program} {a : List AV} {S : St} {Q : AEx → List AV → St → Prop} {R : List AV → St → Prop}

theorem ExI.op {X : Clr} (hX : ClrOk P X) {x : AOper} {xs : List AOper} {v : AV} {S1 : St} (hw : wantedA x.guard a = some true) (hv : evOp X x.op a S = some (v, S1)) (h : ExI c md P xs (putA a x.dst v) S1 R) : ExI c md P (x :: xs) a S R :=
 ExI.pre (xs := [x]) (ys := xs) (ExO.op hX hw hv (ExO.nil h))
theorem ExI.skip {x : AOper} {xs : List AOper} (hw : wantedA x.guard a = some false) (h : ExI c md P xs (putA a x.dst (.tup [])) S R) : ExI c md P (x :: xs) a S R :=
 ExI.pre (xs := [x]) (ys := xs) (ExO.skip hw (ExO.nil h))
theorem ExI.forget {a2 : List AV} {S2 : St} {xs : List AOper} (hf : Forgets c a S a2 S2) (h : ExI c md P xs a2 S2 R) : ExI c md P xs a S R := fun E hE ops l Q hl hd hq act w hA => h E hE ops l Q hl hd hq act w (hf E hE act w hA)
theorem ExI.one {x : AOper} {xs : List AOper} (h : ExO c P [x] a S fun a1 S1 => ExI c md P xs a1 S1 R) : ExI c md P (x :: xs) a S R := ExI.pre (xs := [x]) (ys := xs) h

theorem Ex.two {ca cb : Cx} {x y : ACode} {t0 : Nat} (J : AEx → St → Prop) (h : Ex ca md P x a S fun z a1 S1 => z = .norm ∧ S1.lv[t0]? = some (0, 0) ∧ Ex cb md P y a1 S1 fun z a2 S2 => ∃ a3 S3, Forgets cb a2 S2 a3 S3 ∧ J z S3) (k : ∀ z a2 S2, J z S2 → Q z a2 S2) : Ex ca md P x a S fun z a1 S1 => z = .norm ∧ S1.lv[t0]? = some (0, 0) ∧ Ex cb md P y a1 S1 Q := by
 refine h.mono ?_
 rintro z a1 S1 ⟨h1, h2, h3⟩
 refine ⟨h1, h2, Ex.postF (h3.mono ?_)⟩
 rintro z a2 S2 ⟨a3, S3, hf, hJ⟩
 exact ⟨a3, S3, hf, k z a3 S3 hJ⟩
end rules
end Go.Proofs.Ytodhdfkefkkdnaa
end
section
namespace Go.Proofs.Ytodhdfkefkkdnaa
open Go.RowKit

structure TokT where
 f : FuncId
 gs : List AV
 pre : List AV
 els : List AV
 post : List AV
 n : Nat
 s : Nat
theorem mid_get {pre post : List AV} {a x : AV} {i : Nat} (h : (pre ++ a :: post)[i]? = some x) : (i = pre.length ∧ x = a) ∨ ((x ∈ pre ∨ x ∈ post) ∧ ∀ b, (pre ++ b :: post)[i]? = some x) := by
 by_cases hi : i < pre.length
 ·rw [List.getElem?_append_left hi] at h
  exact .inr ⟨.inl (List.mem_of_getElem? h), fun b => by rw [List.getElem?_append_left hi]; exact h⟩
 ·rw [List.getElem?_append_right (by omega)] at h
  obtain ⟨k, hk⟩ : ∃ k, i - pre.length = k := ⟨_, rfl⟩
  rw [hk] at h
  cases k with
  | zero =>
   simp only [List.getElem?_cons_zero, Option.some.injEq] at h
   exact .inl ⟨by omega, h.symm⟩
  | succ k =>
   rw [List.getElem?_cons_succ] at h
   exact .inr ⟨.inr (List.mem_of_getElem? h), fun b => by rw [List.getElem?_append_right (by omega), hk, List.getElem?_cons_succ]; exact h⟩
theorem mid_at (pre post : List AV) (a : AV) : (pre ++ a :: post)[pre.length]? = some a := by simp
end Go.Proofs.Ytodhdfkefkkdnaa
end
section
namespace Go.Proofs.Ytodhdfkefkkdnaa
open Go.RowKit


theorem flat_scal {α : Type} {f : α → AV} (h : ∀ x, (f x).cells.all scal = true) (l : List α) : (flat (l.map f)).all scal = true := by
 rw [List.all_eq_true]
 intro c hc
 obtain ⟨e, he, hce⟩ := List.mem_flatMap.1 hc
 obtain ⟨x, _, rfl⟩ := List.mem_map.1 he
 exact List.all_eq_true.1 (h x) c hce
theorem scal_re {x : AV} (h : scal x = true) (n : Nat) (σ : List Nat) : re n σ x = some x := by
 cases x <;> first | (simp [scal] at h; done) | rfl | simp [re, re1, AV.clean]
theorem mapM_id {f : AV → Option AV} : ∀ (l : List AV), (∀ x ∈ l, f x = some x) → l.mapM f = some l
 | [], _ => rfl
 | x :: l, h => by
  rw [List.mapM_cons, h x (by simp), mapM_id l fun y hy => h y (by simp [hy])]
  rfl
theorem flat_re {α : Type} {f : α → AV} (h : ∀ x, (f x).cells.all scal = true) (n : Nat) (σ : List Nat) (l : List α) : (flat (l.map f)).mapM (re n σ) = some (flat (l.map f)) :=
 mapM_id _ fun x hx => scal_re (List.all_eq_true.1 (flat_scal h l) x hx) n σ
theorem flat_lenF {α : Type} {f : α → AV} {s : Nat} (hs : ∀ x, (f x).cells.length = s) (l : List α) : (flat (l.map f)).length = l.length * s := by
 rw [flat_len s, List.length_map]
 intro i e he
 rw [List.getElem?_map, Option.map_eq_some_iff] at he
 obtain ⟨x, _, rfl⟩ := he
 exact hs x
theorem map_cells {α : Type} {f : α → AV} {s : Nat} (hs : ∀ x, (f x).cells.length = s) (l : List α) : ∀ e ∈ l.map f, e.cells.length = s := by
 intro e he
 obtain ⟨x, _, rfl⟩ := List.mem_map.1 he
 exact hs x
theorem ldFl {α : Type} {f : α → AV} {s : Nat} (l : List α) (off j : Nat) (i : Int) (x : α) (c : AV) (hs : ∀ x, (f x).cells.length = s) (hx : l[i.toNat]? = some x) (hc : (f x).cells[j]? = some c) (ho : off = i.toNat * s + j) : takeCells (flat (l.map f)) off none = some c := by
 subst ho
 exact flat_at s (l.map f) i.toNat (f x) j c (fun k e he => map_cells hs l e (List.mem_of_getElem? he)) (by rw [List.getElem?_map, hx]; rfl) hc
theorem layAt_left : ∀ (vs cs ds : List AV) (o : Nat), o + vs.length ≤ cs.length → layAt (cs ++ ds) o vs = layAt cs o vs ++ ds
 | [], _, _, _, _ => rfl
 | v :: vs, cs, ds, o, h => by
  simp only [List.length_cons] at h
  simp only [layAt]
  rw [List.set_append_left _ _ (by omega)]
  exact layAt_left vs _ ds (o + 1) (by simp; omega)
theorem layAt_right : ∀ (vs cs ds : List AV) (o : Nat), layAt (cs ++ ds) (cs.length + o) vs = cs ++ layAt ds o vs
 | [], _, _, _ => rfl
 | v :: vs, cs, ds, o => by
  simp only [layAt]
  rw [List.set_append_right _ _ (by omega), Nat.add_sub_cancel_left, Nat.add_assoc]
  exact layAt_right vs cs _ (o + 1)
theorem lay_flat {s : Nat} : ∀ (els : List AV) (k j : Nat) (e e' : AV) (vs : List AV), (∀ e ∈ els, e.cells.length = s) → els[k]? = some e → j + vs.length ≤ s → layAt e.cells j vs = e'.cells → layAt (flat els) (k * s + j) vs = flat (els.set k e')
 | [], _, _, _, _, _, _, h, _, _ => by simp at h
 | e0 :: els, 0, j, e, e', vs, hs, h, hj, hl => by
  obtain rfl : e0 = e := by simpa using h
  simp only [flat, List.flatMap_cons, List.set_cons_zero, Nat.zero_mul, Nat.zero_add]
  rw [layAt_left _ _ _ _ (by rw [hs e0 (by simp)]; exact hj), hl]
 | e0 :: els, k + 1, j, e, e', vs, hs, h, hj, hl => by
  have h0 := hs e0 (by simp)
  have ih := lay_flat els k j e e' vs (fun e he => hs e (by simp [he])) (by simpa using h) hj hl
  simp only [flat, List.flatMap_cons, List.set_cons_succ] at ih ⊢
  rw [show (k + 1) * s + j = e0.cells.length + (k * s + j) by rw [h0, Nat.succ_mul]; omega, layAt_right, ih]
def setI {α : Type} (l : List α) (i : Int) (g : α → α) : Option (List α) := (l[i.toNat]?).map fun x => l.set i.toNat (g x)
theorem setI.of {α : Type} {l l' : List α} {i : Int} {g : α → α} (h : setI l i g = some l') : ∃ x, l[i.toNat]? = some x ∧ l' = l.set i.toNat (g x) := by
 simp only [setI, Option.map_eq_some_iff] at h
 obtain ⟨x, hx, rfl⟩ := h
 exact ⟨x, hx, rfl⟩
theorem stFl {α : Type} {f : α → AV} {s : Nat} {l l' : List α} (off j n : Nat) (i : Int) (g : α → α) (vs : List AV) (hs : ∀ x, (f x).cells.length = s) (h : setI l i g = some l') (hn : vs.length = n) (hjn : j + n ≤ s) (ho : off = i.toNat * s + j) (hl : ∀ x, layAt (f x).cells j vs = (f (g x)).cells) : off + n ≤ (flat (l.map f)).length ∧ layAt (flat (l.map f)) off vs = flat (l'.map f) := by
 obtain ⟨x, hx, rfl⟩ := setI.of h
 subst ho hn
 have hlt := (List.getElem?_eq_some_iff.1 hx).1
 refine ⟨?_, ?_⟩
 ·rw [flat_lenF hs]
  have : (i.toNat + 1) * s ≤ l.length * s := Nat.mul_le_mul_right _ hlt
  rw [Nat.succ_mul] at this
  omega
 ·rw [lay_flat (l.map f) i.toNat j (f x) (f (g x)) vs (map_cells hs l) (by rw [List.getElem?_map, hx]; rfl) hjn (hl x), List.map_set]
def lenI {α : Type} (l : List α) (n : Nat) : Option Unit := if l.length = n then some () else none
theorem lenI.of {α : Type} {l : List α} {n : Nat} {u : Unit} (h : lenI l n = some u) : l.length = n := by
 unfold lenI at h
 split at h
 ·assumption
 ·cases h

theorem chillL_at (f : AV → AV) : ∀ (k : Nat) (a : List AV) (v : AV), a[k]? = some v → chillL f (List.replicate k false ++ [true]) a = a.set k (f v)
 | 0, x :: a, v, h => by
  obtain rfl : x = v := by simpa using h
  simp [chillL]
 | k + 1, x :: a, v, h => by
  have ih := chillL_at f k a v (by simpa using h)
  simp only [List.replicate_succ, List.cons_append, chillL, List.set_cons_succ, ih]
  rfl
 | k, [], v, h => by simp at h
theorem chillB_at (f : AV → AV) (c : List Bool) : ∀ (k : Nat) (a : List (List AV)) (v : List AV), a[k]? = some v → chillB f (List.replicate k [] ++ [c]) a = a.set k (chillL f c v)
 | 0, x :: a, v, h => by
  obtain rfl : x = v := by simpa using h
  simp [chillB]
 | k + 1, x :: a, v, h => by
  have ih := chillB_at f c k a v (by simpa using h)
  simp only [List.replicate_succ, List.cons_append, chillB, List.set_cons_succ, ih]
  simp [chillL]
 | k, [], v, h => by simp at h
theorem chillX {α : Type} {f : α → AV} {n0 : Cx} {a : List AV} {S : St} (b b2 o n s : Nat) (l : List α) (cs : List AV) {u : Unit} (hn : lenI l n = some u) (hb : S.bx[b]? = some (flat (l.map f))) (hs : ∀ x, (f x).cells.length = s) (h2 : S.bx[b2]? = some cs) (hbb : b ≠ b2) (ho : cs[o]? = some (.ms b n s)) : Forgets n0 a S a ⟨(S.bx.set b []).set b2 (cs.set o (.sl (l.map f) none)), S.lv⟩ := by
 have := chill (n0 := n0) (a := a) (S := S) b n s (l.map f) [] (List.replicate b2 [] ++ [List.replicate o false ++ [true]]) hb (by rw [List.length_map]; exact lenI.of hn) (map_cells hs l)
 rw [chillB_at _ _ b2 _ cs (by rw [List.getElem?_set_ne hbb]; exact h2), chillL_at _ o cs _ ho] at this
 simpa [chillL, chillV] using this
theorem mapMC {α β : Type} {f : α → Option β} {x : α} {y : β} {l : List α} {ys : List β} (h : f x = some y) (t : l.mapM f = some ys) : (x :: l).mapM f = some (y :: ys) := by
 rw [List.mapM_cons, h, t]
 rfl
def mkI (n : Int) : Option Nat := if 0 ≤ n ∧ n ≤ 65536 then some n.toNat else none
theorem mkI.of {n : Int} {k : Nat} (h : mkI n = some k) : n = (k : Int) ∧ k ≤ 65536 := by
 unfold mkI at h
 split at h
 ·cases h; omega
 ·cases h
theorem repFl {α : Type} {f : α → AV} {z : List AV} (x : α) (hz : (f x).cells = z) : ∀ k, rep z k = flat ((List.replicate k x).map f)
 | 0 => rfl
 | k + 1 => by
  simp only [rep, List.replicate_succ, List.map_cons, flat, List.flatMap_cons, hz]
  congr 1
  exact repFl x hz k
theorem mk_of {α : Type} {f : α → AV} {z : List AV} {n : Int} {k : Nat} (x : α) (hz : (f x).cells = z) (h : mkI n = some k) : n = (k : Int) ∧ k ≤ 65536 ∧ rep z k = flat ((List.replicate k x).map f) :=
 ⟨(mkI.of h).1, (mkI.of h).2, repFl x hz k⟩
def idxB (b : ByteArray) (n : Int) : Option Int := if 0 ≤ n then (b[n.toNat]?).map fun c => (c.toNat : Int) else none
theorem idxB.of {b : ByteArray} {n z : Int} (h : idxB b n = some z) : LIdx b n z := by
 unfold idxB at h
 split at h
 ·rename_i h0
  rw [Option.map_eq_some_iff] at h
  obtain ⟨c, hc, rfl⟩ := h
  exact ⟨h0, c, hc, rfl⟩
 ·cases h
def partI {α : Type} (l : List α) (lo hi : Int) : Option (List α) := if 0 ≤ lo ∧ lo ≤ hi ∧ hi ≤ (l.length : Int) then some ((l.take hi.toNat).drop lo.toNat) else none
theorem partI.of {α : Type} {f : α → AV} {s : Nat} {l r : List α} {lo hi : Int} (hs : ∀ x, (f x).cells.length = s) (h : partI l lo hi = some r) : LSlc (l.map f) (some lo) (some hi) s (r.map f) := by
 unfold partI at h
 split at h
 ·rename_i hc
  cases h
  exact ⟨lo.toNat, hi.toNat, by show lo = _; omega, by show hi = _; omega, by omega, by rw [List.length_map]; omega, map_cells hs l, by rw [List.map_drop, List.map_take]⟩
 ·cases h
theorem partI.ofL {α : Type} {f : α → AV} {s : Nat} {l r : List α} {lo : Int} (hs : ∀ x, (f x).cells.length = s) (h : partI l lo (l.length : Int) = some r) : LSlc (l.map f) (some lo) none s (r.map f) := by
 unfold partI at h
 split at h
 ·rename_i hc
  cases h
  exact ⟨lo.toNat, l.length, by show lo = _; omega, by simp, by omega, by simp, map_cells hs l, by rw [List.map_drop, Int.toNat_natCast, List.take_length, List.take_of_length_le (by simp)]⟩
 ·cases h
end Go.Proofs.Ytodhdfkefkkdnaa
end
section
namespace Go.Proofs.Ytodhdfkefkkdnaa
open Go.RowKit

structure DoesTB (P : Program) (f : FuncId) (xs : List AV) (cells : List (List AV)) (K : AV → List (List AV) → List (Nat × Nat) → Prop) : Prop where
 enter : ∀ (us : Array Value) (w : World), (callFunc f us).run P w = .ok (.enter f us) w
 calls : ∀ (G : Gh) (w : World) (us : Array Value), Inv G ⟨cells, []⟩ w → VRs G xs us → Calls P f us w fun e w' => ∃ u v c' G' bx lv, K v c' lv ∧ e = .returned u ∧ VR G' v u ∧ c'.length = cells.length ∧ Inv G' ⟨c' ++ bx, lv⟩ w' ∧ Gro G ⟨cells, []⟩ w G' ⟨c' ++ bx, lv⟩ w'
theorem DoesTB.of {P : Program} {f : FuncId} {F : AFn} (hF : compFn P f = some F) {xs : List AV} {cells : List (List AV)} {K : AV → List (List AV) → List (Nat × Nat) → Prop}
  (h : Ex cells.length .plain P F.code (start F xs) ⟨cells, []⟩ fun x a' S' => (x = .norm ∨ x = .ret) ∧ ∃ v, evRes a' S' F.res = some v ∧ K v (S'.bx.take cells.length) S'.lv) : DoesTB P f xs cells K := by
 unfold compFn at hF
 split at hF
 ·rename_i fn hf
  split at hF
  ·rename_i c rs hb hrs
   split at hF
   ·rename_i ac hac
    split at hF
    ·cases hF
    ·rename_i hname
     cases hF
     refine ⟨fun us w => ?_, fun G w us hI hvs => ?_⟩
     ·simp only [callFunc, program, Sem.run, hf, Sem.run_bind, Result.andThen_ok, hname, hb]
      rfl
     ·refine calls_of_marks hf hb ?_
      have hR : Rel G (start ⟨fn.params.size, fn.ntmps, rs, ac⟩ xs) { tmps := us ++ Array.replicate (fn.ntmps - us.size) undef, defers := [] } := by
       refine ⟨by simp [start, hvs.1], fun i y u hy hu => ?_⟩
       simp only [start] at hy
       simp only at hu
       rw [List.getElem?_append] at hy
       rw [Array.getElem?_append, hvs.1] at hu
       split at hy
       ·rename_i hlt
        rw [if_pos hlt] at hu
        exact hvs.2 i y u hy hu
       ·rename_i hlt
        rw [if_neg hlt] at hu
        have e1 := List.eq_of_mem_replicate (List.mem_of_getElem? hy)
        have e2 : u ∈ (Array.replicate (fn.ntmps - xs.length) undef) := Array.mem_of_getElem? hu
        have e3 := (Array.mem_replicate.1 e2).2
        rw [e1, e3]
        exact .undef G
      refine wp_mono (h (.of G ⟨cells, []⟩ w hI rfl) rfl c hac _ w ⟨G, hI, hR, .refl _ _ _, .refl _ _, .begin _ _ _ _ _⟩) ?_
      rintro e act' w' ⟨x, a', S', he, ⟨hx, v, hv, hq⟩, G', hI', hR', hg, hk, hd⟩
      have hbl := hk.bl
      obtain ⟨Ds, e1, e2, e3⟩ := hd.d
      have e1 : act'.defers = Ds.map markOf := by rw [e1]; exact List.append_nil _
      have hI' := hI'.shut e2 fun D hD => (e3 D hD).2
      have hg := hg.shut fun D hD => (e3 D hD).1.1
      obtain ⟨u, h1, h2⟩ := res_ok hI' hR' hrs hv
      obtain ⟨S'bx, S'lv⟩ := S'
      have hbx : S'bx = S'bx.take cells.length ++ S'bx.drop cells.length := by simp
      have hcl : (S'bx.take cells.length).length = cells.length := by
       rw [List.length_take]; exact Nat.min_eq_left hbl
      generalize S'bx.take cells.length = c1 at hq hbx hcl
      generalize S'bx.drop cells.length = bx at hbx
      subst hbx
      rcases hx with rfl | rfl
      ·subst he; exact ⟨.inl rfl, Ds, e1, e2, fun D hD => (e3 D hD).2, u, h1, u, v, c1, G', bx, S'lv, hq, rfl, h2, hcl, hI', hg⟩
      ·subst he; exact ⟨.inr rfl, Ds, e1, e2, fun D hD => (e3 D hD).2, u, h1, u, v, c1, G', bx, S'lv, hq, rfl, h2, hcl, hI', hg⟩
   ·cases hF
  ·cases hF
 ·cases hF
theorem own_msG {S : St} {G Gc : Gh} {w w' : World} {bs : List Nat} {cells c' bx : List (List AV)} {lv : List (Nat × Nat)} (hcells : bs.mapM (fun b => S.bx[b]?) = some cells) (hnd : bs.Nodup) (hI : Inv G S w) (hlen : c'.length = cells.length) (hsc' : ∀ x ∈ c', ∀ y ∈ x, scal y = true)
  (hI' : Inv Gc ⟨c' ++ bx, lv⟩ w') (hg : Gro (G.sub bs) ⟨cells, []⟩ w Gc ⟨c' ++ bx, lv⟩ w') (new : List AV) (Bo : Option Nat)
  (hBo : ∀ B, Bo = some B → w.heap.size ≤ B ∧ B < w'.heap.size ∧ (new = [] ∨ ∃ us T, w'.heap[B]? = some (.cells us T (0, 0)) ∧ new.length ≤ us.size ∧ ∀ (i : Nat) x u, new[i]? = some x → us[i]? = some u → ∀ G2, VR G2 x u)) :
  ∃ G2, G.le G2 ∧ (∀ B, Bo = some B → G2.al S.bx.length = some B) ∧ Inv G2 ⟨setAll S.bx bs c' ++ [new], S.lv⟩ w' ∧ Gro G S w G2 ⟨setAll S.bx bs c' ++ [new], S.lv⟩ w' ∧ Keep G S G2 ⟨setAll S.bx bs c' ++ [new], S.lv⟩ := by
 obtain ⟨hl2, hbx⟩ := call_boxes hcells
 have hfz : ∀ b o v, G.fz b o = some v → Gc.fz b o = some v := hg.le.fz
 have hlen' : bs.length ≤ c'.length := by rw [hlen, hl2]; exact Nat.le_refl _
 have hnown : ∀ B, (∀ (i b : Nat), bs[i]? = some b → G.al b ≠ some B) → ¬ Owned (G.sub bs) ⟨cells, []⟩ B := by
  rintro B h (⟨i, hi⟩ | ⟨t, n, s0, s, c, h1, _⟩)
  ·simp only [Gh.sub, Option.bind_eq_some_iff] at hi
   obtain ⟨b, hb, hB⟩ := hi
   exact h i b hb hB
  ·simp at h1
 have hget := setAll_get bs S.bx c' hnd hlen' (fun b hb => by
  obtain ⟨i, hi, rfl⟩ := List.mem_iff_getElem.1 hb
  obtain ⟨cs, _, h2⟩ := hbx i _ (List.getElem?_eq_getElem hi)
  exact (List.getElem?_eq_some_iff.1 h2).1)
 have hsl := setAll_length bs S.bx c'
 have hfzlt : ∀ k o v, G.fz k o = some v → k < w.heap.size := by
  intro k o v h
  have := hI.fz k o v h
  cases hh : w.heap[k]? with
  | none => simp [World.cell?, hh] at this
  | some r => exact (Array.getElem?_eq_some_iff.1 hh).1
 obtain ⟨G2, hG2⟩ : ∃ G2 : Gh, G2 = ⟨fun b => if b < S.bx.length then G.al b else if b = S.bx.length then Bo else none, G.tb, G.fz⟩ := ⟨_, rfl⟩
 have hfz2 : G2.fz = G.fz := by rw [hG2]
 have htb2 : G2.tb = G.tb := by rw [hG2]
 have hal : ∀ b, b < S.bx.length → G2.al b = G.al b := fun b h => by rw [hG2]; simp [h]
 have hab : G2.al S.bx.length = Bo := by rw [hG2]; simp
 have hinv : ∀ b B', G2.al b = some B' → (b < S.bx.length ∧ G.al b = some B') ∨ (b = S.bx.length ∧ Bo = some B') := fun b B' h => by
  rw [hG2] at h
  simp only at h
  split at h
  ·rename_i hb; exact .inl ⟨hb, h⟩
  ·split at h
   ·rename_i hb; exact .inr ⟨hb, h⟩
   ·cases h
 have hle : G.le G2 := ⟨fun b B' h => by rw [hal b (hI.dal b B' h).1]; exact h, fun t k v h => by rw [htb2]; exact h, fun k o v h => by rw [hfz2]; exact h⟩
 refine ⟨G2, hle, fun B hB => by rw [hab]; exact hB, ⟨?_, ?_, ?_, ?_, ?_, ?_, ?_, ?_⟩, ⟨hle, hg.os, hg.tape, hg.output, hg.size, ?_, ?_, hg.oth⟩, ⟨?_, Nat.le_refl _, ?_, ?_, fun _ _ _ => rfl⟩⟩
 ·intro b B cs hal' hcs
  rcases hinv b B hal' with ⟨hbS, hal0⟩ | ⟨rfl, hB⟩
  ·rw [List.getElem?_append_left (by rw [hsl]; exact hbS)] at hcs
   by_cases hmem : b ∈ bs
   ·obtain ⟨i, hi, hib⟩ := List.mem_iff_getElem.1 hmem
    have hib' : bs[i]? = some b := by rw [List.getElem?_eq_getElem hi, hib]
    have h1 := (hget b).1 i hib'
    rw [h1] at hcs
    have hic : i < c'.length := (List.getElem?_eq_some_iff.1 hcs).1
    have halc : Gc.al i = some B := hg.le.al i B (by simp [Gh.sub, hib', hal0])
    rcases hI'.box i B cs halc (by rw [List.getElem?_append_left hic]; exact hcs) with h0 | ⟨us', T, k1, k2, k3, k4⟩
    ·exact .inl h0
    ·refine .inr ⟨us', T, k1, k2, fun j x u hx hu => (k3 j x u hx hu).scal (hsc' cs (List.mem_of_getElem? hcs) x (List.mem_of_getElem? hx)), fun o => ?_⟩
     rw [hfz2]
     cases h : G.fz B o with
     | none => rfl
     | some v => have := hfz B o v h; rw [k4 o] at this; cases this
   ·rw [(hget b).2 hmem] at hcs
    have hd := hI.dal b B hal0
    have hn := hnown B (fun i b' hb' hal' => hmem (by
     have := hI.injA _ _ _ hal0 hal'
     subst this
     exact List.mem_of_getElem? hb'))
    obtain ⟨hh, hf⟩ := hg.fr B hd.2 hn
    rcases hI.box b B cs hal0 hcs with h0 | ⟨us', T, k1, k2, k3, k4⟩
    ·exact .inl h0
    ·exact .inr ⟨us', T, by rw [hh]; exact k1, k2, fun j x u hx hu => (k3 j x u hx hu).mono hle, fun o => by rw [hfz2]; exact k4 o⟩
  ·obtain ⟨g1, g2, g3⟩ := hBo B hB
   rw [List.getElem?_append_right (by rw [hsl]; exact Nat.le_refl _), hsl, Nat.sub_self] at hcs
   simp only [List.getElem?_cons_zero, Option.some.injEq] at hcs
   subst hcs
   rcases g3 with h0 | ⟨us, T, k1, k2, k3⟩
   ·exact .inl h0
   ·refine .inr ⟨us, T, k1, k2, fun i x u hx hu => k3 i x u hx hu G2, fun o => ?_⟩
    rw [hfz2]
    cases h : G.fz B o with
    | none => rfl
    | some v => have := hfzlt B o v h; omega
 ·intro t n s0 B s c h1 h2
  rw [htb2] at h2
  obtain ⟨k1, ⟨us', T, k2, k3⟩, k4, k5⟩ := hI.tok t n s0 B s c h1 h2
  have hlt := hI.toklt h1 h2
  obtain ⟨hh, hf⟩ := hg.fr B hlt (hnown B fun i b hb hal => hI.sep b B t n s0 s c hal h1 h2)
  exact ⟨k1, ⟨us', T, by rw [hh]; exact k2, k3⟩, k4, fun o ho => by rw [hfz2]; exact k5 o ho⟩
 ·intro k o v h
  rw [hfz2] at h
  exact hI'.fz k o v (hfz k o v h)
 ·intro b B hal'
  rcases hinv b B hal' with ⟨hbS, hal0⟩ | ⟨rfl, hB⟩
  ·have := hI.dal b B hal0
   exact ⟨by simp [hsl]; omega, Nat.lt_of_lt_of_le this.2 hg.size⟩
  ·exact ⟨by simp [hsl], (hBo B hB).2.1⟩
 ·intro t k v h
  rw [htb2] at h
  exact hI.dtb t k v h
 ·intro b b' B h1 h2
  rcases hinv b B h1 with ⟨hb1, h1'⟩ | ⟨rfl, hB⟩
  ·rcases hinv b' B h2 with ⟨hb2, h2'⟩ | ⟨rfl, hB⟩
   ·exact hI.injA b b' B h1' h2'
   ·have := (hI.dal b B h1').2; have := (hBo B hB).1; omega
  ·rcases hinv b' B h2 with ⟨hb2, h2'⟩ | ⟨rfl, _⟩
   ·have := (hI.dal b' B h2').2; have := (hBo B hB).1; omega
   ·rfl
 ·intro t t' k k' s0 s0' B s s' c c' h1 h2 h3 h4
  rw [htb2] at h3 h4
  exact hI.injT t t' k k' s0 s0' B s s' c c' h1 h2 h3 h4
 ·intro b B t n s0 s c h1 h2 h3
  rw [htb2] at h3
  rcases hinv b B h1 with ⟨hb1, h1'⟩ | ⟨rfl, hB⟩
  ·exact hI.sep b B t n s0 s c h1' h2 h3
  ·have := hI.toklt h2 h3; have := (hBo B hB).1; omega
 ·intro B hB hno
  obtain ⟨h1, h2⟩ := hg.fr B hB (hnown B fun i b hb hal' => hno (.inl ⟨b, hal'⟩))
  exact ⟨h1, fun o => by rw [hfz2]⟩
 ·rintro B (⟨b, hb⟩ | ⟨t, n, s0, s, c, h1, h2⟩)
  ·rcases hinv b B hb with ⟨hb1, h1'⟩ | ⟨rfl, hB⟩
   ·exact .inl (.inl ⟨b, h1'⟩)
   ·exact .inr (hBo B hB).1
  ·rw [htb2] at h2
   exact .inl (.inr ⟨t, n, s0, s, c, h1, h2⟩)
 ·simp [hsl]
 ·intro b hb h
  rw [hal b hb]; exact h
 ·intro t _ h k
  rw [htb2]; exact h k
theorem own_msB {S : St} {G Gc : Gh} {w w' : World} {bs : List Nat} {cells c' bx : List (List AV)} {lv : List (Nat × Nat)} {els : List AV} {t n s : Nat} {u : Value} (hcells : bs.mapM (fun b => S.bx[b]?) = some cells) (hnd : bs.Nodup) (hI : Inv G S w) (hlen : c'.length = cells.length) (hsc' : ∀ x ∈ c', ∀ y ∈ x, scal y = true)
  (hI' : Inv Gc ⟨c' ++ bx, lv⟩ w') (hg : Gro (G.sub bs) ⟨cells, []⟩ w Gc ⟨c' ++ bx, lv⟩ w')
  (hv : VR Gc (.sl els (some t)) u) (hlv : lv[t]? = some (n, s)) (hl : els.length = n) (hs : 0 < s) (hcl : ∀ e ∈ els, e.cells.length = s) (hsc : (flat els).all scal = true) :
  ∃ G2, G.le G2 ∧ VR G2 (.ms S.bx.length n s) u ∧ Inv G2 ⟨setAll S.bx bs c' ++ [flat els], S.lv⟩ w' ∧ Gro G S w G2 ⟨setAll S.bx bs c' ++ [flat els], S.lv⟩ w' ∧ Keep G S G2 ⟨setAll S.bx bs c' ++ [flat els], S.lv⟩ := by
 by_cases hn : 0 < n
 ·obtain ⟨B, c, us, htb, hnc, rfl, hss, hf, hvv⟩ : ∃ (B c : Nat) (us : Nat → Value), Gc.tb t n = some (.blk B s c) ∧ n ≤ c ∧ u = .slice (some ⟨B, 0, none⟩) n c ∧ (∀ (i : Nat) e, els[i]? = some e → e.cells.length = s) ∧ (∀ (i : Nat) e (j : Nat) x, els[i]? = some e → e.cells[j]? = some x → Gc.fz B (i * s + j) = some (us (i * s + j))) ∧ (∀ (i : Nat) e (j : Nat) x, els[i]? = some e → e.cells[j]? = some x → VR Gc x (us (i * s + j))) := by
   cases hv with
   | slt _ _ s' B c us hb hn' hs' hf hv =>
    rw [hl] at hb hn' ⊢
    obtain ⟨e1, _⟩ := hI'.tok t n s B s' c hlv hb
    subst e1
    exact ⟨B, c, us, hb, hn', rfl, hs', hf, hv⟩
   | slt0 _ hb => simp at hl; omega
  obtain ⟨_, ⟨us0, T, hheap, hsize⟩, _, hfzn⟩ := hI'.tok t n s B s c hlv htb
  have hB : w.heap.size ≤ B := by
   rcases hg.own B (.inr ⟨t, n, s, s, c, hlv, htb⟩) with (⟨i, hi⟩ | ⟨t', n', s0, s', c'', h1, _⟩) | h
   ·exact absurd htb (hI'.sep i B t n s s c (hg.le.al i B hi) hlv)
   ·simp at h1
   ·exact h
  obtain ⟨G2, h1, h2, h3⟩ := own_msG hcells hnd hI hlen hsc' hI' hg (flat els) (some B) (fun B' hB' => by
   cases hB'
   refine ⟨hB, (Array.getElem?_eq_some_iff.1 hheap).1, .inr ⟨us0, T, hheap, by rw [flat_len s els hss, hl, hsize]; exact Nat.mul_le_mul_right _ hnc, fun o x u hx hu G2 => ?_⟩⟩
   obtain ⟨e, he, hex⟩ := flat_get s hs els o x hss hx
   have g1 := hf _ e _ x he hex
   have g2 := hvv _ e _ x he hex
   rw [show o / s * s + o % s = o by rw [Nat.mul_comm]; exact Nat.div_add_mod o s] at g1 g2
   have g3 := hI'.fz _ _ _ g1
   simp only [World.cell?, hheap] at g3
   have g4 : us0[o]? = some (us o) := by simpa using g3
   rw [hu] at g4
   cases g4
   exact g2.scal (List.all_eq_true.1 hsc x (List.mem_of_getElem? hx)))
  exact ⟨G2, h1, .ms _ _ _ B c (h2 B rfl) hnc, h3⟩
 ·obtain rfl : n = 0 := by omega
  obtain rfl := List.eq_nil_of_length_eq_zero hl
  obtain ⟨G2, h1, _, h3⟩ := own_msG hcells hnd hI hlen hsc' hI' hg [] none (fun B h => by cases h)
  refine ⟨G2, h1, ?_, h3⟩
  cases hv with
  | slt _ _ s' B c us hb hn' hs' hf hv => exact .ms0 _ _ _ _
  | slt0 _ hb => exact .ms0 _ _ _ _

structure TokB where
 f : FuncId
 gs : List AV
 cells : List (List AV)
 c1 : List (List AV)
 pre : List AV
 els : List AV
 post : List AV
 n : Nat
 s : Nat
def TokBOk (P : Program) (r : TokB) : Prop := DoesTB P r.f r.gs r.cells (fun v c' lv => ∃ t, v = .agg (r.pre ++ .sl r.els (some t) :: r.post) ∧ c' = r.c1 ∧ lv[t]? = some (r.n, r.s)) ∧ r.els.length = r.n ∧ (∀ x ∈ r.pre, scal x = true) ∧ (∀ x ∈ r.post, scal x = true)
theorem ExO.callMsB {n0 : Cx} {P : Program} {R : List AV → St → Prop} {x : AOper} {l : List AOper} {a : List AV} {S : St} {r : TokB} (hr : TokBOk P r) (hs0 : 0 < r.s) (hcl : ∀ e ∈ r.els, e.cells.length = r.s) (hsc : (flat r.els).all scal = true) (bs : List Nat) (xs : List AV) (hw : wantedA x.guard a = some true) (hv : aop x.op (evd a) S = some (.call r.f xs)) (hx : (xs.map fadeS).mapM (ren bs) = some r.gs) (hc : bs.mapM (fun b => S.bx[b]?) = some r.cells) (hcc : (r.cells.all cleanL && decide bs.Nodup) = true) (hsc' : ∀ x ∈ r.c1, ∀ y ∈ x, scal y = true)
  (h : ExO n0 P l (putA a x.dst (.agg (r.pre ++ .ms S.bx.length r.n r.s :: r.post))) ⟨setAll S.bx bs r.c1 ++ [flat r.els], S.lv⟩ R) : ExO n0 P (x :: l) a S R := by
 intro E hn ops l0 Q hco hq act w hA
 obtain ⟨o, l', rfl, hx', hl'⟩ := mapM_cons_inv hco
 obtain ⟨h1, h2, _⟩ := compOper_ok hx'
 obtain ⟨G, hI, hR, hg, hk, hd⟩ := hA
 simp only [wpList]
 rw [if_pos (wantedA_ok hx' hR hw)]
 refine .inl ?_
 unfold Oper.wp
 have hs := step_ok h1 (fun _ => rfl) hR.opd hI hv
 obtain ⟨us, hrun, hvs⟩ := hs
 simp only [Bool.and_eq_true, decide_eq_true_eq, List.all_eq_true] at hcc
 obtain ⟨hIc, hvc⟩ := call_in hx hc hcc.1 hcc.2 hI (VRs.fade hvs)
 rw [hrun, hr.1.enter]
 simp only [Oper.upon_enter]
 refine (hr.1.calls (G.sub bs) w us hIc hvc).mono ?_
 rintro e w' ⟨u, v, c', Gc, bx, lv, ⟨t, rfl, rfl, hlv⟩, rfl, hvr, hlen, hI', hg'⟩
 obtain ⟨us', rfl, hsz, hcells⟩ := hvr.inv_agg
 have hilt : r.pre.length < us'.size := by rw [hsz]; simp
 have hui : us'[r.pre.length]? = some us'[r.pre.length] := Array.getElem?_eq_getElem hilt
 obtain ⟨G2, hle, hms, hI2, hg2, hk2⟩ := own_msB hc hcc.2 hI hlen hsc' hI' hg' (hcells r.pre.length _ _ (mid_at _ _ _) hui) hlv hr.2.1 hs0 hcl hsc
 have hv2 : VR G2 (.agg (r.pre ++ .ms S.bx.length r.n r.s :: r.post)) (.agg us') := by
  refine .agg _ us' (by rw [hsz]; simp) fun j y v hy hv => ?_
  rcases mid_get hy with ⟨rfl, rfl⟩ | ⟨hmem, hall⟩
  ·rw [hui] at hv; cases hv
   exact hms
  ·refine (hcells j y v (hall _) hv).scal ?_
   rcases hmem with hm' | hm'
   ·exact hr.2.2.1 y hm'
   ·exact hr.2.2.2 y hm'
 exact h E hn ops l' Q hl' hq _ _ ⟨G2, hI2, h2 ▸ (hR.mono hle).put x.dst hv2, hg.trans hg2, hk.trans hk2, by cases o.dst <;> exact hd.step hg2 hk2⟩
end Go.Proofs.Ytodhdfkefkkdnaa
end
section
namespace Go.Proofs.Ytodhdfkefkkdnaa
open Go.RowKit

theorem compCode_scope {P : Program} {code : Code} {c : ACode} (h : compCode P code = some (.scope c)) : ∃ x, code = .scope x ∧ compCode P x = some c := by
 cases code <;> simp only [compCode, reduceCtorEq] at h
 case scope x =>
  simp only [Option.map_eq_some_iff, ACode.scope.injEq] at h
  obtain ⟨c', h1, rfl⟩ := h
  exact ⟨x, rfl, h1⟩
 case seq => split at h <;> simp at h
 case cond => split at h <;> simp at h
 case region id ops draw =>
  split at h
  ·split at h
   ·split at h
    ·split at h <;> simp at h
    ·cases h
   ·cases h
  ·split at h
   ·cases h
   ·simp at h
 case rangeFunc => split at h <;> simp at h
 all_goals simp at h
theorem Ex.scope {n0 : Cx} {P : Program} {a : List AV} {S : St} {Q : AEx → List AV → St → Prop} {c : ACode} (h : Ex n0 .plain P c a S Q) : Ex n0 .plain P (.scope c) a S Q := by
 intro E hn code hc act w hA
 obtain ⟨x, rfl, h1⟩ := compCode_scope hc
 show (Code.scope x).wp P _ act w
 refine wp_scope_straight (wp_mono (h E hn x h1 act w hA) ?_)
 rintro e act' w' ⟨z, a', S', rfl, hq, hA'⟩
 cases z
 ·exact ⟨.norm, a', S', rfl, hq, hA'⟩
 ·exact ⟨.ex _, a', S', rfl, hq, hA'⟩
 ·exact ⟨.ret, a', S', rfl, hq, hA'⟩

theorem ExO.castA {c : Cx} {P : Program} {a : List AV} {S : St} {R : List AV → St → Prop} {xs : List AOper} {a2 : List AV} {S2 : St} (h1 : a = a2) (h2 : S = S2) (h : ExO c P xs a2 S2 R) : ExO c P xs a S R := by rw [h1, h2]; exact h
theorem ExI.castA {c : Cx} {md : Md} {P : Program} {a : List AV} {S : St} {R : List AV → St → Prop} {xs : List AOper} {a2 : List AV} {S2 : St} (h1 : a = a2) (h2 : S = S2) (h : ExI c md P xs a2 S2 R) : ExI c md P xs a S R := by rw [h1, h2]; exact h

theorem drK {X : Clr} {b0 k0 : Nat} {sts : List St} {x : AOper} {l : List AOper} {a a1 : List AV} {lv : Nat} {bs ts : List Nat} (hw : wantedA x.guard a = some false) (hd : dstOk x a.length = true) (h : DrO X b0 k0 sts l (putA a x.dst (.tup [])) lv bs ts a1) : DrO X b0 k0 sts (x :: l) a lv bs ts a1 := DrO.skip hw hd h


theorem ExO.lb {c : Cx} {P : Program} {a : List AV} {S : St} {R : List AV → St → Prop} {x : AOper} {l : List AOper} {s : Nat} {els : List AV} (hw : wantedA x.guard a = some true) (hv : aop x.op (evd a) S = some (.lit s els)) (hs0 : 0 < s)
  (h : ExO c P l (putA a x.dst (.ms S.bx.length els.length s)) ⟨S.bx ++ [flat els], S.lv⟩ R) : ExO c P (x :: l) a S R := by
 intro E hE ops l1 Q hco hq act w hA
 obtain ⟨o, l', rfl, hx, hl'⟩ := mapM_cons_inv hco
 obtain ⟨h1, h2, _⟩ := compOper_ok hx
 obtain ⟨G, hI, hR, hgr, hk, hdf⟩ := hA
 simp only [wpList]
 rw [if_pos (wantedA_ok hx hR hw)]
 refine .inl ?_
 have hs := step_ok h1 (fun _ => rfl) hR.opd hI hv
 obtain ⟨us, T, cc, hrun, hn, hsz, hes, hcell⟩ := hs
 have hle : els.length * s ≤ us.size := by rw [hsz]; exact Nat.mul_le_mul_right _ hn
 have hfl : (flat els).length = els.length * s := flat_len s els hes
 obtain ⟨b1, b2, b3⟩ := new_box hI (flat els ++ List.replicate (us.size - els.length * s) .junk) us T ⟨by simp [hfl]; omega, fun i y u hy hu => by
  by_cases hi : i < (flat els).length
  ·rw [List.getElem?_append_left hi] at hy
   obtain ⟨e, g1, g2⟩ := flat_get s hs0 els i y hes hy
   obtain ⟨u', g3, g4⟩ := hcell _ e _ y g1 g2
   rw [show i / s * s + i % s = i by rw [Nat.mul_comm]; exact Nat.div_add_mod i s, hu] at g3
   cases g3
   exact g4
  ·rw [List.getElem?_append_right (by omega), List.getElem?_replicate] at hy
   split at hy
   ·cases hy; exact .junk _
   ·cases hy⟩
 have hI2 : Inv (G.box S.bx.length w.heap.size) ⟨S.bx ++ [flat els], S.lv⟩ (w.alloc (.cells us T)) := by
  refine ⟨fun b' B c' h1 h2 => ?_, b2.tok, b2.fz, fun b' B h1 => ?_, b2.dtb, b2.injA, b2.injT, b2.sep⟩
  ·by_cases hb : b' < S.bx.length
   ·rw [List.getElem?_append_left hb] at h2
    exact b2.box b' B c' h1 (by rw [List.getElem?_append_left hb]; exact h2)
   ·have hb' : b' = S.bx.length := by
     have := (b2.dal b' B h1).1
     simp at this; omega
    subst hb'
    rw [List.getElem?_append_right (Nat.le_refl _)] at h2
    simp at h2
    subst h2
    rcases b2.box _ B (flat els ++ List.replicate (us.size - els.length * s) .junk) h1 (by simp) with h0 | ⟨us', T', k1, k2, k3, k4⟩
    ·exact .inl (List.append_eq_nil_iff.1 h0).1
    ·refine .inr ⟨us', T', k1, by rw [List.length_append] at k2; omega, fun i y u hy hu => k3 i y u (by rw [List.getElem?_append_left (List.getElem?_eq_some_iff.1 hy).1]; exact hy) hu, k4⟩
  ·have := b2.dal b' B h1
   exact ⟨by simpa using this.1, this.2⟩
 have hG2 : Gro G S w (G.box S.bx.length w.heap.size) ⟨S.bx ++ [flat els], S.lv⟩ (w.alloc (.cells us T)) := ⟨b3.le, b3.os, b3.tape, b3.output, b3.size, b3.fr, b3.own, b3.oth⟩
 unfold Oper.wp
 rw [hrun]
 simp only [Oper.upon]
 exact h E hE ops l' Q hl' hq _ _ ⟨_, hI2, h2 ▸ (hR.mono hG2.le).put x.dst (.ms _ _ _ _ _ b1 hn), hgr.trans hG2, hk.trans (Keep.box G S _ _), by cases o.dst <;> exact hdf.step hG2 (Keep.box G S _ _)⟩

end Go.Proofs.Ytodhdfkefkkdnaa
end
section
namespace Go.Proofs.Ytodhdfkefkkdnaa
open Go.RowKit

def Cx.one : Cx := ⟨0, 1, 0, [], fun _ h => (by cases h), fun _ h => (by cases h)⟩
@[simp] theorem Cx.one_n : Cx.one.n = 0 := rfl
@[simp] theorem Cx.one_m : Cx.one.m = 1 := rfl
@[simp] theorem Cx.zero_n : Cx.n 0 = 0 := rfl
@[simp] theorem Cx.zero_m : Cx.m 0 = 0 := rfl
@[simp] theorem SV_clean {α : Type} (f : α → AV) (l : List α) : (SV f l).clean = cleanL (l.map f) := by simp only [SV, AV.clean]
@[simp] theorem cleanI3 (k : IntKind) (l : List (List (List Int))) : cleanL (l.map (SV (SV (AV.int k)))) = true := cleanM (fun x => by simp only [SV, AV.clean]; exact cleanII k x) l
structure DoesG (P : Program) (f : FuncId) (xs : List AV) (n s : Nat) (K : List AV → Prop) : Prop where
 enter : ∀ (us : Array Value) (w : World), (callFunc f us).run P w = .ok (.enter f us) w
 calls : ∀ (G : Gh) (w : World) (us : Array Value), Inv G ⟨[], [(n, s)]⟩ w → (∃ v, G.tb 0 n = some v) → VRs G xs us → Calls P f us w fun e w' => ∃ u r G' bx lv, K r ∧ e = .returned u ∧ VR G' (.sl r (some 0)) u ∧ lv[0]? = some (r.length, s) ∧ Inv G' ⟨bx, lv⟩ w' ∧ Gro G ⟨[], [(n, s)]⟩ w G' ⟨bx, lv⟩ w'
theorem DoesG.of {P : Program} {f : FuncId} {F : AFn} (hF : compFn P f = some F) {xs : List AV} {n s : Nat} {K : List AV → Prop}
  (h : Ex Cx.one .plain P F.code (start F xs) ⟨[], [(n, s)]⟩ fun x a' S' => (x = .norm ∨ x = .ret) ∧ ∃ r, evRes a' S' F.res = some (.sl r (some 0)) ∧ S'.lv[0]? = some (r.length, s) ∧ K r) : DoesG P f xs n s K := by
 unfold compFn at hF
 split at hF
 ·rename_i fn hf
  split at hF
  ·rename_i c rs hb hrs
   split at hF
   ·rename_i ac hac
    split at hF
    ·cases hF
    ·rename_i hname
     cases hF
     refine ⟨fun us w => ?_, fun G w us hI htb hvs => ?_⟩
     ·simp only [callFunc, program, Sem.run, hf, Sem.run_bind, Result.andThen_ok, hname, hb]
      rfl
     ·refine calls_of_marks hf hb ?_
      have hR := start_rel (F := ⟨fn.params.size, fn.ntmps, rs, ac⟩) (n := fn.ntmps) rfl hvs
      let E : Ent := ⟨G, ⟨[], [(n, s)]⟩, w, [], hI, Cx.one, Nat.le_refl _, fun t ht => by
       obtain ⟨v, hv⟩ := htb
       have : t = 0 := by simpa using ht
       subst this
       exact ⟨n, v, hv⟩, Nat.le_refl _, fun _ h => (by cases h), w.heap.size, Nat.le_refl _⟩
      refine wp_mono (h E rfl c hac _ w ⟨G, hI, hR, .refl _ _ _, .refl _ _, ⟨⟨[], rfl, .nil, fun _ h => (by cases h)⟩, fun _ h => (by cases h), Nat.le_refl _, Nat.zero_le _, Nat.le_refl _⟩⟩) ?_
      rintro e act' w' ⟨x, a', S', he, ⟨hx, r, hv, hl, hq⟩, G', hI', hR', hg, hk, hd⟩
      obtain ⟨Ds, e1, e2, e3⟩ := hd.d
      have e1 : act'.defers = Ds.map markOf := by rw [e1]; exact List.append_nil _
      have hI' := hI'.shut e2 fun D hD => (e3 D hD).2
      have hg := hg.shut fun D hD => (e3 D hD).1.1
      obtain ⟨u, h1, h2⟩ := res_ok hI' hR' hrs hv
      obtain ⟨S'bx, S'lv⟩ := S'
      rcases hx with rfl | rfl
      ·subst he; exact ⟨.inl rfl, Ds, e1, e2, fun D hD => (e3 D hD).2, u, h1, u, r, G', S'bx, S'lv, hq, rfl, h2, hl, hI', hg⟩
      ·subst he; exact ⟨.inr rfl, Ds, e1, e2, fun D hD => (e3 D hD).2, u, h1, u, r, G', S'bx, S'lv, hq, rfl, h2, hl, hI', hg⟩
   ·cases hF
  ·cases hF
 ·cases hF

def Gh.subT (G : Gh) (t : Nat) : Gh := ⟨fun _ => none, fun t' k => if t' = 0 then G.tb t k else none, G.fz⟩
theorem subT_inv {G : Gh} {S : St} {w : World} {t n s : Nat} (hI : Inv G S w) (hlv : S.lv[t]? = some (n, s)) : Inv (G.subT t) ⟨[], [(n, s)]⟩ w := by
 have h0 : ∀ (t' : Nat) (p : Nat × Nat), ([(n, s)] : List (Nat × Nat))[t']? = some p → t' = 0 ∧ p = (n, s) := fun t' p h => by
  cases t' with
  | zero => exact ⟨rfl, by simpa using h.symm⟩
  | succ t' => simp at h
 refine ⟨fun b B cs h => by simp [Gh.subT] at h, fun t' k s0 B s' c h1 h2 => ?_, hI.fz, fun b B h => by simp [Gh.subT] at h, fun t' k v h => ?_, fun b b' B h => by simp [Gh.subT] at h, fun t' t'' k k' s0 s0' B s1 s2 c c' h1 h2 h3 h4 => ?_, fun b B t' k s0 s1 c h => by simp [Gh.subT] at h⟩
 ·obtain ⟨rfl, hp⟩ := h0 _ _ h1
  cases hp
  simp only [Gh.subT, if_true] at h2
  exact hI.tok t n s B s' c hlv h2
 ·simp only [Gh.subT] at h
  split at h
  ·rename_i ht
   subst ht
   obtain ⟨m, s', h1, h2⟩ := hI.dtb t k v h
   rw [hlv] at h1
   cases h1
   exact ⟨n, s, rfl, h2⟩
  ·cases h
 ·rw [(h0 _ _ h1).1, (h0 _ _ h2).1]
theorem subT_val {G : Gh} {t n : Nat} {els : List AV} {u : Value} (h : VR G (.sl els (some t)) u) (hl : els.length = n) (hcl : cleanL els = true) : VR (G.subT t) (.sl els (some 0)) u ∧ ∃ v, G.tb t n = some v := by
 cases h with
 | slt _ _ s' B c us hb hn' hs' hf hvv =>
  refine ⟨.slt els 0 s' B c us (by simp [Gh.subT, hb]) hn' hs' hf fun i e j x h1 h2 => (hvv i e j x h1 h2).move ?_ (fun b o v h => h), by rw [← hl]; exact ⟨_, hb⟩⟩
  have he := cleanL_iff.1 hcl e (List.mem_of_getElem? h1)
  have hx := List.mem_of_getElem? h2
  cases e <;> simp only [AV.cells, List.mem_singleton] at hx <;> first | (subst hx; exact he) | exact cleanL_iff.1 (by simpa [AV.clean] using he) x hx
 | slt0 _ hb => exact ⟨.slt0 0 (by simp [Gh.subT, hb]), by rw [← hl]; exact ⟨_, hb⟩⟩
theorem grow_back {S : St} {G Gc : Gh} {w w' : World} {bx : List (List AV)} {lv : List (Nat × Nat)} {r : List AV} {t n s : Nat} {u : Value} (hI : Inv G S w) (hlv : S.lv[t]? = some (n, s)) (htb : ∃ v, G.tb t n = some v)
  (hI' : Inv Gc ⟨bx, lv⟩ w') (hg : Gro (G.subT t) ⟨[], [(n, s)]⟩ w Gc ⟨bx, lv⟩ w') (hv : VR Gc (.sl r (some 0)) u) (hl' : lv[0]? = some (r.length, s)) (hcl : cleanL r = true) :
  ∃ G2, VR G2 (.sl r (some t)) u ∧ Inv G2 ⟨S.bx, S.lv.set t (r.length, s)⟩ w' ∧ Gro G S w G2 ⟨S.bx, S.lv.set t (r.length, s)⟩ w' ∧ Keep G S G2 ⟨S.bx, S.lv.set t (r.length, s)⟩ := by
 have htl : t < S.lv.length := (List.getElem?_eq_some_iff.1 hlv).1
 have hown : ∀ B, Owned (G.subT t) ⟨[], [(n, s)]⟩ B → ∃ s' c, G.tb t n = some (.blk B s' c) := by
  rintro B (⟨b, hb⟩ | ⟨t', k, s0, s', c, h1, h2⟩)
  ·simp [Gh.subT] at hb
  ·cases t' with
   | zero =>
    have : (n, s) = (k, s0) := by simpa using h1
    cases this
    exact ⟨s', c, by simpa [Gh.subT] using h2⟩
   | succ t' => simp at h1
 have hownS : ∀ B, Owned (G.subT t) ⟨[], [(n, s)]⟩ B → Owned G S B := fun B h => by
  obtain ⟨s', c, h'⟩ := hown B h
  exact .inr ⟨t, n, s, s', c, hlv, h'⟩
 have hfr : ∀ B, B < w.heap.size → (∀ s' c, G.tb t n ≠ some (.blk B s' c)) → w'.heap[B]? = w.heap[B]? ∧ ∀ o, Gc.fz B o = G.fz B o := fun B hB hno => hg.fr B hB (fun h => by
  obtain ⟨s', c, h'⟩ := hown B h
  exact hno s' c h')
 obtain ⟨G2, hG2⟩ : ∃ G2 : Gh, G2 = ⟨G.al, fun t' k => if t' = t then Gc.tb 0 k else G.tb t' k, Gc.fz⟩ := ⟨_, rfl⟩
 have htb1 : ∀ t' k, t' ≠ t → G2.tb t' k = G.tb t' k := fun t' k h => by rw [hG2]; simp [h]
 have htb2 : ∀ k, G2.tb t k = Gc.tb 0 k := fun k => by rw [hG2]; simp
 have hal2 : G2.al = G.al := by rw [hG2]
 have hfz2 : G2.fz = Gc.fz := by rw [hG2]
 have hle : G.le G2 := by
  refine ⟨fun b B h => by rw [hal2]; exact h, fun t' k v h => ?_, fun k o v h => by rw [hfz2]; exact hg.le.fz k o v h⟩
  by_cases ht : t' = t
  ·subst ht
   rw [htb2]
   exact hg.le.tb 0 k v (by simp [Gh.subT, h])
  ·rw [htb1 t' k ht]; exact h
 have hlva : ∀ (t' : Nat) p, (S.lv.set t (r.length, s))[t']? = some p → (t' ≠ t ∧ S.lv[t']? = some p) ∨ (t' = t ∧ p = (r.length, s)) := by
  intro t' p h
  by_cases ht : t' = t
  ·subst ht
   rw [List.getElem?_set_self htl] at h
   exact .inr ⟨rfl, by simpa using h.symm⟩
  ·rw [List.getElem?_set_ne (Ne.symm ht)] at h
   exact .inl ⟨ht, h⟩
 have hnew : ∀ B s' c, Gc.tb 0 r.length = some (.blk B s' c) → (∃ s'' c', G.tb t n = some (.blk B s'' c')) ∨ w.heap.size ≤ B := by
  intro B s' c h
  rcases hg.own B (.inr ⟨0, r.length, s, s', c, hl', h⟩) with h' | h'
  ·exact .inl (hown B h')
  ·exact .inr h'
 have hold : ∀ t' k s0 B s' c, (S.lv.set t (r.length, s))[t']? = some (k, s0) → G2.tb t' k = some (.blk B s' c) → (t' ≠ t ∧ S.lv[t']? = some (k, s0) ∧ G.tb t' k = some (.blk B s' c) ∧ B < w.heap.size ∧ (∀ s'' c', G.tb t n ≠ some (.blk B s'' c'))) ∨ (t' = t ∧ (k, s0) = (r.length, s) ∧ Gc.tb 0 r.length = some (.blk B s' c)) := by
  intro t' k s0 B s' c h1 h2
  rcases hlva t' _ h1 with ⟨hne, h3⟩ | ⟨rfl, h3⟩
  ·rw [htb1 t' k hne] at h2
   exact .inl ⟨hne, h3, h2, hI.toklt h3 h2, fun s'' c' h => hne (hI.injT t' t k n s0 s B s' s'' c c' h3 hlv h2 h)⟩
  ·cases h3
   rw [htb2] at h2
   exact .inr ⟨rfl, rfl, h2⟩
 have hnbox : ∀ b B, G.al b = some B → ∀ s' c, G.tb t n ≠ some (.blk B s' c) := fun b B h s' c => hI.sep b B t n s s' c h hlv
 refine ⟨G2, ?_, ⟨?_, ?_, ?_, ?_, ?_, ?_, ?_, ?_⟩, ⟨hle, hg.os, hg.tape, hg.output, hg.size, ?_, ?_, hg.oth⟩, ⟨Nat.le_refl _, by simp, ?_, ?_, ?_⟩⟩
 ·cases hv with
  | slt _ _ s' B c us hb hn' hs' hf hvv =>
   refine .slt r t s' B c us (by rw [htb2]; exact hb) hn' hs' (fun i e j x h1 h2 => by rw [hfz2]; exact hf i e j x h1 h2) fun i e j x h1 h2 => (hvv i e j x h1 h2).move ?_ (fun b o v h => by rw [hfz2]; exact h)
   have he := cleanL_iff.1 hcl e (List.mem_of_getElem? h1)
   have hx := List.mem_of_getElem? h2
   cases e <;> simp only [AV.cells, List.mem_singleton] at hx <;> first | (subst hx; exact he) | exact cleanL_iff.1 (by simpa [AV.clean] using he) x hx
  | slt0 _ hb => exact .slt0 t (by rw [htb2]; exact hb)
 ·intro b B cs hb hcs
  rw [hal2] at hb
  obtain ⟨f1, f2⟩ := hfr B (hI.dal b B hb).2 (hnbox b B hb)
  rcases hI.box b B cs hb hcs with rfl | ⟨us', T', k1, k2, k3, k4⟩
  ·exact .inl rfl
  ·exact .inr ⟨us', T', by rw [f1]; exact k1, k2, fun i x u hx hu => (k3 i x u hx hu).mono hle, fun o => by rw [hfz2, f2]; exact k4 o⟩
 ·intro t' k s0 B s' c h1 h2
  rcases hold t' k s0 B s' c h1 h2 with ⟨_, h3, h4, h5, h6⟩ | ⟨rfl, h3, h4⟩
  ·obtain ⟨k1, ⟨us', T', k2, k3⟩, k4, k5⟩ := hI.tok t' k s0 B s' c h3 h4
   obtain ⟨f1, f2⟩ := hfr B h5 h6
   exact ⟨k1, ⟨us', T', by rw [f1]; exact k2, k3⟩, k4, fun o ho => by rw [hfz2, f2]; exact k5 o ho⟩
  ·cases h3
   obtain ⟨k1, k2, k3, k4⟩ := hI'.tok 0 r.length s B s' c hl' h4
   exact ⟨k1, k2, k3, fun o ho => by rw [hfz2]; exact k4 o ho⟩
 ·intro k o v h
  rw [hfz2] at h
  exact hI'.fz k o v h
 ·intro b B hb
  rw [hal2] at hb
  exact ⟨(hI.dal b B hb).1, Nat.lt_of_lt_of_le (hI.dal b B hb).2 hg.size⟩
 ·intro t' k v h
  by_cases ht : t' = t
  ·subst ht
   rw [htb2] at h
   obtain ⟨m, s', h1, h2⟩ := hI'.dtb 0 k v h
   have h1 : lv[0]? = some (m, s') := h1
   rw [hl'] at h1
   cases h1
   exact ⟨r.length, s, List.getElem?_set_self htl, h2⟩
  ·rw [htb1 t' k ht] at h
   obtain ⟨m, s', h1, h2⟩ := hI.dtb t' k v h
   exact ⟨m, s', by rw [List.getElem?_set_ne (Ne.symm ht)]; exact h1, h2⟩
 ·rw [hal2]; exact hI.injA
 ·intro t' t'' k k' s0 s0' B s1 s2 c c' h1 h2 h3 h4
  rcases hold t' k s0 B s1 c h1 h3 with ⟨_, g1, g2, g3, g4⟩ | ⟨rfl, g1, g2⟩ <;> rcases hold t'' k' s0' B s2 c' h2 h4 with ⟨_, j1, j2, j3, j4⟩ | ⟨rfl, j1, j2⟩
  ·exact hI.injT t' t'' k k' s0 s0' B s1 s2 c c' g1 j1 g2 j2
  ·rcases hnew _ _ _ j2 with ⟨x, y, h⟩ | h
   ·exact absurd h (g4 x y)
   ·omega
  ·rcases hnew _ _ _ g2 with ⟨x, y, h⟩ | h
   ·exact absurd h (j4 x y)
   ·omega
  ·rfl
 ·intro b B t' k s0 s1 c h1 h2 h3
  rw [hal2] at h1
  rcases hold t' k s0 B s1 c h2 h3 with ⟨_, g1, g2, g3, _⟩ | ⟨rfl, g1, g2⟩
  ·exact hI.sep b B t' k s0 s1 c h1 g1 g2
  ·rcases hnew _ _ _ g2 with ⟨x, y, h⟩ | h
   ·exact hnbox b B h1 x y h
   ·have := (hI.dal b B h1).2; omega
 ·intro B hB hno
  obtain ⟨f1, f2⟩ := hg.fr B hB (fun h => hno (hownS B h))
  exact ⟨f1, fun o => by rw [hfz2]; exact f2 o⟩
 ·rintro B (⟨b, hb⟩ | ⟨t', k, s0, s', c, h1, h2⟩)
  ·rw [hal2] at hb
   exact .inl (.inl ⟨b, hb⟩)
  ·rcases hold t' k s0 B s' c h1 h2 with ⟨_, g1, g2, g3⟩ | ⟨rfl, g1, g2⟩
   ·exact .inl (.inr ⟨t', k, s0, s', c, g1, g2⟩)
   ·rcases hnew _ _ _ g2 with ⟨x, y, h⟩ | h
    ·exact .inl (.inr ⟨_, n, s, x, y, hlv, h⟩)
    ·exact .inr h
 ·intro b _ h
  rw [hal2]; exact h
 ·intro t' ht' h k
  by_cases ht : t' = t
  ·subst ht
   obtain ⟨v, hv'⟩ := htb
   rw [h] at hv'; cases hv'
  ·rw [htb1 t' k ht]; exact h k
 ·intro t' ht' h
  by_cases ht : t' = t
  ·subst ht
   obtain ⟨v, hv'⟩ := htb
   rw [h] at hv'; cases hv'
  ·exact List.getElem?_set_ne (Ne.symm ht)

structure GroR where
 f : FuncId
 pre : List AV
 els : List AV
 post : List AV
 n : Nat
 s : Nat
 r : List AV
 m : Nat
def GroOk (P : Program) (q : GroR) : Prop := DoesG P q.f (q.pre ++ .sl q.els (some 0) :: q.post) q.n q.s (fun r => r = q.r) ∧ cleanL q.r = true ∧ cleanL q.els = true ∧ q.els.length = q.n ∧ q.r.length = q.m
theorem mapM_ren_val {G G2 : Gh} {ys zs : List AV} (h : (ys.map fadeS).mapM (ren []) = some zs) (hfz : G2.fz = G.fz) : zs.length = ys.length ∧ ∀ (i : Nat) y, zs[i]? = some y → ∃ x, ys[i]? = some x ∧ ∀ u, VR G x u → VR G2 y u := by
 obtain ⟨h1, h2⟩ := mapM_get h
 refine ⟨by simpa using h1, fun i y hy => ?_⟩
 obtain ⟨x0, hx0, hr⟩ := h2 i y hy
 rw [List.getElem?_map, Option.map_eq_some_iff] at hx0
 obtain ⟨x, hx, rfl⟩ := hx0
 refine ⟨x, hx, fun u hu => ?_⟩
 have k1 := VR.ren (bs := []) hu.fadeS hr
 exact k1.mono ⟨fun b B h => by simp [Gh.sub] at h, fun t n v h => by simp [Gh.sub] at h, fun b o v h => by rw [hfz]; exact h⟩
theorem mid_vrs {G G2 : Gh} {pre pre' post post' : List AV} {x x' : AV} {us : Array Value} (hv : VRs G (pre ++ x :: post) us) (h1 : (pre.map fadeS).mapM (ren []) = some pre') (h2 : (post.map fadeS).mapM (ren []) = some post') (hfz : G2.fz = G.fz) (hx : ∀ u, VR G x u → VR G2 x' u) : VRs G2 (pre' ++ x' :: post') us := by
 obtain ⟨a1, a2⟩ := mapM_ren_val (G := G) (G2 := G2) h1 hfz
 obtain ⟨b1, b2⟩ := mapM_ren_val (G := G) (G2 := G2) h2 hfz
 refine ⟨by rw [hv.1]; simp [a1, b1], fun i y u hy hu => ?_⟩
 by_cases hi : i < pre'.length
 ·rw [List.getElem?_append_left hi] at hy
  obtain ⟨z, hz, hk⟩ := a2 i y hy
  exact hk u (hv.2 i z u (by rw [List.getElem?_append_left (by omega)]; exact hz) hu)
 ·rw [List.getElem?_append_right (by omega)] at hy
  obtain ⟨k, hk⟩ : ∃ k, i - pre'.length = k := ⟨_, rfl⟩
  rw [hk] at hy
  cases k with
  | zero =>
   simp only [List.getElem?_cons_zero, Option.some.injEq] at hy
   subst hy
   have : i = pre.length := by omega
   subst this
   exact hx u (hv.2 _ x u (mid_at _ _ _) hu)
  | succ k =>
   rw [List.getElem?_cons_succ] at hy
   obtain ⟨z, hz, hk'⟩ := b2 k y hy
   refine hk' u (hv.2 i z u ?_ hu)
   rw [List.getElem?_append_right (by omega), show i - pre.length = k + 1 by omega, List.getElem?_cons_succ]
   exact hz
open Classical in
noncomputable def groC (q : GroR) (t : Nat) (X : Clr) : Clr := fun f xs S => if f = q.f ∧ (∃ pre post, xs = pre ++ .sl q.els (some t) :: post ∧ (pre.map fadeS).mapM (ren []) = some q.pre ∧ (post.map fadeS).mapM (ren []) = some q.post) ∧ S.lv[t]? = some (q.n, q.s) then some (.sl q.r (some t), some ⟨S.bx, S.lv.set t (q.m, q.s)⟩) else X f xs S
theorem groC_ok {P : Program} {q : GroR} {t : Nat} {X : Clr} (hr : GroOk P q) (hX : ClrOk P X) : ClrOk P (groC q t X) := ⟨by
 intro f gs S v S' h G w us hI hv
 by_cases hc : f = q.f ∧ (∃ pre post, gs = pre ++ .sl q.els (some t) :: post ∧ (pre.map fadeS).mapM (ren []) = some q.pre ∧ (post.map fadeS).mapM (ren []) = some q.post) ∧ S.lv[t]? = some (q.n, q.s)
 ·simp only [callS, groC, if_pos hc, Option.some.injEq, Prod.mk.injEq] at h
  obtain ⟨rfl, rfl⟩ := h
  obtain ⟨rfl, ⟨pre, post, rfl, hp, hq⟩, hlv⟩ := hc
  have hmid := hv.2 pre.length _ us[pre.length]! (mid_at _ _ _) (by
   have : pre.length < us.size := by rw [hv.1]; simp
   simp [this])
  obtain ⟨_, htb⟩ := subT_val hmid hr.2.2.2.1 hr.2.2.1
  have hvs := mid_vrs (G2 := G.subT t) (x' := .sl q.els (some 0)) hv hp hq rfl (fun u hu => (subT_val hu hr.2.2.2.1 hr.2.2.1).1)
  refine ⟨hr.1.enter us w, (hr.1.calls (G.subT t) w us (subT_inv hI hlv) (by obtain ⟨v, h⟩ := htb; exact ⟨v, by simpa [Gh.subT] using h⟩) hvs).mono ?_⟩
  rintro e w' ⟨u, r, Gc, bx, lv, rfl, rfl, hvr, hl', hI', hg'⟩
  obtain ⟨G2, h1, h2, h3, h4⟩ := grow_back hI hlv htb hI' hg' hvr hl' hr.2.1
  rw [hr.2.2.2.2] at h2 h3 h4
  exact ⟨u, G2, rfl, h1, h2, h3, h4⟩
 ·have h' : callS X f gs S = some (v, S') := by
   simp only [callS, groC, if_neg hc] at h
   exact h
  exact hX.ok f gs S v S' h' G w us hI hv⟩
theorem groC_call {q : GroR} {t : Nat} {X : Clr} {pre post : List AV} {S : St} (hp : (pre.map fadeS).mapM (ren []) = some q.pre) (hq : (post.map fadeS).mapM (ren []) = some q.post) (hl : S.lv[t]? = some (q.n, q.s)) : callS (groC q t X) q.f (pre ++ .sl q.els (some t) :: post) S = some (.sl q.r (some t), ⟨S.bx, S.lv.set t (q.m, q.s)⟩) := by
 have : q.f = q.f ∧ (∃ pre' post', pre ++ AV.sl q.els (some t) :: post = pre' ++ .sl q.els (some t) :: post' ∧ (pre'.map fadeS).mapM (ren []) = some q.pre ∧ (post'.map fadeS).mapM (ren []) = some q.post) ∧ S.lv[t]? = some (q.n, q.s) := ⟨rfl, ⟨pre, post, rfl, hp, hq⟩, hl⟩
 simp only [callS, groC, if_pos this]
theorem ExO.callG {n0 : Cx} {P : Program} {R : List AV → St → Prop} {x : AOper} {l : List AOper} {a : List AV} {S : St} {q : GroR} (hr : GroOk P q) (pre : List AV) (t : Nat) (post : List AV) (hw : wantedA x.guard a = some true) (hv : aop x.op (evd a) S = some (.call q.f (pre ++ .sl q.els (some t) :: post))) (hp : (pre.map fadeS).mapM (ren []) = some q.pre) (hq : (post.map fadeS).mapM (ren []) = some q.post) (hl : S.lv[t]? = some (q.n, q.s)) (h : ExO n0 P l (putA a x.dst (.sl q.r (some t))) ⟨S.bx, S.lv.set t (q.m, q.s)⟩ R) : ExO n0 P (x :: l) a S R :=
 ExO.op (groC_ok (t := t) hr (noClr_ok P)) hw (by rw [evOp_call hv, groC_call hp hq hl]) h
theorem ExO.callG0 {n0 : Cx} {P : Program} {R : List AV → St → Prop} {x : AOper} {l : List AOper} {a : List AV} {S : St} {q : GroR} (hr : GroOk P q) (pre post : List AV) (hels : q.els = []) (hw : wantedA x.guard a = some true) (hv : aop x.op (evd a) S = some (.call q.f (pre ++ .nils :: post))) (hp : (pre.map fadeS).mapM (ren []) = some q.pre) (hq : (post.map fadeS).mapM (ren []) = some q.post) (h : ExO n0 P l (putA a x.dst (.sl q.r (some S.lv.length))) ⟨S.bx, S.lv ++ [(q.m, q.s)]⟩ R) : ExO n0 P (x :: l) a S R := by
 intro E hn ops l0 Q hco hqq act w hA
 obtain ⟨o, l', rfl, hx, hl'⟩ := mapM_cons_inv hco
 obtain ⟨h1, h2, _⟩ := compOper_ok hx
 obtain ⟨G, hI, hR, hg, hk, hd⟩ := hA
 simp only [wpList]
 rw [if_pos (wantedA_ok hx hR hw)]
 refine .inl ?_
 unfold Oper.wp
 obtain ⟨us, hrun, hvs⟩ := step_ok h1 (fun _ => rfl) hR.opd hI hv
 let G0 : Gh := ⟨fun _ => none, fun t' k => if t' = 0 ∧ k = 0 then some .nil else none, G.fz⟩
 have hb0 : ∀ t' k B s' c, G0.tb t' k ≠ some (.blk B s' c) := fun t' k B s' c h => by
  simp only [G0] at h
  split at h <;> cases h
 have hI0 : Inv G0 ⟨[], [(0, q.s)]⟩ w := by
  refine ⟨fun b B cs h => by simp [G0] at h, fun t' k s0 B s' c h1 h2 => absurd h2 (hb0 _ _ _ _ _), hI.fz, fun b B h => by simp [G0] at h, fun t' k v h => ?_, fun b b' B h => by simp [G0] at h, fun t' t'' k k' s0 s0' B s1 s2 c c' h1 h2 h3 h4 => absurd h3 (hb0 _ _ _ _ _), fun b B t' k s0 s1 c h => by simp [G0] at h⟩
  simp only [G0] at h
  split at h
  ·rename_i ht
   obtain ⟨rfl, rfl⟩ := ht
   exact ⟨0, q.s, rfl, Nat.le_refl _⟩
  ·cases h
 have hvs0 := mid_vrs (G2 := G0) (x' := .sl q.els (some 0)) hvs hp hq rfl (fun u hu => by
  cases hu
  rw [hels]
  exact .slt0 0 (by simp [G0]))
 have hle0 : q.n = 0 := by rw [← hr.2.2.2.1, hels]; rfl
 have hcalls := hr.1.calls G0 w us (by rw [hle0]; exact hI0) ⟨.nil, by rw [hle0]; simp [G0]⟩ hvs0
 rw [hrun, hr.1.enter]
 simp only [Oper.upon_enter]
 refine hcalls.mono ?_
 rintro e w' ⟨u, r, Gc, bx, lv, rfl, rfl, hvr, hlv', hI', hg'⟩
 rw [hle0] at hg'
 have hno : ∀ B, ¬ Owned G0 ⟨[], [(0, q.s)]⟩ B := by
  rintro B (⟨b, hb⟩ | ⟨t', k, s0, s', c, _, h2⟩)
  ·simp [G0] at hb
  ·exact hb0 _ _ _ _ _ h2
 have hg2 : Gro (G.sub []) ⟨[], []⟩ w Gc ⟨bx, lv⟩ w' := by
  refine ⟨⟨fun b B h => by simp [Gh.sub] at h, fun t' k v h => by simp [Gh.sub] at h, fun k o v h => hg'.le.fz k o v h⟩, hg'.os, hg'.tape, hg'.output, hg'.size, fun B hB _ => hg'.fr B hB (hno B), fun B hB => ?_, hg'.oth⟩
  rcases hg'.own B hB with h' | h'
  ·exact absurd h' (hno B)
  ·exact .inr h'
 obtain ⟨G2, hle, k1, k2, k3, k4⟩ := own_tok hI hI' hg2 hvr hlv' rfl hr.2.1
 rw [hr.2.2.2.2] at k2 k3 k4
 exact h E hn ops l' Q hl' hqq _ _ ⟨G2, k2, h2 ▸ (hR.mono hle).put x.dst k1, hg.trans k3, hk.trans k4, by cases o.dst <;> exact hd.step k3 k4⟩
end Go.Proofs.Ytodhdfkefkkdnaa
end
section
namespace Go.Proofs.Ytodhdfkefkkdnaa
set_option maxRecDepth 100000

abbrev oo (d : Nat) (x : AOp) : AOper := ⟨some d, x, none⟩
abbrev on (x : AOp) : AOper := ⟨none, x, none⟩
theorem rg {n0 : Cx} {md : Md} {P : Program} {Q : AEx → List AV → St → Prop} {l : List AOper} {a : List AV} {S : St} (k : Nat) (live : List Nat) (a2 : List AV) (S2 : St) (hx : Q .norm a2 S2) (h : (evH [] 0 k l a S).map (fun p => (p.1, keepB 0 live p.2.1, p.2.2)) = some ([], a2, S2) := by kernel_rfl) (hl : l.drop k = [] := by rfl) : Ex n0 md P (.reg l) a S Q :=
 regH k [] live [] a2 S2 h trivial hl hx
theorem rn {n0 : Cx} {P : Program} {R : List AV → St → Prop} {l : List AOper} {a : List AV} {S : St} (k : Nat) (live : List Nat) (a2 : List AV) (S2 : St) (hx : ExO n0 P (l.drop k) a2 S2 R) (h : (evH [] 0 k l a S).map (fun p => (p.1, keepB 0 live p.2.1, p.2.2)) = some ([], a2, S2) := by kernel_rfl) : ExO n0 P l a S R :=
 runH k [] live [] a2 S2 h trivial hx
theorem bE {α β : Type} {o : Option α} {f : α → Option β} {b : β} (h : o.bind f = some b) : ∃ a, o = some a ∧ f a = some b := Option.bind_eq_some_iff.1 h
theorem rt {a' : List AV} {S' : St} {res : List ARes} {n : Nat} {c1 : List (List AV)} {r : AV} (v : AV) (h1 : evRes a' S' res = some v := by kernel_rfl) (h2 : v.names = false := by kernel_rfl) (h3 : fadeT v = r := by kernel_rfl) (h4 : S'.bx.take n = c1 := by kernel_rfl) : (AEx.ret = .norm ∨ AEx.ret = .ret) ∧ ∃ v, evRes a' S' res = some v ∧ v.names = false ∧ fadeT v = r ∧ S'.bx.take n = c1 := ⟨.inr rfl, v, h1, h2, h3, h4⟩
abbrev i6 (x : Int) : AV := .int .i64 x
abbrev Z (t : Nat) : AOpd := .tmp t
theorem sJ {α : Type} {a b : α} (h : some a = some b) : a = b := Option.some.inj h
def F3 : AFn := ⟨1, 238, [.tmp 2], (.seq (.reg [oo 2 (.mov (.con (.bool false)))]) (.seq (.reg [oo 30 (.mov (Z 0)), oo 31 (.call (.con (.fn 4 [] [])) [(Z 30)]), oo 3 (.mov (Z 31))]) (.seq (.reg [oo 32 (.mov (Z 3)), oo 33 (.call (.con (.fn 5 [] [])) [(Z 32)]), oo 4 (.box (.con (.agg [i6 0, i6 0, i6 0, i6 0, i6 0, i6 0, i6 0, i6 0, .nils]))), on (.store 9 (Z 4) (Z 33))]) (.seq (.reg [oo 34 (.mov (Z 3)), oo 35 (.load (some 9) (Z 4)), oo 36 (.call (.con (.fn 6 [] [])) [(Z 34), (Z 35), (.con (i6 4))]), oo 5 (.mov (Z 36))]) (.seq (.reg [oo 37 (.load (some 9) (Z 4)), oo 38 (.build [.nils, .nils] []), oo 39 (.call (.con (.fn 7 [] [])) [(Z 37), (Z 38), (.con (.nils))]), oo 6 (.mov (Z 39))]) (.seq (.reg [oo 40 (.faddr (Z 4) 3), oo 41 (.load none (Z 40)), oo 42 (.faddr (Z 4) 2), oo 43 (.load none (Z 42)), oo 44 (.bin .sub (Z 41) (Z 43)), oo 7 (.mov (Z 44))]) (.seq (.reg [oo 8 (.box (.con (.agg [i6 0, i6 0]))), oo 9 (.box (.con (.agg [i6 0, i6 0]))), oo 10 (.box (.con (.agg [i6 0, i6 0]))), oo 11 (.box (.con (.agg [i6 0, i6 0])))]) (.seq (.reg [oo 12 (.mov (.con (i6 0)))]) (.seq (.reg [oo 45 (.mov (Z 5)), oo 46 (.len false (Z 45)), oo 47 (.mksl 1 false [i6 0] 8 (Z 46) (Z 46)), oo 13 (.mov (Z 47))]) (.seq (.seq (.reg [oo 14 (.mov (.con (i6 0)))]) (.block 0 (.loop (.seq (.seq (.reg [oo 48 (.mov (Z 14)), oo 49 (.mov (Z 6)), oo 50 (.len false (Z 49)), oo 51 (.bin .lss (Z 48) (Z 50))]) (.cond (Z 51) .skip (.exit 0))) (.seq (.block 1 (.seq (.dreg 10 [oo 55 (.load (some 9) (Z 4)), oo 56 (.mov (Z 6)), oo 57 (.mov (Z 14)), oo 58 (.iaddr (Z 56) (Z 57) 2 none), oo 59 (.load (some 2) (Z 58)), oo 60 (.call (.con (.fn 8 [] [])) [(Z 55), (Z 59)]), oo 54 (.mov (Z 60)), oo 61 (.ext (Z 54) 0), oo 62 (.ext (Z 54) 1), oo 15 (.mov (Z 61)), oo 16 (.mov (Z 62))]) (.seq (.dreg 19 [oo 63 (.load (some 2) (Z 8)), oo 64 (.mov (Z 14)), oo 65 (.bin .gtr (Z 64) (.con (i6 0))), oo 66 (.load (some 9) (Z 4)), oo 67 (.mov (Z 6)), oo 68 (.mov (Z 14)), oo 69 (.iaddr (Z 67) (Z 68) 2 none), oo 70 (.load (some 2) (Z 69)), oo 71 (.call (.con (.fn 10 [] [])) [(Z 66), (Z 70)]), oo 72 (.call (.con (.fn 9 [] [])) [(Z 63), (Z 65), (Z 71)]), oo 73 (.load (some 2) (Z 11)), oo 74 (.mov (Z 14)), oo 75 (.bin .gtr (Z 74) (.con (i6 0))), oo 76 (.load (some 9) (Z 4)), oo 77 (.mov (Z 6)), oo 78 (.mov (Z 14)), oo 79 (.iaddr (Z 77) (Z 78) 2 none), oo 80 (.load (some 2) (Z 79)), oo 81 (.call (.con (.fn 11 [] [])) [(Z 76), (Z 80)]), oo 82 (.call (.con (.fn 9 [] [])) [(Z 73), (Z 75), (Z 81)]), on (.store 2 (Z 8) (Z 72)), on (.store 2 (Z 11) (Z 82))]) (.seq (.dreg 9 [oo 83 (.load (some 2) (Z 9)), oo 84 (.mov (Z 14)), oo 85 (.bin .gtr (Z 84) (.con (i6 0))), oo 86 (.mov (Z 15)), oo 87 (.call (.con (.fn 9 [] [])) [(Z 83), (Z 85), (Z 86)]), oo 88 (.load (some 2) (Z 10)), oo 89 (.mov (Z 14)), oo 90 (.bin .gtr (Z 89) (.con (i6 0))), oo 91 (.mov (Z 16)), oo 92 (.call (.con (.fn 9 [] [])) [(Z 88), (Z 90), (Z 91)]), on (.store 2 (Z 9) (Z 87)), on (.store 2 (Z 10) (Z 92))]) (.seq (.seq (.reg [oo 93 (.mov (Z 15)), oo 94 (.bin .geq (Z 93) (.con (i6 0))), oo 95 (.mov (Z 94)), ⟨some 96, .mov (Z 16), some (95, true)⟩, ⟨some 97, .bin .geq (Z 96) (.con (i6 0)), some (95, true)⟩, oo 98 (.pick (Z 95) (Z 97) (.con (.bool false)))]) (.cond (Z 98) (.reg [oo 99 (.mov (Z 12)), oo 100 (.bin .add (Z 99) (.con (i6 1))), oo 12 (.mov (Z 100))]) .skip)) (.seq (.reg [oo 17 (.mov (.con (i6 0)))]) (.block 2 (.loop (.seq (.seq (.reg [oo 101 (.mov (Z 17)), oo 102 (.mov (Z 5)), oo 103 (.len false (Z 102)), oo 104 (.bin .lss (Z 101) (Z 103))]) (.cond (Z 104) .skip (.exit 2))) (.seq (.block 3 (.seq (.dreg 9 [oo 107 (.load (some 9) (Z 4)), oo 108 (.mov (Z 5)), oo 109 (.mov (Z 17)), oo 110 (.iaddr (Z 108) (Z 109) 3 none), oo 111 (.load (some 3) (Z 110)), oo 112 (.mov (Z 6)), oo 113 (.mov (Z 14)), oo 114 (.iaddr (Z 112) (Z 113) 2 none), oo 115 (.load (some 2) (Z 114)), oo 116 (.call (.con (.fn 12 [] [])) [(Z 107), (Z 111), (Z 115)])]) (.cond (Z 116) (.reg [oo 117 (.mov (Z 13)), oo 118 (.mov (Z 17)), oo 119 (.iaddr (Z 117) (Z 118) 1 none), oo 120 (.load none (Z 119)), oo 121 (.bin .add (Z 120) (.con (i6 1))), oo 122 (.iaddr (Z 117) (Z 118) 1 none), on (.store 1 (Z 122) (Z 121))]) .skip))) (.reg [oo 105 (.mov (Z 17)), oo 106 (.bin .add (Z 105) (.con (i6 1))), oo 17 (.mov (Z 106))]))))))))))) (.reg [oo 52 (.mov (Z 14)), oo 53 (.bin .add (Z 52) (.con (i6 1))), oo 14 (.mov (Z 53))])))))) (.seq (.reg [oo 124 (.load (some 9) (Z 4)), oo 125 (.call (.con (.fn 13 [] [])) [(Z 124)]), oo 123 (.mov (Z 125)), oo 126 (.ext (Z 123) 0), oo 127 (.ext (Z 123) 1), oo 18 (.box (.con (.agg [i6 0, i6 0]))), on (.store 2 (Z 18) (Z 126)), oo 19 (.mov (Z 127))]) (.seq (.reg [oo 129 (.load (some 9) (Z 4)), oo 130 (.call (.con (.fn 14 [] [])) [(Z 129)]), oo 128 (.mov (Z 130)), oo 131 (.ext (Z 128) 0), oo 132 (.ext (Z 128) 1), oo 133 (.ext (Z 128) 2), oo 20 (.box (.con (.agg [i6 0, i6 0]))), oo 21 (.box (.con (.agg [i6 0, i6 0]))), on (.store 2 (Z 20) (Z 131)), on (.store 2 (Z 21) (Z 132)), oo 22 (.mov (Z 133))]) (.seq (.reg [oo 135 (.load (some 9) (Z 4)), oo 136 (.call (.con (.fn 15 [] [])) [(Z 135)]), oo 134 (.mov (Z 136)), oo 137 (.ext (Z 134) 0), oo 138 (.ext (Z 134) 1), oo 23 (.box (.con (.agg [i6 0, i6 0]))), on (.store 2 (Z 23) (Z 137)), oo 24 (.mov (Z 138))]) (.seq (.reg [oo 140 (.load (some 9) (Z 4)), oo 141 (.call (.con (.fn 16 [] [])) [(Z 140)]), oo 139 (.mov (Z 141)), oo 142 (.ext (Z 139) 0), oo 143 (.ext (Z 139) 1), oo 25 (.mov (Z 142)), oo 26 (.mov (Z 143))]) (.seq (.reg [oo 145 (.load (some 9) (Z 4)), oo 146 (.mov (Z 5)), oo 147 (.call (.con (.fn 17 [] [])) [(Z 145), (Z 146)]), oo 144 (.mov (Z 147)), oo 148 (.ext (Z 144) 0), oo 149 (.ext (Z 144) 1), oo 27 (.mov (Z 148)), oo 28 (.mov (Z 149))]) (.seq (.seq (.reg [oo 150 (.mov (Z 19)), oo 151 (.bin .neq (Z 150) (.con (i6 0))), oo 152 (.mov (Z 151)), ⟨some 153, .mov (Z 22), some (152, false)⟩, ⟨some 154, .bin .neq (Z 153) (.con (i6 0)), some (152, false)⟩, oo 155 (.pick (Z 152) (.con (.bool true)) (Z 154)), oo 156 (.mov (Z 155)), ⟨some 157, .mov (Z 24), some (156, false)⟩, ⟨some 158, .bin .neq (Z 157) (.con (i6 0)), some (156, false)⟩, oo 159 (.pick (Z 156) (.con (.bool true)) (Z 158)), oo 160 (.mov (Z 159)), ⟨some 161, .mov (Z 26), some (160, false)⟩, ⟨some 162, .bin .neq (Z 161) (.con (i6 0)), some (160, false)⟩, oo 163 (.pick (Z 160) (.con (.bool true)) (Z 162)), oo 164 (.mov (Z 163)), ⟨some 165, .mov (Z 28), some (164, false)⟩, ⟨some 166, .bin .neq (Z 165) (.con (i6 0)), some (164, false)⟩, oo 167 (.pick (Z 164) (.con (.bool true)) (Z 166)), oo 168 (.mov (Z 167)), ⟨some 169, .load (some 2) (Z 18), some (168, false)⟩, ⟨some 170, .load (some 2) (Z 8), some (168, false)⟩, ⟨some 171, .eqs true (.cons 0 none (.sc 1) (.cons 1 none (.sc 1) .nil)) (Z 169) (Z 170), some (168, false)⟩, oo 172 (.pick (Z 168) (.con (.bool true)) (Z 171)), oo 173 (.mov (Z 172)), ⟨some 174, .load (some 2) (Z 23), some (173, false)⟩, ⟨some 175, .load (some 2) (Z 11), some (173, false)⟩, ⟨some 176, .eqs true (.cons 0 none (.sc 1) (.cons 1 none (.sc 1) .nil)) (Z 174) (Z 175), some (173, false)⟩, oo 177 (.pick (Z 173) (.con (.bool true)) (Z 176)), oo 178 (.mov (Z 177)), ⟨some 179, .mov (Z 27), some (178, false)⟩, ⟨some 180, .len false (Z 179), some (178, false)⟩, ⟨some 181, .mov (Z 5), some (178, false)⟩, ⟨some 182, .len false (Z 181), some (178, false)⟩, ⟨some 183, .bin .neq (Z 180) (Z 182), some (178, false)⟩, oo 184 (.pick (Z 178) (.con (.bool true)) (Z 183)), oo 185 (.mov (Z 184)), ⟨some 186, .mov (Z 25), some (185, false)⟩, ⟨some 187, .mov (Z 12), some (185, false)⟩, ⟨some 188, .mov (Z 6), some (185, false)⟩, ⟨some 189, .len false (Z 188), some (185, false)⟩, ⟨some 190, .call (.con (.fn 18 [] [])) [(Z 187), (Z 189)], some (185, false)⟩, ⟨some 191, .bin .neq (Z 186) (Z 190), some (185, false)⟩, oo 192 (.pick (Z 185) (.con (.bool true)) (Z 191))]) (.cond (Z 192) (.seq (.reg [oo 2 (.mov (.con (.bool false)))]) .ret) .skip)) (.seq (.seq (.reg [oo 29 (.mov (.con (i6 0)))]) (.block 4 (.loop (.seq (.seq (.reg [oo 193 (.mov (Z 29)), oo 194 (.mov (Z 27)), oo 195 (.len false (Z 194)), oo 196 (.bin .lss (Z 193) (Z 195))]) (.cond (Z 196) .skip (.exit 4))) (.seq (.block 5 (.seq (.dreg 11 [oo 199 (.mov (Z 27)), oo 200 (.mov (Z 29)), oo 201 (.iaddr (Z 199) (Z 200) 1 none), oo 202 (.load none (Z 201)), oo 203 (.mov (Z 13)), oo 204 (.mov (Z 29)), oo 205 (.iaddr (Z 203) (Z 204) 1 none), oo 206 (.load none (Z 205)), oo 207 (.mov (Z 6)), oo 208 (.len false (Z 207)), oo 209 (.call (.con (.fn 18 [] [])) [(Z 206), (Z 208)]), oo 210 (.bin .neq (Z 202) (Z 209))]) (.cond (Z 210) (.seq (.reg [oo 2 (.mov (.con (.bool false)))]) .ret) .skip))) (.reg [oo 197 (.mov (Z 29)), oo 198 (.bin .add (Z 197) (.con (i6 1))), oo 29 (.mov (Z 198))])))))) (.seq (.dreg 22 [oo 211 (.load (some 2) (Z 20)), oo 212 (.faddr (Z 9) 0), oo 213 (.load none (Z 212)), oo 214 (.mov (Z 7)), oo 215 (.call (.con (.fn 20 [] [])) [(Z 213), (Z 214)]), oo 216 (.faddr (Z 9) 1), oo 217 (.load none (Z 216)), oo 218 (.mov (Z 7)), oo 219 (.call (.con (.fn 21 [] [])) [(Z 217), (Z 218)]), oo 220 (.call (.con (.fn 19 [] [])) [(Z 215), (Z 219)]), oo 221 (.eqs false (.cons 0 none (.sc 1) (.cons 1 none (.sc 1) .nil)) (Z 211) (Z 220)), oo 222 (.mov (Z 221)), ⟨some 223, .load (some 2) (Z 21), some (222, true)⟩, ⟨some 224, .faddr (Z 10) 0, some (222, true)⟩, ⟨some 225, .load none (Z 224), some (222, true)⟩, ⟨some 226, .mov (Z 7), some (222, true)⟩, ⟨some 227, .call (.con (.fn 20 [] [])) [(Z 225), (Z 226)], some (222, true)⟩, ⟨some 228, .faddr (Z 10) 1, some (222, true)⟩, ⟨some 229, .load none (Z 228), some (222, true)⟩, ⟨some 230, .mov (Z 7), some (222, true)⟩, ⟨some 231, .call (.con (.fn 21 [] [])) [(Z 229), (Z 230)], some (222, true)⟩, ⟨some 232, .call (.con (.fn 19 [] [])) [(Z 227), (Z 231)], some (222, true)⟩, ⟨some 233, .eqs false (.cons 0 none (.sc 1) (.cons 1 none (.sc 1) .nil)) (Z 223) (Z 232), some (222, true)⟩, oo 234 (.pick (Z 222) (Z 233) (.con (.bool false))), oo 235 (.mov (Z 234)), ⟨some 236, .call (.con (.fn 22 [] [])) [], some (235, true)⟩, oo 237 (.pick (Z 235) (Z 236) (.con (.bool false))), oo 2 (.mov (Z 237))]) .ret))))))))))))))))))⟩
theorem comp3 : compFn Try.prog 3 = some F3 := by kernel_rfl
def F4 : AFn := ⟨1, 29, [.tmp 2], (.seq (.reg [oo 2 (.mov (.con (.nilp)))]) (.seq (.reg [oo 5 (.build [.int .u64 0] [(0, 1, (.con (.int .u64 2685821657736338717)))]), oo 6 (.box (Z 5)), oo 3 (.mov (Z 6))]) (.seq (.seq (.reg [oo 4 (.mov (.con (i6 0)))]) (.block 0 (.loop (.seq (.seq (.reg [oo 7 (.mov (Z 4)), oo 8 (.mov (Z 0)), oo 9 (.len false (Z 8)), oo 10 (.bin .lss (Z 7) (Z 9))]) (.cond (Z 10) .skip (.exit 0))) (.seq (.block 1 (.seq (.dreg 11 [oo 13 (.mov (Z 3)), oo 14 (.mov (Z 3)), oo 15 (.nilck (Z 14)), oo 16 (.faddr (Z 15) 0), oo 17 (.load none (Z 16)), oo 18 (.mov (Z 0)), oo 19 (.mov (Z 4)), oo 20 (.iaddr (Z 18) (Z 19) 1 none), oo 21 (.load none (Z 20)), oo 22 (.conv .u64 (Z 21)), oo 23 (.bin .xor (Z 17) (Z 22)), oo 24 (.nilck (Z 13)), oo 25 (.faddr (Z 24) 0), on (.store 1 (Z 25) (Z 23))]) (.reg [oo 26 (.mov (Z 3)), oo 27 (.call (.con (.fn 23 [] [])) [(Z 26)])]))) (.reg [oo 11 (.mov (Z 4)), oo 12 (.bin .add (Z 11) (.con (i6 1))), oo 4 (.mov (Z 12))])))))) (.seq (.reg [oo 28 (.mov (Z 3)), oo 2 (.mov (Z 28))]) .ret))))⟩
theorem comp4 : compFn Try.prog 4 = some F4 := by kernel_rfl
def F5 : AFn := ⟨1, 49, [.cell 2 (some 9)], (.seq (.reg [oo 2 (.box (.con (.agg [i6 0, i6 0, i6 0, i6 0, i6 0, i6 0, i6 0, i6 0, .nils])))]) (.seq (.reg [oo 7 (.mov (Z 0)), oo 8 (.call (.con (.fn 24 [] [])) [(Z 7), (.con (i6 3))]), oo 3 (.box (.con (.agg [i6 0, i6 0, i6 0, i6 0, i6 0, i6 0, i6 0, i6 0, .nils]))), on (.store 9 (Z 3) (Z 8))]) (.seq (.reg [oo 9 (.mov (Z 0)), oo 10 (.call (.con (.fn 25 [] [])) [(Z 9), (.con (i6 30))]), oo 11 (.faddr (Z 3) 5), on (.store 1 (Z 11) (Z 10))]) (.seq (.seq (.reg [oo 4 (.mov (.con (i6 0)))]) (.block 0 (.loop (.seq (.seq (.reg [oo 12 (.mov (Z 4)), oo 13 (.faddr (Z 3) 8), oo 14 (.load none (Z 13)), oo 15 (.len false (Z 14)), oo 16 (.bin .lss (Z 12) (Z 15))]) (.cond (Z 16) .skip (.exit 0))) (.seq (.block 1 (.seq (.reg [oo 19 (.mov (Z 0)), oo 20 (.call (.con (.fn 25 [] [])) [(Z 19), (.con (i6 20))]), oo 21 (.mov (Z 0)), oo 22 (.call (.con (.fn 25 [] [])) [(Z 21), (.con (i6 40))]), oo 5 (.mov (Z 20)), oo 6 (.mov (Z 22))]) (.dreg 21 [oo 23 (.faddr (Z 3) 8), oo 24 (.load none (Z 23)), oo 25 (.mov (Z 4)), oo 26 (.faddr (Z 3) 8), oo 27 (.load none (Z 26)), oo 28 (.mov (Z 4)), oo 29 (.mov (Z 5)), oo 30 (.mov (Z 5)), oo 31 (.mov (Z 0)), oo 32 (.call (.con (.fn 25 [] [])) [(Z 31), (.con (i6 3))]), oo 33 (.bin .add (Z 30) (Z 32)), oo 34 (.build [i6 0, i6 0] [(0, 1, (Z 29)), (1, 1, (Z 33))]), oo 35 (.mov (Z 6)), oo 36 (.mov (Z 6)), oo 37 (.mov (Z 0)), oo 38 (.call (.con (.fn 25 [] [])) [(Z 37), (.con (i6 2))]), oo 39 (.bin .add (Z 36) (Z 38)), oo 40 (.build [i6 0, i6 0] [(0, 1, (Z 35)), (1, 1, (Z 39))]), oo 41 (.iaddr (Z 24) (Z 25) 7 none), oo 42 (.faddr (Z 41) 1), on (.store 2 (Z 42) (Z 34)), oo 43 (.iaddr (Z 27) (Z 28) 7 none), oo 44 (.faddr (Z 43) 3), on (.store 2 (Z 44) (Z 40))]))) (.reg [oo 17 (.mov (Z 4)), oo 18 (.bin .add (Z 17) (.con (i6 1))), oo 4 (.mov (Z 18))])))))) (.seq (.reg [oo 45 (.mov (Z 0)), oo 46 (.call (.con (.fn 25 [] [])) [(Z 45), (.con (i6 40))]), oo 47 (.faddr (Z 3) 7), on (.store 1 (Z 47) (Z 46))]) (.seq (.reg [oo 48 (.load (some 9) (Z 3)), on (.store 9 (Z 2) (Z 48))]) .ret))))))⟩
theorem comp5 : compFn Try.prog 5 = some F5 := by kernel_rfl
def F6 : AFn := ⟨3, 103, [.tmp 6], (.seq (.reg [oo 4 (.box (Z 1)), oo 6 (.mov (.con (.nils)))]) (.seq (.reg [oo 18 (.load (some 9) (Z 4)), oo 19 (.call (.con (.fn 26 [] [])) [(Z 18)]), oo 17 (.mov (Z 19)), oo 20 (.ext (Z 17) 0), oo 21 (.ext (Z 17) 1), oo 7 (.box (.con (.agg [i6 0, i6 0]))), on (.store 2 (Z 7) (Z 20)), oo 8 (.mov (Z 21))]) (.seq (.reg [oo 23 (.load (some 9) (Z 4)), oo 24 (.call (.con (.fn 27 [] [])) [(Z 23)]), oo 22 (.mov (Z 24)), oo 25 (.ext (Z 22) 0), oo 26 (.ext (Z 22) 1), oo 27 (.ext (Z 22) 2), oo 9 (.box (.con (.agg [i6 0, i6 0]))), oo 10 (.box (.con (.agg [i6 0, i6 0]))), on (.store 2 (Z 9) (Z 25)), on (.store 2 (Z 10) (Z 26)), oo 11 (.mov (Z 27))]) (.seq (.reg [oo 29 (.load (some 9) (Z 4)), oo 30 (.call (.con (.fn 28 [] [])) [(Z 29)]), oo 28 (.mov (Z 30)), oo 31 (.ext (Z 28) 0), oo 32 (.ext (Z 28) 1), oo 12 (.box (.con (.agg [i6 0, i6 0]))), on (.store 2 (Z 12) (Z 31)), oo 13 (.mov (Z 32))]) (.seq (.reg [oo 14 (.mov (.con (.nils)))]) (.seq (.seq (.reg [oo 33 (.mov (Z 0)), oo 34 (.mov (Z 2)), oo 35 (.bin .add (Z 34) (.con (i6 1))), oo 36 (.call (.con (.fn 25 [] [])) [(Z 33), (Z 35)]), oo 15 (.mov (Z 36))]) (.block 0 (.loop (.seq (.seq (.reg [oo 37 (.mov (Z 15)), oo 38 (.bin .gtr (Z 37) (.con (i6 0)))]) (.cond (Z 38) .skip (.exit 0))) (.seq (.block 1 (.seq (.reg [oo 41 (.mov (Z 0)), oo 42 (.call (.con (.fn 29 [] [])) [(Z 41), (.con (i6 1)), (.con (i6 3))]), oo 43 (.build [i6 0, i6 0, i6 0] [(0, 1, (Z 42))]), oo 16 (.box (.con (.agg [i6 0, i6 0, i6 0]))), on (.store 3 (Z 16) (Z 43))]) (.seq (.seq (.reg [oo 44 (.faddr (Z 16) 0), oo 45 (.load none (Z 44))]) (.block 2 (.seq (.reg [oo 70 (.bin .eql (Z 45) (.con (i6 1))), oo 69 (.mov (Z 70))]) (.cond (Z 69) (.seq (.reg [oo 71 (.mov (Z 0)), oo 72 (.mov (Z 0)), oo 73 (.call (.con (.fn 25 [] [])) [(Z 72), (.con (i6 2000))]), oo 74 (.bsl 1 false [i6 0] 2 [(0, (.con (i6 0))), (1, (Z 73))]), oo 75 (.call (.con (.fn 30 [] [])) [(Z 71), (Z 74)]), oo 76 (.faddr (Z 16) 1), on (.store 1 (Z 76) (Z 75))]) (.dreg 7 [oo 77 (.faddr (Z 16) 1), oo 78 (.load none (Z 77)), oo 79 (.mov (Z 0)), oo 80 (.mov (Z 0)), oo 81 (.bsl 1 false [i6 0] 2 [(0, (.con (i6 300))), (1, (.con (i6 2500)))]), oo 82 (.call (.con (.fn 30 [] [])) [(Z 80), (Z 81)]), oo 83 (.call (.con (.fn 29 [] [])) [(Z 79), (.con (i6 1)), (Z 82)]), oo 84 (.bin .add (Z 78) (Z 83)), oo 85 (.faddr (Z 16) 2), on (.store 1 (Z 85) (Z 84))])) (.seq (.reg [oo 87 (.bin .eql (Z 45) (.con (i6 2))), oo 86 (.mov (Z 87))]) (.cond (Z 86) (.reg [oo 88 (.mov (Z 0)), oo 89 (.load (some 2) (Z 12)), oo 90 (.call (.con (.fn 31 [] [])) [(Z 88), (Z 89)]), oo 91 (.mov (Z 0)), oo 92 (.bsl 1 false [i6 0] 4 [(0, (.con (i6 (-1)))), (1, (.con (i6 0))), (2, (.con (i6 1))), (3, (.con (i6 50)))]), oo 93 (.call (.con (.fn 30 [] [])) [(Z 91), (Z 92)]), oo 94 (.bin .add (Z 90) (Z 93)), oo 95 (.mx (.con (i6 0)) (Z 94)), oo 96 (.mn (.con (i6 2000)) (Z 95)), oo 97 (.faddr (Z 16) 1), on (.store 1 (Z 97) (Z 96))]) (.dreg 23 [oo 46 (.mov (Z 0)), oo 47 (.load (some 2) (Z 7)), oo 48 (.call (.con (.fn 31 [] [])) [(Z 46), (Z 47)]), oo 49 (.mov (Z 0)), oo 50 (.bsl 1 false [i6 0] 4 [(0, (.con (i6 (-1)))), (1, (.con (i6 0))), (2, (.con (i6 1))), (3, (.con (i6 300)))]), oo 51 (.call (.con (.fn 30 [] [])) [(Z 49), (Z 50)]), oo 52 (.bin .add (Z 48) (Z 51)), oo 53 (.mx (.con (i6 0)) (Z 52)), oo 54 (.mov (Z 0)), oo 55 (.faddr (Z 7) 1), oo 56 (.load none (Z 55)), oo 57 (.mov (Z 0)), oo 58 (.load (some 2) (Z 10)), oo 59 (.call (.con (.fn 31 [] [])) [(Z 57), (Z 58)]), oo 60 (.mov (Z 0)), oo 61 (.bsl 1 false [i6 0] 3 [(0, (.con (i6 (-1)))), (1, (.con (i6 0))), (2, (.con (i6 1)))]), oo 62 (.call (.con (.fn 30 [] [])) [(Z 60), (Z 61)]), oo 63 (.bin .add (Z 59) (Z 62)), oo 64 (.bsl 1 false [i6 0] 2 [(0, (Z 56)), (1, (Z 63))]), oo 65 (.call (.con (.fn 30 [] [])) [(Z 54), (Z 64)]), oo 66 (.mx (.con (i6 0)) (Z 65)), oo 67 (.faddr (Z 16) 1), on (.store 1 (Z 67) (Z 53)), oo 68 (.faddr (Z 16) 2), on (.store 1 (Z 68) (Z 66))]))))))) (.reg [oo 98 (.mov (Z 14)), oo 99 (.load (some 3) (Z 16)), oo 100 (.bsl 3 true [i6 0, i6 0, i6 0] 1 [(0, (Z 99))]), oo 101 (.app (Z 98) (Z 100) 3 24 [i6 0, i6 0, i6 0]), oo 14 (.mov (Z 101))])))) (.reg [oo 39 (.mov (Z 15)), oo 40 (.bin .sub (Z 39) (.con (i6 1))), oo 15 (.mov (Z 40))])))))) (.seq (.reg [oo 102 (.mov (Z 14)), oo 6 (.mov (Z 102))]) .ret)))))))⟩
theorem comp6 : compFn Try.prog 6 = some F6 := by kernel_rfl
def F7 : AFn := ⟨3, 65, [.tmp 6], (.seq (.reg [oo 3 (.box (Z 0)), oo 4 (.box (Z 1)), oo 6 (.mov (.con (.nils)))]) (.seq (.reg [oo 11 (.faddr (Z 4) 0), oo 12 (.load none (Z 11)), oo 13 (.len false (Z 12)), oo 7 (.mov (Z 13))]) (.seq (.seq (.reg [oo 14 (.mov (Z 7)), oo 15 (.faddr (Z 3) 8), oo 16 (.load none (Z 15)), oo 17 (.len false (Z 16)), oo 18 (.bin .eql (Z 14) (Z 17))]) (.cond (Z 18) (.seq (.reg [oo 19 (.mov (Z 2)), oo 20 (.load (some 2) (Z 4)), oo 21 (.bsl 2 true [.nils, .nils] 1 [(0, (Z 20))]), oo 22 (.app (Z 19) (Z 21) 2 48 [.nils, .nils]), oo 6 (.mov (Z 22))]) .ret) .skip)) (.seq (.reg [oo 23 (.faddr (Z 3) 8), oo 24 (.load none (Z 23)), oo 25 (.mov (Z 7)), oo 26 (.iaddr (Z 24) (Z 25) 7 none), oo 27 (.load (some 7) (Z 26)), oo 8 (.box (.con (.agg [i6 0, i6 0, i6 0, i6 0, i6 0, i6 0, i6 0]))), on (.store 7 (Z 8) (Z 27))]) (.seq (.seq (.reg [oo 28 (.faddr (Z 8) 1), oo 29 (.faddr (Z 28) 0), oo 30 (.load none (Z 29)), oo 9 (.mov (Z 30))]) (.block 0 (.loop (.seq (.seq (.reg [oo 31 (.mov (Z 9)), oo 32 (.faddr (Z 8) 1), oo 33 (.faddr (Z 32) 1), oo 34 (.load none (Z 33)), oo 35 (.bin .leq (Z 31) (Z 34))]) (.cond (Z 35) .skip (.exit 0))) (.seq (.block 1 (.seq (.reg [oo 38 (.faddr (Z 8) 3), oo 39 (.faddr (Z 38) 0), oo 40 (.load none (Z 39)), oo 10 (.mov (Z 40))]) (.block 2 (.loop (.seq (.seq (.reg [oo 41 (.mov (Z 10)), oo 42 (.faddr (Z 8) 3), oo 43 (.faddr (Z 42) 1), oo 44 (.load none (Z 43)), oo 45 (.bin .leq (Z 41) (Z 44))]) (.cond (Z 45) .skip (.exit 2))) (.seq (.block 3 (.dreg 15 [oo 48 (.load (some 9) (Z 3)), oo 49 (.faddr (Z 4) 0), oo 50 (.load none (Z 49)), oo 51 (.call (.con (.fn 32 [] [])) [(Z 50)]), oo 52 (.mov (Z 9)), oo 53 (.bsl 1 false [i6 0] 1 [(0, (Z 52))]), oo 54 (.app (Z 51) (Z 53) 1 8 [i6 0]), oo 55 (.faddr (Z 4) 1), oo 56 (.load none (Z 55)), oo 57 (.call (.con (.fn 32 [] [])) [(Z 56)]), oo 58 (.mov (Z 10)), oo 59 (.bsl 1 false [i6 0] 1 [(0, (Z 58))]), oo 60 (.app (Z 57) (Z 59) 1 8 [i6 0]), oo 61 (.build [.nils, .nils] [(0, 1, (Z 54)), (1, 1, (Z 60))]), oo 62 (.mov (Z 2)), oo 63 (.call (.con (.fn 7 [] [])) [(Z 48), (Z 61), (Z 62)]), oo 2 (.mov (Z 63))])) (.reg [oo 46 (.mov (Z 10)), oo 47 (.bin .add (Z 46) (.con (i6 1))), oo 10 (.mov (Z 47))]))))))) (.reg [oo 36 (.mov (Z 9)), oo 37 (.bin .add (Z 36) (.con (i6 1))), oo 9 (.mov (Z 37))])))))) (.seq (.reg [oo 64 (.mov (Z 2)), oo 6 (.mov (Z 64))]) .ret))))))⟩
theorem comp7 : compFn Try.prog 7 = some F7 := by kernel_rfl
def F8 : AFn := ⟨2, 65, [.tmp 4, .tmp 5], (.seq (.reg [oo 2 (.box (Z 0)), oo 3 (.box (Z 1)), oo 4 (.mov (.con (i6 0))), oo 5 (.mov (.con (i6 0)))]) (.seq (.dreg 17 [oo 10 (.faddr (Z 2) 5), oo 11 (.load none (Z 10)), oo 12 (.faddr (Z 2) 3), oo 13 (.load none (Z 12)), oo 14 (.faddr (Z 2) 6), oo 15 (.load none (Z 14)), oo 16 (.bin .sub (Z 13) (Z 15)), oo 17 (.bin .mul (Z 11) (Z 16)), oo 18 (.faddr (Z 2) 5), oo 19 (.load none (Z 18)), oo 20 (.faddr (Z 2) 6), oo 21 (.load none (Z 20)), oo 22 (.faddr (Z 2) 2), oo 23 (.load none (Z 22)), oo 24 (.bin .sub (Z 21) (Z 23)), oo 25 (.bin .mul (Z 19) (Z 24)), oo 6 (.mov (Z 17)), oo 7 (.mov (Z 25))]) (.seq (.seq (.reg [oo 8 (.mov (.con (i6 0)))]) (.block 0 (.loop (.seq (.seq (.reg [oo 26 (.mov (Z 8)), oo 27 (.faddr (Z 3) 0), oo 28 (.load none (Z 27)), oo 29 (.len false (Z 28)), oo 30 (.bin .lss (Z 26) (Z 29))]) (.cond (Z 30) .skip (.exit 0))) (.seq (.block 1 (.seq (.reg [oo 33 (.faddr (Z 2) 8), oo 34 (.load none (Z 33)), oo 35 (.mov (Z 8)), oo 36 (.iaddr (Z 34) (Z 35) 7 none), oo 37 (.faddr (Z 36) 0), oo 38 (.load none (Z 37)), oo 9 (.mov (Z 38))]) (.dreg 25 [oo 39 (.mov (Z 6)), oo 40 (.faddr (Z 3) 0), oo 41 (.load none (Z 40)), oo 42 (.mov (Z 8)), oo 43 (.iaddr (Z 41) (Z 42) 1 none), oo 44 (.load none (Z 43)), oo 45 (.faddr (Z 2) 3), oo 46 (.load none (Z 45)), oo 47 (.mov (Z 9)), oo 48 (.bin .sub (Z 46) (Z 47)), oo 49 (.bin .mul (Z 44) (Z 48)), oo 50 (.bin .add (Z 39) (Z 49)), oo 51 (.mov (Z 7)), oo 52 (.faddr (Z 3) 0), oo 53 (.load none (Z 52)), oo 54 (.mov (Z 8)), oo 55 (.iaddr (Z 53) (Z 54) 1 none), oo 56 (.load none (Z 55)), oo 57 (.mov (Z 9)), oo 58 (.faddr (Z 2) 2), oo 59 (.load none (Z 58)), oo 60 (.bin .sub (Z 57) (Z 59)), oo 61 (.bin .mul (Z 56) (Z 60)), oo 62 (.bin .add (Z 51) (Z 61)), oo 6 (.mov (Z 50)), oo 7 (.mov (Z 62))]))) (.reg [oo 31 (.mov (Z 8)), oo 32 (.bin .add (Z 31) (.con (i6 1))), oo 8 (.mov (Z 32))])))))) (.seq (.reg [oo 63 (.mov (Z 6)), oo 64 (.mov (Z 7)), oo 4 (.mov (Z 63)), oo 5 (.mov (Z 64))]) .ret))))⟩
theorem comp8 : compFn Try.prog 8 = some F8 := by kernel_rfl
def F9 : AFn := ⟨3, 20, [.cell 6 (some 2)], (.seq (.reg [oo 3 (.box (Z 0)), oo 6 (.box (.con (.agg [i6 0, i6 0])))]) (.seq (.seq (.reg [oo 7 (.mov (Z 1)), oo 8 (.un .not (Z 7))]) (.cond (Z 8) (.seq (.reg [oo 9 (.mov (Z 2)), oo 10 (.call (.con (.fn 33 [] [])) [(Z 9)]), on (.store 2 (Z 6) (Z 10))]) .ret) .skip)) (.seq (.reg [oo 11 (.faddr (Z 3) 0), oo 12 (.load none (Z 11)), oo 13 (.mov (Z 2)), oo 14 (.mn (Z 12) (Z 13)), oo 15 (.faddr (Z 3) 1), oo 16 (.load none (Z 15)), oo 17 (.mov (Z 2)), oo 18 (.mx (Z 16) (Z 17)), oo 19 (.call (.con (.fn 19 [] [])) [(Z 14), (Z 18)]), on (.store 2 (Z 6) (Z 19))]) .ret)))⟩
theorem comp9 : compFn Try.prog 9 = some F9 := by kernel_rfl
def F10 : AFn := ⟨2, 24, [.tmp 4], (.seq (.reg [oo 2 (.box (Z 0)), oo 3 (.box (Z 1)), oo 4 (.mov (.con (i6 0)))]) (.seq (.reg [oo 7 (.faddr (Z 2) 5), oo 8 (.load none (Z 7)), oo 5 (.mov (Z 8))]) (.seq (.seq (.reg [oo 6 (.mov (.con (i6 0)))]) (.block 0 (.loop (.seq (.seq (.reg [oo 9 (.mov (Z 6)), oo 10 (.faddr (Z 3) 0), oo 11 (.load none (Z 10)), oo 12 (.len false (Z 11)), oo 13 (.bin .lss (Z 9) (Z 12))]) (.cond (Z 13) .skip (.exit 0))) (.seq (.block 1 (.reg [oo 16 (.mov (Z 5)), oo 17 (.faddr (Z 3) 0), oo 18 (.load none (Z 17)), oo 19 (.mov (Z 6)), oo 20 (.iaddr (Z 18) (Z 19) 1 none), oo 21 (.load none (Z 20)), oo 22 (.bin .add (Z 16) (Z 21)), oo 5 (.mov (Z 22))])) (.reg [oo 14 (.mov (Z 6)), oo 15 (.bin .add (Z 14) (.con (i6 1))), oo 6 (.mov (Z 15))])))))) (.seq (.reg [oo 23 (.mov (Z 5)), oo 4 (.mov (Z 23))]) .ret))))⟩
theorem comp10 : compFn Try.prog 10 = some F10 := by kernel_rfl
def F11 : AFn := ⟨2, 24, [.tmp 4], (.seq (.reg [oo 2 (.box (Z 0)), oo 3 (.box (Z 1)), oo 4 (.mov (.con (i6 0)))]) (.seq (.reg [oo 7 (.faddr (Z 2) 7), oo 8 (.load none (Z 7)), oo 5 (.mov (Z 8))]) (.seq (.seq (.reg [oo 6 (.mov (.con (i6 0)))]) (.block 0 (.loop (.seq (.seq (.reg [oo 9 (.mov (Z 6)), oo 10 (.faddr (Z 3) 1), oo 11 (.load none (Z 10)), oo 12 (.len false (Z 11)), oo 13 (.bin .lss (Z 9) (Z 12))]) (.cond (Z 13) .skip (.exit 0))) (.seq (.block 1 (.reg [oo 16 (.mov (Z 5)), oo 17 (.faddr (Z 3) 1), oo 18 (.load none (Z 17)), oo 19 (.mov (Z 6)), oo 20 (.iaddr (Z 18) (Z 19) 1 none), oo 21 (.load none (Z 20)), oo 22 (.mx (Z 16) (Z 21)), oo 5 (.mov (Z 22))])) (.reg [oo 14 (.mov (Z 6)), oo 15 (.bin .add (Z 14) (.con (i6 1))), oo 6 (.mov (Z 15))])))))) (.seq (.reg [oo 23 (.mov (Z 5)), oo 4 (.mov (Z 23))]) .ret))))⟩
theorem comp11 : compFn Try.prog 11 = some F11 := by kernel_rfl
def F12 : AFn := ⟨3, 68, [.tmp 6], (.seq (.reg [oo 3 (.box (Z 0)), oo 4 (.box (Z 1)), oo 5 (.box (Z 2)), oo 6 (.mov (.con (.bool false)))]) (.seq (.seq (.reg [oo 10 (.faddr (Z 4) 0), oo 11 (.load none (Z 10))]) (.block 0 (.seq (.reg [oo 13 (.bin .eql (Z 11) (.con (i6 1))), oo 12 (.mov (Z 13))]) (.cond (Z 12) (.seq (.dreg 12 [oo 14 (.load (some 9) (Z 3)), oo 15 (.load (some 3) (Z 4)), oo 16 (.faddr (Z 3) 4), oo 17 (.load none (Z 16)), oo 18 (.faddr (Z 4) 1), oo 19 (.load none (Z 18)), oo 20 (.bin .mul (.con (i6 2)) (Z 19)), oo 21 (.faddr (Z 3) 1), oo 22 (.load none (Z 21)), oo 23 (.bin .add (Z 20) (Z 22)), oo 24 (.call (.con (.fn 21 [] [])) [(Z 23), (.con (i6 2))]), oo 25 (.mx (Z 17) (Z 24)), oo 26 (.call (.con (.fn 34 [] [])) [(Z 14), (Z 15), (Z 25)]), oo 6 (.mov (Z 26))]) .ret) (.seq (.reg [oo 28 (.bin .eql (Z 11) (.con (i6 2))), oo 27 (.mov (Z 28))]) (.cond (Z 27) (.seq (.dreg 5 [oo 29 (.load (some 9) (Z 3)), oo 30 (.load (some 2) (Z 5)), oo 31 (.call (.con (.fn 11 [] [])) [(Z 29), (Z 30)]), oo 32 (.faddr (Z 4) 1), oo 33 (.load none (Z 32)), oo 34 (.bin .leq (Z 31) (Z 33)), oo 6 (.mov (Z 34))]) .ret) .skip)))))) (.seq (.reg [oo 36 (.load (some 9) (Z 3)), oo 37 (.load (some 2) (Z 5)), oo 38 (.call (.con (.fn 8 [] [])) [(Z 36), (Z 37)]), oo 35 (.mov (Z 38)), oo 39 (.ext (Z 35) 0), oo 40 (.ext (Z 35) 1), oo 7 (.mov (Z 39)), oo 8 (.mov (Z 40))]) (.seq (.reg [oo 41 (.faddr (Z 3) 3), oo 42 (.load none (Z 41)), oo 43 (.faddr (Z 3) 2), oo 44 (.load none (Z 43)), oo 45 (.bin .sub (Z 42) (Z 44)), oo 9 (.mov (Z 45))]) (.seq (.dreg 20 [oo 46 (.load (some 9) (Z 3)), oo 47 (.load (some 2) (Z 5)), oo 48 (.call (.con (.fn 10 [] [])) [(Z 46), (Z 47)]), oo 49 (.faddr (Z 4) 1), oo 50 (.load none (Z 49)), oo 51 (.bin .leq (Z 48) (Z 50)), oo 52 (.mov (Z 51)), ⟨some 53, .mov (Z 7), some (52, true)⟩, ⟨some 54, .faddr (Z 4) 2, some (52, true)⟩, ⟨some 55, .load none (Z 54), some (52, true)⟩, ⟨some 56, .mov (Z 9), some (52, true)⟩, ⟨some 57, .bin .mul (Z 55) (Z 56), some (52, true)⟩, ⟨some 58, .bin .leq (Z 53) (Z 57), some (52, true)⟩, oo 59 (.pick (Z 52) (Z 58) (.con (.bool false))), oo 60 (.mov (Z 59)), ⟨some 61, .mov (Z 8), some (60, true)⟩, ⟨some 62, .faddr (Z 4) 2, some (60, true)⟩, ⟨some 63, .load none (Z 62), some (60, true)⟩, ⟨some 64, .mov (Z 9), some (60, true)⟩, ⟨some 65, .bin .mul (Z 63) (Z 64), some (60, true)⟩, ⟨some 66, .bin .leq (Z 61) (Z 65), some (60, true)⟩, oo 67 (.pick (Z 60) (Z 66) (.con (.bool false))), oo 6 (.mov (Z 67))]) .ret)))))⟩
theorem comp12 : compFn Try.prog 12 = some F12 := by kernel_rfl
def F13 : AFn := ⟨1, 21, [.cell 2 (some 2), .tmp 3], (.seq (.reg [oo 1 (.box (Z 0)), oo 2 (.box (.con (.agg [i6 0, i6 0]))), oo 3 (.mov (.con (i6 0)))]) (.seq (.seq (.reg [oo 6 (.load (some 9) (Z 1)), oo 7 (.call (.con (.fn 35 [] [])) [(Z 6)]), oo 4 (.mov (Z 7))]) (.seq (.reg [oo 8 (.mov (Z 4)), oo 9 (.bin .neq (Z 8) (.con (i6 0)))]) (.cond (Z 9) (.seq (.reg [oo 10 (.build [i6 0, i6 0] []), oo 11 (.mov (Z 4)), on (.store 2 (Z 2) (Z 10)), oo 3 (.mov (Z 11))]) .ret) .skip))) (.seq (.reg [oo 12 (.load (some 9) (Z 1)), oo 13 (.call (.con (.fn 36 [] [])) [(Z 12)]), oo 5 (.box (.con (.agg [i6 0, i6 0, i6 0, i6 0, i6 0, i6 0, i6 0, i6 0, .nils, i6 0, i6 0, i6 0, i6 0, i6 0, i6 0, i6 0, i6 0, i6 0, i6 0, i6 0, i6 0, i6 0, i6 0, i6 0, i6 0, i6 0, i6 0, i6 0, i6 0, i6 0, i6 0, i6 0, i6 0, i6 0, i6 0, i6 0, i6 0, i6 0, i6 0, i6 0, i6 0, i6 0, i6 0, i6 0, i6 0, i6 0, i6 0, i6 0, i6 0, i6 0, i6 0, i6 0, i6 0, i6 0, i6 0, i6 0, i6 0, i6 0, i6 0, .nils, i6 0, i6 0, i6 0, i6 0, i6 0, i6 0, i6 0, i6 0, i6 0, i6 0, i6 0, i6 0, i6 0, i6 0, i6 0, i6 0, i6 0, i6 0, i6 0, i6 0, i6 0, i6 0, i6 0, i6 0, i6 0, i6 0, i6 0, i6 0, i6 0, i6 0, i6 0, i6 0, i6 0, i6 0, i6 0, i6 0, i6 0, i6 0, i6 0, i6 0, i6 0, i6 0]))), on (.store 102 (Z 5) (Z 13))]) (.seq (.dreg 5 [oo 14 (.iaddr (Z 5) (.con (i6 0)) 51 (some 2)), oo 15 (.load (some 51) (Z 14)), oo 16 (.call (.con (.fn 37 [] [])) [(Z 15)]), oo 17 (.iaddr (Z 5) (.con (i6 1)) 51 (some 2)), oo 18 (.load (some 51) (Z 17)), oo 19 (.call (.con (.fn 37 [] [])) [(Z 18)]), oo 20 (.build [i6 0, i6 0] [(0, 1, (Z 16)), (1, 1, (Z 19))]), on (.store 2 (Z 2) (Z 20)), oo 3 (.mov (.con (i6 0)))]) .ret))))⟩
theorem comp13 : compFn Try.prog 13 = some F13 := by kernel_rfl
def F14 : AFn := ⟨1, 42, [.cell 2 (some 2), .cell 3 (some 2), .tmp 4], (.seq (.reg [oo 1 (.box (Z 0)), oo 2 (.box (.con (.agg [i6 0, i6 0]))), oo 3 (.box (.con (.agg [i6 0, i6 0]))), oo 4 (.mov (.con (i6 0)))]) (.seq (.seq (.reg [oo 7 (.load (some 9) (Z 1)), oo 8 (.call (.con (.fn 35 [] [])) [(Z 7)]), oo 5 (.mov (Z 8))]) (.seq (.reg [oo 9 (.mov (Z 5)), oo 10 (.bin .neq (Z 9) (.con (i6 0)))]) (.cond (Z 10) (.seq (.reg [oo 11 (.build [i6 0, i6 0] []), oo 12 (.build [i6 0, i6 0] []), oo 13 (.mov (Z 5)), on (.store 2 (Z 2) (Z 11)), on (.store 2 (Z 3) (Z 12)), oo 4 (.mov (Z 13))]) .ret) .skip))) (.seq (.reg [oo 14 (.load (some 9) (Z 1)), oo 15 (.call (.con (.fn 36 [] [])) [(Z 14)]), oo 6 (.box (.con (.agg [i6 0, i6 0, i6 0, i6 0, i6 0, i6 0, i6 0, i6 0, .nils, i6 0, i6 0, i6 0, i6 0, i6 0, i6 0, i6 0, i6 0, i6 0, i6 0, i6 0, i6 0, i6 0, i6 0, i6 0, i6 0, i6 0, i6 0, i6 0, i6 0, i6 0, i6 0, i6 0, i6 0, i6 0, i6 0, i6 0, i6 0, i6 0, i6 0, i6 0, i6 0, i6 0, i6 0, i6 0, i6 0, i6 0, i6 0, i6 0, i6 0, i6 0, i6 0, i6 0, i6 0, i6 0, i6 0, i6 0, i6 0, i6 0, i6 0, .nils, i6 0, i6 0, i6 0, i6 0, i6 0, i6 0, i6 0, i6 0, i6 0, i6 0, i6 0, i6 0, i6 0, i6 0, i6 0, i6 0, i6 0, i6 0, i6 0, i6 0, i6 0, i6 0, i6 0, i6 0, i6 0, i6 0, i6 0, i6 0, i6 0, i6 0, i6 0, i6 0, i6 0, i6 0, i6 0, i6 0, i6 0, i6 0, i6 0, i6 0, i6 0, i6 0]))), on (.store 102 (Z 6) (Z 15))]) (.seq (.dreg 11 [oo 16 (.iaddr (Z 6) (.con (i6 0)) 51 (some 2)), oo 17 (.load (some 51) (Z 16)), oo 18 (.call (.con (.fn 39 [] [])) [(Z 17)]), oo 19 (.iaddr (Z 6) (.con (i6 1)) 51 (some 2)), oo 20 (.load (some 51) (Z 19)), oo 21 (.call (.con (.fn 39 [] [])) [(Z 20)]), oo 22 (.faddr (Z 1) 3), oo 23 (.load none (Z 22)), oo 24 (.faddr (Z 1) 2), oo 25 (.load none (Z 24)), oo 26 (.bin .sub (Z 23) (Z 25)), oo 27 (.call (.con (.fn 38 [] [])) [(Z 18), (Z 21), (Z 26)]), on (.store 2 (Z 2) (Z 27))]) (.seq (.dreg 11 [oo 28 (.iaddr (Z 6) (.con (i6 0)) 51 (some 2)), oo 29 (.load (some 51) (Z 28)), oo 30 (.call (.con (.fn 40 [] [])) [(Z 29)]), oo 31 (.iaddr (Z 6) (.con (i6 1)) 51 (some 2)), oo 32 (.load (some 51) (Z 31)), oo 33 (.call (.con (.fn 40 [] [])) [(Z 32)]), oo 34 (.faddr (Z 1) 3), oo 35 (.load none (Z 34)), oo 36 (.faddr (Z 1) 2), oo 37 (.load none (Z 36)), oo 38 (.bin .sub (Z 35) (Z 37)), oo 39 (.call (.con (.fn 38 [] [])) [(Z 30), (Z 33), (Z 38)]), on (.store 2 (Z 3) (Z 39))]) (.seq (.dreg 3 [oo 40 (.load (some 2) (Z 2)), oo 41 (.load (some 2) (Z 3)), on (.store 2 (Z 2) (Z 40)), on (.store 2 (Z 3) (Z 41)), oo 4 (.mov (.con (i6 0)))]) .ret))))))⟩
theorem comp14 : compFn Try.prog 14 = some F14 := by kernel_rfl
def F15 : AFn := ⟨1, 21, [.cell 2 (some 2), .tmp 3], (.seq (.reg [oo 1 (.box (Z 0)), oo 2 (.box (.con (.agg [i6 0, i6 0]))), oo 3 (.mov (.con (i6 0)))]) (.seq (.seq (.reg [oo 6 (.load (some 9) (Z 1)), oo 7 (.call (.con (.fn 35 [] [])) [(Z 6)]), oo 4 (.mov (Z 7))]) (.seq (.reg [oo 8 (.mov (Z 4)), oo 9 (.bin .neq (Z 8) (.con (i6 0)))]) (.cond (Z 9) (.seq (.reg [oo 10 (.build [i6 0, i6 0] []), oo 11 (.mov (Z 4)), on (.store 2 (Z 2) (Z 10)), oo 3 (.mov (Z 11))]) .ret) .skip))) (.seq (.reg [oo 12 (.load (some 9) (Z 1)), oo 13 (.call (.con (.fn 36 [] [])) [(Z 12)]), oo 5 (.box (.con (.agg [i6 0, i6 0, i6 0, i6 0, i6 0, i6 0, i6 0, i6 0, .nils, i6 0, i6 0, i6 0, i6 0, i6 0, i6 0, i6 0, i6 0, i6 0, i6 0, i6 0, i6 0, i6 0, i6 0, i6 0, i6 0, i6 0, i6 0, i6 0, i6 0, i6 0, i6 0, i6 0, i6 0, i6 0, i6 0, i6 0, i6 0, i6 0, i6 0, i6 0, i6 0, i6 0, i6 0, i6 0, i6 0, i6 0, i6 0, i6 0, i6 0, i6 0, i6 0, i6 0, i6 0, i6 0, i6 0, i6 0, i6 0, i6 0, i6 0, .nils, i6 0, i6 0, i6 0, i6 0, i6 0, i6 0, i6 0, i6 0, i6 0, i6 0, i6 0, i6 0, i6 0, i6 0, i6 0, i6 0, i6 0, i6 0, i6 0, i6 0, i6 0, i6 0, i6 0, i6 0, i6 0, i6 0, i6 0, i6 0, i6 0, i6 0, i6 0, i6 0, i6 0, i6 0, i6 0, i6 0, i6 0, i6 0, i6 0, i6 0, i6 0, i6 0]))), on (.store 102 (Z 5) (Z 13))]) (.seq (.dreg 5 [oo 14 (.iaddr (Z 5) (.con (i6 0)) 51 (some 2)), oo 15 (.load (some 51) (Z 14)), oo 16 (.call (.con (.fn 41 [] [])) [(Z 15)]), oo 17 (.iaddr (Z 5) (.con (i6 1)) 51 (some 2)), oo 18 (.load (some 51) (Z 17)), oo 19 (.call (.con (.fn 41 [] [])) [(Z 18)]), oo 20 (.build [i6 0, i6 0] [(0, 1, (Z 16)), (1, 1, (Z 19))]), on (.store 2 (Z 2) (Z 20)), oo 3 (.mov (.con (i6 0)))]) .ret))))⟩
theorem comp15 : compFn Try.prog 15 = some F15 := by kernel_rfl
def F16 : AFn := ⟨1, 20, [.tmp 2, .tmp 3], (.seq (.reg [oo 1 (.box (Z 0)), oo 2 (.mov (.con (i6 0))), oo 3 (.mov (.con (i6 0)))]) (.seq (.seq (.reg [oo 6 (.load (some 9) (Z 1)), oo 7 (.call (.con (.fn 35 [] [])) [(Z 6)]), oo 4 (.mov (Z 7))]) (.seq (.reg [oo 8 (.mov (Z 4)), oo 9 (.bin .neq (Z 8) (.con (i6 0)))]) (.cond (Z 9) (.seq (.reg [oo 10 (.mov (Z 4)), oo 2 (.mov (.con (i6 0))), oo 3 (.mov (Z 10))]) .ret) .skip))) (.seq (.reg [oo 11 (.load (some 9) (Z 1)), oo 12 (.call (.con (.fn 36 [] [])) [(Z 11)]), oo 5 (.box (.con (.agg [i6 0, i6 0, i6 0, i6 0, i6 0, i6 0, i6 0, i6 0, .nils, i6 0, i6 0, i6 0, i6 0, i6 0, i6 0, i6 0, i6 0, i6 0, i6 0, i6 0, i6 0, i6 0, i6 0, i6 0, i6 0, i6 0, i6 0, i6 0, i6 0, i6 0, i6 0, i6 0, i6 0, i6 0, i6 0, i6 0, i6 0, i6 0, i6 0, i6 0, i6 0, i6 0, i6 0, i6 0, i6 0, i6 0, i6 0, i6 0, i6 0, i6 0, i6 0, i6 0, i6 0, i6 0, i6 0, i6 0, i6 0, i6 0, i6 0, .nils, i6 0, i6 0, i6 0, i6 0, i6 0, i6 0, i6 0, i6 0, i6 0, i6 0, i6 0, i6 0, i6 0, i6 0, i6 0, i6 0, i6 0, i6 0, i6 0, i6 0, i6 0, i6 0, i6 0, i6 0, i6 0, i6 0, i6 0, i6 0, i6 0, i6 0, i6 0, i6 0, i6 0, i6 0, i6 0, i6 0, i6 0, i6 0, i6 0, i6 0, i6 0, i6 0]))), on (.store 102 (Z 5) (Z 12))]) (.seq (.dreg 5 [oo 13 (.iaddr (Z 5) (.con (i6 0)) 51 (some 2)), oo 14 (.load (some 51) (Z 13)), oo 15 (.call (.con (.fn 43 [] [])) [(Z 14)]), oo 16 (.iaddr (Z 5) (.con (i6 1)) 51 (some 2)), oo 17 (.load (some 51) (Z 16)), oo 18 (.call (.con (.fn 43 [] [])) [(Z 17)]), oo 19 (.call (.con (.fn 42 [] [])) [(Z 15), (Z 18)]), oo 2 (.mov (Z 19)), oo 3 (.mov (.con (i6 0)))]) .ret))))⟩
theorem comp16 : compFn Try.prog 16 = some F16 := by kernel_rfl
def F17 : AFn := ⟨2, 16, [.tmp 4, .tmp 5], (.seq (.reg [oo 2 (.box (Z 0)), oo 4 (.mov (.con (.nils))), oo 5 (.mov (.con (i6 0)))]) (.seq (.seq (.reg [oo 7 (.load (some 9) (Z 2)), oo 8 (.mov (Z 1)), oo 9 (.call (.con (.fn 44 [] [])) [(Z 7), (Z 8)]), oo 6 (.mov (Z 9))]) (.seq (.reg [oo 10 (.mov (Z 6)), oo 11 (.bin .neq (Z 10) (.con (i6 0)))]) (.cond (Z 11) (.seq (.reg [oo 12 (.mov (Z 6)), oo 4 (.mov (.con (.nils))), oo 5 (.mov (Z 12))]) .ret) .skip))) (.seq (.reg [oo 13 (.load (some 9) (Z 2)), oo 14 (.mov (Z 1)), oo 15 (.call (.con (.fn 45 [] [])) [(Z 13), (Z 14)]), oo 4 (.mov (Z 15)), oo 5 (.mov (.con (i6 0)))]) .ret)))⟩
theorem comp17 : compFn Try.prog 17 = some F17 := by kernel_rfl
def F18 : AFn := ⟨2, 11, [.tmp 4], (.seq (.reg [oo 4 (.mov (.con (i6 0)))]) (.seq (.seq (.reg [oo 5 (.mov (Z 0))]) (.block 0 (.seq (.reg [oo 7 (.mov (Z 1)), oo 8 (.bin .eql (Z 5) (Z 7)), oo 6 (.mov (Z 8))]) (.cond (Z 6) (.seq (.reg [oo 4 (.mov (.con (i6 1)))]) .ret) (.seq (.reg [oo 10 (.bin .eql (Z 5) (.con (i6 0))), oo 9 (.mov (Z 10))]) (.cond (Z 9) (.seq (.reg [oo 4 (.mov (.con (i6 2)))]) .ret) .skip)))))) (.seq (.reg [oo 4 (.mov (.con (i6 3)))]) .ret)))⟩
theorem comp18 : compFn Try.prog 18 = some F18 := by kernel_rfl
def F19 : AFn := ⟨2, 8, [.cell 4 (some 2)], (.seq (.reg [oo 4 (.box (.con (.agg [i6 0, i6 0])))]) (.seq (.reg [oo 5 (.mov (Z 0)), oo 6 (.mov (Z 1)), oo 7 (.build [i6 0, i6 0] [(0, 1, (Z 5)), (1, 1, (Z 6))]), on (.store 2 (Z 4) (Z 7))]) .ret))⟩
theorem comp19 : compFn Try.prog 19 = some F19 := by kernel_rfl
def F20 : AFn := ⟨2, 16, [.tmp 4], (.seq (.reg [oo 4 (.mov (.con (i6 0)))]) (.seq (.reg [oo 6 (.mov (Z 0)), oo 7 (.mov (Z 1)), oo 8 (.bin .quo (Z 6) (Z 7)), oo 5 (.mov (Z 8))]) (.seq (.seq (.reg [oo 9 (.mov (Z 0)), oo 10 (.mov (Z 1)), oo 11 (.bin .rem (Z 9) (Z 10)), oo 12 (.bin .lss (Z 11) (.con (i6 0)))]) (.cond (Z 12) (.reg [oo 13 (.mov (Z 5)), oo 14 (.bin .sub (Z 13) (.con (i6 1))), oo 5 (.mov (Z 14))]) .skip)) (.seq (.reg [oo 15 (.mov (Z 5)), oo 4 (.mov (Z 15))]) .ret))))⟩
theorem comp20 : compFn Try.prog 20 = some F20 := by kernel_rfl
def F21 : AFn := ⟨2, 10, [.tmp 4], (.seq (.reg [oo 4 (.mov (.con (i6 0)))]) (.seq (.reg [oo 5 (.mov (Z 0)), oo 6 (.un .neg (Z 5)), oo 7 (.mov (Z 1)), oo 8 (.call (.con (.fn 20 [] [])) [(Z 6), (Z 7)]), oo 9 (.un .neg (Z 8)), oo 4 (.mov (Z 9))]) .ret))⟩
theorem comp21 : compFn Try.prog 21 = some F21 := by kernel_rfl
def F22 : AFn := ⟨0, 58, [.tmp 0], (.seq (.reg [oo 0 (.mov (.con (.bool false)))]) (.seq (.reg [oo 9 (.call (.con (.fn 46 [] [])) []), oo 10 (.call (.con (.fn 14 [] [])) [(Z 9)]), oo 8 (.mov (Z 10)), oo 11 (.ext (Z 8) 0), oo 12 (.ext (Z 8) 1), oo 13 (.ext (Z 8) 2), oo 1 (.box (.con (.agg [i6 0, i6 0]))), oo 2 (.box (.con (.agg [i6 0, i6 0]))), on (.store 2 (Z 1) (Z 11)), on (.store 2 (Z 2) (Z 12)), oo 3 (.mov (Z 13))]) (.seq (.reg [oo 15 (.call (.con (.fn 46 [] [])) []), oo 16 (.call (.con (.fn 47 [] [])) [(.con (i6 1)), (.con (i6 700)), (.con (i6 1400))]), oo 17 (.call (.con (.fn 47 [] [])) [(.con (i6 2)), (.con (i6 519)), (.con (i6 0))]), oo 18 (.call (.con (.fn 47 [] [])) [(.con (i6 3)), (.con (i6 5649)), (.con (i6 3067))]), oo 19 (.bsl 3 true [i6 0, i6 0, i6 0] 3 [(0, (Z 16)), (1, (Z 17)), (2, (Z 18))]), oo 20 (.call (.con (.fn 17 [] [])) [(Z 15), (Z 19)]), oo 14 (.mov (Z 20)), oo 21 (.ext (Z 14) 0), oo 22 (.ext (Z 14) 1), oo 4 (.mov (Z 21)), oo 5 (.mov (Z 22))]) (.seq (.reg [oo 24 (.call (.con (.fn 49 [] [])) [(.con (i6 900))]), oo 25 (.call (.con (.fn 48 [] [])) [(Z 24), (.con (.nils)), (.con (i6 200))]), oo 23 (.mov (Z 25)), oo 26 (.ext (Z 23) 0), oo 27 (.ext (Z 23) 1), oo 6 (.box (.con (.agg [i6 0, i6 0]))), on (.store 2 (Z 6) (Z 26)), oo 7 (.mov (Z 27))]) (.seq (.dreg 28 [oo 28 (.mov (Z 3)), oo 29 (.bin .eql (Z 28) (.con (i6 0))), oo 30 (.mov (Z 29)), ⟨some 31, .mov (Z 5), some (30, true)⟩, ⟨some 32, .bin .eql (Z 31) (.con (i6 0)), some (30, true)⟩, oo 33 (.pick (Z 30) (Z 32) (.con (.bool false))), oo 34 (.mov (Z 33)), ⟨some 35, .mov (Z 7), some (34, true)⟩, ⟨some 36, .bin .eql (Z 35) (.con (i6 0)), some (34, true)⟩, oo 37 (.pick (Z 34) (Z 36) (.con (.bool false))), oo 38 (.mov (Z 37)), ⟨some 39, .load (some 2) (Z 1), some (38, true)⟩, ⟨some 40, .call (.con (.fn 19 [] [])) [(.con (i6 2650)), (.con (i6 2784))], some (38, true)⟩, ⟨some 41, .eqs false (.cons 0 none (.sc 1) (.cons 1 none (.sc 1) .nil)) (Z 39) (Z 40), some (38, true)⟩, oo 42 (.pick (Z 38) (Z 41) (.con (.bool false))), oo 43 (.mov (Z 42)), ⟨some 44, .load (some 2) (Z 2), some (43, true)⟩, ⟨some 45, .call (.con (.fn 19 [] [])) [(.con (i6 3000)), (.con (i6 3067))], some (43, true)⟩, ⟨some 46, .eqs false (.cons 0 none (.sc 1) (.cons 1 none (.sc 1) .nil)) (Z 44) (Z 45), some (43, true)⟩, oo 47 (.pick (Z 43) (Z 46) (.con (.bool false))), oo 48 (.mov (Z 47)), ⟨some 49, .mov (Z 4), some (48, true)⟩, ⟨some 50, .bsl 1 false [i6 0] 3 [(0, (.con (i6 1))), (1, (.con (i6 3))), (2, (.con (i6 2)))], some (48, true)⟩, ⟨some 51, .call (.con (.fn 50 [] [])) [(Z 49), (Z 50)], some (48, true)⟩, oo 52 (.pick (Z 48) (Z 51) (.con (.bool false))), oo 53 (.mov (Z 52)), ⟨some 54, .load (some 2) (Z 6), some (53, true)⟩, ⟨some 55, .call (.con (.fn 19 [] [])) [(.con (i6 17)), (.con (i6 100000))], some (53, true)⟩, ⟨some 56, .eqs false (.cons 0 none (.sc 1) (.cons 1 none (.sc 1) .nil)) (Z 54) (Z 55), some (53, true)⟩, oo 57 (.pick (Z 53) (Z 56) (.con (.bool false))), oo 0 (.mov (Z 57))]) .ret)))))⟩
theorem comp22 : compFn Try.prog 22 = some F22 := by kernel_rfl
def F23 : AFn := ⟨1, 31, [.tmp 2], (.seq (.reg [oo 2 (.mov (.con (.int .u64 0)))]) (.seq (.reg [oo 4 (.mov (Z 0)), oo 5 (.mov (Z 0)), oo 6 (.nilck (Z 5)), oo 7 (.faddr (Z 6) 0), oo 8 (.load none (Z 7)), oo 9 (.bin .mul (Z 8) (.con (.int .u64 15074714826142052245))), oo 10 (.bin .add (Z 9) (.con (.int .u64 11400714819323198485))), oo 11 (.nilck (Z 4)), oo 12 (.faddr (Z 11) 0), on (.store 1 (Z 12) (Z 10))]) (.seq (.reg [oo 13 (.mov (Z 0)), oo 14 (.nilck (Z 13)), oo 15 (.faddr (Z 14) 0), oo 16 (.load none (Z 15)), oo 3 (.mov (Z 16))]) (.seq (.reg [oo 17 (.mov (Z 3)), oo 18 (.mov (Z 3)), oo 19 (.bin .shr (Z 18) (.con (.int .u64 32))), oo 20 (.bin .xor (Z 17) (Z 19)), oo 21 (.bin .mul (Z 20) (.con (.int .u64 15760922415973212899))), oo 3 (.mov (Z 21))]) (.seq (.reg [oo 22 (.mov (Z 3)), oo 23 (.mov (Z 3)), oo 24 (.bin .shr (Z 23) (.con (.int .u64 32))), oo 25 (.bin .xor (Z 22) (Z 24)), oo 26 (.bin .mul (Z 25) (.con (.int .u64 15760922415973212899))), oo 3 (.mov (Z 26))]) (.seq (.reg [oo 27 (.mov (Z 3)), oo 28 (.mov (Z 3)), oo 29 (.bin .shr (Z 28) (.con (.int .u64 32))), oo 30 (.bin .xor (Z 27) (Z 29)), oo 2 (.mov (Z 30))]) .ret))))))⟩
theorem comp23 : compFn Try.prog 23 = some F23 := by kernel_rfl
def F24 : AFn := ⟨2, 91, [.cell 4 (some 9)], (.seq (.reg [oo 4 (.box (.con (.agg [i6 0, i6 0, i6 0, i6 0, i6 0, i6 0, i6 0, i6 0, .nils])))]) (.seq (.reg [oo 8 (.mov (Z 0)), oo 9 (.mov (Z 0)), oo 10 (.bsl 1 false [i6 0] 2 [(0, (.con (i6 20))), (1, (.con (i6 1200)))]), oo 11 (.call (.con (.fn 30 [] [])) [(Z 9), (Z 10)]), oo 12 (.call (.con (.fn 29 [] [])) [(Z 8), (.con (i6 2)), (Z 11)]), oo 13 (.mov (Z 0)), oo 14 (.call (.con (.fn 29 [] [])) [(Z 13), (.con (i6 1)), (.con (i6 400))]), oo 15 (.mov (Z 0)), oo 16 (.mov (Z 0)), oo 17 (.call (.con (.fn 25 [] [])) [(Z 16), (.con (i6 1500))]), oo 18 (.bsl 1 false [i6 0] 2 [(0, (.con (i6 0))), (1, (Z 17))]), oo 19 (.call (.con (.fn 30 [] [])) [(Z 15), (Z 18)]), oo 20 (.mov (Z 0)), oo 21 (.mov (Z 0)), oo 22 (.call (.con (.fn 25 [] [])) [(Z 21), (.con (i6 5000))]), oo 23 (.bsl 1 false [i6 0] 2 [(0, (.con (i6 0))), (1, (Z 22))]), oo 24 (.call (.con (.fn 30 [] [])) [(Z 20), (Z 23)]), oo 25 (.mov (Z 0)), oo 26 (.call (.con (.fn 25 [] [])) [(Z 25), (.con (i6 500))]), oo 27 (.build [i6 0, i6 0, i6 0, i6 0, i6 0, i6 0, i6 0, i6 0, .nils] [(0, 1, (Z 12)), (1, 1, (Z 14)), (4, 1, (Z 19)), (5, 1, (Z 24)), (7, 1, (Z 26))]), oo 5 (.box (.con (.agg [i6 0, i6 0, i6 0, i6 0, i6 0, i6 0, i6 0, i6 0, .nils]))), on (.store 9 (Z 5) (Z 27))]) (.seq (.reg [oo 28 (.mov (Z 0)), oo 29 (.faddr (Z 5) 0), oo 30 (.load none (Z 29)), oo 31 (.call (.con (.fn 25 [] [])) [(Z 28), (Z 30)]), oo 32 (.faddr (Z 5) 2), on (.store 1 (Z 32) (Z 31))]) (.seq (.reg [oo 33 (.mov (Z 0)), oo 34 (.faddr (Z 5) 2), oo 35 (.load none (Z 34)), oo 36 (.bin .add (Z 35) (.con (i6 1))), oo 37 (.faddr (Z 5) 0), oo 38 (.load none (Z 37)), oo 39 (.call (.con (.fn 29 [] [])) [(Z 33), (Z 36), (Z 38)]), oo 40 (.faddr (Z 5) 3), on (.store 1 (Z 40) (Z 39))]) (.seq (.reg [oo 41 (.mov (Z 0)), oo 42 (.faddr (Z 5) 0), oo 43 (.load none (Z 42)), oo 44 (.call (.con (.fn 29 [] [])) [(Z 41), (.con (i6 0)), (Z 43)]), oo 45 (.faddr (Z 5) 6), on (.store 1 (Z 45) (Z 44))]) (.seq (.seq (.reg [oo 46 (.mov (Z 0)), oo 47 (.mov (Z 1)), oo 48 (.bin .add (Z 47) (.con (i6 1))), oo 49 (.call (.con (.fn 25 [] [])) [(Z 46), (Z 48)]), oo 6 (.mov (Z 49))]) (.block 0 (.loop (.seq (.seq (.reg [oo 50 (.mov (Z 6)), oo 51 (.bin .gtr (Z 50) (.con (i6 0)))]) (.cond (Z 51) .skip (.exit 0))) (.seq (.block 1 (.seq (.reg [oo 54 (.mov (Z 0)), oo 55 (.faddr (Z 5) 2), oo 56 (.load none (Z 55)), oo 57 (.faddr (Z 5) 3), oo 58 (.load none (Z 57)), oo 59 (.call (.con (.fn 29 [] [])) [(Z 54), (Z 56), (Z 58)]), oo 60 (.mov (Z 0)), oo 61 (.mov (Z 0)), oo 62 (.bsl 1 false [i6 0] 2 [(0, (.con (i6 5))), (1, (.con (i6 900)))]), oo 63 (.call (.con (.fn 30 [] [])) [(Z 61), (Z 62)]), oo 64 (.call (.con (.fn 51 [] [])) [(Z 60), (.con (i6 0)), (Z 63)]), oo 65 (.mov (Z 0)), oo 66 (.mov (Z 0)), oo 67 (.bsl 1 false [i6 0] 2 [(0, (.con (i6 20))), (1, (.con (i6 700)))]), oo 68 (.call (.con (.fn 30 [] [])) [(Z 66), (Z 67)]), oo 69 (.call (.con (.fn 51 [] [])) [(Z 65), (.con (i6 0)), (Z 68)]), oo 70 (.mov (Z 0)), oo 71 (.call (.con (.fn 29 [] [])) [(Z 70), (.con (i6 1)), (.con (i6 4))]), oo 72 (.build [i6 0, i6 0, i6 0, i6 0, i6 0, i6 0, i6 0] [(0, 1, (Z 59)), (1, 2, (Z 64)), (3, 2, (Z 69)), (5, 1, (Z 71))]), oo 7 (.box (.con (.agg [i6 0, i6 0, i6 0, i6 0, i6 0, i6 0, i6 0]))), on (.store 7 (Z 7) (Z 72))]) (.seq (.seq (.reg [oo 73 (.faddr (Z 7) 5), oo 74 (.load none (Z 73)), oo 75 (.bin .eql (Z 74) (.con (i6 2))), oo 76 (.mov (Z 75)), ⟨some 77, .faddr (Z 7) 5, some (76, false)⟩, ⟨some 78, .load none (Z 77), some (76, false)⟩, ⟨some 79, .bin .eql (Z 78) (.con (i6 3)), some (76, false)⟩, oo 80 (.pick (Z 76) (.con (.bool true)) (Z 79))]) (.cond (Z 80) (.reg [oo 81 (.mov (Z 0)), oo 82 (.call (.con (.fn 25 [] [])) [(Z 81), (.con (i6 3000))]), oo 83 (.faddr (Z 7) 6), on (.store 1 (Z 83) (Z 82))]) .skip)) (.reg [oo 84 (.faddr (Z 5) 8), oo 85 (.load none (Z 84)), oo 86 (.load (some 7) (Z 7)), oo 87 (.bsl 7 true [i6 0, i6 0, i6 0, i6 0, i6 0, i6 0, i6 0] 1 [(0, (Z 86))]), oo 88 (.app (Z 85) (Z 87) 7 56 [i6 0, i6 0, i6 0, i6 0, i6 0, i6 0, i6 0]), oo 89 (.faddr (Z 5) 8), on (.store 1 (Z 89) (Z 88))])))) (.reg [oo 52 (.mov (Z 6)), oo 53 (.bin .sub (Z 52) (.con (i6 1))), oo 6 (.mov (Z 53))])))))) (.seq (.reg [oo 90 (.load (some 9) (Z 5)), on (.store 9 (Z 4) (Z 90))]) .ret)))))))⟩
theorem comp24 : compFn Try.prog 24 = some F24 := by kernel_rfl
def F25 : AFn := ⟨2, 14, [.tmp 4], (.seq (.reg [oo 4 (.mov (.con (i6 0)))]) (.seq (.seq (.reg [oo 5 (.mov (Z 1)), oo 6 (.bin .lss (Z 5) (.con (i6 2)))]) (.cond (Z 6) (.seq (.reg [oo 4 (.mov (.con (i6 0)))]) .ret) .skip)) (.seq (.reg [oo 7 (.mov (Z 0)), oo 8 (.call (.con (.fn 23 [] [])) [(Z 7)]), oo 9 (.bin .shr (Z 8) (.con (.int .u64 1))), oo 10 (.mov (Z 1)), oo 11 (.conv .u64 (Z 10)), oo 12 (.bin .rem (Z 9) (Z 11)), oo 13 (.conv .i64 (Z 12)), oo 4 (.mov (Z 13))]) .ret)))⟩
theorem comp25 : compFn Try.prog 25 = some F25 := by kernel_rfl
def F26 : AFn := ⟨1, 20, [.cell 2 (some 2), .tmp 3], (.seq (.reg [oo 1 (.box (Z 0)), oo 2 (.box (.con (.agg [i6 0, i6 0]))), oo 3 (.mov (.con (i6 0)))]) (.seq (.seq (.reg [oo 5 (.load (some 9) (Z 1)), oo 6 (.call (.con (.fn 52 [] [])) [(Z 5)]), oo 4 (.mov (Z 6))]) (.seq (.reg [oo 7 (.mov (Z 4)), oo 8 (.bin .neq (Z 7) (.con (i6 0)))]) (.cond (Z 8) (.seq (.reg [oo 9 (.build [i6 0, i6 0] []), oo 10 (.mov (Z 4)), on (.store 2 (Z 2) (Z 9)), oo 3 (.mov (Z 10))]) .ret) .skip))) (.seq (.dreg 7 [oo 11 (.load (some 9) (Z 1)), oo 12 (.load (some 9) (Z 1)), oo 13 (.call (.con (.fn 53 [] [])) [(Z 12)]), oo 14 (.call (.con (.fn 10 [] [])) [(Z 11), (Z 13)]), oo 15 (.load (some 9) (Z 1)), oo 16 (.load (some 9) (Z 1)), oo 17 (.call (.con (.fn 54 [] [])) [(Z 16)]), oo 18 (.call (.con (.fn 10 [] [])) [(Z 15), (Z 17)]), oo 19 (.build [i6 0, i6 0] [(0, 1, (Z 14)), (1, 1, (Z 18))]), on (.store 2 (Z 2) (Z 19)), oo 3 (.mov (.con (i6 0)))]) .ret)))⟩
theorem comp26 : compFn Try.prog 26 = some F26 := by kernel_rfl
def F27 : AFn := ⟨1, 51, [.cell 2 (some 2), .cell 3 (some 2), .tmp 4], (.seq (.reg [oo 1 (.box (Z 0)), oo 2 (.box (.con (.agg [i6 0, i6 0]))), oo 3 (.box (.con (.agg [i6 0, i6 0]))), oo 4 (.mov (.con (i6 0)))]) (.seq (.seq (.reg [oo 11 (.load (some 9) (Z 1)), oo 12 (.call (.con (.fn 52 [] [])) [(Z 11)]), oo 5 (.mov (Z 12))]) (.seq (.reg [oo 13 (.mov (Z 5)), oo 14 (.bin .neq (Z 13) (.con (i6 0)))]) (.cond (Z 14) (.seq (.reg [oo 15 (.build [i6 0, i6 0] []), oo 16 (.build [i6 0, i6 0] []), oo 17 (.mov (Z 5)), on (.store 2 (Z 2) (Z 15)), on (.store 2 (Z 3) (Z 16)), oo 4 (.mov (Z 17))]) .ret) .skip))) (.seq (.dreg 8 [oo 19 (.load (some 9) (Z 1)), oo 20 (.load (some 9) (Z 1)), oo 21 (.call (.con (.fn 53 [] [])) [(Z 20)]), oo 22 (.call (.con (.fn 8 [] [])) [(Z 19), (Z 21)]), oo 18 (.mov (Z 22)), oo 23 (.ext (Z 18) 0), oo 24 (.ext (Z 18) 1), oo 6 (.mov (Z 23)), oo 7 (.mov (Z 24))]) (.seq (.dreg 8 [oo 26 (.load (some 9) (Z 1)), oo 27 (.load (some 9) (Z 1)), oo 28 (.call (.con (.fn 54 [] [])) [(Z 27)]), oo 29 (.call (.con (.fn 8 [] [])) [(Z 26), (Z 28)]), oo 25 (.mov (Z 29)), oo 30 (.ext (Z 25) 0), oo 31 (.ext (Z 25) 1), oo 8 (.mov (Z 30)), oo 9 (.mov (Z 31))]) (.seq (.reg [oo 32 (.faddr (Z 1) 3), oo 33 (.load none (Z 32)), oo 34 (.faddr (Z 1) 2), oo 35 (.load none (Z 34)), oo 36 (.bin .sub (Z 33) (Z 35)), oo 10 (.mov (Z 36))]) (.seq (.reg [oo 37 (.mov (Z 6)), oo 38 (.mov (Z 10)), oo 39 (.call (.con (.fn 20 [] [])) [(Z 37), (Z 38)]), oo 40 (.mov (Z 8)), oo 41 (.mov (Z 10)), oo 42 (.call (.con (.fn 21 [] [])) [(Z 40), (Z 41)]), oo 43 (.build [i6 0, i6 0] [(0, 1, (Z 39)), (1, 1, (Z 42))]), oo 44 (.mov (Z 7)), oo 45 (.mov (Z 10)), oo 46 (.call (.con (.fn 20 [] [])) [(Z 44), (Z 45)]), oo 47 (.mov (Z 9)), oo 48 (.mov (Z 10)), oo 49 (.call (.con (.fn 21 [] [])) [(Z 47), (Z 48)]), oo 50 (.build [i6 0, i6 0] [(0, 1, (Z 46)), (1, 1, (Z 49))]), on (.store 2 (Z 2) (Z 43)), on (.store 2 (Z 3) (Z 50)), oo 4 (.mov (.con (i6 0)))]) .ret))))))⟩
theorem comp27 : compFn Try.prog 27 = some F27 := by kernel_rfl
def F28 : AFn := ⟨1, 20, [.cell 2 (some 2), .tmp 3], (.seq (.reg [oo 1 (.box (Z 0)), oo 2 (.box (.con (.agg [i6 0, i6 0]))), oo 3 (.mov (.con (i6 0)))]) (.seq (.seq (.reg [oo 5 (.load (some 9) (Z 1)), oo 6 (.call (.con (.fn 52 [] [])) [(Z 5)]), oo 4 (.mov (Z 6))]) (.seq (.reg [oo 7 (.mov (Z 4)), oo 8 (.bin .neq (Z 7) (.con (i6 0)))]) (.cond (Z 8) (.seq (.reg [oo 9 (.build [i6 0, i6 0] []), oo 10 (.mov (Z 4)), on (.store 2 (Z 2) (Z 9)), oo 3 (.mov (Z 10))]) .ret) .skip))) (.seq (.dreg 7 [oo 11 (.load (some 9) (Z 1)), oo 12 (.load (some 9) (Z 1)), oo 13 (.call (.con (.fn 53 [] [])) [(Z 12)]), oo 14 (.call (.con (.fn 11 [] [])) [(Z 11), (Z 13)]), oo 15 (.load (some 9) (Z 1)), oo 16 (.load (some 9) (Z 1)), oo 17 (.call (.con (.fn 54 [] [])) [(Z 16)]), oo 18 (.call (.con (.fn 11 [] [])) [(Z 15), (Z 17)]), oo 19 (.build [i6 0, i6 0] [(0, 1, (Z 14)), (1, 1, (Z 18))]), on (.store 2 (Z 2) (Z 19)), oo 3 (.mov (.con (i6 0)))]) .ret)))⟩
theorem comp28 : compFn Try.prog 28 = some F28 := by kernel_rfl
def F29 : AFn := ⟨3, 15, [.tmp 6], (.seq (.reg [oo 6 (.mov (.con (i6 0)))]) (.seq (.reg [oo 7 (.mov (Z 1)), oo 8 (.mov (Z 0)), oo 9 (.mov (Z 2)), oo 10 (.mov (Z 1)), oo 11 (.bin .sub (Z 9) (Z 10)), oo 12 (.bin .add (Z 11) (.con (i6 1))), oo 13 (.call (.con (.fn 25 [] [])) [(Z 8), (Z 12)]), oo 14 (.bin .add (Z 7) (Z 13)), oo 6 (.mov (Z 14))]) .ret))⟩
theorem comp29 : compFn Try.prog 29 = some F29 := by kernel_rfl
def F30 : AFn := ⟨2, 15, [.tmp 4], (.seq (.reg [oo 4 (.mov (.con (i6 0)))]) (.seq (.seq (.reg [oo 5 (.mov (Z 1)), oo 6 (.len false (Z 5)), oo 7 (.bin .eql (Z 6) (.con (i6 0)))]) (.cond (Z 7) (.seq (.reg [oo 4 (.mov (.con (i6 0)))]) .ret) .skip)) (.seq (.reg [oo 8 (.mov (Z 1)), oo 9 (.mov (Z 0)), oo 10 (.mov (Z 1)), oo 11 (.len false (Z 10)), oo 12 (.call (.con (.fn 25 [] [])) [(Z 9), (Z 11)]), oo 13 (.iaddr (Z 8) (Z 12) 1 none), oo 14 (.load none (Z 13)), oo 4 (.mov (Z 14))]) .ret)))⟩
theorem comp30 : compFn Try.prog 30 = some F30 := by kernel_rfl
def F31 : AFn := ⟨2, 21, [.tmp 4], (.seq (.reg [oo 3 (.box (Z 1)), oo 4 (.mov (.con (i6 0)))]) (.seq (.seq (.reg [oo 5 (.mov (Z 0)), oo 6 (.call (.con (.fn 25 [] [])) [(Z 5), (.con (i6 4))])]) (.block 0 (.seq (.reg [oo 8 (.bin .eql (Z 6) (.con (i6 0))), oo 7 (.mov (Z 8))]) (.cond (Z 7) (.seq (.reg [oo 9 (.faddr (Z 3) 0), oo 10 (.load none (Z 9)), oo 4 (.mov (Z 10))]) .ret) (.seq (.reg [oo 12 (.bin .eql (Z 6) (.con (i6 1))), oo 11 (.mov (Z 12))]) (.cond (Z 11) (.seq (.reg [oo 13 (.faddr (Z 3) 1), oo 14 (.load none (Z 13)), oo 4 (.mov (Z 14))]) .ret) .skip)))))) (.seq (.reg [oo 15 (.mov (Z 0)), oo 16 (.faddr (Z 3) 0), oo 17 (.load none (Z 16)), oo 18 (.faddr (Z 3) 1), oo 19 (.load none (Z 18)), oo 20 (.call (.con (.fn 29 [] [])) [(Z 15), (Z 17), (Z 19)]), oo 4 (.mov (Z 20))]) .ret)))⟩
theorem comp31 : compFn Try.prog 31 = some F31 := by kernel_rfl
def F32 : AFn := ⟨1, 6, [.tmp 2], (.seq (.reg [oo 2 (.mov (.con (.nils)))]) (.seq (.reg [oo 3 (.bsl 1 false [i6 0] 0 []), oo 4 (.mov (Z 0)), oo 5 (.app (Z 3) (Z 4) 1 8 [i6 0]), oo 2 (.mov (Z 5))]) .ret))⟩
theorem comp32 : compFn Try.prog 32 = some F32 := by kernel_rfl
def F33 : AFn := ⟨1, 6, [.cell 2 (some 2)], (.seq (.reg [oo 2 (.box (.con (.agg [i6 0, i6 0])))]) (.seq (.reg [oo 3 (.mov (Z 0)), oo 4 (.mov (Z 0)), oo 5 (.call (.con (.fn 19 [] [])) [(Z 3), (Z 4)]), on (.store 2 (Z 2) (Z 5))]) .ret))⟩
theorem comp33 : compFn Try.prog 33 = some F33 := by kernel_rfl
def F34 : AFn := ⟨3, 54, [.tmp 6], (.seq (.reg [oo 3 (.box (Z 0)), oo 4 (.box (Z 1)), oo 6 (.mov (.con (.bool false)))]) (.seq (.reg [oo 9 (.mov (Z 2)), oo 10 (.bin .mul (.con (i6 2)) (Z 9)), oo 11 (.faddr (Z 3) 1), oo 12 (.load none (Z 11)), oo 13 (.bin .add (Z 10) (Z 12)), oo 7 (.mov (Z 13))]) (.seq (.reg [oo 14 (.faddr (Z 3) 3), oo 15 (.load none (Z 14)), oo 16 (.faddr (Z 3) 0), oo 17 (.load none (Z 16)), oo 18 (.faddr (Z 3) 3), oo 19 (.load none (Z 18)), oo 20 (.bin .sub (Z 17) (Z 19)), oo 21 (.mx (Z 15) (Z 20)), oo 22 (.bin .mul (.con (i6 2)) (Z 21)), oo 8 (.mov (Z 22))]) (.seq (.reg [oo 23 (.mov (Z 2)), oo 24 (.faddr (Z 3) 4), oo 25 (.load none (Z 24)), oo 26 (.bin .geq (Z 23) (Z 25)), oo 27 (.mov (Z 26)), ⟨some 28, .mov (Z 2), some (27, true)⟩, ⟨some 29, .bin .mul (.con (i6 2)) (Z 28), some (27, true)⟩, ⟨some 30, .faddr (Z 3) 1, some (27, true)⟩, ⟨some 31, .load none (Z 30), some (27, true)⟩, ⟨some 32, .bin .sub (Z 29) (Z 31), some (27, true)⟩, ⟨some 33, .faddr (Z 4) 1, some (27, true)⟩, ⟨some 34, .load none (Z 33), some (27, true)⟩, ⟨some 35, .bin .mul (.con (i6 2)) (Z 34), some (27, true)⟩, ⟨some 36, .bin .geq (Z 32) (Z 35), some (27, true)⟩, oo 37 (.pick (Z 27) (Z 36) (.con (.bool false))), oo 38 (.mov (Z 37)), ⟨some 39, .mov (Z 7), some (38, true)⟩, ⟨some 40, .mov (Z 7), some (38, true)⟩, ⟨some 41, .bin .mul (Z 39) (Z 40), some (38, true)⟩, ⟨some 42, .mov (Z 8), some (38, true)⟩, ⟨some 43, .mov (Z 8), some (38, true)⟩, ⟨some 44, .bin .mul (Z 42) (Z 43), some (38, true)⟩, ⟨some 45, .bin .add (Z 41) (Z 44), some (38, true)⟩, ⟨some 46, .faddr (Z 4) 2, some (38, true)⟩, ⟨some 47, .load none (Z 46), some (38, true)⟩, ⟨some 48, .bin .mul (.con (i6 4)) (Z 47), some (38, true)⟩, ⟨some 49, .faddr (Z 4) 2, some (38, true)⟩, ⟨some 50, .load none (Z 49), some (38, true)⟩, ⟨some 51, .bin .mul (Z 48) (Z 50), some (38, true)⟩, ⟨some 52, .bin .leq (Z 45) (Z 51), some (38, true)⟩, oo 53 (.pick (Z 38) (Z 52) (.con (.bool false))), oo 6 (.mov (Z 53))]) .ret))))⟩
theorem comp34 : compFn Try.prog 34 = some F34 := by kernel_rfl
def F35 : AFn := ⟨1, 30, [.tmp 2], (.seq (.reg [oo 1 (.box (Z 0)), oo 2 (.mov (.con (i6 0)))]) (.seq (.seq (.reg [oo 7 (.load (some 9) (Z 1)), oo 8 (.call (.con (.fn 55 [] [])) [(Z 7)]), oo 3 (.mov (Z 8))]) (.seq (.reg [oo 9 (.mov (Z 3)), oo 10 (.bin .neq (Z 9) (.con (i6 0)))]) (.cond (Z 10) (.seq (.reg [oo 11 (.mov (Z 3)), oo 2 (.mov (Z 11))]) .ret) .skip))) (.seq (.seq (.reg [oo 12 (.faddr (Z 1) 8), oo 13 (.load none (Z 12)), oo 14 (.len false (Z 13)), oo 15 (.bin .gtr (Z 14) (.con (i6 20)))]) (.cond (Z 15) (.seq (.reg [oo 2 (.mov (.con (i6 5)))]) .ret) .skip)) (.seq (.seq (.reg [oo 16 (.faddr (Z 1) 8), oo 17 (.load none (Z 16)), oo 18 (.len false (Z 17)), oo 19 (.mov (.con (i6 0)))]) (.block 0 (.loop (.seq (.reg [oo 20 (.bin .lss (Z 19) (Z 18))]) (.seq (.cond (Z 20) .skip (.exit 0)) (.seq (.block 1 (.seq (.reg [oo 21 (.iaddr (Z 17) (Z 19) 7 none), oo 22 (.load (some 7) (Z 21)), oo 5 (.box (.con (.agg [i6 0, i6 0, i6 0, i6 0, i6 0, i6 0, i6 0]))), on (.store 7 (Z 5) (Z 22))]) (.seq (.reg [oo 23 (.load (some 9) (Z 1)), oo 24 (.load (some 7) (Z 5)), oo 25 (.call (.con (.fn 56 [] [])) [(Z 23), (Z 24)]), oo 6 (.mov (Z 25))]) (.seq (.reg [oo 26 (.mov (Z 6)), oo 27 (.bin .neq (Z 26) (.con (i6 0)))]) (.cond (Z 27) (.seq (.reg [oo 28 (.mov (Z 6)), oo 2 (.mov (Z 28))]) .ret) .skip))))) (.reg [oo 29 (.bin .add (Z 19) (.con (i6 1))), oo 19 (.mov (Z 29))]))))))) (.seq (.reg [oo 2 (.mov (.con (i6 0)))]) .ret)))))⟩
theorem comp35 : compFn Try.prog 35 = some F35 := by kernel_rfl
def F36 : AFn := ⟨1, 49, [.cell 2 (some 102)], (.seq (.reg [oo 1 (.box (Z 0)), oo 2 (.box (.con (.agg [i6 0, i6 0, i6 0, i6 0, i6 0, i6 0, i6 0, i6 0, .nils, i6 0, i6 0, i6 0, i6 0, i6 0, i6 0, i6 0, i6 0, i6 0, i6 0, i6 0, i6 0, i6 0, i6 0, i6 0, i6 0, i6 0, i6 0, i6 0, i6 0, i6 0, i6 0, i6 0, i6 0, i6 0, i6 0, i6 0, i6 0, i6 0, i6 0, i6 0, i6 0, i6 0, i6 0, i6 0, i6 0, i6 0, i6 0, i6 0, i6 0, i6 0, i6 0, i6 0, i6 0, i6 0, i6 0, i6 0, i6 0, i6 0, i6 0, .nils, i6 0, i6 0, i6 0, i6 0, i6 0, i6 0, i6 0, i6 0, i6 0, i6 0, i6 0, i6 0, i6 0, i6 0, i6 0, i6 0, i6 0, i6 0, i6 0, i6 0, i6 0, i6 0, i6 0, i6 0, i6 0, i6 0, i6 0, i6 0, i6 0, i6 0, i6 0, i6 0, i6 0, i6 0, i6 0, i6 0, i6 0, i6 0, i6 0, i6 0, i6 0, i6 0])))]) (.seq (.reg [oo 6 (.load (some 9) (Z 1)), oo 7 (.build [i6 0, i6 0, i6 0, i6 0, i6 0, i6 0, i6 0, i6 0, .nils, i6 0, i6 0, i6 0, i6 0, i6 0, i6 0, i6 0, i6 0, i6 0, i6 0, i6 0, i6 0, i6 0, i6 0, i6 0, i6 0, i6 0, i6 0, i6 0, i6 0, i6 0, i6 0, i6 0, i6 0, i6 0, i6 0, i6 0, i6 0, i6 0, i6 0, i6 0, i6 0, i6 0, i6 0, i6 0, i6 0, i6 0, i6 0, i6 0, i6 0, i6 0, i6 0] [(0, 9, (Z 6))]), oo 8 (.load (some 9) (Z 1)), oo 9 (.build [i6 0, i6 0, i6 0, i6 0, i6 0, i6 0, i6 0, i6 0, .nils, i6 0, i6 0, i6 0, i6 0, i6 0, i6 0, i6 0, i6 0, i6 0, i6 0, i6 0, i6 0, i6 0, i6 0, i6 0, i6 0, i6 0, i6 0, i6 0, i6 0, i6 0, i6 0, i6 0, i6 0, i6 0, i6 0, i6 0, i6 0, i6 0, i6 0, i6 0, i6 0, i6 0, i6 0, i6 0, i6 0, i6 0, i6 0, i6 0, i6 0, i6 0, i6 0] [(0, 9, (Z 8))]), oo 10 (.build [i6 0, i6 0, i6 0, i6 0, i6 0, i6 0, i6 0, i6 0, .nils, i6 0, i6 0, i6 0, i6 0, i6 0, i6 0, i6 0, i6 0, i6 0, i6 0, i6 0, i6 0, i6 0, i6 0, i6 0, i6 0, i6 0, i6 0, i6 0, i6 0, i6 0, i6 0, i6 0, i6 0, i6 0, i6 0, i6 0, i6 0, i6 0, i6 0, i6 0, i6 0, i6 0, i6 0, i6 0, i6 0, i6 0, i6 0, i6 0, i6 0, i6 0, i6 0, i6 0, i6 0, i6 0, i6 0, i6 0, i6 0, i6 0, i6 0, .nils, i6 0, i6 0, i6 0, i6 0, i6 0, i6 0, i6 0, i6 0, i6 0, i6 0, i6 0, i6 0, i6 0, i6 0, i6 0, i6 0, i6 0, i6 0, i6 0, i6 0, i6 0, i6 0, i6 0, i6 0, i6 0, i6 0, i6 0, i6 0, i6 0, i6 0, i6 0, i6 0, i6 0, i6 0, i6 0, i6 0, i6 0, i6 0, i6 0, i6 0, i6 0, i6 0] [(0, 51, (Z 7)), (51, 51, (Z 9))]), oo 3 (.box (.con (.agg [i6 0, i6 0, i6 0, i6 0, i6 0, i6 0, i6 0, i6 0, .nils, i6 0, i6 0, i6 0, i6 0, i6 0, i6 0, i6 0, i6 0, i6 0, i6 0, i6 0, i6 0, i6 0, i6 0, i6 0, i6 0, i6 0, i6 0, i6 0, i6 0, i6 0, i6 0, i6 0, i6 0, i6 0, i6 0, i6 0, i6 0, i6 0, i6 0, i6 0, i6 0, i6 0, i6 0, i6 0, i6 0, i6 0, i6 0, i6 0, i6 0, i6 0, i6 0, i6 0, i6 0, i6 0, i6 0, i6 0, i6 0, i6 0, i6 0, .nils, i6 0, i6 0, i6 0, i6 0, i6 0, i6 0, i6 0, i6 0, i6 0, i6 0, i6 0, i6 0, i6 0, i6 0, i6 0, i6 0, i6 0, i6 0, i6 0, i6 0, i6 0, i6 0, i6 0, i6 0, i6 0, i6 0, i6 0, i6 0, i6 0, i6 0, i6 0, i6 0, i6 0, i6 0, i6 0, i6 0, i6 0, i6 0, i6 0, i6 0, i6 0, i6 0]))), on (.store 102 (Z 3) (Z 10))]) (.seq (.seq (.reg [oo 11 (.faddr (Z 1) 8), oo 12 (.load none (Z 11)), oo 13 (.len false (Z 12)), oo 14 (.mov (.con (i6 0)))]) (.block 0 (.loop (.seq (.reg [oo 15 (.bin .lss (Z 14) (Z 13))]) (.seq (.cond (Z 15) .skip (.exit 0)) (.seq (.block 1 (.seq (.reg [oo 16 (.mov (Z 14)), oo 17 (.iaddr (Z 12) (Z 14) 7 none), oo 18 (.load (some 7) (Z 17)), oo 5 (.box (.con (.agg [i6 0, i6 0, i6 0, i6 0, i6 0, i6 0, i6 0]))), oo 4 (.mov (Z 16)), on (.store 7 (Z 5) (Z 18))]) (.seq (.dreg 14 [oo 19 (.mov (Z 4)), oo 20 (.mov (Z 4)), oo 21 (.faddr (Z 5) 1), oo 22 (.faddr (Z 21) 0), oo 23 (.load none (Z 22)), oo 24 (.faddr (Z 5) 1), oo 25 (.faddr (Z 24) 1), oo 26 (.load none (Z 25)), oo 27 (.iaddr (Z 3) (.con (i6 0)) 51 (some 2)), oo 28 (.faddr (Z 27) 9), oo 29 (.iaddr (Z 28) (Z 19) 1 (some 21)), on (.store 1 (Z 29) (Z 23)), oo 30 (.iaddr (Z 3) (.con (i6 1)) 51 (some 2)), oo 31 (.faddr (Z 30) 9), oo 32 (.iaddr (Z 31) (Z 20) 1 (some 21)), on (.store 1 (Z 32) (Z 26))]) (.dreg 14 [oo 33 (.mov (Z 4)), oo 34 (.mov (Z 4)), oo 35 (.faddr (Z 5) 3), oo 36 (.faddr (Z 35) 0), oo 37 (.load none (Z 36)), oo 38 (.faddr (Z 5) 3), oo 39 (.faddr (Z 38) 1), oo 40 (.load none (Z 39)), oo 41 (.iaddr (Z 3) (.con (i6 0)) 51 (some 2)), oo 42 (.faddr (Z 41) 30), oo 43 (.iaddr (Z 42) (Z 33) 1 (some 21)), on (.store 1 (Z 43) (Z 37)), oo 44 (.iaddr (Z 3) (.con (i6 1)) 51 (some 2)), oo 45 (.faddr (Z 44) 30), oo 46 (.iaddr (Z 45) (Z 34) 1 (some 21)), on (.store 1 (Z 46) (Z 40))])))) (.reg [oo 47 (.bin .add (Z 14) (.con (i6 1))), oo 14 (.mov (Z 47))]))))))) (.seq (.reg [oo 48 (.load (some 102) (Z 3)), on (.store 102 (Z 2) (Z 48))]) .ret))))⟩
theorem comp36 : compFn Try.prog 36 = some F36 := by kernel_rfl
def F37 : AFn := ⟨1, 19, [.tmp 2], (.seq (.reg [oo 1 (.box (Z 0)), oo 2 (.mov (.con (i6 0)))]) (.seq (.reg [oo 3 (.mov (.con (i6 0)))]) (.seq (.seq (.reg [oo 6 (.load (some 51) (Z 1)), oo 7 (.call (.con (.fn 57 [] [])) [(Z 6)]), oo 8 (.len false (Z 7)), oo 9 (.mov (.con (i6 0)))]) (.block 0 (.loop (.seq (.reg [oo 10 (.bin .lss (Z 9) (Z 8))]) (.seq (.cond (Z 10) .skip (.exit 0)) (.seq (.block 1 (.seq (.reg [oo 11 (.iaddr (Z 7) (Z 9) 2 none), oo 12 (.load (some 2) (Z 11)), oo 5 (.box (.con (.agg [i6 0, i6 0]))), on (.store 2 (Z 5) (Z 12))]) (.reg [oo 13 (.mov (Z 3)), oo 14 (.faddr (Z 5) 0), oo 15 (.load none (Z 14)), oo 16 (.bin .add (Z 13) (Z 15)), oo 3 (.mov (Z 16))]))) (.reg [oo 17 (.bin .add (Z 9) (.con (i6 1))), oo 9 (.mov (Z 17))]))))))) (.seq (.reg [oo 18 (.mov (Z 3)), oo 2 (.mov (Z 18))]) .ret))))⟩
theorem comp37 : compFn Try.prog 37 = some F37 := by kernel_rfl
def F38 : AFn := ⟨3, 16, [.cell 6 (some 2)], (.seq (.reg [oo 6 (.box (.con (.agg [i6 0, i6 0])))]) (.seq (.reg [oo 7 (.mov (Z 0)), oo 8 (.mov (Z 2)), oo 9 (.call (.con (.fn 58 [] [])) [(Z 7), (Z 8)]), oo 10 (.mov (Z 1)), oo 11 (.un .neg (Z 10)), oo 12 (.mov (Z 2)), oo 13 (.call (.con (.fn 58 [] [])) [(Z 11), (Z 12)]), oo 14 (.un .neg (Z 13)), oo 15 (.build [i6 0, i6 0] [(0, 1, (Z 9)), (1, 1, (Z 14))]), on (.store 2 (Z 6) (Z 15))]) .ret))⟩
theorem comp38 : compFn Try.prog 38 = some F38 := by kernel_rfl
def F39 : AFn := ⟨1, 10, [.tmp 2], (.seq (.reg [oo 1 (.box (Z 0)), oo 2 (.mov (.con (i6 0)))]) (.seq (.dreg 5 [oo 3 (.faddr (Z 1) 0), oo 4 (.faddr (Z 3) 3), oo 5 (.load none (Z 4)), oo 6 (.load (some 51) (Z 1)), oo 7 (.call (.con (.fn 57 [] [])) [(Z 6)]), oo 8 (.call (.con (.fn 59 [] [])) [(Z 5), (Z 7)]), oo 9 (.un .neg (Z 8)), oo 2 (.mov (Z 9))]) .ret))⟩
theorem comp39 : compFn Try.prog 39 = some F39 := by kernel_rfl
def F40 : AFn := ⟨1, 9, [.tmp 2], (.seq (.reg [oo 1 (.box (Z 0)), oo 2 (.mov (.con (i6 0)))]) (.seq (.dreg 5 [oo 3 (.faddr (Z 1) 0), oo 4 (.faddr (Z 3) 2), oo 5 (.load none (Z 4)), oo 6 (.load (some 51) (Z 1)), oo 7 (.call (.con (.fn 57 [] [])) [(Z 6)]), oo 8 (.call (.con (.fn 59 [] [])) [(Z 5), (Z 7)]), oo 2 (.mov (Z 8))]) .ret))⟩
theorem comp40 : compFn Try.prog 40 = some F40 := by kernel_rfl
def F41 : AFn := ⟨1, 23, [.tmp 2], (.seq (.reg [oo 1 (.box (Z 0)), oo 2 (.mov (.con (i6 0)))]) (.seq (.reg [oo 5 (.faddr (Z 1) 0), oo 6 (.faddr (Z 5) 7), oo 7 (.load none (Z 6)), oo 3 (.mov (Z 7))]) (.seq (.seq (.reg [oo 8 (.faddr (Z 1) 0), oo 9 (.faddr (Z 8) 8), oo 10 (.load none (Z 9)), oo 11 (.len false (Z 10)), oo 12 (.mov (.con (i6 0)))]) (.block 0 (.loop (.seq (.reg [oo 13 (.bin .lss (Z 12) (Z 11))]) (.seq (.cond (Z 13) .skip (.exit 0)) (.seq (.block 1 (.seq (.reg [oo 14 (.mov (Z 12)), oo 4 (.mov (Z 14))]) (.reg [oo 15 (.mov (Z 3)), oo 16 (.mov (Z 4)), oo 17 (.faddr (Z 1) 30), oo 18 (.iaddr (Z 17) (Z 16) 1 (some 21)), oo 19 (.load none (Z 18)), oo 20 (.mx (Z 15) (Z 19)), oo 3 (.mov (Z 20))]))) (.reg [oo 21 (.bin .add (Z 12) (.con (i6 1))), oo 12 (.mov (Z 21))]))))))) (.seq (.reg [oo 22 (.mov (Z 3)), oo 2 (.mov (Z 22))]) .ret))))⟩
theorem comp41 : compFn Try.prog 41 = some F41 := by kernel_rfl
def F42 : AFn := ⟨2, 9, [.tmp 4], (.seq (.reg [oo 4 (.mov (.con (i6 0)))]) (.seq (.block 0 (.seq (.reg [oo 6 (.mov (Z 0)), oo 5 (.mov (Z 6))]) (.cond (Z 5) (.seq (.reg [oo 4 (.mov (.con (i6 1)))]) .ret) (.seq (.reg [oo 8 (.mov (Z 1)), oo 7 (.mov (Z 8))]) (.cond (Z 7) (.seq (.reg [oo 4 (.mov (.con (i6 3)))]) .ret) .skip))))) (.seq (.reg [oo 4 (.mov (.con (i6 2)))]) .ret)))⟩
theorem comp42 : compFn Try.prog 42 = some F42 := by kernel_rfl
def F43 : AFn := ⟨1, 11, [.tmp 2], (.seq (.reg [oo 1 (.box (Z 0)), oo 2 (.mov (.con (.bool false)))]) (.seq (.reg [oo 3 (.load (some 51) (Z 1)), oo 4 (.call (.con (.fn 39 [] [])) [(Z 3)]), oo 5 (.bin .geq (Z 4) (.con (i6 0))), oo 6 (.mov (Z 5)), ⟨some 7, .load (some 51) (Z 1), some (6, true)⟩, ⟨some 8, .call (.con (.fn 40 [] [])) [(Z 7)], some (6, true)⟩, ⟨some 9, .bin .geq (Z 8) (.con (i6 0)), some (6, true)⟩, oo 10 (.pick (Z 6) (Z 9) (.con (.bool false))), oo 2 (.mov (Z 10))]) .ret))⟩
theorem comp43 : compFn Try.prog 43 = some F43 := by kernel_rfl
def F44 : AFn := ⟨2, 13, [.tmp 4], (.seq (.reg [oo 2 (.box (Z 0)), oo 4 (.mov (.con (i6 0)))]) (.seq (.seq (.reg [oo 6 (.load (some 9) (Z 2)), oo 7 (.call (.con (.fn 35 [] [])) [(Z 6)]), oo 5 (.mov (Z 7))]) (.seq (.reg [oo 8 (.mov (Z 5)), oo 9 (.bin .neq (Z 8) (.con (i6 0)))]) (.cond (Z 9) (.seq (.reg [oo 10 (.mov (Z 5)), oo 4 (.mov (Z 10))]) .ret) .skip))) (.seq (.reg [oo 11 (.mov (Z 1)), oo 12 (.call (.con (.fn 60 [] [])) [(Z 11)]), oo 4 (.mov (Z 12))]) .ret)))⟩
theorem comp44 : compFn Try.prog 44 = some F44 := by kernel_rfl
def F45 : AFn := ⟨2, 37, [.tmp 4], (.seq (.reg [oo 2 (.box (Z 0)), oo 4 (.mov (.con (.nils)))]) (.seq (.reg [oo 11 (.load (some 9) (Z 2)), oo 12 (.call (.con (.fn 36 [] [])) [(Z 11)]), oo 5 (.box (.con (.agg [i6 0, i6 0, i6 0, i6 0, i6 0, i6 0, i6 0, i6 0, .nils, i6 0, i6 0, i6 0, i6 0, i6 0, i6 0, i6 0, i6 0, i6 0, i6 0, i6 0, i6 0, i6 0, i6 0, i6 0, i6 0, i6 0, i6 0, i6 0, i6 0, i6 0, i6 0, i6 0, i6 0, i6 0, i6 0, i6 0, i6 0, i6 0, i6 0, i6 0, i6 0, i6 0, i6 0, i6 0, i6 0, i6 0, i6 0, i6 0, i6 0, i6 0, i6 0, i6 0, i6 0, i6 0, i6 0, i6 0, i6 0, i6 0, i6 0, .nils, i6 0, i6 0, i6 0, i6 0, i6 0, i6 0, i6 0, i6 0, i6 0, i6 0, i6 0, i6 0, i6 0, i6 0, i6 0, i6 0, i6 0, i6 0, i6 0, i6 0, i6 0, i6 0, i6 0, i6 0, i6 0, i6 0, i6 0, i6 0, i6 0, i6 0, i6 0, i6 0, i6 0, i6 0, i6 0, i6 0, i6 0, i6 0, i6 0, i6 0, i6 0, i6 0]))), on (.store 102 (Z 5) (Z 12))]) (.seq (.dreg 7 [oo 13 (.iaddr (Z 5) (.con (i6 1)) 51 (some 2)), oo 14 (.load (some 51) (Z 13)), oo 15 (.mkfn 61 [(Z 14)] []), oo 16 (.iaddr (Z 5) (.con (i6 0)) 51 (some 2)), oo 17 (.load (some 51) (Z 16)), oo 18 (.mkfn 61 [(Z 17)] []), oo 6 (.mov (Z 15)), oo 7 (.mov (Z 18))]) (.seq (.reg [oo 8 (.mov (.con (.nils)))]) (.seq (.seq (.reg [oo 19 (.mov (Z 1)), oo 20 (.len false (Z 19)), oo 21 (.mov (.con (i6 0)))]) (.block 0 (.loop (.seq (.reg [oo 22 (.bin .lss (Z 21) (Z 20))]) (.seq (.cond (Z 22) .skip (.exit 0)) (.seq (.block 1 (.seq (.reg [oo 23 (.iaddr (Z 19) (Z 21) 3 none), oo 24 (.load (some 3) (Z 23)), oo 10 (.box (.con (.agg [i6 0, i6 0, i6 0]))), on (.store 3 (Z 10) (Z 24))]) (.dreg 9 [oo 25 (.mov (Z 8)), oo 26 (.mov (Z 6)), oo 27 (.load (some 3) (Z 10)), oo 28 (.call (Z 26) [(Z 27)]), oo 29 (.mov (Z 7)), oo 30 (.load (some 3) (Z 10)), oo 31 (.call (Z 29) [(Z 30)]), oo 32 (.call (.con (.fn 42 [] [])) [(Z 28), (Z 31)]), oo 33 (.bsl 1 false [i6 0] 1 [(0, (Z 32))]), oo 34 (.app (Z 25) (Z 33) 1 8 [i6 0]), oo 8 (.mov (Z 34))]))) (.reg [oo 35 (.bin .add (Z 21) (.con (i6 1))), oo 21 (.mov (Z 35))]))))))) (.seq (.reg [oo 36 (.mov (Z 8)), oo 4 (.mov (Z 36))]) .ret))))))⟩
theorem comp45 : compFn Try.prog 45 = some F45 := by kernel_rfl
def F46 : AFn := ⟨0, 15, [.cell 0 (some 9)], (.seq (.reg [oo 0 (.box (.con (.agg [i6 0, i6 0, i6 0, i6 0, i6 0, i6 0, i6 0, i6 0, .nils])))]) (.seq (.reg [oo 1 (.call (.con (.fn 19 [] [])) [(.con (i6 500)), (.con (i6 600))]), oo 2 (.call (.con (.fn 19 [] [])) [(.con (i6 450)), (.con (i6 500))]), oo 3 (.build [i6 0, i6 0, i6 0, i6 0, i6 0, i6 0, i6 0] [(0, 1, (.con (i6 300))), (1, 2, (Z 1)), (3, 2, (Z 2)), (5, 1, (.con (i6 1)))]), oo 4 (.call (.con (.fn 33 [] [])) [(.con (i6 1000))]), oo 5 (.call (.con (.fn 33 [] [])) [(.con (i6 380))]), oo 6 (.build [i6 0, i6 0, i6 0, i6 0, i6 0, i6 0, i6 0] [(0, 1, (.con (i6 700))), (1, 2, (Z 4)), (3, 2, (Z 5)), (5, 1, (.con (i6 2))), (6, 1, (.con (i6 5000)))]), oo 7 (.call (.con (.fn 19 [] [])) [(.con (i6 100)), (.con (i6 200))]), oo 8 (.call (.con (.fn 19 [] [])) [(.con (i6 300)), (.con (i6 350))]), oo 9 (.build [i6 0, i6 0, i6 0, i6 0, i6 0, i6 0, i6 0] [(0, 1, (.con (i6 500))), (1, 2, (Z 7)), (3, 2, (Z 8)), (5, 1, (.con (i6 3))), (6, 1, (.con (i6 3000)))]), oo 10 (.call (.con (.fn 33 [] [])) [(.con (i6 50))]), oo 11 (.call (.con (.fn 19 [] [])) [(.con (i6 400)), (.con (i6 520))]), oo 12 (.build [i6 0, i6 0, i6 0, i6 0, i6 0, i6 0, i6 0] [(0, 1, (.con (i6 600))), (1, 2, (Z 10)), (3, 2, (Z 11)), (5, 1, (.con (i6 4)))]), oo 13 (.bsl 7 true [i6 0, i6 0, i6 0, i6 0, i6 0, i6 0, i6 0] 4 [(0, (Z 3)), (1, (Z 6)), (2, (Z 9)), (3, (Z 12))]), oo 14 (.build [i6 0, i6 0, i6 0, i6 0, i6 0, i6 0, i6 0, i6 0, .nils] [(0, 1, (.con (i6 1000))), (1, 1, (.con (i6 300))), (2, 1, (.con (i6 200))), (3, 1, (.con (i6 800))), (4, 1, (.con (i6 900))), (5, 1, (.con (i6 4000))), (6, 1, (.con (i6 500))), (7, 1, (.con (i6 400))), (8, 1, (Z 13))]), on (.store 9 (Z 0) (Z 14))]) .ret))⟩
theorem comp46 : compFn Try.prog 46 = some F46 := by kernel_rfl
def F47 : AFn := ⟨3, 11, [.cell 6 (some 3)], (.seq (.reg [oo 6 (.box (.con (.agg [i6 0, i6 0, i6 0])))]) (.seq (.reg [oo 7 (.mov (Z 0)), oo 8 (.mov (Z 1)), oo 9 (.mov (Z 2)), oo 10 (.build [i6 0, i6 0, i6 0] [(0, 1, (Z 7)), (1, 1, (Z 8)), (2, 1, (Z 9))]), on (.store 3 (Z 6) (Z 10))]) .ret))⟩
theorem comp47 : compFn Try.prog 47 = some F47 := by kernel_rfl
def F48 : AFn := ⟨3, 38, [.cell 6 (some 2), .tmp 7], (.seq (.reg [oo 3 (.box (Z 0)), oo 4 (.box (Z 1)), oo 5 (.box (Z 2)), oo 6 (.box (.con (.agg [i6 0, i6 0]))), oo 7 (.mov (.con (i6 0)))]) (.seq (.seq (.reg [oo 11 (.load (some 9) (Z 3)), oo 12 (.load none (Z 4)), oo 13 (.call (.con (.fn 44 [] [])) [(Z 11), (Z 12)]), oo 8 (.mov (Z 13))]) (.seq (.reg [oo 14 (.mov (Z 8)), oo 15 (.bin .neq (Z 14) (.con (i6 0)))]) (.cond (Z 15) (.seq (.reg [oo 16 (.build [i6 0, i6 0] []), oo 17 (.mov (Z 8)), on (.store 2 (Z 6) (Z 16)), oo 7 (.mov (Z 17))]) .ret) .skip))) (.seq (.seq (.reg [oo 18 (.load none (Z 5)), oo 19 (.faddr (Z 3) 2), oo 20 (.load none (Z 19)), oo 21 (.faddr (Z 3) 3), oo 22 (.load none (Z 21)), oo 23 (.call (.con (.fn 62 [] [])) [(Z 18), (Z 20), (Z 22)]), oo 24 (.un .not (Z 23))]) (.cond (Z 24) (.seq (.reg [oo 25 (.build [i6 0, i6 0] []), on (.store 2 (Z 6) (Z 25)), oo 7 (.mov (.con (i6 2)))]) .ret) .skip)) (.seq (.reg [oo 26 (.mkfn 64 [] [(Z 3), (Z 5)]), oo 27 (.call (.con (.fn 63 [] [])) [(.con (i6 100001)), (Z 26)]), oo 9 (.mov (Z 27))]) (.seq (.reg [oo 28 (.mkfn 66 [] [(Z 3), (Z 5), (Z 4)]), oo 29 (.call (.con (.fn 63 [] [])) [(.con (i6 100001)), (Z 28)]), oo 10 (.mov (Z 29))]) (.seq (.seq (.reg [oo 30 (.mov (Z 9)), oo 31 (.mov (Z 10)), oo 32 (.bin .geq (Z 30) (Z 31))]) (.cond (Z 32) (.seq (.reg [oo 33 (.build [i6 0, i6 0] []), on (.store 2 (Z 6) (Z 33)), oo 7 (.mov (.con (i6 7)))]) .ret) .skip)) (.seq (.reg [oo 34 (.mov (Z 9)), oo 35 (.mov (Z 10)), oo 36 (.bin .sub (Z 35) (.con (i6 1))), oo 37 (.build [i6 0, i6 0] [(0, 1, (Z 34)), (1, 1, (Z 36))]), on (.store 2 (Z 6) (Z 37)), oo 7 (.mov (.con (i6 0)))]) .ret)))))))⟩
theorem comp48 : compFn Try.prog 48 = some F48 := by kernel_rfl
def F49 : AFn := ⟨1, 8, [.cell 2 (some 9)], (.seq (.reg [oo 2 (.box (.con (.agg [i6 0, i6 0, i6 0, i6 0, i6 0, i6 0, i6 0, i6 0, .nils])))]) (.seq (.reg [oo 4 (.call (.con (.fn 46 [] [])) []), oo 3 (.box (.con (.agg [i6 0, i6 0, i6 0, i6 0, i6 0, i6 0, i6 0, i6 0, .nils]))), on (.store 9 (Z 3) (Z 4))]) (.seq (.reg [oo 5 (.mov (Z 0)), oo 6 (.faddr (Z 3) 6), on (.store 1 (Z 6) (Z 5))]) (.seq (.reg [oo 7 (.load (some 9) (Z 3)), on (.store 9 (Z 2) (Z 7))]) .ret))))⟩
theorem comp49 : compFn Try.prog 49 = some F49 := by kernel_rfl
def F50 : AFn := ⟨2, 26, [.tmp 4], (.seq (.reg [oo 4 (.mov (.con (.bool false)))]) (.seq (.seq (.reg [oo 6 (.mov (Z 0)), oo 7 (.len false (Z 6)), oo 8 (.mov (Z 1)), oo 9 (.len false (Z 8)), oo 10 (.bin .neq (Z 7) (Z 9))]) (.cond (Z 10) (.seq (.reg [oo 4 (.mov (.con (.bool false)))]) .ret) .skip)) (.seq (.seq (.reg [oo 5 (.mov (.con (i6 0)))]) (.block 0 (.loop (.seq (.seq (.reg [oo 11 (.mov (Z 5)), oo 12 (.mov (Z 0)), oo 13 (.len false (Z 12)), oo 14 (.bin .lss (Z 11) (Z 13))]) (.cond (Z 14) .skip (.exit 0))) (.seq (.block 1 (.seq (.dreg 8 [oo 17 (.mov (Z 0)), oo 18 (.mov (Z 5)), oo 19 (.iaddr (Z 17) (Z 18) 1 none), oo 20 (.load none (Z 19)), oo 21 (.mov (Z 1)), oo 22 (.mov (Z 5)), oo 23 (.iaddr (Z 21) (Z 22) 1 none), oo 24 (.load none (Z 23)), oo 25 (.bin .neq (Z 20) (Z 24))]) (.cond (Z 25) (.seq (.reg [oo 4 (.mov (.con (.bool false)))]) .ret) .skip))) (.reg [oo 15 (.mov (Z 5)), oo 16 (.bin .add (Z 15) (.con (i6 1))), oo 5 (.mov (Z 16))])))))) (.seq (.reg [oo 4 (.mov (.con (.bool true)))]) .ret))))⟩
theorem comp50 : compFn Try.prog 50 = some F50 := by kernel_rfl
def F51 : AFn := ⟨3, 36, [.cell 6 (some 2)], (.seq (.reg [oo 6 (.box (.con (.agg [i6 0, i6 0])))]) (.seq (.reg [oo 8 (.mov (Z 0)), oo 9 (.mov (Z 1)), oo 10 (.mov (Z 2)), oo 11 (.call (.con (.fn 29 [] [])) [(Z 8), (Z 9), (Z 10)]), oo 7 (.mov (Z 11))]) (.seq (.seq (.reg [oo 12 (.mov (Z 0)), oo 13 (.call (.con (.fn 25 [] [])) [(Z 12), (.con (i6 3))])]) (.block 0 (.seq (.reg [oo 15 (.bin .eql (Z 13) (.con (i6 0))), oo 14 (.mov (Z 15))]) (.cond (Z 14) (.seq (.reg [oo 16 (.mov (Z 7)), oo 17 (.mov (Z 7)), oo 18 (.build [i6 0, i6 0] [(0, 1, (Z 16)), (1, 1, (Z 17))]), on (.store 2 (Z 6) (Z 18))]) .ret) (.seq (.reg [oo 20 (.bin .eql (Z 13) (.con (i6 1))), oo 19 (.mov (Z 20))]) (.cond (Z 19) (.seq (.reg [oo 21 (.mov (Z 7)), oo 22 (.mov (Z 0)), oo 23 (.mov (Z 7)), oo 24 (.mov (Z 2)), oo 25 (.mov (Z 7)), oo 26 (.bin .add (Z 25) (.con (i6 3))), oo 27 (.mn (Z 24) (Z 26)), oo 28 (.call (.con (.fn 29 [] [])) [(Z 22), (Z 23), (Z 27)]), oo 29 (.build [i6 0, i6 0] [(0, 1, (Z 21)), (1, 1, (Z 28))]), on (.store 2 (Z 6) (Z 29))]) .ret) .skip)))))) (.seq (.reg [oo 30 (.mov (Z 7)), oo 31 (.mov (Z 0)), oo 32 (.mov (Z 7)), oo 33 (.mov (Z 2)), oo 34 (.call (.con (.fn 29 [] [])) [(Z 31), (Z 32), (Z 33)]), oo 35 (.build [i6 0, i6 0] [(0, 1, (Z 30)), (1, 1, (Z 34))]), on (.store 2 (Z 6) (Z 35))]) .ret))))⟩
theorem comp51 : compFn Try.prog 51 = some F51 := by kernel_rfl
def F52 : AFn := ⟨1, 81, [.tmp 2], (.seq (.reg [oo 1 (.box (Z 0)), oo 2 (.mov (.con (i6 0)))]) (.seq (.seq (.reg [oo 5 (.faddr (Z 1) 0), oo 6 (.load none (Z 5)), oo 7 (.call (.con (.fn 68 [] [])) [(Z 6), (.con (i6 1)), (.con (i6 3000))]), oo 8 (.un .not (Z 7)), oo 9 (.mov (Z 8)), ⟨some 10, .faddr (Z 1) 1, some (9, false)⟩, ⟨some 11, .load none (Z 10), some (9, false)⟩, ⟨some 12, .call (.con (.fn 68 [] [])) [(Z 11), (.con (i6 1)), (.con (i6 1000))], some (9, false)⟩, ⟨some 13, .un .not (Z 12), some (9, false)⟩, oo 14 (.pick (Z 9) (.con (.bool true)) (Z 13)), oo 15 (.mov (Z 14)), ⟨some 16, .faddr (Z 1) 2, some (15, false)⟩, ⟨some 17, .load none (Z 16), some (15, false)⟩, ⟨some 18, .faddr (Z 1) 0, some (15, false)⟩, ⟨some 19, .load none (Z 18), some (15, false)⟩, ⟨some 20, .call (.con (.fn 68 [] [])) [(Z 17), (.con (i6 0)), (Z 19)], some (15, false)⟩, ⟨some 21, .un .not (Z 20), some (15, false)⟩, oo 22 (.pick (Z 15) (.con (.bool true)) (Z 21)), oo 23 (.mov (Z 22)), ⟨some 24, .faddr (Z 1) 3, some (23, false)⟩, ⟨some 25, .load none (Z 24), some (23, false)⟩, ⟨some 26, .faddr (Z 1) 0, some (23, false)⟩, ⟨some 27, .load none (Z 26), some (23, false)⟩, ⟨some 28, .call (.con (.fn 68 [] [])) [(Z 25), (.con (i6 0)), (Z 27)], some (23, false)⟩, ⟨some 29, .un .not (Z 28), some (23, false)⟩, oo 30 (.pick (Z 23) (.con (.bool true)) (Z 29))]) (.cond (Z 30) (.seq (.reg [oo 2 (.mov (.con (i6 2)))]) .ret) .skip)) (.seq (.seq (.reg [oo 31 (.faddr (Z 1) 2), oo 32 (.load none (Z 31)), oo 33 (.faddr (Z 1) 3), oo 34 (.load none (Z 33)), oo 35 (.bin .geq (Z 32) (Z 34))]) (.cond (Z 35) (.seq (.reg [oo 2 (.mov (.con (i6 9)))]) .ret) .skip)) (.seq (.seq (.reg [oo 36 (.faddr (Z 1) 4), oo 37 (.load none (Z 36)), oo 38 (.call (.con (.fn 68 [] [])) [(Z 37), (.con (i6 0)), (.con (i6 20000))]), oo 39 (.un .not (Z 38)), oo 40 (.mov (Z 39)), ⟨some 41, .faddr (Z 1) 5, some (40, false)⟩, ⟨some 42, .load none (Z 41), some (40, false)⟩, ⟨some 43, .call (.con (.fn 68 [] [])) [(Z 42), (.con (i6 0)), (.con (i6 100000))], some (40, false)⟩, ⟨some 44, .un .not (Z 43), some (40, false)⟩, oo 45 (.pick (Z 40) (.con (.bool true)) (Z 44)), oo 46 (.mov (Z 45)), ⟨some 47, .faddr (Z 1) 6, some (46, false)⟩, ⟨some 48, .load none (Z 47), some (46, false)⟩, ⟨some 49, .faddr (Z 1) 0, some (46, false)⟩, ⟨some 50, .load none (Z 49), some (46, false)⟩, ⟨some 51, .call (.con (.fn 68 [] [])) [(Z 48), (.con (i6 0)), (Z 50)], some (46, false)⟩, ⟨some 52, .un .not (Z 51), some (46, false)⟩, oo 53 (.pick (Z 46) (.con (.bool true)) (Z 52)), oo 54 (.mov (Z 53)), ⟨some 55, .faddr (Z 1) 7, some (54, false)⟩, ⟨some 56, .load none (Z 55), some (54, false)⟩, ⟨some 57, .call (.con (.fn 68 [] [])) [(Z 56), (.con (i6 0)), (.con (i6 2000))], some (54, false)⟩, ⟨some 58, .un .not (Z 57), some (54, false)⟩, oo 59 (.pick (Z 54) (.con (.bool true)) (Z 58))]) (.cond (Z 59) (.seq (.reg [oo 2 (.mov (.con (i6 2)))]) .ret) .skip)) (.seq (.seq (.reg [oo 60 (.faddr (Z 1) 8), oo 61 (.load none (Z 60)), oo 62 (.len false (Z 61)), oo 63 (.bin .gtr (Z 62) (.con (i6 20)))]) (.cond (Z 63) (.seq (.reg [oo 2 (.mov (.con (i6 5)))]) .ret) .skip)) (.seq (.seq (.reg [oo 3 (.mov (.con (i6 0)))]) (.block 0 (.loop (.seq (.seq (.reg [oo 64 (.mov (Z 3)), oo 65 (.faddr (Z 1) 8), oo 66 (.load none (Z 65)), oo 67 (.len false (Z 66)), oo 68 (.bin .lss (Z 64) (Z 67))]) (.cond (Z 68) .skip (.exit 0))) (.seq (.block 1 (.seq (.dreg 6 [oo 71 (.load (some 9) (Z 1)), oo 72 (.faddr (Z 1) 8), oo 73 (.load none (Z 72)), oo 74 (.mov (Z 3)), oo 75 (.iaddr (Z 73) (Z 74) 7 none), oo 76 (.load (some 7) (Z 75)), oo 77 (.call (.con (.fn 69 [] [])) [(Z 71), (Z 76)]), oo 4 (.mov (Z 77))]) (.seq (.reg [oo 78 (.mov (Z 4)), oo 79 (.bin .neq (Z 78) (.con (i6 0)))]) (.cond (Z 79) (.seq (.reg [oo 80 (.mov (Z 4)), oo 2 (.mov (Z 80))]) .ret) .skip)))) (.reg [oo 69 (.mov (Z 3)), oo 70 (.bin .add (Z 69) (.con (i6 1))), oo 3 (.mov (Z 70))])))))) (.seq (.reg [oo 2 (.mov (.con (i6 0)))]) .ret)))))))⟩
theorem comp52 : compFn Try.prog 52 = some F52 := by kernel_rfl
def F53 : AFn := ⟨1, 37, [.cell 2 (some 2)], (.seq (.reg [oo 1 (.box (Z 0)), oo 2 (.box (.con (.agg [.nils, .nils])))]) (.seq (.reg [oo 3 (.box (.con (.agg [.nils, .nils])))]) (.seq (.seq (.reg [oo 4 (.mov (.con (i6 0)))]) (.block 0 (.loop (.seq (.seq (.reg [oo 5 (.mov (Z 4)), oo 6 (.faddr (Z 1) 8), oo 7 (.load none (Z 6)), oo 8 (.len false (Z 7)), oo 9 (.bin .lss (Z 5) (Z 8))]) (.cond (Z 9) .skip (.exit 0))) (.seq (.block 1 (.dreg 23 [oo 12 (.faddr (Z 3) 0), oo 13 (.load none (Z 12)), oo 14 (.faddr (Z 1) 8), oo 15 (.load none (Z 14)), oo 16 (.mov (Z 4)), oo 17 (.iaddr (Z 15) (Z 16) 7 none), oo 18 (.faddr (Z 17) 1), oo 19 (.faddr (Z 18) 0), oo 20 (.load none (Z 19)), oo 21 (.bsl 1 false [i6 0] 1 [(0, (Z 20))]), oo 22 (.app (Z 13) (Z 21) 1 8 [i6 0]), oo 23 (.faddr (Z 3) 1), oo 24 (.load none (Z 23)), oo 25 (.faddr (Z 1) 8), oo 26 (.load none (Z 25)), oo 27 (.mov (Z 4)), oo 28 (.iaddr (Z 26) (Z 27) 7 none), oo 29 (.faddr (Z 28) 3), oo 30 (.faddr (Z 29) 0), oo 31 (.load none (Z 30)), oo 32 (.bsl 1 false [i6 0] 1 [(0, (Z 31))]), oo 33 (.app (Z 24) (Z 32) 1 8 [i6 0]), oo 34 (.faddr (Z 3) 0), on (.store 1 (Z 34) (Z 22)), oo 35 (.faddr (Z 3) 1), on (.store 1 (Z 35) (Z 33))])) (.reg [oo 10 (.mov (Z 4)), oo 11 (.bin .add (Z 10) (.con (i6 1))), oo 4 (.mov (Z 11))])))))) (.seq (.reg [oo 36 (.load (some 2) (Z 3)), on (.store 2 (Z 2) (Z 36))]) .ret))))⟩
theorem comp53 : compFn Try.prog 53 = some F53 := by kernel_rfl
def F54 : AFn := ⟨1, 37, [.cell 2 (some 2)], (.seq (.reg [oo 1 (.box (Z 0)), oo 2 (.box (.con (.agg [.nils, .nils])))]) (.seq (.reg [oo 3 (.box (.con (.agg [.nils, .nils])))]) (.seq (.seq (.reg [oo 4 (.mov (.con (i6 0)))]) (.block 0 (.loop (.seq (.seq (.reg [oo 5 (.mov (Z 4)), oo 6 (.faddr (Z 1) 8), oo 7 (.load none (Z 6)), oo 8 (.len false (Z 7)), oo 9 (.bin .lss (Z 5) (Z 8))]) (.cond (Z 9) .skip (.exit 0))) (.seq (.block 1 (.dreg 23 [oo 12 (.faddr (Z 3) 0), oo 13 (.load none (Z 12)), oo 14 (.faddr (Z 1) 8), oo 15 (.load none (Z 14)), oo 16 (.mov (Z 4)), oo 17 (.iaddr (Z 15) (Z 16) 7 none), oo 18 (.faddr (Z 17) 1), oo 19 (.faddr (Z 18) 1), oo 20 (.load none (Z 19)), oo 21 (.bsl 1 false [i6 0] 1 [(0, (Z 20))]), oo 22 (.app (Z 13) (Z 21) 1 8 [i6 0]), oo 23 (.faddr (Z 3) 1), oo 24 (.load none (Z 23)), oo 25 (.faddr (Z 1) 8), oo 26 (.load none (Z 25)), oo 27 (.mov (Z 4)), oo 28 (.iaddr (Z 26) (Z 27) 7 none), oo 29 (.faddr (Z 28) 3), oo 30 (.faddr (Z 29) 1), oo 31 (.load none (Z 30)), oo 32 (.bsl 1 false [i6 0] 1 [(0, (Z 31))]), oo 33 (.app (Z 24) (Z 32) 1 8 [i6 0]), oo 34 (.faddr (Z 3) 0), on (.store 1 (Z 34) (Z 22)), oo 35 (.faddr (Z 3) 1), on (.store 1 (Z 35) (Z 33))])) (.reg [oo 10 (.mov (Z 4)), oo 11 (.bin .add (Z 10) (.con (i6 1))), oo 4 (.mov (Z 11))])))))) (.seq (.reg [oo 36 (.load (some 2) (Z 3)), on (.store 2 (Z 2) (Z 36))]) .ret))))⟩
theorem comp54 : compFn Try.prog 54 = some F54 := by kernel_rfl
def F55 : AFn := ⟨1, 59, [.tmp 2], (.seq (.reg [oo 1 (.box (Z 0)), oo 2 (.mov (.con (i6 0)))]) (.seq (.block 0 (.seq (.reg [oo 4 (.faddr (Z 1) 0), oo 5 (.load none (Z 4)), oo 6 (.call (.con (.fn 62 [] [])) [(Z 5), (.con (i6 1)), (.con (i6 3000))]), oo 7 (.un .not (Z 6)), oo 8 (.mov (Z 7)), ⟨some 9, .faddr (Z 1) 1, some (8, false)⟩, ⟨some 10, .load none (Z 9), some (8, false)⟩, ⟨some 11, .call (.con (.fn 62 [] [])) [(Z 10), (.con (i6 1)), (.con (i6 1000))], some (8, false)⟩, ⟨some 12, .un .not (Z 11), some (8, false)⟩, oo 13 (.pick (Z 8) (.con (.bool true)) (Z 12)), oo 3 (.mov (Z 13))]) (.cond (Z 3) (.seq (.reg [oo 2 (.mov (.con (i6 2)))]) .ret) (.seq (.reg [oo 15 (.faddr (Z 1) 2), oo 16 (.load none (Z 15)), oo 17 (.faddr (Z 1) 0), oo 18 (.load none (Z 17)), oo 19 (.call (.con (.fn 62 [] [])) [(Z 16), (.con (i6 0)), (Z 18)]), oo 20 (.un .not (Z 19)), oo 21 (.mov (Z 20)), ⟨some 22, .faddr (Z 1) 3, some (21, false)⟩, ⟨some 23, .load none (Z 22), some (21, false)⟩, ⟨some 24, .faddr (Z 1) 0, some (21, false)⟩, ⟨some 25, .load none (Z 24), some (21, false)⟩, ⟨some 26, .call (.con (.fn 62 [] [])) [(Z 23), (.con (i6 0)), (Z 25)], some (21, false)⟩, ⟨some 27, .un .not (Z 26), some (21, false)⟩, oo 28 (.pick (Z 21) (.con (.bool true)) (Z 27)), oo 14 (.mov (Z 28))]) (.cond (Z 14) (.seq (.reg [oo 2 (.mov (.con (i6 2)))]) .ret) (.seq (.reg [oo 30 (.faddr (Z 1) 2), oo 31 (.load none (Z 30)), oo 32 (.faddr (Z 1) 3), oo 33 (.load none (Z 32)), oo 34 (.bin .geq (Z 31) (Z 33)), oo 29 (.mov (Z 34))]) (.cond (Z 29) (.seq (.reg [oo 2 (.mov (.con (i6 9)))]) .ret) (.seq (.reg [oo 36 (.faddr (Z 1) 4), oo 37 (.load none (Z 36)), oo 38 (.call (.con (.fn 62 [] [])) [(Z 37), (.con (i6 0)), (.con (i6 20000))]), oo 39 (.un .not (Z 38)), oo 40 (.mov (Z 39)), ⟨some 41, .faddr (Z 1) 5, some (40, false)⟩, ⟨some 42, .load none (Z 41), some (40, false)⟩, ⟨some 43, .call (.con (.fn 62 [] [])) [(Z 42), (.con (i6 0)), (.con (i6 100000))], some (40, false)⟩, ⟨some 44, .un .not (Z 43), some (40, false)⟩, oo 45 (.pick (Z 40) (.con (.bool true)) (Z 44)), oo 35 (.mov (Z 45))]) (.cond (Z 35) (.seq (.reg [oo 2 (.mov (.con (i6 2)))]) .ret) (.seq (.reg [oo 47 (.faddr (Z 1) 6), oo 48 (.load none (Z 47)), oo 49 (.faddr (Z 1) 0), oo 50 (.load none (Z 49)), oo 51 (.call (.con (.fn 62 [] [])) [(Z 48), (.con (i6 0)), (Z 50)]), oo 52 (.un .not (Z 51)), oo 53 (.mov (Z 52)), ⟨some 54, .faddr (Z 1) 7, some (53, false)⟩, ⟨some 55, .load none (Z 54), some (53, false)⟩, ⟨some 56, .call (.con (.fn 62 [] [])) [(Z 55), (.con (i6 0)), (.con (i6 2000))], some (53, false)⟩, ⟨some 57, .un .not (Z 56), some (53, false)⟩, oo 58 (.pick (Z 53) (.con (.bool true)) (Z 57)), oo 46 (.mov (Z 58))]) (.cond (Z 46) (.seq (.reg [oo 2 (.mov (.con (i6 2)))]) .ret) .skip))))))))))) (.seq (.reg [oo 2 (.mov (.con (i6 0)))]) .ret)))⟩
theorem comp55 : compFn Try.prog 55 = some F55 := by kernel_rfl
def F56 : AFn := ⟨2, 51, [.tmp 4], (.seq (.reg [oo 2 (.box (Z 0)), oo 3 (.box (Z 1)), oo 4 (.mov (.con (i6 0)))]) (.seq (.seq (.reg [oo 7 (.faddr (Z 3) 0), oo 8 (.load none (Z 7)), oo 9 (.faddr (Z 2) 2), oo 10 (.load none (Z 9)), oo 11 (.faddr (Z 2) 3), oo 12 (.load none (Z 11)), oo 13 (.call (.con (.fn 62 [] [])) [(Z 8), (Z 10), (Z 12)]), oo 14 (.un .not (Z 13))]) (.cond (Z 14) (.seq (.reg [oo 4 (.mov (.con (i6 2)))]) .ret) .skip)) (.seq (.seq (.reg [oo 15 (.faddr (Z 3) 1), oo 16 (.load (some 2) (Z 15)), oo 17 (.call (.con (.fn 70 [] [])) [(Z 16), (.con (i6 100000))]), oo 5 (.mov (Z 17))]) (.seq (.reg [oo 18 (.mov (Z 5)), oo 19 (.bin .neq (Z 18) (.con (i6 0)))]) (.cond (Z 19) (.seq (.reg [oo 20 (.mov (Z 5)), oo 4 (.mov (Z 20))]) .ret) .skip))) (.seq (.seq (.reg [oo 21 (.faddr (Z 3) 3), oo 22 (.load (some 2) (Z 21)), oo 23 (.call (.con (.fn 70 [] [])) [(Z 22), (.con (i6 2000))]), oo 6 (.mov (Z 23))]) (.seq (.reg [oo 24 (.mov (Z 6)), oo 25 (.bin .neq (Z 24) (.con (i6 0)))]) (.cond (Z 25) (.seq (.reg [oo 26 (.mov (Z 6)), oo 4 (.mov (Z 26))]) .ret) .skip))) (.seq (.block 0 (.seq (.reg [oo 28 (.faddr (Z 3) 5), oo 29 (.load none (Z 28)), oo 30 (.call (.con (.fn 62 [] [])) [(Z 29), (.con (i6 1)), (.con (i6 4))]), oo 31 (.un .not (Z 30)), oo 27 (.mov (Z 31))]) (.cond (Z 27) (.seq (.reg [oo 4 (.mov (.con (i6 3)))]) .ret) (.seq (.reg [oo 33 (.faddr (Z 3) 6), oo 34 (.load none (Z 33)), oo 35 (.call (.con (.fn 62 [] [])) [(Z 34), (.con (i6 0)), (.con (i6 1000000))]), oo 36 (.un .not (Z 35)), oo 32 (.mov (Z 36))]) (.cond (Z 32) (.seq (.reg [oo 4 (.mov (.con (i6 2)))]) .ret) (.seq (.reg [oo 38 (.faddr (Z 3) 6), oo 39 (.load none (Z 38)), oo 40 (.bin .gtr (Z 39) (.con (i6 0))), oo 41 (.mov (Z 40)), ⟨some 42, .faddr (Z 3) 5, some (41, true)⟩, ⟨some 43, .load none (Z 42), some (41, true)⟩, ⟨some 44, .bin .neq (Z 43) (.con (i6 2)), some (41, true)⟩, oo 45 (.pick (Z 41) (Z 44) (.con (.bool false))), oo 46 (.mov (Z 45)), ⟨some 47, .faddr (Z 3) 5, some (46, true)⟩, ⟨some 48, .load none (Z 47), some (46, true)⟩, ⟨some 49, .bin .neq (Z 48) (.con (i6 3)), some (46, true)⟩, oo 50 (.pick (Z 46) (Z 49) (.con (.bool false))), oo 37 (.mov (Z 50))]) (.cond (Z 37) (.seq (.reg [oo 4 (.mov (.con (i6 1)))]) .ret) .skip))))))) (.seq (.reg [oo 4 (.mov (.con (i6 0)))]) .ret))))))⟩
theorem comp56 : compFn Try.prog 56 = some F56 := by kernel_rfl
def F57 : AFn := ⟨1, 35, [.tmp 2], (.seq (.reg [oo 1 (.box (Z 0)), oo 2 (.mov (.con (.nils)))]) (.seq (.reg [oo 6 (.faddr (Z 1) 0), oo 7 (.faddr (Z 6) 5), oo 8 (.load none (Z 7)), oo 9 (.faddr (Z 1) 0), oo 10 (.faddr (Z 9) 6), oo 11 (.load none (Z 10)), oo 12 (.build [i6 0, i6 0] [(0, 1, (Z 8)), (1, 1, (Z 11))]), oo 13 (.bsl 2 true [i6 0, i6 0] 1 [(0, (Z 12))]), oo 3 (.mov (Z 13))]) (.seq (.seq (.reg [oo 14 (.faddr (Z 1) 0), oo 15 (.faddr (Z 14) 8), oo 16 (.load none (Z 15)), oo 17 (.len false (Z 16)), oo 18 (.mov (.con (i6 0)))]) (.block 0 (.loop (.seq (.reg [oo 19 (.bin .lss (Z 18) (Z 17))]) (.seq (.cond (Z 19) .skip (.exit 0)) (.seq (.block 1 (.seq (.reg [oo 20 (.mov (Z 18)), oo 21 (.iaddr (Z 16) (Z 18) 7 none), oo 22 (.load (some 7) (Z 21)), oo 5 (.box (.con (.agg [i6 0, i6 0, i6 0, i6 0, i6 0, i6 0, i6 0]))), oo 4 (.mov (Z 20)), on (.store 7 (Z 5) (Z 22))]) (.dreg 9 [oo 23 (.mov (Z 3)), oo 24 (.mov (Z 4)), oo 25 (.faddr (Z 1) 9), oo 26 (.iaddr (Z 25) (Z 24) 1 (some 21)), oo 27 (.load none (Z 26)), oo 28 (.faddr (Z 5) 0), oo 29 (.load none (Z 28)), oo 30 (.build [i6 0, i6 0] [(0, 1, (Z 27)), (1, 1, (Z 29))]), oo 31 (.bsl 2 true [i6 0, i6 0] 1 [(0, (Z 30))]), oo 32 (.app (Z 23) (Z 31) 2 16 [i6 0, i6 0]), oo 3 (.mov (Z 32))]))) (.reg [oo 33 (.bin .add (Z 18) (.con (i6 1))), oo 18 (.mov (Z 33))]))))))) (.seq (.reg [oo 34 (.mov (Z 3)), oo 2 (.mov (Z 34))]) .ret))))⟩
theorem comp57 : compFn Try.prog 57 = some F57 := by kernel_rfl
def F58 : AFn := ⟨2, 16, [.tmp 4], (.seq (.reg [oo 4 (.mov (.con (i6 0)))]) (.seq (.reg [oo 6 (.mov (Z 0)), oo 7 (.mov (Z 1)), oo 8 (.bin .quo (Z 6) (Z 7)), oo 5 (.mov (Z 8))]) (.seq (.seq (.reg [oo 9 (.mov (Z 0)), oo 10 (.mov (Z 1)), oo 11 (.bin .rem (Z 9) (Z 10)), oo 12 (.bin .lss (Z 11) (.con (i6 0)))]) (.cond (Z 12) (.reg [oo 13 (.mov (Z 5)), oo 14 (.bin .sub (Z 13) (.con (i6 1))), oo 5 (.mov (Z 14))]) .skip)) (.seq (.reg [oo 15 (.mov (Z 5)), oo 4 (.mov (Z 15))]) .ret))))⟩
theorem comp58 : compFn Try.prog 58 = some F58 := by kernel_rfl
def F59 : AFn := ⟨2, 25, [.tmp 4], (.seq (.reg [oo 4 (.mov (.con (i6 0)))]) (.seq (.reg [oo 5 (.mov (.con (i6 0)))]) (.seq (.seq (.reg [oo 8 (.mov (Z 1)), oo 9 (.len false (Z 8)), oo 10 (.mov (.con (i6 0)))]) (.block 0 (.loop (.seq (.reg [oo 11 (.bin .lss (Z 10) (Z 9))]) (.seq (.cond (Z 11) .skip (.exit 0)) (.seq (.block 1 (.seq (.reg [oo 12 (.iaddr (Z 8) (Z 10) 2 none), oo 13 (.load (some 2) (Z 12)), oo 7 (.box (.con (.agg [i6 0, i6 0]))), on (.store 2 (Z 7) (Z 13))]) (.reg [oo 14 (.mov (Z 5)), oo 15 (.faddr (Z 7) 0), oo 16 (.load none (Z 15)), oo 17 (.faddr (Z 7) 1), oo 18 (.load none (Z 17)), oo 19 (.mov (Z 0)), oo 20 (.bin .sub (Z 18) (Z 19)), oo 21 (.bin .mul (Z 16) (Z 20)), oo 22 (.bin .add (Z 14) (Z 21)), oo 5 (.mov (Z 22))]))) (.reg [oo 23 (.bin .add (Z 10) (.con (i6 1))), oo 10 (.mov (Z 23))]))))))) (.seq (.reg [oo 24 (.mov (Z 5)), oo 4 (.mov (Z 24))]) .ret))))⟩
theorem comp59 : compFn Try.prog 59 = some F59 := by kernel_rfl
def F60 : AFn := ⟨1, 21, [.tmp 2], (.seq (.reg [oo 2 (.mov (.con (i6 0)))]) (.seq (.seq (.reg [oo 6 (.mov (Z 0)), oo 7 (.len false (Z 6)), oo 8 (.bin .gtr (Z 7) (.con (i6 40)))]) (.cond (Z 8) (.seq (.reg [oo 2 (.mov (.con (i6 5)))]) .ret) .skip)) (.seq (.seq (.reg [oo 9 (.mov (Z 0)), oo 10 (.len false (Z 9)), oo 11 (.mov (.con (i6 0)))]) (.block 0 (.loop (.seq (.reg [oo 12 (.bin .lss (Z 11) (Z 10))]) (.seq (.cond (Z 12) .skip (.exit 0)) (.seq (.block 1 (.seq (.reg [oo 13 (.iaddr (Z 9) (Z 11) 3 none), oo 14 (.load (some 3) (Z 13)), oo 4 (.box (.con (.agg [i6 0, i6 0, i6 0]))), on (.store 3 (Z 4) (Z 14))]) (.seq (.reg [oo 15 (.load (some 3) (Z 4)), oo 16 (.call (.con (.fn 71 [] [])) [(Z 15)]), oo 5 (.mov (Z 16))]) (.seq (.reg [oo 17 (.mov (Z 5)), oo 18 (.bin .neq (Z 17) (.con (i6 0)))]) (.cond (Z 18) (.seq (.reg [oo 19 (.mov (Z 5)), oo 2 (.mov (Z 19))]) .ret) .skip))))) (.reg [oo 20 (.bin .add (Z 11) (.con (i6 1))), oo 11 (.mov (Z 20))]))))))) (.seq (.reg [oo 2 (.mov (.con (i6 0)))]) .ret))))⟩
theorem comp60 : compFn Try.prog 60 = some F60 := by kernel_rfl
def F61 : AFn := ⟨2, 28, [.tmp 4], (.seq (.reg [oo 2 (.box (Z 0)), oo 3 (.box (Z 1)), oo 4 (.mov (.con (.bool false)))]) (.seq (.seq (.reg [oo 5 (.faddr (Z 3) 0), oo 6 (.load none (Z 5))]) (.block 0 (.seq (.reg [oo 8 (.bin .eql (Z 6) (.con (i6 1))), oo 7 (.mov (Z 8))]) (.cond (Z 7) (.seq (.reg [oo 9 (.load (some 51) (Z 2)), oo 10 (.faddr (Z 3) 1), oo 11 (.load none (Z 10)), oo 12 (.faddr (Z 3) 2), oo 13 (.load none (Z 12)), oo 14 (.call (.con (.fn 72 [] [])) [(Z 9), (Z 11), (Z 13)]), oo 4 (.mov (Z 14))]) .ret) (.seq (.reg [oo 16 (.bin .eql (Z 6) (.con (i6 2))), oo 15 (.mov (Z 16))]) (.cond (Z 15) (.seq (.dreg 4 [oo 17 (.load (some 51) (Z 2)), oo 18 (.call (.con (.fn 41 [] [])) [(Z 17)]), oo 19 (.faddr (Z 3) 1), oo 20 (.load none (Z 19)), oo 21 (.bin .leq (Z 18) (Z 20)), oo 4 (.mov (Z 21))]) .ret) .skip)))))) (.seq (.reg [oo 22 (.load (some 51) (Z 2)), oo 23 (.faddr (Z 3) 1), oo 24 (.load none (Z 23)), oo 25 (.faddr (Z 3) 2), oo 26 (.load none (Z 25)), oo 27 (.call (.con (.fn 73 [] [])) [(Z 22), (Z 24), (Z 26)]), oo 4 (.mov (Z 27))]) .ret)))⟩
theorem comp61 : compFn Try.prog 61 = some F61 := by kernel_rfl
def F62 : AFn := ⟨3, 15, [.tmp 6], (.seq (.reg [oo 6 (.mov (.con (.bool false)))]) (.seq (.reg [oo 7 (.mov (Z 0)), oo 8 (.mov (Z 1)), oo 9 (.bin .geq (Z 7) (Z 8)), oo 10 (.mov (Z 9)), ⟨some 11, .mov (Z 0), some (10, true)⟩, ⟨some 12, .mov (Z 2), some (10, true)⟩, ⟨some 13, .bin .leq (Z 11) (Z 12), some (10, true)⟩, oo 14 (.pick (Z 10) (Z 13) (.con (.bool false))), oo 6 (.mov (Z 14))]) .ret))⟩
theorem comp62 : compFn Try.prog 62 = some F62 := by kernel_rfl
def F63 : AFn := ⟨2, 26, [.tmp 4], (.seq (.reg [oo 4 (.mov (.con (i6 0)))]) (.seq (.reg [oo 8 (.mov (Z 0)), oo 5 (.mov (.con (i6 0))), oo 6 (.mov (Z 8))]) (.seq (.block 0 (.loop (.seq (.seq (.reg [oo 9 (.mov (Z 5)), oo 10 (.mov (Z 6)), oo 11 (.bin .lss (Z 9) (Z 10))]) (.cond (Z 11) .skip (.exit 0))) (.block 1 (.seq (.reg [oo 12 (.mov (Z 5)), oo 13 (.mov (Z 6)), oo 14 (.bin .add (Z 12) (Z 13)), oo 15 (.conv .u64 (Z 14)), oo 16 (.bin .shr (Z 15) (.con (.int .u64 1))), oo 17 (.conv .i64 (Z 16)), oo 7 (.mov (Z 17))]) (.seq (.reg [oo 18 (.mov (Z 1)), oo 19 (.mov (Z 7)), oo 20 (.call (Z 18) [(Z 19)]), oo 21 (.un .not (Z 20))]) (.cond (Z 21) (.reg [oo 22 (.mov (Z 7)), oo 23 (.bin .add (Z 22) (.con (i6 1))), oo 5 (.mov (Z 23))]) (.reg [oo 24 (.mov (Z 7)), oo 6 (.mov (Z 24))])))))))) (.seq (.reg [oo 25 (.mov (Z 5)), oo 4 (.mov (Z 25))]) .ret))))⟩
theorem comp63 : compFn Try.prog 63 = some F63 := by kernel_rfl
def F64 : AFn := ⟨1, 12, [.tmp 4], (.seq (.reg [oo 4 (.mov (.con (.bool false)))]) (.seq (.reg [oo 5 (.load (some 9) (Z 1)), oo 6 (.load none (Z 2)), oo 7 (.mov (Z 0)), oo 8 (.call (.con (.fn 65 [] [])) [(Z 5), (Z 6), (Z 7)]), oo 9 (.call (.con (.fn 36 [] [])) [(Z 8)]), oo 10 (.aidx (Z 9) (.con (i6 0)) 2 51 (some 51)), oo 11 (.call (.con (.fn 43 [] [])) [(Z 10)]), oo 4 (.mov (Z 11))]) .ret))⟩
theorem comp64 : compFn Try.prog 64 = some F64 := by kernel_rfl
def F65 : AFn := ⟨3, 21, [.cell 6 (some 9)], (.seq (.reg [oo 3 (.box (Z 0)), oo 6 (.box (.con (.agg [i6 0, i6 0, i6 0, i6 0, i6 0, i6 0, i6 0, i6 0, .nils])))]) (.seq (.reg [oo 8 (.mov (Z 1)), oo 9 (.mov (Z 2)), oo 10 (.mov (Z 2)), oo 11 (.build [i6 0, i6 0] [(0, 1, (Z 9)), (1, 1, (Z 10))]), oo 12 (.build [i6 0, i6 0, i6 0, i6 0, i6 0, i6 0, i6 0] [(0, 1, (Z 8)), (1, 2, (Z 11)), (5, 1, (.con (i6 1)))]), oo 7 (.box (.con (.agg [i6 0, i6 0, i6 0, i6 0, i6 0, i6 0, i6 0]))), on (.store 7 (Z 7) (Z 12))]) (.seq (.dreg 5 [oo 13 (.faddr (Z 3) 8), oo 14 (.load none (Z 13)), oo 15 (.call (.con (.fn 74 [] [])) [(Z 14)]), oo 16 (.load (some 7) (Z 7)), oo 17 (.bsl 7 true [i6 0, i6 0, i6 0, i6 0, i6 0, i6 0, i6 0] 1 [(0, (Z 16))]), oo 18 (.app (Z 15) (Z 17) 7 56 [i6 0, i6 0, i6 0, i6 0, i6 0, i6 0, i6 0]), oo 19 (.faddr (Z 3) 8), on (.store 1 (Z 19) (Z 18))]) (.seq (.reg [oo 20 (.load (some 9) (Z 3)), on (.store 9 (Z 6) (Z 20))]) .ret))))⟩
theorem comp65 : compFn Try.prog 65 = some F65 := by kernel_rfl
def F66 : AFn := ⟨1, 13, [.tmp 5], (.seq (.reg [oo 5 (.mov (.con (.bool false)))]) (.seq (.dreg 5 [oo 6 (.load (some 9) (Z 1)), oo 7 (.load none (Z 2)), oo 8 (.mov (Z 0)), oo 9 (.call (.con (.fn 65 [] [])) [(Z 6), (Z 7), (Z 8)]), oo 10 (.load none (Z 3)), oo 11 (.call (.con (.fn 67 [] [])) [(Z 9), (Z 10)]), oo 12 (.bin .geq (Z 11) (.con (i6 0))), oo 5 (.mov (Z 12))]) .ret))⟩
theorem comp66 : compFn Try.prog 66 = some F66 := by kernel_rfl
def F67 : AFn := ⟨2, 9, [.tmp 4], (.seq (.reg [oo 2 (.box (Z 0)), oo 4 (.mov (.con (i6 0)))]) (.seq (.reg [oo 5 (.load (some 9) (Z 2)), oo 6 (.mov (Z 1)), oo 7 (.call (.con (.fn 45 [] [])) [(Z 5), (Z 6)]), oo 8 (.call (.con (.fn 75 [] [])) [(Z 7), (.con (.fn 76 [] []))]), oo 4 (.mov (Z 8))]) .ret))⟩
theorem comp67 : compFn Try.prog 67 = some F67 := by kernel_rfl
def F68 : AFn := ⟨3, 15, [.tmp 6], (.seq (.reg [oo 6 (.mov (.con (.bool false)))]) (.seq (.reg [oo 7 (.mov (Z 0)), oo 8 (.mov (Z 1)), oo 9 (.bin .geq (Z 7) (Z 8)), oo 10 (.mov (Z 9)), ⟨some 11, .mov (Z 0), some (10, true)⟩, ⟨some 12, .mov (Z 2), some (10, true)⟩, ⟨some 13, .bin .leq (Z 11) (Z 12), some (10, true)⟩, oo 14 (.pick (Z 10) (Z 13) (.con (.bool false))), oo 6 (.mov (Z 14))]) .ret))⟩
theorem comp68 : compFn Try.prog 68 = some F68 := by kernel_rfl
def F69 : AFn := ⟨2, 48, [.tmp 4], (.seq (.reg [oo 2 (.box (Z 0)), oo 3 (.box (Z 1)), oo 4 (.mov (.con (i6 0)))]) (.seq (.seq (.reg [oo 7 (.faddr (Z 3) 0), oo 8 (.load none (Z 7)), oo 9 (.faddr (Z 2) 2), oo 10 (.load none (Z 9)), oo 11 (.faddr (Z 2) 3), oo 12 (.load none (Z 11)), oo 13 (.call (.con (.fn 68 [] [])) [(Z 8), (Z 10), (Z 12)]), oo 14 (.un .not (Z 13))]) (.cond (Z 14) (.seq (.reg [oo 4 (.mov (.con (i6 2)))]) .ret) .skip)) (.seq (.seq (.reg [oo 15 (.faddr (Z 3) 1), oo 16 (.load (some 2) (Z 15)), oo 17 (.call (.con (.fn 77 [] [])) [(Z 16), (.con (i6 100000))]), oo 5 (.mov (Z 17))]) (.seq (.reg [oo 18 (.mov (Z 5)), oo 19 (.bin .neq (Z 18) (.con (i6 0)))]) (.cond (Z 19) (.seq (.reg [oo 20 (.mov (Z 5)), oo 4 (.mov (Z 20))]) .ret) .skip))) (.seq (.seq (.reg [oo 21 (.faddr (Z 3) 3), oo 22 (.load (some 2) (Z 21)), oo 23 (.call (.con (.fn 77 [] [])) [(Z 22), (.con (i6 2000))]), oo 6 (.mov (Z 23))]) (.seq (.reg [oo 24 (.mov (Z 6)), oo 25 (.bin .neq (Z 24) (.con (i6 0)))]) (.cond (Z 25) (.seq (.reg [oo 26 (.mov (Z 6)), oo 4 (.mov (Z 26))]) .ret) .skip))) (.seq (.seq (.reg [oo 27 (.faddr (Z 3) 5), oo 28 (.load none (Z 27)), oo 29 (.call (.con (.fn 68 [] [])) [(Z 28), (.con (i6 1)), (.con (i6 4))]), oo 30 (.un .not (Z 29))]) (.cond (Z 30) (.seq (.reg [oo 4 (.mov (.con (i6 3)))]) .ret) .skip)) (.seq (.seq (.reg [oo 31 (.faddr (Z 3) 6), oo 32 (.load none (Z 31)), oo 33 (.call (.con (.fn 68 [] [])) [(Z 32), (.con (i6 0)), (.con (i6 1000000))]), oo 34 (.un .not (Z 33))]) (.cond (Z 34) (.seq (.reg [oo 4 (.mov (.con (i6 2)))]) .ret) .skip)) (.seq (.seq (.reg [oo 35 (.faddr (Z 3) 6), oo 36 (.load none (Z 35)), oo 37 (.bin .gtr (Z 36) (.con (i6 0))), oo 38 (.mov (Z 37)), ⟨some 39, .faddr (Z 3) 5, some (38, true)⟩, ⟨some 40, .load none (Z 39), some (38, true)⟩, ⟨some 41, .bin .neq (Z 40) (.con (i6 2)), some (38, true)⟩, oo 42 (.pick (Z 38) (Z 41) (.con (.bool false))), oo 43 (.mov (Z 42)), ⟨some 44, .faddr (Z 3) 5, some (43, true)⟩, ⟨some 45, .load none (Z 44), some (43, true)⟩, ⟨some 46, .bin .neq (Z 45) (.con (i6 3)), some (43, true)⟩, oo 47 (.pick (Z 43) (Z 46) (.con (.bool false)))]) (.cond (Z 47) (.seq (.reg [oo 4 (.mov (.con (i6 1)))]) .ret) .skip)) (.seq (.reg [oo 4 (.mov (.con (i6 0)))]) .ret))))))))⟩
theorem comp69 : compFn Try.prog 69 = some F69 := by kernel_rfl
def F70 : AFn := ⟨2, 24, [.tmp 4], (.seq (.reg [oo 2 (.box (Z 0)), oo 4 (.mov (.con (i6 0)))]) (.seq (.block 0 (.seq (.reg [oo 6 (.faddr (Z 2) 0), oo 7 (.load none (Z 6)), oo 8 (.mov (Z 1)), oo 9 (.call (.con (.fn 62 [] [])) [(Z 7), (.con (i6 0)), (Z 8)]), oo 10 (.un .not (Z 9)), oo 11 (.mov (Z 10)), ⟨some 12, .faddr (Z 2) 1, some (11, false)⟩, ⟨some 13, .load none (Z 12), some (11, false)⟩, ⟨some 14, .mov (Z 1), some (11, false)⟩, ⟨some 15, .call (.con (.fn 62 [] [])) [(Z 13), (.con (i6 0)), (Z 14)], some (11, false)⟩, ⟨some 16, .un .not (Z 15), some (11, false)⟩, oo 17 (.pick (Z 11) (.con (.bool true)) (Z 16)), oo 5 (.mov (Z 17))]) (.cond (Z 5) (.seq (.reg [oo 4 (.mov (.con (i6 2)))]) .ret) (.seq (.reg [oo 19 (.faddr (Z 2) 0), oo 20 (.load none (Z 19)), oo 21 (.faddr (Z 2) 1), oo 22 (.load none (Z 21)), oo 23 (.bin .gtr (Z 20) (Z 22)), oo 18 (.mov (Z 23))]) (.cond (Z 18) (.seq (.reg [oo 4 (.mov (.con (i6 9)))]) .ret) .skip))))) (.seq (.reg [oo 4 (.mov (.con (i6 0)))]) .ret)))⟩
theorem comp70 : compFn Try.prog 70 = some F70 := by kernel_rfl
def F71 : AFn := ⟨1, 17, [.tmp 2], (.seq (.reg [oo 1 (.box (Z 0)), oo 2 (.mov (.con (i6 0)))]) (.seq (.seq (.reg [oo 3 (.faddr (Z 1) 0), oo 4 (.load none (Z 3))]) (.block 0 (.seq (.reg [oo 6 (.bin .eql (Z 4) (.con (i6 1))), oo 5 (.mov (Z 6))]) (.cond (Z 5) (.seq (.reg [oo 7 (.load (some 3) (Z 1)), oo 8 (.call (.con (.fn 78 [] [])) [(Z 7)]), oo 2 (.mov (Z 8))]) .ret) (.seq (.reg [oo 10 (.bin .eql (Z 4) (.con (i6 2))), oo 9 (.mov (Z 10))]) (.cond (Z 9) (.seq (.reg [oo 11 (.load (some 3) (Z 1)), oo 12 (.call (.con (.fn 79 [] [])) [(Z 11)]), oo 2 (.mov (Z 12))]) .ret) (.seq (.reg [oo 14 (.bin .eql (Z 4) (.con (i6 3))), oo 13 (.mov (Z 14))]) (.cond (Z 13) (.seq (.reg [oo 15 (.load (some 3) (Z 1)), oo 16 (.call (.con (.fn 80 [] [])) [(Z 15)]), oo 2 (.mov (Z 16))]) .ret) .skip)))))))) (.seq (.reg [oo 2 (.mov (.con (i6 3)))]) .ret)))⟩
theorem comp71 : compFn Try.prog 71 = some F71 := by kernel_rfl
def F72 : AFn := ⟨3, 46, [.tmp 6], (.seq (.reg [oo 3 (.box (Z 0)), oo 4 (.box (Z 1)), oo 6 (.mov (.con (.bool false)))]) (.seq (.reg [oo 10 (.mkfn 81 [] [(Z 3), (Z 4)]), oo 11 (.call (.con (.fn 63 [] [])) [(.con (i6 21000)), (Z 10)]), oo 7 (.mov (Z 11))]) (.seq (.reg [oo 12 (.faddr (Z 3) 0), oo 13 (.faddr (Z 12) 4), oo 14 (.load none (Z 13)), oo 15 (.mov (Z 7)), oo 16 (.bin .add (Z 14) (Z 15)), oo 17 (.bin .mul (.con (i6 2)) (Z 16)), oo 18 (.faddr (Z 3) 0), oo 19 (.faddr (Z 18) 1), oo 20 (.load none (Z 19)), oo 21 (.bin .add (Z 17) (Z 20)), oo 8 (.mov (Z 21))]) (.seq (.reg [oo 22 (.faddr (Z 3) 0), oo 23 (.faddr (Z 22) 3), oo 24 (.load none (Z 23)), oo 25 (.faddr (Z 3) 0), oo 26 (.faddr (Z 25) 0), oo 27 (.load none (Z 26)), oo 28 (.faddr (Z 3) 0), oo 29 (.faddr (Z 28) 3), oo 30 (.load none (Z 29)), oo 31 (.bin .sub (Z 27) (Z 30)), oo 32 (.mx (Z 24) (Z 31)), oo 33 (.bin .mul (.con (i6 2)) (Z 32)), oo 9 (.mov (Z 33))]) (.seq (.reg [oo 34 (.mov (Z 8)), oo 35 (.mov (Z 8)), oo 36 (.bin .mul (Z 34) (Z 35)), oo 37 (.mov (Z 9)), oo 38 (.mov (Z 9)), oo 39 (.bin .mul (Z 37) (Z 38)), oo 40 (.bin .add (Z 36) (Z 39)), oo 41 (.mov (Z 2)), oo 42 (.bin .mul (.con (i6 4)) (Z 41)), oo 43 (.mov (Z 2)), oo 44 (.bin .mul (Z 42) (Z 43)), oo 45 (.bin .leq (Z 40) (Z 44)), oo 6 (.mov (Z 45))]) .ret)))))⟩
theorem comp72 : compFn Try.prog 72 = some F72 := by kernel_rfl
def F73 : AFn := ⟨3, 33, [.tmp 6], (.seq (.reg [oo 3 (.box (Z 0)), oo 6 (.mov (.con (.bool false)))]) (.seq (.reg [oo 8 (.mov (Z 2)), oo 9 (.faddr (Z 3) 0), oo 10 (.faddr (Z 9) 3), oo 11 (.load none (Z 10)), oo 12 (.faddr (Z 3) 0), oo 13 (.faddr (Z 12) 2), oo 14 (.load none (Z 13)), oo 15 (.bin .sub (Z 11) (Z 14)), oo 16 (.bin .mul (Z 8) (Z 15)), oo 7 (.mov (Z 16))]) (.seq (.reg [oo 17 (.load (some 51) (Z 3)), oo 18 (.call (.con (.fn 37 [] [])) [(Z 17)]), oo 19 (.mov (Z 1)), oo 20 (.bin .leq (Z 18) (Z 19)), oo 21 (.mov (Z 20)), ⟨some 22, .load (some 51) (Z 3), some (21, true)⟩, ⟨some 23, .call (.con (.fn 39 [] [])) [(Z 22)], some (21, true)⟩, ⟨some 24, .mov (Z 7), some (21, true)⟩, ⟨some 25, .bin .leq (Z 23) (Z 24), some (21, true)⟩, oo 26 (.pick (Z 21) (Z 25) (.con (.bool false))), oo 27 (.mov (Z 26)), ⟨some 28, .load (some 51) (Z 3), some (27, true)⟩, ⟨some 29, .call (.con (.fn 40 [] [])) [(Z 28)], some (27, true)⟩, ⟨some 30, .mov (Z 7), some (27, true)⟩, ⟨some 31, .bin .leq (Z 29) (Z 30), some (27, true)⟩, oo 32 (.pick (Z 27) (Z 31) (.con (.bool false))), oo 6 (.mov (Z 32))]) .ret)))⟩
theorem comp73 : compFn Try.prog 73 = some F73 := by kernel_rfl
def F74 : AFn := ⟨1, 8, [.tmp 2], (.seq (.reg [oo 2 (.mov (.con (.nils)))]) (.seq (.seq (.reg [oo 3 (.mov (Z 0)), oo 4 (.eqn false 0 (Z 3) (.con (.nils)))]) (.cond (Z 4) (.seq (.reg [oo 2 (.mov (.con (.nils)))]) .ret) .skip)) (.seq (.reg [oo 5 (.bsl 7 true [i6 0, i6 0, i6 0, i6 0, i6 0, i6 0, i6 0] 0 []), oo 6 (.mov (Z 0)), oo 7 (.app (Z 5) (Z 6) 7 56 [i6 0, i6 0, i6 0, i6 0, i6 0, i6 0, i6 0]), oo 2 (.mov (Z 7))]) .ret)))⟩
theorem comp74 : compFn Try.prog 74 = some F74 := by kernel_rfl
def F75 : AFn := ⟨2, 19, [.tmp 4], (.seq (.reg [oo 4 (.mov (.con (i6 0)))]) (.seq (.seq (.reg [oo 6 (.mov (Z 0)), oo 7 (.len false (Z 6)), oo 8 (.mov (.con (i6 0)))]) (.block 0 (.loop (.seq (.reg [oo 9 (.bin .lss (Z 8) (Z 7))]) (.seq (.cond (Z 9) .skip (.exit 0)) (.seq (.block 1 (.seq (.reg [oo 10 (.mov (Z 8)), oo 5 (.mov (Z 10))]) (.seq (.reg [oo 11 (.mov (Z 1)), oo 12 (.mov (Z 0)), oo 13 (.mov (Z 5)), oo 14 (.iaddr (Z 12) (Z 13) 1 none), oo 15 (.load none (Z 14)), oo 16 (.call (Z 11) [(Z 15)])]) (.cond (Z 16) (.seq (.reg [oo 17 (.mov (Z 5)), oo 4 (.mov (Z 17))]) .ret) .skip)))) (.reg [oo 18 (.bin .add (Z 8) (.con (i6 1))), oo 8 (.mov (Z 18))]))))))) (.seq (.reg [oo 4 (.mov (.con (i6 (-1))))]) .ret)))⟩
theorem comp75 : compFn Try.prog 75 = some F75 := by kernel_rfl
def F76 : AFn := ⟨1, 5, [.tmp 2], (.seq (.reg [oo 2 (.mov (.con (.bool false)))]) (.seq (.reg [oo 3 (.mov (Z 0)), oo 4 (.bin .neq (Z 3) (.con (i6 1))), oo 2 (.mov (Z 4))]) .ret))⟩
theorem comp76 : compFn Try.prog 76 = some F76 := by kernel_rfl
def F77 : AFn := ⟨2, 22, [.tmp 4], (.seq (.reg [oo 2 (.box (Z 0)), oo 4 (.mov (.con (i6 0)))]) (.seq (.seq (.reg [oo 5 (.faddr (Z 2) 0), oo 6 (.load none (Z 5)), oo 7 (.mov (Z 1)), oo 8 (.call (.con (.fn 68 [] [])) [(Z 6), (.con (i6 0)), (Z 7)]), oo 9 (.un .not (Z 8)), oo 10 (.mov (Z 9)), ⟨some 11, .faddr (Z 2) 1, some (10, false)⟩, ⟨some 12, .load none (Z 11), some (10, false)⟩, ⟨some 13, .mov (Z 1), some (10, false)⟩, ⟨some 14, .call (.con (.fn 68 [] [])) [(Z 12), (.con (i6 0)), (Z 13)], some (10, false)⟩, ⟨some 15, .un .not (Z 14), some (10, false)⟩, oo 16 (.pick (Z 10) (.con (.bool true)) (Z 15))]) (.cond (Z 16) (.seq (.reg [oo 4 (.mov (.con (i6 2)))]) .ret) .skip)) (.seq (.seq (.reg [oo 17 (.faddr (Z 2) 0), oo 18 (.load none (Z 17)), oo 19 (.faddr (Z 2) 1), oo 20 (.load none (Z 19)), oo 21 (.bin .gtr (Z 18) (Z 20))]) (.cond (Z 21) (.seq (.reg [oo 4 (.mov (.con (i6 9)))]) .ret) .skip)) (.seq (.reg [oo 4 (.mov (.con (i6 0)))]) .ret))))⟩
theorem comp77 : compFn Try.prog 77 = some F77 := by kernel_rfl
def F78 : AFn := ⟨1, 20, [.tmp 2], (.seq (.reg [oo 1 (.box (Z 0)), oo 2 (.mov (.con (i6 0)))]) (.seq (.block 0 (.seq (.reg [oo 4 (.faddr (Z 1) 1), oo 5 (.load none (Z 4)), oo 6 (.call (.con (.fn 62 [] [])) [(Z 5), (.con (i6 0)), (.con (i6 20000))]), oo 7 (.un .not (Z 6)), oo 8 (.mov (Z 7)), ⟨some 9, .faddr (Z 1) 2, some (8, false)⟩, ⟨some 10, .load none (Z 9), some (8, false)⟩, ⟨some 11, .call (.con (.fn 62 [] [])) [(Z 10), (.con (i6 0)), (.con (i6 20000))], some (8, false)⟩, ⟨some 12, .un .not (Z 11), some (8, false)⟩, oo 13 (.pick (Z 8) (.con (.bool true)) (Z 12)), oo 3 (.mov (Z 13))]) (.cond (Z 3) (.seq (.reg [oo 2 (.mov (.con (i6 2)))]) .ret) (.seq (.reg [oo 15 (.faddr (Z 1) 1), oo 16 (.load none (Z 15)), oo 17 (.faddr (Z 1) 2), oo 18 (.load none (Z 17)), oo 19 (.bin .geq (Z 16) (Z 18)), oo 14 (.mov (Z 19))]) (.cond (Z 14) (.seq (.reg [oo 2 (.mov (.con (i6 9)))]) .ret) .skip))))) (.seq (.reg [oo 2 (.mov (.con (i6 0)))]) .ret)))⟩
theorem comp78 : compFn Try.prog 78 = some F78 := by kernel_rfl
def F79 : AFn := ⟨1, 12, [.tmp 2], (.seq (.reg [oo 1 (.box (Z 0)), oo 2 (.mov (.con (i6 0)))]) (.seq (.block 0 (.seq (.reg [oo 4 (.faddr (Z 1) 1), oo 5 (.load none (Z 4)), oo 6 (.call (.con (.fn 62 [] [])) [(Z 5), (.con (i6 0)), (.con (i6 2000))]), oo 7 (.un .not (Z 6)), oo 3 (.mov (Z 7))]) (.cond (Z 3) (.seq (.reg [oo 2 (.mov (.con (i6 2)))]) .ret) (.seq (.reg [oo 9 (.faddr (Z 1) 2), oo 10 (.load none (Z 9)), oo 11 (.bin .neq (Z 10) (.con (i6 0))), oo 8 (.mov (Z 11))]) (.cond (Z 8) (.seq (.reg [oo 2 (.mov (.con (i6 1)))]) .ret) .skip))))) (.seq (.reg [oo 2 (.mov (.con (i6 0)))]) .ret)))⟩
theorem comp79 : compFn Try.prog 79 = some F79 := by kernel_rfl
def F80 : AFn := ⟨1, 13, [.tmp 2], (.seq (.reg [oo 1 (.box (Z 0)), oo 2 (.mov (.con (i6 0)))]) (.seq (.seq (.reg [oo 3 (.faddr (Z 1) 1), oo 4 (.load none (Z 3)), oo 5 (.call (.con (.fn 62 [] [])) [(Z 4), (.con (i6 0)), (.con (i6 10000000))]), oo 6 (.un .not (Z 5)), oo 7 (.mov (Z 6)), ⟨some 8, .faddr (Z 1) 2, some (7, false)⟩, ⟨some 9, .load none (Z 8), some (7, false)⟩, ⟨some 10, .call (.con (.fn 62 [] [])) [(Z 9), (.con (i6 0)), (.con (i6 10000000))], some (7, false)⟩, ⟨some 11, .un .not (Z 10), some (7, false)⟩, oo 12 (.pick (Z 7) (.con (.bool true)) (Z 11))]) (.cond (Z 12) (.seq (.reg [oo 2 (.mov (.con (i6 2)))]) .ret) .skip)) (.seq (.reg [oo 2 (.mov (.con (i6 0)))]) .ret)))⟩
theorem comp80 : compFn Try.prog 80 = some F80 := by kernel_rfl
def F81 : AFn := ⟨1, 18, [.tmp 4], (.seq (.reg [oo 4 (.mov (.con (.bool false)))]) (.seq (.reg [oo 5 (.faddr (Z 1) 0), oo 6 (.faddr (Z 5) 4), oo 7 (.load none (Z 6)), oo 8 (.mov (Z 0)), oo 9 (.bin .add (Z 7) (Z 8)), oo 10 (.bin .mul (.con (i6 2)) (Z 9)), oo 11 (.faddr (Z 1) 0), oo 12 (.faddr (Z 11) 1), oo 13 (.load none (Z 12)), oo 14 (.bin .sub (Z 10) (Z 13)), oo 15 (.load none (Z 2)), oo 16 (.bin .mul (.con (i6 2)) (Z 15)), oo 17 (.bin .geq (Z 14) (Z 16)), oo 4 (.mov (Z 17))]) .ret))⟩
theorem comp81 : compFn Try.prog 81 = some F81 := by kernel_rfl
end Go.Proofs.Ytodhdfkefkkdnaa
end
