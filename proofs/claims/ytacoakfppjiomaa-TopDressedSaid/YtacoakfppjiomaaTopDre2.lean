/- Part 3 of what the law needs: own work, put together. -/
import Derived.Scope
import Derived.Laws.CopyRow
import Derived.Laws.IdiomCopy
import Derived.Test.YtacoakfppjiomaaProg
import Derived.KernelRfl
import Derived.Test.YtacoakfppjiomaaTopDre1
set_option linter.unusedVariables false
set_option linter.unusedSimpArgs false
set_option maxRecDepth 10000
set_option maxHeartbeats 4000000
section
namespace Go.Proofs.Ytacoakfppjiomaa
open Go.RowKit

theorem compOp_call {P : Program} {ty : TypeId} {op : Op} {f : AOpd} {args : List AOpd} (h : compOp P ty op = some (.call f args)) : ∃ sf sargs ts, op = .call { callee := .value sf, args := sargs, argTypes := ts } ∧ compOpd sf = some f ∧ compOpds sargs = some args := by
 unfold compOp at h
 split at h
 all_goals first
  | (rename_i sf sargs ts
     simp only [Option.bind_eq_bind, Option.bind_eq_some_iff, Option.pure_def, Option.some.injEq, AOp.call.injEq] at h
     obtain ⟨f', hf, as', has, rfl, rfl⟩ := h
     exact ⟨_, _, _, rfl, hf, has⟩)
  | (exfalso; cases h; done)
  | (exfalso; simp [Option.bind_eq_some_iff] at h; done)
  | skip
 all_goals (exfalso; revert h)
 all_goals (try (simp [Option.bind_eq_some_iff]; done))
 all_goals (repeat (first | (intro h; cases h; done) | split))
 all_goals (try (simp [Option.bind_eq_some_iff]; done))
 all_goals (try (repeat (first | (intro h; cases h; done) | split)))
 all_goals (try (intro h; simp [Option.bind_eq_some_iff] at h; done))
 all_goals (intro h; simp only [Option.bind_eq_bind, Option.bind_eq_some_iff, Option.pure_def, Option.map_eq_some_iff, Option.some.injEq, reduceCtorEq, and_false, exists_false] at h)
 all_goals (repeat' (first | (cases h; done) | (obtain ⟨_, _, h⟩ := h; try simp only [Option.bind_eq_bind, Option.bind_eq_some_iff, Option.pure_def, Option.map_eq_some_iff, Option.some.injEq, reduceCtorEq, and_false, exists_false] at h) | (simp [Option.bind_eq_some_iff] at h; done) | split at h))

theorem VR.inv_yld {G : Gh} {l t : Nat} {u : Value} (h : VR G (.yld l t) u) : u = .func (.yield l) #[] #[] := by cases h; rfl
theorem yield_run {P : Program} {G : Gh} {w : World} {o : Oper} {ρ : Operand → Value} {a : AOpd → AV} {sf : Operand} {sargs : Array Operand} {ts : Array TypeId} {f : AOpd} {args : List AOpd} {l t : Nat} {r : Loop} (ho : o.op = .call { callee := .value sf, args := sargs, argTypes := ts }) (hf : compOpd sf = some f) (ha : compOpds sargs = some args) (h : OpdOk G a ρ) (hv : a f = .yld l t) (hl : w.heap[l]? = some (.loop r)) (hs : r.params.size = args.length) :
  ∃ us : Array Value, (execOp ρ o).run P w = .ok (.round l r.fn ((r.params.zip us).foldl (fun tmps (t, a) => tmps.setIfInBounds t a) r.tmps) r.assign r.body) w ∧ us.size = args.length ∧ ∀ (i : Nat) x u, (args.map a)[i]? = some x → us[i]? = some u → VR G x u := by
 have h1 := h sf f hf
 rw [hv] at h1
 have hu := h1.inv_yld
 have hall := VL.opds ha h
 have hsz : (sargs.map ρ).size = args.length := by rw [hall.1, List.length_map]
 refine ⟨sargs.map ρ, ?_, hsz, hall.2⟩
 have hy := run_yield (P := P) (args := sargs.map ρ) hl (by rw [hsz, hs])
 simp only [execOp, ho, resolve, hu, Deferred.ofValue, invoke]
 simp [hy]

theorem zip_foldl (ps : Array Tmp) (us : Array Value) (t : Array Value) : (ps.zip us).foldl (fun tmps (t, a) => tmps.setIfInBounds t a) t = (ps.toList.zip us.toList).foldl (fun tmps (t, a) => tmps.setIfInBounds t a) t := by
 rw [← Array.foldl_toList, Array.toList_zip]

section rules
variable {c : Cx} {md : Md} {P : Program} {a : List AV} {S : St} {Q : AEx → List AV → St → Prop} {R : List AV → St → Prop}

theorem ExI.yield {L : Lp} {a0 : List AV} {ps : List Nat} {x0 y0 : ACode} (hL : LpOk P c L a0 ps x0 y0) {x : AOper} {l : List AOper} (f : AOpd) (args : List AOpd) (t : Nat) (xs : List AV) (hw : wantedA x.guard a = some true) (ho : x.op = .call f args) (hf : evd a f = .yld L.l t) (hxs : args.map (evd a) = xs) (hps : ps.length = xs.length) (hr : S.lv[L.t]? = some (0, 0)) (hn : c.n ≤ S.bx.length)
  (h : ∀ (ca cb : Cx), ca.n = S.bx.length → cb.n = S.bx.length → ca.m = S.lv.length → cb.m = S.lv.length → (∀ L' a' ps' x' y', LpOk P c L' a' ps' x' y' → L'.l ≠ L.l → LpOk P ca L' a' ps' x' y' ∧ LpOk P cb L' a' ps' x' y') → Fact.bz L ∈ cb.fs →
    Ex ca (.round L.l (md.n - 1)) P x0 (setPs a0 ps xs) S fun z a1 S1 => z = .norm ∧ S1.lv[L.t]? = some (0, 0) ∧
     Ex cb (.round L.l (md.n - 1)) P y0 a1 S1 fun z a2 S2 => match z with
      | .norm => ExI c md P l (putA a x.dst (.bool true)) S2 R
      | .ret => ExI c md P l (putA a x.dst (.bool false)) ⟨S2.bx, S2.lv.set L.t (1, 0)⟩ R
      | .ex i => ExI c md P l (putA a x.dst (.bool false)) ⟨S2.bx, S2.lv.set L.t (i + 2, 0)⟩ R) : ExI c md P (x :: l) a S R := by
 intro E hE ops l0 Q hco hdef hq act w hA
 obtain ⟨o, l', rfl, hx, hl'⟩ := mapM_cons_inv hco
 obtain ⟨h1, h2, _⟩ := compOper_ok hx
 obtain ⟨G, hI, hR, hg, hk, hd⟩ := hA
 have hgr := hg
 subst hE
 obtain ⟨f1, f2, hfs, hfree⟩ := hL.fs
 obtain ⟨G0, n0, m0, hle0, htz, htv⟩ := hL.rel
 have hmem : Fact.lp L ∈ E.c.fs := by rw [hfs]; simp
 have hlp := hd.x _ hmem
 obtain ⟨hnone, k, hk1, hk2⟩ := hlp
 rw [hr] at hk1
 cases hk1
 have hlt : L.t < E.c.m := E.c.hw _ hmem
 have hlk : L.l < E.c.k := E.c.hk _ hmem
 have hab : E.w.heap.size ≤ L.l := E.hW _ hmem
 have hG0 := (hd.x _ hle0).1
 obtain ⟨sf, sargs, ts, hop, hsf, hsa⟩ := compOp_call (ho ▸ h1)
 have hpl : L.r.params.size = args.length := by
  rw [← Array.length_toList, hL.ps, hps, ← hxs, List.length_map]
 have hk2' : w.heap[L.l]? = some (.loop { L.r with state := .ready, pending := none }) := hk2
 obtain ⟨us, hrun, husz, husv⟩ := yield_run (P := P) (w := w) hop hsf hsa hR.opd hf hk2' hpl
 simp only [wpListIn]
 rw [if_pos (wantedA_ok hx hR hw)]
 refine ⟨fun g _ => md.fn g, ?_⟩
 rw [Oper.semAt_eq _ _ _ (hdef o (by simp)), hrun, Oper.uponIn_round]
 refine ⟨fun hdp => md.depth hdp, ?_⟩
 rw [hxs] at husv
 have husl : us.toList.length = xs.length := by rw [Array.length_toList, husz, ← hxs, List.length_map]
 -- the two contexts
 have hwf : ∀ g ∈ E.c.fs, g.wf S.bx.length S.lv.length := fun g hg' => (E.c.hw g hg').mono hn hd.m
 have hdomA : ∀ b B, G.al b = some B → b < S.bx.length := fun b B h => (hI.dal b B h).1
 have hdomT : ∀ t k v, G.tb t k = some v → t < S.lv.length := fun t k v h => by
  obtain ⟨m, s, h1, _⟩ := hI.dtb t k v h
  exact (List.getElem?_eq_some_iff.1 h1).1
 let ca : Cx := ⟨S.bx.length, S.lv.length, w.heap.size, .le G S.bx.length S.lv.length :: .df E.b w.heap.size E.d act.defers :: E.c.fs, fun g hg' => (by
  rcases List.mem_cons.1 hg' with rfl | hg'
  ·exact ⟨Nat.le_refl _, Nat.le_refl _⟩
  rcases List.mem_cons.1 hg' with rfl | hg'
  ·trivial
  ·exact hwf g hg'), fun g hg' => (by
  rcases List.mem_cons.1 hg' with rfl | hg'
  ·trivial
  rcases List.mem_cons.1 hg' with rfl | hg'
  ·exact Nat.le_refl _
  ·exact (E.c.hk g hg').mono hd.k)⟩
 let cb : Cx := ⟨S.bx.length, S.lv.length, w.heap.size, .le G S.bx.length S.lv.length :: .df E.b w.heap.size E.d act.defers :: (f1 ++ .bz L :: f2), fun g hg' => (by
  rcases List.mem_cons.1 hg' with rfl | hg'
  ·exact ⟨Nat.le_refl _, Nat.le_refl _⟩
  rcases List.mem_cons.1 hg' with rfl | hg'
  ·trivial
  ·rcases List.mem_append.1 hg' with hg' | hg'
   ·exact hwf g (by rw [hfs]; simp [hg'])
   ·rcases List.mem_cons.1 hg' with rfl | hg'
    ·exact (show L.t < S.lv.length from hwf (.lp L) hmem)
    ·exact hwf g (by rw [hfs]; simp [hg'])), fun g hg' => (by
  rcases List.mem_cons.1 hg' with rfl | hg'
  ·trivial
  rcases List.mem_cons.1 hg' with rfl | hg'
  ·exact Nat.le_refl _
  ·rcases List.mem_append.1 hg' with hg' | hg'
   ·exact (E.c.hk g (by rw [hfs]; simp [hg'])).mono hd.k
   ·rcases List.mem_cons.1 hg' with rfl | hg'
    ·exact Nat.lt_of_lt_of_le hlk hd.k
    ·exact (E.c.hk g (by rw [hfs]; simp [hg'])).mono hd.k)⟩
 have hup : ∀ L' a' ps' x' y', LpOk P E.c L' a' ps' x' y' → L'.l ≠ L.l → LpOk P ca L' a' ps' x' y' ∧ LpOk P cb L' a' ps' x' y' := by
  intro L' a' ps' x' y' hL' hne
  obtain ⟨g1, g2, hgs, hgf⟩ := hL'.fs
  obtain ⟨G', n', m', hle', h3, h4⟩ := hL'.rel
  refine ⟨⟨⟨.le G S.bx.length S.lv.length :: .df E.b w.heap.size E.d act.defers :: g1, g2, by show _ :: _ :: E.c.fs = _; rw [hgs]; rfl, fun g hg' => ?_⟩, ⟨G', n', m', List.mem_cons_of_mem _ (List.mem_cons_of_mem _ hle'), h3, h4⟩, hL'.ps, hL'.x, hL'.y⟩, ⟨?_, ⟨G', n', m', ?_, h3, h4⟩, hL'.ps, hL'.x, hL'.y⟩⟩
  ·rcases List.mem_cons.1 hg' with rfl | hg'
   ·trivial
   rcases List.mem_cons.1 hg' with rfl | hg'
   ·trivial
   ·exact hgf g hg'
  ·-- L' among the others
   have hin : Fact.lp L' ∈ f1 ++ f2 := by
    have : Fact.lp L' ∈ E.c.fs := by rw [hgs]; simp
    rw [hfs] at this
    rcases List.mem_append.1 this with h | h
    ·exact List.mem_append_left _ h
    ·rcases List.mem_cons.1 h with h | h
     ·cases h; exact absurd rfl hne
     ·exact List.mem_append_right _ h
   have hfL := hfree _ hin
   have hothers : ∀ g ∈ f1 ++ .bz L :: f2, g ≠ .lp L' → g.free L'.l L'.t := by
    intro g hg' hne'
    have hgE : g = .bz L ∨ g ∈ E.c.fs := by
     rcases List.mem_append.1 hg' with h | h
     ·exact .inr (by rw [hfs]; simp [h])
     ·rcases List.mem_cons.1 h with h | h
      ·exact .inl h
      ·exact .inr (by rw [hfs]; simp [h])
    rcases hgE with rfl | hgE
    ·exact ⟨fun e => hfL.1 e.symm, fun e => hfL.2 e.symm⟩
    ·rw [hgs] at hgE
     rcases List.mem_append.1 hgE with h | h
     ·exact hgf g (List.mem_append_left _ h)
     ·rcases List.mem_cons.1 h with h | h
      ·exact absurd h hne'
      ·exact hgf g (List.mem_append_right _ h)
   -- it stands there once
   have honce : ∃ h1 h2, f1 ++ .bz L :: f2 = h1 ++ .lp L' :: h2 ∧ ∀ g ∈ h1 ++ h2, g ≠ .lp L' := by
    have hE1 : ∀ u v, f1 ++ .lp L :: f2 = u ++ v → True := fun _ _ _ => trivial
    have hg12 : ∀ g ∈ g1 ++ g2, g ≠ .lp L' := fun g hg' e => by
     have := hgf g hg'; rw [e] at this; exact this.1 rfl
    have heq : f1 ++ .lp L :: f2 = g1 ++ .lp L' :: g2 := by rw [← hfs, hgs]
    rcases List.append_eq_append_iff.1 heq with ⟨m, e1, e2⟩ | ⟨m, e1, e2⟩
    ·cases m with
     | nil =>
      simp at e2
      exact absurd (by rw [e2.1]) hne
     | cons q m =>
      simp only [List.cons_append, List.cons.injEq] at e2
      obtain ⟨rfl, e2⟩ := e2
      refine ⟨f1 ++ .bz L :: m, g2, by rw [e2]; simp, fun g hg' => ?_⟩
      simp only [List.mem_append, List.mem_cons] at hg'
      rcases hg' with (hg' | rfl | hg') | hg'
      ·exact hg12 g (by rw [e1]; simp [hg'])
      ·simp
      ·exact hg12 g (by rw [e1]; simp [hg'])
      ·exact hg12 g (by simp [hg'])
    ·cases m with
     | nil =>
      simp at e2
      exact absurd (by rw [← e2.1]) hne
     | cons q m =>
      simp only [List.cons_append, List.cons.injEq] at e2
      obtain ⟨rfl, e2⟩ := e2
      refine ⟨g1, m ++ .bz L :: f2, by rw [e1]; simp, fun g hg' => ?_⟩
      simp only [List.mem_append, List.mem_cons] at hg'
      rcases hg' with hg' | hg' | rfl | hg'
      ·exact hg12 g (by simp [hg'])
      ·exact hg12 g (by rw [e2]; simp [hg'])
      ·simp
      ·exact hg12 g (by rw [e2]; simp [hg'])
   obtain ⟨h1, h2, e1, e2⟩ := honce
   refine ⟨.le G S.bx.length S.lv.length :: .df E.b w.heap.size E.d act.defers :: h1, h2, by show _ :: _ :: (f1 ++ .bz L :: f2) = _; rw [e1]; rfl, fun g hg' => ?_⟩
   rcases List.mem_cons.1 hg' with rfl | hg'
   ·trivial
   rcases List.mem_cons.1 hg' with rfl | hg'
   ·trivial
   ·refine hothers g (by rw [e1]; rcases List.mem_append.1 hg' with h | h <;> simp [h]) (e2 g hg')
  ·rw [hfs] at hle'
   rcases List.mem_append.1 hle' with h | h
   ·exact List.mem_cons_of_mem _ (List.mem_cons_of_mem _ (List.mem_append_left _ h))
   ·rcases List.mem_cons.1 h with h | h
    ·cases h
    ·exact List.mem_cons_of_mem _ (List.mem_cons_of_mem _ (List.mem_append_right _ (List.mem_cons_of_mem _ h)))
 have hEx := h ca cb rfl rfl rfl rfl hup (by show _ ∈ _ :: _ :: (f1 ++ .bz L :: f2); simp)
 -- the assignments
 let Ea : Ent := ⟨E.G, E.S, E.w, [], E.inv, ca, hk.ll, E.tr, Nat.le_trans hk.bl (Nat.le_refl _), fun g hg' => (by
  rcases List.mem_cons.1 hg' with rfl | hg'
  ·trivial
  rcases List.mem_cons.1 hg' with rfl | hg'
  ·trivial
  ·exact E.hW g hg'), w.heap.size, hgr.size⟩
 let Eb : Ent := ⟨E.G, E.S, E.w, [], E.inv, cb, hk.ll, E.tr, Nat.le_trans hk.bl (Nat.le_refl _), fun g hg' => (by
  rcases List.mem_cons.1 hg' with rfl | hg'
  ·trivial
  rcases List.mem_cons.1 hg' with rfl | hg'
  ·trivial
  ·rcases List.mem_append.1 hg' with hg' | hg'
   ·exact E.hW g (by rw [hfs]; simp [hg'])
   ·rcases List.mem_cons.1 hg' with rfl | hg'
    ·exact hab
    ·exact E.hW g (by rw [hfs]; simp [hg'])), w.heap.size, hgr.size⟩
 obtain ⟨hps1, hps2⟩ := setPs_rel ps xs us.toList a0 L.r.tmps husl (fun i x u h1 h2 => husv i x u h1 (by simpa using h2)) htz (fun i z u h1 h2 => (htv i z u h1 h2).mono hG0)
 have hAa : At Ea (setPs a0 ps xs) S { tmps := (ps.zip us.toList).foldl (fun t (p, v) => t.setIfInBounds p v) L.r.tmps, defers := [] } w := by
  refine ⟨G, hI, ⟨hps1, hps2⟩, hg, hk, ⟨⟨[], rfl, .nil, fun _ h => (by cases h)⟩, fun g hg' => ?_, Nat.le_refl _, Nat.le_refl _, Nat.le_refl _⟩⟩
  rcases List.mem_cons.1 hg' with rfl | hg'
  ·exact ⟨.refl G, hdomA, hdomT⟩
  rcases List.mem_cons.1 hg' with rfl | hg'
  ·exact hd.d
  ·exact hd.x g hg'
 refine roundIn_of_wpIn (md.fn _) ?_
 have hz : (L.r.params.zip us).foldl (fun (t : Array Value) (p : Tmp × Value) => t.setIfInBounds p.1 p.2) L.r.tmps = (ps.zip us.toList).foldl (fun t p => t.setIfInBounds p.1 p.2) L.r.tmps := by
  rw [← hL.ps]; exact zip_foldl L.r.params us L.r.tmps
 have hfr : md.F.inRound L.l = Fence.wide.inRound L.l := by cases md <;> rfl
 rw [hfr]
 have hasg := hEx Ea rfl L.r.assign hL.x _ w hAa
 simp only [cwp] at hasg
 change Code.wpIn (Fence.wide.inRound L.l) (md.n - 1) P L.r.assign _ { tmps := (L.r.params.zip us).foldl (fun (t : Array Value) (p : Tmp × Value) => t.setIfInBounds p.1 p.2) L.r.tmps, defers := [] } w
 rw [hz]
 refine wpIn_mono hasg ?_
 rintro e act1 w1 ⟨z, a1, S1, rfl, ⟨rfl, hfl1, hbody⟩, G1, hI1, hR1, hg1, hk1', hd1⟩
 have hf1 : ∀ g ∈ ca.fs, g.ok G1 S1 w1 := hd1.x
 obtain ⟨hn1, k1, hk11, hk12⟩ := hf1 (.lp L) (List.mem_cons_of_mem _ (List.mem_cons_of_mem _ hmem))
 rw [hfl1] at hk11
 cases hk11
 have hk12 : w1.heap[L.l]? = some (.loop { L.r with state := .ready, pending := none }) := hk12
 refine ⟨w1.putObj L.l L.busy, run_beginRound hk12 rfl, ?_⟩
 have hlt1 : L.l < w1.heap.size := (Array.getElem?_eq_some_iff.1 hk12).1
 have hAb : At Eb a1 S1 act1 (w1.putObj L.l L.busy) := by
  refine ⟨G1, hI1.putObj _ hk12 rfl, hR1, hg1.putObj _ hab, hk1', ⟨?_, fun g hg' => ?_, hd1.m, ?_, ?_⟩⟩
  ·refine DefOk.mono (Fact.other (f := .df w.heap.size w1.heap.size [] act1.defers) (S := S1) (G := G1) L.busy hd1.d hk12 trivial) ?_
   simp [World.putObj]
  ·rcases List.mem_cons.1 hg' with rfl | hg'
   ·exact hf1 _ (List.mem_cons_self ..)
   rcases List.mem_cons.1 hg' with rfl | hg'
   ·exact Fact.other L.busy (hf1 _ (List.mem_cons_of_mem _ (List.mem_cons_self ..))) hk12 trivial
   have hoth : ∀ g ∈ f1 ++ f2, g.ok G1 S1 (w1.putObj L.l L.busy) := fun g hg' => by
    have hgE : g ∈ E.c.fs := by
     rw [hfs]
     rcases List.mem_append.1 hg' with h | h <;> simp [h]
    refine Fact.other L.busy (hf1 g (List.mem_cons_of_mem _ (List.mem_cons_of_mem _ hgE))) hk12 ?_
    have := hfree g hg'
    cases g <;> first | trivial | exact this.1
   rcases List.mem_append.1 hg' with hg' | hg'
   ·exact hoth g (List.mem_append_left _ hg')
   ·rcases List.mem_cons.1 hg' with rfl | hg'
    ·exact ⟨hn1, hfl1, World.putObj_heap_same hlt1⟩
    ·exact hoth g (List.mem_append_right _ hg')
  ·show w.heap.size ≤ _
   have := hd1.k
   simp only [World.putObj, Array.size_setIfInBounds]
   exact this
  ·have := hd1.b
   simp only [World.putObj, Array.size_setIfInBounds]
   exact this
 have hbod := hbody Eb rfl L.r.body hL.y act1 _ hAb
 simp only [cwp] at hbod
 refine wpIn_mono hbod ?_
 rintro e act2 w3 ⟨z, a2, S2, rfl, hz, G2, hI2, hR2, hg2, hk2', hd2⟩
 have hf2 : ∀ g ∈ cb.fs, g.ok G2 S2 w3 := hd2.x
 obtain ⟨hn2, hfl2, hbz⟩ := hf2 (.bz L) (by show _ ∈ _ :: _ :: (f1 ++ .bz L :: f2); simp)
 have hle2 : G.le G2 := (hf2 _ (List.mem_cons_self ..)).1
 have hdf2 : DefOk E.b w.heap.size E.d act.defers w3 := hf2 _ (List.mem_cons_of_mem _ (List.mem_cons_self ..))
 have hlt3 : L.l < w3.heap.size := (Array.getElem?_eq_some_iff.1 hbz).1
 have htl : L.t < S2.lv.length := (List.getElem?_eq_some_iff.1 hfl2).1
 have fin : ∀ (k : Nat) (b : Bool), At E (putA a x.dst (.bool b)) ⟨S2.bx, S2.lv.set L.t (k, 0)⟩ (act.put o.dst (.bool b)) (w3.putObj L.l (L.obj k)) := by
  intro k b
  refine ⟨G2, (hI2.putObj _ hbz rfl).flag _ hn2, h2 ▸ (hR.mono hle2).put x.dst (.bool b), (hg2.putObj _ hab).flag _ hn2, ⟨hk2'.bl, by simpa using hk2'.ll, hk2'.al, hk2'.tb, fun t ht h0 => (E.tbN ht h0).elim⟩, ⟨?_, fun g hg' => ?_, ?_, ?_, ?_⟩⟩
  ·have hd' : DefOk E.b w.heap.size E.d act.defers (w3.putObj L.l (L.obj k)) := Fact.other (f := .df E.b w.heap.size E.d act.defers) (S := S2) (G := G2) (L.obj k) hdf2 hbz trivial
   have hsz : w.heap.size ≤ (w3.putObj L.l (L.obj k)).heap.size := by
    have := hd2.b
    simp only [World.putObj, Array.size_setIfInBounds]
    exact this
   cases o.dst <;> exact hd'.mono hsz
  ·have hoth : ∀ g ∈ f1 ++ f2, g.ok G2 ⟨S2.bx, S2.lv.set L.t (k, 0)⟩ (w3.putObj L.l (L.obj k)) := fun g hg' => by
    have hin : g ∈ cb.fs := by
     show g ∈ _ :: _ :: (f1 ++ .bz L :: f2)
     rcases List.mem_append.1 hg' with h | h <;> simp [h]
    have hfr := hfree g hg'
    refine Fact.flag _ (Fact.other (L.obj k) (hf2 g hin) hbz ?_) ?_
    ·cases g <;> first | trivial | exact hfr.1
    ·cases g <;> first | trivial | exact hfr.2
   rw [hfs] at hg'
   rcases List.mem_append.1 hg' with hg' | hg'
   ·exact hoth g (List.mem_append_left _ hg')
   ·rcases List.mem_cons.1 hg' with rfl | hg'
    ·exact ⟨hn2, k, List.getElem?_set_self htl, World.putObj_heap_same hlt3⟩
    ·exact hoth g (List.mem_append_right _ hg')
  ·show E.c.m ≤ (S2.lv.set L.t (k, 0)).length
   rw [List.length_set]
   exact Nat.le_trans hd.m hd2.m
  ·have := hd2.k
   simp only [World.putObj, Array.size_setIfInBounds]
   exact Nat.le_trans hd.k this
  ·have := hd2.b
   simp only [World.putObj, Array.size_setIfInBounds]
   exact Nat.le_trans hd.b this
 have hset0 : S2.lv.set L.t (0, 0) = S2.lv := by
  apply List.ext_getElem?
  intro i
  rw [List.getElem?_set]
  split
  ·rename_i hti
   subst hti
   first | rw [if_pos htl, hfl2] | rw [hfl2]
  ·rfl
 have hdef' : ∀ o ∈ l', ∀ d, o.op ≠ .defer d := fun o ho => hdef o (List.mem_cons_of_mem _ ho)
 cases z with
 | norm =>
  refine ⟨.bool true, w3.putObj L.l (L.obj 0), run_endRound (r := { L.r with state := .busy, pending := none }) none hbz, ?_⟩
  have hA3 := fin 0 true
  rw [hset0] at hA3
  exact hz E rfl ops l' Q hl' hdef' hq _ _ hA3
 | ret =>
  refine ⟨.bool false, w3.putObj L.l (L.obj 1), run_endRound (r := { L.r with state := .busy, pending := none }) (some .ret) hbz, ?_⟩
  exact hz E rfl ops l' Q hl' hdef' hq _ _ (fin 1 false)
 | ex i =>
  refine ⟨.bool false, w3.putObj L.l (L.obj (i + 2)), run_endRound (r := { L.r with state := .busy, pending := none }) (some (.exit i)) hbz, ?_⟩
  exact hz E rfl ops l' Q hl' hdef' hq _ _ (fin (i + 2) false)
end rules
end Go.Proofs.Ytacoakfppjiomaa
end
section
namespace Go.Proofs.Ytacoakfppjiomaa
open Go.RowKit

theorem compFn_inv {P : Program} {f : FuncId} {F : AFn} (hF : compFn P f = some F) : ∃ fn c, P.funcs[f]? = some fn ∧ fn.body = some c ∧ fn.results.toList.mapM (compRes P) = some F.res ∧ compCode P c = some F.code ∧ F.ntmps = fn.ntmps ∧ ∀ us w, (callFunc f us).run P w = .ok (.enter f us) w := by
 unfold compFn at hF
 split at hF
 ·rename_i fn hf
  split at hF
  ·rename_i c rs hb hrs
   split at hF
   ·rename_i ac hac
    split at hF
    ·cases hF
    ·rename_i hname
     cases hF
     refine ⟨fn, c, hf, hb, hrs, hac, rfl, fun us w => ?_⟩
     simp only [callFunc, program, Sem.run, hf, Sem.run_bind, Result.andThen_ok, hname, hb]
     rfl
   ·cases hF
  ·cases hF
 ·cases hF
theorem start_rel {G : Gh} {F : AFn} {xs : List AV} {us : Array Value} {n : Nat} (hn : F.ntmps = n) (hvs : VRs G xs us) : Rel G (start F xs) { tmps := us ++ Array.replicate (n - us.size) undef, defers := [] } := by
 subst hn
 refine ⟨by simp [start, hvs.1], fun i y u hy hu => ?_⟩
 simp only [start] at hy
 simp only at hu
 rw [List.getElem?_append] at hy
 rw [Array.getElem?_append, hvs.1] at hu
 split at hy
 ·rename_i hlt
  rw [if_pos hlt] at hu
  exact hvs.2 i y u hy hu
 ·rename_i hlt
  rw [if_neg hlt] at hu
  have e1 := List.eq_of_mem_replicate (List.mem_of_getElem? hy)
  have e2 : u ∈ (Array.replicate (F.ntmps - xs.length) undef) := Array.mem_of_getElem? hu
  have e3 := (Array.mem_replicate.1 e2).2
  rw [e1, e3]
  exact .undef G

def exitOf : Nat → AEx
 | 0 => .norm
 | 1 => .ret
 | i + 2 => .ex i
theorem jump_wpIn {F : Fence} {n : Nat} {P : Program} {Q : Exit → Act → World → Prop} {a : Act} {w : World} (k : Nat) (h : Q (exitOf (k + 1)).out a w) : (jumpOf k).wpIn F n P Q a w := by
 cases k with
 | zero => exact wpIn_ret h
 | succ i => exact wpIn_exit h

section rules
variable {c : Cx} {md : Md} {P : Program} {a : List AV} {S : St} {Q : AEx → List AV → St → Prop} {R : List AV → St → Prop}

theorem Ex.rangeF {g : AOpd} {ps : List Nat} {x y : ACode} (f : FuncId) (caps : List AV) (F : AFn) (hg0 : evd a g = .fn f [] caps) (hF : compFn P f = some F) (hres : F.res = []) (hn : c.n ≤ S.bx.length) (hmd : match md with | .plain => True | .round l _ => ∃ L, Fact.bz L ∈ c.fs ∧ L.l = l)
  (h : ∀ (c1 : Cx) (L : Lp), c1.n = S.bx.length → c1.m = S.lv.length + 1 → L.t = S.lv.length → LpOk P c1 L a ps x y → (∀ L' a' ps' x' y', LpOk P c L' a' ps' x' y' → L'.l ≠ L.l ∧ LpOk P c1 L' a' ps' x' y') →
    Ex c1 .plain P F.code (start F (.yld L.l S.lv.length :: caps)) ⟨S.bx, S.lv ++ [(0, 0)]⟩ fun z a' S' => (z = .norm ∨ z = .ret) ∧ ∃ k, S'.lv[S.lv.length]? = some (k, 0) ∧ Q (exitOf k) a S') : Ex c md P (.rangeF g ps x y) a S Q := by
 intro E hE code hco act w hA
 subst hE
 obtain ⟨g', ps', x', y', rfl, hg', hps, hx, hy⟩ := compCode_rangeF hco
 obtain ⟨G, hI, hR, hgr, hk, hd⟩ := hA
 have hv := hR.opd g' g hg'
 rw [hg0] at hv
 obtain ⟨vs, us, hval, hvp, hvc⟩ := hv.inv_fn
 have hvs0 : vs = #[] := Array.eq_empty_of_size_eq_zero hvp.1
 subst hvs0
 obtain ⟨fn, c1, hf, hb, hrs, hac, hnt, hen⟩ := compFn_inv hF
 refine cwp_of_in (wpIn_rangeFunc ?_)
 intro fn0 hfn0
 obtain ⟨l, mk, dD, W1, hent, hrec, hwl, hI1, hg1, hmk⟩ : ∃ (l : Nat) (mk : List Nat) (dD : Nat) (W1 : World), (Instr.enterLoop fn0 act.tmps ps' x' y' md.F.round).run P w = .ok (l, mk.map markOf) W1 ∧ W1.heap[l]? = some (.loop { state := .ready, pending := none, fn := fn0, tmps := act.tmps, params := ps', assign := x', body := y', defers := dD }) ∧ w.heap.size ≤ l ∧ Inv G S W1 ∧ Gro G S w G S W1 ∧ (mk.Nodup ∧ ∀ D ∈ mk, w.heap.size ≤ D ∧ W1.heap[D]? = some (.deferred (some []))) := by
  cases md with
  | plain =>
   refine ⟨w.heap.size + 1, [w.heap.size], w.heap.size, _, run_enterLoop_outer fn0 act.tmps ps' x' y', ?_, by omega, (hI.allocO _).allocO _, (Gro.allocO G S w _).trans (Gro.allocO G S _ _), by simp, fun D hD => ?_⟩
   ·have := World.alloc_heap_new (w.alloc (.deferred (some []))) (.loop { state := .ready, pending := none, fn := fn0, tmps := act.tmps, params := ps', assign := x', body := y', defers := w.heap.size })
    rwa [World.size_alloc] at this
   ·have hD : D = w.heap.size := by simpa using hD
    subst hD
    exact ⟨Nat.le_refl _, (Below.heap_alloc _ _ _ (by simp)).trans (World.alloc_heap_new w _)⟩
  | round l0 n0 =>
   obtain ⟨L0, hL0, rfl⟩ := hmd
   obtain ⟨_, _, hbz⟩ := hd.x _ hL0
   exact ⟨w.heap.size, [], _, _, run_enterLoop_inner hbz fn0 act.tmps ps' x' y', World.alloc_heap_new w _, Nat.le_refl _, hI.allocO _, Gro.allocO G S w _, .nil, fun D hD => by cases hD⟩
 obtain ⟨r, hr⟩ : ∃ r : Loop, r = { state := .ready, pending := none, fn := fn0, tmps := act.tmps, params := ps', assign := x', body := y', defers := dD } := ⟨_, rfl⟩
 rw [← hr] at hrec
 have hlW : l < W1.heap.size := (Array.getElem?_eq_some_iff.1 hrec).1
 have hrt : r.tmps = act.tmps := by rw [hr]
 let L : Lp := ⟨l, S.lv.length, r⟩
 have hobj0 : L.obj 0 = .loop r := by rw [hr]; show Obj.loop _ = _; simp only [L, hr]
 have hdW : DefOk E.b W1.heap.size E.d (mk.map markOf ++ act.defers) W1 := by
  obtain ⟨Ds, h1, h2, h3⟩ := (hd.d.oth hg1.oth)
  refine ⟨mk ++ Ds, by rw [h1, List.map_append, List.append_assoc], List.nodup_append.2 ⟨hmk.1, h2, fun D hD D' hD' e => ?_⟩, fun D hD => ?_⟩
  ·subst e
   have := (hmk.2 D hD).1
   have := (h3 D hD').1.2
   omega
  ·rcases List.mem_append.1 hD with hD | hD
   ·exact ⟨⟨Nat.le_trans hd.b (hmk.2 D hD).1, (Array.getElem?_eq_some_iff.1 (hmk.2 D hD).2).1⟩, (hmk.2 D hD).2⟩
   ·exact ⟨⟨(h3 D hD).1.1, Nat.lt_of_lt_of_le (h3 D hD).1.2 hg1.size⟩, (h3 D hD).2⟩
 have hbel : ∀ f' ∈ E.c.fs, f'.below l := fun f' hf' => (E.c.hk f' hf').mono (Nat.le_trans hd.k hwl)
 let cc : Cx := ⟨S.bx.length, S.lv.length + 1, W1.heap.size, .le G S.bx.length S.lv.length :: .df E.b W1.heap.size E.d (mk.map markOf ++ act.defers) :: .lp L :: E.c.fs, fun f' hf' => (by
  rcases List.mem_cons.1 hf' with rfl | hf'
  ·exact ⟨Nat.le_refl _, Nat.le_succ _⟩
  rcases List.mem_cons.1 hf' with rfl | hf'
  ·trivial
  rcases List.mem_cons.1 hf' with rfl | hf'
  ·exact Nat.lt_succ_self _
  ·exact (E.c.hw f' hf').mono hn (Nat.le_succ_of_le hd.m)), fun f' hf' => (by
  rcases List.mem_cons.1 hf' with rfl | hf'
  ·trivial
  rcases List.mem_cons.1 hf' with rfl | hf'
  ·exact Nat.le_refl _
  rcases List.mem_cons.1 hf' with rfl | hf'
  ·exact hlW
  ·exact (hbel f' hf').mono (Nat.le_of_lt hlW))⟩
 have hfree : ∀ f' ∈ E.c.fs, f'.free l S.lv.length := fun f' hf' => by
  have h1 := hbel f' hf'
  have h2 := E.c.hw f' hf'
  have h3 := hd.m
  cases f' with
  | lp L' => exact ⟨Nat.ne_of_lt h1, Nat.ne_of_lt (Nat.lt_of_lt_of_le h2 h3)⟩
  | bz L' => exact ⟨Nat.ne_of_lt h1, Nat.ne_of_lt (Nat.lt_of_lt_of_le h2 h3)⟩
  | _ => trivial
 have hLok : LpOk P cc L a ps x y := by
  refine ⟨⟨[.le G S.bx.length S.lv.length, .df E.b W1.heap.size E.d (mk.map markOf ++ act.defers)], E.c.fs, rfl, fun f' hf' => ?_⟩, ⟨G, S.bx.length, S.lv.length, List.mem_cons_self .., by show r.tmps.size = _; rw [hrt]; exact hR.size, fun i z u hz hu => ?_⟩, by show r.params.toList = ps; rw [hr]; exact hps, by show compCode P r.assign = _; rw [hr]; exact hx, by show compCode P r.body = _; rw [hr]; exact hy⟩
  ·rcases List.mem_append.1 hf' with hf' | hf'
   ·simp only [List.mem_cons, List.not_mem_nil, or_false] at hf'
    rcases hf' with rfl | rfl <;> trivial
   ·exact hfree f' hf'
  ·have hu : r.tmps[i]? = some u := hu
   rw [hrt] at hu
   exact hR.slot i z u hz hu
 have hup : ∀ L' a' ps' x' y', LpOk P E.c L' a' ps' x' y' → L'.l ≠ L.l ∧ LpOk P cc L' a' ps' x' y' := by
  intro L' a' ps' x' y' hL'
  obtain ⟨g1, g2, hgs, hgf⟩ := hL'.fs
  obtain ⟨G', n', m', hle', h3, h4⟩ := hL'.rel
  have hin : Fact.lp L' ∈ E.c.fs := by rw [hgs]; simp
  have hfr := hfree _ hin
  refine ⟨hfr.1, ⟨.le G S.bx.length S.lv.length :: .df E.b W1.heap.size E.d (mk.map markOf ++ act.defers) :: .lp L :: g1, g2, by show _ :: _ :: _ :: E.c.fs = _; rw [hgs]; rfl, fun f' hf' => ?_⟩, ⟨G', n', m', List.mem_cons_of_mem _ (List.mem_cons_of_mem _ (List.mem_cons_of_mem _ hle')), h3, h4⟩, hL'.ps, hL'.x, hL'.y⟩
  rcases List.mem_cons.1 hf' with rfl | hf'
  ·trivial
  rcases List.mem_cons.1 hf' with rfl | hf'
  ·trivial
  rcases List.mem_cons.1 hf' with rfl | hf'
  ·exact ⟨fun e => hfr.1 e.symm, fun e => hfr.2 e.symm⟩
  ·exact hgf f' hf'
 have hEx := h cc L rfl rfl rfl hLok hup
 let E1 : Ent := ⟨E.G, E.S, E.w, [], E.inv, cc, by show _ ≤ S.lv.length + 1; exact Nat.le_succ_of_le hk.ll, E.tr, hk.bl, fun f' hf' => (by
  rcases List.mem_cons.1 hf' with rfl | hf'
  ·trivial
  rcases List.mem_cons.1 hf' with rfl | hf'
  ·trivial
  rcases List.mem_cons.1 hf' with rfl | hf'
  ·exact Nat.le_trans hgr.size hwl
  ·exact E.hW f' hf'), W1.heap.size, Nat.le_trans hgr.size hg1.size⟩
 obtain ⟨k1, k2, k3, k4⟩ := add_ahead hI1 [] [(0, 0)]
 rw [List.append_nil] at k1 k2
 have hvrs : VRs G (.yld l S.lv.length :: caps) (#[.func (.yield l) #[] #[]] ++ us) := by
  refine ⟨by simp [hvc.1]; omega, fun i z u hz hu => ?_⟩
  cases i with
  | zero =>
   rw [Array.getElem?_append_left (by simp)] at hu
   simp at hz hu
   subst hz; subst hu
   exact .yld _ _
  | succ i =>
   rw [Array.getElem?_append_right (by simp)] at hu
   exact hvc.2 i z u (by simpa using hz) (by simpa using hu)
 have hA1 : At E1 (start F (.yld l S.lv.length :: caps)) ⟨S.bx, S.lv ++ [(0, 0)]⟩ { tmps := (#[Value.func (.yield l) #[] #[]] ++ us) ++ Array.replicate (fn.ntmps - (#[Value.func (.yield l) #[] #[]] ++ us).size) undef, defers := [] } W1 := by
  refine ⟨G, k1, start_rel hnt hvrs, (hgr.trans hg1).trans k2, ⟨hk.bl, by simp; exact Nat.le_succ_of_le hk.ll, hk.al, hk.tb, fun t ht h0 => (E.tbN ht h0).elim⟩, ⟨⟨[], rfl, .nil, fun _ h => (by cases h)⟩, fun f' hf' => ?_, by show S.lv.length + 1 ≤ _; simp, Nat.le_refl _, Nat.le_refl _⟩⟩
  rcases List.mem_cons.1 hf' with rfl | hf'
  ·exact ⟨.refl G, fun b B h => (hI.dal b B h).1, fun t k v h => by
    obtain ⟨m, s, h1, _⟩ := hI.dtb t k v h
    exact (List.getElem?_eq_some_iff.1 h1).1⟩
  rcases List.mem_cons.1 hf' with rfl | hf'
  ·exact hdW
  rcases List.mem_cons.1 hf' with rfl | hf'
  ·exact ⟨fun n => k4 _ n (Nat.le_refl _), 0, (by show (S.lv ++ [(0, 0)])[S.lv.length]? = some (0, 0); simp), by rw [hobj0]; exact hrec⟩
  ·exact Fact.step (Fact.step (hd.x f' hf') hg1 (.refl G S)) k2 ⟨Nat.le_refl _, by simp, fun _ _ h => h, fun _ _ h => h, fun t ht _ => List.getElem?_append_left ht⟩
 refine ⟨l, mk.map markOf, W1, { target := .fn (.func f) us, args := #[.func (.yield l) #[] #[]] }, W1, f, #[.func (.yield l) #[] #[]] ++ us, W1, hent, ?_, fun f' _ => md.fn f', ?_, fun hdp => md.depth hdp, ?_⟩
 ·simp only [resolve, hval]
  simp [go_sem]
 ·simp [invoke, go_sem, hen]
 refine callsIn_md md (calls_of_marks hf hb (wp_mono (hEx E1 rfl c1 hac _ W1 hA1) ?_))
 rintro e act' w' ⟨z, a', S', rfl, ⟨hz, k, hk1, hq⟩, G', hI', hR', hg', hk', hd'⟩
 have hfs : ∀ f' ∈ cc.fs, f'.ok G' S' w' := hd'.x
 obtain ⟨Ds, e1, e2, e3⟩ := hd'.d
 have e1 : act'.defers = Ds.map markOf := by rw [e1]; exact List.append_nil _
 have hI2 := hI'.shut e2 fun D hD => (e3 D hD).2
 have hg2 := hg'.shut fun D hD => Nat.le_trans E1.hb (e3 D hD).1.1
 have hrs0 : evRes a' S' F.res = some (.tup []) := by rw [hres]; rfl
 obtain ⟨u, hu, _⟩ := res_ok hI2 hR' hrs hrs0
 refine ⟨by rcases hz with rfl | rfl <;> simp [AEx.out], Ds, e1, e2, fun D hD => (e3 D hD).2, u, hu, ?_⟩
 -- the loop's end
 obtain ⟨hn3, k', hk2, hk3⟩ := hfs (.lp L) (by show _ ∈ _ :: _ :: _ :: E.c.fs; simp)
 have hk2 : S'.lv[S.lv.length]? = some (k', 0) := hk2
 rw [hk1] at hk2
 cases hk2
 have hlD : l ∉ Ds := fun hm => by
  have h1 := (e3 l hm).2
  have h2 : w'.heap[l]? = some (L.obj k) := hk3
  rw [h1] at h2
  cases k <;> cases h2
 have hk3' : (shutW w' Ds).heap[l]? = some (L.obj k) := (shut_heap.2.2.2.2 l hlD).trans hk3
 have hle : G.le G' := (hfs _ (List.mem_cons_self ..)).1
 have hdf : DefOk E.b W1.heap.size E.d (mk.map markOf ++ act.defers) w' := hfs _ (List.mem_cons_of_mem _ (List.mem_cons_self ..))
 have hsz2 : (shutW w' Ds).heap.size = w'.heap.size := shut_heap.1
 have hW1w : W1.heap.size ≤ w'.heap.size := hd'.b
 have fin : ∀ (o' o : Obj) (r' : Loop), o = .loop r' → (shutW w' Ds).heap[l]? = some o → At E a S' { act with defers := mk.map markOf ++ act.defers } ((shutW w' Ds).putObj l o') := by
  rintro o' o r' rfl ho
  refine ⟨G', hI2.putObj _ ho rfl, ⟨hR.size, fun i y u h1 h2 => (hR.slot i y u h1 h2).mono hle⟩, hg2.putObj _ (Nat.le_trans hgr.size hwl), ⟨hk'.bl, hk'.ll, hk'.al, hk'.tb, fun t ht h0 => (E.tbN ht h0).elim⟩, ⟨?_, fun f' hf' => ?_, ?_, ?_, ?_⟩⟩
  ·obtain ⟨Dc, d1, d2, d3⟩ := hdf
   refine ⟨Dc, d1, d2, fun D hD => ⟨⟨(d3 D hD).1.1, ?_⟩, ?_⟩⟩
   ·have := (d3 D hD).1.2
    simp only [World.putObj, Array.size_setIfInBounds, hsz2]
    omega
   ·have h4 := (d3 D hD).2
    have hnD : D ∉ Ds := fun hm => by
     have := (d3 D hD).1.2
     have : W1.heap.size ≤ D := (e3 D hm).1.1
     omega
    have h5 : (shutW w' Ds).heap[D]? = some (.deferred (some [])) := (shut_heap.2.2.2.2 D hnD).trans h4
    rw [World.putObj_heap_other]
    ·exact h5
    ·rintro rfl; rw [ho] at h5; cases h5
  ·-- what the activation keeps
   have hin : f'.ok G' S' w' := hfs f' (by show _ ∈ _ :: _ :: _ :: E.c.fs; simp [hf'])
   have hfr := hfree f' hf'
   have hbl := hbel f' hf'
   refine Fact.other o' (l := l) (r := r') ?_ ho (by cases f' <;> first | trivial | exact hfr.1)
   -- its own marks are shut
   cases f' with
   | le G0 n m => exact hin
   | lp L' =>
    refine ⟨hin.1, hin.2.imp fun kk hkk => ⟨hkk.1, (shut_heap.2.2.2.2 _ fun hm => ?_).trans hkk.2⟩⟩
    have h1 := (e3 _ hm).2
    rw [hkk.2] at h1
    cases kk <;> cases h1
   | bz L' =>
    refine ⟨hin.1, hin.2.1, (shut_heap.2.2.2.2 _ fun hm => ?_).trans hin.2.2⟩
    have h1 := (e3 _ hm).2
    rw [hin.2.2] at h1
    cases h1
   | df n u' d l' =>
    obtain ⟨Dc, d1, d2, d3⟩ := hin
    refine ⟨Dc, d1, d2, fun D hD => ⟨(d3 D hD).1, ?_⟩⟩
    refine (shut_heap.2.2.2.2 D fun hm => ?_).trans (d3 D hD).2
    have h1 : W1.heap.size ≤ D := (e3 D hm).1.1
    have h2 := (d3 D hD).1.2
    have h3 : u' ≤ E.c.k := E.c.hk _ hf'
    have h4 := hd.k
    have h5 := hg1.size
    omega
  ·exact Nat.le_trans hd.m (Nat.le_trans (Nat.le_succ _) hd'.m)
  ·have := hd.k
   simp only [World.putObj, Array.size_setIfInBounds, hsz2]
   have := hg1.size
   omega
  ·have := hd.b
   simp only [World.putObj, Array.size_setIfInBounds, hsz2]
   have := hg1.size
   omega
 cases k with
 | zero =>
  refine ⟨none, _, run_endLoop (r := { L.r with state := .ready, pending := none }) hk3' (by simp), ?_⟩
  exact ⟨.norm, a, S', rfl, hq, fin _ _ _ rfl hk3'⟩
 | succ k =>
  refine ⟨some (jumpOf k), _, run_endLoop (r := { L.r with state := .done, pending := some (jumpOf k) }) hk3' (by simp), ?_⟩
  exact jump_wpIn k ⟨exitOf (k + 1), a, S', rfl, hq, fin _ _ _ rfl hk3'⟩
end rules
end Go.Proofs.Ytacoakfppjiomaa
end
section
namespace Go.Proofs.Ytacoakfppjiomaa
open Go.RowKit

theorem leC {c : Cx} {k n : Nat} (h : c.n = k) (hk : k ≤ n) : c.n ≤ n := h ▸ hk

section rules
variable {c : Cx} {md : Md} {P : Program} {a : List AV} {S : St} {Q : AEx → List AV → St → Prop} {R : List AV → St → Prop}

theorem ExI.op {X : Clr} (hX : ClrOk P X) {x : AOper} {xs : List AOper} {v : AV} {S1 : St} (hw : wantedA x.guard a = some true) (hv : evOp X x.op a S = some (v, S1)) (h : ExI c md P xs (putA a x.dst v) S1 R) : ExI c md P (x :: xs) a S R :=
 ExI.pre (xs := [x]) (ys := xs) (ExO.op hX hw hv (ExO.nil h))
theorem ExI.skip {x : AOper} {xs : List AOper} (hw : wantedA x.guard a = some false) (h : ExI c md P xs (putA a x.dst (.tup [])) S R) : ExI c md P (x :: xs) a S R :=
 ExI.pre (xs := [x]) (ys := xs) (ExO.skip hw (ExO.nil h))
theorem ExI.forget {a2 : List AV} {S2 : St} {xs : List AOper} (hf : Forgets c a S a2 S2) (h : ExI c md P xs a2 S2 R) : ExI c md P xs a S R := fun E hE ops l Q hl hd hq act w hA => h E hE ops l Q hl hd hq act w (hf E hE act w hA)
theorem evHI_ok {hs : List (Nat × Hint)} : ∀ (k i : Nat) {l : List AOper} {a a2 : List AV} {S S2 : St} {Fs : List Prop}, evH hs i k l a S = some (Fs, a2, S2) → AllP Fs → ExI c md P (l.drop k) a2 S2 R → ExI c md P l a S R
 | 0, i, l, a, a2, S, S2, Fs, h, _, hx => by
  cases l <;> (simp only [evH] at h; cases h; exact hx)
 | k + 1, i, [], a, a2, S, S2, Fs, h, _, hx => by simp [evH] at h
 | k + 1, i, x :: l, a, a2, S, S2, Fs, h, hF, hx => by
  simp only [evH] at h
  split at h
  ·rename_i hw
   split at h
   ·rename_i F v S1 hd
    split at h
    ·rename_i Fs1 a3 S3 hr
     cases h
     refine ExI.op (noClr_ok P) hw (doH_ok hd ?_) (evHI_ok k (i + 1) hr ?_ hx)
     ·cases F with
      | none => trivial
      | some F => exact hF.1
     ·cases F with
      | none => exact hF
      | some F => exact hF.2
    ·cases h
   ·cases h
  ·rename_i hw
   exact ExI.skip hw (evHI_ok k (i + 1) h hF hx)
  ·cases h
theorem runI {l : List AOper} (k : Nat) (hs : List (Nat × Hint)) (live : List Nat) (Fs : List Prop) (a2 : List AV) (S2 : St) (h : (evH hs 0 k l a S).map (fun p => (p.1, keepB 0 live p.2.1, p.2.2)) = some (Fs, a2, S2)) (hF : AllP Fs) (hx : ExI c md P (l.drop k) a2 S2 R) : ExI c md P l a S R := by
 cases he : evH hs 0 k l a S with
 | none => rw [he] at h; cases h
 | some p =>
  obtain ⟨Fs1, a1, S1⟩ := p
  rw [he] at h
  simp only [Option.map_some, Option.some.injEq, Prod.mk.injEq] at h
  obtain ⟨rfl, rfl, rfl⟩ := h
  exact evHI_ok k 0 he hF (ExI.forget (forgetK live) hx)
theorem ExI.one {x : AOper} {xs : List AOper} (h : ExO c P [x] a S fun a1 S1 => ExI c md P xs a1 S1 R) : ExI c md P (x :: xs) a S R := ExI.pre (xs := [x]) (ys := xs) h

theorem ExI.yieldT {L : Lp} {a0 : List AV} {ps : List Nat} {x0 y0 : ACode} (t0 : Nat) (ht : L.t = t0) (hL : LpOk P c L a0 ps x0 y0) {x : AOper} {l : List AOper} {f : AOpd} {args : List AOpd} {t : Nat} (xs : List AV) (hw : wantedA x.guard a = some true) (ho : x.op = .call f args) (hf : evd a f = .yld L.l t) (hxs : args.map (evd a) = xs) (hps : ps.length = xs.length) (hr : S.lv[t0]? = some (0, 0)) (hn : c.n ≤ S.bx.length)
  (h : ∀ (ca cb : Cx), ca.n = S.bx.length → cb.n = S.bx.length → ca.m = S.lv.length → cb.m = S.lv.length → (∀ L' a' ps' x' y', LpOk P c L' a' ps' x' y' → L'.l ≠ L.l → LpOk P ca L' a' ps' x' y' ∧ LpOk P cb L' a' ps' x' y') → Fact.bz L ∈ cb.fs →
    Ex ca (.round L.l (md.n - 1)) P x0 (setPs a0 ps xs) S fun z a1 S1 => z = .norm ∧ S1.lv[t0]? = some (0, 0) ∧
     Ex cb (.round L.l (md.n - 1)) P y0 a1 S1 fun z a2 S2 => match z with
      | .norm => ExI c md P l (putA a x.dst (.bool true)) S2 R
      | .ret => ExI c md P l (putA a x.dst (.bool false)) ⟨S2.bx, S2.lv.set t0 (1, 0)⟩ R
      | .ex i => ExI c md P l (putA a x.dst (.bool false)) ⟨S2.bx, S2.lv.set t0 (i + 2, 0)⟩ R) : ExI c md P (x :: l) a S R := by
 subst ht
 exact ExI.yield hL f args t xs hw ho hf hxs hps hr hn h
theorem Ex.rangeJ {g : AOpd} {ps : List Nat} {x y : ACode} (J : Nat → St → Prop) (f : FuncId) (caps : List AV) (F : AFn) (hg0 : evd a g = .fn f [] caps) (hF : compFn P f = some F) (hres : F.res = []) (hn : c.n ≤ S.bx.length) (hmd : match md with | .plain => True | .round l _ => ∃ L, Fact.bz L ∈ c.fs ∧ L.l = l) (a1 : List AV) (S1 : St) (he : ∀ l, start F (.yld l S.lv.length :: caps) = a1.set 0 (.yld l S.lv.length)) (hS : (⟨S.bx, S.lv ++ [(0, 0)]⟩ : St) = S1)
  (h : ∀ (c1 : Cx) (L : Lp), c1.n = S.bx.length → c1.m = S.lv.length + 1 → L.t = S.lv.length → LpOk P c1 L a ps x y → (∀ L' a' ps' x' y', LpOk P c L' a' ps' x' y' → L'.l ≠ L.l ∧ LpOk P c1 L' a' ps' x' y') →
    Ex c1 .plain P F.code (a1.set 0 (.yld L.l S.lv.length)) S1 fun z a' S' => ∃ a2 S2, Forgets c1 a' S' a2 S2 ∧ (z = .norm ∨ z = .ret) ∧ ∃ k, S2.lv[S.lv.length]? = some (k, 0) ∧ J k S2)
  (k : ∀ k S', J k S' → Q (exitOf k) a S') : Ex c md P (.rangeF g ps x y) a S Q := by
 refine Ex.rangeF f caps F hg0 hF hres hn hmd fun c1 L h1 h2 h3 h4 h5 => ?_
 rw [he, hS]
 refine Ex.postF ((h c1 L h1 h2 h3 h4 h5).mono ?_)
 rintro z a' S' ⟨a2, S2, hf, hz, j, hj, hJ⟩
 exact ⟨a2, S2, hf, hz, j, hj, k j S2 hJ⟩
theorem Ex.two {ca cb : Cx} {x y : ACode} {t0 : Nat} (J : AEx → St → Prop) (h : Ex ca md P x a S fun z a1 S1 => z = .norm ∧ S1.lv[t0]? = some (0, 0) ∧ Ex cb md P y a1 S1 fun z a2 S2 => ∃ a3 S3, Forgets cb a2 S2 a3 S3 ∧ J z S3) (k : ∀ z a2 S2, J z S2 → Q z a2 S2) : Ex ca md P x a S fun z a1 S1 => z = .norm ∧ S1.lv[t0]? = some (0, 0) ∧ Ex cb md P y a1 S1 Q := by
 refine h.mono ?_
 rintro z a1 S1 ⟨h1, h2, h3⟩
 refine ⟨h1, h2, Ex.postF (h3.mono ?_)⟩
 rintro z a2 S2 ⟨a3, S3, hf, hJ⟩
 exact ⟨a3, S3, hf, k z a3 S3 hJ⟩
end rules
end Go.Proofs.Ytacoakfppjiomaa
end
section
namespace Go.Proofs.Ytacoakfppjiomaa
open Go.RowKit

structure TokT where
 f : FuncId
 gs : List AV
 pre : List AV
 els : List AV
 post : List AV
 n : Nat
 s : Nat
end Go.Proofs.Ytacoakfppjiomaa
end
section
namespace Go.Proofs.Ytacoakfppjiomaa
open Go.RowKit


theorem flat_scal {α : Type} {f : α → AV} (h : ∀ x, (f x).cells.all scal = true) (l : List α) : (flat (l.map f)).all scal = true := by
 rw [List.all_eq_true]
 intro c hc
 obtain ⟨e, he, hce⟩ := List.mem_flatMap.1 hc
 obtain ⟨x, _, rfl⟩ := List.mem_map.1 he
 exact List.all_eq_true.1 (h x) c hce
theorem scal_re {x : AV} (h : scal x = true) (n : Nat) (σ : List Nat) : re n σ x = some x := by
 cases x <;> first | (simp [scal] at h; done) | rfl | simp [re, re1, AV.clean]
theorem mapM_id {f : AV → Option AV} : ∀ (l : List AV), (∀ x ∈ l, f x = some x) → l.mapM f = some l
 | [], _ => rfl
 | x :: l, h => by
  rw [List.mapM_cons, h x (by simp), mapM_id l fun y hy => h y (by simp [hy])]
  rfl
theorem flat_re {α : Type} {f : α → AV} (h : ∀ x, (f x).cells.all scal = true) (n : Nat) (σ : List Nat) (l : List α) : (flat (l.map f)).mapM (re n σ) = some (flat (l.map f)) :=
 mapM_id _ fun x hx => scal_re (List.all_eq_true.1 (flat_scal h l) x hx) n σ
theorem flat_lenF {α : Type} {f : α → AV} {s : Nat} (hs : ∀ x, (f x).cells.length = s) (l : List α) : (flat (l.map f)).length = l.length * s := by
 rw [flat_len s, List.length_map]
 intro i e he
 rw [List.getElem?_map, Option.map_eq_some_iff] at he
 obtain ⟨x, _, rfl⟩ := he
 exact hs x
theorem map_cells {α : Type} {f : α → AV} {s : Nat} (hs : ∀ x, (f x).cells.length = s) (l : List α) : ∀ e ∈ l.map f, e.cells.length = s := by
 intro e he
 obtain ⟨x, _, rfl⟩ := List.mem_map.1 he
 exact hs x
theorem ldFl {α : Type} {f : α → AV} {s : Nat} (l : List α) (off j : Nat) (i : Int) (x : α) (c : AV) (hs : ∀ x, (f x).cells.length = s) (hx : l[i.toNat]? = some x) (hc : (f x).cells[j]? = some c) (ho : off = i.toNat * s + j) : takeCells (flat (l.map f)) off none = some c := by
 subst ho
 exact flat_at s (l.map f) i.toNat (f x) j c (fun k e he => map_cells hs l e (List.mem_of_getElem? he)) (by rw [List.getElem?_map, hx]; rfl) hc
theorem layAt_left : ∀ (vs cs ds : List AV) (o : Nat), o + vs.length ≤ cs.length → layAt (cs ++ ds) o vs = layAt cs o vs ++ ds
 | [], _, _, _, _ => rfl
 | v :: vs, cs, ds, o, h => by
  simp only [List.length_cons] at h
  simp only [layAt]
  rw [List.set_append_left _ _ (by omega)]
  exact layAt_left vs _ ds (o + 1) (by simp; omega)
theorem layAt_right : ∀ (vs cs ds : List AV) (o : Nat), layAt (cs ++ ds) (cs.length + o) vs = cs ++ layAt ds o vs
 | [], _, _, _ => rfl
 | v :: vs, cs, ds, o => by
  simp only [layAt]
  rw [List.set_append_right _ _ (by omega), Nat.add_sub_cancel_left, Nat.add_assoc]
  exact layAt_right vs cs _ (o + 1)
theorem lay_flat {s : Nat} : ∀ (els : List AV) (k j : Nat) (e e' : AV) (vs : List AV), (∀ e ∈ els, e.cells.length = s) → els[k]? = some e → j + vs.length ≤ s → layAt e.cells j vs = e'.cells → layAt (flat els) (k * s + j) vs = flat (els.set k e')
 | [], _, _, _, _, _, _, h, _, _ => by simp at h
 | e0 :: els, 0, j, e, e', vs, hs, h, hj, hl => by
  obtain rfl : e0 = e := by simpa using h
  simp only [flat, List.flatMap_cons, List.set_cons_zero, Nat.zero_mul, Nat.zero_add]
  rw [layAt_left _ _ _ _ (by rw [hs e0 (by simp)]; exact hj), hl]
 | e0 :: els, k + 1, j, e, e', vs, hs, h, hj, hl => by
  have h0 := hs e0 (by simp)
  have ih := lay_flat els k j e e' vs (fun e he => hs e (by simp [he])) (by simpa using h) hj hl
  simp only [flat, List.flatMap_cons, List.set_cons_succ] at ih ⊢
  rw [show (k + 1) * s + j = e0.cells.length + (k * s + j) by rw [h0, Nat.succ_mul]; omega, layAt_right, ih]
def setI {α : Type} (l : List α) (i : Int) (g : α → α) : Option (List α) := (l[i.toNat]?).map fun x => l.set i.toNat (g x)
theorem setI.of {α : Type} {l l' : List α} {i : Int} {g : α → α} (h : setI l i g = some l') : ∃ x, l[i.toNat]? = some x ∧ l' = l.set i.toNat (g x) := by
 simp only [setI, Option.map_eq_some_iff] at h
 obtain ⟨x, hx, rfl⟩ := h
 exact ⟨x, hx, rfl⟩
theorem stFl {α : Type} {f : α → AV} {s : Nat} {l l' : List α} (off j n : Nat) (i : Int) (g : α → α) (vs : List AV) (hs : ∀ x, (f x).cells.length = s) (h : setI l i g = some l') (hn : vs.length = n) (hjn : j + n ≤ s) (ho : off = i.toNat * s + j) (hl : ∀ x, layAt (f x).cells j vs = (f (g x)).cells) : off + n ≤ (flat (l.map f)).length ∧ layAt (flat (l.map f)) off vs = flat (l'.map f) := by
 obtain ⟨x, hx, rfl⟩ := setI.of h
 subst ho hn
 have hlt := (List.getElem?_eq_some_iff.1 hx).1
 refine ⟨?_, ?_⟩
 ·rw [flat_lenF hs]
  have : (i.toNat + 1) * s ≤ l.length * s := Nat.mul_le_mul_right _ hlt
  rw [Nat.succ_mul] at this
  omega
 ·rw [lay_flat (l.map f) i.toNat j (f x) (f (g x)) vs (map_cells hs l) (by rw [List.getElem?_map, hx]; rfl) hjn (hl x), List.map_set]
def lenI {α : Type} (l : List α) (n : Nat) : Option Unit := if l.length = n then some () else none
theorem lenI.of {α : Type} {l : List α} {n : Nat} {u : Unit} (h : lenI l n = some u) : l.length = n := by
 unfold lenI at h
 split at h
 ·assumption
 ·cases h

theorem chillL_at (f : AV → AV) : ∀ (k : Nat) (a : List AV) (v : AV), a[k]? = some v → chillL f (List.replicate k false ++ [true]) a = a.set k (f v)
 | 0, x :: a, v, h => by
  obtain rfl : x = v := by simpa using h
  simp [chillL]
 | k + 1, x :: a, v, h => by
  have ih := chillL_at f k a v (by simpa using h)
  simp only [List.replicate_succ, List.cons_append, chillL, List.set_cons_succ, ih]
  rfl
 | k, [], v, h => by simp at h
theorem chillK {α : Type} {f : α → AV} {n0 : Cx} {a : List AV} {S : St} (b k n s : Nat) (l : List α) (v v' : AV) {u : Unit} (hn : lenI l n = some u) (hb : S.bx[b]? = some (flat (l.map f))) (hs : ∀ x, (f x).cells.length = s) (hk : a[k]? = some v) (hv : chillS b n s (l.map f) v = v') : Forgets n0 a S (a.set k v') ⟨S.bx.set b [], S.lv⟩ := by
 have := chill (n0 := n0) (a := a) (S := S) b n s (l.map f) (List.replicate k false ++ [true]) [] hb (by rw [List.length_map]; exact lenI.of hn) (map_cells hs l)
 rw [chillL_at _ k a v hk, hv] at this
 exact this
theorem mapMC {α β : Type} {f : α → Option β} {x : α} {y : β} {l : List α} {ys : List β} (h : f x = some y) (t : l.mapM f = some ys) : (x :: l).mapM f = some (y :: ys) := by
 rw [List.mapM_cons, h, t]
 rfl
def mkI (n : Int) : Option Nat := if 0 ≤ n ∧ n ≤ 65536 then some n.toNat else none
theorem mkI.of {n : Int} {k : Nat} (h : mkI n = some k) : n = (k : Int) ∧ k ≤ 65536 := by
 unfold mkI at h
 split at h
 ·cases h; omega
 ·cases h
theorem mk0_of {n : Int} {k : Nat} (h : mkI n = some k) : 0 ≤ n ∧ n ≤ 65536 := by have := mkI.of h; omega
def idxB (b : ByteArray) (n : Int) : Option Int := if 0 ≤ n then (b[n.toNat]?).map fun c => (c.toNat : Int) else none
theorem idxB.of {b : ByteArray} {n z : Int} (h : idxB b n = some z) : LIdx b n z := by
 unfold idxB at h
 split at h
 ·rename_i h0
  rw [Option.map_eq_some_iff] at h
  obtain ⟨c, hc, rfl⟩ := h
  exact ⟨h0, c, hc, rfl⟩
 ·cases h
def partI {α : Type} (l : List α) (lo hi : Int) : Option (List α) := if 0 ≤ lo ∧ lo ≤ hi ∧ hi ≤ (l.length : Int) then some ((l.take hi.toNat).drop lo.toNat) else none
theorem partI.of {α : Type} {f : α → AV} {s : Nat} {l r : List α} {lo hi : Int} (hs : ∀ x, (f x).cells.length = s) (h : partI l lo hi = some r) : LSlc (l.map f) (some lo) (some hi) s (r.map f) := by
 unfold partI at h
 split at h
 ·rename_i hc
  cases h
  exact ⟨lo.toNat, hi.toNat, by show lo = _; omega, by show hi = _; omega, by omega, by rw [List.length_map]; omega, map_cells hs l, by rw [List.map_drop, List.map_take]⟩
 ·cases h
theorem partI.ofL {α : Type} {f : α → AV} {s : Nat} {l r : List α} {lo : Int} (hs : ∀ x, (f x).cells.length = s) (h : partI l lo (l.length : Int) = some r) : LSlc (l.map f) (some lo) none s (r.map f) := by
 unfold partI at h
 split at h
 ·rename_i hc
  cases h
  exact ⟨lo.toNat, l.length, by show lo = _; omega, by simp, by omega, by simp, map_cells hs l, by rw [List.map_drop, Int.toNat_natCast, List.take_length, List.take_of_length_le (by simp)]⟩
 ·cases h
theorem partI.ofR {α : Type} {f : α → AV} {s : Nat} {l r : List α} {hi : Int} (hs : ∀ x, (f x).cells.length = s) (h : partI l 0 hi = some r) : LSlc (l.map f) none (some hi) s (r.map f) := by
 unfold partI at h
 split at h
 ·rename_i hc
  cases h
  exact ⟨0, hi.toNat, rfl, by show hi = _; omega, by omega, by rw [List.length_map]; omega, map_cells hs l, by simp [List.map_take]⟩
 ·cases h
end Go.Proofs.Ytacoakfppjiomaa
end
section
namespace Go.Proofs.Ytacoakfppjiomaa
open Go.RowKit

theorem Does.ofM {P : Program} {f : FuncId} {F : AFn} (hF : compFn P f = some F) {xs : List AV} {cells : List (List AV)} (r : AV) (c1 : List (List AV)) (hl : Nat.ble cells.length c1.length = true)
  (h : Ex cells.length .plain P F.code (start F xs) ⟨cells, []⟩ fun x a' S' => (x = .norm ∨ x = .ret) ∧ ∃ v, evRes a' S' F.res = some v ∧ v = r ∧ ∃ more, S'.bx = c1 ++ more) : Does P f xs cells fun v c' => v = r ∧ c' = c1 := by
 unfold compFn at hF
 split at hF
 ·rename_i fn hf
  split at hF
  ·rename_i c rs hb hrs
   split at hF
   ·rename_i ac hac
    split at hF
    ·cases hF
    ·rename_i hname
     cases hF
     refine ⟨fun us w => ?_, fun G w us hI hvs => ?_⟩
     ·simp only [callFunc, program, Sem.run, hf, Sem.run_bind, Result.andThen_ok, hname, hb]
      rfl
     ·refine calls_of_marks hf hb ?_
      have hR : Rel G (start ⟨fn.params.size, fn.ntmps, rs, ac⟩ xs) { tmps := us ++ Array.replicate (fn.ntmps - us.size) undef, defers := [] } := by
       refine ⟨by simp [start, hvs.1], fun i y u hy hu => ?_⟩
       simp only [start] at hy
       simp only at hu
       rw [List.getElem?_append] at hy
       rw [Array.getElem?_append, hvs.1] at hu
       split at hy
       ·rename_i hlt
        rw [if_pos hlt] at hu
        exact hvs.2 i y u hy hu
       ·rename_i hlt
        rw [if_neg hlt] at hu
        have e1 := List.eq_of_mem_replicate (List.mem_of_getElem? hy)
        have e2 : u ∈ (Array.replicate (fn.ntmps - xs.length) undef) := Array.mem_of_getElem? hu
        have e3 := (Array.mem_replicate.1 e2).2
        rw [e1, e3]
        exact .undef G
      refine wp_mono (h (.of G ⟨cells, []⟩ w hI rfl) rfl c hac _ w ⟨G, hI, hR, .refl _ _ _, .refl _ _, .begin _ _ _ _ _⟩) ?_
      rintro e act' w' ⟨x, a', S', he, ⟨hx, v, hv, rfl, bx, hbx⟩, G', hI', hR', hg, hk, hd⟩
      obtain ⟨Ds, e1, e2, e3⟩ := hd.d
      have e1 : act'.defers = Ds.map markOf := by rw [e1]; exact List.append_nil _
      have hI' := hI'.shut e2 fun D hD => (e3 D hD).2
      have hg := hg.shut fun D hD => (e3 D hD).1.1
      obtain ⟨u, h1, h2⟩ := res_ok hI' hR' hrs hv
      obtain ⟨S'bx, S'lv⟩ := S'
      simp only at hbx
      subst hbx
      rcases hx with rfl | rfl
      ·subst he; exact ⟨.inl rfl, Ds, e1, e2, fun D hD => (e3 D hD).2, u, h1, u, v, c1, G', bx, S'lv, ⟨rfl, rfl⟩, rfl, h2, Nat.le_of_ble_eq_true hl, hI', hg⟩
      ·subst he; exact ⟨.inr rfl, Ds, e1, e2, fun D hD => (e3 D hD).2, u, h1, u, v, c1, G', bx, S'lv, ⟨rfl, rfl⟩, rfl, h2, Nat.le_of_ble_eq_true hl, hI', hg⟩
   ·cases hF
  ·cases hF
 ·cases hF
theorem flat_clean {α : Type} {f : α → AV} (h : ∀ x, (f x).cells.all scal = true) (l : List α) : cleanL (flat (l.map f)) = true := by
 rw [cleanL_iff]
 intro x hx
 have := List.all_eq_true.1 (flat_scal h l) x hx
 cases x <;> first | (simp [scal] at this; done) | rfl
theorem allC {x : List AV} {l : List (List AV)} (h : cleanL x = true) (t : l.all cleanL = true) : (x :: l).all cleanL = true := by
 rw [List.all_cons, h, t]
 rfl
theorem vr_thawV0 {G G2 : Gh} {t b s : Nat} {x y : AV} {u : Value} (h : VR G x u) (hal : ∀ b B, G.al b = some B → G2.al b = some B) (hr : thawV t 0 b s x = some y) : VR G2 y u := by
 unfold Proofs.Ytacoakfppjiomaa.thawV at hr
 split at hr
 ·rename_i els t'
  split at hr
  ·rename_i hc
   cases hr
   obtain ⟨rfl, hl⟩ := hc
   obtain rfl := List.eq_nil_of_length_eq_zero hl
   cases h with
   | slt els t s' B' c' us hb' hn' hs hf hv => exact .ms0 _ _ _ _
   | slt0 t hb' => exact .ms0 _ _ _ _
  ·cases hr
 ·split at hr
  ·rename_i hs
   cases hr
   exact h.solid1 hs hal
  ·cases hr
theorem vr_thawS0 {G G2 : Gh} {t b s : Nat} {x y : AV} {u : Value} (h : VR G x u) (hal : ∀ b B, G.al b = some B → G2.al b = some B) (hr : thawS t 0 b s x = some y) : VR G2 y u := by
 unfold Proofs.Ytacoakfppjiomaa.thawS at hr
 split at hr
 ·rename_i cs
  simp only [Option.map_eq_some_iff] at hr
  obtain ⟨ds, hds, rfl⟩ := hr
  obtain ⟨h1, h2⟩ := mapM_get hds
  cases h with
  | agg _ us hl h =>
   refine .agg ds us (by rw [hl, h1]) fun i z v hz hv => ?_
   obtain ⟨z', hz', hr'⟩ := h2 i z hz
   exact vr_thawV0 (h i z' v hz' hv) hal hr'
 ·rename_i els t'
  split at hr
  ·rename_i hc
   refine vr_thawV0 (x := .sl els (some t')) (t := t) (b := b) (s := s) h hal ?_
   unfold Proofs.Ytacoakfppjiomaa.thawV
   simp only [if_pos hc]
   exact hr
  ·cases hr
 ·split at hr
  ·rename_i hs
   cases hr
   exact h.solid hs hal
  ·cases hr
theorem thaw0 {n0 : Cx} {a : List AV} {S : St} (t s : Nat) (live : List Bool) {bx2 : List (List AV)}
  (hbx : S.bx.mapM (fun cs => cs.mapM (thawV t 0 S.bx.length s)) = some bx2) (hX0 : n0.fs = [] := by rfl) (hm0 : n0.m = 0 := by rfl) :
  Forgets n0 a S (thawL t 0 S.bx.length s live a) ⟨bx2 ++ [[]], []⟩ := by
 intro E hE act w ⟨G, hI, hR, hg, hk, hd⟩
 obtain ⟨b1, b2⟩ := mapM_get hbx
 have hbl : bx2.length = S.bx.length := b1
 have hEtb : ∀ t k, E.G.tb t k = none := by
  intro t k
  cases h : E.G.tb t k with
  | none => rfl
  | some v =>
   obtain ⟨m, s, h1, _⟩ := E.inv.dtb t k v h
   rw [E.lv0 (by rw [hE]; exact hm0)] at h1
   simp at h1
 obtain ⟨G2, hG2⟩ : ∃ G2 : Gh, G2 = ⟨G.al, fun _ _ => none, G.fz⟩ := ⟨_, rfl⟩
 have hal2 : G2.al = G.al := by rw [hG2]
 have hfz2 : G2.fz = G.fz := by rw [hG2]
 have htb2 : ∀ t' k, G2.tb t' k = none := fun t' k => by rw [hG2]
 have hal : ∀ b B', G.al b = some B' → G2.al b = some B' := fun b B' h => by rw [hal2]; exact h
 refine ⟨G2, ⟨?_, ?_, ?_, ?_, ?_, ?_, ?_, ?_⟩, ⟨?_, ?_⟩, ⟨⟨?_, ?_, ?_⟩, hg.os, hg.tape, hg.output, hg.size, ?_, ?_, hg.oth⟩, ⟨?_, ?_, ?_, ?_, fun t ht => absurd ht (E.tb0 (by rw [hE]; exact hm0) t)⟩, ⟨hd.d, fun f hf => by (rw [hE, hX0] at hf; cases hf), by rw [hE, hm0]; exact Nat.zero_le _, hd.k, hd.b⟩⟩
 ·intro b B' cs hb hcs
  rw [hal2] at hb
  have hlt := (hI.dal b B' hb).1
  rw [List.getElem?_append_left (by rw [hbl]; exact hlt)] at hcs
  obtain ⟨cs0, hcs0, hm⟩ := b2 b cs hcs
  obtain ⟨m1, m2⟩ := mapM_get hm
  rcases hI.box b B' cs0 hb hcs0 with rfl | ⟨us', T', k1, k2, k3, k4⟩
  ·exact .inl (List.eq_nil_of_length_eq_zero (by rw [m1]; rfl))
  ·refine .inr ⟨us', T', k1, by rw [m1]; exact k2, fun i x u hx hu => ?_, fun o => by rw [hfz2]; exact k4 o⟩
   obtain ⟨x0, hx0, hr⟩ := m2 i x hx
   exact vr_thawV0 (k3 i x0 u hx0 hu) hal hr
 ·intro t' k s0 B' s' c' h1 h2
  simp at h1
 ·intro k o u h
  rw [hfz2] at h
  exact hI.fz k o u h
 ·intro b B' hb
  rw [hal2] at hb
  exact ⟨by have := (hI.dal b B' hb).1; simp [hbl]; omega, (hI.dal b B' hb).2⟩
 ·intro t' k v h
  rw [htb2] at h; cases h
 ·intro b b' B' h1 h2
  rw [hal2] at h1 h2
  exact hI.injA b b' B' h1 h2
 ·intro t' t'' k k' s0 s0' B' s' s'' c' c'' h1
  simp at h1
 ·intro b B' t' k s0 s' c' h1 h2
  simp at h2
 ·rw [hR.size, (thawL_get t 0 S.bx.length s live a).1]
 ·intro i y u hy hu
  rcases (thawL_get t 0 S.bx.length s live a).2 i y hy with rfl | ⟨x, hx, hr⟩
  ·exact .junk u
  ·exact vr_thawS0 (hR.slot i x u hx hu) hal hr
 ·intro b B' h
  exact hal b B' (hg.le.al b B' h)
 ·intro t' k v h
  rw [hEtb] at h; cases h
 ·intro k o v h
  rw [hfz2]
  exact hg.le.fz k o v h
 ·intro B' hB' hno
  obtain ⟨h1, h2⟩ := hg.fr B' hB' hno
  exact ⟨h1, fun o => by rw [hfz2]; exact h2 o⟩
 ·rintro B' (⟨b, hb⟩ | ⟨t', k, s0, s', c', h1, _⟩)
  ·rw [hal2] at hb
   exact hg.own B' (.inl ⟨b, hb⟩)
  ·simp at h1
 ·have := hk.bl
  simp [hbl]; omega
 ·rw [E.lv0 (by rw [hE]; exact hm0)]; exact Nat.zero_le _
 ·intro b hb h
  rw [hal2]; exact hk.al b hb h
 ·intro t' ht' _ k
  exact htb2 t' k
theorem thawV_id {t n b s : Nat} {cs : List AV} (h : cs.all solid1 = true) : cs.mapM (thawV t n b s) = some cs :=
 mapM_id _ fun x hx => by
  have hx := List.all_eq_true.1 h x hx
  cases x <;> first | (simp [solid1] at hx; done) | simp [thawV, solid1]
theorem scal_solid {x : AV} (h : scal x = true) : solid1 x = true := by
 cases x <;> first | (simp [scal] at h; done) | rfl
theorem thawK {α : Type} {f : α → AV} {n0 : Cx} {a : List AV} {S : St} (t k s : Nat) (l : List α) (v v' : AV) (hs0 : 0 < s) (hs : ∀ x, (f x).cells.length = s) (hsc : ∀ x, (f x).cells.all scal = true) (hlv : S.lv[t]? = some (l.length, s)) (hk : a[k]? = some v) (hi : v = .sl (l.map f) (some t) ∨ ∃ cs, v = .agg cs ∧ AV.sl (l.map f) (some t) ∈ cs)
  (hv : thawS t l.length S.bx.length s v = some v') (hbx : ∀ cs ∈ S.bx, cs.all solid1 = true) (hX0 : n0.fs = [] := by rfl) (hm0 : n0.m = 0 := by rfl) : Forgets n0 a S ((List.replicate a.length .junk).set k v') ⟨S.bx ++ [flat (l.map f)], []⟩ := by
 have hb : ∀ b, S.bx.mapM (fun cs => cs.mapM (thawV t l.length b s)) = some S.bx := fun b => by
  have : ∀ L : List (List AV), (∀ cs ∈ L, cs.all solid1 = true) → L.mapM (fun cs => cs.mapM (thawV t l.length b s)) = some L := by
   intro L
   induction L with
   | nil => intro _; rfl
   | cons x L ih =>
    intro h
    rw [List.mapM_cons, thawV_id (h x (by simp)), ih fun cs hc => h cs (by simp [hc])]
    rfl
  exact this _ hbx
 have hL : ∀ (k : Nat) (a : List AV), a[k]? = some v → thawL t l.length S.bx.length s (List.replicate k false ++ true :: List.replicate a.length false) a = (List.replicate a.length .junk).set k v' := by
  have hF : ∀ (m : Nat) (a : List AV), a.length ≤ m → thawL t l.length S.bx.length s (List.replicate m false) a = List.replicate a.length .junk := by
   intro m a
   induction a generalizing m with
   | nil => intro _; cases m <;> simp [thawL]
   | cons x a ih =>
    intro h
    cases m with
    | zero => simp at h
    | succ m =>
     simp only [List.replicate_succ, thawL, List.length_cons]
     rw [ih m (by simpa using h)]
     rfl
  intro k
  induction k with
  | zero =>
   intro a h
   cases a with
   | nil => simp at h
   | cons x a =>
    obtain rfl : x = v := by simpa using h
    simp only [List.replicate_zero, List.nil_append, thawL, if_true, hv, Option.getD_some, List.length_cons, List.replicate_succ, List.set_cons_zero]
    rw [← List.replicate_succ, hF _ _ (by omega)]
  | succ k ih =>
   intro a h
   cases a with
   | nil => simp at h
   | cons x a =>
    have hr : ∀ m, List.replicate k false ++ true :: List.replicate (m + 1) false = (List.replicate k false ++ true :: List.replicate m false) ++ [false] := fun m => by
     rw [List.replicate_succ', List.append_assoc]; rfl
    have hx : ∀ (bs : List Bool) (a : List AV), a.length ≤ bs.length → thawL t l.length S.bx.length s (bs ++ [false]) a = thawL t l.length S.bx.length s bs a := by
     intro bs
     induction bs with
     | nil => intro a h; cases a with | nil => simp [thawL] | cons y a => simp at h
     | cons b bs ihb =>
      intro a h
      cases a with
      | nil => simp [thawL]
      | cons y a => simp only [List.cons_append, thawL]; rw [ihb a (by simpa using h)]
    simp only [List.replicate_succ, List.cons_append, thawL, List.length_cons, List.set_cons_succ]
    rw [← List.replicate_succ, hr, hx _ _ (by simp; omega), ih a (by simpa using h)]
    rfl
 by_cases hn : 0 < l.length
 ·have := thaw (n0 := n0) (a := a) (S := S) t l.length s k (l.map f) (List.replicate k false ++ true :: List.replicate a.length false) hn hs0 hlv (by simp) ⟨v, hk, hi⟩ (by
   rw [List.all_eq_true]
   intro x hx
   exact scal_solid (List.all_eq_true.1 (flat_scal hsc l) x hx)) (map_cells hs l) (hb _) hX0 hm0
  rw [hL k a hk] at this
  exact this
 ·have h0 : l = [] := List.eq_nil_of_length_eq_zero (by omega)
  have hz : l.length = 0 := by omega
  have := thaw0 (n0 := n0) (a := a) (S := S) t s (List.replicate k false ++ true :: List.replicate a.length false) (by have := hb S.bx.length; rw [hz] at this; exact this) hX0 hm0
  rw [← hz, hL k a hk] at this
  rw [h0]
  exact this
end Go.Proofs.Ytacoakfppjiomaa
end
section
namespace Go.Proofs.Ytacoakfppjiomaa
open Go.RowKit

structure DoesTB (P : Program) (f : FuncId) (xs : List AV) (cells : List (List AV)) (K : AV → List (List AV) → List (Nat × Nat) → Prop) : Prop where
 enter : ∀ (us : Array Value) (w : World), (callFunc f us).run P w = .ok (.enter f us) w
 calls : ∀ (G : Gh) (w : World) (us : Array Value), Inv G ⟨cells, []⟩ w → VRs G xs us → Calls P f us w fun e w' => ∃ u v c' G' bx lv, K v c' lv ∧ e = .returned u ∧ VR G' v u ∧ c'.length = cells.length ∧ Inv G' ⟨c' ++ bx, lv⟩ w' ∧ Gro G ⟨cells, []⟩ w G' ⟨c' ++ bx, lv⟩ w'
theorem DoesTB.of {P : Program} {f : FuncId} {F : AFn} (hF : compFn P f = some F) {xs : List AV} {cells : List (List AV)} {K : AV → List (List AV) → List (Nat × Nat) → Prop}
  (h : Ex cells.length .plain P F.code (start F xs) ⟨cells, []⟩ fun x a' S' => (x = .norm ∨ x = .ret) ∧ ∃ v, evRes a' S' F.res = some v ∧ K v (S'.bx.take cells.length) S'.lv) : DoesTB P f xs cells K := by
 unfold compFn at hF
 split at hF
 ·rename_i fn hf
  split at hF
  ·rename_i c rs hb hrs
   split at hF
   ·rename_i ac hac
    split at hF
    ·cases hF
    ·rename_i hname
     cases hF
     refine ⟨fun us w => ?_, fun G w us hI hvs => ?_⟩
     ·simp only [callFunc, program, Sem.run, hf, Sem.run_bind, Result.andThen_ok, hname, hb]
      rfl
     ·refine calls_of_marks hf hb ?_
      have hR : Rel G (start ⟨fn.params.size, fn.ntmps, rs, ac⟩ xs) { tmps := us ++ Array.replicate (fn.ntmps - us.size) undef, defers := [] } := by
       refine ⟨by simp [start, hvs.1], fun i y u hy hu => ?_⟩
       simp only [start] at hy
       simp only at hu
       rw [List.getElem?_append] at hy
       rw [Array.getElem?_append, hvs.1] at hu
       split at hy
       ·rename_i hlt
        rw [if_pos hlt] at hu
        exact hvs.2 i y u hy hu
       ·rename_i hlt
        rw [if_neg hlt] at hu
        have e1 := List.eq_of_mem_replicate (List.mem_of_getElem? hy)
        have e2 : u ∈ (Array.replicate (fn.ntmps - xs.length) undef) := Array.mem_of_getElem? hu
        have e3 := (Array.mem_replicate.1 e2).2
        rw [e1, e3]
        exact .undef G
      refine wp_mono (h (.of G ⟨cells, []⟩ w hI rfl) rfl c hac _ w ⟨G, hI, hR, .refl _ _ _, .refl _ _, .begin _ _ _ _ _⟩) ?_
      rintro e act' w' ⟨x, a', S', he, ⟨hx, v, hv, hq⟩, G', hI', hR', hg, hk, hd⟩
      have hbl := hk.bl
      obtain ⟨Ds, e1, e2, e3⟩ := hd.d
      have e1 : act'.defers = Ds.map markOf := by rw [e1]; exact List.append_nil _
      have hI' := hI'.shut e2 fun D hD => (e3 D hD).2
      have hg := hg.shut fun D hD => (e3 D hD).1.1
      obtain ⟨u, h1, h2⟩ := res_ok hI' hR' hrs hv
      obtain ⟨S'bx, S'lv⟩ := S'
      have hbx : S'bx = S'bx.take cells.length ++ S'bx.drop cells.length := by simp
      have hcl : (S'bx.take cells.length).length = cells.length := by
       rw [List.length_take]; exact Nat.min_eq_left hbl
      generalize S'bx.take cells.length = c1 at hq hbx hcl
      generalize S'bx.drop cells.length = bx at hbx
      subst hbx
      rcases hx with rfl | rfl
      ·subst he; exact ⟨.inl rfl, Ds, e1, e2, fun D hD => (e3 D hD).2, u, h1, u, v, c1, G', bx, S'lv, hq, rfl, h2, hcl, hI', hg⟩
      ·subst he; exact ⟨.inr rfl, Ds, e1, e2, fun D hD => (e3 D hD).2, u, h1, u, v, c1, G', bx, S'lv, hq, rfl, h2, hcl, hI', hg⟩
   ·cases hF
  ·cases hF
 ·cases hF

structure TokB where
 f : FuncId
 gs : List AV
 cells : List (List AV)
 c1 : List (List AV)
 pre : List AV
 els : List AV
 post : List AV
 n : Nat
 s : Nat
end Go.Proofs.Ytacoakfppjiomaa
end
section
namespace Go.Proofs.Ytacoakfppjiomaa
open Go.RowKit

theorem compCode_scope {P : Program} {code : Code} {c : ACode} (h : compCode P code = some (.scope c)) : ∃ x, code = .scope x ∧ compCode P x = some c := by
 cases code <;> simp only [compCode, reduceCtorEq] at h
 case scope x =>
  simp only [Option.map_eq_some_iff, ACode.scope.injEq] at h
  obtain ⟨c', h1, rfl⟩ := h
  exact ⟨x, rfl, h1⟩
 case seq => split at h <;> simp at h
 case cond => split at h <;> simp at h
 case region id ops draw =>
  split at h
  ·split at h
   ·split at h
    ·split at h <;> simp at h
    ·cases h
   ·cases h
  ·split at h
   ·cases h
   ·simp at h
 case rangeFunc => split at h <;> simp at h
 all_goals simp at h
theorem Ex.scope {n0 : Cx} {P : Program} {a : List AV} {S : St} {Q : AEx → List AV → St → Prop} {c : ACode} (h : Ex n0 .plain P c a S Q) : Ex n0 .plain P (.scope c) a S Q := by
 intro E hn code hc act w hA
 obtain ⟨x, rfl, h1⟩ := compCode_scope hc
 show (Code.scope x).wp P _ act w
 refine wp_scope_straight (wp_mono (h E hn x h1 act w hA) ?_)
 rintro e act' w' ⟨z, a', S', rfl, hq, hA'⟩
 cases z
 ·exact ⟨.norm, a', S', rfl, hq, hA'⟩
 ·exact ⟨.ex _, a', S', rfl, hq, hA'⟩
 ·exact ⟨.ret, a', S', rfl, hq, hA'⟩

theorem ExO.castA {c : Cx} {P : Program} {a : List AV} {S : St} {R : List AV → St → Prop} {xs : List AOper} {a2 : List AV} {S2 : St} (h1 : a = a2) (h2 : S = S2) (h : ExO c P xs a2 S2 R) : ExO c P xs a S R := by rw [h1, h2]; exact h
theorem ExI.castA {c : Cx} {md : Md} {P : Program} {a : List AV} {S : St} {R : List AV → St → Prop} {xs : List AOper} {a2 : List AV} {S2 : St} (h1 : a = a2) (h2 : S = S2) (h : ExI c md P xs a2 S2 R) : ExI c md P xs a S R := by rw [h1, h2]; exact h

def fadeW : AV → AV
 | .sl els t => .sl (els.map fadeS) t
 | x => x
def fadeM : List Bool → List AV → List AV
 | true :: m, x :: l => fadeW x :: fadeM m l
 | false :: m, x :: l => x :: fadeM m l
 | _, l => l
theorem fadeM_get : ∀ (m : List Bool) (l : List AV) (i : Nat) (y : AV), (fadeM m l)[i]? = some y → ∃ z, l[i]? = some z ∧ (y = z ∨ y = fadeW z)
 | [], l, i, y, h => ⟨y, by simpa [fadeM] using h, .inl rfl⟩
 | b :: m, [], i, y, h => by cases b <;> simp [fadeM] at h
 | true :: m, x :: l, 0, y, h => ⟨x, rfl, .inr (by simpa [fadeM] using h.symm)⟩
 | false :: m, x :: l, 0, y, h => ⟨x, rfl, .inl (by simpa [fadeM] using h.symm)⟩
 | true :: m, x :: l, i + 1, y, h => by
  obtain ⟨z, h1, h2⟩ := fadeM_get m l i y (by simpa [fadeM] using h)
  exact ⟨z, by simpa using h1, h2⟩
 | false :: m, x :: l, i + 1, y, h => by
  obtain ⟨z, h1, h2⟩ := fadeM_get m l i y (by simpa [fadeM] using h)
  exact ⟨z, by simpa using h1, h2⟩
theorem fadeM_len : ∀ (m : List Bool) (l : List AV), (fadeM m l).length = l.length
 | [], l => by simp [fadeM]
 | b :: m, [] => by cases b <;> simp [fadeM]
 | true :: m, x :: l => by simp [fadeM, fadeM_len m l]
 | false :: m, x :: l => by simp [fadeM, fadeM_len m l]
theorem fadeW_vr {G : Gh} {x : AV} {u : Value} (h : VR G x u) : VR G (fadeW x) u := by
 cases x with
 | sl els t => exact fadeE_vr h
 | _ => exact h
theorem boxK {n0 : Cx} {a : List AV} {S : St} (b : Nat) (cs cs' : List AV) (hb : S.bx[b]? = some cs) (hl : cs'.length = cs.length) (h : ∀ (i : Nat) y, cs'[i]? = some y → ∃ x, cs[i]? = some x ∧ ∀ (G : Gh) u, VR G x u → VR G y u) : Forgets n0 a S a ⟨S.bx.set b cs', S.lv⟩ := by
 intro E hE act w ⟨G, hI, hR, hg, hk, hd⟩
 have hblt := (List.getElem?_eq_some_iff.1 hb).1
 refine ⟨G, ⟨fun b' B c h1 h2 => ?_, hI.tok, hI.fz, fun b' B h1 => ?_, hI.dtb, hI.injA, hI.injT, hI.sep⟩, hR, ⟨hg.le, hg.os, hg.tape, hg.output, hg.size, hg.fr, hg.own, hg.oth⟩, ⟨?_, hk.ll, hk.al, hk.tb, hk.lvn⟩, hd.same rfl⟩
 ·by_cases he : b' = b
  ·subst he
   rw [List.getElem?_set_self hblt] at h2
   cases h2
   rcases hI.box b' B cs h1 hb with h0 | ⟨us, T, k1, k2, k3, k4⟩
   ·left
    rw [h0] at hl
    exact List.eq_nil_of_length_eq_zero (by simpa using hl)
   ·refine .inr ⟨us, T, k1, by omega, fun i y u hy hu => ?_, k4⟩
    obtain ⟨x, hx, hxy⟩ := h i y hy
    exact hxy G u (k3 i x u hx hu)
  ·rw [List.getElem?_set_ne (Ne.symm he)] at h2
   exact hI.box b' B c h1 h2
 ·have := hI.dal b' B h1
  exact ⟨by rw [List.length_set]; exact this.1, this.2⟩
 ·have := hk.bl
  simpa using this
theorem fadeB {n0 : Cx} {a : List AV} {S : St} (b : Nat) (cs : List AV) (m : List Bool) (hb : S.bx[b]? = some cs) : Forgets n0 a S a ⟨S.bx.set b (fadeM m cs), S.lv⟩ := boxK b cs _ hb (fadeM_len m cs) fun i y hy => by
 obtain ⟨z, h1, rfl | rfl⟩ := fadeM_get m cs i y hy
 ·exact ⟨_, h1, fun _ _ h => h⟩
 ·exact ⟨z, h1, fun _ _ h => fadeW_vr h⟩

theorem ExO.lb {c : Cx} {P : Program} {a : List AV} {S : St} {R : List AV → St → Prop} {x : AOper} {l : List AOper} {s : Nat} {els : List AV} (hw : wantedA x.guard a = some true) (hv : aop x.op (evd a) S = some (.lit s els)) (hs0 : 0 < s)
  (h : ExO c P l (putA a x.dst (.ms S.bx.length els.length s)) ⟨S.bx ++ [flat els], S.lv⟩ R) : ExO c P (x :: l) a S R := by
 intro E hE ops l1 Q hco hq act w hA
 obtain ⟨o, l', rfl, hx, hl'⟩ := mapM_cons_inv hco
 obtain ⟨h1, h2, _⟩ := compOper_ok hx
 obtain ⟨G, hI, hR, hgr, hk, hdf⟩ := hA
 simp only [wpList]
 rw [if_pos (wantedA_ok hx hR hw)]
 refine .inl ?_
 have hs := step_ok h1 (fun _ => rfl) hR.opd hI hv
 obtain ⟨us, T, cc, hrun, hn, hsz, hes, hcell⟩ := hs
 have hle : els.length * s ≤ us.size := by rw [hsz]; exact Nat.mul_le_mul_right _ hn
 have hfl : (flat els).length = els.length * s := flat_len s els hes
 obtain ⟨b1, b2, b3⟩ := new_box hI (flat els ++ List.replicate (us.size - els.length * s) .junk) us T ⟨by simp [hfl]; omega, fun i y u hy hu => by
  by_cases hi : i < (flat els).length
  ·rw [List.getElem?_append_left hi] at hy
   obtain ⟨e, g1, g2⟩ := flat_get s hs0 els i y hes hy
   obtain ⟨u', g3, g4⟩ := hcell _ e _ y g1 g2
   rw [show i / s * s + i % s = i by rw [Nat.mul_comm]; exact Nat.div_add_mod i s, hu] at g3
   cases g3
   exact g4
  ·rw [List.getElem?_append_right (by omega), List.getElem?_replicate] at hy
   split at hy
   ·cases hy; exact .junk _
   ·cases hy⟩
 have hI2 : Inv (G.box S.bx.length w.heap.size) ⟨S.bx ++ [flat els], S.lv⟩ (w.alloc (.cells us T)) := by
  refine ⟨fun b' B c' h1 h2 => ?_, b2.tok, b2.fz, fun b' B h1 => ?_, b2.dtb, b2.injA, b2.injT, b2.sep⟩
  ·by_cases hb : b' < S.bx.length
   ·rw [List.getElem?_append_left hb] at h2
    exact b2.box b' B c' h1 (by rw [List.getElem?_append_left hb]; exact h2)
   ·have hb' : b' = S.bx.length := by
     have := (b2.dal b' B h1).1
     simp at this; omega
    subst hb'
    rw [List.getElem?_append_right (Nat.le_refl _)] at h2
    simp at h2
    subst h2
    rcases b2.box _ B (flat els ++ List.replicate (us.size - els.length * s) .junk) h1 (by simp) with h0 | ⟨us', T', k1, k2, k3, k4⟩
    ·exact .inl (List.append_eq_nil_iff.1 h0).1
    ·refine .inr ⟨us', T', k1, by rw [List.length_append] at k2; omega, fun i y u hy hu => k3 i y u (by rw [List.getElem?_append_left (List.getElem?_eq_some_iff.1 hy).1]; exact hy) hu, k4⟩
  ·have := b2.dal b' B h1
   exact ⟨by simpa using this.1, this.2⟩
 have hG2 : Gro G S w (G.box S.bx.length w.heap.size) ⟨S.bx ++ [flat els], S.lv⟩ (w.alloc (.cells us T)) := ⟨b3.le, b3.os, b3.tape, b3.output, b3.size, b3.fr, b3.own, b3.oth⟩
 unfold Oper.wp
 rw [hrun]
 simp only [Oper.upon]
 exact h E hE ops l' Q hl' hq _ _ ⟨_, hI2, h2 ▸ (hR.mono hG2.le).put x.dst (.ms _ _ _ _ _ b1 hn), hgr.trans hG2, hk.trans (Keep.box G S _ _), by cases o.dst <;> exact hdf.step hG2 (Keep.box G S _ _)⟩
def frzV (b : Nat) (cs : List AV) (x : AV) : AV := match x with
 | .ptr b' o => if b' = b ∧ o ≤ cs.length then .rop (cs.drop o) else x
 | x => x
def frzS (b : Nat) (cs : List AV) (x : AV) : AV := match x with
 | .fn f ps caps => .fn f ps (caps.map (frzV b cs))
 | x => frzV b cs x
theorem VR.frzV {G G2 : Gh} {b : Nat} {cs : List AV} {x : AV} {u : Value} (h : VR G x u) (hle : G.le G2) (hrop : ∀ B o, G.al b = some B → o ≤ cs.length → VR G2 (.rop (cs.drop o)) (.pointer (some ⟨B, o, none⟩))) : VR G2 (frzV b cs x) u := by
 unfold Proofs.Ytacoakfppjiomaa.frzV
 split
 ·split
  ·rename_i hc
   obtain ⟨rfl, ho⟩ := hc
   obtain ⟨B, hB, rfl⟩ := h.inv_ptr
   exact hrop B _ hB ho
  ·exact h.mono hle
 ·exact h.mono hle
theorem VR.frzS {G G2 : Gh} {b : Nat} {cs : List AV} {x : AV} {u : Value} (h : VR G x u) (hle : G.le G2) (hrop : ∀ B o, G.al b = some B → o ≤ cs.length → VR G2 (.rop (cs.drop o)) (.pointer (some ⟨B, o, none⟩))) : VR G2 (frzS b cs x) u := by
 unfold Proofs.Ytacoakfppjiomaa.frzS
 split
 ·rename_i f ps caps
  obtain ⟨vs, us, rfl, hp, hl, hv⟩ := h.inv_fn
  refine .fn f ps _ vs us hp.1 (fun i z v hz hv' => (hp.2 i z v hz hv').mono hle) (by rw [List.length_map]; exact hl) fun i z v hz hv' => ?_
  rw [List.getElem?_map, Option.map_eq_some_iff] at hz
  obtain ⟨z', hz', rfl⟩ := hz
  exact (hv i z' v hz' hv').frzV hle hrop
 ·exact h.frzV hle hrop
theorem chillP {n0 : Cx} {a : List AV} {S : St} (k b : Nat) (cs : List AV) (v : AV) (hk : a[k]? = some v) (hb : S.bx[b]? = some cs) : Forgets n0 a S (a.set k (frzS b cs v)) ⟨S.bx.set b [], S.lv⟩ := by
 intro E hE act w ⟨G, hI, hR, hg, hkp, hd⟩
 obtain ⟨F, hF⟩ : ∃ F : Nat → Option Value, ∀ B, G.al b = some B → (∀ o u, G.fz B o = some u → F o = some u) ∧ (∀ o u, F o = some u → w.cell? ⟨B, o, none⟩ = some u) ∧ ∀ o x, cs[o]? = some x → ∃ u, F o = some u ∧ VR G x u := by
  cases hal : G.al b with
  | none => exact ⟨fun _ => none, fun B h => by cases h⟩
  | some B =>
   rcases hI.box b B _ hal hb with h | ⟨us, T, k1, k2, k3, k4⟩
   ·refine ⟨fun o => G.fz B o, fun B' hB' => ?_⟩
    cases hB'
    exact ⟨fun o u h => h, fun o u h2 => hI.fz B o u h2, fun o x hx => by rw [h] at hx; simp at hx⟩
   ·refine ⟨fun o => us[o]?, fun B' h => ?_⟩
    cases h
    refine ⟨fun o u h => (by rw [k4 o] at h; cases h), fun o u h => by simp [World.cell?, k1, h], fun o x hx => ?_⟩
    have hlt : o < us.size := Nat.lt_of_lt_of_le (List.getElem?_eq_some_iff.1 hx).1 k2
    have hu : us[o]? = some us[o] := Array.getElem?_eq_getElem hlt
    exact ⟨us[o], hu, k3 o x _ hx hu⟩
 obtain ⟨G2, hG2⟩ : ∃ G2 : Gh, G2 = ⟨G.al, G.tb, fun k o => if G.al b = some k then F o else G.fz k o⟩ := ⟨_, rfl⟩
 have hal2 : G2.al = G.al := by rw [hG2]
 have htb2 : G2.tb = G.tb := by rw [hG2]
 have hfz2 : ∀ k o, G2.fz k o = if G.al b = some k then F o else G.fz k o := fun k o => by rw [hG2]
 have hle : G.le G2 := ⟨fun b B h => by rw [hal2]; exact h, fun t k v h => by rw [htb2]; exact h, fun k o u h => by
  rw [hfz2]
  split
  ·rename_i hB
   exact (hF k hB).1 o u h
  ·exact h⟩
 have hrop : ∀ B o, G.al b = some B → o ≤ cs.length → VR G2 (.rop (cs.drop o)) (.pointer (some ⟨B, o, none⟩)) := fun B o hB ho => by
  refine .rop _ B o (fun i => (F (o + i)).getD undef) (fun i x hx => ?_) fun i x hx => ?_
  ·rw [List.getElem?_drop] at hx
   obtain ⟨u, h1, _⟩ := (hF B hB).2.2 _ x hx
   rw [hfz2, if_pos hB, h1]; rfl
  ·rw [List.getElem?_drop] at hx
   obtain ⟨u, h1, h2⟩ := (hF B hB).2.2 _ x hx
   rw [h1]; exact h2.mono hle
 have hsepb : ∀ {B t k s0 s' c}, G.al b = some B → S.lv[t]? = some (k, s0) → G.tb t k = some (.blk B s' c) → False := fun h1 h2 h3 => hI.sep _ _ _ _ _ _ _ h1 h2 h3
 refine ⟨G2, ⟨?_, ?_, ?_, ?_, ?_, ?_, ?_, ?_⟩, ⟨?_, ?_⟩, ⟨hg.le.trans hle, hg.os, hg.tape, hg.output, hg.size, ?_, ?_, hg.oth⟩, ⟨?_, ?_, ?_, ?_, hkp.lvn⟩, hd.same2 hle htb2 rfl⟩
 ·intro b' B c h1 h2
  rw [hal2] at h1
  by_cases hbb : b = b'
  ·subst hbb
   rw [List.getElem?_set] at h2
   simp only [if_true] at h2
   split at h2
   ·cases h2; exact .inl rfl
   ·cases h2
  ·rw [List.getElem?_set_ne hbb] at h2
   rcases hI.box b' B c h1 h2 with rfl | ⟨us, T, k1, k2, k3, k4⟩
   ·exact .inl rfl
   ·refine .inr ⟨us, T, k1, k2, fun i x u hx hu => (k3 i x u hx hu).mono hle, fun o => ?_⟩
    rw [hfz2, if_neg (fun h => hbb (hI.injA b b' B h h1))]
    exact k4 o
 ·intro t k s0 B s' c h1 h2
  rw [htb2] at h2
  obtain ⟨e1, e2, e3, e4⟩ := hI.tok t k s0 B s' c h1 h2
  exact ⟨e1, e2, e3, fun o ho => by rw [hfz2, if_neg (fun h => hsepb h h1 h2)]; exact e4 o ho⟩
 ·intro k o u h
  rw [hfz2] at h
  split at h
  ·rename_i hB
   exact (hF k hB).2.1 o u h
  ·exact hI.fz k o u h
 ·intro b' B h
  rw [hal2] at h
  exact ⟨by rw [List.length_set]; exact (hI.dal b' B h).1, (hI.dal b' B h).2⟩
 ·intro t k v h
  rw [htb2] at h
  exact hI.dtb t k v h
 ·intro b1 b2 B h1 h2
  rw [hal2] at h1 h2
  exact hI.injA b1 b2 B h1 h2
 ·intro t t' k k' s0 s0' B s1 s2 c c' h1 h2 h3 h4
  rw [htb2] at h3 h4
  exact hI.injT t t' k k' s0 s0' B s1 s2 c c' h1 h2 h3 h4
 ·intro b' B t k s0 s' c h1 h2
  rw [hal2] at h1
  rw [htb2]
  exact hI.sep b' B t k s0 s' c h1 h2
 ·rw [List.length_set]; exact hR.size
 ·intro i y u hy hu
  rw [List.getElem?_set] at hy
  split at hy
  ·rename_i hki
   subst hki
   split at hy
   ·cases hy
    exact (hR.slot k v u hk hu).frzS hle hrop
   ·cases hy
  ·exact (hR.slot i y u hy hu).mono hle
 ·intro B hB hno
  obtain ⟨h1, h2⟩ := hg.fr B hB hno
  refine ⟨h1, fun o => ?_⟩
  rw [hfz2, if_neg (fun h => ?_)]
  ·exact h2 o
  ·rcases hg.own B (.inl ⟨b, h⟩) with h' | h'
   ·exact hno h'
   ·omega
 ·rintro B (⟨b', hb'⟩ | ⟨t, k, s0, s', c, h1, h2⟩)
  ·rw [hal2] at hb'
   exact hg.own B (.inl ⟨b', hb'⟩)
  ·rw [htb2] at h2
   exact hg.own B (.inr ⟨t, k, s0, s', c, h1, h2⟩)
 ·simp only [List.length_set]
  exact hkp.bl
 ·exact hkp.ll
 ·intro b' hb' h
  rw [hal2]
  exact hkp.al b' hb' h
 ·intro t ht h k
  rw [htb2]
  exact hkp.tb t ht h k

end Go.Proofs.Ytacoakfppjiomaa
end
section
namespace Go.Proofs.Ytacoakfppjiomaa
open Go.RowKit

def Cx.one : Cx := ⟨0, 1, 0, [], fun _ h => (by cases h), fun _ h => (by cases h)⟩
@[simp] theorem Cx.one_n : Cx.one.n = 0 := rfl
@[simp] theorem Cx.one_m : Cx.one.m = 1 := rfl
@[simp] theorem Cx.zero_n : Cx.n 0 = 0 := rfl
@[simp] theorem Cx.zero_m : Cx.m 0 = 0 := rfl
@[simp] theorem SV_clean {α : Type} (f : α → AV) (l : List α) : (SV f l).clean = cleanL (l.map f) := by simp only [SV, AV.clean]
@[simp] theorem cleanI3 (k : IntKind) (l : List (List (List Int))) : cleanL (l.map (SV (SV (AV.int k)))) = true := cleanM (fun x => by simp only [SV, AV.clean]; exact cleanII k x) l
structure DoesG (P : Program) (f : FuncId) (xs : List AV) (n s : Nat) (K : List AV → Prop) : Prop where
 enter : ∀ (us : Array Value) (w : World), (callFunc f us).run P w = .ok (.enter f us) w
 calls : ∀ (G : Gh) (w : World) (us : Array Value), Inv G ⟨[], [(n, s)]⟩ w → (∃ v, G.tb 0 n = some v) → VRs G xs us → Calls P f us w fun e w' => ∃ u r G' bx lv, K r ∧ e = .returned u ∧ VR G' (.sl r (some 0)) u ∧ lv[0]? = some (r.length, s) ∧ Inv G' ⟨bx, lv⟩ w' ∧ Gro G ⟨[], [(n, s)]⟩ w G' ⟨bx, lv⟩ w'
theorem DoesG.of {P : Program} {f : FuncId} {F : AFn} (hF : compFn P f = some F) {xs : List AV} {n s : Nat} {K : List AV → Prop}
  (h : Ex Cx.one .plain P F.code (start F xs) ⟨[], [(n, s)]⟩ fun x a' S' => (x = .norm ∨ x = .ret) ∧ ∃ r, evRes a' S' F.res = some (.sl r (some 0)) ∧ S'.lv[0]? = some (r.length, s) ∧ K r) : DoesG P f xs n s K := by
 unfold compFn at hF
 split at hF
 ·rename_i fn hf
  split at hF
  ·rename_i c rs hb hrs
   split at hF
   ·rename_i ac hac
    split at hF
    ·cases hF
    ·rename_i hname
     cases hF
     refine ⟨fun us w => ?_, fun G w us hI htb hvs => ?_⟩
     ·simp only [callFunc, program, Sem.run, hf, Sem.run_bind, Result.andThen_ok, hname, hb]
      rfl
     ·refine calls_of_marks hf hb ?_
      have hR := start_rel (F := ⟨fn.params.size, fn.ntmps, rs, ac⟩) (n := fn.ntmps) rfl hvs
      let E : Ent := ⟨G, ⟨[], [(n, s)]⟩, w, [], hI, Cx.one, Nat.le_refl _, fun t ht => by
       obtain ⟨v, hv⟩ := htb
       have : t = 0 := by simpa using ht
       subst this
       exact ⟨n, v, hv⟩, Nat.le_refl _, fun _ h => (by cases h), w.heap.size, Nat.le_refl _⟩
      refine wp_mono (h E rfl c hac _ w ⟨G, hI, hR, .refl _ _ _, .refl _ _, ⟨⟨[], rfl, .nil, fun _ h => (by cases h)⟩, fun _ h => (by cases h), Nat.le_refl _, Nat.zero_le _, Nat.le_refl _⟩⟩) ?_
      rintro e act' w' ⟨x, a', S', he, ⟨hx, r, hv, hl, hq⟩, G', hI', hR', hg, hk, hd⟩
      obtain ⟨Ds, e1, e2, e3⟩ := hd.d
      have e1 : act'.defers = Ds.map markOf := by rw [e1]; exact List.append_nil _
      have hI' := hI'.shut e2 fun D hD => (e3 D hD).2
      have hg := hg.shut fun D hD => (e3 D hD).1.1
      obtain ⟨u, h1, h2⟩ := res_ok hI' hR' hrs hv
      obtain ⟨S'bx, S'lv⟩ := S'
      rcases hx with rfl | rfl
      ·subst he; exact ⟨.inl rfl, Ds, e1, e2, fun D hD => (e3 D hD).2, u, h1, u, r, G', S'bx, S'lv, hq, rfl, h2, hl, hI', hg⟩
      ·subst he; exact ⟨.inr rfl, Ds, e1, e2, fun D hD => (e3 D hD).2, u, h1, u, r, G', S'bx, S'lv, hq, rfl, h2, hl, hI', hg⟩
   ·cases hF
  ·cases hF
 ·cases hF

structure GroR where
 f : FuncId
 pre : List AV
 els : List AV
 post : List AV
 n : Nat
 s : Nat
 r : List AV
 m : Nat
end Go.Proofs.Ytacoakfppjiomaa
end
section
namespace Go.Proofs.Ytacoakfppjiomaa
open Go.RowKit
theorem w64 {x : Int} (h0 : -9223372036854775808 ≤ x) (h1 : x < 9223372036854775808) : IntKind.i64.wrap x = x := by
 simp [IntKind.wrap, IntKind.bits, IntKind.signed]
 omega
theorem wu64 (x : Int) : 0 ≤ IntKind.u64.wrap x ∧ IntKind.u64.wrap x < 2 ^ 64 := by
 have e : IntKind.u64.wrap x = x % 2 ^ 64 := rfl
 omega
theorem wu64_id {x : Int} (h0 : 0 ≤ x) (h1 : x < 2 ^ 64) : IntKind.u64.wrap x = x := by
 have e : IntKind.u64.wrap x = x % 2 ^ 64 := rfl
 omega
section
variable {α A B C D ρ : Type}
theorem loop1_T {body : (A → Option ρ) → A → Option ρ} (T : Option ρ → Prop) (P : A → Prop) (μ : A → Nat) (h : ∀ rec a, P a → (∀ a', P a' → μ a' < μ a → T (rec a')) → T (body rec a)) : ∀ (N : Nat) (a : A), P a → μ a < N → T (loop1 body N a)
 | 0, a, _, hm => absurd hm (Nat.not_lt_zero _)
 | n + 1, a, hp, hm => h (loop1 body n) a hp fun a' hp' hm' => loop1_T T P μ h n a' hp' (by omega)
theorem loop2_T {body : (A → B → Option ρ) → A → B → Option ρ} (T : Option ρ → Prop) (P : A → B → Prop) (μ : A → B → Nat) (h : ∀ rec a b, P a b → (∀ a' b', P a' b' → μ a' b' < μ a b → T (rec a' b')) → T (body rec a b)) : ∀ (N : Nat) (a : A) (b : B), P a b → μ a b < N → T (loop2 body N a b)
 | 0, a, b, _, hm => absurd hm (Nat.not_lt_zero _)
 | n + 1, a, b, hp, hm => h (loop2 body n) a b hp fun a' b' hp' hm' => loop2_T T P μ h n a' b' hp' (by omega)
theorem loop3_T {body : (A → B → C → Option ρ) → A → B → C → Option ρ} (T : Option ρ → Prop) (P : A → B → C → Prop) (μ : A → B → C → Nat) (h : ∀ rec a b c, P a b c → (∀ a' b' c', P a' b' c' → μ a' b' c' < μ a b c → T (rec a' b' c')) → T (body rec a b c)) : ∀ (N : Nat) (a : A) (b : B) (c : C), P a b c → μ a b c < N → T (loop3 body N a b c)
 | 0, a, b, c, _, hm => absurd hm (Nat.not_lt_zero _)
 | n + 1, a, b, c, hp, hm => h (loop3 body n) a b c hp fun a' b' c' hp' hm' => loop3_T T P μ h n a' b' c' hp' (by omega)
end
theorem getI_nat {α : Type} (l : List α) (i : Nat) : getI l (i : Int) = l[i]? := by simp [getI]
theorem getI_lt {α : Type} {l : List α} {i : Int} (h0 : 0 ≤ i) (h1 : i < (l.length : Int)) : ∃ x, getI l i = some x ∧ l[i.toNat]? = some x ∧ x ∈ l := by
 have hlt : i.toNat < l.length := by omega
 refine ⟨l[i.toNat], ?_, List.getElem?_eq_getElem hlt, List.getElem_mem hlt⟩
 simp only [getI, h0, if_true]
 exact List.getElem?_eq_getElem hlt
theorem pushI_ok {α : Type} {l m : List α} (h : l.length + m.length ≤ 65536) : pushI l m = some (l ++ m) := if_pos h
theorem letJ_eq {κ ρ : Type} (K : κ) (f : κ → Option ρ) : letJ K f = f K := rfl
theorem letJ_gen {κ ρ : Type} (T : Option ρ → Prop) (K : κ) (f : κ → Option ρ) (h : ∀ k, k = K → T (f k)) : T (letJ K f) := h K rfl
section
variable {A B ρ : Type}
theorem st1 (n : Nat) (body : (Int → Option ρ) → Int → Option ρ) (r : Option ρ) (hend : ∀ rec, body rec (n : Int) = r) (hstep : ∀ rec (i : Nat), i < n → body rec (i : Int) = rec ((i + 1 : Nat) : Int)) : ∀ (N i : Nat), i ≤ n → n - i < N → loop1 body N (i : Int) = r
 | 0, i, _, h => absurd h (Nat.not_lt_zero _)
 | N + 1, i, hle, hN => by
  show body (loop1 body N) (i : Int) = _
  by_cases hlt : i < n
  ·rw [hstep _ i hlt]; exact st1 n body r hend hstep N (i + 1) (by omega) (by omega)
  ·have : i = n := by omega
   subst this
   exact hend _
theorem st2 (n : Nat) (st : Nat → A) (body : (Int → A → Option ρ) → Int → A → Option ρ) (r : Option ρ) (hend : ∀ rec, body rec (n : Int) (st n) = r) (hstep : ∀ rec (i : Nat), i < n → body rec (i : Int) (st i) = rec ((i + 1 : Nat) : Int) (st (i + 1))) : ∀ (N i : Nat), i ≤ n → n - i < N → loop2 body N (i : Int) (st i) = r
 | 0, i, _, h => absurd h (Nat.not_lt_zero _)
 | N + 1, i, hle, hN => by
  show body (loop2 body N) (i : Int) (st i) = _
  by_cases hlt : i < n
  ·rw [hstep _ i hlt]; exact st2 n st body r hend hstep N (i + 1) (by omega) (by omega)
  ·have : i = n := by omega
   subst this
   exact hend _
end
theorem nadd1 (i : Nat) (h : i < 4611686018427387904) : IntKind.i64.wrap ((i : Int) + 1) = ((i + 1 : Nat) : Int) := by
 rw [w64 (x := (i : Int) + 1) (by omega) (by omega)]
 omega
theorem ltD {i n : Nat} (h : i < n) : decide ((i : Int) < ((n : Nat) : Int)) = true := decide_eq_true (by omega)
theorem ltE (n : Nat) : decide (((n : Nat) : Int) < ((n : Nat) : Int)) = false := decide_eq_false (by omega)
def pre (l : List Int) (i : Nat) : Int := (l.take i).sum
theorem getD_at {α : Type} [Inhabited α] {l : List α} {i : Nat} {x : α} (h : l[i]? = some x) : getI l (i : Int) = some x := by
 rw [getI_nat, h]
section
variable {α A B C D ρ : Type}
theorem invL (l : List α) (T : Option ρ → Prop) (I : Nat → B → Prop) {body : (Int → B → Option ρ) → Int → B → Option ρ} (hend : ∀ rec b, I l.length b → T (body rec (l.length : Int) b)) (hstep : ∀ rec (i : Nat) x b, l[i]? = some x → i < l.length → I i b → (∀ b', I (i + 1) b' → T (rec ((i + 1 : Nat) : Int) b')) → T (body rec (i : Int) b)) : ∀ (N i : Nat) (b : B), i ≤ l.length → l.length - i < N → I i b → T (loop2 body N (i : Int) b)
 | 0, i, b, _, h, _ => absurd h (Nat.not_lt_zero _)
 | N + 1, i, b, hle, hN, hI => by
  show T (body (loop2 body N) (i : Int) b)
  by_cases hlt : i < l.length
  ·exact hstep _ i l[i] b (List.getElem?_eq_getElem hlt) hlt hI fun b' hb' => invL l T I hend hstep N (i + 1) b' (by omega) (by omega) hb'
  ·have : i = l.length := by omega
   subst this
   exact hend _ b hI
theorem invL' (l : List α) (T : Option ρ → Prop) (I : Nat → B → Prop) {body : (B → Int → Option ρ) → B → Int → Option ρ} (hend : ∀ rec b, I l.length b → T (body rec b (l.length : Int))) (hstep : ∀ rec (i : Nat) x b, l[i]? = some x → i < l.length → I i b → (∀ b', I (i + 1) b' → T (rec b' ((i + 1 : Nat) : Int))) → T (body rec b (i : Int))) : ∀ (N i : Nat) (b : B), i ≤ l.length → l.length - i < N → I i b → T (loop2 body N b (i : Int))
 | 0, i, b, _, h, _ => absurd h (Nat.not_lt_zero _)
 | N + 1, i, b, hle, hN, hI => by
  show T (body (loop2 body N) b (i : Int))
  by_cases hlt : i < l.length
  ·exact hstep _ i l[i] b (List.getElem?_eq_getElem hlt) hlt hI fun b' hb' => invL' l T I hend hstep N (i + 1) b' (by omega) (by omega) hb'
  ·have : i = l.length := by omega
   subst this
   exact hend _ b hI
theorem invZ (l : List α) (T : Option ρ → Prop) (I : Nat → B → Prop) {body : (Int → B → Option ρ) → Int → B → Option ρ} {N : Nat} {b : B} (hN : l.length < N) (hI : I 0 b) (hend : ∀ rec b, I l.length b → T (body rec (l.length : Int) b)) (hstep : ∀ rec (i : Nat) x b, l[i]? = some x → i < l.length → I i b → (∀ b', I (i + 1) b' → T (rec ((i + 1 : Nat) : Int) b')) → T (body rec (i : Int) b)) : T (loop2 body N 0 b) := invL l T I hend hstep N 0 b (by omega) (by omega) hI
theorem invZ' (l : List α) (T : Option ρ → Prop) (I : Nat → B → Prop) {body : (B → Int → Option ρ) → B → Int → Option ρ} {N : Nat} {b : B} (hN : l.length < N) (hI : I 0 b) (hend : ∀ rec b, I l.length b → T (body rec b (l.length : Int))) (hstep : ∀ rec (i : Nat) x b, l[i]? = some x → i < l.length → I i b → (∀ b', I (i + 1) b' → T (rec b' ((i + 1 : Nat) : Int))) → T (body rec b (i : Int))) : T (loop2 body N b 0) := invL' l T I hend hstep N 0 b (by omega) (by omega) hI
end
theorem setI_p (l : List Int) (i : Nat) (v : Int) (h : i < l.length) : setI l (i : Int) (fun (y : Int) => v) = some (l.set i v) := by
 have hx : l[i]? = some l[i] := List.getElem?_eq_getElem h
 unfold setI
 rw [Int.toNat_natCast, hx]
 rfl
end Go.Proofs.Ytacoakfppjiomaa
end
section
namespace Go.Proofs.Ytacoakfppjiomaa
set_option maxRecDepth 100000

abbrev oo (d : Nat) (x : AOp) : AOper := ⟨some d, x, none⟩
abbrev on (x : AOp) : AOper := ⟨none, x, none⟩
theorem rg {n0 : Cx} {md : Md} {P : Program} {Q : AEx → List AV → St → Prop} {l : List AOper} {a : List AV} {S : St} (k : Nat) (live : List Nat) (a2 : List AV) (S2 : St) (hx : Q .norm a2 S2) (h : (evH [] 0 k l a S).map (fun p => (p.1, keepB 0 live p.2.1, p.2.2)) = some ([], a2, S2) := by kernel_rfl) (hl : l.drop k = [] := by rfl) : Ex n0 md P (.reg l) a S Q :=
 regH k [] live [] a2 S2 h trivial hl hx
theorem rn {n0 : Cx} {P : Program} {R : List AV → St → Prop} {l : List AOper} {a : List AV} {S : St} (k : Nat) (live : List Nat) (a2 : List AV) (S2 : St) (hx : ExO n0 P (l.drop k) a2 S2 R) (h : (evH [] 0 k l a S).map (fun p => (p.1, keepB 0 live p.2.1, p.2.2)) = some ([], a2, S2) := by kernel_rfl) : ExO n0 P l a S R :=
 runH k [] live [] a2 S2 h trivial hx
theorem bE {α β : Type} {o : Option α} {f : α → Option β} {b : β} (h : o.bind f = some b) : ∃ a, o = some a ∧ f a = some b := Option.bind_eq_some_iff.1 h
theorem rt {a' : List AV} {S' : St} {res : List ARes} {n : Nat} {c1 : List (List AV)} {r : AV} (v : AV) (h1 : evRes a' S' res = some v := by kernel_rfl) (h2 : v.names = false := by kernel_rfl) (h3 : fadeT v = r := by kernel_rfl) (h4 : S'.bx.take n = c1 := by kernel_rfl) : (AEx.ret = .norm ∨ AEx.ret = .ret) ∧ ∃ v, evRes a' S' res = some v ∧ v.names = false ∧ fadeT v = r ∧ S'.bx.take n = c1 := ⟨.inr rfl, v, h1, h2, h3, h4⟩
abbrev i6 (x : Int) : AV := .int .i64 x
theorem sJ {α : Type} {a b : α} (h : some a = some b) : a = b := Option.some.inj h
def F5 : AFn := ⟨1, 198, [.tmp 2], (.seq (.reg [oo 2 (.mov (.con (.bool false)))]) (.seq (.reg [oo 20 (.mov (.tmp 0)), oo 21 (.call (.con (.fn 8 [] [])) [(.tmp 20)]), oo 3 (.mov (.tmp 21))]) (.seq (.reg [oo 22 (.mov (.tmp 3)), oo 23 (.call (.con (.fn 21 [] [])) [(.tmp 22), (.con (i6 4))]), oo 4 (.box (.con (.agg [i6 0, .nils]))), on (.store 2 (.tmp 4) (.tmp 23))]) (.seq (.reg [oo 24 (.faddr (.tmp 4) 0), oo 25 (.load none (.tmp 24)), oo 26 (.mn (.tmp 25) (.con (i6 400))), oo 27 (.faddr (.tmp 4) 0), on (.store 1 (.tmp 27) (.tmp 26))]) (.seq (.dreg 5 [oo 28 (.mov (.tmp 3)), oo 29 (.load (some 2) (.tmp 4)), oo 30 (.call (.con (.fn 22 [] [])) [(.tmp 28), (.tmp 29)]), oo 31 (.mov (.tmp 3)), oo 32 (.load (some 2) (.tmp 4)), oo 33 (.call (.con (.fn 23 [] [])) [(.tmp 31), (.tmp 32)]), oo 5 (.mov (.tmp 30)), oo 6 (.mov (.tmp 33))]) (.seq (.reg [oo 34 (.mov (.tmp 3)), oo 35 (.bsl 1 false [i6 0] 3 [(0, (.con (i6 0))), (1, (.con (i6 300))), (2, (.con (i6 900)))]), oo 36 (.call (.con (.fn 19 [] [])) [(.tmp 34), (.tmp 35)]), oo 7 (.mov (.tmp 36))]) (.seq (.seq (.reg [oo 8 (.mov (.con (i6 0)))]) (.block 0 (.loop (.seq (.seq (.reg [oo 37 (.mov (.tmp 8)), oo 38 (.mov (.tmp 5)), oo 39 (.len false (.tmp 38)), oo 40 (.bin .lss (.tmp 37) (.tmp 39))]) (.cond (.tmp 40) .skip (.exit 0))) (.seq (.block 1 (.reg [oo 43 (.mov (.tmp 5)), oo 44 (.mov (.tmp 8)), oo 45 (.mov (.tmp 5)), oo 46 (.mov (.tmp 8)), oo 47 (.iaddr (.tmp 45) (.tmp 46) 1 none), oo 48 (.load none (.tmp 47)), oo 49 (.mov (.tmp 8)), oo 50 (.mov (.tmp 7)), oo 51 (.bin .mul (.tmp 49) (.tmp 50)), oo 52 (.bin .add (.tmp 48) (.tmp 51)), oo 53 (.iaddr (.tmp 43) (.tmp 44) 1 none), on (.store 1 (.tmp 53) (.tmp 52))])) (.reg [oo 41 (.mov (.tmp 8)), oo 42 (.bin .add (.tmp 41) (.con (i6 1))), oo 8 (.mov (.tmp 42))])))))) (.seq (.reg [oo 54 (.build [i6 0, i6 0] [(0, 1, (.con (i6 40))), (1, 1, (.con (i6 40)))]), oo 55 (.build [i6 0, i6 0] [(0, 1, (.con (i6 41))), (1, 1, (.con (i6 42)))]), oo 56 (.bsl 2 true [i6 0, i6 0] 2 [(0, (.tmp 54)), (1, (.tmp 55))]), oo 57 (.bsl 1 false [i6 0] 1 [(0, (.con (i6 0)))]), oo 58 (.bsl 1 false [.nils] 1 [(0, (.tmp 57))]), oo 59 (.mov (.tmp 3)), oo 60 (.call (.con (.fn 10 [] [])) [(.tmp 59), (.con (i6 3))]), oo 61 (.mov (.tmp 3)), oo 62 (.call (.con (.fn 10 [] [])) [(.tmp 61), (.con (i6 3))]), oo 63 (.bsl 1 false [i6 0] 2 [(0, (.tmp 60)), (1, (.tmp 62))]), oo 64 (.build [.nils, .nils, .nils, .nils] [(0, 1, (.tmp 56)), (1, 1, (.tmp 58)), (2, 1, (.tmp 63))]), oo 9 (.box (.con (.agg [.nils, .nils, .nils, .nils]))), on (.store 4 (.tmp 9) (.tmp 64))]) (.seq (.seq (.reg [oo 10 (.mov (.con (i6 0)))]) (.block 2 (.loop (.seq (.seq (.reg [oo 65 (.mov (.tmp 10)), oo 66 (.faddr (.tmp 4) 1), oo 67 (.load none (.tmp 66)), oo 68 (.len false (.tmp 67)), oo 69 (.bin .lss (.tmp 65) (.tmp 68))]) (.cond (.tmp 69) .skip (.exit 2))) (.seq (.block 3 (.seq (.dreg 18 [oo 73 (.load (some 2) (.tmp 4)), oo 74 (.mov (.tmp 5)), oo 75 (.mov (.tmp 10)), oo 76 (.faddr (.tmp 4) 0), oo 77 (.load none (.tmp 76)), oo 78 (.faddr (.tmp 4) 1), oo 79 (.load none (.tmp 78)), oo 80 (.mov (.tmp 10)), oo 81 (.iaddr (.tmp 79) (.tmp 80) 4 none), oo 82 (.faddr (.tmp 81) 1), oo 83 (.load none (.tmp 82)), oo 84 (.bin .add (.tmp 77) (.tmp 83)), oo 85 (.call (.con (.fn 24 [] [])) [(.tmp 73), (.tmp 74), (.tmp 75), (.tmp 84)]), oo 72 (.mov (.tmp 85)), oo 86 (.ext (.tmp 72) 0), oo 87 (.ext (.tmp 72) 1), oo 11 (.box (.con (.agg [i6 0, i6 0]))), on (.store 2 (.tmp 11) (.tmp 86)), oo 12 (.mov (.tmp 87))]) (.seq (.seq (.reg [oo 88 (.mov (.tmp 12)), oo 89 (.bin .neq (.tmp 88) (.con (i6 0)))]) (.cond (.tmp 89) (.seq (.reg [oo 2 (.mov (.con (.bool false)))]) .ret) .skip)) (.seq (.dreg 15 [oo 90 (.mov (.tmp 3)), oo 91 (.call (.con (.fn 10 [] [])) [(.tmp 90), (.con (i6 2))]), oo 92 (.mov (.tmp 3)), oo 93 (.call (.con (.fn 10 [] [])) [(.tmp 92), (.con (i6 2))]), oo 94 (.mov (.tmp 5)), oo 95 (.mov (.tmp 10)), oo 96 (.iaddr (.tmp 94) (.tmp 95) 1 none), oo 97 (.load none (.tmp 96)), oo 98 (.bin .quo (.tmp 97) (.con (i6 60))), oo 99 (.faddr (.tmp 11) 1), oo 100 (.load none (.tmp 99)), oo 101 (.bin .quo (.tmp 100) (.con (i6 60))), oo 102 (.bin .add (.tmp 101) (.con (i6 1))), oo 103 (.build [i6 0, i6 0, i6 0, i6 0, i6 0] [(0, 1, (.tmp 91)), (2, 1, (.tmp 93)), (3, 1, (.tmp 98)), (4, 1, (.tmp 102))]), oo 13 (.box (.con (.agg [i6 0, i6 0, i6 0, i6 0, i6 0]))), on (.store 5 (.tmp 13) (.tmp 103))]) (.seq (.seq (.reg [oo 104 (.faddr (.tmp 13) 4), oo 105 (.load none (.tmp 104)), oo 106 (.bin .gtr (.tmp 105) (.con (i6 1440)))]) (.cond (.tmp 106) (.seq (.reg [oo 107 (.call (.con (.fn 25 [] [])) []), oo 2 (.mov (.tmp 107))]) .ret) .skip)) (.reg [oo 108 (.faddr (.tmp 9) 3), oo 109 (.load none (.tmp 108)), oo 110 (.load (some 5) (.tmp 13)), oo 111 (.bsl 5 true [i6 0, i6 0, i6 0, i6 0, i6 0] 1 [(0, (.tmp 110))]), oo 112 (.app (.tmp 109) (.tmp 111) 5 40 [i6 0, i6 0, i6 0, i6 0, i6 0]), oo 113 (.faddr (.tmp 9) 3), on (.store 1 (.tmp 113) (.tmp 112))])))))) (.reg [oo 70 (.mov (.tmp 10)), oo 71 (.bin .add (.tmp 70) (.con (i6 1))), oo 10 (.mov (.tmp 71))])))))) (.seq (.seq (.reg [oo 114 (.load (some 4) (.tmp 9)), oo 115 (.call (.con (.fn 26 [] [])) [(.tmp 114)]), oo 116 (.bin .neq (.tmp 115) (.con (i6 0)))]) (.cond (.tmp 116) (.seq (.reg [oo 117 (.call (.con (.fn 25 [] [])) []), oo 2 (.mov (.tmp 117))]) .ret) .skip)) (.seq (.seq (.reg [oo 14 (.mov (.con (i6 0)))]) (.block 4 (.loop (.seq (.seq (.reg [oo 118 (.mov (.tmp 14)), oo 119 (.faddr (.tmp 9) 3), oo 120 (.load none (.tmp 119)), oo 121 (.len false (.tmp 120)), oo 122 (.bin .lss (.tmp 118) (.tmp 121))]) (.cond (.tmp 122) .skip (.exit 4))) (.seq (.block 5 (.seq (.dreg 13 [oo 125 (.load (some 2) (.tmp 4)), oo 126 (.mov (.tmp 5)), oo 127 (.mov (.tmp 6)), oo 128 (.mov (.tmp 14)), oo 129 (.faddr (.tmp 4) 0), oo 130 (.load none (.tmp 129)), oo 131 (.faddr (.tmp 4) 1), oo 132 (.load none (.tmp 131)), oo 133 (.mov (.tmp 14)), oo 134 (.iaddr (.tmp 132) (.tmp 133) 4 none), oo 135 (.faddr (.tmp 134) 1), oo 136 (.load none (.tmp 135)), oo 137 (.bin .add (.tmp 130) (.tmp 136)), oo 138 (.call (.con (.fn 27 [] [])) [(.tmp 125), (.tmp 126), (.tmp 127), (.tmp 128), (.tmp 137)]), oo 15 (.mov (.tmp 138))]) (.seq (.reg [oo 16 (.mov (.con (i6 0)))]) (.block 6 (.loop (.seq (.seq (.reg [oo 139 (.mov (.tmp 16)), oo 140 (.faddr (.tmp 9) 3), oo 141 (.load none (.tmp 140)), oo 142 (.len false (.tmp 141)), oo 143 (.bin .lss (.tmp 139) (.tmp 142))]) (.cond (.tmp 143) .skip (.exit 6))) (.seq (.block 7 (.seq (.dreg 13 [oo 146 (.faddr (.tmp 9) 3), oo 147 (.load none (.tmp 146)), oo 148 (.mov (.tmp 14)), oo 149 (.iaddr (.tmp 147) (.tmp 148) 5 none), oo 150 (.load (some 5) (.tmp 149)), oo 151 (.faddr (.tmp 9) 3), oo 152 (.load none (.tmp 151)), oo 153 (.mov (.tmp 16)), oo 154 (.iaddr (.tmp 152) (.tmp 153) 5 none), oo 155 (.load (some 5) (.tmp 154)), oo 17 (.box (.con (.agg [i6 0, i6 0, i6 0, i6 0, i6 0]))), oo 18 (.box (.con (.agg [i6 0, i6 0, i6 0, i6 0, i6 0]))), on (.store 5 (.tmp 17) (.tmp 150)), on (.store 5 (.tmp 18) (.tmp 155))]) (.seq (.seq (.dreg 19 [oo 156 (.mov (.tmp 14)), oo 157 (.mov (.tmp 16)), oo 158 (.bin .eql (.tmp 156) (.tmp 157)), oo 159 (.mov (.tmp 158)), ⟨some 160, .faddr (.tmp 17) 0, some (159, false)⟩, ⟨some 161, .load none (.tmp 160), some (159, false)⟩, ⟨some 162, .faddr (.tmp 18) 0, some (159, false)⟩, ⟨some 163, .load none (.tmp 162), some (159, false)⟩, ⟨some 164, .bin .neq (.tmp 161) (.tmp 163), some (159, false)⟩, oo 165 (.pick (.tmp 159) (.con (.bool true)) (.tmp 164)), oo 166 (.mov (.tmp 165)), ⟨some 167, .mov (.tmp 5), some (166, false)⟩, ⟨some 168, .mov (.tmp 16), some (166, false)⟩, ⟨some 169, .iaddr (.tmp 167) (.tmp 168) 1 none, some (166, false)⟩, ⟨some 170, .load none (.tmp 169), some (166, false)⟩, ⟨some 171, .mov (.tmp 5), some (166, false)⟩, ⟨some 172, .mov (.tmp 14), some (166, false)⟩, ⟨some 173, .iaddr (.tmp 171) (.tmp 172) 1 none, some (166, false)⟩, ⟨some 174, .load none (.tmp 173), some (166, false)⟩, ⟨some 175, .bin .lss (.tmp 170) (.tmp 174), some (166, false)⟩, oo 176 (.pick (.tmp 166) (.con (.bool true)) (.tmp 175))]) (.cond (.tmp 176) (.exit 7) .skip)) (.seq (.reg [oo 19 (.mov (.con (i6 0)))]) (.seq (.seq (.reg [oo 177 (.faddr (.tmp 17) 2), oo 178 (.load none (.tmp 177)), oo 179 (.faddr (.tmp 18) 2), oo 180 (.load none (.tmp 179)), oo 181 (.bin .neq (.tmp 178) (.tmp 180))]) (.cond (.tmp 181) (.reg [oo 182 (.faddr (.tmp 9) 2), oo 183 (.load none (.tmp 182)), oo 184 (.faddr (.tmp 18) 2), oo 185 (.load none (.tmp 184)), oo 186 (.iaddr (.tmp 183) (.tmp 185) 1 none), oo 187 (.load none (.tmp 186)), oo 188 (.bin .mul (.con (i6 60)) (.tmp 187)), oo 19 (.mov (.tmp 188))]) .skip)) (.seq (.reg [oo 189 (.mov (.tmp 5)), oo 190 (.mov (.tmp 16)), oo 191 (.iaddr (.tmp 189) (.tmp 190) 1 none), oo 192 (.load none (.tmp 191)), oo 193 (.mov (.tmp 15)), oo 194 (.bin .sub (.tmp 192) (.tmp 193)), oo 195 (.mov (.tmp 19)), oo 196 (.bin .lss (.tmp 194) (.tmp 195))]) (.cond (.tmp 196) (.seq (.reg [oo 2 (.mov (.con (.bool false)))]) .ret) .skip))))))) (.reg [oo 144 (.mov (.tmp 16)), oo 145 (.bin .add (.tmp 144) (.con (i6 1))), oo 16 (.mov (.tmp 145))])))))))) (.reg [oo 123 (.mov (.tmp 14)), oo 124 (.bin .add (.tmp 123) (.con (i6 1))), oo 14 (.mov (.tmp 124))])))))) (.seq (.reg [oo 197 (.call (.con (.fn 25 [] [])) []), oo 2 (.mov (.tmp 197))]) .ret))))))))))))⟩
theorem comp5 : compFn Try.prog 5 = some F5 := by kernel_rfl
def F8 : AFn := ⟨1, 29, [.tmp 2], (.seq (.reg [oo 2 (.mov (.con (.nilp)))]) (.seq (.reg [oo 5 (.build [.int .u64 0] [(0, 1, (.con (.int .u64 2685821657736338717)))]), oo 6 (.box (.tmp 5)), oo 3 (.mov (.tmp 6))]) (.seq (.seq (.reg [oo 4 (.mov (.con (i6 0)))]) (.block 0 (.loop (.seq (.seq (.reg [oo 7 (.mov (.tmp 4)), oo 8 (.mov (.tmp 0)), oo 9 (.len false (.tmp 8)), oo 10 (.bin .lss (.tmp 7) (.tmp 9))]) (.cond (.tmp 10) .skip (.exit 0))) (.seq (.block 1 (.seq (.dreg 11 [oo 13 (.mov (.tmp 3)), oo 14 (.mov (.tmp 3)), oo 15 (.nilck (.tmp 14)), oo 16 (.faddr (.tmp 15) 0), oo 17 (.load none (.tmp 16)), oo 18 (.mov (.tmp 0)), oo 19 (.mov (.tmp 4)), oo 20 (.iaddr (.tmp 18) (.tmp 19) 1 none), oo 21 (.load none (.tmp 20)), oo 22 (.conv .u64 (.tmp 21)), oo 23 (.bin .xor (.tmp 17) (.tmp 22)), oo 24 (.nilck (.tmp 13)), oo 25 (.faddr (.tmp 24) 0), on (.store 1 (.tmp 25) (.tmp 23))]) (.reg [oo 26 (.mov (.tmp 3)), oo 27 (.call (.con (.fn 36 [] [])) [(.tmp 26)])]))) (.reg [oo 11 (.mov (.tmp 4)), oo 12 (.bin .add (.tmp 11) (.con (i6 1))), oo 4 (.mov (.tmp 12))])))))) (.seq (.reg [oo 28 (.mov (.tmp 3)), oo 2 (.mov (.tmp 28))]) .ret))))⟩
theorem comp8 : compFn Try.prog 8 = some F8 := by kernel_rfl
def F10 : AFn := ⟨2, 14, [.tmp 4], (.seq (.reg [oo 4 (.mov (.con (i6 0)))]) (.seq (.seq (.reg [oo 5 (.mov (.tmp 1)), oo 6 (.bin .lss (.tmp 5) (.con (i6 2)))]) (.cond (.tmp 6) (.seq (.reg [oo 4 (.mov (.con (i6 0)))]) .ret) .skip)) (.seq (.reg [oo 7 (.mov (.tmp 0)), oo 8 (.call (.con (.fn 36 [] [])) [(.tmp 7)]), oo 9 (.bin .shr (.tmp 8) (.con (.int .u64 1))), oo 10 (.mov (.tmp 1)), oo 11 (.conv .u64 (.tmp 10)), oo 12 (.bin .rem (.tmp 9) (.tmp 11)), oo 13 (.conv .i64 (.tmp 12)), oo 4 (.mov (.tmp 13))]) .ret)))⟩
theorem comp10 : compFn Try.prog 10 = some F10 := by kernel_rfl
def F16 : AFn := ⟨2, 26, [.tmp 4], (.seq (.reg [oo 4 (.mov (.con (.bool false)))]) (.seq (.seq (.reg [oo 6 (.mov (.tmp 0)), oo 7 (.len false (.tmp 6)), oo 8 (.mov (.tmp 1)), oo 9 (.len false (.tmp 8)), oo 10 (.bin .neq (.tmp 7) (.tmp 9))]) (.cond (.tmp 10) (.seq (.reg [oo 4 (.mov (.con (.bool false)))]) .ret) .skip)) (.seq (.seq (.reg [oo 5 (.mov (.con (i6 0)))]) (.block 0 (.loop (.seq (.seq (.reg [oo 11 (.mov (.tmp 5)), oo 12 (.mov (.tmp 0)), oo 13 (.len false (.tmp 12)), oo 14 (.bin .lss (.tmp 11) (.tmp 13))]) (.cond (.tmp 14) .skip (.exit 0))) (.seq (.block 1 (.seq (.dreg 8 [oo 17 (.mov (.tmp 0)), oo 18 (.mov (.tmp 5)), oo 19 (.iaddr (.tmp 17) (.tmp 18) 1 none), oo 20 (.load none (.tmp 19)), oo 21 (.mov (.tmp 1)), oo 22 (.mov (.tmp 5)), oo 23 (.iaddr (.tmp 21) (.tmp 22) 1 none), oo 24 (.load none (.tmp 23)), oo 25 (.bin .neq (.tmp 20) (.tmp 24))]) (.cond (.tmp 25) (.seq (.reg [oo 4 (.mov (.con (.bool false)))]) .ret) .skip))) (.reg [oo 15 (.mov (.tmp 5)), oo 16 (.bin .add (.tmp 15) (.con (i6 1))), oo 5 (.mov (.tmp 16))])))))) (.seq (.reg [oo 4 (.mov (.con (.bool true)))]) .ret))))⟩
theorem comp16 : compFn Try.prog 16 = some F16 := by kernel_rfl
def F19 : AFn := ⟨2, 15, [.tmp 4], (.seq (.reg [oo 4 (.mov (.con (i6 0)))]) (.seq (.seq (.reg [oo 5 (.mov (.tmp 1)), oo 6 (.len false (.tmp 5)), oo 7 (.bin .eql (.tmp 6) (.con (i6 0)))]) (.cond (.tmp 7) (.seq (.reg [oo 4 (.mov (.con (i6 0)))]) .ret) .skip)) (.seq (.reg [oo 8 (.mov (.tmp 1)), oo 9 (.mov (.tmp 0)), oo 10 (.mov (.tmp 1)), oo 11 (.len false (.tmp 10)), oo 12 (.call (.con (.fn 10 [] [])) [(.tmp 9), (.tmp 11)]), oo 13 (.iaddr (.tmp 8) (.tmp 12) 1 none), oo 14 (.load none (.tmp 13)), oo 4 (.mov (.tmp 14))]) .ret)))⟩
theorem comp19 : compFn Try.prog 19 = some F19 := by kernel_rfl
def F21 : AFn := ⟨2, 55, [.cell 4 (some 2)], (.seq (.reg [oo 4 (.box (.con (.agg [i6 0, .nils])))]) (.seq (.reg [oo 8 (.mov (.tmp 0)), oo 9 (.mov (.tmp 0)), oo 10 (.bsl 1 false [i6 0] 3 [(0, (.con (i6 60))), (1, (.con (i6 400))), (2, (.con (i6 2000)))]), oo 11 (.call (.con (.fn 19 [] [])) [(.tmp 9), (.tmp 10)]), oo 12 (.call (.con (.fn 37 [] [])) [(.tmp 8), (.con (i6 1)), (.tmp 11)]), oo 13 (.build [i6 0, .nils] [(0, 1, (.tmp 12))]), oo 5 (.box (.con (.agg [i6 0, .nils]))), on (.store 2 (.tmp 5) (.tmp 13))]) (.seq (.seq (.reg [oo 14 (.mov (.tmp 0)), oo 15 (.mov (.tmp 1)), oo 16 (.call (.con (.fn 37 [] [])) [(.tmp 14), (.con (i6 1)), (.tmp 15)]), oo 6 (.mov (.tmp 16))]) (.block 0 (.loop (.seq (.seq (.reg [oo 17 (.mov (.tmp 6)), oo 18 (.bin .gtr (.tmp 17) (.con (i6 0)))]) (.cond (.tmp 18) .skip (.exit 0))) (.seq (.block 1 (.seq (.reg [oo 21 (.mov (.tmp 0)), oo 22 (.mov (.tmp 0)), oo 23 (.bsl 1 false [i6 0] 2 [(0, (.con (i6 5))), (1, (.con (i6 40)))]), oo 24 (.call (.con (.fn 19 [] [])) [(.tmp 22), (.tmp 23)]), oo 25 (.call (.con (.fn 37 [] [])) [(.tmp 21), (.con (i6 1)), (.tmp 24)]), oo 7 (.mov (.tmp 25))]) (.dreg 26 [oo 26 (.faddr (.tmp 5) 1), oo 27 (.load none (.tmp 26)), oo 28 (.call (.con (.fn 50 [] [])) []), oo 29 (.faddr (.tmp 5) 1), oo 30 (.load none (.tmp 29)), oo 31 (.len false (.tmp 30)), oo 32 (.iaddr (.tmp 28) (.tmp 31) 1 none), oo 33 (.load none (.tmp 32)), oo 34 (.mov (.tmp 0)), oo 35 (.mov (.tmp 0)), oo 36 (.bsl 1 false [i6 0] 2 [(0, (.con (i6 10))), (1, (.con (i6 80)))]), oo 37 (.call (.con (.fn 19 [] [])) [(.tmp 35), (.tmp 36)]), oo 38 (.call (.con (.fn 37 [] [])) [(.tmp 34), (.con (i6 1)), (.tmp 37)]), oo 39 (.mov (.tmp 7)), oo 40 (.mov (.tmp 7)), oo 41 (.mov (.tmp 0)), oo 42 (.mov (.tmp 0)), oo 43 (.call (.con (.fn 10 [] [])) [(.tmp 42), (.con (i6 4))]), oo 44 (.mov (.tmp 0)), oo 45 (.call (.con (.fn 10 [] [])) [(.tmp 44), (.con (i6 30))]), oo 46 (.bsl 1 false [i6 0] 3 [(0, (.con (i6 0))), (1, (.tmp 43)), (2, (.tmp 45))]), oo 47 (.call (.con (.fn 19 [] [])) [(.tmp 41), (.tmp 46)]), oo 48 (.bin .add (.tmp 40) (.tmp 47)), oo 49 (.build [i6 0, i6 0] [(0, 1, (.tmp 39)), (1, 1, (.tmp 48))]), oo 50 (.build [.str (ByteArray.mk #[]), i6 0, i6 0, i6 0] [(0, 1, (.tmp 33)), (1, 1, (.tmp 38)), (2, 2, (.tmp 49))]), oo 51 (.bsl 4 true [.str (ByteArray.mk #[]), i6 0, i6 0, i6 0] 1 [(0, (.tmp 50))]), oo 52 (.app (.tmp 27) (.tmp 51) 4 40 [.str (ByteArray.mk #[]), i6 0, i6 0, i6 0]), oo 53 (.faddr (.tmp 5) 1), on (.store 1 (.tmp 53) (.tmp 52))]))) (.reg [oo 19 (.mov (.tmp 6)), oo 20 (.bin .sub (.tmp 19) (.con (i6 1))), oo 6 (.mov (.tmp 20))])))))) (.seq (.reg [oo 54 (.load (some 2) (.tmp 5)), on (.store 2 (.tmp 4) (.tmp 54))]) .ret))))⟩
theorem comp21 : compFn Try.prog 21 = some F21 := by kernel_rfl
def F22 : AFn := ⟨2, 30, [.tmp 4], (.seq (.reg [oo 3 (.box (.tmp 1)), oo 4 (.mov (.con (.nils)))]) (.seq (.reg [oo 5 (.mov (.con (.nils)))]) (.seq (.seq (.reg [oo 6 (.mov (.con (i6 0)))]) (.block 0 (.loop (.seq (.seq (.reg [oo 7 (.mov (.tmp 6)), oo 8 (.faddr (.tmp 3) 1), oo 9 (.load none (.tmp 8)), oo 10 (.len false (.tmp 9)), oo 11 (.bin .lss (.tmp 7) (.tmp 10))]) (.cond (.tmp 11) .skip (.exit 0))) (.seq (.block 1 (.reg [oo 14 (.mov (.tmp 5)), oo 15 (.load (some 2) (.tmp 3)), oo 16 (.mov (.tmp 5)), oo 17 (.mov (.tmp 6)), oo 18 (.call (.con (.fn 51 [] [])) [(.tmp 15), (.tmp 16), (.tmp 17)]), oo 19 (.mov (.tmp 0)), oo 20 (.mov (.tmp 0)), oo 21 (.call (.con (.fn 10 [] [])) [(.tmp 20), (.con (i6 4))]), oo 22 (.mov (.tmp 0)), oo 23 (.call (.con (.fn 10 [] [])) [(.tmp 22), (.con (i6 40))]), oo 24 (.bsl 1 false [i6 0] 3 [(0, (.con (i6 0))), (1, (.tmp 21)), (2, (.tmp 23))]), oo 25 (.call (.con (.fn 19 [] [])) [(.tmp 19), (.tmp 24)]), oo 26 (.bin .add (.tmp 18) (.tmp 25)), oo 27 (.bsl 1 false [i6 0] 1 [(0, (.tmp 26))]), oo 28 (.app (.tmp 14) (.tmp 27) 1 8 [i6 0]), oo 5 (.mov (.tmp 28))])) (.reg [oo 12 (.mov (.tmp 6)), oo 13 (.bin .add (.tmp 12) (.con (i6 1))), oo 6 (.mov (.tmp 13))])))))) (.seq (.reg [oo 29 (.mov (.tmp 5)), oo 4 (.mov (.tmp 29))]) .ret))))⟩
theorem comp22 : compFn Try.prog 22 = some F22 := by kernel_rfl
def F23 : AFn := ⟨2, 26, [.tmp 4], (.seq (.reg [oo 3 (.box (.tmp 1)), oo 4 (.mov (.con (.nils)))]) (.seq (.reg [oo 5 (.mov (.con (.nils)))]) (.seq (.seq (.reg [oo 6 (.mov (.con (i6 0)))]) (.block 0 (.loop (.seq (.seq (.reg [oo 7 (.mov (.tmp 6)), oo 8 (.faddr (.tmp 3) 1), oo 9 (.load none (.tmp 8)), oo 10 (.len false (.tmp 9)), oo 11 (.bin .lss (.tmp 7) (.tmp 10))]) (.cond (.tmp 11) .skip (.exit 0))) (.seq (.block 1 (.reg [oo 14 (.mov (.tmp 5)), oo 15 (.mov (.tmp 0)), oo 16 (.faddr (.tmp 3) 1), oo 17 (.load none (.tmp 16)), oo 18 (.mov (.tmp 6)), oo 19 (.iaddr (.tmp 17) (.tmp 18) 4 none), oo 20 (.faddr (.tmp 19) 2), oo 21 (.load (some 2) (.tmp 20)), oo 22 (.call (.con (.fn 49 [] [])) [(.tmp 15), (.tmp 21)]), oo 23 (.bsl 1 false [i6 0] 1 [(0, (.tmp 22))]), oo 24 (.app (.tmp 14) (.tmp 23) 1 8 [i6 0]), oo 5 (.mov (.tmp 24))])) (.reg [oo 12 (.mov (.tmp 6)), oo 13 (.bin .add (.tmp 12) (.con (i6 1))), oo 6 (.mov (.tmp 13))])))))) (.seq (.reg [oo 25 (.mov (.tmp 5)), oo 4 (.mov (.tmp 25))]) .ret))))⟩
theorem comp23 : compFn Try.prog 23 = some F23 := by kernel_rfl
def F24 : AFn := ⟨4, 45, [.cell 8 (some 2), .tmp 9], (.seq (.reg [oo 4 (.box (.tmp 0)), oo 8 (.box (.con (.agg [i6 0, i6 0]))), oo 9 (.mov (.con (i6 0)))]) (.seq (.seq (.reg [oo 13 (.load (some 2) (.tmp 4)), oo 14 (.mov (.tmp 1)), oo 15 (.call (.con (.fn 52 [] [])) [(.tmp 13), (.tmp 14)]), oo 10 (.mov (.tmp 15))]) (.seq (.reg [oo 16 (.mov (.tmp 10)), oo 17 (.bin .neq (.tmp 16) (.con (i6 0)))]) (.cond (.tmp 17) (.seq (.reg [oo 18 (.build [i6 0, i6 0] []), oo 19 (.mov (.tmp 10)), on (.store 2 (.tmp 8) (.tmp 18)), oo 9 (.mov (.tmp 19))]) .ret) .skip))) (.seq (.seq (.reg [oo 20 (.load (some 2) (.tmp 4)), oo 21 (.mov (.tmp 2)), oo 22 (.call (.con (.fn 53 [] [])) [(.tmp 20), (.tmp 21)]), oo 23 (.un .not (.tmp 22))]) (.cond (.tmp 23) (.seq (.reg [oo 24 (.build [i6 0, i6 0] []), on (.store 2 (.tmp 8) (.tmp 24)), oo 9 (.mov (.con (i6 7)))]) .ret) .skip)) (.seq (.seq (.reg [oo 25 (.mov (.tmp 3)), oo 26 (.bin .lss (.tmp 25) (.con (i6 0))), oo 27 (.mov (.tmp 26)), ⟨some 28, .mov (.tmp 3), some (27, false)⟩, ⟨some 29, .bin .gtr (.tmp 28) (.con (i6 100000)), some (27, false)⟩, oo 30 (.pick (.tmp 27) (.con (.bool true)) (.tmp 29))]) (.cond (.tmp 30) (.seq (.reg [oo 31 (.build [i6 0, i6 0] []), on (.store 2 (.tmp 8) (.tmp 31)), oo 9 (.mov (.con (i6 2)))]) .ret) .skip)) (.seq (.dreg 8 [oo 32 (.load (some 2) (.tmp 4)), oo 33 (.mov (.tmp 1)), oo 34 (.call (.con (.fn 54 [] [])) [(.tmp 32), (.tmp 33), (.con (i6 0))]), oo 35 (.load (some 2) (.tmp 4)), oo 36 (.mov (.tmp 1)), oo 37 (.call (.con (.fn 54 [] [])) [(.tmp 35), (.tmp 36), (.con (i6 1))]), oo 11 (.box (.con (.agg [.nils, .nils, i6 0, i6 0, i6 0, i6 0, i6 0, i6 0, i6 0, i6 0]))), oo 12 (.box (.con (.agg [.nils, .nils, i6 0, i6 0, i6 0, i6 0, i6 0, i6 0, i6 0, i6 0]))), on (.store 10 (.tmp 11) (.tmp 34)), on (.store 10 (.tmp 12) (.tmp 37))]) (.seq (.reg [oo 38 (.load (some 10) (.tmp 12)), oo 39 (.mkfn 56 [(.tmp 38)] []), oo 40 (.load (some 10) (.tmp 11)), oo 41 (.mkfn 56 [(.tmp 40)] []), oo 42 (.mov (.tmp 2)), oo 43 (.mov (.tmp 3)), oo 44 (.call (.con (.fn 55 [] [])) [(.tmp 39), (.tmp 41), (.tmp 42), (.tmp 43)]), on (.store 2 (.tmp 8) (.tmp 44)), oo 9 (.mov (.con (i6 0)))]) .ret))))))⟩
theorem comp24 : compFn Try.prog 24 = some F24 := by kernel_rfl
def F25 : AFn := ⟨0, 46, [.tmp 0], (.seq (.reg [oo 0 (.mov (.con (.bool false)))]) (.seq (.reg [oo 7 (.build [i6 0, i6 0] [(0, 1, (.con (i6 40))), (1, 1, (.con (i6 50)))]), oo 8 (.build [.str (ByteArray.mk #[]), i6 0, i6 0, i6 0] [(0, 1, (.con (.str (ByteArray.mk #[102, 114, 111, 110, 116])))), (1, 1, (.con (i6 100))), (2, 2, (.tmp 7))]), oo 9 (.build [i6 0, i6 0] [(0, 1, (.con (i6 50))), (1, 1, (.con (i6 60)))]), oo 10 (.build [.str (ByteArray.mk #[]), i6 0, i6 0, i6 0] [(0, 1, (.con (.str (ByteArray.mk #[100, 114, 117, 109, 115])))), (1, 1, (.con (i6 200))), (2, 2, (.tmp 9))]), oo 11 (.bsl 4 true [.str (ByteArray.mk #[]), i6 0, i6 0, i6 0] 2 [(0, (.tmp 8)), (1, (.tmp 10))]), oo 12 (.build [i6 0, .nils] [(0, 1, (.con (i6 1000))), (1, 1, (.tmp 11))]), oo 1 (.box (.con (.agg [i6 0, .nils]))), on (.store 2 (.tmp 1) (.tmp 12))]) (.seq (.reg [oo 14 (.load (some 2) (.tmp 1)), oo 15 (.call (.con (.fn 57 [] [])) [(.tmp 14)]), oo 13 (.mov (.tmp 15)), oo 16 (.ext (.tmp 13) 0), oo 17 (.ext (.tmp 13) 1), oo 2 (.mov (.tmp 16)), oo 3 (.mov (.tmp 17))]) (.seq (.reg [oo 18 (.build [i6 0, i6 0] [(0, 1, (.con (i6 40))), (1, 1, (.con (i6 42)))]), oo 19 (.bsl 2 true [i6 0, i6 0] 1 [(0, (.tmp 18))]), oo 20 (.bsl 1 false [i6 0] 1 [(0, (.con (i6 0)))]), oo 21 (.bsl 1 false [.nils] 1 [(0, (.tmp 20))]), oo 22 (.bsl 1 false [i6 0] 1 [(0, (.con (i6 10)))]), oo 23 (.build [i6 0, i6 0, i6 0, i6 0, i6 0] [(3, 1, (.con (i6 100))), (4, 1, (.con (i6 120)))]), oo 24 (.bsl 5 true [i6 0, i6 0, i6 0, i6 0, i6 0] 1 [(0, (.tmp 23))]), oo 25 (.build [.nils, .nils, .nils, .nils] [(0, 1, (.tmp 19)), (1, 1, (.tmp 21)), (2, 1, (.tmp 22)), (3, 1, (.tmp 24))]), oo 4 (.box (.con (.agg [.nils, .nils, .nils, .nils]))), on (.store 4 (.tmp 4) (.tmp 25))]) (.seq (.reg [oo 27 (.load (some 4) (.tmp 4)), oo 28 (.call (.con (.fn 58 [] [])) [(.tmp 27), (.con (i6 0)), (.con (i6 119))]), oo 26 (.mov (.tmp 28)), oo 29 (.ext (.tmp 26) 0), oo 30 (.ext (.tmp 26) 1), oo 5 (.mov (.tmp 29)), oo 6 (.mov (.tmp 30))]) (.seq (.reg [oo 31 (.mov (.tmp 3)), oo 32 (.bin .eql (.tmp 31) (.con (i6 0))), oo 33 (.mov (.tmp 32)), ⟨some 34, .mov (.tmp 6), some (33, true)⟩, ⟨some 35, .bin .eql (.tmp 34) (.con (i6 0)), some (33, true)⟩, oo 36 (.pick (.tmp 33) (.tmp 35) (.con (.bool false))), oo 37 (.mov (.tmp 36)), ⟨some 38, .mov (.tmp 2), some (37, true)⟩, ⟨some 39, .bsl 1 false [i6 0] 2 [(0, (.con (i6 0))), (1, (.con (i6 3)))], some (37, true)⟩, ⟨some 40, .call (.con (.fn 16 [] [])) [(.tmp 38), (.tmp 39)], some (37, true)⟩, oo 41 (.pick (.tmp 37) (.tmp 40) (.con (.bool false))), oo 42 (.mov (.tmp 41)), ⟨some 43, .mov (.tmp 5), some (42, true)⟩, ⟨some 44, .bin .eql (.tmp 43) (.con (i6 0)), some (42, true)⟩, oo 45 (.pick (.tmp 42) (.tmp 44) (.con (.bool false))), oo 0 (.mov (.tmp 45))]) .ret))))))⟩
theorem comp25 : compFn Try.prog 25 = some F25 := by kernel_rfl
def F26 : AFn := ⟨1, 26, [.tmp 2], (.seq (.reg [oo 1 (.box (.tmp 0)), oo 2 (.mov (.con (i6 0)))]) (.seq (.seq (.reg [oo 6 (.faddr (.tmp 1) 0), oo 7 (.load none (.tmp 6)), oo 8 (.call (.con (.fn 59 [] [])) [(.tmp 7)]), oo 3 (.mov (.tmp 8))]) (.seq (.reg [oo 9 (.mov (.tmp 3)), oo 10 (.bin .neq (.tmp 9) (.con (i6 0)))]) (.cond (.tmp 10) (.seq (.reg [oo 11 (.mov (.tmp 3)), oo 2 (.mov (.tmp 11))]) .ret) .skip))) (.seq (.seq (.reg [oo 12 (.faddr (.tmp 1) 1), oo 13 (.load none (.tmp 12)), oo 14 (.call (.con (.fn 60 [] [])) [(.tmp 13)]), oo 4 (.mov (.tmp 14))]) (.seq (.reg [oo 15 (.mov (.tmp 4)), oo 16 (.bin .neq (.tmp 15) (.con (i6 0)))]) (.cond (.tmp 16) (.seq (.reg [oo 17 (.mov (.tmp 4)), oo 2 (.mov (.tmp 17))]) .ret) .skip))) (.seq (.seq (.reg [oo 18 (.faddr (.tmp 1) 2), oo 19 (.load none (.tmp 18)), oo 20 (.call (.con (.fn 61 [] [])) [(.tmp 19)]), oo 5 (.mov (.tmp 20))]) (.seq (.reg [oo 21 (.mov (.tmp 5)), oo 22 (.bin .neq (.tmp 21) (.con (i6 0)))]) (.cond (.tmp 22) (.seq (.reg [oo 23 (.mov (.tmp 5)), oo 2 (.mov (.tmp 23))]) .ret) .skip))) (.seq (.reg [oo 24 (.load (some 4) (.tmp 1)), oo 25 (.call (.con (.fn 62 [] [])) [(.tmp 24)]), oo 2 (.mov (.tmp 25))]) .ret)))))⟩
theorem comp26 : compFn Try.prog 26 = some F26 := by kernel_rfl
def F27 : AFn := ⟨5, 54, [.tmp 10], (.seq (.reg [oo 5 (.box (.tmp 0)), oo 10 (.mov (.con (i6 0)))]) (.seq (.reg [oo 13 (.mov (.tmp 1)), oo 14 (.mov (.tmp 3)), oo 15 (.iaddr (.tmp 13) (.tmp 14) 1 none), oo 16 (.load none (.tmp 15)), oo 11 (.mov (.tmp 16))]) (.seq (.seq (.reg [oo 17 (.mov (.tmp 3)), oo 12 (.mov (.tmp 17))]) (.block 0 (.loop (.seq (.seq (.reg [oo 18 (.mov (.tmp 12)), oo 19 (.bin .geq (.tmp 18) (.con (i6 0)))]) (.cond (.tmp 19) .skip (.exit 0))) (.seq (.block 1 (.seq (.seq (.reg [oo 22 (.mov (.tmp 12)), oo 23 (.mov (.tmp 3)), oo 24 (.bin .lss (.tmp 22) (.tmp 23))]) (.cond (.tmp 24) (.reg [oo 25 (.mov (.tmp 4)), oo 26 (.faddr (.tmp 5) 1), oo 27 (.load none (.tmp 26)), oo 28 (.mov (.tmp 12)), oo 29 (.iaddr (.tmp 27) (.tmp 28) 4 none), oo 30 (.faddr (.tmp 29) 1), oo 31 (.load none (.tmp 30)), oo 32 (.bin .add (.tmp 25) (.tmp 31)), oo 4 (.mov (.tmp 32))]) .skip)) (.dreg 19 [oo 33 (.mov (.tmp 11)), oo 34 (.mov (.tmp 1)), oo 35 (.mov (.tmp 12)), oo 36 (.iaddr (.tmp 34) (.tmp 35) 1 none), oo 37 (.load none (.tmp 36)), oo 38 (.mov (.tmp 4)), oo 39 (.mx (.con (i6 0)) (.tmp 38)), oo 40 (.mov (.tmp 2)), oo 41 (.mov (.tmp 12)), oo 42 (.iaddr (.tmp 40) (.tmp 41) 1 none), oo 43 (.load none (.tmp 42)), oo 44 (.bin .add (.tmp 39) (.tmp 43)), oo 45 (.bin .sub (.tmp 44) (.con (i6 1))), oo 46 (.mov (.tmp 2)), oo 47 (.mov (.tmp 12)), oo 48 (.iaddr (.tmp 46) (.tmp 47) 1 none), oo 49 (.load none (.tmp 48)), oo 50 (.bin .quo (.tmp 45) (.tmp 49)), oo 51 (.bin .add (.tmp 37) (.tmp 50)), oo 52 (.mx (.tmp 33) (.tmp 51)), oo 11 (.mov (.tmp 52))]))) (.reg [oo 20 (.mov (.tmp 12)), oo 21 (.bin .sub (.tmp 20) (.con (i6 1))), oo 12 (.mov (.tmp 21))])))))) (.seq (.reg [oo 53 (.mov (.tmp 11)), oo 10 (.mov (.tmp 53))]) .ret))))⟩
theorem comp27 : compFn Try.prog 27 = some F27 := by kernel_rfl
def F36 : AFn := ⟨1, 31, [.tmp 2], (.seq (.reg [oo 2 (.mov (.con (.int .u64 0)))]) (.seq (.reg [oo 4 (.mov (.tmp 0)), oo 5 (.mov (.tmp 0)), oo 6 (.nilck (.tmp 5)), oo 7 (.faddr (.tmp 6) 0), oo 8 (.load none (.tmp 7)), oo 9 (.bin .mul (.tmp 8) (.con (.int .u64 15074714826142052245))), oo 10 (.bin .add (.tmp 9) (.con (.int .u64 11400714819323198485))), oo 11 (.nilck (.tmp 4)), oo 12 (.faddr (.tmp 11) 0), on (.store 1 (.tmp 12) (.tmp 10))]) (.seq (.reg [oo 13 (.mov (.tmp 0)), oo 14 (.nilck (.tmp 13)), oo 15 (.faddr (.tmp 14) 0), oo 16 (.load none (.tmp 15)), oo 3 (.mov (.tmp 16))]) (.seq (.reg [oo 17 (.mov (.tmp 3)), oo 18 (.mov (.tmp 3)), oo 19 (.bin .shr (.tmp 18) (.con (.int .u64 32))), oo 20 (.bin .xor (.tmp 17) (.tmp 19)), oo 21 (.bin .mul (.tmp 20) (.con (.int .u64 15760922415973212899))), oo 3 (.mov (.tmp 21))]) (.seq (.reg [oo 22 (.mov (.tmp 3)), oo 23 (.mov (.tmp 3)), oo 24 (.bin .shr (.tmp 23) (.con (.int .u64 32))), oo 25 (.bin .xor (.tmp 22) (.tmp 24)), oo 26 (.bin .mul (.tmp 25) (.con (.int .u64 15760922415973212899))), oo 3 (.mov (.tmp 26))]) (.seq (.reg [oo 27 (.mov (.tmp 3)), oo 28 (.mov (.tmp 3)), oo 29 (.bin .shr (.tmp 28) (.con (.int .u64 32))), oo 30 (.bin .xor (.tmp 27) (.tmp 29)), oo 2 (.mov (.tmp 30))]) .ret))))))⟩
theorem comp36 : compFn Try.prog 36 = some F36 := by kernel_rfl
def F37 : AFn := ⟨3, 15, [.tmp 6], (.seq (.reg [oo 6 (.mov (.con (i6 0)))]) (.seq (.reg [oo 7 (.mov (.tmp 1)), oo 8 (.mov (.tmp 0)), oo 9 (.mov (.tmp 2)), oo 10 (.mov (.tmp 1)), oo 11 (.bin .sub (.tmp 9) (.tmp 10)), oo 12 (.bin .add (.tmp 11) (.con (i6 1))), oo 13 (.call (.con (.fn 10 [] [])) [(.tmp 8), (.tmp 12)]), oo 14 (.bin .add (.tmp 7) (.tmp 13)), oo 6 (.mov (.tmp 14))]) .ret))⟩
theorem comp37 : compFn Try.prog 37 = some F37 := by kernel_rfl
def F49 : AFn := ⟨2, 21, [.tmp 4], (.seq (.reg [oo 3 (.box (.tmp 1)), oo 4 (.mov (.con (i6 0)))]) (.seq (.seq (.reg [oo 5 (.mov (.tmp 0)), oo 6 (.call (.con (.fn 10 [] [])) [(.tmp 5), (.con (i6 4))])]) (.block 0 (.seq (.reg [oo 8 (.bin .eql (.tmp 6) (.con (i6 0))), oo 7 (.mov (.tmp 8))]) (.cond (.tmp 7) (.seq (.reg [oo 9 (.faddr (.tmp 3) 0), oo 10 (.load none (.tmp 9)), oo 4 (.mov (.tmp 10))]) .ret) (.seq (.reg [oo 12 (.bin .eql (.tmp 6) (.con (i6 1))), oo 11 (.mov (.tmp 12))]) (.cond (.tmp 11) (.seq (.reg [oo 13 (.faddr (.tmp 3) 1), oo 14 (.load none (.tmp 13)), oo 4 (.mov (.tmp 14))]) .ret) .skip)))))) (.seq (.reg [oo 15 (.mov (.tmp 0)), oo 16 (.faddr (.tmp 3) 0), oo 17 (.load none (.tmp 16)), oo 18 (.faddr (.tmp 3) 1), oo 19 (.load none (.tmp 18)), oo 20 (.call (.con (.fn 37 [] [])) [(.tmp 15), (.tmp 17), (.tmp 19)]), oo 4 (.mov (.tmp 20))]) .ret)))⟩
theorem comp49 : compFn Try.prog 49 = some F49 := by kernel_rfl
def F50 : AFn := ⟨0, 2, [.tmp 0], (.seq (.reg [oo 0 (.mov (.con (.nils)))]) (.seq (.reg [oo 1 (.bsl 1 false [.str (ByteArray.mk #[])] 8 [(0, (.con (.str (ByteArray.mk #[102, 114, 111, 110, 116])))), (1, (.con (.str (ByteArray.mk #[100, 114, 117, 109, 115])))), (2, (.con (.str (ByteArray.mk #[102, 108, 97, 103, 115])))), (3, (.con (.str (ByteArray.mk #[102, 108, 111, 97, 116])))), (4, (.con (.str (ByteArray.mk #[98, 97, 105, 97, 110, 97, 115])))), (5, (.con (.str (ByteArray.mk #[107, 105, 100, 115])))), (6, (.con (.str (ByteArray.mk #[113, 117, 101, 101, 110, 115])))), (7, (.con (.str (ByteArray.mk #[98, 97, 99, 107]))))]), oo 0 (.mov (.tmp 1))]) .ret))⟩
theorem comp50 : compFn Try.prog 50 = some F50 := by kernel_rfl
def F51 : AFn := ⟨3, 23, [.tmp 6], (.seq (.reg [oo 3 (.box (.tmp 0)), oo 6 (.mov (.con (i6 0)))]) (.seq (.seq (.reg [oo 7 (.mov (.tmp 2)), oo 8 (.bin .eql (.tmp 7) (.con (i6 0)))]) (.cond (.tmp 8) (.seq (.reg [oo 6 (.mov (.con (i6 0)))]) .ret) .skip)) (.seq (.dreg 13 [oo 9 (.load (some 2) (.tmp 3)), oo 10 (.mov (.tmp 1)), oo 11 (.load (some 2) (.tmp 3)), oo 12 (.call (.con (.fn 86 [] [])) [(.tmp 11)]), oo 13 (.mov (.tmp 2)), oo 14 (.bin .sub (.tmp 13) (.con (i6 1))), oo 15 (.faddr (.tmp 3) 1), oo 16 (.load none (.tmp 15)), oo 17 (.mov (.tmp 2)), oo 18 (.bin .sub (.tmp 17) (.con (i6 1))), oo 19 (.iaddr (.tmp 16) (.tmp 18) 4 none), oo 20 (.faddr (.tmp 19) 1), oo 21 (.load none (.tmp 20)), oo 22 (.call (.con (.fn 27 [] [])) [(.tmp 9), (.tmp 10), (.tmp 12), (.tmp 14), (.tmp 21)]), oo 6 (.mov (.tmp 22))]) .ret)))⟩
theorem comp51 : compFn Try.prog 51 = some F51 := by kernel_rfl
def F52 : AFn := ⟨2, 37, [.tmp 4], (.seq (.reg [oo 2 (.box (.tmp 0)), oo 4 (.mov (.con (i6 0)))]) (.seq (.seq (.reg [oo 8 (.load (some 2) (.tmp 2)), oo 9 (.call (.con (.fn 87 [] [])) [(.tmp 8)]), oo 5 (.mov (.tmp 9))]) (.seq (.reg [oo 10 (.mov (.tmp 5)), oo 11 (.bin .neq (.tmp 10) (.con (i6 0)))]) (.cond (.tmp 11) (.seq (.reg [oo 12 (.mov (.tmp 5)), oo 4 (.mov (.tmp 12))]) .ret) .skip))) (.seq (.seq (.reg [oo 13 (.mov (.tmp 1)), oo 14 (.len false (.tmp 13)), oo 15 (.faddr (.tmp 2) 1), oo 16 (.load none (.tmp 15)), oo 17 (.len false (.tmp 16)), oo 18 (.bin .neq (.tmp 14) (.tmp 17))]) (.cond (.tmp 18) (.seq (.reg [oo 4 (.mov (.con (i6 1)))]) .ret) .skip)) (.seq (.seq (.reg [oo 19 (.mov (.tmp 1)), oo 20 (.len false (.tmp 19)), oo 21 (.mov (.con (i6 0)))]) (.block 0 (.loop (.seq (.reg [oo 22 (.bin .lss (.tmp 21) (.tmp 20))]) (.seq (.cond (.tmp 22) .skip (.exit 0)) (.seq (.block 1 (.seq (.reg [oo 23 (.mov (.tmp 21)), oo 24 (.iaddr (.tmp 19) (.tmp 21) 1 none), oo 25 (.load none (.tmp 24)), oo 6 (.mov (.tmp 23)), oo 7 (.mov (.tmp 25))]) (.seq (.seq (.reg [oo 26 (.mov (.tmp 7)), oo 27 (.call (.con (.fn 88 [] [])) [(.tmp 26), (.con (i6 0)), (.con (i6 20000))]), oo 28 (.un .not (.tmp 27))]) (.cond (.tmp 28) (.seq (.reg [oo 4 (.mov (.con (i6 2)))]) .ret) .skip)) (.seq (.dreg 6 [oo 29 (.mov (.tmp 7)), oo 30 (.load (some 2) (.tmp 2)), oo 31 (.mov (.tmp 1)), oo 32 (.mov (.tmp 6)), oo 33 (.slc false 1 (.tmp 31) none (some (.tmp 32))), oo 34 (.call (.con (.fn 89 [] [])) [(.tmp 30), (.tmp 33)]), oo 35 (.bin .lss (.tmp 29) (.tmp 34))]) (.cond (.tmp 35) (.seq (.reg [oo 4 (.mov (.con (i6 12)))]) .ret) .skip))))) (.reg [oo 36 (.bin .add (.tmp 21) (.con (i6 1))), oo 21 (.mov (.tmp 36))]))))))) (.seq (.reg [oo 4 (.mov (.con (i6 0)))]) .ret)))))⟩
theorem comp52 : compFn Try.prog 52 = some F52 := by kernel_rfl
def F53 : AFn := ⟨2, 14, [.tmp 4], (.seq (.reg [oo 2 (.box (.tmp 0)), oo 4 (.mov (.con (.bool false)))]) (.seq (.reg [oo 5 (.mov (.tmp 1)), oo 6 (.bin .geq (.tmp 5) (.con (i6 0))), oo 7 (.mov (.tmp 6)), ⟨some 8, .mov (.tmp 1), some (7, true)⟩, ⟨some 9, .faddr (.tmp 2) 1, some (7, true)⟩, ⟨some 10, .load none (.tmp 9), some (7, true)⟩, ⟨some 11, .len false (.tmp 10), some (7, true)⟩, ⟨some 12, .bin .lss (.tmp 8) (.tmp 11), some (7, true)⟩, oo 13 (.pick (.tmp 7) (.tmp 12) (.con (.bool false))), oo 4 (.mov (.tmp 13))]) .ret))⟩
theorem comp53 : compFn Try.prog 53 = some F53 := by kernel_rfl
def F54 : AFn := ⟨3, 32, [.cell 6 (some 10)], (.seq (.reg [oo 3 (.box (.tmp 0)), oo 6 (.box (.con (.agg [.nils, .nils, i6 0, i6 0, i6 0, i6 0, i6 0, i6 0, i6 0, i6 0])))]) (.seq (.reg [oo 10 (.faddr (.tmp 3) 1), oo 11 (.load none (.tmp 10)), oo 12 (.mov (.tmp 1)), oo 13 (.build [.nils, .nils, i6 0, i6 0, i6 0, i6 0, i6 0, i6 0, i6 0, i6 0] [(0, 1, (.tmp 11)), (1, 1, (.tmp 12))]), oo 7 (.box (.con (.agg [.nils, .nils, i6 0, i6 0, i6 0, i6 0, i6 0, i6 0, i6 0, i6 0]))), on (.store 10 (.tmp 7) (.tmp 13))]) (.seq (.seq (.reg [oo 14 (.faddr (.tmp 3) 1), oo 15 (.load none (.tmp 14)), oo 16 (.len false (.tmp 15)), oo 17 (.mov (.con (i6 0)))]) (.block 0 (.loop (.seq (.reg [oo 18 (.bin .lss (.tmp 17) (.tmp 16))]) (.seq (.cond (.tmp 18) .skip (.exit 0)) (.seq (.block 1 (.seq (.reg [oo 19 (.mov (.tmp 17)), oo 20 (.iaddr (.tmp 15) (.tmp 17) 4 none), oo 21 (.load (some 4) (.tmp 20)), oo 9 (.box (.con (.agg [.str (ByteArray.mk #[]), i6 0, i6 0, i6 0]))), oo 8 (.mov (.tmp 19)), on (.store 4 (.tmp 9) (.tmp 21))]) (.reg [oo 22 (.mov (.tmp 8)), oo 23 (.faddr (.tmp 9) 2), oo 24 (.load (some 2) (.tmp 23)), oo 25 (.call (.con (.fn 90 [] [])) [(.tmp 24)]), oo 26 (.mov (.tmp 2)), oo 27 (.aidx (.tmp 25) (.tmp 26) 2 1 none), oo 28 (.faddr (.tmp 7) 2), oo 29 (.iaddr (.tmp 28) (.tmp 22) 1 (some 8)), on (.store 1 (.tmp 29) (.tmp 27))]))) (.reg [oo 30 (.bin .add (.tmp 17) (.con (i6 1))), oo 17 (.mov (.tmp 30))]))))))) (.seq (.reg [oo 31 (.load (some 10) (.tmp 7)), on (.store 10 (.tmp 6) (.tmp 31))]) .ret))))⟩
theorem comp54 : compFn Try.prog 54 = some F54 := by kernel_rfl
def F55 : AFn := ⟨4, 18, [.cell 8 (some 2)], (.seq (.reg [oo 8 (.box (.con (.agg [i6 0, i6 0])))]) (.seq (.reg [oo 9 (.mov (.tmp 0)), oo 10 (.mov (.tmp 2)), oo 11 (.mov (.tmp 3)), oo 12 (.call (.tmp 9) [(.tmp 10), (.tmp 11)]), oo 13 (.mov (.tmp 1)), oo 14 (.mov (.tmp 2)), oo 15 (.mov (.tmp 3)), oo 16 (.call (.tmp 13) [(.tmp 14), (.tmp 15)]), oo 17 (.build [i6 0, i6 0] [(0, 1, (.tmp 12)), (1, 1, (.tmp 16))]), on (.store 2 (.tmp 8) (.tmp 17))]) .ret))⟩
theorem comp55 : compFn Try.prog 55 = some F55 := by kernel_rfl
def F56 : AFn := ⟨3, 38, [.tmp 6], (.seq (.reg [oo 3 (.box (.tmp 0)), oo 5 (.box (.tmp 2)), oo 6 (.mov (.con (i6 0)))]) (.seq (.reg [oo 10 (.faddr (.tmp 3) 1), oo 11 (.load none (.tmp 10)), oo 12 (.mov (.tmp 1)), oo 13 (.iaddr (.tmp 11) (.tmp 12) 1 none), oo 14 (.load none (.tmp 13)), oo 7 (.box (.con (i6 0))), on (.store 1 (.tmp 7) (.tmp 14))]) (.seq (.seq (.reg [oo 15 (.faddr (.tmp 3) 0), oo 16 (.load none (.tmp 15)), oo 17 (.mov (.tmp 1)), oo 18 (.call (.con (.fn 91 [] [])) [(.tmp 16), (.tmp 17)])]) (.block 0 (.rangeF (.tmp 18) [19, 20] (.seq (.reg [oo 8 (.mov (.tmp 19))]) (.reg [oo 9 (.mov (.tmp 20))])) (.block 1 (.dreg 15 [oo 21 (.load none (.tmp 7)), oo 22 (.faddr (.tmp 3) 1), oo 23 (.load none (.tmp 22)), oo 24 (.mov (.tmp 8)), oo 25 (.iaddr (.tmp 23) (.tmp 24) 1 none), oo 26 (.load none (.tmp 25)), oo 27 (.load none (.tmp 5)), oo 28 (.mov (.tmp 9)), oo 29 (.bin .add (.tmp 27) (.tmp 28)), oo 30 (.mov (.tmp 8)), oo 31 (.faddr (.tmp 3) 2), oo 32 (.iaddr (.tmp 31) (.tmp 30) 1 (some 8)), oo 33 (.load none (.tmp 32)), oo 34 (.call (.con (.fn 92 [] [])) [(.tmp 29), (.tmp 33)]), oo 35 (.bin .add (.tmp 26) (.tmp 34)), oo 36 (.mx (.tmp 21) (.tmp 35)), on (.store 1 (.tmp 7) (.tmp 36))]))))) (.seq (.reg [oo 37 (.load none (.tmp 7)), oo 6 (.mov (.tmp 37))]) .ret))))⟩
theorem comp56 : compFn Try.prog 56 = some F56 := by kernel_rfl
def F57 : AFn := ⟨1, 32, [.tmp 2, .tmp 3], (.seq (.reg [oo 1 (.box (.tmp 0)), oo 2 (.mov (.con (.nils))), oo 3 (.mov (.con (i6 0)))]) (.seq (.seq (.reg [oo 7 (.load (some 2) (.tmp 1)), oo 8 (.call (.con (.fn 87 [] [])) [(.tmp 7)]), oo 4 (.mov (.tmp 8))]) (.seq (.reg [oo 9 (.mov (.tmp 4)), oo 10 (.bin .neq (.tmp 9) (.con (i6 0)))]) (.cond (.tmp 10) (.seq (.reg [oo 11 (.mov (.tmp 4)), oo 2 (.mov (.con (.nils))), oo 3 (.mov (.tmp 11))]) .ret) .skip))) (.seq (.reg [oo 12 (.faddr (.tmp 1) 1), oo 13 (.load none (.tmp 12)), oo 14 (.len false (.tmp 13)), oo 15 (.mksl 1 false [i6 0] 8 (.con (i6 0)) (.tmp 14)), oo 5 (.mov (.tmp 15))]) (.seq (.seq (.reg [oo 16 (.faddr (.tmp 1) 1), oo 17 (.load none (.tmp 16)), oo 18 (.len false (.tmp 17)), oo 19 (.mov (.con (i6 0)))]) (.block 0 (.loop (.seq (.reg [oo 20 (.bin .lss (.tmp 19) (.tmp 18))]) (.seq (.cond (.tmp 20) .skip (.exit 0)) (.seq (.block 1 (.seq (.reg [oo 21 (.load (some 2) (.tmp 1)), oo 22 (.mov (.tmp 5)), oo 23 (.call (.con (.fn 89 [] [])) [(.tmp 21), (.tmp 22)]), oo 6 (.mov (.tmp 23))]) (.seq (.seq (.reg [oo 24 (.mov (.tmp 6)), oo 25 (.bin .gtr (.tmp 24) (.con (i6 20000)))]) (.cond (.tmp 25) (.seq (.reg [oo 2 (.mov (.con (.nils))), oo 3 (.mov (.con (i6 2)))]) .ret) .skip)) (.reg [oo 26 (.mov (.tmp 5)), oo 27 (.mov (.tmp 6)), oo 28 (.bsl 1 false [i6 0] 1 [(0, (.tmp 27))]), oo 29 (.app (.tmp 26) (.tmp 28) 1 8 [i6 0]), oo 5 (.mov (.tmp 29))])))) (.reg [oo 30 (.bin .add (.tmp 19) (.con (i6 1))), oo 19 (.mov (.tmp 30))]))))))) (.seq (.reg [oo 31 (.mov (.tmp 5)), oo 2 (.mov (.tmp 31)), oo 3 (.mov (.con (i6 0)))]) .ret)))))⟩
theorem comp57 : compFn Try.prog 57 = some F57 := by kernel_rfl
def F58 : AFn := ⟨3, 24, [.tmp 6, .tmp 7], (.seq (.reg [oo 3 (.box (.tmp 0)), oo 4 (.box (.tmp 1)), oo 5 (.box (.tmp 2)), oo 6 (.mov (.con (i6 0))), oo 7 (.mov (.con (i6 0)))]) (.seq (.seq (.reg [oo 10 (.load (some 4) (.tmp 3)), oo 11 (.load none (.tmp 4)), oo 12 (.call (.con (.fn 93 [] [])) [(.tmp 10), (.tmp 11)]), oo 8 (.mov (.tmp 12))]) (.seq (.reg [oo 13 (.mov (.tmp 8)), oo 14 (.bin .neq (.tmp 13) (.con (i6 0)))]) (.cond (.tmp 14) (.seq (.reg [oo 15 (.mov (.tmp 8)), oo 6 (.mov (.con (i6 0))), oo 7 (.mov (.tmp 15))]) .ret) .skip))) (.seq (.seq (.reg [oo 16 (.load none (.tmp 5)), oo 17 (.call (.con (.fn 94 [] [])) [(.tmp 16), (.con (i6 0)), (.con (i6 1440))]), oo 18 (.un .not (.tmp 17))]) (.cond (.tmp 18) (.seq (.reg [oo 6 (.mov (.con (i6 0))), oo 7 (.mov (.con (i6 2)))]) .ret) .skip)) (.seq (.reg [oo 19 (.mkfn 95 [] [(.tmp 4), (.tmp 5)]), oo 9 (.mov (.tmp 19))]) (.seq (.reg [oo 20 (.faddr (.tmp 3) 3), oo 21 (.load none (.tmp 20)), oo 22 (.mov (.tmp 9)), oo 23 (.call (.con (.fn 97 [] [])) [(.tmp 21), (.tmp 22)]), oo 6 (.mov (.tmp 23)), oo 7 (.mov (.con (i6 0)))]) .ret)))))⟩
theorem comp58 : compFn Try.prog 58 = some F58 := by kernel_rfl
def F59 : AFn := ⟨1, 25, [.tmp 2], (.seq (.reg [oo 2 (.mov (.con (i6 0)))]) (.seq (.seq (.reg [oo 7 (.mov (.tmp 0)), oo 8 (.len false (.tmp 7)), oo 9 (.call (.con (.fn 98 [] [])) [(.tmp 8), (.con (i6 12))]), oo 3 (.mov (.tmp 9))]) (.seq (.reg [oo 10 (.mov (.tmp 3)), oo 11 (.bin .neq (.tmp 10) (.con (i6 0)))]) (.cond (.tmp 11) (.seq (.reg [oo 12 (.mov (.tmp 3)), oo 2 (.mov (.tmp 12))]) .ret) .skip))) (.seq (.seq (.reg [oo 13 (.mov (.tmp 0)), oo 14 (.len false (.tmp 13)), oo 15 (.mov (.con (i6 0)))]) (.block 0 (.loop (.seq (.reg [oo 16 (.bin .lss (.tmp 15) (.tmp 14))]) (.seq (.cond (.tmp 16) .skip (.exit 0)) (.seq (.block 1 (.seq (.reg [oo 17 (.iaddr (.tmp 13) (.tmp 15) 2 none), oo 18 (.load (some 2) (.tmp 17)), oo 5 (.box (.con (.agg [i6 0, i6 0]))), on (.store 2 (.tmp 5) (.tmp 18))]) (.seq (.reg [oo 19 (.load (some 2) (.tmp 5)), oo 20 (.call (.con (.fn 99 [] [])) [(.tmp 19)]), oo 6 (.mov (.tmp 20))]) (.seq (.reg [oo 21 (.mov (.tmp 6)), oo 22 (.bin .neq (.tmp 21) (.con (i6 0)))]) (.cond (.tmp 22) (.seq (.reg [oo 23 (.mov (.tmp 6)), oo 2 (.mov (.tmp 23))]) .ret) .skip))))) (.reg [oo 24 (.bin .add (.tmp 15) (.con (i6 1))), oo 15 (.mov (.tmp 24))]))))))) (.seq (.reg [oo 2 (.mov (.con (i6 0)))]) .ret))))⟩
theorem comp59 : compFn Try.prog 59 = some F59 := by kernel_rfl
def F60 : AFn := ⟨1, 47, [.tmp 2], (.seq (.reg [oo 2 (.mov (.con (i6 0)))]) (.seq (.seq (.reg [oo 8 (.mov (.tmp 0)), oo 9 (.len false (.tmp 8)), oo 10 (.call (.con (.fn 98 [] [])) [(.tmp 9), (.con (i6 8))]), oo 3 (.mov (.tmp 10))]) (.seq (.reg [oo 11 (.mov (.tmp 3)), oo 12 (.bin .neq (.tmp 11) (.con (i6 0)))]) (.cond (.tmp 12) (.seq (.reg [oo 13 (.mov (.tmp 3)), oo 2 (.mov (.tmp 13))]) .ret) .skip))) (.seq (.seq (.reg [oo 14 (.mov (.tmp 0)), oo 15 (.len false (.tmp 14)), oo 16 (.mov (.con (i6 0)))]) (.block 0 (.loop (.seq (.reg [oo 17 (.bin .lss (.tmp 16) (.tmp 15))]) (.seq (.cond (.tmp 17) .skip (.exit 0)) (.seq (.block 1 (.seq (.reg [oo 18 (.mov (.tmp 16)), oo 19 (.iaddr (.tmp 14) (.tmp 16) 1 none), oo 20 (.load none (.tmp 19)), oo 4 (.mov (.tmp 18)), oo 5 (.mov (.tmp 20))]) (.seq (.seq (.reg [oo 21 (.mov (.tmp 5)), oo 22 (.len false (.tmp 21)), oo 23 (.mov (.tmp 0)), oo 24 (.len false (.tmp 23)), oo 25 (.bin .neq (.tmp 22) (.tmp 24))]) (.cond (.tmp 25) (.seq (.reg [oo 2 (.mov (.con (i6 1)))]) .ret) .skip)) (.seq (.reg [oo 26 (.mov (.tmp 5)), oo 27 (.len false (.tmp 26)), oo 28 (.mov (.con (i6 0)))]) (.block 2 (.loop (.seq (.reg [oo 29 (.bin .lss (.tmp 28) (.tmp 27))]) (.seq (.cond (.tmp 29) .skip (.exit 2)) (.seq (.block 3 (.seq (.reg [oo 30 (.mov (.tmp 28)), oo 31 (.iaddr (.tmp 26) (.tmp 28) 1 none), oo 32 (.load none (.tmp 31)), oo 6 (.mov (.tmp 30)), oo 7 (.mov (.tmp 32))]) (.block 4 (.seq (.reg [oo 34 (.mov (.tmp 7)), oo 35 (.call (.con (.fn 94 [] [])) [(.tmp 34), (.con (i6 0)), (.con (i6 1440))]), oo 36 (.un .not (.tmp 35)), oo 33 (.mov (.tmp 36))]) (.cond (.tmp 33) (.seq (.reg [oo 2 (.mov (.con (i6 2)))]) .ret) (.seq (.reg [oo 38 (.mov (.tmp 4)), oo 39 (.mov (.tmp 6)), oo 40 (.bin .eql (.tmp 38) (.tmp 39)), oo 41 (.mov (.tmp 40)), ⟨some 42, .mov (.tmp 7), some (41, true)⟩, ⟨some 43, .bin .neq (.tmp 42) (.con (i6 0)), some (41, true)⟩, oo 44 (.pick (.tmp 41) (.tmp 43) (.con (.bool false))), oo 37 (.mov (.tmp 44))]) (.cond (.tmp 37) (.seq (.reg [oo 2 (.mov (.con (i6 1)))]) .ret) .skip))))))) (.reg [oo 45 (.bin .add (.tmp 28) (.con (i6 1))), oo 28 (.mov (.tmp 45))])))))))))) (.reg [oo 46 (.bin .add (.tmp 16) (.con (i6 1))), oo 16 (.mov (.tmp 46))]))))))) (.seq (.reg [oo 2 (.mov (.con (i6 0)))]) .ret))))⟩
theorem comp60 : compFn Try.prog 60 = some F60 := by kernel_rfl
def F61 : AFn := ⟨1, 22, [.tmp 2], (.seq (.reg [oo 2 (.mov (.con (i6 0)))]) (.seq (.seq (.reg [oo 6 (.mov (.tmp 0)), oo 7 (.len false (.tmp 6)), oo 8 (.call (.con (.fn 98 [] [])) [(.tmp 7), (.con (i6 8))]), oo 3 (.mov (.tmp 8))]) (.seq (.reg [oo 9 (.mov (.tmp 3)), oo 10 (.bin .neq (.tmp 9) (.con (i6 0)))]) (.cond (.tmp 10) (.seq (.reg [oo 11 (.mov (.tmp 3)), oo 2 (.mov (.tmp 11))]) .ret) .skip))) (.seq (.seq (.reg [oo 12 (.mov (.tmp 0)), oo 13 (.len false (.tmp 12)), oo 14 (.mov (.con (i6 0)))]) (.block 0 (.loop (.seq (.reg [oo 15 (.bin .lss (.tmp 14) (.tmp 13))]) (.seq (.cond (.tmp 15) .skip (.exit 0)) (.seq (.block 1 (.seq (.reg [oo 16 (.iaddr (.tmp 12) (.tmp 14) 1 none), oo 17 (.load none (.tmp 16)), oo 5 (.mov (.tmp 17))]) (.seq (.reg [oo 18 (.mov (.tmp 5)), oo 19 (.call (.con (.fn 94 [] [])) [(.tmp 18), (.con (i6 0)), (.con (i6 1440))]), oo 20 (.un .not (.tmp 19))]) (.cond (.tmp 20) (.seq (.reg [oo 2 (.mov (.con (i6 2)))]) .ret) .skip)))) (.reg [oo 21 (.bin .add (.tmp 14) (.con (i6 1))), oo 14 (.mov (.tmp 21))]))))))) (.seq (.reg [oo 2 (.mov (.con (i6 0)))]) .ret))))⟩
theorem comp61 : compFn Try.prog 61 = some F61 := by kernel_rfl
def F62 : AFn := ⟨1, 45, [.tmp 2], (.seq (.reg [oo 1 (.box (.tmp 0)), oo 2 (.mov (.con (i6 0)))]) (.seq (.seq (.reg [oo 9 (.faddr (.tmp 1) 3), oo 10 (.load none (.tmp 9)), oo 11 (.len false (.tmp 10)), oo 12 (.bin .gtr (.tmp 11) (.con (i6 30)))]) (.cond (.tmp 12) (.seq (.reg [oo 2 (.mov (.con (i6 5)))]) .ret) .skip)) (.seq (.seq (.reg [oo 13 (.faddr (.tmp 1) 3), oo 14 (.load none (.tmp 13)), oo 15 (.len false (.tmp 14)), oo 16 (.mov (.con (i6 0)))]) (.block 0 (.loop (.seq (.reg [oo 17 (.bin .lss (.tmp 16) (.tmp 15))]) (.seq (.cond (.tmp 17) .skip (.exit 0)) (.seq (.block 1 (.seq (.reg [oo 18 (.mov (.tmp 16)), oo 19 (.iaddr (.tmp 14) (.tmp 16) 5 none), oo 20 (.load (some 5) (.tmp 19)), oo 4 (.box (.con (.agg [i6 0, i6 0, i6 0, i6 0, i6 0]))), oo 3 (.mov (.tmp 18)), on (.store 5 (.tmp 4) (.tmp 20))]) (.seq (.seq (.reg [oo 21 (.load (some 4) (.tmp 1)), oo 22 (.load (some 5) (.tmp 4)), oo 23 (.call (.con (.fn 100 [] [])) [(.tmp 21), (.tmp 22)]), oo 5 (.mov (.tmp 23))]) (.seq (.reg [oo 24 (.mov (.tmp 5)), oo 25 (.bin .neq (.tmp 24) (.con (i6 0)))]) (.cond (.tmp 25) (.seq (.reg [oo 26 (.mov (.tmp 5)), oo 2 (.mov (.tmp 26))]) .ret) .skip))) (.seq (.reg [oo 27 (.faddr (.tmp 1) 3), oo 28 (.load none (.tmp 27)), oo 29 (.mov (.tmp 3)), oo 30 (.slc false 5 (.tmp 28) none (some (.tmp 29))), oo 31 (.len false (.tmp 30)), oo 32 (.mov (.con (i6 0)))]) (.block 2 (.loop (.seq (.reg [oo 33 (.bin .lss (.tmp 32) (.tmp 31))]) (.seq (.cond (.tmp 33) .skip (.exit 2)) (.seq (.block 3 (.seq (.reg [oo 34 (.iaddr (.tmp 30) (.tmp 32) 5 none), oo 35 (.load (some 5) (.tmp 34)), oo 7 (.box (.con (.agg [i6 0, i6 0, i6 0, i6 0, i6 0]))), on (.store 5 (.tmp 7) (.tmp 35))]) (.seq (.reg [oo 36 (.load (some 4) (.tmp 1)), oo 37 (.load (some 5) (.tmp 7)), oo 38 (.load (some 5) (.tmp 4)), oo 39 (.call (.con (.fn 101 [] [])) [(.tmp 36), (.tmp 37), (.tmp 38)]), oo 8 (.mov (.tmp 39))]) (.seq (.reg [oo 40 (.mov (.tmp 8)), oo 41 (.bin .neq (.tmp 40) (.con (i6 0)))]) (.cond (.tmp 41) (.seq (.reg [oo 42 (.mov (.tmp 8)), oo 2 (.mov (.tmp 42))]) .ret) .skip))))) (.reg [oo 43 (.bin .add (.tmp 32) (.con (i6 1))), oo 32 (.mov (.tmp 43))])))))))))) (.reg [oo 44 (.bin .add (.tmp 16) (.con (i6 1))), oo 16 (.mov (.tmp 44))]))))))) (.seq (.reg [oo 2 (.mov (.con (i6 0)))]) .ret))))⟩
theorem comp62 : compFn Try.prog 62 = some F62 := by kernel_rfl
def F86 : AFn := ⟨1, 23, [.tmp 2], (.seq (.reg [oo 1 (.box (.tmp 0)), oo 2 (.mov (.con (.nils)))]) (.seq (.reg [oo 3 (.mov (.con (.nils)))]) (.seq (.seq (.reg [oo 4 (.mov (.con (i6 0)))]) (.block 0 (.loop (.seq (.seq (.reg [oo 5 (.mov (.tmp 4)), oo 6 (.faddr (.tmp 1) 1), oo 7 (.load none (.tmp 6)), oo 8 (.len false (.tmp 7)), oo 9 (.bin .lss (.tmp 5) (.tmp 8))]) (.cond (.tmp 9) .skip (.exit 0))) (.seq (.block 1 (.reg [oo 12 (.mov (.tmp 3)), oo 13 (.faddr (.tmp 1) 1), oo 14 (.load none (.tmp 13)), oo 15 (.mov (.tmp 4)), oo 16 (.iaddr (.tmp 14) (.tmp 15) 4 none), oo 17 (.faddr (.tmp 16) 2), oo 18 (.faddr (.tmp 17) 0), oo 19 (.load none (.tmp 18)), oo 20 (.bsl 1 false [i6 0] 1 [(0, (.tmp 19))]), oo 21 (.app (.tmp 12) (.tmp 20) 1 8 [i6 0]), oo 3 (.mov (.tmp 21))])) (.reg [oo 10 (.mov (.tmp 4)), oo 11 (.bin .add (.tmp 10) (.con (i6 1))), oo 4 (.mov (.tmp 11))])))))) (.seq (.reg [oo 22 (.mov (.tmp 3)), oo 2 (.mov (.tmp 22))]) .ret))))⟩
theorem comp86 : compFn Try.prog 86 = some F86 := by kernel_rfl
def F87 : AFn := ⟨1, 39, [.tmp 2], (.seq (.reg [oo 1 (.box (.tmp 0)), oo 2 (.mov (.con (i6 0)))]) (.seq (.block 0 (.seq (.reg [oo 7 (.faddr (.tmp 1) 0), oo 8 (.load none (.tmp 7)), oo 9 (.call (.con (.fn 88 [] [])) [(.tmp 8), (.con (i6 1)), (.con (i6 100000))]), oo 10 (.un .not (.tmp 9)), oo 6 (.mov (.tmp 10))]) (.cond (.tmp 6) (.seq (.reg [oo 2 (.mov (.con (i6 2)))]) .ret) (.seq (.reg [oo 12 (.faddr (.tmp 1) 1), oo 13 (.load none (.tmp 12)), oo 14 (.len false (.tmp 13)), oo 15 (.bin .eql (.tmp 14) (.con (i6 0))), oo 11 (.mov (.tmp 15))]) (.cond (.tmp 11) (.seq (.reg [oo 2 (.mov (.con (i6 4)))]) .ret) (.seq (.reg [oo 17 (.faddr (.tmp 1) 1), oo 18 (.load none (.tmp 17)), oo 19 (.len false (.tmp 18)), oo 20 (.bin .gtr (.tmp 19) (.con (i6 8))), oo 16 (.mov (.tmp 20))]) (.cond (.tmp 16) (.seq (.reg [oo 2 (.mov (.con (i6 5)))]) .ret) .skip))))))) (.seq (.seq (.reg [oo 21 (.faddr (.tmp 1) 1), oo 22 (.load none (.tmp 21)), oo 23 (.len false (.tmp 22)), oo 24 (.mov (.con (i6 0)))]) (.block 1 (.loop (.seq (.reg [oo 25 (.bin .lss (.tmp 24) (.tmp 23))]) (.seq (.cond (.tmp 25) .skip (.exit 1)) (.seq (.block 2 (.seq (.reg [oo 26 (.mov (.tmp 24)), oo 27 (.iaddr (.tmp 22) (.tmp 24) 4 none), oo 28 (.load (some 4) (.tmp 27)), oo 4 (.box (.con (.agg [.str (ByteArray.mk #[]), i6 0, i6 0, i6 0]))), oo 3 (.mov (.tmp 26)), on (.store 4 (.tmp 4) (.tmp 28))]) (.seq (.dreg 5 [oo 29 (.load (some 4) (.tmp 4)), oo 30 (.faddr (.tmp 1) 1), oo 31 (.load none (.tmp 30)), oo 32 (.mov (.tmp 3)), oo 33 (.slc false 4 (.tmp 31) none (some (.tmp 32))), oo 34 (.call (.con (.fn 120 [] [])) [(.tmp 29), (.tmp 33)]), oo 5 (.mov (.tmp 34))]) (.seq (.reg [oo 35 (.mov (.tmp 5)), oo 36 (.bin .neq (.tmp 35) (.con (i6 0)))]) (.cond (.tmp 36) (.seq (.reg [oo 37 (.mov (.tmp 5)), oo 2 (.mov (.tmp 37))]) .ret) .skip))))) (.reg [oo 38 (.bin .add (.tmp 24) (.con (i6 1))), oo 24 (.mov (.tmp 38))]))))))) (.seq (.reg [oo 2 (.mov (.con (i6 0)))]) .ret))))⟩
theorem comp87 : compFn Try.prog 87 = some F87 := by kernel_rfl
def F88 : AFn := ⟨3, 15, [.tmp 6], (.seq (.reg [oo 6 (.mov (.con (.bool false)))]) (.seq (.reg [oo 7 (.mov (.tmp 0)), oo 8 (.mov (.tmp 1)), oo 9 (.bin .geq (.tmp 7) (.tmp 8)), oo 10 (.mov (.tmp 9)), ⟨some 11, .mov (.tmp 0), some (10, true)⟩, ⟨some 12, .mov (.tmp 2), some (10, true)⟩, ⟨some 13, .bin .leq (.tmp 11) (.tmp 12), some (10, true)⟩, oo 14 (.pick (.tmp 10) (.tmp 13) (.con (.bool false))), oo 6 (.mov (.tmp 14))]) .ret))⟩
theorem comp88 : compFn Try.prog 88 = some F88 := by kernel_rfl
def F89 : AFn := ⟨2, 15, [.tmp 4], (.seq (.reg [oo 2 (.box (.tmp 0)), oo 4 (.mov (.con (i6 0)))]) (.seq (.seq (.reg [oo 5 (.mov (.tmp 1)), oo 6 (.len false (.tmp 5)), oo 7 (.bin .eql (.tmp 6) (.con (i6 0)))]) (.cond (.tmp 7) (.seq (.reg [oo 4 (.mov (.con (i6 0)))]) .ret) .skip)) (.seq (.reg [oo 8 (.load (some 2) (.tmp 2)), oo 9 (.mov (.tmp 1)), oo 10 (.call (.con (.fn 54 [] [])) [(.tmp 8), (.tmp 9), (.con (i6 0))]), oo 11 (.mov (.tmp 1)), oo 12 (.len false (.tmp 11)), oo 13 (.bin .sub (.tmp 12) (.con (i6 1))), oo 14 (.call (.con (.fn 121 [] [])) [(.tmp 10), (.tmp 13), (.con (i6 0))]), oo 4 (.mov (.tmp 14))]) .ret)))⟩
theorem comp89 : compFn Try.prog 89 = some F89 := by kernel_rfl
def F90 : AFn := ⟨1, 8, [.cell 2 (some 2)], (.seq (.reg [oo 1 (.box (.tmp 0)), oo 2 (.box (.con (.agg [i6 0, i6 0])))]) (.seq (.reg [oo 3 (.faddr (.tmp 1) 0), oo 4 (.load none (.tmp 3)), oo 5 (.faddr (.tmp 1) 1), oo 6 (.load none (.tmp 5)), oo 7 (.build [i6 0, i6 0] [(0, 1, (.tmp 4)), (1, 1, (.tmp 6))]), on (.store 2 (.tmp 2) (.tmp 7))]) .ret))⟩
theorem comp90 : compFn Try.prog 90 = some F90 := by kernel_rfl
def F91 : AFn := ⟨2, 6, [.tmp 4], (.seq (.reg [oo 2 (.box (.tmp 0)), oo 3 (.box (.tmp 1)), oo 4 (.mov (.con (.nilf)))]) (.seq (.reg [oo 5 (.mkfn 122 [] [(.tmp 3), (.tmp 2)]), oo 4 (.mov (.tmp 5))]) .ret))⟩
theorem comp91 : compFn Try.prog 91 = some F91 := by kernel_rfl
def F92 : AFn := ⟨2, 11, [.tmp 4], (.seq (.reg [oo 4 (.mov (.con (i6 0)))]) (.seq (.reg [oo 5 (.mov (.tmp 0)), oo 6 (.mov (.tmp 1)), oo 7 (.bin .add (.tmp 5) (.tmp 6)), oo 8 (.bin .sub (.tmp 7) (.con (i6 1))), oo 9 (.mov (.tmp 1)), oo 10 (.bin .quo (.tmp 8) (.tmp 9)), oo 4 (.mov (.tmp 10))]) .ret))⟩
theorem comp92 : compFn Try.prog 92 = some F92 := by kernel_rfl
def F93 : AFn := ⟨2, 17, [.tmp 4], (.seq (.reg [oo 2 (.box (.tmp 0)), oo 4 (.mov (.con (i6 0)))]) (.seq (.seq (.reg [oo 6 (.load (some 4) (.tmp 2)), oo 7 (.call (.con (.fn 26 [] [])) [(.tmp 6)]), oo 5 (.mov (.tmp 7))]) (.seq (.reg [oo 8 (.mov (.tmp 5)), oo 9 (.bin .neq (.tmp 8) (.con (i6 0)))]) (.cond (.tmp 9) (.seq (.reg [oo 10 (.mov (.tmp 5)), oo 4 (.mov (.tmp 10))]) .ret) .skip))) (.seq (.seq (.reg [oo 11 (.mov (.tmp 1)), oo 12 (.faddr (.tmp 2) 0), oo 13 (.load none (.tmp 12)), oo 14 (.len false (.tmp 13)), oo 15 (.call (.con (.fn 123 [] [])) [(.tmp 11), (.tmp 14)]), oo 16 (.un .not (.tmp 15))]) (.cond (.tmp 16) (.seq (.reg [oo 4 (.mov (.con (i6 7)))]) .ret) .skip)) (.seq (.reg [oo 4 (.mov (.con (i6 0)))]) .ret))))⟩
theorem comp93 : compFn Try.prog 93 = some F93 := by kernel_rfl
def F94 : AFn := ⟨3, 15, [.tmp 6], (.seq (.reg [oo 6 (.mov (.con (.bool false)))]) (.seq (.reg [oo 7 (.mov (.tmp 0)), oo 8 (.mov (.tmp 1)), oo 9 (.bin .geq (.tmp 7) (.tmp 8)), oo 10 (.mov (.tmp 9)), ⟨some 11, .mov (.tmp 0), some (10, true)⟩, ⟨some 12, .mov (.tmp 2), some (10, true)⟩, ⟨some 13, .bin .leq (.tmp 11) (.tmp 12), some (10, true)⟩, oo 14 (.pick (.tmp 10) (.tmp 13) (.con (.bool false))), oo 6 (.mov (.tmp 14))]) .ret))⟩
theorem comp94 : compFn Try.prog 94 = some F94 := by kernel_rfl
def F95 : AFn := ⟨1, 14, [.tmp 4], (.seq (.reg [oo 3 (.box (.tmp 0)), oo 4 (.mov (.con (.bool false)))]) (.seq (.reg [oo 5 (.faddr (.tmp 3) 0), oo 6 (.load none (.tmp 5)), oo 7 (.load none (.tmp 1)), oo 8 (.bin .eql (.tmp 6) (.tmp 7)), oo 9 (.mov (.tmp 8)), ⟨some 10, .load (some 5) (.tmp 3), some (9, true)⟩, ⟨some 11, .load none (.tmp 2), some (9, true)⟩, ⟨some 12, .call (.con (.fn 96 [] [])) [(.tmp 10), (.tmp 11)], some (9, true)⟩, oo 13 (.pick (.tmp 9) (.tmp 12) (.con (.bool false))), oo 4 (.mov (.tmp 13))]) .ret))⟩
theorem comp95 : compFn Try.prog 95 = some F95 := by kernel_rfl
def F96 : AFn := ⟨2, 15, [.tmp 4], (.seq (.reg [oo 2 (.box (.tmp 0)), oo 4 (.mov (.con (.bool false)))]) (.seq (.reg [oo 5 (.faddr (.tmp 2) 3), oo 6 (.load none (.tmp 5)), oo 7 (.mov (.tmp 1)), oo 8 (.bin .leq (.tmp 6) (.tmp 7)), oo 9 (.mov (.tmp 8)), ⟨some 10, .mov (.tmp 1), some (9, true)⟩, ⟨some 11, .faddr (.tmp 2) 4, some (9, true)⟩, ⟨some 12, .load none (.tmp 11), some (9, true)⟩, ⟨some 13, .bin .lss (.tmp 10) (.tmp 12), some (9, true)⟩, oo 14 (.pick (.tmp 9) (.tmp 13) (.con (.bool false))), oo 4 (.mov (.tmp 14))]) .ret))⟩
theorem comp96 : compFn Try.prog 96 = some F96 := by kernel_rfl
def F97 : AFn := ⟨2, 19, [.tmp 4], (.seq (.reg [oo 4 (.mov (.con (i6 0)))]) (.seq (.seq (.reg [oo 6 (.mov (.tmp 0)), oo 7 (.len false (.tmp 6)), oo 8 (.mov (.con (i6 0)))]) (.block 0 (.loop (.seq (.reg [oo 9 (.bin .lss (.tmp 8) (.tmp 7))]) (.seq (.cond (.tmp 9) .skip (.exit 0)) (.seq (.block 1 (.seq (.reg [oo 10 (.mov (.tmp 8)), oo 5 (.mov (.tmp 10))]) (.seq (.reg [oo 11 (.mov (.tmp 1)), oo 12 (.mov (.tmp 0)), oo 13 (.mov (.tmp 5)), oo 14 (.iaddr (.tmp 12) (.tmp 13) 5 none), oo 15 (.load (some 5) (.tmp 14)), oo 16 (.call (.tmp 11) [(.tmp 15)])]) (.cond (.tmp 16) (.seq (.reg [oo 17 (.mov (.tmp 5)), oo 4 (.mov (.tmp 17))]) .ret) .skip)))) (.reg [oo 18 (.bin .add (.tmp 8) (.con (i6 1))), oo 8 (.mov (.tmp 18))]))))))) (.seq (.reg [oo 4 (.mov (.con (i6 (-1))))]) .ret)))⟩
theorem comp97 : compFn Try.prog 97 = some F97 := by kernel_rfl
def F98 : AFn := ⟨2, 12, [.tmp 4], (.seq (.reg [oo 4 (.mov (.con (i6 0)))]) (.seq (.block 0 (.seq (.reg [oo 6 (.mov (.tmp 0)), oo 7 (.bin .eql (.tmp 6) (.con (i6 0))), oo 5 (.mov (.tmp 7))]) (.cond (.tmp 5) (.seq (.reg [oo 4 (.mov (.con (i6 4)))]) .ret) (.seq (.reg [oo 9 (.mov (.tmp 0)), oo 10 (.mov (.tmp 1)), oo 11 (.bin .gtr (.tmp 9) (.tmp 10)), oo 8 (.mov (.tmp 11))]) (.cond (.tmp 8) (.seq (.reg [oo 4 (.mov (.con (i6 5)))]) .ret) .skip))))) (.seq (.reg [oo 4 (.mov (.con (i6 0)))]) .ret)))⟩
theorem comp98 : compFn Try.prog 98 = some F98 := by kernel_rfl
def F99 : AFn := ⟨1, 20, [.tmp 2], (.seq (.reg [oo 1 (.box (.tmp 0)), oo 2 (.mov (.con (i6 0)))]) (.seq (.block 0 (.seq (.reg [oo 4 (.faddr (.tmp 1) 0), oo 5 (.load none (.tmp 4)), oo 6 (.call (.con (.fn 94 [] [])) [(.tmp 5), (.con (i6 1)), (.con (i6 300))]), oo 7 (.un .not (.tmp 6)), oo 8 (.mov (.tmp 7)), ⟨some 9, .faddr (.tmp 1) 1, some (8, false)⟩, ⟨some 10, .load none (.tmp 9), some (8, false)⟩, ⟨some 11, .call (.con (.fn 94 [] [])) [(.tmp 10), (.con (i6 1)), (.con (i6 300))], some (8, false)⟩, ⟨some 12, .un .not (.tmp 11), some (8, false)⟩, oo 13 (.pick (.tmp 8) (.con (.bool true)) (.tmp 12)), oo 3 (.mov (.tmp 13))]) (.cond (.tmp 3) (.seq (.reg [oo 2 (.mov (.con (i6 2)))]) .ret) (.seq (.reg [oo 15 (.faddr (.tmp 1) 0), oo 16 (.load none (.tmp 15)), oo 17 (.faddr (.tmp 1) 1), oo 18 (.load none (.tmp 17)), oo 19 (.bin .gtr (.tmp 16) (.tmp 18)), oo 14 (.mov (.tmp 19))]) (.cond (.tmp 14) (.seq (.reg [oo 2 (.mov (.con (i6 9)))]) .ret) .skip))))) (.seq (.reg [oo 2 (.mov (.con (i6 0)))]) .ret)))⟩
theorem comp99 : compFn Try.prog 99 = some F99 := by kernel_rfl
def F100 : AFn := ⟨2, 48, [.tmp 4], (.seq (.reg [oo 2 (.box (.tmp 0)), oo 3 (.box (.tmp 1)), oo 4 (.mov (.con (i6 0)))]) (.seq (.block 0 (.seq (.reg [oo 6 (.faddr (.tmp 3) 0), oo 7 (.load none (.tmp 6)), oo 8 (.faddr (.tmp 2) 0), oo 9 (.load none (.tmp 8)), oo 10 (.len false (.tmp 9)), oo 11 (.call (.con (.fn 123 [] [])) [(.tmp 7), (.tmp 10)]), oo 12 (.un .not (.tmp 11)), oo 13 (.mov (.tmp 12)), ⟨some 14, .faddr (.tmp 3) 1, some (13, false)⟩, ⟨some 15, .load none (.tmp 14), some (13, false)⟩, ⟨some 16, .faddr (.tmp 2) 1, some (13, false)⟩, ⟨some 17, .load none (.tmp 16), some (13, false)⟩, ⟨some 18, .len false (.tmp 17), some (13, false)⟩, ⟨some 19, .call (.con (.fn 123 [] [])) [(.tmp 15), (.tmp 18)], some (13, false)⟩, ⟨some 20, .un .not (.tmp 19), some (13, false)⟩, oo 21 (.pick (.tmp 13) (.con (.bool true)) (.tmp 20)), oo 22 (.mov (.tmp 21)), ⟨some 23, .faddr (.tmp 3) 2, some (22, false)⟩, ⟨some 24, .load none (.tmp 23), some (22, false)⟩, ⟨some 25, .faddr (.tmp 2) 2, some (22, false)⟩, ⟨some 26, .load none (.tmp 25), some (22, false)⟩, ⟨some 27, .len false (.tmp 26), some (22, false)⟩, ⟨some 28, .call (.con (.fn 123 [] [])) [(.tmp 24), (.tmp 27)], some (22, false)⟩, ⟨some 29, .un .not (.tmp 28), some (22, false)⟩, oo 30 (.pick (.tmp 22) (.con (.bool true)) (.tmp 29)), oo 5 (.mov (.tmp 30))]) (.cond (.tmp 5) (.seq (.reg [oo 4 (.mov (.con (i6 7)))]) .ret) (.seq (.reg [oo 32 (.faddr (.tmp 3) 3), oo 33 (.load none (.tmp 32)), oo 34 (.call (.con (.fn 94 [] [])) [(.tmp 33), (.con (i6 0)), (.con (i6 1440))]), oo 35 (.un .not (.tmp 34)), oo 36 (.mov (.tmp 35)), ⟨some 37, .faddr (.tmp 3) 4, some (36, false)⟩, ⟨some 38, .load none (.tmp 37), some (36, false)⟩, ⟨some 39, .call (.con (.fn 94 [] [])) [(.tmp 38), (.con (i6 0)), (.con (i6 1440))], some (36, false)⟩, ⟨some 40, .un .not (.tmp 39), some (36, false)⟩, oo 41 (.pick (.tmp 36) (.con (.bool true)) (.tmp 40)), oo 31 (.mov (.tmp 41))]) (.cond (.tmp 31) (.seq (.reg [oo 4 (.mov (.con (i6 2)))]) .ret) (.seq (.reg [oo 43 (.faddr (.tmp 3) 3), oo 44 (.load none (.tmp 43)), oo 45 (.faddr (.tmp 3) 4), oo 46 (.load none (.tmp 45)), oo 47 (.bin .geq (.tmp 44) (.tmp 46)), oo 42 (.mov (.tmp 47))]) (.cond (.tmp 42) (.seq (.reg [oo 4 (.mov (.con (i6 9)))]) .ret) .skip))))))) (.seq (.reg [oo 4 (.mov (.con (i6 0)))]) .ret)))⟩
theorem comp100 : compFn Try.prog 100 = some F100 := by kernel_rfl
def F101 : AFn := ⟨3, 49, [.tmp 6], (.seq (.reg [oo 3 (.box (.tmp 0)), oo 4 (.box (.tmp 1)), oo 5 (.box (.tmp 2)), oo 6 (.mov (.con (i6 0)))]) (.seq (.seq (.reg [oo 10 (.faddr (.tmp 4) 0), oo 11 (.load none (.tmp 10)), oo 12 (.faddr (.tmp 5) 0), oo 13 (.load none (.tmp 12)), oo 14 (.bin .neq (.tmp 11) (.tmp 13))]) (.cond (.tmp 14) (.seq (.reg [oo 6 (.mov (.con (i6 0)))]) .ret) .skip)) (.seq (.reg [oo 16 (.load (some 5) (.tmp 4)), oo 17 (.load (some 5) (.tmp 5)), oo 18 (.call (.con (.fn 124 [] [])) [(.tmp 16), (.tmp 17)]), oo 15 (.mov (.tmp 18)), oo 19 (.ext (.tmp 15) 0), oo 20 (.ext (.tmp 15) 1), oo 7 (.box (.con (.agg [i6 0, i6 0, i6 0, i6 0, i6 0]))), oo 8 (.box (.con (.agg [i6 0, i6 0, i6 0, i6 0, i6 0]))), on (.store 5 (.tmp 7) (.tmp 19)), on (.store 5 (.tmp 8) (.tmp 20))]) (.seq (.reg [oo 21 (.load (some 4) (.tmp 3)), oo 22 (.load (some 5) (.tmp 7)), oo 23 (.load (some 5) (.tmp 8)), oo 24 (.call (.con (.fn 125 [] [])) [(.tmp 21), (.tmp 22), (.tmp 23)]), oo 9 (.mov (.tmp 24))]) (.seq (.seq (.reg [oo 25 (.faddr (.tmp 7) 2), oo 26 (.load none (.tmp 25)), oo 27 (.faddr (.tmp 8) 2), oo 28 (.load none (.tmp 27)), oo 29 (.bin .neq (.tmp 26) (.tmp 28))]) (.cond (.tmp 29) (.reg [oo 30 (.mov (.tmp 9)), oo 31 (.faddr (.tmp 3) 2), oo 32 (.load none (.tmp 31)), oo 33 (.faddr (.tmp 8) 2), oo 34 (.load none (.tmp 33)), oo 35 (.iaddr (.tmp 32) (.tmp 34) 1 none), oo 36 (.load none (.tmp 35)), oo 37 (.bin .add (.tmp 30) (.tmp 36)), oo 9 (.mov (.tmp 37))]) .skip)) (.seq (.block 0 (.seq (.reg [oo 39 (.load (some 5) (.tmp 7)), oo 40 (.load (some 5) (.tmp 8)), oo 41 (.call (.con (.fn 126 [] [])) [(.tmp 39), (.tmp 40)]), oo 42 (.bin .lss (.tmp 41) (.con (i6 0))), oo 38 (.mov (.tmp 42))]) (.cond (.tmp 38) (.seq (.reg [oo 6 (.mov (.con (i6 10)))]) .ret) (.seq (.reg [oo 44 (.load (some 5) (.tmp 7)), oo 45 (.load (some 5) (.tmp 8)), oo 46 (.call (.con (.fn 126 [] [])) [(.tmp 44), (.tmp 45)]), oo 47 (.mov (.tmp 9)), oo 48 (.bin .lss (.tmp 46) (.tmp 47)), oo 43 (.mov (.tmp 48))]) (.cond (.tmp 43) (.seq (.reg [oo 6 (.mov (.con (i6 12)))]) .ret) .skip))))) (.seq (.reg [oo 6 (.mov (.con (i6 0)))]) .ret)))))))⟩
theorem comp101 : compFn Try.prog 101 = some F101 := by kernel_rfl
def F120 : AFn := ⟨2, 49, [.tmp 4], (.seq (.reg [oo 2 (.box (.tmp 0)), oo 4 (.mov (.con (i6 0)))]) (.seq (.seq (.reg [oo 7 (.faddr (.tmp 2) 0), oo 8 (.load none (.tmp 7)), oo 9 (.call (.con (.fn 131 [] [])) [(.tmp 8)]), oo 10 (.un .not (.tmp 9))]) (.cond (.tmp 10) (.seq (.reg [oo 4 (.mov (.con (i6 1)))]) .ret) .skip)) (.seq (.seq (.reg [oo 11 (.mov (.tmp 1)), oo 12 (.len false (.tmp 11)), oo 13 (.mov (.con (i6 0)))]) (.block 0 (.loop (.seq (.reg [oo 14 (.bin .lss (.tmp 13) (.tmp 12))]) (.seq (.cond (.tmp 14) .skip (.exit 0)) (.seq (.block 1 (.seq (.reg [oo 15 (.iaddr (.tmp 11) (.tmp 13) 4 none), oo 16 (.load (some 4) (.tmp 15)), oo 6 (.box (.con (.agg [.str (ByteArray.mk #[]), i6 0, i6 0, i6 0]))), on (.store 4 (.tmp 6) (.tmp 16))]) (.seq (.reg [oo 17 (.faddr (.tmp 6) 0), oo 18 (.load none (.tmp 17)), oo 19 (.faddr (.tmp 2) 0), oo 20 (.load none (.tmp 19)), oo 21 (.bin .eql (.tmp 18) (.tmp 20))]) (.cond (.tmp 21) (.seq (.reg [oo 4 (.mov (.con (i6 8)))]) .ret) .skip)))) (.reg [oo 22 (.bin .add (.tmp 13) (.con (i6 1))), oo 13 (.mov (.tmp 22))]))))))) (.seq (.block 2 (.seq (.reg [oo 24 (.faddr (.tmp 2) 1), oo 25 (.load none (.tmp 24)), oo 26 (.call (.con (.fn 88 [] [])) [(.tmp 25), (.con (i6 1)), (.con (i6 5000))]), oo 27 (.un .not (.tmp 26)), oo 23 (.mov (.tmp 27))]) (.cond (.tmp 23) (.seq (.reg [oo 4 (.mov (.con (i6 2)))]) .ret) (.seq (.reg [oo 29 (.faddr (.tmp 2) 2), oo 30 (.faddr (.tmp 29) 0), oo 31 (.load none (.tmp 30)), oo 32 (.call (.con (.fn 88 [] [])) [(.tmp 31), (.con (i6 1)), (.con (i6 200))]), oo 33 (.un .not (.tmp 32)), oo 34 (.mov (.tmp 33)), ⟨some 35, .faddr (.tmp 2) 2, some (34, false)⟩, ⟨some 36, .faddr (.tmp 35) 1, some (34, false)⟩, ⟨some 37, .load none (.tmp 36), some (34, false)⟩, ⟨some 38, .call (.con (.fn 88 [] [])) [(.tmp 37), (.con (i6 1)), (.con (i6 200))], some (34, false)⟩, ⟨some 39, .un .not (.tmp 38), some (34, false)⟩, oo 40 (.pick (.tmp 34) (.con (.bool true)) (.tmp 39)), oo 28 (.mov (.tmp 40))]) (.cond (.tmp 28) (.seq (.reg [oo 4 (.mov (.con (i6 2)))]) .ret) (.seq (.reg [oo 42 (.faddr (.tmp 2) 2), oo 43 (.faddr (.tmp 42) 0), oo 44 (.load none (.tmp 43)), oo 45 (.faddr (.tmp 2) 2), oo 46 (.faddr (.tmp 45) 1), oo 47 (.load none (.tmp 46)), oo 48 (.bin .gtr (.tmp 44) (.tmp 47)), oo 41 (.mov (.tmp 48))]) (.cond (.tmp 41) (.seq (.reg [oo 4 (.mov (.con (i6 9)))]) .ret) .skip))))))) (.seq (.reg [oo 4 (.mov (.con (i6 0)))]) .ret)))))⟩
theorem comp120 : compFn Try.prog 120 = some F120 := by kernel_rfl
def F121 : AFn := ⟨3, 18, [.tmp 6], (.seq (.reg [oo 3 (.box (.tmp 0)), oo 6 (.mov (.con (i6 0)))]) (.seq (.dreg 10 [oo 7 (.load (some 10) (.tmp 3)), oo 8 (.mov (.tmp 1)), oo 9 (.mov (.tmp 2)), oo 10 (.faddr (.tmp 3) 0), oo 11 (.load none (.tmp 10)), oo 12 (.mov (.tmp 1)), oo 13 (.iaddr (.tmp 11) (.tmp 12) 4 none), oo 14 (.faddr (.tmp 13) 1), oo 15 (.load none (.tmp 14)), oo 16 (.bin .add (.tmp 9) (.tmp 15)), oo 17 (.call (.con (.fn 56 [] [])) [(.tmp 7), (.tmp 8), (.tmp 16)]), oo 6 (.mov (.tmp 17))]) .ret))⟩
theorem comp121 : compFn Try.prog 121 = some F121 := by kernel_rfl
def F122 : AFn := ⟨1, 26, [], (.seq (.reg [oo 4 (.mov (.con (i6 0)))]) (.seq (.reg [oo 6 (.load none (.tmp 1)), oo 5 (.mov (.tmp 6))]) (.block 0 (.loop (.seq (.seq (.reg [oo 7 (.mov (.tmp 5)), oo 8 (.bin .geq (.tmp 7) (.con (i6 0)))]) (.cond (.tmp 8) .skip (.exit 0))) (.seq (.block 1 (.seq (.seq (.reg [oo 11 (.mov (.tmp 5)), oo 12 (.load none (.tmp 1)), oo 13 (.bin .lss (.tmp 11) (.tmp 12))]) (.cond (.tmp 13) (.reg [oo 14 (.mov (.tmp 4)), oo 15 (.load none (.tmp 2)), oo 16 (.mov (.tmp 5)), oo 17 (.iaddr (.tmp 15) (.tmp 16) 4 none), oo 18 (.faddr (.tmp 17) 1), oo 19 (.load none (.tmp 18)), oo 20 (.bin .add (.tmp 14) (.tmp 19)), oo 4 (.mov (.tmp 20))]) .skip)) (.seq (.reg [oo 21 (.mov (.tmp 0)), oo 22 (.mov (.tmp 5)), oo 23 (.mov (.tmp 4)), oo 24 (.call (.tmp 21) [(.tmp 22), (.tmp 23)]), oo 25 (.un .not (.tmp 24))]) (.cond (.tmp 25) .ret .skip)))) (.reg [oo 9 (.mov (.tmp 5)), oo 10 (.bin .sub (.tmp 9) (.con (i6 1))), oo 5 (.mov (.tmp 10))])))))))⟩
theorem comp122 : compFn Try.prog 122 = some F122 := by kernel_rfl
def F123 : AFn := ⟨2, 9, [.tmp 4], (.seq (.reg [oo 4 (.mov (.con (.bool false)))]) (.seq (.reg [oo 5 (.mov (.tmp 0)), oo 6 (.mov (.tmp 1)), oo 7 (.bin .sub (.tmp 6) (.con (i6 1))), oo 8 (.call (.con (.fn 94 [] [])) [(.tmp 5), (.con (i6 0)), (.tmp 7)]), oo 4 (.mov (.tmp 8))]) .ret))⟩
theorem comp123 : compFn Try.prog 123 = some F123 := by kernel_rfl
def F124 : AFn := ⟨2, 15, [.cell 4 (some 5), .cell 5 (some 5)], (.seq (.reg [oo 2 (.box (.tmp 0)), oo 3 (.box (.tmp 1)), oo 4 (.box (.con (.agg [i6 0, i6 0, i6 0, i6 0, i6 0]))), oo 5 (.box (.con (.agg [i6 0, i6 0, i6 0, i6 0, i6 0])))]) (.seq (.seq (.reg [oo 6 (.faddr (.tmp 3) 3), oo 7 (.load none (.tmp 6)), oo 8 (.faddr (.tmp 2) 3), oo 9 (.load none (.tmp 8)), oo 10 (.bin .lss (.tmp 7) (.tmp 9))]) (.cond (.tmp 10) (.seq (.dreg 3 [oo 11 (.load (some 5) (.tmp 3)), oo 12 (.load (some 5) (.tmp 2)), on (.store 5 (.tmp 4) (.tmp 11)), on (.store 5 (.tmp 5) (.tmp 12))]) .ret) .skip)) (.seq (.dreg 3 [oo 13 (.load (some 5) (.tmp 2)), oo 14 (.load (some 5) (.tmp 3)), on (.store 5 (.tmp 4) (.tmp 13)), on (.store 5 (.tmp 5) (.tmp 14))]) .ret)))⟩
theorem comp124 : compFn Try.prog 124 = some F124 := by kernel_rfl
def F125 : AFn := ⟨3, 17, [.tmp 6], (.seq (.reg [oo 3 (.box (.tmp 0)), oo 4 (.box (.tmp 1)), oo 5 (.box (.tmp 2)), oo 6 (.mov (.con (i6 0)))]) (.seq (.dreg 8 [oo 7 (.faddr (.tmp 3) 1), oo 8 (.load none (.tmp 7)), oo 9 (.faddr (.tmp 4) 1), oo 10 (.load none (.tmp 9)), oo 11 (.iaddr (.tmp 8) (.tmp 10) 1 none), oo 12 (.load none (.tmp 11)), oo 13 (.faddr (.tmp 5) 1), oo 14 (.load none (.tmp 13)), oo 15 (.iaddr (.tmp 12) (.tmp 14) 1 none), oo 16 (.load none (.tmp 15)), oo 6 (.mov (.tmp 16))]) .ret))⟩
theorem comp125 : compFn Try.prog 125 = some F125 := by kernel_rfl
def F126 : AFn := ⟨2, 10, [.tmp 4], (.seq (.reg [oo 2 (.box (.tmp 0)), oo 3 (.box (.tmp 1)), oo 4 (.mov (.con (i6 0)))]) (.seq (.reg [oo 5 (.faddr (.tmp 3) 3), oo 6 (.load none (.tmp 5)), oo 7 (.faddr (.tmp 2) 4), oo 8 (.load none (.tmp 7)), oo 9 (.bin .sub (.tmp 6) (.tmp 8)), oo 4 (.mov (.tmp 9))]) .ret))⟩
theorem comp126 : compFn Try.prog 126 = some F126 := by kernel_rfl
def F131 : AFn := ⟨1, 24, [.tmp 2], (.seq (.reg [oo 2 (.mov (.con (.bool false)))]) (.seq (.seq (.reg [oo 4 (.mov (.tmp 0)), oo 5 (.len true (.tmp 4)), oo 6 (.call (.con (.fn 88 [] [])) [(.tmp 5), (.con (i6 1)), (.con (i6 8))]), oo 7 (.un .not (.tmp 6))]) (.cond (.tmp 7) (.seq (.reg [oo 2 (.mov (.con (.bool false)))]) .ret) .skip)) (.seq (.seq (.reg [oo 8 (.mov (.tmp 0)), oo 9 (.len true (.tmp 8)), oo 10 (.mov (.con (i6 0)))]) (.block 0 (.loop (.seq (.reg [oo 11 (.bin .lss (.tmp 10) (.tmp 9))]) (.seq (.cond (.tmp 11) .skip (.exit 0)) (.seq (.block 1 (.seq (.reg [oo 12 (.mov (.tmp 10)), oo 3 (.mov (.tmp 12))]) (.seq (.reg [oo 13 (.mov (.tmp 0)), oo 14 (.mov (.tmp 3)), oo 15 (.idx (.tmp 13) (.tmp 14)), oo 16 (.bin .lss (.tmp 15) (.con (.int .u8 97))), oo 17 (.mov (.tmp 16)), ⟨some 18, .mov (.tmp 0), some (17, false)⟩, ⟨some 19, .mov (.tmp 3), some (17, false)⟩, ⟨some 20, .idx (.tmp 18) (.tmp 19), some (17, false)⟩, ⟨some 21, .bin .gtr (.tmp 20) (.con (.int .u8 122)), some (17, false)⟩, oo 22 (.pick (.tmp 17) (.con (.bool true)) (.tmp 21))]) (.cond (.tmp 22) (.seq (.reg [oo 2 (.mov (.con (.bool false)))]) .ret) .skip)))) (.reg [oo 23 (.bin .add (.tmp 10) (.con (i6 1))), oo 10 (.mov (.tmp 23))]))))))) (.seq (.reg [oo 2 (.mov (.con (.bool true)))]) .ret))))⟩
theorem comp131 : compFn Try.prog 131 = some F131 := by kernel_rfl
end Go.Proofs.Ytacoakfppjiomaa
end
section
namespace Go.Proofs.Ytacoakfppjiomaa
open Go.RowKit
attribute [local simp] cleanL AV.clean cleanI cleanBo cleanSt cleanII re re1 back back1 AV.plain AV.plain1 ren ren1 fadeS fadeV List.idxOf? List.findIdx? List.findIdx?.go
structure T_bk_Drum where
 beat_ : Int
 deriving Inhabited
def C_bk_Drum (x : T_bk_Drum) : List AV := [.int .u64 x.beat_]
attribute [local simp] C_bk_Drum
def A_bk_Drum (x : T_bk_Drum) : AV := .agg (C_bk_Drum x)
attribute [local simp] A_bk_Drum
theorem KC_bk_Drum (x : T_bk_Drum) : cleanL (C_bk_Drum x) = true := by simp
theorem KA_bk_Drum (x : T_bk_Drum) : (A_bk_Drum x).clean = true := KC_bk_Drum x
theorem KL_bk_Drum (l : List T_bk_Drum) : cleanL (l.map A_bk_Drum) = true := cleanM KA_bk_Drum l
attribute [local simp] KL_bk_Drum
theorem KB_bk_Drum (x : T_bk_Drum) (n : Nat) (σ : List Nat) : (C_bk_Drum x).mapM (re n σ) = some (C_bk_Drum x) := by simp
def p_bk_Drum_hit (N : Nat) (d_1 : T_bk_Drum) : Option (Int × T_bk_Drum) := ((some (Int.fdiv (IntKind.u64.wrap ((IntKind.u64.wrap (d_1.beat_ * 15074714826142052245)) + 11400714819323198485)) ((2 : Int) ^ (min (Int.toNat 32) (IntKind.bits .u64))))).bind fun n_2 => ((some (IntKind.u64.wrap (((BitVec.ofInt (IntKind.bits .u64) (IntKind.u64.wrap ((IntKind.u64.wrap (d_1.beat_ * 15074714826142052245)) + 11400714819323198485)) ^^^ BitVec.ofInt (IntKind.bits .u64) n_2).toNat : Nat) : Int))).bind fun n_3 => ((some (Int.fdiv (IntKind.u64.wrap (n_3 * 15760922415973212899)) ((2 : Int) ^ (min (Int.toNat 32) (IntKind.bits .u64))))).bind fun n_4 => ((some (IntKind.u64.wrap (((BitVec.ofInt (IntKind.bits .u64) (IntKind.u64.wrap (n_3 * 15760922415973212899)) ^^^ BitVec.ofInt (IntKind.bits .u64) n_4).toNat : Nat) : Int))).bind fun n_5 => ((some (Int.fdiv (IntKind.u64.wrap (n_5 * 15760922415973212899)) ((2 : Int) ^ (min (Int.toNat 32) (IntKind.bits .u64))))).bind fun n_6 => ((some (IntKind.u64.wrap (((BitVec.ofInt (IntKind.bits .u64) (IntKind.u64.wrap (n_5 * 15760922415973212899)) ^^^ BitVec.ofInt (IntKind.bits .u64) n_6).toNat : Nat) : Int))).bind fun n_7 => some (n_7, (⟨(IntKind.u64.wrap ((IntKind.u64.wrap (d_1.beat_ * 15074714826142052245)) + 11400714819323198485))⟩ : T_bk_Drum))))))))
def v_bk_Drum_hit (r : Int × T_bk_Drum) : AV := .int .u64 r.1
attribute [local simp] v_bk_Drum_hit
theorem b_bk_Drum_hit (r : Int × T_bk_Drum) (n n2 m : Nat) : back n n2 m (v_bk_Drum_hit r) = some (v_bk_Drum_hit r) := by simp
theorem d_bk_Drum_hit (N : Nat) (d_1 : T_bk_Drum) (r : Int × T_bk_Drum) (h : p_bk_Drum_hit N d_1 = some r) : Does Try.prog 36 [.ptr 0 0] [(C_bk_Drum d_1)] fun v c => v = v_bk_Drum_hit r ∧ c = [(C_bk_Drum r.2)] := by
 unfold p_bk_Drum_hit at h
 refine Does.ofL comp36 _ _ rfl rfl ?_
 refine Ex.seq (rg 1 [0] (mkS 31 [(0, .ptr 0 0)]) ⟨[(C_bk_Drum d_1)], []⟩ ?_)
 refine Ex.seq (rg 10 [0] (mkS 31 [(0, .ptr 0 0)]) ⟨[[.int .u64 (IntKind.u64.wrap ((IntKind.u64.wrap (d_1.beat_ * 15074714826142052245)) + 11400714819323198485))]], []⟩ ?_)
 refine Ex.seq (rg 5 [3] (mkS 31 [(3, .int .u64 (IntKind.u64.wrap ((IntKind.u64.wrap (d_1.beat_ * 15074714826142052245)) + 11400714819323198485)))]) ⟨[[.int .u64 (IntKind.u64.wrap ((IntKind.u64.wrap (d_1.beat_ * 15074714826142052245)) + 11400714819323198485))]], []⟩ ?_)
 refine Ex.seq ?_
 obtain ⟨n_2, hn_2, h⟩ := bE h
 obtain ⟨n_3, hn_3, h⟩ := bE h
 refine regH 6 [(2, .eq (.int .u64 n_2)), (3, .eq (.int .u64 n_3))] [3] [AV.int .u64 (Int.fdiv (IntKind.u64.wrap ((IntKind.u64.wrap (d_1.beat_ * 15074714826142052245)) + 11400714819323198485)) ((2 : Int) ^ (min (Int.toNat 32) (IntKind.bits .u64)))) = AV.int .u64 n_2, AV.int .u64 (IntKind.u64.wrap (((BitVec.ofInt (IntKind.bits .u64) (IntKind.u64.wrap ((IntKind.u64.wrap (d_1.beat_ * 15074714826142052245)) + 11400714819323198485)) ^^^ BitVec.ofInt (IntKind.bits .u64) n_2).toNat : Nat) : Int)) = AV.int .u64 n_3] (mkS 31 [(3, .int .u64 (IntKind.u64.wrap (n_3 * 15760922415973212899)))]) (⟨[[.int .u64 (IntKind.u64.wrap ((IntKind.u64.wrap (d_1.beat_ * 15074714826142052245)) + 11400714819323198485))]], []⟩) (by kernel_rfl) ⟨congrArg (AV.int .u64) (Option.some.inj hn_2), congrArg (AV.int .u64) (Option.some.inj hn_3), trivial⟩ rfl ?_
 refine Ex.seq ?_
 obtain ⟨n_4, hn_4, h⟩ := bE h
 obtain ⟨n_5, hn_5, h⟩ := bE h
 refine regH 6 [(2, .eq (.int .u64 n_4)), (3, .eq (.int .u64 n_5))] [3] [AV.int .u64 (Int.fdiv (IntKind.u64.wrap (n_3 * 15760922415973212899)) ((2 : Int) ^ (min (Int.toNat 32) (IntKind.bits .u64)))) = AV.int .u64 n_4, AV.int .u64 (IntKind.u64.wrap (((BitVec.ofInt (IntKind.bits .u64) (IntKind.u64.wrap (n_3 * 15760922415973212899)) ^^^ BitVec.ofInt (IntKind.bits .u64) n_4).toNat : Nat) : Int)) = AV.int .u64 n_5] (mkS 31 [(3, .int .u64 (IntKind.u64.wrap (n_5 * 15760922415973212899)))]) (⟨[[.int .u64 (IntKind.u64.wrap ((IntKind.u64.wrap (d_1.beat_ * 15074714826142052245)) + 11400714819323198485))]], []⟩) (by kernel_rfl) ⟨congrArg (AV.int .u64) (Option.some.inj hn_4), congrArg (AV.int .u64) (Option.some.inj hn_5), trivial⟩ rfl ?_
 refine Ex.seq ?_
 obtain ⟨n_6, hn_6, h⟩ := bE h
 obtain ⟨n_7, hn_7, h⟩ := bE h
 refine regH 5 [(2, .eq (.int .u64 n_6)), (3, .eq (.int .u64 n_7))] [2] [AV.int .u64 (Int.fdiv (IntKind.u64.wrap (n_5 * 15760922415973212899)) ((2 : Int) ^ (min (Int.toNat 32) (IntKind.bits .u64)))) = AV.int .u64 n_6, AV.int .u64 (IntKind.u64.wrap (((BitVec.ofInt (IntKind.bits .u64) (IntKind.u64.wrap (n_5 * 15760922415973212899)) ^^^ BitVec.ofInt (IntKind.bits .u64) n_6).toNat : Nat) : Int)) = AV.int .u64 n_7] (mkS 31 [(2, .int .u64 n_7)]) (⟨[[.int .u64 (IntKind.u64.wrap ((IntKind.u64.wrap (d_1.beat_ * 15074714826142052245)) + 11400714819323198485))]], []⟩) (by kernel_rfl) ⟨congrArg (AV.int .u64) (Option.some.inj hn_6), congrArg (AV.int .u64) (Option.some.inj hn_7), trivial⟩ rfl ?_
 refine Ex.ret ?_
 obtain rfl := sJ h
 exact rt (.int .u64 n_7)
def p_bk_DrumOf (N : Nat) (nums_1 : (List Int)) : Option (T_bk_Drum) := (letJ (fun (b_2 : Int) => some (⟨b_2⟩ : T_bk_Drum)) (fun k_3 => (loop2 (fun rec_8 (i_6 : Int) (b_7 : Int) => (bif (decide (i_6 < ((nums_1.length : Nat) : Int))) then ((getI nums_1 i_6).bind fun x_12 => ((some (IntKind.u64.wrap (((BitVec.ofInt (IntKind.bits .u64) b_7 ^^^ BitVec.ofInt (IntKind.bits .u64) (IntKind.u64.wrap x_12)).toNat : Nat) : Int))).bind fun n_13 => ((p_bk_Drum_hit N (⟨n_13⟩ : T_bk_Drum)).bind fun r_14 => (rec_8 (IntKind.i64.wrap (i_6 + 1)) r_14.2.beat_)))) else (k_3 b_7))) N 0 2685821657736338717)))
def v_bk_DrumOf (r : T_bk_Drum) : AV := .ptr 0 0
theorem a_bk_DrumOf (nums_1 : (List Int)) : [.sl (nums_1.map (AV.int .i64)) none].mapM (ren []) = some [.sl (nums_1.map (AV.int .i64)) none] := by simp
theorem d_bk_DrumOf (N : Nat) (nums_1 : (List Int)) (r : T_bk_Drum) (h : p_bk_DrumOf N nums_1 = some r) : Does Try.prog 8 [.sl (nums_1.map (AV.int .i64)) none] [] fun v c => v = v_bk_DrumOf r ∧ c = [(C_bk_Drum r)] := by
 unfold p_bk_DrumOf at h
 refine Does.ofP comp8 _ _ rfl rfl ?_
 refine Ex.seq (rg 1 [0] (mkS 29 [(0, .sl (nums_1.map (AV.int .i64)) none)]) ⟨[], []⟩ ?_)
 refine Ex.seq (rg 3 [0, 3] (mkS 29 [(0, .sl (nums_1.map (AV.int .i64)) none), (3, .ptr 0 0)]) ⟨[[.int .u64 2685821657736338717]], []⟩ ?_)
 refine Ex.seq (Ex.seq ?_)
 refine rg 1 [0, 3, 4] (mkS 29 [(0, .sl (nums_1.map (AV.int .i64)) none), (3, .ptr 0 0), (4, i6 0)]) ⟨[[.int .u64 2685821657736338717]], []⟩ ?_
 obtain ⟨K_4, hK_5, h⟩ := letE h
 refine Ex.blockJ (fun a S => ∃ (b_2 : Int), K_4 b_2 = some r ∧ a = mkS 29 [(3, .ptr 0 0)] ∧ S = ⟨[[.int .u64 b_2]], []⟩) ?_ ?_
 ·obtain ⟨B_9, hB_10, h⟩ := loop2I h
  refine Ex.loopF (fun k a S => ∃ (i_6 : Int), ∃ (b_7 : Int), loop2 B_9 k i_6 b_7 = some r ∧ a = mkS 29 [(0, .sl (nums_1.map (AV.int .i64)) none), (3, .ptr 0 0), (4, i6 i_6)] ∧ S = ⟨[[.int .u64 b_7]], []⟩) N ⟨_, _, Forgets.refl _ _ _, 0, 2685821657736338717, h, rfl, rfl⟩ ?_
  rintro k a S ⟨i_6, b_7, h, rfl, rfl⟩
  cases k with
  | zero => exact (loop2Z h).elim
  | succ k =>
   replace h := loop2S h hB_10
   refine Ex.seq (Ex.seq ?_)
   refine regH 4 [(2, .eq (i6 ((nums_1.length : Nat) : Int)))] [0, 3, 4, 10] [AV.int .i64 (((nums_1.map (AV.int .i64)).length : Nat) : Int) = AV.int .i64 ((nums_1.length : Nat) : Int)] (mkS 29 [(0, .sl (nums_1.map (AV.int .i64)) none), (3, .ptr 0 0), (4, i6 i_6), (10, .bool (decide (i_6 < ((nums_1.length : Nat) : Int))))]) (⟨[[.int .u64 b_7]], []⟩) (by kernel_rfl) ⟨lenM _ _, trivial⟩ rfl ?_
   rcases condI h with ⟨hc_11, h⟩ | ⟨hc_11, h⟩
   ·refine Ex.condT _ rfl hc_11 ?_
    refine Ex.skip ?_
    refine Ex.seq ?_
    refine Ex.blockK ?_
    refine Ex.seq ?_
    obtain ⟨x_12, hx_12, h⟩ := bE h
    obtain ⟨n_13, hn_13, h⟩ := bE h
    refine Ex.drawE (a1 := mkS 29 [(0, .sl (nums_1.map (AV.int .i64)) none), (3, .ptr 0 0), (4, i6 i_6), (10, .bool (decide (i_6 < ((nums_1.length : Nat) : Int)))), (13, .ptr 0 0), (14, .ptr 0 0), (15, .ptr 0 0), (16, .ptr 0 0), (17, .int .u64 b_7), (18, .sl (nums_1.map (AV.int .i64)) none), (19, i6 i_6), (20, .rop [i6 x_12]), (21, i6 x_12), (22, .int .u64 (IntKind.u64.wrap x_12)), (23, .int .u64 n_13)]) (noClr_ok _) [] [] [] ?_ ?_
    ·refine drS [0] 11 [(7, .rop [i6 x_12]), (10, .eq (.int .u64 n_13))] [LGet (nums_1.map (AV.int .i64)) i_6 1 [i6 x_12], AV.int .u64 (IntKind.u64.wrap (((BitVec.ofInt (IntKind.bits .u64) b_7 ^^^ BitVec.ofInt (IntKind.bits .u64) (IntKind.u64.wrap x_12)).toNat : Nat) : Int)) = AV.int .u64 n_13] (mkS 29 [(0, .sl (nums_1.map (AV.int .i64)) none), (3, .ptr 0 0), (4, i6 i_6), (10, .bool (decide (i_6 < ((nums_1.length : Nat) : Int)))), (13, .ptr 0 0), (14, .ptr 0 0), (15, .ptr 0 0), (16, .ptr 0 0), (17, .int .u64 b_7), (18, .sl (nums_1.map (AV.int .i64)) none), (19, i6 i_6), (20, .rop [i6 x_12]), (21, i6 x_12), (22, .int .u64 (IntKind.u64.wrap x_12)), (23, .int .u64 n_13)]) (by simp) (by kernel_rfl) ⟨LGet.of hx_12 rfl, congrArg (AV.int .u64) (Option.some.inj hn_13), trivial⟩ (by kernel_rfl) ?_
     exact DrO.nil rfl
    ·dsimp only [List.getLastD_cons, List.getLastD_nil]
     refine rn 3 [0, 3, 4] (mkS 29 [(0, .sl (nums_1.map (AV.int .i64)) none), (3, .ptr 0 0), (4, i6 i_6)]) ⟨[[.int .u64 n_13]], []⟩ ?_
     refine ExO.nil ?_
     obtain ⟨r_14, hr_14, h⟩ := bE h
     refine Ex.reg (rn 1 [0, 3, 4, 26] (mkS 29 [(0, .sl (nums_1.map (AV.int .i64)) none), (3, .ptr 0 0), (4, i6 i_6), (26, .ptr 0 0)]) ⟨[[.int .u64 n_13]], []⟩ ?_)
     refine ExO.callL [0] [.ptr 0 0] rfl rfl (by simp; try rfl) rfl (by simp) (d_bk_Drum_hit N (⟨n_13⟩ : T_bk_Drum) r_14 hr_14) (b_bk_Drum_hit _ _ _ _) (by simp) ?_
     refine rn 0 [0, 3, 4] (mkS 29 [(0, .sl (nums_1.map (AV.int .i64)) none), (3, .ptr 0 0), (4, i6 i_6)]) ⟨[(C_bk_Drum r_14.2)], []⟩ ?_
     refine ExO.nil ?_
     refine rg 3 [0, 3, 4] (mkS 29 [(0, .sl (nums_1.map (AV.int .i64)) none), (3, .ptr 0 0), (4, i6 (IntKind.i64.wrap (i_6 + 1)))]) ⟨[(C_bk_Drum r_14.2)], []⟩ ?_
     dsimp only
     exact ⟨_, _, Forgets.refl _ _ _, k, Nat.lt_succ_self k, (IntKind.i64.wrap (i_6 + 1)), r_14.2.beat_, h, rfl, rfl⟩
   ·refine Ex.condF _ rfl hc_11 ?_
    refine Ex.exit ?_
    (try simp only [reduceCtorEq, AEx.ex.injEq, Nat.reduceEqDiff, if_true, if_false])
    exact ⟨_, _, forgetK [3], b_7, h, rfl, rfl⟩
 ·rintro a S ⟨b_2, h, rfl, rfl⟩
  subst hK_5
  refine Ex.seq (rg 2 [2] (mkS 29 [(2, .ptr 0 0)]) ⟨[[.int .u64 b_2]], []⟩ ?_)
  refine Ex.ret ?_
  obtain rfl := sJ h
  exact ⟨.inr rfl, .ptr 0 0, by kernel_rfl, by kernel_rfl, by kernel_rfl, [], by kernel_rfl⟩
def p_bk_Drum_Roll (N : Nat) (d_1 : T_bk_Drum) (n_2 : Int) : Option (Int × T_bk_Drum) := (bif (decide (n_2 < 2)) then some (0, d_1) else ((p_bk_Drum_hit N d_1).bind fun r_4 => ((nzI (IntKind.u64.wrap n_2)).bind fun u_5 => some ((IntKind.i64.wrap (Int.tmod (Int.fdiv r_4.1 ((2 : Int) ^ (min (Int.toNat 1) (IntKind.bits .u64)))) (IntKind.u64.wrap n_2))), r_4.2))))
def v_bk_Drum_Roll (r : Int × T_bk_Drum) : AV := i6 r.1
attribute [local simp] v_bk_Drum_Roll
theorem b_bk_Drum_Roll (r : Int × T_bk_Drum) (n n2 m : Nat) : back n n2 m (v_bk_Drum_Roll r) = some (v_bk_Drum_Roll r) := by simp
theorem d_bk_Drum_Roll (N : Nat) (d_1 : T_bk_Drum) (n_2 : Int) (r : Int × T_bk_Drum) (h : p_bk_Drum_Roll N d_1 n_2 = some r) : Does Try.prog 10 [.ptr 0 0, i6 n_2] [(C_bk_Drum d_1)] fun v c => v = v_bk_Drum_Roll r ∧ c = [(C_bk_Drum r.2)] := by
 unfold p_bk_Drum_Roll at h
 refine Does.ofL comp10 _ _ rfl rfl ?_
 refine Ex.seq (rg 1 [0, 1] (mkS 14 [(0, .ptr 0 0), (1, i6 n_2)]) ⟨[(C_bk_Drum d_1)], []⟩ ?_)
 refine Ex.seq (Ex.seq ?_)
 refine rg 2 [0, 1, 6] (mkS 14 [(0, .ptr 0 0), (1, i6 n_2), (6, .bool (decide (n_2 < 2)))]) ⟨[(C_bk_Drum d_1)], []⟩ ?_
 rcases condI h with ⟨hc_3, h⟩ | ⟨hc_3, h⟩
 ·refine Ex.condT _ rfl hc_3 ?_
  refine Ex.seq (rg 1 [4] (mkS 14 [(4, i6 0)]) ⟨[(C_bk_Drum d_1)], []⟩ ?_)
  refine Ex.ret ?_
  obtain rfl := sJ h
  exact rt (i6 0)
 ·refine Ex.condF _ rfl hc_3 ?_
  refine Ex.skip ?_
  refine Ex.seq ?_
  obtain ⟨r_4, hr_4, h⟩ := bE h
  refine Ex.reg (rn 1 [1, 7] (mkS 14 [(1, i6 n_2), (7, .ptr 0 0)]) ⟨[(C_bk_Drum d_1)], []⟩ ?_)
  refine ExO.callL [0] [.ptr 0 0] rfl rfl (by simp; try rfl) rfl (by simp) (d_bk_Drum_hit N d_1 r_4 hr_4) (b_bk_Drum_hit _ _ _ _) (by simp) ?_
  obtain ⟨u_5, hu_5, h⟩ := bE h
  refine runH 6 [(3, .bin (.int .u64 (Int.tmod (Int.fdiv r_4.1 ((2 : Int) ^ (min (Int.toNat 1) (IntKind.bits .u64)))) (IntKind.u64.wrap n_2))))] [4] [binA .rem (.int .u64 (Int.fdiv r_4.1 ((2 : Int) ^ (min (Int.toNat 1) (IntKind.bits .u64))))) (.int .u64 (IntKind.u64.wrap n_2)) = some (.int .u64 (Int.tmod (Int.fdiv r_4.1 ((2 : Int) ^ (min (Int.toNat 1) (IntKind.bits .u64)))) (IntKind.u64.wrap n_2)))] (mkS 14 [(4, i6 (IntKind.i64.wrap (Int.tmod (Int.fdiv r_4.1 ((2 : Int) ^ (min (Int.toNat 1) (IntKind.bits .u64)))) (IntKind.u64.wrap n_2))))]) (⟨[(C_bk_Drum r_4.2)], []⟩) (by kernel_rfl) ⟨binR hu_5, trivial⟩ ?_
  refine ExO.nil ?_
  refine Ex.ret ?_
  obtain rfl := sJ h
  exact rt (i6 (IntKind.i64.wrap (Int.tmod (Int.fdiv r_4.1 ((2 : Int) ^ (min (Int.toNat 1) (IntKind.bits .u64)))) (IntKind.u64.wrap n_2))))
def p_bk_Drum_Mid (N : Nat) (d_1 : T_bk_Drum) (low_2 : Int) (high_3 : Int) : Option (Int × T_bk_Drum) := ((p_bk_Drum_Roll N d_1 (IntKind.i64.wrap ((IntKind.i64.wrap (high_3 - low_2)) + 1))).bind fun r_4 => some ((IntKind.i64.wrap (low_2 + r_4.1)), r_4.2))
def v_bk_Drum_Mid (r : Int × T_bk_Drum) : AV := i6 r.1
attribute [local simp] v_bk_Drum_Mid
theorem b_bk_Drum_Mid (r : Int × T_bk_Drum) (n n2 m : Nat) : back n n2 m (v_bk_Drum_Mid r) = some (v_bk_Drum_Mid r) := by simp
theorem d_bk_Drum_Mid (N : Nat) (d_1 : T_bk_Drum) (low_2 : Int) (high_3 : Int) (r : Int × T_bk_Drum) (h : p_bk_Drum_Mid N d_1 low_2 high_3 = some r) : Does Try.prog 37 [.ptr 0 0, i6 low_2, i6 high_3] [(C_bk_Drum d_1)] fun v c => v = v_bk_Drum_Mid r ∧ c = [(C_bk_Drum r.2)] := by
 unfold p_bk_Drum_Mid at h
 refine Does.ofL comp37 _ _ rfl rfl ?_
 refine Ex.seq (rg 1 [0, 1, 2] (mkS 15 [(0, .ptr 0 0), (1, i6 low_2), (2, i6 high_3)]) ⟨[(C_bk_Drum d_1)], []⟩ ?_)
 refine Ex.seq ?_
 obtain ⟨r_4, hr_4, h⟩ := bE h
 refine Ex.reg (rn 6 [7, 8, 12] (mkS 15 [(7, i6 low_2), (8, .ptr 0 0), (12, i6 (IntKind.i64.wrap ((IntKind.i64.wrap (high_3 - low_2)) + 1)))]) ⟨[(C_bk_Drum d_1)], []⟩ ?_)
 refine ExO.callL [0] [.ptr 0 0, i6 (IntKind.i64.wrap ((IntKind.i64.wrap (high_3 - low_2)) + 1))] rfl rfl (by simp; try rfl) rfl (by simp) (d_bk_Drum_Roll N d_1 (IntKind.i64.wrap ((IntKind.i64.wrap (high_3 - low_2)) + 1)) r_4 hr_4) (b_bk_Drum_Roll _ _ _ _) (by simp) ?_
 refine rn 2 [6] (mkS 15 [(6, i6 (IntKind.i64.wrap (low_2 + r_4.1)))]) ⟨[(C_bk_Drum r_4.2)], []⟩ ?_
 refine ExO.nil ?_
 refine Ex.ret ?_
 obtain rfl := sJ h
 exact rt (i6 (IntKind.i64.wrap (low_2 + r_4.1)))
def p_bk_Drum_Any (N : Nat) (d_1 : T_bk_Drum) (l_2 : (List Int)) : Option (Int × T_bk_Drum) := (bif (((l_2.length : Nat) : Int) == 0) then some (0, d_1) else ((p_bk_Drum_Roll N d_1 ((l_2.length : Nat) : Int)).bind fun r_4 => ((getI l_2 r_4.1).bind fun x_5 => some (x_5, r_4.2))))
def v_bk_Drum_Any (r : Int × T_bk_Drum) : AV := i6 r.1
attribute [local simp] v_bk_Drum_Any
theorem b_bk_Drum_Any (r : Int × T_bk_Drum) (n n2 m : Nat) : back n n2 m (v_bk_Drum_Any r) = some (v_bk_Drum_Any r) := by simp
theorem d_bk_Drum_Any (N : Nat) (d_1 : T_bk_Drum) (l_2 : (List Int)) (r : Int × T_bk_Drum) (h : p_bk_Drum_Any N d_1 l_2 = some r) : Does Try.prog 19 [.ptr 0 0, .sl (l_2.map (AV.int .i64)) none] [(C_bk_Drum d_1)] fun v c => v = v_bk_Drum_Any r ∧ c = [(C_bk_Drum r.2)] := by
 unfold p_bk_Drum_Any at h
 refine Does.ofL comp19 _ _ rfl rfl ?_
 refine Ex.seq (rg 1 [0, 1] (mkS 15 [(0, .ptr 0 0), (1, .sl (l_2.map (AV.int .i64)) none)]) ⟨[(C_bk_Drum d_1)], []⟩ ?_)
 refine Ex.seq (Ex.seq ?_)
 refine regH 3 [(1, .eq (i6 ((l_2.length : Nat) : Int)))] [0, 1, 7] [AV.int .i64 (((l_2.map (AV.int .i64)).length : Nat) : Int) = AV.int .i64 ((l_2.length : Nat) : Int)] (mkS 15 [(0, .ptr 0 0), (1, .sl (l_2.map (AV.int .i64)) none), (7, .bool (((l_2.length : Nat) : Int) == 0))]) (⟨[(C_bk_Drum d_1)], []⟩) (by kernel_rfl) ⟨lenM _ _, trivial⟩ rfl ?_
 rcases condI h with ⟨hc_3, h⟩ | ⟨hc_3, h⟩
 ·refine Ex.condT _ rfl hc_3 ?_
  refine Ex.seq (rg 1 [4] (mkS 15 [(4, i6 0)]) ⟨[(C_bk_Drum d_1)], []⟩ ?_)
  refine Ex.ret ?_
  obtain rfl := sJ h
  exact rt (i6 0)
 ·refine Ex.condF _ rfl hc_3 ?_
  refine Ex.skip ?_
  refine Ex.seq ?_
  obtain ⟨r_4, hr_4, h⟩ := bE h
  refine Ex.reg ?_
  refine runH 4 [(3, .eq (i6 ((l_2.length : Nat) : Int)))] [8, 9, 11] [AV.int .i64 (((l_2.map (AV.int .i64)).length : Nat) : Int) = AV.int .i64 ((l_2.length : Nat) : Int)] (mkS 15 [(8, .sl (l_2.map (AV.int .i64)) none), (9, .ptr 0 0), (11, i6 ((l_2.length : Nat) : Int))]) (⟨[(C_bk_Drum d_1)], []⟩) (by kernel_rfl) ⟨lenM _ _, trivial⟩ ?_
  refine ExO.callL [0] [.ptr 0 0, i6 ((l_2.length : Nat) : Int)] rfl rfl (by simp; try rfl) rfl (by simp) (d_bk_Drum_Roll N d_1 ((l_2.length : Nat) : Int) r_4 hr_4) (b_bk_Drum_Roll _ _ _ _) (by simp) ?_
  obtain ⟨x_5, hx_5, h⟩ := bE h
  refine runH 3 [(0, .rop [i6 x_5])] [4] [LGet (l_2.map (AV.int .i64)) r_4.1 1 [i6 x_5]] (mkS 15 [(4, i6 x_5)]) (⟨[(C_bk_Drum r_4.2)], []⟩) (by kernel_rfl) ⟨LGet.of hx_5 rfl, trivial⟩ ?_
  refine ExO.nil ?_
  refine Ex.ret ?_
  obtain rfl := sJ h
  exact rt (i6 x_5)
structure T_Span where
 Lo : Int
 Hi : Int
 deriving Inhabited
def C_Span (x : T_Span) : List AV := [i6 x.Lo, i6 x.Hi]
attribute [local simp] C_Span
def A_Span (x : T_Span) : AV := .agg (C_Span x)
attribute [local simp] A_Span
theorem KC_Span (x : T_Span) : cleanL (C_Span x) = true := by simp
theorem KA_Span (x : T_Span) : (A_Span x).clean = true := KC_Span x
theorem KL_Span (l : List T_Span) : cleanL (l.map A_Span) = true := cleanM KA_Span l
attribute [local simp] KL_Span
theorem KB_Span (x : T_Span) (n : Nat) (σ : List Nat) : (C_Span x).mapM (re n σ) = some (C_Span x) := by simp
def p_bk_Drum_Of (N : Nat) (d_1 : T_bk_Drum) (x_2 : T_Span) : Option (Int × T_bk_Drum) := ((p_bk_Drum_Roll N d_1 4).bind fun r_3 => (bif (r_3.1 == 0) then some (x_2.Lo, r_3.2) else (bif (r_3.1 == 1) then some (x_2.Hi, r_3.2) else ((p_bk_Drum_Mid N r_3.2 x_2.Lo x_2.Hi).bind fun r_6 => some (r_6.1, r_6.2)))))
def v_bk_Drum_Of (r : Int × T_bk_Drum) : AV := i6 r.1
attribute [local simp] v_bk_Drum_Of
theorem b_bk_Drum_Of (r : Int × T_bk_Drum) (n n2 m : Nat) : back n n2 m (v_bk_Drum_Of r) = some (v_bk_Drum_Of r) := by simp
theorem d_bk_Drum_Of (N : Nat) (d_1 : T_bk_Drum) (x_2 : T_Span) (r : Int × T_bk_Drum) (h : p_bk_Drum_Of N d_1 x_2 = some r) : Does Try.prog 49 [.ptr 0 0, (A_Span x_2)] [(C_bk_Drum d_1)] fun v c => v = v_bk_Drum_Of r ∧ c = [(C_bk_Drum r.2)] := by
 unfold p_bk_Drum_Of at h
 refine Does.ofL comp49 _ _ rfl rfl ?_
 refine Ex.seq (rg 2 [0, 3] (mkS 21 [(0, .ptr 0 0), (3, .ptr 1 0)]) ⟨[(C_bk_Drum d_1), (C_Span x_2)], []⟩ ?_)
 refine Ex.seq (Ex.seq ?_)
 obtain ⟨r_3, hr_3, h⟩ := bE h
 refine Ex.reg (rn 1 [0, 3, 5] (mkS 21 [(0, .ptr 0 0), (3, .ptr 1 0), (5, .ptr 0 0)]) ⟨[(C_bk_Drum d_1), (C_Span x_2)], []⟩ ?_)
 refine ExO.callL [0] [.ptr 0 0, i6 4] rfl rfl (by simp; try rfl) rfl (by simp) (d_bk_Drum_Roll N d_1 4 r_3 hr_3) (b_bk_Drum_Roll _ _ _ _) (by simp) ?_
 refine rn 0 [0, 3, 6] (mkS 21 [(0, .ptr 0 0), (3, .ptr 1 0), (6, i6 r_3.1)]) ⟨[(C_bk_Drum r_3.2), (C_Span x_2)], []⟩ ?_
 refine ExO.nil ?_
 refine Ex.blockK ?_
 refine Ex.seq (rg 2 [0, 3, 6, 7] (mkS 21 [(0, .ptr 0 0), (3, .ptr 1 0), (6, i6 r_3.1), (7, .bool (r_3.1 == 0))]) ⟨[(C_bk_Drum r_3.2), (C_Span x_2)], []⟩ ?_)
 rcases condI h with ⟨hc_4, h⟩ | ⟨hc_4, h⟩
 ·refine Ex.condT _ rfl hc_4 ?_
  refine Ex.seq (rg 3 [4] (mkS 21 [(4, i6 x_2.Lo)]) ⟨[(C_bk_Drum r_3.2), (C_Span x_2)], []⟩ ?_)
  refine Ex.ret ?_
  obtain rfl := sJ h
  exact rt (i6 x_2.Lo)
 ·refine Ex.condF _ rfl hc_4 ?_
  refine Ex.seq (rg 2 [0, 3, 11] (mkS 21 [(0, .ptr 0 0), (3, .ptr 1 0), (11, .bool (r_3.1 == 1))]) ⟨[(C_bk_Drum r_3.2), (C_Span x_2)], []⟩ ?_)
  rcases condI h with ⟨hc_5, h⟩ | ⟨hc_5, h⟩
  ·refine Ex.condT _ rfl hc_5 ?_
   refine Ex.seq (rg 3 [4] (mkS 21 [(4, i6 x_2.Hi)]) ⟨[(C_bk_Drum r_3.2), (C_Span x_2)], []⟩ ?_)
   refine Ex.ret ?_
   obtain rfl := sJ h
   exact rt (i6 x_2.Hi)
  ·refine Ex.condF _ rfl hc_5 ?_
   refine Ex.skip ?_
   refine Ex.seq ?_
   obtain ⟨r_6, hr_6, h⟩ := bE h
   refine Ex.reg (rn 5 [15, 17, 19] (mkS 21 [(15, .ptr 0 0), (17, i6 x_2.Lo), (19, i6 x_2.Hi)]) ⟨[(C_bk_Drum r_3.2), (C_Span x_2)], []⟩ ?_)
   refine ExO.callL [0] [.ptr 0 0, i6 x_2.Lo, i6 x_2.Hi] rfl rfl (by simp; try rfl) rfl (by simp) (d_bk_Drum_Mid N r_3.2 x_2.Lo x_2.Hi r_6 hr_6) (b_bk_Drum_Mid _ _ _ _) (by simp) ?_
   refine rn 1 [4] (mkS 21 [(4, i6 r_6.1)]) ⟨[(C_bk_Drum r_6.2), (C_Span x_2)], []⟩ ?_
   refine ExO.nil ?_
   refine Ex.ret ?_
   obtain rfl := sJ h
   exact rt (i6 r_6.1)
end Go.Proofs.Ytacoakfppjiomaa
end
section
namespace Go.Proofs.Ytacoakfppjiomaa
open Go.RowKit
theorem hit_p (N : Nat) (d : T_bk_Drum) : ∃ y d', p_bk_Drum_hit N d = some (y, d') ∧ 0 ≤ y ∧ y < 2 ^ 64 := by
 refine ⟨_, _, rfl, ?_⟩
 exact wu64 _
theorem roll_p (N : Nat) (d : T_bk_Drum) (n : Int) (hn : n < 9223372036854775808) : ∃ r d', p_bk_Drum_Roll N d n = some (r, d') ∧ 0 ≤ r ∧ (n < 2 → r = 0) ∧ (2 ≤ n → r < n) := by
 unfold p_bk_Drum_Roll
 by_cases h2 : n < 2
 ·simp only [h2, decide_true, cond_true]
  exact ⟨0, d, rfl, by omega, fun _ => rfl, fun h => by omega⟩
 ·simp only [h2, decide_false, cond_false]
  obtain ⟨y, d', hy, h0, h1⟩ := hit_p N d
  have hu : IntKind.u64.wrap n = n := wu64_id (by omega) (by omega)
  have hnz : n ≠ 0 := by omega
  rw [hy, hu]
  simp only [Option.bind_some, nzI, hnz, if_false]
  have hsh : Int.fdiv y ((2 : Int) ^ (min (Int.toNat 1) (IntKind.bits .u64))) = y / 2 := by
   have : (2 : Int) ^ (min (Int.toNat 1) (IntKind.bits .u64)) = 2 := rfl
   rw [this, Int.fdiv_eq_ediv_of_nonneg _ (by omega)]
  rw [hsh]
  have hd0 : 0 ≤ y / 2 := by omega
  have hm : Int.tmod (y / 2) n = (y / 2) % n := Int.tmod_eq_emod_of_nonneg hd0
  have hm0 : 0 ≤ (y / 2) % n := Int.emod_nonneg _ hnz
  have hm1 : (y / 2) % n < n := Int.emod_lt_of_pos _ (by omega)
  rw [hm, w64 (x := y / 2 % n) (by omega) (by omega)]
  exact ⟨_, d', rfl, hm0, fun h => False.elim h, fun _ => hm1⟩
theorem any_p (N : Nat) (d : T_bk_Drum) (l : List Int) (hl : l ≠ []) (hlen : l.length < 1000) : ∃ r d', p_bk_Drum_Any N d l = some (r, d') ∧ r ∈ l := by
 unfold p_bk_Drum_Any
 have hpos : 0 < l.length := List.length_pos_iff.2 hl
 have hb : (((l.length : Nat) : Int) == 0) = false := by simp; omega
 rw [hb, cond_false]
 obtain ⟨r, d', h1, h2, h3, h4⟩ := roll_p N d ((l.length : Nat) : Int) (by omega)
 rw [h1]
 simp only [Option.bind_some]
 have hr : r < (l.length : Int) := by
  by_cases h : (l.length : Int) < 2
  ·rw [h3 h]; omega
  ·exact h4 (by omega)
 obtain ⟨x, e1, _, e3⟩ := getI_lt h2 hr
 rw [e1]
 exact ⟨x, d', rfl, e3⟩
theorem mid_p (N : Nat) (d : T_bk_Drum) (lo hi : Int) (h0 : -4611686018427387904 ≤ lo) (h1 : lo ≤ 4611686018427387903) (h2 : -4611686018427387904 ≤ hi) (h3 : hi ≤ 4611686018427387902) : ∃ r d', p_bk_Drum_Mid N d lo hi = some (r, d') ∧ lo ≤ r ∧ (lo ≤ hi → r ≤ hi) ∧ (hi < lo → r = lo) := by
 unfold p_bk_Drum_Mid
 rw [w64 (x := hi - lo) (by omega) (by omega)]
 by_cases hc : hi - lo + 1 < 9223372036854775808
 ·rw [w64 (x := hi - lo + 1) (by omega) hc]
  obtain ⟨r, d', e1, e2, e3, e4⟩ := roll_p N d (hi - lo + 1) hc
  rw [e1]
  simp only [Option.bind_some]
  have hr : r ≤ hi - lo ∨ r = 0 := by
   by_cases h : hi - lo + 1 < 2
   ·exact .inr (e3 h)
   ·have := e4 (by omega); exact .inl (by omega)
  rw [w64 (by omega) (by omega)]
  exact ⟨_, d', rfl, by omega, fun h => by omega, fun h => by
   have := e3 (by omega)
   omega⟩
 ·omega
theorem drumOf_step (N : Nat) (l : List Int) (rec : Int → Int → Option T_bk_Drum) (i q : Int) (h : i < 9223372036854775807) (h0 : 0 ≤ i) (ih : ∀ b', ∃ d, rec (i + 1) b' = some d) : ∃ d, ((p_bk_Drum_hit N (⟨q⟩ : T_bk_Drum)).bind fun r_14 => (rec (IntKind.i64.wrap (i + 1)) r_14.2.beat_)) = some d := by
 obtain ⟨y, d', g1, _, _⟩ := hit_p N ⟨q⟩
 rw [g1, w64 (x := i + 1) (by omega) (by omega)]
 exact ih _
theorem drumOf_p (N : Nat) (l : List Int) (hN : l.length < N) (hl : l.length < 9223372036854775808) : ∃ d, p_bk_DrumOf N l = some d := by
 unfold p_bk_DrumOf
 rw [letJ_eq]
 refine loop2_T (fun x => ∃ d, x = some d) (fun i b => 0 ≤ i ∧ i ≤ (l.length : Int)) (fun i b => l.length - i.toNat) ?_ N 0 _ ⟨by omega, by omega⟩ (by simpa using hN)
 rintro rec i b ⟨h0, h1⟩ ih
 by_cases hc : i < (l.length : Int)
 ·rw [show decide (i < ((l.length : Nat) : Int)) = true from decide_eq_true hc, cond_true]
  obtain ⟨x, e1, _, _⟩ := getI_lt h0 hc
  rw [e1, Option.bind_some, Option.bind_some]
  exact drumOf_step N l rec i _ (by omega) h0 fun b' => ih _ _ ⟨by omega, by omega⟩ (by omega)
 ·rw [show decide (i < ((l.length : Nat) : Int)) = false from decide_eq_false hc, cond_false]
  exact ⟨_, rfl⟩
theorem roll_le (N : Nat) (d : T_bk_Drum) (n : Int) (h1 : 1 ≤ n) (hn : n < 9223372036854775808) : ∃ r d', p_bk_Drum_Roll N d n = some (r, d') ∧ 0 ≤ r ∧ r < n := by
 obtain ⟨r, d', e, h0, h2, h3⟩ := roll_p N d n hn
 refine ⟨r, d', e, h0, ?_⟩
 by_cases h : n < 2
 ·rw [h2 h]; omega
 ·exact h3 (by omega)
end Go.Proofs.Ytacoakfppjiomaa
end
section
namespace Go.Proofs.Ytacoakfppjiomaa
open Go.RowKit
theorem of_p (N : Nat) (d : T_bk_Drum) (x : T_Span) (h : x.Lo ≤ x.Hi) (h0 : -4611686018427387904 ≤ x.Lo) (h1 : x.Hi ≤ 4611686018427387902) : ∃ r d', p_bk_Drum_Of N d x = some (r, d') ∧ x.Lo ≤ r ∧ r ≤ x.Hi := by
 unfold p_bk_Drum_Of
 obtain ⟨r, d', e1, e2, e3, e4⟩ := roll_p N d 4 (by omega)
 rw [e1]
 simp only [Option.bind_some]
 cases hc : (r == 0) with
 | true => exact ⟨x.Lo, d', rfl, by omega, h⟩
 | false =>
  cases hc2 : (r == 1) with
  | true => exact ⟨x.Hi, d', rfl, h, by omega⟩
  | false =>
   simp only [cond_false]
   obtain ⟨m, d2, g1, g2, g3, _⟩ := mid_p N d' x.Lo x.Hi h0 (by omega) (by omega) h1
   rw [g1]
   exact ⟨m, d2, rfl, g2, g3 h⟩
end Go.Proofs.Ytacoakfppjiomaa
end
section
namespace Go.Proofs.Ytacoakfppjiomaa
open Go.RowKit
attribute [local simp] cleanL AV.clean KL_bk_Drum KL_Span cleanI cleanBo cleanSt cleanII re re1 ren ren1 AV.plain AV.plain1 A_bk_Drum C_bk_Drum A_Span C_Span back back1 List.idxOf? List.findIdx? List.findIdx?.go KB_bk_Drum KB_Span fadeS fadeV
structure T_Wing where
 Name : ByteArray
 Length : Int
 Pace : T_Span
 deriving Inhabited
def C_Wing (x : T_Wing) : List AV := [.str x.Name, i6 x.Length, i6 x.Pace.Lo, i6 x.Pace.Hi]
attribute [local simp] C_Wing
def A_Wing (x : T_Wing) : AV := .agg (C_Wing x)
attribute [local simp] A_Wing
theorem KC_Wing (x : T_Wing) : cleanL (C_Wing x) = true := by simp
theorem KA_Wing (x : T_Wing) : (A_Wing x).clean = true := KC_Wing x
theorem KL_Wing (l : List T_Wing) : cleanL (l.map A_Wing) = true := cleanM KA_Wing l
attribute [local simp] KL_Wing
theorem KB_Wing (x : T_Wing) (n : Nat) (σ : List Nat) : (C_Wing x).mapM (re n σ) = some (C_Wing x) := by simp
attribute [local simp] KB_Wing
structure T_School where
 Route : Int
 Wings : (List T_Wing)
 deriving Inhabited
def C_School (x : T_School) : List AV := [i6 x.Route, .sl (x.Wings.map A_Wing) none]
attribute [local simp] C_School
def A_School (x : T_School) : AV := .agg (C_School x)
attribute [local simp] A_School
theorem KC_School (x : T_School) : cleanL (C_School x) = true := by simp
theorem KA_School (x : T_School) : (A_School x).clean = true := KC_School x
theorem KL_School (l : List T_School) : cleanL (l.map A_School) = true := cleanM KA_School l
attribute [local simp] KL_School
theorem KB_School (x : T_School) (n : Nat) (σ : List Nat) : (C_School x).mapM (re n σ) = some (C_School x) := by simp
attribute [local simp] KB_School
def p_br1_Passed (N : Nat) (s_1 : T_School) (starts_2 : (List Int)) (paces_3 : (List Int)) (wing_4 : Int) (place_5 : Int) : Option (Int) := ((getI starts_2 wing_4).bind fun x_6 => (letJ (fun (second_7 : Int) => some second_7) (fun k_8 => (loop3 (fun rec_14 (place_11 : Int) (second_12 : Int) (i_13 : Int) => (bif (decide (i_13 ≥ 0)) then (letJ (fun (place_18 : Int) => ((getI starts_2 i_13).bind fun x_24 => ((getI paces_3 i_13).bind fun x_25 => ((getI paces_3 i_13).bind fun x_26 => ((nzI x_26).bind fun u_27 => ((some (IntKind.i64.wrap (x_24 + (IntKind.i64.wrap (Int.tdiv (IntKind.i64.wrap ((IntKind.i64.wrap ((if place_18 > 0 then place_18 else 0) + x_25)) - 1)) x_26))))).bind fun n_28 => (rec_14 place_18 (if n_28 > second_12 then n_28 else second_12) (IntKind.i64.wrap (i_13 - 1))))))))) (fun k_19 => (bif (decide (i_13 < wing_4)) then ((getI s_1.Wings i_13).bind fun x_23 => (k_19 (IntKind.i64.wrap (place_11 + x_23.Length)))) else (k_19 place_11)))) else (k_8 second_12))) N place_5 x_6 wing_4))))
def v_br1_Passed (r : Int) : AV := i6 r
attribute [local simp] v_br1_Passed
theorem a_br1_Passed (s_1 : T_School) (starts_2 : (List Int)) (paces_3 : (List Int)) (wing_4 : Int) (place_5 : Int) : [(A_School s_1), .sl (starts_2.map (AV.int .i64)) none, .sl (paces_3.map (AV.int .i64)) none, i6 wing_4, i6 place_5].mapM (ren []) = some [(A_School s_1), .sl (starts_2.map (AV.int .i64)) none, .sl (paces_3.map (AV.int .i64)) none, i6 wing_4, i6 place_5] := by simp
theorem b_br1_Passed (r : Int) (n n2 m : Nat) : back n n2 m (v_br1_Passed r) = some (v_br1_Passed r) := by simp
theorem d_br1_Passed (N : Nat) (s_1 : T_School) (starts_2 : (List Int)) (paces_3 : (List Int)) (wing_4 : Int) (place_5 : Int) (r : Int) (h : p_br1_Passed N s_1 starts_2 paces_3 wing_4 place_5 = some r) : Does Try.prog 27 [(A_School s_1), .sl (starts_2.map (AV.int .i64)) none, .sl (paces_3.map (AV.int .i64)) none, i6 wing_4, i6 place_5] [] fun v c => v = v_br1_Passed r ∧ c = [] := by
 unfold p_br1_Passed at h
 refine Does.ofL comp27 _ _ rfl rfl ?_
 refine Ex.seq (rg 2 [1, 2, 3, 4, 5] (mkS 54 [(1, .sl (starts_2.map (AV.int .i64)) none), (2, .sl (paces_3.map (AV.int .i64)) none), (3, i6 wing_4), (4, i6 place_5), (5, .ptr 0 0)]) ⟨[(C_School s_1)], []⟩ ?_)
 refine Ex.seq ?_
 obtain ⟨x_6, hx_6, h⟩ := bE h
 refine regH 5 [(2, .rop [i6 x_6])] [1, 2, 3, 4, 5, 11] [LGet (starts_2.map (AV.int .i64)) wing_4 1 [i6 x_6]] (mkS 54 [(1, .sl (starts_2.map (AV.int .i64)) none), (2, .sl (paces_3.map (AV.int .i64)) none), (3, i6 wing_4), (4, i6 place_5), (5, .ptr 0 0), (11, i6 x_6)]) (⟨[(C_School s_1)], []⟩) (by kernel_rfl) ⟨LGet.of hx_6 rfl, trivial⟩ rfl ?_
 refine Ex.seq (Ex.seq ?_)
 refine rg 2 [1, 2, 3, 4, 5, 11, 12] (mkS 54 [(1, .sl (starts_2.map (AV.int .i64)) none), (2, .sl (paces_3.map (AV.int .i64)) none), (3, i6 wing_4), (4, i6 place_5), (5, .ptr 0 0), (11, i6 x_6), (12, i6 wing_4)]) ⟨[(C_School s_1)], []⟩ ?_
 obtain ⟨K_9, hK_10, h⟩ := letE h
 refine Ex.blockJ (fun a S => ∃ (second_7 : Int), K_9 second_7 = some r ∧ a = mkS 54 [(11, i6 second_7)] ∧ S = ⟨[], []⟩) ?_ ?_
 ·obtain ⟨B_15, hB_16, h⟩ := loop3I h
  refine Ex.loopF (fun k a S => ∃ (place_11 : Int), ∃ (second_12 : Int), ∃ (i_13 : Int), loop3 B_15 k place_11 second_12 i_13 = some r ∧ a = mkS 54 [(1, .sl (starts_2.map (AV.int .i64)) none), (2, .sl (paces_3.map (AV.int .i64)) none), (3, i6 wing_4), (4, i6 place_11), (5, .ptr 0 0), (11, i6 second_12), (12, i6 i_13)] ∧ S = ⟨[(C_School s_1)], []⟩) N ⟨_, _, Forgets.refl _ _ _, place_5, x_6, wing_4, h, rfl, rfl⟩ ?_
  rintro k a S ⟨place_11, second_12, i_13, h, rfl, rfl⟩
  cases k with
  | zero => exact (loop3Z h).elim
  | succ k =>
   replace h := loop3S h hB_16
   refine Ex.seq (Ex.seq ?_)
   refine rg 2 [1, 2, 3, 4, 5, 11, 12, 19] (mkS 54 [(1, .sl (starts_2.map (AV.int .i64)) none), (2, .sl (paces_3.map (AV.int .i64)) none), (3, i6 wing_4), (4, i6 place_11), (5, .ptr 0 0), (11, i6 second_12), (12, i6 i_13), (19, .bool (decide (i_13 ≥ 0)))]) ⟨[(C_School s_1)], []⟩ ?_
   rcases condI h with ⟨hc_17, h⟩ | ⟨hc_17, h⟩
   ·refine Ex.condT _ rfl hc_17 ?_
    refine Ex.skip ?_
    refine Ex.seq ?_
    refine Ex.blockK ?_
    obtain ⟨K_20, hK_21, h⟩ := letE h
    refine Ex.seqJ (fun a S => ∃ (place_18 : Int), K_20 place_18 = some r ∧ a = mkS 54 [(1, .sl (starts_2.map (AV.int .i64)) none), (2, .sl (paces_3.map (AV.int .i64)) none), (3, i6 wing_4), (4, i6 place_18), (5, .ptr 0 0), (11, i6 second_12), (12, i6 i_13)] ∧ S = ⟨[(C_School s_1)], []⟩) ?_ ?_
    ·refine Ex.seq (rg 3 [1, 2, 3, 4, 5, 11, 12, 24] (mkS 54 [(1, .sl (starts_2.map (AV.int .i64)) none), (2, .sl (paces_3.map (AV.int .i64)) none), (3, i6 wing_4), (4, i6 place_11), (5, .ptr 0 0), (11, i6 second_12), (12, i6 i_13), (24, .bool (decide (i_13 < wing_4)))]) ⟨[(C_School s_1)], []⟩ ?_)
     rcases condI h with ⟨hc_22, h⟩ | ⟨hc_22, h⟩
     ·refine Ex.condT _ rfl hc_22 ?_
      obtain ⟨x_23, hx_23, h⟩ := bE h
      refine regH 9 [(4, .rop (C_Wing x_23))] [1, 2, 3, 4, 5, 11, 12] [LGet (s_1.Wings.map A_Wing) i_13 4 (C_Wing x_23)] (mkS 54 [(1, .sl (starts_2.map (AV.int .i64)) none), (2, .sl (paces_3.map (AV.int .i64)) none), (3, i6 wing_4), (4, i6 (IntKind.i64.wrap (place_11 + x_23.Length))), (5, .ptr 0 0), (11, i6 second_12), (12, i6 i_13)]) (⟨[(C_School s_1)], []⟩) (by kernel_rfl) ⟨LGet.of hx_23 rfl, trivial⟩ rfl ?_
      (try simp only [reduceCtorEq, AEx.ex.injEq, Nat.reduceEqDiff, if_true, if_false])
      exact ⟨_, _, Forgets.refl _ _ _, (IntKind.i64.wrap (place_11 + x_23.Length)), h, rfl, rfl⟩
     ·refine Ex.condF _ rfl hc_22 ?_
      refine Ex.skip ?_
      (try simp only [reduceCtorEq, AEx.ex.injEq, Nat.reduceEqDiff, if_true, if_false])
      exact ⟨_, _, forgetK [1, 2, 3, 4, 5, 11, 12], place_11, h, rfl, rfl⟩
    ·rintro a S ⟨place_18, h, rfl, rfl⟩
     subst hK_21
     obtain ⟨x_24, hx_24, h⟩ := bE h
     obtain ⟨x_25, hx_25, h⟩ := bE h
     obtain ⟨x_26, hx_26, h⟩ := bE h
     obtain ⟨u_27, hu_27, h⟩ := bE h
     obtain ⟨n_28, hn_28, h⟩ := bE h
     refine Ex.drawE (a1 := mkS 54 [(1, .sl (starts_2.map (AV.int .i64)) none), (2, .sl (paces_3.map (AV.int .i64)) none), (3, i6 wing_4), (4, i6 place_18), (5, .ptr 0 0), (11, i6 second_12), (12, i6 i_13), (33, i6 second_12), (34, .sl (starts_2.map (AV.int .i64)) none), (35, i6 i_13), (36, .rop [i6 x_24]), (37, i6 x_24), (38, i6 place_18), (39, i6 (if place_18 > 0 then place_18 else 0)), (40, .sl (paces_3.map (AV.int .i64)) none), (41, i6 i_13), (42, .rop [i6 x_25]), (43, i6 x_25), (44, i6 (IntKind.i64.wrap ((if place_18 > 0 then place_18 else 0) + x_25))), (45, i6 (IntKind.i64.wrap ((IntKind.i64.wrap ((if place_18 > 0 then place_18 else 0) + x_25)) - 1))), (46, .sl (paces_3.map (AV.int .i64)) none), (47, i6 i_13), (48, .rop [i6 x_26]), (49, i6 x_26), (50, i6 (IntKind.i64.wrap (Int.tdiv (IntKind.i64.wrap ((IntKind.i64.wrap ((if place_18 > 0 then place_18 else 0) + x_25)) - 1)) x_26))), (51, i6 n_28)]) (noClr_ok _) [] [] [] ?_ ?_
     ·refine drS [0] 19 [(3, .rop [i6 x_24]), (9, .rop [i6 x_25]), (15, .rop [i6 x_26]), (17, .bin (i6 (IntKind.i64.wrap (Int.tdiv (IntKind.i64.wrap ((IntKind.i64.wrap ((if place_18 > 0 then place_18 else 0) + x_25)) - 1)) x_26)))), (18, .eq (i6 n_28))] [LGet (starts_2.map (AV.int .i64)) i_13 1 [i6 x_24], LGet (paces_3.map (AV.int .i64)) i_13 1 [i6 x_25], LGet (paces_3.map (AV.int .i64)) i_13 1 [i6 x_26], binA .quo (i6 (IntKind.i64.wrap ((IntKind.i64.wrap ((if place_18 > 0 then place_18 else 0) + x_25)) - 1))) (i6 x_26) = some (i6 (IntKind.i64.wrap (Int.tdiv (IntKind.i64.wrap ((IntKind.i64.wrap ((if place_18 > 0 then place_18 else 0) + x_25)) - 1)) x_26))), AV.int .i64 (IntKind.i64.wrap (x_24 + (IntKind.i64.wrap (Int.tdiv (IntKind.i64.wrap ((IntKind.i64.wrap ((if place_18 > 0 then place_18 else 0) + x_25)) - 1)) x_26)))) = AV.int .i64 n_28] (mkS 54 [(1, .sl (starts_2.map (AV.int .i64)) none), (2, .sl (paces_3.map (AV.int .i64)) none), (3, i6 wing_4), (4, i6 place_18), (5, .ptr 0 0), (11, i6 second_12), (12, i6 i_13), (33, i6 second_12), (34, .sl (starts_2.map (AV.int .i64)) none), (35, i6 i_13), (36, .rop [i6 x_24]), (37, i6 x_24), (38, i6 place_18), (39, i6 (if place_18 > 0 then place_18 else 0)), (40, .sl (paces_3.map (AV.int .i64)) none), (41, i6 i_13), (42, .rop [i6 x_25]), (43, i6 x_25), (44, i6 (IntKind.i64.wrap ((if place_18 > 0 then place_18 else 0) + x_25))), (45, i6 (IntKind.i64.wrap ((IntKind.i64.wrap ((if place_18 > 0 then place_18 else 0) + x_25)) - 1))), (46, .sl (paces_3.map (AV.int .i64)) none), (47, i6 i_13), (48, .rop [i6 x_26]), (49, i6 x_26), (50, i6 (IntKind.i64.wrap (Int.tdiv (IntKind.i64.wrap ((IntKind.i64.wrap ((if place_18 > 0 then place_18 else 0) + x_25)) - 1)) x_26))), (51, i6 n_28)]) (by simp) (by kernel_rfl) ⟨LGet.of hx_24 rfl, LGet.of hx_25 rfl, LGet.of hx_26 rfl, binQ hu_27, congrArg (AV.int .i64) (Option.some.inj hn_28), trivial⟩ (by kernel_rfl) ?_
      exact DrO.nil rfl
     ·dsimp only [List.getLastD_cons, List.getLastD_nil]
      refine rn 2 [1, 2, 3, 4, 5, 11, 12] (mkS 54 [(1, .sl (starts_2.map (AV.int .i64)) none), (2, .sl (paces_3.map (AV.int .i64)) none), (3, i6 wing_4), (4, i6 place_18), (5, .ptr 0 0), (11, i6 (if n_28 > second_12 then n_28 else second_12)), (12, i6 i_13)]) ⟨[(C_School s_1)], []⟩ ?_
      refine ExO.nil ?_
      refine rg 3 [1, 2, 3, 4, 5, 11, 12] (mkS 54 [(1, .sl (starts_2.map (AV.int .i64)) none), (2, .sl (paces_3.map (AV.int .i64)) none), (3, i6 wing_4), (4, i6 place_18), (5, .ptr 0 0), (11, i6 (if n_28 > second_12 then n_28 else second_12)), (12, i6 (IntKind.i64.wrap (i_13 - 1)))]) ⟨[(C_School s_1)], []⟩ ?_
      dsimp only
      exact ⟨_, _, Forgets.refl _ _ _, k, Nat.lt_succ_self k, place_18, (if n_28 > second_12 then n_28 else second_12), (IntKind.i64.wrap (i_13 - 1)), h, rfl, rfl⟩
   ·refine Ex.condF _ rfl hc_17 ?_
    refine Ex.exit ?_
    (try simp only [reduceCtorEq, AEx.ex.injEq, Nat.reduceEqDiff, if_true, if_false])
    exact ⟨_, _, forgetA (m := 54) 0 [] [(11, i6 second_12)] [] [] (by simp [setAll]) (by simp) ⟨rfl, trivial⟩ (by simp) rfl (by decide), second_12, h, rfl, rfl⟩
 ·rintro a S ⟨second_7, h, rfl, rfl⟩
  subst hK_10
  refine Ex.seq (rg 2 [10] (mkS 54 [(10, i6 second_7)]) ⟨[], []⟩ ?_)
  refine Ex.ret ?_
  obtain rfl := sJ h
  exact rt (i6 second_7)
def p_br1_Slow (N : Nat) (s_1 : T_School) : Option ((List Int)) := (letJ (fun (out_2 : List Int) => some out_2) (fun k_3 => (loop2 (fun rec_8 (out_6 : List Int) (i_7 : Int) => (bif (decide (i_7 < ((s_1.Wings.length : Nat) : Int))) then ((getI s_1.Wings i_7).bind fun x_12 => ((pushI out_6 ([x_12.Pace.Lo] : List Int)).bind fun l_13 => (rec_8 l_13 (IntKind.i64.wrap (i_7 + 1))))) else (k_3 out_6))) N [] 0)))
def v_br1_Slow (r : (List Int)) : AV := .sl (r.map (AV.int .i64)) none
attribute [local simp] v_br1_Slow
theorem b_br1_Slow (r : (List Int)) (n n2 m : Nat) : back n n2 m (v_br1_Slow r) = some (v_br1_Slow r) := by simp
theorem d_br1_Slow (N : Nat) (s_1 : T_School) (r : (List Int)) (h : p_br1_Slow N s_1 = some r) : Does Try.prog 86 [(A_School s_1)] [] fun v c => v = v_br1_Slow r ∧ c = [] := by
 unfold p_br1_Slow at h
 refine Does.ofL comp86 _ _ rfl rfl ?_
 refine Ex.seq (rg 2 [1] (mkS 23 [(1, .ptr 0 0)]) ⟨[(C_School s_1)], []⟩ ?_)
 refine Ex.seq (rg 1 [1, 3] (mkS 23 [(1, .ptr 0 0), (3, .nils)]) ⟨[(C_School s_1)], []⟩ ?_)
 refine Ex.seq (Ex.seq ?_)
 refine rg 1 [1, 3, 4] (mkS 23 [(1, .ptr 0 0), (3, .nils), (4, i6 0)]) ⟨[(C_School s_1)], []⟩ ?_
 obtain ⟨K_4, hK_5, h⟩ := letE h
 refine Ex.blockJ (fun a S => ∃ (out_2 : List Int), K_4 out_2 = some r ∧ a = mkS 23 [(3, .sl (out_2.map (AV.int .i64)) (some 0))] ∧ S = ⟨[], [(out_2.length, 1)]⟩) ?_ ?_
 ·refine Ex.forget (nilK 3 1 rfl) ?_
  refine Ex.castA (a2 := mkS 23 [(1, .ptr 0 0), (3, .sl (([] : List Int).map (AV.int .i64)) (some 0)), (4, i6 0)]) (S2 := ⟨[(C_School s_1)], [(0, 1)]⟩) (by kernel_rfl) (by kernel_rfl) ?_
  obtain ⟨B_9, hB_10, h⟩ := loop2I h
  refine Ex.loopF (fun k a S => ∃ (out_6 : List Int), ∃ (i_7 : Int), loop2 B_9 k out_6 i_7 = some r ∧ a = mkS 23 [(1, .ptr 0 0), (3, .sl (out_6.map (AV.int .i64)) (some 0)), (4, i6 i_7)] ∧ S = ⟨[(C_School s_1)], [(out_6.length, 1)]⟩) N ⟨_, _, Forgets.refl _ _ _, [], 0, h, rfl, rfl⟩ ?_
  rintro k a S ⟨out_6, i_7, h, rfl, rfl⟩
  cases k with
  | zero => exact (loop2Z h).elim
  | succ k =>
   replace h := loop2S h hB_10
   refine Ex.seq (Ex.seq ?_)
   refine regH 5 [(3, .eq (i6 ((s_1.Wings.length : Nat) : Int)))] [1, 3, 4, 9] [AV.int .i64 (((s_1.Wings.map A_Wing).length : Nat) : Int) = AV.int .i64 ((s_1.Wings.length : Nat) : Int)] (mkS 23 [(1, .ptr 0 0), (3, .sl (out_6.map (AV.int .i64)) (some 0)), (4, i6 i_7), (9, .bool (decide (i_7 < ((s_1.Wings.length : Nat) : Int))))]) (⟨[(C_School s_1)], [(out_6.length, 1)]⟩) (by kernel_rfl) ⟨lenM _ _, trivial⟩ rfl ?_
   rcases condI h with ⟨hc_11, h⟩ | ⟨hc_11, h⟩
   ·refine Ex.condT _ rfl hc_11 ?_
    refine Ex.skip ?_
    refine Ex.seq ?_
    refine Ex.blockK ?_
    obtain ⟨x_12, hx_12, h⟩ := bE h
    obtain ⟨l_13, hl_13, h⟩ := bE h
    refine regH 11 [(4, .rop (C_Wing x_12)), (9, .app (l_13.map (AV.int .i64)) l_13.length)] [1, 3, 4] [LGet (s_1.Wings.map A_Wing) i_7 4 (C_Wing x_12), LApp out_6.length (out_6.map (AV.int .i64)) (([x_12.Pace.Lo] : List Int).map (AV.int .i64)) 1 (l_13.map (AV.int .i64)) l_13.length] (mkS 23 [(1, .ptr 0 0), (3, .sl (l_13.map (AV.int .i64)) (some 0)), (4, i6 i_7)]) (⟨[(C_School s_1)], [(l_13.length, 1), (1, 1)]⟩) (by kernel_rfl) ⟨LGet.of hx_12 rfl, LApp.of hl_13 (fun _ => rfl), trivial⟩ rfl ?_
    refine rg 3 [1, 3, 4] (mkS 23 [(1, .ptr 0 0), (3, .sl (l_13.map (AV.int .i64)) (some 0)), (4, i6 (IntKind.i64.wrap (i_7 + 1)))]) ⟨[(C_School s_1)], [(l_13.length, 1), (1, 1)]⟩ ?_
    dsimp only
    exact ⟨_, _, forgetA (m := 23) 1 [0] [(1, .ptr 0 0), (3, .sl (l_13.map (AV.int .i64)) (some 0)), (4, i6 (IntKind.i64.wrap (i_7 + 1)))] [(C_School s_1)] [(l_13.length, 1)] (by simp [setAll]) (by simp) ⟨rfl, (reT (cleanI _ _) rfl), rfl, trivial⟩ (by simp) rfl (by decide), k, Nat.lt_succ_self k, l_13, (IntKind.i64.wrap (i_7 + 1)), h, rfl, rfl⟩
   ·refine Ex.condF _ rfl hc_11 ?_
    refine Ex.exit ?_
    (try simp only [reduceCtorEq, AEx.ex.injEq, Nat.reduceEqDiff, if_true, if_false])
    exact ⟨_, _, forgetA (m := 23) 0 [0] [(3, .sl (out_6.map (AV.int .i64)) (some 0))] [] [(out_6.length, 1)] (by simp [setAll]) (by simp) ⟨(reT (cleanI _ _) rfl), trivial⟩ (by simp) rfl (by decide), out_6, h, rfl, rfl⟩
 ·rintro a S ⟨out_2, h, rfl, rfl⟩
  subst hK_5
  refine Ex.seq (rg 2 [2] (mkS 23 [(2, .sl (out_2.map (AV.int .i64)) (some 0))]) ⟨[], [(out_2.length, 1)]⟩ ?_)
  refine Ex.ret ?_
  obtain rfl := sJ h
  exact rt (.sl (out_2.map (AV.int .i64)) (some 0))
def p_br1_LeastOf (N : Nat) (s_1 : T_School) (starts_2 : (List Int)) (wing_3 : Int) : Option (Int) := (bif (wing_3 == 0) then some 0 else ((p_br1_Slow N s_1).bind fun r_5 => ((getI s_1.Wings (IntKind.i64.wrap (wing_3 - 1))).bind fun x_6 => ((p_br1_Passed N s_1 starts_2 r_5 (IntKind.i64.wrap (wing_3 - 1)) x_6.Length).bind fun r_8 => some r_8))))
def v_br1_LeastOf (r : Int) : AV := i6 r
attribute [local simp] v_br1_LeastOf
theorem a_br1_LeastOf (s_1 : T_School) (starts_2 : (List Int)) (wing_3 : Int) : [(A_School s_1), .sl (starts_2.map (AV.int .i64)) none, i6 wing_3].mapM (ren []) = some [(A_School s_1), .sl (starts_2.map (AV.int .i64)) none, i6 wing_3] := by simp
theorem b_br1_LeastOf (r : Int) (n n2 m : Nat) : back n n2 m (v_br1_LeastOf r) = some (v_br1_LeastOf r) := by simp
theorem d_br1_LeastOf (N : Nat) (s_1 : T_School) (starts_2 : (List Int)) (wing_3 : Int) (r : Int) (h : p_br1_LeastOf N s_1 starts_2 wing_3 = some r) : Does Try.prog 51 [(A_School s_1), .sl (starts_2.map (AV.int .i64)) none, i6 wing_3] [] fun v c => v = v_br1_LeastOf r ∧ c = [] := by
 unfold p_br1_LeastOf at h
 refine Does.ofL comp51 _ _ rfl rfl ?_
 refine Ex.seq (rg 2 [1, 2, 3] (mkS 23 [(1, .sl (starts_2.map (AV.int .i64)) none), (2, i6 wing_3), (3, .ptr 0 0)]) ⟨[(C_School s_1)], []⟩ ?_)
 refine Ex.seq (Ex.seq ?_)
 refine rg 2 [1, 2, 3, 8] (mkS 23 [(1, .sl (starts_2.map (AV.int .i64)) none), (2, i6 wing_3), (3, .ptr 0 0), (8, .bool (wing_3 == 0))]) ⟨[(C_School s_1)], []⟩ ?_
 rcases condI h with ⟨hc_4, h⟩ | ⟨hc_4, h⟩
 ·refine Ex.condT _ rfl hc_4 ?_
  refine Ex.seq (rg 1 [6] (mkS 23 [(6, i6 0)]) ⟨[(C_School s_1)], []⟩ ?_)
  refine Ex.ret ?_
  obtain rfl := sJ h
  exact rt (i6 0)
 ·refine Ex.condF _ rfl hc_4 ?_
  refine Ex.skip ?_
  refine Ex.seq ?_
  obtain ⟨r_5, hr_5, h⟩ := bE h
  obtain ⟨x_6, hx_6, h⟩ := bE h
  have hT_7 : DoesA Try.prog [⟨86, [(A_School s_1)], [], (v_br1_Slow r_5), []⟩] ∧ ConsA [⟨86, [(A_School s_1)], [], (v_br1_Slow r_5), []⟩] := ⟨⟨(d_br1_Slow N s_1 r_5 hr_5), rfl, trivial⟩, ⟨trivial, trivial⟩⟩
  refine Ex.drawE (a1 := mkS 23 [(1, .sl (starts_2.map (AV.int .i64)) none), (2, i6 wing_3), (3, .ptr 0 0), (8, .bool (wing_3 == 0)), (9, (A_School s_1)), (10, .sl (starts_2.map (AV.int .i64)) none), (11, (A_School s_1)), (12, .sl (r_5.map (AV.int .i64)) none), (13, i6 wing_3), (14, i6 (IntKind.i64.wrap (wing_3 - 1))), (15, .ptr 0 1), (16, .sl (s_1.Wings.map A_Wing) none), (17, i6 wing_3), (18, i6 (IntKind.i64.wrap (wing_3 - 1))), (19, .rop (C_Wing x_6)), (20, .rop [i6 x_6.Length, i6 x_6.Pace.Lo, i6 x_6.Pace.Hi]), (21, i6 x_6.Length)]) (tabO_ok hT_7.1) [] [] [] ?_ ?_
  ·refine drS [0] 3 [] [] (mkS 23 [(1, .sl (starts_2.map (AV.int .i64)) none), (2, i6 wing_3), (3, .ptr 0 0), (8, .bool (wing_3 == 0)), (9, (A_School s_1)), (10, .sl (starts_2.map (AV.int .i64)) none), (11, (A_School s_1))]) (by simp) (by kernel_rfl) trivial (by kernel_rfl) ?_
   refine drC hT_7.2 0 _ [(A_School s_1)] (v_br1_Slow r_5) rfl rfl rfl rfl rfl (fun _ => rfl) rfl (by simp; try rfl) (fun _ => b_br1_Slow _ _ _ _) ?_
   refine drS [0] 9 [(6, .rop (C_Wing x_6))] [LGet (s_1.Wings.map A_Wing) (IntKind.i64.wrap (wing_3 - 1)) 4 (C_Wing x_6)] (mkS 23 [(1, .sl (starts_2.map (AV.int .i64)) none), (2, i6 wing_3), (3, .ptr 0 0), (8, .bool (wing_3 == 0)), (9, (A_School s_1)), (10, .sl (starts_2.map (AV.int .i64)) none), (11, (A_School s_1)), (12, .sl (r_5.map (AV.int .i64)) none), (13, i6 wing_3), (14, i6 (IntKind.i64.wrap (wing_3 - 1))), (15, .ptr 0 1), (16, .sl (s_1.Wings.map A_Wing) none), (17, i6 wing_3), (18, i6 (IntKind.i64.wrap (wing_3 - 1))), (19, .rop (C_Wing x_6)), (20, .rop [i6 x_6.Length, i6 x_6.Pace.Lo, i6 x_6.Pace.Hi]), (21, i6 x_6.Length)]) (by simp) (by kernel_rfl) ⟨LGet.of hx_6 rfl, trivial⟩ (by kernel_rfl) ?_
   exact DrO.nil rfl
  ·dsimp only [List.getLastD_cons, List.getLastD_nil]
   obtain ⟨r_8, hr_8, h⟩ := bE h
   refine ExO.callL [] [(A_School s_1), .sl (starts_2.map (AV.int .i64)) none, .sl (r_5.map (AV.int .i64)) none, i6 (IntKind.i64.wrap (wing_3 - 1)), i6 x_6.Length] rfl rfl (a_br1_Passed s_1 starts_2 r_5 (IntKind.i64.wrap (wing_3 - 1)) x_6.Length) rfl rfl (d_br1_Passed N s_1 starts_2 r_5 (IntKind.i64.wrap (wing_3 - 1)) x_6.Length r_8 hr_8) (b_br1_Passed _ _ _ _) rfl ?_
   refine rn 1 [6] (mkS 23 [(6, i6 r_8)]) ⟨[(C_School s_1)], []⟩ ?_
   refine ExO.nil ?_
   refine Ex.ret ?_
   obtain rfl := sJ h
   exact rt (i6 r_8)
def p_bk_wingNames (N : Nat)  : Option ((List ByteArray)) := some ([(ByteArray.mk #[102, 114, 111, 110, 116]), (ByteArray.mk #[100, 114, 117, 109, 115]), (ByteArray.mk #[102, 108, 97, 103, 115]), (ByteArray.mk #[102, 108, 111, 97, 116]), (ByteArray.mk #[98, 97, 105, 97, 110, 97, 115]), (ByteArray.mk #[107, 105, 100, 115]), (ByteArray.mk #[113, 117, 101, 101, 110, 115]), (ByteArray.mk #[98, 97, 99, 107])])
def v_bk_wingNames (r : (List ByteArray)) : AV := .sl (r.map AV.str) none
attribute [local simp] v_bk_wingNames
theorem b_bk_wingNames (r : (List ByteArray)) (n n2 m : Nat) : back n n2 m (v_bk_wingNames r) = some (v_bk_wingNames r) := by simp
theorem d_bk_wingNames (N : Nat)  (r : (List ByteArray)) (h : p_bk_wingNames N  = some r) : Does Try.prog 50 [] [] fun v c => v = v_bk_wingNames r ∧ c = [] := by
 unfold p_bk_wingNames at h
 refine Does.ofL comp50 _ _ rfl rfl ?_
 refine Ex.seq (rg 1 [] (mkS 2 []) ⟨[], []⟩ ?_)
 refine Ex.seq (rg 2 [0] (mkS 2 [(0, .sl (([(ByteArray.mk #[102, 114, 111, 110, 116]), (ByteArray.mk #[100, 114, 117, 109, 115]), (ByteArray.mk #[102, 108, 97, 103, 115]), (ByteArray.mk #[102, 108, 111, 97, 116]), (ByteArray.mk #[98, 97, 105, 97, 110, 97, 115]), (ByteArray.mk #[107, 105, 100, 115]), (ByteArray.mk #[113, 117, 101, 101, 110, 115]), (ByteArray.mk #[98, 97, 99, 107])] : List ByteArray).map AV.str) (some 0))]) ⟨[], [(8, 1)]⟩ ?_)
 refine Ex.ret ?_
 obtain rfl := sJ h
 exact rt (.sl (([(ByteArray.mk #[102, 114, 111, 110, 116]), (ByteArray.mk #[100, 114, 117, 109, 115]), (ByteArray.mk #[102, 108, 97, 103, 115]), (ByteArray.mk #[102, 108, 111, 97, 116]), (ByteArray.mk #[98, 97, 105, 97, 110, 97, 115]), (ByteArray.mk #[107, 105, 100, 115]), (ByteArray.mk #[113, 117, 101, 101, 110, 115]), (ByteArray.mk #[98, 97, 99, 107])] : List ByteArray).map AV.str) (some 0))
theorem IJ_bk_Drum (x y : T_bk_Drum) (h : A_bk_Drum x = A_bk_Drum y) : x = y := by
 have h := AV.agg.inj h
 simp only [C_bk_Drum, List.cons.injEq, AV.int.injEq, AV.bool.injEq, AV.str.injEq, AV.sl.injEq, true_and, and_true] at h
 have h0 := h
 obtain ⟨x0⟩ := x; obtain ⟨y0⟩ := y; simp_all
theorem k_bk_Drum_Any (N : Nat) (d_1 : T_bk_Drum) (l_2 : (List Int)) (d_1z : T_bk_Drum) (l_2z : (List Int)) (r s : Int × T_bk_Drum) (hr : p_bk_Drum_Any N d_1 l_2 = some r) (hs : p_bk_Drum_Any N d_1z l_2z = some s) : ConsR ⟨19, [.ptr 0 0, .sl (l_2.map (AV.int .i64)) none], [(C_bk_Drum d_1)], v_bk_Drum_Any r, [(C_bk_Drum r.2)]⟩ ⟨19, [.ptr 0 0, .sl (l_2z.map (AV.int .i64)) none], [(C_bk_Drum d_1z)], v_bk_Drum_Any s, [(C_bk_Drum s.2)]⟩ := by
 intro _ h1 h2
 have h1 : ([.ptr 0 0, .sl (l_2.map (AV.int .i64)) none] : List AV) = [.ptr 0 0, .sl (l_2z.map (AV.int .i64)) none] := h1
 have h2 : ([(C_bk_Drum d_1)] : List (List AV)) = [(C_bk_Drum d_1z)] := h2
 obtain rfl : d_1 = d_1z := IJ_bk_Drum _ _ (congrArg AV.agg (List.cons.inj h2).1)
 obtain rfl : l_2 = l_2z := (slInj (intInj _)) _ _ (List.cons.inj (List.cons.inj h1).2).1
 rw [hr] at hs; cases hs; exact ⟨rfl, rfl⟩
theorem k_bk_Drum_Roll (N : Nat) (d_1 : T_bk_Drum) (n_2 : Int) (d_1z : T_bk_Drum) (n_2z : Int) (r s : Int × T_bk_Drum) (hr : p_bk_Drum_Roll N d_1 n_2 = some r) (hs : p_bk_Drum_Roll N d_1z n_2z = some s) : ConsR ⟨10, [.ptr 0 0, i6 n_2], [(C_bk_Drum d_1)], v_bk_Drum_Roll r, [(C_bk_Drum r.2)]⟩ ⟨10, [.ptr 0 0, i6 n_2z], [(C_bk_Drum d_1z)], v_bk_Drum_Roll s, [(C_bk_Drum s.2)]⟩ := by
 intro _ h1 h2
 have h1 : ([.ptr 0 0, i6 n_2] : List AV) = [.ptr 0 0, i6 n_2z] := h1
 have h2 : ([(C_bk_Drum d_1)] : List (List AV)) = [(C_bk_Drum d_1z)] := h2
 obtain rfl : d_1 = d_1z := IJ_bk_Drum _ _ (congrArg AV.agg (List.cons.inj h2).1)
 obtain rfl : n_2 = n_2z := (intInj _) _ _ (List.cons.inj (List.cons.inj h1).2).1
 rw [hr] at hs; cases hs; exact ⟨rfl, rfl⟩
def p_bk_SchoolOf (N : Nat) (d_1 : T_bk_Drum) (most_2 : Int) : Option (T_School × T_bk_Drum) := ((p_bk_Drum_Any N d_1 [60, 400, 2000]).bind fun r_3 => ((p_bk_Drum_Mid N r_3.2 1 r_3.1).bind fun r_4 => ((p_bk_Drum_Mid N r_4.2 1 most_2).bind fun r_5 => (letJ (fun (b_6 : Int) (b_7 : List T_Wing) => some ((⟨r_4.1, b_7⟩ : T_School), (⟨b_6⟩ : T_bk_Drum))) (fun k_8 => (loop3 (fun rec_14 (i_11 : Int) (b_12 : Int) (b_13 : List T_Wing) => (bif (decide (i_11 > 0)) then ((p_bk_Drum_Any N (⟨b_12⟩ : T_bk_Drum) [5, 40]).bind fun r_18 => ((p_bk_Drum_Mid N r_18.2 1 r_18.1).bind fun r_19 => ((p_bk_wingNames N).bind fun r_20 => ((getI r_20 ((b_13.length : Nat) : Int)).bind fun x_21 => ((p_bk_Drum_Any N r_19.2 [10, 80]).bind fun r_22 => ((p_bk_Drum_Mid N r_22.2 1 r_22.1).bind fun r_23 => ((p_bk_Drum_Roll N r_23.2 4).bind fun r_24 => ((p_bk_Drum_Roll N r_24.2 30).bind fun r_25 => ((p_bk_Drum_Any N r_25.2 [0, r_24.1, r_25.1]).bind fun r_26 => ((pushI b_13 ([(⟨x_21, r_23.1, (⟨r_19.1, (IntKind.i64.wrap (r_19.1 + r_26.1))⟩ : T_Span)⟩ : T_Wing)] : List T_Wing)).bind fun l_28 => (rec_14 (IntKind.i64.wrap (i_11 - 1)) r_26.2.beat_ l_28))))))))))) else (k_8 b_12 b_13))) N r_5.1 r_5.2.beat_ []))))))
def v_bk_SchoolOf (r : T_School × T_bk_Drum) : AV := (A_School r.1)
attribute [local simp] v_bk_SchoolOf
theorem b_bk_SchoolOf (r : T_School × T_bk_Drum) (n n2 m : Nat) : back n n2 m (v_bk_SchoolOf r) = some (v_bk_SchoolOf r) := by simp
theorem d_bk_SchoolOf (N : Nat) (d_1 : T_bk_Drum) (most_2 : Int) (r : T_School × T_bk_Drum) (h : p_bk_SchoolOf N d_1 most_2 = some r) : Does Try.prog 21 [.ptr 0 0, i6 most_2] [(C_bk_Drum d_1)] fun v c => v = v_bk_SchoolOf r ∧ c = [(C_bk_Drum r.2)] := by
 unfold p_bk_SchoolOf at h
 refine Does.ofL comp21 _ _ rfl rfl ?_
 refine Ex.seq (rg 1 [0, 1, 4] (mkS 55 [(0, .ptr 0 0), (1, i6 most_2), (4, .ptr 1 0)]) ⟨[(C_bk_Drum d_1), [i6 0, .nils]], []⟩ ?_)
 refine Ex.seq ?_
 obtain ⟨r_3, hr_3, h⟩ := bE h
 refine Ex.reg (rn 3 [0, 1, 4, 8, 9, 10] (mkS 55 [(0, .ptr 0 0), (1, i6 most_2), (4, .ptr 1 0), (8, .ptr 0 0), (9, .ptr 0 0), (10, .sl (([60, 400, 2000] : List Int).map (AV.int .i64)) (some 0))]) ⟨[(C_bk_Drum d_1), [i6 0, .nils]], [(3, 1)]⟩ ?_)
 refine ExO.callL [0] [.ptr 0 0, .sl (([60, 400, 2000] : List Int).map (AV.int .i64)) (some 0)] rfl rfl (by simp; try rfl) rfl (by simp) (d_bk_Drum_Any N d_1 [60, 400, 2000] r_3 hr_3) (b_bk_Drum_Any _ _ _ _) (by simp) ?_
 obtain ⟨r_4, hr_4, h⟩ := bE h
 refine ExO.callL [0] [.ptr 0 0, i6 1, i6 r_3.1] rfl rfl (by simp; try rfl) rfl (by simp) (d_bk_Drum_Mid N r_3.2 1 r_3.1 r_4 hr_4) (b_bk_Drum_Mid _ _ _ _) (by simp) ?_
 refine rn 3 [0, 1, 4, 5] (mkS 55 [(0, .ptr 0 0), (1, i6 most_2), (4, .ptr 1 0), (5, .ptr 2 0)]) ⟨[(C_bk_Drum r_4.2), [i6 0, .nils], [i6 r_4.1, .nils]], [(3, 1)]⟩ ?_
 refine ExO.nil ?_
 refine Ex.seq (Ex.seq ?_)
 obtain ⟨r_5, hr_5, h⟩ := bE h
 refine Ex.reg (rn 2 [0, 4, 5, 14, 15] (mkS 55 [(0, .ptr 0 0), (4, .ptr 1 0), (5, .ptr 2 0), (14, .ptr 0 0), (15, i6 most_2)]) ⟨[(C_bk_Drum r_4.2), [i6 0, .nils], [i6 r_4.1, .nils]], [(3, 1)]⟩ ?_)
 refine ExO.callL [0] [.ptr 0 0, i6 1, i6 most_2] rfl rfl (by simp; try rfl) rfl (by simp) (d_bk_Drum_Mid N r_4.2 1 most_2 r_5 hr_5) (b_bk_Drum_Mid _ _ _ _) (by simp) ?_
 refine rn 1 [0, 4, 5, 6] (mkS 55 [(0, .ptr 0 0), (4, .ptr 1 0), (5, .ptr 2 0), (6, i6 r_5.1)]) ⟨[(C_bk_Drum r_5.2), [i6 0, .nils], [i6 r_4.1, .nils]], [(3, 1)]⟩ ?_
 refine ExO.nil ?_
 obtain ⟨K_9, hK_10, h⟩ := letE h
 refine Ex.blockJ (fun a S => ∃ (b_6 : Int), ∃ (b_7 : List T_Wing), K_9 b_6 b_7 = some r ∧ a = mkS 55 [(4, .ptr 1 0), (5, .ptr 2 0)] ∧ S = ⟨[[.int .u64 b_6], [i6 0, .nils], [i6 r_4.1, .sl (b_7.map A_Wing) (some 0)]], [(b_7.length, 4)]⟩) ?_ ?_
 ·refine Ex.forget (nilB 2 1 4 [i6 r_4.1, .nils] rfl rfl) ?_
  refine Ex.castA (a2 := mkS 55 [(0, .ptr 0 0), (4, .ptr 1 0), (5, .ptr 2 0), (6, i6 r_5.1)]) (S2 := ⟨[(C_bk_Drum r_5.2), [i6 0, .nils], [i6 r_4.1, .sl (([] : List T_Wing).map A_Wing) (some 1)]], [(3, 1), (0, 4)]⟩) (by kernel_rfl) (by kernel_rfl) ?_
  obtain ⟨B_15, hB_16, h⟩ := loop3I h
  refine Ex.loopF (fun k a S => ∃ (i_11 : Int), ∃ (b_12 : Int), ∃ (b_13 : List T_Wing), loop3 B_15 k i_11 b_12 b_13 = some r ∧ a = mkS 55 [(0, .ptr 0 0), (4, .ptr 1 0), (5, .ptr 2 0), (6, i6 i_11)] ∧ S = ⟨[[.int .u64 b_12], [i6 0, .nils], [i6 r_4.1, .sl (b_13.map A_Wing) (some 0)]], [(b_13.length, 4)]⟩) N ⟨_, _, forgetA (m := 55) 3 [1] [(0, .ptr 0 0), (4, .ptr 1 0), (5, .ptr 2 0), (6, i6 r_5.1)] [(C_bk_Drum r_5.2), [i6 0, .nils], [i6 r_4.1, .sl (([] : List T_Wing).map A_Wing) (some 0)]] [(0, 4)] (by simp [setAll]) (by simp) ⟨rfl, rfl, rfl, rfl, trivial⟩ (by simp) rfl (by decide), r_5.1, r_5.2.beat_, [], h, rfl, rfl⟩ ?_
  rintro k a S ⟨i_11, b_12, b_13, h, rfl, rfl⟩
  cases k with
  | zero => exact (loop3Z h).elim
  | succ k =>
   replace h := loop3S h hB_16
   refine Ex.seq (Ex.seq ?_)
   refine rg 2 [0, 4, 5, 6, 18] (mkS 55 [(0, .ptr 0 0), (4, .ptr 1 0), (5, .ptr 2 0), (6, i6 i_11), (18, .bool (decide (i_11 > 0)))]) ⟨[[.int .u64 b_12], [i6 0, .nils], [i6 r_4.1, .sl (b_13.map A_Wing) (some 0)]], [(b_13.length, 4)]⟩ ?_
   rcases condI h with ⟨hc_17, h⟩ | ⟨hc_17, h⟩
   ·refine Ex.condT _ rfl hc_17 ?_
    refine Ex.skip ?_
    refine Ex.seq ?_
    refine Ex.blockK ?_
    refine Ex.seq ?_
    obtain ⟨r_18, hr_18, h⟩ := bE h
    refine Ex.reg (rn 3 [0, 4, 5, 6, 21, 22, 23] (mkS 55 [(0, .ptr 0 0), (4, .ptr 1 0), (5, .ptr 2 0), (6, i6 i_11), (21, .ptr 0 0), (22, .ptr 0 0), (23, .sl (([5, 40] : List Int).map (AV.int .i64)) (some 1))]) ⟨[[.int .u64 b_12], [i6 0, .nils], [i6 r_4.1, .sl (b_13.map A_Wing) (some 0)]], [(b_13.length, 4), (2, 1)]⟩ ?_)
    refine ExO.callL [0] [.ptr 0 0, .sl (([5, 40] : List Int).map (AV.int .i64)) (some 1)] rfl rfl (by simp; try rfl) rfl (by simp) (d_bk_Drum_Any N (⟨b_12⟩ : T_bk_Drum) [5, 40] r_18 hr_18) (b_bk_Drum_Any _ _ _ _) (by simp) ?_
    obtain ⟨r_19, hr_19, h⟩ := bE h
    refine ExO.callL [0] [.ptr 0 0, i6 1, i6 r_18.1] rfl rfl (by simp; try rfl) rfl (by simp) (d_bk_Drum_Mid N r_18.2 1 r_18.1 r_19 hr_19) (b_bk_Drum_Mid _ _ _ _) (by simp) ?_
    refine rn 1 [0, 4, 5, 6, 7] (mkS 55 [(0, .ptr 0 0), (4, .ptr 1 0), (5, .ptr 2 0), (6, i6 i_11), (7, i6 r_19.1)]) ⟨[(C_bk_Drum r_19.2), [i6 0, .nils], [i6 r_4.1, .sl (b_13.map A_Wing) (some 0)]], [(b_13.length, 4), (2, 1)]⟩ ?_
    refine ExO.nil ?_
    obtain ⟨r_20, hr_20, h⟩ := bE h
    obtain ⟨x_21, hx_21, h⟩ := bE h
    obtain ⟨r_22, hr_22, h⟩ := bE h
    obtain ⟨r_23, hr_23, h⟩ := bE h
    obtain ⟨r_24, hr_24, h⟩ := bE h
    obtain ⟨r_25, hr_25, h⟩ := bE h
    obtain ⟨r_26, hr_26, h⟩ := bE h
    have hT_27 : DoesA Try.prog [⟨50, [], [], (v_bk_wingNames r_20), []⟩, ⟨19, [.ptr 0 0, .sl (([10, 80] : List Int).map (AV.int .i64)) none], [(C_bk_Drum r_19.2)], (v_bk_Drum_Any r_22), [(C_bk_Drum r_22.2)]⟩, ⟨37, [.ptr 0 0, i6 1, i6 r_22.1], [(C_bk_Drum r_22.2)], (v_bk_Drum_Mid r_23), [(C_bk_Drum r_23.2)]⟩, ⟨10, [.ptr 0 0, i6 4], [(C_bk_Drum r_23.2)], (v_bk_Drum_Roll r_24), [(C_bk_Drum r_24.2)]⟩, ⟨10, [.ptr 0 0, i6 30], [(C_bk_Drum r_24.2)], (v_bk_Drum_Roll r_25), [(C_bk_Drum r_25.2)]⟩, ⟨19, [.ptr 0 0, .sl (([0, r_24.1, r_25.1] : List Int).map (AV.int .i64)) none], [(C_bk_Drum r_25.2)], (v_bk_Drum_Any r_26), [(C_bk_Drum r_26.2)]⟩] ∧ ConsA [⟨50, [], [], (v_bk_wingNames r_20), []⟩, ⟨19, [.ptr 0 0, .sl (([10, 80] : List Int).map (AV.int .i64)) none], [(C_bk_Drum r_19.2)], (v_bk_Drum_Any r_22), [(C_bk_Drum r_22.2)]⟩, ⟨37, [.ptr 0 0, i6 1, i6 r_22.1], [(C_bk_Drum r_22.2)], (v_bk_Drum_Mid r_23), [(C_bk_Drum r_23.2)]⟩, ⟨10, [.ptr 0 0, i6 4], [(C_bk_Drum r_23.2)], (v_bk_Drum_Roll r_24), [(C_bk_Drum r_24.2)]⟩, ⟨10, [.ptr 0 0, i6 30], [(C_bk_Drum r_24.2)], (v_bk_Drum_Roll r_25), [(C_bk_Drum r_25.2)]⟩, ⟨19, [.ptr 0 0, .sl (([0, r_24.1, r_25.1] : List Int).map (AV.int .i64)) none], [(C_bk_Drum r_25.2)], (v_bk_Drum_Any r_26), [(C_bk_Drum r_26.2)]⟩] := ⟨⟨(d_bk_wingNames N r_20 hr_20), rfl, (d_bk_Drum_Any N r_19.2 [10, 80] r_22 hr_22), rfl, (d_bk_Drum_Mid N r_22.2 1 r_22.1 r_23 hr_23), rfl, (d_bk_Drum_Roll N r_23.2 4 r_24 hr_24), rfl, (d_bk_Drum_Roll N r_24.2 30 r_25 hr_25), rfl, (d_bk_Drum_Any N r_25.2 [0, r_24.1, r_25.1] r_26 hr_26), rfl, trivial⟩, ⟨⟨ConsR.ne rfl, ConsR.ne rfl, ConsR.ne rfl, ConsR.ne rfl, ConsR.ne rfl, trivial⟩, ⟨ConsR.ne rfl, ConsR.ne rfl, ConsR.ne rfl, k_bk_Drum_Any N r_19.2 [10, 80] r_25.2 [0, r_24.1, r_25.1] r_22 r_26 hr_22 hr_26, trivial⟩, ⟨ConsR.ne rfl, ConsR.ne rfl, ConsR.ne rfl, trivial⟩, ⟨k_bk_Drum_Roll N r_23.2 4 r_24.2 30 r_24 r_25 hr_24 hr_25, ConsR.ne rfl, trivial⟩, ⟨ConsR.ne rfl, trivial⟩, trivial, trivial⟩⟩
    refine Ex.drawE (a1 := mkS 55 [(0, .ptr 0 0), (4, .ptr 1 0), (5, .ptr 2 0), (6, i6 i_11), (7, i6 r_19.1), (26, .ptr 2 1), (27, .sl (b_13.map A_Wing) (some 0)), (28, .sl (r_20.map AV.str) none), (29, .ptr 2 1), (30, .sl (b_13.map A_Wing) (some 0)), (31, i6 ((b_13.length : Nat) : Int)), (32, .rop [.str x_21]), (33, .str x_21), (34, .ptr 0 0), (35, .ptr 0 0), (36, .sl (([10, 80] : List Int).map (AV.int .i64)) (some 2)), (37, i6 r_22.1), (38, i6 r_23.1), (39, i6 r_19.1), (40, i6 r_19.1), (41, .ptr 0 0), (42, .ptr 0 0), (43, i6 r_24.1), (44, .ptr 0 0), (45, i6 r_25.1), (46, .sl (([0, r_24.1, r_25.1] : List Int).map (AV.int .i64)) (some 3)), (47, i6 r_26.1), (48, i6 (IntKind.i64.wrap (r_19.1 + r_26.1))), (49, .agg [i6 r_19.1, i6 (IntKind.i64.wrap (r_19.1 + r_26.1))]), (50, .agg [.str x_21, i6 r_23.1, i6 r_19.1, i6 (IntKind.i64.wrap (r_19.1 + r_26.1))]), (51, .sl (([(⟨x_21, r_23.1, (⟨r_19.1, (IntKind.i64.wrap (r_19.1 + r_26.1))⟩ : T_Span)⟩ : T_Wing)] : List T_Wing).map A_Wing) (some 4))]) (tabO_ok hT_27.1) [] [(2, 1), (3, 1), (1, 4)] [⟨[(C_bk_Drum r_22.2), [i6 0, .nils], [i6 r_4.1, .sl (b_13.map A_Wing) (some 0)]], [(b_13.length, 4), (2, 1), (2, 1), (3, 1), (1, 4)]⟩, ⟨[(C_bk_Drum r_23.2), [i6 0, .nils], [i6 r_4.1, .sl (b_13.map A_Wing) (some 0)]], [(b_13.length, 4), (2, 1), (2, 1), (3, 1), (1, 4)]⟩, ⟨[(C_bk_Drum r_24.2), [i6 0, .nils], [i6 r_4.1, .sl (b_13.map A_Wing) (some 0)]], [(b_13.length, 4), (2, 1), (2, 1), (3, 1), (1, 4)]⟩, ⟨[(C_bk_Drum r_25.2), [i6 0, .nils], [i6 r_4.1, .sl (b_13.map A_Wing) (some 0)]], [(b_13.length, 4), (2, 1), (2, 1), (3, 1), (1, 4)]⟩, ⟨[(C_bk_Drum r_26.2), [i6 0, .nils], [i6 r_4.1, .sl (b_13.map A_Wing) (some 0)]], [(b_13.length, 4), (2, 1), (2, 1), (3, 1), (1, 4)]⟩] ?_ ?_
    ·refine drS [1, 2] 2 [] [] (mkS 55 [(0, .ptr 0 0), (4, .ptr 1 0), (5, .ptr 2 0), (6, i6 i_11), (7, i6 r_19.1), (26, .ptr 2 1), (27, .sl (b_13.map A_Wing) (some 0))]) (by simp) (by kernel_rfl) trivial (by kernel_rfl) ?_
     refine drC hT_27.2 0 _ [] (v_bk_wingNames r_20) rfl rfl rfl rfl rfl (fun _ => rfl) rfl (by simp; try rfl) (fun _ => b_bk_wingNames _ _ _ _) ?_
     refine drS [1, 2] 7 [(2, .eq (i6 ((b_13.length : Nat) : Int))), (3, .rop [.str x_21])] [AV.int .i64 (((b_13.map A_Wing).length : Nat) : Int) = AV.int .i64 ((b_13.length : Nat) : Int), LGet (r_20.map AV.str) ((b_13.length : Nat) : Int) 1 [.str x_21]] (mkS 55 [(0, .ptr 0 0), (4, .ptr 1 0), (5, .ptr 2 0), (6, i6 i_11), (7, i6 r_19.1), (26, .ptr 2 1), (27, .sl (b_13.map A_Wing) (some 0)), (28, .sl (r_20.map AV.str) none), (29, .ptr 2 1), (30, .sl (b_13.map A_Wing) (some 0)), (31, i6 ((b_13.length : Nat) : Int)), (32, .rop [.str x_21]), (33, .str x_21), (34, .ptr 0 0), (35, .ptr 0 0)]) (by simp) (by kernel_rfl) ⟨lenM _ _, LGet.of hx_21 rfl, trivial⟩ (by kernel_rfl) ?_
     refine drR 2 1 (([10, 80] : List Int).map (AV.int .i64)) rfl rfl (fun _ => by kernel_rfl) (by simp) rfl rfl ?_
     refine drB hT_27.2 1 _ [0] [.ptr 0 0, .sl (([10, 80] : List Int).map (AV.int .i64)) (some 2)] (v_bk_Drum_Any r_22) _ _ rfl rfl rfl rfl rfl rfl rfl rfl (by simp; try rfl) rfl (by simp) (b_bk_Drum_Any _ _ _ _) (by simp) rfl ?_
     refine drB hT_27.2 2 _ [0] [.ptr 0 0, i6 1, i6 r_22.1] (v_bk_Drum_Mid r_23) _ _ rfl rfl rfl rfl rfl rfl rfl rfl (by simp; try rfl) rfl (by simp) (b_bk_Drum_Mid _ _ _ _) (by simp) rfl ?_
     refine drS [1, 2] 4 [] [] (mkS 55 [(0, .ptr 0 0), (4, .ptr 1 0), (5, .ptr 2 0), (6, i6 i_11), (7, i6 r_19.1), (26, .ptr 2 1), (27, .sl (b_13.map A_Wing) (some 0)), (28, .sl (r_20.map AV.str) none), (29, .ptr 2 1), (30, .sl (b_13.map A_Wing) (some 0)), (31, i6 ((b_13.length : Nat) : Int)), (32, .rop [.str x_21]), (33, .str x_21), (34, .ptr 0 0), (35, .ptr 0 0), (36, .sl (([10, 80] : List Int).map (AV.int .i64)) (some 2)), (37, i6 r_22.1), (38, i6 r_23.1), (39, i6 r_19.1), (40, i6 r_19.1), (41, .ptr 0 0), (42, .ptr 0 0)]) (by simp) (by kernel_rfl) trivial (by kernel_rfl) ?_
     refine drB hT_27.2 3 _ [0] [.ptr 0 0, i6 4] (v_bk_Drum_Roll r_24) _ _ rfl rfl rfl rfl rfl rfl rfl rfl (by simp; try rfl) rfl (by simp) (b_bk_Drum_Roll _ _ _ _) (by simp) rfl ?_
     refine drS [1, 2] 1 [] [] (mkS 55 [(0, .ptr 0 0), (4, .ptr 1 0), (5, .ptr 2 0), (6, i6 i_11), (7, i6 r_19.1), (26, .ptr 2 1), (27, .sl (b_13.map A_Wing) (some 0)), (28, .sl (r_20.map AV.str) none), (29, .ptr 2 1), (30, .sl (b_13.map A_Wing) (some 0)), (31, i6 ((b_13.length : Nat) : Int)), (32, .rop [.str x_21]), (33, .str x_21), (34, .ptr 0 0), (35, .ptr 0 0), (36, .sl (([10, 80] : List Int).map (AV.int .i64)) (some 2)), (37, i6 r_22.1), (38, i6 r_23.1), (39, i6 r_19.1), (40, i6 r_19.1), (41, .ptr 0 0), (42, .ptr 0 0), (43, i6 r_24.1), (44, .ptr 0 0)]) (by simp) (by kernel_rfl) trivial (by kernel_rfl) ?_
     refine drB hT_27.2 4 _ [0] [.ptr 0 0, i6 30] (v_bk_Drum_Roll r_25) _ _ rfl rfl rfl rfl rfl rfl rfl rfl (by simp; try rfl) rfl (by simp) (b_bk_Drum_Roll _ _ _ _) (by simp) rfl ?_
     refine drR 3 1 (([0, r_24.1, r_25.1] : List Int).map (AV.int .i64)) rfl rfl (fun _ => by kernel_rfl) (by simp) rfl rfl ?_
     refine drB hT_27.2 5 _ [0] [.ptr 0 0, .sl (([0, r_24.1, r_25.1] : List Int).map (AV.int .i64)) (some 3)] (v_bk_Drum_Any r_26) _ _ rfl rfl rfl rfl rfl rfl rfl rfl (by simp; try rfl) rfl (by simp) (b_bk_Drum_Any _ _ _ _) (by simp) rfl ?_
     refine drS [1, 2] 3 [] [] (mkS 55 [(0, .ptr 0 0), (4, .ptr 1 0), (5, .ptr 2 0), (6, i6 i_11), (7, i6 r_19.1), (26, .ptr 2 1), (27, .sl (b_13.map A_Wing) (some 0)), (28, .sl (r_20.map AV.str) none), (29, .ptr 2 1), (30, .sl (b_13.map A_Wing) (some 0)), (31, i6 ((b_13.length : Nat) : Int)), (32, .rop [.str x_21]), (33, .str x_21), (34, .ptr 0 0), (35, .ptr 0 0), (36, .sl (([10, 80] : List Int).map (AV.int .i64)) (some 2)), (37, i6 r_22.1), (38, i6 r_23.1), (39, i6 r_19.1), (40, i6 r_19.1), (41, .ptr 0 0), (42, .ptr 0 0), (43, i6 r_24.1), (44, .ptr 0 0), (45, i6 r_25.1), (46, .sl (([0, r_24.1, r_25.1] : List Int).map (AV.int .i64)) (some 3)), (47, i6 r_26.1), (48, i6 (IntKind.i64.wrap (r_19.1 + r_26.1))), (49, .agg [i6 r_19.1, i6 (IntKind.i64.wrap (r_19.1 + r_26.1))]), (50, .agg [.str x_21, i6 r_23.1, i6 r_19.1, i6 (IntKind.i64.wrap (r_19.1 + r_26.1))])]) (by simp) (by kernel_rfl) trivial (by kernel_rfl) ?_
     refine drR 4 4 (([(⟨x_21, r_23.1, (⟨r_19.1, (IntKind.i64.wrap (r_19.1 + r_26.1))⟩ : T_Span)⟩ : T_Wing)] : List T_Wing).map A_Wing) rfl rfl (fun _ => by kernel_rfl) (by simp) rfl rfl ?_
     exact DrO.nil rfl
    ·dsimp only [List.getLastD_cons, List.getLastD_nil]
     obtain ⟨l_28, hl_28, h⟩ := bE h
     refine runH 3 [(0, .app (l_28.map A_Wing) l_28.length)] [0, 4, 5, 6] [LApp b_13.length (b_13.map A_Wing) (([(⟨x_21, r_23.1, (⟨r_19.1, (IntKind.i64.wrap (r_19.1 + r_26.1))⟩ : T_Span)⟩ : T_Wing)] : List T_Wing).map A_Wing) 4 (l_28.map A_Wing) l_28.length] (mkS 55 [(0, .ptr 0 0), (4, .ptr 1 0), (5, .ptr 2 0), (6, i6 i_11)]) (⟨[(C_bk_Drum r_26.2), [i6 0, .nils], [i6 r_4.1, .sl (l_28.map A_Wing) (some 0)]], [(l_28.length, 4), (2, 1), (2, 1), (3, 1), (1, 4)]⟩) (by kernel_rfl) ⟨LApp.of hl_28 (fun _ => rfl), trivial⟩ ?_
     refine ExO.nil ?_
     refine rg 3 [0, 4, 5, 6] (mkS 55 [(0, .ptr 0 0), (4, .ptr 1 0), (5, .ptr 2 0), (6, i6 (IntKind.i64.wrap (i_11 - 1)))]) ⟨[(C_bk_Drum r_26.2), [i6 0, .nils], [i6 r_4.1, .sl (l_28.map A_Wing) (some 0)]], [(l_28.length, 4), (2, 1), (2, 1), (3, 1), (1, 4)]⟩ ?_
     dsimp only
     exact ⟨_, _, forgetA (m := 55) 3 [0] [(0, .ptr 0 0), (4, .ptr 1 0), (5, .ptr 2 0), (6, i6 (IntKind.i64.wrap (i_11 - 1)))] [(C_bk_Drum r_26.2), [i6 0, .nils], [i6 r_4.1, .sl (l_28.map A_Wing) (some 0)]] [(l_28.length, 4)] (by simp [setAll]) (by simp) ⟨rfl, rfl, rfl, rfl, trivial⟩ (by simp) rfl (by decide), k, Nat.lt_succ_self k, (IntKind.i64.wrap (i_11 - 1)), r_26.2.beat_, l_28, h, rfl, rfl⟩
   ·refine Ex.condF _ rfl hc_17 ?_
    refine Ex.exit ?_
    (try simp only [reduceCtorEq, AEx.ex.injEq, Nat.reduceEqDiff, if_true, if_false])
    exact ⟨_, _, forgetK [4, 5], b_12, b_13, h, rfl, rfl⟩
 ·rintro a S ⟨b_6, b_7, h, rfl, rfl⟩
  subst hK_10
  refine Ex.seq (rg 2 [4] (mkS 55 [(4, .ptr 1 0)]) ⟨[[.int .u64 b_6], [i6 r_4.1, .sl (b_7.map A_Wing) (some 0)], [i6 r_4.1, .sl (b_7.map A_Wing) (some 0)]], [(b_7.length, 4)]⟩ ?_)
  refine Ex.ret ?_
  obtain rfl := sJ h
  exact rt (.agg [i6 r_4.1, .sl (b_7.map A_Wing) (some 0)])
def p_bk_StartsOf (N : Nat) (d_1 : T_bk_Drum) (s_2 : T_School) : Option ((List Int) × T_bk_Drum) := (letJ (fun (out_3 : List Int) (b_4 : Int) => some (out_3, (⟨b_4⟩ : T_bk_Drum))) (fun k_5 => (loop3 (fun rec_11 (out_8 : List Int) (i_9 : Int) (b_10 : Int) => (bif (decide (i_9 < ((s_2.Wings.length : Nat) : Int))) then ((p_br1_LeastOf N s_2 out_8 i_9).bind fun r_15 => ((p_bk_Drum_Roll N (⟨b_10⟩ : T_bk_Drum) 4).bind fun r_16 => ((p_bk_Drum_Roll N r_16.2 40).bind fun r_17 => ((p_bk_Drum_Any N r_17.2 [0, r_16.1, r_17.1]).bind fun r_18 => ((pushI out_8 ([(IntKind.i64.wrap (r_15 + r_18.1))] : List Int)).bind fun l_19 => (rec_11 l_19 (IntKind.i64.wrap (i_9 + 1)) r_18.2.beat_)))))) else (k_5 out_8 b_10))) N [] 0 d_1.beat_)))
def v_bk_StartsOf (r : (List Int) × T_bk_Drum) : AV := .sl (r.1.map (AV.int .i64)) none
attribute [local simp] v_bk_StartsOf
def p_bk_PacesOf (N : Nat) (d_1 : T_bk_Drum) (s_2 : T_School) : Option ((List Int) × T_bk_Drum) := (letJ (fun (out_3 : List Int) (b_4 : Int) => some (out_3, (⟨b_4⟩ : T_bk_Drum))) (fun k_5 => (loop3 (fun rec_11 (out_8 : List Int) (i_9 : Int) (b_10 : Int) => (bif (decide (i_9 < ((s_2.Wings.length : Nat) : Int))) then ((getI s_2.Wings i_9).bind fun x_15 => ((p_bk_Drum_Of N (⟨b_10⟩ : T_bk_Drum) x_15.Pace).bind fun r_16 => ((pushI out_8 ([r_16.1] : List Int)).bind fun l_17 => (rec_11 l_17 (IntKind.i64.wrap (i_9 + 1)) r_16.2.beat_)))) else (k_5 out_8 b_10))) N [] 0 d_1.beat_)))
def v_bk_PacesOf (r : (List Int) × T_bk_Drum) : AV := .sl (r.1.map (AV.int .i64)) none
attribute [local simp] v_bk_PacesOf
theorem b_bk_PacesOf (r : (List Int) × T_bk_Drum) (n n2 m : Nat) : back n n2 m (v_bk_PacesOf r) = some (v_bk_PacesOf r) := by simp
theorem d_bk_PacesOf (N : Nat) (d_1 : T_bk_Drum) (s_2 : T_School) (r : (List Int) × T_bk_Drum) (h : p_bk_PacesOf N d_1 s_2 = some r) : Does Try.prog 23 [.ptr 0 0, (A_School s_2)] [(C_bk_Drum d_1)] fun v c => v = v_bk_PacesOf r ∧ c = [(C_bk_Drum r.2)] := by
 unfold p_bk_PacesOf at h
 refine Does.ofL comp23 _ _ rfl rfl ?_
 refine Ex.seq (rg 2 [0, 3] (mkS 26 [(0, .ptr 0 0), (3, .ptr 1 0)]) ⟨[(C_bk_Drum d_1), (C_School s_2)], []⟩ ?_)
 refine Ex.seq (rg 1 [0, 3, 5] (mkS 26 [(0, .ptr 0 0), (3, .ptr 1 0), (5, .nils)]) ⟨[(C_bk_Drum d_1), (C_School s_2)], []⟩ ?_)
 refine Ex.seq (Ex.seq ?_)
 refine rg 1 [0, 3, 5, 6] (mkS 26 [(0, .ptr 0 0), (3, .ptr 1 0), (5, .nils), (6, i6 0)]) ⟨[(C_bk_Drum d_1), (C_School s_2)], []⟩ ?_
 obtain ⟨K_6, hK_7, h⟩ := letE h
 refine Ex.blockJ (fun a S => ∃ (out_3 : List Int), ∃ (b_4 : Int), K_6 out_3 b_4 = some r ∧ a = mkS 26 [(5, .sl (out_3.map (AV.int .i64)) (some 0))] ∧ S = ⟨[[.int .u64 b_4]], [(out_3.length, 1)]⟩) ?_ ?_
 ·refine Ex.forget (nilK 5 1 rfl) ?_
  refine Ex.castA (a2 := mkS 26 [(0, .ptr 0 0), (3, .ptr 1 0), (5, .sl (([] : List Int).map (AV.int .i64)) (some 0)), (6, i6 0)]) (S2 := ⟨[(C_bk_Drum d_1), (C_School s_2)], [(0, 1)]⟩) (by kernel_rfl) (by kernel_rfl) ?_
  obtain ⟨B_12, hB_13, h⟩ := loop3I h
  refine Ex.loopF (fun k a S => ∃ (out_8 : List Int), ∃ (i_9 : Int), ∃ (b_10 : Int), loop3 B_12 k out_8 i_9 b_10 = some r ∧ a = mkS 26 [(0, .ptr 0 0), (3, .ptr 1 0), (5, .sl (out_8.map (AV.int .i64)) (some 0)), (6, i6 i_9)] ∧ S = ⟨[[.int .u64 b_10], (C_School s_2)], [(out_8.length, 1)]⟩) N ⟨_, _, Forgets.refl _ _ _, [], 0, d_1.beat_, h, rfl, rfl⟩ ?_
  rintro k a S ⟨out_8, i_9, b_10, h, rfl, rfl⟩
  cases k with
  | zero => exact (loop3Z h).elim
  | succ k =>
   replace h := loop3S h hB_13
   refine Ex.seq (Ex.seq ?_)
   refine regH 5 [(3, .eq (i6 ((s_2.Wings.length : Nat) : Int)))] [0, 3, 5, 6, 11] [AV.int .i64 (((s_2.Wings.map A_Wing).length : Nat) : Int) = AV.int .i64 ((s_2.Wings.length : Nat) : Int)] (mkS 26 [(0, .ptr 0 0), (3, .ptr 1 0), (5, .sl (out_8.map (AV.int .i64)) (some 0)), (6, i6 i_9), (11, .bool (decide (i_9 < ((s_2.Wings.length : Nat) : Int))))]) (⟨[[.int .u64 b_10], (C_School s_2)], [(out_8.length, 1)]⟩) (by kernel_rfl) ⟨lenM _ _, trivial⟩ rfl ?_
   rcases condI h with ⟨hc_14, h⟩ | ⟨hc_14, h⟩
   ·refine Ex.condT _ rfl hc_14 ?_
    refine Ex.skip ?_
    refine Ex.seq ?_
    refine Ex.blockK ?_
    obtain ⟨x_15, hx_15, h⟩ := bE h
    obtain ⟨r_16, hr_16, h⟩ := bE h
    refine Ex.reg ?_
    refine runH 8 [(5, .rop (C_Wing x_15))] [0, 3, 6, 14, 15, 21] [LGet (s_2.Wings.map A_Wing) i_9 4 (C_Wing x_15)] (mkS 26 [(0, .ptr 0 0), (3, .ptr 1 0), (6, i6 i_9), (14, .sl (out_8.map (AV.int .i64)) (some 0)), (15, .ptr 0 0), (21, (A_Span x_15.Pace))]) (⟨[[.int .u64 b_10], (C_School s_2)], [(out_8.length, 1)]⟩) (by kernel_rfl) ⟨LGet.of hx_15 rfl, trivial⟩ ?_
    refine ExO.callL [0] [.ptr 0 0, (A_Span x_15.Pace)] rfl rfl (by simp; try rfl) rfl (by simp) (d_bk_Drum_Of N (⟨b_10⟩ : T_bk_Drum) x_15.Pace r_16 hr_16) (b_bk_Drum_Of _ _ _ _) (by simp) ?_
    obtain ⟨l_17, hl_17, h⟩ := bE h
    refine runH 3 [(1, .app (l_17.map (AV.int .i64)) l_17.length)] [0, 3, 5, 6] [LApp out_8.length (out_8.map (AV.int .i64)) (([r_16.1] : List Int).map (AV.int .i64)) 1 (l_17.map (AV.int .i64)) l_17.length] (mkS 26 [(0, .ptr 0 0), (3, .ptr 1 0), (5, .sl (l_17.map (AV.int .i64)) (some 0)), (6, i6 i_9)]) (⟨[(C_bk_Drum r_16.2), (C_School s_2)], [(l_17.length, 1), (1, 1)]⟩) (by kernel_rfl) ⟨LApp.of hl_17 (fun _ => rfl), trivial⟩ ?_
    refine ExO.nil ?_
    refine rg 3 [0, 3, 5, 6] (mkS 26 [(0, .ptr 0 0), (3, .ptr 1 0), (5, .sl (l_17.map (AV.int .i64)) (some 0)), (6, i6 (IntKind.i64.wrap (i_9 + 1)))]) ⟨[(C_bk_Drum r_16.2), (C_School s_2)], [(l_17.length, 1), (1, 1)]⟩ ?_
    dsimp only
    exact ⟨_, _, forgetA (m := 26) 2 [0] [(0, .ptr 0 0), (3, .ptr 1 0), (5, .sl (l_17.map (AV.int .i64)) (some 0)), (6, i6 (IntKind.i64.wrap (i_9 + 1)))] [(C_bk_Drum r_16.2), (C_School s_2)] [(l_17.length, 1)] (by simp [setAll]) (by simp) ⟨rfl, rfl, (reT (cleanI _ _) rfl), rfl, trivial⟩ (by simp) rfl (by decide), k, Nat.lt_succ_self k, l_17, (IntKind.i64.wrap (i_9 + 1)), r_16.2.beat_, h, rfl, rfl⟩
   ·refine Ex.condF _ rfl hc_14 ?_
    refine Ex.exit ?_
    (try simp only [reduceCtorEq, AEx.ex.injEq, Nat.reduceEqDiff, if_true, if_false])
    exact ⟨_, _, forgetA (m := 26) 1 [0] [(5, .sl (out_8.map (AV.int .i64)) (some 0))] [[.int .u64 b_10]] [(out_8.length, 1)] (by simp [setAll]) (by simp) ⟨(reT (cleanI _ _) rfl), trivial⟩ (by simp) rfl (by decide), out_8, b_10, h, rfl, rfl⟩
 ·rintro a S ⟨out_3, b_4, h, rfl, rfl⟩
  subst hK_7
  refine Ex.seq (rg 2 [4] (mkS 26 [(4, .sl (out_3.map (AV.int .i64)) (some 0))]) ⟨[[.int .u64 b_4]], [(out_3.length, 1)]⟩ ?_)
  refine Ex.ret ?_
  obtain rfl := sJ h
  exact rt (.sl (out_3.map (AV.int .i64)) (some 0))
def p_bk_EqInts (N : Nat) (a_1 : (List Int)) (b_2 : (List Int)) : Option (Bool) := (bif (((a_1.length : Nat) : Int) != ((b_2.length : Nat) : Int)) then some false else (letJ (fun (_ : Unit) => some true) (fun k_4 => (loop1 (fun rec_8 (i_7 : Int) => (bif (decide (i_7 < ((a_1.length : Nat) : Int))) then ((getI a_1 i_7).bind fun x_12 => ((getI b_2 i_7).bind fun x_13 => (bif (x_12 != x_13) then some false else (rec_8 (IntKind.i64.wrap (i_7 + 1)))))) else (k_4 ()))) N 0))))
def v_bk_EqInts (r : Bool) : AV := .bool r
attribute [local simp] v_bk_EqInts
theorem a_bk_EqInts (a_1 : (List Int)) (b_2 : (List Int)) : [.sl (a_1.map (AV.int .i64)) none, .sl (b_2.map (AV.int .i64)) none].mapM (ren []) = some [.sl (a_1.map (AV.int .i64)) none, .sl (b_2.map (AV.int .i64)) none] := by simp
theorem b_bk_EqInts (r : Bool) (n n2 m : Nat) : back n n2 m (v_bk_EqInts r) = some (v_bk_EqInts r) := by simp
theorem d_bk_EqInts (N : Nat) (a_1 : (List Int)) (b_2 : (List Int)) (r : Bool) (h : p_bk_EqInts N a_1 b_2 = some r) : Does Try.prog 16 [.sl (a_1.map (AV.int .i64)) none, .sl (b_2.map (AV.int .i64)) none] [] fun v c => v = v_bk_EqInts r ∧ c = [] := by
 unfold p_bk_EqInts at h
 refine Does.ofL comp16 _ _ rfl rfl ?_
 refine Ex.seq (rg 1 [0, 1] (mkS 26 [(0, .sl (a_1.map (AV.int .i64)) none), (1, .sl (b_2.map (AV.int .i64)) none)]) ⟨[], []⟩ ?_)
 refine Ex.seq (Ex.seq ?_)
 refine regH 5 [(1, .eq (i6 ((a_1.length : Nat) : Int))), (3, .eq (i6 ((b_2.length : Nat) : Int)))] [0, 1, 10] [AV.int .i64 (((a_1.map (AV.int .i64)).length : Nat) : Int) = AV.int .i64 ((a_1.length : Nat) : Int), AV.int .i64 (((b_2.map (AV.int .i64)).length : Nat) : Int) = AV.int .i64 ((b_2.length : Nat) : Int)] (mkS 26 [(0, .sl (a_1.map (AV.int .i64)) none), (1, .sl (b_2.map (AV.int .i64)) none), (10, .bool (((a_1.length : Nat) : Int) != ((b_2.length : Nat) : Int)))]) (⟨[], []⟩) (by kernel_rfl) ⟨lenM _ _, lenM _ _, trivial⟩ rfl ?_
 rcases condI h with ⟨hc_3, h⟩ | ⟨hc_3, h⟩
 ·refine Ex.condT _ rfl hc_3 ?_
  refine Ex.seq (rg 1 [4] (mkS 26 [(4, .bool false)]) ⟨[], []⟩ ?_)
  refine Ex.ret ?_
  obtain rfl := sJ h
  exact rt (.bool false)
 ·refine Ex.condF _ rfl hc_3 ?_
  refine Ex.skip ?_
  refine Ex.seq (Ex.seq ?_)
  refine rg 1 [0, 1, 5] (mkS 26 [(0, .sl (a_1.map (AV.int .i64)) none), (1, .sl (b_2.map (AV.int .i64)) none), (5, i6 0)]) ⟨[], []⟩ ?_
  obtain ⟨K_5, hK_6, h⟩ := letE h
  refine Ex.blockJ (fun a S => K_5 () = some r ∧ a = mkS 26 [] ∧ S = ⟨[], []⟩) ?_ ?_
  ·obtain ⟨B_9, hB_10, h⟩ := loop1I h
   refine Ex.loopF (fun k a S => ∃ (i_7 : Int), loop1 B_9 k i_7 = some r ∧ a = mkS 26 [(0, .sl (a_1.map (AV.int .i64)) none), (1, .sl (b_2.map (AV.int .i64)) none), (5, i6 i_7)] ∧ S = ⟨[], []⟩) N ⟨_, _, Forgets.refl _ _ _, 0, h, rfl, rfl⟩ ?_
   rintro k a S ⟨i_7, h, rfl, rfl⟩
   cases k with
   | zero => exact (loop1Z h).elim
   | succ k =>
    replace h := loop1S h hB_10
    refine Ex.seq (Ex.seq ?_)
    refine regH 4 [(2, .eq (i6 ((a_1.length : Nat) : Int)))] [0, 1, 5, 14] [AV.int .i64 (((a_1.map (AV.int .i64)).length : Nat) : Int) = AV.int .i64 ((a_1.length : Nat) : Int)] (mkS 26 [(0, .sl (a_1.map (AV.int .i64)) none), (1, .sl (b_2.map (AV.int .i64)) none), (5, i6 i_7), (14, .bool (decide (i_7 < ((a_1.length : Nat) : Int))))]) (⟨[], []⟩) (by kernel_rfl) ⟨lenM _ _, trivial⟩ rfl ?_
    rcases condI h with ⟨hc_11, h⟩ | ⟨hc_11, h⟩
    ·refine Ex.condT _ rfl hc_11 ?_
     refine Ex.skip ?_
     refine Ex.seq ?_
     refine Ex.blockK ?_
     refine Ex.seq ?_
     obtain ⟨x_12, hx_12, h⟩ := bE h
     obtain ⟨x_13, hx_13, h⟩ := bE h
     refine Ex.drawE (a1 := mkS 26 [(0, .sl (a_1.map (AV.int .i64)) none), (1, .sl (b_2.map (AV.int .i64)) none), (5, i6 i_7), (14, .bool (decide (i_7 < ((a_1.length : Nat) : Int)))), (17, .sl (a_1.map (AV.int .i64)) none), (18, i6 i_7), (19, .rop [i6 x_12]), (20, i6 x_12), (21, .sl (b_2.map (AV.int .i64)) none), (22, i6 i_7), (23, .rop [i6 x_13]), (24, i6 x_13)]) (noClr_ok _) [] [] [] ?_ ?_
     ·refine drS [] 8 [(2, .rop [i6 x_12]), (6, .rop [i6 x_13])] [LGet (a_1.map (AV.int .i64)) i_7 1 [i6 x_12], LGet (b_2.map (AV.int .i64)) i_7 1 [i6 x_13]] (mkS 26 [(0, .sl (a_1.map (AV.int .i64)) none), (1, .sl (b_2.map (AV.int .i64)) none), (5, i6 i_7), (14, .bool (decide (i_7 < ((a_1.length : Nat) : Int)))), (17, .sl (a_1.map (AV.int .i64)) none), (18, i6 i_7), (19, .rop [i6 x_12]), (20, i6 x_12), (21, .sl (b_2.map (AV.int .i64)) none), (22, i6 i_7), (23, .rop [i6 x_13]), (24, i6 x_13)]) (by simp) (by kernel_rfl) ⟨LGet.of hx_12 rfl, LGet.of hx_13 rfl, trivial⟩ (by kernel_rfl) ?_
      exact DrO.nil rfl
     ·dsimp only [List.getLastD_cons, List.getLastD_nil]
      refine rn 1 [0, 1, 5, 25] (mkS 26 [(0, .sl (a_1.map (AV.int .i64)) none), (1, .sl (b_2.map (AV.int .i64)) none), (5, i6 i_7), (25, .bool (x_12 != x_13))]) ⟨[], []⟩ ?_
      refine ExO.nil ?_
      rcases condI h with ⟨hc_14, h⟩ | ⟨hc_14, h⟩
      ·refine Ex.condT _ rfl hc_14 ?_
       refine Ex.seq (rg 1 [4] (mkS 26 [(4, .bool false)]) ⟨[], []⟩ ?_)
       refine Ex.ret ?_
       obtain rfl := sJ h
       exact rt (.bool false)
      ·refine Ex.condF _ rfl hc_14 ?_
       refine Ex.skip ?_
       refine rg 3 [0, 1, 5] (mkS 26 [(0, .sl (a_1.map (AV.int .i64)) none), (1, .sl (b_2.map (AV.int .i64)) none), (5, i6 (IntKind.i64.wrap (i_7 + 1)))]) ⟨[], []⟩ ?_
       dsimp only
       exact ⟨_, _, Forgets.refl _ _ _, k, Nat.lt_succ_self k, (IntKind.i64.wrap (i_7 + 1)), h, rfl, rfl⟩
    ·refine Ex.condF _ rfl hc_11 ?_
     refine Ex.exit ?_
     (try simp only [reduceCtorEq, AEx.ex.injEq, Nat.reduceEqDiff, if_true, if_false])
     exact ⟨_, _, forgetK [], h, rfl, rfl⟩
  ·rintro a S ⟨h, rfl, rfl⟩
   subst hK_6
   refine Ex.seq (rg 1 [4] (mkS 26 [(4, .bool true)]) ⟨[], []⟩ ?_)
   refine Ex.ret ?_
   obtain rfl := sJ h
   exact rt (.bool true)
end Go.Proofs.Ytacoakfppjiomaa
end
