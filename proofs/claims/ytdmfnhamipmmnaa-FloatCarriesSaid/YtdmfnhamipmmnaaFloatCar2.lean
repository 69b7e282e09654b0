/- Part 3 of what the law needs: own work, put together. -/
import Derived.Test.YtdmfnhamipmmnaaProg
import Derived.KernelRfl
import Derived.Test.YtdmfnhamipmmnaaFloatCar1
section
namespace Go.Proofs.Ytdmfnhamipmmnaa
open Go.RowKit
set_option linter.unusedVariables false
set_option linter.unusedSimpArgs false

theorem compOp_call {P : Program} {ty : TypeId} {op : Op} {f : AOpd} {args : List AOpd} (h : compOp P ty op = some (.call f args)) : ∃ sf sargs ts, op = .call { callee := .value sf, args := sargs, argTypes := ts } ∧ compOpd sf = some f ∧ compOpds sargs = some args := by
 unfold compOp at h
 split at h
 all_goals first
  | (rename_i sf sargs ts
     simp only [Option.bind_eq_bind, Option.bind_eq_some_iff, Option.pure_def, Option.some.injEq, AOp.call.injEq] at h
     obtain ⟨f', hf, as', has, rfl, rfl⟩ := h
     exact ⟨_, _, _, rfl, hf, has⟩)
  | (exfalso; cases h; done)
  | (exfalso; simp [Option.bind_eq_some_iff] at h; done)
  | skip
 all_goals (exfalso; revert h)
 all_goals (try (simp [Option.bind_eq_some_iff]; done))
 all_goals (repeat (first | (intro h; cases h; done) | split))
 all_goals (try (simp [Option.bind_eq_some_iff]; done))
 all_goals (try (repeat (first | (intro h; cases h; done) | split)))
 all_goals (try (intro h; simp [Option.bind_eq_some_iff] at h; done))
 all_goals (intro h; simp only [Option.bind_eq_bind, Option.bind_eq_some_iff, Option.pure_def, Option.map_eq_some_iff, Option.some.injEq, reduceCtorEq, and_false, exists_false] at h)
 all_goals (repeat' (first | (cases h; done) | (obtain ⟨_, _, h⟩ := h; try simp only [Option.bind_eq_bind, Option.bind_eq_some_iff, Option.pure_def, Option.map_eq_some_iff, Option.some.injEq, reduceCtorEq, and_false, exists_false] at h) | (simp [Option.bind_eq_some_iff] at h; done) | split at h))

theorem VR.inv_yld {G : Gh} {l t : Nat} {u : Value} (h : VR G (.yld l t) u) : u = .func (.yield l) #[] #[] := by cases h; rfl
theorem yield_run {P : Program} {G : Gh} {w : World} {o : Oper} {ρ : Operand → Value} {a : AOpd → AV} {sf : Operand} {sargs : Array Operand} {ts : Array TypeId} {f : AOpd} {args : List AOpd} {l t : Nat} {r : Loop} (ho : o.op = .call { callee := .value sf, args := sargs, argTypes := ts }) (hf : compOpd sf = some f) (ha : compOpds sargs = some args) (h : OpdOk G a ρ) (hv : a f = .yld l t) (hl : w.heap[l]? = some (.loop r)) (hs : r.params.size = args.length) :
  ∃ us : Array Value, (execOp ρ o).run P w = .ok (.round l r.fn ((r.params.zip us).foldl (fun tmps (t, a) => tmps.setIfInBounds t a) r.tmps) r.assign r.body) w ∧ us.size = args.length ∧ ∀ (i : Nat) x u, (args.map a)[i]? = some x → us[i]? = some u → VR G x u := by
 have h1 := h sf f hf
 rw [hv] at h1
 have hu := h1.inv_yld
 have hall := VL.opds ha h
 have hsz : (sargs.map ρ).size = args.length := by rw [hall.1, List.length_map]
 refine ⟨sargs.map ρ, ?_, hsz, hall.2⟩
 have hy := run_yield (P := P) (args := sargs.map ρ) hl (by rw [hsz, hs])
 simp only [execOp, ho, resolve, hu, Deferred.ofValue, invoke]
 simp [hy]

theorem zip_foldl (ps : Array Tmp) (us : Array Value) (t : Array Value) : (ps.zip us).foldl (fun tmps (t, a) => tmps.setIfInBounds t a) t = (ps.toList.zip us.toList).foldl (fun tmps (t, a) => tmps.setIfInBounds t a) t := by
 rw [← Array.foldl_toList, Array.toList_zip]

section rules
variable {c : Cx} {md : Md} {P : Program} {a : List AV} {S : St} {Q : AEx → List AV → St → Prop} {R : List AV → St → Prop}

theorem ExI.yield {L : Lp} {a0 : List AV} {ps : List Nat} {x0 y0 : ACode} (hL : LpOk P c L a0 ps x0 y0) {x : AOper} {l : List AOper} (f : AOpd) (args : List AOpd) (t : Nat) (xs : List AV) (hw : wantedA x.guard a = some true) (ho : x.op = .call f args) (hf : evd a f = .yld L.l t) (hxs : args.map (evd a) = xs) (hps : ps.length = xs.length) (hr : S.lv[L.t]? = some (0, 0)) (hn : c.n ≤ S.bx.length)
  (h : ∀ (ca cb : Cx), ca.n = S.bx.length → cb.n = S.bx.length → ca.m = S.lv.length → cb.m = S.lv.length → (∀ L' a' ps' x' y', LpOk P c L' a' ps' x' y' → L'.l ≠ L.l → LpOk P ca L' a' ps' x' y' ∧ LpOk P cb L' a' ps' x' y') → Fact.bz L ∈ cb.fs →
    Ex ca (.round L.l (md.n - 1)) P x0 (setPs a0 ps xs) S fun z a1 S1 => z = .norm ∧ S1.lv[L.t]? = some (0, 0) ∧
     Ex cb (.round L.l (md.n - 1)) P y0 a1 S1 fun z a2 S2 => match z with
      | .norm => ExI c md P l (putA a x.dst (.bool true)) S2 R
      | .ret => ExI c md P l (putA a x.dst (.bool false)) ⟨S2.bx, S2.lv.set L.t (1, 0)⟩ R
      | .ex i => ExI c md P l (putA a x.dst (.bool false)) ⟨S2.bx, S2.lv.set L.t (i + 2, 0)⟩ R) : ExI c md P (x :: l) a S R := by
 intro E hE ops l0 Q hco hdef hq act w hA
 obtain ⟨o, l', rfl, hx, hl'⟩ := mapM_cons_inv hco
 obtain ⟨h1, h2, _⟩ := compOper_ok hx
 obtain ⟨G, hI, hR, hg, hk, hd⟩ := hA
 have hgr := hg
 subst hE
 obtain ⟨f1, f2, hfs, hfree⟩ := hL.fs
 obtain ⟨G0, n0, m0, hle0, htz, htv⟩ := hL.rel
 have hmem : Fact.lp L ∈ E.c.fs := by rw [hfs]; simp
 have hlp := hd.x _ hmem
 obtain ⟨hnone, k, hk1, hk2⟩ := hlp
 rw [hr] at hk1
 cases hk1
 have hlt : L.t < E.c.m := E.c.hw _ hmem
 have hlk : L.l < E.c.k := E.c.hk _ hmem
 have hab : E.w.heap.size ≤ L.l := E.hW _ hmem
 have hG0 := (hd.x _ hle0).1
 obtain ⟨sf, sargs, ts, hop, hsf, hsa⟩ := compOp_call (ho ▸ h1)
 have hpl : L.r.params.size = args.length := by
  rw [← Array.length_toList, hL.ps, hps, ← hxs, List.length_map]
 have hk2' : w.heap[L.l]? = some (.loop { L.r with state := .ready, pending := none }) := hk2
 obtain ⟨us, hrun, husz, husv⟩ := yield_run (P := P) (w := w) hop hsf hsa hR.opd hf hk2' hpl
 simp only [wpListIn]
 rw [if_pos (wantedA_ok hx hR hw)]
 refine ⟨fun g _ => md.fn g, ?_⟩
 rw [Oper.semAt_eq _ _ _ (hdef o (by simp)), hrun, Oper.uponIn_round]
 refine ⟨fun hdp => md.depth hdp, ?_⟩
 rw [hxs] at husv
 have husl : us.toList.length = xs.length := by rw [Array.length_toList, husz, ← hxs, List.length_map]
 -- the two contexts
 have hwf : ∀ g ∈ E.c.fs, g.wf S.bx.length S.lv.length := fun g hg' => (E.c.hw g hg').mono hn hd.m
 have hdomA : ∀ b B, G.al b = some B → b < S.bx.length := fun b B h => (hI.dal b B h).1
 have hdomT : ∀ t k v, G.tb t k = some v → t < S.lv.length := fun t k v h => by
  obtain ⟨m, s, h1, _⟩ := hI.dtb t k v h
  exact (List.getElem?_eq_some_iff.1 h1).1
 let ca : Cx := ⟨S.bx.length, S.lv.length, w.heap.size, .le G S.bx.length S.lv.length :: .df E.b w.heap.size E.d act.defers :: E.c.fs, fun g hg' => (by
  rcases List.mem_cons.1 hg' with rfl | hg'
  ·exact ⟨Nat.le_refl _, Nat.le_refl _⟩
  rcases List.mem_cons.1 hg' with rfl | hg'
  ·trivial
  ·exact hwf g hg'), fun g hg' => (by
  rcases List.mem_cons.1 hg' with rfl | hg'
  ·trivial
  rcases List.mem_cons.1 hg' with rfl | hg'
  ·exact Nat.le_refl _
  ·exact (E.c.hk g hg').mono hd.k)⟩
 let cb : Cx := ⟨S.bx.length, S.lv.length, w.heap.size, .le G S.bx.length S.lv.length :: .df E.b w.heap.size E.d act.defers :: (f1 ++ .bz L :: f2), fun g hg' => (by
  rcases List.mem_cons.1 hg' with rfl | hg'
  ·exact ⟨Nat.le_refl _, Nat.le_refl _⟩
  rcases List.mem_cons.1 hg' with rfl | hg'
  ·trivial
  ·rcases List.mem_append.1 hg' with hg' | hg'
   ·exact hwf g (by rw [hfs]; simp [hg'])
   ·rcases List.mem_cons.1 hg' with rfl | hg'
    ·exact (show L.t < S.lv.length from hwf (.lp L) hmem)
    ·exact hwf g (by rw [hfs]; simp [hg'])), fun g hg' => (by
  rcases List.mem_cons.1 hg' with rfl | hg'
  ·trivial
  rcases List.mem_cons.1 hg' with rfl | hg'
  ·exact Nat.le_refl _
  ·rcases List.mem_append.1 hg' with hg' | hg'
   ·exact (E.c.hk g (by rw [hfs]; simp [hg'])).mono hd.k
   ·rcases List.mem_cons.1 hg' with rfl | hg'
    ·exact Nat.lt_of_lt_of_le hlk hd.k
    ·exact (E.c.hk g (by rw [hfs]; simp [hg'])).mono hd.k)⟩
 have hup : ∀ L' a' ps' x' y', LpOk P E.c L' a' ps' x' y' → L'.l ≠ L.l → LpOk P ca L' a' ps' x' y' ∧ LpOk P cb L' a' ps' x' y' := by
  intro L' a' ps' x' y' hL' hne
  obtain ⟨g1, g2, hgs, hgf⟩ := hL'.fs
  obtain ⟨G', n', m', hle', h3, h4⟩ := hL'.rel
  refine ⟨⟨⟨.le G S.bx.length S.lv.length :: .df E.b w.heap.size E.d act.defers :: g1, g2, by show _ :: _ :: E.c.fs = _; rw [hgs]; rfl, fun g hg' => ?_⟩, ⟨G', n', m', List.mem_cons_of_mem _ (List.mem_cons_of_mem _ hle'), h3, h4⟩, hL'.ps, hL'.x, hL'.y⟩, ⟨?_, ⟨G', n', m', ?_, h3, h4⟩, hL'.ps, hL'.x, hL'.y⟩⟩
  ·rcases List.mem_cons.1 hg' with rfl | hg'
   ·trivial
   rcases List.mem_cons.1 hg' with rfl | hg'
   ·trivial
   ·exact hgf g hg'
  ·-- L' among the others
   have hin : Fact.lp L' ∈ f1 ++ f2 := by
    have : Fact.lp L' ∈ E.c.fs := by rw [hgs]; simp
    rw [hfs] at this
    rcases List.mem_append.1 this with h | h
    ·exact List.mem_append_left _ h
    ·rcases List.mem_cons.1 h with h | h
     ·cases h; exact absurd rfl hne
     ·exact List.mem_append_right _ h
   have hfL := hfree _ hin
   have hothers : ∀ g ∈ f1 ++ .bz L :: f2, g ≠ .lp L' → g.free L'.l L'.t := by
    intro g hg' hne'
    have hgE : g = .bz L ∨ g ∈ E.c.fs := by
     rcases List.mem_append.1 hg' with h | h
     ·exact .inr (by rw [hfs]; simp [h])
     ·rcases List.mem_cons.1 h with h | h
      ·exact .inl h
      ·exact .inr (by rw [hfs]; simp [h])
    rcases hgE with rfl | hgE
    ·exact ⟨fun e => hfL.1 e.symm, fun e => hfL.2 e.symm⟩
    ·rw [hgs] at hgE
     rcases List.mem_append.1 hgE with h | h
     ·exact hgf g (List.mem_append_left _ h)
     ·rcases List.mem_cons.1 h with h | h
      ·exact absurd h hne'
      ·exact hgf g (List.mem_append_right _ h)
   -- it stands there once
   have honce : ∃ h1 h2, f1 ++ .bz L :: f2 = h1 ++ .lp L' :: h2 ∧ ∀ g ∈ h1 ++ h2, g ≠ .lp L' := by
    have hE1 : ∀ u v, f1 ++ .lp L :: f2 = u ++ v → True := fun _ _ _ => trivial
    have hg12 : ∀ g ∈ g1 ++ g2, g ≠ .lp L' := fun g hg' e => by
     have := hgf g hg'; rw [e] at this; exact this.1 rfl
    have heq : f1 ++ .lp L :: f2 = g1 ++ .lp L' :: g2 := by rw [← hfs, hgs]
    rcases List.append_eq_append_iff.1 heq with ⟨m, e1, e2⟩ | ⟨m, e1, e2⟩
    ·cases m with
     | nil =>
      simp at e2
      exact absurd (by rw [e2.1]) hne
     | cons q m =>
      simp only [List.cons_append, List.cons.injEq] at e2
      obtain ⟨rfl, e2⟩ := e2
      refine ⟨f1 ++ .bz L :: m, g2, by rw [e2]; simp, fun g hg' => ?_⟩
      simp only [List.mem_append, List.mem_cons] at hg'
      rcases hg' with (hg' | rfl | hg') | hg'
      ·exact hg12 g (by rw [e1]; simp [hg'])
      ·simp
      ·exact hg12 g (by rw [e1]; simp [hg'])
      ·exact hg12 g (by simp [hg'])
    ·cases m with
     | nil =>
      simp at e2
      exact absurd (by rw [← e2.1]) hne
     | cons q m =>
      simp only [List.cons_append, List.cons.injEq] at e2
      obtain ⟨rfl, e2⟩ := e2
      refine ⟨g1, m ++ .bz L :: f2, by rw [e1]; simp, fun g hg' => ?_⟩
      simp only [List.mem_append, List.mem_cons] at hg'
      rcases hg' with hg' | hg' | rfl | hg'
      ·exact hg12 g (by simp [hg'])
      ·exact hg12 g (by rw [e2]; simp [hg'])
      ·simp
      ·exact hg12 g (by rw [e2]; simp [hg'])
   obtain ⟨h1, h2, e1, e2⟩ := honce
   refine ⟨.le G S.bx.length S.lv.length :: .df E.b w.heap.size E.d act.defers :: h1, h2, by show _ :: _ :: (f1 ++ .bz L :: f2) = _; rw [e1]; rfl, fun g hg' => ?_⟩
   rcases List.mem_cons.1 hg' with rfl | hg'
   ·trivial
   rcases List.mem_cons.1 hg' with rfl | hg'
   ·trivial
   ·refine hothers g (by rw [e1]; rcases List.mem_append.1 hg' with h | h <;> simp [h]) (e2 g hg')
  ·rw [hfs] at hle'
   rcases List.mem_append.1 hle' with h | h
   ·exact List.mem_cons_of_mem _ (List.mem_cons_of_mem _ (List.mem_append_left _ h))
   ·rcases List.mem_cons.1 h with h | h
    ·cases h
    ·exact List.mem_cons_of_mem _ (List.mem_cons_of_mem _ (List.mem_append_right _ (List.mem_cons_of_mem _ h)))
 have hEx := h ca cb rfl rfl rfl rfl hup (by show _ ∈ _ :: _ :: (f1 ++ .bz L :: f2); simp)
 -- the assignments
 let Ea : Ent := ⟨E.G, E.S, E.w, [], E.inv, E.lv, ca, Nat.le_trans hk.bl (Nat.le_refl _), fun g hg' => (by
  rcases List.mem_cons.1 hg' with rfl | hg'
  ·trivial
  rcases List.mem_cons.1 hg' with rfl | hg'
  ·trivial
  ·exact E.hW g hg'), w.heap.size, hgr.size⟩
 let Eb : Ent := ⟨E.G, E.S, E.w, [], E.inv, E.lv, cb, Nat.le_trans hk.bl (Nat.le_refl _), fun g hg' => (by
  rcases List.mem_cons.1 hg' with rfl | hg'
  ·trivial
  rcases List.mem_cons.1 hg' with rfl | hg'
  ·trivial
  ·rcases List.mem_append.1 hg' with hg' | hg'
   ·exact E.hW g (by rw [hfs]; simp [hg'])
   ·rcases List.mem_cons.1 hg' with rfl | hg'
    ·exact hab
    ·exact E.hW g (by rw [hfs]; simp [hg'])), w.heap.size, hgr.size⟩
 obtain ⟨hps1, hps2⟩ := setPs_rel ps xs us.toList a0 L.r.tmps husl (fun i x u h1 h2 => husv i x u h1 (by simpa using h2)) htz (fun i z u h1 h2 => (htv i z u h1 h2).mono hG0)
 have hAa : At Ea (setPs a0 ps xs) S { tmps := (ps.zip us.toList).foldl (fun t (p, v) => t.setIfInBounds p v) L.r.tmps, defers := [] } w := by
  refine ⟨G, hI, ⟨hps1, hps2⟩, hg, hk, ⟨⟨[], rfl, .nil, fun _ h => (by cases h)⟩, fun g hg' => ?_, Nat.le_refl _, Nat.le_refl _, Nat.le_refl _⟩⟩
  rcases List.mem_cons.1 hg' with rfl | hg'
  ·exact ⟨.refl G, hdomA, hdomT⟩
  rcases List.mem_cons.1 hg' with rfl | hg'
  ·exact hd.d
  ·exact hd.x g hg'
 refine roundIn_of_wpIn (md.fn _) ?_
 have hz : (L.r.params.zip us).foldl (fun (t : Array Value) (p : Tmp × Value) => t.setIfInBounds p.1 p.2) L.r.tmps = (ps.zip us.toList).foldl (fun t p => t.setIfInBounds p.1 p.2) L.r.tmps := by
  rw [← hL.ps]; exact zip_foldl L.r.params us L.r.tmps
 have hfr : md.F.inRound L.l = Fence.wide.inRound L.l := by cases md <;> rfl
 rw [hfr]
 have hasg := hEx Ea rfl L.r.assign hL.x _ w hAa
 simp only [cwp] at hasg
 change Code.wpIn (Fence.wide.inRound L.l) (md.n - 1) P L.r.assign _ { tmps := (L.r.params.zip us).foldl (fun (t : Array Value) (p : Tmp × Value) => t.setIfInBounds p.1 p.2) L.r.tmps, defers := [] } w
 rw [hz]
 refine wpIn_mono hasg ?_
 rintro e act1 w1 ⟨z, a1, S1, rfl, ⟨rfl, hfl1, hbody⟩, G1, hI1, hR1, hg1, hk1', hd1⟩
 have hf1 : ∀ g ∈ ca.fs, g.ok G1 S1 w1 := hd1.x
 obtain ⟨hn1, k1, hk11, hk12⟩ := hf1 (.lp L) (List.mem_cons_of_mem _ (List.mem_cons_of_mem _ hmem))
 rw [hfl1] at hk11
 cases hk11
 have hk12 : w1.heap[L.l]? = some (.loop { L.r with state := .ready, pending := none }) := hk12
 refine ⟨w1.putObj L.l L.busy, run_beginRound hk12 rfl, ?_⟩
 have hlt1 : L.l < w1.heap.size := (Array.getElem?_eq_some_iff.1 hk12).1
 have hAb : At Eb a1 S1 act1 (w1.putObj L.l L.busy) := by
  refine ⟨G1, hI1.putObj _ hk12 rfl, hR1, hg1.putObj _ hab, hk1', ⟨?_, fun g hg' => ?_, hd1.m, ?_, ?_⟩⟩
  ·refine DefOk.mono (Fact.other (f := .df w.heap.size w1.heap.size [] act1.defers) (S := S1) (G := G1) L.busy hd1.d hk12 trivial) ?_
   simp [World.putObj]
  ·rcases List.mem_cons.1 hg' with rfl | hg'
   ·exact hf1 _ (List.mem_cons_self ..)
   rcases List.mem_cons.1 hg' with rfl | hg'
   ·exact Fact.other L.busy (hf1 _ (List.mem_cons_of_mem _ (List.mem_cons_self ..))) hk12 trivial
   have hoth : ∀ g ∈ f1 ++ f2, g.ok G1 S1 (w1.putObj L.l L.busy) := fun g hg' => by
    have hgE : g ∈ E.c.fs := by
     rw [hfs]
     rcases List.mem_append.1 hg' with h | h <;> simp [h]
    refine Fact.other L.busy (hf1 g (List.mem_cons_of_mem _ (List.mem_cons_of_mem _ hgE))) hk12 ?_
    have := hfree g hg'
    cases g <;> first | trivial | exact this.1
   rcases List.mem_append.1 hg' with hg' | hg'
   ·exact hoth g (List.mem_append_left _ hg')
   ·rcases List.mem_cons.1 hg' with rfl | hg'
    ·exact ⟨hn1, hfl1, World.putObj_heap_same hlt1⟩
    ·exact hoth g (List.mem_append_right _ hg')
  ·show w.heap.size ≤ _
   have := hd1.k
   simp only [World.putObj, Array.size_setIfInBounds]
   exact this
  ·have := hd1.b
   simp only [World.putObj, Array.size_setIfInBounds]
   exact this
 have hbod := hbody Eb rfl L.r.body hL.y act1 _ hAb
 simp only [cwp] at hbod
 refine wpIn_mono hbod ?_
 rintro e act2 w3 ⟨z, a2, S2, rfl, hz, G2, hI2, hR2, hg2, hk2', hd2⟩
 have hf2 : ∀ g ∈ cb.fs, g.ok G2 S2 w3 := hd2.x
 obtain ⟨hn2, hfl2, hbz⟩ := hf2 (.bz L) (by show _ ∈ _ :: _ :: (f1 ++ .bz L :: f2); simp)
 have hle2 : G.le G2 := (hf2 _ (List.mem_cons_self ..)).1
 have hdf2 : DefOk E.b w.heap.size E.d act.defers w3 := hf2 _ (List.mem_cons_of_mem _ (List.mem_cons_self ..))
 have hlt3 : L.l < w3.heap.size := (Array.getElem?_eq_some_iff.1 hbz).1
 have htl : L.t < S2.lv.length := (List.getElem?_eq_some_iff.1 hfl2).1
 have fin : ∀ (k : Nat) (b : Bool), At E (putA a x.dst (.bool b)) ⟨S2.bx, S2.lv.set L.t (k, 0)⟩ (act.put o.dst (.bool b)) (w3.putObj L.l (L.obj k)) := by
  intro k b
  refine ⟨G2, (hI2.putObj _ hbz rfl).flag _ hn2, h2 ▸ (hR.mono hle2).put x.dst (.bool b), (hg2.putObj _ hab).flag _ hn2, ⟨hk2'.bl, by rw [E.lv]; exact Nat.zero_le _, hk2'.al, hk2'.tb, fun t ht => absurd ht (E.tb0 t)⟩, ⟨?_, fun g hg' => ?_, ?_, ?_, ?_⟩⟩
  ·have hd' : DefOk E.b w.heap.size E.d act.defers (w3.putObj L.l (L.obj k)) := Fact.other (f := .df E.b w.heap.size E.d act.defers) (S := S2) (G := G2) (L.obj k) hdf2 hbz trivial
   have hsz : w.heap.size ≤ (w3.putObj L.l (L.obj k)).heap.size := by
    have := hd2.b
    simp only [World.putObj, Array.size_setIfInBounds]
    exact this
   cases o.dst <;> exact hd'.mono hsz
  ·have hoth : ∀ g ∈ f1 ++ f2, g.ok G2 ⟨S2.bx, S2.lv.set L.t (k, 0)⟩ (w3.putObj L.l (L.obj k)) := fun g hg' => by
    have hin : g ∈ cb.fs := by
     show g ∈ _ :: _ :: (f1 ++ .bz L :: f2)
     rcases List.mem_append.1 hg' with h | h <;> simp [h]
    have hfr := hfree g hg'
    refine Fact.flag _ (Fact.other (L.obj k) (hf2 g hin) hbz ?_) ?_
    ·cases g <;> first | trivial | exact hfr.1
    ·cases g <;> first | trivial | exact hfr.2
   rw [hfs] at hg'
   rcases List.mem_append.1 hg' with hg' | hg'
   ·exact hoth g (List.mem_append_left _ hg')
   ·rcases List.mem_cons.1 hg' with rfl | hg'
    ·exact ⟨hn2, k, List.getElem?_set_self htl, World.putObj_heap_same hlt3⟩
    ·exact hoth g (List.mem_append_right _ hg')
  ·show E.c.m ≤ (S2.lv.set L.t (k, 0)).length
   rw [List.length_set]
   exact Nat.le_trans hd.m hd2.m
  ·have := hd2.k
   simp only [World.putObj, Array.size_setIfInBounds]
   exact Nat.le_trans hd.k this
  ·have := hd2.b
   simp only [World.putObj, Array.size_setIfInBounds]
   exact Nat.le_trans hd.b this
 have hset0 : S2.lv.set L.t (0, 0) = S2.lv := by
  apply List.ext_getElem?
  intro i
  rw [List.getElem?_set]
  split
  ·rename_i hti
   subst hti
   first | rw [if_pos htl, hfl2] | rw [hfl2]
  ·rfl
 have hdef' : ∀ o ∈ l', ∀ d, o.op ≠ .defer d := fun o ho => hdef o (List.mem_cons_of_mem _ ho)
 cases z with
 | norm =>
  refine ⟨.bool true, w3.putObj L.l (L.obj 0), run_endRound (r := { L.r with state := .busy, pending := none }) none hbz, ?_⟩
  have hA3 := fin 0 true
  rw [hset0] at hA3
  exact hz E rfl ops l' Q hl' hdef' hq _ _ hA3
 | ret =>
  refine ⟨.bool false, w3.putObj L.l (L.obj 1), run_endRound (r := { L.r with state := .busy, pending := none }) (some .ret) hbz, ?_⟩
  exact hz E rfl ops l' Q hl' hdef' hq _ _ (fin 1 false)
 | ex i =>
  refine ⟨.bool false, w3.putObj L.l (L.obj (i + 2)), run_endRound (r := { L.r with state := .busy, pending := none }) (some (.exit i)) hbz, ?_⟩
  exact hz E rfl ops l' Q hl' hdef' hq _ _ (fin (i + 2) false)
end rules
end Go.Proofs.Ytdmfnhamipmmnaa
end
section
namespace Go.Proofs.Ytdmfnhamipmmnaa
open Go.RowKit
set_option linter.unusedVariables false
set_option linter.unusedSimpArgs false

theorem compFn_inv {P : Program} {f : FuncId} {F : AFn} (hF : compFn P f = some F) : ∃ fn c, P.funcs[f]? = some fn ∧ fn.body = some c ∧ fn.results.toList.mapM (compRes P) = some F.res ∧ compCode P c = some F.code ∧ F.ntmps = fn.ntmps ∧ ∀ us w, (callFunc f us).run P w = .ok (.enter f us) w := by
 unfold compFn at hF
 split at hF
 ·rename_i fn hf
  split at hF
  ·rename_i c rs hb hrs
   split at hF
   ·rename_i ac hac
    split at hF
    ·cases hF
    ·rename_i hname
     cases hF
     refine ⟨fn, c, hf, hb, hrs, hac, rfl, fun us w => ?_⟩
     simp only [callFunc, program, Sem.run, hf, Sem.run_bind, Result.andThen_ok, hname, hb]
     rfl
   ·cases hF
  ·cases hF
 ·cases hF
theorem start_rel {G : Gh} {F : AFn} {xs : List AV} {us : Array Value} {n : Nat} (hn : F.ntmps = n) (hvs : VRs G xs us) : Rel G (start F xs) { tmps := us ++ Array.replicate (n - us.size) undef, defers := [] } := by
 subst hn
 refine ⟨by simp [start, hvs.1], fun i y u hy hu => ?_⟩
 simp only [start] at hy
 simp only at hu
 rw [List.getElem?_append] at hy
 rw [Array.getElem?_append, hvs.1] at hu
 split at hy
 ·rename_i hlt
  rw [if_pos hlt] at hu
  exact hvs.2 i y u hy hu
 ·rename_i hlt
  rw [if_neg hlt] at hu
  have e1 := List.eq_of_mem_replicate (List.mem_of_getElem? hy)
  have e2 : u ∈ (Array.replicate (F.ntmps - xs.length) undef) := Array.mem_of_getElem? hu
  have e3 := (Array.mem_replicate.1 e2).2
  rw [e1, e3]
  exact .undef G

def exitOf : Nat → AEx
 | 0 => .norm
 | 1 => .ret
 | i + 2 => .ex i
theorem jump_wpIn {F : Fence} {n : Nat} {P : Program} {Q : Exit → Act → World → Prop} {a : Act} {w : World} (k : Nat) (h : Q (exitOf (k + 1)).out a w) : (jumpOf k).wpIn F n P Q a w := by
 cases k with
 | zero => exact wpIn_ret h
 | succ i => exact wpIn_exit h

section rules
variable {c : Cx} {md : Md} {P : Program} {a : List AV} {S : St} {Q : AEx → List AV → St → Prop} {R : List AV → St → Prop}

theorem Ex.rangeF {g : AOpd} {ps : List Nat} {x y : ACode} (f : FuncId) (caps : List AV) (F : AFn) (hg0 : evd a g = .fn f [] caps) (hF : compFn P f = some F) (hres : F.res = []) (hn : c.n ≤ S.bx.length) (hmd : match md with | .plain => True | .round l _ => ∃ L, Fact.bz L ∈ c.fs ∧ L.l = l)
  (h : ∀ (c1 : Cx) (L : Lp), c1.n = S.bx.length → c1.m = S.lv.length + 1 → L.t = S.lv.length → LpOk P c1 L a ps x y → (∀ L' a' ps' x' y', LpOk P c L' a' ps' x' y' → L'.l ≠ L.l ∧ LpOk P c1 L' a' ps' x' y') →
    Ex c1 .plain P F.code (start F (.yld L.l S.lv.length :: caps)) ⟨S.bx, S.lv ++ [(0, 0)]⟩ fun z a' S' => (z = .norm ∨ z = .ret) ∧ ∃ k, S'.lv[S.lv.length]? = some (k, 0) ∧ Q (exitOf k) a S') : Ex c md P (.rangeF g ps x y) a S Q := by
 intro E hE code hco act w hA
 subst hE
 obtain ⟨g', ps', x', y', rfl, hg', hps, hx, hy⟩ := compCode_rangeF hco
 obtain ⟨G, hI, hR, hgr, hk, hd⟩ := hA
 have hv := hR.opd g' g hg'
 rw [hg0] at hv
 obtain ⟨vs, us, hval, hvp, hvc⟩ := hv.inv_fn
 have hvs0 : vs = #[] := Array.eq_empty_of_size_eq_zero hvp.1
 subst hvs0
 obtain ⟨fn, c1, hf, hb, hrs, hac, hnt, hen⟩ := compFn_inv hF
 refine cwp_of_in (wpIn_rangeFunc ?_)
 intro fn0 hfn0
 obtain ⟨l, mk, dD, W1, hent, hrec, hwl, hI1, hg1, hmk⟩ : ∃ (l : Nat) (mk : List Nat) (dD : Nat) (W1 : World), (Instr.enterLoop fn0 act.tmps ps' x' y' md.F.round).run P w = .ok (l, mk.map markOf) W1 ∧ W1.heap[l]? = some (.loop { state := .ready, pending := none, fn := fn0, tmps := act.tmps, params := ps', assign := x', body := y', defers := dD }) ∧ w.heap.size ≤ l ∧ Inv G S W1 ∧ Gro G S w G S W1 ∧ (mk.Nodup ∧ ∀ D ∈ mk, w.heap.size ≤ D ∧ W1.heap[D]? = some (.deferred (some []))) := by
  cases md with
  | plain =>
   refine ⟨w.heap.size + 1, [w.heap.size], w.heap.size, _, run_enterLoop_outer fn0 act.tmps ps' x' y', ?_, by omega, (hI.allocO _).allocO _, (Gro.allocO G S w _).trans (Gro.allocO G S _ _), by simp, fun D hD => ?_⟩
   ·have := World.alloc_heap_new (w.alloc (.deferred (some []))) (.loop { state := .ready, pending := none, fn := fn0, tmps := act.tmps, params := ps', assign := x', body := y', defers := w.heap.size })
    rwa [World.size_alloc] at this
   ·have hD : D = w.heap.size := by simpa using hD
    subst hD
    exact ⟨Nat.le_refl _, (Below.heap_alloc _ _ _ (by simp)).trans (World.alloc_heap_new w _)⟩
  | round l0 n0 =>
   obtain ⟨L0, hL0, rfl⟩ := hmd
   obtain ⟨_, _, hbz⟩ := hd.x _ hL0
   exact ⟨w.heap.size, [], _, _, run_enterLoop_inner hbz fn0 act.tmps ps' x' y', World.alloc_heap_new w _, Nat.le_refl _, hI.allocO _, Gro.allocO G S w _, .nil, fun D hD => by cases hD⟩
 obtain ⟨r, hr⟩ : ∃ r : Loop, r = { state := .ready, pending := none, fn := fn0, tmps := act.tmps, params := ps', assign := x', body := y', defers := dD } := ⟨_, rfl⟩
 rw [← hr] at hrec
 have hlW : l < W1.heap.size := (Array.getElem?_eq_some_iff.1 hrec).1
 have hrt : r.tmps = act.tmps := by rw [hr]
 let L : Lp := ⟨l, S.lv.length, r⟩
 have hobj0 : L.obj 0 = .loop r := by rw [hr]; show Obj.loop _ = _; simp only [L, hr]
 have hdW : DefOk E.b W1.heap.size E.d (mk.map markOf ++ act.defers) W1 := by
  obtain ⟨Ds, h1, h2, h3⟩ := (hd.d.oth hg1.oth)
  refine ⟨mk ++ Ds, by rw [h1, List.map_append, List.append_assoc], List.nodup_append.2 ⟨hmk.1, h2, fun D hD D' hD' e => ?_⟩, fun D hD => ?_⟩
  ·subst e
   have := (hmk.2 D hD).1
   have := (h3 D hD').1.2
   omega
  ·rcases List.mem_append.1 hD with hD | hD
   ·exact ⟨⟨Nat.le_trans hd.b (hmk.2 D hD).1, (Array.getElem?_eq_some_iff.1 (hmk.2 D hD).2).1⟩, (hmk.2 D hD).2⟩
   ·exact ⟨⟨(h3 D hD).1.1, Nat.lt_of_lt_of_le (h3 D hD).1.2 hg1.size⟩, (h3 D hD).2⟩
 have hbel : ∀ f' ∈ E.c.fs, f'.below l := fun f' hf' => (E.c.hk f' hf').mono (Nat.le_trans hd.k hwl)
 let cc : Cx := ⟨S.bx.length, S.lv.length + 1, W1.heap.size, .le G S.bx.length S.lv.length :: .df E.b W1.heap.size E.d (mk.map markOf ++ act.defers) :: .lp L :: E.c.fs, fun f' hf' => (by
  rcases List.mem_cons.1 hf' with rfl | hf'
  ·exact ⟨Nat.le_refl _, Nat.le_succ _⟩
  rcases List.mem_cons.1 hf' with rfl | hf'
  ·trivial
  rcases List.mem_cons.1 hf' with rfl | hf'
  ·exact Nat.lt_succ_self _
  ·exact (E.c.hw f' hf').mono hn (Nat.le_succ_of_le hd.m)), fun f' hf' => (by
  rcases List.mem_cons.1 hf' with rfl | hf'
  ·trivial
  rcases List.mem_cons.1 hf' with rfl | hf'
  ·exact Nat.le_refl _
  rcases List.mem_cons.1 hf' with rfl | hf'
  ·exact hlW
  ·exact (hbel f' hf').mono (Nat.le_of_lt hlW))⟩
 have hfree : ∀ f' ∈ E.c.fs, f'.free l S.lv.length := fun f' hf' => by
  have h1 := hbel f' hf'
  have h2 := E.c.hw f' hf'
  have h3 := hd.m
  cases f' with
  | lp L' => exact ⟨Nat.ne_of_lt h1, Nat.ne_of_lt (Nat.lt_of_lt_of_le h2 h3)⟩
  | bz L' => exact ⟨Nat.ne_of_lt h1, Nat.ne_of_lt (Nat.lt_of_lt_of_le h2 h3)⟩
  | _ => trivial
 have hLok : LpOk P cc L a ps x y := by
  refine ⟨⟨[.le G S.bx.length S.lv.length, .df E.b W1.heap.size E.d (mk.map markOf ++ act.defers)], E.c.fs, rfl, fun f' hf' => ?_⟩, ⟨G, S.bx.length, S.lv.length, List.mem_cons_self .., by show r.tmps.size = _; rw [hrt]; exact hR.size, fun i z u hz hu => ?_⟩, by show r.params.toList = ps; rw [hr]; exact hps, by show compCode P r.assign = _; rw [hr]; exact hx, by show compCode P r.body = _; rw [hr]; exact hy⟩
  ·rcases List.mem_append.1 hf' with hf' | hf'
   ·simp only [List.mem_cons, List.not_mem_nil, or_false] at hf'
    rcases hf' with rfl | rfl <;> trivial
   ·exact hfree f' hf'
  ·have hu : r.tmps[i]? = some u := hu
   rw [hrt] at hu
   exact hR.slot i z u hz hu
 have hup : ∀ L' a' ps' x' y', LpOk P E.c L' a' ps' x' y' → L'.l ≠ L.l ∧ LpOk P cc L' a' ps' x' y' := by
  intro L' a' ps' x' y' hL'
  obtain ⟨g1, g2, hgs, hgf⟩ := hL'.fs
  obtain ⟨G', n', m', hle', h3, h4⟩ := hL'.rel
  have hin : Fact.lp L' ∈ E.c.fs := by rw [hgs]; simp
  have hfr := hfree _ hin
  refine ⟨hfr.1, ⟨.le G S.bx.length S.lv.length :: .df E.b W1.heap.size E.d (mk.map markOf ++ act.defers) :: .lp L :: g1, g2, by show _ :: _ :: _ :: E.c.fs = _; rw [hgs]; rfl, fun f' hf' => ?_⟩, ⟨G', n', m', List.mem_cons_of_mem _ (List.mem_cons_of_mem _ (List.mem_cons_of_mem _ hle')), h3, h4⟩, hL'.ps, hL'.x, hL'.y⟩
  rcases List.mem_cons.1 hf' with rfl | hf'
  ·trivial
  rcases List.mem_cons.1 hf' with rfl | hf'
  ·trivial
  rcases List.mem_cons.1 hf' with rfl | hf'
  ·exact ⟨fun e => hfr.1 e.symm, fun e => hfr.2 e.symm⟩
  ·exact hgf f' hf'
 have hEx := h cc L rfl rfl rfl hLok hup
 let E1 : Ent := ⟨E.G, E.S, E.w, [], E.inv, E.lv, cc, hk.bl, fun f' hf' => (by
  rcases List.mem_cons.1 hf' with rfl | hf'
  ·trivial
  rcases List.mem_cons.1 hf' with rfl | hf'
  ·trivial
  rcases List.mem_cons.1 hf' with rfl | hf'
  ·exact Nat.le_trans hgr.size hwl
  ·exact E.hW f' hf'), W1.heap.size, Nat.le_trans hgr.size hg1.size⟩
 obtain ⟨k1, k2, k3, k4⟩ := add_ahead hI1 [] [(0, 0)]
 rw [List.append_nil] at k1 k2
 have hvrs : VRs G (.yld l S.lv.length :: caps) (#[.func (.yield l) #[] #[]] ++ us) := by
  refine ⟨by simp [hvc.1]; omega, fun i z u hz hu => ?_⟩
  cases i with
  | zero =>
   rw [Array.getElem?_append_left (by simp)] at hu
   simp at hz hu
   subst hz; subst hu
   exact .yld _ _
  | succ i =>
   rw [Array.getElem?_append_right (by simp)] at hu
   exact hvc.2 i z u (by simpa using hz) (by simpa using hu)
 have hA1 : At E1 (start F (.yld l S.lv.length :: caps)) ⟨S.bx, S.lv ++ [(0, 0)]⟩ { tmps := (#[Value.func (.yield l) #[] #[]] ++ us) ++ Array.replicate (fn.ntmps - (#[Value.func (.yield l) #[] #[]] ++ us).size) undef, defers := [] } W1 := by
  refine ⟨G, k1, start_rel hnt hvrs, (hgr.trans hg1).trans k2, ⟨hk.bl, by rw [show E1.S = E.S from rfl, E.lv]; exact Nat.zero_le _, hk.al, hk.tb, fun t ht => absurd ht (E.tb0 t)⟩, ⟨⟨[], rfl, .nil, fun _ h => (by cases h)⟩, fun f' hf' => ?_, by show S.lv.length + 1 ≤ _; simp, Nat.le_refl _, Nat.le_refl _⟩⟩
  rcases List.mem_cons.1 hf' with rfl | hf'
  ·exact ⟨.refl G, fun b B h => (hI.dal b B h).1, fun t k v h => by
    obtain ⟨m, s, h1, _⟩ := hI.dtb t k v h
    exact (List.getElem?_eq_some_iff.1 h1).1⟩
  rcases List.mem_cons.1 hf' with rfl | hf'
  ·exact hdW
  rcases List.mem_cons.1 hf' with rfl | hf'
  ·exact ⟨fun n => k4 _ n (Nat.le_refl _), 0, (by show (S.lv ++ [(0, 0)])[S.lv.length]? = some (0, 0); simp), by rw [hobj0]; exact hrec⟩
  ·exact Fact.step (Fact.step (hd.x f' hf') hg1 (.refl G S)) k2 ⟨Nat.le_refl _, by simp, fun _ _ h => h, fun _ _ h => h, fun t ht _ => List.getElem?_append_left ht⟩
 refine ⟨l, mk.map markOf, W1, { target := .fn (.func f) us, args := #[.func (.yield l) #[] #[]] }, W1, f, #[.func (.yield l) #[] #[]] ++ us, W1, hent, ?_, fun f' _ => md.fn f', ?_, fun hdp => md.depth hdp, ?_⟩
 ·simp only [resolve, hval]
  simp [go_sem]
 ·simp [invoke, go_sem, hen]
 refine callsIn_md md (calls_of_marks hf hb (wp_mono (hEx E1 rfl c1 hac _ W1 hA1) ?_))
 rintro e act' w' ⟨z, a', S', rfl, ⟨hz, k, hk1, hq⟩, G', hI', hR', hg', hk', hd'⟩
 have hfs : ∀ f' ∈ cc.fs, f'.ok G' S' w' := hd'.x
 obtain ⟨Ds, e1, e2, e3⟩ := hd'.d
 have e1 : act'.defers = Ds.map markOf := by rw [e1]; exact List.append_nil _
 have hI2 := hI'.shut e2 fun D hD => (e3 D hD).2
 have hg2 := hg'.shut fun D hD => Nat.le_trans E1.hb (e3 D hD).1.1
 have hrs0 : evRes a' S' F.res = some (.tup []) := by rw [hres]; rfl
 obtain ⟨u, hu, _⟩ := res_ok hI2 hR' hrs hrs0
 refine ⟨by rcases hz with rfl | rfl <;> simp [AEx.out], Ds, e1, e2, fun D hD => (e3 D hD).2, u, hu, ?_⟩
 -- the loop's end
 obtain ⟨hn3, k', hk2, hk3⟩ := hfs (.lp L) (by show _ ∈ _ :: _ :: _ :: E.c.fs; simp)
 have hk2 : S'.lv[S.lv.length]? = some (k', 0) := hk2
 rw [hk1] at hk2
 cases hk2
 have hlD : l ∉ Ds := fun hm => by
  have h1 := (e3 l hm).2
  have h2 : w'.heap[l]? = some (L.obj k) := hk3
  rw [h1] at h2
  cases k <;> cases h2
 have hk3' : (shutW w' Ds).heap[l]? = some (L.obj k) := (shut_heap.2.2.2.2 l hlD).trans hk3
 have hle : G.le G' := (hfs _ (List.mem_cons_self ..)).1
 have hdf : DefOk E.b W1.heap.size E.d (mk.map markOf ++ act.defers) w' := hfs _ (List.mem_cons_of_mem _ (List.mem_cons_self ..))
 have hsz2 : (shutW w' Ds).heap.size = w'.heap.size := shut_heap.1
 have hW1w : W1.heap.size ≤ w'.heap.size := hd'.b
 have fin : ∀ (o' o : Obj) (r' : Loop), o = .loop r' → (shutW w' Ds).heap[l]? = some o → At E a S' { act with defers := mk.map markOf ++ act.defers } ((shutW w' Ds).putObj l o') := by
  rintro o' o r' rfl ho
  refine ⟨G', hI2.putObj _ ho rfl, ⟨hR.size, fun i y u h1 h2 => (hR.slot i y u h1 h2).mono hle⟩, hg2.putObj _ (Nat.le_trans hgr.size hwl), ⟨hk'.bl, by rw [E.lv]; exact Nat.zero_le _, hk'.al, hk'.tb, fun t ht => absurd ht (E.tb0 t)⟩, ⟨?_, fun f' hf' => ?_, ?_, ?_, ?_⟩⟩
  ·obtain ⟨Dc, d1, d2, d3⟩ := hdf
   refine ⟨Dc, d1, d2, fun D hD => ⟨⟨(d3 D hD).1.1, ?_⟩, ?_⟩⟩
   ·have := (d3 D hD).1.2
    simp only [World.putObj, Array.size_setIfInBounds, hsz2]
    omega
   ·have h4 := (d3 D hD).2
    have hnD : D ∉ Ds := fun hm => by
     have := (d3 D hD).1.2
     have : W1.heap.size ≤ D := (e3 D hm).1.1
     omega
    have h5 : (shutW w' Ds).heap[D]? = some (.deferred (some [])) := (shut_heap.2.2.2.2 D hnD).trans h4
    rw [World.putObj_heap_other]
    ·exact h5
    ·rintro rfl; rw [ho] at h5; cases h5
  ·-- what the activation keeps
   have hin : f'.ok G' S' w' := hfs f' (by show _ ∈ _ :: _ :: _ :: E.c.fs; simp [hf'])
   have hfr := hfree f' hf'
   have hbl := hbel f' hf'
   refine Fact.other o' (l := l) (r := r') ?_ ho (by cases f' <;> first | trivial | exact hfr.1)
   -- its own marks are shut
   cases f' with
   | le G0 n m => exact hin
   | lp L' =>
    refine ⟨hin.1, hin.2.imp fun kk hkk => ⟨hkk.1, (shut_heap.2.2.2.2 _ fun hm => ?_).trans hkk.2⟩⟩
    have h1 := (e3 _ hm).2
    rw [hkk.2] at h1
    cases kk <;> cases h1
   | bz L' =>
    refine ⟨hin.1, hin.2.1, (shut_heap.2.2.2.2 _ fun hm => ?_).trans hin.2.2⟩
    have h1 := (e3 _ hm).2
    rw [hin.2.2] at h1
    cases h1
   | df n u' d l' =>
    obtain ⟨Dc, d1, d2, d3⟩ := hin
    refine ⟨Dc, d1, d2, fun D hD => ⟨(d3 D hD).1, ?_⟩⟩
    refine (shut_heap.2.2.2.2 D fun hm => ?_).trans (d3 D hD).2
    have h1 : W1.heap.size ≤ D := (e3 D hm).1.1
    have h2 := (d3 D hD).1.2
    have h3 : u' ≤ E.c.k := E.c.hk _ hf'
    have h4 := hd.k
    have h5 := hg1.size
    omega
  ·exact Nat.le_trans hd.m (Nat.le_trans (Nat.le_succ _) hd'.m)
  ·have := hd.k
   simp only [World.putObj, Array.size_setIfInBounds, hsz2]
   have := hg1.size
   omega
  ·have := hd.b
   simp only [World.putObj, Array.size_setIfInBounds, hsz2]
   have := hg1.size
   omega
 cases k with
 | zero =>
  refine ⟨none, _, run_endLoop (r := { L.r with state := .ready, pending := none }) hk3' (by simp), ?_⟩
  exact ⟨.norm, a, S', rfl, hq, fin _ _ _ rfl hk3'⟩
 | succ k =>
  refine ⟨some (jumpOf k), _, run_endLoop (r := { L.r with state := .done, pending := some (jumpOf k) }) hk3' (by simp), ?_⟩
  exact jump_wpIn k ⟨exitOf (k + 1), a, S', rfl, hq, fin _ _ _ rfl hk3'⟩
end rules
end Go.Proofs.Ytdmfnhamipmmnaa
end
section
namespace Go.Proofs.Ytdmfnhamipmmnaa
open Go.RowKit
set_option linter.unusedVariables false
set_option linter.unusedSimpArgs false

section rules
variable {c : Cx} {md : Md} {P : Program} {a : List AV} {S : St} {Q : AEx → List AV → St → Prop} {R : List AV → St → Prop}

theorem ExI.op {X : Clr} (hX : ClrOk P X) {x : AOper} {xs : List AOper} {v : AV} {S1 : St} (hw : wantedA x.guard a = some true) (hv : evOp X x.op a S = some (v, S1)) (h : ExI c md P xs (putA a x.dst v) S1 R) : ExI c md P (x :: xs) a S R :=
 ExI.pre (xs := [x]) (ys := xs) (ExO.op hX hw hv (ExO.nil h))
theorem ExI.skip {x : AOper} {xs : List AOper} (hw : wantedA x.guard a = some false) (h : ExI c md P xs (putA a x.dst (.tup [])) S R) : ExI c md P (x :: xs) a S R :=
 ExI.pre (xs := [x]) (ys := xs) (ExO.skip hw (ExO.nil h))
theorem ExI.forget {a2 : List AV} {S2 : St} {xs : List AOper} (hf : Forgets c a S a2 S2) (h : ExI c md P xs a2 S2 R) : ExI c md P xs a S R := fun E hE ops l Q hl hd hq act w hA => h E hE ops l Q hl hd hq act w (hf E hE act w hA)
theorem ExI.one {x : AOper} {xs : List AOper} (h : ExO c P [x] a S fun a1 S1 => ExI c md P xs a1 S1 R) : ExI c md P (x :: xs) a S R := ExI.pre (xs := [x]) (ys := xs) h

theorem Ex.two {ca cb : Cx} {x y : ACode} {t0 : Nat} (J : AEx → St → Prop) (h : Ex ca md P x a S fun z a1 S1 => z = .norm ∧ S1.lv[t0]? = some (0, 0) ∧ Ex cb md P y a1 S1 fun z a2 S2 => ∃ a3 S3, Forgets cb a2 S2 a3 S3 ∧ J z S3) (k : ∀ z a2 S2, J z S2 → Q z a2 S2) : Ex ca md P x a S fun z a1 S1 => z = .norm ∧ S1.lv[t0]? = some (0, 0) ∧ Ex cb md P y a1 S1 Q := by
 refine h.mono ?_
 rintro z a1 S1 ⟨h1, h2, h3⟩
 refine ⟨h1, h2, Ex.postF (h3.mono ?_)⟩
 rintro z a2 S2 ⟨a3, S3, hf, hJ⟩
 exact ⟨a3, S3, hf, k z a3 S3 hJ⟩
end rules
end Go.Proofs.Ytdmfnhamipmmnaa
end
section
namespace Go.Proofs.Ytdmfnhamipmmnaa
open Go.RowKit
set_option linter.unusedVariables false
set_option linter.unusedSimpArgs false

structure TokT where
 f : FuncId
 gs : List AV
 pre : List AV
 els : List AV
 post : List AV
 n : Nat
 s : Nat
def valT (r : TokT) (t : Nat) : AV := .agg (r.pre ++ .sl r.els (some t) :: r.post)
def TokTOk (P : Program) (r : TokT) : Prop := DoesT P r.f r.gs (fun v lv => ∃ t, v = valT r t ∧ lv[t]? = some (r.n, r.s)) ∧ cleanL r.els = true ∧ r.els.length = r.n ∧ (∀ x ∈ r.pre, scal x = true) ∧ (∀ x ∈ r.post, scal x = true)
theorem mid_get {pre post : List AV} {a x : AV} {i : Nat} (h : (pre ++ a :: post)[i]? = some x) : (i = pre.length ∧ x = a) ∨ ((x ∈ pre ∨ x ∈ post) ∧ ∀ b, (pre ++ b :: post)[i]? = some x) := by
 by_cases hi : i < pre.length
 ·rw [List.getElem?_append_left hi] at h
  exact .inr ⟨.inl (List.mem_of_getElem? h), fun b => by rw [List.getElem?_append_left hi]; exact h⟩
 ·rw [List.getElem?_append_right (by omega)] at h
  obtain ⟨k, hk⟩ : ∃ k, i - pre.length = k := ⟨_, rfl⟩
  rw [hk] at h
  cases k with
  | zero =>
   simp only [List.getElem?_cons_zero, Option.some.injEq] at h
   exact .inl ⟨by omega, h.symm⟩
  | succ k =>
   rw [List.getElem?_cons_succ] at h
   exact .inr ⟨.inr (List.mem_of_getElem? h), fun b => by rw [List.getElem?_append_right (by omega), hk, List.getElem?_cons_succ]; exact h⟩
theorem mid_at (pre post : List AV) (a : AV) : (pre ++ a :: post)[pre.length]? = some a := by simp
end Go.Proofs.Ytdmfnhamipmmnaa
end
section
namespace Go.Proofs.Ytdmfnhamipmmnaa
open Go.RowKit
set_option linter.unusedVariables false
set_option linter.unusedSimpArgs false

theorem own_ms {S : St} {G Gc : Gh} {w w' : World} {bx : List (List AV)} {lv : List (Nat × Nat)} {els : List AV} {t n s : Nat} {u : Value} (hI : Inv G S w) (hI' : Inv Gc ⟨bx, lv⟩ w') (hg : Gro (G.sub []) ⟨[], []⟩ w Gc ⟨bx, lv⟩ w')
  (hv : VR Gc (.sl els (some t)) u) (hlv : lv[t]? = some (n, s)) (hl : els.length = n) (hs : 0 < s) (hcl : ∀ e ∈ els, e.cells.length = s) (hsc : (flat els).all scal = true) :
  ∃ G2, G.le G2 ∧ VR G2 (.ms S.bx.length n s) u ∧ Inv G2 ⟨S.bx ++ [flat els], S.lv⟩ w' ∧ Gro G S w G2 ⟨S.bx ++ [flat els], S.lv⟩ w' ∧ Keep G S G2 ⟨S.bx ++ [flat els], S.lv⟩ := by
 by_cases hn : 0 < n
 ·exact own_box hI hI' hg hv hlv hl hn hs hcl hsc
 obtain rfl : n = 0 := by omega
 obtain rfl := List.eq_nil_of_length_eq_zero hl
 have hvr : ∀ G2 : Gh, VR G2 (.ms S.bx.length 0 s) u := by
  intro G2
  cases hv with
  | slt _ _ s' B c us hb hn' hs' hf hv => exact .ms0 _ _ _ _
  | slt0 _ hb => exact .ms0 _ _ _ _
 have hno : ∀ B, ¬ Owned (G.sub []) ⟨[], []⟩ B := by
  rintro B (⟨b, hb⟩ | ⟨t, n, s0, s, c, h1, _⟩)
  ·simp [Gh.sub] at hb
  ·simp at h1
 have hfr : ∀ k, k < w.heap.size → w'.heap[k]? = w.heap[k]? := fun k hk => (hg.fr k hk (hno k)).1
 have hfzlt : ∀ k o v, G.fz k o = some v → k < w.heap.size := by
  intro k o v h
  have := hI.fz k o v h
  cases hh : w.heap[k]? with
  | none => simp [World.cell?, hh] at this
  | some r => exact (Array.getElem?_eq_some_iff.1 hh).1
 refine ⟨G, .refl G, hvr G, ⟨?_, ?_, ?_, ?_, ?_, ?_, ?_, ?_⟩, ⟨.refl G, hg.os, hg.tape, hg.output, hg.size, ?_, ?_, hg.oth⟩, ⟨?_, Nat.le_refl _, ?_, ?_, fun _ _ _ => rfl⟩⟩
 ·intro b B' cs hb hcs
  have hlt' := (hI.dal b B' hb).1
  rw [List.getElem?_append_left hlt'] at hcs
  rcases hI.box b B' cs hb hcs with rfl | ⟨us', T', k1, k2, k3, k4⟩
  ·exact .inl rfl
  ·exact .inr ⟨us', T', by rw [hfr B' (hI.dal b B' hb).2]; exact k1, k2, k3, k4⟩
 ·intro t' k s0 B' s' c' h1 h2
  obtain ⟨k1, ⟨us', T', k2, k3⟩, k4, k5⟩ := hI.tok t' k s0 B' s' c' h1 h2
  exact ⟨k1, ⟨us', T', by rw [hfr B' (hI.toklt h1 h2)]; exact k2, k3⟩, k4, k5⟩
 ·intro k o v h
  rw [cell_of_heap (hfr k (hfzlt k o v h))]
  exact hI.fz k o v h
 ·intro b B' hb
  exact ⟨by have := (hI.dal b B' hb).1; simp; omega, Nat.lt_of_lt_of_le (hI.dal b B' hb).2 hg.size⟩
 ·intro t' k v h
  exact hI.dtb t' k v h
 ·exact hI.injA
 ·exact hI.injT
 ·exact hI.sep
 ·intro B' hB' _
  exact ⟨hfr B' hB', fun o => rfl⟩
 ·rintro B' (⟨b, hb⟩ | ⟨t', k, s0, s', c', h1, h2⟩)
  ·exact .inl (.inl ⟨b, hb⟩)
  ·exact .inl (.inr ⟨t', k, s0, s', c', h1, h2⟩)
 ·simp
 ·intro b hb h
  exact h
 ·intro t' _ h k
  exact h k
theorem ExO.callV {n0 : Cx} {P : Program} {a : List AV} {S : St} {R : List AV → St → Prop} {x : AOper} {l : List AOper} {f : FuncId} {xs ys : List AV} {K : AV → List (Nat × Nat) → Prop} (hw : wantedA x.guard a = some true) (hv : aop x.op (evd a) S = some (.call f xs)) (hbs : fpOf xs = []) (hr : xs.mapM (ren []) = some ys)
  (ho : DoesT P f ys K)
  (h : ∀ v lv, K v lv → (∃ pre els t n s post, v = .agg (pre ++ .sl els (some t) :: post) ∧ (∀ y ∈ pre, scal y = true) ∧ (∀ y ∈ post, scal y = true) ∧ lv[t]? = some (n, s) ∧ els.length = n ∧ 0 < s ∧ (∀ e ∈ els, e.cells.length = s) ∧ (flat els).all scal = true ∧ ExO n0 P l (putA a x.dst (.agg (pre ++ .ms S.bx.length n s :: post))) ⟨S.bx ++ [flat els], S.lv⟩ R)
    ∨ ∃ els t n s, v = .sl els (some t) ∧ lv[t]? = some (n, s) ∧ els.length = n ∧ 0 < s ∧ (∀ e ∈ els, e.cells.length = s) ∧ (flat els).all scal = true ∧ ExO n0 P l (putA a x.dst (.ms S.bx.length n s)) ⟨S.bx ++ [flat els], S.lv⟩ R) : ExO n0 P (x :: l) a S R := by
 intro E hn ops l0 Q hco hq act w hA
 obtain ⟨o, l', rfl, hx, hl'⟩ := mapM_cons_inv hco
 obtain ⟨h1, h2, _⟩ := compOper_ok hx
 obtain ⟨G, hI, hR, hg, hk, hd⟩ := hA
 simp only [wpList]
 rw [if_pos (wantedA_ok hx hR hw)]
 refine .inl ?_
 unfold Oper.wp
 have hs := step_ok h1 (fun _ => rfl) hR.opd hI hv
 obtain ⟨us, hrun, hvs⟩ := hs
 obtain ⟨hIc, hvc⟩ := call_in (bs := []) (cells := []) hr rfl (by simp) (by simp) hI hvs
 rw [hrun, ho.enter]
 simp only [Oper.upon_enter]
 refine (ho.calls (G.sub []) w us hIc hvc).mono ?_
 rintro e w' ⟨u, v, Gc, bx, lv, hK, rfl, hvr, hI', hg'⟩
 rcases h v lv hK with ⟨pre, els, t, n, s, post, rfl, hpre, hpost, hlv, hl, hs0, hcl, hsc, hrest⟩ | ⟨els, t, n, s, rfl, hlv, hl, hs0, hcl, hsc, hrest⟩
 ·obtain ⟨us', rfl, hsz, hcells⟩ := hvr.inv_agg
  have hilt : pre.length < us'.size := by rw [hsz]; simp
  have hui : us'[pre.length]? = some us'[pre.length] := Array.getElem?_eq_getElem hilt
  obtain ⟨G2, hle, hms, hI2, hg2, hk2⟩ := own_ms hI hI' hg' (hcells pre.length _ _ (mid_at _ _ _) hui) hlv hl hs0 hcl hsc
  have hv2 : VR G2 (.agg (pre ++ .ms S.bx.length n s :: post)) (.agg us') := by
   refine .agg _ us' (by rw [hsz]; simp) fun j y v hy hv => ?_
   rcases mid_get hy with ⟨rfl, rfl⟩ | ⟨hmem, hall⟩
   ·rw [hui] at hv; cases hv
    exact hms
   ·refine (hcells j y v (hall _) hv).scal ?_
    rcases hmem with hm' | hm'
    ·exact hpre y hm'
    ·exact hpost y hm'
  exact hrest E hn ops l' Q hl' hq _ _ ⟨G2, hI2, h2 ▸ (hR.mono hle).put x.dst hv2, hg.trans hg2, hk.trans hk2, by cases o.dst <;> exact hd.step hg2 hk2⟩
 ·obtain ⟨G2, hle, hms, hI2, hg2, hk2⟩ := own_ms hI hI' hg' hvr hlv hl hs0 hcl hsc
  exact hrest E hn ops l' Q hl' hq _ _ ⟨G2, hI2, h2 ▸ (hR.mono hle).put x.dst hms, hg.trans hg2, hk.trans hk2, by cases o.dst <;> exact hd.step hg2 hk2⟩
theorem ExO.callMsT {n0 : Cx} {P : Program} {R : List AV → St → Prop} {x : AOper} {l : List AOper} {a : List AV} {S : St} {r : TokT} (hr : TokTOk P r) (hs0 : 0 < r.s) (hcl : ∀ e ∈ r.els, e.cells.length = r.s) (hsc : (flat r.els).all scal = true) (xs : List AV) (hw : wantedA x.guard a = some true) (hv : aop x.op (evd a) S = some (.call r.f xs)) (hf : fpOf xs = []) (hx : xs.mapM (ren []) = some r.gs) (h : ExO n0 P l (putA a x.dst (.agg (r.pre ++ .ms S.bx.length r.n r.s :: r.post))) ⟨S.bx ++ [flat r.els], S.lv⟩ R) : ExO n0 P (x :: l) a S R :=
 ExO.callV hw hv hf hx hr.1 fun v lv ⟨t, hv, hlv⟩ => .inl ⟨r.pre, r.els, t, r.n, r.s, r.post, hv, hr.2.2.2.1, hr.2.2.2.2, hlv, hr.2.2.1, hs0, hcl, hsc, h⟩

theorem flat_scal {α : Type} {f : α → AV} (h : ∀ x, (f x).cells.all scal = true) (l : List α) : (flat (l.map f)).all scal = true := by
 rw [List.all_eq_true]
 intro c hc
 obtain ⟨e, he, hce⟩ := List.mem_flatMap.1 hc
 obtain ⟨x, _, rfl⟩ := List.mem_map.1 he
 exact List.all_eq_true.1 (h x) c hce
theorem flat_lenF {α : Type} {f : α → AV} {s : Nat} (hs : ∀ x, (f x).cells.length = s) (l : List α) : (flat (l.map f)).length = l.length * s := by
 rw [flat_len s, List.length_map]
 intro i e he
 rw [List.getElem?_map, Option.map_eq_some_iff] at he
 obtain ⟨x, _, rfl⟩ := he
 exact hs x
theorem map_cells {α : Type} {f : α → AV} {s : Nat} (hs : ∀ x, (f x).cells.length = s) (l : List α) : ∀ e ∈ l.map f, e.cells.length = s := by
 intro e he
 obtain ⟨x, _, rfl⟩ := List.mem_map.1 he
 exact hs x
theorem layAt_left : ∀ (vs cs ds : List AV) (o : Nat), o + vs.length ≤ cs.length → layAt (cs ++ ds) o vs = layAt cs o vs ++ ds
 | [], _, _, _, _ => rfl
 | v :: vs, cs, ds, o, h => by
  simp only [List.length_cons] at h
  simp only [layAt]
  rw [List.set_append_left _ _ (by omega)]
  exact layAt_left vs _ ds (o + 1) (by simp; omega)
theorem layAt_right : ∀ (vs cs ds : List AV) (o : Nat), layAt (cs ++ ds) (cs.length + o) vs = cs ++ layAt ds o vs
 | [], _, _, _ => rfl
 | v :: vs, cs, ds, o => by
  simp only [layAt]
  rw [List.set_append_right _ _ (by omega), Nat.add_sub_cancel_left, Nat.add_assoc]
  exact layAt_right vs cs _ (o + 1)
theorem lay_flat {s : Nat} : ∀ (els : List AV) (k j : Nat) (e e' : AV) (vs : List AV), (∀ e ∈ els, e.cells.length = s) → els[k]? = some e → j + vs.length ≤ s → layAt e.cells j vs = e'.cells → layAt (flat els) (k * s + j) vs = flat (els.set k e')
 | [], _, _, _, _, _, _, h, _, _ => by simp at h
 | e0 :: els, 0, j, e, e', vs, hs, h, hj, hl => by
  obtain rfl : e0 = e := by simpa using h
  simp only [flat, List.flatMap_cons, List.set_cons_zero, Nat.zero_mul, Nat.zero_add]
  rw [layAt_left _ _ _ _ (by rw [hs e0 (by simp)]; exact hj), hl]
 | e0 :: els, k + 1, j, e, e', vs, hs, h, hj, hl => by
  have h0 := hs e0 (by simp)
  have ih := lay_flat els k j e e' vs (fun e he => hs e (by simp [he])) (by simpa using h) hj hl
  simp only [flat, List.flatMap_cons, List.set_cons_succ] at ih ⊢
  rw [show (k + 1) * s + j = e0.cells.length + (k * s + j) by rw [h0, Nat.succ_mul]; omega, layAt_right, ih]
def setI {α : Type} (l : List α) (i : Int) (g : α → α) : Option (List α) := (l[i.toNat]?).map fun x => l.set i.toNat (g x)
theorem setI.of {α : Type} {l l' : List α} {i : Int} {g : α → α} (h : setI l i g = some l') : ∃ x, l[i.toNat]? = some x ∧ l' = l.set i.toNat (g x) := by
 simp only [setI, Option.map_eq_some_iff] at h
 obtain ⟨x, hx, rfl⟩ := h
 exact ⟨x, hx, rfl⟩
theorem stFl {α : Type} {f : α → AV} {s : Nat} {l l' : List α} (off j n : Nat) (i : Int) (g : α → α) (vs : List AV) (hs : ∀ x, (f x).cells.length = s) (h : setI l i g = some l') (hn : vs.length = n) (hjn : j + n ≤ s) (ho : off = i.toNat * s + j) (hl : ∀ x, layAt (f x).cells j vs = (f (g x)).cells) : off + n ≤ (flat (l.map f)).length ∧ layAt (flat (l.map f)) off vs = flat (l'.map f) := by
 obtain ⟨x, hx, rfl⟩ := setI.of h
 subst ho hn
 have hlt := (List.getElem?_eq_some_iff.1 hx).1
 refine ⟨?_, ?_⟩
 ·rw [flat_lenF hs]
  have : (i.toNat + 1) * s ≤ l.length * s := Nat.mul_le_mul_right _ hlt
  rw [Nat.succ_mul] at this
  omega
 ·rw [lay_flat (l.map f) i.toNat j (f x) (f (g x)) vs (map_cells hs l) (by rw [List.getElem?_map, hx]; rfl) hjn (hl x), List.map_set]
def lenI {α : Type} (l : List α) (n : Nat) : Option Unit := if l.length = n then some () else none
theorem lenI.of {α : Type} {l : List α} {n : Nat} {u : Unit} (h : lenI l n = some u) : l.length = n := by
 unfold lenI at h
 split at h
 ·assumption
 ·cases h

theorem chillL_at (f : AV → AV) : ∀ (k : Nat) (a : List AV) (v : AV), a[k]? = some v → chillL f (List.replicate k false ++ [true]) a = a.set k (f v)
 | 0, x :: a, v, h => by
  obtain rfl : x = v := by simpa using h
  simp [chillL]
 | k + 1, x :: a, v, h => by
  have ih := chillL_at f k a v (by simpa using h)
  simp only [List.replicate_succ, List.cons_append, chillL, List.set_cons_succ, ih]
  rfl
 | k, [], v, h => by simp at h
theorem chillB_at (f : AV → AV) (c : List Bool) : ∀ (k : Nat) (a : List (List AV)) (v : List AV), a[k]? = some v → chillB f (List.replicate k [] ++ [c]) a = a.set k (chillL f c v)
 | 0, x :: a, v, h => by
  obtain rfl : x = v := by simpa using h
  simp [chillB]
 | k + 1, x :: a, v, h => by
  have ih := chillB_at f c k a v (by simpa using h)
  simp only [List.replicate_succ, List.cons_append, chillB, List.set_cons_succ, ih]
  simp [chillL]
 | k, [], v, h => by simp at h
theorem chillX {α : Type} {f : α → AV} {n0 : Cx} {a : List AV} {S : St} (b b2 o n s : Nat) (l : List α) (cs : List AV) {u : Unit} (hn : lenI l n = some u) (hb : S.bx[b]? = some (flat (l.map f))) (hs : ∀ x, (f x).cells.length = s) (h2 : S.bx[b2]? = some cs) (hbb : b ≠ b2) (ho : cs[o]? = some (.ms b n s)) : Forgets n0 a S a ⟨(S.bx.set b []).set b2 (cs.set o (.sl (l.map f) none)), S.lv⟩ := by
 have := chill (n0 := n0) (a := a) (S := S) b n s (l.map f) [] (List.replicate b2 [] ++ [List.replicate o false ++ [true]]) hb (by rw [List.length_map]; exact lenI.of hn) (map_cells hs l)
 rw [chillB_at _ _ b2 _ cs (by rw [List.getElem?_set_ne hbb]; exact h2), chillL_at _ o cs _ ho] at this
 simpa [chillL, chillV] using this
end Go.Proofs.Ytdmfnhamipmmnaa
end
section
namespace Go.Proofs.Ytdmfnhamipmmnaa
set_option linter.unusedVariables false
set_option maxRecDepth 100000

abbrev oo (d : Nat) (x : AOp) : AOper := ⟨some d, x, none⟩
abbrev on (x : AOp) : AOper := ⟨none, x, none⟩
theorem rg {n0 : Cx} {md : Md} {P : Program} {Q : AEx → List AV → St → Prop} {l : List AOper} {a : List AV} {S : St} (k : Nat) (live : List Nat) (a2 : List AV) (S2 : St) (hx : Q .norm a2 S2) (h : (evH [] 0 k l a S).map (fun p => (p.1, keepB 0 live p.2.1, p.2.2)) = some ([], a2, S2) := by kernel_rfl) (hl : l.drop k = [] := by rfl) : Ex n0 md P (.reg l) a S Q :=
 regH k [] live [] a2 S2 h trivial hl hx
theorem rn {n0 : Cx} {P : Program} {R : List AV → St → Prop} {l : List AOper} {a : List AV} {S : St} (k : Nat) (live : List Nat) (a2 : List AV) (S2 : St) (hx : ExO n0 P (l.drop k) a2 S2 R) (h : (evH [] 0 k l a S).map (fun p => (p.1, keepB 0 live p.2.1, p.2.2)) = some ([], a2, S2) := by kernel_rfl) : ExO n0 P l a S R :=
 runH k [] live [] a2 S2 h trivial hx
theorem bE {α β : Type} {o : Option α} {f : α → Option β} {b : β} (h : o.bind f = some b) : ∃ a, o = some a ∧ f a = some b := Option.bind_eq_some_iff.1 h
theorem rt {a' : List AV} {S' : St} {res : List ARes} {n : Nat} {c1 : List (List AV)} {r : AV} (v : AV) (h1 : evRes a' S' res = some v := by kernel_rfl) (h2 : v.names = false := by kernel_rfl) (h3 : fadeT v = r := by kernel_rfl) (h4 : S'.bx.take n = c1 := by kernel_rfl) : (AEx.ret = .norm ∨ AEx.ret = .ret) ∧ ∃ v, evRes a' S' res = some v ∧ v.names = false ∧ fadeT v = r ∧ S'.bx.take n = c1 := ⟨.inr rfl, v, h1, h2, h3, h4⟩
abbrev i6 (x : Int) : AV := .int .i64 x
theorem sJ {α : Type} {a b : α} (h : some a = some b) : a = b := Option.some.inj h
def F3 : AFn := ⟨4, 187, [.tmp 8], (.seq (.reg [oo 4 (.box (.tmp 0)), oo 5 (.box (.tmp 1)), oo 8 (.mov (.con (.bool false)))]) (.seq (.seq (.reg [oo 32 (.faddr (.tmp 4) 8), oo 33 (.load none (.tmp 32)), oo 34 (.len false (.tmp 33)), oo 35 (.bin .gtr (.tmp 34) (.con (i6 30)))]) (.cond (.tmp 35) (.seq (.reg [oo 36 (.call (.con (.fn 7 [] [])) []), oo 8 (.mov (.tmp 36))]) .ret) .skip)) (.seq (.reg [oo 37 (.mov (.tmp 3)), oo 38 (.call (.con (.fn 9 [] [])) [(.tmp 37)]), oo 39 (.call (.con (.fn 8 [] [])) [(.tmp 38), (.con (i6 6))]), oo 9 (.box (.con (.agg [i6 0, i6 0, i6 0, i6 0, i6 0, i6 0, i6 0, i6 0, .nils]))), on (.store 9 (.tmp 9) (.tmp 39))]) (.seq (.reg [oo 40 (.load (some 9) (.tmp 9)), oo 41 (.call (.con (.fn 10 [] [])) [(.tmp 40)]), oo 10 (.box (.con (.agg [i6 0, i6 0, i6 0, i6 0, i6 0, i6 0, i6 0, i6 0, .nils]))), on (.store 9 (.tmp 10) (.tmp 41))]) (.seq (.seq (.reg [oo 42 (.faddr (.tmp 10) 8), oo 43 (.load none (.tmp 42)), oo 44 (.len false (.tmp 43)), oo 45 (.bin .gtr (.tmp 44) (.con (i6 0)))]) (.cond (.tmp 45) (.dreg 8 [oo 46 (.faddr (.tmp 10) 8), oo 47 (.load none (.tmp 46)), oo 48 (.mov (.tmp 2)), oo 49 (.faddr (.tmp 10) 8), oo 50 (.load none (.tmp 49)), oo 51 (.len false (.tmp 50)), oo 52 (.call (.con (.fn 11 [] [])) [(.tmp 48), (.tmp 51)]), oo 53 (.load (some 7) (.tmp 5)), oo 54 (.iaddr (.tmp 47) (.tmp 52) 7 none), on (.store 7 (.tmp 54) (.tmp 53))]) .skip)) (.seq (.reg [oo 55 (.load (some 9) (.tmp 4)), oo 56 (.load (some 9) (.tmp 9)), oo 57 (.load (some 9) (.tmp 10)), oo 58 (.bsl 9 true [i6 0, i6 0, i6 0, i6 0, i6 0, i6 0, i6 0, i6 0, .nils] 3 [(0, (.tmp 55)), (1, (.tmp 56)), (2, (.tmp 57))]), oo 11 (.mov (.tmp 58))]) (.seq (.seq (.reg [oo 12 (.mov (.con (i6 0)))]) (.block 0 (.loop (.seq (.seq (.reg [oo 59 (.mov (.tmp 12)), oo 60 (.mov (.tmp 11)), oo 61 (.len false (.tmp 60)), oo 62 (.bin .lss (.tmp 59) (.tmp 61))]) (.cond (.tmp 62) .skip (.exit 0))) (.seq (.block 1 (.seq (.reg [oo 65 (.mov (.tmp 11)), oo 66 (.mov (.tmp 12)), oo 67 (.iaddr (.tmp 65) (.tmp 66) 9 none), oo 68 (.load (some 9) (.tmp 67)), oo 69 (.call (.con (.fn 10 [] [])) [(.tmp 68)]), oo 13 (.box (.con (.agg [i6 0, i6 0, i6 0, i6 0, i6 0, i6 0, i6 0, i6 0, .nils]))), on (.store 9 (.tmp 13) (.tmp 69))]) (.seq (.reg [oo 71 (.load (some 9) (.tmp 13)), oo 72 (.call (.con (.fn 12 [] [])) [(.tmp 71)]), oo 70 (.mov (.tmp 72)), oo 73 (.ext (.tmp 70) 0), oo 74 (.ext (.tmp 70) 1), oo 14 (.box (.con (.agg [i6 0, i6 0]))), on (.store 2 (.tmp 14) (.tmp 73)), oo 15 (.mov (.tmp 74))]) (.seq (.reg [oo 76 (.mov (.tmp 11)), oo 77 (.mov (.tmp 12)), oo 78 (.iaddr (.tmp 76) (.tmp 77) 9 none), oo 79 (.load (some 9) (.tmp 78)), oo 80 (.call (.con (.fn 13 [] [])) [(.tmp 79)]), oo 75 (.mov (.tmp 80)), oo 81 (.ext (.tmp 75) 0), oo 82 (.ext (.tmp 75) 1), oo 16 (.box (.con (.agg [i6 0, i6 0]))), on (.store 2 (.tmp 16) (.tmp 81)), oo 17 (.mov (.tmp 82))]) (.seq (.reg [oo 84 (.load (some 9) (.tmp 13)), oo 85 (.call (.con (.fn 14 [] [])) [(.tmp 84)]), oo 83 (.mov (.tmp 85)), oo 86 (.ext (.tmp 83) 0), oo 87 (.ext (.tmp 83) 1), oo 88 (.ext (.tmp 83) 2), oo 18 (.box (.con (.agg [i6 0, i6 0]))), oo 19 (.box (.con (.agg [i6 0, i6 0]))), on (.store 2 (.tmp 18) (.tmp 86)), on (.store 2 (.tmp 19) (.tmp 87)), oo 20 (.mov (.tmp 88))]) (.seq (.reg [oo 90 (.mov (.tmp 11)), oo 91 (.mov (.tmp 12)), oo 92 (.iaddr (.tmp 90) (.tmp 91) 9 none), oo 93 (.load (some 9) (.tmp 92)), oo 94 (.call (.con (.fn 15 [] [])) [(.tmp 93)]), oo 89 (.mov (.tmp 94)), oo 95 (.ext (.tmp 89) 0), oo 96 (.ext (.tmp 89) 1), oo 97 (.ext (.tmp 89) 2), oo 21 (.box (.con (.agg [i6 0, i6 0]))), oo 22 (.box (.con (.agg [i6 0, i6 0]))), on (.store 2 (.tmp 21) (.tmp 95)), on (.store 2 (.tmp 22) (.tmp 96)), oo 23 (.mov (.tmp 97))]) (.seq (.reg [oo 99 (.load (some 9) (.tmp 13)), oo 100 (.call (.con (.fn 16 [] [])) [(.tmp 99)]), oo 98 (.mov (.tmp 100)), oo 101 (.ext (.tmp 98) 0), oo 102 (.ext (.tmp 98) 1), oo 24 (.box (.con (.agg [i6 0, i6 0]))), on (.store 2 (.tmp 24) (.tmp 101)), oo 25 (.mov (.tmp 102))]) (.seq (.reg [oo 104 (.mov (.tmp 11)), oo 105 (.mov (.tmp 12)), oo 106 (.iaddr (.tmp 104) (.tmp 105) 9 none), oo 107 (.load (some 9) (.tmp 106)), oo 108 (.call (.con (.fn 17 [] [])) [(.tmp 107)]), oo 103 (.mov (.tmp 108)), oo 109 (.ext (.tmp 103) 0), oo 110 (.ext (.tmp 103) 1), oo 26 (.box (.con (.agg [i6 0, i6 0]))), on (.store 2 (.tmp 26) (.tmp 109)), oo 27 (.mov (.tmp 110))]) (.seq (.reg [oo 112 (.load (some 9) (.tmp 13)), oo 113 (.call (.con (.fn 18 [] [])) [(.tmp 112)]), oo 111 (.mov (.tmp 113)), oo 114 (.ext (.tmp 111) 0), oo 115 (.ext (.tmp 111) 1), oo 28 (.mov (.tmp 114)), oo 29 (.mov (.tmp 115))]) (.seq (.reg [oo 117 (.mov (.tmp 11)), oo 118 (.mov (.tmp 12)), oo 119 (.iaddr (.tmp 117) (.tmp 118) 9 none), oo 120 (.load (some 9) (.tmp 119)), oo 121 (.call (.con (.fn 19 [] [])) [(.tmp 120)]), oo 116 (.mov (.tmp 121)), oo 122 (.ext (.tmp 116) 0), oo 123 (.ext (.tmp 116) 1), oo 30 (.mov (.tmp 122)), oo 31 (.mov (.tmp 123))]) (.seq (.dreg 59 [oo 124 (.load (some 9) (.tmp 13)), oo 125 (.call (.con (.fn 20 [] [])) [(.tmp 124)]), oo 126 (.mov (.tmp 11)), oo 127 (.mov (.tmp 12)), oo 128 (.iaddr (.tmp 126) (.tmp 127) 9 none), oo 129 (.load (some 9) (.tmp 128)), oo 130 (.call (.con (.fn 21 [] [])) [(.tmp 129)]), oo 131 (.bin .neq (.tmp 125) (.tmp 130)), oo 132 (.mov (.tmp 131)), ⟨some 133, .load (some 2) (.tmp 14), some (132, false)⟩, ⟨some 134, .load (some 2) (.tmp 16), some (132, false)⟩, ⟨some 135, .eqs true (.cons 0 none (.sc 1) (.cons 1 none (.sc 1) .nil)) (.tmp 133) (.tmp 134), some (132, false)⟩, oo 136 (.pick (.tmp 132) (.con (.bool true)) (.tmp 135)), oo 137 (.mov (.tmp 136)), ⟨some 138, .mov (.tmp 15), some (137, false)⟩, ⟨some 139, .mov (.tmp 17), some (137, false)⟩, ⟨some 140, .bin .neq (.tmp 138) (.tmp 139), some (137, false)⟩, oo 141 (.pick (.tmp 137) (.con (.bool true)) (.tmp 140)), oo 142 (.mov (.tmp 141)), ⟨some 143, .load (some 2) (.tmp 18), some (142, false)⟩, ⟨some 144, .load (some 2) (.tmp 21), some (142, false)⟩, ⟨some 145, .eqs true (.cons 0 none (.sc 1) (.cons 1 none (.sc 1) .nil)) (.tmp 143) (.tmp 144), some (142, false)⟩, oo 146 (.pick (.tmp 142) (.con (.bool true)) (.tmp 145)), oo 147 (.mov (.tmp 146)), ⟨some 148, .load (some 2) (.tmp 19), some (147, false)⟩, ⟨some 149, .load (some 2) (.tmp 22), some (147, false)⟩, ⟨some 150, .eqs true (.cons 0 none (.sc 1) (.cons 1 none (.sc 1) .nil)) (.tmp 148) (.tmp 149), some (147, false)⟩, oo 151 (.pick (.tmp 147) (.con (.bool true)) (.tmp 150)), oo 152 (.mov (.tmp 151)), ⟨some 153, .mov (.tmp 20), some (152, false)⟩, ⟨some 154, .mov (.tmp 23), some (152, false)⟩, ⟨some 155, .bin .neq (.tmp 153) (.tmp 154), some (152, false)⟩, oo 156 (.pick (.tmp 152) (.con (.bool true)) (.tmp 155)), oo 157 (.mov (.tmp 156)), ⟨some 158, .load (some 2) (.tmp 24), some (157, false)⟩, ⟨some 159, .load (some 2) (.tmp 26), some (157, false)⟩, ⟨some 160, .eqs true (.cons 0 none (.sc 1) (.cons 1 none (.sc 1) .nil)) (.tmp 158) (.tmp 159), some (157, false)⟩, oo 161 (.pick (.tmp 157) (.con (.bool true)) (.tmp 160)), oo 162 (.mov (.tmp 161)), ⟨some 163, .mov (.tmp 25), some (162, false)⟩, ⟨some 164, .mov (.tmp 27), some (162, false)⟩, ⟨some 165, .bin .neq (.tmp 163) (.tmp 164), some (162, false)⟩, oo 166 (.pick (.tmp 162) (.con (.bool true)) (.tmp 165)), oo 167 (.mov (.tmp 166)), ⟨some 168, .mov (.tmp 28), some (167, false)⟩, ⟨some 169, .mov (.tmp 30), some (167, false)⟩, ⟨some 170, .bin .neq (.tmp 168) (.tmp 169), some (167, false)⟩, oo 171 (.pick (.tmp 167) (.con (.bool true)) (.tmp 170)), oo 172 (.mov (.tmp 171)), ⟨some 173, .mov (.tmp 29), some (172, false)⟩, ⟨some 174, .mov (.tmp 31), some (172, false)⟩, ⟨some 175, .bin .neq (.tmp 173) (.tmp 174), some (172, false)⟩, oo 176 (.pick (.tmp 172) (.con (.bool true)) (.tmp 175)), oo 177 (.mov (.tmp 176)), ⟨some 178, .load (some 9) (.tmp 13), some (177, false)⟩, ⟨some 179, .mov (.tmp 11), some (177, false)⟩, ⟨some 180, .mov (.tmp 12), some (177, false)⟩, ⟨some 181, .iaddr (.tmp 179) (.tmp 180) 9 none, some (177, false)⟩, ⟨some 182, .load (some 9) (.tmp 181), some (177, false)⟩, ⟨some 183, .call (.con (.fn 22 [] [])) [(.tmp 178), (.tmp 182)], some (177, false)⟩, ⟨some 184, .un .not (.tmp 183), some (177, false)⟩, oo 185 (.pick (.tmp 177) (.con (.bool true)) (.tmp 184))]) (.cond (.tmp 185) (.seq (.reg [oo 8 (.mov (.con (.bool false)))]) .ret) .skip)))))))))))) (.reg [oo 63 (.mov (.tmp 12)), oo 64 (.bin .add (.tmp 63) (.con (i6 1))), oo 12 (.mov (.tmp 64))])))))) (.seq (.reg [oo 186 (.call (.con (.fn 7 [] [])) []), oo 8 (.mov (.tmp 186))]) .ret))))))))⟩
theorem comp3 : compFn Try.prog 3 = some F3 := by kernel_rfl
def F7 : AFn := ⟨0, 58, [.tmp 0], (.seq (.reg [oo 0 (.mov (.con (.bool false)))]) (.seq (.reg [oo 9 (.call (.con (.fn 48 [] [])) []), oo 10 (.call (.con (.fn 14 [] [])) [(.tmp 9)]), oo 8 (.mov (.tmp 10)), oo 11 (.ext (.tmp 8) 0), oo 12 (.ext (.tmp 8) 1), oo 13 (.ext (.tmp 8) 2), oo 1 (.box (.con (.agg [i6 0, i6 0]))), oo 2 (.box (.con (.agg [i6 0, i6 0]))), on (.store 2 (.tmp 1) (.tmp 11)), on (.store 2 (.tmp 2) (.tmp 12)), oo 3 (.mov (.tmp 13))]) (.seq (.reg [oo 15 (.call (.con (.fn 48 [] [])) []), oo 16 (.call (.con (.fn 49 [] [])) [(.con (i6 1)), (.con (i6 700)), (.con (i6 1400))]), oo 17 (.call (.con (.fn 49 [] [])) [(.con (i6 2)), (.con (i6 519)), (.con (i6 0))]), oo 18 (.call (.con (.fn 49 [] [])) [(.con (i6 3)), (.con (i6 5649)), (.con (i6 3067))]), oo 19 (.bsl 3 true [i6 0, i6 0, i6 0] 3 [(0, (.tmp 16)), (1, (.tmp 17)), (2, (.tmp 18))]), oo 20 (.call (.con (.fn 26 [] [])) [(.tmp 15), (.tmp 19)]), oo 14 (.mov (.tmp 20)), oo 21 (.ext (.tmp 14) 0), oo 22 (.ext (.tmp 14) 1), oo 4 (.mov (.tmp 21)), oo 5 (.mov (.tmp 22))]) (.seq (.reg [oo 24 (.call (.con (.fn 50 [] [])) [(.con (i6 900))]), oo 25 (.call (.con (.fn 30 [] [])) [(.tmp 24), (.con (.nils)), (.con (i6 200))]), oo 23 (.mov (.tmp 25)), oo 26 (.ext (.tmp 23) 0), oo 27 (.ext (.tmp 23) 1), oo 6 (.box (.con (.agg [i6 0, i6 0]))), on (.store 2 (.tmp 6) (.tmp 26)), oo 7 (.mov (.tmp 27))]) (.seq (.dreg 28 [oo 28 (.mov (.tmp 3)), oo 29 (.bin .eql (.tmp 28) (.con (i6 0))), oo 30 (.mov (.tmp 29)), ⟨some 31, .mov (.tmp 5), some (30, true)⟩, ⟨some 32, .bin .eql (.tmp 31) (.con (i6 0)), some (30, true)⟩, oo 33 (.pick (.tmp 30) (.tmp 32) (.con (.bool false))), oo 34 (.mov (.tmp 33)), ⟨some 35, .mov (.tmp 7), some (34, true)⟩, ⟨some 36, .bin .eql (.tmp 35) (.con (i6 0)), some (34, true)⟩, oo 37 (.pick (.tmp 34) (.tmp 36) (.con (.bool false))), oo 38 (.mov (.tmp 37)), ⟨some 39, .load (some 2) (.tmp 1), some (38, true)⟩, ⟨some 40, .call (.con (.fn 44 [] [])) [(.con (i6 2650)), (.con (i6 2784))], some (38, true)⟩, ⟨some 41, .eqs false (.cons 0 none (.sc 1) (.cons 1 none (.sc 1) .nil)) (.tmp 39) (.tmp 40), some (38, true)⟩, oo 42 (.pick (.tmp 38) (.tmp 41) (.con (.bool false))), oo 43 (.mov (.tmp 42)), ⟨some 44, .load (some 2) (.tmp 2), some (43, true)⟩, ⟨some 45, .call (.con (.fn 44 [] [])) [(.con (i6 3000)), (.con (i6 3067))], some (43, true)⟩, ⟨some 46, .eqs false (.cons 0 none (.sc 1) (.cons 1 none (.sc 1) .nil)) (.tmp 44) (.tmp 45), some (43, true)⟩, oo 47 (.pick (.tmp 43) (.tmp 46) (.con (.bool false))), oo 48 (.mov (.tmp 47)), ⟨some 49, .mov (.tmp 4), some (48, true)⟩, ⟨some 50, .bsl 1 false [i6 0] 3 [(0, (.con (i6 1))), (1, (.con (i6 3))), (2, (.con (i6 2)))], some (48, true)⟩, ⟨some 51, .call (.con (.fn 34 [] [])) [(.tmp 49), (.tmp 50)], some (48, true)⟩, oo 52 (.pick (.tmp 48) (.tmp 51) (.con (.bool false))), oo 53 (.mov (.tmp 52)), ⟨some 54, .load (some 2) (.tmp 6), some (53, true)⟩, ⟨some 55, .call (.con (.fn 44 [] [])) [(.con (i6 17)), (.con (i6 100000))], some (53, true)⟩, ⟨some 56, .eqs false (.cons 0 none (.sc 1) (.cons 1 none (.sc 1) .nil)) (.tmp 54) (.tmp 55), some (53, true)⟩, oo 57 (.pick (.tmp 53) (.tmp 56) (.con (.bool false))), oo 0 (.mov (.tmp 57))]) .ret)))))⟩
theorem comp7 : compFn Try.prog 7 = some F7 := by kernel_rfl
def F8 : AFn := ⟨2, 91, [.cell 4 (some 9)], (.seq (.reg [oo 4 (.box (.con (.agg [i6 0, i6 0, i6 0, i6 0, i6 0, i6 0, i6 0, i6 0, .nils])))]) (.seq (.reg [oo 8 (.mov (.tmp 0)), oo 9 (.mov (.tmp 0)), oo 10 (.bsl 1 false [i6 0] 2 [(0, (.con (i6 20))), (1, (.con (i6 1200)))]), oo 11 (.call (.con (.fn 51 [] [])) [(.tmp 9), (.tmp 10)]), oo 12 (.call (.con (.fn 25 [] [])) [(.tmp 8), (.con (i6 2)), (.tmp 11)]), oo 13 (.mov (.tmp 0)), oo 14 (.call (.con (.fn 25 [] [])) [(.tmp 13), (.con (i6 1)), (.con (i6 400))]), oo 15 (.mov (.tmp 0)), oo 16 (.mov (.tmp 0)), oo 17 (.call (.con (.fn 52 [] [])) [(.tmp 16), (.con (i6 1500))]), oo 18 (.bsl 1 false [i6 0] 2 [(0, (.con (i6 0))), (1, (.tmp 17))]), oo 19 (.call (.con (.fn 51 [] [])) [(.tmp 15), (.tmp 18)]), oo 20 (.mov (.tmp 0)), oo 21 (.mov (.tmp 0)), oo 22 (.call (.con (.fn 52 [] [])) [(.tmp 21), (.con (i6 5000))]), oo 23 (.bsl 1 false [i6 0] 2 [(0, (.con (i6 0))), (1, (.tmp 22))]), oo 24 (.call (.con (.fn 51 [] [])) [(.tmp 20), (.tmp 23)]), oo 25 (.mov (.tmp 0)), oo 26 (.call (.con (.fn 52 [] [])) [(.tmp 25), (.con (i6 500))]), oo 27 (.build [i6 0, i6 0, i6 0, i6 0, i6 0, i6 0, i6 0, i6 0, .nils] [(0, 1, (.tmp 12)), (1, 1, (.tmp 14)), (4, 1, (.tmp 19)), (5, 1, (.tmp 24)), (7, 1, (.tmp 26))]), oo 5 (.box (.con (.agg [i6 0, i6 0, i6 0, i6 0, i6 0, i6 0, i6 0, i6 0, .nils]))), on (.store 9 (.tmp 5) (.tmp 27))]) (.seq (.reg [oo 28 (.mov (.tmp 0)), oo 29 (.faddr (.tmp 5) 0), oo 30 (.load none (.tmp 29)), oo 31 (.call (.con (.fn 52 [] [])) [(.tmp 28), (.tmp 30)]), oo 32 (.faddr (.tmp 5) 2), on (.store 1 (.tmp 32) (.tmp 31))]) (.seq (.reg [oo 33 (.mov (.tmp 0)), oo 34 (.faddr (.tmp 5) 2), oo 35 (.load none (.tmp 34)), oo 36 (.bin .add (.tmp 35) (.con (i6 1))), oo 37 (.faddr (.tmp 5) 0), oo 38 (.load none (.tmp 37)), oo 39 (.call (.con (.fn 25 [] [])) [(.tmp 33), (.tmp 36), (.tmp 38)]), oo 40 (.faddr (.tmp 5) 3), on (.store 1 (.tmp 40) (.tmp 39))]) (.seq (.reg [oo 41 (.mov (.tmp 0)), oo 42 (.faddr (.tmp 5) 0), oo 43 (.load none (.tmp 42)), oo 44 (.call (.con (.fn 25 [] [])) [(.tmp 41), (.con (i6 0)), (.tmp 43)]), oo 45 (.faddr (.tmp 5) 6), on (.store 1 (.tmp 45) (.tmp 44))]) (.seq (.seq (.reg [oo 46 (.mov (.tmp 0)), oo 47 (.mov (.tmp 1)), oo 48 (.bin .add (.tmp 47) (.con (i6 1))), oo 49 (.call (.con (.fn 52 [] [])) [(.tmp 46), (.tmp 48)]), oo 6 (.mov (.tmp 49))]) (.block 0 (.loop (.seq (.seq (.reg [oo 50 (.mov (.tmp 6)), oo 51 (.bin .gtr (.tmp 50) (.con (i6 0)))]) (.cond (.tmp 51) .skip (.exit 0))) (.seq (.block 1 (.seq (.reg [oo 54 (.mov (.tmp 0)), oo 55 (.faddr (.tmp 5) 2), oo 56 (.load none (.tmp 55)), oo 57 (.faddr (.tmp 5) 3), oo 58 (.load none (.tmp 57)), oo 59 (.call (.con (.fn 25 [] [])) [(.tmp 54), (.tmp 56), (.tmp 58)]), oo 60 (.mov (.tmp 0)), oo 61 (.mov (.tmp 0)), oo 62 (.bsl 1 false [i6 0] 2 [(0, (.con (i6 5))), (1, (.con (i6 900)))]), oo 63 (.call (.con (.fn 51 [] [])) [(.tmp 61), (.tmp 62)]), oo 64 (.call (.con (.fn 53 [] [])) [(.tmp 60), (.con (i6 0)), (.tmp 63)]), oo 65 (.mov (.tmp 0)), oo 66 (.mov (.tmp 0)), oo 67 (.bsl 1 false [i6 0] 2 [(0, (.con (i6 20))), (1, (.con (i6 700)))]), oo 68 (.call (.con (.fn 51 [] [])) [(.tmp 66), (.tmp 67)]), oo 69 (.call (.con (.fn 53 [] [])) [(.tmp 65), (.con (i6 0)), (.tmp 68)]), oo 70 (.mov (.tmp 0)), oo 71 (.call (.con (.fn 25 [] [])) [(.tmp 70), (.con (i6 1)), (.con (i6 4))]), oo 72 (.build [i6 0, i6 0, i6 0, i6 0, i6 0, i6 0, i6 0] [(0, 1, (.tmp 59)), (1, 2, (.tmp 64)), (3, 2, (.tmp 69)), (5, 1, (.tmp 71))]), oo 7 (.box (.con (.agg [i6 0, i6 0, i6 0, i6 0, i6 0, i6 0, i6 0]))), on (.store 7 (.tmp 7) (.tmp 72))]) (.seq (.seq (.reg [oo 73 (.faddr (.tmp 7) 5), oo 74 (.load none (.tmp 73)), oo 75 (.bin .eql (.tmp 74) (.con (i6 2))), oo 76 (.mov (.tmp 75)), ⟨some 77, .faddr (.tmp 7) 5, some (76, false)⟩, ⟨some 78, .load none (.tmp 77), some (76, false)⟩, ⟨some 79, .bin .eql (.tmp 78) (.con (i6 3)), some (76, false)⟩, oo 80 (.pick (.tmp 76) (.con (.bool true)) (.tmp 79))]) (.cond (.tmp 80) (.reg [oo 81 (.mov (.tmp 0)), oo 82 (.call (.con (.fn 52 [] [])) [(.tmp 81), (.con (i6 3000))]), oo 83 (.faddr (.tmp 7) 6), on (.store 1 (.tmp 83) (.tmp 82))]) .skip)) (.reg [oo 84 (.faddr (.tmp 5) 8), oo 85 (.load none (.tmp 84)), oo 86 (.load (some 7) (.tmp 7)), oo 87 (.bsl 7 true [i6 0, i6 0, i6 0, i6 0, i6 0, i6 0, i6 0] 1 [(0, (.tmp 86))]), oo 88 (.app (.tmp 85) (.tmp 87) 7 56 [i6 0, i6 0, i6 0, i6 0, i6 0, i6 0, i6 0]), oo 89 (.faddr (.tmp 5) 8), on (.store 1 (.tmp 89) (.tmp 88))])))) (.reg [oo 52 (.mov (.tmp 6)), oo 53 (.bin .sub (.tmp 52) (.con (i6 1))), oo 6 (.mov (.tmp 53))])))))) (.seq (.reg [oo 90 (.load (some 9) (.tmp 5)), on (.store 9 (.tmp 4) (.tmp 90))]) .ret)))))))⟩
theorem comp8 : compFn Try.prog 8 = some F8 := by kernel_rfl
def F9 : AFn := ⟨1, 29, [.tmp 2], (.seq (.reg [oo 2 (.mov (.con (.nilp)))]) (.seq (.reg [oo 5 (.build [.int .u64 0] [(0, 1, (.con (.int .u64 2685821657736338717)))]), oo 6 (.box (.tmp 5)), oo 3 (.mov (.tmp 6))]) (.seq (.seq (.reg [oo 4 (.mov (.con (i6 0)))]) (.block 0 (.loop (.seq (.seq (.reg [oo 7 (.mov (.tmp 4)), oo 8 (.mov (.tmp 0)), oo 9 (.len false (.tmp 8)), oo 10 (.bin .lss (.tmp 7) (.tmp 9))]) (.cond (.tmp 10) .skip (.exit 0))) (.seq (.block 1 (.seq (.dreg 11 [oo 13 (.mov (.tmp 3)), oo 14 (.mov (.tmp 3)), oo 15 (.nilck (.tmp 14)), oo 16 (.faddr (.tmp 15) 0), oo 17 (.load none (.tmp 16)), oo 18 (.mov (.tmp 0)), oo 19 (.mov (.tmp 4)), oo 20 (.iaddr (.tmp 18) (.tmp 19) 1 none), oo 21 (.load none (.tmp 20)), oo 22 (.conv .u64 (.tmp 21)), oo 23 (.bin .xor (.tmp 17) (.tmp 22)), oo 24 (.nilck (.tmp 13)), oo 25 (.faddr (.tmp 24) 0), on (.store 1 (.tmp 25) (.tmp 23))]) (.reg [oo 26 (.mov (.tmp 3)), oo 27 (.call (.con (.fn 54 [] [])) [(.tmp 26)])]))) (.reg [oo 11 (.mov (.tmp 4)), oo 12 (.bin .add (.tmp 11) (.con (i6 1))), oo 4 (.mov (.tmp 12))])))))) (.seq (.reg [oo 28 (.mov (.tmp 3)), oo 2 (.mov (.tmp 28))]) .ret))))⟩
theorem comp9 : compFn Try.prog 9 = some F9 := by kernel_rfl
def F10 : AFn := ⟨1, 9, [.cell 2 (some 9)], (.seq (.reg [oo 1 (.box (.tmp 0)), oo 2 (.box (.con (.agg [i6 0, i6 0, i6 0, i6 0, i6 0, i6 0, i6 0, i6 0, .nils])))]) (.seq (.reg [oo 3 (.bsl 7 true [i6 0, i6 0, i6 0, i6 0, i6 0, i6 0, i6 0] 0 []), oo 4 (.faddr (.tmp 1) 8), oo 5 (.load none (.tmp 4)), oo 6 (.app (.tmp 3) (.tmp 5) 7 56 [i6 0, i6 0, i6 0, i6 0, i6 0, i6 0, i6 0]), oo 7 (.faddr (.tmp 1) 8), on (.store 1 (.tmp 7) (.tmp 6))]) (.seq (.reg [oo 8 (.load (some 9) (.tmp 1)), on (.store 9 (.tmp 2) (.tmp 8))]) .ret)))⟩
theorem comp10 : compFn Try.prog 10 = some F10 := by kernel_rfl
def F11 : AFn := ⟨2, 16, [.tmp 4], (.seq (.reg [oo 4 (.mov (.con (i6 0)))]) (.seq (.seq (.reg [oo 5 (.mov (.tmp 1)), oo 6 (.bin .lss (.tmp 5) (.con (i6 2)))]) (.cond (.tmp 6) (.seq (.reg [oo 4 (.mov (.con (i6 0)))]) .ret) .skip)) (.seq (.reg [oo 7 (.mov (.tmp 0)), oo 8 (.mov (.tmp 1)), oo 9 (.bin .rem (.tmp 7) (.tmp 8)), oo 0 (.mov (.tmp 9))]) (.seq (.seq (.reg [oo 10 (.mov (.tmp 0)), oo 11 (.bin .lss (.tmp 10) (.con (i6 0)))]) (.cond (.tmp 11) (.reg [oo 12 (.mov (.tmp 0)), oo 13 (.mov (.tmp 1)), oo 14 (.bin .add (.tmp 12) (.tmp 13)), oo 0 (.mov (.tmp 14))]) .skip)) (.seq (.reg [oo 15 (.mov (.tmp 0)), oo 4 (.mov (.tmp 15))]) .ret)))))⟩
theorem comp11 : compFn Try.prog 11 = some F11 := by kernel_rfl
def F12 : AFn := ⟨1, 21, [.cell 2 (some 2), .tmp 3], (.seq (.reg [oo 1 (.box (.tmp 0)), oo 2 (.box (.con (.agg [i6 0, i6 0]))), oo 3 (.mov (.con (i6 0)))]) (.seq (.seq (.reg [oo 6 (.load (some 9) (.tmp 1)), oo 7 (.call (.con (.fn 20 [] [])) [(.tmp 6)]), oo 4 (.mov (.tmp 7))]) (.seq (.reg [oo 8 (.mov (.tmp 4)), oo 9 (.bin .neq (.tmp 8) (.con (i6 0)))]) (.cond (.tmp 9) (.seq (.reg [oo 10 (.build [i6 0, i6 0] []), oo 11 (.mov (.tmp 4)), on (.store 2 (.tmp 2) (.tmp 10)), oo 3 (.mov (.tmp 11))]) .ret) .skip))) (.seq (.reg [oo 12 (.load (some 9) (.tmp 1)), oo 13 (.call (.con (.fn 55 [] [])) [(.tmp 12)]), oo 5 (.box (.con (.agg [i6 0, i6 0, i6 0, i6 0, i6 0, i6 0, i6 0, i6 0, .nils, i6 0, i6 0, i6 0, i6 0, i6 0, i6 0, i6 0, i6 0, i6 0, i6 0, i6 0, i6 0, i6 0, i6 0, i6 0, i6 0, i6 0, i6 0, i6 0, i6 0, i6 0, i6 0, i6 0, i6 0, i6 0, i6 0, i6 0, i6 0, i6 0, i6 0, i6 0, i6 0, i6 0, i6 0, i6 0, i6 0, i6 0, i6 0, i6 0, i6 0, i6 0, i6 0, i6 0, i6 0, i6 0, i6 0, i6 0, i6 0, i6 0, i6 0, .nils, i6 0, i6 0, i6 0, i6 0, i6 0, i6 0, i6 0, i6 0, i6 0, i6 0, i6 0, i6 0, i6 0, i6 0, i6 0, i6 0, i6 0, i6 0, i6 0, i6 0, i6 0, i6 0, i6 0, i6 0, i6 0, i6 0, i6 0, i6 0, i6 0, i6 0, i6 0, i6 0, i6 0, i6 0, i6 0, i6 0, i6 0, i6 0, i6 0, i6 0, i6 0, i6 0]))), on (.store 102 (.tmp 5) (.tmp 13))]) (.seq (.dreg 5 [oo 14 (.iaddr (.tmp 5) (.con (i6 0)) 51 (some 2)), oo 15 (.load (some 51) (.tmp 14)), oo 16 (.call (.con (.fn 56 [] [])) [(.tmp 15)]), oo 17 (.iaddr (.tmp 5) (.con (i6 1)) 51 (some 2)), oo 18 (.load (some 51) (.tmp 17)), oo 19 (.call (.con (.fn 56 [] [])) [(.tmp 18)]), oo 20 (.build [i6 0, i6 0] [(0, 1, (.tmp 16)), (1, 1, (.tmp 19))]), on (.store 2 (.tmp 2) (.tmp 20)), oo 3 (.mov (.con (i6 0)))]) .ret))))⟩
theorem comp12 : compFn Try.prog 12 = some F12 := by kernel_rfl
def F13 : AFn := ⟨1, 20, [.cell 2 (some 2), .tmp 3], (.seq (.reg [oo 1 (.box (.tmp 0)), oo 2 (.box (.con (.agg [i6 0, i6 0]))), oo 3 (.mov (.con (i6 0)))]) (.seq (.seq (.reg [oo 5 (.load (some 9) (.tmp 1)), oo 6 (.call (.con (.fn 21 [] [])) [(.tmp 5)]), oo 4 (.mov (.tmp 6))]) (.seq (.reg [oo 7 (.mov (.tmp 4)), oo 8 (.bin .neq (.tmp 7) (.con (i6 0)))]) (.cond (.tmp 8) (.seq (.reg [oo 9 (.build [i6 0, i6 0] []), oo 10 (.mov (.tmp 4)), on (.store 2 (.tmp 2) (.tmp 9)), oo 3 (.mov (.tmp 10))]) .ret) .skip))) (.seq (.dreg 7 [oo 11 (.load (some 9) (.tmp 1)), oo 12 (.load (some 9) (.tmp 1)), oo 13 (.call (.con (.fn 57 [] [])) [(.tmp 12)]), oo 14 (.call (.con (.fn 40 [] [])) [(.tmp 11), (.tmp 13)]), oo 15 (.load (some 9) (.tmp 1)), oo 16 (.load (some 9) (.tmp 1)), oo 17 (.call (.con (.fn 58 [] [])) [(.tmp 16)]), oo 18 (.call (.con (.fn 40 [] [])) [(.tmp 15), (.tmp 17)]), oo 19 (.build [i6 0, i6 0] [(0, 1, (.tmp 14)), (1, 1, (.tmp 18))]), on (.store 2 (.tmp 2) (.tmp 19)), oo 3 (.mov (.con (i6 0)))]) .ret)))⟩
theorem comp13 : compFn Try.prog 13 = some F13 := by kernel_rfl
def F14 : AFn := ⟨1, 42, [.cell 2 (some 2), .cell 3 (some 2), .tmp 4], (.seq (.reg [oo 1 (.box (.tmp 0)), oo 2 (.box (.con (.agg [i6 0, i6 0]))), oo 3 (.box (.con (.agg [i6 0, i6 0]))), oo 4 (.mov (.con (i6 0)))]) (.seq (.seq (.reg [oo 7 (.load (some 9) (.tmp 1)), oo 8 (.call (.con (.fn 20 [] [])) [(.tmp 7)]), oo 5 (.mov (.tmp 8))]) (.seq (.reg [oo 9 (.mov (.tmp 5)), oo 10 (.bin .neq (.tmp 9) (.con (i6 0)))]) (.cond (.tmp 10) (.seq (.reg [oo 11 (.build [i6 0, i6 0] []), oo 12 (.build [i6 0, i6 0] []), oo 13 (.mov (.tmp 5)), on (.store 2 (.tmp 2) (.tmp 11)), on (.store 2 (.tmp 3) (.tmp 12)), oo 4 (.mov (.tmp 13))]) .ret) .skip))) (.seq (.reg [oo 14 (.load (some 9) (.tmp 1)), oo 15 (.call (.con (.fn 55 [] [])) [(.tmp 14)]), oo 6 (.box (.con (.agg [i6 0, i6 0, i6 0, i6 0, i6 0, i6 0, i6 0, i6 0, .nils, i6 0, i6 0, i6 0, i6 0, i6 0, i6 0, i6 0, i6 0, i6 0, i6 0, i6 0, i6 0, i6 0, i6 0, i6 0, i6 0, i6 0, i6 0, i6 0, i6 0, i6 0, i6 0, i6 0, i6 0, i6 0, i6 0, i6 0, i6 0, i6 0, i6 0, i6 0, i6 0, i6 0, i6 0, i6 0, i6 0, i6 0, i6 0, i6 0, i6 0, i6 0, i6 0, i6 0, i6 0, i6 0, i6 0, i6 0, i6 0, i6 0, i6 0, .nils, i6 0, i6 0, i6 0, i6 0, i6 0, i6 0, i6 0, i6 0, i6 0, i6 0, i6 0, i6 0, i6 0, i6 0, i6 0, i6 0, i6 0, i6 0, i6 0, i6 0, i6 0, i6 0, i6 0, i6 0, i6 0, i6 0, i6 0, i6 0, i6 0, i6 0, i6 0, i6 0, i6 0, i6 0, i6 0, i6 0, i6 0, i6 0, i6 0, i6 0, i6 0, i6 0]))), on (.store 102 (.tmp 6) (.tmp 15))]) (.seq (.dreg 11 [oo 16 (.iaddr (.tmp 6) (.con (i6 0)) 51 (some 2)), oo 17 (.load (some 51) (.tmp 16)), oo 18 (.call (.con (.fn 60 [] [])) [(.tmp 17)]), oo 19 (.iaddr (.tmp 6) (.con (i6 1)) 51 (some 2)), oo 20 (.load (some 51) (.tmp 19)), oo 21 (.call (.con (.fn 60 [] [])) [(.tmp 20)]), oo 22 (.faddr (.tmp 1) 3), oo 23 (.load none (.tmp 22)), oo 24 (.faddr (.tmp 1) 2), oo 25 (.load none (.tmp 24)), oo 26 (.bin .sub (.tmp 23) (.tmp 25)), oo 27 (.call (.con (.fn 59 [] [])) [(.tmp 18), (.tmp 21), (.tmp 26)]), on (.store 2 (.tmp 2) (.tmp 27))]) (.seq (.dreg 11 [oo 28 (.iaddr (.tmp 6) (.con (i6 0)) 51 (some 2)), oo 29 (.load (some 51) (.tmp 28)), oo 30 (.call (.con (.fn 61 [] [])) [(.tmp 29)]), oo 31 (.iaddr (.tmp 6) (.con (i6 1)) 51 (some 2)), oo 32 (.load (some 51) (.tmp 31)), oo 33 (.call (.con (.fn 61 [] [])) [(.tmp 32)]), oo 34 (.faddr (.tmp 1) 3), oo 35 (.load none (.tmp 34)), oo 36 (.faddr (.tmp 1) 2), oo 37 (.load none (.tmp 36)), oo 38 (.bin .sub (.tmp 35) (.tmp 37)), oo 39 (.call (.con (.fn 59 [] [])) [(.tmp 30), (.tmp 33), (.tmp 38)]), on (.store 2 (.tmp 3) (.tmp 39))]) (.seq (.dreg 3 [oo 40 (.load (some 2) (.tmp 2)), oo 41 (.load (some 2) (.tmp 3)), on (.store 2 (.tmp 2) (.tmp 40)), on (.store 2 (.tmp 3) (.tmp 41)), oo 4 (.mov (.con (i6 0)))]) .ret))))))⟩
theorem comp14 : compFn Try.prog 14 = some F14 := by kernel_rfl
def F15 : AFn := ⟨1, 51, [.cell 2 (some 2), .cell 3 (some 2), .tmp 4], (.seq (.reg [oo 1 (.box (.tmp 0)), oo 2 (.box (.con (.agg [i6 0, i6 0]))), oo 3 (.box (.con (.agg [i6 0, i6 0]))), oo 4 (.mov (.con (i6 0)))]) (.seq (.seq (.reg [oo 11 (.load (some 9) (.tmp 1)), oo 12 (.call (.con (.fn 21 [] [])) [(.tmp 11)]), oo 5 (.mov (.tmp 12))]) (.seq (.reg [oo 13 (.mov (.tmp 5)), oo 14 (.bin .neq (.tmp 13) (.con (i6 0)))]) (.cond (.tmp 14) (.seq (.reg [oo 15 (.build [i6 0, i6 0] []), oo 16 (.build [i6 0, i6 0] []), oo 17 (.mov (.tmp 5)), on (.store 2 (.tmp 2) (.tmp 15)), on (.store 2 (.tmp 3) (.tmp 16)), oo 4 (.mov (.tmp 17))]) .ret) .skip))) (.seq (.dreg 8 [oo 19 (.load (some 9) (.tmp 1)), oo 20 (.load (some 9) (.tmp 1)), oo 21 (.call (.con (.fn 57 [] [])) [(.tmp 20)]), oo 22 (.call (.con (.fn 38 [] [])) [(.tmp 19), (.tmp 21)]), oo 18 (.mov (.tmp 22)), oo 23 (.ext (.tmp 18) 0), oo 24 (.ext (.tmp 18) 1), oo 6 (.mov (.tmp 23)), oo 7 (.mov (.tmp 24))]) (.seq (.dreg 8 [oo 26 (.load (some 9) (.tmp 1)), oo 27 (.load (some 9) (.tmp 1)), oo 28 (.call (.con (.fn 58 [] [])) [(.tmp 27)]), oo 29 (.call (.con (.fn 38 [] [])) [(.tmp 26), (.tmp 28)]), oo 25 (.mov (.tmp 29)), oo 30 (.ext (.tmp 25) 0), oo 31 (.ext (.tmp 25) 1), oo 8 (.mov (.tmp 30)), oo 9 (.mov (.tmp 31))]) (.seq (.reg [oo 32 (.faddr (.tmp 1) 3), oo 33 (.load none (.tmp 32)), oo 34 (.faddr (.tmp 1) 2), oo 35 (.load none (.tmp 34)), oo 36 (.bin .sub (.tmp 33) (.tmp 35)), oo 10 (.mov (.tmp 36))]) (.seq (.reg [oo 37 (.mov (.tmp 6)), oo 38 (.mov (.tmp 10)), oo 39 (.call (.con (.fn 45 [] [])) [(.tmp 37), (.tmp 38)]), oo 40 (.mov (.tmp 8)), oo 41 (.mov (.tmp 10)), oo 42 (.call (.con (.fn 46 [] [])) [(.tmp 40), (.tmp 41)]), oo 43 (.build [i6 0, i6 0] [(0, 1, (.tmp 39)), (1, 1, (.tmp 42))]), oo 44 (.mov (.tmp 7)), oo 45 (.mov (.tmp 10)), oo 46 (.call (.con (.fn 45 [] [])) [(.tmp 44), (.tmp 45)]), oo 47 (.mov (.tmp 9)), oo 48 (.mov (.tmp 10)), oo 49 (.call (.con (.fn 46 [] [])) [(.tmp 47), (.tmp 48)]), oo 50 (.build [i6 0, i6 0] [(0, 1, (.tmp 46)), (1, 1, (.tmp 49))]), on (.store 2 (.tmp 2) (.tmp 43)), on (.store 2 (.tmp 3) (.tmp 50)), oo 4 (.mov (.con (i6 0)))]) .ret))))))⟩
theorem comp15 : compFn Try.prog 15 = some F15 := by kernel_rfl
def F16 : AFn := ⟨1, 21, [.cell 2 (some 2), .tmp 3], (.seq (.reg [oo 1 (.box (.tmp 0)), oo 2 (.box (.con (.agg [i6 0, i6 0]))), oo 3 (.mov (.con (i6 0)))]) (.seq (.seq (.reg [oo 6 (.load (some 9) (.tmp 1)), oo 7 (.call (.con (.fn 20 [] [])) [(.tmp 6)]), oo 4 (.mov (.tmp 7))]) (.seq (.reg [oo 8 (.mov (.tmp 4)), oo 9 (.bin .neq (.tmp 8) (.con (i6 0)))]) (.cond (.tmp 9) (.seq (.reg [oo 10 (.build [i6 0, i6 0] []), oo 11 (.mov (.tmp 4)), on (.store 2 (.tmp 2) (.tmp 10)), oo 3 (.mov (.tmp 11))]) .ret) .skip))) (.seq (.reg [oo 12 (.load (some 9) (.tmp 1)), oo 13 (.call (.con (.fn 55 [] [])) [(.tmp 12)]), oo 5 (.box (.con (.agg [i6 0, i6 0, i6 0, i6 0, i6 0, i6 0, i6 0, i6 0, .nils, i6 0, i6 0, i6 0, i6 0, i6 0, i6 0, i6 0, i6 0, i6 0, i6 0, i6 0, i6 0, i6 0, i6 0, i6 0, i6 0, i6 0, i6 0, i6 0, i6 0, i6 0, i6 0, i6 0, i6 0, i6 0, i6 0, i6 0, i6 0, i6 0, i6 0, i6 0, i6 0, i6 0, i6 0, i6 0, i6 0, i6 0, i6 0, i6 0, i6 0, i6 0, i6 0, i6 0, i6 0, i6 0, i6 0, i6 0, i6 0, i6 0, i6 0, .nils, i6 0, i6 0, i6 0, i6 0, i6 0, i6 0, i6 0, i6 0, i6 0, i6 0, i6 0, i6 0, i6 0, i6 0, i6 0, i6 0, i6 0, i6 0, i6 0, i6 0, i6 0, i6 0, i6 0, i6 0, i6 0, i6 0, i6 0, i6 0, i6 0, i6 0, i6 0, i6 0, i6 0, i6 0, i6 0, i6 0, i6 0, i6 0, i6 0, i6 0, i6 0, i6 0]))), on (.store 102 (.tmp 5) (.tmp 13))]) (.seq (.dreg 5 [oo 14 (.iaddr (.tmp 5) (.con (i6 0)) 51 (some 2)), oo 15 (.load (some 51) (.tmp 14)), oo 16 (.call (.con (.fn 62 [] [])) [(.tmp 15)]), oo 17 (.iaddr (.tmp 5) (.con (i6 1)) 51 (some 2)), oo 18 (.load (some 51) (.tmp 17)), oo 19 (.call (.con (.fn 62 [] [])) [(.tmp 18)]), oo 20 (.build [i6 0, i6 0] [(0, 1, (.tmp 16)), (1, 1, (.tmp 19))]), on (.store 2 (.tmp 2) (.tmp 20)), oo 3 (.mov (.con (i6 0)))]) .ret))))⟩
theorem comp16 : compFn Try.prog 16 = some F16 := by kernel_rfl
def F17 : AFn := ⟨1, 20, [.cell 2 (some 2), .tmp 3], (.seq (.reg [oo 1 (.box (.tmp 0)), oo 2 (.box (.con (.agg [i6 0, i6 0]))), oo 3 (.mov (.con (i6 0)))]) (.seq (.seq (.reg [oo 5 (.load (some 9) (.tmp 1)), oo 6 (.call (.con (.fn 21 [] [])) [(.tmp 5)]), oo 4 (.mov (.tmp 6))]) (.seq (.reg [oo 7 (.mov (.tmp 4)), oo 8 (.bin .neq (.tmp 7) (.con (i6 0)))]) (.cond (.tmp 8) (.seq (.reg [oo 9 (.build [i6 0, i6 0] []), oo 10 (.mov (.tmp 4)), on (.store 2 (.tmp 2) (.tmp 9)), oo 3 (.mov (.tmp 10))]) .ret) .skip))) (.seq (.dreg 7 [oo 11 (.load (some 9) (.tmp 1)), oo 12 (.load (some 9) (.tmp 1)), oo 13 (.call (.con (.fn 57 [] [])) [(.tmp 12)]), oo 14 (.call (.con (.fn 41 [] [])) [(.tmp 11), (.tmp 13)]), oo 15 (.load (some 9) (.tmp 1)), oo 16 (.load (some 9) (.tmp 1)), oo 17 (.call (.con (.fn 58 [] [])) [(.tmp 16)]), oo 18 (.call (.con (.fn 41 [] [])) [(.tmp 15), (.tmp 17)]), oo 19 (.build [i6 0, i6 0] [(0, 1, (.tmp 14)), (1, 1, (.tmp 18))]), on (.store 2 (.tmp 2) (.tmp 19)), oo 3 (.mov (.con (i6 0)))]) .ret)))⟩
theorem comp17 : compFn Try.prog 17 = some F17 := by kernel_rfl
def F18 : AFn := ⟨1, 20, [.tmp 2, .tmp 3], (.seq (.reg [oo 1 (.box (.tmp 0)), oo 2 (.mov (.con (i6 0))), oo 3 (.mov (.con (i6 0)))]) (.seq (.seq (.reg [oo 6 (.load (some 9) (.tmp 1)), oo 7 (.call (.con (.fn 20 [] [])) [(.tmp 6)]), oo 4 (.mov (.tmp 7))]) (.seq (.reg [oo 8 (.mov (.tmp 4)), oo 9 (.bin .neq (.tmp 8) (.con (i6 0)))]) (.cond (.tmp 9) (.seq (.reg [oo 10 (.mov (.tmp 4)), oo 2 (.mov (.con (i6 0))), oo 3 (.mov (.tmp 10))]) .ret) .skip))) (.seq (.reg [oo 11 (.load (some 9) (.tmp 1)), oo 12 (.call (.con (.fn 55 [] [])) [(.tmp 11)]), oo 5 (.box (.con (.agg [i6 0, i6 0, i6 0, i6 0, i6 0, i6 0, i6 0, i6 0, .nils, i6 0, i6 0, i6 0, i6 0, i6 0, i6 0, i6 0, i6 0, i6 0, i6 0, i6 0, i6 0, i6 0, i6 0, i6 0, i6 0, i6 0, i6 0, i6 0, i6 0, i6 0, i6 0, i6 0, i6 0, i6 0, i6 0, i6 0, i6 0, i6 0, i6 0, i6 0, i6 0, i6 0, i6 0, i6 0, i6 0, i6 0, i6 0, i6 0, i6 0, i6 0, i6 0, i6 0, i6 0, i6 0, i6 0, i6 0, i6 0, i6 0, i6 0, .nils, i6 0, i6 0, i6 0, i6 0, i6 0, i6 0, i6 0, i6 0, i6 0, i6 0, i6 0, i6 0, i6 0, i6 0, i6 0, i6 0, i6 0, i6 0, i6 0, i6 0, i6 0, i6 0, i6 0, i6 0, i6 0, i6 0, i6 0, i6 0, i6 0, i6 0, i6 0, i6 0, i6 0, i6 0, i6 0, i6 0, i6 0, i6 0, i6 0, i6 0, i6 0, i6 0]))), on (.store 102 (.tmp 5) (.tmp 12))]) (.seq (.dreg 5 [oo 13 (.iaddr (.tmp 5) (.con (i6 0)) 51 (some 2)), oo 14 (.load (some 51) (.tmp 13)), oo 15 (.call (.con (.fn 64 [] [])) [(.tmp 14)]), oo 16 (.iaddr (.tmp 5) (.con (i6 1)) 51 (some 2)), oo 17 (.load (some 51) (.tmp 16)), oo 18 (.call (.con (.fn 64 [] [])) [(.tmp 17)]), oo 19 (.call (.con (.fn 63 [] [])) [(.tmp 15), (.tmp 18)]), oo 2 (.mov (.tmp 19)), oo 3 (.mov (.con (i6 0)))]) .ret))))⟩
theorem comp18 : compFn Try.prog 18 = some F18 := by kernel_rfl
def F19 : AFn := ⟨1, 19, [.tmp 2, .tmp 3], (.seq (.reg [oo 1 (.box (.tmp 0)), oo 2 (.mov (.con (i6 0))), oo 3 (.mov (.con (i6 0)))]) (.seq (.seq (.reg [oo 5 (.load (some 9) (.tmp 1)), oo 6 (.call (.con (.fn 21 [] [])) [(.tmp 5)]), oo 4 (.mov (.tmp 6))]) (.seq (.reg [oo 7 (.mov (.tmp 4)), oo 8 (.bin .neq (.tmp 7) (.con (i6 0)))]) (.cond (.tmp 8) (.seq (.reg [oo 9 (.mov (.tmp 4)), oo 2 (.mov (.con (i6 0))), oo 3 (.mov (.tmp 9))]) .ret) .skip))) (.seq (.dreg 7 [oo 10 (.load (some 9) (.tmp 1)), oo 11 (.load (some 9) (.tmp 1)), oo 12 (.call (.con (.fn 57 [] [])) [(.tmp 11)]), oo 13 (.call (.con (.fn 66 [] [])) [(.tmp 10), (.tmp 12)]), oo 14 (.load (some 9) (.tmp 1)), oo 15 (.load (some 9) (.tmp 1)), oo 16 (.call (.con (.fn 58 [] [])) [(.tmp 15)]), oo 17 (.call (.con (.fn 66 [] [])) [(.tmp 14), (.tmp 16)]), oo 18 (.call (.con (.fn 65 [] [])) [(.tmp 13), (.tmp 17)]), oo 2 (.mov (.tmp 18)), oo 3 (.mov (.con (i6 0)))]) .ret)))⟩
theorem comp19 : compFn Try.prog 19 = some F19 := by kernel_rfl
def F20 : AFn := ⟨1, 30, [.tmp 2], (.seq (.reg [oo 1 (.box (.tmp 0)), oo 2 (.mov (.con (i6 0)))]) (.seq (.seq (.reg [oo 7 (.load (some 9) (.tmp 1)), oo 8 (.call (.con (.fn 67 [] [])) [(.tmp 7)]), oo 3 (.mov (.tmp 8))]) (.seq (.reg [oo 9 (.mov (.tmp 3)), oo 10 (.bin .neq (.tmp 9) (.con (i6 0)))]) (.cond (.tmp 10) (.seq (.reg [oo 11 (.mov (.tmp 3)), oo 2 (.mov (.tmp 11))]) .ret) .skip))) (.seq (.seq (.reg [oo 12 (.faddr (.tmp 1) 8), oo 13 (.load none (.tmp 12)), oo 14 (.len false (.tmp 13)), oo 15 (.bin .gtr (.tmp 14) (.con (i6 20)))]) (.cond (.tmp 15) (.seq (.reg [oo 2 (.mov (.con (i6 5)))]) .ret) .skip)) (.seq (.seq (.reg [oo 16 (.faddr (.tmp 1) 8), oo 17 (.load none (.tmp 16)), oo 18 (.len false (.tmp 17)), oo 19 (.mov (.con (i6 0)))]) (.block 0 (.loop (.seq (.reg [oo 20 (.bin .lss (.tmp 19) (.tmp 18))]) (.seq (.cond (.tmp 20) .skip (.exit 0)) (.seq (.block 1 (.seq (.reg [oo 21 (.iaddr (.tmp 17) (.tmp 19) 7 none), oo 22 (.load (some 7) (.tmp 21)), oo 5 (.box (.con (.agg [i6 0, i6 0, i6 0, i6 0, i6 0, i6 0, i6 0]))), on (.store 7 (.tmp 5) (.tmp 22))]) (.seq (.reg [oo 23 (.load (some 9) (.tmp 1)), oo 24 (.load (some 7) (.tmp 5)), oo 25 (.call (.con (.fn 68 [] [])) [(.tmp 23), (.tmp 24)]), oo 6 (.mov (.tmp 25))]) (.seq (.reg [oo 26 (.mov (.tmp 6)), oo 27 (.bin .neq (.tmp 26) (.con (i6 0)))]) (.cond (.tmp 27) (.seq (.reg [oo 28 (.mov (.tmp 6)), oo 2 (.mov (.tmp 28))]) .ret) .skip))))) (.reg [oo 29 (.bin .add (.tmp 19) (.con (i6 1))), oo 19 (.mov (.tmp 29))]))))))) (.seq (.reg [oo 2 (.mov (.con (i6 0)))]) .ret)))))⟩
theorem comp20 : compFn Try.prog 20 = some F20 := by kernel_rfl
def F21 : AFn := ⟨1, 81, [.tmp 2], (.seq (.reg [oo 1 (.box (.tmp 0)), oo 2 (.mov (.con (i6 0)))]) (.seq (.seq (.reg [oo 5 (.faddr (.tmp 1) 0), oo 6 (.load none (.tmp 5)), oo 7 (.call (.con (.fn 69 [] [])) [(.tmp 6), (.con (i6 1)), (.con (i6 3000))]), oo 8 (.un .not (.tmp 7)), oo 9 (.mov (.tmp 8)), ⟨some 10, .faddr (.tmp 1) 1, some (9, false)⟩, ⟨some 11, .load none (.tmp 10), some (9, false)⟩, ⟨some 12, .call (.con (.fn 69 [] [])) [(.tmp 11), (.con (i6 1)), (.con (i6 1000))], some (9, false)⟩, ⟨some 13, .un .not (.tmp 12), some (9, false)⟩, oo 14 (.pick (.tmp 9) (.con (.bool true)) (.tmp 13)), oo 15 (.mov (.tmp 14)), ⟨some 16, .faddr (.tmp 1) 2, some (15, false)⟩, ⟨some 17, .load none (.tmp 16), some (15, false)⟩, ⟨some 18, .faddr (.tmp 1) 0, some (15, false)⟩, ⟨some 19, .load none (.tmp 18), some (15, false)⟩, ⟨some 20, .call (.con (.fn 69 [] [])) [(.tmp 17), (.con (i6 0)), (.tmp 19)], some (15, false)⟩, ⟨some 21, .un .not (.tmp 20), some (15, false)⟩, oo 22 (.pick (.tmp 15) (.con (.bool true)) (.tmp 21)), oo 23 (.mov (.tmp 22)), ⟨some 24, .faddr (.tmp 1) 3, some (23, false)⟩, ⟨some 25, .load none (.tmp 24), some (23, false)⟩, ⟨some 26, .faddr (.tmp 1) 0, some (23, false)⟩, ⟨some 27, .load none (.tmp 26), some (23, false)⟩, ⟨some 28, .call (.con (.fn 69 [] [])) [(.tmp 25), (.con (i6 0)), (.tmp 27)], some (23, false)⟩, ⟨some 29, .un .not (.tmp 28), some (23, false)⟩, oo 30 (.pick (.tmp 23) (.con (.bool true)) (.tmp 29))]) (.cond (.tmp 30) (.seq (.reg [oo 2 (.mov (.con (i6 2)))]) .ret) .skip)) (.seq (.seq (.reg [oo 31 (.faddr (.tmp 1) 2), oo 32 (.load none (.tmp 31)), oo 33 (.faddr (.tmp 1) 3), oo 34 (.load none (.tmp 33)), oo 35 (.bin .geq (.tmp 32) (.tmp 34))]) (.cond (.tmp 35) (.seq (.reg [oo 2 (.mov (.con (i6 9)))]) .ret) .skip)) (.seq (.seq (.reg [oo 36 (.faddr (.tmp 1) 4), oo 37 (.load none (.tmp 36)), oo 38 (.call (.con (.fn 69 [] [])) [(.tmp 37), (.con (i6 0)), (.con (i6 20000))]), oo 39 (.un .not (.tmp 38)), oo 40 (.mov (.tmp 39)), ⟨some 41, .faddr (.tmp 1) 5, some (40, false)⟩, ⟨some 42, .load none (.tmp 41), some (40, false)⟩, ⟨some 43, .call (.con (.fn 69 [] [])) [(.tmp 42), (.con (i6 0)), (.con (i6 100000))], some (40, false)⟩, ⟨some 44, .un .not (.tmp 43), some (40, false)⟩, oo 45 (.pick (.tmp 40) (.con (.bool true)) (.tmp 44)), oo 46 (.mov (.tmp 45)), ⟨some 47, .faddr (.tmp 1) 6, some (46, false)⟩, ⟨some 48, .load none (.tmp 47), some (46, false)⟩, ⟨some 49, .faddr (.tmp 1) 0, some (46, false)⟩, ⟨some 50, .load none (.tmp 49), some (46, false)⟩, ⟨some 51, .call (.con (.fn 69 [] [])) [(.tmp 48), (.con (i6 0)), (.tmp 50)], some (46, false)⟩, ⟨some 52, .un .not (.tmp 51), some (46, false)⟩, oo 53 (.pick (.tmp 46) (.con (.bool true)) (.tmp 52)), oo 54 (.mov (.tmp 53)), ⟨some 55, .faddr (.tmp 1) 7, some (54, false)⟩, ⟨some 56, .load none (.tmp 55), some (54, false)⟩, ⟨some 57, .call (.con (.fn 69 [] [])) [(.tmp 56), (.con (i6 0)), (.con (i6 2000))], some (54, false)⟩, ⟨some 58, .un .not (.tmp 57), some (54, false)⟩, oo 59 (.pick (.tmp 54) (.con (.bool true)) (.tmp 58))]) (.cond (.tmp 59) (.seq (.reg [oo 2 (.mov (.con (i6 2)))]) .ret) .skip)) (.seq (.seq (.reg [oo 60 (.faddr (.tmp 1) 8), oo 61 (.load none (.tmp 60)), oo 62 (.len false (.tmp 61)), oo 63 (.bin .gtr (.tmp 62) (.con (i6 20)))]) (.cond (.tmp 63) (.seq (.reg [oo 2 (.mov (.con (i6 5)))]) .ret) .skip)) (.seq (.seq (.reg [oo 3 (.mov (.con (i6 0)))]) (.block 0 (.loop (.seq (.seq (.reg [oo 64 (.mov (.tmp 3)), oo 65 (.faddr (.tmp 1) 8), oo 66 (.load none (.tmp 65)), oo 67 (.len false (.tmp 66)), oo 68 (.bin .lss (.tmp 64) (.tmp 67))]) (.cond (.tmp 68) .skip (.exit 0))) (.seq (.block 1 (.seq (.dreg 6 [oo 71 (.load (some 9) (.tmp 1)), oo 72 (.faddr (.tmp 1) 8), oo 73 (.load none (.tmp 72)), oo 74 (.mov (.tmp 3)), oo 75 (.iaddr (.tmp 73) (.tmp 74) 7 none), oo 76 (.load (some 7) (.tmp 75)), oo 77 (.call (.con (.fn 70 [] [])) [(.tmp 71), (.tmp 76)]), oo 4 (.mov (.tmp 77))]) (.seq (.reg [oo 78 (.mov (.tmp 4)), oo 79 (.bin .neq (.tmp 78) (.con (i6 0)))]) (.cond (.tmp 79) (.seq (.reg [oo 80 (.mov (.tmp 4)), oo 2 (.mov (.tmp 80))]) .ret) .skip)))) (.reg [oo 69 (.mov (.tmp 3)), oo 70 (.bin .add (.tmp 69) (.con (i6 1))), oo 3 (.mov (.tmp 70))])))))) (.seq (.reg [oo 2 (.mov (.con (i6 0)))]) .ret)))))))⟩
theorem comp21 : compFn Try.prog 21 = some F21 := by kernel_rfl
def F22 : AFn := ⟨2, 92, [.tmp 4], (.seq (.reg [oo 2 (.box (.tmp 0)), oo 3 (.box (.tmp 1)), oo 4 (.mov (.con (.bool false)))]) (.seq (.reg [oo 7 (.faddr (.tmp 2) 0), oo 8 (.load none (.tmp 7)), oo 9 (.faddr (.tmp 3) 0), oo 10 (.load none (.tmp 9)), oo 11 (.bin .eql (.tmp 8) (.tmp 10)), oo 12 (.mov (.tmp 11)), ⟨some 13, .faddr (.tmp 2) 1, some (12, true)⟩, ⟨some 14, .load none (.tmp 13), some (12, true)⟩, ⟨some 15, .faddr (.tmp 3) 1, some (12, true)⟩, ⟨some 16, .load none (.tmp 15), some (12, true)⟩, ⟨some 17, .bin .eql (.tmp 14) (.tmp 16), some (12, true)⟩, oo 18 (.pick (.tmp 12) (.tmp 17) (.con (.bool false))), oo 19 (.mov (.tmp 18)), ⟨some 20, .faddr (.tmp 2) 2, some (19, true)⟩, ⟨some 21, .load none (.tmp 20), some (19, true)⟩, ⟨some 22, .faddr (.tmp 3) 2, some (19, true)⟩, ⟨some 23, .load none (.tmp 22), some (19, true)⟩, ⟨some 24, .bin .eql (.tmp 21) (.tmp 23), some (19, true)⟩, oo 25 (.pick (.tmp 19) (.tmp 24) (.con (.bool false))), oo 26 (.mov (.tmp 25)), ⟨some 27, .faddr (.tmp 2) 3, some (26, true)⟩, ⟨some 28, .load none (.tmp 27), some (26, true)⟩, ⟨some 29, .faddr (.tmp 3) 3, some (26, true)⟩, ⟨some 30, .load none (.tmp 29), some (26, true)⟩, ⟨some 31, .bin .eql (.tmp 28) (.tmp 30), some (26, true)⟩, oo 32 (.pick (.tmp 26) (.tmp 31) (.con (.bool false))), oo 33 (.mov (.tmp 32)), ⟨some 34, .faddr (.tmp 2) 4, some (33, true)⟩, ⟨some 35, .load none (.tmp 34), some (33, true)⟩, ⟨some 36, .faddr (.tmp 3) 4, some (33, true)⟩, ⟨some 37, .load none (.tmp 36), some (33, true)⟩, ⟨some 38, .bin .eql (.tmp 35) (.tmp 37), some (33, true)⟩, oo 39 (.pick (.tmp 33) (.tmp 38) (.con (.bool false))), oo 40 (.mov (.tmp 39)), ⟨some 41, .faddr (.tmp 2) 5, some (40, true)⟩, ⟨some 42, .load none (.tmp 41), some (40, true)⟩, ⟨some 43, .faddr (.tmp 3) 5, some (40, true)⟩, ⟨some 44, .load none (.tmp 43), some (40, true)⟩, ⟨some 45, .bin .eql (.tmp 42) (.tmp 44), some (40, true)⟩, oo 46 (.pick (.tmp 40) (.tmp 45) (.con (.bool false))), oo 47 (.mov (.tmp 46)), ⟨some 48, .faddr (.tmp 2) 6, some (47, true)⟩, ⟨some 49, .load none (.tmp 48), some (47, true)⟩, ⟨some 50, .faddr (.tmp 3) 6, some (47, true)⟩, ⟨some 51, .load none (.tmp 50), some (47, true)⟩, ⟨some 52, .bin .eql (.tmp 49) (.tmp 51), some (47, true)⟩, oo 53 (.pick (.tmp 47) (.tmp 52) (.con (.bool false))), oo 54 (.mov (.tmp 53)), ⟨some 55, .faddr (.tmp 2) 7, some (54, true)⟩, ⟨some 56, .load none (.tmp 55), some (54, true)⟩, ⟨some 57, .faddr (.tmp 3) 7, some (54, true)⟩, ⟨some 58, .load none (.tmp 57), some (54, true)⟩, ⟨some 59, .bin .eql (.tmp 56) (.tmp 58), some (54, true)⟩, oo 60 (.pick (.tmp 54) (.tmp 59) (.con (.bool false))), oo 61 (.mov (.tmp 60)), ⟨some 62, .faddr (.tmp 2) 8, some (61, true)⟩, ⟨some 63, .load none (.tmp 62), some (61, true)⟩, ⟨some 64, .len false (.tmp 63), some (61, true)⟩, ⟨some 65, .faddr (.tmp 3) 8, some (61, true)⟩, ⟨some 66, .load none (.tmp 65), some (61, true)⟩, ⟨some 67, .len false (.tmp 66), some (61, true)⟩, ⟨some 68, .bin .eql (.tmp 64) (.tmp 67), some (61, true)⟩, oo 69 (.pick (.tmp 61) (.tmp 68) (.con (.bool false))), oo 5 (.mov (.tmp 69))]) (.seq (.seq (.reg [oo 6 (.mov (.con (i6 0)))]) (.block 0 (.loop (.seq (.seq (.reg [oo 70 (.mov (.tmp 5)), oo 71 (.mov (.tmp 70)), ⟨some 72, .mov (.tmp 6), some (71, true)⟩, ⟨some 73, .faddr (.tmp 2) 8, some (71, true)⟩, ⟨some 74, .load none (.tmp 73), some (71, true)⟩, ⟨some 75, .len false (.tmp 74), some (71, true)⟩, ⟨some 76, .bin .lss (.tmp 72) (.tmp 75), some (71, true)⟩, oo 77 (.pick (.tmp 71) (.tmp 76) (.con (.bool false)))]) (.cond (.tmp 77) .skip (.exit 0))) (.seq (.block 1 (.dreg 10 [oo 80 (.faddr (.tmp 2) 8), oo 81 (.load none (.tmp 80)), oo 82 (.mov (.tmp 6)), oo 83 (.iaddr (.tmp 81) (.tmp 82) 7 none), oo 84 (.load (some 7) (.tmp 83)), oo 85 (.faddr (.tmp 3) 8), oo 86 (.load none (.tmp 85)), oo 87 (.mov (.tmp 6)), oo 88 (.iaddr (.tmp 86) (.tmp 87) 7 none), oo 89 (.load (some 7) (.tmp 88)), oo 90 (.eqs false (.cons 0 none (.sc 1) (.cons 1 (some 2) (.cons 0 none (.sc 1) (.cons 1 none (.sc 1) .nil)) (.cons 3 (some 2) (.cons 0 none (.sc 1) (.cons 1 none (.sc 1) .nil)) (.cons 5 none (.sc 1) (.cons 6 none (.sc 1) .nil))))) (.tmp 84) (.tmp 89)), oo 5 (.mov (.tmp 90))])) (.reg [oo 78 (.mov (.tmp 6)), oo 79 (.bin .add (.tmp 78) (.con (i6 1))), oo 6 (.mov (.tmp 79))])))))) (.seq (.reg [oo 91 (.mov (.tmp 5)), oo 4 (.mov (.tmp 91))]) .ret))))⟩
theorem comp22 : compFn Try.prog 22 = some F22 := by kernel_rfl
def F25 : AFn := ⟨3, 15, [.tmp 6], (.seq (.reg [oo 6 (.mov (.con (i6 0)))]) (.seq (.reg [oo 7 (.mov (.tmp 1)), oo 8 (.mov (.tmp 0)), oo 9 (.mov (.tmp 2)), oo 10 (.mov (.tmp 1)), oo 11 (.bin .sub (.tmp 9) (.tmp 10)), oo 12 (.bin .add (.tmp 11) (.con (i6 1))), oo 13 (.call (.con (.fn 52 [] [])) [(.tmp 8), (.tmp 12)]), oo 14 (.bin .add (.tmp 7) (.tmp 13)), oo 6 (.mov (.tmp 14))]) .ret))⟩
theorem comp25 : compFn Try.prog 25 = some F25 := by kernel_rfl
def F26 : AFn := ⟨2, 16, [.tmp 4, .tmp 5], (.seq (.reg [oo 2 (.box (.tmp 0)), oo 4 (.mov (.con (.nils))), oo 5 (.mov (.con (i6 0)))]) (.seq (.seq (.reg [oo 7 (.load (some 9) (.tmp 2)), oo 8 (.mov (.tmp 1)), oo 9 (.call (.con (.fn 72 [] [])) [(.tmp 7), (.tmp 8)]), oo 6 (.mov (.tmp 9))]) (.seq (.reg [oo 10 (.mov (.tmp 6)), oo 11 (.bin .neq (.tmp 10) (.con (i6 0)))]) (.cond (.tmp 11) (.seq (.reg [oo 12 (.mov (.tmp 6)), oo 4 (.mov (.con (.nils))), oo 5 (.mov (.tmp 12))]) .ret) .skip))) (.seq (.reg [oo 13 (.load (some 9) (.tmp 2)), oo 14 (.mov (.tmp 1)), oo 15 (.call (.con (.fn 73 [] [])) [(.tmp 13), (.tmp 14)]), oo 4 (.mov (.tmp 15)), oo 5 (.mov (.con (i6 0)))]) .ret)))⟩
theorem comp26 : compFn Try.prog 26 = some F26 := by kernel_rfl
def F30 : AFn := ⟨3, 38, [.cell 6 (some 2), .tmp 7], (.seq (.reg [oo 3 (.box (.tmp 0)), oo 4 (.box (.tmp 1)), oo 5 (.box (.tmp 2)), oo 6 (.box (.con (.agg [i6 0, i6 0]))), oo 7 (.mov (.con (i6 0)))]) (.seq (.seq (.reg [oo 11 (.load (some 9) (.tmp 3)), oo 12 (.load none (.tmp 4)), oo 13 (.call (.con (.fn 72 [] [])) [(.tmp 11), (.tmp 12)]), oo 8 (.mov (.tmp 13))]) (.seq (.reg [oo 14 (.mov (.tmp 8)), oo 15 (.bin .neq (.tmp 14) (.con (i6 0)))]) (.cond (.tmp 15) (.seq (.reg [oo 16 (.build [i6 0, i6 0] []), oo 17 (.mov (.tmp 8)), on (.store 2 (.tmp 6) (.tmp 16)), oo 7 (.mov (.tmp 17))]) .ret) .skip))) (.seq (.seq (.reg [oo 18 (.load none (.tmp 5)), oo 19 (.faddr (.tmp 3) 2), oo 20 (.load none (.tmp 19)), oo 21 (.faddr (.tmp 3) 3), oo 22 (.load none (.tmp 21)), oo 23 (.call (.con (.fn 78 [] [])) [(.tmp 18), (.tmp 20), (.tmp 22)]), oo 24 (.un .not (.tmp 23))]) (.cond (.tmp 24) (.seq (.reg [oo 25 (.build [i6 0, i6 0] []), on (.store 2 (.tmp 6) (.tmp 25)), oo 7 (.mov (.con (i6 2)))]) .ret) .skip)) (.seq (.reg [oo 26 (.mkfn 80 [] [(.tmp 3), (.tmp 5)]), oo 27 (.call (.con (.fn 79 [] [])) [(.con (i6 100001)), (.tmp 26)]), oo 9 (.mov (.tmp 27))]) (.seq (.reg [oo 28 (.mkfn 82 [] [(.tmp 3), (.tmp 5), (.tmp 4)]), oo 29 (.call (.con (.fn 79 [] [])) [(.con (i6 100001)), (.tmp 28)]), oo 10 (.mov (.tmp 29))]) (.seq (.seq (.reg [oo 30 (.mov (.tmp 9)), oo 31 (.mov (.tmp 10)), oo 32 (.bin .geq (.tmp 30) (.tmp 31))]) (.cond (.tmp 32) (.seq (.reg [oo 33 (.build [i6 0, i6 0] []), on (.store 2 (.tmp 6) (.tmp 33)), oo 7 (.mov (.con (i6 7)))]) .ret) .skip)) (.seq (.reg [oo 34 (.mov (.tmp 9)), oo 35 (.mov (.tmp 10)), oo 36 (.bin .sub (.tmp 35) (.con (i6 1))), oo 37 (.build [i6 0, i6 0] [(0, 1, (.tmp 34)), (1, 1, (.tmp 36))]), on (.store 2 (.tmp 6) (.tmp 37)), oo 7 (.mov (.con (i6 0)))]) .ret)))))))⟩
theorem comp30 : compFn Try.prog 30 = some F30 := by kernel_rfl
def F32 : AFn := ⟨1, 21, [.tmp 2], (.seq (.reg [oo 2 (.mov (.con (i6 0)))]) (.seq (.seq (.reg [oo 6 (.mov (.tmp 0)), oo 7 (.len false (.tmp 6)), oo 8 (.bin .gtr (.tmp 7) (.con (i6 40)))]) (.cond (.tmp 8) (.seq (.reg [oo 2 (.mov (.con (i6 5)))]) .ret) .skip)) (.seq (.seq (.reg [oo 9 (.mov (.tmp 0)), oo 10 (.len false (.tmp 9)), oo 11 (.mov (.con (i6 0)))]) (.block 0 (.loop (.seq (.reg [oo 12 (.bin .lss (.tmp 11) (.tmp 10))]) (.seq (.cond (.tmp 12) .skip (.exit 0)) (.seq (.block 1 (.seq (.reg [oo 13 (.iaddr (.tmp 9) (.tmp 11) 3 none), oo 14 (.load (some 3) (.tmp 13)), oo 4 (.box (.con (.agg [i6 0, i6 0, i6 0]))), on (.store 3 (.tmp 4) (.tmp 14))]) (.seq (.reg [oo 15 (.load (some 3) (.tmp 4)), oo 16 (.call (.con (.fn 84 [] [])) [(.tmp 15)]), oo 5 (.mov (.tmp 16))]) (.seq (.reg [oo 17 (.mov (.tmp 5)), oo 18 (.bin .neq (.tmp 17) (.con (i6 0)))]) (.cond (.tmp 18) (.seq (.reg [oo 19 (.mov (.tmp 5)), oo 2 (.mov (.tmp 19))]) .ret) .skip))))) (.reg [oo 20 (.bin .add (.tmp 11) (.con (i6 1))), oo 11 (.mov (.tmp 20))]))))))) (.seq (.reg [oo 2 (.mov (.con (i6 0)))]) .ret))))⟩
theorem comp32 : compFn Try.prog 32 = some F32 := by kernel_rfl
def F34 : AFn := ⟨2, 26, [.tmp 4], (.seq (.reg [oo 4 (.mov (.con (.bool false)))]) (.seq (.seq (.reg [oo 6 (.mov (.tmp 0)), oo 7 (.len false (.tmp 6)), oo 8 (.mov (.tmp 1)), oo 9 (.len false (.tmp 8)), oo 10 (.bin .neq (.tmp 7) (.tmp 9))]) (.cond (.tmp 10) (.seq (.reg [oo 4 (.mov (.con (.bool false)))]) .ret) .skip)) (.seq (.seq (.reg [oo 5 (.mov (.con (i6 0)))]) (.block 0 (.loop (.seq (.seq (.reg [oo 11 (.mov (.tmp 5)), oo 12 (.mov (.tmp 0)), oo 13 (.len false (.tmp 12)), oo 14 (.bin .lss (.tmp 11) (.tmp 13))]) (.cond (.tmp 14) .skip (.exit 0))) (.seq (.block 1 (.seq (.dreg 8 [oo 17 (.mov (.tmp 0)), oo 18 (.mov (.tmp 5)), oo 19 (.iaddr (.tmp 17) (.tmp 18) 1 none), oo 20 (.load none (.tmp 19)), oo 21 (.mov (.tmp 1)), oo 22 (.mov (.tmp 5)), oo 23 (.iaddr (.tmp 21) (.tmp 22) 1 none), oo 24 (.load none (.tmp 23)), oo 25 (.bin .neq (.tmp 20) (.tmp 24))]) (.cond (.tmp 25) (.seq (.reg [oo 4 (.mov (.con (.bool false)))]) .ret) .skip))) (.reg [oo 15 (.mov (.tmp 5)), oo 16 (.bin .add (.tmp 15) (.con (i6 1))), oo 5 (.mov (.tmp 16))])))))) (.seq (.reg [oo 4 (.mov (.con (.bool true)))]) .ret))))⟩
theorem comp34 : compFn Try.prog 34 = some F34 := by kernel_rfl
def F38 : AFn := ⟨2, 65, [.tmp 4, .tmp 5], (.seq (.reg [oo 2 (.box (.tmp 0)), oo 3 (.box (.tmp 1)), oo 4 (.mov (.con (i6 0))), oo 5 (.mov (.con (i6 0)))]) (.seq (.dreg 17 [oo 10 (.faddr (.tmp 2) 5), oo 11 (.load none (.tmp 10)), oo 12 (.faddr (.tmp 2) 3), oo 13 (.load none (.tmp 12)), oo 14 (.faddr (.tmp 2) 6), oo 15 (.load none (.tmp 14)), oo 16 (.bin .sub (.tmp 13) (.tmp 15)), oo 17 (.bin .mul (.tmp 11) (.tmp 16)), oo 18 (.faddr (.tmp 2) 5), oo 19 (.load none (.tmp 18)), oo 20 (.faddr (.tmp 2) 6), oo 21 (.load none (.tmp 20)), oo 22 (.faddr (.tmp 2) 2), oo 23 (.load none (.tmp 22)), oo 24 (.bin .sub (.tmp 21) (.tmp 23)), oo 25 (.bin .mul (.tmp 19) (.tmp 24)), oo 6 (.mov (.tmp 17)), oo 7 (.mov (.tmp 25))]) (.seq (.seq (.reg [oo 8 (.mov (.con (i6 0)))]) (.block 0 (.loop (.seq (.seq (.reg [oo 26 (.mov (.tmp 8)), oo 27 (.faddr (.tmp 3) 0), oo 28 (.load none (.tmp 27)), oo 29 (.len false (.tmp 28)), oo 30 (.bin .lss (.tmp 26) (.tmp 29))]) (.cond (.tmp 30) .skip (.exit 0))) (.seq (.block 1 (.seq (.reg [oo 33 (.faddr (.tmp 2) 8), oo 34 (.load none (.tmp 33)), oo 35 (.mov (.tmp 8)), oo 36 (.iaddr (.tmp 34) (.tmp 35) 7 none), oo 37 (.faddr (.tmp 36) 0), oo 38 (.load none (.tmp 37)), oo 9 (.mov (.tmp 38))]) (.dreg 25 [oo 39 (.mov (.tmp 6)), oo 40 (.faddr (.tmp 3) 0), oo 41 (.load none (.tmp 40)), oo 42 (.mov (.tmp 8)), oo 43 (.iaddr (.tmp 41) (.tmp 42) 1 none), oo 44 (.load none (.tmp 43)), oo 45 (.faddr (.tmp 2) 3), oo 46 (.load none (.tmp 45)), oo 47 (.mov (.tmp 9)), oo 48 (.bin .sub (.tmp 46) (.tmp 47)), oo 49 (.bin .mul (.tmp 44) (.tmp 48)), oo 50 (.bin .add (.tmp 39) (.tmp 49)), oo 51 (.mov (.tmp 7)), oo 52 (.faddr (.tmp 3) 0), oo 53 (.load none (.tmp 52)), oo 54 (.mov (.tmp 8)), oo 55 (.iaddr (.tmp 53) (.tmp 54) 1 none), oo 56 (.load none (.tmp 55)), oo 57 (.mov (.tmp 9)), oo 58 (.faddr (.tmp 2) 2), oo 59 (.load none (.tmp 58)), oo 60 (.bin .sub (.tmp 57) (.tmp 59)), oo 61 (.bin .mul (.tmp 56) (.tmp 60)), oo 62 (.bin .add (.tmp 51) (.tmp 61)), oo 6 (.mov (.tmp 50)), oo 7 (.mov (.tmp 62))]))) (.reg [oo 31 (.mov (.tmp 8)), oo 32 (.bin .add (.tmp 31) (.con (i6 1))), oo 8 (.mov (.tmp 32))])))))) (.seq (.reg [oo 63 (.mov (.tmp 6)), oo 64 (.mov (.tmp 7)), oo 4 (.mov (.tmp 63)), oo 5 (.mov (.tmp 64))]) .ret))))⟩
theorem comp38 : compFn Try.prog 38 = some F38 := by kernel_rfl
def F40 : AFn := ⟨2, 24, [.tmp 4], (.seq (.reg [oo 2 (.box (.tmp 0)), oo 3 (.box (.tmp 1)), oo 4 (.mov (.con (i6 0)))]) (.seq (.reg [oo 7 (.faddr (.tmp 2) 5), oo 8 (.load none (.tmp 7)), oo 5 (.mov (.tmp 8))]) (.seq (.seq (.reg [oo 6 (.mov (.con (i6 0)))]) (.block 0 (.loop (.seq (.seq (.reg [oo 9 (.mov (.tmp 6)), oo 10 (.faddr (.tmp 3) 0), oo 11 (.load none (.tmp 10)), oo 12 (.len false (.tmp 11)), oo 13 (.bin .lss (.tmp 9) (.tmp 12))]) (.cond (.tmp 13) .skip (.exit 0))) (.seq (.block 1 (.reg [oo 16 (.mov (.tmp 5)), oo 17 (.faddr (.tmp 3) 0), oo 18 (.load none (.tmp 17)), oo 19 (.mov (.tmp 6)), oo 20 (.iaddr (.tmp 18) (.tmp 19) 1 none), oo 21 (.load none (.tmp 20)), oo 22 (.bin .add (.tmp 16) (.tmp 21)), oo 5 (.mov (.tmp 22))])) (.reg [oo 14 (.mov (.tmp 6)), oo 15 (.bin .add (.tmp 14) (.con (i6 1))), oo 6 (.mov (.tmp 15))])))))) (.seq (.reg [oo 23 (.mov (.tmp 5)), oo 4 (.mov (.tmp 23))]) .ret))))⟩
theorem comp40 : compFn Try.prog 40 = some F40 := by kernel_rfl
def F41 : AFn := ⟨2, 24, [.tmp 4], (.seq (.reg [oo 2 (.box (.tmp 0)), oo 3 (.box (.tmp 1)), oo 4 (.mov (.con (i6 0)))]) (.seq (.reg [oo 7 (.faddr (.tmp 2) 7), oo 8 (.load none (.tmp 7)), oo 5 (.mov (.tmp 8))]) (.seq (.seq (.reg [oo 6 (.mov (.con (i6 0)))]) (.block 0 (.loop (.seq (.seq (.reg [oo 9 (.mov (.tmp 6)), oo 10 (.faddr (.tmp 3) 1), oo 11 (.load none (.tmp 10)), oo 12 (.len false (.tmp 11)), oo 13 (.bin .lss (.tmp 9) (.tmp 12))]) (.cond (.tmp 13) .skip (.exit 0))) (.seq (.block 1 (.reg [oo 16 (.mov (.tmp 5)), oo 17 (.faddr (.tmp 3) 1), oo 18 (.load none (.tmp 17)), oo 19 (.mov (.tmp 6)), oo 20 (.iaddr (.tmp 18) (.tmp 19) 1 none), oo 21 (.load none (.tmp 20)), oo 22 (.mx (.tmp 16) (.tmp 21)), oo 5 (.mov (.tmp 22))])) (.reg [oo 14 (.mov (.tmp 6)), oo 15 (.bin .add (.tmp 14) (.con (i6 1))), oo 6 (.mov (.tmp 15))])))))) (.seq (.reg [oo 23 (.mov (.tmp 5)), oo 4 (.mov (.tmp 23))]) .ret))))⟩
theorem comp41 : compFn Try.prog 41 = some F41 := by kernel_rfl
def F44 : AFn := ⟨2, 8, [.cell 4 (some 2)], (.seq (.reg [oo 4 (.box (.con (.agg [i6 0, i6 0])))]) (.seq (.reg [oo 5 (.mov (.tmp 0)), oo 6 (.mov (.tmp 1)), oo 7 (.build [i6 0, i6 0] [(0, 1, (.tmp 5)), (1, 1, (.tmp 6))]), on (.store 2 (.tmp 4) (.tmp 7))]) .ret))⟩
theorem comp44 : compFn Try.prog 44 = some F44 := by kernel_rfl
def F45 : AFn := ⟨2, 16, [.tmp 4], (.seq (.reg [oo 4 (.mov (.con (i6 0)))]) (.seq (.reg [oo 6 (.mov (.tmp 0)), oo 7 (.mov (.tmp 1)), oo 8 (.bin .quo (.tmp 6) (.tmp 7)), oo 5 (.mov (.tmp 8))]) (.seq (.seq (.reg [oo 9 (.mov (.tmp 0)), oo 10 (.mov (.tmp 1)), oo 11 (.bin .rem (.tmp 9) (.tmp 10)), oo 12 (.bin .lss (.tmp 11) (.con (i6 0)))]) (.cond (.tmp 12) (.reg [oo 13 (.mov (.tmp 5)), oo 14 (.bin .sub (.tmp 13) (.con (i6 1))), oo 5 (.mov (.tmp 14))]) .skip)) (.seq (.reg [oo 15 (.mov (.tmp 5)), oo 4 (.mov (.tmp 15))]) .ret))))⟩
theorem comp45 : compFn Try.prog 45 = some F45 := by kernel_rfl
def F46 : AFn := ⟨2, 10, [.tmp 4], (.seq (.reg [oo 4 (.mov (.con (i6 0)))]) (.seq (.reg [oo 5 (.mov (.tmp 0)), oo 6 (.un .neg (.tmp 5)), oo 7 (.mov (.tmp 1)), oo 8 (.call (.con (.fn 45 [] [])) [(.tmp 6), (.tmp 7)]), oo 9 (.un .neg (.tmp 8)), oo 4 (.mov (.tmp 9))]) .ret))⟩
theorem comp46 : compFn Try.prog 46 = some F46 := by kernel_rfl
def F48 : AFn := ⟨0, 15, [.cell 0 (some 9)], (.seq (.reg [oo 0 (.box (.con (.agg [i6 0, i6 0, i6 0, i6 0, i6 0, i6 0, i6 0, i6 0, .nils])))]) (.seq (.reg [oo 1 (.call (.con (.fn 44 [] [])) [(.con (i6 500)), (.con (i6 600))]), oo 2 (.call (.con (.fn 44 [] [])) [(.con (i6 450)), (.con (i6 500))]), oo 3 (.build [i6 0, i6 0, i6 0, i6 0, i6 0, i6 0, i6 0] [(0, 1, (.con (i6 300))), (1, 2, (.tmp 1)), (3, 2, (.tmp 2)), (5, 1, (.con (i6 1)))]), oo 4 (.call (.con (.fn 87 [] [])) [(.con (i6 1000))]), oo 5 (.call (.con (.fn 87 [] [])) [(.con (i6 380))]), oo 6 (.build [i6 0, i6 0, i6 0, i6 0, i6 0, i6 0, i6 0] [(0, 1, (.con (i6 700))), (1, 2, (.tmp 4)), (3, 2, (.tmp 5)), (5, 1, (.con (i6 2))), (6, 1, (.con (i6 5000)))]), oo 7 (.call (.con (.fn 44 [] [])) [(.con (i6 100)), (.con (i6 200))]), oo 8 (.call (.con (.fn 44 [] [])) [(.con (i6 300)), (.con (i6 350))]), oo 9 (.build [i6 0, i6 0, i6 0, i6 0, i6 0, i6 0, i6 0] [(0, 1, (.con (i6 500))), (1, 2, (.tmp 7)), (3, 2, (.tmp 8)), (5, 1, (.con (i6 3))), (6, 1, (.con (i6 3000)))]), oo 10 (.call (.con (.fn 87 [] [])) [(.con (i6 50))]), oo 11 (.call (.con (.fn 44 [] [])) [(.con (i6 400)), (.con (i6 520))]), oo 12 (.build [i6 0, i6 0, i6 0, i6 0, i6 0, i6 0, i6 0] [(0, 1, (.con (i6 600))), (1, 2, (.tmp 10)), (3, 2, (.tmp 11)), (5, 1, (.con (i6 4)))]), oo 13 (.bsl 7 true [i6 0, i6 0, i6 0, i6 0, i6 0, i6 0, i6 0] 4 [(0, (.tmp 3)), (1, (.tmp 6)), (2, (.tmp 9)), (3, (.tmp 12))]), oo 14 (.build [i6 0, i6 0, i6 0, i6 0, i6 0, i6 0, i6 0, i6 0, .nils] [(0, 1, (.con (i6 1000))), (1, 1, (.con (i6 300))), (2, 1, (.con (i6 200))), (3, 1, (.con (i6 800))), (4, 1, (.con (i6 900))), (5, 1, (.con (i6 4000))), (6, 1, (.con (i6 500))), (7, 1, (.con (i6 400))), (8, 1, (.tmp 13))]), on (.store 9 (.tmp 0) (.tmp 14))]) .ret))⟩
theorem comp48 : compFn Try.prog 48 = some F48 := by kernel_rfl
def F49 : AFn := ⟨3, 11, [.cell 6 (some 3)], (.seq (.reg [oo 6 (.box (.con (.agg [i6 0, i6 0, i6 0])))]) (.seq (.reg [oo 7 (.mov (.tmp 0)), oo 8 (.mov (.tmp 1)), oo 9 (.mov (.tmp 2)), oo 10 (.build [i6 0, i6 0, i6 0] [(0, 1, (.tmp 7)), (1, 1, (.tmp 8)), (2, 1, (.tmp 9))]), on (.store 3 (.tmp 6) (.tmp 10))]) .ret))⟩
theorem comp49 : compFn Try.prog 49 = some F49 := by kernel_rfl
def F50 : AFn := ⟨1, 8, [.cell 2 (some 9)], (.seq (.reg [oo 2 (.box (.con (.agg [i6 0, i6 0, i6 0, i6 0, i6 0, i6 0, i6 0, i6 0, .nils])))]) (.seq (.reg [oo 4 (.call (.con (.fn 48 [] [])) []), oo 3 (.box (.con (.agg [i6 0, i6 0, i6 0, i6 0, i6 0, i6 0, i6 0, i6 0, .nils]))), on (.store 9 (.tmp 3) (.tmp 4))]) (.seq (.reg [oo 5 (.mov (.tmp 0)), oo 6 (.faddr (.tmp 3) 6), on (.store 1 (.tmp 6) (.tmp 5))]) (.seq (.reg [oo 7 (.load (some 9) (.tmp 3)), on (.store 9 (.tmp 2) (.tmp 7))]) .ret))))⟩
theorem comp50 : compFn Try.prog 50 = some F50 := by kernel_rfl
def F51 : AFn := ⟨2, 15, [.tmp 4], (.seq (.reg [oo 4 (.mov (.con (i6 0)))]) (.seq (.seq (.reg [oo 5 (.mov (.tmp 1)), oo 6 (.len false (.tmp 5)), oo 7 (.bin .eql (.tmp 6) (.con (i6 0)))]) (.cond (.tmp 7) (.seq (.reg [oo 4 (.mov (.con (i6 0)))]) .ret) .skip)) (.seq (.reg [oo 8 (.mov (.tmp 1)), oo 9 (.mov (.tmp 0)), oo 10 (.mov (.tmp 1)), oo 11 (.len false (.tmp 10)), oo 12 (.call (.con (.fn 52 [] [])) [(.tmp 9), (.tmp 11)]), oo 13 (.iaddr (.tmp 8) (.tmp 12) 1 none), oo 14 (.load none (.tmp 13)), oo 4 (.mov (.tmp 14))]) .ret)))⟩
theorem comp51 : compFn Try.prog 51 = some F51 := by kernel_rfl
def F52 : AFn := ⟨2, 14, [.tmp 4], (.seq (.reg [oo 4 (.mov (.con (i6 0)))]) (.seq (.seq (.reg [oo 5 (.mov (.tmp 1)), oo 6 (.bin .lss (.tmp 5) (.con (i6 2)))]) (.cond (.tmp 6) (.seq (.reg [oo 4 (.mov (.con (i6 0)))]) .ret) .skip)) (.seq (.reg [oo 7 (.mov (.tmp 0)), oo 8 (.call (.con (.fn 54 [] [])) [(.tmp 7)]), oo 9 (.bin .shr (.tmp 8) (.con (.int .u64 1))), oo 10 (.mov (.tmp 1)), oo 11 (.conv .u64 (.tmp 10)), oo 12 (.bin .rem (.tmp 9) (.tmp 11)), oo 13 (.conv .i64 (.tmp 12)), oo 4 (.mov (.tmp 13))]) .ret)))⟩
theorem comp52 : compFn Try.prog 52 = some F52 := by kernel_rfl
def F53 : AFn := ⟨3, 36, [.cell 6 (some 2)], (.seq (.reg [oo 6 (.box (.con (.agg [i6 0, i6 0])))]) (.seq (.reg [oo 8 (.mov (.tmp 0)), oo 9 (.mov (.tmp 1)), oo 10 (.mov (.tmp 2)), oo 11 (.call (.con (.fn 25 [] [])) [(.tmp 8), (.tmp 9), (.tmp 10)]), oo 7 (.mov (.tmp 11))]) (.seq (.seq (.reg [oo 12 (.mov (.tmp 0)), oo 13 (.call (.con (.fn 52 [] [])) [(.tmp 12), (.con (i6 3))])]) (.block 0 (.seq (.reg [oo 15 (.bin .eql (.tmp 13) (.con (i6 0))), oo 14 (.mov (.tmp 15))]) (.cond (.tmp 14) (.seq (.reg [oo 16 (.mov (.tmp 7)), oo 17 (.mov (.tmp 7)), oo 18 (.build [i6 0, i6 0] [(0, 1, (.tmp 16)), (1, 1, (.tmp 17))]), on (.store 2 (.tmp 6) (.tmp 18))]) .ret) (.seq (.reg [oo 20 (.bin .eql (.tmp 13) (.con (i6 1))), oo 19 (.mov (.tmp 20))]) (.cond (.tmp 19) (.seq (.reg [oo 21 (.mov (.tmp 7)), oo 22 (.mov (.tmp 0)), oo 23 (.mov (.tmp 7)), oo 24 (.mov (.tmp 2)), oo 25 (.mov (.tmp 7)), oo 26 (.bin .add (.tmp 25) (.con (i6 3))), oo 27 (.mn (.tmp 24) (.tmp 26)), oo 28 (.call (.con (.fn 25 [] [])) [(.tmp 22), (.tmp 23), (.tmp 27)]), oo 29 (.build [i6 0, i6 0] [(0, 1, (.tmp 21)), (1, 1, (.tmp 28))]), on (.store 2 (.tmp 6) (.tmp 29))]) .ret) .skip)))))) (.seq (.reg [oo 30 (.mov (.tmp 7)), oo 31 (.mov (.tmp 0)), oo 32 (.mov (.tmp 7)), oo 33 (.mov (.tmp 2)), oo 34 (.call (.con (.fn 25 [] [])) [(.tmp 31), (.tmp 32), (.tmp 33)]), oo 35 (.build [i6 0, i6 0] [(0, 1, (.tmp 30)), (1, 1, (.tmp 34))]), on (.store 2 (.tmp 6) (.tmp 35))]) .ret))))⟩
theorem comp53 : compFn Try.prog 53 = some F53 := by kernel_rfl
def F54 : AFn := ⟨1, 31, [.tmp 2], (.seq (.reg [oo 2 (.mov (.con (.int .u64 0)))]) (.seq (.reg [oo 4 (.mov (.tmp 0)), oo 5 (.mov (.tmp 0)), oo 6 (.nilck (.tmp 5)), oo 7 (.faddr (.tmp 6) 0), oo 8 (.load none (.tmp 7)), oo 9 (.bin .mul (.tmp 8) (.con (.int .u64 15074714826142052245))), oo 10 (.bin .add (.tmp 9) (.con (.int .u64 11400714819323198485))), oo 11 (.nilck (.tmp 4)), oo 12 (.faddr (.tmp 11) 0), on (.store 1 (.tmp 12) (.tmp 10))]) (.seq (.reg [oo 13 (.mov (.tmp 0)), oo 14 (.nilck (.tmp 13)), oo 15 (.faddr (.tmp 14) 0), oo 16 (.load none (.tmp 15)), oo 3 (.mov (.tmp 16))]) (.seq (.reg [oo 17 (.mov (.tmp 3)), oo 18 (.mov (.tmp 3)), oo 19 (.bin .shr (.tmp 18) (.con (.int .u64 32))), oo 20 (.bin .xor (.tmp 17) (.tmp 19)), oo 21 (.bin .mul (.tmp 20) (.con (.int .u64 15760922415973212899))), oo 3 (.mov (.tmp 21))]) (.seq (.reg [oo 22 (.mov (.tmp 3)), oo 23 (.mov (.tmp 3)), oo 24 (.bin .shr (.tmp 23) (.con (.int .u64 32))), oo 25 (.bin .xor (.tmp 22) (.tmp 24)), oo 26 (.bin .mul (.tmp 25) (.con (.int .u64 15760922415973212899))), oo 3 (.mov (.tmp 26))]) (.seq (.reg [oo 27 (.mov (.tmp 3)), oo 28 (.mov (.tmp 3)), oo 29 (.bin .shr (.tmp 28) (.con (.int .u64 32))), oo 30 (.bin .xor (.tmp 27) (.tmp 29)), oo 2 (.mov (.tmp 30))]) .ret))))))⟩
theorem comp54 : compFn Try.prog 54 = some F54 := by kernel_rfl
def F55 : AFn := ⟨1, 49, [.cell 2 (some 102)], (.seq (.reg [oo 1 (.box (.tmp 0)), oo 2 (.box (.con (.agg [i6 0, i6 0, i6 0, i6 0, i6 0, i6 0, i6 0, i6 0, .nils, i6 0, i6 0, i6 0, i6 0, i6 0, i6 0, i6 0, i6 0, i6 0, i6 0, i6 0, i6 0, i6 0, i6 0, i6 0, i6 0, i6 0, i6 0, i6 0, i6 0, i6 0, i6 0, i6 0, i6 0, i6 0, i6 0, i6 0, i6 0, i6 0, i6 0, i6 0, i6 0, i6 0, i6 0, i6 0, i6 0, i6 0, i6 0, i6 0, i6 0, i6 0, i6 0, i6 0, i6 0, i6 0, i6 0, i6 0, i6 0, i6 0, i6 0, .nils, i6 0, i6 0, i6 0, i6 0, i6 0, i6 0, i6 0, i6 0, i6 0, i6 0, i6 0, i6 0, i6 0, i6 0, i6 0, i6 0, i6 0, i6 0, i6 0, i6 0, i6 0, i6 0, i6 0, i6 0, i6 0, i6 0, i6 0, i6 0, i6 0, i6 0, i6 0, i6 0, i6 0, i6 0, i6 0, i6 0, i6 0, i6 0, i6 0, i6 0, i6 0, i6 0])))]) (.seq (.reg [oo 6 (.load (some 9) (.tmp 1)), oo 7 (.build [i6 0, i6 0, i6 0, i6 0, i6 0, i6 0, i6 0, i6 0, .nils, i6 0, i6 0, i6 0, i6 0, i6 0, i6 0, i6 0, i6 0, i6 0, i6 0, i6 0, i6 0, i6 0, i6 0, i6 0, i6 0, i6 0, i6 0, i6 0, i6 0, i6 0, i6 0, i6 0, i6 0, i6 0, i6 0, i6 0, i6 0, i6 0, i6 0, i6 0, i6 0, i6 0, i6 0, i6 0, i6 0, i6 0, i6 0, i6 0, i6 0, i6 0, i6 0] [(0, 9, (.tmp 6))]), oo 8 (.load (some 9) (.tmp 1)), oo 9 (.build [i6 0, i6 0, i6 0, i6 0, i6 0, i6 0, i6 0, i6 0, .nils, i6 0, i6 0, i6 0, i6 0, i6 0, i6 0, i6 0, i6 0, i6 0, i6 0, i6 0, i6 0, i6 0, i6 0, i6 0, i6 0, i6 0, i6 0, i6 0, i6 0, i6 0, i6 0, i6 0, i6 0, i6 0, i6 0, i6 0, i6 0, i6 0, i6 0, i6 0, i6 0, i6 0, i6 0, i6 0, i6 0, i6 0, i6 0, i6 0, i6 0, i6 0, i6 0] [(0, 9, (.tmp 8))]), oo 10 (.build [i6 0, i6 0, i6 0, i6 0, i6 0, i6 0, i6 0, i6 0, .nils, i6 0, i6 0, i6 0, i6 0, i6 0, i6 0, i6 0, i6 0, i6 0, i6 0, i6 0, i6 0, i6 0, i6 0, i6 0, i6 0, i6 0, i6 0, i6 0, i6 0, i6 0, i6 0, i6 0, i6 0, i6 0, i6 0, i6 0, i6 0, i6 0, i6 0, i6 0, i6 0, i6 0, i6 0, i6 0, i6 0, i6 0, i6 0, i6 0, i6 0, i6 0, i6 0, i6 0, i6 0, i6 0, i6 0, i6 0, i6 0, i6 0, i6 0, .nils, i6 0, i6 0, i6 0, i6 0, i6 0, i6 0, i6 0, i6 0, i6 0, i6 0, i6 0, i6 0, i6 0, i6 0, i6 0, i6 0, i6 0, i6 0, i6 0, i6 0, i6 0, i6 0, i6 0, i6 0, i6 0, i6 0, i6 0, i6 0, i6 0, i6 0, i6 0, i6 0, i6 0, i6 0, i6 0, i6 0, i6 0, i6 0, i6 0, i6 0, i6 0, i6 0] [(0, 51, (.tmp 7)), (51, 51, (.tmp 9))]), oo 3 (.box (.con (.agg [i6 0, i6 0, i6 0, i6 0, i6 0, i6 0, i6 0, i6 0, .nils, i6 0, i6 0, i6 0, i6 0, i6 0, i6 0, i6 0, i6 0, i6 0, i6 0, i6 0, i6 0, i6 0, i6 0, i6 0, i6 0, i6 0, i6 0, i6 0, i6 0, i6 0, i6 0, i6 0, i6 0, i6 0, i6 0, i6 0, i6 0, i6 0, i6 0, i6 0, i6 0, i6 0, i6 0, i6 0, i6 0, i6 0, i6 0, i6 0, i6 0, i6 0, i6 0, i6 0, i6 0, i6 0, i6 0, i6 0, i6 0, i6 0, i6 0, .nils, i6 0, i6 0, i6 0, i6 0, i6 0, i6 0, i6 0, i6 0, i6 0, i6 0, i6 0, i6 0, i6 0, i6 0, i6 0, i6 0, i6 0, i6 0, i6 0, i6 0, i6 0, i6 0, i6 0, i6 0, i6 0, i6 0, i6 0, i6 0, i6 0, i6 0, i6 0, i6 0, i6 0, i6 0, i6 0, i6 0, i6 0, i6 0, i6 0, i6 0, i6 0, i6 0]))), on (.store 102 (.tmp 3) (.tmp 10))]) (.seq (.seq (.reg [oo 11 (.faddr (.tmp 1) 8), oo 12 (.load none (.tmp 11)), oo 13 (.len false (.tmp 12)), oo 14 (.mov (.con (i6 0)))]) (.block 0 (.loop (.seq (.reg [oo 15 (.bin .lss (.tmp 14) (.tmp 13))]) (.seq (.cond (.tmp 15) .skip (.exit 0)) (.seq (.block 1 (.seq (.reg [oo 16 (.mov (.tmp 14)), oo 17 (.iaddr (.tmp 12) (.tmp 14) 7 none), oo 18 (.load (some 7) (.tmp 17)), oo 5 (.box (.con (.agg [i6 0, i6 0, i6 0, i6 0, i6 0, i6 0, i6 0]))), oo 4 (.mov (.tmp 16)), on (.store 7 (.tmp 5) (.tmp 18))]) (.seq (.dreg 14 [oo 19 (.mov (.tmp 4)), oo 20 (.mov (.tmp 4)), oo 21 (.faddr (.tmp 5) 1), oo 22 (.faddr (.tmp 21) 0), oo 23 (.load none (.tmp 22)), oo 24 (.faddr (.tmp 5) 1), oo 25 (.faddr (.tmp 24) 1), oo 26 (.load none (.tmp 25)), oo 27 (.iaddr (.tmp 3) (.con (i6 0)) 51 (some 2)), oo 28 (.faddr (.tmp 27) 9), oo 29 (.iaddr (.tmp 28) (.tmp 19) 1 (some 21)), on (.store 1 (.tmp 29) (.tmp 23)), oo 30 (.iaddr (.tmp 3) (.con (i6 1)) 51 (some 2)), oo 31 (.faddr (.tmp 30) 9), oo 32 (.iaddr (.tmp 31) (.tmp 20) 1 (some 21)), on (.store 1 (.tmp 32) (.tmp 26))]) (.dreg 14 [oo 33 (.mov (.tmp 4)), oo 34 (.mov (.tmp 4)), oo 35 (.faddr (.tmp 5) 3), oo 36 (.faddr (.tmp 35) 0), oo 37 (.load none (.tmp 36)), oo 38 (.faddr (.tmp 5) 3), oo 39 (.faddr (.tmp 38) 1), oo 40 (.load none (.tmp 39)), oo 41 (.iaddr (.tmp 3) (.con (i6 0)) 51 (some 2)), oo 42 (.faddr (.tmp 41) 30), oo 43 (.iaddr (.tmp 42) (.tmp 33) 1 (some 21)), on (.store 1 (.tmp 43) (.tmp 37)), oo 44 (.iaddr (.tmp 3) (.con (i6 1)) 51 (some 2)), oo 45 (.faddr (.tmp 44) 30), oo 46 (.iaddr (.tmp 45) (.tmp 34) 1 (some 21)), on (.store 1 (.tmp 46) (.tmp 40))])))) (.reg [oo 47 (.bin .add (.tmp 14) (.con (i6 1))), oo 14 (.mov (.tmp 47))]))))))) (.seq (.reg [oo 48 (.load (some 102) (.tmp 3)), on (.store 102 (.tmp 2) (.tmp 48))]) .ret))))⟩
theorem comp55 : compFn Try.prog 55 = some F55 := by kernel_rfl
def F56 : AFn := ⟨1, 19, [.tmp 2], (.seq (.reg [oo 1 (.box (.tmp 0)), oo 2 (.mov (.con (i6 0)))]) (.seq (.reg [oo 3 (.mov (.con (i6 0)))]) (.seq (.seq (.reg [oo 6 (.load (some 51) (.tmp 1)), oo 7 (.call (.con (.fn 89 [] [])) [(.tmp 6)]), oo 8 (.len false (.tmp 7)), oo 9 (.mov (.con (i6 0)))]) (.block 0 (.loop (.seq (.reg [oo 10 (.bin .lss (.tmp 9) (.tmp 8))]) (.seq (.cond (.tmp 10) .skip (.exit 0)) (.seq (.block 1 (.seq (.reg [oo 11 (.iaddr (.tmp 7) (.tmp 9) 2 none), oo 12 (.load (some 2) (.tmp 11)), oo 5 (.box (.con (.agg [i6 0, i6 0]))), on (.store 2 (.tmp 5) (.tmp 12))]) (.reg [oo 13 (.mov (.tmp 3)), oo 14 (.faddr (.tmp 5) 0), oo 15 (.load none (.tmp 14)), oo 16 (.bin .add (.tmp 13) (.tmp 15)), oo 3 (.mov (.tmp 16))]))) (.reg [oo 17 (.bin .add (.tmp 9) (.con (i6 1))), oo 9 (.mov (.tmp 17))]))))))) (.seq (.reg [oo 18 (.mov (.tmp 3)), oo 2 (.mov (.tmp 18))]) .ret))))⟩
theorem comp56 : compFn Try.prog 56 = some F56 := by kernel_rfl
def F57 : AFn := ⟨1, 37, [.cell 2 (some 2)], (.seq (.reg [oo 1 (.box (.tmp 0)), oo 2 (.box (.con (.agg [.nils, .nils])))]) (.seq (.reg [oo 3 (.box (.con (.agg [.nils, .nils])))]) (.seq (.seq (.reg [oo 4 (.mov (.con (i6 0)))]) (.block 0 (.loop (.seq (.seq (.reg [oo 5 (.mov (.tmp 4)), oo 6 (.faddr (.tmp 1) 8), oo 7 (.load none (.tmp 6)), oo 8 (.len false (.tmp 7)), oo 9 (.bin .lss (.tmp 5) (.tmp 8))]) (.cond (.tmp 9) .skip (.exit 0))) (.seq (.block 1 (.dreg 23 [oo 12 (.faddr (.tmp 3) 0), oo 13 (.load none (.tmp 12)), oo 14 (.faddr (.tmp 1) 8), oo 15 (.load none (.tmp 14)), oo 16 (.mov (.tmp 4)), oo 17 (.iaddr (.tmp 15) (.tmp 16) 7 none), oo 18 (.faddr (.tmp 17) 1), oo 19 (.faddr (.tmp 18) 0), oo 20 (.load none (.tmp 19)), oo 21 (.bsl 1 false [i6 0] 1 [(0, (.tmp 20))]), oo 22 (.app (.tmp 13) (.tmp 21) 1 8 [i6 0]), oo 23 (.faddr (.tmp 3) 1), oo 24 (.load none (.tmp 23)), oo 25 (.faddr (.tmp 1) 8), oo 26 (.load none (.tmp 25)), oo 27 (.mov (.tmp 4)), oo 28 (.iaddr (.tmp 26) (.tmp 27) 7 none), oo 29 (.faddr (.tmp 28) 3), oo 30 (.faddr (.tmp 29) 0), oo 31 (.load none (.tmp 30)), oo 32 (.bsl 1 false [i6 0] 1 [(0, (.tmp 31))]), oo 33 (.app (.tmp 24) (.tmp 32) 1 8 [i6 0]), oo 34 (.faddr (.tmp 3) 0), on (.store 1 (.tmp 34) (.tmp 22)), oo 35 (.faddr (.tmp 3) 1), on (.store 1 (.tmp 35) (.tmp 33))])) (.reg [oo 10 (.mov (.tmp 4)), oo 11 (.bin .add (.tmp 10) (.con (i6 1))), oo 4 (.mov (.tmp 11))])))))) (.seq (.reg [oo 36 (.load (some 2) (.tmp 3)), on (.store 2 (.tmp 2) (.tmp 36))]) .ret))))⟩
theorem comp57 : compFn Try.prog 57 = some F57 := by kernel_rfl
def F58 : AFn := ⟨1, 37, [.cell 2 (some 2)], (.seq (.reg [oo 1 (.box (.tmp 0)), oo 2 (.box (.con (.agg [.nils, .nils])))]) (.seq (.reg [oo 3 (.box (.con (.agg [.nils, .nils])))]) (.seq (.seq (.reg [oo 4 (.mov (.con (i6 0)))]) (.block 0 (.loop (.seq (.seq (.reg [oo 5 (.mov (.tmp 4)), oo 6 (.faddr (.tmp 1) 8), oo 7 (.load none (.tmp 6)), oo 8 (.len false (.tmp 7)), oo 9 (.bin .lss (.tmp 5) (.tmp 8))]) (.cond (.tmp 9) .skip (.exit 0))) (.seq (.block 1 (.dreg 23 [oo 12 (.faddr (.tmp 3) 0), oo 13 (.load none (.tmp 12)), oo 14 (.faddr (.tmp 1) 8), oo 15 (.load none (.tmp 14)), oo 16 (.mov (.tmp 4)), oo 17 (.iaddr (.tmp 15) (.tmp 16) 7 none), oo 18 (.faddr (.tmp 17) 1), oo 19 (.faddr (.tmp 18) 1), oo 20 (.load none (.tmp 19)), oo 21 (.bsl 1 false [i6 0] 1 [(0, (.tmp 20))]), oo 22 (.app (.tmp 13) (.tmp 21) 1 8 [i6 0]), oo 23 (.faddr (.tmp 3) 1), oo 24 (.load none (.tmp 23)), oo 25 (.faddr (.tmp 1) 8), oo 26 (.load none (.tmp 25)), oo 27 (.mov (.tmp 4)), oo 28 (.iaddr (.tmp 26) (.tmp 27) 7 none), oo 29 (.faddr (.tmp 28) 3), oo 30 (.faddr (.tmp 29) 1), oo 31 (.load none (.tmp 30)), oo 32 (.bsl 1 false [i6 0] 1 [(0, (.tmp 31))]), oo 33 (.app (.tmp 24) (.tmp 32) 1 8 [i6 0]), oo 34 (.faddr (.tmp 3) 0), on (.store 1 (.tmp 34) (.tmp 22)), oo 35 (.faddr (.tmp 3) 1), on (.store 1 (.tmp 35) (.tmp 33))])) (.reg [oo 10 (.mov (.tmp 4)), oo 11 (.bin .add (.tmp 10) (.con (i6 1))), oo 4 (.mov (.tmp 11))])))))) (.seq (.reg [oo 36 (.load (some 2) (.tmp 3)), on (.store 2 (.tmp 2) (.tmp 36))]) .ret))))⟩
theorem comp58 : compFn Try.prog 58 = some F58 := by kernel_rfl
def F59 : AFn := ⟨3, 16, [.cell 6 (some 2)], (.seq (.reg [oo 6 (.box (.con (.agg [i6 0, i6 0])))]) (.seq (.reg [oo 7 (.mov (.tmp 0)), oo 8 (.mov (.tmp 2)), oo 9 (.call (.con (.fn 90 [] [])) [(.tmp 7), (.tmp 8)]), oo 10 (.mov (.tmp 1)), oo 11 (.un .neg (.tmp 10)), oo 12 (.mov (.tmp 2)), oo 13 (.call (.con (.fn 90 [] [])) [(.tmp 11), (.tmp 12)]), oo 14 (.un .neg (.tmp 13)), oo 15 (.build [i6 0, i6 0] [(0, 1, (.tmp 9)), (1, 1, (.tmp 14))]), on (.store 2 (.tmp 6) (.tmp 15))]) .ret))⟩
theorem comp59 : compFn Try.prog 59 = some F59 := by kernel_rfl
def F60 : AFn := ⟨1, 10, [.tmp 2], (.seq (.reg [oo 1 (.box (.tmp 0)), oo 2 (.mov (.con (i6 0)))]) (.seq (.dreg 5 [oo 3 (.faddr (.tmp 1) 0), oo 4 (.faddr (.tmp 3) 3), oo 5 (.load none (.tmp 4)), oo 6 (.load (some 51) (.tmp 1)), oo 7 (.call (.con (.fn 89 [] [])) [(.tmp 6)]), oo 8 (.call (.con (.fn 91 [] [])) [(.tmp 5), (.tmp 7)]), oo 9 (.un .neg (.tmp 8)), oo 2 (.mov (.tmp 9))]) .ret))⟩
theorem comp60 : compFn Try.prog 60 = some F60 := by kernel_rfl
def F61 : AFn := ⟨1, 9, [.tmp 2], (.seq (.reg [oo 1 (.box (.tmp 0)), oo 2 (.mov (.con (i6 0)))]) (.seq (.dreg 5 [oo 3 (.faddr (.tmp 1) 0), oo 4 (.faddr (.tmp 3) 2), oo 5 (.load none (.tmp 4)), oo 6 (.load (some 51) (.tmp 1)), oo 7 (.call (.con (.fn 89 [] [])) [(.tmp 6)]), oo 8 (.call (.con (.fn 91 [] [])) [(.tmp 5), (.tmp 7)]), oo 2 (.mov (.tmp 8))]) .ret))⟩
theorem comp61 : compFn Try.prog 61 = some F61 := by kernel_rfl
def F62 : AFn := ⟨1, 23, [.tmp 2], (.seq (.reg [oo 1 (.box (.tmp 0)), oo 2 (.mov (.con (i6 0)))]) (.seq (.reg [oo 5 (.faddr (.tmp 1) 0), oo 6 (.faddr (.tmp 5) 7), oo 7 (.load none (.tmp 6)), oo 3 (.mov (.tmp 7))]) (.seq (.seq (.reg [oo 8 (.faddr (.tmp 1) 0), oo 9 (.faddr (.tmp 8) 8), oo 10 (.load none (.tmp 9)), oo 11 (.len false (.tmp 10)), oo 12 (.mov (.con (i6 0)))]) (.block 0 (.loop (.seq (.reg [oo 13 (.bin .lss (.tmp 12) (.tmp 11))]) (.seq (.cond (.tmp 13) .skip (.exit 0)) (.seq (.block 1 (.seq (.reg [oo 14 (.mov (.tmp 12)), oo 4 (.mov (.tmp 14))]) (.reg [oo 15 (.mov (.tmp 3)), oo 16 (.mov (.tmp 4)), oo 17 (.faddr (.tmp 1) 30), oo 18 (.iaddr (.tmp 17) (.tmp 16) 1 (some 21)), oo 19 (.load none (.tmp 18)), oo 20 (.mx (.tmp 15) (.tmp 19)), oo 3 (.mov (.tmp 20))]))) (.reg [oo 21 (.bin .add (.tmp 12) (.con (i6 1))), oo 12 (.mov (.tmp 21))]))))))) (.seq (.reg [oo 22 (.mov (.tmp 3)), oo 2 (.mov (.tmp 22))]) .ret))))⟩
theorem comp62 : compFn Try.prog 62 = some F62 := by kernel_rfl
def F63 : AFn := ⟨2, 9, [.tmp 4], (.seq (.reg [oo 4 (.mov (.con (i6 0)))]) (.seq (.block 0 (.seq (.reg [oo 6 (.mov (.tmp 0)), oo 5 (.mov (.tmp 6))]) (.cond (.tmp 5) (.seq (.reg [oo 4 (.mov (.con (i6 1)))]) .ret) (.seq (.reg [oo 8 (.mov (.tmp 1)), oo 7 (.mov (.tmp 8))]) (.cond (.tmp 7) (.seq (.reg [oo 4 (.mov (.con (i6 3)))]) .ret) .skip))))) (.seq (.reg [oo 4 (.mov (.con (i6 2)))]) .ret)))⟩
theorem comp63 : compFn Try.prog 63 = some F63 := by kernel_rfl
def F64 : AFn := ⟨1, 11, [.tmp 2], (.seq (.reg [oo 1 (.box (.tmp 0)), oo 2 (.mov (.con (.bool false)))]) (.seq (.reg [oo 3 (.load (some 51) (.tmp 1)), oo 4 (.call (.con (.fn 60 [] [])) [(.tmp 3)]), oo 5 (.bin .geq (.tmp 4) (.con (i6 0))), oo 6 (.mov (.tmp 5)), ⟨some 7, .load (some 51) (.tmp 1), some (6, true)⟩, ⟨some 8, .call (.con (.fn 61 [] [])) [(.tmp 7)], some (6, true)⟩, ⟨some 9, .bin .geq (.tmp 8) (.con (i6 0)), some (6, true)⟩, oo 10 (.pick (.tmp 6) (.tmp 9) (.con (.bool false))), oo 2 (.mov (.tmp 10))]) .ret))⟩
theorem comp64 : compFn Try.prog 64 = some F64 := by kernel_rfl
def F65 : AFn := ⟨2, 10, [.tmp 4], (.seq (.reg [oo 4 (.mov (.con (i6 0)))]) (.seq (.block 0 (.seq (.reg [oo 6 (.mov (.tmp 0)), oo 5 (.mov (.tmp 6))]) (.cond (.tmp 5) (.seq (.reg [oo 4 (.mov (.con (i6 1)))]) .ret) (.seq (.reg [oo 8 (.mov (.tmp 1)), oo 9 (.un .not (.tmp 8)), oo 7 (.mov (.tmp 9))]) (.cond (.tmp 7) (.seq (.reg [oo 4 (.mov (.con (i6 2)))]) .ret) .skip))))) (.seq (.reg [oo 4 (.mov (.con (i6 3)))]) .ret)))⟩
theorem comp65 : compFn Try.prog 65 = some F65 := by kernel_rfl
def F66 : AFn := ⟨2, 19, [.tmp 4], (.seq (.reg [oo 2 (.box (.tmp 0)), oo 3 (.box (.tmp 1)), oo 4 (.mov (.con (.bool false)))]) (.seq (.reg [oo 8 (.load (some 9) (.tmp 2)), oo 9 (.load (some 2) (.tmp 3)), oo 10 (.call (.con (.fn 38 [] [])) [(.tmp 8), (.tmp 9)]), oo 7 (.mov (.tmp 10)), oo 11 (.ext (.tmp 7) 0), oo 12 (.ext (.tmp 7) 1), oo 5 (.mov (.tmp 11)), oo 6 (.mov (.tmp 12))]) (.seq (.reg [oo 13 (.mov (.tmp 5)), oo 14 (.bin .geq (.tmp 13) (.con (i6 0))), oo 15 (.mov (.tmp 14)), ⟨some 16, .mov (.tmp 6), some (15, true)⟩, ⟨some 17, .bin .geq (.tmp 16) (.con (i6 0)), some (15, true)⟩, oo 18 (.pick (.tmp 15) (.tmp 17) (.con (.bool false))), oo 4 (.mov (.tmp 18))]) .ret)))⟩
theorem comp66 : compFn Try.prog 66 = some F66 := by kernel_rfl
def F67 : AFn := ⟨1, 59, [.tmp 2], (.seq (.reg [oo 1 (.box (.tmp 0)), oo 2 (.mov (.con (i6 0)))]) (.seq (.block 0 (.seq (.reg [oo 4 (.faddr (.tmp 1) 0), oo 5 (.load none (.tmp 4)), oo 6 (.call (.con (.fn 78 [] [])) [(.tmp 5), (.con (i6 1)), (.con (i6 3000))]), oo 7 (.un .not (.tmp 6)), oo 8 (.mov (.tmp 7)), ⟨some 9, .faddr (.tmp 1) 1, some (8, false)⟩, ⟨some 10, .load none (.tmp 9), some (8, false)⟩, ⟨some 11, .call (.con (.fn 78 [] [])) [(.tmp 10), (.con (i6 1)), (.con (i6 1000))], some (8, false)⟩, ⟨some 12, .un .not (.tmp 11), some (8, false)⟩, oo 13 (.pick (.tmp 8) (.con (.bool true)) (.tmp 12)), oo 3 (.mov (.tmp 13))]) (.cond (.tmp 3) (.seq (.reg [oo 2 (.mov (.con (i6 2)))]) .ret) (.seq (.reg [oo 15 (.faddr (.tmp 1) 2), oo 16 (.load none (.tmp 15)), oo 17 (.faddr (.tmp 1) 0), oo 18 (.load none (.tmp 17)), oo 19 (.call (.con (.fn 78 [] [])) [(.tmp 16), (.con (i6 0)), (.tmp 18)]), oo 20 (.un .not (.tmp 19)), oo 21 (.mov (.tmp 20)), ⟨some 22, .faddr (.tmp 1) 3, some (21, false)⟩, ⟨some 23, .load none (.tmp 22), some (21, false)⟩, ⟨some 24, .faddr (.tmp 1) 0, some (21, false)⟩, ⟨some 25, .load none (.tmp 24), some (21, false)⟩, ⟨some 26, .call (.con (.fn 78 [] [])) [(.tmp 23), (.con (i6 0)), (.tmp 25)], some (21, false)⟩, ⟨some 27, .un .not (.tmp 26), some (21, false)⟩, oo 28 (.pick (.tmp 21) (.con (.bool true)) (.tmp 27)), oo 14 (.mov (.tmp 28))]) (.cond (.tmp 14) (.seq (.reg [oo 2 (.mov (.con (i6 2)))]) .ret) (.seq (.reg [oo 30 (.faddr (.tmp 1) 2), oo 31 (.load none (.tmp 30)), oo 32 (.faddr (.tmp 1) 3), oo 33 (.load none (.tmp 32)), oo 34 (.bin .geq (.tmp 31) (.tmp 33)), oo 29 (.mov (.tmp 34))]) (.cond (.tmp 29) (.seq (.reg [oo 2 (.mov (.con (i6 9)))]) .ret) (.seq (.reg [oo 36 (.faddr (.tmp 1) 4), oo 37 (.load none (.tmp 36)), oo 38 (.call (.con (.fn 78 [] [])) [(.tmp 37), (.con (i6 0)), (.con (i6 20000))]), oo 39 (.un .not (.tmp 38)), oo 40 (.mov (.tmp 39)), ⟨some 41, .faddr (.tmp 1) 5, some (40, false)⟩, ⟨some 42, .load none (.tmp 41), some (40, false)⟩, ⟨some 43, .call (.con (.fn 78 [] [])) [(.tmp 42), (.con (i6 0)), (.con (i6 100000))], some (40, false)⟩, ⟨some 44, .un .not (.tmp 43), some (40, false)⟩, oo 45 (.pick (.tmp 40) (.con (.bool true)) (.tmp 44)), oo 35 (.mov (.tmp 45))]) (.cond (.tmp 35) (.seq (.reg [oo 2 (.mov (.con (i6 2)))]) .ret) (.seq (.reg [oo 47 (.faddr (.tmp 1) 6), oo 48 (.load none (.tmp 47)), oo 49 (.faddr (.tmp 1) 0), oo 50 (.load none (.tmp 49)), oo 51 (.call (.con (.fn 78 [] [])) [(.tmp 48), (.con (i6 0)), (.tmp 50)]), oo 52 (.un .not (.tmp 51)), oo 53 (.mov (.tmp 52)), ⟨some 54, .faddr (.tmp 1) 7, some (53, false)⟩, ⟨some 55, .load none (.tmp 54), some (53, false)⟩, ⟨some 56, .call (.con (.fn 78 [] [])) [(.tmp 55), (.con (i6 0)), (.con (i6 2000))], some (53, false)⟩, ⟨some 57, .un .not (.tmp 56), some (53, false)⟩, oo 58 (.pick (.tmp 53) (.con (.bool true)) (.tmp 57)), oo 46 (.mov (.tmp 58))]) (.cond (.tmp 46) (.seq (.reg [oo 2 (.mov (.con (i6 2)))]) .ret) .skip))))))))))) (.seq (.reg [oo 2 (.mov (.con (i6 0)))]) .ret)))⟩
theorem comp67 : compFn Try.prog 67 = some F67 := by kernel_rfl
def F68 : AFn := ⟨2, 51, [.tmp 4], (.seq (.reg [oo 2 (.box (.tmp 0)), oo 3 (.box (.tmp 1)), oo 4 (.mov (.con (i6 0)))]) (.seq (.seq (.reg [oo 7 (.faddr (.tmp 3) 0), oo 8 (.load none (.tmp 7)), oo 9 (.faddr (.tmp 2) 2), oo 10 (.load none (.tmp 9)), oo 11 (.faddr (.tmp 2) 3), oo 12 (.load none (.tmp 11)), oo 13 (.call (.con (.fn 78 [] [])) [(.tmp 8), (.tmp 10), (.tmp 12)]), oo 14 (.un .not (.tmp 13))]) (.cond (.tmp 14) (.seq (.reg [oo 4 (.mov (.con (i6 2)))]) .ret) .skip)) (.seq (.seq (.reg [oo 15 (.faddr (.tmp 3) 1), oo 16 (.load (some 2) (.tmp 15)), oo 17 (.call (.con (.fn 92 [] [])) [(.tmp 16), (.con (i6 100000))]), oo 5 (.mov (.tmp 17))]) (.seq (.reg [oo 18 (.mov (.tmp 5)), oo 19 (.bin .neq (.tmp 18) (.con (i6 0)))]) (.cond (.tmp 19) (.seq (.reg [oo 20 (.mov (.tmp 5)), oo 4 (.mov (.tmp 20))]) .ret) .skip))) (.seq (.seq (.reg [oo 21 (.faddr (.tmp 3) 3), oo 22 (.load (some 2) (.tmp 21)), oo 23 (.call (.con (.fn 92 [] [])) [(.tmp 22), (.con (i6 2000))]), oo 6 (.mov (.tmp 23))]) (.seq (.reg [oo 24 (.mov (.tmp 6)), oo 25 (.bin .neq (.tmp 24) (.con (i6 0)))]) (.cond (.tmp 25) (.seq (.reg [oo 26 (.mov (.tmp 6)), oo 4 (.mov (.tmp 26))]) .ret) .skip))) (.seq (.block 0 (.seq (.reg [oo 28 (.faddr (.tmp 3) 5), oo 29 (.load none (.tmp 28)), oo 30 (.call (.con (.fn 78 [] [])) [(.tmp 29), (.con (i6 1)), (.con (i6 4))]), oo 31 (.un .not (.tmp 30)), oo 27 (.mov (.tmp 31))]) (.cond (.tmp 27) (.seq (.reg [oo 4 (.mov (.con (i6 3)))]) .ret) (.seq (.reg [oo 33 (.faddr (.tmp 3) 6), oo 34 (.load none (.tmp 33)), oo 35 (.call (.con (.fn 78 [] [])) [(.tmp 34), (.con (i6 0)), (.con (i6 1000000))]), oo 36 (.un .not (.tmp 35)), oo 32 (.mov (.tmp 36))]) (.cond (.tmp 32) (.seq (.reg [oo 4 (.mov (.con (i6 2)))]) .ret) (.seq (.reg [oo 38 (.faddr (.tmp 3) 6), oo 39 (.load none (.tmp 38)), oo 40 (.bin .gtr (.tmp 39) (.con (i6 0))), oo 41 (.mov (.tmp 40)), ⟨some 42, .faddr (.tmp 3) 5, some (41, true)⟩, ⟨some 43, .load none (.tmp 42), some (41, true)⟩, ⟨some 44, .bin .neq (.tmp 43) (.con (i6 2)), some (41, true)⟩, oo 45 (.pick (.tmp 41) (.tmp 44) (.con (.bool false))), oo 46 (.mov (.tmp 45)), ⟨some 47, .faddr (.tmp 3) 5, some (46, true)⟩, ⟨some 48, .load none (.tmp 47), some (46, true)⟩, ⟨some 49, .bin .neq (.tmp 48) (.con (i6 3)), some (46, true)⟩, oo 50 (.pick (.tmp 46) (.tmp 49) (.con (.bool false))), oo 37 (.mov (.tmp 50))]) (.cond (.tmp 37) (.seq (.reg [oo 4 (.mov (.con (i6 1)))]) .ret) .skip))))))) (.seq (.reg [oo 4 (.mov (.con (i6 0)))]) .ret))))))⟩
theorem comp68 : compFn Try.prog 68 = some F68 := by kernel_rfl
def F69 : AFn := ⟨3, 15, [.tmp 6], (.seq (.reg [oo 6 (.mov (.con (.bool false)))]) (.seq (.reg [oo 7 (.mov (.tmp 0)), oo 8 (.mov (.tmp 1)), oo 9 (.bin .geq (.tmp 7) (.tmp 8)), oo 10 (.mov (.tmp 9)), ⟨some 11, .mov (.tmp 0), some (10, true)⟩, ⟨some 12, .mov (.tmp 2), some (10, true)⟩, ⟨some 13, .bin .leq (.tmp 11) (.tmp 12), some (10, true)⟩, oo 14 (.pick (.tmp 10) (.tmp 13) (.con (.bool false))), oo 6 (.mov (.tmp 14))]) .ret))⟩
theorem comp69 : compFn Try.prog 69 = some F69 := by kernel_rfl
def F70 : AFn := ⟨2, 48, [.tmp 4], (.seq (.reg [oo 2 (.box (.tmp 0)), oo 3 (.box (.tmp 1)), oo 4 (.mov (.con (i6 0)))]) (.seq (.seq (.reg [oo 7 (.faddr (.tmp 3) 0), oo 8 (.load none (.tmp 7)), oo 9 (.faddr (.tmp 2) 2), oo 10 (.load none (.tmp 9)), oo 11 (.faddr (.tmp 2) 3), oo 12 (.load none (.tmp 11)), oo 13 (.call (.con (.fn 69 [] [])) [(.tmp 8), (.tmp 10), (.tmp 12)]), oo 14 (.un .not (.tmp 13))]) (.cond (.tmp 14) (.seq (.reg [oo 4 (.mov (.con (i6 2)))]) .ret) .skip)) (.seq (.seq (.reg [oo 15 (.faddr (.tmp 3) 1), oo 16 (.load (some 2) (.tmp 15)), oo 17 (.call (.con (.fn 93 [] [])) [(.tmp 16), (.con (i6 100000))]), oo 5 (.mov (.tmp 17))]) (.seq (.reg [oo 18 (.mov (.tmp 5)), oo 19 (.bin .neq (.tmp 18) (.con (i6 0)))]) (.cond (.tmp 19) (.seq (.reg [oo 20 (.mov (.tmp 5)), oo 4 (.mov (.tmp 20))]) .ret) .skip))) (.seq (.seq (.reg [oo 21 (.faddr (.tmp 3) 3), oo 22 (.load (some 2) (.tmp 21)), oo 23 (.call (.con (.fn 93 [] [])) [(.tmp 22), (.con (i6 2000))]), oo 6 (.mov (.tmp 23))]) (.seq (.reg [oo 24 (.mov (.tmp 6)), oo 25 (.bin .neq (.tmp 24) (.con (i6 0)))]) (.cond (.tmp 25) (.seq (.reg [oo 26 (.mov (.tmp 6)), oo 4 (.mov (.tmp 26))]) .ret) .skip))) (.seq (.seq (.reg [oo 27 (.faddr (.tmp 3) 5), oo 28 (.load none (.tmp 27)), oo 29 (.call (.con (.fn 69 [] [])) [(.tmp 28), (.con (i6 1)), (.con (i6 4))]), oo 30 (.un .not (.tmp 29))]) (.cond (.tmp 30) (.seq (.reg [oo 4 (.mov (.con (i6 3)))]) .ret) .skip)) (.seq (.seq (.reg [oo 31 (.faddr (.tmp 3) 6), oo 32 (.load none (.tmp 31)), oo 33 (.call (.con (.fn 69 [] [])) [(.tmp 32), (.con (i6 0)), (.con (i6 1000000))]), oo 34 (.un .not (.tmp 33))]) (.cond (.tmp 34) (.seq (.reg [oo 4 (.mov (.con (i6 2)))]) .ret) .skip)) (.seq (.seq (.reg [oo 35 (.faddr (.tmp 3) 6), oo 36 (.load none (.tmp 35)), oo 37 (.bin .gtr (.tmp 36) (.con (i6 0))), oo 38 (.mov (.tmp 37)), ⟨some 39, .faddr (.tmp 3) 5, some (38, true)⟩, ⟨some 40, .load none (.tmp 39), some (38, true)⟩, ⟨some 41, .bin .neq (.tmp 40) (.con (i6 2)), some (38, true)⟩, oo 42 (.pick (.tmp 38) (.tmp 41) (.con (.bool false))), oo 43 (.mov (.tmp 42)), ⟨some 44, .faddr (.tmp 3) 5, some (43, true)⟩, ⟨some 45, .load none (.tmp 44), some (43, true)⟩, ⟨some 46, .bin .neq (.tmp 45) (.con (i6 3)), some (43, true)⟩, oo 47 (.pick (.tmp 43) (.tmp 46) (.con (.bool false)))]) (.cond (.tmp 47) (.seq (.reg [oo 4 (.mov (.con (i6 1)))]) .ret) .skip)) (.seq (.reg [oo 4 (.mov (.con (i6 0)))]) .ret))))))))⟩
theorem comp70 : compFn Try.prog 70 = some F70 := by kernel_rfl
def F72 : AFn := ⟨2, 13, [.tmp 4], (.seq (.reg [oo 2 (.box (.tmp 0)), oo 4 (.mov (.con (i6 0)))]) (.seq (.seq (.reg [oo 6 (.load (some 9) (.tmp 2)), oo 7 (.call (.con (.fn 20 [] [])) [(.tmp 6)]), oo 5 (.mov (.tmp 7))]) (.seq (.reg [oo 8 (.mov (.tmp 5)), oo 9 (.bin .neq (.tmp 8) (.con (i6 0)))]) (.cond (.tmp 9) (.seq (.reg [oo 10 (.mov (.tmp 5)), oo 4 (.mov (.tmp 10))]) .ret) .skip))) (.seq (.reg [oo 11 (.mov (.tmp 1)), oo 12 (.call (.con (.fn 32 [] [])) [(.tmp 11)]), oo 4 (.mov (.tmp 12))]) .ret)))⟩
theorem comp72 : compFn Try.prog 72 = some F72 := by kernel_rfl
def F73 : AFn := ⟨2, 37, [.tmp 4], (.seq (.reg [oo 2 (.box (.tmp 0)), oo 4 (.mov (.con (.nils)))]) (.seq (.reg [oo 11 (.load (some 9) (.tmp 2)), oo 12 (.call (.con (.fn 55 [] [])) [(.tmp 11)]), oo 5 (.box (.con (.agg [i6 0, i6 0, i6 0, i6 0, i6 0, i6 0, i6 0, i6 0, .nils, i6 0, i6 0, i6 0, i6 0, i6 0, i6 0, i6 0, i6 0, i6 0, i6 0, i6 0, i6 0, i6 0, i6 0, i6 0, i6 0, i6 0, i6 0, i6 0, i6 0, i6 0, i6 0, i6 0, i6 0, i6 0, i6 0, i6 0, i6 0, i6 0, i6 0, i6 0, i6 0, i6 0, i6 0, i6 0, i6 0, i6 0, i6 0, i6 0, i6 0, i6 0, i6 0, i6 0, i6 0, i6 0, i6 0, i6 0, i6 0, i6 0, i6 0, .nils, i6 0, i6 0, i6 0, i6 0, i6 0, i6 0, i6 0, i6 0, i6 0, i6 0, i6 0, i6 0, i6 0, i6 0, i6 0, i6 0, i6 0, i6 0, i6 0, i6 0, i6 0, i6 0, i6 0, i6 0, i6 0, i6 0, i6 0, i6 0, i6 0, i6 0, i6 0, i6 0, i6 0, i6 0, i6 0, i6 0, i6 0, i6 0, i6 0, i6 0, i6 0, i6 0]))), on (.store 102 (.tmp 5) (.tmp 12))]) (.seq (.dreg 7 [oo 13 (.iaddr (.tmp 5) (.con (i6 1)) 51 (some 2)), oo 14 (.load (some 51) (.tmp 13)), oo 15 (.mkfn 94 [(.tmp 14)] []), oo 16 (.iaddr (.tmp 5) (.con (i6 0)) 51 (some 2)), oo 17 (.load (some 51) (.tmp 16)), oo 18 (.mkfn 94 [(.tmp 17)] []), oo 6 (.mov (.tmp 15)), oo 7 (.mov (.tmp 18))]) (.seq (.reg [oo 8 (.mov (.con (.nils)))]) (.seq (.seq (.reg [oo 19 (.mov (.tmp 1)), oo 20 (.len false (.tmp 19)), oo 21 (.mov (.con (i6 0)))]) (.block 0 (.loop (.seq (.reg [oo 22 (.bin .lss (.tmp 21) (.tmp 20))]) (.seq (.cond (.tmp 22) .skip (.exit 0)) (.seq (.block 1 (.seq (.reg [oo 23 (.iaddr (.tmp 19) (.tmp 21) 3 none), oo 24 (.load (some 3) (.tmp 23)), oo 10 (.box (.con (.agg [i6 0, i6 0, i6 0]))), on (.store 3 (.tmp 10) (.tmp 24))]) (.dreg 9 [oo 25 (.mov (.tmp 8)), oo 26 (.mov (.tmp 6)), oo 27 (.load (some 3) (.tmp 10)), oo 28 (.call (.tmp 26) [(.tmp 27)]), oo 29 (.mov (.tmp 7)), oo 30 (.load (some 3) (.tmp 10)), oo 31 (.call (.tmp 29) [(.tmp 30)]), oo 32 (.call (.con (.fn 63 [] [])) [(.tmp 28), (.tmp 31)]), oo 33 (.bsl 1 false [i6 0] 1 [(0, (.tmp 32))]), oo 34 (.app (.tmp 25) (.tmp 33) 1 8 [i6 0]), oo 8 (.mov (.tmp 34))]))) (.reg [oo 35 (.bin .add (.tmp 21) (.con (i6 1))), oo 21 (.mov (.tmp 35))]))))))) (.seq (.reg [oo 36 (.mov (.tmp 8)), oo 4 (.mov (.tmp 36))]) .ret))))))⟩
theorem comp73 : compFn Try.prog 73 = some F73 := by kernel_rfl
def F76 : AFn := ⟨2, 9, [.tmp 4], (.seq (.reg [oo 2 (.box (.tmp 0)), oo 4 (.mov (.con (i6 0)))]) (.seq (.reg [oo 5 (.load (some 9) (.tmp 2)), oo 6 (.mov (.tmp 1)), oo 7 (.call (.con (.fn 73 [] [])) [(.tmp 5), (.tmp 6)]), oo 8 (.call (.con (.fn 95 [] [])) [(.tmp 7), (.con (.fn 96 [] []))]), oo 4 (.mov (.tmp 8))]) .ret))⟩
theorem comp76 : compFn Try.prog 76 = some F76 := by kernel_rfl
def F78 : AFn := ⟨3, 15, [.tmp 6], (.seq (.reg [oo 6 (.mov (.con (.bool false)))]) (.seq (.reg [oo 7 (.mov (.tmp 0)), oo 8 (.mov (.tmp 1)), oo 9 (.bin .geq (.tmp 7) (.tmp 8)), oo 10 (.mov (.tmp 9)), ⟨some 11, .mov (.tmp 0), some (10, true)⟩, ⟨some 12, .mov (.tmp 2), some (10, true)⟩, ⟨some 13, .bin .leq (.tmp 11) (.tmp 12), some (10, true)⟩, oo 14 (.pick (.tmp 10) (.tmp 13) (.con (.bool false))), oo 6 (.mov (.tmp 14))]) .ret))⟩
theorem comp78 : compFn Try.prog 78 = some F78 := by kernel_rfl
def F79 : AFn := ⟨2, 26, [.tmp 4], (.seq (.reg [oo 4 (.mov (.con (i6 0)))]) (.seq (.reg [oo 8 (.mov (.tmp 0)), oo 5 (.mov (.con (i6 0))), oo 6 (.mov (.tmp 8))]) (.seq (.block 0 (.loop (.seq (.seq (.reg [oo 9 (.mov (.tmp 5)), oo 10 (.mov (.tmp 6)), oo 11 (.bin .lss (.tmp 9) (.tmp 10))]) (.cond (.tmp 11) .skip (.exit 0))) (.block 1 (.seq (.reg [oo 12 (.mov (.tmp 5)), oo 13 (.mov (.tmp 6)), oo 14 (.bin .add (.tmp 12) (.tmp 13)), oo 15 (.conv .u64 (.tmp 14)), oo 16 (.bin .shr (.tmp 15) (.con (.int .u64 1))), oo 17 (.conv .i64 (.tmp 16)), oo 7 (.mov (.tmp 17))]) (.seq (.reg [oo 18 (.mov (.tmp 1)), oo 19 (.mov (.tmp 7)), oo 20 (.call (.tmp 18) [(.tmp 19)]), oo 21 (.un .not (.tmp 20))]) (.cond (.tmp 21) (.reg [oo 22 (.mov (.tmp 7)), oo 23 (.bin .add (.tmp 22) (.con (i6 1))), oo 5 (.mov (.tmp 23))]) (.reg [oo 24 (.mov (.tmp 7)), oo 6 (.mov (.tmp 24))])))))))) (.seq (.reg [oo 25 (.mov (.tmp 5)), oo 4 (.mov (.tmp 25))]) .ret))))⟩
theorem comp79 : compFn Try.prog 79 = some F79 := by kernel_rfl
def F80 : AFn := ⟨1, 12, [.tmp 4], (.seq (.reg [oo 4 (.mov (.con (.bool false)))]) (.seq (.reg [oo 5 (.load (some 9) (.tmp 1)), oo 6 (.load none (.tmp 2)), oo 7 (.mov (.tmp 0)), oo 8 (.call (.con (.fn 81 [] [])) [(.tmp 5), (.tmp 6), (.tmp 7)]), oo 9 (.call (.con (.fn 55 [] [])) [(.tmp 8)]), oo 10 (.aidx (.tmp 9) (.con (i6 0)) 2 51 (some 51)), oo 11 (.call (.con (.fn 64 [] [])) [(.tmp 10)]), oo 4 (.mov (.tmp 11))]) .ret))⟩
theorem comp80 : compFn Try.prog 80 = some F80 := by kernel_rfl
def F81 : AFn := ⟨3, 21, [.cell 6 (some 9)], (.seq (.reg [oo 3 (.box (.tmp 0)), oo 6 (.box (.con (.agg [i6 0, i6 0, i6 0, i6 0, i6 0, i6 0, i6 0, i6 0, .nils])))]) (.seq (.reg [oo 8 (.mov (.tmp 1)), oo 9 (.mov (.tmp 2)), oo 10 (.mov (.tmp 2)), oo 11 (.build [i6 0, i6 0] [(0, 1, (.tmp 9)), (1, 1, (.tmp 10))]), oo 12 (.build [i6 0, i6 0, i6 0, i6 0, i6 0, i6 0, i6 0] [(0, 1, (.tmp 8)), (1, 2, (.tmp 11)), (5, 1, (.con (i6 1)))]), oo 7 (.box (.con (.agg [i6 0, i6 0, i6 0, i6 0, i6 0, i6 0, i6 0]))), on (.store 7 (.tmp 7) (.tmp 12))]) (.seq (.dreg 5 [oo 13 (.faddr (.tmp 3) 8), oo 14 (.load none (.tmp 13)), oo 15 (.call (.con (.fn 97 [] [])) [(.tmp 14)]), oo 16 (.load (some 7) (.tmp 7)), oo 17 (.bsl 7 true [i6 0, i6 0, i6 0, i6 0, i6 0, i6 0, i6 0] 1 [(0, (.tmp 16))]), oo 18 (.app (.tmp 15) (.tmp 17) 7 56 [i6 0, i6 0, i6 0, i6 0, i6 0, i6 0, i6 0]), oo 19 (.faddr (.tmp 3) 8), on (.store 1 (.tmp 19) (.tmp 18))]) (.seq (.reg [oo 20 (.load (some 9) (.tmp 3)), on (.store 9 (.tmp 6) (.tmp 20))]) .ret))))⟩
theorem comp81 : compFn Try.prog 81 = some F81 := by kernel_rfl
def F82 : AFn := ⟨1, 13, [.tmp 5], (.seq (.reg [oo 5 (.mov (.con (.bool false)))]) (.seq (.dreg 5 [oo 6 (.load (some 9) (.tmp 1)), oo 7 (.load none (.tmp 2)), oo 8 (.mov (.tmp 0)), oo 9 (.call (.con (.fn 81 [] [])) [(.tmp 6), (.tmp 7), (.tmp 8)]), oo 10 (.load none (.tmp 3)), oo 11 (.call (.con (.fn 76 [] [])) [(.tmp 9), (.tmp 10)]), oo 12 (.bin .geq (.tmp 11) (.con (i6 0))), oo 5 (.mov (.tmp 12))]) .ret))⟩
theorem comp82 : compFn Try.prog 82 = some F82 := by kernel_rfl
def F84 : AFn := ⟨1, 17, [.tmp 2], (.seq (.reg [oo 1 (.box (.tmp 0)), oo 2 (.mov (.con (i6 0)))]) (.seq (.seq (.reg [oo 3 (.faddr (.tmp 1) 0), oo 4 (.load none (.tmp 3))]) (.block 0 (.seq (.reg [oo 6 (.bin .eql (.tmp 4) (.con (i6 1))), oo 5 (.mov (.tmp 6))]) (.cond (.tmp 5) (.seq (.reg [oo 7 (.load (some 3) (.tmp 1)), oo 8 (.call (.con (.fn 98 [] [])) [(.tmp 7)]), oo 2 (.mov (.tmp 8))]) .ret) (.seq (.reg [oo 10 (.bin .eql (.tmp 4) (.con (i6 2))), oo 9 (.mov (.tmp 10))]) (.cond (.tmp 9) (.seq (.reg [oo 11 (.load (some 3) (.tmp 1)), oo 12 (.call (.con (.fn 99 [] [])) [(.tmp 11)]), oo 2 (.mov (.tmp 12))]) .ret) (.seq (.reg [oo 14 (.bin .eql (.tmp 4) (.con (i6 3))), oo 13 (.mov (.tmp 14))]) (.cond (.tmp 13) (.seq (.reg [oo 15 (.load (some 3) (.tmp 1)), oo 16 (.call (.con (.fn 100 [] [])) [(.tmp 15)]), oo 2 (.mov (.tmp 16))]) .ret) .skip)))))))) (.seq (.reg [oo 2 (.mov (.con (i6 3)))]) .ret)))⟩
theorem comp84 : compFn Try.prog 84 = some F84 := by kernel_rfl
def F87 : AFn := ⟨1, 6, [.cell 2 (some 2)], (.seq (.reg [oo 2 (.box (.con (.agg [i6 0, i6 0])))]) (.seq (.reg [oo 3 (.mov (.tmp 0)), oo 4 (.mov (.tmp 0)), oo 5 (.call (.con (.fn 44 [] [])) [(.tmp 3), (.tmp 4)]), on (.store 2 (.tmp 2) (.tmp 5))]) .ret))⟩
theorem comp87 : compFn Try.prog 87 = some F87 := by kernel_rfl
def F89 : AFn := ⟨1, 35, [.tmp 2], (.seq (.reg [oo 1 (.box (.tmp 0)), oo 2 (.mov (.con (.nils)))]) (.seq (.reg [oo 6 (.faddr (.tmp 1) 0), oo 7 (.faddr (.tmp 6) 5), oo 8 (.load none (.tmp 7)), oo 9 (.faddr (.tmp 1) 0), oo 10 (.faddr (.tmp 9) 6), oo 11 (.load none (.tmp 10)), oo 12 (.build [i6 0, i6 0] [(0, 1, (.tmp 8)), (1, 1, (.tmp 11))]), oo 13 (.bsl 2 true [i6 0, i6 0] 1 [(0, (.tmp 12))]), oo 3 (.mov (.tmp 13))]) (.seq (.seq (.reg [oo 14 (.faddr (.tmp 1) 0), oo 15 (.faddr (.tmp 14) 8), oo 16 (.load none (.tmp 15)), oo 17 (.len false (.tmp 16)), oo 18 (.mov (.con (i6 0)))]) (.block 0 (.loop (.seq (.reg [oo 19 (.bin .lss (.tmp 18) (.tmp 17))]) (.seq (.cond (.tmp 19) .skip (.exit 0)) (.seq (.block 1 (.seq (.reg [oo 20 (.mov (.tmp 18)), oo 21 (.iaddr (.tmp 16) (.tmp 18) 7 none), oo 22 (.load (some 7) (.tmp 21)), oo 5 (.box (.con (.agg [i6 0, i6 0, i6 0, i6 0, i6 0, i6 0, i6 0]))), oo 4 (.mov (.tmp 20)), on (.store 7 (.tmp 5) (.tmp 22))]) (.dreg 9 [oo 23 (.mov (.tmp 3)), oo 24 (.mov (.tmp 4)), oo 25 (.faddr (.tmp 1) 9), oo 26 (.iaddr (.tmp 25) (.tmp 24) 1 (some 21)), oo 27 (.load none (.tmp 26)), oo 28 (.faddr (.tmp 5) 0), oo 29 (.load none (.tmp 28)), oo 30 (.build [i6 0, i6 0] [(0, 1, (.tmp 27)), (1, 1, (.tmp 29))]), oo 31 (.bsl 2 true [i6 0, i6 0] 1 [(0, (.tmp 30))]), oo 32 (.app (.tmp 23) (.tmp 31) 2 16 [i6 0, i6 0]), oo 3 (.mov (.tmp 32))]))) (.reg [oo 33 (.bin .add (.tmp 18) (.con (i6 1))), oo 18 (.mov (.tmp 33))]))))))) (.seq (.reg [oo 34 (.mov (.tmp 3)), oo 2 (.mov (.tmp 34))]) .ret))))⟩
theorem comp89 : compFn Try.prog 89 = some F89 := by kernel_rfl
def F90 : AFn := ⟨2, 16, [.tmp 4], (.seq (.reg [oo 4 (.mov (.con (i6 0)))]) (.seq (.reg [oo 6 (.mov (.tmp 0)), oo 7 (.mov (.tmp 1)), oo 8 (.bin .quo (.tmp 6) (.tmp 7)), oo 5 (.mov (.tmp 8))]) (.seq (.seq (.reg [oo 9 (.mov (.tmp 0)), oo 10 (.mov (.tmp 1)), oo 11 (.bin .rem (.tmp 9) (.tmp 10)), oo 12 (.bin .lss (.tmp 11) (.con (i6 0)))]) (.cond (.tmp 12) (.reg [oo 13 (.mov (.tmp 5)), oo 14 (.bin .sub (.tmp 13) (.con (i6 1))), oo 5 (.mov (.tmp 14))]) .skip)) (.seq (.reg [oo 15 (.mov (.tmp 5)), oo 4 (.mov (.tmp 15))]) .ret))))⟩
theorem comp90 : compFn Try.prog 90 = some F90 := by kernel_rfl
def F91 : AFn := ⟨2, 25, [.tmp 4], (.seq (.reg [oo 4 (.mov (.con (i6 0)))]) (.seq (.reg [oo 5 (.mov (.con (i6 0)))]) (.seq (.seq (.reg [oo 8 (.mov (.tmp 1)), oo 9 (.len false (.tmp 8)), oo 10 (.mov (.con (i6 0)))]) (.block 0 (.loop (.seq (.reg [oo 11 (.bin .lss (.tmp 10) (.tmp 9))]) (.seq (.cond (.tmp 11) .skip (.exit 0)) (.seq (.block 1 (.seq (.reg [oo 12 (.iaddr (.tmp 8) (.tmp 10) 2 none), oo 13 (.load (some 2) (.tmp 12)), oo 7 (.box (.con (.agg [i6 0, i6 0]))), on (.store 2 (.tmp 7) (.tmp 13))]) (.reg [oo 14 (.mov (.tmp 5)), oo 15 (.faddr (.tmp 7) 0), oo 16 (.load none (.tmp 15)), oo 17 (.faddr (.tmp 7) 1), oo 18 (.load none (.tmp 17)), oo 19 (.mov (.tmp 0)), oo 20 (.bin .sub (.tmp 18) (.tmp 19)), oo 21 (.bin .mul (.tmp 16) (.tmp 20)), oo 22 (.bin .add (.tmp 14) (.tmp 21)), oo 5 (.mov (.tmp 22))]))) (.reg [oo 23 (.bin .add (.tmp 10) (.con (i6 1))), oo 10 (.mov (.tmp 23))]))))))) (.seq (.reg [oo 24 (.mov (.tmp 5)), oo 4 (.mov (.tmp 24))]) .ret))))⟩
theorem comp91 : compFn Try.prog 91 = some F91 := by kernel_rfl
def F92 : AFn := ⟨2, 24, [.tmp 4], (.seq (.reg [oo 2 (.box (.tmp 0)), oo 4 (.mov (.con (i6 0)))]) (.seq (.block 0 (.seq (.reg [oo 6 (.faddr (.tmp 2) 0), oo 7 (.load none (.tmp 6)), oo 8 (.mov (.tmp 1)), oo 9 (.call (.con (.fn 78 [] [])) [(.tmp 7), (.con (i6 0)), (.tmp 8)]), oo 10 (.un .not (.tmp 9)), oo 11 (.mov (.tmp 10)), ⟨some 12, .faddr (.tmp 2) 1, some (11, false)⟩, ⟨some 13, .load none (.tmp 12), some (11, false)⟩, ⟨some 14, .mov (.tmp 1), some (11, false)⟩, ⟨some 15, .call (.con (.fn 78 [] [])) [(.tmp 13), (.con (i6 0)), (.tmp 14)], some (11, false)⟩, ⟨some 16, .un .not (.tmp 15), some (11, false)⟩, oo 17 (.pick (.tmp 11) (.con (.bool true)) (.tmp 16)), oo 5 (.mov (.tmp 17))]) (.cond (.tmp 5) (.seq (.reg [oo 4 (.mov (.con (i6 2)))]) .ret) (.seq (.reg [oo 19 (.faddr (.tmp 2) 0), oo 20 (.load none (.tmp 19)), oo 21 (.faddr (.tmp 2) 1), oo 22 (.load none (.tmp 21)), oo 23 (.bin .gtr (.tmp 20) (.tmp 22)), oo 18 (.mov (.tmp 23))]) (.cond (.tmp 18) (.seq (.reg [oo 4 (.mov (.con (i6 9)))]) .ret) .skip))))) (.seq (.reg [oo 4 (.mov (.con (i6 0)))]) .ret)))⟩
theorem comp92 : compFn Try.prog 92 = some F92 := by kernel_rfl
def F93 : AFn := ⟨2, 22, [.tmp 4], (.seq (.reg [oo 2 (.box (.tmp 0)), oo 4 (.mov (.con (i6 0)))]) (.seq (.seq (.reg [oo 5 (.faddr (.tmp 2) 0), oo 6 (.load none (.tmp 5)), oo 7 (.mov (.tmp 1)), oo 8 (.call (.con (.fn 69 [] [])) [(.tmp 6), (.con (i6 0)), (.tmp 7)]), oo 9 (.un .not (.tmp 8)), oo 10 (.mov (.tmp 9)), ⟨some 11, .faddr (.tmp 2) 1, some (10, false)⟩, ⟨some 12, .load none (.tmp 11), some (10, false)⟩, ⟨some 13, .mov (.tmp 1), some (10, false)⟩, ⟨some 14, .call (.con (.fn 69 [] [])) [(.tmp 12), (.con (i6 0)), (.tmp 13)], some (10, false)⟩, ⟨some 15, .un .not (.tmp 14), some (10, false)⟩, oo 16 (.pick (.tmp 10) (.con (.bool true)) (.tmp 15))]) (.cond (.tmp 16) (.seq (.reg [oo 4 (.mov (.con (i6 2)))]) .ret) .skip)) (.seq (.seq (.reg [oo 17 (.faddr (.tmp 2) 0), oo 18 (.load none (.tmp 17)), oo 19 (.faddr (.tmp 2) 1), oo 20 (.load none (.tmp 19)), oo 21 (.bin .gtr (.tmp 18) (.tmp 20))]) (.cond (.tmp 21) (.seq (.reg [oo 4 (.mov (.con (i6 9)))]) .ret) .skip)) (.seq (.reg [oo 4 (.mov (.con (i6 0)))]) .ret))))⟩
theorem comp93 : compFn Try.prog 93 = some F93 := by kernel_rfl
def F94 : AFn := ⟨2, 28, [.tmp 4], (.seq (.reg [oo 2 (.box (.tmp 0)), oo 3 (.box (.tmp 1)), oo 4 (.mov (.con (.bool false)))]) (.seq (.seq (.reg [oo 5 (.faddr (.tmp 3) 0), oo 6 (.load none (.tmp 5))]) (.block 0 (.seq (.reg [oo 8 (.bin .eql (.tmp 6) (.con (i6 1))), oo 7 (.mov (.tmp 8))]) (.cond (.tmp 7) (.seq (.reg [oo 9 (.load (some 51) (.tmp 2)), oo 10 (.faddr (.tmp 3) 1), oo 11 (.load none (.tmp 10)), oo 12 (.faddr (.tmp 3) 2), oo 13 (.load none (.tmp 12)), oo 14 (.call (.con (.fn 101 [] [])) [(.tmp 9), (.tmp 11), (.tmp 13)]), oo 4 (.mov (.tmp 14))]) .ret) (.seq (.reg [oo 16 (.bin .eql (.tmp 6) (.con (i6 2))), oo 15 (.mov (.tmp 16))]) (.cond (.tmp 15) (.seq (.dreg 4 [oo 17 (.load (some 51) (.tmp 2)), oo 18 (.call (.con (.fn 62 [] [])) [(.tmp 17)]), oo 19 (.faddr (.tmp 3) 1), oo 20 (.load none (.tmp 19)), oo 21 (.bin .leq (.tmp 18) (.tmp 20)), oo 4 (.mov (.tmp 21))]) .ret) .skip)))))) (.seq (.reg [oo 22 (.load (some 51) (.tmp 2)), oo 23 (.faddr (.tmp 3) 1), oo 24 (.load none (.tmp 23)), oo 25 (.faddr (.tmp 3) 2), oo 26 (.load none (.tmp 25)), oo 27 (.call (.con (.fn 102 [] [])) [(.tmp 22), (.tmp 24), (.tmp 26)]), oo 4 (.mov (.tmp 27))]) .ret)))⟩
theorem comp94 : compFn Try.prog 94 = some F94 := by kernel_rfl
def F95 : AFn := ⟨2, 19, [.tmp 4], (.seq (.reg [oo 4 (.mov (.con (i6 0)))]) (.seq (.seq (.reg [oo 6 (.mov (.tmp 0)), oo 7 (.len false (.tmp 6)), oo 8 (.mov (.con (i6 0)))]) (.block 0 (.loop (.seq (.reg [oo 9 (.bin .lss (.tmp 8) (.tmp 7))]) (.seq (.cond (.tmp 9) .skip (.exit 0)) (.seq (.block 1 (.seq (.reg [oo 10 (.mov (.tmp 8)), oo 5 (.mov (.tmp 10))]) (.seq (.reg [oo 11 (.mov (.tmp 1)), oo 12 (.mov (.tmp 0)), oo 13 (.mov (.tmp 5)), oo 14 (.iaddr (.tmp 12) (.tmp 13) 1 none), oo 15 (.load none (.tmp 14)), oo 16 (.call (.tmp 11) [(.tmp 15)])]) (.cond (.tmp 16) (.seq (.reg [oo 17 (.mov (.tmp 5)), oo 4 (.mov (.tmp 17))]) .ret) .skip)))) (.reg [oo 18 (.bin .add (.tmp 8) (.con (i6 1))), oo 8 (.mov (.tmp 18))]))))))) (.seq (.reg [oo 4 (.mov (.con (i6 (-1))))]) .ret)))⟩
theorem comp95 : compFn Try.prog 95 = some F95 := by kernel_rfl
def F96 : AFn := ⟨1, 5, [.tmp 2], (.seq (.reg [oo 2 (.mov (.con (.bool false)))]) (.seq (.reg [oo 3 (.mov (.tmp 0)), oo 4 (.bin .neq (.tmp 3) (.con (i6 1))), oo 2 (.mov (.tmp 4))]) .ret))⟩
theorem comp96 : compFn Try.prog 96 = some F96 := by kernel_rfl
def F97 : AFn := ⟨1, 8, [.tmp 2], (.seq (.reg [oo 2 (.mov (.con (.nils)))]) (.seq (.seq (.reg [oo 3 (.mov (.tmp 0)), oo 4 (.eqn false 0 (.tmp 3) (.con (.nils)))]) (.cond (.tmp 4) (.seq (.reg [oo 2 (.mov (.con (.nils)))]) .ret) .skip)) (.seq (.reg [oo 5 (.bsl 7 true [i6 0, i6 0, i6 0, i6 0, i6 0, i6 0, i6 0] 0 []), oo 6 (.mov (.tmp 0)), oo 7 (.app (.tmp 5) (.tmp 6) 7 56 [i6 0, i6 0, i6 0, i6 0, i6 0, i6 0, i6 0]), oo 2 (.mov (.tmp 7))]) .ret)))⟩
theorem comp97 : compFn Try.prog 97 = some F97 := by kernel_rfl
def F98 : AFn := ⟨1, 20, [.tmp 2], (.seq (.reg [oo 1 (.box (.tmp 0)), oo 2 (.mov (.con (i6 0)))]) (.seq (.block 0 (.seq (.reg [oo 4 (.faddr (.tmp 1) 1), oo 5 (.load none (.tmp 4)), oo 6 (.call (.con (.fn 78 [] [])) [(.tmp 5), (.con (i6 0)), (.con (i6 20000))]), oo 7 (.un .not (.tmp 6)), oo 8 (.mov (.tmp 7)), ⟨some 9, .faddr (.tmp 1) 2, some (8, false)⟩, ⟨some 10, .load none (.tmp 9), some (8, false)⟩, ⟨some 11, .call (.con (.fn 78 [] [])) [(.tmp 10), (.con (i6 0)), (.con (i6 20000))], some (8, false)⟩, ⟨some 12, .un .not (.tmp 11), some (8, false)⟩, oo 13 (.pick (.tmp 8) (.con (.bool true)) (.tmp 12)), oo 3 (.mov (.tmp 13))]) (.cond (.tmp 3) (.seq (.reg [oo 2 (.mov (.con (i6 2)))]) .ret) (.seq (.reg [oo 15 (.faddr (.tmp 1) 1), oo 16 (.load none (.tmp 15)), oo 17 (.faddr (.tmp 1) 2), oo 18 (.load none (.tmp 17)), oo 19 (.bin .geq (.tmp 16) (.tmp 18)), oo 14 (.mov (.tmp 19))]) (.cond (.tmp 14) (.seq (.reg [oo 2 (.mov (.con (i6 9)))]) .ret) .skip))))) (.seq (.reg [oo 2 (.mov (.con (i6 0)))]) .ret)))⟩
theorem comp98 : compFn Try.prog 98 = some F98 := by kernel_rfl
def F99 : AFn := ⟨1, 12, [.tmp 2], (.seq (.reg [oo 1 (.box (.tmp 0)), oo 2 (.mov (.con (i6 0)))]) (.seq (.block 0 (.seq (.reg [oo 4 (.faddr (.tmp 1) 1), oo 5 (.load none (.tmp 4)), oo 6 (.call (.con (.fn 78 [] [])) [(.tmp 5), (.con (i6 0)), (.con (i6 2000))]), oo 7 (.un .not (.tmp 6)), oo 3 (.mov (.tmp 7))]) (.cond (.tmp 3) (.seq (.reg [oo 2 (.mov (.con (i6 2)))]) .ret) (.seq (.reg [oo 9 (.faddr (.tmp 1) 2), oo 10 (.load none (.tmp 9)), oo 11 (.bin .neq (.tmp 10) (.con (i6 0))), oo 8 (.mov (.tmp 11))]) (.cond (.tmp 8) (.seq (.reg [oo 2 (.mov (.con (i6 1)))]) .ret) .skip))))) (.seq (.reg [oo 2 (.mov (.con (i6 0)))]) .ret)))⟩
theorem comp99 : compFn Try.prog 99 = some F99 := by kernel_rfl
def F100 : AFn := ⟨1, 13, [.tmp 2], (.seq (.reg [oo 1 (.box (.tmp 0)), oo 2 (.mov (.con (i6 0)))]) (.seq (.seq (.reg [oo 3 (.faddr (.tmp 1) 1), oo 4 (.load none (.tmp 3)), oo 5 (.call (.con (.fn 78 [] [])) [(.tmp 4), (.con (i6 0)), (.con (i6 10000000))]), oo 6 (.un .not (.tmp 5)), oo 7 (.mov (.tmp 6)), ⟨some 8, .faddr (.tmp 1) 2, some (7, false)⟩, ⟨some 9, .load none (.tmp 8), some (7, false)⟩, ⟨some 10, .call (.con (.fn 78 [] [])) [(.tmp 9), (.con (i6 0)), (.con (i6 10000000))], some (7, false)⟩, ⟨some 11, .un .not (.tmp 10), some (7, false)⟩, oo 12 (.pick (.tmp 7) (.con (.bool true)) (.tmp 11))]) (.cond (.tmp 12) (.seq (.reg [oo 2 (.mov (.con (i6 2)))]) .ret) .skip)) (.seq (.reg [oo 2 (.mov (.con (i6 0)))]) .ret)))⟩
theorem comp100 : compFn Try.prog 100 = some F100 := by kernel_rfl
def F101 : AFn := ⟨3, 46, [.tmp 6], (.seq (.reg [oo 3 (.box (.tmp 0)), oo 4 (.box (.tmp 1)), oo 6 (.mov (.con (.bool false)))]) (.seq (.reg [oo 10 (.mkfn 103 [] [(.tmp 3), (.tmp 4)]), oo 11 (.call (.con (.fn 79 [] [])) [(.con (i6 21000)), (.tmp 10)]), oo 7 (.mov (.tmp 11))]) (.seq (.reg [oo 12 (.faddr (.tmp 3) 0), oo 13 (.faddr (.tmp 12) 4), oo 14 (.load none (.tmp 13)), oo 15 (.mov (.tmp 7)), oo 16 (.bin .add (.tmp 14) (.tmp 15)), oo 17 (.bin .mul (.con (i6 2)) (.tmp 16)), oo 18 (.faddr (.tmp 3) 0), oo 19 (.faddr (.tmp 18) 1), oo 20 (.load none (.tmp 19)), oo 21 (.bin .add (.tmp 17) (.tmp 20)), oo 8 (.mov (.tmp 21))]) (.seq (.reg [oo 22 (.faddr (.tmp 3) 0), oo 23 (.faddr (.tmp 22) 3), oo 24 (.load none (.tmp 23)), oo 25 (.faddr (.tmp 3) 0), oo 26 (.faddr (.tmp 25) 0), oo 27 (.load none (.tmp 26)), oo 28 (.faddr (.tmp 3) 0), oo 29 (.faddr (.tmp 28) 3), oo 30 (.load none (.tmp 29)), oo 31 (.bin .sub (.tmp 27) (.tmp 30)), oo 32 (.mx (.tmp 24) (.tmp 31)), oo 33 (.bin .mul (.con (i6 2)) (.tmp 32)), oo 9 (.mov (.tmp 33))]) (.seq (.reg [oo 34 (.mov (.tmp 8)), oo 35 (.mov (.tmp 8)), oo 36 (.bin .mul (.tmp 34) (.tmp 35)), oo 37 (.mov (.tmp 9)), oo 38 (.mov (.tmp 9)), oo 39 (.bin .mul (.tmp 37) (.tmp 38)), oo 40 (.bin .add (.tmp 36) (.tmp 39)), oo 41 (.mov (.tmp 2)), oo 42 (.bin .mul (.con (i6 4)) (.tmp 41)), oo 43 (.mov (.tmp 2)), oo 44 (.bin .mul (.tmp 42) (.tmp 43)), oo 45 (.bin .leq (.tmp 40) (.tmp 44)), oo 6 (.mov (.tmp 45))]) .ret)))))⟩
theorem comp101 : compFn Try.prog 101 = some F101 := by kernel_rfl
def F102 : AFn := ⟨3, 33, [.tmp 6], (.seq (.reg [oo 3 (.box (.tmp 0)), oo 6 (.mov (.con (.bool false)))]) (.seq (.reg [oo 8 (.mov (.tmp 2)), oo 9 (.faddr (.tmp 3) 0), oo 10 (.faddr (.tmp 9) 3), oo 11 (.load none (.tmp 10)), oo 12 (.faddr (.tmp 3) 0), oo 13 (.faddr (.tmp 12) 2), oo 14 (.load none (.tmp 13)), oo 15 (.bin .sub (.tmp 11) (.tmp 14)), oo 16 (.bin .mul (.tmp 8) (.tmp 15)), oo 7 (.mov (.tmp 16))]) (.seq (.reg [oo 17 (.load (some 51) (.tmp 3)), oo 18 (.call (.con (.fn 56 [] [])) [(.tmp 17)]), oo 19 (.mov (.tmp 1)), oo 20 (.bin .leq (.tmp 18) (.tmp 19)), oo 21 (.mov (.tmp 20)), ⟨some 22, .load (some 51) (.tmp 3), some (21, true)⟩, ⟨some 23, .call (.con (.fn 60 [] [])) [(.tmp 22)], some (21, true)⟩, ⟨some 24, .mov (.tmp 7), some (21, true)⟩, ⟨some 25, .bin .leq (.tmp 23) (.tmp 24), some (21, true)⟩, oo 26 (.pick (.tmp 21) (.tmp 25) (.con (.bool false))), oo 27 (.mov (.tmp 26)), ⟨some 28, .load (some 51) (.tmp 3), some (27, true)⟩, ⟨some 29, .call (.con (.fn 61 [] [])) [(.tmp 28)], some (27, true)⟩, ⟨some 30, .mov (.tmp 7), some (27, true)⟩, ⟨some 31, .bin .leq (.tmp 29) (.tmp 30), some (27, true)⟩, oo 32 (.pick (.tmp 27) (.tmp 31) (.con (.bool false))), oo 6 (.mov (.tmp 32))]) .ret)))⟩
theorem comp102 : compFn Try.prog 102 = some F102 := by kernel_rfl
def F103 : AFn := ⟨1, 18, [.tmp 4], (.seq (.reg [oo 4 (.mov (.con (.bool false)))]) (.seq (.reg [oo 5 (.faddr (.tmp 1) 0), oo 6 (.faddr (.tmp 5) 4), oo 7 (.load none (.tmp 6)), oo 8 (.mov (.tmp 0)), oo 9 (.bin .add (.tmp 7) (.tmp 8)), oo 10 (.bin .mul (.con (i6 2)) (.tmp 9)), oo 11 (.faddr (.tmp 1) 0), oo 12 (.faddr (.tmp 11) 1), oo 13 (.load none (.tmp 12)), oo 14 (.bin .sub (.tmp 10) (.tmp 13)), oo 15 (.load none (.tmp 2)), oo 16 (.bin .mul (.con (i6 2)) (.tmp 15)), oo 17 (.bin .geq (.tmp 14) (.tmp 16)), oo 4 (.mov (.tmp 17))]) .ret))⟩
theorem comp103 : compFn Try.prog 103 = some F103 := by kernel_rfl
def entries : List (Entry Try.prog) := [⟨3, F3, comp3⟩, ⟨7, F7, comp7⟩, ⟨8, F8, comp8⟩, ⟨9, F9, comp9⟩, ⟨10, F10, comp10⟩, ⟨11, F11, comp11⟩, ⟨12, F12, comp12⟩, ⟨13, F13, comp13⟩, ⟨14, F14, comp14⟩, ⟨15, F15, comp15⟩, ⟨16, F16, comp16⟩, ⟨17, F17, comp17⟩, ⟨18, F18, comp18⟩, ⟨19, F19, comp19⟩, ⟨20, F20, comp20⟩, ⟨21, F21, comp21⟩, ⟨22, F22, comp22⟩, ⟨25, F25, comp25⟩, ⟨26, F26, comp26⟩, ⟨30, F30, comp30⟩, ⟨32, F32, comp32⟩, ⟨34, F34, comp34⟩, ⟨38, F38, comp38⟩, ⟨40, F40, comp40⟩, ⟨41, F41, comp41⟩, ⟨44, F44, comp44⟩, ⟨45, F45, comp45⟩, ⟨46, F46, comp46⟩, ⟨48, F48, comp48⟩, ⟨49, F49, comp49⟩, ⟨50, F50, comp50⟩, ⟨51, F51, comp51⟩, ⟨52, F52, comp52⟩, ⟨53, F53, comp53⟩, ⟨54, F54, comp54⟩, ⟨55, F55, comp55⟩, ⟨56, F56, comp56⟩, ⟨57, F57, comp57⟩, ⟨58, F58, comp58⟩, ⟨59, F59, comp59⟩, ⟨60, F60, comp60⟩, ⟨61, F61, comp61⟩, ⟨62, F62, comp62⟩, ⟨63, F63, comp63⟩, ⟨64, F64, comp64⟩, ⟨65, F65, comp65⟩, ⟨66, F66, comp66⟩, ⟨67, F67, comp67⟩, ⟨68, F68, comp68⟩, ⟨69, F69, comp69⟩, ⟨70, F70, comp70⟩, ⟨72, F72, comp72⟩, ⟨73, F73, comp73⟩, ⟨76, F76, comp76⟩, ⟨78, F78, comp78⟩, ⟨79, F79, comp79⟩, ⟨80, F80, comp80⟩, ⟨81, F81, comp81⟩, ⟨82, F82, comp82⟩, ⟨84, F84, comp84⟩, ⟨87, F87, comp87⟩, ⟨89, F89, comp89⟩, ⟨90, F90, comp90⟩, ⟨91, F91, comp91⟩, ⟨92, F92, comp92⟩, ⟨93, F93, comp93⟩, ⟨94, F94, comp94⟩, ⟨95, F95, comp95⟩, ⟨96, F96, comp96⟩, ⟨97, F97, comp97⟩, ⟨98, F98, comp98⟩, ⟨99, F99, comp99⟩, ⟨100, F100, comp100⟩, ⟨101, F101, comp101⟩, ⟨102, F102, comp102⟩, ⟨103, F103, comp103⟩]
def tab : FuncId → Option AFn := tabOf entries
theorem tab_ok : ∀ f F, tab f = some F → compFn Try.prog f = some F := tabOf_ok entries
end Go.Proofs.Ytdmfnhamipmmnaa
end
section
namespace Go.Proofs.Ytdmfnhamipmmnaa
open Go.RowKit
set_option linter.unusedVariables false
set_option linter.unusedSimpArgs false
set_option maxRecDepth 10000
set_option maxHeartbeats 4000000
attribute [local simp] cleanL AV.clean cleanI cleanBo cleanSt cleanII re re1 back back1 AV.plain AV.plain1 ren ren1 fadeS fadeV List.idxOf? List.findIdx? List.findIdx?.go
structure T_bk_Drum where
 beat_ : Int
 deriving Inhabited
def C_bk_Drum (x : T_bk_Drum) : List AV := [.int .u64 x.beat_]
attribute [local simp] C_bk_Drum
def A_bk_Drum (x : T_bk_Drum) : AV := .agg (C_bk_Drum x)
attribute [local simp] A_bk_Drum
theorem KC_bk_Drum (x : T_bk_Drum) : cleanL (C_bk_Drum x) = true := by simp
theorem KA_bk_Drum (x : T_bk_Drum) : (A_bk_Drum x).clean = true := KC_bk_Drum x
theorem KL_bk_Drum (l : List T_bk_Drum) : cleanL (l.map A_bk_Drum) = true := cleanM KA_bk_Drum l
attribute [local simp] KL_bk_Drum
theorem KB_bk_Drum (x : T_bk_Drum) (n : Nat) (σ : List Nat) : (C_bk_Drum x).mapM (re n σ) = some (C_bk_Drum x) := by simp
def p_bk_Drum_hit (N : Nat) (d_1 : T_bk_Drum) : Option (Int × T_bk_Drum) := ((some (Int.fdiv (IntKind.u64.wrap ((IntKind.u64.wrap (d_1.beat_ * 15074714826142052245)) + 11400714819323198485)) ((2 : Int) ^ (min (Int.toNat 32) (IntKind.bits .u64))))).bind fun n_2 => ((some (IntKind.u64.wrap (((BitVec.ofInt (IntKind.bits .u64) (IntKind.u64.wrap ((IntKind.u64.wrap (d_1.beat_ * 15074714826142052245)) + 11400714819323198485)) ^^^ BitVec.ofInt (IntKind.bits .u64) n_2).toNat : Nat) : Int))).bind fun n_3 => ((some (Int.fdiv (IntKind.u64.wrap (n_3 * 15760922415973212899)) ((2 : Int) ^ (min (Int.toNat 32) (IntKind.bits .u64))))).bind fun n_4 => ((some (IntKind.u64.wrap (((BitVec.ofInt (IntKind.bits .u64) (IntKind.u64.wrap (n_3 * 15760922415973212899)) ^^^ BitVec.ofInt (IntKind.bits .u64) n_4).toNat : Nat) : Int))).bind fun n_5 => ((some (Int.fdiv (IntKind.u64.wrap (n_5 * 15760922415973212899)) ((2 : Int) ^ (min (Int.toNat 32) (IntKind.bits .u64))))).bind fun n_6 => ((some (IntKind.u64.wrap (((BitVec.ofInt (IntKind.bits .u64) (IntKind.u64.wrap (n_5 * 15760922415973212899)) ^^^ BitVec.ofInt (IntKind.bits .u64) n_6).toNat : Nat) : Int))).bind fun n_7 => some (n_7, (⟨(IntKind.u64.wrap ((IntKind.u64.wrap (d_1.beat_ * 15074714826142052245)) + 11400714819323198485))⟩ : T_bk_Drum))))))))
def v_bk_Drum_hit (r : Int × T_bk_Drum) : AV := .int .u64 r.1
attribute [local simp] v_bk_Drum_hit
theorem b_bk_Drum_hit (r : Int × T_bk_Drum) (n n2 m : Nat) : back n n2 m (v_bk_Drum_hit r) = some (v_bk_Drum_hit r) := by simp
theorem d_bk_Drum_hit (N : Nat) (d_1 : T_bk_Drum) (r : Int × T_bk_Drum) (h : p_bk_Drum_hit N d_1 = some r) : Does Try.prog 54 [.ptr 0 0] [(C_bk_Drum d_1)] fun v c => v = v_bk_Drum_hit r ∧ c = [(C_bk_Drum r.2)] := by
 unfold p_bk_Drum_hit at h
 refine Does.ofL comp54 _ _ rfl rfl ?_
 refine Ex.seq (rg 1 [0] (mkS 31 [(0, .ptr 0 0)]) ⟨[(C_bk_Drum d_1)], []⟩ ?_)
 refine Ex.seq (rg 10 [0] (mkS 31 [(0, .ptr 0 0)]) ⟨[[.int .u64 (IntKind.u64.wrap ((IntKind.u64.wrap (d_1.beat_ * 15074714826142052245)) + 11400714819323198485))]], []⟩ ?_)
 refine Ex.seq (rg 5 [3] (mkS 31 [(3, .int .u64 (IntKind.u64.wrap ((IntKind.u64.wrap (d_1.beat_ * 15074714826142052245)) + 11400714819323198485)))]) ⟨[[.int .u64 (IntKind.u64.wrap ((IntKind.u64.wrap (d_1.beat_ * 15074714826142052245)) + 11400714819323198485))]], []⟩ ?_)
 refine Ex.seq ?_
 obtain ⟨n_2, hn_2, h⟩ := bE h
 obtain ⟨n_3, hn_3, h⟩ := bE h
 refine regH 6 [(2, .eq (.int .u64 n_2)), (3, .eq (.int .u64 n_3))] [3] [AV.int .u64 (Int.fdiv (IntKind.u64.wrap ((IntKind.u64.wrap (d_1.beat_ * 15074714826142052245)) + 11400714819323198485)) ((2 : Int) ^ (min (Int.toNat 32) (IntKind.bits .u64)))) = AV.int .u64 n_2, AV.int .u64 (IntKind.u64.wrap (((BitVec.ofInt (IntKind.bits .u64) (IntKind.u64.wrap ((IntKind.u64.wrap (d_1.beat_ * 15074714826142052245)) + 11400714819323198485)) ^^^ BitVec.ofInt (IntKind.bits .u64) n_2).toNat : Nat) : Int)) = AV.int .u64 n_3] (mkS 31 [(3, .int .u64 (IntKind.u64.wrap (n_3 * 15760922415973212899)))]) (⟨[[.int .u64 (IntKind.u64.wrap ((IntKind.u64.wrap (d_1.beat_ * 15074714826142052245)) + 11400714819323198485))]], []⟩) (by kernel_rfl) ⟨congrArg (AV.int .u64) (Option.some.inj hn_2), congrArg (AV.int .u64) (Option.some.inj hn_3), trivial⟩ rfl ?_
 refine Ex.seq ?_
 obtain ⟨n_4, hn_4, h⟩ := bE h
 obtain ⟨n_5, hn_5, h⟩ := bE h
 refine regH 6 [(2, .eq (.int .u64 n_4)), (3, .eq (.int .u64 n_5))] [3] [AV.int .u64 (Int.fdiv (IntKind.u64.wrap (n_3 * 15760922415973212899)) ((2 : Int) ^ (min (Int.toNat 32) (IntKind.bits .u64)))) = AV.int .u64 n_4, AV.int .u64 (IntKind.u64.wrap (((BitVec.ofInt (IntKind.bits .u64) (IntKind.u64.wrap (n_3 * 15760922415973212899)) ^^^ BitVec.ofInt (IntKind.bits .u64) n_4).toNat : Nat) : Int)) = AV.int .u64 n_5] (mkS 31 [(3, .int .u64 (IntKind.u64.wrap (n_5 * 15760922415973212899)))]) (⟨[[.int .u64 (IntKind.u64.wrap ((IntKind.u64.wrap (d_1.beat_ * 15074714826142052245)) + 11400714819323198485))]], []⟩) (by kernel_rfl) ⟨congrArg (AV.int .u64) (Option.some.inj hn_4), congrArg (AV.int .u64) (Option.some.inj hn_5), trivial⟩ rfl ?_
 refine Ex.seq ?_
 obtain ⟨n_6, hn_6, h⟩ := bE h
 obtain ⟨n_7, hn_7, h⟩ := bE h
 refine regH 5 [(2, .eq (.int .u64 n_6)), (3, .eq (.int .u64 n_7))] [2] [AV.int .u64 (Int.fdiv (IntKind.u64.wrap (n_5 * 15760922415973212899)) ((2 : Int) ^ (min (Int.toNat 32) (IntKind.bits .u64)))) = AV.int .u64 n_6, AV.int .u64 (IntKind.u64.wrap (((BitVec.ofInt (IntKind.bits .u64) (IntKind.u64.wrap (n_5 * 15760922415973212899)) ^^^ BitVec.ofInt (IntKind.bits .u64) n_6).toNat : Nat) : Int)) = AV.int .u64 n_7] (mkS 31 [(2, .int .u64 n_7)]) (⟨[[.int .u64 (IntKind.u64.wrap ((IntKind.u64.wrap (d_1.beat_ * 15074714826142052245)) + 11400714819323198485))]], []⟩) (by kernel_rfl) ⟨congrArg (AV.int .u64) (Option.some.inj hn_6), congrArg (AV.int .u64) (Option.some.inj hn_7), trivial⟩ rfl ?_
 refine Ex.ret ?_
 obtain rfl := sJ h
 exact rt (.int .u64 n_7)
def p_bk_DrumOf (N : Nat) (nums_1 : (List Int)) : Option (T_bk_Drum) := (letJ (fun (b_2 : Int) => some (⟨b_2⟩ : T_bk_Drum)) (fun k_3 => (loop2 (fun rec_8 (i_6 : Int) (b_7 : Int) => (bif (decide (i_6 < ((nums_1.length : Nat) : Int))) then ((getI nums_1 i_6).bind fun x_12 => ((some (IntKind.u64.wrap (((BitVec.ofInt (IntKind.bits .u64) b_7 ^^^ BitVec.ofInt (IntKind.bits .u64) (IntKind.u64.wrap x_12)).toNat : Nat) : Int))).bind fun n_13 => ((p_bk_Drum_hit N (⟨n_13⟩ : T_bk_Drum)).bind fun r_14 => (rec_8 (IntKind.i64.wrap (i_6 + 1)) r_14.2.beat_)))) else (k_3 b_7))) N 0 2685821657736338717)))
def v_bk_DrumOf (r : T_bk_Drum) : AV := .ptr 0 0
theorem a_bk_DrumOf (nums_1 : (List Int)) : [.sl (nums_1.map (AV.int .i64)) none].mapM (ren []) = some [.sl (nums_1.map (AV.int .i64)) none] := by simp
theorem d_bk_DrumOf (N : Nat) (nums_1 : (List Int)) (r : T_bk_Drum) (h : p_bk_DrumOf N nums_1 = some r) : Does Try.prog 9 [.sl (nums_1.map (AV.int .i64)) none] [] fun v c => v = v_bk_DrumOf r ∧ c = [(C_bk_Drum r)] := by
 unfold p_bk_DrumOf at h
 refine Does.ofP comp9 _ _ rfl rfl ?_
 refine Ex.seq (rg 1 [0] (mkS 29 [(0, .sl (nums_1.map (AV.int .i64)) none)]) ⟨[], []⟩ ?_)
 refine Ex.seq (rg 3 [0, 3] (mkS 29 [(0, .sl (nums_1.map (AV.int .i64)) none), (3, .ptr 0 0)]) ⟨[[.int .u64 2685821657736338717]], []⟩ ?_)
 refine Ex.seq (Ex.seq ?_)
 refine rg 1 [0, 3, 4] (mkS 29 [(0, .sl (nums_1.map (AV.int .i64)) none), (3, .ptr 0 0), (4, i6 0)]) ⟨[[.int .u64 2685821657736338717]], []⟩ ?_
 obtain ⟨K_4, hK_5, h⟩ := letE h
 refine Ex.blockJ (fun a S => ∃ (b_2 : Int), K_4 b_2 = some r ∧ a = mkS 29 [(3, .ptr 0 0)] ∧ S = ⟨[[.int .u64 b_2]], []⟩) ?_ ?_
 ·obtain ⟨B_9, hB_10, h⟩ := loop2I h
  refine Ex.loopF (fun k a S => ∃ (i_6 : Int), ∃ (b_7 : Int), loop2 B_9 k i_6 b_7 = some r ∧ a = mkS 29 [(0, .sl (nums_1.map (AV.int .i64)) none), (3, .ptr 0 0), (4, i6 i_6)] ∧ S = ⟨[[.int .u64 b_7]], []⟩) N ⟨_, _, Forgets.refl _ _ _, 0, 2685821657736338717, h, rfl, rfl⟩ ?_
  rintro k a S ⟨i_6, b_7, h, rfl, rfl⟩
  cases k with
  | zero => exact (loop2Z h).elim
  | succ k =>
   replace h := loop2S h hB_10
   refine Ex.seq (Ex.seq ?_)
   refine regH 4 [(2, .eq (i6 ((nums_1.length : Nat) : Int)))] [0, 3, 4, 10] [AV.int .i64 (((nums_1.map (AV.int .i64)).length : Nat) : Int) = AV.int .i64 ((nums_1.length : Nat) : Int)] (mkS 29 [(0, .sl (nums_1.map (AV.int .i64)) none), (3, .ptr 0 0), (4, i6 i_6), (10, .bool (decide (i_6 < ((nums_1.length : Nat) : Int))))]) (⟨[[.int .u64 b_7]], []⟩) (by kernel_rfl) ⟨lenM _ _, trivial⟩ rfl ?_
   rcases condI h with ⟨hc_11, h⟩ | ⟨hc_11, h⟩
   ·refine Ex.condT _ rfl hc_11 ?_
    refine Ex.skip ?_
    refine Ex.seq ?_
    refine Ex.blockK ?_
    refine Ex.seq ?_
    obtain ⟨x_12, hx_12, h⟩ := bE h
    obtain ⟨n_13, hn_13, h⟩ := bE h
    refine Ex.drawE (a1 := mkS 29 [(0, .sl (nums_1.map (AV.int .i64)) none), (3, .ptr 0 0), (4, i6 i_6), (10, .bool (decide (i_6 < ((nums_1.length : Nat) : Int)))), (13, .ptr 0 0), (14, .ptr 0 0), (15, .ptr 0 0), (16, .ptr 0 0), (17, .int .u64 b_7), (18, .sl (nums_1.map (AV.int .i64)) none), (19, i6 i_6), (20, .rop [i6 x_12]), (21, i6 x_12), (22, .int .u64 (IntKind.u64.wrap x_12)), (23, .int .u64 n_13)]) (noClr_ok _) [] [] [] ?_ ?_
    ·refine drS [0] 11 [(7, .rop [i6 x_12]), (10, .eq (.int .u64 n_13))] [LGet (nums_1.map (AV.int .i64)) i_6 1 [i6 x_12], AV.int .u64 (IntKind.u64.wrap (((BitVec.ofInt (IntKind.bits .u64) b_7 ^^^ BitVec.ofInt (IntKind.bits .u64) (IntKind.u64.wrap x_12)).toNat : Nat) : Int)) = AV.int .u64 n_13] (mkS 29 [(0, .sl (nums_1.map (AV.int .i64)) none), (3, .ptr 0 0), (4, i6 i_6), (10, .bool (decide (i_6 < ((nums_1.length : Nat) : Int)))), (13, .ptr 0 0), (14, .ptr 0 0), (15, .ptr 0 0), (16, .ptr 0 0), (17, .int .u64 b_7), (18, .sl (nums_1.map (AV.int .i64)) none), (19, i6 i_6), (20, .rop [i6 x_12]), (21, i6 x_12), (22, .int .u64 (IntKind.u64.wrap x_12)), (23, .int .u64 n_13)]) (by simp) (by kernel_rfl) ⟨LGet.of hx_12 rfl, congrArg (AV.int .u64) (Option.some.inj hn_13), trivial⟩ (by kernel_rfl) ?_
     exact DrO.nil rfl
    ·dsimp only [List.getLastD_cons, List.getLastD_nil]
     refine rn 3 [0, 3, 4] (mkS 29 [(0, .sl (nums_1.map (AV.int .i64)) none), (3, .ptr 0 0), (4, i6 i_6)]) ⟨[[.int .u64 n_13]], []⟩ ?_
     refine ExO.nil ?_
     obtain ⟨r_14, hr_14, h⟩ := bE h
     refine Ex.reg (rn 1 [0, 3, 4, 26] (mkS 29 [(0, .sl (nums_1.map (AV.int .i64)) none), (3, .ptr 0 0), (4, i6 i_6), (26, .ptr 0 0)]) ⟨[[.int .u64 n_13]], []⟩ ?_)
     refine ExO.callL [0] [.ptr 0 0] rfl rfl (by simp; try rfl) rfl (by simp) (d_bk_Drum_hit N (⟨n_13⟩ : T_bk_Drum) r_14 hr_14) (b_bk_Drum_hit _ _ _ _) (by simp) ?_
     refine rn 0 [0, 3, 4] (mkS 29 [(0, .sl (nums_1.map (AV.int .i64)) none), (3, .ptr 0 0), (4, i6 i_6)]) ⟨[(C_bk_Drum r_14.2)], []⟩ ?_
     refine ExO.nil ?_
     refine rg 3 [0, 3, 4] (mkS 29 [(0, .sl (nums_1.map (AV.int .i64)) none), (3, .ptr 0 0), (4, i6 (IntKind.i64.wrap (i_6 + 1)))]) ⟨[(C_bk_Drum r_14.2)], []⟩ ?_
     dsimp only
     exact ⟨_, _, Forgets.refl _ _ _, k, Nat.lt_succ_self k, (IntKind.i64.wrap (i_6 + 1)), r_14.2.beat_, h, rfl, rfl⟩
   ·refine Ex.condF _ rfl hc_11 ?_
    refine Ex.exit ?_
    (try simp only [reduceCtorEq, AEx.ex.injEq, Nat.reduceEqDiff, if_true, if_false])
    exact ⟨_, _, forgetK [3], b_7, h, rfl, rfl⟩
 ·rintro a S ⟨b_2, h, rfl, rfl⟩
  subst hK_5
  refine Ex.seq (rg 2 [2] (mkS 29 [(2, .ptr 0 0)]) ⟨[[.int .u64 b_2]], []⟩ ?_)
  refine Ex.ret ?_
  obtain rfl := sJ h
  exact ⟨.inr rfl, .ptr 0 0, by kernel_rfl, by kernel_rfl, by kernel_rfl, [], by kernel_rfl⟩
def p_bk_Drum_Roll (N : Nat) (d_1 : T_bk_Drum) (n_2 : Int) : Option (Int × T_bk_Drum) := (bif (decide (n_2 < 2)) then some (0, d_1) else ((p_bk_Drum_hit N d_1).bind fun r_4 => ((nzI (IntKind.u64.wrap n_2)).bind fun u_5 => some ((IntKind.i64.wrap (Int.tmod (Int.fdiv r_4.1 ((2 : Int) ^ (min (Int.toNat 1) (IntKind.bits .u64)))) (IntKind.u64.wrap n_2))), r_4.2))))
def v_bk_Drum_Roll (r : Int × T_bk_Drum) : AV := i6 r.1
attribute [local simp] v_bk_Drum_Roll
theorem b_bk_Drum_Roll (r : Int × T_bk_Drum) (n n2 m : Nat) : back n n2 m (v_bk_Drum_Roll r) = some (v_bk_Drum_Roll r) := by simp
theorem d_bk_Drum_Roll (N : Nat) (d_1 : T_bk_Drum) (n_2 : Int) (r : Int × T_bk_Drum) (h : p_bk_Drum_Roll N d_1 n_2 = some r) : Does Try.prog 52 [.ptr 0 0, i6 n_2] [(C_bk_Drum d_1)] fun v c => v = v_bk_Drum_Roll r ∧ c = [(C_bk_Drum r.2)] := by
 unfold p_bk_Drum_Roll at h
 refine Does.ofL comp52 _ _ rfl rfl ?_
 refine Ex.seq (rg 1 [0, 1] (mkS 14 [(0, .ptr 0 0), (1, i6 n_2)]) ⟨[(C_bk_Drum d_1)], []⟩ ?_)
 refine Ex.seq (Ex.seq ?_)
 refine rg 2 [0, 1, 6] (mkS 14 [(0, .ptr 0 0), (1, i6 n_2), (6, .bool (decide (n_2 < 2)))]) ⟨[(C_bk_Drum d_1)], []⟩ ?_
 rcases condI h with ⟨hc_3, h⟩ | ⟨hc_3, h⟩
 ·refine Ex.condT _ rfl hc_3 ?_
  refine Ex.seq (rg 1 [4] (mkS 14 [(4, i6 0)]) ⟨[(C_bk_Drum d_1)], []⟩ ?_)
  refine Ex.ret ?_
  obtain rfl := sJ h
  exact rt (i6 0)
 ·refine Ex.condF _ rfl hc_3 ?_
  refine Ex.skip ?_
  refine Ex.seq ?_
  obtain ⟨r_4, hr_4, h⟩ := bE h
  refine Ex.reg (rn 1 [1, 7] (mkS 14 [(1, i6 n_2), (7, .ptr 0 0)]) ⟨[(C_bk_Drum d_1)], []⟩ ?_)
  refine ExO.callL [0] [.ptr 0 0] rfl rfl (by simp; try rfl) rfl (by simp) (d_bk_Drum_hit N d_1 r_4 hr_4) (b_bk_Drum_hit _ _ _ _) (by simp) ?_
  obtain ⟨u_5, hu_5, h⟩ := bE h
  refine runH 6 [(3, .bin (.int .u64 (Int.tmod (Int.fdiv r_4.1 ((2 : Int) ^ (min (Int.toNat 1) (IntKind.bits .u64)))) (IntKind.u64.wrap n_2))))] [4] [binA .rem (.int .u64 (Int.fdiv r_4.1 ((2 : Int) ^ (min (Int.toNat 1) (IntKind.bits .u64))))) (.int .u64 (IntKind.u64.wrap n_2)) = some (.int .u64 (Int.tmod (Int.fdiv r_4.1 ((2 : Int) ^ (min (Int.toNat 1) (IntKind.bits .u64)))) (IntKind.u64.wrap n_2)))] (mkS 14 [(4, i6 (IntKind.i64.wrap (Int.tmod (Int.fdiv r_4.1 ((2 : Int) ^ (min (Int.toNat 1) (IntKind.bits .u64)))) (IntKind.u64.wrap n_2))))]) (⟨[(C_bk_Drum r_4.2)], []⟩) (by kernel_rfl) ⟨binR hu_5, trivial⟩ ?_
  refine ExO.nil ?_
  refine Ex.ret ?_
  obtain rfl := sJ h
  exact rt (i6 (IntKind.i64.wrap (Int.tmod (Int.fdiv r_4.1 ((2 : Int) ^ (min (Int.toNat 1) (IntKind.bits .u64)))) (IntKind.u64.wrap n_2))))
def p_bk_Drum_Mid (N : Nat) (d_1 : T_bk_Drum) (low_2 : Int) (high_3 : Int) : Option (Int × T_bk_Drum) := ((p_bk_Drum_Roll N d_1 (IntKind.i64.wrap ((IntKind.i64.wrap (high_3 - low_2)) + 1))).bind fun r_4 => some ((IntKind.i64.wrap (low_2 + r_4.1)), r_4.2))
def v_bk_Drum_Mid (r : Int × T_bk_Drum) : AV := i6 r.1
attribute [local simp] v_bk_Drum_Mid
theorem b_bk_Drum_Mid (r : Int × T_bk_Drum) (n n2 m : Nat) : back n n2 m (v_bk_Drum_Mid r) = some (v_bk_Drum_Mid r) := by simp
theorem d_bk_Drum_Mid (N : Nat) (d_1 : T_bk_Drum) (low_2 : Int) (high_3 : Int) (r : Int × T_bk_Drum) (h : p_bk_Drum_Mid N d_1 low_2 high_3 = some r) : Does Try.prog 25 [.ptr 0 0, i6 low_2, i6 high_3] [(C_bk_Drum d_1)] fun v c => v = v_bk_Drum_Mid r ∧ c = [(C_bk_Drum r.2)] := by
 unfold p_bk_Drum_Mid at h
 refine Does.ofL comp25 _ _ rfl rfl ?_
 refine Ex.seq (rg 1 [0, 1, 2] (mkS 15 [(0, .ptr 0 0), (1, i6 low_2), (2, i6 high_3)]) ⟨[(C_bk_Drum d_1)], []⟩ ?_)
 refine Ex.seq ?_
 obtain ⟨r_4, hr_4, h⟩ := bE h
 refine Ex.reg (rn 6 [7, 8, 12] (mkS 15 [(7, i6 low_2), (8, .ptr 0 0), (12, i6 (IntKind.i64.wrap ((IntKind.i64.wrap (high_3 - low_2)) + 1)))]) ⟨[(C_bk_Drum d_1)], []⟩ ?_)
 refine ExO.callL [0] [.ptr 0 0, i6 (IntKind.i64.wrap ((IntKind.i64.wrap (high_3 - low_2)) + 1))] rfl rfl (by simp; try rfl) rfl (by simp) (d_bk_Drum_Roll N d_1 (IntKind.i64.wrap ((IntKind.i64.wrap (high_3 - low_2)) + 1)) r_4 hr_4) (b_bk_Drum_Roll _ _ _ _) (by simp) ?_
 refine rn 2 [6] (mkS 15 [(6, i6 (IntKind.i64.wrap (low_2 + r_4.1)))]) ⟨[(C_bk_Drum r_4.2)], []⟩ ?_
 refine ExO.nil ?_
 refine Ex.ret ?_
 obtain rfl := sJ h
 exact rt (i6 (IntKind.i64.wrap (low_2 + r_4.1)))
def p_bk_Drum_Any (N : Nat) (d_1 : T_bk_Drum) (l_2 : (List Int)) : Option (Int × T_bk_Drum) := (bif (((l_2.length : Nat) : Int) == 0) then some (0, d_1) else ((p_bk_Drum_Roll N d_1 ((l_2.length : Nat) : Int)).bind fun r_4 => ((getI l_2 r_4.1).bind fun x_5 => some (x_5, r_4.2))))
def v_bk_Drum_Any (r : Int × T_bk_Drum) : AV := i6 r.1
attribute [local simp] v_bk_Drum_Any
theorem b_bk_Drum_Any (r : Int × T_bk_Drum) (n n2 m : Nat) : back n n2 m (v_bk_Drum_Any r) = some (v_bk_Drum_Any r) := by simp
theorem d_bk_Drum_Any (N : Nat) (d_1 : T_bk_Drum) (l_2 : (List Int)) (r : Int × T_bk_Drum) (h : p_bk_Drum_Any N d_1 l_2 = some r) : Does Try.prog 51 [.ptr 0 0, .sl (l_2.map (AV.int .i64)) none] [(C_bk_Drum d_1)] fun v c => v = v_bk_Drum_Any r ∧ c = [(C_bk_Drum r.2)] := by
 unfold p_bk_Drum_Any at h
 refine Does.ofL comp51 _ _ rfl rfl ?_
 refine Ex.seq (rg 1 [0, 1] (mkS 15 [(0, .ptr 0 0), (1, .sl (l_2.map (AV.int .i64)) none)]) ⟨[(C_bk_Drum d_1)], []⟩ ?_)
 refine Ex.seq (Ex.seq ?_)
 refine regH 3 [(1, .eq (i6 ((l_2.length : Nat) : Int)))] [0, 1, 7] [AV.int .i64 (((l_2.map (AV.int .i64)).length : Nat) : Int) = AV.int .i64 ((l_2.length : Nat) : Int)] (mkS 15 [(0, .ptr 0 0), (1, .sl (l_2.map (AV.int .i64)) none), (7, .bool (((l_2.length : Nat) : Int) == 0))]) (⟨[(C_bk_Drum d_1)], []⟩) (by kernel_rfl) ⟨lenM _ _, trivial⟩ rfl ?_
 rcases condI h with ⟨hc_3, h⟩ | ⟨hc_3, h⟩
 ·refine Ex.condT _ rfl hc_3 ?_
  refine Ex.seq (rg 1 [4] (mkS 15 [(4, i6 0)]) ⟨[(C_bk_Drum d_1)], []⟩ ?_)
  refine Ex.ret ?_
  obtain rfl := sJ h
  exact rt (i6 0)
 ·refine Ex.condF _ rfl hc_3 ?_
  refine Ex.skip ?_
  refine Ex.seq ?_
  obtain ⟨r_4, hr_4, h⟩ := bE h
  refine Ex.reg ?_
  refine runH 4 [(3, .eq (i6 ((l_2.length : Nat) : Int)))] [8, 9, 11] [AV.int .i64 (((l_2.map (AV.int .i64)).length : Nat) : Int) = AV.int .i64 ((l_2.length : Nat) : Int)] (mkS 15 [(8, .sl (l_2.map (AV.int .i64)) none), (9, .ptr 0 0), (11, i6 ((l_2.length : Nat) : Int))]) (⟨[(C_bk_Drum d_1)], []⟩) (by kernel_rfl) ⟨lenM _ _, trivial⟩ ?_
  refine ExO.callL [0] [.ptr 0 0, i6 ((l_2.length : Nat) : Int)] rfl rfl (by simp; try rfl) rfl (by simp) (d_bk_Drum_Roll N d_1 ((l_2.length : Nat) : Int) r_4 hr_4) (b_bk_Drum_Roll _ _ _ _) (by simp) ?_
  obtain ⟨x_5, hx_5, h⟩ := bE h
  refine runH 3 [(0, .rop [i6 x_5])] [4] [LGet (l_2.map (AV.int .i64)) r_4.1 1 [i6 x_5]] (mkS 15 [(4, i6 x_5)]) (⟨[(C_bk_Drum r_4.2)], []⟩) (by kernel_rfl) ⟨LGet.of hx_5 rfl, trivial⟩ ?_
  refine ExO.nil ?_
  refine Ex.ret ?_
  obtain rfl := sJ h
  exact rt (i6 x_5)
structure T_Span where
 Lo : Int
 Hi : Int
 deriving Inhabited
def C_Span (x : T_Span) : List AV := [i6 x.Lo, i6 x.Hi]
attribute [local simp] C_Span
def A_Span (x : T_Span) : AV := .agg (C_Span x)
attribute [local simp] A_Span
theorem KC_Span (x : T_Span) : cleanL (C_Span x) = true := by simp
theorem KA_Span (x : T_Span) : (A_Span x).clean = true := KC_Span x
theorem KL_Span (l : List T_Span) : cleanL (l.map A_Span) = true := cleanM KA_Span l
attribute [local simp] KL_Span
theorem KB_Span (x : T_Span) (n : Nat) (σ : List Nat) : (C_Span x).mapM (re n σ) = some (C_Span x) := by simp
def p_bk_Drum_Span (N : Nat) (d_1 : T_bk_Drum) (low_2 : Int) (high_3 : Int) : Option (T_Span × T_bk_Drum) := ((p_bk_Drum_Mid N d_1 low_2 high_3).bind fun r_4 => ((p_bk_Drum_Roll N r_4.2 3).bind fun r_5 => (bif (r_5.1 == 0) then some ((⟨r_4.1, r_4.1⟩ : T_Span), r_5.2) else (bif (r_5.1 == 1) then ((p_bk_Drum_Mid N r_5.2 r_4.1 (if (IntKind.i64.wrap (r_4.1 + 3)) < high_3 then (IntKind.i64.wrap (r_4.1 + 3)) else high_3)).bind fun r_8 => some ((⟨r_4.1, r_8.1⟩ : T_Span), r_8.2)) else ((p_bk_Drum_Mid N r_5.2 r_4.1 high_3).bind fun r_9 => some ((⟨r_4.1, r_9.1⟩ : T_Span), r_9.2))))))
def v_bk_Drum_Span (r : T_Span × T_bk_Drum) : AV := (A_Span r.1)
attribute [local simp] v_bk_Drum_Span
theorem b_bk_Drum_Span (r : T_Span × T_bk_Drum) (n n2 m : Nat) : back n n2 m (v_bk_Drum_Span r) = some (v_bk_Drum_Span r) := by simp
theorem d_bk_Drum_Span (N : Nat) (d_1 : T_bk_Drum) (low_2 : Int) (high_3 : Int) (r : T_Span × T_bk_Drum) (h : p_bk_Drum_Span N d_1 low_2 high_3 = some r) : Does Try.prog 53 [.ptr 0 0, i6 low_2, i6 high_3] [(C_bk_Drum d_1)] fun v c => v = v_bk_Drum_Span r ∧ c = [(C_bk_Drum r.2)] := by
 unfold p_bk_Drum_Span at h
 refine Does.ofL comp53 _ _ rfl rfl ?_
 refine Ex.seq (rg 1 [0, 1, 2, 6] (mkS 36 [(0, .ptr 0 0), (1, i6 low_2), (2, i6 high_3), (6, .ptr 1 0)]) ⟨[(C_bk_Drum d_1), [i6 0, i6 0]], []⟩ ?_)
 refine Ex.seq ?_
 obtain ⟨r_4, hr_4, h⟩ := bE h
 refine Ex.reg (rn 3 [0, 2, 6, 8, 9, 10] (mkS 36 [(0, .ptr 0 0), (2, i6 high_3), (6, .ptr 1 0), (8, .ptr 0 0), (9, i6 low_2), (10, i6 high_3)]) ⟨[(C_bk_Drum d_1), [i6 0, i6 0]], []⟩ ?_)
 refine ExO.callL [0] [.ptr 0 0, i6 low_2, i6 high_3] rfl rfl (by simp; try rfl) rfl (by simp) (d_bk_Drum_Mid N d_1 low_2 high_3 r_4 hr_4) (b_bk_Drum_Mid _ _ _ _) (by simp) ?_
 refine rn 1 [0, 2, 6, 7] (mkS 36 [(0, .ptr 0 0), (2, i6 high_3), (6, .ptr 1 0), (7, i6 r_4.1)]) ⟨[(C_bk_Drum r_4.2), [i6 0, i6 0]], []⟩ ?_
 refine ExO.nil ?_
 refine Ex.seq (Ex.seq ?_)
 obtain ⟨r_5, hr_5, h⟩ := bE h
 refine Ex.reg (rn 1 [0, 2, 6, 7, 12] (mkS 36 [(0, .ptr 0 0), (2, i6 high_3), (6, .ptr 1 0), (7, i6 r_4.1), (12, .ptr 0 0)]) ⟨[(C_bk_Drum r_4.2), [i6 0, i6 0]], []⟩ ?_)
 refine ExO.callL [0] [.ptr 0 0, i6 3] rfl rfl (by simp; try rfl) rfl (by simp) (d_bk_Drum_Roll N r_4.2 3 r_5 hr_5) (b_bk_Drum_Roll _ _ _ _) (by simp) ?_
 refine rn 0 [0, 2, 6, 7, 13] (mkS 36 [(0, .ptr 0 0), (2, i6 high_3), (6, .ptr 1 0), (7, i6 r_4.1), (13, i6 r_5.1)]) ⟨[(C_bk_Drum r_5.2), [i6 0, i6 0]], []⟩ ?_
 refine ExO.nil ?_
 refine Ex.blockK ?_
 refine Ex.seq (rg 2 [0, 2, 6, 7, 13, 14] (mkS 36 [(0, .ptr 0 0), (2, i6 high_3), (6, .ptr 1 0), (7, i6 r_4.1), (13, i6 r_5.1), (14, .bool (r_5.1 == 0))]) ⟨[(C_bk_Drum r_5.2), [i6 0, i6 0]], []⟩ ?_)
 rcases condI h with ⟨hc_6, h⟩ | ⟨hc_6, h⟩
 ·refine Ex.condT _ rfl hc_6 ?_
  refine Ex.seq (rg 4 [6] (mkS 36 [(6, .ptr 1 0)]) ⟨[(C_bk_Drum r_5.2), [i6 r_4.1, i6 r_4.1]], []⟩ ?_)
  refine Ex.ret ?_
  obtain rfl := sJ h
  exact rt (.agg [i6 r_4.1, i6 r_4.1])
 ·refine Ex.condF _ rfl hc_6 ?_
  refine Ex.seq (rg 2 [0, 2, 6, 7, 19] (mkS 36 [(0, .ptr 0 0), (2, i6 high_3), (6, .ptr 1 0), (7, i6 r_4.1), (19, .bool (r_5.1 == 1))]) ⟨[(C_bk_Drum r_5.2), [i6 0, i6 0]], []⟩ ?_)
  rcases condI h with ⟨hc_7, h⟩ | ⟨hc_7, h⟩
  ·refine Ex.condT _ rfl hc_7 ?_
   refine Ex.seq ?_
   obtain ⟨r_8, hr_8, h⟩ := bE h
   refine Ex.reg (rn 7 [6, 21, 22, 23, 27] (mkS 36 [(6, .ptr 1 0), (21, i6 r_4.1), (22, .ptr 0 0), (23, i6 r_4.1), (27, i6 (if (IntKind.i64.wrap (r_4.1 + 3)) < high_3 then (IntKind.i64.wrap (r_4.1 + 3)) else high_3))]) ⟨[(C_bk_Drum r_5.2), [i6 0, i6 0]], []⟩ ?_)
   refine ExO.callL [0] [.ptr 0 0, i6 r_4.1, i6 (if (IntKind.i64.wrap (r_4.1 + 3)) < high_3 then (IntKind.i64.wrap (r_4.1 + 3)) else high_3)] rfl rfl (by simp; try rfl) rfl (by simp) (d_bk_Drum_Mid N r_5.2 r_4.1 (if (IntKind.i64.wrap (r_4.1 + 3)) < high_3 then (IntKind.i64.wrap (r_4.1 + 3)) else high_3) r_8 hr_8) (b_bk_Drum_Mid _ _ _ _) (by simp) ?_
   refine rn 2 [6] (mkS 36 [(6, .ptr 1 0)]) ⟨[(C_bk_Drum r_8.2), [i6 r_4.1, i6 r_8.1]], []⟩ ?_
   refine ExO.nil ?_
   refine Ex.ret ?_
   obtain rfl := sJ h
   exact rt (.agg [i6 r_4.1, i6 r_8.1])
  ·refine Ex.condF _ rfl hc_7 ?_
   refine Ex.skip ?_
   refine Ex.seq ?_
   obtain ⟨r_9, hr_9, h⟩ := bE h
   refine Ex.reg (rn 4 [6, 30, 31, 32, 33] (mkS 36 [(6, .ptr 1 0), (30, i6 r_4.1), (31, .ptr 0 0), (32, i6 r_4.1), (33, i6 high_3)]) ⟨[(C_bk_Drum r_5.2), [i6 0, i6 0]], []⟩ ?_)
   refine ExO.callL [0] [.ptr 0 0, i6 r_4.1, i6 high_3] rfl rfl (by simp; try rfl) rfl (by simp) (d_bk_Drum_Mid N r_5.2 r_4.1 high_3 r_9 hr_9) (b_bk_Drum_Mid _ _ _ _) (by simp) ?_
   refine rn 2 [6] (mkS 36 [(6, .ptr 1 0)]) ⟨[(C_bk_Drum r_9.2), [i6 r_4.1, i6 r_9.1]], []⟩ ?_
   refine ExO.nil ?_
   refine Ex.ret ?_
   obtain rfl := sJ h
   exact rt (.agg [i6 r_4.1, i6 r_9.1])
def v_bk_Drum_Of (r : Int × T_bk_Drum) : AV := i6 r.1
attribute [local simp] v_bk_Drum_Of
end Go.Proofs.Ytdmfnhamipmmnaa
end
section
namespace Go.Proofs.Ytdmfnhamipmmnaa
open Go.RowKit
set_option linter.unusedVariables false
set_option linter.unusedSimpArgs false
set_option maxRecDepth 10000
set_option maxHeartbeats 4000000

theorem w64 {x : Int} (h0 : -9223372036854775808 ≤ x) (h1 : x < 9223372036854775808) : IntKind.i64.wrap x = x := by
 simp [IntKind.wrap, IntKind.bits, IntKind.signed]
 omega
theorem wu64 (x : Int) : 0 ≤ IntKind.u64.wrap x ∧ IntKind.u64.wrap x < 2 ^ 64 := by
 have e : IntKind.u64.wrap x = x % 2 ^ 64 := rfl
 omega
theorem wu64_id {x : Int} (h0 : 0 ≤ x) (h1 : x < 2 ^ 64) : IntKind.u64.wrap x = x := by
 have e : IntKind.u64.wrap x = x % 2 ^ 64 := rfl
 omega

section
variable {ρ : Type} {A B C : Type}
theorem loop2_T {body : (A → B → Option ρ) → A → B → Option ρ} (T : Option ρ → Prop) (P : A → B → Prop) (μ : A → B → Nat) (h : ∀ rec a b, P a b → (∀ a' b', P a' b' → μ a' b' < μ a b → T (rec a' b')) → T (body rec a b)) : ∀ (N : Nat) (a : A) (b : B), P a b → μ a b < N → T (loop2 body N a b)
 | 0, a, b, _, hm => absurd hm (Nat.not_lt_zero _)
 | n + 1, a, b, hp, hm => h (loop2 body n) a b hp fun a' b' hp' hm' => loop2_T T P μ h n a' b' hp' (by omega)
theorem loop3_T {body : (A → B → C → Option ρ) → A → B → C → Option ρ} (T : Option ρ → Prop) (P : A → B → C → Prop) (μ : A → B → C → Nat) (h : ∀ rec a b c, P a b c → (∀ a' b' c', P a' b' c' → μ a' b' c' < μ a b c → T (rec a' b' c')) → T (body rec a b c)) : ∀ (N : Nat) (a : A) (b : B) (c : C), P a b c → μ a b c < N → T (loop3 body N a b c)
 | 0, a, b, c, _, hm => absurd hm (Nat.not_lt_zero _)
 | n + 1, a, b, c, hp, hm => h (loop3 body n) a b c hp fun a' b' c' hp' hm' => loop3_T T P μ h n a' b' c' hp' (by omega)
end
theorem getI_nat {α : Type} (l : List α) (i : Nat) : getI l (i : Int) = l[i]? := by simp [getI]
theorem getI_lt {α : Type} {l : List α} {i : Int} (h0 : 0 ≤ i) (h1 : i < (l.length : Int)) : ∃ x, getI l i = some x ∧ l[i.toNat]? = some x ∧ x ∈ l := by
 have hlt : i.toNat < l.length := by omega
 refine ⟨l[i.toNat], ?_, List.getElem?_eq_getElem hlt, List.getElem_mem hlt⟩
 simp only [getI, h0, if_true]
 exact List.getElem?_eq_getElem hlt
theorem pushI_ok {α : Type} {l m : List α} (h : l.length + m.length ≤ 65536) : pushI l m = some (l ++ m) := if_pos h
theorem letJ_eq {κ ρ : Type} (K : κ) (f : κ → Option ρ) : letJ K f = f K := rfl

theorem hit_p (N : Nat) (d : T_bk_Drum) : ∃ y d', p_bk_Drum_hit N d = some (y, d') ∧ 0 ≤ y ∧ y < 2 ^ 64 := by
 refine ⟨_, _, rfl, ?_⟩
 exact wu64 _
theorem roll_p (N : Nat) (d : T_bk_Drum) (n : Int) (hn : n < 9223372036854775808) : ∃ r d', p_bk_Drum_Roll N d n = some (r, d') ∧ 0 ≤ r ∧ (n < 2 → r = 0) ∧ (2 ≤ n → r < n) := by
 unfold p_bk_Drum_Roll
 by_cases h2 : n < 2
 ·simp only [h2, decide_true, cond_true]
  exact ⟨0, d, rfl, by omega, fun _ => rfl, fun h => by omega⟩
 ·simp only [h2, decide_false, cond_false]
  obtain ⟨y, d', hy, h0, h1⟩ := hit_p N d
  have hu : IntKind.u64.wrap n = n := wu64_id (by omega) (by omega)
  have hnz : n ≠ 0 := by omega
  rw [hy, hu]
  simp only [Option.bind_some, nzI, hnz, if_false]
  have hsh : Int.fdiv y ((2 : Int) ^ (min (Int.toNat 1) (IntKind.bits .u64))) = y / 2 := by
   have : (2 : Int) ^ (min (Int.toNat 1) (IntKind.bits .u64)) = 2 := rfl
   rw [this, Int.fdiv_eq_ediv_of_nonneg _ (by omega)]
  rw [hsh]
  have hd0 : 0 ≤ y / 2 := by omega
  have hm : Int.tmod (y / 2) n = (y / 2) % n := Int.tmod_eq_emod_of_nonneg hd0
  have hm0 : 0 ≤ (y / 2) % n := Int.emod_nonneg _ hnz
  have hm1 : (y / 2) % n < n := Int.emod_lt_of_pos _ (by omega)
  rw [hm, w64 (x := y / 2 % n) (by omega) (by omega)]
  exact ⟨_, d', rfl, hm0, fun h => False.elim h, fun _ => hm1⟩
theorem any_p (N : Nat) (d : T_bk_Drum) (l : List Int) (hl : l ≠ []) (hlen : l.length < 1000) : ∃ r d', p_bk_Drum_Any N d l = some (r, d') ∧ r ∈ l := by
 unfold p_bk_Drum_Any
 have hpos : 0 < l.length := List.length_pos_iff.2 hl
 have hb : (((l.length : Nat) : Int) == 0) = false := by simp; omega
 rw [hb, cond_false]
 obtain ⟨r, d', h1, h2, h3, h4⟩ := roll_p N d ((l.length : Nat) : Int) (by omega)
 rw [h1]
 simp only [Option.bind_some]
 have hr : r < (l.length : Int) := by
  by_cases h : (l.length : Int) < 2
  ·rw [h3 h]; omega
  ·exact h4 (by omega)
 obtain ⟨x, e1, _, e3⟩ := getI_lt h2 hr
 rw [e1]
 exact ⟨x, d', rfl, e3⟩
theorem mid_p (N : Nat) (d : T_bk_Drum) (lo hi : Int) (h0 : -4611686018427387904 ≤ lo) (h1 : lo ≤ 4611686018427387903) (h2 : -4611686018427387904 ≤ hi) (h3 : hi ≤ 4611686018427387902) : ∃ r d', p_bk_Drum_Mid N d lo hi = some (r, d') ∧ lo ≤ r ∧ (lo ≤ hi → r ≤ hi) ∧ (hi < lo → r = lo) := by
 unfold p_bk_Drum_Mid
 rw [w64 (x := hi - lo) (by omega) (by omega)]
 by_cases hc : hi - lo + 1 < 9223372036854775808
 ·rw [w64 (x := hi - lo + 1) (by omega) hc]
  obtain ⟨r, d', e1, e2, e3, e4⟩ := roll_p N d (hi - lo + 1) hc
  rw [e1]
  simp only [Option.bind_some]
  have hr : r ≤ hi - lo ∨ r = 0 := by
   by_cases h : hi - lo + 1 < 2
   ·exact .inr (e3 h)
   ·have := e4 (by omega); exact .inl (by omega)
  rw [w64 (by omega) (by omega)]
  exact ⟨_, d', rfl, by omega, fun h => by omega, fun h => by
   have := e3 (by omega)
   omega⟩
 ·omega
theorem span_a (N : Nat) (d : T_bk_Drum) (n hi : Int) (h0 : 0 ≤ n) (h : n ≤ hi) (h1 : hi ≤ 4611686018427387902) : ∃ x d', ((p_bk_Drum_Mid N d n hi).bind fun r_9 => some ((⟨n, r_9.1⟩ : T_Span), r_9.2)) = some (x, d') ∧ x.Lo = n ∧ n ≤ x.Hi ∧ x.Hi ≤ hi := by
 obtain ⟨m, d3, j1, j2, j3, _⟩ := mid_p N d n hi (by omega) (by omega) (by omega) h1
 rw [j1]
 exact ⟨⟨n, m⟩, d3, rfl, rfl, j2, j3 h⟩
theorem span_p (N : Nat) (d : T_bk_Drum) (lo hi : Int) (h0 : 0 ≤ lo) (h : lo ≤ hi) (h1 : hi ≤ 4611686018427387902) : ∃ x d', p_bk_Drum_Span N d lo hi = some (x, d') ∧ lo ≤ x.Lo ∧ x.Lo ≤ x.Hi ∧ x.Hi ≤ hi := by
 obtain ⟨n, d1, e1, e2, e3, _⟩ := mid_p N d lo hi (by omega) (by omega) (by omega) h1
 have e3 := e3 h
 obtain ⟨r, d2, g1, _, _, _⟩ := roll_p N d1 3 (by omega)
 unfold p_bk_Drum_Span
 rw [e1, Option.bind_some, g1, Option.bind_some]
 show ∃ x d', (bif (r == 0) then _ else (bif (r == 1) then _ else _)) = some (x, d') ∧ _
 cases (r == 0)
 ·cases (r == 1)
  ·obtain ⟨x, d', k1, k2, k3, k4⟩ := span_a N d2 n hi (by omega) e3 h1
   exact ⟨x, d', k1, by omega, by omega, k4⟩
  ·show ∃ x d', ((p_bk_Drum_Mid N d2 n (if IntKind.i64.wrap (n + 3) < hi then IntKind.i64.wrap (n + 3) else hi)).bind _) = some (x, d') ∧ _
   rw [w64 (x := n + 3) (by omega) (by omega)]
   have hm : n ≤ (if n + 3 < hi then n + 3 else hi) ∧ (if n + 3 < hi then n + 3 else hi) ≤ hi := by split <;> omega
   obtain ⟨x, d', k1, k2, k3, k4⟩ := span_a N d2 n _ (by omega) hm.1 (Int.le_trans hm.2 h1)
   exact ⟨x, d', k1, by omega, by omega, Int.le_trans k4 hm.2⟩
 ·exact ⟨⟨n, n⟩, d2, rfl, e2, Int.le_refl _, e3⟩
theorem drumOf_step (N : Nat) (l : List Int) (rec : Int → Int → Option T_bk_Drum) (i q : Int) (h : i < 9223372036854775807) (h0 : 0 ≤ i) (ih : ∀ b', ∃ d, rec (i + 1) b' = some d) : ∃ d, ((p_bk_Drum_hit N (⟨q⟩ : T_bk_Drum)).bind fun r_14 => (rec (IntKind.i64.wrap (i + 1)) r_14.2.beat_)) = some d := by
 obtain ⟨y, d', g1, _, _⟩ := hit_p N ⟨q⟩
 rw [g1, w64 (x := i + 1) (by omega) (by omega)]
 exact ih _
theorem drumOf_p (N : Nat) (l : List Int) (hN : l.length < N) (hl : l.length < 9223372036854775808) : ∃ d, p_bk_DrumOf N l = some d := by
 unfold p_bk_DrumOf
 rw [letJ_eq]
 refine loop2_T (fun x => ∃ d, x = some d) (fun i b => 0 ≤ i ∧ i ≤ (l.length : Int)) (fun i b => l.length - i.toNat) ?_ N 0 _ ⟨by omega, by omega⟩ (by simpa using hN)
 rintro rec i b ⟨h0, h1⟩ ih
 by_cases hc : i < (l.length : Int)
 ·rw [show decide (i < ((l.length : Nat) : Int)) = true from decide_eq_true hc, cond_true]
  obtain ⟨x, e1, _, _⟩ := getI_lt h0 hc
  rw [e1, Option.bind_some, Option.bind_some]
  exact drumOf_step N l rec i _ (by omega) h0 fun b' => ih _ _ ⟨by omega, by omega⟩ (by omega)
 ·rw [show decide (i < ((l.length : Nat) : Int)) = false from decide_eq_false hc, cond_false]
  exact ⟨_, rfl⟩
end Go.Proofs.Ytdmfnhamipmmnaa
end
