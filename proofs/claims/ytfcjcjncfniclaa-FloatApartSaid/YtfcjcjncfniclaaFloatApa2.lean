/- Part 3 of what the law needs: own work, put together. -/
import Derived.Test.YtfcjcjncfniclaaProg
import Derived.KernelRfl
import Derived.Test.YtfcjcjncfniclaaFloatApa1
section
namespace Go.Proofs.Ytfcjcjncfniclaa
open Go.RowKit
set_option linter.unusedVariables false
set_option linter.unusedSimpArgs false

theorem compOp_call {P : Program} {ty : TypeId} {op : Op} {f : AOpd} {args : List AOpd} (h : compOp P ty op = some (.call f args)) : ∃ sf sargs ts, op = .call { callee := .value sf, args := sargs, argTypes := ts } ∧ compOpd sf = some f ∧ compOpds sargs = some args := by
  unfold compOp at h
  split at h
  all_goals first
    | (rename_i sf sargs ts
       simp only [Option.bind_eq_bind, Option.bind_eq_some_iff, Option.pure_def, Option.some.injEq, AOp.call.injEq] at h
       obtain ⟨f', hf, as', has, rfl, rfl⟩ := h
       exact ⟨_, _, _, rfl, hf, has⟩)
    | (exfalso; cases h; done)
    | (exfalso; simp [Option.bind_eq_some_iff] at h; done)
    | skip
  all_goals (exfalso; revert h)
  all_goals (try (simp [Option.bind_eq_some_iff]; done))
  all_goals (repeat (first | (intro h; cases h; done) | split))
  all_goals (try (simp [Option.bind_eq_some_iff]; done))
  all_goals (try (repeat (first | (intro h; cases h; done) | split)))
  all_goals (try (intro h; simp [Option.bind_eq_some_iff] at h; done))
  all_goals (intro h; simp only [Option.bind_eq_bind, Option.bind_eq_some_iff, Option.pure_def, Option.map_eq_some_iff, Option.some.injEq, reduceCtorEq, and_false, exists_false] at h)
  all_goals (repeat' (first | (cases h; done) | (obtain ⟨_, _, h⟩ := h; try simp only [Option.bind_eq_bind, Option.bind_eq_some_iff, Option.pure_def, Option.map_eq_some_iff, Option.some.injEq, reduceCtorEq, and_false, exists_false] at h) | (simp [Option.bind_eq_some_iff] at h; done) | split at h))

theorem VR.inv_yld {G : Gh} {l t : Nat} {u : Value} (h : VR G (.yld l t) u) : u = .func (.yield l) #[] #[] := by cases h; rfl
theorem yield_run {P : Program} {G : Gh} {w : World} {o : Oper} {ρ : Operand → Value} {a : AOpd → AV} {sf : Operand} {sargs : Array Operand} {ts : Array TypeId} {f : AOpd} {args : List AOpd} {l t : Nat} {r : Loop} (ho : o.op = .call { callee := .value sf, args := sargs, argTypes := ts }) (hf : compOpd sf = some f) (ha : compOpds sargs = some args) (h : OpdOk G a ρ) (hv : a f = .yld l t) (hl : w.heap[l]? = some (.loop r)) (hs : r.params.size = args.length) :
    ∃ us : Array Value, (execOp ρ o).run P w = .ok (.round l r.fn ((r.params.zip us).foldl (fun tmps (t, a) => tmps.setIfInBounds t a) r.tmps) r.assign r.body) w ∧ us.size = args.length ∧ ∀ (i : Nat) x u, (args.map a)[i]? = some x → us[i]? = some u → VR G x u := by
  have h1 := h sf f hf
  rw [hv] at h1
  have hu := h1.inv_yld
  have hall := VL.opds ha h
  have hsz : (sargs.map ρ).size = args.length := by rw [hall.1, List.length_map]
  refine ⟨sargs.map ρ, ?_, hsz, hall.2⟩
  have hy := run_yield (P := P) (args := sargs.map ρ) hl (by rw [hsz, hs])
  simp only [execOp, ho, resolve, hu, Deferred.ofValue, invoke]
  simp [hy]

theorem zip_foldl (ps : Array Tmp) (us : Array Value) (t : Array Value) : (ps.zip us).foldl (fun tmps (t, a) => tmps.setIfInBounds t a) t = (ps.toList.zip us.toList).foldl (fun tmps (t, a) => tmps.setIfInBounds t a) t := by
  rw [← Array.foldl_toList, Array.toList_zip]

section rules
variable {c : Cx} {md : Md} {P : Program} {a : List AV} {S : St} {Q : AEx → List AV → St → Prop} {R : List AV → St → Prop}

theorem ExI.yield {L : Lp} {a0 : List AV} {ps : List Nat} {x0 y0 : ACode} (hL : LpOk P c L a0 ps x0 y0) {x : AOper} {l : List AOper} (f : AOpd) (args : List AOpd) (t : Nat) (xs : List AV) (hw : wantedA x.guard a = some true) (ho : x.op = .call f args) (hf : evd a f = .yld L.l t) (hxs : args.map (evd a) = xs) (hps : ps.length = xs.length) (hr : S.lv[L.t]? = some (0, 0)) (hn : c.n ≤ S.bx.length)
    (h : ∀ (ca cb : Cx), ca.n = S.bx.length → cb.n = S.bx.length → ca.m = S.lv.length → cb.m = S.lv.length → (∀ L' a' ps' x' y', LpOk P c L' a' ps' x' y' → L'.l ≠ L.l → LpOk P ca L' a' ps' x' y' ∧ LpOk P cb L' a' ps' x' y') → Fact.bz L ∈ cb.fs →
      Ex ca (.round L.l (md.n - 1)) P x0 (setPs a0 ps xs) S fun z a1 S1 => z = .norm ∧ S1.lv[L.t]? = some (0, 0) ∧
        Ex cb (.round L.l (md.n - 1)) P y0 a1 S1 fun z a2 S2 => match z with
          | .norm => ExI c md P l (putA a x.dst (.bool true)) S2 R
          | .ret => ExI c md P l (putA a x.dst (.bool false)) ⟨S2.bx, S2.lv.set L.t (1, 0)⟩ R
          | .ex i => ExI c md P l (putA a x.dst (.bool false)) ⟨S2.bx, S2.lv.set L.t (i + 2, 0)⟩ R) : ExI c md P (x :: l) a S R := by
  intro E hE ops l0 Q hco hdef hq act w hA
  obtain ⟨o, l', rfl, hx, hl'⟩ := mapM_cons_inv hco
  obtain ⟨h1, h2, _⟩ := compOper_ok hx
  obtain ⟨G, hI, hR, hg, hk, hd⟩ := hA
  have hgr := hg
  subst hE
  obtain ⟨f1, f2, hfs, hfree⟩ := hL.fs
  obtain ⟨G0, n0, m0, hle0, htz, htv⟩ := hL.rel
  have hmem : Fact.lp L ∈ E.c.fs := by rw [hfs]; simp
  have hlp := hd.x _ hmem
  obtain ⟨hnone, k, hk1, hk2⟩ := hlp
  rw [hr] at hk1
  cases hk1
  have hlt : L.t < E.c.m := E.c.hw _ hmem
  have hlk : L.l < E.c.k := E.c.hk _ hmem
  have hab : E.w.heap.size ≤ L.l := E.hW _ hmem
  have hG0 := (hd.x _ hle0).1
  obtain ⟨sf, sargs, ts, hop, hsf, hsa⟩ := compOp_call (ho ▸ h1)
  have hpl : L.r.params.size = args.length := by
    rw [← Array.length_toList, hL.ps, hps, ← hxs, List.length_map]
  have hk2' : w.heap[L.l]? = some (.loop { L.r with state := .ready, pending := none }) := hk2
  obtain ⟨us, hrun, husz, husv⟩ := yield_run (P := P) (w := w) hop hsf hsa hR.opd hf hk2' hpl
  simp only [wpListIn]
  rw [if_pos (wantedA_ok hx hR hw)]
  refine ⟨fun g _ => md.fn g, ?_⟩
  rw [Oper.semAt_eq _ _ _ (hdef o (by simp)), hrun, Oper.uponIn_round]
  refine ⟨fun hdp => md.depth hdp, ?_⟩
  rw [hxs] at husv
  have husl : us.toList.length = xs.length := by rw [Array.length_toList, husz, ← hxs, List.length_map]
  -- the two contexts
  have hwf : ∀ g ∈ E.c.fs, g.wf S.bx.length S.lv.length := fun g hg' => (E.c.hw g hg').mono hn hd.m
  have hdomA : ∀ b B, G.al b = some B → b < S.bx.length := fun b B h => (hI.dal b B h).1
  have hdomT : ∀ t k v, G.tb t k = some v → t < S.lv.length := fun t k v h => by
    obtain ⟨m, s, h1, _⟩ := hI.dtb t k v h
    exact (List.getElem?_eq_some_iff.1 h1).1
  let ca : Cx := ⟨S.bx.length, S.lv.length, w.heap.size, .le G S.bx.length S.lv.length :: .df E.b w.heap.size E.d act.defers :: E.c.fs, fun g hg' => (by
    rcases List.mem_cons.1 hg' with rfl | hg'
    · exact ⟨Nat.le_refl _, Nat.le_refl _⟩
    rcases List.mem_cons.1 hg' with rfl | hg'
    · trivial
    · exact hwf g hg'), fun g hg' => (by
    rcases List.mem_cons.1 hg' with rfl | hg'
    · trivial
    rcases List.mem_cons.1 hg' with rfl | hg'
    · exact Nat.le_refl _
    · exact (E.c.hk g hg').mono hd.k)⟩
  let cb : Cx := ⟨S.bx.length, S.lv.length, w.heap.size, .le G S.bx.length S.lv.length :: .df E.b w.heap.size E.d act.defers :: (f1 ++ .bz L :: f2), fun g hg' => (by
    rcases List.mem_cons.1 hg' with rfl | hg'
    · exact ⟨Nat.le_refl _, Nat.le_refl _⟩
    rcases List.mem_cons.1 hg' with rfl | hg'
    · trivial
    · rcases List.mem_append.1 hg' with hg' | hg'
      · exact hwf g (by rw [hfs]; simp [hg'])
      · rcases List.mem_cons.1 hg' with rfl | hg'
        · exact (show L.t < S.lv.length from hwf (.lp L) hmem)
        · exact hwf g (by rw [hfs]; simp [hg'])), fun g hg' => (by
    rcases List.mem_cons.1 hg' with rfl | hg'
    · trivial
    rcases List.mem_cons.1 hg' with rfl | hg'
    · exact Nat.le_refl _
    · rcases List.mem_append.1 hg' with hg' | hg'
      · exact (E.c.hk g (by rw [hfs]; simp [hg'])).mono hd.k
      · rcases List.mem_cons.1 hg' with rfl | hg'
        · exact Nat.lt_of_lt_of_le hlk hd.k
        · exact (E.c.hk g (by rw [hfs]; simp [hg'])).mono hd.k)⟩
  have hup : ∀ L' a' ps' x' y', LpOk P E.c L' a' ps' x' y' → L'.l ≠ L.l → LpOk P ca L' a' ps' x' y' ∧ LpOk P cb L' a' ps' x' y' := by
    intro L' a' ps' x' y' hL' hne
    obtain ⟨g1, g2, hgs, hgf⟩ := hL'.fs
    obtain ⟨G', n', m', hle', h3, h4⟩ := hL'.rel
    refine ⟨⟨⟨.le G S.bx.length S.lv.length :: .df E.b w.heap.size E.d act.defers :: g1, g2, by show _ :: _ :: E.c.fs = _; rw [hgs]; rfl, fun g hg' => ?_⟩, ⟨G', n', m', List.mem_cons_of_mem _ (List.mem_cons_of_mem _ hle'), h3, h4⟩, hL'.ps, hL'.x, hL'.y⟩, ⟨?_, ⟨G', n', m', ?_, h3, h4⟩, hL'.ps, hL'.x, hL'.y⟩⟩
    · rcases List.mem_cons.1 hg' with rfl | hg'
      · trivial
      rcases List.mem_cons.1 hg' with rfl | hg'
      · trivial
      · exact hgf g hg'
    · -- L' among the others
      have hin : Fact.lp L' ∈ f1 ++ f2 := by
        have : Fact.lp L' ∈ E.c.fs := by rw [hgs]; simp
        rw [hfs] at this
        rcases List.mem_append.1 this with h | h
        · exact List.mem_append_left _ h
        · rcases List.mem_cons.1 h with h | h
          · cases h; exact absurd rfl hne
          · exact List.mem_append_right _ h
      have hfL := hfree _ hin
      have hothers : ∀ g ∈ f1 ++ .bz L :: f2, g ≠ .lp L' → g.free L'.l L'.t := by
        intro g hg' hne'
        have hgE : g = .bz L ∨ g ∈ E.c.fs := by
          rcases List.mem_append.1 hg' with h | h
          · exact .inr (by rw [hfs]; simp [h])
          · rcases List.mem_cons.1 h with h | h
            · exact .inl h
            · exact .inr (by rw [hfs]; simp [h])
        rcases hgE with rfl | hgE
        · exact ⟨fun e => hfL.1 e.symm, fun e => hfL.2 e.symm⟩
        · rw [hgs] at hgE
          rcases List.mem_append.1 hgE with h | h
          · exact hgf g (List.mem_append_left _ h)
          · rcases List.mem_cons.1 h with h | h
            · exact absurd h hne'
            · exact hgf g (List.mem_append_right _ h)
      -- it stands there once
      have honce : ∃ h1 h2, f1 ++ .bz L :: f2 = h1 ++ .lp L' :: h2 ∧ ∀ g ∈ h1 ++ h2, g ≠ .lp L' := by
        have hE1 : ∀ u v, f1 ++ .lp L :: f2 = u ++ v → True := fun _ _ _ => trivial
        have hg12 : ∀ g ∈ g1 ++ g2, g ≠ .lp L' := fun g hg' e => by
          have := hgf g hg'; rw [e] at this; exact this.1 rfl
        have heq : f1 ++ .lp L :: f2 = g1 ++ .lp L' :: g2 := by rw [← hfs, hgs]
        rcases List.append_eq_append_iff.1 heq with ⟨m, e1, e2⟩ | ⟨m, e1, e2⟩
        · cases m with
          | nil =>
            simp at e2
            exact absurd (by rw [e2.1]) hne
          | cons q m =>
            simp only [List.cons_append, List.cons.injEq] at e2
            obtain ⟨rfl, e2⟩ := e2
            refine ⟨f1 ++ .bz L :: m, g2, by rw [e2]; simp, fun g hg' => ?_⟩
            simp only [List.mem_append, List.mem_cons] at hg'
            rcases hg' with (hg' | rfl | hg') | hg'
            · exact hg12 g (by rw [e1]; simp [hg'])
            · simp
            · exact hg12 g (by rw [e1]; simp [hg'])
            · exact hg12 g (by simp [hg'])
        · cases m with
          | nil =>
            simp at e2
            exact absurd (by rw [← e2.1]) hne
          | cons q m =>
            simp only [List.cons_append, List.cons.injEq] at e2
            obtain ⟨rfl, e2⟩ := e2
            refine ⟨g1, m ++ .bz L :: f2, by rw [e1]; simp, fun g hg' => ?_⟩
            simp only [List.mem_append, List.mem_cons] at hg'
            rcases hg' with hg' | hg' | rfl | hg'
            · exact hg12 g (by simp [hg'])
            · exact hg12 g (by rw [e2]; simp [hg'])
            · simp
            · exact hg12 g (by rw [e2]; simp [hg'])
      obtain ⟨h1, h2, e1, e2⟩ := honce
      refine ⟨.le G S.bx.length S.lv.length :: .df E.b w.heap.size E.d act.defers :: h1, h2, by show _ :: _ :: (f1 ++ .bz L :: f2) = _; rw [e1]; rfl, fun g hg' => ?_⟩
      rcases List.mem_cons.1 hg' with rfl | hg'
      · trivial
      rcases List.mem_cons.1 hg' with rfl | hg'
      · trivial
      · refine hothers g (by rw [e1]; rcases List.mem_append.1 hg' with h | h <;> simp [h]) (e2 g hg')
    · rw [hfs] at hle'
      rcases List.mem_append.1 hle' with h | h
      · exact List.mem_cons_of_mem _ (List.mem_cons_of_mem _ (List.mem_append_left _ h))
      · rcases List.mem_cons.1 h with h | h
        · cases h
        · exact List.mem_cons_of_mem _ (List.mem_cons_of_mem _ (List.mem_append_right _ (List.mem_cons_of_mem _ h)))
  have hEx := h ca cb rfl rfl rfl rfl hup (by show _ ∈ _ :: _ :: (f1 ++ .bz L :: f2); simp)
  -- the assignments
  let Ea : Ent := ⟨E.G, E.S, E.w, [], E.inv, E.lv, ca, Nat.le_trans hk.bl (Nat.le_refl _), fun g hg' => (by
    rcases List.mem_cons.1 hg' with rfl | hg'
    · trivial
    rcases List.mem_cons.1 hg' with rfl | hg'
    · trivial
    · exact E.hW g hg'), w.heap.size, hgr.size⟩
  let Eb : Ent := ⟨E.G, E.S, E.w, [], E.inv, E.lv, cb, Nat.le_trans hk.bl (Nat.le_refl _), fun g hg' => (by
    rcases List.mem_cons.1 hg' with rfl | hg'
    · trivial
    rcases List.mem_cons.1 hg' with rfl | hg'
    · trivial
    · rcases List.mem_append.1 hg' with hg' | hg'
      · exact E.hW g (by rw [hfs]; simp [hg'])
      · rcases List.mem_cons.1 hg' with rfl | hg'
        · exact hab
        · exact E.hW g (by rw [hfs]; simp [hg'])), w.heap.size, hgr.size⟩
  obtain ⟨hps1, hps2⟩ := setPs_rel ps xs us.toList a0 L.r.tmps husl (fun i x u h1 h2 => husv i x u h1 (by simpa using h2)) htz (fun i z u h1 h2 => (htv i z u h1 h2).mono hG0)
  have hAa : At Ea (setPs a0 ps xs) S { tmps := (ps.zip us.toList).foldl (fun t (p, v) => t.setIfInBounds p v) L.r.tmps, defers := [] } w := by
    refine ⟨G, hI, ⟨hps1, hps2⟩, hg, hk, ⟨⟨[], rfl, .nil, fun _ h => (by cases h)⟩, fun g hg' => ?_, Nat.le_refl _, Nat.le_refl _, Nat.le_refl _⟩⟩
    rcases List.mem_cons.1 hg' with rfl | hg'
    · exact ⟨.refl G, hdomA, hdomT⟩
    rcases List.mem_cons.1 hg' with rfl | hg'
    · exact hd.d
    · exact hd.x g hg'
  refine roundIn_of_wpIn (md.fn _) ?_
  have hz : (L.r.params.zip us).foldl (fun (t : Array Value) (p : Tmp × Value) => t.setIfInBounds p.1 p.2) L.r.tmps = (ps.zip us.toList).foldl (fun t p => t.setIfInBounds p.1 p.2) L.r.tmps := by
    rw [← hL.ps]; exact zip_foldl L.r.params us L.r.tmps
  have hfr : md.F.inRound L.l = Fence.wide.inRound L.l := by cases md <;> rfl
  rw [hfr]
  have hasg := hEx Ea rfl L.r.assign hL.x _ w hAa
  simp only [cwp] at hasg
  change Code.wpIn (Fence.wide.inRound L.l) (md.n - 1) P L.r.assign _ { tmps := (L.r.params.zip us).foldl (fun (t : Array Value) (p : Tmp × Value) => t.setIfInBounds p.1 p.2) L.r.tmps, defers := [] } w
  rw [hz]
  refine wpIn_mono hasg ?_
  rintro e act1 w1 ⟨z, a1, S1, rfl, ⟨rfl, hfl1, hbody⟩, G1, hI1, hR1, hg1, hk1', hd1⟩
  have hf1 : ∀ g ∈ ca.fs, g.ok G1 S1 w1 := hd1.x
  obtain ⟨hn1, k1, hk11, hk12⟩ := hf1 (.lp L) (List.mem_cons_of_mem _ (List.mem_cons_of_mem _ hmem))
  rw [hfl1] at hk11
  cases hk11
  have hk12 : w1.heap[L.l]? = some (.loop { L.r with state := .ready, pending := none }) := hk12
  refine ⟨w1.putObj L.l L.busy, run_beginRound hk12 rfl, ?_⟩
  have hlt1 : L.l < w1.heap.size := (Array.getElem?_eq_some_iff.1 hk12).1
  have hAb : At Eb a1 S1 act1 (w1.putObj L.l L.busy) := by
    refine ⟨G1, hI1.putObj _ hk12 rfl, hR1, hg1.putObj _ hab, hk1', ⟨?_, fun g hg' => ?_, hd1.m, ?_, ?_⟩⟩
    · refine DefOk.mono (Fact.other (f := .df w.heap.size w1.heap.size [] act1.defers) (S := S1) (G := G1) L.busy hd1.d hk12 trivial) ?_
      simp [World.putObj]
    · rcases List.mem_cons.1 hg' with rfl | hg'
      · exact hf1 _ (List.mem_cons_self ..)
      rcases List.mem_cons.1 hg' with rfl | hg'
      · exact Fact.other L.busy (hf1 _ (List.mem_cons_of_mem _ (List.mem_cons_self ..))) hk12 trivial
      have hoth : ∀ g ∈ f1 ++ f2, g.ok G1 S1 (w1.putObj L.l L.busy) := fun g hg' => by
        have hgE : g ∈ E.c.fs := by
          rw [hfs]
          rcases List.mem_append.1 hg' with h | h <;> simp [h]
        refine Fact.other L.busy (hf1 g (List.mem_cons_of_mem _ (List.mem_cons_of_mem _ hgE))) hk12 ?_
        have := hfree g hg'
        cases g <;> first | trivial | exact this.1
      rcases List.mem_append.1 hg' with hg' | hg'
      · exact hoth g (List.mem_append_left _ hg')
      · rcases List.mem_cons.1 hg' with rfl | hg'
        · exact ⟨hn1, hfl1, World.putObj_heap_same hlt1⟩
        · exact hoth g (List.mem_append_right _ hg')
    · show w.heap.size ≤ _
      have := hd1.k
      simp only [World.putObj, Array.size_setIfInBounds]
      exact this
    · have := hd1.b
      simp only [World.putObj, Array.size_setIfInBounds]
      exact this
  have hbod := hbody Eb rfl L.r.body hL.y act1 _ hAb
  simp only [cwp] at hbod
  refine wpIn_mono hbod ?_
  rintro e act2 w3 ⟨z, a2, S2, rfl, hz, G2, hI2, hR2, hg2, hk2', hd2⟩
  have hf2 : ∀ g ∈ cb.fs, g.ok G2 S2 w3 := hd2.x
  obtain ⟨hn2, hfl2, hbz⟩ := hf2 (.bz L) (by show _ ∈ _ :: _ :: (f1 ++ .bz L :: f2); simp)
  have hle2 : G.le G2 := (hf2 _ (List.mem_cons_self ..)).1
  have hdf2 : DefOk E.b w.heap.size E.d act.defers w3 := hf2 _ (List.mem_cons_of_mem _ (List.mem_cons_self ..))
  have hlt3 : L.l < w3.heap.size := (Array.getElem?_eq_some_iff.1 hbz).1
  have htl : L.t < S2.lv.length := (List.getElem?_eq_some_iff.1 hfl2).1
  have fin : ∀ (k : Nat) (b : Bool), At E (putA a x.dst (.bool b)) ⟨S2.bx, S2.lv.set L.t (k, 0)⟩ (act.put o.dst (.bool b)) (w3.putObj L.l (L.obj k)) := by
    intro k b
    refine ⟨G2, (hI2.putObj _ hbz rfl).flag _ hn2, h2 ▸ (hR.mono hle2).put x.dst (.bool b), (hg2.putObj _ hab).flag _ hn2, ⟨hk2'.bl, by rw [E.lv]; exact Nat.zero_le _, hk2'.al, hk2'.tb, fun t ht => absurd ht (E.tb0 t)⟩, ⟨?_, fun g hg' => ?_, ?_, ?_, ?_⟩⟩
    · have hd' : DefOk E.b w.heap.size E.d act.defers (w3.putObj L.l (L.obj k)) := Fact.other (f := .df E.b w.heap.size E.d act.defers) (S := S2) (G := G2) (L.obj k) hdf2 hbz trivial
      have hsz : w.heap.size ≤ (w3.putObj L.l (L.obj k)).heap.size := by
        have := hd2.b
        simp only [World.putObj, Array.size_setIfInBounds]
        exact this
      cases o.dst <;> exact hd'.mono hsz
    · have hoth : ∀ g ∈ f1 ++ f2, g.ok G2 ⟨S2.bx, S2.lv.set L.t (k, 0)⟩ (w3.putObj L.l (L.obj k)) := fun g hg' => by
        have hin : g ∈ cb.fs := by
          show g ∈ _ :: _ :: (f1 ++ .bz L :: f2)
          rcases List.mem_append.1 hg' with h | h <;> simp [h]
        have hfr := hfree g hg'
        refine Fact.flag _ (Fact.other (L.obj k) (hf2 g hin) hbz ?_) ?_
        · cases g <;> first | trivial | exact hfr.1
        · cases g <;> first | trivial | exact hfr.2
      rw [hfs] at hg'
      rcases List.mem_append.1 hg' with hg' | hg'
      · exact hoth g (List.mem_append_left _ hg')
      · rcases List.mem_cons.1 hg' with rfl | hg'
        · exact ⟨hn2, k, List.getElem?_set_self htl, World.putObj_heap_same hlt3⟩
        · exact hoth g (List.mem_append_right _ hg')
    · show E.c.m ≤ (S2.lv.set L.t (k, 0)).length
      rw [List.length_set]
      exact Nat.le_trans hd.m hd2.m
    · have := hd2.k
      simp only [World.putObj, Array.size_setIfInBounds]
      exact Nat.le_trans hd.k this
    · have := hd2.b
      simp only [World.putObj, Array.size_setIfInBounds]
      exact Nat.le_trans hd.b this
  have hset0 : S2.lv.set L.t (0, 0) = S2.lv := by
    apply List.ext_getElem?
    intro i
    rw [List.getElem?_set]
    split
    · rename_i hti
      subst hti
      first | rw [if_pos htl, hfl2] | rw [hfl2]
    · rfl
  have hdef' : ∀ o ∈ l', ∀ d, o.op ≠ .defer d := fun o ho => hdef o (List.mem_cons_of_mem _ ho)
  cases z with
  | norm =>
    refine ⟨.bool true, w3.putObj L.l (L.obj 0), run_endRound (r := { L.r with state := .busy, pending := none }) none hbz, ?_⟩
    have hA3 := fin 0 true
    rw [hset0] at hA3
    exact hz E rfl ops l' Q hl' hdef' hq _ _ hA3
  | ret =>
    refine ⟨.bool false, w3.putObj L.l (L.obj 1), run_endRound (r := { L.r with state := .busy, pending := none }) (some .ret) hbz, ?_⟩
    exact hz E rfl ops l' Q hl' hdef' hq _ _ (fin 1 false)
  | ex i =>
    refine ⟨.bool false, w3.putObj L.l (L.obj (i + 2)), run_endRound (r := { L.r with state := .busy, pending := none }) (some (.exit i)) hbz, ?_⟩
    exact hz E rfl ops l' Q hl' hdef' hq _ _ (fin (i + 2) false)
end rules
end Go.Proofs.Ytfcjcjncfniclaa
end
section
namespace Go.Proofs.Ytfcjcjncfniclaa
open Go.RowKit
set_option linter.unusedVariables false
set_option linter.unusedSimpArgs false

theorem compFn_inv {P : Program} {f : FuncId} {F : AFn} (hF : compFn P f = some F) : ∃ fn c, P.funcs[f]? = some fn ∧ fn.body = some c ∧ fn.results.toList.mapM (compRes P) = some F.res ∧ compCode P c = some F.code ∧ F.ntmps = fn.ntmps ∧ ∀ us w, (callFunc f us).run P w = .ok (.enter f us) w := by
  unfold compFn at hF
  split at hF
  · rename_i fn hf
    split at hF
    · rename_i c rs hb hrs
      split at hF
      · rename_i ac hac
        split at hF
        · cases hF
        · rename_i hname
          cases hF
          refine ⟨fn, c, hf, hb, hrs, hac, rfl, fun us w => ?_⟩
          simp only [callFunc, program, Sem.run, hf, Sem.run_bind, Result.andThen_ok, hname, hb]
          rfl
      · cases hF
    · cases hF
  · cases hF
theorem start_rel {G : Gh} {F : AFn} {xs : List AV} {us : Array Value} {n : Nat} (hn : F.ntmps = n) (hvs : VRs G xs us) : Rel G (start F xs) { tmps := us ++ Array.replicate (n - us.size) undef, defers := [] } := by
  subst hn
  refine ⟨by simp [start, hvs.1], fun i y u hy hu => ?_⟩
  simp only [start] at hy
  simp only at hu
  rw [List.getElem?_append] at hy
  rw [Array.getElem?_append, hvs.1] at hu
  split at hy
  · rename_i hlt
    rw [if_pos hlt] at hu
    exact hvs.2 i y u hy hu
  · rename_i hlt
    rw [if_neg hlt] at hu
    have e1 := List.eq_of_mem_replicate (List.mem_of_getElem? hy)
    have e2 : u ∈ (Array.replicate (F.ntmps - xs.length) undef) := Array.mem_of_getElem? hu
    have e3 := (Array.mem_replicate.1 e2).2
    rw [e1, e3]
    exact .undef G

def exitOf : Nat → AEx
  | 0 => .norm
  | 1 => .ret
  | i + 2 => .ex i
theorem jump_wpIn {F : Fence} {n : Nat} {P : Program} {Q : Exit → Act → World → Prop} {a : Act} {w : World} (k : Nat) (h : Q (exitOf (k + 1)).out a w) : (jumpOf k).wpIn F n P Q a w := by
  cases k with
  | zero => exact wpIn_ret h
  | succ i => exact wpIn_exit h

section rules
variable {c : Cx} {md : Md} {P : Program} {a : List AV} {S : St} {Q : AEx → List AV → St → Prop} {R : List AV → St → Prop}

theorem Ex.rangeF {g : AOpd} {ps : List Nat} {x y : ACode} (f : FuncId) (caps : List AV) (F : AFn) (hg0 : evd a g = .fn f [] caps) (hF : compFn P f = some F) (hres : F.res = []) (hn : c.n ≤ S.bx.length) (hmd : match md with | .plain => True | .round l _ => ∃ L, Fact.bz L ∈ c.fs ∧ L.l = l)
    (h : ∀ (c1 : Cx) (L : Lp), c1.n = S.bx.length → c1.m = S.lv.length + 1 → L.t = S.lv.length → LpOk P c1 L a ps x y → (∀ L' a' ps' x' y', LpOk P c L' a' ps' x' y' → L'.l ≠ L.l ∧ LpOk P c1 L' a' ps' x' y') →
      Ex c1 .plain P F.code (start F (.yld L.l S.lv.length :: caps)) ⟨S.bx, S.lv ++ [(0, 0)]⟩ fun z a' S' => (z = .norm ∨ z = .ret) ∧ ∃ k, S'.lv[S.lv.length]? = some (k, 0) ∧ Q (exitOf k) a S') : Ex c md P (.rangeF g ps x y) a S Q := by
  intro E hE code hco act w hA
  subst hE
  obtain ⟨g', ps', x', y', rfl, hg', hps, hx, hy⟩ := compCode_rangeF hco
  obtain ⟨G, hI, hR, hgr, hk, hd⟩ := hA
  have hv := hR.opd g' g hg'
  rw [hg0] at hv
  obtain ⟨vs, us, hval, hvp, hvc⟩ := hv.inv_fn
  have hvs0 : vs = #[] := Array.eq_empty_of_size_eq_zero hvp.1
  subst hvs0
  obtain ⟨fn, c1, hf, hb, hrs, hac, hnt, hen⟩ := compFn_inv hF
  refine cwp_of_in (wpIn_rangeFunc ?_)
  intro fn0 hfn0
  obtain ⟨l, mk, dD, W1, hent, hrec, hwl, hI1, hg1, hmk⟩ : ∃ (l : Nat) (mk : List Nat) (dD : Nat) (W1 : World), (Instr.enterLoop fn0 act.tmps ps' x' y' md.F.round).run P w = .ok (l, mk.map markOf) W1 ∧ W1.heap[l]? = some (.loop { state := .ready, pending := none, fn := fn0, tmps := act.tmps, params := ps', assign := x', body := y', defers := dD }) ∧ w.heap.size ≤ l ∧ Inv G S W1 ∧ Gro G S w G S W1 ∧ (mk.Nodup ∧ ∀ D ∈ mk, w.heap.size ≤ D ∧ W1.heap[D]? = some (.deferred (some []))) := by
    cases md with
    | plain =>
      refine ⟨w.heap.size + 1, [w.heap.size], w.heap.size, _, run_enterLoop_outer fn0 act.tmps ps' x' y', ?_, by omega, (hI.allocO _).allocO _, (Gro.allocO G S w _).trans (Gro.allocO G S _ _), by simp, fun D hD => ?_⟩
      · have := World.alloc_heap_new (w.alloc (.deferred (some []))) (.loop { state := .ready, pending := none, fn := fn0, tmps := act.tmps, params := ps', assign := x', body := y', defers := w.heap.size })
        rwa [World.size_alloc] at this
      · have hD : D = w.heap.size := by simpa using hD
        subst hD
        exact ⟨Nat.le_refl _, (Below.heap_alloc _ _ _ (by simp)).trans (World.alloc_heap_new w _)⟩
    | round l0 n0 =>
      obtain ⟨L0, hL0, rfl⟩ := hmd
      obtain ⟨_, _, hbz⟩ := hd.x _ hL0
      exact ⟨w.heap.size, [], _, _, run_enterLoop_inner hbz fn0 act.tmps ps' x' y', World.alloc_heap_new w _, Nat.le_refl _, hI.allocO _, Gro.allocO G S w _, .nil, fun D hD => by cases hD⟩
  obtain ⟨r, hr⟩ : ∃ r : Loop, r = { state := .ready, pending := none, fn := fn0, tmps := act.tmps, params := ps', assign := x', body := y', defers := dD } := ⟨_, rfl⟩
  rw [← hr] at hrec
  have hlW : l < W1.heap.size := (Array.getElem?_eq_some_iff.1 hrec).1
  have hrt : r.tmps = act.tmps := by rw [hr]
  let L : Lp := ⟨l, S.lv.length, r⟩
  have hobj0 : L.obj 0 = .loop r := by rw [hr]; show Obj.loop _ = _; simp only [L, hr]
  have hdW : DefOk E.b W1.heap.size E.d (mk.map markOf ++ act.defers) W1 := by
    obtain ⟨Ds, h1, h2, h3⟩ := (hd.d.oth hg1.oth)
    refine ⟨mk ++ Ds, by rw [h1, List.map_append, List.append_assoc], List.nodup_append.2 ⟨hmk.1, h2, fun D hD D' hD' e => ?_⟩, fun D hD => ?_⟩
    · subst e
      have := (hmk.2 D hD).1
      have := (h3 D hD').1.2
      omega
    · rcases List.mem_append.1 hD with hD | hD
      · exact ⟨⟨Nat.le_trans hd.b (hmk.2 D hD).1, (Array.getElem?_eq_some_iff.1 (hmk.2 D hD).2).1⟩, (hmk.2 D hD).2⟩
      · exact ⟨⟨(h3 D hD).1.1, Nat.lt_of_lt_of_le (h3 D hD).1.2 hg1.size⟩, (h3 D hD).2⟩
  have hbel : ∀ f' ∈ E.c.fs, f'.below l := fun f' hf' => (E.c.hk f' hf').mono (Nat.le_trans hd.k hwl)
  let cc : Cx := ⟨S.bx.length, S.lv.length + 1, W1.heap.size, .le G S.bx.length S.lv.length :: .df E.b W1.heap.size E.d (mk.map markOf ++ act.defers) :: .lp L :: E.c.fs, fun f' hf' => (by
    rcases List.mem_cons.1 hf' with rfl | hf'
    · exact ⟨Nat.le_refl _, Nat.le_succ _⟩
    rcases List.mem_cons.1 hf' with rfl | hf'
    · trivial
    rcases List.mem_cons.1 hf' with rfl | hf'
    · exact Nat.lt_succ_self _
    · exact (E.c.hw f' hf').mono hn (Nat.le_succ_of_le hd.m)), fun f' hf' => (by
    rcases List.mem_cons.1 hf' with rfl | hf'
    · trivial
    rcases List.mem_cons.1 hf' with rfl | hf'
    · exact Nat.le_refl _
    rcases List.mem_cons.1 hf' with rfl | hf'
    · exact hlW
    · exact (hbel f' hf').mono (Nat.le_of_lt hlW))⟩
  have hfree : ∀ f' ∈ E.c.fs, f'.free l S.lv.length := fun f' hf' => by
    have h1 := hbel f' hf'
    have h2 := E.c.hw f' hf'
    have h3 := hd.m
    cases f' with
    | lp L' => exact ⟨Nat.ne_of_lt h1, Nat.ne_of_lt (Nat.lt_of_lt_of_le h2 h3)⟩
    | bz L' => exact ⟨Nat.ne_of_lt h1, Nat.ne_of_lt (Nat.lt_of_lt_of_le h2 h3)⟩
    | _ => trivial
  have hLok : LpOk P cc L a ps x y := by
    refine ⟨⟨[.le G S.bx.length S.lv.length, .df E.b W1.heap.size E.d (mk.map markOf ++ act.defers)], E.c.fs, rfl, fun f' hf' => ?_⟩, ⟨G, S.bx.length, S.lv.length, List.mem_cons_self .., by show r.tmps.size = _; rw [hrt]; exact hR.size, fun i z u hz hu => ?_⟩, by show r.params.toList = ps; rw [hr]; exact hps, by show compCode P r.assign = _; rw [hr]; exact hx, by show compCode P r.body = _; rw [hr]; exact hy⟩
    · rcases List.mem_append.1 hf' with hf' | hf'
      · simp only [List.mem_cons, List.not_mem_nil, or_false] at hf'
        rcases hf' with rfl | rfl <;> trivial
      · exact hfree f' hf'
    · have hu : r.tmps[i]? = some u := hu
      rw [hrt] at hu
      exact hR.slot i z u hz hu
  have hup : ∀ L' a' ps' x' y', LpOk P E.c L' a' ps' x' y' → L'.l ≠ L.l ∧ LpOk P cc L' a' ps' x' y' := by
    intro L' a' ps' x' y' hL'
    obtain ⟨g1, g2, hgs, hgf⟩ := hL'.fs
    obtain ⟨G', n', m', hle', h3, h4⟩ := hL'.rel
    have hin : Fact.lp L' ∈ E.c.fs := by rw [hgs]; simp
    have hfr := hfree _ hin
    refine ⟨hfr.1, ⟨.le G S.bx.length S.lv.length :: .df E.b W1.heap.size E.d (mk.map markOf ++ act.defers) :: .lp L :: g1, g2, by show _ :: _ :: _ :: E.c.fs = _; rw [hgs]; rfl, fun f' hf' => ?_⟩, ⟨G', n', m', List.mem_cons_of_mem _ (List.mem_cons_of_mem _ (List.mem_cons_of_mem _ hle')), h3, h4⟩, hL'.ps, hL'.x, hL'.y⟩
    rcases List.mem_cons.1 hf' with rfl | hf'
    · trivial
    rcases List.mem_cons.1 hf' with rfl | hf'
    · trivial
    rcases List.mem_cons.1 hf' with rfl | hf'
    · exact ⟨fun e => hfr.1 e.symm, fun e => hfr.2 e.symm⟩
    · exact hgf f' hf'
  have hEx := h cc L rfl rfl rfl hLok hup
  let E1 : Ent := ⟨E.G, E.S, E.w, [], E.inv, E.lv, cc, hk.bl, fun f' hf' => (by
    rcases List.mem_cons.1 hf' with rfl | hf'
    · trivial
    rcases List.mem_cons.1 hf' with rfl | hf'
    · trivial
    rcases List.mem_cons.1 hf' with rfl | hf'
    · exact Nat.le_trans hgr.size hwl
    · exact E.hW f' hf'), W1.heap.size, Nat.le_trans hgr.size hg1.size⟩
  obtain ⟨k1, k2, k3, k4⟩ := add_ahead hI1 [] [(0, 0)]
  rw [List.append_nil] at k1 k2
  have hvrs : VRs G (.yld l S.lv.length :: caps) (#[.func (.yield l) #[] #[]] ++ us) := by
    refine ⟨by simp [hvc.1]; omega, fun i z u hz hu => ?_⟩
    cases i with
    | zero =>
      rw [Array.getElem?_append_left (by simp)] at hu
      simp at hz hu
      subst hz; subst hu
      exact .yld _ _
    | succ i =>
      rw [Array.getElem?_append_right (by simp)] at hu
      exact hvc.2 i z u (by simpa using hz) (by simpa using hu)
  have hA1 : At E1 (start F (.yld l S.lv.length :: caps)) ⟨S.bx, S.lv ++ [(0, 0)]⟩ { tmps := (#[Value.func (.yield l) #[] #[]] ++ us) ++ Array.replicate (fn.ntmps - (#[Value.func (.yield l) #[] #[]] ++ us).size) undef, defers := [] } W1 := by
    refine ⟨G, k1, start_rel hnt hvrs, (hgr.trans hg1).trans k2, ⟨hk.bl, by rw [show E1.S = E.S from rfl, E.lv]; exact Nat.zero_le _, hk.al, hk.tb, fun t ht => absurd ht (E.tb0 t)⟩, ⟨⟨[], rfl, .nil, fun _ h => (by cases h)⟩, fun f' hf' => ?_, by show S.lv.length + 1 ≤ _; simp, Nat.le_refl _, Nat.le_refl _⟩⟩
    rcases List.mem_cons.1 hf' with rfl | hf'
    · exact ⟨.refl G, fun b B h => (hI.dal b B h).1, fun t k v h => by
        obtain ⟨m, s, h1, _⟩ := hI.dtb t k v h
        exact (List.getElem?_eq_some_iff.1 h1).1⟩
    rcases List.mem_cons.1 hf' with rfl | hf'
    · exact hdW
    rcases List.mem_cons.1 hf' with rfl | hf'
    · exact ⟨fun n => k4 _ n (Nat.le_refl _), 0, (by show (S.lv ++ [(0, 0)])[S.lv.length]? = some (0, 0); simp), by rw [hobj0]; exact hrec⟩
    · exact Fact.step (Fact.step (hd.x f' hf') hg1 (.refl G S)) k2 ⟨Nat.le_refl _, by simp, fun _ _ h => h, fun _ _ h => h, fun t ht _ => List.getElem?_append_left ht⟩
  refine ⟨l, mk.map markOf, W1, { target := .fn (.func f) us, args := #[.func (.yield l) #[] #[]] }, W1, f, #[.func (.yield l) #[] #[]] ++ us, W1, hent, ?_, fun f' _ => md.fn f', ?_, fun hdp => md.depth hdp, ?_⟩
  · simp only [resolve, hval]
    simp [go_sem]
  · simp [invoke, go_sem, hen]
  refine callsIn_md md (calls_of_marks hf hb (wp_mono (hEx E1 rfl c1 hac _ W1 hA1) ?_))
  rintro e act' w' ⟨z, a', S', rfl, ⟨hz, k, hk1, hq⟩, G', hI', hR', hg', hk', hd'⟩
  have hfs : ∀ f' ∈ cc.fs, f'.ok G' S' w' := hd'.x
  obtain ⟨Ds, e1, e2, e3⟩ := hd'.d
  have e1 : act'.defers = Ds.map markOf := by rw [e1]; exact List.append_nil _
  have hI2 := hI'.shut e2 fun D hD => (e3 D hD).2
  have hg2 := hg'.shut fun D hD => Nat.le_trans E1.hb (e3 D hD).1.1
  have hrs0 : evRes a' S' F.res = some (.tup []) := by rw [hres]; rfl
  obtain ⟨u, hu, _⟩ := res_ok hI2 hR' hrs hrs0
  refine ⟨by rcases hz with rfl | rfl <;> simp [AEx.out], Ds, e1, e2, fun D hD => (e3 D hD).2, u, hu, ?_⟩
  -- the loop's end
  obtain ⟨hn3, k', hk2, hk3⟩ := hfs (.lp L) (by show _ ∈ _ :: _ :: _ :: E.c.fs; simp)
  have hk2 : S'.lv[S.lv.length]? = some (k', 0) := hk2
  rw [hk1] at hk2
  cases hk2
  have hlD : l ∉ Ds := fun hm => by
    have h1 := (e3 l hm).2
    have h2 : w'.heap[l]? = some (L.obj k) := hk3
    rw [h1] at h2
    cases k <;> cases h2
  have hk3' : (shutW w' Ds).heap[l]? = some (L.obj k) := (shut_heap.2.2.2.2 l hlD).trans hk3
  have hle : G.le G' := (hfs _ (List.mem_cons_self ..)).1
  have hdf : DefOk E.b W1.heap.size E.d (mk.map markOf ++ act.defers) w' := hfs _ (List.mem_cons_of_mem _ (List.mem_cons_self ..))
  have hsz2 : (shutW w' Ds).heap.size = w'.heap.size := shut_heap.1
  have hW1w : W1.heap.size ≤ w'.heap.size := hd'.b
  have fin : ∀ (o' o : Obj) (r' : Loop), o = .loop r' → (shutW w' Ds).heap[l]? = some o → At E a S' { act with defers := mk.map markOf ++ act.defers } ((shutW w' Ds).putObj l o') := by
    rintro o' o r' rfl ho
    refine ⟨G', hI2.putObj _ ho rfl, ⟨hR.size, fun i y u h1 h2 => (hR.slot i y u h1 h2).mono hle⟩, hg2.putObj _ (Nat.le_trans hgr.size hwl), ⟨hk'.bl, by rw [E.lv]; exact Nat.zero_le _, hk'.al, hk'.tb, fun t ht => absurd ht (E.tb0 t)⟩, ⟨?_, fun f' hf' => ?_, ?_, ?_, ?_⟩⟩
    · obtain ⟨Dc, d1, d2, d3⟩ := hdf
      refine ⟨Dc, d1, d2, fun D hD => ⟨⟨(d3 D hD).1.1, ?_⟩, ?_⟩⟩
      · have := (d3 D hD).1.2
        simp only [World.putObj, Array.size_setIfInBounds, hsz2]
        omega
      · have h4 := (d3 D hD).2
        have hnD : D ∉ Ds := fun hm => by
          have := (d3 D hD).1.2
          have : W1.heap.size ≤ D := (e3 D hm).1.1
          omega
        have h5 : (shutW w' Ds).heap[D]? = some (.deferred (some [])) := (shut_heap.2.2.2.2 D hnD).trans h4
        rw [World.putObj_heap_other]
        · exact h5
        · rintro rfl; rw [ho] at h5; cases h5
    · -- what the activation keeps
      have hin : f'.ok G' S' w' := hfs f' (by show _ ∈ _ :: _ :: _ :: E.c.fs; simp [hf'])
      have hfr := hfree f' hf'
      have hbl := hbel f' hf'
      refine Fact.other o' (l := l) (r := r') ?_ ho (by cases f' <;> first | trivial | exact hfr.1)
      -- its own marks are shut
      cases f' with
      | le G0 n m => exact hin
      | lp L' =>
        refine ⟨hin.1, hin.2.imp fun kk hkk => ⟨hkk.1, (shut_heap.2.2.2.2 _ fun hm => ?_).trans hkk.2⟩⟩
        have h1 := (e3 _ hm).2
        rw [hkk.2] at h1
        cases kk <;> cases h1
      | bz L' =>
        refine ⟨hin.1, hin.2.1, (shut_heap.2.2.2.2 _ fun hm => ?_).trans hin.2.2⟩
        have h1 := (e3 _ hm).2
        rw [hin.2.2] at h1
        cases h1
      | df n u' d l' =>
        obtain ⟨Dc, d1, d2, d3⟩ := hin
        refine ⟨Dc, d1, d2, fun D hD => ⟨(d3 D hD).1, ?_⟩⟩
        refine (shut_heap.2.2.2.2 D fun hm => ?_).trans (d3 D hD).2
        have h1 : W1.heap.size ≤ D := (e3 D hm).1.1
        have h2 := (d3 D hD).1.2
        have h3 : u' ≤ E.c.k := E.c.hk _ hf'
        have h4 := hd.k
        have h5 := hg1.size
        omega
    · exact Nat.le_trans hd.m (Nat.le_trans (Nat.le_succ _) hd'.m)
    · have := hd.k
      simp only [World.putObj, Array.size_setIfInBounds, hsz2]
      have := hg1.size
      omega
    · have := hd.b
      simp only [World.putObj, Array.size_setIfInBounds, hsz2]
      have := hg1.size
      omega
  cases k with
  | zero =>
    refine ⟨none, _, run_endLoop (r := { L.r with state := .ready, pending := none }) hk3' (by simp), ?_⟩
    exact ⟨.norm, a, S', rfl, hq, fin _ _ _ rfl hk3'⟩
  | succ k =>
    refine ⟨some (jumpOf k), _, run_endLoop (r := { L.r with state := .done, pending := some (jumpOf k) }) hk3' (by simp), ?_⟩
    exact jump_wpIn k ⟨exitOf (k + 1), a, S', rfl, hq, fin _ _ _ rfl hk3'⟩
end rules
end Go.Proofs.Ytfcjcjncfniclaa
end
section
namespace Go.Proofs.Ytfcjcjncfniclaa
open Go.RowKit
set_option linter.unusedVariables false
set_option linter.unusedSimpArgs false

theorem leC {c : Cx} {k n : Nat} (h : c.n = k) (hk : k ≤ n) : c.n ≤ n := h ▸ hk
theorem sig0 {c : Cx} {σ : List Nat} (k : Nat) (hk : c.m = k) (h : σ.take k = List.range k) : ∀ t, t < c.m → σ[t]? = some t := fun t ht => by
  rw [hk] at ht
  have h1 : (σ.take k)[t]? = σ[t]? := List.getElem?_take_of_lt ht
  rw [← h1, h, List.getElem?_range ht]

section rules
variable {c : Cx} {md : Md} {P : Program} {a : List AV} {S : St} {Q : AEx → List AV → St → Prop} {R : List AV → St → Prop}

theorem ExI.op {X : Clr} (hX : ClrOk P X) {x : AOper} {xs : List AOper} {v : AV} {S1 : St} (hw : wantedA x.guard a = some true) (hv : evOp X x.op a S = some (v, S1)) (h : ExI c md P xs (putA a x.dst v) S1 R) : ExI c md P (x :: xs) a S R :=
  ExI.pre (xs := [x]) (ys := xs) (ExO.op hX hw hv (ExO.nil h))
theorem ExI.skip {x : AOper} {xs : List AOper} (hw : wantedA x.guard a = some false) (h : ExI c md P xs (putA a x.dst (.tup [])) S R) : ExI c md P (x :: xs) a S R :=
  ExI.pre (xs := [x]) (ys := xs) (ExO.skip hw (ExO.nil h))
theorem ExI.forget {a2 : List AV} {S2 : St} {xs : List AOper} (hf : Forgets c a S a2 S2) (h : ExI c md P xs a2 S2 R) : ExI c md P xs a S R := fun E hE ops l Q hl hd hq act w hA => h E hE ops l Q hl hd hq act w (hf E hE act w hA)
theorem evHI_ok {hs : List (Nat × Hint)} : ∀ (k i : Nat) {l : List AOper} {a a2 : List AV} {S S2 : St} {Fs : List Prop}, evH hs i k l a S = some (Fs, a2, S2) → AllP Fs → ExI c md P (l.drop k) a2 S2 R → ExI c md P l a S R
  | 0, i, l, a, a2, S, S2, Fs, h, _, hx => by
    cases l <;> (simp only [evH] at h; cases h; exact hx)
  | k + 1, i, [], a, a2, S, S2, Fs, h, _, hx => by simp [evH] at h
  | k + 1, i, x :: l, a, a2, S, S2, Fs, h, hF, hx => by
    simp only [evH] at h
    split at h
    · rename_i hw
      split at h
      · rename_i F v S1 hd
        split at h
        · rename_i Fs1 a3 S3 hr
          cases h
          refine ExI.op (noClr_ok P) hw (doH_ok hd ?_) (evHI_ok k (i + 1) hr ?_ hx)
          · cases F with
            | none => trivial
            | some F => exact hF.1
          · cases F with
            | none => exact hF
            | some F => exact hF.2
        · cases h
      · cases h
    · rename_i hw
      exact ExI.skip hw (evHI_ok k (i + 1) h hF hx)
    · cases h
theorem runI {l : List AOper} (k : Nat) (hs : List (Nat × Hint)) (live : List Nat) (Fs : List Prop) (a2 : List AV) (S2 : St) (h : (evH hs 0 k l a S).map (fun p => (p.1, keepB 0 live p.2.1, p.2.2)) = some (Fs, a2, S2)) (hF : AllP Fs) (hx : ExI c md P (l.drop k) a2 S2 R) : ExI c md P l a S R := by
  cases he : evH hs 0 k l a S with
  | none => rw [he] at h; cases h
  | some p =>
    obtain ⟨Fs1, a1, S1⟩ := p
    rw [he] at h
    simp only [Option.map_some, Option.some.injEq, Prod.mk.injEq] at h
    obtain ⟨rfl, rfl, rfl⟩ := h
    exact evHI_ok k 0 he hF (ExI.forget (forgetK live) hx)
theorem ExI.one {x : AOper} {xs : List AOper} (h : ExO c P [x] a S fun a1 S1 => ExI c md P xs a1 S1 R) : ExI c md P (x :: xs) a S R := ExI.pre (xs := [x]) (ys := xs) h

theorem ExO.inlC {x : AOper} {l : List AOper} (f : FuncId) (xs : List AV) (F : AFn) (hF : compFn P f = some F) (hn : c.n ≤ S.bx.length) (hw : wantedA x.guard a = some true) (hv : aop x.op (evd a) S = some (.call f xs))
    (h : ∀ c1 : Cx, c1.n = S.bx.length → c1.m = S.lv.length → (∀ L' a' ps' x' y', LpOk P c L' a' ps' x' y' → LpOk P c1 L' a' ps' x' y') →
      Ex c1 .plain P F.code (start F xs) S fun z a' S' => (z = .norm ∨ z = .ret) ∧ ∃ v, evRes a' S' F.res = some v ∧ ExO c P l (putA a x.dst v) S' R) : ExO c P (x :: l) a S R := by
  intro E hE ops l0 Q hco hq act w hA
  subst hE
  obtain ⟨o, l', rfl, hx, hl'⟩ := mapM_cons_inv hco
  obtain ⟨h1, h2, _⟩ := compOper_ok hx
  obtain ⟨G, hI, hR, hgr, hk, hd⟩ := hA
  obtain ⟨fn, cc1, hf, hb, hrs, hac, hnt, hen⟩ := compFn_inv hF
  simp only [wpList]
  rw [if_pos (wantedA_ok hx hR hw)]
  refine .inl ?_
  unfold Oper.wp
  have hs := step_ok h1 (fun _ => rfl) hR.opd hI hv
  obtain ⟨us, hrun, hvs⟩ := hs
  rw [hrun, hen]
  simp only [Oper.upon_enter]
  let cc : Cx := ⟨S.bx.length, S.lv.length, w.heap.size, .le G S.bx.length S.lv.length :: .df E.b w.heap.size E.d act.defers :: E.c.fs, fun f' hf' => (by
    rcases List.mem_cons.1 hf' with rfl | hf'
    · exact ⟨Nat.le_refl _, Nat.le_refl _⟩
    rcases List.mem_cons.1 hf' with rfl | hf'
    · trivial
    · exact (E.c.hw f' hf').mono hn hd.m), fun f' hf' => (by
    rcases List.mem_cons.1 hf' with rfl | hf'
    · trivial
    rcases List.mem_cons.1 hf' with rfl | hf'
    · exact Nat.le_refl _
    · exact (E.c.hk f' hf').mono hd.k)⟩
  have hup : ∀ L' a' ps' x' y', LpOk P E.c L' a' ps' x' y' → LpOk P cc L' a' ps' x' y' := by
    intro L' a' ps' x' y' hL'
    obtain ⟨g1, g2, hgs, hgf⟩ := hL'.fs
    obtain ⟨G', n', m', hle', h3, h4⟩ := hL'.rel
    refine ⟨⟨.le G S.bx.length S.lv.length :: .df E.b w.heap.size E.d act.defers :: g1, g2, by show _ :: _ :: E.c.fs = _; rw [hgs]; rfl, fun f' hf' => ?_⟩, ⟨G', n', m', List.mem_cons_of_mem _ (List.mem_cons_of_mem _ hle'), h3, h4⟩, hL'.ps, hL'.x, hL'.y⟩
    rcases List.mem_cons.1 hf' with rfl | hf'
    · trivial
    rcases List.mem_cons.1 hf' with rfl | hf'
    · trivial
    · exact hgf f' hf'
  have hEx := h cc rfl rfl hup
  let E1 : Ent := ⟨E.G, E.S, E.w, [], E.inv, E.lv, cc, hk.bl, fun f' hf' => (by
    rcases List.mem_cons.1 hf' with rfl | hf'
    · trivial
    rcases List.mem_cons.1 hf' with rfl | hf'
    · trivial
    · exact E.hW f' hf'), w.heap.size, hgr.size⟩
  have hA1 : At E1 (start F xs) S { tmps := us ++ Array.replicate (fn.ntmps - us.size) undef, defers := [] } w := by
    refine ⟨G, hI, start_rel hnt hvs, hgr, hk, ⟨⟨[], rfl, .nil, fun _ h => (by cases h)⟩, fun f' hf' => ?_, Nat.le_refl _, Nat.le_refl _, Nat.le_refl _⟩⟩
    rcases List.mem_cons.1 hf' with rfl | hf'
    · exact ⟨.refl G, fun b B h => (hI.dal b B h).1, fun t k v h => by
        obtain ⟨m, s, h1, _⟩ := hI.dtb t k v h
        exact (List.getElem?_eq_some_iff.1 h1).1⟩
    rcases List.mem_cons.1 hf' with rfl | hf'
    · exact hd.d
    · exact hd.x f' hf'
  refine calls_of_marks hf hb (wp_mono (hEx E1 rfl cc1 hac _ w hA1) ?_)
  rintro e act' w' ⟨z, a', S', rfl, ⟨hz, v, hres, hrest⟩, G', hI', hR', hg', hk', hd'⟩
  have hfs : ∀ f' ∈ cc.fs, f'.ok G' S' w' := hd'.x
  obtain ⟨Ds, e1, e2, e3⟩ := hd'.d
  have e1 : act'.defers = Ds.map markOf := by rw [e1]; exact List.append_nil _
  have hI2 := hI'.shut e2 fun D hD => (e3 D hD).2
  have hg2 := hg'.shut fun D hD => Nat.le_trans E1.hb (e3 D hD).1.1
  obtain ⟨u, hu, hvr⟩ := res_ok hI2 hR' hrs hres
  refine ⟨by rcases hz with rfl | rfl <;> simp [AEx.out], Ds, e1, e2, fun D hD => (e3 D hD).2, u, hu, ?_⟩
  have hle : G.le G' := (hfs _ (List.mem_cons_self ..)).1
  have hdf : DefOk E.b w.heap.size E.d act.defers w' := hfs _ (List.mem_cons_of_mem _ (List.mem_cons_self ..))
  have hsz2 : (shutW w' Ds).heap.size = w'.heap.size := shut_heap.1
  have hww : w.heap.size ≤ w'.heap.size := hd'.b
  refine hrest E rfl ops l' Q hl' hq _ _ ⟨G', hI2, h2 ▸ (hR.mono hle).put x.dst hvr, hg2, ⟨hk'.bl, by rw [E.lv]; exact Nat.zero_le _, hk'.al, hk'.tb, fun t ht => absurd ht (E.tb0 t)⟩, ⟨?_, fun f' hf' => ?_, Nat.le_trans hd.m hd'.m, ?_, ?_⟩⟩
  · have hd2 : DefOk E.b (shutW w' Ds).heap.size E.d act.defers (shutW w' Ds) := by
      obtain ⟨Dc, d1, d2, d3⟩ := hdf
      refine ⟨Dc, d1, d2, fun D hD => ⟨⟨(d3 D hD).1.1, ?_⟩, ?_⟩⟩
      · have := (d3 D hD).1.2
        omega
      · refine (shut_heap.2.2.2.2 D fun hm => ?_).trans (d3 D hD).2
        have := (d3 D hD).1.2
        have : w.heap.size ≤ D := (e3 D hm).1.1
        omega
    cases o.dst <;> exact hd2
  · have hin : f'.ok G' S' w' := hfs f' (by show _ ∈ _ :: _ :: E.c.fs; simp [hf'])
    cases f' with
    | le G0 n m => exact hin
    | lp L' =>
      refine ⟨hin.1, hin.2.imp fun kk hkk => ⟨hkk.1, (shut_heap.2.2.2.2 _ fun hm => ?_).trans hkk.2⟩⟩
      have h1 := (e3 _ hm).2
      rw [hkk.2] at h1
      cases kk <;> cases h1
    | bz L' =>
      refine ⟨hin.1, hin.2.1, (shut_heap.2.2.2.2 _ fun hm => ?_).trans hin.2.2⟩
      have h1 := (e3 _ hm).2
      rw [hin.2.2] at h1
      cases h1
    | df n u' d l' =>
      obtain ⟨Dc, d1, d2, d3⟩ := hin
      refine ⟨Dc, d1, d2, fun D hD => ⟨(d3 D hD).1, ?_⟩⟩
      refine (shut_heap.2.2.2.2 D fun hm => ?_).trans (d3 D hD).2
      have h1 : w.heap.size ≤ D := (e3 D hm).1.1
      have h2 := (d3 D hD).1.2
      have h3 : u' ≤ E.c.k := E.c.hk _ hf'
      have h4 := hd.k
      omega
  · rw [hsz2]; exact Nat.le_trans hd.k hww
  · rw [hsz2]; exact Nat.le_trans hd.b hww
theorem ExI.yieldT {L : Lp} {a0 : List AV} {ps : List Nat} {x0 y0 : ACode} (t0 : Nat) (ht : L.t = t0) (hL : LpOk P c L a0 ps x0 y0) {x : AOper} {l : List AOper} {f : AOpd} {args : List AOpd} {t : Nat} (xs : List AV) (hw : wantedA x.guard a = some true) (ho : x.op = .call f args) (hf : evd a f = .yld L.l t) (hxs : args.map (evd a) = xs) (hps : ps.length = xs.length) (hr : S.lv[t0]? = some (0, 0)) (hn : c.n ≤ S.bx.length)
    (h : ∀ (ca cb : Cx), ca.n = S.bx.length → cb.n = S.bx.length → ca.m = S.lv.length → cb.m = S.lv.length → (∀ L' a' ps' x' y', LpOk P c L' a' ps' x' y' → L'.l ≠ L.l → LpOk P ca L' a' ps' x' y' ∧ LpOk P cb L' a' ps' x' y') → Fact.bz L ∈ cb.fs →
      Ex ca (.round L.l (md.n - 1)) P x0 (setPs a0 ps xs) S fun z a1 S1 => z = .norm ∧ S1.lv[t0]? = some (0, 0) ∧
        Ex cb (.round L.l (md.n - 1)) P y0 a1 S1 fun z a2 S2 => match z with
          | .norm => ExI c md P l (putA a x.dst (.bool true)) S2 R
          | .ret => ExI c md P l (putA a x.dst (.bool false)) ⟨S2.bx, S2.lv.set t0 (1, 0)⟩ R
          | .ex i => ExI c md P l (putA a x.dst (.bool false)) ⟨S2.bx, S2.lv.set t0 (i + 2, 0)⟩ R) : ExI c md P (x :: l) a S R := by
  subst ht
  exact ExI.yield hL f args t xs hw ho hf hxs hps hr hn h
theorem Ex.rangeJ {g : AOpd} {ps : List Nat} {x y : ACode} (J : Nat → St → Prop) (f : FuncId) (caps : List AV) (F : AFn) (hg0 : evd a g = .fn f [] caps) (hF : compFn P f = some F) (hres : F.res = []) (hn : c.n ≤ S.bx.length) (hmd : match md with | .plain => True | .round l _ => ∃ L, Fact.bz L ∈ c.fs ∧ L.l = l) (a1 : List AV) (S1 : St) (he : ∀ l, start F (.yld l S.lv.length :: caps) = a1.set 0 (.yld l S.lv.length)) (hS : (⟨S.bx, S.lv ++ [(0, 0)]⟩ : St) = S1)
    (h : ∀ (c1 : Cx) (L : Lp), c1.n = S.bx.length → c1.m = S.lv.length + 1 → L.t = S.lv.length → LpOk P c1 L a ps x y → (∀ L' a' ps' x' y', LpOk P c L' a' ps' x' y' → L'.l ≠ L.l ∧ LpOk P c1 L' a' ps' x' y') →
      Ex c1 .plain P F.code (a1.set 0 (.yld L.l S.lv.length)) S1 fun z a' S' => ∃ a2 S2, Forgets c1 a' S' a2 S2 ∧ (z = .norm ∨ z = .ret) ∧ ∃ k, S2.lv[S.lv.length]? = some (k, 0) ∧ J k S2)
    (k : ∀ k S', J k S' → Q (exitOf k) a S') : Ex c md P (.rangeF g ps x y) a S Q := by
  refine Ex.rangeF f caps F hg0 hF hres hn hmd fun c1 L h1 h2 h3 h4 h5 => ?_
  rw [he, hS]
  refine Ex.postF ((h c1 L h1 h2 h3 h4 h5).mono ?_)
  rintro z a' S' ⟨a2, S2, hf, hz, j, hj, hJ⟩
  exact ⟨a2, S2, hf, hz, j, hj, k j S2 hJ⟩
theorem Ex.two {ca cb : Cx} {x y : ACode} {t0 : Nat} (J : AEx → St → Prop) (h : Ex ca md P x a S fun z a1 S1 => z = .norm ∧ S1.lv[t0]? = some (0, 0) ∧ Ex cb md P y a1 S1 fun z a2 S2 => ∃ a3 S3, Forgets cb a2 S2 a3 S3 ∧ J z S3) (k : ∀ z a2 S2, J z S2 → Q z a2 S2) : Ex ca md P x a S fun z a1 S1 => z = .norm ∧ S1.lv[t0]? = some (0, 0) ∧ Ex cb md P y a1 S1 Q := by
  refine h.mono ?_
  rintro z a1 S1 ⟨h1, h2, h3⟩
  refine ⟨h1, h2, Ex.postF (h3.mono ?_)⟩
  rintro z a2 S2 ⟨a3, S3, hf, hJ⟩
  exact ⟨a3, S3, hf, k z a3 S3 hJ⟩
end rules
end Go.Proofs.Ytfcjcjncfniclaa
end
section
namespace Go.Proofs.Ytfcjcjncfniclaa
open Go.RowKit
set_option linter.unusedVariables false
set_option linter.unusedSimpArgs false

structure TokT where
  f : FuncId
  gs : List AV
  pre : List AV
  els : List AV
  post : List AV
  n : Nat
  s : Nat
def valT (r : TokT) (t : Nat) : AV := .agg (r.pre ++ .sl r.els (some t) :: r.post)
def TokTOk (P : Program) (r : TokT) : Prop := DoesT P r.f r.gs (fun v lv => ∃ t, v = valT r t ∧ lv[t]? = some (r.n, r.s)) ∧ cleanL r.els = true ∧ r.els.length = r.n ∧ (∀ x ∈ r.pre, scal x = true) ∧ (∀ x ∈ r.post, scal x = true)
theorem mid_get {pre post : List AV} {a x : AV} {i : Nat} (h : (pre ++ a :: post)[i]? = some x) : (i = pre.length ∧ x = a) ∨ ((x ∈ pre ∨ x ∈ post) ∧ ∀ b, (pre ++ b :: post)[i]? = some x) := by
  by_cases hi : i < pre.length
  · rw [List.getElem?_append_left hi] at h
    exact .inr ⟨.inl (List.mem_of_getElem? h), fun b => by rw [List.getElem?_append_left hi]; exact h⟩
  · rw [List.getElem?_append_right (by omega)] at h
    obtain ⟨k, hk⟩ : ∃ k, i - pre.length = k := ⟨_, rfl⟩
    rw [hk] at h
    cases k with
    | zero =>
      simp only [List.getElem?_cons_zero, Option.some.injEq] at h
      exact .inl ⟨by omega, h.symm⟩
    | succ k =>
      rw [List.getElem?_cons_succ] at h
      exact .inr ⟨.inr (List.mem_of_getElem? h), fun b => by rw [List.getElem?_append_right (by omega), hk, List.getElem?_cons_succ]; exact h⟩
theorem mid_at (pre post : List AV) (a : AV) : (pre ++ a :: post)[pre.length]? = some a := by simp
open Classical in
noncomputable def tokT (r : TokT) (X : Clr) : Clr := fun f xs S => if f = r.f ∧ fpOf xs = [] ∧ xs.mapM (ren []) = some r.gs then some (valT r S.lv.length, some ⟨S.bx, S.lv ++ [(r.n, r.s)]⟩) else X f xs S
theorem tokT_ok {P : Program} {r : TokT} {X : Clr} (hr : TokTOk P r) (hX : ClrOk P X) : ClrOk P (tokT r X) := ⟨by
  intro f gs S v S' h G w us hI hv
  by_cases hc : f = r.f ∧ fpOf gs = [] ∧ gs.mapM (ren []) = some r.gs
  · simp only [callS, tokT, if_pos hc, Option.some.injEq, Prod.mk.injEq] at h
    obtain ⟨rfl, rfl⟩ := h
    obtain ⟨rfl, hf, hx⟩ := hc
    obtain ⟨hIc, hvc⟩ := call_in (bs := []) (cells := []) hx rfl (by simp) (by simp) hI hv
    refine ⟨hr.1.enter us w, (hr.1.calls (G.sub []) w us hIc hvc).mono ?_⟩
    rintro e w' ⟨u, v, Gc, bx, lv, ⟨t, hvt, hlv⟩, rfl, hvr, hI', hg'⟩
    subst hvt
    unfold valT at hvr
    cases hvr with
    | agg cs vs hl hh =>
      have hlt : r.pre.length < vs.size := by rw [hl]; simp
      have hm := hh r.pre.length _ vs[r.pre.length] (mid_at _ _ _) (Array.getElem?_eq_getElem hlt)
      obtain ⟨G2, hle, h1, h2, h3, h4⟩ := own_tok hI hI' hg' hm hlv hr.2.2.1 hr.2.1
      refine ⟨_, G2, rfl, ?_, h2, h3, h4⟩
      refine .agg _ _ (by rw [hl]; simp) ?_
      intro i x u hx2 hu
      rcases mid_get hx2 with ⟨rfl, rfl⟩ | ⟨hmem, hall⟩
      · rw [Array.getElem?_eq_getElem hlt] at hu
        cases hu
        exact h1
      · refine (hh i x u (hall _) hu).scal ?_
        rcases hmem with hm' | hm'
        · exact hr.2.2.2.1 x hm'
        · exact hr.2.2.2.2 x hm'
  · have h' : callS X f gs S = some (v, S') := by
      simp only [callS, tokT, if_neg hc] at h
      exact h
    exact hX.ok f gs S v S' h' G w us hI hv⟩
theorem tokT_call {r : TokT} {X : Clr} {xs : List AV} {S : St} (hf : fpOf xs = []) (hx : xs.mapM (ren []) = some r.gs) : callS (tokT r X) r.f xs S = some (valT r S.lv.length, ⟨S.bx, S.lv ++ [(r.n, r.s)]⟩) := by
  simp [callS, tokT, hf, hx]
theorem ExO.callTokT {n0 : Cx} {P : Program} {R : List AV → St → Prop} {x : AOper} {l : List AOper} {a : List AV} {S : St} {r : TokT} (hr : TokTOk P r) (xs : List AV) (hw : wantedA x.guard a = some true) (hv : aop x.op (evd a) S = some (.call r.f xs)) (hf : fpOf xs = []) (hx : xs.mapM (ren []) = some r.gs) (h : ExO n0 P l (putA a x.dst (valT r S.lv.length)) ⟨S.bx, S.lv ++ [(r.n, r.s)]⟩ R) : ExO n0 P (x :: l) a S R :=
  ExO.op (tokT_ok hr (noClr_ok P)) hw (by rw [evOp_call hv, tokT_call hf hx]) h
end Go.Proofs.Ytfcjcjncfniclaa
end
section
namespace Go.Proofs.Ytfcjcjncfniclaa
set_option linter.unusedVariables false
set_option maxRecDepth 100000

def F8 : AFn := ⟨1, 189, [.tmp 2], (.seq (.reg [⟨some 2, .mov (.con (.bool false)), none⟩]) (.seq (.reg [⟨some 24, .mov (.tmp 0), none⟩, ⟨some 25, .call (.con (.fn 11 [] [])) [(.tmp 24)], none⟩, ⟨some 3, .mov (.tmp 25), none⟩]) (.seq (.reg [⟨some 26, .mov (.tmp 3), none⟩, ⟨some 27, .call (.con (.fn 10 [] [])) [(.tmp 26), (.con (.int .i64 8))], none⟩, ⟨some 4, .box (.con (.agg [.int .i64 0, .int .i64 0, .int .i64 0, .int .i64 0, .int .i64 0, .int .i64 0, .int .i64 0, .int .i64 0, .nils])), none⟩, ⟨none, .store 9 (.tmp 4) (.tmp 27), none⟩]) (.seq (.reg [⟨some 28, .mov (.tmp 3), none⟩, ⟨some 29, .call (.con (.fn 38 [] [])) [(.tmp 28), (.con (.int .i64 400))], none⟩, ⟨some 5, .mov (.tmp 29), none⟩]) (.seq (.reg [⟨some 31, .load (some 9) (.tmp 4), none⟩, ⟨some 32, .mov (.tmp 5), none⟩, ⟨some 33, .call (.con (.fn 39 [] [])) [(.tmp 31), (.tmp 32)], none⟩, ⟨some 30, .mov (.tmp 33), none⟩, ⟨some 34, .ext (.tmp 30) 0, none⟩, ⟨some 35, .ext (.tmp 30) 1, none⟩, ⟨some 36, .ext (.tmp 30) 2, none⟩, ⟨some 6, .mov (.tmp 34), none⟩, ⟨some 7, .mov (.tmp 35), none⟩, ⟨some 8, .mov (.tmp 36), none⟩]) (.seq (.dreg 12 [⟨some 38, .load (some 9) (.tmp 4), none⟩, ⟨some 39, .mov (.tmp 5), none⟩, ⟨some 40, .mov (.tmp 3), none⟩, ⟨some 41, .call (.con (.fn 38 [] [])) [(.tmp 40), (.con (.int .i64 200))], none⟩, ⟨some 42, .bin .add (.tmp 39) (.tmp 41), none⟩, ⟨some 43, .call (.con (.fn 39 [] [])) [(.tmp 38), (.tmp 42)], none⟩, ⟨some 37, .mov (.tmp 43), none⟩, ⟨some 44, .ext (.tmp 37) 0, none⟩, ⟨some 45, .ext (.tmp 37) 1, none⟩, ⟨some 46, .ext (.tmp 37) 2, none⟩, ⟨some 9, .mov (.tmp 44), none⟩, ⟨some 10, .mov (.tmp 45), none⟩, ⟨some 11, .mov (.tmp 46), none⟩]) (.seq (.seq (.reg [⟨some 47, .mov (.tmp 8), none⟩, ⟨some 48, .bin .neq (.tmp 47) (.con (.int .i64 0)), none⟩, ⟨some 49, .mov (.tmp 48), none⟩, ⟨some 50, .mov (.tmp 11), some (49, false)⟩, ⟨some 51, .bin .neq (.tmp 50) (.con (.int .i64 0)), some (49, false)⟩, ⟨some 52, .pick (.tmp 49) (.con (.bool true)) (.tmp 51), none⟩, ⟨some 53, .mov (.tmp 52), none⟩, ⟨some 54, .mov (.tmp 7), some (53, false)⟩, ⟨some 55, .mov (.tmp 10), some (53, false)⟩, ⟨some 56, .bin .neq (.tmp 54) (.tmp 55), some (53, false)⟩, ⟨some 57, .pick (.tmp 53) (.con (.bool true)) (.tmp 56), none⟩]) (.cond (.tmp 57) (.seq (.reg [⟨some 2, .mov (.con (.bool false)), none⟩]) .ret) .skip)) (.seq (.reg [⟨some 12, .mov (.con (.int .i64 0)), none⟩]) (.seq (.seq (.reg [⟨some 13, .mov (.con (.int .i64 0)), none⟩]) (.block 0 (.loop (.seq (.seq (.reg [⟨some 58, .mov (.tmp 13), none⟩, ⟨some 59, .mov (.tmp 6), none⟩, ⟨some 60, .len false (.tmp 59), none⟩, ⟨some 61, .bin .lss (.tmp 58) (.tmp 60), none⟩]) (.cond (.tmp 61) .skip (.exit 0))) (.seq (.block 1 (.seq (.block 2 (.loop (.seq (.seq (.dreg 13 [⟨some 64, .mov (.tmp 12), none⟩, ⟨some 65, .mov (.tmp 9), none⟩, ⟨some 66, .len false (.tmp 65), none⟩, ⟨some 67, .bin .lss (.tmp 64) (.tmp 66), none⟩, ⟨some 68, .mov (.tmp 67), none⟩, ⟨some 69, .mov (.tmp 9), some (68, true)⟩, ⟨some 70, .mov (.tmp 12), some (68, true)⟩, ⟨some 71, .iaddr (.tmp 69) (.tmp 70) 2 none, some (68, true)⟩, ⟨some 72, .load (some 2) (.tmp 71), some (68, true)⟩, ⟨some 73, .mov (.tmp 6), some (68, true)⟩, ⟨some 74, .mov (.tmp 13), some (68, true)⟩, ⟨some 75, .iaddr (.tmp 73) (.tmp 74) 2 none, some (68, true)⟩, ⟨some 76, .load (some 2) (.tmp 75), some (68, true)⟩, ⟨some 77, .eqs true (.cons 0 none (.sc 1) (.cons 1 none (.sc 1) .nil)) (.tmp 72) (.tmp 76), some (68, true)⟩, ⟨some 78, .pick (.tmp 68) (.tmp 77) (.con (.bool false)), none⟩]) (.cond (.tmp 78) .skip (.exit 2))) (.block 3 (.reg [⟨some 79, .mov (.tmp 12), none⟩, ⟨some 80, .bin .add (.tmp 79) (.con (.int .i64 1)), none⟩, ⟨some 12, .mov (.tmp 80), none⟩]))))) (.seq (.reg [⟨some 81, .mov (.tmp 12), none⟩, ⟨some 82, .mov (.tmp 9), none⟩, ⟨some 83, .len false (.tmp 82), none⟩, ⟨some 84, .bin .eql (.tmp 81) (.tmp 83), none⟩]) (.cond (.tmp 84) (.seq (.reg [⟨some 2, .mov (.con (.bool false)), none⟩]) .ret) .skip)))) (.reg [⟨some 62, .mov (.tmp 13), none⟩, ⟨some 63, .bin .add (.tmp 62) (.con (.int .i64 1)), none⟩, ⟨some 13, .mov (.tmp 63), none⟩])))))) (.seq (.reg [⟨some 14, .mov (.con (.int .i64 0)), none⟩]) (.seq (.seq (.reg [⟨some 15, .mov (.con (.int .i64 0)), none⟩]) (.block 4 (.loop (.seq (.seq (.reg [⟨some 85, .mov (.tmp 15), none⟩, ⟨some 86, .faddr (.tmp 4) 8, none⟩, ⟨some 87, .load none (.tmp 86), none⟩, ⟨some 88, .len false (.tmp 87), none⟩, ⟨some 89, .bin .lss (.tmp 85) (.tmp 88), none⟩]) (.cond (.tmp 89) .skip (.exit 4))) (.seq (.block 5 (.seq (.reg [⟨some 16, .mov (.con (.int .i64 0)), none⟩]) (.block 6 (.loop (.seq (.seq (.reg [⟨some 92, .mov (.tmp 16), none⟩, ⟨some 93, .faddr (.tmp 4) 8, none⟩, ⟨some 94, .load none (.tmp 93), none⟩, ⟨some 95, .len false (.tmp 94), none⟩, ⟨some 96, .bin .lss (.tmp 92) (.tmp 95), none⟩]) (.cond (.tmp 96) .skip (.exit 6))) (.seq (.block 7 (.seq (.dreg 13 [⟨some 99, .faddr (.tmp 4) 8, none⟩, ⟨some 100, .load none (.tmp 99), none⟩, ⟨some 101, .mov (.tmp 15), none⟩, ⟨some 102, .iaddr (.tmp 100) (.tmp 101) 7 none, none⟩, ⟨some 103, .load (some 7) (.tmp 102), none⟩, ⟨some 104, .faddr (.tmp 4) 8, none⟩, ⟨some 105, .load none (.tmp 104), none⟩, ⟨some 106, .mov (.tmp 16), none⟩, ⟨some 107, .iaddr (.tmp 105) (.tmp 106) 7 none, none⟩, ⟨some 108, .load (some 7) (.tmp 107), none⟩, ⟨some 17, .box (.con (.agg [.int .i64 0, .int .i64 0, .int .i64 0, .int .i64 0, .int .i64 0, .int .i64 0, .int .i64 0])), none⟩, ⟨some 18, .box (.con (.agg [.int .i64 0, .int .i64 0, .int .i64 0, .int .i64 0, .int .i64 0, .int .i64 0, .int .i64 0])), none⟩, ⟨none, .store 7 (.tmp 17) (.tmp 103), none⟩, ⟨none, .store 7 (.tmp 18) (.tmp 108), none⟩]) (.seq (.reg [⟨some 109, .faddr (.tmp 17) 5, none⟩, ⟨some 110, .load none (.tmp 109), none⟩, ⟨some 111, .bin .eql (.tmp 110) (.con (.int .i64 2)), none⟩, ⟨some 112, .mov (.tmp 111), none⟩, ⟨some 113, .faddr (.tmp 18) 5, some (112, true)⟩, ⟨some 114, .load none (.tmp 113), some (112, true)⟩, ⟨some 115, .bin .eql (.tmp 114) (.con (.int .i64 4)), some (112, true)⟩, ⟨some 116, .pick (.tmp 112) (.tmp 115) (.con (.bool false)), none⟩, ⟨some 117, .mov (.tmp 116), none⟩, ⟨some 118, .faddr (.tmp 17) 0, some (117, true)⟩, ⟨some 119, .load none (.tmp 118), some (117, true)⟩, ⟨some 120, .faddr (.tmp 18) 0, some (117, true)⟩, ⟨some 121, .load none (.tmp 120), some (117, true)⟩, ⟨some 122, .bin .sub (.tmp 119) (.tmp 121), some (117, true)⟩, ⟨some 123, .mov (.tmp 5), some (117, true)⟩, ⟨some 124, .bin .lss (.tmp 122) (.tmp 123), some (117, true)⟩, ⟨some 125, .pick (.tmp 117) (.tmp 124) (.con (.bool false)), none⟩, ⟨some 126, .mov (.tmp 125), none⟩, ⟨some 127, .faddr (.tmp 18) 0, some (126, true)⟩, ⟨some 128, .load none (.tmp 127), some (126, true)⟩, ⟨some 129, .faddr (.tmp 17) 0, some (126, true)⟩, ⟨some 130, .load none (.tmp 129), some (126, true)⟩, ⟨some 131, .bin .sub (.tmp 128) (.tmp 130), some (126, true)⟩, ⟨some 132, .mov (.tmp 5), some (126, true)⟩, ⟨some 133, .bin .lss (.tmp 131) (.tmp 132), some (126, true)⟩, ⟨some 134, .pick (.tmp 126) (.tmp 133) (.con (.bool false)), none⟩]) (.cond (.tmp 134) (.seq (.seq (.reg [⟨some 135, .mov (.tmp 14), none⟩, ⟨some 136, .mov (.tmp 6), none⟩, ⟨some 137, .len false (.tmp 136), none⟩, ⟨some 138, .bin .geq (.tmp 135) (.tmp 137), none⟩, ⟨some 139, .mov (.tmp 138), none⟩, ⟨some 140, .mov (.tmp 6), some (139, false)⟩, ⟨some 141, .mov (.tmp 14), some (139, false)⟩, ⟨some 142, .iaddr (.tmp 140) (.tmp 141) 2 none, some (139, false)⟩, ⟨some 143, .load (some 2) (.tmp 142), some (139, false)⟩, ⟨some 144, .mov (.tmp 15), some (139, false)⟩, ⟨some 145, .mov (.tmp 16), some (139, false)⟩, ⟨some 146, .build [.int .i64 0, .int .i64 0] [(0, 1, (.tmp 144)), (1, 1, (.tmp 145))], some (139, false)⟩, ⟨some 147, .eqs true (.cons 0 none (.sc 1) (.cons 1 none (.sc 1) .nil)) (.tmp 143) (.tmp 146), some (139, false)⟩, ⟨some 148, .pick (.tmp 139) (.con (.bool true)) (.tmp 147), none⟩]) (.cond (.tmp 148) (.seq (.reg [⟨some 2, .mov (.con (.bool false)), none⟩]) .ret) .skip)) (.reg [⟨some 149, .mov (.tmp 14), none⟩, ⟨some 150, .bin .add (.tmp 149) (.con (.int .i64 1)), none⟩, ⟨some 14, .mov (.tmp 150), none⟩])) .skip)))) (.reg [⟨some 97, .mov (.tmp 16), none⟩, ⟨some 98, .bin .add (.tmp 97) (.con (.int .i64 1)), none⟩, ⟨some 16, .mov (.tmp 98), none⟩]))))))) (.reg [⟨some 90, .mov (.tmp 15), none⟩, ⟨some 91, .bin .add (.tmp 90) (.con (.int .i64 1)), none⟩, ⟨some 15, .mov (.tmp 91), none⟩])))))) (.seq (.reg [⟨some 151, .load (some 9) (.tmp 4), none⟩, ⟨some 152, .call (.con (.fn 12 [] [])) [(.tmp 151)], none⟩, ⟨some 19, .box (.con (.agg [.int .i64 0, .int .i64 0, .int .i64 0, .int .i64 0, .int .i64 0, .int .i64 0, .int .i64 0, .int .i64 0, .nils])), none⟩, ⟨none, .store 9 (.tmp 19) (.tmp 152), none⟩]) (.seq (.reg [⟨some 153, .mov (.tmp 3), none⟩, ⟨some 154, .call (.con (.fn 38 [] [])) [(.tmp 153), (.con (.int .i64 1000001))], none⟩, ⟨some 20, .mov (.tmp 154), none⟩]) (.seq (.reg [⟨some 155, .faddr (.tmp 19) 8, none⟩, ⟨some 156, .load none (.tmp 155), none⟩, ⟨some 157, .faddr (.tmp 4) 2, none⟩, ⟨some 158, .load none (.tmp 157), none⟩, ⟨some 159, .mov (.tmp 20), none⟩, ⟨some 160, .build [.int .i64 0, .int .i64 0, .int .i64 0, .int .i64 0, .int .i64 0, .int .i64 0, .int .i64 0] [(0, 1, (.tmp 158)), (5, 1, (.con (.int .i64 2))), (6, 1, (.tmp 159))], none⟩, ⟨some 161, .bsl 7 true [.int .i64 0, .int .i64 0, .int .i64 0, .int .i64 0, .int .i64 0, .int .i64 0, .int .i64 0] 1 [(0, (.tmp 160))], none⟩, ⟨some 162, .app (.tmp 156) (.tmp 161) 7 56 [.int .i64 0, .int .i64 0, .int .i64 0, .int .i64 0, .int .i64 0, .int .i64 0, .int .i64 0], none⟩, ⟨some 163, .faddr (.tmp 19) 8, none⟩, ⟨none, .store 1 (.tmp 163) (.tmp 162), none⟩]) (.seq (.reg [⟨some 165, .load (some 9) (.tmp 19), none⟩, ⟨some 166, .mov (.tmp 5), none⟩, ⟨some 167, .call (.con (.fn 39 [] [])) [(.tmp 165), (.tmp 166)], none⟩, ⟨some 164, .mov (.tmp 167), none⟩, ⟨some 168, .ext (.tmp 164) 0, none⟩, ⟨some 169, .ext (.tmp 164) 1, none⟩, ⟨some 170, .ext (.tmp 164) 2, none⟩, ⟨some 21, .mov (.tmp 168), none⟩, ⟨some 22, .mov (.tmp 169), none⟩, ⟨some 23, .mov (.tmp 170), none⟩]) (.seq (.reg [⟨some 171, .mov (.tmp 14), none⟩, ⟨some 172, .mov (.tmp 6), none⟩, ⟨some 173, .len false (.tmp 172), none⟩, ⟨some 174, .bin .eql (.tmp 171) (.tmp 173), none⟩, ⟨some 175, .mov (.tmp 174), none⟩, ⟨some 176, .mov (.tmp 23), some (175, true)⟩, ⟨some 177, .bin .eql (.tmp 176) (.con (.int .i64 0)), some (175, true)⟩, ⟨some 178, .pick (.tmp 175) (.tmp 177) (.con (.bool false)), none⟩, ⟨some 179, .mov (.tmp 178), none⟩, ⟨some 180, .mov (.tmp 22), some (179, true)⟩, ⟨some 181, .mov (.tmp 7), some (179, true)⟩, ⟨some 182, .mov (.tmp 20), some (179, true)⟩, ⟨some 183, .bin .add (.tmp 181) (.tmp 182), some (179, true)⟩, ⟨some 184, .bin .eql (.tmp 180) (.tmp 183), some (179, true)⟩, ⟨some 185, .pick (.tmp 179) (.tmp 184) (.con (.bool false)), none⟩, ⟨some 186, .mov (.tmp 185), none⟩, ⟨some 187, .call (.con (.fn 9 [] [])) [], some (186, true)⟩, ⟨some 188, .pick (.tmp 186) (.tmp 187) (.con (.bool false)), none⟩, ⟨some 2, .mov (.tmp 188), none⟩]) .ret))))))))))))))))⟩
theorem comp8 : compFn Try.prog 8 = some F8 := by kernel_rfl
def F9 : AFn := ⟨0, 58, [.tmp 0], (.seq (.reg [⟨some 0, .mov (.con (.bool false)), none⟩]) (.seq (.reg [⟨some 9, .call (.con (.fn 54 [] [])) [], none⟩, ⟨some 10, .call (.con (.fn 16 [] [])) [(.tmp 9)], none⟩, ⟨some 8, .mov (.tmp 10), none⟩, ⟨some 11, .ext (.tmp 8) 0, none⟩, ⟨some 12, .ext (.tmp 8) 1, none⟩, ⟨some 13, .ext (.tmp 8) 2, none⟩, ⟨some 1, .box (.con (.agg [.int .i64 0, .int .i64 0])), none⟩, ⟨some 2, .box (.con (.agg [.int .i64 0, .int .i64 0])), none⟩, ⟨none, .store 2 (.tmp 1) (.tmp 11), none⟩, ⟨none, .store 2 (.tmp 2) (.tmp 12), none⟩, ⟨some 3, .mov (.tmp 13), none⟩]) (.seq (.reg [⟨some 15, .call (.con (.fn 54 [] [])) [], none⟩, ⟨some 16, .call (.con (.fn 55 [] [])) [(.con (.int .i64 1)), (.con (.int .i64 700)), (.con (.int .i64 1400))], none⟩, ⟨some 17, .call (.con (.fn 55 [] [])) [(.con (.int .i64 2)), (.con (.int .i64 519)), (.con (.int .i64 0))], none⟩, ⟨some 18, .call (.con (.fn 55 [] [])) [(.con (.int .i64 3)), (.con (.int .i64 5649)), (.con (.int .i64 3067))], none⟩, ⟨some 19, .bsl 3 true [.int .i64 0, .int .i64 0, .int .i64 0] 3 [(0, (.tmp 16)), (1, (.tmp 17)), (2, (.tmp 18))], none⟩, ⟨some 20, .call (.con (.fn 28 [] [])) [(.tmp 15), (.tmp 19)], none⟩, ⟨some 14, .mov (.tmp 20), none⟩, ⟨some 21, .ext (.tmp 14) 0, none⟩, ⟨some 22, .ext (.tmp 14) 1, none⟩, ⟨some 4, .mov (.tmp 21), none⟩, ⟨some 5, .mov (.tmp 22), none⟩]) (.seq (.reg [⟨some 24, .call (.con (.fn 56 [] [])) [(.con (.int .i64 900))], none⟩, ⟨some 25, .call (.con (.fn 32 [] [])) [(.tmp 24), (.con (.nils)), (.con (.int .i64 200))], none⟩, ⟨some 23, .mov (.tmp 25), none⟩, ⟨some 26, .ext (.tmp 23) 0, none⟩, ⟨some 27, .ext (.tmp 23) 1, none⟩, ⟨some 6, .box (.con (.agg [.int .i64 0, .int .i64 0])), none⟩, ⟨none, .store 2 (.tmp 6) (.tmp 26), none⟩, ⟨some 7, .mov (.tmp 27), none⟩]) (.seq (.dreg 28 [⟨some 28, .mov (.tmp 3), none⟩, ⟨some 29, .bin .eql (.tmp 28) (.con (.int .i64 0)), none⟩, ⟨some 30, .mov (.tmp 29), none⟩, ⟨some 31, .mov (.tmp 5), some (30, true)⟩, ⟨some 32, .bin .eql (.tmp 31) (.con (.int .i64 0)), some (30, true)⟩, ⟨some 33, .pick (.tmp 30) (.tmp 32) (.con (.bool false)), none⟩, ⟨some 34, .mov (.tmp 33), none⟩, ⟨some 35, .mov (.tmp 7), some (34, true)⟩, ⟨some 36, .bin .eql (.tmp 35) (.con (.int .i64 0)), some (34, true)⟩, ⟨some 37, .pick (.tmp 34) (.tmp 36) (.con (.bool false)), none⟩, ⟨some 38, .mov (.tmp 37), none⟩, ⟨some 39, .load (some 2) (.tmp 1), some (38, true)⟩, ⟨some 40, .call (.con (.fn 50 [] [])) [(.con (.int .i64 2650)), (.con (.int .i64 2784))], some (38, true)⟩, ⟨some 41, .eqs false (.cons 0 none (.sc 1) (.cons 1 none (.sc 1) .nil)) (.tmp 39) (.tmp 40), some (38, true)⟩, ⟨some 42, .pick (.tmp 38) (.tmp 41) (.con (.bool false)), none⟩, ⟨some 43, .mov (.tmp 42), none⟩, ⟨some 44, .load (some 2) (.tmp 2), some (43, true)⟩, ⟨some 45, .call (.con (.fn 50 [] [])) [(.con (.int .i64 3000)), (.con (.int .i64 3067))], some (43, true)⟩, ⟨some 46, .eqs false (.cons 0 none (.sc 1) (.cons 1 none (.sc 1) .nil)) (.tmp 44) (.tmp 45), some (43, true)⟩, ⟨some 47, .pick (.tmp 43) (.tmp 46) (.con (.bool false)), none⟩, ⟨some 48, .mov (.tmp 47), none⟩, ⟨some 49, .mov (.tmp 4), some (48, true)⟩, ⟨some 50, .bsl 1 false [.int .i64 0] 3 [(0, (.con (.int .i64 1))), (1, (.con (.int .i64 3))), (2, (.con (.int .i64 2)))], some (48, true)⟩, ⟨some 51, .call (.con (.fn 36 [] [])) [(.tmp 49), (.tmp 50)], some (48, true)⟩, ⟨some 52, .pick (.tmp 48) (.tmp 51) (.con (.bool false)), none⟩, ⟨some 53, .mov (.tmp 52), none⟩, ⟨some 54, .load (some 2) (.tmp 6), some (53, true)⟩, ⟨some 55, .call (.con (.fn 50 [] [])) [(.con (.int .i64 17)), (.con (.int .i64 100000))], some (53, true)⟩, ⟨some 56, .eqs false (.cons 0 none (.sc 1) (.cons 1 none (.sc 1) .nil)) (.tmp 54) (.tmp 55), some (53, true)⟩, ⟨some 57, .pick (.tmp 53) (.tmp 56) (.con (.bool false)), none⟩, ⟨some 0, .mov (.tmp 57), none⟩]) .ret)))))⟩
theorem comp9 : compFn Try.prog 9 = some F9 := by kernel_rfl
def F10 : AFn := ⟨2, 91, [.cell 4 (some 9)], (.seq (.reg [⟨some 4, .box (.con (.agg [.int .i64 0, .int .i64 0, .int .i64 0, .int .i64 0, .int .i64 0, .int .i64 0, .int .i64 0, .int .i64 0, .nils])), none⟩]) (.seq (.reg [⟨some 8, .mov (.tmp 0), none⟩, ⟨some 9, .mov (.tmp 0), none⟩, ⟨some 10, .bsl 1 false [.int .i64 0] 2 [(0, (.con (.int .i64 20))), (1, (.con (.int .i64 1200)))], none⟩, ⟨some 11, .call (.con (.fn 57 [] [])) [(.tmp 9), (.tmp 10)], none⟩, ⟨some 12, .call (.con (.fn 27 [] [])) [(.tmp 8), (.con (.int .i64 2)), (.tmp 11)], none⟩, ⟨some 13, .mov (.tmp 0), none⟩, ⟨some 14, .call (.con (.fn 27 [] [])) [(.tmp 13), (.con (.int .i64 1)), (.con (.int .i64 400))], none⟩, ⟨some 15, .mov (.tmp 0), none⟩, ⟨some 16, .mov (.tmp 0), none⟩, ⟨some 17, .call (.con (.fn 38 [] [])) [(.tmp 16), (.con (.int .i64 1500))], none⟩, ⟨some 18, .bsl 1 false [.int .i64 0] 2 [(0, (.con (.int .i64 0))), (1, (.tmp 17))], none⟩, ⟨some 19, .call (.con (.fn 57 [] [])) [(.tmp 15), (.tmp 18)], none⟩, ⟨some 20, .mov (.tmp 0), none⟩, ⟨some 21, .mov (.tmp 0), none⟩, ⟨some 22, .call (.con (.fn 38 [] [])) [(.tmp 21), (.con (.int .i64 5000))], none⟩, ⟨some 23, .bsl 1 false [.int .i64 0] 2 [(0, (.con (.int .i64 0))), (1, (.tmp 22))], none⟩, ⟨some 24, .call (.con (.fn 57 [] [])) [(.tmp 20), (.tmp 23)], none⟩, ⟨some 25, .mov (.tmp 0), none⟩, ⟨some 26, .call (.con (.fn 38 [] [])) [(.tmp 25), (.con (.int .i64 500))], none⟩, ⟨some 27, .build [.int .i64 0, .int .i64 0, .int .i64 0, .int .i64 0, .int .i64 0, .int .i64 0, .int .i64 0, .int .i64 0, .nils] [(0, 1, (.tmp 12)), (1, 1, (.tmp 14)), (4, 1, (.tmp 19)), (5, 1, (.tmp 24)), (7, 1, (.tmp 26))], none⟩, ⟨some 5, .box (.con (.agg [.int .i64 0, .int .i64 0, .int .i64 0, .int .i64 0, .int .i64 0, .int .i64 0, .int .i64 0, .int .i64 0, .nils])), none⟩, ⟨none, .store 9 (.tmp 5) (.tmp 27), none⟩]) (.seq (.reg [⟨some 28, .mov (.tmp 0), none⟩, ⟨some 29, .faddr (.tmp 5) 0, none⟩, ⟨some 30, .load none (.tmp 29), none⟩, ⟨some 31, .call (.con (.fn 38 [] [])) [(.tmp 28), (.tmp 30)], none⟩, ⟨some 32, .faddr (.tmp 5) 2, none⟩, ⟨none, .store 1 (.tmp 32) (.tmp 31), none⟩]) (.seq (.reg [⟨some 33, .mov (.tmp 0), none⟩, ⟨some 34, .faddr (.tmp 5) 2, none⟩, ⟨some 35, .load none (.tmp 34), none⟩, ⟨some 36, .bin .add (.tmp 35) (.con (.int .i64 1)), none⟩, ⟨some 37, .faddr (.tmp 5) 0, none⟩, ⟨some 38, .load none (.tmp 37), none⟩, ⟨some 39, .call (.con (.fn 27 [] [])) [(.tmp 33), (.tmp 36), (.tmp 38)], none⟩, ⟨some 40, .faddr (.tmp 5) 3, none⟩, ⟨none, .store 1 (.tmp 40) (.tmp 39), none⟩]) (.seq (.reg [⟨some 41, .mov (.tmp 0), none⟩, ⟨some 42, .faddr (.tmp 5) 0, none⟩, ⟨some 43, .load none (.tmp 42), none⟩, ⟨some 44, .call (.con (.fn 27 [] [])) [(.tmp 41), (.con (.int .i64 0)), (.tmp 43)], none⟩, ⟨some 45, .faddr (.tmp 5) 6, none⟩, ⟨none, .store 1 (.tmp 45) (.tmp 44), none⟩]) (.seq (.seq (.reg [⟨some 46, .mov (.tmp 0), none⟩, ⟨some 47, .mov (.tmp 1), none⟩, ⟨some 48, .bin .add (.tmp 47) (.con (.int .i64 1)), none⟩, ⟨some 49, .call (.con (.fn 38 [] [])) [(.tmp 46), (.tmp 48)], none⟩, ⟨some 6, .mov (.tmp 49), none⟩]) (.block 0 (.loop (.seq (.seq (.reg [⟨some 50, .mov (.tmp 6), none⟩, ⟨some 51, .bin .gtr (.tmp 50) (.con (.int .i64 0)), none⟩]) (.cond (.tmp 51) .skip (.exit 0))) (.seq (.block 1 (.seq (.reg [⟨some 54, .mov (.tmp 0), none⟩, ⟨some 55, .faddr (.tmp 5) 2, none⟩, ⟨some 56, .load none (.tmp 55), none⟩, ⟨some 57, .faddr (.tmp 5) 3, none⟩, ⟨some 58, .load none (.tmp 57), none⟩, ⟨some 59, .call (.con (.fn 27 [] [])) [(.tmp 54), (.tmp 56), (.tmp 58)], none⟩, ⟨some 60, .mov (.tmp 0), none⟩, ⟨some 61, .mov (.tmp 0), none⟩, ⟨some 62, .bsl 1 false [.int .i64 0] 2 [(0, (.con (.int .i64 5))), (1, (.con (.int .i64 900)))], none⟩, ⟨some 63, .call (.con (.fn 57 [] [])) [(.tmp 61), (.tmp 62)], none⟩, ⟨some 64, .call (.con (.fn 58 [] [])) [(.tmp 60), (.con (.int .i64 0)), (.tmp 63)], none⟩, ⟨some 65, .mov (.tmp 0), none⟩, ⟨some 66, .mov (.tmp 0), none⟩, ⟨some 67, .bsl 1 false [.int .i64 0] 2 [(0, (.con (.int .i64 20))), (1, (.con (.int .i64 700)))], none⟩, ⟨some 68, .call (.con (.fn 57 [] [])) [(.tmp 66), (.tmp 67)], none⟩, ⟨some 69, .call (.con (.fn 58 [] [])) [(.tmp 65), (.con (.int .i64 0)), (.tmp 68)], none⟩, ⟨some 70, .mov (.tmp 0), none⟩, ⟨some 71, .call (.con (.fn 27 [] [])) [(.tmp 70), (.con (.int .i64 1)), (.con (.int .i64 4))], none⟩, ⟨some 72, .build [.int .i64 0, .int .i64 0, .int .i64 0, .int .i64 0, .int .i64 0, .int .i64 0, .int .i64 0] [(0, 1, (.tmp 59)), (1, 2, (.tmp 64)), (3, 2, (.tmp 69)), (5, 1, (.tmp 71))], none⟩, ⟨some 7, .box (.con (.agg [.int .i64 0, .int .i64 0, .int .i64 0, .int .i64 0, .int .i64 0, .int .i64 0, .int .i64 0])), none⟩, ⟨none, .store 7 (.tmp 7) (.tmp 72), none⟩]) (.seq (.seq (.reg [⟨some 73, .faddr (.tmp 7) 5, none⟩, ⟨some 74, .load none (.tmp 73), none⟩, ⟨some 75, .bin .eql (.tmp 74) (.con (.int .i64 2)), none⟩, ⟨some 76, .mov (.tmp 75), none⟩, ⟨some 77, .faddr (.tmp 7) 5, some (76, false)⟩, ⟨some 78, .load none (.tmp 77), some (76, false)⟩, ⟨some 79, .bin .eql (.tmp 78) (.con (.int .i64 3)), some (76, false)⟩, ⟨some 80, .pick (.tmp 76) (.con (.bool true)) (.tmp 79), none⟩]) (.cond (.tmp 80) (.reg [⟨some 81, .mov (.tmp 0), none⟩, ⟨some 82, .call (.con (.fn 38 [] [])) [(.tmp 81), (.con (.int .i64 3000))], none⟩, ⟨some 83, .faddr (.tmp 7) 6, none⟩, ⟨none, .store 1 (.tmp 83) (.tmp 82), none⟩]) .skip)) (.reg [⟨some 84, .faddr (.tmp 5) 8, none⟩, ⟨some 85, .load none (.tmp 84), none⟩, ⟨some 86, .load (some 7) (.tmp 7), none⟩, ⟨some 87, .bsl 7 true [.int .i64 0, .int .i64 0, .int .i64 0, .int .i64 0, .int .i64 0, .int .i64 0, .int .i64 0] 1 [(0, (.tmp 86))], none⟩, ⟨some 88, .app (.tmp 85) (.tmp 87) 7 56 [.int .i64 0, .int .i64 0, .int .i64 0, .int .i64 0, .int .i64 0, .int .i64 0, .int .i64 0], none⟩, ⟨some 89, .faddr (.tmp 5) 8, none⟩, ⟨none, .store 1 (.tmp 89) (.tmp 88), none⟩])))) (.reg [⟨some 52, .mov (.tmp 6), none⟩, ⟨some 53, .bin .sub (.tmp 52) (.con (.int .i64 1)), none⟩, ⟨some 6, .mov (.tmp 53), none⟩])))))) (.seq (.reg [⟨some 90, .load (some 9) (.tmp 5), none⟩, ⟨none, .store 9 (.tmp 4) (.tmp 90), none⟩]) .ret)))))))⟩
theorem comp10 : compFn Try.prog 10 = some F10 := by kernel_rfl
def F11 : AFn := ⟨1, 29, [.tmp 2], (.seq (.reg [⟨some 2, .mov (.con (.nilp)), none⟩]) (.seq (.reg [⟨some 5, .build [.int .u64 0] [(0, 1, (.con (.int .u64 2685821657736338717)))], none⟩, ⟨some 6, .box (.tmp 5), none⟩, ⟨some 3, .mov (.tmp 6), none⟩]) (.seq (.seq (.reg [⟨some 4, .mov (.con (.int .i64 0)), none⟩]) (.block 0 (.loop (.seq (.seq (.reg [⟨some 7, .mov (.tmp 4), none⟩, ⟨some 8, .mov (.tmp 0), none⟩, ⟨some 9, .len false (.tmp 8), none⟩, ⟨some 10, .bin .lss (.tmp 7) (.tmp 9), none⟩]) (.cond (.tmp 10) .skip (.exit 0))) (.seq (.block 1 (.seq (.dreg 11 [⟨some 13, .mov (.tmp 3), none⟩, ⟨some 14, .mov (.tmp 3), none⟩, ⟨some 15, .nilck (.tmp 14), none⟩, ⟨some 16, .faddr (.tmp 15) 0, none⟩, ⟨some 17, .load none (.tmp 16), none⟩, ⟨some 18, .mov (.tmp 0), none⟩, ⟨some 19, .mov (.tmp 4), none⟩, ⟨some 20, .iaddr (.tmp 18) (.tmp 19) 1 none, none⟩, ⟨some 21, .load none (.tmp 20), none⟩, ⟨some 22, .conv .u64 (.tmp 21), none⟩, ⟨some 23, .bin .xor (.tmp 17) (.tmp 22), none⟩, ⟨some 24, .nilck (.tmp 13), none⟩, ⟨some 25, .faddr (.tmp 24) 0, none⟩, ⟨none, .store 1 (.tmp 25) (.tmp 23), none⟩]) (.reg [⟨some 26, .mov (.tmp 3), none⟩, ⟨some 27, .call (.con (.fn 59 [] [])) [(.tmp 26)], none⟩]))) (.reg [⟨some 11, .mov (.tmp 4), none⟩, ⟨some 12, .bin .add (.tmp 11) (.con (.int .i64 1)), none⟩, ⟨some 4, .mov (.tmp 12), none⟩])))))) (.seq (.reg [⟨some 28, .mov (.tmp 3), none⟩, ⟨some 2, .mov (.tmp 28), none⟩]) .ret))))⟩
theorem comp11 : compFn Try.prog 11 = some F11 := by kernel_rfl
def F12 : AFn := ⟨1, 9, [.cell 2 (some 9)], (.seq (.reg [⟨some 1, .box (.tmp 0), none⟩, ⟨some 2, .box (.con (.agg [.int .i64 0, .int .i64 0, .int .i64 0, .int .i64 0, .int .i64 0, .int .i64 0, .int .i64 0, .int .i64 0, .nils])), none⟩]) (.seq (.reg [⟨some 3, .bsl 7 true [.int .i64 0, .int .i64 0, .int .i64 0, .int .i64 0, .int .i64 0, .int .i64 0, .int .i64 0] 0 [], none⟩, ⟨some 4, .faddr (.tmp 1) 8, none⟩, ⟨some 5, .load none (.tmp 4), none⟩, ⟨some 6, .app (.tmp 3) (.tmp 5) 7 56 [.int .i64 0, .int .i64 0, .int .i64 0, .int .i64 0, .int .i64 0, .int .i64 0, .int .i64 0], none⟩, ⟨some 7, .faddr (.tmp 1) 8, none⟩, ⟨none, .store 1 (.tmp 7) (.tmp 6), none⟩]) (.seq (.reg [⟨some 8, .load (some 9) (.tmp 1), none⟩, ⟨none, .store 9 (.tmp 2) (.tmp 8), none⟩]) .ret)))⟩
theorem comp12 : compFn Try.prog 12 = some F12 := by kernel_rfl
def F16 : AFn := ⟨1, 42, [.cell 2 (some 2), .cell 3 (some 2), .tmp 4], (.seq (.reg [⟨some 1, .box (.tmp 0), none⟩, ⟨some 2, .box (.con (.agg [.int .i64 0, .int .i64 0])), none⟩, ⟨some 3, .box (.con (.agg [.int .i64 0, .int .i64 0])), none⟩, ⟨some 4, .mov (.con (.int .i64 0)), none⟩]) (.seq (.seq (.reg [⟨some 7, .load (some 9) (.tmp 1), none⟩, ⟨some 8, .call (.con (.fn 22 [] [])) [(.tmp 7)], none⟩, ⟨some 5, .mov (.tmp 8), none⟩]) (.seq (.reg [⟨some 9, .mov (.tmp 5), none⟩, ⟨some 10, .bin .neq (.tmp 9) (.con (.int .i64 0)), none⟩]) (.cond (.tmp 10) (.seq (.reg [⟨some 11, .build [.int .i64 0, .int .i64 0] [], none⟩, ⟨some 12, .build [.int .i64 0, .int .i64 0] [], none⟩, ⟨some 13, .mov (.tmp 5), none⟩, ⟨none, .store 2 (.tmp 2) (.tmp 11), none⟩, ⟨none, .store 2 (.tmp 3) (.tmp 12), none⟩, ⟨some 4, .mov (.tmp 13), none⟩]) .ret) .skip))) (.seq (.reg [⟨some 14, .load (some 9) (.tmp 1), none⟩, ⟨some 15, .call (.con (.fn 60 [] [])) [(.tmp 14)], none⟩, ⟨some 6, .box (.con (.agg [.int .i64 0, .int .i64 0, .int .i64 0, .int .i64 0, .int .i64 0, .int .i64 0, .int .i64 0, .int .i64 0, .nils, .int .i64 0, .int .i64 0, .int .i64 0, .int .i64 0, .int .i64 0, .int .i64 0, .int .i64 0, .int .i64 0, .int .i64 0, .int .i64 0, .int .i64 0, .int .i64 0, .int .i64 0, .int .i64 0, .int .i64 0, .int .i64 0, .int .i64 0, .int .i64 0, .int .i64 0, .int .i64 0, .int .i64 0, .int .i64 0, .int .i64 0, .int .i64 0, .int .i64 0, .int .i64 0, .int .i64 0, .int .i64 0, .int .i64 0, .int .i64 0, .int .i64 0, .int .i64 0, .int .i64 0, .int .i64 0, .int .i64 0, .int .i64 0, .int .i64 0, .int .i64 0, .int .i64 0, .int .i64 0, .int .i64 0, .int .i64 0, .int .i64 0, .int .i64 0, .int .i64 0, .int .i64 0, .int .i64 0, .int .i64 0, .int .i64 0, .int .i64 0, .nils, .int .i64 0, .int .i64 0, .int .i64 0, .int .i64 0, .int .i64 0, .int .i64 0, .int .i64 0, .int .i64 0, .int .i64 0, .int .i64 0, .int .i64 0, .int .i64 0, .int .i64 0, .int .i64 0, .int .i64 0, .int .i64 0, .int .i64 0, .int .i64 0, .int .i64 0, .int .i64 0, .int .i64 0, .int .i64 0, .int .i64 0, .int .i64 0, .int .i64 0, .int .i64 0, .int .i64 0, .int .i64 0, .int .i64 0, .int .i64 0, .int .i64 0, .int .i64 0, .int .i64 0, .int .i64 0, .int .i64 0, .int .i64 0, .int .i64 0, .int .i64 0, .int .i64 0, .int .i64 0, .int .i64 0, .int .i64 0])), none⟩, ⟨none, .store 102 (.tmp 6) (.tmp 15), none⟩]) (.seq (.dreg 11 [⟨some 16, .iaddr (.tmp 6) (.con (.int .i64 0)) 51 (some 2), none⟩, ⟨some 17, .load (some 51) (.tmp 16), none⟩, ⟨some 18, .call (.con (.fn 65 [] [])) [(.tmp 17)], none⟩, ⟨some 19, .iaddr (.tmp 6) (.con (.int .i64 1)) 51 (some 2), none⟩, ⟨some 20, .load (some 51) (.tmp 19), none⟩, ⟨some 21, .call (.con (.fn 65 [] [])) [(.tmp 20)], none⟩, ⟨some 22, .faddr (.tmp 1) 3, none⟩, ⟨some 23, .load none (.tmp 22), none⟩, ⟨some 24, .faddr (.tmp 1) 2, none⟩, ⟨some 25, .load none (.tmp 24), none⟩, ⟨some 26, .bin .sub (.tmp 23) (.tmp 25), none⟩, ⟨some 27, .call (.con (.fn 64 [] [])) [(.tmp 18), (.tmp 21), (.tmp 26)], none⟩, ⟨none, .store 2 (.tmp 2) (.tmp 27), none⟩]) (.seq (.dreg 11 [⟨some 28, .iaddr (.tmp 6) (.con (.int .i64 0)) 51 (some 2), none⟩, ⟨some 29, .load (some 51) (.tmp 28), none⟩, ⟨some 30, .call (.con (.fn 66 [] [])) [(.tmp 29)], none⟩, ⟨some 31, .iaddr (.tmp 6) (.con (.int .i64 1)) 51 (some 2), none⟩, ⟨some 32, .load (some 51) (.tmp 31), none⟩, ⟨some 33, .call (.con (.fn 66 [] [])) [(.tmp 32)], none⟩, ⟨some 34, .faddr (.tmp 1) 3, none⟩, ⟨some 35, .load none (.tmp 34), none⟩, ⟨some 36, .faddr (.tmp 1) 2, none⟩, ⟨some 37, .load none (.tmp 36), none⟩, ⟨some 38, .bin .sub (.tmp 35) (.tmp 37), none⟩, ⟨some 39, .call (.con (.fn 64 [] [])) [(.tmp 30), (.tmp 33), (.tmp 38)], none⟩, ⟨none, .store 2 (.tmp 3) (.tmp 39), none⟩]) (.seq (.dreg 3 [⟨some 40, .load (some 2) (.tmp 2), none⟩, ⟨some 41, .load (some 2) (.tmp 3), none⟩, ⟨none, .store 2 (.tmp 2) (.tmp 40), none⟩, ⟨none, .store 2 (.tmp 3) (.tmp 41), none⟩, ⟨some 4, .mov (.con (.int .i64 0)), none⟩]) .ret))))))⟩
theorem comp16 : compFn Try.prog 16 = some F16 := by kernel_rfl
def F22 : AFn := ⟨1, 30, [.tmp 2], (.seq (.reg [⟨some 1, .box (.tmp 0), none⟩, ⟨some 2, .mov (.con (.int .i64 0)), none⟩]) (.seq (.seq (.reg [⟨some 7, .load (some 9) (.tmp 1), none⟩, ⟨some 8, .call (.con (.fn 72 [] [])) [(.tmp 7)], none⟩, ⟨some 3, .mov (.tmp 8), none⟩]) (.seq (.reg [⟨some 9, .mov (.tmp 3), none⟩, ⟨some 10, .bin .neq (.tmp 9) (.con (.int .i64 0)), none⟩]) (.cond (.tmp 10) (.seq (.reg [⟨some 11, .mov (.tmp 3), none⟩, ⟨some 2, .mov (.tmp 11), none⟩]) .ret) .skip))) (.seq (.seq (.reg [⟨some 12, .faddr (.tmp 1) 8, none⟩, ⟨some 13, .load none (.tmp 12), none⟩, ⟨some 14, .len false (.tmp 13), none⟩, ⟨some 15, .bin .gtr (.tmp 14) (.con (.int .i64 20)), none⟩]) (.cond (.tmp 15) (.seq (.reg [⟨some 2, .mov (.con (.int .i64 5)), none⟩]) .ret) .skip)) (.seq (.seq (.reg [⟨some 16, .faddr (.tmp 1) 8, none⟩, ⟨some 17, .load none (.tmp 16), none⟩, ⟨some 18, .len false (.tmp 17), none⟩, ⟨some 19, .mov (.con (.int .i64 0)), none⟩]) (.block 0 (.loop (.seq (.reg [⟨some 20, .bin .lss (.tmp 19) (.tmp 18), none⟩]) (.seq (.cond (.tmp 20) .skip (.exit 0)) (.seq (.block 1 (.seq (.reg [⟨some 21, .iaddr (.tmp 17) (.tmp 19) 7 none, none⟩, ⟨some 22, .load (some 7) (.tmp 21), none⟩, ⟨some 5, .box (.con (.agg [.int .i64 0, .int .i64 0, .int .i64 0, .int .i64 0, .int .i64 0, .int .i64 0, .int .i64 0])), none⟩, ⟨none, .store 7 (.tmp 5) (.tmp 22), none⟩]) (.seq (.reg [⟨some 23, .load (some 9) (.tmp 1), none⟩, ⟨some 24, .load (some 7) (.tmp 5), none⟩, ⟨some 25, .call (.con (.fn 73 [] [])) [(.tmp 23), (.tmp 24)], none⟩, ⟨some 6, .mov (.tmp 25), none⟩]) (.seq (.reg [⟨some 26, .mov (.tmp 6), none⟩, ⟨some 27, .bin .neq (.tmp 26) (.con (.int .i64 0)), none⟩]) (.cond (.tmp 27) (.seq (.reg [⟨some 28, .mov (.tmp 6), none⟩, ⟨some 2, .mov (.tmp 28), none⟩]) .ret) .skip))))) (.reg [⟨some 29, .bin .add (.tmp 19) (.con (.int .i64 1)), none⟩, ⟨some 19, .mov (.tmp 29), none⟩]))))))) (.seq (.reg [⟨some 2, .mov (.con (.int .i64 0)), none⟩]) .ret)))))⟩
theorem comp22 : compFn Try.prog 22 = some F22 := by kernel_rfl
def F27 : AFn := ⟨3, 15, [.tmp 6], (.seq (.reg [⟨some 6, .mov (.con (.int .i64 0)), none⟩]) (.seq (.reg [⟨some 7, .mov (.tmp 1), none⟩, ⟨some 8, .mov (.tmp 0), none⟩, ⟨some 9, .mov (.tmp 2), none⟩, ⟨some 10, .mov (.tmp 1), none⟩, ⟨some 11, .bin .sub (.tmp 9) (.tmp 10), none⟩, ⟨some 12, .bin .add (.tmp 11) (.con (.int .i64 1)), none⟩, ⟨some 13, .call (.con (.fn 38 [] [])) [(.tmp 8), (.tmp 12)], none⟩, ⟨some 14, .bin .add (.tmp 7) (.tmp 13), none⟩, ⟨some 6, .mov (.tmp 14), none⟩]) .ret))⟩
theorem comp27 : compFn Try.prog 27 = some F27 := by kernel_rfl
def F28 : AFn := ⟨2, 16, [.tmp 4, .tmp 5], (.seq (.reg [⟨some 2, .box (.tmp 0), none⟩, ⟨some 4, .mov (.con (.nils)), none⟩, ⟨some 5, .mov (.con (.int .i64 0)), none⟩]) (.seq (.seq (.reg [⟨some 7, .load (some 9) (.tmp 2), none⟩, ⟨some 8, .mov (.tmp 1), none⟩, ⟨some 9, .call (.con (.fn 77 [] [])) [(.tmp 7), (.tmp 8)], none⟩, ⟨some 6, .mov (.tmp 9), none⟩]) (.seq (.reg [⟨some 10, .mov (.tmp 6), none⟩, ⟨some 11, .bin .neq (.tmp 10) (.con (.int .i64 0)), none⟩]) (.cond (.tmp 11) (.seq (.reg [⟨some 12, .mov (.tmp 6), none⟩, ⟨some 4, .mov (.con (.nils)), none⟩, ⟨some 5, .mov (.tmp 12), none⟩]) .ret) .skip))) (.seq (.reg [⟨some 13, .load (some 9) (.tmp 2), none⟩, ⟨some 14, .mov (.tmp 1), none⟩, ⟨some 15, .call (.con (.fn 78 [] [])) [(.tmp 13), (.tmp 14)], none⟩, ⟨some 4, .mov (.tmp 15), none⟩, ⟨some 5, .mov (.con (.int .i64 0)), none⟩]) .ret)))⟩
theorem comp28 : compFn Try.prog 28 = some F28 := by kernel_rfl
def F32 : AFn := ⟨3, 38, [.cell 6 (some 2), .tmp 7], (.seq (.reg [⟨some 3, .box (.tmp 0), none⟩, ⟨some 4, .box (.tmp 1), none⟩, ⟨some 5, .box (.tmp 2), none⟩, ⟨some 6, .box (.con (.agg [.int .i64 0, .int .i64 0])), none⟩, ⟨some 7, .mov (.con (.int .i64 0)), none⟩]) (.seq (.seq (.reg [⟨some 11, .load (some 9) (.tmp 3), none⟩, ⟨some 12, .load none (.tmp 4), none⟩, ⟨some 13, .call (.con (.fn 77 [] [])) [(.tmp 11), (.tmp 12)], none⟩, ⟨some 8, .mov (.tmp 13), none⟩]) (.seq (.reg [⟨some 14, .mov (.tmp 8), none⟩, ⟨some 15, .bin .neq (.tmp 14) (.con (.int .i64 0)), none⟩]) (.cond (.tmp 15) (.seq (.reg [⟨some 16, .build [.int .i64 0, .int .i64 0] [], none⟩, ⟨some 17, .mov (.tmp 8), none⟩, ⟨none, .store 2 (.tmp 6) (.tmp 16), none⟩, ⟨some 7, .mov (.tmp 17), none⟩]) .ret) .skip))) (.seq (.seq (.reg [⟨some 18, .load none (.tmp 5), none⟩, ⟨some 19, .faddr (.tmp 3) 2, none⟩, ⟨some 20, .load none (.tmp 19), none⟩, ⟨some 21, .faddr (.tmp 3) 3, none⟩, ⟨some 22, .load none (.tmp 21), none⟩, ⟨some 23, .call (.con (.fn 83 [] [])) [(.tmp 18), (.tmp 20), (.tmp 22)], none⟩, ⟨some 24, .un .not (.tmp 23), none⟩]) (.cond (.tmp 24) (.seq (.reg [⟨some 25, .build [.int .i64 0, .int .i64 0] [], none⟩, ⟨none, .store 2 (.tmp 6) (.tmp 25), none⟩, ⟨some 7, .mov (.con (.int .i64 2)), none⟩]) .ret) .skip)) (.seq (.reg [⟨some 26, .mkfn 85 [] [(.tmp 3), (.tmp 5)], none⟩, ⟨some 27, .call (.con (.fn 84 [] [])) [(.con (.int .i64 100001)), (.tmp 26)], none⟩, ⟨some 9, .mov (.tmp 27), none⟩]) (.seq (.reg [⟨some 28, .mkfn 87 [] [(.tmp 3), (.tmp 5), (.tmp 4)], none⟩, ⟨some 29, .call (.con (.fn 84 [] [])) [(.con (.int .i64 100001)), (.tmp 28)], none⟩, ⟨some 10, .mov (.tmp 29), none⟩]) (.seq (.seq (.reg [⟨some 30, .mov (.tmp 9), none⟩, ⟨some 31, .mov (.tmp 10), none⟩, ⟨some 32, .bin .geq (.tmp 30) (.tmp 31), none⟩]) (.cond (.tmp 32) (.seq (.reg [⟨some 33, .build [.int .i64 0, .int .i64 0] [], none⟩, ⟨none, .store 2 (.tmp 6) (.tmp 33), none⟩, ⟨some 7, .mov (.con (.int .i64 7)), none⟩]) .ret) .skip)) (.seq (.reg [⟨some 34, .mov (.tmp 9), none⟩, ⟨some 35, .mov (.tmp 10), none⟩, ⟨some 36, .bin .sub (.tmp 35) (.con (.int .i64 1)), none⟩, ⟨some 37, .build [.int .i64 0, .int .i64 0] [(0, 1, (.tmp 34)), (1, 1, (.tmp 36))], none⟩, ⟨none, .store 2 (.tmp 6) (.tmp 37), none⟩, ⟨some 7, .mov (.con (.int .i64 0)), none⟩]) .ret)))))))⟩
theorem comp32 : compFn Try.prog 32 = some F32 := by kernel_rfl
def F34 : AFn := ⟨1, 21, [.tmp 2], (.seq (.reg [⟨some 2, .mov (.con (.int .i64 0)), none⟩]) (.seq (.seq (.reg [⟨some 6, .mov (.tmp 0), none⟩, ⟨some 7, .len false (.tmp 6), none⟩, ⟨some 8, .bin .gtr (.tmp 7) (.con (.int .i64 40)), none⟩]) (.cond (.tmp 8) (.seq (.reg [⟨some 2, .mov (.con (.int .i64 5)), none⟩]) .ret) .skip)) (.seq (.seq (.reg [⟨some 9, .mov (.tmp 0), none⟩, ⟨some 10, .len false (.tmp 9), none⟩, ⟨some 11, .mov (.con (.int .i64 0)), none⟩]) (.block 0 (.loop (.seq (.reg [⟨some 12, .bin .lss (.tmp 11) (.tmp 10), none⟩]) (.seq (.cond (.tmp 12) .skip (.exit 0)) (.seq (.block 1 (.seq (.reg [⟨some 13, .iaddr (.tmp 9) (.tmp 11) 3 none, none⟩, ⟨some 14, .load (some 3) (.tmp 13), none⟩, ⟨some 4, .box (.con (.agg [.int .i64 0, .int .i64 0, .int .i64 0])), none⟩, ⟨none, .store 3 (.tmp 4) (.tmp 14), none⟩]) (.seq (.reg [⟨some 15, .load (some 3) (.tmp 4), none⟩, ⟨some 16, .call (.con (.fn 89 [] [])) [(.tmp 15)], none⟩, ⟨some 5, .mov (.tmp 16), none⟩]) (.seq (.reg [⟨some 17, .mov (.tmp 5), none⟩, ⟨some 18, .bin .neq (.tmp 17) (.con (.int .i64 0)), none⟩]) (.cond (.tmp 18) (.seq (.reg [⟨some 19, .mov (.tmp 5), none⟩, ⟨some 2, .mov (.tmp 19), none⟩]) .ret) .skip))))) (.reg [⟨some 20, .bin .add (.tmp 11) (.con (.int .i64 1)), none⟩, ⟨some 11, .mov (.tmp 20), none⟩]))))))) (.seq (.reg [⟨some 2, .mov (.con (.int .i64 0)), none⟩]) .ret))))⟩
theorem comp34 : compFn Try.prog 34 = some F34 := by kernel_rfl
def F36 : AFn := ⟨2, 26, [.tmp 4], (.seq (.reg [⟨some 4, .mov (.con (.bool false)), none⟩]) (.seq (.seq (.reg [⟨some 6, .mov (.tmp 0), none⟩, ⟨some 7, .len false (.tmp 6), none⟩, ⟨some 8, .mov (.tmp 1), none⟩, ⟨some 9, .len false (.tmp 8), none⟩, ⟨some 10, .bin .neq (.tmp 7) (.tmp 9), none⟩]) (.cond (.tmp 10) (.seq (.reg [⟨some 4, .mov (.con (.bool false)), none⟩]) .ret) .skip)) (.seq (.seq (.reg [⟨some 5, .mov (.con (.int .i64 0)), none⟩]) (.block 0 (.loop (.seq (.seq (.reg [⟨some 11, .mov (.tmp 5), none⟩, ⟨some 12, .mov (.tmp 0), none⟩, ⟨some 13, .len false (.tmp 12), none⟩, ⟨some 14, .bin .lss (.tmp 11) (.tmp 13), none⟩]) (.cond (.tmp 14) .skip (.exit 0))) (.seq (.block 1 (.seq (.dreg 8 [⟨some 17, .mov (.tmp 0), none⟩, ⟨some 18, .mov (.tmp 5), none⟩, ⟨some 19, .iaddr (.tmp 17) (.tmp 18) 1 none, none⟩, ⟨some 20, .load none (.tmp 19), none⟩, ⟨some 21, .mov (.tmp 1), none⟩, ⟨some 22, .mov (.tmp 5), none⟩, ⟨some 23, .iaddr (.tmp 21) (.tmp 22) 1 none, none⟩, ⟨some 24, .load none (.tmp 23), none⟩, ⟨some 25, .bin .neq (.tmp 20) (.tmp 24), none⟩]) (.cond (.tmp 25) (.seq (.reg [⟨some 4, .mov (.con (.bool false)), none⟩]) .ret) .skip))) (.reg [⟨some 15, .mov (.tmp 5), none⟩, ⟨some 16, .bin .add (.tmp 15) (.con (.int .i64 1)), none⟩, ⟨some 5, .mov (.tmp 16), none⟩])))))) (.seq (.reg [⟨some 4, .mov (.con (.bool true)), none⟩]) .ret))))⟩
theorem comp36 : compFn Try.prog 36 = some F36 := by kernel_rfl
def F38 : AFn := ⟨2, 14, [.tmp 4], (.seq (.reg [⟨some 4, .mov (.con (.int .i64 0)), none⟩]) (.seq (.seq (.reg [⟨some 5, .mov (.tmp 1), none⟩, ⟨some 6, .bin .lss (.tmp 5) (.con (.int .i64 2)), none⟩]) (.cond (.tmp 6) (.seq (.reg [⟨some 4, .mov (.con (.int .i64 0)), none⟩]) .ret) .skip)) (.seq (.reg [⟨some 7, .mov (.tmp 0), none⟩, ⟨some 8, .call (.con (.fn 59 [] [])) [(.tmp 7)], none⟩, ⟨some 9, .bin .shr (.tmp 8) (.con (.int .u64 1)), none⟩, ⟨some 10, .mov (.tmp 1), none⟩, ⟨some 11, .conv .u64 (.tmp 10), none⟩, ⟨some 12, .bin .rem (.tmp 9) (.tmp 11), none⟩, ⟨some 13, .conv .i64 (.tmp 12), none⟩, ⟨some 4, .mov (.tmp 13), none⟩]) .ret)))⟩
theorem comp38 : compFn Try.prog 38 = some F38 := by kernel_rfl
def F39 : AFn := ⟨2, 58, [.cell 4 none, .cell 5 none, .tmp 6], (.seq (.reg [⟨some 2, .box (.tmp 0), none⟩, ⟨some 3, .box (.tmp 1), none⟩, ⟨some 4, .box (.con (.nils)), none⟩, ⟨some 5, .box (.con (.int .i64 0)), none⟩, ⟨some 6, .mov (.con (.int .i64 0)), none⟩]) (.seq (.seq (.reg [⟨some 14, .load (some 9) (.tmp 2), none⟩, ⟨some 15, .call (.con (.fn 22 [] [])) [(.tmp 14)], none⟩, ⟨some 7, .mov (.tmp 15), none⟩]) (.seq (.reg [⟨some 16, .mov (.tmp 7), none⟩, ⟨some 17, .bin .neq (.tmp 16) (.con (.int .i64 0)), none⟩]) (.cond (.tmp 17) (.seq (.reg [⟨some 18, .mov (.tmp 7), none⟩, ⟨none, .store 1 (.tmp 4) (.con (.nils)), none⟩, ⟨none, .store 1 (.tmp 5) (.con (.int .i64 0)), none⟩, ⟨some 6, .mov (.tmp 18), none⟩]) .ret) .skip))) (.seq (.seq (.reg [⟨some 19, .load none (.tmp 3), none⟩, ⟨some 20, .call (.con (.fn 83 [] [])) [(.tmp 19), (.con (.int .i64 0)), (.con (.int .i64 3000))], none⟩, ⟨some 21, .un .not (.tmp 20), none⟩]) (.cond (.tmp 21) (.seq (.reg [⟨none, .store 1 (.tmp 4) (.con (.nils)), none⟩, ⟨none, .store 1 (.tmp 5) (.con (.int .i64 0)), none⟩, ⟨some 6, .mov (.con (.int .i64 2)), none⟩]) .ret) .skip)) (.seq (.seq (.reg [⟨some 22, .faddr (.tmp 2) 8, none⟩, ⟨some 23, .load none (.tmp 22), none⟩, ⟨some 24, .call (.con (.fn 91 [] [])) [(.tmp 23), (.con (.int .i64 2))], none⟩]) (.block 0 (.rangeF (.tmp 24) [25, 26] (.seq (.reg [⟨some 8, .box (.con (.int .i64 0)), none⟩, ⟨none, .store 1 (.tmp 8) (.tmp 25), none⟩]) (.reg [⟨some 9, .box (.con (.agg [.int .i64 0, .int .i64 0, .int .i64 0, .int .i64 0, .int .i64 0, .int .i64 0, .int .i64 0])), none⟩, ⟨none, .store 7 (.tmp 9) (.tmp 26), none⟩])) (.block 1 (.seq (.reg [⟨some 27, .load none (.tmp 5), none⟩, ⟨some 28, .faddr (.tmp 9) 6, none⟩, ⟨some 29, .load none (.tmp 28), none⟩, ⟨some 30, .bin .add (.tmp 27) (.tmp 29), none⟩, ⟨none, .store 1 (.tmp 5) (.tmp 30), none⟩]) (.seq (.reg [⟨some 31, .faddr (.tmp 2) 8, none⟩, ⟨some 32, .load none (.tmp 31), none⟩, ⟨some 33, .call (.con (.fn 91 [] [])) [(.tmp 32), (.con (.int .i64 4))], none⟩]) (.block 2 (.rangeF (.tmp 33) [34, 35] (.seq (.reg [⟨some 10, .mov (.tmp 34), none⟩]) (.reg [⟨some 11, .box (.con (.agg [.int .i64 0, .int .i64 0, .int .i64 0, .int .i64 0, .int .i64 0, .int .i64 0, .int .i64 0])), none⟩, ⟨none, .store 7 (.tmp 11) (.tmp 35), none⟩])) (.block 3 (.seq (.dreg 4 [⟨some 36, .load (some 7) (.tmp 9), none⟩, ⟨some 37, .load (some 7) (.tmp 11), none⟩, ⟨some 38, .call (.con (.fn 92 [] [])) [(.tmp 36), (.tmp 37)], none⟩, ⟨some 39, .load none (.tmp 3), none⟩, ⟨some 40, .bin .lss (.tmp 38) (.tmp 39), none⟩]) (.cond (.tmp 40) (.reg [⟨some 41, .load none (.tmp 4), none⟩, ⟨some 42, .load none (.tmp 8), none⟩, ⟨some 43, .mov (.tmp 10), none⟩, ⟨some 44, .build [.int .i64 0, .int .i64 0] [(0, 1, (.tmp 42)), (1, 1, (.tmp 43))], none⟩, ⟨some 45, .bsl 2 true [.int .i64 0, .int .i64 0] 1 [(0, (.tmp 44))], none⟩, ⟨some 46, .app (.tmp 41) (.tmp 45) 2 16 [.int .i64 0, .int .i64 0], none⟩, ⟨none, .store 1 (.tmp 4) (.tmp 46), none⟩]) .skip))))))))))) (.seq (.seq (.reg [⟨some 47, .faddr (.tmp 2) 8, none⟩, ⟨some 48, .load none (.tmp 47), none⟩, ⟨some 49, .call (.con (.fn 91 [] [])) [(.tmp 48), (.con (.int .i64 3))], none⟩]) (.block 4 (.rangeF (.tmp 49) [50, 51] (.reg [⟨some 13, .box (.con (.agg [.int .i64 0, .int .i64 0, .int .i64 0, .int .i64 0, .int .i64 0, .int .i64 0, .int .i64 0])), none⟩, ⟨none, .store 7 (.tmp 13) (.tmp 51), none⟩]) (.block 5 (.reg [⟨some 52, .load none (.tmp 5), none⟩, ⟨some 53, .faddr (.tmp 13) 6, none⟩, ⟨some 54, .load none (.tmp 53), none⟩, ⟨some 55, .bin .sub (.tmp 52) (.tmp 54), none⟩, ⟨none, .store 1 (.tmp 5) (.tmp 55), none⟩]))))) (.seq (.dreg 3 [⟨some 56, .load none (.tmp 4), none⟩, ⟨some 57, .load none (.tmp 5), none⟩, ⟨none, .store 1 (.tmp 4) (.tmp 56), none⟩, ⟨none, .store 1 (.tmp 5) (.tmp 57), none⟩, ⟨some 6, .mov (.con (.int .i64 0)), none⟩]) .ret))))))⟩
theorem comp39 : compFn Try.prog 39 = some F39 := by kernel_rfl
def F50 : AFn := ⟨2, 8, [.cell 4 (some 2)], (.seq (.reg [⟨some 4, .box (.con (.agg [.int .i64 0, .int .i64 0])), none⟩]) (.seq (.reg [⟨some 5, .mov (.tmp 0), none⟩, ⟨some 6, .mov (.tmp 1), none⟩, ⟨some 7, .build [.int .i64 0, .int .i64 0] [(0, 1, (.tmp 5)), (1, 1, (.tmp 6))], none⟩, ⟨none, .store 2 (.tmp 4) (.tmp 7), none⟩]) .ret))⟩
theorem comp50 : compFn Try.prog 50 = some F50 := by kernel_rfl
def F54 : AFn := ⟨0, 15, [.cell 0 (some 9)], (.seq (.reg [⟨some 0, .box (.con (.agg [.int .i64 0, .int .i64 0, .int .i64 0, .int .i64 0, .int .i64 0, .int .i64 0, .int .i64 0, .int .i64 0, .nils])), none⟩]) (.seq (.reg [⟨some 1, .call (.con (.fn 50 [] [])) [(.con (.int .i64 500)), (.con (.int .i64 600))], none⟩, ⟨some 2, .call (.con (.fn 50 [] [])) [(.con (.int .i64 450)), (.con (.int .i64 500))], none⟩, ⟨some 3, .build [.int .i64 0, .int .i64 0, .int .i64 0, .int .i64 0, .int .i64 0, .int .i64 0, .int .i64 0] [(0, 1, (.con (.int .i64 300))), (1, 2, (.tmp 1)), (3, 2, (.tmp 2)), (5, 1, (.con (.int .i64 1)))], none⟩, ⟨some 4, .call (.con (.fn 94 [] [])) [(.con (.int .i64 1000))], none⟩, ⟨some 5, .call (.con (.fn 94 [] [])) [(.con (.int .i64 380))], none⟩, ⟨some 6, .build [.int .i64 0, .int .i64 0, .int .i64 0, .int .i64 0, .int .i64 0, .int .i64 0, .int .i64 0] [(0, 1, (.con (.int .i64 700))), (1, 2, (.tmp 4)), (3, 2, (.tmp 5)), (5, 1, (.con (.int .i64 2))), (6, 1, (.con (.int .i64 5000)))], none⟩, ⟨some 7, .call (.con (.fn 50 [] [])) [(.con (.int .i64 100)), (.con (.int .i64 200))], none⟩, ⟨some 8, .call (.con (.fn 50 [] [])) [(.con (.int .i64 300)), (.con (.int .i64 350))], none⟩, ⟨some 9, .build [.int .i64 0, .int .i64 0, .int .i64 0, .int .i64 0, .int .i64 0, .int .i64 0, .int .i64 0] [(0, 1, (.con (.int .i64 500))), (1, 2, (.tmp 7)), (3, 2, (.tmp 8)), (5, 1, (.con (.int .i64 3))), (6, 1, (.con (.int .i64 3000)))], none⟩, ⟨some 10, .call (.con (.fn 94 [] [])) [(.con (.int .i64 50))], none⟩, ⟨some 11, .call (.con (.fn 50 [] [])) [(.con (.int .i64 400)), (.con (.int .i64 520))], none⟩, ⟨some 12, .build [.int .i64 0, .int .i64 0, .int .i64 0, .int .i64 0, .int .i64 0, .int .i64 0, .int .i64 0] [(0, 1, (.con (.int .i64 600))), (1, 2, (.tmp 10)), (3, 2, (.tmp 11)), (5, 1, (.con (.int .i64 4)))], none⟩, ⟨some 13, .bsl 7 true [.int .i64 0, .int .i64 0, .int .i64 0, .int .i64 0, .int .i64 0, .int .i64 0, .int .i64 0] 4 [(0, (.tmp 3)), (1, (.tmp 6)), (2, (.tmp 9)), (3, (.tmp 12))], none⟩, ⟨some 14, .build [.int .i64 0, .int .i64 0, .int .i64 0, .int .i64 0, .int .i64 0, .int .i64 0, .int .i64 0, .int .i64 0, .nils] [(0, 1, (.con (.int .i64 1000))), (1, 1, (.con (.int .i64 300))), (2, 1, (.con (.int .i64 200))), (3, 1, (.con (.int .i64 800))), (4, 1, (.con (.int .i64 900))), (5, 1, (.con (.int .i64 4000))), (6, 1, (.con (.int .i64 500))), (7, 1, (.con (.int .i64 400))), (8, 1, (.tmp 13))], none⟩, ⟨none, .store 9 (.tmp 0) (.tmp 14), none⟩]) .ret))⟩
theorem comp54 : compFn Try.prog 54 = some F54 := by kernel_rfl
def F55 : AFn := ⟨3, 11, [.cell 6 (some 3)], (.seq (.reg [⟨some 6, .box (.con (.agg [.int .i64 0, .int .i64 0, .int .i64 0])), none⟩]) (.seq (.reg [⟨some 7, .mov (.tmp 0), none⟩, ⟨some 8, .mov (.tmp 1), none⟩, ⟨some 9, .mov (.tmp 2), none⟩, ⟨some 10, .build [.int .i64 0, .int .i64 0, .int .i64 0] [(0, 1, (.tmp 7)), (1, 1, (.tmp 8)), (2, 1, (.tmp 9))], none⟩, ⟨none, .store 3 (.tmp 6) (.tmp 10), none⟩]) .ret))⟩
theorem comp55 : compFn Try.prog 55 = some F55 := by kernel_rfl
def F56 : AFn := ⟨1, 8, [.cell 2 (some 9)], (.seq (.reg [⟨some 2, .box (.con (.agg [.int .i64 0, .int .i64 0, .int .i64 0, .int .i64 0, .int .i64 0, .int .i64 0, .int .i64 0, .int .i64 0, .nils])), none⟩]) (.seq (.reg [⟨some 4, .call (.con (.fn 54 [] [])) [], none⟩, ⟨some 3, .box (.con (.agg [.int .i64 0, .int .i64 0, .int .i64 0, .int .i64 0, .int .i64 0, .int .i64 0, .int .i64 0, .int .i64 0, .nils])), none⟩, ⟨none, .store 9 (.tmp 3) (.tmp 4), none⟩]) (.seq (.reg [⟨some 5, .mov (.tmp 0), none⟩, ⟨some 6, .faddr (.tmp 3) 6, none⟩, ⟨none, .store 1 (.tmp 6) (.tmp 5), none⟩]) (.seq (.reg [⟨some 7, .load (some 9) (.tmp 3), none⟩, ⟨none, .store 9 (.tmp 2) (.tmp 7), none⟩]) .ret))))⟩
theorem comp56 : compFn Try.prog 56 = some F56 := by kernel_rfl
def F57 : AFn := ⟨2, 15, [.tmp 4], (.seq (.reg [⟨some 4, .mov (.con (.int .i64 0)), none⟩]) (.seq (.seq (.reg [⟨some 5, .mov (.tmp 1), none⟩, ⟨some 6, .len false (.tmp 5), none⟩, ⟨some 7, .bin .eql (.tmp 6) (.con (.int .i64 0)), none⟩]) (.cond (.tmp 7) (.seq (.reg [⟨some 4, .mov (.con (.int .i64 0)), none⟩]) .ret) .skip)) (.seq (.reg [⟨some 8, .mov (.tmp 1), none⟩, ⟨some 9, .mov (.tmp 0), none⟩, ⟨some 10, .mov (.tmp 1), none⟩, ⟨some 11, .len false (.tmp 10), none⟩, ⟨some 12, .call (.con (.fn 38 [] [])) [(.tmp 9), (.tmp 11)], none⟩, ⟨some 13, .iaddr (.tmp 8) (.tmp 12) 1 none, none⟩, ⟨some 14, .load none (.tmp 13), none⟩, ⟨some 4, .mov (.tmp 14), none⟩]) .ret)))⟩
theorem comp57 : compFn Try.prog 57 = some F57 := by kernel_rfl
def F58 : AFn := ⟨3, 36, [.cell 6 (some 2)], (.seq (.reg [⟨some 6, .box (.con (.agg [.int .i64 0, .int .i64 0])), none⟩]) (.seq (.reg [⟨some 8, .mov (.tmp 0), none⟩, ⟨some 9, .mov (.tmp 1), none⟩, ⟨some 10, .mov (.tmp 2), none⟩, ⟨some 11, .call (.con (.fn 27 [] [])) [(.tmp 8), (.tmp 9), (.tmp 10)], none⟩, ⟨some 7, .mov (.tmp 11), none⟩]) (.seq (.seq (.reg [⟨some 12, .mov (.tmp 0), none⟩, ⟨some 13, .call (.con (.fn 38 [] [])) [(.tmp 12), (.con (.int .i64 3))], none⟩]) (.block 0 (.seq (.reg [⟨some 15, .bin .eql (.tmp 13) (.con (.int .i64 0)), none⟩, ⟨some 14, .mov (.tmp 15), none⟩]) (.cond (.tmp 14) (.seq (.reg [⟨some 16, .mov (.tmp 7), none⟩, ⟨some 17, .mov (.tmp 7), none⟩, ⟨some 18, .build [.int .i64 0, .int .i64 0] [(0, 1, (.tmp 16)), (1, 1, (.tmp 17))], none⟩, ⟨none, .store 2 (.tmp 6) (.tmp 18), none⟩]) .ret) (.seq (.reg [⟨some 20, .bin .eql (.tmp 13) (.con (.int .i64 1)), none⟩, ⟨some 19, .mov (.tmp 20), none⟩]) (.cond (.tmp 19) (.seq (.reg [⟨some 21, .mov (.tmp 7), none⟩, ⟨some 22, .mov (.tmp 0), none⟩, ⟨some 23, .mov (.tmp 7), none⟩, ⟨some 24, .mov (.tmp 2), none⟩, ⟨some 25, .mov (.tmp 7), none⟩, ⟨some 26, .bin .add (.tmp 25) (.con (.int .i64 3)), none⟩, ⟨some 27, .mn (.tmp 24) (.tmp 26), none⟩, ⟨some 28, .call (.con (.fn 27 [] [])) [(.tmp 22), (.tmp 23), (.tmp 27)], none⟩, ⟨some 29, .build [.int .i64 0, .int .i64 0] [(0, 1, (.tmp 21)), (1, 1, (.tmp 28))], none⟩, ⟨none, .store 2 (.tmp 6) (.tmp 29), none⟩]) .ret) .skip)))))) (.seq (.reg [⟨some 30, .mov (.tmp 7), none⟩, ⟨some 31, .mov (.tmp 0), none⟩, ⟨some 32, .mov (.tmp 7), none⟩, ⟨some 33, .mov (.tmp 2), none⟩, ⟨some 34, .call (.con (.fn 27 [] [])) [(.tmp 31), (.tmp 32), (.tmp 33)], none⟩, ⟨some 35, .build [.int .i64 0, .int .i64 0] [(0, 1, (.tmp 30)), (1, 1, (.tmp 34))], none⟩, ⟨none, .store 2 (.tmp 6) (.tmp 35), none⟩]) .ret))))⟩
theorem comp58 : compFn Try.prog 58 = some F58 := by kernel_rfl
def F59 : AFn := ⟨1, 31, [.tmp 2], (.seq (.reg [⟨some 2, .mov (.con (.int .u64 0)), none⟩]) (.seq (.reg [⟨some 4, .mov (.tmp 0), none⟩, ⟨some 5, .mov (.tmp 0), none⟩, ⟨some 6, .nilck (.tmp 5), none⟩, ⟨some 7, .faddr (.tmp 6) 0, none⟩, ⟨some 8, .load none (.tmp 7), none⟩, ⟨some 9, .bin .mul (.tmp 8) (.con (.int .u64 15074714826142052245)), none⟩, ⟨some 10, .bin .add (.tmp 9) (.con (.int .u64 11400714819323198485)), none⟩, ⟨some 11, .nilck (.tmp 4), none⟩, ⟨some 12, .faddr (.tmp 11) 0, none⟩, ⟨none, .store 1 (.tmp 12) (.tmp 10), none⟩]) (.seq (.reg [⟨some 13, .mov (.tmp 0), none⟩, ⟨some 14, .nilck (.tmp 13), none⟩, ⟨some 15, .faddr (.tmp 14) 0, none⟩, ⟨some 16, .load none (.tmp 15), none⟩, ⟨some 3, .mov (.tmp 16), none⟩]) (.seq (.reg [⟨some 17, .mov (.tmp 3), none⟩, ⟨some 18, .mov (.tmp 3), none⟩, ⟨some 19, .bin .shr (.tmp 18) (.con (.int .u64 32)), none⟩, ⟨some 20, .bin .xor (.tmp 17) (.tmp 19), none⟩, ⟨some 21, .bin .mul (.tmp 20) (.con (.int .u64 15760922415973212899)), none⟩, ⟨some 3, .mov (.tmp 21), none⟩]) (.seq (.reg [⟨some 22, .mov (.tmp 3), none⟩, ⟨some 23, .mov (.tmp 3), none⟩, ⟨some 24, .bin .shr (.tmp 23) (.con (.int .u64 32)), none⟩, ⟨some 25, .bin .xor (.tmp 22) (.tmp 24), none⟩, ⟨some 26, .bin .mul (.tmp 25) (.con (.int .u64 15760922415973212899)), none⟩, ⟨some 3, .mov (.tmp 26), none⟩]) (.seq (.reg [⟨some 27, .mov (.tmp 3), none⟩, ⟨some 28, .mov (.tmp 3), none⟩, ⟨some 29, .bin .shr (.tmp 28) (.con (.int .u64 32)), none⟩, ⟨some 30, .bin .xor (.tmp 27) (.tmp 29), none⟩, ⟨some 2, .mov (.tmp 30), none⟩]) .ret))))))⟩
theorem comp59 : compFn Try.prog 59 = some F59 := by kernel_rfl
def F60 : AFn := ⟨1, 49, [.cell 2 (some 102)], (.seq (.reg [⟨some 1, .box (.tmp 0), none⟩, ⟨some 2, .box (.con (.agg [.int .i64 0, .int .i64 0, .int .i64 0, .int .i64 0, .int .i64 0, .int .i64 0, .int .i64 0, .int .i64 0, .nils, .int .i64 0, .int .i64 0, .int .i64 0, .int .i64 0, .int .i64 0, .int .i64 0, .int .i64 0, .int .i64 0, .int .i64 0, .int .i64 0, .int .i64 0, .int .i64 0, .int .i64 0, .int .i64 0, .int .i64 0, .int .i64 0, .int .i64 0, .int .i64 0, .int .i64 0, .int .i64 0, .int .i64 0, .int .i64 0, .int .i64 0, .int .i64 0, .int .i64 0, .int .i64 0, .int .i64 0, .int .i64 0, .int .i64 0, .int .i64 0, .int .i64 0, .int .i64 0, .int .i64 0, .int .i64 0, .int .i64 0, .int .i64 0, .int .i64 0, .int .i64 0, .int .i64 0, .int .i64 0, .int .i64 0, .int .i64 0, .int .i64 0, .int .i64 0, .int .i64 0, .int .i64 0, .int .i64 0, .int .i64 0, .int .i64 0, .int .i64 0, .nils, .int .i64 0, .int .i64 0, .int .i64 0, .int .i64 0, .int .i64 0, .int .i64 0, .int .i64 0, .int .i64 0, .int .i64 0, .int .i64 0, .int .i64 0, .int .i64 0, .int .i64 0, .int .i64 0, .int .i64 0, .int .i64 0, .int .i64 0, .int .i64 0, .int .i64 0, .int .i64 0, .int .i64 0, .int .i64 0, .int .i64 0, .int .i64 0, .int .i64 0, .int .i64 0, .int .i64 0, .int .i64 0, .int .i64 0, .int .i64 0, .int .i64 0, .int .i64 0, .int .i64 0, .int .i64 0, .int .i64 0, .int .i64 0, .int .i64 0, .int .i64 0, .int .i64 0, .int .i64 0, .int .i64 0, .int .i64 0])), none⟩]) (.seq (.reg [⟨some 6, .load (some 9) (.tmp 1), none⟩, ⟨some 7, .build [.int .i64 0, .int .i64 0, .int .i64 0, .int .i64 0, .int .i64 0, .int .i64 0, .int .i64 0, .int .i64 0, .nils, .int .i64 0, .int .i64 0, .int .i64 0, .int .i64 0, .int .i64 0, .int .i64 0, .int .i64 0, .int .i64 0, .int .i64 0, .int .i64 0, .int .i64 0, .int .i64 0, .int .i64 0, .int .i64 0, .int .i64 0, .int .i64 0, .int .i64 0, .int .i64 0, .int .i64 0, .int .i64 0, .int .i64 0, .int .i64 0, .int .i64 0, .int .i64 0, .int .i64 0, .int .i64 0, .int .i64 0, .int .i64 0, .int .i64 0, .int .i64 0, .int .i64 0, .int .i64 0, .int .i64 0, .int .i64 0, .int .i64 0, .int .i64 0, .int .i64 0, .int .i64 0, .int .i64 0, .int .i64 0, .int .i64 0, .int .i64 0] [(0, 9, (.tmp 6))], none⟩, ⟨some 8, .load (some 9) (.tmp 1), none⟩, ⟨some 9, .build [.int .i64 0, .int .i64 0, .int .i64 0, .int .i64 0, .int .i64 0, .int .i64 0, .int .i64 0, .int .i64 0, .nils, .int .i64 0, .int .i64 0, .int .i64 0, .int .i64 0, .int .i64 0, .int .i64 0, .int .i64 0, .int .i64 0, .int .i64 0, .int .i64 0, .int .i64 0, .int .i64 0, .int .i64 0, .int .i64 0, .int .i64 0, .int .i64 0, .int .i64 0, .int .i64 0, .int .i64 0, .int .i64 0, .int .i64 0, .int .i64 0, .int .i64 0, .int .i64 0, .int .i64 0, .int .i64 0, .int .i64 0, .int .i64 0, .int .i64 0, .int .i64 0, .int .i64 0, .int .i64 0, .int .i64 0, .int .i64 0, .int .i64 0, .int .i64 0, .int .i64 0, .int .i64 0, .int .i64 0, .int .i64 0, .int .i64 0, .int .i64 0] [(0, 9, (.tmp 8))], none⟩, ⟨some 10, .build [.int .i64 0, .int .i64 0, .int .i64 0, .int .i64 0, .int .i64 0, .int .i64 0, .int .i64 0, .int .i64 0, .nils, .int .i64 0, .int .i64 0, .int .i64 0, .int .i64 0, .int .i64 0, .int .i64 0, .int .i64 0, .int .i64 0, .int .i64 0, .int .i64 0, .int .i64 0, .int .i64 0, .int .i64 0, .int .i64 0, .int .i64 0, .int .i64 0, .int .i64 0, .int .i64 0, .int .i64 0, .int .i64 0, .int .i64 0, .int .i64 0, .int .i64 0, .int .i64 0, .int .i64 0, .int .i64 0, .int .i64 0, .int .i64 0, .int .i64 0, .int .i64 0, .int .i64 0, .int .i64 0, .int .i64 0, .int .i64 0, .int .i64 0, .int .i64 0, .int .i64 0, .int .i64 0, .int .i64 0, .int .i64 0, .int .i64 0, .int .i64 0, .int .i64 0, .int .i64 0, .int .i64 0, .int .i64 0, .int .i64 0, .int .i64 0, .int .i64 0, .int .i64 0, .nils, .int .i64 0, .int .i64 0, .int .i64 0, .int .i64 0, .int .i64 0, .int .i64 0, .int .i64 0, .int .i64 0, .int .i64 0, .int .i64 0, .int .i64 0, .int .i64 0, .int .i64 0, .int .i64 0, .int .i64 0, .int .i64 0, .int .i64 0, .int .i64 0, .int .i64 0, .int .i64 0, .int .i64 0, .int .i64 0, .int .i64 0, .int .i64 0, .int .i64 0, .int .i64 0, .int .i64 0, .int .i64 0, .int .i64 0, .int .i64 0, .int .i64 0, .int .i64 0, .int .i64 0, .int .i64 0, .int .i64 0, .int .i64 0, .int .i64 0, .int .i64 0, .int .i64 0, .int .i64 0, .int .i64 0, .int .i64 0] [(0, 51, (.tmp 7)), (51, 51, (.tmp 9))], none⟩, ⟨some 3, .box (.con (.agg [.int .i64 0, .int .i64 0, .int .i64 0, .int .i64 0, .int .i64 0, .int .i64 0, .int .i64 0, .int .i64 0, .nils, .int .i64 0, .int .i64 0, .int .i64 0, .int .i64 0, .int .i64 0, .int .i64 0, .int .i64 0, .int .i64 0, .int .i64 0, .int .i64 0, .int .i64 0, .int .i64 0, .int .i64 0, .int .i64 0, .int .i64 0, .int .i64 0, .int .i64 0, .int .i64 0, .int .i64 0, .int .i64 0, .int .i64 0, .int .i64 0, .int .i64 0, .int .i64 0, .int .i64 0, .int .i64 0, .int .i64 0, .int .i64 0, .int .i64 0, .int .i64 0, .int .i64 0, .int .i64 0, .int .i64 0, .int .i64 0, .int .i64 0, .int .i64 0, .int .i64 0, .int .i64 0, .int .i64 0, .int .i64 0, .int .i64 0, .int .i64 0, .int .i64 0, .int .i64 0, .int .i64 0, .int .i64 0, .int .i64 0, .int .i64 0, .int .i64 0, .int .i64 0, .nils, .int .i64 0, .int .i64 0, .int .i64 0, .int .i64 0, .int .i64 0, .int .i64 0, .int .i64 0, .int .i64 0, .int .i64 0, .int .i64 0, .int .i64 0, .int .i64 0, .int .i64 0, .int .i64 0, .int .i64 0, .int .i64 0, .int .i64 0, .int .i64 0, .int .i64 0, .int .i64 0, .int .i64 0, .int .i64 0, .int .i64 0, .int .i64 0, .int .i64 0, .int .i64 0, .int .i64 0, .int .i64 0, .int .i64 0, .int .i64 0, .int .i64 0, .int .i64 0, .int .i64 0, .int .i64 0, .int .i64 0, .int .i64 0, .int .i64 0, .int .i64 0, .int .i64 0, .int .i64 0, .int .i64 0, .int .i64 0])), none⟩, ⟨none, .store 102 (.tmp 3) (.tmp 10), none⟩]) (.seq (.seq (.reg [⟨some 11, .faddr (.tmp 1) 8, none⟩, ⟨some 12, .load none (.tmp 11), none⟩, ⟨some 13, .len false (.tmp 12), none⟩, ⟨some 14, .mov (.con (.int .i64 0)), none⟩]) (.block 0 (.loop (.seq (.reg [⟨some 15, .bin .lss (.tmp 14) (.tmp 13), none⟩]) (.seq (.cond (.tmp 15) .skip (.exit 0)) (.seq (.block 1 (.seq (.reg [⟨some 16, .mov (.tmp 14), none⟩, ⟨some 17, .iaddr (.tmp 12) (.tmp 14) 7 none, none⟩, ⟨some 18, .load (some 7) (.tmp 17), none⟩, ⟨some 5, .box (.con (.agg [.int .i64 0, .int .i64 0, .int .i64 0, .int .i64 0, .int .i64 0, .int .i64 0, .int .i64 0])), none⟩, ⟨some 4, .mov (.tmp 16), none⟩, ⟨none, .store 7 (.tmp 5) (.tmp 18), none⟩]) (.seq (.dreg 14 [⟨some 19, .mov (.tmp 4), none⟩, ⟨some 20, .mov (.tmp 4), none⟩, ⟨some 21, .faddr (.tmp 5) 1, none⟩, ⟨some 22, .faddr (.tmp 21) 0, none⟩, ⟨some 23, .load none (.tmp 22), none⟩, ⟨some 24, .faddr (.tmp 5) 1, none⟩, ⟨some 25, .faddr (.tmp 24) 1, none⟩, ⟨some 26, .load none (.tmp 25), none⟩, ⟨some 27, .iaddr (.tmp 3) (.con (.int .i64 0)) 51 (some 2), none⟩, ⟨some 28, .faddr (.tmp 27) 9, none⟩, ⟨some 29, .iaddr (.tmp 28) (.tmp 19) 1 (some 21), none⟩, ⟨none, .store 1 (.tmp 29) (.tmp 23), none⟩, ⟨some 30, .iaddr (.tmp 3) (.con (.int .i64 1)) 51 (some 2), none⟩, ⟨some 31, .faddr (.tmp 30) 9, none⟩, ⟨some 32, .iaddr (.tmp 31) (.tmp 20) 1 (some 21), none⟩, ⟨none, .store 1 (.tmp 32) (.tmp 26), none⟩]) (.dreg 14 [⟨some 33, .mov (.tmp 4), none⟩, ⟨some 34, .mov (.tmp 4), none⟩, ⟨some 35, .faddr (.tmp 5) 3, none⟩, ⟨some 36, .faddr (.tmp 35) 0, none⟩, ⟨some 37, .load none (.tmp 36), none⟩, ⟨some 38, .faddr (.tmp 5) 3, none⟩, ⟨some 39, .faddr (.tmp 38) 1, none⟩, ⟨some 40, .load none (.tmp 39), none⟩, ⟨some 41, .iaddr (.tmp 3) (.con (.int .i64 0)) 51 (some 2), none⟩, ⟨some 42, .faddr (.tmp 41) 30, none⟩, ⟨some 43, .iaddr (.tmp 42) (.tmp 33) 1 (some 21), none⟩, ⟨none, .store 1 (.tmp 43) (.tmp 37), none⟩, ⟨some 44, .iaddr (.tmp 3) (.con (.int .i64 1)) 51 (some 2), none⟩, ⟨some 45, .faddr (.tmp 44) 30, none⟩, ⟨some 46, .iaddr (.tmp 45) (.tmp 34) 1 (some 21), none⟩, ⟨none, .store 1 (.tmp 46) (.tmp 40), none⟩])))) (.reg [⟨some 47, .bin .add (.tmp 14) (.con (.int .i64 1)), none⟩, ⟨some 14, .mov (.tmp 47), none⟩]))))))) (.seq (.reg [⟨some 48, .load (some 102) (.tmp 3), none⟩, ⟨none, .store 102 (.tmp 2) (.tmp 48), none⟩]) .ret))))⟩
theorem comp60 : compFn Try.prog 60 = some F60 := by kernel_rfl
def F61 : AFn := ⟨1, 19, [.tmp 2], (.seq (.reg [⟨some 1, .box (.tmp 0), none⟩, ⟨some 2, .mov (.con (.int .i64 0)), none⟩]) (.seq (.reg [⟨some 3, .mov (.con (.int .i64 0)), none⟩]) (.seq (.seq (.reg [⟨some 6, .load (some 51) (.tmp 1), none⟩, ⟨some 7, .call (.con (.fn 96 [] [])) [(.tmp 6)], none⟩, ⟨some 8, .len false (.tmp 7), none⟩, ⟨some 9, .mov (.con (.int .i64 0)), none⟩]) (.block 0 (.loop (.seq (.reg [⟨some 10, .bin .lss (.tmp 9) (.tmp 8), none⟩]) (.seq (.cond (.tmp 10) .skip (.exit 0)) (.seq (.block 1 (.seq (.reg [⟨some 11, .iaddr (.tmp 7) (.tmp 9) 2 none, none⟩, ⟨some 12, .load (some 2) (.tmp 11), none⟩, ⟨some 5, .box (.con (.agg [.int .i64 0, .int .i64 0])), none⟩, ⟨none, .store 2 (.tmp 5) (.tmp 12), none⟩]) (.reg [⟨some 13, .mov (.tmp 3), none⟩, ⟨some 14, .faddr (.tmp 5) 0, none⟩, ⟨some 15, .load none (.tmp 14), none⟩, ⟨some 16, .bin .add (.tmp 13) (.tmp 15), none⟩, ⟨some 3, .mov (.tmp 16), none⟩]))) (.reg [⟨some 17, .bin .add (.tmp 9) (.con (.int .i64 1)), none⟩, ⟨some 9, .mov (.tmp 17), none⟩]))))))) (.seq (.reg [⟨some 18, .mov (.tmp 3), none⟩, ⟨some 2, .mov (.tmp 18), none⟩]) .ret))))⟩
theorem comp61 : compFn Try.prog 61 = some F61 := by kernel_rfl
def F64 : AFn := ⟨3, 16, [.cell 6 (some 2)], (.seq (.reg [⟨some 6, .box (.con (.agg [.int .i64 0, .int .i64 0])), none⟩]) (.seq (.reg [⟨some 7, .mov (.tmp 0), none⟩, ⟨some 8, .mov (.tmp 2), none⟩, ⟨some 9, .call (.con (.fn 97 [] [])) [(.tmp 7), (.tmp 8)], none⟩, ⟨some 10, .mov (.tmp 1), none⟩, ⟨some 11, .un .neg (.tmp 10), none⟩, ⟨some 12, .mov (.tmp 2), none⟩, ⟨some 13, .call (.con (.fn 97 [] [])) [(.tmp 11), (.tmp 12)], none⟩, ⟨some 14, .un .neg (.tmp 13), none⟩, ⟨some 15, .build [.int .i64 0, .int .i64 0] [(0, 1, (.tmp 9)), (1, 1, (.tmp 14))], none⟩, ⟨none, .store 2 (.tmp 6) (.tmp 15), none⟩]) .ret))⟩
theorem comp64 : compFn Try.prog 64 = some F64 := by kernel_rfl
def F65 : AFn := ⟨1, 10, [.tmp 2], (.seq (.reg [⟨some 1, .box (.tmp 0), none⟩, ⟨some 2, .mov (.con (.int .i64 0)), none⟩]) (.seq (.dreg 5 [⟨some 3, .faddr (.tmp 1) 0, none⟩, ⟨some 4, .faddr (.tmp 3) 3, none⟩, ⟨some 5, .load none (.tmp 4), none⟩, ⟨some 6, .load (some 51) (.tmp 1), none⟩, ⟨some 7, .call (.con (.fn 96 [] [])) [(.tmp 6)], none⟩, ⟨some 8, .call (.con (.fn 98 [] [])) [(.tmp 5), (.tmp 7)], none⟩, ⟨some 9, .un .neg (.tmp 8), none⟩, ⟨some 2, .mov (.tmp 9), none⟩]) .ret))⟩
theorem comp65 : compFn Try.prog 65 = some F65 := by kernel_rfl
def F66 : AFn := ⟨1, 9, [.tmp 2], (.seq (.reg [⟨some 1, .box (.tmp 0), none⟩, ⟨some 2, .mov (.con (.int .i64 0)), none⟩]) (.seq (.dreg 5 [⟨some 3, .faddr (.tmp 1) 0, none⟩, ⟨some 4, .faddr (.tmp 3) 2, none⟩, ⟨some 5, .load none (.tmp 4), none⟩, ⟨some 6, .load (some 51) (.tmp 1), none⟩, ⟨some 7, .call (.con (.fn 96 [] [])) [(.tmp 6)], none⟩, ⟨some 8, .call (.con (.fn 98 [] [])) [(.tmp 5), (.tmp 7)], none⟩, ⟨some 2, .mov (.tmp 8), none⟩]) .ret))⟩
theorem comp66 : compFn Try.prog 66 = some F66 := by kernel_rfl
def F67 : AFn := ⟨1, 23, [.tmp 2], (.seq (.reg [⟨some 1, .box (.tmp 0), none⟩, ⟨some 2, .mov (.con (.int .i64 0)), none⟩]) (.seq (.reg [⟨some 5, .faddr (.tmp 1) 0, none⟩, ⟨some 6, .faddr (.tmp 5) 7, none⟩, ⟨some 7, .load none (.tmp 6), none⟩, ⟨some 3, .mov (.tmp 7), none⟩]) (.seq (.seq (.reg [⟨some 8, .faddr (.tmp 1) 0, none⟩, ⟨some 9, .faddr (.tmp 8) 8, none⟩, ⟨some 10, .load none (.tmp 9), none⟩, ⟨some 11, .len false (.tmp 10), none⟩, ⟨some 12, .mov (.con (.int .i64 0)), none⟩]) (.block 0 (.loop (.seq (.reg [⟨some 13, .bin .lss (.tmp 12) (.tmp 11), none⟩]) (.seq (.cond (.tmp 13) .skip (.exit 0)) (.seq (.block 1 (.seq (.reg [⟨some 14, .mov (.tmp 12), none⟩, ⟨some 4, .mov (.tmp 14), none⟩]) (.reg [⟨some 15, .mov (.tmp 3), none⟩, ⟨some 16, .mov (.tmp 4), none⟩, ⟨some 17, .faddr (.tmp 1) 30, none⟩, ⟨some 18, .iaddr (.tmp 17) (.tmp 16) 1 (some 21), none⟩, ⟨some 19, .load none (.tmp 18), none⟩, ⟨some 20, .mx (.tmp 15) (.tmp 19), none⟩, ⟨some 3, .mov (.tmp 20), none⟩]))) (.reg [⟨some 21, .bin .add (.tmp 12) (.con (.int .i64 1)), none⟩, ⟨some 12, .mov (.tmp 21), none⟩]))))))) (.seq (.reg [⟨some 22, .mov (.tmp 3), none⟩, ⟨some 2, .mov (.tmp 22), none⟩]) .ret))))⟩
theorem comp67 : compFn Try.prog 67 = some F67 := by kernel_rfl
def F68 : AFn := ⟨2, 9, [.tmp 4], (.seq (.reg [⟨some 4, .mov (.con (.int .i64 0)), none⟩]) (.seq (.block 0 (.seq (.reg [⟨some 6, .mov (.tmp 0), none⟩, ⟨some 5, .mov (.tmp 6), none⟩]) (.cond (.tmp 5) (.seq (.reg [⟨some 4, .mov (.con (.int .i64 1)), none⟩]) .ret) (.seq (.reg [⟨some 8, .mov (.tmp 1), none⟩, ⟨some 7, .mov (.tmp 8), none⟩]) (.cond (.tmp 7) (.seq (.reg [⟨some 4, .mov (.con (.int .i64 3)), none⟩]) .ret) .skip))))) (.seq (.reg [⟨some 4, .mov (.con (.int .i64 2)), none⟩]) .ret)))⟩
theorem comp68 : compFn Try.prog 68 = some F68 := by kernel_rfl
def F69 : AFn := ⟨1, 11, [.tmp 2], (.seq (.reg [⟨some 1, .box (.tmp 0), none⟩, ⟨some 2, .mov (.con (.bool false)), none⟩]) (.seq (.reg [⟨some 3, .load (some 51) (.tmp 1), none⟩, ⟨some 4, .call (.con (.fn 65 [] [])) [(.tmp 3)], none⟩, ⟨some 5, .bin .geq (.tmp 4) (.con (.int .i64 0)), none⟩, ⟨some 6, .mov (.tmp 5), none⟩, ⟨some 7, .load (some 51) (.tmp 1), some (6, true)⟩, ⟨some 8, .call (.con (.fn 66 [] [])) [(.tmp 7)], some (6, true)⟩, ⟨some 9, .bin .geq (.tmp 8) (.con (.int .i64 0)), some (6, true)⟩, ⟨some 10, .pick (.tmp 6) (.tmp 9) (.con (.bool false)), none⟩, ⟨some 2, .mov (.tmp 10), none⟩]) .ret))⟩
theorem comp69 : compFn Try.prog 69 = some F69 := by kernel_rfl
def F72 : AFn := ⟨1, 59, [.tmp 2], (.seq (.reg [⟨some 1, .box (.tmp 0), none⟩, ⟨some 2, .mov (.con (.int .i64 0)), none⟩]) (.seq (.block 0 (.seq (.reg [⟨some 4, .faddr (.tmp 1) 0, none⟩, ⟨some 5, .load none (.tmp 4), none⟩, ⟨some 6, .call (.con (.fn 83 [] [])) [(.tmp 5), (.con (.int .i64 1)), (.con (.int .i64 3000))], none⟩, ⟨some 7, .un .not (.tmp 6), none⟩, ⟨some 8, .mov (.tmp 7), none⟩, ⟨some 9, .faddr (.tmp 1) 1, some (8, false)⟩, ⟨some 10, .load none (.tmp 9), some (8, false)⟩, ⟨some 11, .call (.con (.fn 83 [] [])) [(.tmp 10), (.con (.int .i64 1)), (.con (.int .i64 1000))], some (8, false)⟩, ⟨some 12, .un .not (.tmp 11), some (8, false)⟩, ⟨some 13, .pick (.tmp 8) (.con (.bool true)) (.tmp 12), none⟩, ⟨some 3, .mov (.tmp 13), none⟩]) (.cond (.tmp 3) (.seq (.reg [⟨some 2, .mov (.con (.int .i64 2)), none⟩]) .ret) (.seq (.reg [⟨some 15, .faddr (.tmp 1) 2, none⟩, ⟨some 16, .load none (.tmp 15), none⟩, ⟨some 17, .faddr (.tmp 1) 0, none⟩, ⟨some 18, .load none (.tmp 17), none⟩, ⟨some 19, .call (.con (.fn 83 [] [])) [(.tmp 16), (.con (.int .i64 0)), (.tmp 18)], none⟩, ⟨some 20, .un .not (.tmp 19), none⟩, ⟨some 21, .mov (.tmp 20), none⟩, ⟨some 22, .faddr (.tmp 1) 3, some (21, false)⟩, ⟨some 23, .load none (.tmp 22), some (21, false)⟩, ⟨some 24, .faddr (.tmp 1) 0, some (21, false)⟩, ⟨some 25, .load none (.tmp 24), some (21, false)⟩, ⟨some 26, .call (.con (.fn 83 [] [])) [(.tmp 23), (.con (.int .i64 0)), (.tmp 25)], some (21, false)⟩, ⟨some 27, .un .not (.tmp 26), some (21, false)⟩, ⟨some 28, .pick (.tmp 21) (.con (.bool true)) (.tmp 27), none⟩, ⟨some 14, .mov (.tmp 28), none⟩]) (.cond (.tmp 14) (.seq (.reg [⟨some 2, .mov (.con (.int .i64 2)), none⟩]) .ret) (.seq (.reg [⟨some 30, .faddr (.tmp 1) 2, none⟩, ⟨some 31, .load none (.tmp 30), none⟩, ⟨some 32, .faddr (.tmp 1) 3, none⟩, ⟨some 33, .load none (.tmp 32), none⟩, ⟨some 34, .bin .geq (.tmp 31) (.tmp 33), none⟩, ⟨some 29, .mov (.tmp 34), none⟩]) (.cond (.tmp 29) (.seq (.reg [⟨some 2, .mov (.con (.int .i64 9)), none⟩]) .ret) (.seq (.reg [⟨some 36, .faddr (.tmp 1) 4, none⟩, ⟨some 37, .load none (.tmp 36), none⟩, ⟨some 38, .call (.con (.fn 83 [] [])) [(.tmp 37), (.con (.int .i64 0)), (.con (.int .i64 20000))], none⟩, ⟨some 39, .un .not (.tmp 38), none⟩, ⟨some 40, .mov (.tmp 39), none⟩, ⟨some 41, .faddr (.tmp 1) 5, some (40, false)⟩, ⟨some 42, .load none (.tmp 41), some (40, false)⟩, ⟨some 43, .call (.con (.fn 83 [] [])) [(.tmp 42), (.con (.int .i64 0)), (.con (.int .i64 100000))], some (40, false)⟩, ⟨some 44, .un .not (.tmp 43), some (40, false)⟩, ⟨some 45, .pick (.tmp 40) (.con (.bool true)) (.tmp 44), none⟩, ⟨some 35, .mov (.tmp 45), none⟩]) (.cond (.tmp 35) (.seq (.reg [⟨some 2, .mov (.con (.int .i64 2)), none⟩]) .ret) (.seq (.reg [⟨some 47, .faddr (.tmp 1) 6, none⟩, ⟨some 48, .load none (.tmp 47), none⟩, ⟨some 49, .faddr (.tmp 1) 0, none⟩, ⟨some 50, .load none (.tmp 49), none⟩, ⟨some 51, .call (.con (.fn 83 [] [])) [(.tmp 48), (.con (.int .i64 0)), (.tmp 50)], none⟩, ⟨some 52, .un .not (.tmp 51), none⟩, ⟨some 53, .mov (.tmp 52), none⟩, ⟨some 54, .faddr (.tmp 1) 7, some (53, false)⟩, ⟨some 55, .load none (.tmp 54), some (53, false)⟩, ⟨some 56, .call (.con (.fn 83 [] [])) [(.tmp 55), (.con (.int .i64 0)), (.con (.int .i64 2000))], some (53, false)⟩, ⟨some 57, .un .not (.tmp 56), some (53, false)⟩, ⟨some 58, .pick (.tmp 53) (.con (.bool true)) (.tmp 57), none⟩, ⟨some 46, .mov (.tmp 58), none⟩]) (.cond (.tmp 46) (.seq (.reg [⟨some 2, .mov (.con (.int .i64 2)), none⟩]) .ret) .skip))))))))))) (.seq (.reg [⟨some 2, .mov (.con (.int .i64 0)), none⟩]) .ret)))⟩
theorem comp72 : compFn Try.prog 72 = some F72 := by kernel_rfl
def F73 : AFn := ⟨2, 51, [.tmp 4], (.seq (.reg [⟨some 2, .box (.tmp 0), none⟩, ⟨some 3, .box (.tmp 1), none⟩, ⟨some 4, .mov (.con (.int .i64 0)), none⟩]) (.seq (.seq (.reg [⟨some 7, .faddr (.tmp 3) 0, none⟩, ⟨some 8, .load none (.tmp 7), none⟩, ⟨some 9, .faddr (.tmp 2) 2, none⟩, ⟨some 10, .load none (.tmp 9), none⟩, ⟨some 11, .faddr (.tmp 2) 3, none⟩, ⟨some 12, .load none (.tmp 11), none⟩, ⟨some 13, .call (.con (.fn 83 [] [])) [(.tmp 8), (.tmp 10), (.tmp 12)], none⟩, ⟨some 14, .un .not (.tmp 13), none⟩]) (.cond (.tmp 14) (.seq (.reg [⟨some 4, .mov (.con (.int .i64 2)), none⟩]) .ret) .skip)) (.seq (.seq (.reg [⟨some 15, .faddr (.tmp 3) 1, none⟩, ⟨some 16, .load (some 2) (.tmp 15), none⟩, ⟨some 17, .call (.con (.fn 99 [] [])) [(.tmp 16), (.con (.int .i64 100000))], none⟩, ⟨some 5, .mov (.tmp 17), none⟩]) (.seq (.reg [⟨some 18, .mov (.tmp 5), none⟩, ⟨some 19, .bin .neq (.tmp 18) (.con (.int .i64 0)), none⟩]) (.cond (.tmp 19) (.seq (.reg [⟨some 20, .mov (.tmp 5), none⟩, ⟨some 4, .mov (.tmp 20), none⟩]) .ret) .skip))) (.seq (.seq (.reg [⟨some 21, .faddr (.tmp 3) 3, none⟩, ⟨some 22, .load (some 2) (.tmp 21), none⟩, ⟨some 23, .call (.con (.fn 99 [] [])) [(.tmp 22), (.con (.int .i64 2000))], none⟩, ⟨some 6, .mov (.tmp 23), none⟩]) (.seq (.reg [⟨some 24, .mov (.tmp 6), none⟩, ⟨some 25, .bin .neq (.tmp 24) (.con (.int .i64 0)), none⟩]) (.cond (.tmp 25) (.seq (.reg [⟨some 26, .mov (.tmp 6), none⟩, ⟨some 4, .mov (.tmp 26), none⟩]) .ret) .skip))) (.seq (.block 0 (.seq (.reg [⟨some 28, .faddr (.tmp 3) 5, none⟩, ⟨some 29, .load none (.tmp 28), none⟩, ⟨some 30, .call (.con (.fn 83 [] [])) [(.tmp 29), (.con (.int .i64 1)), (.con (.int .i64 4))], none⟩, ⟨some 31, .un .not (.tmp 30), none⟩, ⟨some 27, .mov (.tmp 31), none⟩]) (.cond (.tmp 27) (.seq (.reg [⟨some 4, .mov (.con (.int .i64 3)), none⟩]) .ret) (.seq (.reg [⟨some 33, .faddr (.tmp 3) 6, none⟩, ⟨some 34, .load none (.tmp 33), none⟩, ⟨some 35, .call (.con (.fn 83 [] [])) [(.tmp 34), (.con (.int .i64 0)), (.con (.int .i64 1000000))], none⟩, ⟨some 36, .un .not (.tmp 35), none⟩, ⟨some 32, .mov (.tmp 36), none⟩]) (.cond (.tmp 32) (.seq (.reg [⟨some 4, .mov (.con (.int .i64 2)), none⟩]) .ret) (.seq (.reg [⟨some 38, .faddr (.tmp 3) 6, none⟩, ⟨some 39, .load none (.tmp 38), none⟩, ⟨some 40, .bin .gtr (.tmp 39) (.con (.int .i64 0)), none⟩, ⟨some 41, .mov (.tmp 40), none⟩, ⟨some 42, .faddr (.tmp 3) 5, some (41, true)⟩, ⟨some 43, .load none (.tmp 42), some (41, true)⟩, ⟨some 44, .bin .neq (.tmp 43) (.con (.int .i64 2)), some (41, true)⟩, ⟨some 45, .pick (.tmp 41) (.tmp 44) (.con (.bool false)), none⟩, ⟨some 46, .mov (.tmp 45), none⟩, ⟨some 47, .faddr (.tmp 3) 5, some (46, true)⟩, ⟨some 48, .load none (.tmp 47), some (46, true)⟩, ⟨some 49, .bin .neq (.tmp 48) (.con (.int .i64 3)), some (46, true)⟩, ⟨some 50, .pick (.tmp 46) (.tmp 49) (.con (.bool false)), none⟩, ⟨some 37, .mov (.tmp 50), none⟩]) (.cond (.tmp 37) (.seq (.reg [⟨some 4, .mov (.con (.int .i64 1)), none⟩]) .ret) .skip))))))) (.seq (.reg [⟨some 4, .mov (.con (.int .i64 0)), none⟩]) .ret))))))⟩
theorem comp73 : compFn Try.prog 73 = some F73 := by kernel_rfl
def F77 : AFn := ⟨2, 13, [.tmp 4], (.seq (.reg [⟨some 2, .box (.tmp 0), none⟩, ⟨some 4, .mov (.con (.int .i64 0)), none⟩]) (.seq (.seq (.reg [⟨some 6, .load (some 9) (.tmp 2), none⟩, ⟨some 7, .call (.con (.fn 22 [] [])) [(.tmp 6)], none⟩, ⟨some 5, .mov (.tmp 7), none⟩]) (.seq (.reg [⟨some 8, .mov (.tmp 5), none⟩, ⟨some 9, .bin .neq (.tmp 8) (.con (.int .i64 0)), none⟩]) (.cond (.tmp 9) (.seq (.reg [⟨some 10, .mov (.tmp 5), none⟩, ⟨some 4, .mov (.tmp 10), none⟩]) .ret) .skip))) (.seq (.reg [⟨some 11, .mov (.tmp 1), none⟩, ⟨some 12, .call (.con (.fn 34 [] [])) [(.tmp 11)], none⟩, ⟨some 4, .mov (.tmp 12), none⟩]) .ret)))⟩
theorem comp77 : compFn Try.prog 77 = some F77 := by kernel_rfl
def F78 : AFn := ⟨2, 37, [.tmp 4], (.seq (.reg [⟨some 2, .box (.tmp 0), none⟩, ⟨some 4, .mov (.con (.nils)), none⟩]) (.seq (.reg [⟨some 11, .load (some 9) (.tmp 2), none⟩, ⟨some 12, .call (.con (.fn 60 [] [])) [(.tmp 11)], none⟩, ⟨some 5, .box (.con (.agg [.int .i64 0, .int .i64 0, .int .i64 0, .int .i64 0, .int .i64 0, .int .i64 0, .int .i64 0, .int .i64 0, .nils, .int .i64 0, .int .i64 0, .int .i64 0, .int .i64 0, .int .i64 0, .int .i64 0, .int .i64 0, .int .i64 0, .int .i64 0, .int .i64 0, .int .i64 0, .int .i64 0, .int .i64 0, .int .i64 0, .int .i64 0, .int .i64 0, .int .i64 0, .int .i64 0, .int .i64 0, .int .i64 0, .int .i64 0, .int .i64 0, .int .i64 0, .int .i64 0, .int .i64 0, .int .i64 0, .int .i64 0, .int .i64 0, .int .i64 0, .int .i64 0, .int .i64 0, .int .i64 0, .int .i64 0, .int .i64 0, .int .i64 0, .int .i64 0, .int .i64 0, .int .i64 0, .int .i64 0, .int .i64 0, .int .i64 0, .int .i64 0, .int .i64 0, .int .i64 0, .int .i64 0, .int .i64 0, .int .i64 0, .int .i64 0, .int .i64 0, .int .i64 0, .nils, .int .i64 0, .int .i64 0, .int .i64 0, .int .i64 0, .int .i64 0, .int .i64 0, .int .i64 0, .int .i64 0, .int .i64 0, .int .i64 0, .int .i64 0, .int .i64 0, .int .i64 0, .int .i64 0, .int .i64 0, .int .i64 0, .int .i64 0, .int .i64 0, .int .i64 0, .int .i64 0, .int .i64 0, .int .i64 0, .int .i64 0, .int .i64 0, .int .i64 0, .int .i64 0, .int .i64 0, .int .i64 0, .int .i64 0, .int .i64 0, .int .i64 0, .int .i64 0, .int .i64 0, .int .i64 0, .int .i64 0, .int .i64 0, .int .i64 0, .int .i64 0, .int .i64 0, .int .i64 0, .int .i64 0, .int .i64 0])), none⟩, ⟨none, .store 102 (.tmp 5) (.tmp 12), none⟩]) (.seq (.dreg 7 [⟨some 13, .iaddr (.tmp 5) (.con (.int .i64 1)) 51 (some 2), none⟩, ⟨some 14, .load (some 51) (.tmp 13), none⟩, ⟨some 15, .mkfn 101 [(.tmp 14)] [], none⟩, ⟨some 16, .iaddr (.tmp 5) (.con (.int .i64 0)) 51 (some 2), none⟩, ⟨some 17, .load (some 51) (.tmp 16), none⟩, ⟨some 18, .mkfn 101 [(.tmp 17)] [], none⟩, ⟨some 6, .mov (.tmp 15), none⟩, ⟨some 7, .mov (.tmp 18), none⟩]) (.seq (.reg [⟨some 8, .mov (.con (.nils)), none⟩]) (.seq (.seq (.reg [⟨some 19, .mov (.tmp 1), none⟩, ⟨some 20, .len false (.tmp 19), none⟩, ⟨some 21, .mov (.con (.int .i64 0)), none⟩]) (.block 0 (.loop (.seq (.reg [⟨some 22, .bin .lss (.tmp 21) (.tmp 20), none⟩]) (.seq (.cond (.tmp 22) .skip (.exit 0)) (.seq (.block 1 (.seq (.reg [⟨some 23, .iaddr (.tmp 19) (.tmp 21) 3 none, none⟩, ⟨some 24, .load (some 3) (.tmp 23), none⟩, ⟨some 10, .box (.con (.agg [.int .i64 0, .int .i64 0, .int .i64 0])), none⟩, ⟨none, .store 3 (.tmp 10) (.tmp 24), none⟩]) (.dreg 9 [⟨some 25, .mov (.tmp 8), none⟩, ⟨some 26, .mov (.tmp 6), none⟩, ⟨some 27, .load (some 3) (.tmp 10), none⟩, ⟨some 28, .call (.tmp 26) [(.tmp 27)], none⟩, ⟨some 29, .mov (.tmp 7), none⟩, ⟨some 30, .load (some 3) (.tmp 10), none⟩, ⟨some 31, .call (.tmp 29) [(.tmp 30)], none⟩, ⟨some 32, .call (.con (.fn 68 [] [])) [(.tmp 28), (.tmp 31)], none⟩, ⟨some 33, .bsl 1 false [.int .i64 0] 1 [(0, (.tmp 32))], none⟩, ⟨some 34, .app (.tmp 25) (.tmp 33) 1 8 [.int .i64 0], none⟩, ⟨some 8, .mov (.tmp 34), none⟩]))) (.reg [⟨some 35, .bin .add (.tmp 21) (.con (.int .i64 1)), none⟩, ⟨some 21, .mov (.tmp 35), none⟩]))))))) (.seq (.reg [⟨some 36, .mov (.tmp 8), none⟩, ⟨some 4, .mov (.tmp 36), none⟩]) .ret))))))⟩
theorem comp78 : compFn Try.prog 78 = some F78 := by kernel_rfl
def F81 : AFn := ⟨2, 9, [.tmp 4], (.seq (.reg [⟨some 2, .box (.tmp 0), none⟩, ⟨some 4, .mov (.con (.int .i64 0)), none⟩]) (.seq (.reg [⟨some 5, .load (some 9) (.tmp 2), none⟩, ⟨some 6, .mov (.tmp 1), none⟩, ⟨some 7, .call (.con (.fn 78 [] [])) [(.tmp 5), (.tmp 6)], none⟩, ⟨some 8, .call (.con (.fn 102 [] [])) [(.tmp 7), (.con (.fn 103 [] []))], none⟩, ⟨some 4, .mov (.tmp 8), none⟩]) .ret))⟩
theorem comp81 : compFn Try.prog 81 = some F81 := by kernel_rfl
def F83 : AFn := ⟨3, 15, [.tmp 6], (.seq (.reg [⟨some 6, .mov (.con (.bool false)), none⟩]) (.seq (.reg [⟨some 7, .mov (.tmp 0), none⟩, ⟨some 8, .mov (.tmp 1), none⟩, ⟨some 9, .bin .geq (.tmp 7) (.tmp 8), none⟩, ⟨some 10, .mov (.tmp 9), none⟩, ⟨some 11, .mov (.tmp 0), some (10, true)⟩, ⟨some 12, .mov (.tmp 2), some (10, true)⟩, ⟨some 13, .bin .leq (.tmp 11) (.tmp 12), some (10, true)⟩, ⟨some 14, .pick (.tmp 10) (.tmp 13) (.con (.bool false)), none⟩, ⟨some 6, .mov (.tmp 14), none⟩]) .ret))⟩
theorem comp83 : compFn Try.prog 83 = some F83 := by kernel_rfl
def F84 : AFn := ⟨2, 26, [.tmp 4], (.seq (.reg [⟨some 4, .mov (.con (.int .i64 0)), none⟩]) (.seq (.reg [⟨some 8, .mov (.tmp 0), none⟩, ⟨some 5, .mov (.con (.int .i64 0)), none⟩, ⟨some 6, .mov (.tmp 8), none⟩]) (.seq (.block 0 (.loop (.seq (.seq (.reg [⟨some 9, .mov (.tmp 5), none⟩, ⟨some 10, .mov (.tmp 6), none⟩, ⟨some 11, .bin .lss (.tmp 9) (.tmp 10), none⟩]) (.cond (.tmp 11) .skip (.exit 0))) (.block 1 (.seq (.reg [⟨some 12, .mov (.tmp 5), none⟩, ⟨some 13, .mov (.tmp 6), none⟩, ⟨some 14, .bin .add (.tmp 12) (.tmp 13), none⟩, ⟨some 15, .conv .u64 (.tmp 14), none⟩, ⟨some 16, .bin .shr (.tmp 15) (.con (.int .u64 1)), none⟩, ⟨some 17, .conv .i64 (.tmp 16), none⟩, ⟨some 7, .mov (.tmp 17), none⟩]) (.seq (.reg [⟨some 18, .mov (.tmp 1), none⟩, ⟨some 19, .mov (.tmp 7), none⟩, ⟨some 20, .call (.tmp 18) [(.tmp 19)], none⟩, ⟨some 21, .un .not (.tmp 20), none⟩]) (.cond (.tmp 21) (.reg [⟨some 22, .mov (.tmp 7), none⟩, ⟨some 23, .bin .add (.tmp 22) (.con (.int .i64 1)), none⟩, ⟨some 5, .mov (.tmp 23), none⟩]) (.reg [⟨some 24, .mov (.tmp 7), none⟩, ⟨some 6, .mov (.tmp 24), none⟩])))))))) (.seq (.reg [⟨some 25, .mov (.tmp 5), none⟩, ⟨some 4, .mov (.tmp 25), none⟩]) .ret))))⟩
theorem comp84 : compFn Try.prog 84 = some F84 := by kernel_rfl
def F85 : AFn := ⟨1, 12, [.tmp 4], (.seq (.reg [⟨some 4, .mov (.con (.bool false)), none⟩]) (.seq (.reg [⟨some 5, .load (some 9) (.tmp 1), none⟩, ⟨some 6, .load none (.tmp 2), none⟩, ⟨some 7, .mov (.tmp 0), none⟩, ⟨some 8, .call (.con (.fn 86 [] [])) [(.tmp 5), (.tmp 6), (.tmp 7)], none⟩, ⟨some 9, .call (.con (.fn 60 [] [])) [(.tmp 8)], none⟩, ⟨some 10, .aidx (.tmp 9) (.con (.int .i64 0)) 2 51 (some 51), none⟩, ⟨some 11, .call (.con (.fn 69 [] [])) [(.tmp 10)], none⟩, ⟨some 4, .mov (.tmp 11), none⟩]) .ret))⟩
theorem comp85 : compFn Try.prog 85 = some F85 := by kernel_rfl
def F86 : AFn := ⟨3, 21, [.cell 6 (some 9)], (.seq (.reg [⟨some 3, .box (.tmp 0), none⟩, ⟨some 6, .box (.con (.agg [.int .i64 0, .int .i64 0, .int .i64 0, .int .i64 0, .int .i64 0, .int .i64 0, .int .i64 0, .int .i64 0, .nils])), none⟩]) (.seq (.reg [⟨some 8, .mov (.tmp 1), none⟩, ⟨some 9, .mov (.tmp 2), none⟩, ⟨some 10, .mov (.tmp 2), none⟩, ⟨some 11, .build [.int .i64 0, .int .i64 0] [(0, 1, (.tmp 9)), (1, 1, (.tmp 10))], none⟩, ⟨some 12, .build [.int .i64 0, .int .i64 0, .int .i64 0, .int .i64 0, .int .i64 0, .int .i64 0, .int .i64 0] [(0, 1, (.tmp 8)), (1, 2, (.tmp 11)), (5, 1, (.con (.int .i64 1)))], none⟩, ⟨some 7, .box (.con (.agg [.int .i64 0, .int .i64 0, .int .i64 0, .int .i64 0, .int .i64 0, .int .i64 0, .int .i64 0])), none⟩, ⟨none, .store 7 (.tmp 7) (.tmp 12), none⟩]) (.seq (.dreg 5 [⟨some 13, .faddr (.tmp 3) 8, none⟩, ⟨some 14, .load none (.tmp 13), none⟩, ⟨some 15, .call (.con (.fn 104 [] [])) [(.tmp 14)], none⟩, ⟨some 16, .load (some 7) (.tmp 7), none⟩, ⟨some 17, .bsl 7 true [.int .i64 0, .int .i64 0, .int .i64 0, .int .i64 0, .int .i64 0, .int .i64 0, .int .i64 0] 1 [(0, (.tmp 16))], none⟩, ⟨some 18, .app (.tmp 15) (.tmp 17) 7 56 [.int .i64 0, .int .i64 0, .int .i64 0, .int .i64 0, .int .i64 0, .int .i64 0, .int .i64 0], none⟩, ⟨some 19, .faddr (.tmp 3) 8, none⟩, ⟨none, .store 1 (.tmp 19) (.tmp 18), none⟩]) (.seq (.reg [⟨some 20, .load (some 9) (.tmp 3), none⟩, ⟨none, .store 9 (.tmp 6) (.tmp 20), none⟩]) .ret))))⟩
theorem comp86 : compFn Try.prog 86 = some F86 := by kernel_rfl
def F87 : AFn := ⟨1, 13, [.tmp 5], (.seq (.reg [⟨some 5, .mov (.con (.bool false)), none⟩]) (.seq (.dreg 5 [⟨some 6, .load (some 9) (.tmp 1), none⟩, ⟨some 7, .load none (.tmp 2), none⟩, ⟨some 8, .mov (.tmp 0), none⟩, ⟨some 9, .call (.con (.fn 86 [] [])) [(.tmp 6), (.tmp 7), (.tmp 8)], none⟩, ⟨some 10, .load none (.tmp 3), none⟩, ⟨some 11, .call (.con (.fn 81 [] [])) [(.tmp 9), (.tmp 10)], none⟩, ⟨some 12, .bin .geq (.tmp 11) (.con (.int .i64 0)), none⟩, ⟨some 5, .mov (.tmp 12), none⟩]) .ret))⟩
theorem comp87 : compFn Try.prog 87 = some F87 := by kernel_rfl
def F89 : AFn := ⟨1, 17, [.tmp 2], (.seq (.reg [⟨some 1, .box (.tmp 0), none⟩, ⟨some 2, .mov (.con (.int .i64 0)), none⟩]) (.seq (.seq (.reg [⟨some 3, .faddr (.tmp 1) 0, none⟩, ⟨some 4, .load none (.tmp 3), none⟩]) (.block 0 (.seq (.reg [⟨some 6, .bin .eql (.tmp 4) (.con (.int .i64 1)), none⟩, ⟨some 5, .mov (.tmp 6), none⟩]) (.cond (.tmp 5) (.seq (.reg [⟨some 7, .load (some 3) (.tmp 1), none⟩, ⟨some 8, .call (.con (.fn 105 [] [])) [(.tmp 7)], none⟩, ⟨some 2, .mov (.tmp 8), none⟩]) .ret) (.seq (.reg [⟨some 10, .bin .eql (.tmp 4) (.con (.int .i64 2)), none⟩, ⟨some 9, .mov (.tmp 10), none⟩]) (.cond (.tmp 9) (.seq (.reg [⟨some 11, .load (some 3) (.tmp 1), none⟩, ⟨some 12, .call (.con (.fn 106 [] [])) [(.tmp 11)], none⟩, ⟨some 2, .mov (.tmp 12), none⟩]) .ret) (.seq (.reg [⟨some 14, .bin .eql (.tmp 4) (.con (.int .i64 3)), none⟩, ⟨some 13, .mov (.tmp 14), none⟩]) (.cond (.tmp 13) (.seq (.reg [⟨some 15, .load (some 3) (.tmp 1), none⟩, ⟨some 16, .call (.con (.fn 107 [] [])) [(.tmp 15)], none⟩, ⟨some 2, .mov (.tmp 16), none⟩]) .ret) .skip)))))))) (.seq (.reg [⟨some 2, .mov (.con (.int .i64 3)), none⟩]) .ret)))⟩
theorem comp89 : compFn Try.prog 89 = some F89 := by kernel_rfl
def F91 : AFn := ⟨2, 6, [.tmp 4], (.seq (.reg [⟨some 2, .box (.tmp 0), none⟩, ⟨some 3, .box (.tmp 1), none⟩, ⟨some 4, .mov (.con (.nilf)), none⟩]) (.seq (.reg [⟨some 5, .mkfn 108 [] [(.tmp 2), (.tmp 3)], none⟩, ⟨some 4, .mov (.tmp 5), none⟩]) .ret))⟩
theorem comp91 : compFn Try.prog 91 = some F91 := by kernel_rfl
def F92 : AFn := ⟨2, 16, [.tmp 4], (.seq (.reg [⟨some 2, .box (.tmp 0), none⟩, ⟨some 3, .box (.tmp 1), none⟩, ⟨some 4, .mov (.con (.int .i64 0)), none⟩]) (.seq (.reg [⟨some 5, .faddr (.tmp 2) 0, none⟩, ⟨some 6, .load none (.tmp 5), none⟩, ⟨some 7, .faddr (.tmp 3) 0, none⟩, ⟨some 8, .load none (.tmp 7), none⟩, ⟨some 9, .bin .sub (.tmp 6) (.tmp 8), none⟩, ⟨some 10, .faddr (.tmp 3) 0, none⟩, ⟨some 11, .load none (.tmp 10), none⟩, ⟨some 12, .faddr (.tmp 2) 0, none⟩, ⟨some 13, .load none (.tmp 12), none⟩, ⟨some 14, .bin .sub (.tmp 11) (.tmp 13), none⟩, ⟨some 15, .mx (.tmp 9) (.tmp 14), none⟩, ⟨some 4, .mov (.tmp 15), none⟩]) .ret))⟩
theorem comp92 : compFn Try.prog 92 = some F92 := by kernel_rfl
def F94 : AFn := ⟨1, 6, [.cell 2 (some 2)], (.seq (.reg [⟨some 2, .box (.con (.agg [.int .i64 0, .int .i64 0])), none⟩]) (.seq (.reg [⟨some 3, .mov (.tmp 0), none⟩, ⟨some 4, .mov (.tmp 0), none⟩, ⟨some 5, .call (.con (.fn 50 [] [])) [(.tmp 3), (.tmp 4)], none⟩, ⟨none, .store 2 (.tmp 2) (.tmp 5), none⟩]) .ret))⟩
theorem comp94 : compFn Try.prog 94 = some F94 := by kernel_rfl
def F96 : AFn := ⟨1, 35, [.tmp 2], (.seq (.reg [⟨some 1, .box (.tmp 0), none⟩, ⟨some 2, .mov (.con (.nils)), none⟩]) (.seq (.reg [⟨some 6, .faddr (.tmp 1) 0, none⟩, ⟨some 7, .faddr (.tmp 6) 5, none⟩, ⟨some 8, .load none (.tmp 7), none⟩, ⟨some 9, .faddr (.tmp 1) 0, none⟩, ⟨some 10, .faddr (.tmp 9) 6, none⟩, ⟨some 11, .load none (.tmp 10), none⟩, ⟨some 12, .build [.int .i64 0, .int .i64 0] [(0, 1, (.tmp 8)), (1, 1, (.tmp 11))], none⟩, ⟨some 13, .bsl 2 true [.int .i64 0, .int .i64 0] 1 [(0, (.tmp 12))], none⟩, ⟨some 3, .mov (.tmp 13), none⟩]) (.seq (.seq (.reg [⟨some 14, .faddr (.tmp 1) 0, none⟩, ⟨some 15, .faddr (.tmp 14) 8, none⟩, ⟨some 16, .load none (.tmp 15), none⟩, ⟨some 17, .len false (.tmp 16), none⟩, ⟨some 18, .mov (.con (.int .i64 0)), none⟩]) (.block 0 (.loop (.seq (.reg [⟨some 19, .bin .lss (.tmp 18) (.tmp 17), none⟩]) (.seq (.cond (.tmp 19) .skip (.exit 0)) (.seq (.block 1 (.seq (.reg [⟨some 20, .mov (.tmp 18), none⟩, ⟨some 21, .iaddr (.tmp 16) (.tmp 18) 7 none, none⟩, ⟨some 22, .load (some 7) (.tmp 21), none⟩, ⟨some 5, .box (.con (.agg [.int .i64 0, .int .i64 0, .int .i64 0, .int .i64 0, .int .i64 0, .int .i64 0, .int .i64 0])), none⟩, ⟨some 4, .mov (.tmp 20), none⟩, ⟨none, .store 7 (.tmp 5) (.tmp 22), none⟩]) (.dreg 9 [⟨some 23, .mov (.tmp 3), none⟩, ⟨some 24, .mov (.tmp 4), none⟩, ⟨some 25, .faddr (.tmp 1) 9, none⟩, ⟨some 26, .iaddr (.tmp 25) (.tmp 24) 1 (some 21), none⟩, ⟨some 27, .load none (.tmp 26), none⟩, ⟨some 28, .faddr (.tmp 5) 0, none⟩, ⟨some 29, .load none (.tmp 28), none⟩, ⟨some 30, .build [.int .i64 0, .int .i64 0] [(0, 1, (.tmp 27)), (1, 1, (.tmp 29))], none⟩, ⟨some 31, .bsl 2 true [.int .i64 0, .int .i64 0] 1 [(0, (.tmp 30))], none⟩, ⟨some 32, .app (.tmp 23) (.tmp 31) 2 16 [.int .i64 0, .int .i64 0], none⟩, ⟨some 3, .mov (.tmp 32), none⟩]))) (.reg [⟨some 33, .bin .add (.tmp 18) (.con (.int .i64 1)), none⟩, ⟨some 18, .mov (.tmp 33), none⟩]))))))) (.seq (.reg [⟨some 34, .mov (.tmp 3), none⟩, ⟨some 2, .mov (.tmp 34), none⟩]) .ret))))⟩
theorem comp96 : compFn Try.prog 96 = some F96 := by kernel_rfl
def F97 : AFn := ⟨2, 16, [.tmp 4], (.seq (.reg [⟨some 4, .mov (.con (.int .i64 0)), none⟩]) (.seq (.reg [⟨some 6, .mov (.tmp 0), none⟩, ⟨some 7, .mov (.tmp 1), none⟩, ⟨some 8, .bin .quo (.tmp 6) (.tmp 7), none⟩, ⟨some 5, .mov (.tmp 8), none⟩]) (.seq (.seq (.reg [⟨some 9, .mov (.tmp 0), none⟩, ⟨some 10, .mov (.tmp 1), none⟩, ⟨some 11, .bin .rem (.tmp 9) (.tmp 10), none⟩, ⟨some 12, .bin .lss (.tmp 11) (.con (.int .i64 0)), none⟩]) (.cond (.tmp 12) (.reg [⟨some 13, .mov (.tmp 5), none⟩, ⟨some 14, .bin .sub (.tmp 13) (.con (.int .i64 1)), none⟩, ⟨some 5, .mov (.tmp 14), none⟩]) .skip)) (.seq (.reg [⟨some 15, .mov (.tmp 5), none⟩, ⟨some 4, .mov (.tmp 15), none⟩]) .ret))))⟩
theorem comp97 : compFn Try.prog 97 = some F97 := by kernel_rfl
def F98 : AFn := ⟨2, 25, [.tmp 4], (.seq (.reg [⟨some 4, .mov (.con (.int .i64 0)), none⟩]) (.seq (.reg [⟨some 5, .mov (.con (.int .i64 0)), none⟩]) (.seq (.seq (.reg [⟨some 8, .mov (.tmp 1), none⟩, ⟨some 9, .len false (.tmp 8), none⟩, ⟨some 10, .mov (.con (.int .i64 0)), none⟩]) (.block 0 (.loop (.seq (.reg [⟨some 11, .bin .lss (.tmp 10) (.tmp 9), none⟩]) (.seq (.cond (.tmp 11) .skip (.exit 0)) (.seq (.block 1 (.seq (.reg [⟨some 12, .iaddr (.tmp 8) (.tmp 10) 2 none, none⟩, ⟨some 13, .load (some 2) (.tmp 12), none⟩, ⟨some 7, .box (.con (.agg [.int .i64 0, .int .i64 0])), none⟩, ⟨none, .store 2 (.tmp 7) (.tmp 13), none⟩]) (.reg [⟨some 14, .mov (.tmp 5), none⟩, ⟨some 15, .faddr (.tmp 7) 0, none⟩, ⟨some 16, .load none (.tmp 15), none⟩, ⟨some 17, .faddr (.tmp 7) 1, none⟩, ⟨some 18, .load none (.tmp 17), none⟩, ⟨some 19, .mov (.tmp 0), none⟩, ⟨some 20, .bin .sub (.tmp 18) (.tmp 19), none⟩, ⟨some 21, .bin .mul (.tmp 16) (.tmp 20), none⟩, ⟨some 22, .bin .add (.tmp 14) (.tmp 21), none⟩, ⟨some 5, .mov (.tmp 22), none⟩]))) (.reg [⟨some 23, .bin .add (.tmp 10) (.con (.int .i64 1)), none⟩, ⟨some 10, .mov (.tmp 23), none⟩]))))))) (.seq (.reg [⟨some 24, .mov (.tmp 5), none⟩, ⟨some 4, .mov (.tmp 24), none⟩]) .ret))))⟩
theorem comp98 : compFn Try.prog 98 = some F98 := by kernel_rfl
def F99 : AFn := ⟨2, 24, [.tmp 4], (.seq (.reg [⟨some 2, .box (.tmp 0), none⟩, ⟨some 4, .mov (.con (.int .i64 0)), none⟩]) (.seq (.block 0 (.seq (.reg [⟨some 6, .faddr (.tmp 2) 0, none⟩, ⟨some 7, .load none (.tmp 6), none⟩, ⟨some 8, .mov (.tmp 1), none⟩, ⟨some 9, .call (.con (.fn 83 [] [])) [(.tmp 7), (.con (.int .i64 0)), (.tmp 8)], none⟩, ⟨some 10, .un .not (.tmp 9), none⟩, ⟨some 11, .mov (.tmp 10), none⟩, ⟨some 12, .faddr (.tmp 2) 1, some (11, false)⟩, ⟨some 13, .load none (.tmp 12), some (11, false)⟩, ⟨some 14, .mov (.tmp 1), some (11, false)⟩, ⟨some 15, .call (.con (.fn 83 [] [])) [(.tmp 13), (.con (.int .i64 0)), (.tmp 14)], some (11, false)⟩, ⟨some 16, .un .not (.tmp 15), some (11, false)⟩, ⟨some 17, .pick (.tmp 11) (.con (.bool true)) (.tmp 16), none⟩, ⟨some 5, .mov (.tmp 17), none⟩]) (.cond (.tmp 5) (.seq (.reg [⟨some 4, .mov (.con (.int .i64 2)), none⟩]) .ret) (.seq (.reg [⟨some 19, .faddr (.tmp 2) 0, none⟩, ⟨some 20, .load none (.tmp 19), none⟩, ⟨some 21, .faddr (.tmp 2) 1, none⟩, ⟨some 22, .load none (.tmp 21), none⟩, ⟨some 23, .bin .gtr (.tmp 20) (.tmp 22), none⟩, ⟨some 18, .mov (.tmp 23), none⟩]) (.cond (.tmp 18) (.seq (.reg [⟨some 4, .mov (.con (.int .i64 9)), none⟩]) .ret) .skip))))) (.seq (.reg [⟨some 4, .mov (.con (.int .i64 0)), none⟩]) .ret)))⟩
theorem comp99 : compFn Try.prog 99 = some F99 := by kernel_rfl
def F101 : AFn := ⟨2, 28, [.tmp 4], (.seq (.reg [⟨some 2, .box (.tmp 0), none⟩, ⟨some 3, .box (.tmp 1), none⟩, ⟨some 4, .mov (.con (.bool false)), none⟩]) (.seq (.seq (.reg [⟨some 5, .faddr (.tmp 3) 0, none⟩, ⟨some 6, .load none (.tmp 5), none⟩]) (.block 0 (.seq (.reg [⟨some 8, .bin .eql (.tmp 6) (.con (.int .i64 1)), none⟩, ⟨some 7, .mov (.tmp 8), none⟩]) (.cond (.tmp 7) (.seq (.reg [⟨some 9, .load (some 51) (.tmp 2), none⟩, ⟨some 10, .faddr (.tmp 3) 1, none⟩, ⟨some 11, .load none (.tmp 10), none⟩, ⟨some 12, .faddr (.tmp 3) 2, none⟩, ⟨some 13, .load none (.tmp 12), none⟩, ⟨some 14, .call (.con (.fn 109 [] [])) [(.tmp 9), (.tmp 11), (.tmp 13)], none⟩, ⟨some 4, .mov (.tmp 14), none⟩]) .ret) (.seq (.reg [⟨some 16, .bin .eql (.tmp 6) (.con (.int .i64 2)), none⟩, ⟨some 15, .mov (.tmp 16), none⟩]) (.cond (.tmp 15) (.seq (.dreg 4 [⟨some 17, .load (some 51) (.tmp 2), none⟩, ⟨some 18, .call (.con (.fn 67 [] [])) [(.tmp 17)], none⟩, ⟨some 19, .faddr (.tmp 3) 1, none⟩, ⟨some 20, .load none (.tmp 19), none⟩, ⟨some 21, .bin .leq (.tmp 18) (.tmp 20), none⟩, ⟨some 4, .mov (.tmp 21), none⟩]) .ret) .skip)))))) (.seq (.reg [⟨some 22, .load (some 51) (.tmp 2), none⟩, ⟨some 23, .faddr (.tmp 3) 1, none⟩, ⟨some 24, .load none (.tmp 23), none⟩, ⟨some 25, .faddr (.tmp 3) 2, none⟩, ⟨some 26, .load none (.tmp 25), none⟩, ⟨some 27, .call (.con (.fn 110 [] [])) [(.tmp 22), (.tmp 24), (.tmp 26)], none⟩, ⟨some 4, .mov (.tmp 27), none⟩]) .ret)))⟩
theorem comp101 : compFn Try.prog 101 = some F101 := by kernel_rfl
def F102 : AFn := ⟨2, 19, [.tmp 4], (.seq (.reg [⟨some 4, .mov (.con (.int .i64 0)), none⟩]) (.seq (.seq (.reg [⟨some 6, .mov (.tmp 0), none⟩, ⟨some 7, .len false (.tmp 6), none⟩, ⟨some 8, .mov (.con (.int .i64 0)), none⟩]) (.block 0 (.loop (.seq (.reg [⟨some 9, .bin .lss (.tmp 8) (.tmp 7), none⟩]) (.seq (.cond (.tmp 9) .skip (.exit 0)) (.seq (.block 1 (.seq (.reg [⟨some 10, .mov (.tmp 8), none⟩, ⟨some 5, .mov (.tmp 10), none⟩]) (.seq (.reg [⟨some 11, .mov (.tmp 1), none⟩, ⟨some 12, .mov (.tmp 0), none⟩, ⟨some 13, .mov (.tmp 5), none⟩, ⟨some 14, .iaddr (.tmp 12) (.tmp 13) 1 none, none⟩, ⟨some 15, .load none (.tmp 14), none⟩, ⟨some 16, .call (.tmp 11) [(.tmp 15)], none⟩]) (.cond (.tmp 16) (.seq (.reg [⟨some 17, .mov (.tmp 5), none⟩, ⟨some 4, .mov (.tmp 17), none⟩]) .ret) .skip)))) (.reg [⟨some 18, .bin .add (.tmp 8) (.con (.int .i64 1)), none⟩, ⟨some 8, .mov (.tmp 18), none⟩]))))))) (.seq (.reg [⟨some 4, .mov (.con (.int .i64 (-1))), none⟩]) .ret)))⟩
theorem comp102 : compFn Try.prog 102 = some F102 := by kernel_rfl
def F103 : AFn := ⟨1, 5, [.tmp 2], (.seq (.reg [⟨some 2, .mov (.con (.bool false)), none⟩]) (.seq (.reg [⟨some 3, .mov (.tmp 0), none⟩, ⟨some 4, .bin .neq (.tmp 3) (.con (.int .i64 1)), none⟩, ⟨some 2, .mov (.tmp 4), none⟩]) .ret))⟩
theorem comp103 : compFn Try.prog 103 = some F103 := by kernel_rfl
def F104 : AFn := ⟨1, 8, [.tmp 2], (.seq (.reg [⟨some 2, .mov (.con (.nils)), none⟩]) (.seq (.seq (.reg [⟨some 3, .mov (.tmp 0), none⟩, ⟨some 4, .eqn false 0 (.tmp 3) (.con (.nils)), none⟩]) (.cond (.tmp 4) (.seq (.reg [⟨some 2, .mov (.con (.nils)), none⟩]) .ret) .skip)) (.seq (.reg [⟨some 5, .bsl 7 true [.int .i64 0, .int .i64 0, .int .i64 0, .int .i64 0, .int .i64 0, .int .i64 0, .int .i64 0] 0 [], none⟩, ⟨some 6, .mov (.tmp 0), none⟩, ⟨some 7, .app (.tmp 5) (.tmp 6) 7 56 [.int .i64 0, .int .i64 0, .int .i64 0, .int .i64 0, .int .i64 0, .int .i64 0, .int .i64 0], none⟩, ⟨some 2, .mov (.tmp 7), none⟩]) .ret)))⟩
theorem comp104 : compFn Try.prog 104 = some F104 := by kernel_rfl
def F105 : AFn := ⟨1, 20, [.tmp 2], (.seq (.reg [⟨some 1, .box (.tmp 0), none⟩, ⟨some 2, .mov (.con (.int .i64 0)), none⟩]) (.seq (.block 0 (.seq (.reg [⟨some 4, .faddr (.tmp 1) 1, none⟩, ⟨some 5, .load none (.tmp 4), none⟩, ⟨some 6, .call (.con (.fn 83 [] [])) [(.tmp 5), (.con (.int .i64 0)), (.con (.int .i64 20000))], none⟩, ⟨some 7, .un .not (.tmp 6), none⟩, ⟨some 8, .mov (.tmp 7), none⟩, ⟨some 9, .faddr (.tmp 1) 2, some (8, false)⟩, ⟨some 10, .load none (.tmp 9), some (8, false)⟩, ⟨some 11, .call (.con (.fn 83 [] [])) [(.tmp 10), (.con (.int .i64 0)), (.con (.int .i64 20000))], some (8, false)⟩, ⟨some 12, .un .not (.tmp 11), some (8, false)⟩, ⟨some 13, .pick (.tmp 8) (.con (.bool true)) (.tmp 12), none⟩, ⟨some 3, .mov (.tmp 13), none⟩]) (.cond (.tmp 3) (.seq (.reg [⟨some 2, .mov (.con (.int .i64 2)), none⟩]) .ret) (.seq (.reg [⟨some 15, .faddr (.tmp 1) 1, none⟩, ⟨some 16, .load none (.tmp 15), none⟩, ⟨some 17, .faddr (.tmp 1) 2, none⟩, ⟨some 18, .load none (.tmp 17), none⟩, ⟨some 19, .bin .geq (.tmp 16) (.tmp 18), none⟩, ⟨some 14, .mov (.tmp 19), none⟩]) (.cond (.tmp 14) (.seq (.reg [⟨some 2, .mov (.con (.int .i64 9)), none⟩]) .ret) .skip))))) (.seq (.reg [⟨some 2, .mov (.con (.int .i64 0)), none⟩]) .ret)))⟩
theorem comp105 : compFn Try.prog 105 = some F105 := by kernel_rfl
def F106 : AFn := ⟨1, 12, [.tmp 2], (.seq (.reg [⟨some 1, .box (.tmp 0), none⟩, ⟨some 2, .mov (.con (.int .i64 0)), none⟩]) (.seq (.block 0 (.seq (.reg [⟨some 4, .faddr (.tmp 1) 1, none⟩, ⟨some 5, .load none (.tmp 4), none⟩, ⟨some 6, .call (.con (.fn 83 [] [])) [(.tmp 5), (.con (.int .i64 0)), (.con (.int .i64 2000))], none⟩, ⟨some 7, .un .not (.tmp 6), none⟩, ⟨some 3, .mov (.tmp 7), none⟩]) (.cond (.tmp 3) (.seq (.reg [⟨some 2, .mov (.con (.int .i64 2)), none⟩]) .ret) (.seq (.reg [⟨some 9, .faddr (.tmp 1) 2, none⟩, ⟨some 10, .load none (.tmp 9), none⟩, ⟨some 11, .bin .neq (.tmp 10) (.con (.int .i64 0)), none⟩, ⟨some 8, .mov (.tmp 11), none⟩]) (.cond (.tmp 8) (.seq (.reg [⟨some 2, .mov (.con (.int .i64 1)), none⟩]) .ret) .skip))))) (.seq (.reg [⟨some 2, .mov (.con (.int .i64 0)), none⟩]) .ret)))⟩
theorem comp106 : compFn Try.prog 106 = some F106 := by kernel_rfl
def F107 : AFn := ⟨1, 13, [.tmp 2], (.seq (.reg [⟨some 1, .box (.tmp 0), none⟩, ⟨some 2, .mov (.con (.int .i64 0)), none⟩]) (.seq (.seq (.reg [⟨some 3, .faddr (.tmp 1) 1, none⟩, ⟨some 4, .load none (.tmp 3), none⟩, ⟨some 5, .call (.con (.fn 83 [] [])) [(.tmp 4), (.con (.int .i64 0)), (.con (.int .i64 10000000))], none⟩, ⟨some 6, .un .not (.tmp 5), none⟩, ⟨some 7, .mov (.tmp 6), none⟩, ⟨some 8, .faddr (.tmp 1) 2, some (7, false)⟩, ⟨some 9, .load none (.tmp 8), some (7, false)⟩, ⟨some 10, .call (.con (.fn 83 [] [])) [(.tmp 9), (.con (.int .i64 0)), (.con (.int .i64 10000000))], some (7, false)⟩, ⟨some 11, .un .not (.tmp 10), some (7, false)⟩, ⟨some 12, .pick (.tmp 7) (.con (.bool true)) (.tmp 11), none⟩]) (.cond (.tmp 12) (.seq (.reg [⟨some 2, .mov (.con (.int .i64 2)), none⟩]) .ret) .skip)) (.seq (.reg [⟨some 2, .mov (.con (.int .i64 0)), none⟩]) .ret)))⟩
theorem comp107 : compFn Try.prog 107 = some F107 := by kernel_rfl
def F108 : AFn := ⟨1, 25, [], (.seq (.reg [⟨some 6, .load none (.tmp 1), none⟩, ⟨some 7, .len false (.tmp 6), none⟩, ⟨some 8, .mov (.con (.int .i64 0)), none⟩]) (.block 0 (.loop (.seq (.reg [⟨some 9, .bin .lss (.tmp 8) (.tmp 7), none⟩]) (.seq (.cond (.tmp 9) .skip (.exit 0)) (.seq (.block 1 (.seq (.reg [⟨some 10, .mov (.tmp 8), none⟩, ⟨some 11, .iaddr (.tmp 6) (.tmp 8) 7 none, none⟩, ⟨some 12, .load (some 7) (.tmp 11), none⟩, ⟨some 5, .box (.con (.agg [.int .i64 0, .int .i64 0, .int .i64 0, .int .i64 0, .int .i64 0, .int .i64 0, .int .i64 0])), none⟩, ⟨some 4, .mov (.tmp 10), none⟩, ⟨none, .store 7 (.tmp 5) (.tmp 12), none⟩]) (.seq (.reg [⟨some 13, .faddr (.tmp 5) 5, none⟩, ⟨some 14, .load none (.tmp 13), none⟩, ⟨some 15, .load none (.tmp 2), none⟩, ⟨some 16, .bin .eql (.tmp 14) (.tmp 15), none⟩, ⟨some 17, .mov (.tmp 16), none⟩, ⟨some 18, .mov (.tmp 0), some (17, true)⟩, ⟨some 19, .mov (.tmp 4), some (17, true)⟩, ⟨some 20, .load (some 7) (.tmp 5), some (17, true)⟩, ⟨some 21, .call (.tmp 18) [(.tmp 19), (.tmp 20)], some (17, true)⟩, ⟨some 22, .un .not (.tmp 21), some (17, true)⟩, ⟨some 23, .pick (.tmp 17) (.tmp 22) (.con (.bool false)), none⟩]) (.cond (.tmp 23) .ret .skip)))) (.reg [⟨some 24, .bin .add (.tmp 8) (.con (.int .i64 1)), none⟩, ⟨some 8, .mov (.tmp 24), none⟩])))))))⟩
theorem comp108 : compFn Try.prog 108 = some F108 := by kernel_rfl
def F109 : AFn := ⟨3, 46, [.tmp 6], (.seq (.reg [⟨some 3, .box (.tmp 0), none⟩, ⟨some 4, .box (.tmp 1), none⟩, ⟨some 6, .mov (.con (.bool false)), none⟩]) (.seq (.reg [⟨some 10, .mkfn 111 [] [(.tmp 3), (.tmp 4)], none⟩, ⟨some 11, .call (.con (.fn 84 [] [])) [(.con (.int .i64 21000)), (.tmp 10)], none⟩, ⟨some 7, .mov (.tmp 11), none⟩]) (.seq (.reg [⟨some 12, .faddr (.tmp 3) 0, none⟩, ⟨some 13, .faddr (.tmp 12) 4, none⟩, ⟨some 14, .load none (.tmp 13), none⟩, ⟨some 15, .mov (.tmp 7), none⟩, ⟨some 16, .bin .add (.tmp 14) (.tmp 15), none⟩, ⟨some 17, .bin .mul (.con (.int .i64 2)) (.tmp 16), none⟩, ⟨some 18, .faddr (.tmp 3) 0, none⟩, ⟨some 19, .faddr (.tmp 18) 1, none⟩, ⟨some 20, .load none (.tmp 19), none⟩, ⟨some 21, .bin .add (.tmp 17) (.tmp 20), none⟩, ⟨some 8, .mov (.tmp 21), none⟩]) (.seq (.reg [⟨some 22, .faddr (.tmp 3) 0, none⟩, ⟨some 23, .faddr (.tmp 22) 3, none⟩, ⟨some 24, .load none (.tmp 23), none⟩, ⟨some 25, .faddr (.tmp 3) 0, none⟩, ⟨some 26, .faddr (.tmp 25) 0, none⟩, ⟨some 27, .load none (.tmp 26), none⟩, ⟨some 28, .faddr (.tmp 3) 0, none⟩, ⟨some 29, .faddr (.tmp 28) 3, none⟩, ⟨some 30, .load none (.tmp 29), none⟩, ⟨some 31, .bin .sub (.tmp 27) (.tmp 30), none⟩, ⟨some 32, .mx (.tmp 24) (.tmp 31), none⟩, ⟨some 33, .bin .mul (.con (.int .i64 2)) (.tmp 32), none⟩, ⟨some 9, .mov (.tmp 33), none⟩]) (.seq (.reg [⟨some 34, .mov (.tmp 8), none⟩, ⟨some 35, .mov (.tmp 8), none⟩, ⟨some 36, .bin .mul (.tmp 34) (.tmp 35), none⟩, ⟨some 37, .mov (.tmp 9), none⟩, ⟨some 38, .mov (.tmp 9), none⟩, ⟨some 39, .bin .mul (.tmp 37) (.tmp 38), none⟩, ⟨some 40, .bin .add (.tmp 36) (.tmp 39), none⟩, ⟨some 41, .mov (.tmp 2), none⟩, ⟨some 42, .bin .mul (.con (.int .i64 4)) (.tmp 41), none⟩, ⟨some 43, .mov (.tmp 2), none⟩, ⟨some 44, .bin .mul (.tmp 42) (.tmp 43), none⟩, ⟨some 45, .bin .leq (.tmp 40) (.tmp 44), none⟩, ⟨some 6, .mov (.tmp 45), none⟩]) .ret)))))⟩
theorem comp109 : compFn Try.prog 109 = some F109 := by kernel_rfl
def F110 : AFn := ⟨3, 33, [.tmp 6], (.seq (.reg [⟨some 3, .box (.tmp 0), none⟩, ⟨some 6, .mov (.con (.bool false)), none⟩]) (.seq (.reg [⟨some 8, .mov (.tmp 2), none⟩, ⟨some 9, .faddr (.tmp 3) 0, none⟩, ⟨some 10, .faddr (.tmp 9) 3, none⟩, ⟨some 11, .load none (.tmp 10), none⟩, ⟨some 12, .faddr (.tmp 3) 0, none⟩, ⟨some 13, .faddr (.tmp 12) 2, none⟩, ⟨some 14, .load none (.tmp 13), none⟩, ⟨some 15, .bin .sub (.tmp 11) (.tmp 14), none⟩, ⟨some 16, .bin .mul (.tmp 8) (.tmp 15), none⟩, ⟨some 7, .mov (.tmp 16), none⟩]) (.seq (.reg [⟨some 17, .load (some 51) (.tmp 3), none⟩, ⟨some 18, .call (.con (.fn 61 [] [])) [(.tmp 17)], none⟩, ⟨some 19, .mov (.tmp 1), none⟩, ⟨some 20, .bin .leq (.tmp 18) (.tmp 19), none⟩, ⟨some 21, .mov (.tmp 20), none⟩, ⟨some 22, .load (some 51) (.tmp 3), some (21, true)⟩, ⟨some 23, .call (.con (.fn 65 [] [])) [(.tmp 22)], some (21, true)⟩, ⟨some 24, .mov (.tmp 7), some (21, true)⟩, ⟨some 25, .bin .leq (.tmp 23) (.tmp 24), some (21, true)⟩, ⟨some 26, .pick (.tmp 21) (.tmp 25) (.con (.bool false)), none⟩, ⟨some 27, .mov (.tmp 26), none⟩, ⟨some 28, .load (some 51) (.tmp 3), some (27, true)⟩, ⟨some 29, .call (.con (.fn 66 [] [])) [(.tmp 28)], some (27, true)⟩, ⟨some 30, .mov (.tmp 7), some (27, true)⟩, ⟨some 31, .bin .leq (.tmp 29) (.tmp 30), some (27, true)⟩, ⟨some 32, .pick (.tmp 27) (.tmp 31) (.con (.bool false)), none⟩, ⟨some 6, .mov (.tmp 32), none⟩]) .ret)))⟩
theorem comp110 : compFn Try.prog 110 = some F110 := by kernel_rfl
def F111 : AFn := ⟨1, 18, [.tmp 4], (.seq (.reg [⟨some 4, .mov (.con (.bool false)), none⟩]) (.seq (.reg [⟨some 5, .faddr (.tmp 1) 0, none⟩, ⟨some 6, .faddr (.tmp 5) 4, none⟩, ⟨some 7, .load none (.tmp 6), none⟩, ⟨some 8, .mov (.tmp 0), none⟩, ⟨some 9, .bin .add (.tmp 7) (.tmp 8), none⟩, ⟨some 10, .bin .mul (.con (.int .i64 2)) (.tmp 9), none⟩, ⟨some 11, .faddr (.tmp 1) 0, none⟩, ⟨some 12, .faddr (.tmp 11) 1, none⟩, ⟨some 13, .load none (.tmp 12), none⟩, ⟨some 14, .bin .sub (.tmp 10) (.tmp 13), none⟩, ⟨some 15, .load none (.tmp 2), none⟩, ⟨some 16, .bin .mul (.con (.int .i64 2)) (.tmp 15), none⟩, ⟨some 17, .bin .geq (.tmp 14) (.tmp 16), none⟩, ⟨some 4, .mov (.tmp 17), none⟩]) .ret))⟩
theorem comp111 : compFn Try.prog 111 = some F111 := by kernel_rfl
def entries : List (Entry Try.prog) := [⟨8, F8, comp8⟩, ⟨9, F9, comp9⟩, ⟨10, F10, comp10⟩, ⟨11, F11, comp11⟩, ⟨12, F12, comp12⟩, ⟨16, F16, comp16⟩, ⟨22, F22, comp22⟩, ⟨27, F27, comp27⟩, ⟨28, F28, comp28⟩, ⟨32, F32, comp32⟩, ⟨34, F34, comp34⟩, ⟨36, F36, comp36⟩, ⟨38, F38, comp38⟩, ⟨39, F39, comp39⟩, ⟨50, F50, comp50⟩, ⟨54, F54, comp54⟩, ⟨55, F55, comp55⟩, ⟨56, F56, comp56⟩, ⟨57, F57, comp57⟩, ⟨58, F58, comp58⟩, ⟨59, F59, comp59⟩, ⟨60, F60, comp60⟩, ⟨61, F61, comp61⟩, ⟨64, F64, comp64⟩, ⟨65, F65, comp65⟩, ⟨66, F66, comp66⟩, ⟨67, F67, comp67⟩, ⟨68, F68, comp68⟩, ⟨69, F69, comp69⟩, ⟨72, F72, comp72⟩, ⟨73, F73, comp73⟩, ⟨77, F77, comp77⟩, ⟨78, F78, comp78⟩, ⟨81, F81, comp81⟩, ⟨83, F83, comp83⟩, ⟨84, F84, comp84⟩, ⟨85, F85, comp85⟩, ⟨86, F86, comp86⟩, ⟨87, F87, comp87⟩, ⟨89, F89, comp89⟩, ⟨91, F91, comp91⟩, ⟨92, F92, comp92⟩, ⟨94, F94, comp94⟩, ⟨96, F96, comp96⟩, ⟨97, F97, comp97⟩, ⟨98, F98, comp98⟩, ⟨99, F99, comp99⟩, ⟨101, F101, comp101⟩, ⟨102, F102, comp102⟩, ⟨103, F103, comp103⟩, ⟨104, F104, comp104⟩, ⟨105, F105, comp105⟩, ⟨106, F106, comp106⟩, ⟨107, F107, comp107⟩, ⟨108, F108, comp108⟩, ⟨109, F109, comp109⟩, ⟨110, F110, comp110⟩, ⟨111, F111, comp111⟩]
def tab : FuncId → Option AFn := tabOf entries
theorem tab_ok : ∀ f F, tab f = some F → compFn Try.prog f = some F := tabOf_ok entries
end Go.Proofs.Ytfcjcjncfniclaa
end
section
namespace Go.Proofs.Ytfcjcjncfniclaa
open Go.RowKit
set_option linter.unusedVariables false
set_option linter.unusedSimpArgs false
set_option maxRecDepth 10000
set_option maxHeartbeats 4000000
attribute [local simp] cleanL AV.clean cleanI cleanBo cleanSt cleanII re re1 back back1 AV.plain AV.plain1 ren ren1 fadeS fadeV List.idxOf? List.findIdx? List.findIdx?.go
structure T_bk_Drum where
  beat_ : Int
  deriving Inhabited
def C_bk_Drum (x : T_bk_Drum) : List AV := [.int .u64 x.beat_]
attribute [local simp] C_bk_Drum
def A_bk_Drum (x : T_bk_Drum) : AV := .agg (C_bk_Drum x)
attribute [local simp] A_bk_Drum
theorem KC_bk_Drum (x : T_bk_Drum) : cleanL (C_bk_Drum x) = true := by simp
theorem KA_bk_Drum (x : T_bk_Drum) : (A_bk_Drum x).clean = true := KC_bk_Drum x
theorem KL_bk_Drum (l : List T_bk_Drum) : cleanL (l.map A_bk_Drum) = true := cleanM KA_bk_Drum l
attribute [local simp] KL_bk_Drum
theorem KB_bk_Drum (x : T_bk_Drum) (n : Nat) (σ : List Nat) : (C_bk_Drum x).mapM (re n σ) = some (C_bk_Drum x) := by simp
def p_bk_Drum_hit (N : Nat) (d_1 : T_bk_Drum) : Option (Int × T_bk_Drum) := ((some (Int.fdiv (IntKind.u64.wrap ((IntKind.u64.wrap (d_1.beat_ * 15074714826142052245)) + 11400714819323198485)) ((2 : Int) ^ (min (Int.toNat 32) (IntKind.bits .u64))))).bind fun n_2 => ((some (IntKind.u64.wrap (((BitVec.ofInt (IntKind.bits .u64) (IntKind.u64.wrap ((IntKind.u64.wrap (d_1.beat_ * 15074714826142052245)) + 11400714819323198485)) ^^^ BitVec.ofInt (IntKind.bits .u64) n_2).toNat : Nat) : Int))).bind fun n_3 => ((some (Int.fdiv (IntKind.u64.wrap (n_3 * 15760922415973212899)) ((2 : Int) ^ (min (Int.toNat 32) (IntKind.bits .u64))))).bind fun n_4 => ((some (IntKind.u64.wrap (((BitVec.ofInt (IntKind.bits .u64) (IntKind.u64.wrap (n_3 * 15760922415973212899)) ^^^ BitVec.ofInt (IntKind.bits .u64) n_4).toNat : Nat) : Int))).bind fun n_5 => ((some (Int.fdiv (IntKind.u64.wrap (n_5 * 15760922415973212899)) ((2 : Int) ^ (min (Int.toNat 32) (IntKind.bits .u64))))).bind fun n_6 => ((some (IntKind.u64.wrap (((BitVec.ofInt (IntKind.bits .u64) (IntKind.u64.wrap (n_5 * 15760922415973212899)) ^^^ BitVec.ofInt (IntKind.bits .u64) n_6).toNat : Nat) : Int))).bind fun n_7 => some (n_7, (⟨(IntKind.u64.wrap ((IntKind.u64.wrap (d_1.beat_ * 15074714826142052245)) + 11400714819323198485))⟩ : T_bk_Drum))))))))
def v_bk_Drum_hit (r : Int × T_bk_Drum) : AV := .int .u64 r.1
attribute [local simp] v_bk_Drum_hit
theorem b_bk_Drum_hit (r : Int × T_bk_Drum) (n n2 m : Nat) : back n n2 m (v_bk_Drum_hit r) = some (v_bk_Drum_hit r) := by simp
theorem d_bk_Drum_hit (N : Nat) (d_1 : T_bk_Drum) (r : Int × T_bk_Drum) (h : p_bk_Drum_hit N d_1 = some r) : Does Try.prog 59 [.ptr 0 0] [(C_bk_Drum d_1)] fun v c => v = v_bk_Drum_hit r ∧ c = [(C_bk_Drum r.2)] := by
  unfold p_bk_Drum_hit at h
  refine Does.ofL comp59 _ _ rfl rfl ?_
  refine Ex.seq ?_
  refine regH 1 [] [0] [] (mkS 31 [(0, .ptr 0 0)]) (⟨[(C_bk_Drum d_1)], []⟩) (by kernel_rfl) trivial rfl ?_
  refine Ex.seq ?_
  refine regH 10 [] [0] [] (mkS 31 [(0, .ptr 0 0)]) (⟨[[.int .u64 (IntKind.u64.wrap ((IntKind.u64.wrap (d_1.beat_ * 15074714826142052245)) + 11400714819323198485))]], []⟩) (by kernel_rfl) trivial rfl ?_
  refine Ex.seq ?_
  refine regH 5 [] [3] [] (mkS 31 [(3, .int .u64 (IntKind.u64.wrap ((IntKind.u64.wrap (d_1.beat_ * 15074714826142052245)) + 11400714819323198485)))]) (⟨[[.int .u64 (IntKind.u64.wrap ((IntKind.u64.wrap (d_1.beat_ * 15074714826142052245)) + 11400714819323198485))]], []⟩) (by kernel_rfl) trivial rfl ?_
  refine Ex.seq ?_
  obtain ⟨n_2, hn_2, h⟩ := Option.bind_eq_some_iff.1 h
  obtain ⟨n_3, hn_3, h⟩ := Option.bind_eq_some_iff.1 h
  refine regH 6 [(2, .eq (.int .u64 n_2)), (3, .eq (.int .u64 n_3))] [3] [AV.int .u64 (Int.fdiv (IntKind.u64.wrap ((IntKind.u64.wrap (d_1.beat_ * 15074714826142052245)) + 11400714819323198485)) ((2 : Int) ^ (min (Int.toNat 32) (IntKind.bits .u64)))) = AV.int .u64 n_2, AV.int .u64 (IntKind.u64.wrap (((BitVec.ofInt (IntKind.bits .u64) (IntKind.u64.wrap ((IntKind.u64.wrap (d_1.beat_ * 15074714826142052245)) + 11400714819323198485)) ^^^ BitVec.ofInt (IntKind.bits .u64) n_2).toNat : Nat) : Int)) = AV.int .u64 n_3] (mkS 31 [(3, .int .u64 (IntKind.u64.wrap (n_3 * 15760922415973212899)))]) (⟨[[.int .u64 (IntKind.u64.wrap ((IntKind.u64.wrap (d_1.beat_ * 15074714826142052245)) + 11400714819323198485))]], []⟩) (by kernel_rfl) ⟨congrArg (AV.int .u64) (Option.some.inj hn_2), congrArg (AV.int .u64) (Option.some.inj hn_3), trivial⟩ rfl ?_
  refine Ex.seq ?_
  obtain ⟨n_4, hn_4, h⟩ := Option.bind_eq_some_iff.1 h
  obtain ⟨n_5, hn_5, h⟩ := Option.bind_eq_some_iff.1 h
  refine regH 6 [(2, .eq (.int .u64 n_4)), (3, .eq (.int .u64 n_5))] [3] [AV.int .u64 (Int.fdiv (IntKind.u64.wrap (n_3 * 15760922415973212899)) ((2 : Int) ^ (min (Int.toNat 32) (IntKind.bits .u64)))) = AV.int .u64 n_4, AV.int .u64 (IntKind.u64.wrap (((BitVec.ofInt (IntKind.bits .u64) (IntKind.u64.wrap (n_3 * 15760922415973212899)) ^^^ BitVec.ofInt (IntKind.bits .u64) n_4).toNat : Nat) : Int)) = AV.int .u64 n_5] (mkS 31 [(3, .int .u64 (IntKind.u64.wrap (n_5 * 15760922415973212899)))]) (⟨[[.int .u64 (IntKind.u64.wrap ((IntKind.u64.wrap (d_1.beat_ * 15074714826142052245)) + 11400714819323198485))]], []⟩) (by kernel_rfl) ⟨congrArg (AV.int .u64) (Option.some.inj hn_4), congrArg (AV.int .u64) (Option.some.inj hn_5), trivial⟩ rfl ?_
  refine Ex.seq ?_
  obtain ⟨n_6, hn_6, h⟩ := Option.bind_eq_some_iff.1 h
  obtain ⟨n_7, hn_7, h⟩ := Option.bind_eq_some_iff.1 h
  refine regH 5 [(2, .eq (.int .u64 n_6)), (3, .eq (.int .u64 n_7))] [2] [AV.int .u64 (Int.fdiv (IntKind.u64.wrap (n_5 * 15760922415973212899)) ((2 : Int) ^ (min (Int.toNat 32) (IntKind.bits .u64)))) = AV.int .u64 n_6, AV.int .u64 (IntKind.u64.wrap (((BitVec.ofInt (IntKind.bits .u64) (IntKind.u64.wrap (n_5 * 15760922415973212899)) ^^^ BitVec.ofInt (IntKind.bits .u64) n_6).toNat : Nat) : Int)) = AV.int .u64 n_7] (mkS 31 [(2, .int .u64 n_7)]) (⟨[[.int .u64 (IntKind.u64.wrap ((IntKind.u64.wrap (d_1.beat_ * 15074714826142052245)) + 11400714819323198485))]], []⟩) (by kernel_rfl) ⟨congrArg (AV.int .u64) (Option.some.inj hn_6), congrArg (AV.int .u64) (Option.some.inj hn_7), trivial⟩ rfl ?_
  refine Ex.ret ?_
  obtain rfl := Option.some.inj h
  exact ⟨.inr rfl, .int .u64 n_7, by kernel_rfl, by kernel_rfl, by kernel_rfl, by kernel_rfl⟩
def p_bk_DrumOf (N : Nat) (nums_1 : (List Int)) : Option (T_bk_Drum) := (letJ (fun (b_2 : Int) => some (⟨b_2⟩ : T_bk_Drum)) (fun k_3 => (loop2 (fun rec_8 (i_6 : Int) (b_7 : Int) => (bif (decide (i_6 < ((nums_1.length : Nat) : Int))) then ((getI nums_1 i_6).bind fun x_12 => ((some (IntKind.u64.wrap (((BitVec.ofInt (IntKind.bits .u64) b_7 ^^^ BitVec.ofInt (IntKind.bits .u64) (IntKind.u64.wrap x_12)).toNat : Nat) : Int))).bind fun n_13 => ((p_bk_Drum_hit N (⟨n_13⟩ : T_bk_Drum)).bind fun r_14 => (rec_8 (IntKind.i64.wrap (i_6 + 1)) r_14.2.beat_)))) else (k_3 b_7))) N 0 2685821657736338717)))
def v_bk_DrumOf (r : T_bk_Drum) : AV := .ptr 0 0
theorem a_bk_DrumOf (nums_1 : (List Int)) : [.sl (nums_1.map (AV.int .i64)) none].mapM (ren []) = some [.sl (nums_1.map (AV.int .i64)) none] := by simp
theorem d_bk_DrumOf (N : Nat) (nums_1 : (List Int)) (r : T_bk_Drum) (h : p_bk_DrumOf N nums_1 = some r) : Does Try.prog 11 [.sl (nums_1.map (AV.int .i64)) none] [] fun v c => v = v_bk_DrumOf r ∧ c = [(C_bk_Drum r)] := by
  unfold p_bk_DrumOf at h
  refine Does.ofP comp11 _ _ rfl rfl ?_
  refine Ex.seq ?_
  refine regH 1 [] [0] [] (mkS 29 [(0, .sl (nums_1.map (AV.int .i64)) none)]) (⟨[], []⟩) (by kernel_rfl) trivial rfl ?_
  refine Ex.seq ?_
  refine regH 3 [] [0, 3] [] (mkS 29 [(0, .sl (nums_1.map (AV.int .i64)) none), (3, .ptr 0 0)]) (⟨[[.int .u64 2685821657736338717]], []⟩) (by kernel_rfl) trivial rfl ?_
  refine Ex.seq ?_
  refine Ex.seq ?_
  refine regH 1 [] [0, 3, 4] [] (mkS 29 [(0, .sl (nums_1.map (AV.int .i64)) none), (3, .ptr 0 0), (4, .int .i64 0)]) (⟨[[.int .u64 2685821657736338717]], []⟩) (by kernel_rfl) trivial rfl ?_
  obtain ⟨K_4, hK_5, h⟩ := letE h
  refine Ex.blockJ (fun a S => ∃ (b_2 : Int), K_4 b_2 = some r ∧ a = mkS 29 [(3, .ptr 0 0)] ∧ S = ⟨[[.int .u64 b_2]], []⟩) ?_ ?_
  · obtain ⟨B_9, hB_10, h⟩ := loop2I h
    refine Ex.loopF (fun k a S => ∃ (i_6 : Int), ∃ (b_7 : Int), loop2 B_9 k i_6 b_7 = some r ∧ a = mkS 29 [(0, .sl (nums_1.map (AV.int .i64)) none), (3, .ptr 0 0), (4, .int .i64 i_6)] ∧ S = ⟨[[.int .u64 b_7]], []⟩) N ⟨_, _, Forgets.refl _ _ _, 0, 2685821657736338717, h, rfl, rfl⟩ ?_
    rintro k a S ⟨i_6, b_7, h, rfl, rfl⟩
    cases k with
    | zero => exact (loop2Z h).elim
    | succ k =>
      replace h := loop2S h hB_10
      refine Ex.seq ?_
      refine Ex.seq ?_
      refine regH 4 [(2, .eq (.int .i64 ((nums_1.length : Nat) : Int)))] [0, 3, 4, 10] [AV.int .i64 (((nums_1.map (AV.int .i64)).length : Nat) : Int) = AV.int .i64 ((nums_1.length : Nat) : Int)] (mkS 29 [(0, .sl (nums_1.map (AV.int .i64)) none), (3, .ptr 0 0), (4, .int .i64 i_6), (10, .bool (decide (i_6 < ((nums_1.length : Nat) : Int))))]) (⟨[[.int .u64 b_7]], []⟩) (by kernel_rfl) ⟨lenM _ _, trivial⟩ rfl ?_
      rcases condI h with ⟨hc_11, h⟩ | ⟨hc_11, h⟩
      · refine Ex.condT _ rfl hc_11 ?_
        refine Ex.skip ?_
        refine Ex.seq ?_
        refine Ex.blockK ?_
        refine Ex.seq ?_
        obtain ⟨x_12, hx_12, h⟩ := Option.bind_eq_some_iff.1 h
        obtain ⟨n_13, hn_13, h⟩ := Option.bind_eq_some_iff.1 h
        refine Ex.drawE (a1 := mkS 29 [(0, .sl (nums_1.map (AV.int .i64)) none), (3, .ptr 0 0), (4, .int .i64 i_6), (10, .bool (decide (i_6 < ((nums_1.length : Nat) : Int)))), (13, .ptr 0 0), (14, .ptr 0 0), (15, .ptr 0 0), (16, .ptr 0 0), (17, .int .u64 b_7), (18, .sl (nums_1.map (AV.int .i64)) none), (19, .int .i64 i_6), (20, .rop [.int .i64 x_12]), (21, .int .i64 x_12), (22, .int .u64 (IntKind.u64.wrap x_12)), (23, .int .u64 n_13)]) (noClr_ok _) [] [] [] ?_ ?_
        · refine drS [0] 11 [(7, .rop [.int .i64 x_12]), (10, .eq (.int .u64 n_13))] [LGet (nums_1.map (AV.int .i64)) i_6 1 [.int .i64 x_12], AV.int .u64 (IntKind.u64.wrap (((BitVec.ofInt (IntKind.bits .u64) b_7 ^^^ BitVec.ofInt (IntKind.bits .u64) (IntKind.u64.wrap x_12)).toNat : Nat) : Int)) = AV.int .u64 n_13] (mkS 29 [(0, .sl (nums_1.map (AV.int .i64)) none), (3, .ptr 0 0), (4, .int .i64 i_6), (10, .bool (decide (i_6 < ((nums_1.length : Nat) : Int)))), (13, .ptr 0 0), (14, .ptr 0 0), (15, .ptr 0 0), (16, .ptr 0 0), (17, .int .u64 b_7), (18, .sl (nums_1.map (AV.int .i64)) none), (19, .int .i64 i_6), (20, .rop [.int .i64 x_12]), (21, .int .i64 x_12), (22, .int .u64 (IntKind.u64.wrap x_12)), (23, .int .u64 n_13)]) (by simp) (by kernel_rfl) ⟨LGet.of hx_12 rfl, congrArg (AV.int .u64) (Option.some.inj hn_13), trivial⟩ (by kernel_rfl) ?_
          exact DrO.nil rfl
        · dsimp only [List.getLastD_cons, List.getLastD_nil]
          refine runH 3 [] [0, 3, 4] [] (mkS 29 [(0, .sl (nums_1.map (AV.int .i64)) none), (3, .ptr 0 0), (4, .int .i64 i_6)]) (⟨[[.int .u64 n_13]], []⟩) (by kernel_rfl) trivial ?_
          refine ExO.nil ?_
          obtain ⟨r_14, hr_14, h⟩ := Option.bind_eq_some_iff.1 h
          refine Ex.reg ?_
          refine runH 1 [] [0, 3, 4, 26] [] (mkS 29 [(0, .sl (nums_1.map (AV.int .i64)) none), (3, .ptr 0 0), (4, .int .i64 i_6), (26, .ptr 0 0)]) (⟨[[.int .u64 n_13]], []⟩) (by kernel_rfl) trivial ?_
          refine ExO.callL [0] [.ptr 0 0] rfl rfl (by simp; try rfl) rfl (by simp) (d_bk_Drum_hit N (⟨n_13⟩ : T_bk_Drum) r_14 hr_14) (b_bk_Drum_hit _ _ _ _) (by simp) ?_
          refine runH 0 [] [0, 3, 4] [] (mkS 29 [(0, .sl (nums_1.map (AV.int .i64)) none), (3, .ptr 0 0), (4, .int .i64 i_6)]) (⟨[(C_bk_Drum r_14.2)], []⟩) (by kernel_rfl) trivial ?_
          refine ExO.nil ?_
          refine regH 3 [] [0, 3, 4] [] (mkS 29 [(0, .sl (nums_1.map (AV.int .i64)) none), (3, .ptr 0 0), (4, .int .i64 (IntKind.i64.wrap (i_6 + 1)))]) (⟨[(C_bk_Drum r_14.2)], []⟩) (by kernel_rfl) trivial rfl ?_
          dsimp only
          exact ⟨_, _, Forgets.refl _ _ _, k, Nat.lt_succ_self k, (IntKind.i64.wrap (i_6 + 1)), r_14.2.beat_, h, rfl, rfl⟩
      · refine Ex.condF _ rfl hc_11 ?_
        refine Ex.exit ?_
        (try simp only [reduceCtorEq, AEx.ex.injEq, Nat.reduceEqDiff, if_true, if_false])
        exact ⟨_, _, forgetK [3], b_7, h, rfl, rfl⟩
  · rintro a S ⟨b_2, h, rfl, rfl⟩
    subst hK_5
    refine Ex.seq ?_
    refine regH 2 [] [2] [] (mkS 29 [(2, .ptr 0 0)]) (⟨[[.int .u64 b_2]], []⟩) (by kernel_rfl) trivial rfl ?_
    refine Ex.ret ?_
    obtain rfl := Option.some.inj h
    exact ⟨.inr rfl, .ptr 0 0, by kernel_rfl, by kernel_rfl, by kernel_rfl, [], by kernel_rfl⟩
def p_bk_Drum_Roll (N : Nat) (d_1 : T_bk_Drum) (n_2 : Int) : Option (Int × T_bk_Drum) := (bif (decide (n_2 < 2)) then some (0, d_1) else ((p_bk_Drum_hit N d_1).bind fun r_4 => ((nzI (IntKind.u64.wrap n_2)).bind fun u_5 => some ((IntKind.i64.wrap (Int.tmod (Int.fdiv r_4.1 ((2 : Int) ^ (min (Int.toNat 1) (IntKind.bits .u64)))) (IntKind.u64.wrap n_2))), r_4.2))))
def v_bk_Drum_Roll (r : Int × T_bk_Drum) : AV := .int .i64 r.1
attribute [local simp] v_bk_Drum_Roll
theorem b_bk_Drum_Roll (r : Int × T_bk_Drum) (n n2 m : Nat) : back n n2 m (v_bk_Drum_Roll r) = some (v_bk_Drum_Roll r) := by simp
theorem d_bk_Drum_Roll (N : Nat) (d_1 : T_bk_Drum) (n_2 : Int) (r : Int × T_bk_Drum) (h : p_bk_Drum_Roll N d_1 n_2 = some r) : Does Try.prog 38 [.ptr 0 0, .int .i64 n_2] [(C_bk_Drum d_1)] fun v c => v = v_bk_Drum_Roll r ∧ c = [(C_bk_Drum r.2)] := by
  unfold p_bk_Drum_Roll at h
  refine Does.ofL comp38 _ _ rfl rfl ?_
  refine Ex.seq ?_
  refine regH 1 [] [0, 1] [] (mkS 14 [(0, .ptr 0 0), (1, .int .i64 n_2)]) (⟨[(C_bk_Drum d_1)], []⟩) (by kernel_rfl) trivial rfl ?_
  refine Ex.seq ?_
  refine Ex.seq ?_
  refine regH 2 [] [0, 1, 6] [] (mkS 14 [(0, .ptr 0 0), (1, .int .i64 n_2), (6, .bool (decide (n_2 < 2)))]) (⟨[(C_bk_Drum d_1)], []⟩) (by kernel_rfl) trivial rfl ?_
  rcases condI h with ⟨hc_3, h⟩ | ⟨hc_3, h⟩
  · refine Ex.condT _ rfl hc_3 ?_
    refine Ex.seq ?_
    refine regH 1 [] [4] [] (mkS 14 [(4, .int .i64 0)]) (⟨[(C_bk_Drum d_1)], []⟩) (by kernel_rfl) trivial rfl ?_
    refine Ex.ret ?_
    obtain rfl := Option.some.inj h
    exact ⟨.inr rfl, .int .i64 0, by kernel_rfl, by kernel_rfl, by kernel_rfl, by kernel_rfl⟩
  · refine Ex.condF _ rfl hc_3 ?_
    refine Ex.skip ?_
    refine Ex.seq ?_
    obtain ⟨r_4, hr_4, h⟩ := Option.bind_eq_some_iff.1 h
    refine Ex.reg ?_
    refine runH 1 [] [1, 7] [] (mkS 14 [(1, .int .i64 n_2), (7, .ptr 0 0)]) (⟨[(C_bk_Drum d_1)], []⟩) (by kernel_rfl) trivial ?_
    refine ExO.callL [0] [.ptr 0 0] rfl rfl (by simp; try rfl) rfl (by simp) (d_bk_Drum_hit N d_1 r_4 hr_4) (b_bk_Drum_hit _ _ _ _) (by simp) ?_
    obtain ⟨u_5, hu_5, h⟩ := Option.bind_eq_some_iff.1 h
    refine runH 6 [(3, .bin (.int .u64 (Int.tmod (Int.fdiv r_4.1 ((2 : Int) ^ (min (Int.toNat 1) (IntKind.bits .u64)))) (IntKind.u64.wrap n_2))))] [4] [binA .rem (.int .u64 (Int.fdiv r_4.1 ((2 : Int) ^ (min (Int.toNat 1) (IntKind.bits .u64))))) (.int .u64 (IntKind.u64.wrap n_2)) = some (.int .u64 (Int.tmod (Int.fdiv r_4.1 ((2 : Int) ^ (min (Int.toNat 1) (IntKind.bits .u64)))) (IntKind.u64.wrap n_2)))] (mkS 14 [(4, .int .i64 (IntKind.i64.wrap (Int.tmod (Int.fdiv r_4.1 ((2 : Int) ^ (min (Int.toNat 1) (IntKind.bits .u64)))) (IntKind.u64.wrap n_2))))]) (⟨[(C_bk_Drum r_4.2)], []⟩) (by kernel_rfl) ⟨binR hu_5, trivial⟩ ?_
    refine ExO.nil ?_
    refine Ex.ret ?_
    obtain rfl := Option.some.inj h
    exact ⟨.inr rfl, .int .i64 (IntKind.i64.wrap (Int.tmod (Int.fdiv r_4.1 ((2 : Int) ^ (min (Int.toNat 1) (IntKind.bits .u64)))) (IntKind.u64.wrap n_2))), by kernel_rfl, by kernel_rfl, by kernel_rfl, by kernel_rfl⟩
def p_bk_Drum_Mid (N : Nat) (d_1 : T_bk_Drum) (low_2 : Int) (high_3 : Int) : Option (Int × T_bk_Drum) := ((p_bk_Drum_Roll N d_1 (IntKind.i64.wrap ((IntKind.i64.wrap (high_3 - low_2)) + 1))).bind fun r_4 => some ((IntKind.i64.wrap (low_2 + r_4.1)), r_4.2))
def v_bk_Drum_Mid (r : Int × T_bk_Drum) : AV := .int .i64 r.1
attribute [local simp] v_bk_Drum_Mid
theorem b_bk_Drum_Mid (r : Int × T_bk_Drum) (n n2 m : Nat) : back n n2 m (v_bk_Drum_Mid r) = some (v_bk_Drum_Mid r) := by simp
theorem d_bk_Drum_Mid (N : Nat) (d_1 : T_bk_Drum) (low_2 : Int) (high_3 : Int) (r : Int × T_bk_Drum) (h : p_bk_Drum_Mid N d_1 low_2 high_3 = some r) : Does Try.prog 27 [.ptr 0 0, .int .i64 low_2, .int .i64 high_3] [(C_bk_Drum d_1)] fun v c => v = v_bk_Drum_Mid r ∧ c = [(C_bk_Drum r.2)] := by
  unfold p_bk_Drum_Mid at h
  refine Does.ofL comp27 _ _ rfl rfl ?_
  refine Ex.seq ?_
  refine regH 1 [] [0, 1, 2] [] (mkS 15 [(0, .ptr 0 0), (1, .int .i64 low_2), (2, .int .i64 high_3)]) (⟨[(C_bk_Drum d_1)], []⟩) (by kernel_rfl) trivial rfl ?_
  refine Ex.seq ?_
  obtain ⟨r_4, hr_4, h⟩ := Option.bind_eq_some_iff.1 h
  refine Ex.reg ?_
  refine runH 6 [] [7, 8, 12] [] (mkS 15 [(7, .int .i64 low_2), (8, .ptr 0 0), (12, .int .i64 (IntKind.i64.wrap ((IntKind.i64.wrap (high_3 - low_2)) + 1)))]) (⟨[(C_bk_Drum d_1)], []⟩) (by kernel_rfl) trivial ?_
  refine ExO.callL [0] [.ptr 0 0, .int .i64 (IntKind.i64.wrap ((IntKind.i64.wrap (high_3 - low_2)) + 1))] rfl rfl (by simp; try rfl) rfl (by simp) (d_bk_Drum_Roll N d_1 (IntKind.i64.wrap ((IntKind.i64.wrap (high_3 - low_2)) + 1)) r_4 hr_4) (b_bk_Drum_Roll _ _ _ _) (by simp) ?_
  refine runH 2 [] [6] [] (mkS 15 [(6, .int .i64 (IntKind.i64.wrap (low_2 + r_4.1)))]) (⟨[(C_bk_Drum r_4.2)], []⟩) (by kernel_rfl) trivial ?_
  refine ExO.nil ?_
  refine Ex.ret ?_
  obtain rfl := Option.some.inj h
  exact ⟨.inr rfl, .int .i64 (IntKind.i64.wrap (low_2 + r_4.1)), by kernel_rfl, by kernel_rfl, by kernel_rfl, by kernel_rfl⟩
def p_bk_Drum_Any (N : Nat) (d_1 : T_bk_Drum) (l_2 : (List Int)) : Option (Int × T_bk_Drum) := (bif (((l_2.length : Nat) : Int) == 0) then some (0, d_1) else ((p_bk_Drum_Roll N d_1 ((l_2.length : Nat) : Int)).bind fun r_4 => ((getI l_2 r_4.1).bind fun x_5 => some (x_5, r_4.2))))
def v_bk_Drum_Any (r : Int × T_bk_Drum) : AV := .int .i64 r.1
attribute [local simp] v_bk_Drum_Any
theorem b_bk_Drum_Any (r : Int × T_bk_Drum) (n n2 m : Nat) : back n n2 m (v_bk_Drum_Any r) = some (v_bk_Drum_Any r) := by simp
theorem d_bk_Drum_Any (N : Nat) (d_1 : T_bk_Drum) (l_2 : (List Int)) (r : Int × T_bk_Drum) (h : p_bk_Drum_Any N d_1 l_2 = some r) : Does Try.prog 57 [.ptr 0 0, .sl (l_2.map (AV.int .i64)) none] [(C_bk_Drum d_1)] fun v c => v = v_bk_Drum_Any r ∧ c = [(C_bk_Drum r.2)] := by
  unfold p_bk_Drum_Any at h
  refine Does.ofL comp57 _ _ rfl rfl ?_
  refine Ex.seq ?_
  refine regH 1 [] [0, 1] [] (mkS 15 [(0, .ptr 0 0), (1, .sl (l_2.map (AV.int .i64)) none)]) (⟨[(C_bk_Drum d_1)], []⟩) (by kernel_rfl) trivial rfl ?_
  refine Ex.seq ?_
  refine Ex.seq ?_
  refine regH 3 [(1, .eq (.int .i64 ((l_2.length : Nat) : Int)))] [0, 1, 7] [AV.int .i64 (((l_2.map (AV.int .i64)).length : Nat) : Int) = AV.int .i64 ((l_2.length : Nat) : Int)] (mkS 15 [(0, .ptr 0 0), (1, .sl (l_2.map (AV.int .i64)) none), (7, .bool (((l_2.length : Nat) : Int) == 0))]) (⟨[(C_bk_Drum d_1)], []⟩) (by kernel_rfl) ⟨lenM _ _, trivial⟩ rfl ?_
  rcases condI h with ⟨hc_3, h⟩ | ⟨hc_3, h⟩
  · refine Ex.condT _ rfl hc_3 ?_
    refine Ex.seq ?_
    refine regH 1 [] [4] [] (mkS 15 [(4, .int .i64 0)]) (⟨[(C_bk_Drum d_1)], []⟩) (by kernel_rfl) trivial rfl ?_
    refine Ex.ret ?_
    obtain rfl := Option.some.inj h
    exact ⟨.inr rfl, .int .i64 0, by kernel_rfl, by kernel_rfl, by kernel_rfl, by kernel_rfl⟩
  · refine Ex.condF _ rfl hc_3 ?_
    refine Ex.skip ?_
    refine Ex.seq ?_
    obtain ⟨r_4, hr_4, h⟩ := Option.bind_eq_some_iff.1 h
    refine Ex.reg ?_
    refine runH 4 [(3, .eq (.int .i64 ((l_2.length : Nat) : Int)))] [8, 9, 11] [AV.int .i64 (((l_2.map (AV.int .i64)).length : Nat) : Int) = AV.int .i64 ((l_2.length : Nat) : Int)] (mkS 15 [(8, .sl (l_2.map (AV.int .i64)) none), (9, .ptr 0 0), (11, .int .i64 ((l_2.length : Nat) : Int))]) (⟨[(C_bk_Drum d_1)], []⟩) (by kernel_rfl) ⟨lenM _ _, trivial⟩ ?_
    refine ExO.callL [0] [.ptr 0 0, .int .i64 ((l_2.length : Nat) : Int)] rfl rfl (by simp; try rfl) rfl (by simp) (d_bk_Drum_Roll N d_1 ((l_2.length : Nat) : Int) r_4 hr_4) (b_bk_Drum_Roll _ _ _ _) (by simp) ?_
    obtain ⟨x_5, hx_5, h⟩ := Option.bind_eq_some_iff.1 h
    refine runH 3 [(0, .rop [.int .i64 x_5])] [4] [LGet (l_2.map (AV.int .i64)) r_4.1 1 [.int .i64 x_5]] (mkS 15 [(4, .int .i64 x_5)]) (⟨[(C_bk_Drum r_4.2)], []⟩) (by kernel_rfl) ⟨LGet.of hx_5 rfl, trivial⟩ ?_
    refine ExO.nil ?_
    refine Ex.ret ?_
    obtain rfl := Option.some.inj h
    exact ⟨.inr rfl, .int .i64 x_5, by kernel_rfl, by kernel_rfl, by kernel_rfl, by kernel_rfl⟩
structure T_api_Span where
  Lo : Int
  Hi : Int
  deriving Inhabited
def C_api_Span (x : T_api_Span) : List AV := [.int .i64 x.Lo, .int .i64 x.Hi]
attribute [local simp] C_api_Span
def A_api_Span (x : T_api_Span) : AV := .agg (C_api_Span x)
attribute [local simp] A_api_Span
theorem KC_api_Span (x : T_api_Span) : cleanL (C_api_Span x) = true := by simp
theorem KA_api_Span (x : T_api_Span) : (A_api_Span x).clean = true := KC_api_Span x
theorem KL_api_Span (l : List T_api_Span) : cleanL (l.map A_api_Span) = true := cleanM KA_api_Span l
attribute [local simp] KL_api_Span
theorem KB_api_Span (x : T_api_Span) (n : Nat) (σ : List Nat) : (C_api_Span x).mapM (re n σ) = some (C_api_Span x) := by simp
def p_bk_Drum_Span (N : Nat) (d_1 : T_bk_Drum) (low_2 : Int) (high_3 : Int) : Option (T_api_Span × T_bk_Drum) := ((p_bk_Drum_Mid N d_1 low_2 high_3).bind fun r_4 => ((p_bk_Drum_Roll N r_4.2 3).bind fun r_5 => (bif (r_5.1 == 0) then some ((⟨r_4.1, r_4.1⟩ : T_api_Span), r_5.2) else (bif (r_5.1 == 1) then ((p_bk_Drum_Mid N r_5.2 r_4.1 (if (IntKind.i64.wrap (r_4.1 + 3)) < high_3 then (IntKind.i64.wrap (r_4.1 + 3)) else high_3)).bind fun r_8 => some ((⟨r_4.1, r_8.1⟩ : T_api_Span), r_8.2)) else ((p_bk_Drum_Mid N r_5.2 r_4.1 high_3).bind fun r_9 => some ((⟨r_4.1, r_9.1⟩ : T_api_Span), r_9.2))))))
def v_bk_Drum_Span (r : T_api_Span × T_bk_Drum) : AV := (A_api_Span r.1)
attribute [local simp] v_bk_Drum_Span
theorem b_bk_Drum_Span (r : T_api_Span × T_bk_Drum) (n n2 m : Nat) : back n n2 m (v_bk_Drum_Span r) = some (v_bk_Drum_Span r) := by simp
theorem d_bk_Drum_Span (N : Nat) (d_1 : T_bk_Drum) (low_2 : Int) (high_3 : Int) (r : T_api_Span × T_bk_Drum) (h : p_bk_Drum_Span N d_1 low_2 high_3 = some r) : Does Try.prog 58 [.ptr 0 0, .int .i64 low_2, .int .i64 high_3] [(C_bk_Drum d_1)] fun v c => v = v_bk_Drum_Span r ∧ c = [(C_bk_Drum r.2)] := by
  unfold p_bk_Drum_Span at h
  refine Does.ofL comp58 _ _ rfl rfl ?_
  refine Ex.seq ?_
  refine regH 1 [] [0, 1, 2, 6] [] (mkS 36 [(0, .ptr 0 0), (1, .int .i64 low_2), (2, .int .i64 high_3), (6, .ptr 1 0)]) (⟨[(C_bk_Drum d_1), [.int .i64 0, .int .i64 0]], []⟩) (by kernel_rfl) trivial rfl ?_
  refine Ex.seq ?_
  obtain ⟨r_4, hr_4, h⟩ := Option.bind_eq_some_iff.1 h
  refine Ex.reg ?_
  refine runH 3 [] [0, 2, 6, 8, 9, 10] [] (mkS 36 [(0, .ptr 0 0), (2, .int .i64 high_3), (6, .ptr 1 0), (8, .ptr 0 0), (9, .int .i64 low_2), (10, .int .i64 high_3)]) (⟨[(C_bk_Drum d_1), [.int .i64 0, .int .i64 0]], []⟩) (by kernel_rfl) trivial ?_
  refine ExO.callL [0] [.ptr 0 0, .int .i64 low_2, .int .i64 high_3] rfl rfl (by simp; try rfl) rfl (by simp) (d_bk_Drum_Mid N d_1 low_2 high_3 r_4 hr_4) (b_bk_Drum_Mid _ _ _ _) (by simp) ?_
  refine runH 1 [] [0, 2, 6, 7] [] (mkS 36 [(0, .ptr 0 0), (2, .int .i64 high_3), (6, .ptr 1 0), (7, .int .i64 r_4.1)]) (⟨[(C_bk_Drum r_4.2), [.int .i64 0, .int .i64 0]], []⟩) (by kernel_rfl) trivial ?_
  refine ExO.nil ?_
  refine Ex.seq ?_
  refine Ex.seq ?_
  obtain ⟨r_5, hr_5, h⟩ := Option.bind_eq_some_iff.1 h
  refine Ex.reg ?_
  refine runH 1 [] [0, 2, 6, 7, 12] [] (mkS 36 [(0, .ptr 0 0), (2, .int .i64 high_3), (6, .ptr 1 0), (7, .int .i64 r_4.1), (12, .ptr 0 0)]) (⟨[(C_bk_Drum r_4.2), [.int .i64 0, .int .i64 0]], []⟩) (by kernel_rfl) trivial ?_
  refine ExO.callL [0] [.ptr 0 0, .int .i64 3] rfl rfl (by simp; try rfl) rfl (by simp) (d_bk_Drum_Roll N r_4.2 3 r_5 hr_5) (b_bk_Drum_Roll _ _ _ _) (by simp) ?_
  refine runH 0 [] [0, 2, 6, 7, 13] [] (mkS 36 [(0, .ptr 0 0), (2, .int .i64 high_3), (6, .ptr 1 0), (7, .int .i64 r_4.1), (13, .int .i64 r_5.1)]) (⟨[(C_bk_Drum r_5.2), [.int .i64 0, .int .i64 0]], []⟩) (by kernel_rfl) trivial ?_
  refine ExO.nil ?_
  refine Ex.blockK ?_
  refine Ex.seq ?_
  refine regH 2 [] [0, 2, 6, 7, 13, 14] [] (mkS 36 [(0, .ptr 0 0), (2, .int .i64 high_3), (6, .ptr 1 0), (7, .int .i64 r_4.1), (13, .int .i64 r_5.1), (14, .bool (r_5.1 == 0))]) (⟨[(C_bk_Drum r_5.2), [.int .i64 0, .int .i64 0]], []⟩) (by kernel_rfl) trivial rfl ?_
  rcases condI h with ⟨hc_6, h⟩ | ⟨hc_6, h⟩
  · refine Ex.condT _ rfl hc_6 ?_
    refine Ex.seq ?_
    refine regH 4 [] [6] [] (mkS 36 [(6, .ptr 1 0)]) (⟨[(C_bk_Drum r_5.2), [.int .i64 r_4.1, .int .i64 r_4.1]], []⟩) (by kernel_rfl) trivial rfl ?_
    refine Ex.ret ?_
    obtain rfl := Option.some.inj h
    exact ⟨.inr rfl, .agg [.int .i64 r_4.1, .int .i64 r_4.1], by kernel_rfl, by kernel_rfl, by kernel_rfl, by kernel_rfl⟩
  · refine Ex.condF _ rfl hc_6 ?_
    refine Ex.seq ?_
    refine regH 2 [] [0, 2, 6, 7, 19] [] (mkS 36 [(0, .ptr 0 0), (2, .int .i64 high_3), (6, .ptr 1 0), (7, .int .i64 r_4.1), (19, .bool (r_5.1 == 1))]) (⟨[(C_bk_Drum r_5.2), [.int .i64 0, .int .i64 0]], []⟩) (by kernel_rfl) trivial rfl ?_
    rcases condI h with ⟨hc_7, h⟩ | ⟨hc_7, h⟩
    · refine Ex.condT _ rfl hc_7 ?_
      refine Ex.seq ?_
      obtain ⟨r_8, hr_8, h⟩ := Option.bind_eq_some_iff.1 h
      refine Ex.reg ?_
      refine runH 7 [] [6, 21, 22, 23, 27] [] (mkS 36 [(6, .ptr 1 0), (21, .int .i64 r_4.1), (22, .ptr 0 0), (23, .int .i64 r_4.1), (27, .int .i64 (if (IntKind.i64.wrap (r_4.1 + 3)) < high_3 then (IntKind.i64.wrap (r_4.1 + 3)) else high_3))]) (⟨[(C_bk_Drum r_5.2), [.int .i64 0, .int .i64 0]], []⟩) (by kernel_rfl) trivial ?_
      refine ExO.callL [0] [.ptr 0 0, .int .i64 r_4.1, .int .i64 (if (IntKind.i64.wrap (r_4.1 + 3)) < high_3 then (IntKind.i64.wrap (r_4.1 + 3)) else high_3)] rfl rfl (by simp; try rfl) rfl (by simp) (d_bk_Drum_Mid N r_5.2 r_4.1 (if (IntKind.i64.wrap (r_4.1 + 3)) < high_3 then (IntKind.i64.wrap (r_4.1 + 3)) else high_3) r_8 hr_8) (b_bk_Drum_Mid _ _ _ _) (by simp) ?_
      refine runH 2 [] [6] [] (mkS 36 [(6, .ptr 1 0)]) (⟨[(C_bk_Drum r_8.2), [.int .i64 r_4.1, .int .i64 r_8.1]], []⟩) (by kernel_rfl) trivial ?_
      refine ExO.nil ?_
      refine Ex.ret ?_
      obtain rfl := Option.some.inj h
      exact ⟨.inr rfl, .agg [.int .i64 r_4.1, .int .i64 r_8.1], by kernel_rfl, by kernel_rfl, by kernel_rfl, by kernel_rfl⟩
    · refine Ex.condF _ rfl hc_7 ?_
      refine Ex.skip ?_
      refine Ex.seq ?_
      obtain ⟨r_9, hr_9, h⟩ := Option.bind_eq_some_iff.1 h
      refine Ex.reg ?_
      refine runH 4 [] [6, 30, 31, 32, 33] [] (mkS 36 [(6, .ptr 1 0), (30, .int .i64 r_4.1), (31, .ptr 0 0), (32, .int .i64 r_4.1), (33, .int .i64 high_3)]) (⟨[(C_bk_Drum r_5.2), [.int .i64 0, .int .i64 0]], []⟩) (by kernel_rfl) trivial ?_
      refine ExO.callL [0] [.ptr 0 0, .int .i64 r_4.1, .int .i64 high_3] rfl rfl (by simp; try rfl) rfl (by simp) (d_bk_Drum_Mid N r_5.2 r_4.1 high_3 r_9 hr_9) (b_bk_Drum_Mid _ _ _ _) (by simp) ?_
      refine runH 2 [] [6] [] (mkS 36 [(6, .ptr 1 0)]) (⟨[(C_bk_Drum r_9.2), [.int .i64 r_4.1, .int .i64 r_9.1]], []⟩) (by kernel_rfl) trivial ?_
      refine ExO.nil ?_
      refine Ex.ret ?_
      obtain rfl := Option.some.inj h
      exact ⟨.inr rfl, .agg [.int .i64 r_4.1, .int .i64 r_9.1], by kernel_rfl, by kernel_rfl, by kernel_rfl, by kernel_rfl⟩
def v_bk_Drum_Of (r : Int × T_bk_Drum) : AV := .int .i64 r.1
attribute [local simp] v_bk_Drum_Of
end Go.Proofs.Ytfcjcjncfniclaa
end
section
namespace Go.Proofs.Ytfcjcjncfniclaa
open Go.RowKit
set_option linter.unusedVariables false
set_option linter.unusedSimpArgs false
set_option maxRecDepth 10000
set_option maxHeartbeats 4000000

theorem w64 {x : Int} (h0 : -9223372036854775808 ≤ x) (h1 : x < 9223372036854775808) : IntKind.i64.wrap x = x := by
  simp [IntKind.wrap, IntKind.bits, IntKind.signed]
  omega
theorem wu64 (x : Int) : 0 ≤ IntKind.u64.wrap x ∧ IntKind.u64.wrap x < 2 ^ 64 := by
  have e : IntKind.u64.wrap x = x % 2 ^ 64 := rfl
  omega
theorem wu64_id {x : Int} (h0 : 0 ≤ x) (h1 : x < 2 ^ 64) : IntKind.u64.wrap x = x := by
  have e : IntKind.u64.wrap x = x % 2 ^ 64 := rfl
  omega

section
variable {ρ : Type} {A B C : Type}
theorem loop1_T {body : (A → Option ρ) → A → Option ρ} (T : Option ρ → Prop) (P : A → Prop) (μ : A → Nat) (h : ∀ rec a, P a → (∀ a', P a' → μ a' < μ a → T (rec a')) → T (body rec a)) : ∀ (N : Nat) (a : A), P a → μ a < N → T (loop1 body N a)
  | 0, a, _, hm => absurd hm (Nat.not_lt_zero _)
  | n + 1, a, hp, hm => h (loop1 body n) a hp fun a' hp' hm' => loop1_T T P μ h n a' hp' (by omega)
theorem loop2_T {body : (A → B → Option ρ) → A → B → Option ρ} (T : Option ρ → Prop) (P : A → B → Prop) (μ : A → B → Nat) (h : ∀ rec a b, P a b → (∀ a' b', P a' b' → μ a' b' < μ a b → T (rec a' b')) → T (body rec a b)) : ∀ (N : Nat) (a : A) (b : B), P a b → μ a b < N → T (loop2 body N a b)
  | 0, a, b, _, hm => absurd hm (Nat.not_lt_zero _)
  | n + 1, a, b, hp, hm => h (loop2 body n) a b hp fun a' b' hp' hm' => loop2_T T P μ h n a' b' hp' (by omega)
theorem loop3_T {body : (A → B → C → Option ρ) → A → B → C → Option ρ} (T : Option ρ → Prop) (P : A → B → C → Prop) (μ : A → B → C → Nat) (h : ∀ rec a b c, P a b c → (∀ a' b' c', P a' b' c' → μ a' b' c' < μ a b c → T (rec a' b' c')) → T (body rec a b c)) : ∀ (N : Nat) (a : A) (b : B) (c : C), P a b c → μ a b c < N → T (loop3 body N a b c)
  | 0, a, b, c, _, hm => absurd hm (Nat.not_lt_zero _)
  | n + 1, a, b, c, hp, hm => h (loop3 body n) a b c hp fun a' b' c' hp' hm' => loop3_T T P μ h n a' b' c' hp' (by omega)
end
theorem getI_nat {α : Type} (l : List α) (i : Nat) : getI l (i : Int) = l[i]? := by simp [getI]
theorem getI_lt {α : Type} {l : List α} {i : Int} (h0 : 0 ≤ i) (h1 : i < (l.length : Int)) : ∃ x, getI l i = some x ∧ l[i.toNat]? = some x ∧ x ∈ l := by
  have hlt : i.toNat < l.length := by omega
  refine ⟨l[i.toNat], ?_, List.getElem?_eq_getElem hlt, List.getElem_mem hlt⟩
  simp only [getI, h0, if_true]
  exact List.getElem?_eq_getElem hlt
theorem pushI_ok {α : Type} {l m : List α} (h : l.length + m.length ≤ 65536) : pushI l m = some (l ++ m) := if_pos h
theorem letJ_eq {κ ρ : Type} (K : κ) (f : κ → Option ρ) : letJ K f = f K := rfl

theorem hit_p (N : Nat) (d : T_bk_Drum) : ∃ y d', p_bk_Drum_hit N d = some (y, d') ∧ 0 ≤ y ∧ y < 2 ^ 64 := by
  refine ⟨_, _, rfl, ?_⟩
  exact wu64 _
theorem roll_p (N : Nat) (d : T_bk_Drum) (n : Int) (hn : n < 9223372036854775808) : ∃ r d', p_bk_Drum_Roll N d n = some (r, d') ∧ 0 ≤ r ∧ (n < 2 → r = 0) ∧ (2 ≤ n → r < n) := by
  unfold p_bk_Drum_Roll
  by_cases h2 : n < 2
  · simp only [h2, decide_true, cond_true]
    exact ⟨0, d, rfl, by omega, fun _ => rfl, fun h => by omega⟩
  · simp only [h2, decide_false, cond_false]
    obtain ⟨y, d', hy, h0, h1⟩ := hit_p N d
    have hu : IntKind.u64.wrap n = n := wu64_id (by omega) (by omega)
    have hnz : n ≠ 0 := by omega
    rw [hy, hu]
    simp only [Option.bind_some, nzI, hnz, if_false]
    have hsh : Int.fdiv y ((2 : Int) ^ (min (Int.toNat 1) (IntKind.bits .u64))) = y / 2 := by
      have : (2 : Int) ^ (min (Int.toNat 1) (IntKind.bits .u64)) = 2 := rfl
      rw [this, Int.fdiv_eq_ediv_of_nonneg _ (by omega)]
    rw [hsh]
    have hd0 : 0 ≤ y / 2 := by omega
    have hm : Int.tmod (y / 2) n = (y / 2) % n := Int.tmod_eq_emod_of_nonneg hd0
    have hm0 : 0 ≤ (y / 2) % n := Int.emod_nonneg _ hnz
    have hm1 : (y / 2) % n < n := Int.emod_lt_of_pos _ (by omega)
    rw [hm, w64 (x := y / 2 % n) (by omega) (by omega)]
    exact ⟨_, d', rfl, hm0, fun h => False.elim h, fun _ => hm1⟩
theorem any_p (N : Nat) (d : T_bk_Drum) (l : List Int) (hl : l ≠ []) (hlen : l.length < 1000) : ∃ r d', p_bk_Drum_Any N d l = some (r, d') ∧ r ∈ l := by
  unfold p_bk_Drum_Any
  have hpos : 0 < l.length := List.length_pos_iff.2 hl
  have hb : (((l.length : Nat) : Int) == 0) = false := by simp; omega
  rw [hb, cond_false]
  obtain ⟨r, d', h1, h2, h3, h4⟩ := roll_p N d ((l.length : Nat) : Int) (by omega)
  rw [h1]
  simp only [Option.bind_some]
  have hr : r < (l.length : Int) := by
    by_cases h : (l.length : Int) < 2
    · rw [h3 h]; omega
    · exact h4 (by omega)
  obtain ⟨x, e1, _, e3⟩ := getI_lt h2 hr
  rw [e1]
  exact ⟨x, d', rfl, e3⟩
theorem mid_p (N : Nat) (d : T_bk_Drum) (lo hi : Int) (h0 : -4611686018427387904 ≤ lo) (h1 : lo ≤ 4611686018427387903) (h2 : -4611686018427387904 ≤ hi) (h3 : hi ≤ 4611686018427387902) : ∃ r d', p_bk_Drum_Mid N d lo hi = some (r, d') ∧ lo ≤ r ∧ (lo ≤ hi → r ≤ hi) ∧ (hi < lo → r = lo) := by
  unfold p_bk_Drum_Mid
  rw [w64 (x := hi - lo) (by omega) (by omega)]
  by_cases hc : hi - lo + 1 < 9223372036854775808
  · rw [w64 (x := hi - lo + 1) (by omega) hc]
    obtain ⟨r, d', e1, e2, e3, e4⟩ := roll_p N d (hi - lo + 1) hc
    rw [e1]
    simp only [Option.bind_some]
    have hr : r ≤ hi - lo ∨ r = 0 := by
      by_cases h : hi - lo + 1 < 2
      · exact .inr (e3 h)
      · have := e4 (by omega); exact .inl (by omega)
    rw [w64 (by omega) (by omega)]
    exact ⟨_, d', rfl, by omega, fun h => by omega, fun h => by
      have := e3 (by omega)
      omega⟩
  · omega
theorem span_a (N : Nat) (d : T_bk_Drum) (n hi : Int) (h0 : 0 ≤ n) (h : n ≤ hi) (h1 : hi ≤ 4611686018427387902) : ∃ x d', ((p_bk_Drum_Mid N d n hi).bind fun r_9 => some ((⟨n, r_9.1⟩ : T_api_Span), r_9.2)) = some (x, d') ∧ x.Lo = n ∧ n ≤ x.Hi ∧ x.Hi ≤ hi := by
  obtain ⟨m, d3, j1, j2, j3, _⟩ := mid_p N d n hi (by omega) (by omega) (by omega) h1
  rw [j1]
  exact ⟨⟨n, m⟩, d3, rfl, rfl, j2, j3 h⟩
theorem span_p (N : Nat) (d : T_bk_Drum) (lo hi : Int) (h0 : 0 ≤ lo) (h : lo ≤ hi) (h1 : hi ≤ 4611686018427387902) : ∃ x d', p_bk_Drum_Span N d lo hi = some (x, d') ∧ lo ≤ x.Lo ∧ x.Lo ≤ x.Hi ∧ x.Hi ≤ hi := by
  obtain ⟨n, d1, e1, e2, e3, _⟩ := mid_p N d lo hi (by omega) (by omega) (by omega) h1
  have e3 := e3 h
  obtain ⟨r, d2, g1, _, _, _⟩ := roll_p N d1 3 (by omega)
  unfold p_bk_Drum_Span
  rw [e1, Option.bind_some, g1, Option.bind_some]
  show ∃ x d', (bif (r == 0) then _ else (bif (r == 1) then _ else _)) = some (x, d') ∧ _
  cases (r == 0)
  · cases (r == 1)
    · obtain ⟨x, d', k1, k2, k3, k4⟩ := span_a N d2 n hi (by omega) e3 h1
      exact ⟨x, d', k1, by omega, by omega, k4⟩
    · show ∃ x d', ((p_bk_Drum_Mid N d2 n (if IntKind.i64.wrap (n + 3) < hi then IntKind.i64.wrap (n + 3) else hi)).bind _) = some (x, d') ∧ _
      rw [w64 (x := n + 3) (by omega) (by omega)]
      have hm : n ≤ (if n + 3 < hi then n + 3 else hi) ∧ (if n + 3 < hi then n + 3 else hi) ≤ hi := by split <;> omega
      obtain ⟨x, d', k1, k2, k3, k4⟩ := span_a N d2 n _ (by omega) hm.1 (Int.le_trans hm.2 h1)
      exact ⟨x, d', k1, by omega, by omega, Int.le_trans k4 hm.2⟩
  · exact ⟨⟨n, n⟩, d2, rfl, e2, Int.le_refl _, e3⟩
theorem drumOf_step (N : Nat) (l : List Int) (rec : Int → Int → Option T_bk_Drum) (i q : Int) (h : i < 9223372036854775807) (h0 : 0 ≤ i) (ih : ∀ b', ∃ d, rec (i + 1) b' = some d) : ∃ d, ((p_bk_Drum_hit N (⟨q⟩ : T_bk_Drum)).bind fun r_14 => (rec (IntKind.i64.wrap (i + 1)) r_14.2.beat_)) = some d := by
  obtain ⟨y, d', g1, _, _⟩ := hit_p N ⟨q⟩
  rw [g1, w64 (x := i + 1) (by omega) (by omega)]
  exact ih _
theorem drumOf_p (N : Nat) (l : List Int) (hN : l.length < N) (hl : l.length < 9223372036854775808) : ∃ d, p_bk_DrumOf N l = some d := by
  unfold p_bk_DrumOf
  rw [letJ_eq]
  refine loop2_T (fun x => ∃ d, x = some d) (fun i b => 0 ≤ i ∧ i ≤ (l.length : Int)) (fun i b => l.length - i.toNat) ?_ N 0 _ ⟨by omega, by omega⟩ (by simpa using hN)
  rintro rec i b ⟨h0, h1⟩ ih
  by_cases hc : i < (l.length : Int)
  · rw [show decide (i < ((l.length : Nat) : Int)) = true from decide_eq_true hc, cond_true]
    obtain ⟨x, e1, _, _⟩ := getI_lt h0 hc
    rw [e1, Option.bind_some, Option.bind_some]
    exact drumOf_step N l rec i _ (by omega) h0 fun b' => ih _ _ ⟨by omega, by omega⟩ (by omega)
  · rw [show decide (i < ((l.length : Nat) : Int)) = false from decide_eq_false hc, cond_false]
    exact ⟨_, rfl⟩
end Go.Proofs.Ytfcjcjncfniclaa
end
section
namespace Go.Proofs.Ytfcjcjncfniclaa
open Go.RowKit
set_option linter.unusedVariables false
set_option linter.unusedSimpArgs false
set_option maxRecDepth 10000
set_option maxHeartbeats 4000000
attribute [local simp] cleanL AV.clean KL_bk_Drum KL_api_Span cleanI cleanBo cleanSt cleanII re re1 back back1 AV.plain AV.plain1 A_bk_Drum C_bk_Drum A_api_Span C_api_Span ren ren1 fadeS fadeV List.idxOf? List.findIdx? List.findIdx?.go KB_bk_Drum KB_api_Span
structure T_api_Load where
  At : Int
  Kilos : T_api_Span
  Top : T_api_Span
  Kind : Int
  Watts : Int
  deriving Inhabited
def C_api_Load (x : T_api_Load) : List AV := [.int .i64 x.At, .int .i64 x.Kilos.Lo, .int .i64 x.Kilos.Hi, .int .i64 x.Top.Lo, .int .i64 x.Top.Hi, .int .i64 x.Kind, .int .i64 x.Watts]
attribute [local simp] C_api_Load
def A_api_Load (x : T_api_Load) : AV := .agg (C_api_Load x)
attribute [local simp] A_api_Load
theorem KC_api_Load (x : T_api_Load) : cleanL (C_api_Load x) = true := by simp
theorem KA_api_Load (x : T_api_Load) : (A_api_Load x).clean = true := KC_api_Load x
theorem KL_api_Load (l : List T_api_Load) : cleanL (l.map A_api_Load) = true := cleanM KA_api_Load l
attribute [local simp] KL_api_Load
theorem KB_api_Load (x : T_api_Load) (n : Nat) (σ : List Nat) : (C_api_Load x).mapM (re n σ) = some (C_api_Load x) := by simp
attribute [local simp] KB_api_Load
structure T_api_Float where
  Length : Int
  Width : Int
  Front : Int
  Rear : Int
  Turn : Int
  Kilos : Int
  Middle : Int
  High : Int
  Loads : (List T_api_Load)
  deriving Inhabited
def C_api_Float (x : T_api_Float) : List AV := [.int .i64 x.Length, .int .i64 x.Width, .int .i64 x.Front, .int .i64 x.Rear, .int .i64 x.Turn, .int .i64 x.Kilos, .int .i64 x.Middle, .int .i64 x.High, .sl (x.Loads.map A_api_Load) none]
attribute [local simp] C_api_Float
def A_api_Float (x : T_api_Float) : AV := .agg (C_api_Float x)
attribute [local simp] A_api_Float
theorem KC_api_Float (x : T_api_Float) : cleanL (C_api_Float x) = true := by simp
theorem KA_api_Float (x : T_api_Float) : (A_api_Float x).clean = true := KC_api_Float x
theorem KL_api_Float (l : List T_api_Float) : cleanL (l.map A_api_Float) = true := cleanM KA_api_Float l
attribute [local simp] KL_api_Float
theorem KB_api_Float (x : T_api_Float) (n : Nat) (σ : List Nat) : (C_api_Float x).mapM (re n σ) = some (C_api_Float x) := by simp
attribute [local simp] KB_api_Float
def p_bk_FloatOf (N : Nat) (d_1 : T_bk_Drum) (loads_2 : Int) : Option (T_api_Float × T_bk_Drum) := ((p_bk_Drum_Any N d_1 [20, 1200]).bind fun r_3 => ((p_bk_Drum_Mid N r_3.2 2 r_3.1).bind fun r_4 => ((p_bk_Drum_Mid N r_4.2 1 400).bind fun r_5 => ((p_bk_Drum_Roll N r_5.2 1500).bind fun r_6 => ((p_bk_Drum_Any N r_6.2 [0, r_6.1]).bind fun r_7 => ((p_bk_Drum_Roll N r_7.2 5000).bind fun r_8 => ((p_bk_Drum_Any N r_8.2 [0, r_8.1]).bind fun r_9 => ((p_bk_Drum_Roll N r_9.2 500).bind fun r_10 => ((p_bk_Drum_Roll N r_10.2 r_4.1).bind fun r_11 => ((p_bk_Drum_Mid N r_11.2 (IntKind.i64.wrap (r_11.1 + 1)) r_4.1).bind fun r_12 => ((p_bk_Drum_Mid N r_12.2 0 r_4.1).bind fun r_13 => ((p_bk_Drum_Roll N r_13.2 (IntKind.i64.wrap (loads_2 + 1))).bind fun r_14 => (letJ (fun (b_15 : Int) (b_16 : List T_api_Load) => some ((⟨r_4.1, r_5.1, r_11.1, r_12.1, r_7.1, r_9.1, r_13.1, r_10.1, b_16⟩ : T_api_Float), (⟨b_15⟩ : T_bk_Drum))) (fun k_17 => (loop3 (fun rec_23 (i_20 : Int) (b_21 : Int) (b_22 : List T_api_Load) => (bif (decide (i_20 > 0)) then ((p_bk_Drum_Mid N (⟨b_21⟩ : T_bk_Drum) r_11.1 r_12.1).bind fun r_27 => ((p_bk_Drum_Any N r_27.2 [5, 900]).bind fun r_28 => ((p_bk_Drum_Span N r_28.2 0 r_28.1).bind fun r_29 => ((p_bk_Drum_Any N r_29.2 [20, 700]).bind fun r_30 => ((p_bk_Drum_Span N r_30.2 0 r_30.1).bind fun r_31 => ((p_bk_Drum_Mid N r_31.2 1 4).bind fun r_32 => (letJ (fun (b_33 : Int) (b_34 : Int) => ((pushI b_22 ([(⟨r_27.1, r_29.1, r_31.1, r_32.1, b_34⟩ : T_api_Load)] : List T_api_Load)).bind fun l_45 => (rec_23 (IntKind.i64.wrap (i_20 - 1)) b_33 l_45))) (fun k_35 => (letJ (fun (y_38 : Bool) => (bif y_38 then ((p_bk_Drum_Roll N r_32.2 3000).bind fun r_44 => (k_35 r_44.2.beat_ r_44.1)) else (k_35 r_32.2.beat_ 0))) (fun k_39 => (bif (r_32.1 == 2) then (k_39 true) else (k_39 (r_32.1 == 3))))))))))))) else (k_17 b_21 b_22))) N r_14.1 r_14.2.beat_ [])))))))))))))))
def v_bk_FloatOf (r : T_api_Float × T_bk_Drum) : AV := (A_api_Float r.1)
attribute [local simp] v_bk_FloatOf
theorem b_bk_FloatOf (r : T_api_Float × T_bk_Drum) (n n2 m : Nat) : back n n2 m (v_bk_FloatOf r) = some (v_bk_FloatOf r) := by simp
theorem d_bk_FloatOf (N : Nat) (d_1 : T_bk_Drum) (loads_2 : Int) (r : T_api_Float × T_bk_Drum) (h : p_bk_FloatOf N d_1 loads_2 = some r) : Does Try.prog 10 [.ptr 0 0, .int .i64 loads_2] [(C_bk_Drum d_1)] fun v c => v = v_bk_FloatOf r ∧ c = [(C_bk_Drum r.2)] := by
  unfold p_bk_FloatOf at h
  refine Does.ofL comp10 _ _ rfl rfl ?_
  refine Ex.seq ?_
  refine regH 1 [] [0, 1, 4] [] (mkS 91 [(0, .ptr 0 0), (1, .int .i64 loads_2), (4, .ptr 1 0)]) (⟨[(C_bk_Drum d_1), [.int .i64 0, .int .i64 0, .int .i64 0, .int .i64 0, .int .i64 0, .int .i64 0, .int .i64 0, .int .i64 0, .nils]], []⟩) (by kernel_rfl) trivial rfl ?_
  refine Ex.seq ?_
  obtain ⟨r_3, hr_3, h⟩ := Option.bind_eq_some_iff.1 h
  refine Ex.reg ?_
  refine runH 3 [] [0, 1, 4, 8, 9, 10] [] (mkS 91 [(0, .ptr 0 0), (1, .int .i64 loads_2), (4, .ptr 1 0), (8, .ptr 0 0), (9, .ptr 0 0), (10, .sl (([20, 1200] : List Int).map (AV.int .i64)) (some 0))]) (⟨[(C_bk_Drum d_1), [.int .i64 0, .int .i64 0, .int .i64 0, .int .i64 0, .int .i64 0, .int .i64 0, .int .i64 0, .int .i64 0, .nils]], [(2, 1)]⟩) (by kernel_rfl) trivial ?_
  refine ExO.callL [0] [.ptr 0 0, .sl (([20, 1200] : List Int).map (AV.int .i64)) (some 0)] rfl rfl (by simp; try rfl) rfl (by simp) (d_bk_Drum_Any N d_1 [20, 1200] r_3 hr_3) (b_bk_Drum_Any _ _ _ _) (by simp) ?_
  obtain ⟨r_4, hr_4, h⟩ := Option.bind_eq_some_iff.1 h
  refine ExO.callL [0] [.ptr 0 0, .int .i64 2, .int .i64 r_3.1] rfl rfl (by simp; try rfl) rfl (by simp) (d_bk_Drum_Mid N r_3.2 2 r_3.1 r_4 hr_4) (b_bk_Drum_Mid _ _ _ _) (by simp) ?_
  obtain ⟨r_5, hr_5, h⟩ := Option.bind_eq_some_iff.1 h
  refine runH 1 [] [0, 1, 4, 12, 13] [] (mkS 91 [(0, .ptr 0 0), (1, .int .i64 loads_2), (4, .ptr 1 0), (12, .int .i64 r_4.1), (13, .ptr 0 0)]) (⟨[(C_bk_Drum r_4.2), [.int .i64 0, .int .i64 0, .int .i64 0, .int .i64 0, .int .i64 0, .int .i64 0, .int .i64 0, .int .i64 0, .nils]], [(2, 1)]⟩) (by kernel_rfl) trivial ?_
  refine ExO.callL [0] [.ptr 0 0, .int .i64 1, .int .i64 400] rfl rfl (by simp; try rfl) rfl (by simp) (d_bk_Drum_Mid N r_4.2 1 400 r_5 hr_5) (b_bk_Drum_Mid _ _ _ _) (by simp) ?_
  obtain ⟨r_6, hr_6, h⟩ := Option.bind_eq_some_iff.1 h
  refine runH 2 [] [0, 1, 4, 12, 14, 15, 16] [] (mkS 91 [(0, .ptr 0 0), (1, .int .i64 loads_2), (4, .ptr 1 0), (12, .int .i64 r_4.1), (14, .int .i64 r_5.1), (15, .ptr 0 0), (16, .ptr 0 0)]) (⟨[(C_bk_Drum r_5.2), [.int .i64 0, .int .i64 0, .int .i64 0, .int .i64 0, .int .i64 0, .int .i64 0, .int .i64 0, .int .i64 0, .nils]], [(2, 1)]⟩) (by kernel_rfl) trivial ?_
  refine ExO.callL [0] [.ptr 0 0, .int .i64 1500] rfl rfl (by simp; try rfl) rfl (by simp) (d_bk_Drum_Roll N r_5.2 1500 r_6 hr_6) (b_bk_Drum_Roll _ _ _ _) (by simp) ?_
  obtain ⟨r_7, hr_7, h⟩ := Option.bind_eq_some_iff.1 h
  refine runH 1 [] [0, 1, 4, 12, 14, 15, 18] [] (mkS 91 [(0, .ptr 0 0), (1, .int .i64 loads_2), (4, .ptr 1 0), (12, .int .i64 r_4.1), (14, .int .i64 r_5.1), (15, .ptr 0 0), (18, .sl (([0, r_6.1] : List Int).map (AV.int .i64)) (some 1))]) (⟨[(C_bk_Drum r_6.2), [.int .i64 0, .int .i64 0, .int .i64 0, .int .i64 0, .int .i64 0, .int .i64 0, .int .i64 0, .int .i64 0, .nils]], [(2, 1), (2, 1)]⟩) (by kernel_rfl) trivial ?_
  refine ExO.callL [0] [.ptr 0 0, .sl (([0, r_6.1] : List Int).map (AV.int .i64)) (some 1)] rfl rfl (by simp; try rfl) rfl (by simp) (d_bk_Drum_Any N r_6.2 [0, r_6.1] r_7 hr_7) (b_bk_Drum_Any _ _ _ _) (by simp) ?_
  obtain ⟨r_8, hr_8, h⟩ := Option.bind_eq_some_iff.1 h
  refine runH 2 [] [0, 1, 4, 12, 14, 19, 20, 21] [] (mkS 91 [(0, .ptr 0 0), (1, .int .i64 loads_2), (4, .ptr 1 0), (12, .int .i64 r_4.1), (14, .int .i64 r_5.1), (19, .int .i64 r_7.1), (20, .ptr 0 0), (21, .ptr 0 0)]) (⟨[(C_bk_Drum r_7.2), [.int .i64 0, .int .i64 0, .int .i64 0, .int .i64 0, .int .i64 0, .int .i64 0, .int .i64 0, .int .i64 0, .nils]], [(2, 1), (2, 1)]⟩) (by kernel_rfl) trivial ?_
  refine ExO.callL [0] [.ptr 0 0, .int .i64 5000] rfl rfl (by simp; try rfl) rfl (by simp) (d_bk_Drum_Roll N r_7.2 5000 r_8 hr_8) (b_bk_Drum_Roll _ _ _ _) (by simp) ?_
  obtain ⟨r_9, hr_9, h⟩ := Option.bind_eq_some_iff.1 h
  refine runH 1 [] [0, 1, 4, 12, 14, 19, 20, 23] [] (mkS 91 [(0, .ptr 0 0), (1, .int .i64 loads_2), (4, .ptr 1 0), (12, .int .i64 r_4.1), (14, .int .i64 r_5.1), (19, .int .i64 r_7.1), (20, .ptr 0 0), (23, .sl (([0, r_8.1] : List Int).map (AV.int .i64)) (some 2))]) (⟨[(C_bk_Drum r_8.2), [.int .i64 0, .int .i64 0, .int .i64 0, .int .i64 0, .int .i64 0, .int .i64 0, .int .i64 0, .int .i64 0, .nils]], [(2, 1), (2, 1), (2, 1)]⟩) (by kernel_rfl) trivial ?_
  refine ExO.callL [0] [.ptr 0 0, .sl (([0, r_8.1] : List Int).map (AV.int .i64)) (some 2)] rfl rfl (by simp; try rfl) rfl (by simp) (d_bk_Drum_Any N r_8.2 [0, r_8.1] r_9 hr_9) (b_bk_Drum_Any _ _ _ _) (by simp) ?_
  obtain ⟨r_10, hr_10, h⟩ := Option.bind_eq_some_iff.1 h
  refine runH 1 [] [0, 1, 4, 12, 14, 19, 24, 25] [] (mkS 91 [(0, .ptr 0 0), (1, .int .i64 loads_2), (4, .ptr 1 0), (12, .int .i64 r_4.1), (14, .int .i64 r_5.1), (19, .int .i64 r_7.1), (24, .int .i64 r_9.1), (25, .ptr 0 0)]) (⟨[(C_bk_Drum r_9.2), [.int .i64 0, .int .i64 0, .int .i64 0, .int .i64 0, .int .i64 0, .int .i64 0, .int .i64 0, .int .i64 0, .nils]], [(2, 1), (2, 1), (2, 1)]⟩) (by kernel_rfl) trivial ?_
  refine ExO.callL [0] [.ptr 0 0, .int .i64 500] rfl rfl (by simp; try rfl) rfl (by simp) (d_bk_Drum_Roll N r_9.2 500 r_10 hr_10) (b_bk_Drum_Roll _ _ _ _) (by simp) ?_
  refine runH 3 [] [0, 1, 4, 5] [] (mkS 91 [(0, .ptr 0 0), (1, .int .i64 loads_2), (4, .ptr 1 0), (5, .ptr 2 0)]) (⟨[(C_bk_Drum r_10.2), [.int .i64 0, .int .i64 0, .int .i64 0, .int .i64 0, .int .i64 0, .int .i64 0, .int .i64 0, .int .i64 0, .nils], [.int .i64 r_4.1, .int .i64 r_5.1, .int .i64 0, .int .i64 0, .int .i64 r_7.1, .int .i64 r_9.1, .int .i64 0, .int .i64 r_10.1, .nils]], [(2, 1), (2, 1), (2, 1)]⟩) (by kernel_rfl) trivial ?_
  refine ExO.nil ?_
  refine Ex.seq ?_
  obtain ⟨r_11, hr_11, h⟩ := Option.bind_eq_some_iff.1 h
  refine Ex.reg ?_
  refine runH 3 [] [0, 1, 4, 5, 28, 30] [] (mkS 91 [(0, .ptr 0 0), (1, .int .i64 loads_2), (4, .ptr 1 0), (5, .ptr 2 0), (28, .ptr 0 0), (30, .int .i64 r_4.1)]) (⟨[(C_bk_Drum r_10.2), [.int .i64 0, .int .i64 0, .int .i64 0, .int .i64 0, .int .i64 0, .int .i64 0, .int .i64 0, .int .i64 0, .nils], [.int .i64 r_4.1, .int .i64 r_5.1, .int .i64 0, .int .i64 0, .int .i64 r_7.1, .int .i64 r_9.1, .int .i64 0, .int .i64 r_10.1, .nils]], [(2, 1), (2, 1), (2, 1)]⟩) (by kernel_rfl) trivial ?_
  refine ExO.callL [0] [.ptr 0 0, .int .i64 r_4.1] rfl rfl (by simp; try rfl) rfl (by simp) (d_bk_Drum_Roll N r_10.2 r_4.1 r_11 hr_11) (b_bk_Drum_Roll _ _ _ _) (by simp) ?_
  refine runH 2 [] [0, 1, 4, 5] [] (mkS 91 [(0, .ptr 0 0), (1, .int .i64 loads_2), (4, .ptr 1 0), (5, .ptr 2 0)]) (⟨[(C_bk_Drum r_11.2), [.int .i64 0, .int .i64 0, .int .i64 0, .int .i64 0, .int .i64 0, .int .i64 0, .int .i64 0, .int .i64 0, .nils], [.int .i64 r_4.1, .int .i64 r_5.1, .int .i64 r_11.1, .int .i64 0, .int .i64 r_7.1, .int .i64 r_9.1, .int .i64 0, .int .i64 r_10.1, .nils]], [(2, 1), (2, 1), (2, 1)]⟩) (by kernel_rfl) trivial ?_
  refine ExO.nil ?_
  refine Ex.seq ?_
  obtain ⟨r_12, hr_12, h⟩ := Option.bind_eq_some_iff.1 h
  refine Ex.reg ?_
  refine runH 6 [] [0, 1, 4, 5, 33, 36, 38] [] (mkS 91 [(0, .ptr 0 0), (1, .int .i64 loads_2), (4, .ptr 1 0), (5, .ptr 2 0), (33, .ptr 0 0), (36, .int .i64 (IntKind.i64.wrap (r_11.1 + 1))), (38, .int .i64 r_4.1)]) (⟨[(C_bk_Drum r_11.2), [.int .i64 0, .int .i64 0, .int .i64 0, .int .i64 0, .int .i64 0, .int .i64 0, .int .i64 0, .int .i64 0, .nils], [.int .i64 r_4.1, .int .i64 r_5.1, .int .i64 r_11.1, .int .i64 0, .int .i64 r_7.1, .int .i64 r_9.1, .int .i64 0, .int .i64 r_10.1, .nils]], [(2, 1), (2, 1), (2, 1)]⟩) (by kernel_rfl) trivial ?_
  refine ExO.callL [0] [.ptr 0 0, .int .i64 (IntKind.i64.wrap (r_11.1 + 1)), .int .i64 r_4.1] rfl rfl (by simp; try rfl) rfl (by simp) (d_bk_Drum_Mid N r_11.2 (IntKind.i64.wrap (r_11.1 + 1)) r_4.1 r_12 hr_12) (b_bk_Drum_Mid _ _ _ _) (by simp) ?_
  refine runH 2 [] [0, 1, 4, 5] [] (mkS 91 [(0, .ptr 0 0), (1, .int .i64 loads_2), (4, .ptr 1 0), (5, .ptr 2 0)]) (⟨[(C_bk_Drum r_12.2), [.int .i64 0, .int .i64 0, .int .i64 0, .int .i64 0, .int .i64 0, .int .i64 0, .int .i64 0, .int .i64 0, .nils], [.int .i64 r_4.1, .int .i64 r_5.1, .int .i64 r_11.1, .int .i64 r_12.1, .int .i64 r_7.1, .int .i64 r_9.1, .int .i64 0, .int .i64 r_10.1, .nils]], [(2, 1), (2, 1), (2, 1)]⟩) (by kernel_rfl) trivial ?_
  refine ExO.nil ?_
  refine Ex.seq ?_
  obtain ⟨r_13, hr_13, h⟩ := Option.bind_eq_some_iff.1 h
  refine Ex.reg ?_
  refine runH 3 [] [0, 1, 4, 5, 41, 43] [] (mkS 91 [(0, .ptr 0 0), (1, .int .i64 loads_2), (4, .ptr 1 0), (5, .ptr 2 0), (41, .ptr 0 0), (43, .int .i64 r_4.1)]) (⟨[(C_bk_Drum r_12.2), [.int .i64 0, .int .i64 0, .int .i64 0, .int .i64 0, .int .i64 0, .int .i64 0, .int .i64 0, .int .i64 0, .nils], [.int .i64 r_4.1, .int .i64 r_5.1, .int .i64 r_11.1, .int .i64 r_12.1, .int .i64 r_7.1, .int .i64 r_9.1, .int .i64 0, .int .i64 r_10.1, .nils]], [(2, 1), (2, 1), (2, 1)]⟩) (by kernel_rfl) trivial ?_
  refine ExO.callL [0] [.ptr 0 0, .int .i64 0, .int .i64 r_4.1] rfl rfl (by simp; try rfl) rfl (by simp) (d_bk_Drum_Mid N r_12.2 0 r_4.1 r_13 hr_13) (b_bk_Drum_Mid _ _ _ _) (by simp) ?_
  refine runH 2 [] [0, 1, 4, 5] [] (mkS 91 [(0, .ptr 0 0), (1, .int .i64 loads_2), (4, .ptr 1 0), (5, .ptr 2 0)]) (⟨[(C_bk_Drum r_13.2), [.int .i64 0, .int .i64 0, .int .i64 0, .int .i64 0, .int .i64 0, .int .i64 0, .int .i64 0, .int .i64 0, .nils], [.int .i64 r_4.1, .int .i64 r_5.1, .int .i64 r_11.1, .int .i64 r_12.1, .int .i64 r_7.1, .int .i64 r_9.1, .int .i64 r_13.1, .int .i64 r_10.1, .nils]], [(2, 1), (2, 1), (2, 1)]⟩) (by kernel_rfl) trivial ?_
  refine ExO.nil ?_
  refine Ex.seq ?_
  refine Ex.seq ?_
  obtain ⟨r_14, hr_14, h⟩ := Option.bind_eq_some_iff.1 h
  refine Ex.reg ?_
  refine runH 3 [] [0, 4, 5, 46, 48] [] (mkS 91 [(0, .ptr 0 0), (4, .ptr 1 0), (5, .ptr 2 0), (46, .ptr 0 0), (48, .int .i64 (IntKind.i64.wrap (loads_2 + 1)))]) (⟨[(C_bk_Drum r_13.2), [.int .i64 0, .int .i64 0, .int .i64 0, .int .i64 0, .int .i64 0, .int .i64 0, .int .i64 0, .int .i64 0, .nils], [.int .i64 r_4.1, .int .i64 r_5.1, .int .i64 r_11.1, .int .i64 r_12.1, .int .i64 r_7.1, .int .i64 r_9.1, .int .i64 r_13.1, .int .i64 r_10.1, .nils]], [(2, 1), (2, 1), (2, 1)]⟩) (by kernel_rfl) trivial ?_
  refine ExO.callL [0] [.ptr 0 0, .int .i64 (IntKind.i64.wrap (loads_2 + 1))] rfl rfl (by simp; try rfl) rfl (by simp) (d_bk_Drum_Roll N r_13.2 (IntKind.i64.wrap (loads_2 + 1)) r_14 hr_14) (b_bk_Drum_Roll _ _ _ _) (by simp) ?_
  refine runH 1 [] [0, 4, 5, 6] [] (mkS 91 [(0, .ptr 0 0), (4, .ptr 1 0), (5, .ptr 2 0), (6, .int .i64 r_14.1)]) (⟨[(C_bk_Drum r_14.2), [.int .i64 0, .int .i64 0, .int .i64 0, .int .i64 0, .int .i64 0, .int .i64 0, .int .i64 0, .int .i64 0, .nils], [.int .i64 r_4.1, .int .i64 r_5.1, .int .i64 r_11.1, .int .i64 r_12.1, .int .i64 r_7.1, .int .i64 r_9.1, .int .i64 r_13.1, .int .i64 r_10.1, .nils]], [(2, 1), (2, 1), (2, 1)]⟩) (by kernel_rfl) trivial ?_
  refine ExO.nil ?_
  obtain ⟨K_18, hK_19, h⟩ := letE h
  refine Ex.blockJ (fun a S => ∃ (b_15 : Int), ∃ (b_16 : List T_api_Load), K_18 b_15 b_16 = some r ∧ a = mkS 91 [(4, .ptr 1 0), (5, .ptr 2 0)] ∧ S = ⟨[[.int .u64 b_15], [.int .i64 0, .int .i64 0, .int .i64 0, .int .i64 0, .int .i64 0, .int .i64 0, .int .i64 0, .int .i64 0, .nils], [.int .i64 r_4.1, .int .i64 r_5.1, .int .i64 r_11.1, .int .i64 r_12.1, .int .i64 r_7.1, .int .i64 r_9.1, .int .i64 r_13.1, .int .i64 r_10.1, .sl (b_16.map A_api_Load) (some 0)]], [(b_16.length, 7)]⟩) ?_ ?_
  · refine Ex.forget (nilB 2 8 7 [.int .i64 r_4.1, .int .i64 r_5.1, .int .i64 r_11.1, .int .i64 r_12.1, .int .i64 r_7.1, .int .i64 r_9.1, .int .i64 r_13.1, .int .i64 r_10.1, .nils] rfl rfl) ?_
    refine Ex.castA (a2 := mkS 91 [(0, .ptr 0 0), (4, .ptr 1 0), (5, .ptr 2 0), (6, .int .i64 r_14.1)]) (S2 := ⟨[(C_bk_Drum r_14.2), [.int .i64 0, .int .i64 0, .int .i64 0, .int .i64 0, .int .i64 0, .int .i64 0, .int .i64 0, .int .i64 0, .nils], [.int .i64 r_4.1, .int .i64 r_5.1, .int .i64 r_11.1, .int .i64 r_12.1, .int .i64 r_7.1, .int .i64 r_9.1, .int .i64 r_13.1, .int .i64 r_10.1, .sl (([] : List T_api_Load).map A_api_Load) (some 3)]], [(2, 1), (2, 1), (2, 1), (0, 7)]⟩) (by kernel_rfl) (by kernel_rfl) ?_
    obtain ⟨B_24, hB_25, h⟩ := loop3I h
    refine Ex.loopF (fun k a S => ∃ (i_20 : Int), ∃ (b_21 : Int), ∃ (b_22 : List T_api_Load), loop3 B_24 k i_20 b_21 b_22 = some r ∧ a = mkS 91 [(0, .ptr 0 0), (4, .ptr 1 0), (5, .ptr 2 0), (6, .int .i64 i_20)] ∧ S = ⟨[[.int .u64 b_21], [.int .i64 0, .int .i64 0, .int .i64 0, .int .i64 0, .int .i64 0, .int .i64 0, .int .i64 0, .int .i64 0, .nils], [.int .i64 r_4.1, .int .i64 r_5.1, .int .i64 r_11.1, .int .i64 r_12.1, .int .i64 r_7.1, .int .i64 r_9.1, .int .i64 r_13.1, .int .i64 r_10.1, .sl (b_22.map A_api_Load) (some 0)]], [(b_22.length, 7)]⟩) N ⟨_, _, forgetA (m := 91) 3 [3] [(0, .ptr 0 0), (4, .ptr 1 0), (5, .ptr 2 0), (6, .int .i64 r_14.1)] [(C_bk_Drum r_14.2), [.int .i64 0, .int .i64 0, .int .i64 0, .int .i64 0, .int .i64 0, .int .i64 0, .int .i64 0, .int .i64 0, .nils], [.int .i64 r_4.1, .int .i64 r_5.1, .int .i64 r_11.1, .int .i64 r_12.1, .int .i64 r_7.1, .int .i64 r_9.1, .int .i64 r_13.1, .int .i64 r_10.1, .sl (([] : List T_api_Load).map A_api_Load) (some 0)]] [(0, 7)] (by simp) (by simp) ⟨rfl, rfl, rfl, rfl, trivial⟩ (by simp) rfl (by decide), r_14.1, r_14.2.beat_, [], h, rfl, rfl⟩ ?_
    rintro k a S ⟨i_20, b_21, b_22, h, rfl, rfl⟩
    cases k with
    | zero => exact (loop3Z h).elim
    | succ k =>
      replace h := loop3S h hB_25
      refine Ex.seq ?_
      refine Ex.seq ?_
      refine regH 2 [] [0, 4, 5, 6, 51] [] (mkS 91 [(0, .ptr 0 0), (4, .ptr 1 0), (5, .ptr 2 0), (6, .int .i64 i_20), (51, .bool (decide (i_20 > 0)))]) (⟨[[.int .u64 b_21], [.int .i64 0, .int .i64 0, .int .i64 0, .int .i64 0, .int .i64 0, .int .i64 0, .int .i64 0, .int .i64 0, .nils], [.int .i64 r_4.1, .int .i64 r_5.1, .int .i64 r_11.1, .int .i64 r_12.1, .int .i64 r_7.1, .int .i64 r_9.1, .int .i64 r_13.1, .int .i64 r_10.1, .sl (b_22.map A_api_Load) (some 0)]], [(b_22.length, 7)]⟩) (by kernel_rfl) trivial rfl ?_
      rcases condI h with ⟨hc_26, h⟩ | ⟨hc_26, h⟩
      · refine Ex.condT _ rfl hc_26 ?_
        refine Ex.skip ?_
        refine Ex.seq ?_
        refine Ex.blockK ?_
        refine Ex.seq ?_
        obtain ⟨r_27, hr_27, h⟩ := Option.bind_eq_some_iff.1 h
        refine Ex.reg ?_
        refine runH 5 [] [0, 4, 5, 6, 54, 56, 58] [] (mkS 91 [(0, .ptr 0 0), (4, .ptr 1 0), (5, .ptr 2 0), (6, .int .i64 i_20), (54, .ptr 0 0), (56, .int .i64 r_11.1), (58, .int .i64 r_12.1)]) (⟨[[.int .u64 b_21], [.int .i64 0, .int .i64 0, .int .i64 0, .int .i64 0, .int .i64 0, .int .i64 0, .int .i64 0, .int .i64 0, .nils], [.int .i64 r_4.1, .int .i64 r_5.1, .int .i64 r_11.1, .int .i64 r_12.1, .int .i64 r_7.1, .int .i64 r_9.1, .int .i64 r_13.1, .int .i64 r_10.1, .sl (b_22.map A_api_Load) (some 0)]], [(b_22.length, 7)]⟩) (by kernel_rfl) trivial ?_
        refine ExO.callL [0] [.ptr 0 0, .int .i64 r_11.1, .int .i64 r_12.1] rfl rfl (by simp; try rfl) rfl (by simp) (d_bk_Drum_Mid N (⟨b_21⟩ : T_bk_Drum) r_11.1 r_12.1 r_27 hr_27) (b_bk_Drum_Mid _ _ _ _) (by simp) ?_
        obtain ⟨r_28, hr_28, h⟩ := Option.bind_eq_some_iff.1 h
        refine runH 3 [] [0, 4, 5, 6, 59, 60, 61, 62] [] (mkS 91 [(0, .ptr 0 0), (4, .ptr 1 0), (5, .ptr 2 0), (6, .int .i64 i_20), (59, .int .i64 r_27.1), (60, .ptr 0 0), (61, .ptr 0 0), (62, .sl (([5, 900] : List Int).map (AV.int .i64)) (some 1))]) (⟨[(C_bk_Drum r_27.2), [.int .i64 0, .int .i64 0, .int .i64 0, .int .i64 0, .int .i64 0, .int .i64 0, .int .i64 0, .int .i64 0, .nils], [.int .i64 r_4.1, .int .i64 r_5.1, .int .i64 r_11.1, .int .i64 r_12.1, .int .i64 r_7.1, .int .i64 r_9.1, .int .i64 r_13.1, .int .i64 r_10.1, .sl (b_22.map A_api_Load) (some 0)]], [(b_22.length, 7), (2, 1)]⟩) (by kernel_rfl) trivial ?_
        refine ExO.callL [0] [.ptr 0 0, .sl (([5, 900] : List Int).map (AV.int .i64)) (some 1)] rfl rfl (by simp; try rfl) rfl (by simp) (d_bk_Drum_Any N r_27.2 [5, 900] r_28 hr_28) (b_bk_Drum_Any _ _ _ _) (by simp) ?_
        obtain ⟨r_29, hr_29, h⟩ := Option.bind_eq_some_iff.1 h
        refine ExO.callL [0] [.ptr 0 0, .int .i64 0, .int .i64 r_28.1] rfl rfl (by simp; try rfl) rfl (by simp) (d_bk_Drum_Span N r_28.2 0 r_28.1 r_29 hr_29) (b_bk_Drum_Span _ _ _ _) (by simp) ?_
        obtain ⟨r_30, hr_30, h⟩ := Option.bind_eq_some_iff.1 h
        refine runH 3 [] [0, 4, 5, 6, 59, 64, 65, 66, 67] [] (mkS 91 [(0, .ptr 0 0), (4, .ptr 1 0), (5, .ptr 2 0), (6, .int .i64 i_20), (59, .int .i64 r_27.1), (64, (A_api_Span r_29.1)), (65, .ptr 0 0), (66, .ptr 0 0), (67, .sl (([20, 700] : List Int).map (AV.int .i64)) (some 2))]) (⟨[(C_bk_Drum r_29.2), [.int .i64 0, .int .i64 0, .int .i64 0, .int .i64 0, .int .i64 0, .int .i64 0, .int .i64 0, .int .i64 0, .nils], [.int .i64 r_4.1, .int .i64 r_5.1, .int .i64 r_11.1, .int .i64 r_12.1, .int .i64 r_7.1, .int .i64 r_9.1, .int .i64 r_13.1, .int .i64 r_10.1, .sl (b_22.map A_api_Load) (some 0)]], [(b_22.length, 7), (2, 1), (2, 1)]⟩) (by kernel_rfl) trivial ?_
        refine ExO.callL [0] [.ptr 0 0, .sl (([20, 700] : List Int).map (AV.int .i64)) (some 2)] rfl rfl (by simp; try rfl) rfl (by simp) (d_bk_Drum_Any N r_29.2 [20, 700] r_30 hr_30) (b_bk_Drum_Any _ _ _ _) (by simp) ?_
        obtain ⟨r_31, hr_31, h⟩ := Option.bind_eq_some_iff.1 h
        refine ExO.callL [0] [.ptr 0 0, .int .i64 0, .int .i64 r_30.1] rfl rfl (by simp; try rfl) rfl (by simp) (d_bk_Drum_Span N r_30.2 0 r_30.1 r_31 hr_31) (b_bk_Drum_Span _ _ _ _) (by simp) ?_
        obtain ⟨r_32, hr_32, h⟩ := Option.bind_eq_some_iff.1 h
        refine runH 1 [] [0, 4, 5, 6, 59, 64, 69, 70] [] (mkS 91 [(0, .ptr 0 0), (4, .ptr 1 0), (5, .ptr 2 0), (6, .int .i64 i_20), (59, .int .i64 r_27.1), (64, (A_api_Span r_29.1)), (69, (A_api_Span r_31.1)), (70, .ptr 0 0)]) (⟨[(C_bk_Drum r_31.2), [.int .i64 0, .int .i64 0, .int .i64 0, .int .i64 0, .int .i64 0, .int .i64 0, .int .i64 0, .int .i64 0, .nils], [.int .i64 r_4.1, .int .i64 r_5.1, .int .i64 r_11.1, .int .i64 r_12.1, .int .i64 r_7.1, .int .i64 r_9.1, .int .i64 r_13.1, .int .i64 r_10.1, .sl (b_22.map A_api_Load) (some 0)]], [(b_22.length, 7), (2, 1), (2, 1)]⟩) (by kernel_rfl) trivial ?_
        refine ExO.callL [0] [.ptr 0 0, .int .i64 1, .int .i64 4] rfl rfl (by simp; try rfl) rfl (by simp) (d_bk_Drum_Mid N r_31.2 1 4 r_32 hr_32) (b_bk_Drum_Mid _ _ _ _) (by simp) ?_
        refine runH 3 [] [0, 4, 5, 6, 7] [] (mkS 91 [(0, .ptr 0 0), (4, .ptr 1 0), (5, .ptr 2 0), (6, .int .i64 i_20), (7, .ptr 3 0)]) (⟨[(C_bk_Drum r_32.2), [.int .i64 0, .int .i64 0, .int .i64 0, .int .i64 0, .int .i64 0, .int .i64 0, .int .i64 0, .int .i64 0, .nils], [.int .i64 r_4.1, .int .i64 r_5.1, .int .i64 r_11.1, .int .i64 r_12.1, .int .i64 r_7.1, .int .i64 r_9.1, .int .i64 r_13.1, .int .i64 r_10.1, .sl (b_22.map A_api_Load) (some 0)], [.int .i64 r_27.1, .int .i64 r_29.1.Lo, .int .i64 r_29.1.Hi, .int .i64 r_31.1.Lo, .int .i64 r_31.1.Hi, .int .i64 r_32.1, .int .i64 0]], [(b_22.length, 7), (2, 1), (2, 1)]⟩) (by kernel_rfl) trivial ?_
        refine ExO.nil ?_
        obtain ⟨K_36, hK_37, h⟩ := letE h
        refine Ex.seqJ (fun a S => ∃ (b_33 : Int), ∃ (b_34 : Int), K_36 b_33 b_34 = some r ∧ a = mkS 91 [(0, .ptr 0 0), (4, .ptr 1 0), (5, .ptr 2 0), (6, .int .i64 i_20), (7, .ptr 3 0)] ∧ S = ⟨[[.int .u64 b_33], [.int .i64 0, .int .i64 0, .int .i64 0, .int .i64 0, .int .i64 0, .int .i64 0, .int .i64 0, .int .i64 0, .nils], [.int .i64 r_4.1, .int .i64 r_5.1, .int .i64 r_11.1, .int .i64 r_12.1, .int .i64 r_7.1, .int .i64 r_9.1, .int .i64 r_13.1, .int .i64 r_10.1, .sl (b_22.map A_api_Load) (some 0)], [.int .i64 r_27.1, .int .i64 r_29.1.Lo, .int .i64 r_29.1.Hi, .int .i64 r_31.1.Lo, .int .i64 r_31.1.Hi, .int .i64 r_32.1, .int .i64 b_34]], [(b_22.length, 7)]⟩) ?_ ?_
        · obtain ⟨K_40, hK_41, h⟩ := letE h
          refine Ex.seqJ (fun a S => ∃ (y_38 : Bool), K_40 y_38 = some r ∧ a = mkS 91 [(0, .ptr 0 0), (4, .ptr 1 0), (5, .ptr 2 0), (6, .int .i64 i_20), (7, .ptr 3 0), (80, .bool y_38)] ∧ S = ⟨[(C_bk_Drum r_32.2), [.int .i64 0, .int .i64 0, .int .i64 0, .int .i64 0, .int .i64 0, .int .i64 0, .int .i64 0, .int .i64 0, .nils], [.int .i64 r_4.1, .int .i64 r_5.1, .int .i64 r_11.1, .int .i64 r_12.1, .int .i64 r_7.1, .int .i64 r_9.1, .int .i64 r_13.1, .int .i64 r_10.1, .sl (b_22.map A_api_Load) (some 0)], [.int .i64 r_27.1, .int .i64 r_29.1.Lo, .int .i64 r_29.1.Hi, .int .i64 r_31.1.Lo, .int .i64 r_31.1.Hi, .int .i64 r_32.1, .int .i64 0]], [(b_22.length, 7)]⟩) ?_ ?_
          · rcases condI h with ⟨hc_42, h⟩ | ⟨hc_42, h⟩
            · refine regH 8 [(3, .eq (.bool true))] [0, 4, 5, 6, 7, 80] [AV.bool (r_32.1 == 2) = AV.bool true] (mkS 91 [(0, .ptr 0 0), (4, .ptr 1 0), (5, .ptr 2 0), (6, .int .i64 i_20), (7, .ptr 3 0), (80, .bool true)]) (⟨[(C_bk_Drum r_32.2), [.int .i64 0, .int .i64 0, .int .i64 0, .int .i64 0, .int .i64 0, .int .i64 0, .int .i64 0, .int .i64 0, .nils], [.int .i64 r_4.1, .int .i64 r_5.1, .int .i64 r_11.1, .int .i64 r_12.1, .int .i64 r_7.1, .int .i64 r_9.1, .int .i64 r_13.1, .int .i64 r_10.1, .sl (b_22.map A_api_Load) (some 0)], [.int .i64 r_27.1, .int .i64 r_29.1.Lo, .int .i64 r_29.1.Hi, .int .i64 r_31.1.Lo, .int .i64 r_31.1.Hi, .int .i64 r_32.1, .int .i64 0]], [(b_22.length, 7), (2, 1), (2, 1)]⟩) (by kernel_rfl) ⟨congrArg AV.bool hc_42, trivial⟩ rfl ?_
              (try simp only [reduceCtorEq, AEx.ex.injEq, Nat.reduceEqDiff, if_true, if_false])
              exact ⟨_, _, forgetA (m := 91) 4 [0] [(0, .ptr 0 0), (4, .ptr 1 0), (5, .ptr 2 0), (6, .int .i64 i_20), (7, .ptr 3 0), (80, .bool true)] [(C_bk_Drum r_32.2), [.int .i64 0, .int .i64 0, .int .i64 0, .int .i64 0, .int .i64 0, .int .i64 0, .int .i64 0, .int .i64 0, .nils], [.int .i64 r_4.1, .int .i64 r_5.1, .int .i64 r_11.1, .int .i64 r_12.1, .int .i64 r_7.1, .int .i64 r_9.1, .int .i64 r_13.1, .int .i64 r_10.1, .sl (b_22.map A_api_Load) (some 0)], [.int .i64 r_27.1, .int .i64 r_29.1.Lo, .int .i64 r_29.1.Hi, .int .i64 r_31.1.Lo, .int .i64 r_31.1.Hi, .int .i64 r_32.1, .int .i64 0]] [(b_22.length, 7)] (by simp) (by simp) ⟨rfl, rfl, rfl, rfl, rfl, rfl, trivial⟩ (by simp) rfl (by decide), true, h, rfl, rfl⟩
            · refine regH 8 [(3, .eq (.bool false))] [0, 4, 5, 6, 7, 80] [AV.bool (r_32.1 == 2) = AV.bool false] (mkS 91 [(0, .ptr 0 0), (4, .ptr 1 0), (5, .ptr 2 0), (6, .int .i64 i_20), (7, .ptr 3 0), (80, .bool (r_32.1 == 3))]) (⟨[(C_bk_Drum r_32.2), [.int .i64 0, .int .i64 0, .int .i64 0, .int .i64 0, .int .i64 0, .int .i64 0, .int .i64 0, .int .i64 0, .nils], [.int .i64 r_4.1, .int .i64 r_5.1, .int .i64 r_11.1, .int .i64 r_12.1, .int .i64 r_7.1, .int .i64 r_9.1, .int .i64 r_13.1, .int .i64 r_10.1, .sl (b_22.map A_api_Load) (some 0)], [.int .i64 r_27.1, .int .i64 r_29.1.Lo, .int .i64 r_29.1.Hi, .int .i64 r_31.1.Lo, .int .i64 r_31.1.Hi, .int .i64 r_32.1, .int .i64 0]], [(b_22.length, 7), (2, 1), (2, 1)]⟩) (by kernel_rfl) ⟨congrArg AV.bool hc_42, trivial⟩ rfl ?_
              (try simp only [reduceCtorEq, AEx.ex.injEq, Nat.reduceEqDiff, if_true, if_false])
              exact ⟨_, _, forgetA (m := 91) 4 [0] [(0, .ptr 0 0), (4, .ptr 1 0), (5, .ptr 2 0), (6, .int .i64 i_20), (7, .ptr 3 0), (80, .bool (r_32.1 == 3))] [(C_bk_Drum r_32.2), [.int .i64 0, .int .i64 0, .int .i64 0, .int .i64 0, .int .i64 0, .int .i64 0, .int .i64 0, .int .i64 0, .nils], [.int .i64 r_4.1, .int .i64 r_5.1, .int .i64 r_11.1, .int .i64 r_12.1, .int .i64 r_7.1, .int .i64 r_9.1, .int .i64 r_13.1, .int .i64 r_10.1, .sl (b_22.map A_api_Load) (some 0)], [.int .i64 r_27.1, .int .i64 r_29.1.Lo, .int .i64 r_29.1.Hi, .int .i64 r_31.1.Lo, .int .i64 r_31.1.Hi, .int .i64 r_32.1, .int .i64 0]] [(b_22.length, 7)] (by simp) (by simp) ⟨rfl, rfl, rfl, rfl, rfl, rfl, trivial⟩ (by simp) rfl (by decide), (r_32.1 == 3), h, rfl, rfl⟩
          · rintro a S ⟨y_38, h, rfl, rfl⟩
            subst hK_41
            rcases condI h with ⟨hc_43, h⟩ | ⟨hc_43, h⟩
            · refine Ex.condT _ rfl hc_43 ?_
              obtain ⟨r_44, hr_44, h⟩ := Option.bind_eq_some_iff.1 h
              refine Ex.reg ?_
              refine runH 1 [] [0, 4, 5, 6, 7, 81] [] (mkS 91 [(0, .ptr 0 0), (4, .ptr 1 0), (5, .ptr 2 0), (6, .int .i64 i_20), (7, .ptr 3 0), (81, .ptr 0 0)]) (⟨[(C_bk_Drum r_32.2), [.int .i64 0, .int .i64 0, .int .i64 0, .int .i64 0, .int .i64 0, .int .i64 0, .int .i64 0, .int .i64 0, .nils], [.int .i64 r_4.1, .int .i64 r_5.1, .int .i64 r_11.1, .int .i64 r_12.1, .int .i64 r_7.1, .int .i64 r_9.1, .int .i64 r_13.1, .int .i64 r_10.1, .sl (b_22.map A_api_Load) (some 0)], [.int .i64 r_27.1, .int .i64 r_29.1.Lo, .int .i64 r_29.1.Hi, .int .i64 r_31.1.Lo, .int .i64 r_31.1.Hi, .int .i64 r_32.1, .int .i64 0]], [(b_22.length, 7)]⟩) (by kernel_rfl) trivial ?_
              refine ExO.callL [0] [.ptr 0 0, .int .i64 3000] rfl rfl (by simp; try rfl) rfl (by simp) (d_bk_Drum_Roll N r_32.2 3000 r_44 hr_44) (b_bk_Drum_Roll _ _ _ _) (by simp) ?_
              refine runH 2 [] [0, 4, 5, 6, 7] [] (mkS 91 [(0, .ptr 0 0), (4, .ptr 1 0), (5, .ptr 2 0), (6, .int .i64 i_20), (7, .ptr 3 0)]) (⟨[(C_bk_Drum r_44.2), [.int .i64 0, .int .i64 0, .int .i64 0, .int .i64 0, .int .i64 0, .int .i64 0, .int .i64 0, .int .i64 0, .nils], [.int .i64 r_4.1, .int .i64 r_5.1, .int .i64 r_11.1, .int .i64 r_12.1, .int .i64 r_7.1, .int .i64 r_9.1, .int .i64 r_13.1, .int .i64 r_10.1, .sl (b_22.map A_api_Load) (some 0)], [.int .i64 r_27.1, .int .i64 r_29.1.Lo, .int .i64 r_29.1.Hi, .int .i64 r_31.1.Lo, .int .i64 r_31.1.Hi, .int .i64 r_32.1, .int .i64 r_44.1]], [(b_22.length, 7)]⟩) (by kernel_rfl) trivial ?_
              refine ExO.nil ?_
              (try simp only [reduceCtorEq, AEx.ex.injEq, Nat.reduceEqDiff, if_true, if_false])
              exact ⟨_, _, Forgets.refl _ _ _, r_44.2.beat_, r_44.1, h, rfl, rfl⟩
            · refine Ex.condF _ rfl hc_43 ?_
              refine Ex.skip ?_
              (try simp only [reduceCtorEq, AEx.ex.injEq, Nat.reduceEqDiff, if_true, if_false])
              exact ⟨_, _, forgetK [0, 4, 5, 6, 7], r_32.2.beat_, 0, h, rfl, rfl⟩
        · rintro a S ⟨b_33, b_34, h, rfl, rfl⟩
          subst hK_37
          obtain ⟨l_45, hl_45, h⟩ := Option.bind_eq_some_iff.1 h
          refine regH 7 [(4, .app (l_45.map A_api_Load) l_45.length)] [0, 4, 5, 6] [LApp b_22.length (b_22.map A_api_Load) (([(⟨r_27.1, r_29.1, r_31.1, r_32.1, b_34⟩ : T_api_Load)] : List T_api_Load).map A_api_Load) 7 (l_45.map A_api_Load) l_45.length] (mkS 91 [(0, .ptr 0 0), (4, .ptr 1 0), (5, .ptr 2 0), (6, .int .i64 i_20)]) (⟨[[.int .u64 b_33], [.int .i64 0, .int .i64 0, .int .i64 0, .int .i64 0, .int .i64 0, .int .i64 0, .int .i64 0, .int .i64 0, .nils], [.int .i64 r_4.1, .int .i64 r_5.1, .int .i64 r_11.1, .int .i64 r_12.1, .int .i64 r_7.1, .int .i64 r_9.1, .int .i64 r_13.1, .int .i64 r_10.1, .sl (l_45.map A_api_Load) (some 0)], [.int .i64 r_27.1, .int .i64 r_29.1.Lo, .int .i64 r_29.1.Hi, .int .i64 r_31.1.Lo, .int .i64 r_31.1.Hi, .int .i64 r_32.1, .int .i64 b_34]], [(l_45.length, 7), (1, 7)]⟩) (by kernel_rfl) ⟨LApp.of hl_45 (fun _ => rfl), trivial⟩ rfl ?_
          refine regH 3 [] [0, 4, 5, 6] [] (mkS 91 [(0, .ptr 0 0), (4, .ptr 1 0), (5, .ptr 2 0), (6, .int .i64 (IntKind.i64.wrap (i_20 - 1)))]) (⟨[[.int .u64 b_33], [.int .i64 0, .int .i64 0, .int .i64 0, .int .i64 0, .int .i64 0, .int .i64 0, .int .i64 0, .int .i64 0, .nils], [.int .i64 r_4.1, .int .i64 r_5.1, .int .i64 r_11.1, .int .i64 r_12.1, .int .i64 r_7.1, .int .i64 r_9.1, .int .i64 r_13.1, .int .i64 r_10.1, .sl (l_45.map A_api_Load) (some 0)], [.int .i64 r_27.1, .int .i64 r_29.1.Lo, .int .i64 r_29.1.Hi, .int .i64 r_31.1.Lo, .int .i64 r_31.1.Hi, .int .i64 r_32.1, .int .i64 b_34]], [(l_45.length, 7), (1, 7)]⟩) (by kernel_rfl) trivial rfl ?_
          dsimp only
          exact ⟨_, _, forgetA (m := 91) 3 [0] [(0, .ptr 0 0), (4, .ptr 1 0), (5, .ptr 2 0), (6, .int .i64 (IntKind.i64.wrap (i_20 - 1)))] [[.int .u64 b_33], [.int .i64 0, .int .i64 0, .int .i64 0, .int .i64 0, .int .i64 0, .int .i64 0, .int .i64 0, .int .i64 0, .nils], [.int .i64 r_4.1, .int .i64 r_5.1, .int .i64 r_11.1, .int .i64 r_12.1, .int .i64 r_7.1, .int .i64 r_9.1, .int .i64 r_13.1, .int .i64 r_10.1, .sl (l_45.map A_api_Load) (some 0)]] [(l_45.length, 7)] (by simp) (by simp) ⟨rfl, rfl, rfl, rfl, trivial⟩ (by simp) rfl (by decide), k, Nat.lt_succ_self k, (IntKind.i64.wrap (i_20 - 1)), b_33, l_45, h, rfl, rfl⟩
      · refine Ex.condF _ rfl hc_26 ?_
        refine Ex.exit ?_
        (try simp only [reduceCtorEq, AEx.ex.injEq, Nat.reduceEqDiff, if_true, if_false])
        exact ⟨_, _, forgetK [4, 5], b_21, b_22, h, rfl, rfl⟩
  · rintro a S ⟨b_15, b_16, h, rfl, rfl⟩
    subst hK_19
    refine Ex.seq ?_
    refine regH 2 [] [4] [] (mkS 91 [(4, .ptr 1 0)]) (⟨[[.int .u64 b_15], [.int .i64 r_4.1, .int .i64 r_5.1, .int .i64 r_11.1, .int .i64 r_12.1, .int .i64 r_7.1, .int .i64 r_9.1, .int .i64 r_13.1, .int .i64 r_10.1, .sl (b_16.map A_api_Load) (some 0)], [.int .i64 r_4.1, .int .i64 r_5.1, .int .i64 r_11.1, .int .i64 r_12.1, .int .i64 r_7.1, .int .i64 r_9.1, .int .i64 r_13.1, .int .i64 r_10.1, .sl (b_16.map A_api_Load) (some 0)]], [(b_16.length, 7)]⟩) (by kernel_rfl) trivial rfl ?_
    refine Ex.ret ?_
    obtain rfl := Option.some.inj h
    exact ⟨.inr rfl, .agg [.int .i64 r_4.1, .int .i64 r_5.1, .int .i64 r_11.1, .int .i64 r_12.1, .int .i64 r_7.1, .int .i64 r_9.1, .int .i64 r_13.1, .int .i64 r_10.1, .sl (b_16.map A_api_Load) (some 0)], by kernel_rfl, by kernel_rfl, by kernel_rfl, by kernel_rfl⟩
def p_bk_OwnFloat (N : Nat) (f_1 : T_api_Float) : Option (T_api_Float) := ((pushI ([] : List T_api_Load) f_1.Loads).bind fun l_2 => some (⟨f_1.Length, f_1.Width, f_1.Front, f_1.Rear, f_1.Turn, f_1.Kilos, f_1.Middle, f_1.High, l_2⟩ : T_api_Float))
def v_bk_OwnFloat (r : T_api_Float) : AV := (A_api_Float r)
attribute [local simp] v_bk_OwnFloat
def v_br2_within (r : Bool) : AV := .bool r
attribute [local simp] v_br2_within
def v_br2_checkSpan (r : Int) : AV := .int .i64 r
attribute [local simp] v_br2_checkSpan
def v_br2_checkLoad (r : Int) : AV := .int .i64 r
attribute [local simp] v_br2_checkLoad
def v_br2_Check (r : Int) : AV := .int .i64 r
attribute [local simp] v_br2_Check
structure T_api_Near where
  Power : Int
  Fire : Int
  deriving Inhabited
def C_api_Near (x : T_api_Near) : List AV := [.int .i64 x.Power, .int .i64 x.Fire]
attribute [local simp] C_api_Near
def A_api_Near (x : T_api_Near) : AV := .agg (C_api_Near x)
attribute [local simp] A_api_Near
theorem KC_api_Near (x : T_api_Near) : cleanL (C_api_Near x) = true := by simp
theorem KA_api_Near (x : T_api_Near) : (A_api_Near x).clean = true := KC_api_Near x
theorem KL_api_Near (l : List T_api_Near) : cleanL (l.map A_api_Near) = true := cleanM KA_api_Near l
attribute [local simp] KL_api_Near
theorem KB_api_Near (x : T_api_Near) (n : Nat) (σ : List Nat) : (C_api_Near x).mapM (re n σ) = some (C_api_Near x) := by simp
attribute [local simp] KB_api_Near
def v_br2_Fire (r : (List T_api_Near) × Int × Int) : AV := .tup [.sl (r.1.map A_api_Near) none, .int .i64 r.2.1, .int .i64 r.2.2]
attribute [local simp] v_br2_Fire
def v_bk_EqFloats (r : Bool) : AV := .bool r
attribute [local simp] v_bk_EqFloats
def v_bk_EqNears (r : Bool) : AV := .bool r
attribute [local simp] v_bk_EqNears
end Go.Proofs.Ytfcjcjncfniclaa
end
section
namespace Go.Proofs.Ytfcjcjncfniclaa
open Go.RowKit
set_option linter.unusedVariables false
set_option linter.unusedSimpArgs false
set_option maxRecDepth 10000
set_option maxHeartbeats 4000000

structure LdOk (fr re : Int) (l : T_api_Load) : Prop where
  a1 : fr ≤ l.At
  a2 : l.At ≤ re
  k1 : 0 ≤ l.Kilos.Lo
  k2 : l.Kilos.Lo ≤ l.Kilos.Hi
  k3 : l.Kilos.Hi ≤ 100000
  t1 : 0 ≤ l.Top.Lo
  t2 : l.Top.Lo ≤ l.Top.Hi
  t3 : l.Top.Hi ≤ 2000
  d1 : 1 ≤ l.Kind
  d2 : l.Kind ≤ 4
  w1 : 0 ≤ l.Watts
  w2 : l.Watts ≤ 1000000
  w3 : l.Watts = 0 ∨ l.Kind = 2 ∨ l.Kind = 3
structure FlOk (f : T_api_Float) : Prop where
  l1 : 1 ≤ f.Length
  l2 : f.Length ≤ 3000
  w1 : 1 ≤ f.Width
  w2 : f.Width ≤ 1000
  f1 : 0 ≤ f.Front
  f2 : f.Front < f.Rear
  f3 : f.Rear ≤ f.Length
  t1 : 0 ≤ f.Turn
  t2 : f.Turn ≤ 20000
  k1 : 0 ≤ f.Kilos
  k2 : f.Kilos ≤ 100000
  m1 : 0 ≤ f.Middle
  m2 : f.Middle ≤ f.Length
  h1 : 0 ≤ f.High
  h2 : f.High ≤ 2000
  n : f.Loads.length ≤ 20
  all : ∀ l ∈ f.Loads, LdOk f.Front f.Rear l
structure FlMade (f : T_api_Float) (n : Int) : Prop where
  ok : FlOk f
  n : (f.Loads.length : Int) ≤ n
  k : f.Kilos ≤ 5000
  l : f.Length ≤ 1200
  a : ∀ l ∈ f.Loads, l.Kilos.Hi ≤ 900

theorem floatOf_p (N : Nat) (d : T_bk_Drum) (n : Int) (h0 : 0 ≤ n) (h1 : n ≤ 20) (hN : 30 < N) : ∃ f d', p_bk_FloatOf N d n = some (f, d') ∧ FlMade f n := by
  unfold p_bk_FloatOf
  obtain ⟨r3, d3, e, m3⟩ := any_p N d [20, 1200] (by simp) (by simp)
  rw [e, Option.bind_some]; clear e
  have m3 : r3 = 20 ∨ r3 = 1200 := by simpa using m3
  obtain ⟨r4, d4, e, a4, b4, _⟩ := mid_p N d3 2 r3 (by omega) (by omega) (by omega) (by omega)
  rw [e, Option.bind_some]; clear e
  have b4 := b4 (by omega)
  obtain ⟨r5, d5, e, a5, b5, _⟩ := mid_p N d4 1 400 (by omega) (by omega) (by omega) (by omega)
  rw [e, Option.bind_some]; clear e
  have b5 := b5 (by omega)
  obtain ⟨r6, d6, e, a6, _, b6⟩ := roll_p N d5 1500 (by omega)
  rw [e, Option.bind_some]; clear e
  have b6 := b6 (by omega)
  obtain ⟨r7, d7, e, m7⟩ := any_p N d6 [0, r6] (by simp) (by simp)
  rw [e, Option.bind_some]; clear e
  have m7 : r7 = 0 ∨ r7 = r6 := by simpa using m7
  obtain ⟨r8, d8, e, a8, _, b8⟩ := roll_p N d7 5000 (by omega)
  rw [e, Option.bind_some]; clear e
  have b8 := b8 (by omega)
  obtain ⟨r9, d9, e, m9⟩ := any_p N d8 [0, r8] (by simp) (by simp)
  rw [e, Option.bind_some]; clear e
  have m9 : r9 = 0 ∨ r9 = r8 := by simpa using m9
  obtain ⟨r10, d10, e, a10, _, b10⟩ := roll_p N d9 500 (by omega)
  rw [e, Option.bind_some]; clear e
  have b10 := b10 (by omega)
  obtain ⟨r11, d11, e, a11, c11, b11⟩ := roll_p N d10 r4 (by omega)
  rw [e, Option.bind_some]; clear e
  have b11 := b11 (by omega)
  show ∃ f d', ((p_bk_Drum_Mid N d11 (IntKind.i64.wrap (r11 + 1)) r4).bind _) = some (f, d') ∧ _
  rw [w64 (x := r11 + 1) (by omega) (by omega)]
  obtain ⟨r12, d12, e, a12, b12, _⟩ := mid_p N d11 (r11 + 1) r4 (by omega) (by omega) (by omega) (by omega)
  rw [e, Option.bind_some]; clear e
  have b12 := b12 (by omega)
  obtain ⟨r13, d13, e, a13, b13, _⟩ := mid_p N d12 0 r4 (by omega) (by omega) (by omega) (by omega)
  rw [e, Option.bind_some]; clear e
  have b13 := b13 (by omega)
  show ∃ f d', ((p_bk_Drum_Roll N d13 (IntKind.i64.wrap (n + 1))).bind _) = some (f, d') ∧ _
  rw [w64 (x := n + 1) (by omega) (by omega)]
  obtain ⟨r14, d14, e, a14, c14, b14⟩ := roll_p N d13 (n + 1) (by omega)
  rw [e, Option.bind_some, letJ_eq]; clear e
  have hr14 : r14 ≤ n := by
    by_cases hc : n + 1 < 2
    · have := c14 hc; omega
    · have := b14 (by omega); omega
  refine loop3_T (fun x => ∃ f d', x = some (f, d') ∧ FlMade f n) (fun i b ls => 0 ≤ i ∧ (ls.length : Int) + i ≤ n ∧ ∀ l ∈ ls, LdOk r11 r12 l ∧ l.Kilos.Hi ≤ 900) (fun i b ls => i.toNat) ?_ N r14 _ [] ⟨a14, by simpa using hr14, by simp⟩ (by omega)
  rintro rec i b ls ⟨hi0, hi1, hall⟩ ih
  by_cases hc : i > 0
  · rw [show decide (i > 0) = true from decide_eq_true hc, cond_true]
    obtain ⟨r27, d27, e, a27, b27, _⟩ := mid_p N ⟨b⟩ r11 r12 (by omega) (by omega) (by omega) (by omega)
    rw [e, Option.bind_some]; clear e
    have b27 := b27 (by omega)
    obtain ⟨r28, d28, e, m28⟩ := any_p N d27 [5, 900] (by simp) (by simp)
    rw [e, Option.bind_some]; clear e
    have m28 : r28 = 5 ∨ r28 = 900 := by simpa using m28
    obtain ⟨x29, d29, e, a29, b29, c29⟩ := span_p N d28 0 r28 (by omega) (by omega) (by omega)
    rw [e, Option.bind_some]; clear e
    obtain ⟨r30, d30, e, m30⟩ := any_p N d29 [20, 700] (by simp) (by simp)
    rw [e, Option.bind_some]; clear e
    have m30 : r30 = 20 ∨ r30 = 700 := by simpa using m30
    obtain ⟨x31, d31, e, a31, b31, c31⟩ := span_p N d30 0 r30 (by omega) (by omega) (by omega)
    rw [e, Option.bind_some]; clear e
    obtain ⟨r32, d32, e, a32, b32, _⟩ := mid_p N d31 1 4 (by omega) (by omega) (by omega) (by omega)
    rw [e, Option.bind_some]; clear e
    have b32 := b32 (by omega)
    have key : ∀ (b' wt : Int), 0 ≤ wt → wt ≤ 1000000 → (wt = 0 ∨ r32 = 2 ∨ r32 = 3) → ∃ f d', ((pushI ls ([(⟨r27, x29, x31, r32, wt⟩ : T_api_Load)] : List T_api_Load)).bind fun l_45 => (rec (IntKind.i64.wrap (i - 1)) b' l_45)) = some (f, d') ∧ FlMade f n := by
      intro b' wt g0 g1 g2
      rw [pushI_ok (by simp; omega), Option.bind_some, w64 (x := i - 1) (by omega) (by omega)]
      refine ih _ _ _ ⟨by omega, by simp; omega, ?_⟩ (by omega)
      intro l hl
      rcases List.mem_append.1 hl with hl | hl
      · exact hall l hl
      · have : l = ⟨r27, x29, x31, r32, wt⟩ := by simpa using hl
        subst this
        exact ⟨⟨a27, b27, a29, b29, by show x29.Hi ≤ 100000; omega, a31, b31, by show x31.Hi ≤ 2000; omega, a32, b32, g0, g1, g2⟩, by show x29.Hi ≤ 900; omega⟩
    rw [letJ_eq, letJ_eq]
    dsimp only
    by_cases h2 : r32 = 2
    · rw [show (r32 == 2) = true by simp [h2], cond_true, cond_true]
      obtain ⟨r44, d44, e, a44, _, b44⟩ := roll_p N d32 3000 (by omega)
      have b44 := b44 (by omega)
      rw [e, Option.bind_some]
      exact key _ _ a44 (by omega) (.inr (.inl h2))
    · rw [show (r32 == 2) = false by simp [h2], cond_false]
      by_cases h3 : r32 = 3
      · rw [show (r32 == 3) = true by simp [h3], cond_true]
        obtain ⟨r44, d44, e, a44, _, b44⟩ := roll_p N d32 3000 (by omega)
        have b44 := b44 (by omega)
        rw [e, Option.bind_some]
        exact key _ _ a44 (by omega) (.inr (.inr h3))
      · rw [show (r32 == 3) = false by simp [h3], cond_false]
        exact key _ _ (by omega) (by omega) (.inl rfl)
  · rw [show decide (i > 0) = false from decide_eq_false hc, cond_false]
    refine ⟨_, _, rfl, ⟨?_, ?_, ?_, ?_, ?_⟩⟩
    · exact ⟨by show 1 ≤ r4; omega, by show r4 ≤ 3000; omega, by show 1 ≤ r5; omega, by show r5 ≤ 1000; omega, by show 0 ≤ r11; omega, by show r11 < r12; omega, by show r12 ≤ r4; omega, by show 0 ≤ r7; omega, by show r7 ≤ 20000; omega, by show 0 ≤ r9; omega, by show r9 ≤ 100000; omega, by show 0 ≤ r13; omega, by show r13 ≤ r4; omega, by show 0 ≤ r10; omega, by show r10 ≤ 2000; omega, by show ls.length ≤ 20; omega, fun l hl => (hall l hl).1⟩
    · show (ls.length : Int) ≤ n; omega
    · show r9 ≤ 5000; omega
    · show r4 ≤ 1200; omega
    · exact fun l hl => (hall l hl).2
end Go.Proofs.Ytfcjcjncfniclaa
end
