/- Part 3 of what the law needs: own work, put together. -/
import Derived.Scope
import Derived.Laws.CopyRow
import Derived.Laws.IdiomCopy
import Derived.Test.YtkpihepaaiofgaaProg
import Derived.KernelRfl
import Derived.Test.YtkpihepaaiofgaaCoinPai1
section
namespace Go.Proofs.Ytkpihepaaiofgaa
open Go.RowKit
set_option linter.unusedVariables false
set_option linter.unusedSimpArgs false

theorem compOp_call {P : Program} {ty : TypeId} {op : Op} {f : AOpd} {args : List AOpd} (h : compOp P ty op = some (.call f args)) : ∃ sf sargs ts, op = .call { callee := .value sf, args := sargs, argTypes := ts } ∧ compOpd sf = some f ∧ compOpds sargs = some args := by
  unfold compOp at h
  split at h
  all_goals first
    | (rename_i sf sargs ts
       simp only [Option.bind_eq_bind, Option.bind_eq_some_iff, Option.pure_def, Option.some.injEq, AOp.call.injEq] at h
       obtain ⟨f', hf, as', has, rfl, rfl⟩ := h
       exact ⟨_, _, _, rfl, hf, has⟩)
    | (exfalso; cases h; done)
    | (exfalso; simp [Option.bind_eq_some_iff] at h; done)
    | skip
  all_goals (exfalso; revert h)
  all_goals (try (simp [Option.bind_eq_some_iff]; done))
  all_goals (repeat (first | (intro h; cases h; done) | split))
  all_goals (try (simp [Option.bind_eq_some_iff]; done))
  all_goals (try (repeat (first | (intro h; cases h; done) | split)))
  all_goals (try (intro h; simp [Option.bind_eq_some_iff] at h; done))
  all_goals (intro h; simp only [Option.bind_eq_bind, Option.bind_eq_some_iff, Option.pure_def, Option.map_eq_some_iff, Option.some.injEq, reduceCtorEq, and_false, exists_false] at h)
  all_goals (repeat' (first | (cases h; done) | (obtain ⟨_, _, h⟩ := h; try simp only [Option.bind_eq_bind, Option.bind_eq_some_iff, Option.pure_def, Option.map_eq_some_iff, Option.some.injEq, reduceCtorEq, and_false, exists_false] at h) | (simp [Option.bind_eq_some_iff] at h; done) | split at h))

theorem VR.inv_yld {G : Gh} {l t : Nat} {u : Value} (h : VR G (.yld l t) u) : u = .func (.yield l) #[] #[] := by cases h; rfl
theorem yield_run {P : Program} {G : Gh} {w : World} {o : Oper} {ρ : Operand → Value} {a : AOpd → AV} {sf : Operand} {sargs : Array Operand} {ts : Array TypeId} {f : AOpd} {args : List AOpd} {l t : Nat} {r : Loop} (ho : o.op = .call { callee := .value sf, args := sargs, argTypes := ts }) (hf : compOpd sf = some f) (ha : compOpds sargs = some args) (h : OpdOk G a ρ) (hv : a f = .yld l t) (hl : w.heap[l]? = some (.loop r)) (hs : r.params.size = args.length) :
    ∃ us : Array Value, (execOp ρ o).run P w = .ok (.round l r.fn ((r.params.zip us).foldl (fun tmps (t, a) => tmps.setIfInBounds t a) r.tmps) r.assign r.body) w ∧ us.size = args.length ∧ ∀ (i : Nat) x u, (args.map a)[i]? = some x → us[i]? = some u → VR G x u := by
  have h1 := h sf f hf
  rw [hv] at h1
  have hu := h1.inv_yld
  have hall := VL.opds ha h
  have hsz : (sargs.map ρ).size = args.length := by rw [hall.1, List.length_map]
  refine ⟨sargs.map ρ, ?_, hsz, hall.2⟩
  have hy := run_yield (P := P) (args := sargs.map ρ) hl (by rw [hsz, hs])
  simp only [execOp, ho, resolve, hu, Deferred.ofValue, invoke]
  simp [hy]

theorem zip_foldl (ps : Array Tmp) (us : Array Value) (t : Array Value) : (ps.zip us).foldl (fun tmps (t, a) => tmps.setIfInBounds t a) t = (ps.toList.zip us.toList).foldl (fun tmps (t, a) => tmps.setIfInBounds t a) t := by
  rw [← Array.foldl_toList, Array.toList_zip]

section rules
variable {c : Cx} {md : Md} {P : Program} {a : List AV} {S : St} {Q : AEx → List AV → St → Prop} {R : List AV → St → Prop}

theorem ExI.yield {L : Lp} {a0 : List AV} {ps : List Nat} {x0 y0 : ACode} (hL : LpOk P c L a0 ps x0 y0) {x : AOper} {l : List AOper} (f : AOpd) (args : List AOpd) (t : Nat) (xs : List AV) (hw : wantedA x.guard a = some true) (ho : x.op = .call f args) (hf : evd a f = .yld L.l t) (hxs : args.map (evd a) = xs) (hps : ps.length = xs.length) (hr : S.lv[L.t]? = some (0, 0)) (hn : c.n ≤ S.bx.length)
    (h : ∀ (ca cb : Cx), ca.n = S.bx.length → cb.n = S.bx.length → ca.m = S.lv.length → cb.m = S.lv.length → (∀ L' a' ps' x' y', LpOk P c L' a' ps' x' y' → L'.l ≠ L.l → LpOk P ca L' a' ps' x' y' ∧ LpOk P cb L' a' ps' x' y') → Fact.bz L ∈ cb.fs →
      Ex ca (.round L.l (md.n - 1)) P x0 (setPs a0 ps xs) S fun z a1 S1 => z = .norm ∧ S1.lv[L.t]? = some (0, 0) ∧
        Ex cb (.round L.l (md.n - 1)) P y0 a1 S1 fun z a2 S2 => match z with
          | .norm => ExI c md P l (putA a x.dst (.bool true)) S2 R
          | .ret => ExI c md P l (putA a x.dst (.bool false)) ⟨S2.bx, S2.lv.set L.t (1, 0)⟩ R
          | .ex i => ExI c md P l (putA a x.dst (.bool false)) ⟨S2.bx, S2.lv.set L.t (i + 2, 0)⟩ R) : ExI c md P (x :: l) a S R := by
  intro E hE ops l0 Q hco hdef hq act w hA
  obtain ⟨o, l', rfl, hx, hl'⟩ := mapM_cons_inv hco
  obtain ⟨h1, h2, _⟩ := compOper_ok hx
  obtain ⟨G, hI, hR, hg, hk, hd⟩ := hA
  have hgr := hg
  subst hE
  obtain ⟨f1, f2, hfs, hfree⟩ := hL.fs
  obtain ⟨G0, n0, m0, hle0, htz, htv⟩ := hL.rel
  have hmem : Fact.lp L ∈ E.c.fs := by rw [hfs]; simp
  have hlp := hd.x _ hmem
  obtain ⟨hnone, k, hk1, hk2⟩ := hlp
  rw [hr] at hk1
  cases hk1
  have hlt : L.t < E.c.m := E.c.hw _ hmem
  have hlk : L.l < E.c.k := E.c.hk _ hmem
  have hab : E.w.heap.size ≤ L.l := E.hW _ hmem
  have hG0 := (hd.x _ hle0).1
  obtain ⟨sf, sargs, ts, hop, hsf, hsa⟩ := compOp_call (ho ▸ h1)
  have hpl : L.r.params.size = args.length := by
    rw [← Array.length_toList, hL.ps, hps, ← hxs, List.length_map]
  have hk2' : w.heap[L.l]? = some (.loop { L.r with state := .ready, pending := none }) := hk2
  obtain ⟨us, hrun, husz, husv⟩ := yield_run (P := P) (w := w) hop hsf hsa hR.opd hf hk2' hpl
  simp only [wpListIn]
  rw [if_pos (wantedA_ok hx hR hw)]
  refine ⟨fun g _ => md.fn g, ?_⟩
  rw [Oper.semAt_eq _ _ _ (hdef o (by simp)), hrun, Oper.uponIn_round]
  refine ⟨fun hdp => md.depth hdp, ?_⟩
  rw [hxs] at husv
  have husl : us.toList.length = xs.length := by rw [Array.length_toList, husz, ← hxs, List.length_map]
  -- the two contexts
  have hwf : ∀ g ∈ E.c.fs, g.wf S.bx.length S.lv.length := fun g hg' => (E.c.hw g hg').mono hn hd.m
  have hdomA : ∀ b B, G.al b = some B → b < S.bx.length := fun b B h => (hI.dal b B h).1
  have hdomT : ∀ t k v, G.tb t k = some v → t < S.lv.length := fun t k v h => by
    obtain ⟨m, s, h1, _⟩ := hI.dtb t k v h
    exact (List.getElem?_eq_some_iff.1 h1).1
  let ca : Cx := ⟨S.bx.length, S.lv.length, w.heap.size, .le G S.bx.length S.lv.length :: .df E.b w.heap.size E.d act.defers :: E.c.fs, fun g hg' => (by
    rcases List.mem_cons.1 hg' with rfl | hg'
    · exact ⟨Nat.le_refl _, Nat.le_refl _⟩
    rcases List.mem_cons.1 hg' with rfl | hg'
    · trivial
    · exact hwf g hg'), fun g hg' => (by
    rcases List.mem_cons.1 hg' with rfl | hg'
    · trivial
    rcases List.mem_cons.1 hg' with rfl | hg'
    · exact Nat.le_refl _
    · exact (E.c.hk g hg').mono hd.k)⟩
  let cb : Cx := ⟨S.bx.length, S.lv.length, w.heap.size, .le G S.bx.length S.lv.length :: .df E.b w.heap.size E.d act.defers :: (f1 ++ .bz L :: f2), fun g hg' => (by
    rcases List.mem_cons.1 hg' with rfl | hg'
    · exact ⟨Nat.le_refl _, Nat.le_refl _⟩
    rcases List.mem_cons.1 hg' with rfl | hg'
    · trivial
    · rcases List.mem_append.1 hg' with hg' | hg'
      · exact hwf g (by rw [hfs]; simp [hg'])
      · rcases List.mem_cons.1 hg' with rfl | hg'
        · exact (show L.t < S.lv.length from hwf (.lp L) hmem)
        · exact hwf g (by rw [hfs]; simp [hg'])), fun g hg' => (by
    rcases List.mem_cons.1 hg' with rfl | hg'
    · trivial
    rcases List.mem_cons.1 hg' with rfl | hg'
    · exact Nat.le_refl _
    · rcases List.mem_append.1 hg' with hg' | hg'
      · exact (E.c.hk g (by rw [hfs]; simp [hg'])).mono hd.k
      · rcases List.mem_cons.1 hg' with rfl | hg'
        · exact Nat.lt_of_lt_of_le hlk hd.k
        · exact (E.c.hk g (by rw [hfs]; simp [hg'])).mono hd.k)⟩
  have hup : ∀ L' a' ps' x' y', LpOk P E.c L' a' ps' x' y' → L'.l ≠ L.l → LpOk P ca L' a' ps' x' y' ∧ LpOk P cb L' a' ps' x' y' := by
    intro L' a' ps' x' y' hL' hne
    obtain ⟨g1, g2, hgs, hgf⟩ := hL'.fs
    obtain ⟨G', n', m', hle', h3, h4⟩ := hL'.rel
    refine ⟨⟨⟨.le G S.bx.length S.lv.length :: .df E.b w.heap.size E.d act.defers :: g1, g2, by show _ :: _ :: E.c.fs = _; rw [hgs]; rfl, fun g hg' => ?_⟩, ⟨G', n', m', List.mem_cons_of_mem _ (List.mem_cons_of_mem _ hle'), h3, h4⟩, hL'.ps, hL'.x, hL'.y⟩, ⟨?_, ⟨G', n', m', ?_, h3, h4⟩, hL'.ps, hL'.x, hL'.y⟩⟩
    · rcases List.mem_cons.1 hg' with rfl | hg'
      · trivial
      rcases List.mem_cons.1 hg' with rfl | hg'
      · trivial
      · exact hgf g hg'
    · -- L' among the others
      have hin : Fact.lp L' ∈ f1 ++ f2 := by
        have : Fact.lp L' ∈ E.c.fs := by rw [hgs]; simp
        rw [hfs] at this
        rcases List.mem_append.1 this with h | h
        · exact List.mem_append_left _ h
        · rcases List.mem_cons.1 h with h | h
          · cases h; exact absurd rfl hne
          · exact List.mem_append_right _ h
      have hfL := hfree _ hin
      have hothers : ∀ g ∈ f1 ++ .bz L :: f2, g ≠ .lp L' → g.free L'.l L'.t := by
        intro g hg' hne'
        have hgE : g = .bz L ∨ g ∈ E.c.fs := by
          rcases List.mem_append.1 hg' with h | h
          · exact .inr (by rw [hfs]; simp [h])
          · rcases List.mem_cons.1 h with h | h
            · exact .inl h
            · exact .inr (by rw [hfs]; simp [h])
        rcases hgE with rfl | hgE
        · exact ⟨fun e => hfL.1 e.symm, fun e => hfL.2 e.symm⟩
        · rw [hgs] at hgE
          rcases List.mem_append.1 hgE with h | h
          · exact hgf g (List.mem_append_left _ h)
          · rcases List.mem_cons.1 h with h | h
            · exact absurd h hne'
            · exact hgf g (List.mem_append_right _ h)
      -- it stands there once
      have honce : ∃ h1 h2, f1 ++ .bz L :: f2 = h1 ++ .lp L' :: h2 ∧ ∀ g ∈ h1 ++ h2, g ≠ .lp L' := by
        have hE1 : ∀ u v, f1 ++ .lp L :: f2 = u ++ v → True := fun _ _ _ => trivial
        have hg12 : ∀ g ∈ g1 ++ g2, g ≠ .lp L' := fun g hg' e => by
          have := hgf g hg'; rw [e] at this; exact this.1 rfl
        have heq : f1 ++ .lp L :: f2 = g1 ++ .lp L' :: g2 := by rw [← hfs, hgs]
        rcases List.append_eq_append_iff.1 heq with ⟨m, e1, e2⟩ | ⟨m, e1, e2⟩
        · cases m with
          | nil =>
            simp at e2
            exact absurd (by rw [e2.1]) hne
          | cons q m =>
            simp only [List.cons_append, List.cons.injEq] at e2
            obtain ⟨rfl, e2⟩ := e2
            refine ⟨f1 ++ .bz L :: m, g2, by rw [e2]; simp, fun g hg' => ?_⟩
            simp only [List.mem_append, List.mem_cons] at hg'
            rcases hg' with (hg' | rfl | hg') | hg'
            · exact hg12 g (by rw [e1]; simp [hg'])
            · simp
            · exact hg12 g (by rw [e1]; simp [hg'])
            · exact hg12 g (by simp [hg'])
        · cases m with
          | nil =>
            simp at e2
            exact absurd (by rw [← e2.1]) hne
          | cons q m =>
            simp only [List.cons_append, List.cons.injEq] at e2
            obtain ⟨rfl, e2⟩ := e2
            refine ⟨g1, m ++ .bz L :: f2, by rw [e1]; simp, fun g hg' => ?_⟩
            simp only [List.mem_append, List.mem_cons] at hg'
            rcases hg' with hg' | hg' | rfl | hg'
            · exact hg12 g (by simp [hg'])
            · exact hg12 g (by rw [e2]; simp [hg'])
            · simp
            · exact hg12 g (by rw [e2]; simp [hg'])
      obtain ⟨h1, h2, e1, e2⟩ := honce
      refine ⟨.le G S.bx.length S.lv.length :: .df E.b w.heap.size E.d act.defers :: h1, h2, by show _ :: _ :: (f1 ++ .bz L :: f2) = _; rw [e1]; rfl, fun g hg' => ?_⟩
      rcases List.mem_cons.1 hg' with rfl | hg'
      · trivial
      rcases List.mem_cons.1 hg' with rfl | hg'
      · trivial
      · refine hothers g (by rw [e1]; rcases List.mem_append.1 hg' with h | h <;> simp [h]) (e2 g hg')
    · rw [hfs] at hle'
      rcases List.mem_append.1 hle' with h | h
      · exact List.mem_cons_of_mem _ (List.mem_cons_of_mem _ (List.mem_append_left _ h))
      · rcases List.mem_cons.1 h with h | h
        · cases h
        · exact List.mem_cons_of_mem _ (List.mem_cons_of_mem _ (List.mem_append_right _ (List.mem_cons_of_mem _ h)))
  have hEx := h ca cb rfl rfl rfl rfl hup (by show _ ∈ _ :: _ :: (f1 ++ .bz L :: f2); simp)
  -- the assignments
  let Ea : Ent := ⟨E.G, E.S, E.w, [], E.inv, E.lv, ca, Nat.le_trans hk.bl (Nat.le_refl _), fun g hg' => (by
    rcases List.mem_cons.1 hg' with rfl | hg'
    · trivial
    rcases List.mem_cons.1 hg' with rfl | hg'
    · trivial
    · exact E.hW g hg'), w.heap.size, hgr.size⟩
  let Eb : Ent := ⟨E.G, E.S, E.w, [], E.inv, E.lv, cb, Nat.le_trans hk.bl (Nat.le_refl _), fun g hg' => (by
    rcases List.mem_cons.1 hg' with rfl | hg'
    · trivial
    rcases List.mem_cons.1 hg' with rfl | hg'
    · trivial
    · rcases List.mem_append.1 hg' with hg' | hg'
      · exact E.hW g (by rw [hfs]; simp [hg'])
      · rcases List.mem_cons.1 hg' with rfl | hg'
        · exact hab
        · exact E.hW g (by rw [hfs]; simp [hg'])), w.heap.size, hgr.size⟩
  obtain ⟨hps1, hps2⟩ := setPs_rel ps xs us.toList a0 L.r.tmps husl (fun i x u h1 h2 => husv i x u h1 (by simpa using h2)) htz (fun i z u h1 h2 => (htv i z u h1 h2).mono hG0)
  have hAa : At Ea (setPs a0 ps xs) S { tmps := (ps.zip us.toList).foldl (fun t (p, v) => t.setIfInBounds p v) L.r.tmps, defers := [] } w := by
    refine ⟨G, hI, ⟨hps1, hps2⟩, hg, hk, ⟨⟨[], rfl, .nil, fun _ h => (by cases h)⟩, fun g hg' => ?_, Nat.le_refl _, Nat.le_refl _, Nat.le_refl _⟩⟩
    rcases List.mem_cons.1 hg' with rfl | hg'
    · exact ⟨.refl G, hdomA, hdomT⟩
    rcases List.mem_cons.1 hg' with rfl | hg'
    · exact hd.d
    · exact hd.x g hg'
  refine roundIn_of_wpIn (md.fn _) ?_
  have hz : (L.r.params.zip us).foldl (fun (t : Array Value) (p : Tmp × Value) => t.setIfInBounds p.1 p.2) L.r.tmps = (ps.zip us.toList).foldl (fun t p => t.setIfInBounds p.1 p.2) L.r.tmps := by
    rw [← hL.ps]; exact zip_foldl L.r.params us L.r.tmps
  have hfr : md.F.inRound L.l = Fence.wide.inRound L.l := by cases md <;> rfl
  rw [hfr]
  have hasg := hEx Ea rfl L.r.assign hL.x _ w hAa
  simp only [cwp] at hasg
  change Code.wpIn (Fence.wide.inRound L.l) (md.n - 1) P L.r.assign _ { tmps := (L.r.params.zip us).foldl (fun (t : Array Value) (p : Tmp × Value) => t.setIfInBounds p.1 p.2) L.r.tmps, defers := [] } w
  rw [hz]
  refine wpIn_mono hasg ?_
  rintro e act1 w1 ⟨z, a1, S1, rfl, ⟨rfl, hfl1, hbody⟩, G1, hI1, hR1, hg1, hk1', hd1⟩
  have hf1 : ∀ g ∈ ca.fs, g.ok G1 S1 w1 := hd1.x
  obtain ⟨hn1, k1, hk11, hk12⟩ := hf1 (.lp L) (List.mem_cons_of_mem _ (List.mem_cons_of_mem _ hmem))
  rw [hfl1] at hk11
  cases hk11
  have hk12 : w1.heap[L.l]? = some (.loop { L.r with state := .ready, pending := none }) := hk12
  refine ⟨w1.putObj L.l L.busy, run_beginRound hk12 rfl, ?_⟩
  have hlt1 : L.l < w1.heap.size := (Array.getElem?_eq_some_iff.1 hk12).1
  have hAb : At Eb a1 S1 act1 (w1.putObj L.l L.busy) := by
    refine ⟨G1, hI1.putObj _ hk12 rfl, hR1, hg1.putObj _ hab, hk1', ⟨?_, fun g hg' => ?_, hd1.m, ?_, ?_⟩⟩
    · refine DefOk.mono (Fact.other (f := .df w.heap.size w1.heap.size [] act1.defers) (S := S1) (G := G1) L.busy hd1.d hk12 trivial) ?_
      simp [World.putObj]
    · rcases List.mem_cons.1 hg' with rfl | hg'
      · exact hf1 _ (List.mem_cons_self ..)
      rcases List.mem_cons.1 hg' with rfl | hg'
      · exact Fact.other L.busy (hf1 _ (List.mem_cons_of_mem _ (List.mem_cons_self ..))) hk12 trivial
      have hoth : ∀ g ∈ f1 ++ f2, g.ok G1 S1 (w1.putObj L.l L.busy) := fun g hg' => by
        have hgE : g ∈ E.c.fs := by
          rw [hfs]
          rcases List.mem_append.1 hg' with h | h <;> simp [h]
        refine Fact.other L.busy (hf1 g (List.mem_cons_of_mem _ (List.mem_cons_of_mem _ hgE))) hk12 ?_
        have := hfree g hg'
        cases g <;> first | trivial | exact this.1
      rcases List.mem_append.1 hg' with hg' | hg'
      · exact hoth g (List.mem_append_left _ hg')
      · rcases List.mem_cons.1 hg' with rfl | hg'
        · exact ⟨hn1, hfl1, World.putObj_heap_same hlt1⟩
        · exact hoth g (List.mem_append_right _ hg')
    · show w.heap.size ≤ _
      have := hd1.k
      simp only [World.putObj, Array.size_setIfInBounds]
      exact this
    · have := hd1.b
      simp only [World.putObj, Array.size_setIfInBounds]
      exact this
  have hbod := hbody Eb rfl L.r.body hL.y act1 _ hAb
  simp only [cwp] at hbod
  refine wpIn_mono hbod ?_
  rintro e act2 w3 ⟨z, a2, S2, rfl, hz, G2, hI2, hR2, hg2, hk2', hd2⟩
  have hf2 : ∀ g ∈ cb.fs, g.ok G2 S2 w3 := hd2.x
  obtain ⟨hn2, hfl2, hbz⟩ := hf2 (.bz L) (by show _ ∈ _ :: _ :: (f1 ++ .bz L :: f2); simp)
  have hle2 : G.le G2 := (hf2 _ (List.mem_cons_self ..)).1
  have hdf2 : DefOk E.b w.heap.size E.d act.defers w3 := hf2 _ (List.mem_cons_of_mem _ (List.mem_cons_self ..))
  have hlt3 : L.l < w3.heap.size := (Array.getElem?_eq_some_iff.1 hbz).1
  have htl : L.t < S2.lv.length := (List.getElem?_eq_some_iff.1 hfl2).1
  have fin : ∀ (k : Nat) (b : Bool), At E (putA a x.dst (.bool b)) ⟨S2.bx, S2.lv.set L.t (k, 0)⟩ (act.put o.dst (.bool b)) (w3.putObj L.l (L.obj k)) := by
    intro k b
    refine ⟨G2, (hI2.putObj _ hbz rfl).flag _ hn2, h2 ▸ (hR.mono hle2).put x.dst (.bool b), (hg2.putObj _ hab).flag _ hn2, ⟨hk2'.bl, by rw [E.lv]; exact Nat.zero_le _, hk2'.al, hk2'.tb, fun t ht => absurd ht (E.tb0 t)⟩, ⟨?_, fun g hg' => ?_, ?_, ?_, ?_⟩⟩
    · have hd' : DefOk E.b w.heap.size E.d act.defers (w3.putObj L.l (L.obj k)) := Fact.other (f := .df E.b w.heap.size E.d act.defers) (S := S2) (G := G2) (L.obj k) hdf2 hbz trivial
      have hsz : w.heap.size ≤ (w3.putObj L.l (L.obj k)).heap.size := by
        have := hd2.b
        simp only [World.putObj, Array.size_setIfInBounds]
        exact this
      cases o.dst <;> exact hd'.mono hsz
    · have hoth : ∀ g ∈ f1 ++ f2, g.ok G2 ⟨S2.bx, S2.lv.set L.t (k, 0)⟩ (w3.putObj L.l (L.obj k)) := fun g hg' => by
        have hin : g ∈ cb.fs := by
          show g ∈ _ :: _ :: (f1 ++ .bz L :: f2)
          rcases List.mem_append.1 hg' with h | h <;> simp [h]
        have hfr := hfree g hg'
        refine Fact.flag _ (Fact.other (L.obj k) (hf2 g hin) hbz ?_) ?_
        · cases g <;> first | trivial | exact hfr.1
        · cases g <;> first | trivial | exact hfr.2
      rw [hfs] at hg'
      rcases List.mem_append.1 hg' with hg' | hg'
      · exact hoth g (List.mem_append_left _ hg')
      · rcases List.mem_cons.1 hg' with rfl | hg'
        · exact ⟨hn2, k, List.getElem?_set_self htl, World.putObj_heap_same hlt3⟩
        · exact hoth g (List.mem_append_right _ hg')
    · show E.c.m ≤ (S2.lv.set L.t (k, 0)).length
      rw [List.length_set]
      exact Nat.le_trans hd.m hd2.m
    · have := hd2.k
      simp only [World.putObj, Array.size_setIfInBounds]
      exact Nat.le_trans hd.k this
    · have := hd2.b
      simp only [World.putObj, Array.size_setIfInBounds]
      exact Nat.le_trans hd.b this
  have hset0 : S2.lv.set L.t (0, 0) = S2.lv := by
    apply List.ext_getElem?
    intro i
    rw [List.getElem?_set]
    split
    · rename_i hti
      subst hti
      first | rw [if_pos htl, hfl2] | rw [hfl2]
    · rfl
  have hdef' : ∀ o ∈ l', ∀ d, o.op ≠ .defer d := fun o ho => hdef o (List.mem_cons_of_mem _ ho)
  cases z with
  | norm =>
    refine ⟨.bool true, w3.putObj L.l (L.obj 0), run_endRound (r := { L.r with state := .busy, pending := none }) none hbz, ?_⟩
    have hA3 := fin 0 true
    rw [hset0] at hA3
    exact hz E rfl ops l' Q hl' hdef' hq _ _ hA3
  | ret =>
    refine ⟨.bool false, w3.putObj L.l (L.obj 1), run_endRound (r := { L.r with state := .busy, pending := none }) (some .ret) hbz, ?_⟩
    exact hz E rfl ops l' Q hl' hdef' hq _ _ (fin 1 false)
  | ex i =>
    refine ⟨.bool false, w3.putObj L.l (L.obj (i + 2)), run_endRound (r := { L.r with state := .busy, pending := none }) (some (.exit i)) hbz, ?_⟩
    exact hz E rfl ops l' Q hl' hdef' hq _ _ (fin (i + 2) false)
end rules
end Go.Proofs.Ytkpihepaaiofgaa
end
section
namespace Go.Proofs.Ytkpihepaaiofgaa
open Go.RowKit
set_option linter.unusedVariables false
set_option linter.unusedSimpArgs false

theorem compFn_inv {P : Program} {f : FuncId} {F : AFn} (hF : compFn P f = some F) : ∃ fn c, P.funcs[f]? = some fn ∧ fn.body = some c ∧ fn.results.toList.mapM (compRes P) = some F.res ∧ compCode P c = some F.code ∧ F.ntmps = fn.ntmps ∧ ∀ us w, (callFunc f us).run P w = .ok (.enter f us) w := by
  unfold compFn at hF
  split at hF
  · rename_i fn hf
    split at hF
    · rename_i c rs hb hrs
      split at hF
      · rename_i ac hac
        split at hF
        · cases hF
        · rename_i hname
          cases hF
          refine ⟨fn, c, hf, hb, hrs, hac, rfl, fun us w => ?_⟩
          simp only [callFunc, program, Sem.run, hf, Sem.run_bind, Result.andThen_ok, hname, hb]
          rfl
      · cases hF
    · cases hF
  · cases hF
theorem start_rel {G : Gh} {F : AFn} {xs : List AV} {us : Array Value} {n : Nat} (hn : F.ntmps = n) (hvs : VRs G xs us) : Rel G (start F xs) { tmps := us ++ Array.replicate (n - us.size) undef, defers := [] } := by
  subst hn
  refine ⟨by simp [start, hvs.1], fun i y u hy hu => ?_⟩
  simp only [start] at hy
  simp only at hu
  rw [List.getElem?_append] at hy
  rw [Array.getElem?_append, hvs.1] at hu
  split at hy
  · rename_i hlt
    rw [if_pos hlt] at hu
    exact hvs.2 i y u hy hu
  · rename_i hlt
    rw [if_neg hlt] at hu
    have e1 := List.eq_of_mem_replicate (List.mem_of_getElem? hy)
    have e2 : u ∈ (Array.replicate (F.ntmps - xs.length) undef) := Array.mem_of_getElem? hu
    have e3 := (Array.mem_replicate.1 e2).2
    rw [e1, e3]
    exact .undef G

def exitOf : Nat → AEx
  | 0 => .norm
  | 1 => .ret
  | i + 2 => .ex i
theorem jump_wpIn {F : Fence} {n : Nat} {P : Program} {Q : Exit → Act → World → Prop} {a : Act} {w : World} (k : Nat) (h : Q (exitOf (k + 1)).out a w) : (jumpOf k).wpIn F n P Q a w := by
  cases k with
  | zero => exact wpIn_ret h
  | succ i => exact wpIn_exit h

section rules
variable {c : Cx} {md : Md} {P : Program} {a : List AV} {S : St} {Q : AEx → List AV → St → Prop} {R : List AV → St → Prop}

theorem Ex.rangeF {g : AOpd} {ps : List Nat} {x y : ACode} (f : FuncId) (caps : List AV) (F : AFn) (hg0 : evd a g = .fn f [] caps) (hF : compFn P f = some F) (hres : F.res = []) (hn : c.n ≤ S.bx.length) (hmd : match md with | .plain => True | .round l _ => ∃ L, Fact.bz L ∈ c.fs ∧ L.l = l)
    (h : ∀ (c1 : Cx) (L : Lp), c1.n = S.bx.length → c1.m = S.lv.length + 1 → L.t = S.lv.length → LpOk P c1 L a ps x y → (∀ L' a' ps' x' y', LpOk P c L' a' ps' x' y' → L'.l ≠ L.l ∧ LpOk P c1 L' a' ps' x' y') →
      Ex c1 .plain P F.code (start F (.yld L.l S.lv.length :: caps)) ⟨S.bx, S.lv ++ [(0, 0)]⟩ fun z a' S' => (z = .norm ∨ z = .ret) ∧ ∃ k, S'.lv[S.lv.length]? = some (k, 0) ∧ Q (exitOf k) a S') : Ex c md P (.rangeF g ps x y) a S Q := by
  intro E hE code hco act w hA
  subst hE
  obtain ⟨g', ps', x', y', rfl, hg', hps, hx, hy⟩ := compCode_rangeF hco
  obtain ⟨G, hI, hR, hgr, hk, hd⟩ := hA
  have hv := hR.opd g' g hg'
  rw [hg0] at hv
  obtain ⟨vs, us, hval, hvp, hvc⟩ := hv.inv_fn
  have hvs0 : vs = #[] := Array.eq_empty_of_size_eq_zero hvp.1
  subst hvs0
  obtain ⟨fn, c1, hf, hb, hrs, hac, hnt, hen⟩ := compFn_inv hF
  refine cwp_of_in (wpIn_rangeFunc ?_)
  intro fn0 hfn0
  obtain ⟨l, mk, dD, W1, hent, hrec, hwl, hI1, hg1, hmk⟩ : ∃ (l : Nat) (mk : List Nat) (dD : Nat) (W1 : World), (Instr.enterLoop fn0 act.tmps ps' x' y' md.F.round).run P w = .ok (l, mk.map markOf) W1 ∧ W1.heap[l]? = some (.loop { state := .ready, pending := none, fn := fn0, tmps := act.tmps, params := ps', assign := x', body := y', defers := dD }) ∧ w.heap.size ≤ l ∧ Inv G S W1 ∧ Gro G S w G S W1 ∧ (mk.Nodup ∧ ∀ D ∈ mk, w.heap.size ≤ D ∧ W1.heap[D]? = some (.deferred (some []))) := by
    cases md with
    | plain =>
      refine ⟨w.heap.size + 1, [w.heap.size], w.heap.size, _, run_enterLoop_outer fn0 act.tmps ps' x' y', ?_, by omega, (hI.allocO _).allocO _, (Gro.allocO G S w _).trans (Gro.allocO G S _ _), by simp, fun D hD => ?_⟩
      · have := World.alloc_heap_new (w.alloc (.deferred (some []))) (.loop { state := .ready, pending := none, fn := fn0, tmps := act.tmps, params := ps', assign := x', body := y', defers := w.heap.size })
        rwa [World.size_alloc] at this
      · have hD : D = w.heap.size := by simpa using hD
        subst hD
        exact ⟨Nat.le_refl _, (Below.heap_alloc _ _ _ (by simp)).trans (World.alloc_heap_new w _)⟩
    | round l0 n0 =>
      obtain ⟨L0, hL0, rfl⟩ := hmd
      obtain ⟨_, _, hbz⟩ := hd.x _ hL0
      exact ⟨w.heap.size, [], _, _, run_enterLoop_inner hbz fn0 act.tmps ps' x' y', World.alloc_heap_new w _, Nat.le_refl _, hI.allocO _, Gro.allocO G S w _, .nil, fun D hD => by cases hD⟩
  obtain ⟨r, hr⟩ : ∃ r : Loop, r = { state := .ready, pending := none, fn := fn0, tmps := act.tmps, params := ps', assign := x', body := y', defers := dD } := ⟨_, rfl⟩
  rw [← hr] at hrec
  have hlW : l < W1.heap.size := (Array.getElem?_eq_some_iff.1 hrec).1
  have hrt : r.tmps = act.tmps := by rw [hr]
  let L : Lp := ⟨l, S.lv.length, r⟩
  have hobj0 : L.obj 0 = .loop r := by rw [hr]; show Obj.loop _ = _; simp only [L, hr]
  have hdW : DefOk E.b W1.heap.size E.d (mk.map markOf ++ act.defers) W1 := by
    obtain ⟨Ds, h1, h2, h3⟩ := (hd.d.oth hg1.oth)
    refine ⟨mk ++ Ds, by rw [h1, List.map_append, List.append_assoc], List.nodup_append.2 ⟨hmk.1, h2, fun D hD D' hD' e => ?_⟩, fun D hD => ?_⟩
    · subst e
      have := (hmk.2 D hD).1
      have := (h3 D hD').1.2
      omega
    · rcases List.mem_append.1 hD with hD | hD
      · exact ⟨⟨Nat.le_trans hd.b (hmk.2 D hD).1, (Array.getElem?_eq_some_iff.1 (hmk.2 D hD).2).1⟩, (hmk.2 D hD).2⟩
      · exact ⟨⟨(h3 D hD).1.1, Nat.lt_of_lt_of_le (h3 D hD).1.2 hg1.size⟩, (h3 D hD).2⟩
  have hbel : ∀ f' ∈ E.c.fs, f'.below l := fun f' hf' => (E.c.hk f' hf').mono (Nat.le_trans hd.k hwl)
  let cc : Cx := ⟨S.bx.length, S.lv.length + 1, W1.heap.size, .le G S.bx.length S.lv.length :: .df E.b W1.heap.size E.d (mk.map markOf ++ act.defers) :: .lp L :: E.c.fs, fun f' hf' => (by
    rcases List.mem_cons.1 hf' with rfl | hf'
    · exact ⟨Nat.le_refl _, Nat.le_succ _⟩
    rcases List.mem_cons.1 hf' with rfl | hf'
    · trivial
    rcases List.mem_cons.1 hf' with rfl | hf'
    · exact Nat.lt_succ_self _
    · exact (E.c.hw f' hf').mono hn (Nat.le_succ_of_le hd.m)), fun f' hf' => (by
    rcases List.mem_cons.1 hf' with rfl | hf'
    · trivial
    rcases List.mem_cons.1 hf' with rfl | hf'
    · exact Nat.le_refl _
    rcases List.mem_cons.1 hf' with rfl | hf'
    · exact hlW
    · exact (hbel f' hf').mono (Nat.le_of_lt hlW))⟩
  have hfree : ∀ f' ∈ E.c.fs, f'.free l S.lv.length := fun f' hf' => by
    have h1 := hbel f' hf'
    have h2 := E.c.hw f' hf'
    have h3 := hd.m
    cases f' with
    | lp L' => exact ⟨Nat.ne_of_lt h1, Nat.ne_of_lt (Nat.lt_of_lt_of_le h2 h3)⟩
    | bz L' => exact ⟨Nat.ne_of_lt h1, Nat.ne_of_lt (Nat.lt_of_lt_of_le h2 h3)⟩
    | _ => trivial
  have hLok : LpOk P cc L a ps x y := by
    refine ⟨⟨[.le G S.bx.length S.lv.length, .df E.b W1.heap.size E.d (mk.map markOf ++ act.defers)], E.c.fs, rfl, fun f' hf' => ?_⟩, ⟨G, S.bx.length, S.lv.length, List.mem_cons_self .., by show r.tmps.size = _; rw [hrt]; exact hR.size, fun i z u hz hu => ?_⟩, by show r.params.toList = ps; rw [hr]; exact hps, by show compCode P r.assign = _; rw [hr]; exact hx, by show compCode P r.body = _; rw [hr]; exact hy⟩
    · rcases List.mem_append.1 hf' with hf' | hf'
      · simp only [List.mem_cons, List.not_mem_nil, or_false] at hf'
        rcases hf' with rfl | rfl <;> trivial
      · exact hfree f' hf'
    · have hu : r.tmps[i]? = some u := hu
      rw [hrt] at hu
      exact hR.slot i z u hz hu
  have hup : ∀ L' a' ps' x' y', LpOk P E.c L' a' ps' x' y' → L'.l ≠ L.l ∧ LpOk P cc L' a' ps' x' y' := by
    intro L' a' ps' x' y' hL'
    obtain ⟨g1, g2, hgs, hgf⟩ := hL'.fs
    obtain ⟨G', n', m', hle', h3, h4⟩ := hL'.rel
    have hin : Fact.lp L' ∈ E.c.fs := by rw [hgs]; simp
    have hfr := hfree _ hin
    refine ⟨hfr.1, ⟨.le G S.bx.length S.lv.length :: .df E.b W1.heap.size E.d (mk.map markOf ++ act.defers) :: .lp L :: g1, g2, by show _ :: _ :: _ :: E.c.fs = _; rw [hgs]; rfl, fun f' hf' => ?_⟩, ⟨G', n', m', List.mem_cons_of_mem _ (List.mem_cons_of_mem _ (List.mem_cons_of_mem _ hle')), h3, h4⟩, hL'.ps, hL'.x, hL'.y⟩
    rcases List.mem_cons.1 hf' with rfl | hf'
    · trivial
    rcases List.mem_cons.1 hf' with rfl | hf'
    · trivial
    rcases List.mem_cons.1 hf' with rfl | hf'
    · exact ⟨fun e => hfr.1 e.symm, fun e => hfr.2 e.symm⟩
    · exact hgf f' hf'
  have hEx := h cc L rfl rfl rfl hLok hup
  let E1 : Ent := ⟨E.G, E.S, E.w, [], E.inv, E.lv, cc, hk.bl, fun f' hf' => (by
    rcases List.mem_cons.1 hf' with rfl | hf'
    · trivial
    rcases List.mem_cons.1 hf' with rfl | hf'
    · trivial
    rcases List.mem_cons.1 hf' with rfl | hf'
    · exact Nat.le_trans hgr.size hwl
    · exact E.hW f' hf'), W1.heap.size, Nat.le_trans hgr.size hg1.size⟩
  obtain ⟨k1, k2, k3, k4⟩ := add_ahead hI1 [] [(0, 0)]
  rw [List.append_nil] at k1 k2
  have hvrs : VRs G (.yld l S.lv.length :: caps) (#[.func (.yield l) #[] #[]] ++ us) := by
    refine ⟨by simp [hvc.1]; omega, fun i z u hz hu => ?_⟩
    cases i with
    | zero =>
      rw [Array.getElem?_append_left (by simp)] at hu
      simp at hz hu
      subst hz; subst hu
      exact .yld _ _
    | succ i =>
      rw [Array.getElem?_append_right (by simp)] at hu
      exact hvc.2 i z u (by simpa using hz) (by simpa using hu)
  have hA1 : At E1 (start F (.yld l S.lv.length :: caps)) ⟨S.bx, S.lv ++ [(0, 0)]⟩ { tmps := (#[Value.func (.yield l) #[] #[]] ++ us) ++ Array.replicate (fn.ntmps - (#[Value.func (.yield l) #[] #[]] ++ us).size) undef, defers := [] } W1 := by
    refine ⟨G, k1, start_rel hnt hvrs, (hgr.trans hg1).trans k2, ⟨hk.bl, by rw [show E1.S = E.S from rfl, E.lv]; exact Nat.zero_le _, hk.al, hk.tb, fun t ht => absurd ht (E.tb0 t)⟩, ⟨⟨[], rfl, .nil, fun _ h => (by cases h)⟩, fun f' hf' => ?_, by show S.lv.length + 1 ≤ _; simp, Nat.le_refl _, Nat.le_refl _⟩⟩
    rcases List.mem_cons.1 hf' with rfl | hf'
    · exact ⟨.refl G, fun b B h => (hI.dal b B h).1, fun t k v h => by
        obtain ⟨m, s, h1, _⟩ := hI.dtb t k v h
        exact (List.getElem?_eq_some_iff.1 h1).1⟩
    rcases List.mem_cons.1 hf' with rfl | hf'
    · exact hdW
    rcases List.mem_cons.1 hf' with rfl | hf'
    · exact ⟨fun n => k4 _ n (Nat.le_refl _), 0, (by show (S.lv ++ [(0, 0)])[S.lv.length]? = some (0, 0); simp), by rw [hobj0]; exact hrec⟩
    · exact Fact.step (Fact.step (hd.x f' hf') hg1 (.refl G S)) k2 ⟨Nat.le_refl _, by simp, fun _ _ h => h, fun _ _ h => h, fun t ht _ => List.getElem?_append_left ht⟩
  refine ⟨l, mk.map markOf, W1, { target := .fn (.func f) us, args := #[.func (.yield l) #[] #[]] }, W1, f, #[.func (.yield l) #[] #[]] ++ us, W1, hent, ?_, fun f' _ => md.fn f', ?_, fun hdp => md.depth hdp, ?_⟩
  · simp only [resolve, hval]
    simp [go_sem]
  · simp [invoke, go_sem, hen]
  refine callsIn_md md (calls_of_marks hf hb (wp_mono (hEx E1 rfl c1 hac _ W1 hA1) ?_))
  rintro e act' w' ⟨z, a', S', rfl, ⟨hz, k, hk1, hq⟩, G', hI', hR', hg', hk', hd'⟩
  have hfs : ∀ f' ∈ cc.fs, f'.ok G' S' w' := hd'.x
  obtain ⟨Ds, e1, e2, e3⟩ := hd'.d
  have e1 : act'.defers = Ds.map markOf := by rw [e1]; exact List.append_nil _
  have hI2 := hI'.shut e2 fun D hD => (e3 D hD).2
  have hg2 := hg'.shut fun D hD => Nat.le_trans E1.hb (e3 D hD).1.1
  have hrs0 : evRes a' S' F.res = some (.tup []) := by rw [hres]; rfl
  obtain ⟨u, hu, _⟩ := res_ok hI2 hR' hrs hrs0
  refine ⟨by rcases hz with rfl | rfl <;> simp [AEx.out], Ds, e1, e2, fun D hD => (e3 D hD).2, u, hu, ?_⟩
  -- the loop's end
  obtain ⟨hn3, k', hk2, hk3⟩ := hfs (.lp L) (by show _ ∈ _ :: _ :: _ :: E.c.fs; simp)
  have hk2 : S'.lv[S.lv.length]? = some (k', 0) := hk2
  rw [hk1] at hk2
  cases hk2
  have hlD : l ∉ Ds := fun hm => by
    have h1 := (e3 l hm).2
    have h2 : w'.heap[l]? = some (L.obj k) := hk3
    rw [h1] at h2
    cases k <;> cases h2
  have hk3' : (shutW w' Ds).heap[l]? = some (L.obj k) := (shut_heap.2.2.2.2 l hlD).trans hk3
  have hle : G.le G' := (hfs _ (List.mem_cons_self ..)).1
  have hdf : DefOk E.b W1.heap.size E.d (mk.map markOf ++ act.defers) w' := hfs _ (List.mem_cons_of_mem _ (List.mem_cons_self ..))
  have hsz2 : (shutW w' Ds).heap.size = w'.heap.size := shut_heap.1
  have hW1w : W1.heap.size ≤ w'.heap.size := hd'.b
  have fin : ∀ (o' o : Obj) (r' : Loop), o = .loop r' → (shutW w' Ds).heap[l]? = some o → At E a S' { act with defers := mk.map markOf ++ act.defers } ((shutW w' Ds).putObj l o') := by
    rintro o' o r' rfl ho
    refine ⟨G', hI2.putObj _ ho rfl, ⟨hR.size, fun i y u h1 h2 => (hR.slot i y u h1 h2).mono hle⟩, hg2.putObj _ (Nat.le_trans hgr.size hwl), ⟨hk'.bl, by rw [E.lv]; exact Nat.zero_le _, hk'.al, hk'.tb, fun t ht => absurd ht (E.tb0 t)⟩, ⟨?_, fun f' hf' => ?_, ?_, ?_, ?_⟩⟩
    · obtain ⟨Dc, d1, d2, d3⟩ := hdf
      refine ⟨Dc, d1, d2, fun D hD => ⟨⟨(d3 D hD).1.1, ?_⟩, ?_⟩⟩
      · have := (d3 D hD).1.2
        simp only [World.putObj, Array.size_setIfInBounds, hsz2]
        omega
      · have h4 := (d3 D hD).2
        have hnD : D ∉ Ds := fun hm => by
          have := (d3 D hD).1.2
          have : W1.heap.size ≤ D := (e3 D hm).1.1
          omega
        have h5 : (shutW w' Ds).heap[D]? = some (.deferred (some [])) := (shut_heap.2.2.2.2 D hnD).trans h4
        rw [World.putObj_heap_other]
        · exact h5
        · rintro rfl; rw [ho] at h5; cases h5
    · -- what the activation keeps
      have hin : f'.ok G' S' w' := hfs f' (by show _ ∈ _ :: _ :: _ :: E.c.fs; simp [hf'])
      have hfr := hfree f' hf'
      have hbl := hbel f' hf'
      refine Fact.other o' (l := l) (r := r') ?_ ho (by cases f' <;> first | trivial | exact hfr.1)
      -- its own marks are shut
      cases f' with
      | le G0 n m => exact hin
      | lp L' =>
        refine ⟨hin.1, hin.2.imp fun kk hkk => ⟨hkk.1, (shut_heap.2.2.2.2 _ fun hm => ?_).trans hkk.2⟩⟩
        have h1 := (e3 _ hm).2
        rw [hkk.2] at h1
        cases kk <;> cases h1
      | bz L' =>
        refine ⟨hin.1, hin.2.1, (shut_heap.2.2.2.2 _ fun hm => ?_).trans hin.2.2⟩
        have h1 := (e3 _ hm).2
        rw [hin.2.2] at h1
        cases h1
      | df n u' d l' =>
        obtain ⟨Dc, d1, d2, d3⟩ := hin
        refine ⟨Dc, d1, d2, fun D hD => ⟨(d3 D hD).1, ?_⟩⟩
        refine (shut_heap.2.2.2.2 D fun hm => ?_).trans (d3 D hD).2
        have h1 : W1.heap.size ≤ D := (e3 D hm).1.1
        have h2 := (d3 D hD).1.2
        have h3 : u' ≤ E.c.k := E.c.hk _ hf'
        have h4 := hd.k
        have h5 := hg1.size
        omega
    · exact Nat.le_trans hd.m (Nat.le_trans (Nat.le_succ _) hd'.m)
    · have := hd.k
      simp only [World.putObj, Array.size_setIfInBounds, hsz2]
      have := hg1.size
      omega
    · have := hd.b
      simp only [World.putObj, Array.size_setIfInBounds, hsz2]
      have := hg1.size
      omega
  cases k with
  | zero =>
    refine ⟨none, _, run_endLoop (r := { L.r with state := .ready, pending := none }) hk3' (by simp), ?_⟩
    exact ⟨.norm, a, S', rfl, hq, fin _ _ _ rfl hk3'⟩
  | succ k =>
    refine ⟨some (jumpOf k), _, run_endLoop (r := { L.r with state := .done, pending := some (jumpOf k) }) hk3' (by simp), ?_⟩
    exact jump_wpIn k ⟨exitOf (k + 1), a, S', rfl, hq, fin _ _ _ rfl hk3'⟩
end rules
end Go.Proofs.Ytkpihepaaiofgaa
end
section
namespace Go.Proofs.Ytkpihepaaiofgaa
open Go.RowKit
set_option linter.unusedVariables false
set_option linter.unusedSimpArgs false

theorem leC {c : Cx} {k n : Nat} (h : c.n = k) (hk : k ≤ n) : c.n ≤ n := h ▸ hk
theorem sig0 {c : Cx} {σ : List Nat} (k : Nat) (hk : c.m = k) (h : σ.take k = List.range k) : ∀ t, t < c.m → σ[t]? = some t := fun t ht => by
  rw [hk] at ht
  have h1 : (σ.take k)[t]? = σ[t]? := List.getElem?_take_of_lt ht
  rw [← h1, h, List.getElem?_range ht]

section rules
variable {c : Cx} {md : Md} {P : Program} {a : List AV} {S : St} {Q : AEx → List AV → St → Prop} {R : List AV → St → Prop}

theorem ExI.op {X : Clr} (hX : ClrOk P X) {x : AOper} {xs : List AOper} {v : AV} {S1 : St} (hw : wantedA x.guard a = some true) (hv : evOp X x.op a S = some (v, S1)) (h : ExI c md P xs (putA a x.dst v) S1 R) : ExI c md P (x :: xs) a S R :=
  ExI.pre (xs := [x]) (ys := xs) (ExO.op hX hw hv (ExO.nil h))
theorem ExI.skip {x : AOper} {xs : List AOper} (hw : wantedA x.guard a = some false) (h : ExI c md P xs (putA a x.dst (.tup [])) S R) : ExI c md P (x :: xs) a S R :=
  ExI.pre (xs := [x]) (ys := xs) (ExO.skip hw (ExO.nil h))
theorem ExI.forget {a2 : List AV} {S2 : St} {xs : List AOper} (hf : Forgets c a S a2 S2) (h : ExI c md P xs a2 S2 R) : ExI c md P xs a S R := fun E hE ops l Q hl hd hq act w hA => h E hE ops l Q hl hd hq act w (hf E hE act w hA)
theorem evHI_ok {hs : List (Nat × Hint)} : ∀ (k i : Nat) {l : List AOper} {a a2 : List AV} {S S2 : St} {Fs : List Prop}, evH hs i k l a S = some (Fs, a2, S2) → AllP Fs → ExI c md P (l.drop k) a2 S2 R → ExI c md P l a S R
  | 0, i, l, a, a2, S, S2, Fs, h, _, hx => by
    cases l <;> (simp only [evH] at h; cases h; exact hx)
  | k + 1, i, [], a, a2, S, S2, Fs, h, _, hx => by simp [evH] at h
  | k + 1, i, x :: l, a, a2, S, S2, Fs, h, hF, hx => by
    simp only [evH] at h
    split at h
    · rename_i hw
      split at h
      · rename_i F v S1 hd
        split at h
        · rename_i Fs1 a3 S3 hr
          cases h
          refine ExI.op (noClr_ok P) hw (doH_ok hd ?_) (evHI_ok k (i + 1) hr ?_ hx)
          · cases F with
            | none => trivial
            | some F => exact hF.1
          · cases F with
            | none => exact hF
            | some F => exact hF.2
        · cases h
      · cases h
    · rename_i hw
      exact ExI.skip hw (evHI_ok k (i + 1) h hF hx)
    · cases h
theorem runI {l : List AOper} (k : Nat) (hs : List (Nat × Hint)) (live : List Nat) (Fs : List Prop) (a2 : List AV) (S2 : St) (h : (evH hs 0 k l a S).map (fun p => (p.1, keepB 0 live p.2.1, p.2.2)) = some (Fs, a2, S2)) (hF : AllP Fs) (hx : ExI c md P (l.drop k) a2 S2 R) : ExI c md P l a S R := by
  cases he : evH hs 0 k l a S with
  | none => rw [he] at h; cases h
  | some p =>
    obtain ⟨Fs1, a1, S1⟩ := p
    rw [he] at h
    simp only [Option.map_some, Option.some.injEq, Prod.mk.injEq] at h
    obtain ⟨rfl, rfl, rfl⟩ := h
    exact evHI_ok k 0 he hF (ExI.forget (forgetK live) hx)
theorem ExI.one {x : AOper} {xs : List AOper} (h : ExO c P [x] a S fun a1 S1 => ExI c md P xs a1 S1 R) : ExI c md P (x :: xs) a S R := ExI.pre (xs := [x]) (ys := xs) h

theorem ExO.inlC {x : AOper} {l : List AOper} (f : FuncId) (xs : List AV) (F : AFn) (hF : compFn P f = some F) (hn : c.n ≤ S.bx.length) (hw : wantedA x.guard a = some true) (hv : aop x.op (evd a) S = some (.call f xs))
    (h : ∀ c1 : Cx, c1.n = S.bx.length → c1.m = S.lv.length → (∀ L' a' ps' x' y', LpOk P c L' a' ps' x' y' → LpOk P c1 L' a' ps' x' y') →
      Ex c1 .plain P F.code (start F xs) S fun z a' S' => (z = .norm ∨ z = .ret) ∧ ∃ v, evRes a' S' F.res = some v ∧ ExO c P l (putA a x.dst v) S' R) : ExO c P (x :: l) a S R := by
  intro E hE ops l0 Q hco hq act w hA
  subst hE
  obtain ⟨o, l', rfl, hx, hl'⟩ := mapM_cons_inv hco
  obtain ⟨h1, h2, _⟩ := compOper_ok hx
  obtain ⟨G, hI, hR, hgr, hk, hd⟩ := hA
  obtain ⟨fn, cc1, hf, hb, hrs, hac, hnt, hen⟩ := compFn_inv hF
  simp only [wpList]
  rw [if_pos (wantedA_ok hx hR hw)]
  refine .inl ?_
  unfold Oper.wp
  have hs := step_ok h1 (fun _ => rfl) hR.opd hI hv
  obtain ⟨us, hrun, hvs⟩ := hs
  rw [hrun, hen]
  simp only [Oper.upon_enter]
  let cc : Cx := ⟨S.bx.length, S.lv.length, w.heap.size, .le G S.bx.length S.lv.length :: .df E.b w.heap.size E.d act.defers :: E.c.fs, fun f' hf' => (by
    rcases List.mem_cons.1 hf' with rfl | hf'
    · exact ⟨Nat.le_refl _, Nat.le_refl _⟩
    rcases List.mem_cons.1 hf' with rfl | hf'
    · trivial
    · exact (E.c.hw f' hf').mono hn hd.m), fun f' hf' => (by
    rcases List.mem_cons.1 hf' with rfl | hf'
    · trivial
    rcases List.mem_cons.1 hf' with rfl | hf'
    · exact Nat.le_refl _
    · exact (E.c.hk f' hf').mono hd.k)⟩
  have hup : ∀ L' a' ps' x' y', LpOk P E.c L' a' ps' x' y' → LpOk P cc L' a' ps' x' y' := by
    intro L' a' ps' x' y' hL'
    obtain ⟨g1, g2, hgs, hgf⟩ := hL'.fs
    obtain ⟨G', n', m', hle', h3, h4⟩ := hL'.rel
    refine ⟨⟨.le G S.bx.length S.lv.length :: .df E.b w.heap.size E.d act.defers :: g1, g2, by show _ :: _ :: E.c.fs = _; rw [hgs]; rfl, fun f' hf' => ?_⟩, ⟨G', n', m', List.mem_cons_of_mem _ (List.mem_cons_of_mem _ hle'), h3, h4⟩, hL'.ps, hL'.x, hL'.y⟩
    rcases List.mem_cons.1 hf' with rfl | hf'
    · trivial
    rcases List.mem_cons.1 hf' with rfl | hf'
    · trivial
    · exact hgf f' hf'
  have hEx := h cc rfl rfl hup
  let E1 : Ent := ⟨E.G, E.S, E.w, [], E.inv, E.lv, cc, hk.bl, fun f' hf' => (by
    rcases List.mem_cons.1 hf' with rfl | hf'
    · trivial
    rcases List.mem_cons.1 hf' with rfl | hf'
    · trivial
    · exact E.hW f' hf'), w.heap.size, hgr.size⟩
  have hA1 : At E1 (start F xs) S { tmps := us ++ Array.replicate (fn.ntmps - us.size) undef, defers := [] } w := by
    refine ⟨G, hI, start_rel hnt hvs, hgr, hk, ⟨⟨[], rfl, .nil, fun _ h => (by cases h)⟩, fun f' hf' => ?_, Nat.le_refl _, Nat.le_refl _, Nat.le_refl _⟩⟩
    rcases List.mem_cons.1 hf' with rfl | hf'
    · exact ⟨.refl G, fun b B h => (hI.dal b B h).1, fun t k v h => by
        obtain ⟨m, s, h1, _⟩ := hI.dtb t k v h
        exact (List.getElem?_eq_some_iff.1 h1).1⟩
    rcases List.mem_cons.1 hf' with rfl | hf'
    · exact hd.d
    · exact hd.x f' hf'
  refine calls_of_marks hf hb (wp_mono (hEx E1 rfl cc1 hac _ w hA1) ?_)
  rintro e act' w' ⟨z, a', S', rfl, ⟨hz, v, hres, hrest⟩, G', hI', hR', hg', hk', hd'⟩
  have hfs : ∀ f' ∈ cc.fs, f'.ok G' S' w' := hd'.x
  obtain ⟨Ds, e1, e2, e3⟩ := hd'.d
  have e1 : act'.defers = Ds.map markOf := by rw [e1]; exact List.append_nil _
  have hI2 := hI'.shut e2 fun D hD => (e3 D hD).2
  have hg2 := hg'.shut fun D hD => Nat.le_trans E1.hb (e3 D hD).1.1
  obtain ⟨u, hu, hvr⟩ := res_ok hI2 hR' hrs hres
  refine ⟨by rcases hz with rfl | rfl <;> simp [AEx.out], Ds, e1, e2, fun D hD => (e3 D hD).2, u, hu, ?_⟩
  have hle : G.le G' := (hfs _ (List.mem_cons_self ..)).1
  have hdf : DefOk E.b w.heap.size E.d act.defers w' := hfs _ (List.mem_cons_of_mem _ (List.mem_cons_self ..))
  have hsz2 : (shutW w' Ds).heap.size = w'.heap.size := shut_heap.1
  have hww : w.heap.size ≤ w'.heap.size := hd'.b
  refine hrest E rfl ops l' Q hl' hq _ _ ⟨G', hI2, h2 ▸ (hR.mono hle).put x.dst hvr, hg2, ⟨hk'.bl, by rw [E.lv]; exact Nat.zero_le _, hk'.al, hk'.tb, fun t ht => absurd ht (E.tb0 t)⟩, ⟨?_, fun f' hf' => ?_, Nat.le_trans hd.m hd'.m, ?_, ?_⟩⟩
  · have hd2 : DefOk E.b (shutW w' Ds).heap.size E.d act.defers (shutW w' Ds) := by
      obtain ⟨Dc, d1, d2, d3⟩ := hdf
      refine ⟨Dc, d1, d2, fun D hD => ⟨⟨(d3 D hD).1.1, ?_⟩, ?_⟩⟩
      · have := (d3 D hD).1.2
        omega
      · refine (shut_heap.2.2.2.2 D fun hm => ?_).trans (d3 D hD).2
        have := (d3 D hD).1.2
        have : w.heap.size ≤ D := (e3 D hm).1.1
        omega
    cases o.dst <;> exact hd2
  · have hin : f'.ok G' S' w' := hfs f' (by show _ ∈ _ :: _ :: E.c.fs; simp [hf'])
    cases f' with
    | le G0 n m => exact hin
    | lp L' =>
      refine ⟨hin.1, hin.2.imp fun kk hkk => ⟨hkk.1, (shut_heap.2.2.2.2 _ fun hm => ?_).trans hkk.2⟩⟩
      have h1 := (e3 _ hm).2
      rw [hkk.2] at h1
      cases kk <;> cases h1
    | bz L' =>
      refine ⟨hin.1, hin.2.1, (shut_heap.2.2.2.2 _ fun hm => ?_).trans hin.2.2⟩
      have h1 := (e3 _ hm).2
      rw [hin.2.2] at h1
      cases h1
    | df n u' d l' =>
      obtain ⟨Dc, d1, d2, d3⟩ := hin
      refine ⟨Dc, d1, d2, fun D hD => ⟨(d3 D hD).1, ?_⟩⟩
      refine (shut_heap.2.2.2.2 D fun hm => ?_).trans (d3 D hD).2
      have h1 : w.heap.size ≤ D := (e3 D hm).1.1
      have h2 := (d3 D hD).1.2
      have h3 : u' ≤ E.c.k := E.c.hk _ hf'
      have h4 := hd.k
      omega
  · rw [hsz2]; exact Nat.le_trans hd.k hww
  · rw [hsz2]; exact Nat.le_trans hd.b hww
theorem ExI.yieldT {L : Lp} {a0 : List AV} {ps : List Nat} {x0 y0 : ACode} (t0 : Nat) (ht : L.t = t0) (hL : LpOk P c L a0 ps x0 y0) {x : AOper} {l : List AOper} {f : AOpd} {args : List AOpd} {t : Nat} (xs : List AV) (hw : wantedA x.guard a = some true) (ho : x.op = .call f args) (hf : evd a f = .yld L.l t) (hxs : args.map (evd a) = xs) (hps : ps.length = xs.length) (hr : S.lv[t0]? = some (0, 0)) (hn : c.n ≤ S.bx.length)
    (h : ∀ (ca cb : Cx), ca.n = S.bx.length → cb.n = S.bx.length → ca.m = S.lv.length → cb.m = S.lv.length → (∀ L' a' ps' x' y', LpOk P c L' a' ps' x' y' → L'.l ≠ L.l → LpOk P ca L' a' ps' x' y' ∧ LpOk P cb L' a' ps' x' y') → Fact.bz L ∈ cb.fs →
      Ex ca (.round L.l (md.n - 1)) P x0 (setPs a0 ps xs) S fun z a1 S1 => z = .norm ∧ S1.lv[t0]? = some (0, 0) ∧
        Ex cb (.round L.l (md.n - 1)) P y0 a1 S1 fun z a2 S2 => match z with
          | .norm => ExI c md P l (putA a x.dst (.bool true)) S2 R
          | .ret => ExI c md P l (putA a x.dst (.bool false)) ⟨S2.bx, S2.lv.set t0 (1, 0)⟩ R
          | .ex i => ExI c md P l (putA a x.dst (.bool false)) ⟨S2.bx, S2.lv.set t0 (i + 2, 0)⟩ R) : ExI c md P (x :: l) a S R := by
  subst ht
  exact ExI.yield hL f args t xs hw ho hf hxs hps hr hn h
theorem Ex.rangeJ {g : AOpd} {ps : List Nat} {x y : ACode} (J : Nat → St → Prop) (f : FuncId) (caps : List AV) (F : AFn) (hg0 : evd a g = .fn f [] caps) (hF : compFn P f = some F) (hres : F.res = []) (hn : c.n ≤ S.bx.length) (hmd : match md with | .plain => True | .round l _ => ∃ L, Fact.bz L ∈ c.fs ∧ L.l = l) (a1 : List AV) (S1 : St) (he : ∀ l, start F (.yld l S.lv.length :: caps) = a1.set 0 (.yld l S.lv.length)) (hS : (⟨S.bx, S.lv ++ [(0, 0)]⟩ : St) = S1)
    (h : ∀ (c1 : Cx) (L : Lp), c1.n = S.bx.length → c1.m = S.lv.length + 1 → L.t = S.lv.length → LpOk P c1 L a ps x y → (∀ L' a' ps' x' y', LpOk P c L' a' ps' x' y' → L'.l ≠ L.l ∧ LpOk P c1 L' a' ps' x' y') →
      Ex c1 .plain P F.code (a1.set 0 (.yld L.l S.lv.length)) S1 fun z a' S' => ∃ a2 S2, Forgets c1 a' S' a2 S2 ∧ (z = .norm ∨ z = .ret) ∧ ∃ k, S2.lv[S.lv.length]? = some (k, 0) ∧ J k S2)
    (k : ∀ k S', J k S' → Q (exitOf k) a S') : Ex c md P (.rangeF g ps x y) a S Q := by
  refine Ex.rangeF f caps F hg0 hF hres hn hmd fun c1 L h1 h2 h3 h4 h5 => ?_
  rw [he, hS]
  refine Ex.postF ((h c1 L h1 h2 h3 h4 h5).mono ?_)
  rintro z a' S' ⟨a2, S2, hf, hz, j, hj, hJ⟩
  exact ⟨a2, S2, hf, hz, j, hj, k j S2 hJ⟩
theorem Ex.two {ca cb : Cx} {x y : ACode} {t0 : Nat} (J : AEx → St → Prop) (h : Ex ca md P x a S fun z a1 S1 => z = .norm ∧ S1.lv[t0]? = some (0, 0) ∧ Ex cb md P y a1 S1 fun z a2 S2 => ∃ a3 S3, Forgets cb a2 S2 a3 S3 ∧ J z S3) (k : ∀ z a2 S2, J z S2 → Q z a2 S2) : Ex ca md P x a S fun z a1 S1 => z = .norm ∧ S1.lv[t0]? = some (0, 0) ∧ Ex cb md P y a1 S1 Q := by
  refine h.mono ?_
  rintro z a1 S1 ⟨h1, h2, h3⟩
  refine ⟨h1, h2, Ex.postF (h3.mono ?_)⟩
  rintro z a2 S2 ⟨a3, S3, hf, hJ⟩
  exact ⟨a3, S3, hf, k z a3 S3 hJ⟩
theorem ExO.inlJ {x : AOper} {l : List AOper} (J : AV → St → Prop) (f : FuncId) (xs : List AV) (F : AFn) (hF : compFn P f = some F) (hn : c.n ≤ S.bx.length) (hw : wantedA x.guard a = some true) (hv : aop x.op (evd a) S = some (.call f xs)) (a1 : List AV) (he : start F xs = a1)
    (h : ∀ c1 : Cx, c1.n = S.bx.length → c1.m = S.lv.length → (∀ L' a' ps' x' y', LpOk P c L' a' ps' x' y' → LpOk P c1 L' a' ps' x' y') →
      Ex c1 .plain P F.code a1 S fun z a' S' => (z = .norm ∨ z = .ret) ∧ ∃ v, evRes a' S' F.res = some v ∧ J v S')
    (k : ∀ v S', J v S' → ExO c P l (putA a x.dst v) S' R) : ExO c P (x :: l) a S R := by
  subst he
  refine ExO.inlC f xs F hF hn hw hv fun c1 h1 h2 h3 => (h c1 h1 h2 h3).mono ?_
  rintro z a' S' ⟨h4, v, h5, h6⟩
  exact ⟨h4, v, h5, k v S' h6⟩
end rules
end Go.Proofs.Ytkpihepaaiofgaa
end
section
namespace Go.Proofs.Ytkpihepaaiofgaa
open Go.RowKit
set_option linter.unusedVariables false
set_option linter.unusedSimpArgs false

structure TokT where
  f : FuncId
  gs : List AV
  pre : List AV
  els : List AV
  post : List AV
  n : Nat
  s : Nat
end Go.Proofs.Ytkpihepaaiofgaa
end
section
namespace Go.Proofs.Ytkpihepaaiofgaa
open Go.RowKit
set_option linter.unusedVariables false
set_option linter.unusedSimpArgs false


theorem flat_scal {α : Type} {f : α → AV} (h : ∀ x, (f x).cells.all scal = true) (l : List α) : (flat (l.map f)).all scal = true := by
  rw [List.all_eq_true]
  intro c hc
  obtain ⟨e, he, hce⟩ := List.mem_flatMap.1 hc
  obtain ⟨x, _, rfl⟩ := List.mem_map.1 he
  exact List.all_eq_true.1 (h x) c hce
theorem scal_re {x : AV} (h : scal x = true) (n : Nat) (σ : List Nat) : re n σ x = some x := by
  cases x <;> first | (simp [scal] at h; done) | rfl | simp [re, re1, AV.clean]
theorem mapM_id {f : AV → Option AV} : ∀ (l : List AV), (∀ x ∈ l, f x = some x) → l.mapM f = some l
  | [], _ => rfl
  | x :: l, h => by
    rw [List.mapM_cons, h x (by simp), mapM_id l fun y hy => h y (by simp [hy])]
    rfl
theorem flat_re {α : Type} {f : α → AV} (h : ∀ x, (f x).cells.all scal = true) (n : Nat) (σ : List Nat) (l : List α) : (flat (l.map f)).mapM (re n σ) = some (flat (l.map f)) :=
  mapM_id _ fun x hx => scal_re (List.all_eq_true.1 (flat_scal h l) x hx) n σ
theorem flat_lenF {α : Type} {f : α → AV} {s : Nat} (hs : ∀ x, (f x).cells.length = s) (l : List α) : (flat (l.map f)).length = l.length * s := by
  rw [flat_len s, List.length_map]
  intro i e he
  rw [List.getElem?_map, Option.map_eq_some_iff] at he
  obtain ⟨x, _, rfl⟩ := he
  exact hs x
theorem map_cells {α : Type} {f : α → AV} {s : Nat} (hs : ∀ x, (f x).cells.length = s) (l : List α) : ∀ e ∈ l.map f, e.cells.length = s := by
  intro e he
  obtain ⟨x, _, rfl⟩ := List.mem_map.1 he
  exact hs x
theorem ldFl {α : Type} {f : α → AV} {s : Nat} (l : List α) (off j : Nat) (i : Int) (x : α) (c : AV) (hs : ∀ x, (f x).cells.length = s) (hx : l[i.toNat]? = some x) (hc : (f x).cells[j]? = some c) (ho : off = i.toNat * s + j) : takeCells (flat (l.map f)) off none = some c := by
  subst ho
  exact flat_at s (l.map f) i.toNat (f x) j c (fun k e he => map_cells hs l e (List.mem_of_getElem? he)) (by rw [List.getElem?_map, hx]; rfl) hc
theorem layAt_left : ∀ (vs cs ds : List AV) (o : Nat), o + vs.length ≤ cs.length → layAt (cs ++ ds) o vs = layAt cs o vs ++ ds
  | [], _, _, _, _ => rfl
  | v :: vs, cs, ds, o, h => by
    simp only [List.length_cons] at h
    simp only [layAt]
    rw [List.set_append_left _ _ (by omega)]
    exact layAt_left vs _ ds (o + 1) (by simp; omega)
theorem layAt_right : ∀ (vs cs ds : List AV) (o : Nat), layAt (cs ++ ds) (cs.length + o) vs = cs ++ layAt ds o vs
  | [], _, _, _ => rfl
  | v :: vs, cs, ds, o => by
    simp only [layAt]
    rw [List.set_append_right _ _ (by omega), Nat.add_sub_cancel_left, Nat.add_assoc]
    exact layAt_right vs cs _ (o + 1)
theorem lay_flat {s : Nat} : ∀ (els : List AV) (k j : Nat) (e e' : AV) (vs : List AV), (∀ e ∈ els, e.cells.length = s) → els[k]? = some e → j + vs.length ≤ s → layAt e.cells j vs = e'.cells → layAt (flat els) (k * s + j) vs = flat (els.set k e')
  | [], _, _, _, _, _, _, h, _, _ => by simp at h
  | e0 :: els, 0, j, e, e', vs, hs, h, hj, hl => by
    obtain rfl : e0 = e := by simpa using h
    simp only [flat, List.flatMap_cons, List.set_cons_zero, Nat.zero_mul, Nat.zero_add]
    rw [layAt_left _ _ _ _ (by rw [hs e0 (by simp)]; exact hj), hl]
  | e0 :: els, k + 1, j, e, e', vs, hs, h, hj, hl => by
    have h0 := hs e0 (by simp)
    have ih := lay_flat els k j e e' vs (fun e he => hs e (by simp [he])) (by simpa using h) hj hl
    simp only [flat, List.flatMap_cons, List.set_cons_succ] at ih ⊢
    rw [show (k + 1) * s + j = e0.cells.length + (k * s + j) by rw [h0, Nat.succ_mul]; omega, layAt_right, ih]
def setI {α : Type} (l : List α) (i : Int) (g : α → α) : Option (List α) := (l[i.toNat]?).map fun x => l.set i.toNat (g x)
theorem setI.of {α : Type} {l l' : List α} {i : Int} {g : α → α} (h : setI l i g = some l') : ∃ x, l[i.toNat]? = some x ∧ l' = l.set i.toNat (g x) := by
  simp only [setI, Option.map_eq_some_iff] at h
  obtain ⟨x, hx, rfl⟩ := h
  exact ⟨x, hx, rfl⟩
theorem stFl {α : Type} {f : α → AV} {s : Nat} {l l' : List α} (off j n : Nat) (i : Int) (g : α → α) (vs : List AV) (hs : ∀ x, (f x).cells.length = s) (h : setI l i g = some l') (hn : vs.length = n) (hjn : j + n ≤ s) (ho : off = i.toNat * s + j) (hl : ∀ x, layAt (f x).cells j vs = (f (g x)).cells) : off + n ≤ (flat (l.map f)).length ∧ layAt (flat (l.map f)) off vs = flat (l'.map f) := by
  obtain ⟨x, hx, rfl⟩ := setI.of h
  subst ho hn
  have hlt := (List.getElem?_eq_some_iff.1 hx).1
  refine ⟨?_, ?_⟩
  · rw [flat_lenF hs]
    have : (i.toNat + 1) * s ≤ l.length * s := Nat.mul_le_mul_right _ hlt
    rw [Nat.succ_mul] at this
    omega
  · rw [lay_flat (l.map f) i.toNat j (f x) (f (g x)) vs (map_cells hs l) (by rw [List.getElem?_map, hx]; rfl) hjn (hl x), List.map_set]
def lenI {α : Type} (l : List α) (n : Nat) : Option Unit := if l.length = n then some () else none
theorem lenI.of {α : Type} {l : List α} {n : Nat} {u : Unit} (h : lenI l n = some u) : l.length = n := by
  unfold lenI at h
  split at h
  · assumption
  · cases h

theorem chillL_at (f : AV → AV) : ∀ (k : Nat) (a : List AV) (v : AV), a[k]? = some v → chillL f (List.replicate k false ++ [true]) a = a.set k (f v)
  | 0, x :: a, v, h => by
    obtain rfl : x = v := by simpa using h
    simp [chillL]
  | k + 1, x :: a, v, h => by
    have ih := chillL_at f k a v (by simpa using h)
    simp only [List.replicate_succ, List.cons_append, chillL, List.set_cons_succ, ih]
    rfl
  | k, [], v, h => by simp at h
theorem chillB_at (f : AV → AV) (c : List Bool) : ∀ (k : Nat) (a : List (List AV)) (v : List AV), a[k]? = some v → chillB f (List.replicate k [] ++ [c]) a = a.set k (chillL f c v)
  | 0, x :: a, v, h => by
    obtain rfl : x = v := by simpa using h
    simp [chillB]
  | k + 1, x :: a, v, h => by
    have ih := chillB_at f c k a v (by simpa using h)
    simp only [List.replicate_succ, List.cons_append, chillB, List.set_cons_succ, ih]
    simp [chillL]
  | k, [], v, h => by simp at h
theorem chillK {α : Type} {f : α → AV} {n0 : Cx} {a : List AV} {S : St} (b k n s : Nat) (l : List α) (v v' : AV) {u : Unit} (hn : lenI l n = some u) (hb : S.bx[b]? = some (flat (l.map f))) (hs : ∀ x, (f x).cells.length = s) (hk : a[k]? = some v) (hv : chillS b n s (l.map f) v = v') : Forgets n0 a S (a.set k v') ⟨S.bx.set b [], S.lv⟩ := by
  have := chill (n0 := n0) (a := a) (S := S) b n s (l.map f) (List.replicate k false ++ [true]) [] hb (by rw [List.length_map]; exact lenI.of hn) (map_cells hs l)
  rw [chillL_at _ k a v hk, hv] at this
  exact this
theorem chillX {α : Type} {f : α → AV} {n0 : Cx} {a : List AV} {S : St} (b b2 o n s : Nat) (l : List α) (cs : List AV) {u : Unit} (hn : lenI l n = some u) (hb : S.bx[b]? = some (flat (l.map f))) (hs : ∀ x, (f x).cells.length = s) (h2 : S.bx[b2]? = some cs) (hbb : b ≠ b2) (ho : cs[o]? = some (.ms b n s)) : Forgets n0 a S a ⟨(S.bx.set b []).set b2 (cs.set o (.sl (l.map f) none)), S.lv⟩ := by
  have := chill (n0 := n0) (a := a) (S := S) b n s (l.map f) [] (List.replicate b2 [] ++ [List.replicate o false ++ [true]]) hb (by rw [List.length_map]; exact lenI.of hn) (map_cells hs l)
  rw [chillB_at _ _ b2 _ cs (by rw [List.getElem?_set_ne hbb]; exact h2), chillL_at _ o cs _ ho] at this
  simpa [chillL, chillV] using this
theorem mapMC {α β : Type} {f : α → Option β} {x : α} {y : β} {l : List α} {ys : List β} (h : f x = some y) (t : l.mapM f = some ys) : (x :: l).mapM f = some (y :: ys) := by
  rw [List.mapM_cons, h, t]
  rfl
def mkI (n : Int) : Option Nat := if 0 ≤ n ∧ n ≤ 65536 then some n.toNat else none
theorem mkI.of {n : Int} {k : Nat} (h : mkI n = some k) : n = (k : Int) ∧ k ≤ 65536 := by
  unfold mkI at h
  split at h
  · cases h; omega
  · cases h
theorem repFl {α : Type} {f : α → AV} {z : List AV} (x : α) (hz : (f x).cells = z) : ∀ k, rep z k = flat ((List.replicate k x).map f)
  | 0 => rfl
  | k + 1 => by
    simp only [rep, List.replicate_succ, List.map_cons, flat, List.flatMap_cons, hz]
    congr 1
    exact repFl x hz k
theorem mk_of {α : Type} {f : α → AV} {z : List AV} {n : Int} {k : Nat} (x : α) (hz : (f x).cells = z) (h : mkI n = some k) : n = (k : Int) ∧ k ≤ 65536 ∧ rep z k = flat ((List.replicate k x).map f) :=
  ⟨(mkI.of h).1, (mkI.of h).2, repFl x hz k⟩
def idxB (b : ByteArray) (n : Int) : Option Int := if 0 ≤ n then (b[n.toNat]?).map fun c => (c.toNat : Int) else none
theorem idxB.of {b : ByteArray} {n z : Int} (h : idxB b n = some z) : LIdx b n z := by
  unfold idxB at h
  split at h
  · rename_i h0
    rw [Option.map_eq_some_iff] at h
    obtain ⟨c, hc, rfl⟩ := h
    exact ⟨h0, c, hc, rfl⟩
  · cases h
def partI {α : Type} (l : List α) (lo hi : Int) : Option (List α) := if 0 ≤ lo ∧ lo ≤ hi ∧ hi ≤ (l.length : Int) then some ((l.take hi.toNat).drop lo.toNat) else none
theorem partI.of {α : Type} {f : α → AV} {s : Nat} {l r : List α} {lo hi : Int} (hs : ∀ x, (f x).cells.length = s) (h : partI l lo hi = some r) : LSlc (l.map f) (some lo) (some hi) s (r.map f) := by
  unfold partI at h
  split at h
  · rename_i hc
    cases h
    exact ⟨lo.toNat, hi.toNat, by show lo = _; omega, by show hi = _; omega, by omega, by rw [List.length_map]; omega, map_cells hs l, by rw [List.map_drop, List.map_take]⟩
  · cases h
theorem partI.ofL {α : Type} {f : α → AV} {s : Nat} {l r : List α} {lo : Int} (hs : ∀ x, (f x).cells.length = s) (h : partI l lo (l.length : Int) = some r) : LSlc (l.map f) (some lo) none s (r.map f) := by
  unfold partI at h
  split at h
  · rename_i hc
    cases h
    exact ⟨lo.toNat, l.length, by show lo = _; omega, by simp, by omega, by simp, map_cells hs l, by rw [List.map_drop, Int.toNat_natCast, List.take_length, List.take_of_length_le (by simp)]⟩
  · cases h
def nnI (n : Int) : Option Unit := if n < 0 then none else some ()
theorem binSl {k k' : IntKind} {x y : Int} {u : Unit} (h : nnI y = some u) : binA .shl (.int k x) (.int k' y) = some (.int k (k.wrap (x * 2 ^ (min y.toNat k.bits)))) := by
  unfold nnI at h
  split at h
  · cases h
  · rename_i h0
    simp [binA, h0]
theorem binSr {k k' : IntKind} {x y : Int} {u : Unit} (h : nnI y = some u) : binA .shr (.int k x) (.int k' y) = some (.int k (x.fdiv (2 ^ (min y.toNat k.bits)))) := by
  unfold nnI at h
  split at h
  · cases h
  · rename_i h0
    simp [binA, h0]
end Go.Proofs.Ytkpihepaaiofgaa
end
section
namespace Go.Proofs.Ytkpihepaaiofgaa
open Go.RowKit
set_option linter.unusedVariables false
set_option linter.unusedSimpArgs false

structure DoesTB (P : Program) (f : FuncId) (xs : List AV) (cells : List (List AV)) (K : AV → List (List AV) → List (Nat × Nat) → Prop) : Prop where
  enter : ∀ (us : Array Value) (w : World), (callFunc f us).run P w = .ok (.enter f us) w
  calls : ∀ (G : Gh) (w : World) (us : Array Value), Inv G ⟨cells, []⟩ w → VRs G xs us → Calls P f us w fun e w' => ∃ u v c' G' bx lv, K v c' lv ∧ e = .returned u ∧ VR G' v u ∧ c'.length = cells.length ∧ Inv G' ⟨c' ++ bx, lv⟩ w' ∧ Gro G ⟨cells, []⟩ w G' ⟨c' ++ bx, lv⟩ w'
theorem DoesTB.of {P : Program} {f : FuncId} {F : AFn} (hF : compFn P f = some F) {xs : List AV} {cells : List (List AV)} {K : AV → List (List AV) → List (Nat × Nat) → Prop}
    (h : Ex cells.length .plain P F.code (start F xs) ⟨cells, []⟩ fun x a' S' => (x = .norm ∨ x = .ret) ∧ ∃ v, evRes a' S' F.res = some v ∧ K v (S'.bx.take cells.length) S'.lv) : DoesTB P f xs cells K := by
  unfold compFn at hF
  split at hF
  · rename_i fn hf
    split at hF
    · rename_i c rs hb hrs
      split at hF
      · rename_i ac hac
        split at hF
        · cases hF
        · rename_i hname
          cases hF
          refine ⟨fun us w => ?_, fun G w us hI hvs => ?_⟩
          · simp only [callFunc, program, Sem.run, hf, Sem.run_bind, Result.andThen_ok, hname, hb]
            rfl
          · refine calls_of_marks hf hb ?_
            have hR : Rel G (start ⟨fn.params.size, fn.ntmps, rs, ac⟩ xs) { tmps := us ++ Array.replicate (fn.ntmps - us.size) undef, defers := [] } := by
              refine ⟨by simp [start, hvs.1], fun i y u hy hu => ?_⟩
              simp only [start] at hy
              simp only at hu
              rw [List.getElem?_append] at hy
              rw [Array.getElem?_append, hvs.1] at hu
              split at hy
              · rename_i hlt
                rw [if_pos hlt] at hu
                exact hvs.2 i y u hy hu
              · rename_i hlt
                rw [if_neg hlt] at hu
                have e1 := List.eq_of_mem_replicate (List.mem_of_getElem? hy)
                have e2 : u ∈ (Array.replicate (fn.ntmps - xs.length) undef) := Array.mem_of_getElem? hu
                have e3 := (Array.mem_replicate.1 e2).2
                rw [e1, e3]
                exact .undef G
            refine wp_mono (h (.of G ⟨cells, []⟩ w hI rfl) rfl c hac _ w ⟨G, hI, hR, .refl _ _ _, .refl _ _, .begin _ _ _ _ _⟩) ?_
            rintro e act' w' ⟨x, a', S', he, ⟨hx, v, hv, hq⟩, G', hI', hR', hg, hk, hd⟩
            have hbl := hk.bl
            obtain ⟨Ds, e1, e2, e3⟩ := hd.d
            have e1 : act'.defers = Ds.map markOf := by rw [e1]; exact List.append_nil _
            have hI' := hI'.shut e2 fun D hD => (e3 D hD).2
            have hg := hg.shut fun D hD => (e3 D hD).1.1
            obtain ⟨u, h1, h2⟩ := res_ok hI' hR' hrs hv
            obtain ⟨S'bx, S'lv⟩ := S'
            have hbx : S'bx = S'bx.take cells.length ++ S'bx.drop cells.length := by simp
            have hcl : (S'bx.take cells.length).length = cells.length := by
              rw [List.length_take]; exact Nat.min_eq_left hbl
            generalize S'bx.take cells.length = c1 at hq hbx hcl
            generalize S'bx.drop cells.length = bx at hbx
            subst hbx
            rcases hx with rfl | rfl
            · subst he; exact ⟨.inl rfl, Ds, e1, e2, fun D hD => (e3 D hD).2, u, h1, u, v, c1, G', bx, S'lv, hq, rfl, h2, hcl, hI', hg⟩
            · subst he; exact ⟨.inr rfl, Ds, e1, e2, fun D hD => (e3 D hD).2, u, h1, u, v, c1, G', bx, S'lv, hq, rfl, h2, hcl, hI', hg⟩
      · cases hF
    · cases hF
  · cases hF

structure TokB where
  f : FuncId
  gs : List AV
  cells : List (List AV)
  c1 : List (List AV)
  pre : List AV
  els : List AV
  post : List AV
  n : Nat
  s : Nat
end Go.Proofs.Ytkpihepaaiofgaa
end
section
namespace Go.Proofs.Ytkpihepaaiofgaa
open Go.RowKit
set_option linter.unusedVariables false
set_option linter.unusedSimpArgs false

theorem compCode_scope {P : Program} {code : Code} {c : ACode} (h : compCode P code = some (.scope c)) : ∃ x, code = .scope x ∧ compCode P x = some c := by
  cases code <;> simp only [compCode, reduceCtorEq] at h
  case scope x =>
    simp only [Option.map_eq_some_iff, ACode.scope.injEq] at h
    obtain ⟨c', h1, rfl⟩ := h
    exact ⟨x, rfl, h1⟩
  case seq => split at h <;> simp at h
  case cond => split at h <;> simp at h
  case region id ops draw =>
    split at h
    · split at h
      · split at h
        · split at h <;> simp at h
        · cases h
      · cases h
    · split at h
      · cases h
      · simp at h
  case rangeFunc => split at h <;> simp at h
  all_goals simp at h
theorem Ex.scope {n0 : Cx} {P : Program} {a : List AV} {S : St} {Q : AEx → List AV → St → Prop} {c : ACode} (h : Ex n0 .plain P c a S Q) : Ex n0 .plain P (.scope c) a S Q := by
  intro E hn code hc act w hA
  obtain ⟨x, rfl, h1⟩ := compCode_scope hc
  show (Code.scope x).wp P _ act w
  refine wp_scope_straight (wp_mono (h E hn x h1 act w hA) ?_)
  rintro e act' w' ⟨z, a', S', rfl, hq, hA'⟩
  cases z
  · exact ⟨.norm, a', S', rfl, hq, hA'⟩
  · exact ⟨.ex _, a', S', rfl, hq, hA'⟩
  · exact ⟨.ret, a', S', rfl, hq, hA'⟩

def caseS {α β ρ : Type} (s : α ⊕ β) (f : α → Option ρ) (g : β → Option ρ) : Option ρ := match s with
  | .inl a => f a
  | .inr b => g b
theorem ExO.castA {c : Cx} {P : Program} {a : List AV} {S : St} {R : List AV → St → Prop} {xs : List AOper} {a2 : List AV} {S2 : St} (h1 : a = a2) (h2 : S = S2) (h : ExO c P xs a2 S2 R) : ExO c P xs a S R := by rw [h1, h2]; exact h
theorem ExI.castA {c : Cx} {md : Md} {P : Program} {a : List AV} {S : St} {R : List AV → St → Prop} {xs : List AOper} {a2 : List AV} {S2 : St} (h1 : a = a2) (h2 : S = S2) (h : ExI c md P xs a2 S2 R) : ExI c md P xs a S R := by rw [h1, h2]; exact h
theorem ExO.inlY {c : Cx} {P : Program} {a : List AV} {S : St} {R : List AV → St → Prop} {x : AOper} {l : List AOper} (J : AV → St → Prop) (f : FuncId) (xs : List AV) (F : AFn) (hF : compFn P f = some F) (hn : c.n ≤ S.bx.length) (hw : wantedA x.guard a = some true) (hv : aop x.op (evd a) S = some (.call f xs)) (a1 : List AV) (he : start F xs = a1)
    (h : ∀ c1 : Cx, c1.n = S.bx.length → c1.m = S.lv.length → (∀ L' a' ps' x' y', LpOk P c L' a' ps' x' y' → LpOk P c1 L' a' ps' x' y') →
      Ex c1 .plain P F.code a1 S fun z a' S' => ∃ a2 S2, Forgets c1 a' S' a2 S2 ∧ (z = .norm ∨ z = .ret) ∧ ∃ v, evRes a2 S2 F.res = some v ∧ J v S2)
    (k : ∀ v S', J v S' → ExO c P l (putA a x.dst v) S' R) : ExO c P (x :: l) a S R := by
  refine ExO.inlJ J f xs F hF hn hw hv a1 he (fun c1 h1 h2 h3 => ?_) k
  exact Ex.postF (h c1 h1 h2 h3)

theorem ExO.callN {n0 : Cx} {P : Program} {a : List AV} {S : St} {R : List AV → St → Prop} {x : AOper} {l : List AOper} {f : FuncId} {ys : List AV} (bs : List Nat) {cells : List (List AV)} {v v' : AV} {c' : List (List AV)} (xs : List AV) (hw : wantedA x.guard a = some true) (hv : aop x.op (evd a) S = some (.call f xs)) (hbs : fpOf xs = bs) (hr : xs.mapM (ren bs) = some ys) (hc : bs.mapM (fun b => S.bx[b]?) = some cells) (hcl : (cells.all cleanL && decide bs.Nodup) = true)
    (ho : Does P f ys cells fun w c => w = v ∧ c = c') (hb : back bs.length c'.length S.bx.length v = some v') (hc' : c'.all cleanL = true)
    (h : ExO n0 P l (putA a x.dst v') ⟨setAll S.bx bs c' ++ c'.drop bs.length, S.lv⟩ R) : ExO n0 P (x :: l) a S R :=
  ExO.call hw hv hbs hr hc hcl ho (by
    rintro w c ⟨rfl, rfl⟩
    exact ⟨v', hb, hc', h⟩)
theorem drK {X : Clr} {b0 k0 : Nat} {sts : List St} {x : AOper} {l : List AOper} {a a1 : List AV} {lv : Nat} {bs ts : List Nat} (hw : wantedA x.guard a = some false) (hd : dstOk x a.length = true) (h : DrO X b0 k0 sts l (putA a x.dst (.tup [])) lv bs ts a1) : DrO X b0 k0 sts (x :: l) a lv bs ts a1 := DrO.skip hw hd h

def fadeW : AV → AV
  | .sl els t => .sl (els.map fadeS) t
  | x => x
def fadeM : List Bool → List AV → List AV
  | true :: m, x :: l => fadeW x :: fadeM m l
  | false :: m, x :: l => x :: fadeM m l
  | _, l => l
theorem fadeM_get : ∀ (m : List Bool) (l : List AV) (i : Nat) (y : AV), (fadeM m l)[i]? = some y → ∃ z, l[i]? = some z ∧ (y = z ∨ y = fadeW z)
  | [], l, i, y, h => ⟨y, by simpa [fadeM] using h, .inl rfl⟩
  | b :: m, [], i, y, h => by cases b <;> simp [fadeM] at h
  | true :: m, x :: l, 0, y, h => ⟨x, rfl, .inr (by simpa [fadeM] using h.symm)⟩
  | false :: m, x :: l, 0, y, h => ⟨x, rfl, .inl (by simpa [fadeM] using h.symm)⟩
  | true :: m, x :: l, i + 1, y, h => by
    obtain ⟨z, h1, h2⟩ := fadeM_get m l i y (by simpa [fadeM] using h)
    exact ⟨z, by simpa using h1, h2⟩
  | false :: m, x :: l, i + 1, y, h => by
    obtain ⟨z, h1, h2⟩ := fadeM_get m l i y (by simpa [fadeM] using h)
    exact ⟨z, by simpa using h1, h2⟩
theorem fadeM_len : ∀ (m : List Bool) (l : List AV), (fadeM m l).length = l.length
  | [], l => by simp [fadeM]
  | b :: m, [] => by cases b <;> simp [fadeM]
  | true :: m, x :: l => by simp [fadeM, fadeM_len m l]
  | false :: m, x :: l => by simp [fadeM, fadeM_len m l]
theorem fadeW_vr {G : Gh} {x : AV} {u : Value} (h : VR G x u) : VR G (fadeW x) u := by
  cases x with
  | sl els t => exact fadeE_vr h
  | _ => exact h
theorem boxK {n0 : Cx} {a : List AV} {S : St} (b : Nat) (cs cs' : List AV) (hb : S.bx[b]? = some cs) (hl : cs'.length = cs.length) (h : ∀ (i : Nat) y, cs'[i]? = some y → ∃ x, cs[i]? = some x ∧ ∀ (G : Gh) u, VR G x u → VR G y u) : Forgets n0 a S a ⟨S.bx.set b cs', S.lv⟩ := by
  intro E hE act w ⟨G, hI, hR, hg, hk, hd⟩
  have hblt := (List.getElem?_eq_some_iff.1 hb).1
  refine ⟨G, ⟨fun b' B c h1 h2 => ?_, hI.tok, hI.fz, fun b' B h1 => ?_, hI.dtb, hI.injA, hI.injT, hI.sep⟩, hR, ⟨hg.le, hg.os, hg.tape, hg.output, hg.size, hg.fr, hg.own, hg.oth⟩, ⟨?_, hk.ll, hk.al, hk.tb, hk.lvn⟩, hd.same rfl⟩
  · by_cases he : b' = b
    · subst he
      rw [List.getElem?_set_self hblt] at h2
      cases h2
      rcases hI.box b' B cs h1 hb with h0 | ⟨us, T, k1, k2, k3, k4⟩
      · left
        rw [h0] at hl
        exact List.eq_nil_of_length_eq_zero (by simpa using hl)
      · refine .inr ⟨us, T, k1, by omega, fun i y u hy hu => ?_, k4⟩
        obtain ⟨x, hx, hxy⟩ := h i y hy
        exact hxy G u (k3 i x u hx hu)
    · rw [List.getElem?_set_ne (Ne.symm he)] at h2
      exact hI.box b' B c h1 h2
  · have := hI.dal b' B h1
    exact ⟨by rw [List.length_set]; exact this.1, this.2⟩
  · have := hk.bl
    simpa using this
theorem fadeB {n0 : Cx} {a : List AV} {S : St} (b : Nat) (cs : List AV) (m : List Bool) (hb : S.bx[b]? = some cs) : Forgets n0 a S a ⟨S.bx.set b (fadeM m cs), S.lv⟩ := boxK b cs _ hb (fadeM_len m cs) fun i y hy => by
  obtain ⟨z, h1, rfl | rfl⟩ := fadeM_get m cs i y hy
  · exact ⟨_, h1, fun _ _ h => h⟩
  · exact ⟨z, h1, fun _ _ h => fadeW_vr h⟩

theorem blankB {n0 : Cx} {a : List AV} {S : St} (b : Nat) (cs : List AV) (n : Nat) (hb : S.bx[b]? = some cs) (hn : n = cs.length) : Forgets n0 a S a ⟨S.bx.set b (List.replicate n .junk), S.lv⟩ :=
  boxK b cs _ hb (by rw [List.length_replicate, hn]) fun i y hy => by
    rw [List.getElem?_replicate] at hy
    split at hy
    · rename_i hi
      cases hy
      exact ⟨cs[i]'(by omega), List.getElem?_eq_getElem _, fun _ _ _ => .junk _⟩
    · cases hy
theorem rep1 (z : AV) : ∀ k, rep [z] k = List.replicate k z
  | 0 => rfl
  | k + 1 => by simp [rep, List.replicate_succ, rep1 z k]
theorem flat_nils {α : Type} (g : α → AV) : ∀ k, flat ((List.replicate k ([] : List α)).map (SV g)) = List.replicate k (.sl [] none)
  | 0 => rfl
  | k + 1 => by
    have ih := flat_nils g k
    simp only [List.replicate_succ, List.map_cons, flat, List.flatMap_cons] at ih ⊢
    rw [ih]
    rfl
theorem nilsB {α : Type} {g : α → AV} {n0 : Cx} {a : List AV} {S : St} (b k : Nat) (hb : S.bx[b]? = some (rep [.nils] k)) : Forgets n0 a S a ⟨S.bx.set b (flat ((List.replicate k ([] : List α)).map (SV g))), S.lv⟩ := by
  rw [flat_nils]
  refine boxK b _ _ hb (by rw [rep1]; simp) fun i y hy => ?_
  rw [rep1]
  rw [List.getElem?_replicate] at hy ⊢
  split at hy
  · rename_i hi
    cases hy
    refine ⟨.nils, by rw [if_pos hi], fun G u h => ?_⟩
    cases h
    exact .sl0 _ _
  · cases hy
theorem ExO.lb {c : Cx} {P : Program} {a : List AV} {S : St} {R : List AV → St → Prop} {x : AOper} {l : List AOper} {s : Nat} {els : List AV} (hw : wantedA x.guard a = some true) (hv : aop x.op (evd a) S = some (.lit s els)) (hs0 : 0 < s)
    (h : ExO c P l (putA a x.dst (.ms S.bx.length els.length s)) ⟨S.bx ++ [flat els], S.lv⟩ R) : ExO c P (x :: l) a S R := by
  intro E hE ops l1 Q hco hq act w hA
  obtain ⟨o, l', rfl, hx, hl'⟩ := mapM_cons_inv hco
  obtain ⟨h1, h2, _⟩ := compOper_ok hx
  obtain ⟨G, hI, hR, hgr, hk, hdf⟩ := hA
  simp only [wpList]
  rw [if_pos (wantedA_ok hx hR hw)]
  refine .inl ?_
  have hs := step_ok h1 (fun _ => rfl) hR.opd hI hv
  obtain ⟨us, T, cc, hrun, hn, hsz, hes, hcell⟩ := hs
  have hle : els.length * s ≤ us.size := by rw [hsz]; exact Nat.mul_le_mul_right _ hn
  have hfl : (flat els).length = els.length * s := flat_len s els hes
  obtain ⟨b1, b2, b3⟩ := new_box hI (flat els ++ List.replicate (us.size - els.length * s) .junk) us T ⟨by simp [hfl]; omega, fun i y u hy hu => by
    by_cases hi : i < (flat els).length
    · rw [List.getElem?_append_left hi] at hy
      obtain ⟨e, g1, g2⟩ := flat_get s hs0 els i y hes hy
      obtain ⟨u', g3, g4⟩ := hcell _ e _ y g1 g2
      rw [show i / s * s + i % s = i by rw [Nat.mul_comm]; exact Nat.div_add_mod i s, hu] at g3
      cases g3
      exact g4
    · rw [List.getElem?_append_right (by omega), List.getElem?_replicate] at hy
      split at hy
      · cases hy; exact .junk _
      · cases hy⟩
  have hI2 : Inv (G.box S.bx.length w.heap.size) ⟨S.bx ++ [flat els], S.lv⟩ (w.alloc (.cells us T)) := by
    refine ⟨fun b' B c' h1 h2 => ?_, b2.tok, b2.fz, fun b' B h1 => ?_, b2.dtb, b2.injA, b2.injT, b2.sep⟩
    · by_cases hb : b' < S.bx.length
      · rw [List.getElem?_append_left hb] at h2
        exact b2.box b' B c' h1 (by rw [List.getElem?_append_left hb]; exact h2)
      · have hb' : b' = S.bx.length := by
          have := (b2.dal b' B h1).1
          simp at this; omega
        subst hb'
        rw [List.getElem?_append_right (Nat.le_refl _)] at h2
        simp at h2
        subst h2
        rcases b2.box _ B (flat els ++ List.replicate (us.size - els.length * s) .junk) h1 (by simp) with h0 | ⟨us', T', k1, k2, k3, k4⟩
        · exact .inl (List.append_eq_nil_iff.1 h0).1
        · refine .inr ⟨us', T', k1, by rw [List.length_append] at k2; omega, fun i y u hy hu => k3 i y u (by rw [List.getElem?_append_left (List.getElem?_eq_some_iff.1 hy).1]; exact hy) hu, k4⟩
    · have := b2.dal b' B h1
      exact ⟨by simpa using this.1, this.2⟩
  have hG2 : Gro G S w (G.box S.bx.length w.heap.size) ⟨S.bx ++ [flat els], S.lv⟩ (w.alloc (.cells us T)) := ⟨b3.le, b3.os, b3.tape, b3.output, b3.size, b3.fr, b3.own, b3.oth⟩
  unfold Oper.wp
  rw [hrun]
  simp only [Oper.upon]
  exact h E hE ops l' Q hl' hq _ _ ⟨_, hI2, h2 ▸ (hR.mono hG2.le).put x.dst (.ms _ _ _ _ _ b1 hn), hgr.trans hG2, hk.trans (Keep.box G S _ _), by cases o.dst <;> exact hdf.step hG2 (Keep.box G S _ _)⟩
def frzV (b : Nat) (cs : List AV) (x : AV) : AV := match x with
  | .ptr b' o => if b' = b ∧ o ≤ cs.length then .rop (cs.drop o) else x
  | x => x
def frzS (b : Nat) (cs : List AV) (x : AV) : AV := match x with
  | .fn f ps caps => .fn f ps (caps.map (frzV b cs))
  | x => frzV b cs x
theorem VR.frzV {G G2 : Gh} {b : Nat} {cs : List AV} {x : AV} {u : Value} (h : VR G x u) (hle : G.le G2) (hrop : ∀ B o, G.al b = some B → o ≤ cs.length → VR G2 (.rop (cs.drop o)) (.pointer (some ⟨B, o, none⟩))) : VR G2 (frzV b cs x) u := by
  unfold Proofs.Ytkpihepaaiofgaa.frzV
  split
  · split
    · rename_i hc
      obtain ⟨rfl, ho⟩ := hc
      obtain ⟨B, hB, rfl⟩ := h.inv_ptr
      exact hrop B _ hB ho
    · exact h.mono hle
  · exact h.mono hle
theorem VR.frzS {G G2 : Gh} {b : Nat} {cs : List AV} {x : AV} {u : Value} (h : VR G x u) (hle : G.le G2) (hrop : ∀ B o, G.al b = some B → o ≤ cs.length → VR G2 (.rop (cs.drop o)) (.pointer (some ⟨B, o, none⟩))) : VR G2 (frzS b cs x) u := by
  unfold Proofs.Ytkpihepaaiofgaa.frzS
  split
  · rename_i f ps caps
    obtain ⟨vs, us, rfl, hp, hl, hv⟩ := h.inv_fn
    refine .fn f ps _ vs us hp.1 (fun i z v hz hv' => (hp.2 i z v hz hv').mono hle) (by rw [List.length_map]; exact hl) fun i z v hz hv' => ?_
    rw [List.getElem?_map, Option.map_eq_some_iff] at hz
    obtain ⟨z', hz', rfl⟩ := hz
    exact (hv i z' v hz' hv').frzV hle hrop
  · exact h.frzV hle hrop
theorem chillP {n0 : Cx} {a : List AV} {S : St} (k b : Nat) (cs : List AV) (v : AV) (hk : a[k]? = some v) (hb : S.bx[b]? = some cs) : Forgets n0 a S (a.set k (frzS b cs v)) ⟨S.bx.set b [], S.lv⟩ := by
  intro E hE act w ⟨G, hI, hR, hg, hkp, hd⟩
  obtain ⟨F, hF⟩ : ∃ F : Nat → Option Value, ∀ B, G.al b = some B → (∀ o u, G.fz B o = some u → F o = some u) ∧ (∀ o u, F o = some u → w.cell? ⟨B, o, none⟩ = some u) ∧ ∀ o x, cs[o]? = some x → ∃ u, F o = some u ∧ VR G x u := by
    cases hal : G.al b with
    | none => exact ⟨fun _ => none, fun B h => by cases h⟩
    | some B =>
      rcases hI.box b B _ hal hb with h | ⟨us, T, k1, k2, k3, k4⟩
      · refine ⟨fun o => G.fz B o, fun B' hB' => ?_⟩
        cases hB'
        exact ⟨fun o u h => h, fun o u h2 => hI.fz B o u h2, fun o x hx => by rw [h] at hx; simp at hx⟩
      · refine ⟨fun o => us[o]?, fun B' h => ?_⟩
        cases h
        refine ⟨fun o u h => (by rw [k4 o] at h; cases h), fun o u h => by simp [World.cell?, k1, h], fun o x hx => ?_⟩
        have hlt : o < us.size := Nat.lt_of_lt_of_le (List.getElem?_eq_some_iff.1 hx).1 k2
        have hu : us[o]? = some us[o] := Array.getElem?_eq_getElem hlt
        exact ⟨us[o], hu, k3 o x _ hx hu⟩
  obtain ⟨G2, hG2⟩ : ∃ G2 : Gh, G2 = ⟨G.al, G.tb, fun k o => if G.al b = some k then F o else G.fz k o⟩ := ⟨_, rfl⟩
  have hal2 : G2.al = G.al := by rw [hG2]
  have htb2 : G2.tb = G.tb := by rw [hG2]
  have hfz2 : ∀ k o, G2.fz k o = if G.al b = some k then F o else G.fz k o := fun k o => by rw [hG2]
  have hle : G.le G2 := ⟨fun b B h => by rw [hal2]; exact h, fun t k v h => by rw [htb2]; exact h, fun k o u h => by
    rw [hfz2]
    split
    · rename_i hB
      exact (hF k hB).1 o u h
    · exact h⟩
  have hrop : ∀ B o, G.al b = some B → o ≤ cs.length → VR G2 (.rop (cs.drop o)) (.pointer (some ⟨B, o, none⟩)) := fun B o hB ho => by
    refine .rop _ B o (fun i => (F (o + i)).getD undef) (fun i x hx => ?_) fun i x hx => ?_
    · rw [List.getElem?_drop] at hx
      obtain ⟨u, h1, _⟩ := (hF B hB).2.2 _ x hx
      rw [hfz2, if_pos hB, h1]; rfl
    · rw [List.getElem?_drop] at hx
      obtain ⟨u, h1, h2⟩ := (hF B hB).2.2 _ x hx
      rw [h1]; exact h2.mono hle
  have hsepb : ∀ {B t k s0 s' c}, G.al b = some B → S.lv[t]? = some (k, s0) → G.tb t k = some (.blk B s' c) → False := fun h1 h2 h3 => hI.sep _ _ _ _ _ _ _ h1 h2 h3
  refine ⟨G2, ⟨?_, ?_, ?_, ?_, ?_, ?_, ?_, ?_⟩, ⟨?_, ?_⟩, ⟨hg.le.trans hle, hg.os, hg.tape, hg.output, hg.size, ?_, ?_, hg.oth⟩, ⟨?_, ?_, ?_, ?_, hkp.lvn⟩, hd.same2 hle htb2 rfl⟩
  · intro b' B c h1 h2
    rw [hal2] at h1
    by_cases hbb : b = b'
    · subst hbb
      rw [List.getElem?_set] at h2
      simp only [if_true] at h2
      split at h2
      · cases h2; exact .inl rfl
      · cases h2
    · rw [List.getElem?_set_ne hbb] at h2
      rcases hI.box b' B c h1 h2 with rfl | ⟨us, T, k1, k2, k3, k4⟩
      · exact .inl rfl
      · refine .inr ⟨us, T, k1, k2, fun i x u hx hu => (k3 i x u hx hu).mono hle, fun o => ?_⟩
        rw [hfz2, if_neg (fun h => hbb (hI.injA b b' B h h1))]
        exact k4 o
  · intro t k s0 B s' c h1 h2
    rw [htb2] at h2
    obtain ⟨e1, e2, e3, e4⟩ := hI.tok t k s0 B s' c h1 h2
    exact ⟨e1, e2, e3, fun o ho => by rw [hfz2, if_neg (fun h => hsepb h h1 h2)]; exact e4 o ho⟩
  · intro k o u h
    rw [hfz2] at h
    split at h
    · rename_i hB
      exact (hF k hB).2.1 o u h
    · exact hI.fz k o u h
  · intro b' B h
    rw [hal2] at h
    exact ⟨by rw [List.length_set]; exact (hI.dal b' B h).1, (hI.dal b' B h).2⟩
  · intro t k v h
    rw [htb2] at h
    exact hI.dtb t k v h
  · intro b1 b2 B h1 h2
    rw [hal2] at h1 h2
    exact hI.injA b1 b2 B h1 h2
  · intro t t' k k' s0 s0' B s1 s2 c c' h1 h2 h3 h4
    rw [htb2] at h3 h4
    exact hI.injT t t' k k' s0 s0' B s1 s2 c c' h1 h2 h3 h4
  · intro b' B t k s0 s' c h1 h2
    rw [hal2] at h1
    rw [htb2]
    exact hI.sep b' B t k s0 s' c h1 h2
  · rw [List.length_set]; exact hR.size
  · intro i y u hy hu
    rw [List.getElem?_set] at hy
    split at hy
    · rename_i hki
      subst hki
      split at hy
      · cases hy
        exact (hR.slot k v u hk hu).frzS hle hrop
      · cases hy
    · exact (hR.slot i y u hy hu).mono hle
  · intro B hB hno
    obtain ⟨h1, h2⟩ := hg.fr B hB hno
    refine ⟨h1, fun o => ?_⟩
    rw [hfz2, if_neg (fun h => ?_)]
    · exact h2 o
    · rcases hg.own B (.inl ⟨b, h⟩) with h' | h'
      · exact hno h'
      · omega
  · rintro B (⟨b', hb'⟩ | ⟨t, k, s0, s', c, h1, h2⟩)
    · rw [hal2] at hb'
      exact hg.own B (.inl ⟨b', hb'⟩)
    · rw [htb2] at h2
      exact hg.own B (.inr ⟨t, k, s0, s', c, h1, h2⟩)
  · simp only [List.length_set]
    exact hkp.bl
  · exact hkp.ll
  · intro b' hb' h
    rw [hal2]
    exact hkp.al b' hb' h
  · intro t ht h k
    rw [htb2]
    exact hkp.tb t ht h k

theorem compOp_cpy {P : Program} {ty : TypeId} {op : Op} {s : Nat} {d y : AOpd} (h : compOp P ty op = some (.cpy s d y)) : ∃ sd sy t e i, op = .call { callee := .builtin .copy, args := #[sd, sy], argTypes := #[t, t] } ∧ P.underlying t = some (.slice e) ∧ P.info? e = some i ∧ i.size = 1 ∧ compOpd sd = some d ∧ compOpd sy = some y := by
  unfold compOp at h
  split at h
  all_goals first
    | (rename_i args ts
       split at h
       · rename_i x y' t u ha ht0
         simp only [Option.bind_eq_bind, Option.bind_eq_some_iff, Option.pure_def] at h
         obtain ⟨e, he, i, hi, h⟩ := h
         split at h
         · rename_i hcond
           simp only [Bool.and_eq_true, decide_eq_true_eq] at hcond
           obtain ⟨htu, hs⟩ := hcond
           subst htu
           simp only [Option.bind_eq_some_iff, Option.some.injEq, AOp.cpy.injEq] at h
           obtain ⟨x', hx', y'', hy', hss, rfl, rfl⟩ := h
           have ea : args = #[x, y'] := by rw [← Array.toList_inj, ha]
           have et : ts = #[t, t] := by rw [← Array.toList_inj, ht0]
           subst ea et
           exact ⟨x, y', t, e, i, rfl, elemOf_ok he, hi, hs, hx', hy'⟩
         · cases h
       · cases h
       done)
    | (exfalso; cases h; done)
    | (exfalso; simp [Option.bind_eq_some_iff] at h; done)
    | skip
  all_goals (exfalso; revert h)
  all_goals (try (simp [Option.bind_eq_some_iff]; done))
  all_goals (repeat (first | (intro h; cases h; done) | split))
  all_goals (try (simp [Option.bind_eq_some_iff]; done))
  all_goals (try (repeat (first | (intro h; cases h; done) | split)))
  all_goals (try (intro h; simp [Option.bind_eq_some_iff] at h; done))
  all_goals (intro h; simp only [Option.bind_eq_bind, Option.bind_eq_some_iff, Option.pure_def, Option.map_eq_some_iff, Option.some.injEq, reduceCtorEq, and_false, exists_false] at h)
  all_goals (repeat' (first | (cases h; done) | (obtain ⟨_, _, h⟩ := h; try simp only [Option.bind_eq_bind, Option.bind_eq_some_iff, Option.pure_def, Option.map_eq_some_iff, Option.some.injEq, reduceCtorEq, and_false, exists_false] at h) | (simp [Option.bind_eq_some_iff] at h; done) | split at h))
def copyI {α : Type} (l : List α) (n : Nat) (src : List α) (m : Nat) : Option (List α) := if l.length = n ∧ src.length = m then some (src.take n ++ l.drop m) else none
theorem flat1 {α : Type} {f : α → AV} (hf : ∀ x, (f x).cells = [f x]) : ∀ (l : List α), flat (l.map f) = l.map f
  | [] => rfl
  | x :: l => by
    have ih := flat1 hf l
    simp only [flat, List.map_cons, List.flatMap_cons, hf] at ih ⊢
    rw [ih]
    rfl
theorem ExO.cpyL {c : Cx} {P : Program} {a : List AV} {S : St} {R : List AV → St → Prop} {x : AOper} {l : List AOper} {α : Type} {f : α → AV} {s : Nat} {d y : AOpd} (b n b2 m : Nat) (l0 src : List α) {r : List α} (hf : ∀ x, (f x).cells = [f x]) (hfs : ∀ x, (f x).scalar = true) (hw : wantedA x.guard a = some true) (ho : x.op = .cpy s d y) (hd : evd a d = .ms b n s) (hy : evd a y = .ms b2 m s) (hb : S.bx[b]? = some (flat (l0.map f))) (hb2 : S.bx[b2]? = some (src.map f)) (h0 : copyI l0 n src m = some r)
    (h : ExO c P l (putA a x.dst (.int .i64 ((min m n : Nat) : Int))) ⟨S.bx.set b (flat (r.map f)), S.lv⟩ R) : ExO c P (x :: l) a S R := by
  unfold copyI at h0
  split at h0
  case isFalse => cases h0
  rename_i hnm
  obtain ⟨hn, hm⟩ := hnm
  cases h0
  rw [flat1 hf] at hb h
  intro E hE ops l1 Q hco hq act w hA
  obtain ⟨o, l', rfl, hx, hl'⟩ := mapM_cons_inv hco
  obtain ⟨h1, h2, _⟩ := compOper_ok hx
  obtain ⟨G, hI, hR, hgr, hk, hdf⟩ := hA
  obtain ⟨sd, sy, t, e, i, hop, hu, hi, hi1, hsd, hsy⟩ := compOp_cpy (ho ▸ h1)
  simp only [wpList]
  rw [if_pos (wantedA_ok hx hR hw)]
  refine .inl ?_
  have v1 := hR.opd sd d hsd
  have v2 := hR.opd sy y hsy
  rw [hd] at v1
  rw [hy] at v2
  have hsz : (P.info? e).map (·.size) = some 1 := by rw [hi]; simp [hi1]
  have hblt := (List.getElem?_eq_some_iff.1 hb).1
  have fin0 : min m n = 0 → ∀ (p1 p2 : Option Addr) (c1 c2 : Nat), act.eval sd = .slice p1 n c1 → act.eval sy = .slice p2 m c2 → Oper.wp P o act w (fun act' w' => wpList P ops Q l' act' w') Q := by
    intro hmin p1 p2 c1 c2 e1 e2
    have hrun := run_copy_none (P := P) w t t o.type e p1 p2 n c1 m c2 hu hsz (by simpa using hmin)
    have hsame : src.take n ++ l0.drop m = l0 := by
      by_cases hm0 : m = 0
      · obtain rfl : src = [] := List.eq_nil_of_length_eq_zero (by omega)
        rw [hm0]; simp
      · obtain rfl : l0 = [] := List.eq_nil_of_length_eq_zero (by omega)
        have hn0 : n = 0 := by omega
        rw [hn0]; simp
    have hset : (⟨S.bx.set b ((src.take n ++ l0.drop m).map f), S.lv⟩ : St) = S := by
      rw [hsame]
      have : S.bx.set b (l0.map f) = S.bx := by
        apply List.ext_getElem?
        intro k
        rw [List.getElem?_set]
        split
        · rename_i hk
          subst hk
          exact hb.symm
        · rfl
      rw [this]
    rw [hset, hmin] at h
    unfold Oper.wp
    simp only [execOp, hop, resolve, invoke, builtin]
    simp [e1, e2, hrun, Result.andThen]
    exact h E hE ops l' Q hl' hq _ _ ⟨G, hI, h2 ▸ hR.put x.dst (.int _ _), hgr, hk, by cases o.dst <;> exact hdf⟩
  rcases v1.inv_ms with ⟨B1, c1, hB1, e1, hc1⟩ | ⟨hn0, p1, c1, e1⟩
  · rcases v2.inv_ms with ⟨B2, c2, hB2, e2, hc2⟩ | ⟨hm0, p2, c2, e2⟩
    · by_cases hmin : min m n = 0
      · exact fin0 hmin _ _ _ _ e1 e2
      · rcases hI.box b B1 _ hB1 hb with h0 | ⟨us, T, k1, k2, k3, k4⟩
        · rw [List.map_eq_nil_iff.1 h0] at hn
          simp at hn; omega
        rcases hI.box b2 B2 _ hB2 hb2 with h0 | ⟨us2, T2, q1, q2, q3, q4⟩
        · rw [List.map_eq_nil_iff.1 h0] at hm
          simp at hm; omega
        rw [List.length_map] at k2 q2
        obtain ⟨vs, hvs⟩ : ∃ vs, vs = us2.toList.take (min m n) := ⟨_, rfl⟩
        have hvl : vs.length = min m n := by rw [hvs, List.length_take, Array.length_toList]; omega
        have hvg : ∀ (j : Nat) v, vs[j]? = some v → us2[j]? = some v ∧ j < min m n := fun j v hj => by
          have hlt := (List.getElem?_eq_some_iff.1 hj).1
          rw [hvs, List.getElem?_take_of_lt (by omega)] at hj
          exact ⟨by simpa using hj, by omega⟩
        have hrun := run_copy_row (P := P) w t t o.type e B1 0 n c1 ⟨B2, 0, none⟩ m c2 us T vs hu hsz k1 (by simpa using hvl) (fun j v hj => by
          rw [Addr.add_lit, Nat.zero_add]
          simp [World.cell?, q1, (hvg j v hj).1]) (by omega) (fun v hv => by
          obtain ⟨j, hj⟩ := List.mem_iff_getElem?.1 hv
          obtain ⟨g1, g2⟩ := hvg j v hj
          have hjs : j < src.length := by omega
          exact (q3 j (f src[j]) v (by rw [List.getElem?_map, List.getElem?_eq_getElem hjs]; rfl) g1).scalar (hfs _))
        obtain ⟨usN, hN⟩ : ∃ usN, usN = (us.toList.take 0 ++ vs ++ us.toList.drop (0 + vs.length)).toArray := ⟨_, rfl⟩
        rw [← hN] at hrun
        have hNg : ∀ i : Nat, usN[i]? = if i < min m n then us2[i]? else us[i]? := fun i => by
          rw [hN, List.getElem?_toArray, List.take_zero, List.nil_append, Nat.zero_add]
          by_cases hi : i < min m n
          · rw [if_pos hi, List.getElem?_append_left (by omega), hvs, List.getElem?_take_of_lt hi]
            simp
          · rw [if_neg hi, List.getElem?_append_right (by omega), List.getElem?_drop, show vs.length + (i - vs.length) = i by omega]
            simp
        obtain ⟨p1, p2⟩ := put_box hI hB1 k1 hb (cs := (src.take n ++ l0.drop m).map f) (us := usN) ⟨by
          have : usN.size = us.size := by rw [hN]; simp; omega
          rw [this, List.length_map, List.length_append, List.length_take, List.length_drop]; omega, fun i z v hz hv => by
          rw [List.getElem?_map, Option.map_eq_some_iff] at hz
          obtain ⟨y', hy', rfl⟩ := hz
          rw [hNg] at hv
          by_cases hi : i < min m n
          · rw [if_pos hi] at hv
            rw [List.getElem?_append_left (by rw [List.length_take]; omega), List.getElem?_take_of_lt (by omega)] at hy'
            exact q3 i _ v (by rw [List.getElem?_map, hy']; rfl) hv
          · rw [if_neg hi] at hv
            have hlt := (List.getElem?_eq_some_iff.1 hy').1
            rw [List.length_append, List.length_take, List.length_drop] at hlt
            have hmn : m < n := by omega
            rw [List.getElem?_append_right (by rw [List.length_take]; omega), List.length_take, List.getElem?_drop, show m + (i - min n src.length) = i by omega] at hy'
            exact k3 i _ v (by rw [List.getElem?_map, hy']; rfl) hv⟩ k4
        unfold Oper.wp
        simp only [execOp, hop, resolve, invoke, builtin]
        simp [e1, e2, hrun, Result.andThen]
        refine h E hE ops l' Q hl' hq _ _ ⟨G, p1, h2 ▸ hR.put x.dst (by rw [hvl]; exact .int _ _), hgr.trans p2, hk.trans (Keep.put G S b _), by cases o.dst <;> exact hdf.step p2 (Keep.put G S b _)⟩
    · exact fin0 (by omega) _ _ _ _ e1 (by rw [hm0]; exact e2)
  · rcases v2.inv_ms with ⟨B2, c2, hB2, e2, hc2⟩ | ⟨hm0, p2, c2, e2⟩
    · exact fin0 (by omega) _ _ _ _ (by rw [hn0]; exact e1) e2
    · exact fin0 (by omega) _ _ _ _ (by rw [hn0]; exact e1) (by rw [hm0]; exact e2)
theorem re1_clean {x : AV} (h : x.clean = true) (n : Nat) (σ : List Nat) : re1 n σ x = some x := by
  cases x with
  | ptr b o => simp [AV.clean] at h
  | ms b k s => simp [AV.clean] at h
  | yld l t => rfl
  | sl els t => cases t with
    | none => simp [re1, h]
    | some t => simp [AV.clean] at h
  | _ => simp [re1, h]
theorem re_clean {x : AV} (h : x.clean = true) (n : Nat) (σ : List Nat) : re n σ x = some x := by
  cases x with
  | agg cs =>
    simp only [re]
    rw [mapM_id cs fun y hy => re1_clean (cleanL_iff.1 (by simpa [AV.clean] using h) y hy) n σ]
    rfl
  | tup cs =>
    simp only [re]
    rw [mapM_id cs fun y hy => re1_clean (cleanL_iff.1 (by simpa [AV.clean] using h) y hy) n σ]
    rfl
  | fn f ps cs =>
    simp only [AV.clean, Bool.and_eq_true] at h
    simp only [re]
    rw [mapM_id ps fun y hy => re1_clean (cleanL_iff.1 h.1 y hy) n σ, mapM_id cs fun y hy => re1_clean (cleanL_iff.1 h.2 y hy) n σ]
    rfl
  | _ => exact re1_clean h n σ
theorem flat_reC {α : Type} {f : α → AV} (h : ∀ x, ∀ c ∈ (f x).cells, c.clean = true) (n : Nat) (σ : List Nat) (l : List α) : (flat (l.map f)).mapM (re n σ) = some (flat (l.map f)) :=
  mapM_id _ fun c hc => by
    obtain ⟨e, he, hce⟩ := List.mem_flatMap.1 hc
    obtain ⟨x, _, rfl⟩ := List.mem_map.1 he
    have h1 := h x c hce
    exact re_clean h1 n σ
theorem stHole {α : Type} {f : α → AV} (l : List α) (off : Nat) (i : Int) (x : α) (m : AV) (hs : ∀ x, (f x).cells.length = 1) (hx : l[i.toNat]? = some x) (ho : off = i.toNat) : off + 1 ≤ (flat (l.map f)).length ∧ layAt (flat (l.map f)) off [m] = layAt (flat (l.map f)) off [m] := by
  have := (List.getElem?_eq_some_iff.1 hx).1
  refine ⟨?_, rfl⟩
  rw [flat_lenF hs]; omega
theorem ldHole {α : Type} {f : α → AV} (l : List α) (off : Nat) (i : Int) (x : α) (m : AV) (hs : ∀ x, (f x).cells.length = 1) (hx : l[i.toNat]? = some x) (ho : off = i.toNat) : takeCells (layAt (flat (l.map f)) off [m]) off none = some m := by
  have := (List.getElem?_eq_some_iff.1 hx).1
  simp only [takeCells, layAt]
  rw [List.getElem?_set_self]
  rw [flat_lenF hs]; omega
theorem chillH {α : Type} {g : α → AV} {n0 : Cx} {a : List AV} {S : St} (b b2 n s off : Nat) (i : Int) (r : List α) (l : List (List α)) {u : Unit} {x : List α} (hn : lenI r n = some u) (hb : S.bx[b]? = some (flat (r.map g))) (hs : ∀ x, (g x).cells.length = s) (hx : l[i.toNat]? = some x) (ho : off = i.toNat) (h2 : S.bx[b2]? = some (layAt (flat (l.map (SV g))) off [.ms b n s])) (hbb : b ≠ b2) : Forgets n0 a S a ⟨(S.bx.set b []).set b2 (flat ((l.set i.toNat r).map (SV g))), S.lv⟩ := by
  subst ho
  have hlt := (List.getElem?_eq_some_iff.1 hx).1
  have hc : ∀ x : List α, (SV g x).cells = [SV g x] := fun _ => rfl
  have key := chillX (n0 := n0) (a := a) (S := S) b b2 i.toNat n s r _ hn hb hs h2 hbb (by
    simp only [layAt]
    rw [List.getElem?_set_self]
    rw [flat1 hc, List.length_map]; exact hlt)
  have e : (layAt (flat (l.map (SV g))) i.toNat [AV.ms b n s]).set i.toNat (.sl (r.map g) none) = flat ((l.set i.toNat r).map (SV g)) := by
    simp only [layAt]
    rw [List.set_set, flat1 hc, flat1 hc, List.map_set]
    rfl
  rw [e] at key
  exact key
end Go.Proofs.Ytkpihepaaiofgaa
end
section
namespace Go.Proofs.Ytkpihepaaiofgaa
set_option linter.unusedVariables false
set_option maxRecDepth 100000

def F6 : AFn := ⟨1, 198, [.tmp 2], (.seq (.reg [⟨some 2, .mov (.con (.bool false)), none⟩]) (.seq (.reg [⟨some 15, .mov (.tmp 0), none⟩, ⟨some 16, .call (.con (.fn 15 [] [])) [(.tmp 15)], none⟩, ⟨some 3, .mov (.tmp 16), none⟩]) (.seq (.reg [⟨some 17, .mov (.tmp 3), none⟩, ⟨some 18, .mov (.tmp 3), none⟩, ⟨some 19, .bsl 1 false [.int .i64 0] 3 [(0, (.con (.int .i64 10))), (1, (.con (.int .i64 100))), (2, (.con (.int .i64 100000)))], none⟩, ⟨some 20, .call (.con (.fn 17 [] [])) [(.tmp 18), (.tmp 19)], none⟩, ⟨some 21, .call (.con (.fn 16 [] [])) [(.tmp 17), (.con (.int .i64 6)), (.con (.int .i64 6)), (.tmp 20)], none⟩, ⟨some 4, .box (.con (.agg [.nils, .nils])), none⟩, ⟨none, .store 2 (.tmp 4) (.tmp 21), none⟩]) (.seq (.reg [⟨some 23, .load (some 2) (.tmp 4), none⟩, ⟨some 24, .call (.con (.fn 20 [] [])) [(.tmp 23)], none⟩, ⟨some 22, .mov (.tmp 24), none⟩, ⟨some 25, .ext (.tmp 22) 0, none⟩, ⟨some 26, .ext (.tmp 22) 1, none⟩, ⟨some 5, .mov (.tmp 25), none⟩, ⟨some 6, .mov (.tmp 26), none⟩]) (.seq (.seq (.reg [⟨some 27, .mov (.tmp 6), none⟩, ⟨some 28, .bin .neq (.tmp 27) (.con (.int .i64 0)), none⟩]) (.cond (.tmp 28) (.seq (.reg [⟨some 29, .mov (.tmp 6), none⟩, ⟨some 30, .bin .eql (.tmp 29) (.con (.int .i64 4)), none⟩, ⟨some 31, .mov (.tmp 30), none⟩, ⟨some 32, .call (.con (.fn 14 [] [])) [], some (31, true)⟩, ⟨some 33, .pick (.tmp 31) (.tmp 32) (.con (.bool false)), none⟩, ⟨some 2, .mov (.tmp 33), none⟩]) .ret) .skip)) (.seq (.seq (.reg [⟨some 34, .load (some 2) (.tmp 4), none⟩, ⟨some 35, .mov (.tmp 5), none⟩, ⟨some 36, .call (.con (.fn 36 [] [])) [(.tmp 34), (.tmp 35)], none⟩, ⟨some 37, .un .not (.tmp 36), none⟩]) (.cond (.tmp 37) (.seq (.reg [⟨some 2, .mov (.con (.bool false)), none⟩]) .ret) .skip)) (.seq (.reg [⟨some 38, .faddr (.tmp 4) 0, none⟩, ⟨some 39, .load none (.tmp 38), none⟩, ⟨some 40, .len false (.tmp 39), none⟩, ⟨some 41, .mksl 1 false [.int .i64 0] 8 (.tmp 40) (.tmp 40), none⟩, ⟨some 7, .mov (.tmp 41), none⟩]) (.seq (.seq (.reg [⟨some 8, .mov (.con (.int .i64 0)), none⟩]) (.block 0 (.loop (.seq (.seq (.reg [⟨some 42, .mov (.tmp 8), none⟩, ⟨some 43, .faddr (.tmp 4) 0, none⟩, ⟨some 44, .load none (.tmp 43), none⟩, ⟨some 45, .len false (.tmp 44), none⟩, ⟨some 46, .bin .lss (.tmp 42) (.tmp 45), none⟩]) (.cond (.tmp 46) .skip (.exit 0))) (.seq (.block 1 (.reg [⟨some 49, .mov (.tmp 7), none⟩, ⟨some 50, .mov (.tmp 8), none⟩, ⟨some 51, .faddr (.tmp 4) 0, none⟩, ⟨some 52, .load none (.tmp 51), none⟩, ⟨some 53, .mov (.tmp 8), none⟩, ⟨some 54, .iaddr (.tmp 52) (.tmp 53) 4 none, none⟩, ⟨some 55, .faddr (.tmp 54) 2, none⟩, ⟨some 56, .load none (.tmp 55), none⟩, ⟨some 57, .iaddr (.tmp 49) (.tmp 50) 1 none, none⟩, ⟨none, .store 1 (.tmp 57) (.tmp 56), none⟩])) (.reg [⟨some 47, .mov (.tmp 8), none⟩, ⟨some 48, .bin .add (.tmp 47) (.con (.int .i64 1)), none⟩, ⟨some 8, .mov (.tmp 48), none⟩])))))) (.seq (.seq (.reg [⟨some 9, .mov (.con (.int .i64 0)), none⟩]) (.block 2 (.loop (.seq (.seq (.reg [⟨some 58, .mov (.tmp 9), none⟩, ⟨some 59, .mov (.tmp 5), none⟩, ⟨some 60, .len false (.tmp 59), none⟩, ⟨some 61, .bin .lss (.tmp 58) (.tmp 60), none⟩]) (.cond (.tmp 61) .skip (.exit 2))) (.seq (.block 3 (.seq (.seq (.dreg 11 [⟨some 64, .mov (.tmp 5), none⟩, ⟨some 65, .mov (.tmp 9), none⟩, ⟨some 66, .iaddr (.tmp 64) (.tmp 65) 1 none, none⟩, ⟨some 67, .load none (.tmp 66), none⟩, ⟨some 68, .call (.con (.fn 37 [] [])) [(.tmp 67)], none⟩, ⟨some 69, .faddr (.tmp 4) 1, none⟩, ⟨some 70, .load none (.tmp 69), none⟩, ⟨some 71, .mov (.tmp 9), none⟩, ⟨some 72, .iaddr (.tmp 70) (.tmp 71) 3 none, none⟩, ⟨some 73, .faddr (.tmp 72) 2, none⟩, ⟨some 74, .load none (.tmp 73), none⟩, ⟨some 75, .bin .neq (.tmp 68) (.tmp 74), none⟩]) (.cond (.tmp 75) (.seq (.reg [⟨some 2, .mov (.con (.bool false)), none⟩]) .ret) .skip)) (.seq (.reg [⟨some 10, .mov (.con (.int .i64 0)), none⟩]) (.block 4 (.loop (.seq (.seq (.reg [⟨some 76, .mov (.tmp 10), none⟩, ⟨some 77, .mov (.tmp 5), none⟩, ⟨some 78, .mov (.tmp 9), none⟩, ⟨some 79, .iaddr (.tmp 77) (.tmp 78) 1 none, none⟩, ⟨some 80, .load none (.tmp 79), none⟩, ⟨some 81, .len false (.tmp 80), none⟩, ⟨some 82, .bin .lss (.tmp 76) (.tmp 81), none⟩]) (.cond (.tmp 82) .skip (.exit 4))) (.seq (.block 5 (.seq (.dreg 14 [⟨some 85, .mov (.tmp 7), none⟩, ⟨some 86, .mov (.tmp 10), none⟩, ⟨some 87, .mov (.tmp 7), none⟩, ⟨some 88, .mov (.tmp 10), none⟩, ⟨some 89, .iaddr (.tmp 87) (.tmp 88) 1 none, none⟩, ⟨some 90, .load none (.tmp 89), none⟩, ⟨some 91, .mov (.tmp 5), none⟩, ⟨some 92, .mov (.tmp 9), none⟩, ⟨some 93, .iaddr (.tmp 91) (.tmp 92) 1 none, none⟩, ⟨some 94, .load none (.tmp 93), none⟩, ⟨some 95, .mov (.tmp 10), none⟩, ⟨some 96, .iaddr (.tmp 94) (.tmp 95) 1 none, none⟩, ⟨some 97, .load none (.tmp 96), none⟩, ⟨some 98, .bin .sub (.tmp 90) (.tmp 97), none⟩, ⟨some 99, .iaddr (.tmp 85) (.tmp 86) 1 none, none⟩, ⟨none, .store 1 (.tmp 99) (.tmp 98), none⟩]) (.seq (.dreg 28 [⟨some 100, .mov (.tmp 5), none⟩, ⟨some 101, .mov (.tmp 9), none⟩, ⟨some 102, .iaddr (.tmp 100) (.tmp 101) 1 none, none⟩, ⟨some 103, .load none (.tmp 102), none⟩, ⟨some 104, .mov (.tmp 10), none⟩, ⟨some 105, .iaddr (.tmp 103) (.tmp 104) 1 none, none⟩, ⟨some 106, .load none (.tmp 105), none⟩, ⟨some 107, .bin .lss (.tmp 106) (.con (.int .i64 0)), none⟩, ⟨some 108, .mov (.tmp 107), none⟩, ⟨some 109, .mov (.tmp 5), some (108, false)⟩, ⟨some 110, .mov (.tmp 9), some (108, false)⟩, ⟨some 111, .iaddr (.tmp 109) (.tmp 110) 1 none, some (108, false)⟩, ⟨some 112, .load none (.tmp 111), some (108, false)⟩, ⟨some 113, .mov (.tmp 10), some (108, false)⟩, ⟨some 114, .iaddr (.tmp 112) (.tmp 113) 1 none, some (108, false)⟩, ⟨some 115, .load none (.tmp 114), some (108, false)⟩, ⟨some 116, .bin .gtr (.tmp 115) (.con (.int .i64 0)), some (108, false)⟩, ⟨some 117, .mov (.tmp 116), some (108, false)⟩, ⟨some 118, .faddr (.tmp 4) 0, some (117, true)⟩, ⟨some 119, .load none (.tmp 118), some (117, true)⟩, ⟨some 120, .mov (.tmp 10), some (117, true)⟩, ⟨some 121, .iaddr (.tmp 119) (.tmp 120) 4 none, some (117, true)⟩, ⟨some 122, .load (some 4) (.tmp 121), some (117, true)⟩, ⟨some 123, .faddr (.tmp 4) 1, some (117, true)⟩, ⟨some 124, .load none (.tmp 123), some (117, true)⟩, ⟨some 125, .mov (.tmp 9), some (117, true)⟩, ⟨some 126, .iaddr (.tmp 124) (.tmp 125) 3 none, some (117, true)⟩, ⟨some 127, .load (some 3) (.tmp 126), some (117, true)⟩, ⟨some 128, .call (.con (.fn 38 [] [])) [(.tmp 122), (.tmp 127)], some (117, true)⟩, ⟨some 129, .un .not (.tmp 128), some (117, true)⟩, ⟨some 130, .pick (.tmp 117) (.tmp 129) (.con (.bool false)), some (108, false)⟩, ⟨some 131, .pick (.tmp 108) (.con (.bool true)) (.tmp 130), none⟩]) (.cond (.tmp 131) (.seq (.reg [⟨some 2, .mov (.con (.bool false)), none⟩]) .ret) .skip)))) (.reg [⟨some 83, .mov (.tmp 10), none⟩, ⟨some 84, .bin .add (.tmp 83) (.con (.int .i64 1)), none⟩, ⟨some 10, .mov (.tmp 84), none⟩])))))))) (.reg [⟨some 62, .mov (.tmp 9), none⟩, ⟨some 63, .bin .add (.tmp 62) (.con (.int .i64 1)), none⟩, ⟨some 9, .mov (.tmp 63), none⟩])))))) (.seq (.seq (.reg [⟨some 11, .mov (.con (.int .i64 0)), none⟩]) (.block 6 (.loop (.seq (.seq (.reg [⟨some 132, .mov (.tmp 11), none⟩, ⟨some 133, .mov (.tmp 7), none⟩, ⟨some 134, .len false (.tmp 133), none⟩, ⟨some 135, .bin .lss (.tmp 132) (.tmp 134), none⟩]) (.cond (.tmp 135) .skip (.exit 6))) (.seq (.block 7 (.seq (.reg [⟨some 138, .mov (.tmp 7), none⟩, ⟨some 139, .mov (.tmp 11), none⟩, ⟨some 140, .iaddr (.tmp 138) (.tmp 139) 1 none, none⟩, ⟨some 141, .load none (.tmp 140), none⟩, ⟨some 142, .bin .lss (.tmp 141) (.con (.int .i64 0)), none⟩]) (.cond (.tmp 142) (.seq (.reg [⟨some 2, .mov (.con (.bool false)), none⟩]) .ret) .skip))) (.reg [⟨some 136, .mov (.tmp 11), none⟩, ⟨some 137, .bin .add (.tmp 136) (.con (.int .i64 1)), none⟩, ⟨some 11, .mov (.tmp 137), none⟩])))))) (.seq (.seq (.reg [⟨some 12, .mov (.con (.int .i64 0)), none⟩]) (.block 8 (.loop (.seq (.seq (.reg [⟨some 143, .mov (.tmp 12), none⟩, ⟨some 144, .mov (.tmp 5), none⟩, ⟨some 145, .len false (.tmp 144), none⟩, ⟨some 146, .bin .lss (.tmp 143) (.tmp 145), none⟩]) (.cond (.tmp 146) .skip (.exit 8))) (.seq (.block 9 (.seq (.reg [⟨some 13, .mov (.con (.int .i64 0)), none⟩]) (.block 10 (.loop (.seq (.seq (.reg [⟨some 149, .mov (.tmp 13), none⟩, ⟨some 150, .mov (.tmp 5), none⟩, ⟨some 151, .mov (.tmp 12), none⟩, ⟨some 152, .iaddr (.tmp 150) (.tmp 151) 1 none, none⟩, ⟨some 153, .load none (.tmp 152), none⟩, ⟨some 154, .len false (.tmp 153), none⟩, ⟨some 155, .bin .lss (.tmp 149) (.tmp 154), none⟩]) (.cond (.tmp 155) .skip (.exit 10))) (.seq (.block 11 (.seq (.reg [⟨some 158, .mov (.tmp 13), none⟩, ⟨some 159, .bin .add (.tmp 158) (.con (.int .i64 1)), none⟩, ⟨some 14, .mov (.tmp 159), none⟩]) (.block 12 (.loop (.seq (.seq (.reg [⟨some 160, .mov (.tmp 14), none⟩, ⟨some 161, .mov (.tmp 5), none⟩, ⟨some 162, .mov (.tmp 12), none⟩, ⟨some 163, .iaddr (.tmp 161) (.tmp 162) 1 none, none⟩, ⟨some 164, .load none (.tmp 163), none⟩, ⟨some 165, .len false (.tmp 164), none⟩, ⟨some 166, .bin .lss (.tmp 160) (.tmp 165), none⟩]) (.cond (.tmp 166) .skip (.exit 12))) (.seq (.block 13 (.seq (.dreg 26 [⟨some 169, .mov (.tmp 5), none⟩, ⟨some 170, .mov (.tmp 12), none⟩, ⟨some 171, .iaddr (.tmp 169) (.tmp 170) 1 none, none⟩, ⟨some 172, .load none (.tmp 171), none⟩, ⟨some 173, .mov (.tmp 14), none⟩, ⟨some 174, .iaddr (.tmp 172) (.tmp 173) 1 none, none⟩, ⟨some 175, .load none (.tmp 174), none⟩, ⟨some 176, .bin .gtr (.tmp 175) (.con (.int .i64 0)), none⟩, ⟨some 177, .mov (.tmp 176), none⟩, ⟨some 178, .mov (.tmp 7), some (177, true)⟩, ⟨some 179, .mov (.tmp 13), some (177, true)⟩, ⟨some 180, .iaddr (.tmp 178) (.tmp 179) 1 none, some (177, true)⟩, ⟨some 181, .load none (.tmp 180), some (177, true)⟩, ⟨some 182, .bin .gtr (.tmp 181) (.con (.int .i64 0)), some (177, true)⟩, ⟨some 183, .pick (.tmp 177) (.tmp 182) (.con (.bool false)), none⟩, ⟨some 184, .mov (.tmp 183), none⟩, ⟨some 185, .faddr (.tmp 4) 0, some (184, true)⟩, ⟨some 186, .load none (.tmp 185), some (184, true)⟩, ⟨some 187, .mov (.tmp 13), some (184, true)⟩, ⟨some 188, .iaddr (.tmp 186) (.tmp 187) 4 none, some (184, true)⟩, ⟨some 189, .load (some 4) (.tmp 188), some (184, true)⟩, ⟨some 190, .faddr (.tmp 4) 1, some (184, true)⟩, ⟨some 191, .load none (.tmp 190), some (184, true)⟩, ⟨some 192, .mov (.tmp 12), some (184, true)⟩, ⟨some 193, .iaddr (.tmp 191) (.tmp 192) 3 none, some (184, true)⟩, ⟨some 194, .load (some 3) (.tmp 193), some (184, true)⟩, ⟨some 195, .call (.con (.fn 38 [] [])) [(.tmp 189), (.tmp 194)], some (184, true)⟩, ⟨some 196, .pick (.tmp 184) (.tmp 195) (.con (.bool false)), none⟩]) (.cond (.tmp 196) (.seq (.reg [⟨some 2, .mov (.con (.bool false)), none⟩]) .ret) .skip))) (.reg [⟨some 167, .mov (.tmp 14), none⟩, ⟨some 168, .bin .add (.tmp 167) (.con (.int .i64 1)), none⟩, ⟨some 14, .mov (.tmp 168), none⟩]))))))) (.reg [⟨some 156, .mov (.tmp 13), none⟩, ⟨some 157, .bin .add (.tmp 156) (.con (.int .i64 1)), none⟩, ⟨some 13, .mov (.tmp 157), none⟩]))))))) (.reg [⟨some 147, .mov (.tmp 12), none⟩, ⟨some 148, .bin .add (.tmp 147) (.con (.int .i64 1)), none⟩, ⟨some 12, .mov (.tmp 148), none⟩])))))) (.seq (.reg [⟨some 197, .call (.con (.fn 14 [] [])) [], none⟩, ⟨some 2, .mov (.tmp 197), none⟩]) .ret))))))))))))⟩
theorem comp6 : compFn Try.prog 6 = some F6 := by kernel_rfl
def F14 : AFn := ⟨0, 69, [.tmp 0], (.seq (.reg [⟨some 0, .mov (.con (.bool false)), none⟩]) (.seq (.reg [⟨some 11, .call (.con (.fn 47 [] [])) [], none⟩, ⟨some 12, .call (.con (.fn 20 [] [])) [(.tmp 11)], none⟩, ⟨some 10, .mov (.tmp 12), none⟩, ⟨some 13, .ext (.tmp 10) 0, none⟩, ⟨some 14, .ext (.tmp 10) 1, none⟩, ⟨some 1, .mov (.tmp 13), none⟩, ⟨some 2, .mov (.tmp 14), none⟩]) (.seq (.reg [⟨some 16, .call (.con (.fn 48 [] [])) [(.con (.int .i64 1101))], none⟩, ⟨some 17, .call (.con (.fn 22 [] [])) [(.tmp 16)], none⟩, ⟨some 15, .mov (.tmp 17), none⟩, ⟨some 18, .ext (.tmp 15) 0, none⟩, ⟨some 19, .ext (.tmp 15) 1, none⟩, ⟨some 3, .mov (.tmp 18), none⟩, ⟨some 4, .mov (.tmp 19), none⟩]) (.seq (.reg [⟨some 21, .call (.con (.fn 47 [] [])) [], none⟩, ⟨some 22, .call (.con (.fn 24 [] [])) [(.tmp 21), (.con (.int .i64 1))], none⟩, ⟨some 20, .mov (.tmp 22), none⟩, ⟨some 23, .ext (.tmp 20) 0, none⟩, ⟨some 24, .ext (.tmp 20) 1, none⟩, ⟨some 5, .box (.con (.agg [.int .i64 0, .int .i64 0])), none⟩, ⟨none, .store 2 (.tmp 5) (.tmp 23), none⟩, ⟨some 6, .mov (.tmp 24), none⟩]) (.seq (.reg [⟨some 26, .bsl 1 false [.int .i64 0] 3 [(0, (.con (.int .i64 3))), (1, (.con (.int .i64 0))), (2, (.con (.int .i64 2)))], none⟩, ⟨some 27, .bsl 1 false [.int .i64 0] 3 [(0, (.con (.int .i64 7))), (1, (.con (.int .i64 1))), (2, (.con (.int .i64 6)))], none⟩, ⟨some 28, .call (.con (.fn 32 [] [])) [(.tmp 26), (.tmp 27)], none⟩, ⟨some 25, .mov (.tmp 28), none⟩, ⟨some 29, .ext (.tmp 25) 0, none⟩, ⟨some 30, .ext (.tmp 25) 1, none⟩, ⟨some 31, .ext (.tmp 25) 2, none⟩, ⟨some 7, .mov (.tmp 29), none⟩, ⟨some 8, .mov (.tmp 30), none⟩, ⟨some 9, .mov (.tmp 31), none⟩]) (.seq (.dreg 35 [⟨some 32, .mov (.tmp 2), none⟩, ⟨some 33, .bin .eql (.tmp 32) (.con (.int .i64 0)), none⟩, ⟨some 34, .mov (.tmp 33), none⟩, ⟨some 35, .mov (.tmp 4), some (34, true)⟩, ⟨some 36, .bin .eql (.tmp 35) (.con (.int .i64 0)), some (34, true)⟩, ⟨some 37, .pick (.tmp 34) (.tmp 36) (.con (.bool false)), none⟩, ⟨some 38, .mov (.tmp 37), none⟩, ⟨some 39, .mov (.tmp 6), some (38, true)⟩, ⟨some 40, .bin .eql (.tmp 39) (.con (.int .i64 0)), some (38, true)⟩, ⟨some 41, .pick (.tmp 38) (.tmp 40) (.con (.bool false)), none⟩, ⟨some 42, .mov (.tmp 41), none⟩, ⟨some 43, .mov (.tmp 9), some (42, true)⟩, ⟨some 44, .bin .eql (.tmp 43) (.con (.int .i64 0)), some (42, true)⟩, ⟨some 45, .pick (.tmp 42) (.tmp 44) (.con (.bool false)), none⟩, ⟨some 46, .mov (.tmp 45), none⟩, ⟨some 47, .mov (.tmp 7), some (46, true)⟩, ⟨some 48, .bin .eql (.tmp 47) (.con (.int .i64 4)), some (46, true)⟩, ⟨some 49, .pick (.tmp 46) (.tmp 48) (.con (.bool false)), none⟩, ⟨some 50, .mov (.tmp 49), none⟩, ⟨some 51, .mov (.tmp 8), some (50, true)⟩, ⟨some 52, .bin .eql (.tmp 51) (.con (.int .i64 2)), some (50, true)⟩, ⟨some 53, .pick (.tmp 50) (.tmp 52) (.con (.bool false)), none⟩, ⟨some 54, .mov (.tmp 53), none⟩, ⟨some 55, .load (some 2) (.tmp 5), some (54, true)⟩, ⟨some 56, .call (.con (.fn 44 [] [])) [(.con (.int .i64 400)), (.con (.int .i64 500))], some (54, true)⟩, ⟨some 57, .eqs false (.cons 0 none (.sc 1) (.cons 1 none (.sc 1) .nil)) (.tmp 55) (.tmp 56), some (54, true)⟩, ⟨some 58, .pick (.tmp 54) (.tmp 57) (.con (.bool false)), none⟩, ⟨some 59, .mov (.tmp 58), none⟩, ⟨some 60, .mov (.tmp 3), some (59, true)⟩, ⟨some 61, .bsl 1 false [.int .i64 0] 2 [(0, (.con (.int .i64 1))), (1, (.con (.int .i64 2)))], some (59, true)⟩, ⟨some 62, .call (.con (.fn 29 [] [])) [(.tmp 60), (.tmp 61)], some (59, true)⟩, ⟨some 63, .pick (.tmp 59) (.tmp 62) (.con (.bool false)), none⟩, ⟨some 64, .mov (.tmp 63), none⟩, ⟨some 65, .mov (.tmp 1), some (64, true)⟩, ⟨some 66, .call (.con (.fn 49 [] [])) [], some (64, true)⟩, ⟨some 67, .call (.con (.fn 28 [] [])) [(.tmp 65), (.tmp 66)], some (64, true)⟩, ⟨some 68, .pick (.tmp 64) (.tmp 67) (.con (.bool false)), none⟩, ⟨some 0, .mov (.tmp 68), none⟩]) .ret))))))⟩
theorem comp14 : compFn Try.prog 14 = some F14 := by kernel_rfl
def F15 : AFn := ⟨1, 29, [.tmp 2], (.seq (.reg [⟨some 2, .mov (.con (.nilp)), none⟩]) (.seq (.reg [⟨some 5, .build [.int .u64 0] [(0, 1, (.con (.int .u64 2685821657736338717)))], none⟩, ⟨some 6, .box (.tmp 5), none⟩, ⟨some 3, .mov (.tmp 6), none⟩]) (.seq (.seq (.reg [⟨some 4, .mov (.con (.int .i64 0)), none⟩]) (.block 0 (.loop (.seq (.seq (.reg [⟨some 7, .mov (.tmp 4), none⟩, ⟨some 8, .mov (.tmp 0), none⟩, ⟨some 9, .len false (.tmp 8), none⟩, ⟨some 10, .bin .lss (.tmp 7) (.tmp 9), none⟩]) (.cond (.tmp 10) .skip (.exit 0))) (.seq (.block 1 (.seq (.dreg 11 [⟨some 13, .mov (.tmp 3), none⟩, ⟨some 14, .mov (.tmp 3), none⟩, ⟨some 15, .nilck (.tmp 14), none⟩, ⟨some 16, .faddr (.tmp 15) 0, none⟩, ⟨some 17, .load none (.tmp 16), none⟩, ⟨some 18, .mov (.tmp 0), none⟩, ⟨some 19, .mov (.tmp 4), none⟩, ⟨some 20, .iaddr (.tmp 18) (.tmp 19) 1 none, none⟩, ⟨some 21, .load none (.tmp 20), none⟩, ⟨some 22, .conv .u64 (.tmp 21), none⟩, ⟨some 23, .bin .xor (.tmp 17) (.tmp 22), none⟩, ⟨some 24, .nilck (.tmp 13), none⟩, ⟨some 25, .faddr (.tmp 24) 0, none⟩, ⟨none, .store 1 (.tmp 25) (.tmp 23), none⟩]) (.reg [⟨some 26, .mov (.tmp 3), none⟩, ⟨some 27, .call (.con (.fn 50 [] [])) [(.tmp 26)], none⟩]))) (.reg [⟨some 11, .mov (.tmp 4), none⟩, ⟨some 12, .bin .add (.tmp 11) (.con (.int .i64 1)), none⟩, ⟨some 4, .mov (.tmp 12), none⟩])))))) (.seq (.reg [⟨some 28, .mov (.tmp 3), none⟩, ⟨some 2, .mov (.tmp 28), none⟩]) .ret))))⟩
theorem comp15 : compFn Try.prog 15 = some F15 := by kernel_rfl
def F16 : AFn := ⟨4, 82, [.cell 8 (some 2)], (.seq (.reg [⟨some 8, .box (.con (.agg [.nils, .nils])), none⟩]) (.seq (.reg [⟨some 9, .box (.con (.agg [.nils, .nils])), none⟩]) (.seq (.seq (.reg [⟨some 15, .mov (.tmp 0), none⟩, ⟨some 16, .mov (.tmp 1), none⟩, ⟨some 17, .bin .add (.tmp 16) (.con (.int .i64 1)), none⟩, ⟨some 18, .call (.con (.fn 19 [] [])) [(.tmp 15), (.tmp 17)], none⟩, ⟨some 10, .mov (.tmp 18), none⟩]) (.block 0 (.loop (.seq (.seq (.reg [⟨some 19, .mov (.tmp 10), none⟩, ⟨some 20, .bin .gtr (.tmp 19) (.con (.int .i64 0)), none⟩]) (.cond (.tmp 20) .skip (.exit 0))) (.seq (.block 1 (.seq (.reg [⟨some 23, .mov (.tmp 0), none⟩, ⟨some 24, .call (.con (.fn 19 [] [])) [(.tmp 23), (.con (.int .i64 10))], none⟩, ⟨some 11, .mov (.tmp 24), none⟩]) (.seq (.reg [⟨some 25, .mov (.tmp 11), none⟩, ⟨some 26, .mov (.tmp 0), none⟩, ⟨some 27, .mov (.tmp 11), none⟩, ⟨some 28, .mov (.tmp 0), none⟩, ⟨some 29, .mov (.tmp 11), none⟩, ⟨some 30, .bin .add (.tmp 29) (.con (.int .i64 4)), none⟩, ⟨some 31, .bsl 1 false [.int .i64 0] 2 [(0, (.tmp 30)), (1, (.con (.int .i64 20)))], none⟩, ⟨some 32, .call (.con (.fn 17 [] [])) [(.tmp 28), (.tmp 31)], none⟩, ⟨some 33, .call (.con (.fn 45 [] [])) [(.tmp 26), (.tmp 27), (.tmp 32)], none⟩, ⟨some 34, .mov (.tmp 0), none⟩, ⟨some 35, .mov (.tmp 3), none⟩, ⟨some 36, .bin .mul (.con (.int .i64 2)) (.tmp 35), none⟩, ⟨some 37, .bin .add (.tmp 36) (.con (.int .i64 1)), none⟩, ⟨some 38, .call (.con (.fn 19 [] [])) [(.tmp 34), (.tmp 37)], none⟩, ⟨some 39, .build [.int .i64 0, .int .i64 0, .int .i64 0, .nils] [(0, 1, (.tmp 25)), (1, 1, (.tmp 33)), (2, 1, (.tmp 38))], none⟩, ⟨some 12, .box (.con (.agg [.int .i64 0, .int .i64 0, .int .i64 0, .nils])), none⟩, ⟨none, .store 4 (.tmp 12) (.tmp 39), none⟩]) (.seq (.seq (.reg [⟨some 13, .mov (.con (.int .i64 0)), none⟩]) (.block 2 (.loop (.seq (.seq (.reg [⟨some 40, .mov (.tmp 13), none⟩, ⟨some 41, .bin .lss (.tmp 40) (.con (.int .i64 3)), none⟩]) (.cond (.tmp 41) .skip (.exit 2))) (.seq (.block 3 (.seq (.reg [⟨some 44, .mov (.tmp 0), none⟩, ⟨some 45, .call (.con (.fn 42 [] [])) [(.tmp 44), (.con (.int .i64 3))], none⟩, ⟨some 46, .un .not (.tmp 45), none⟩]) (.cond (.tmp 46) (.reg [⟨some 47, .faddr (.tmp 12) 3, none⟩, ⟨some 48, .load none (.tmp 47), none⟩, ⟨some 49, .mov (.tmp 13), none⟩, ⟨some 50, .bsl 1 false [.int .i64 0] 1 [(0, (.tmp 49))], none⟩, ⟨some 51, .app (.tmp 48) (.tmp 50) 1 8 [.int .i64 0], none⟩, ⟨some 52, .faddr (.tmp 12) 3, none⟩, ⟨none, .store 1 (.tmp 52) (.tmp 51), none⟩]) .skip))) (.reg [⟨some 42, .mov (.tmp 13), none⟩, ⟨some 43, .bin .add (.tmp 42) (.con (.int .i64 1)), none⟩, ⟨some 13, .mov (.tmp 43), none⟩])))))) (.reg [⟨some 53, .faddr (.tmp 9) 0, none⟩, ⟨some 54, .load none (.tmp 53), none⟩, ⟨some 55, .load (some 4) (.tmp 12), none⟩, ⟨some 56, .bsl 4 true [.int .i64 0, .int .i64 0, .int .i64 0, .nils] 1 [(0, (.tmp 55))], none⟩, ⟨some 57, .app (.tmp 54) (.tmp 56) 4 48 [.int .i64 0, .int .i64 0, .int .i64 0, .nils], none⟩, ⟨some 58, .faddr (.tmp 9) 0, none⟩, ⟨none, .store 1 (.tmp 58) (.tmp 57), none⟩]))))) (.reg [⟨some 21, .mov (.tmp 10), none⟩, ⟨some 22, .bin .sub (.tmp 21) (.con (.int .i64 1)), none⟩, ⟨some 10, .mov (.tmp 22), none⟩])))))) (.seq (.seq (.reg [⟨some 59, .mov (.tmp 0), none⟩, ⟨some 60, .mov (.tmp 2), none⟩, ⟨some 61, .bin .add (.tmp 60) (.con (.int .i64 1)), none⟩, ⟨some 62, .call (.con (.fn 19 [] [])) [(.tmp 59), (.tmp 61)], none⟩, ⟨some 14, .mov (.tmp 62), none⟩]) (.block 4 (.loop (.seq (.seq (.reg [⟨some 63, .mov (.tmp 14), none⟩, ⟨some 64, .bin .gtr (.tmp 63) (.con (.int .i64 0)), none⟩]) (.cond (.tmp 64) .skip (.exit 4))) (.seq (.block 5 (.dreg 12 [⟨some 67, .faddr (.tmp 9) 1, none⟩, ⟨some 68, .load none (.tmp 67), none⟩, ⟨some 69, .mov (.tmp 0), none⟩, ⟨some 70, .call (.con (.fn 45 [] [])) [(.tmp 69), (.con (.int .i64 3)), (.con (.int .i64 12))], none⟩, ⟨some 71, .mov (.tmp 0), none⟩, ⟨some 72, .call (.con (.fn 19 [] [])) [(.tmp 71), (.con (.int .i64 3))], none⟩, ⟨some 73, .mov (.tmp 0), none⟩, ⟨some 74, .mov (.tmp 3), none⟩, ⟨some 75, .bin .add (.tmp 74) (.con (.int .i64 1)), none⟩, ⟨some 76, .call (.con (.fn 19 [] [])) [(.tmp 73), (.tmp 75)], none⟩, ⟨some 77, .build [.int .i64 0, .int .i64 0, .int .i64 0] [(0, 1, (.tmp 70)), (1, 1, (.tmp 72)), (2, 1, (.tmp 76))], none⟩, ⟨some 78, .bsl 3 true [.int .i64 0, .int .i64 0, .int .i64 0] 1 [(0, (.tmp 77))], none⟩, ⟨some 79, .app (.tmp 68) (.tmp 78) 3 24 [.int .i64 0, .int .i64 0, .int .i64 0], none⟩, ⟨some 80, .faddr (.tmp 9) 1, none⟩, ⟨none, .store 1 (.tmp 80) (.tmp 79), none⟩])) (.reg [⟨some 65, .mov (.tmp 14), none⟩, ⟨some 66, .bin .sub (.tmp 65) (.con (.int .i64 1)), none⟩, ⟨some 14, .mov (.tmp 66), none⟩])))))) (.seq (.reg [⟨some 81, .load (some 2) (.tmp 9), none⟩, ⟨none, .store 2 (.tmp 8) (.tmp 81), none⟩]) .ret)))))⟩
theorem comp16 : compFn Try.prog 16 = some F16 := by kernel_rfl
def F17 : AFn := ⟨2, 15, [.tmp 4], (.seq (.reg [⟨some 4, .mov (.con (.int .i64 0)), none⟩]) (.seq (.seq (.reg [⟨some 5, .mov (.tmp 1), none⟩, ⟨some 6, .len false (.tmp 5), none⟩, ⟨some 7, .bin .eql (.tmp 6) (.con (.int .i64 0)), none⟩]) (.cond (.tmp 7) (.seq (.reg [⟨some 4, .mov (.con (.int .i64 0)), none⟩]) .ret) .skip)) (.seq (.reg [⟨some 8, .mov (.tmp 1), none⟩, ⟨some 9, .mov (.tmp 0), none⟩, ⟨some 10, .mov (.tmp 1), none⟩, ⟨some 11, .len false (.tmp 10), none⟩, ⟨some 12, .call (.con (.fn 19 [] [])) [(.tmp 9), (.tmp 11)], none⟩, ⟨some 13, .iaddr (.tmp 8) (.tmp 12) 1 none, none⟩, ⟨some 14, .load none (.tmp 13), none⟩, ⟨some 4, .mov (.tmp 14), none⟩]) .ret)))⟩
theorem comp17 : compFn Try.prog 17 = some F17 := by kernel_rfl
def F19 : AFn := ⟨2, 14, [.tmp 4], (.seq (.reg [⟨some 4, .mov (.con (.int .i64 0)), none⟩]) (.seq (.seq (.reg [⟨some 5, .mov (.tmp 1), none⟩, ⟨some 6, .bin .lss (.tmp 5) (.con (.int .i64 2)), none⟩]) (.cond (.tmp 6) (.seq (.reg [⟨some 4, .mov (.con (.int .i64 0)), none⟩]) .ret) .skip)) (.seq (.reg [⟨some 7, .mov (.tmp 0), none⟩, ⟨some 8, .call (.con (.fn 50 [] [])) [(.tmp 7)], none⟩, ⟨some 9, .bin .shr (.tmp 8) (.con (.int .u64 1)), none⟩, ⟨some 10, .mov (.tmp 1), none⟩, ⟨some 11, .conv .u64 (.tmp 10), none⟩, ⟨some 12, .bin .rem (.tmp 9) (.tmp 11), none⟩, ⟨some 13, .conv .i64 (.tmp 12), none⟩, ⟨some 4, .mov (.tmp 13), none⟩]) .ret)))⟩
theorem comp19 : compFn Try.prog 19 = some F19 := by kernel_rfl
def F20 : AFn := ⟨1, 55, [.tmp 2, .tmp 3], (.seq (.reg [⟨some 1, .box (.tmp 0), none⟩, ⟨some 2, .mov (.con (.nils)), none⟩, ⟨some 3, .mov (.con (.int .i64 0)), none⟩]) (.seq (.seq (.reg [⟨some 10, .load (some 2) (.tmp 1), none⟩, ⟨some 11, .call (.con (.fn 26 [] [])) [(.tmp 10)], none⟩, ⟨some 4, .mov (.tmp 11), none⟩]) (.seq (.reg [⟨some 12, .mov (.tmp 4), none⟩, ⟨some 13, .bin .neq (.tmp 12) (.con (.int .i64 0)), none⟩]) (.cond (.tmp 13) (.seq (.reg [⟨some 14, .mov (.tmp 4), none⟩, ⟨some 2, .mov (.con (.nils)), none⟩, ⟨some 3, .mov (.tmp 14), none⟩]) .ret) .skip))) (.seq (.dreg 5 [⟨some 15, .load (some 2) (.tmp 1), none⟩, ⟨some 16, .call (.con (.fn 51 [] [])) [(.tmp 15)], none⟩, ⟨some 17, .load (some 2) (.tmp 1), none⟩, ⟨some 18, .call (.con (.fn 52 [] [])) [(.tmp 17)], none⟩, ⟨some 6, .box (.con (.agg [.int .i64 0, .int .i64 0, .int .i64 0, .int .i64 0, .int .i64 0, .int .i64 0, .int .i64 0, .int .i64 0])), none⟩, ⟨some 5, .mov (.tmp 16), none⟩, ⟨none, .store 8 (.tmp 6) (.tmp 18), none⟩]) (.seq (.seq (.reg [⟨some 19, .mov (.tmp 5), none⟩, ⟨some 20, .load (some 8) (.tmp 6), none⟩, ⟨some 21, .call (.con (.fn 53 [] [])) [(.tmp 19), (.tmp 20)], none⟩, ⟨some 22, .bin .gtr (.tmp 21) (.con (.int .i64 0)), none⟩]) (.cond (.tmp 22) (.seq (.reg [⟨some 2, .mov (.con (.nils)), none⟩, ⟨some 3, .mov (.con (.int .i64 4)), none⟩]) .ret) .skip)) (.seq (.reg [⟨some 23, .mov (.tmp 5), none⟩, ⟨some 24, .len false (.tmp 23), none⟩, ⟨some 25, .mksl 1 false [.nils] 24 (.tmp 24) (.tmp 24), none⟩, ⟨some 7, .mov (.tmp 25), none⟩]) (.seq (.reg [⟨some 26, .build [.int .i64 0, .int .i64 0, .int .i64 0, .int .i64 0, .int .i64 0, .int .i64 0, .int .i64 0, .int .i64 0] [], none⟩, ⟨some 8, .box (.con (.agg [.int .i64 0, .int .i64 0, .int .i64 0, .int .i64 0, .int .i64 0, .int .i64 0, .int .i64 0, .int .i64 0])), none⟩, ⟨none, .store 8 (.tmp 8) (.tmp 26), none⟩]) (.seq (.seq (.reg [⟨some 27, .mov (.tmp 7), none⟩, ⟨some 28, .len false (.tmp 27), none⟩, ⟨some 29, .mov (.con (.int .i64 0)), none⟩]) (.block 0 (.loop (.seq (.reg [⟨some 30, .bin .lss (.tmp 29) (.tmp 28), none⟩]) (.seq (.cond (.tmp 30) .skip (.exit 0)) (.seq (.block 1 (.seq (.reg [⟨some 31, .mov (.tmp 29), none⟩, ⟨some 9, .mov (.tmp 31), none⟩]) (.seq (.dreg 9 [⟨some 33, .mov (.tmp 5), none⟩, ⟨some 34, .mov (.tmp 9), none⟩, ⟨some 35, .slc false 2 (.tmp 33) (some (.tmp 34)) none, none⟩, ⟨some 36, .load (some 8) (.tmp 6), none⟩, ⟨some 37, .call (.con (.fn 54 [] [])) [(.tmp 35), (.tmp 36)], none⟩, ⟨some 32, .mov (.tmp 37), none⟩, ⟨some 38, .ext (.tmp 32) 0, none⟩, ⟨some 39, .ext (.tmp 32) 1, none⟩, ⟨none, .store 8 (.tmp 8) (.tmp 38), none⟩, ⟨none, .store 8 (.tmp 6) (.tmp 39), none⟩]) (.seq (.reg [⟨some 40, .mov (.tmp 7), none⟩, ⟨some 41, .mov (.tmp 9), none⟩, ⟨some 42, .faddr (.tmp 1) 0, none⟩, ⟨some 43, .load none (.tmp 42), none⟩, ⟨some 44, .len false (.tmp 43), none⟩, ⟨some 45, .mksl 1 false [.int .i64 0] 8 (.tmp 44) (.tmp 44), none⟩, ⟨some 46, .iaddr (.tmp 40) (.tmp 41) 1 none, none⟩, ⟨none, .store 1 (.tmp 46) (.tmp 45), none⟩]) (.dreg 5 [⟨some 47, .mov (.tmp 7), none⟩, ⟨some 48, .mov (.tmp 9), none⟩, ⟨some 49, .iaddr (.tmp 47) (.tmp 48) 1 none, none⟩, ⟨some 50, .load none (.tmp 49), none⟩, ⟨some 51, .sla 8 1 (.tmp 8), none⟩, ⟨some 52, .cpy 1 (.tmp 50) (.tmp 51), none⟩]))))) (.reg [⟨some 53, .bin .add (.tmp 29) (.con (.int .i64 1)), none⟩, ⟨some 29, .mov (.tmp 53), none⟩]))))))) (.seq (.reg [⟨some 54, .mov (.tmp 7), none⟩, ⟨some 2, .mov (.tmp 54), none⟩, ⟨some 3, .mov (.con (.int .i64 0)), none⟩]) .ret))))))))⟩
theorem comp20 : compFn Try.prog 20 = some F20 := by kernel_rfl
def F22 : AFn := ⟨1, 21, [.tmp 2, .tmp 3], (.seq (.reg [⟨some 1, .box (.tmp 0), none⟩, ⟨some 2, .mov (.con (.nils)), none⟩, ⟨some 3, .mov (.con (.int .i64 0)), none⟩]) (.seq (.seq (.reg [⟨some 6, .load (some 2) (.tmp 1), none⟩, ⟨some 7, .call (.con (.fn 26 [] [])) [(.tmp 6)], none⟩, ⟨some 4, .mov (.tmp 7), none⟩]) (.seq (.reg [⟨some 8, .mov (.tmp 4), none⟩, ⟨some 9, .bin .neq (.tmp 8) (.con (.int .i64 0)), none⟩]) (.cond (.tmp 9) (.seq (.reg [⟨some 10, .mov (.tmp 4), none⟩, ⟨some 2, .mov (.con (.nils)), none⟩, ⟨some 3, .mov (.tmp 10), none⟩]) .ret) .skip))) (.seq (.dreg 3 [⟨some 11, .load (some 2) (.tmp 1), none⟩, ⟨some 12, .call (.con (.fn 51 [] [])) [(.tmp 11)], none⟩, ⟨some 13, .load (some 2) (.tmp 1), none⟩, ⟨some 14, .call (.con (.fn 52 [] [])) [(.tmp 13)], none⟩, ⟨some 15, .call (.con (.fn 57 [] [])) [(.tmp 12), (.tmp 14)], none⟩, ⟨some 5, .mov (.tmp 15), none⟩]) (.seq (.seq (.reg [⟨some 16, .mov (.tmp 5), none⟩, ⟨some 17, .bin .eql (.tmp 16) (.con (.int .u8 0)), none⟩]) (.cond (.tmp 17) (.seq (.reg [⟨some 2, .mov (.con (.nils)), none⟩, ⟨some 3, .mov (.con (.int .i64 7)), none⟩]) .ret) .skip)) (.seq (.reg [⟨some 18, .mov (.tmp 5), none⟩, ⟨some 19, .call (.con (.fn 59 [] [])) [(.tmp 18)], none⟩, ⟨some 20, .call (.con (.fn 58 [] [])) [(.tmp 19)], none⟩, ⟨some 2, .mov (.tmp 20), none⟩, ⟨some 3, .mov (.con (.int .i64 0)), none⟩]) .ret)))))⟩
theorem comp22 : compFn Try.prog 22 = some F22 := by kernel_rfl
def F24 : AFn := ⟨2, 45, [.cell 4 (some 2), .tmp 5], (.seq (.reg [⟨some 2, .box (.tmp 0), none⟩, ⟨some 4, .box (.con (.agg [.int .i64 0, .int .i64 0])), none⟩, ⟨some 5, .mov (.con (.int .i64 0)), none⟩]) (.seq (.seq (.reg [⟨some 9, .load (some 2) (.tmp 2), none⟩, ⟨some 10, .call (.con (.fn 26 [] [])) [(.tmp 9)], none⟩, ⟨some 6, .mov (.tmp 10), none⟩]) (.seq (.reg [⟨some 11, .mov (.tmp 6), none⟩, ⟨some 12, .bin .neq (.tmp 11) (.con (.int .i64 0)), none⟩]) (.cond (.tmp 12) (.seq (.reg [⟨some 13, .build [.int .i64 0, .int .i64 0] [], none⟩, ⟨some 14, .mov (.tmp 6), none⟩, ⟨none, .store 2 (.tmp 4) (.tmp 13), none⟩, ⟨some 5, .mov (.tmp 14), none⟩]) .ret) .skip))) (.seq (.seq (.reg [⟨some 15, .mov (.tmp 1), none⟩, ⟨some 16, .faddr (.tmp 2) 0, none⟩, ⟨some 17, .load none (.tmp 16), none⟩, ⟨some 18, .len false (.tmp 17), none⟩, ⟨some 19, .bin .sub (.tmp 18) (.con (.int .i64 1)), none⟩, ⟨some 20, .call (.con (.fn 60 [] [])) [(.tmp 15), (.con (.int .i64 0)), (.tmp 19)], none⟩, ⟨some 21, .un .not (.tmp 20), none⟩]) (.cond (.tmp 21) (.seq (.reg [⟨some 22, .build [.int .i64 0, .int .i64 0] [], none⟩, ⟨none, .store 2 (.tmp 4) (.tmp 22), none⟩, ⟨some 5, .mov (.con (.int .i64 7)), none⟩]) .ret) .skip)) (.seq (.dreg 5 [⟨some 23, .load (some 2) (.tmp 2), none⟩, ⟨some 24, .call (.con (.fn 51 [] [])) [(.tmp 23)], none⟩, ⟨some 25, .load (some 2) (.tmp 2), none⟩, ⟨some 26, .call (.con (.fn 52 [] [])) [(.tmp 25)], none⟩, ⟨some 8, .box (.con (.agg [.int .i64 0, .int .i64 0, .int .i64 0, .int .i64 0, .int .i64 0, .int .i64 0, .int .i64 0, .int .i64 0])), none⟩, ⟨some 7, .mov (.tmp 24), none⟩, ⟨none, .store 8 (.tmp 8) (.tmp 26), none⟩]) (.seq (.seq (.reg [⟨some 27, .mov (.tmp 7), none⟩, ⟨some 28, .load (some 8) (.tmp 8), none⟩, ⟨some 29, .call (.con (.fn 53 [] [])) [(.tmp 27), (.tmp 28)], none⟩, ⟨some 30, .bin .gtr (.tmp 29) (.con (.int .i64 0)), none⟩]) (.cond (.tmp 30) (.seq (.reg [⟨some 31, .build [.int .i64 0, .int .i64 0] [], none⟩, ⟨none, .store 2 (.tmp 4) (.tmp 31), none⟩, ⟨some 5, .mov (.con (.int .i64 4)), none⟩]) .ret) .skip)) (.seq (.dreg 11 [⟨some 32, .mov (.tmp 7), none⟩, ⟨some 33, .load (some 8) (.tmp 8), none⟩, ⟨some 34, .mov (.tmp 1), none⟩, ⟨some 35, .call (.con (.fn 61 [] [])) [(.tmp 33), (.tmp 34), (.con (.int .i64 0))], none⟩, ⟨some 36, .call (.con (.fn 53 [] [])) [(.tmp 32), (.tmp 35)], none⟩, ⟨some 37, .mov (.tmp 1), none⟩, ⟨some 38, .iaddr (.tmp 8) (.tmp 37) 1 (some 8), none⟩, ⟨some 39, .load none (.tmp 38), none⟩, ⟨some 40, .mov (.tmp 7), none⟩, ⟨some 41, .mov (.tmp 1), none⟩, ⟨some 42, .call (.con (.fn 62 [] [])) [(.tmp 40), (.tmp 41)], none⟩, ⟨some 43, .mn (.tmp 39) (.tmp 42), none⟩, ⟨some 44, .build [.int .i64 0, .int .i64 0] [(0, 1, (.tmp 36)), (1, 1, (.tmp 43))], none⟩, ⟨none, .store 2 (.tmp 4) (.tmp 44), none⟩, ⟨some 5, .mov (.con (.int .i64 0)), none⟩]) .ret))))))⟩
theorem comp24 : compFn Try.prog 24 = some F24 := by kernel_rfl
def F26 : AFn := ⟨1, 53, [.tmp 2], (.seq (.reg [⟨some 1, .box (.tmp 0), none⟩, ⟨some 2, .mov (.con (.int .i64 0)), none⟩]) (.seq (.seq (.reg [⟨some 8, .faddr (.tmp 1) 0, none⟩, ⟨some 9, .load none (.tmp 8), none⟩, ⟨some 10, .len false (.tmp 9), none⟩, ⟨some 11, .bin .gtr (.tmp 10) (.con (.int .i64 8)), none⟩]) (.cond (.tmp 11) (.seq (.reg [⟨some 2, .mov (.con (.int .i64 5)), none⟩]) .ret) .skip)) (.seq (.seq (.reg [⟨some 12, .faddr (.tmp 1) 0, none⟩, ⟨some 13, .load none (.tmp 12), none⟩, ⟨some 14, .len false (.tmp 13), none⟩, ⟨some 15, .mov (.con (.int .i64 0)), none⟩]) (.block 0 (.loop (.seq (.reg [⟨some 16, .bin .lss (.tmp 15) (.tmp 14), none⟩]) (.seq (.cond (.tmp 16) .skip (.exit 0)) (.seq (.block 1 (.seq (.reg [⟨some 17, .iaddr (.tmp 13) (.tmp 15) 4 none, none⟩, ⟨some 18, .load (some 4) (.tmp 17), none⟩, ⟨some 4, .box (.con (.agg [.int .i64 0, .int .i64 0, .int .i64 0, .nils])), none⟩, ⟨none, .store 4 (.tmp 4) (.tmp 18), none⟩]) (.seq (.reg [⟨some 19, .load (some 4) (.tmp 4), none⟩, ⟨some 20, .call (.con (.fn 64 [] [])) [(.tmp 19)], none⟩, ⟨some 5, .mov (.tmp 20), none⟩]) (.seq (.reg [⟨some 21, .mov (.tmp 5), none⟩, ⟨some 22, .bin .neq (.tmp 21) (.con (.int .i64 0)), none⟩]) (.cond (.tmp 22) (.seq (.reg [⟨some 23, .mov (.tmp 5), none⟩, ⟨some 2, .mov (.tmp 23), none⟩]) .ret) .skip))))) (.reg [⟨some 24, .bin .add (.tmp 15) (.con (.int .i64 1)), none⟩, ⟨some 15, .mov (.tmp 24), none⟩]))))))) (.seq (.seq (.reg [⟨some 25, .faddr (.tmp 1) 1, none⟩, ⟨some 26, .load none (.tmp 25), none⟩, ⟨some 27, .len false (.tmp 26), none⟩, ⟨some 28, .bin .gtr (.tmp 27) (.con (.int .i64 8)), none⟩]) (.cond (.tmp 28) (.seq (.reg [⟨some 2, .mov (.con (.int .i64 5)), none⟩]) .ret) .skip)) (.seq (.seq (.reg [⟨some 29, .faddr (.tmp 1) 1, none⟩, ⟨some 30, .load none (.tmp 29), none⟩, ⟨some 31, .len false (.tmp 30), none⟩, ⟨some 32, .mov (.con (.int .i64 0)), none⟩]) (.block 2 (.loop (.seq (.reg [⟨some 33, .bin .lss (.tmp 32) (.tmp 31), none⟩]) (.seq (.cond (.tmp 33) .skip (.exit 2)) (.seq (.block 3 (.seq (.reg [⟨some 34, .iaddr (.tmp 30) (.tmp 32) 3 none, none⟩, ⟨some 35, .load (some 3) (.tmp 34), none⟩, ⟨some 7, .box (.con (.agg [.int .i64 0, .int .i64 0, .int .i64 0])), none⟩, ⟨none, .store 3 (.tmp 7) (.tmp 35), none⟩]) (.seq (.reg [⟨some 36, .faddr (.tmp 7) 0, none⟩, ⟨some 37, .load none (.tmp 36), none⟩, ⟨some 38, .call (.con (.fn 65 [] [])) [(.tmp 37)], none⟩, ⟨some 39, .un .not (.tmp 38), none⟩, ⟨some 40, .mov (.tmp 39), none⟩, ⟨some 41, .faddr (.tmp 7) 1, some (40, false)⟩, ⟨some 42, .load none (.tmp 41), some (40, false)⟩, ⟨some 43, .call (.con (.fn 66 [] [])) [(.tmp 42)], some (40, false)⟩, ⟨some 44, .un .not (.tmp 43), some (40, false)⟩, ⟨some 45, .pick (.tmp 40) (.con (.bool true)) (.tmp 44), none⟩, ⟨some 46, .mov (.tmp 45), none⟩, ⟨some 47, .faddr (.tmp 7) 2, some (46, false)⟩, ⟨some 48, .load none (.tmp 47), some (46, false)⟩, ⟨some 49, .call (.con (.fn 67 [] [])) [(.tmp 48)], some (46, false)⟩, ⟨some 50, .un .not (.tmp 49), some (46, false)⟩, ⟨some 51, .pick (.tmp 46) (.con (.bool true)) (.tmp 50), none⟩]) (.cond (.tmp 51) (.seq (.reg [⟨some 2, .mov (.con (.int .i64 2)), none⟩]) .ret) .skip)))) (.reg [⟨some 52, .bin .add (.tmp 32) (.con (.int .i64 1)), none⟩, ⟨some 32, .mov (.tmp 52), none⟩]))))))) (.seq (.reg [⟨some 2, .mov (.con (.int .i64 0)), none⟩]) .ret))))))⟩
theorem comp26 : compFn Try.prog 26 = some F26 := by kernel_rfl
def F28 : AFn := ⟨2, 27, [.tmp 4], (.seq (.reg [⟨some 4, .mov (.con (.bool false)), none⟩]) (.seq (.seq (.reg [⟨some 6, .mov (.tmp 0), none⟩, ⟨some 7, .len false (.tmp 6), none⟩, ⟨some 8, .mov (.tmp 1), none⟩, ⟨some 9, .len false (.tmp 8), none⟩, ⟨some 10, .bin .neq (.tmp 7) (.tmp 9), none⟩]) (.cond (.tmp 10) (.seq (.reg [⟨some 4, .mov (.con (.bool false)), none⟩]) .ret) .skip)) (.seq (.seq (.reg [⟨some 5, .mov (.con (.int .i64 0)), none⟩]) (.block 0 (.loop (.seq (.seq (.reg [⟨some 11, .mov (.tmp 5), none⟩, ⟨some 12, .mov (.tmp 0), none⟩, ⟨some 13, .len false (.tmp 12), none⟩, ⟨some 14, .bin .lss (.tmp 11) (.tmp 13), none⟩]) (.cond (.tmp 14) .skip (.exit 0))) (.seq (.block 1 (.seq (.dreg 8 [⟨some 17, .mov (.tmp 0), none⟩, ⟨some 18, .mov (.tmp 5), none⟩, ⟨some 19, .iaddr (.tmp 17) (.tmp 18) 1 none, none⟩, ⟨some 20, .load none (.tmp 19), none⟩, ⟨some 21, .mov (.tmp 1), none⟩, ⟨some 22, .mov (.tmp 5), none⟩, ⟨some 23, .iaddr (.tmp 21) (.tmp 22) 1 none, none⟩, ⟨some 24, .load none (.tmp 23), none⟩, ⟨some 25, .call (.con (.fn 29 [] [])) [(.tmp 20), (.tmp 24)], none⟩, ⟨some 26, .un .not (.tmp 25), none⟩]) (.cond (.tmp 26) (.seq (.reg [⟨some 4, .mov (.con (.bool false)), none⟩]) .ret) .skip))) (.reg [⟨some 15, .mov (.tmp 5), none⟩, ⟨some 16, .bin .add (.tmp 15) (.con (.int .i64 1)), none⟩, ⟨some 5, .mov (.tmp 16), none⟩])))))) (.seq (.reg [⟨some 4, .mov (.con (.bool true)), none⟩]) .ret))))⟩
theorem comp28 : compFn Try.prog 28 = some F28 := by kernel_rfl
def F29 : AFn := ⟨2, 26, [.tmp 4], (.seq (.reg [⟨some 4, .mov (.con (.bool false)), none⟩]) (.seq (.seq (.reg [⟨some 6, .mov (.tmp 0), none⟩, ⟨some 7, .len false (.tmp 6), none⟩, ⟨some 8, .mov (.tmp 1), none⟩, ⟨some 9, .len false (.tmp 8), none⟩, ⟨some 10, .bin .neq (.tmp 7) (.tmp 9), none⟩]) (.cond (.tmp 10) (.seq (.reg [⟨some 4, .mov (.con (.bool false)), none⟩]) .ret) .skip)) (.seq (.seq (.reg [⟨some 5, .mov (.con (.int .i64 0)), none⟩]) (.block 0 (.loop (.seq (.seq (.reg [⟨some 11, .mov (.tmp 5), none⟩, ⟨some 12, .mov (.tmp 0), none⟩, ⟨some 13, .len false (.tmp 12), none⟩, ⟨some 14, .bin .lss (.tmp 11) (.tmp 13), none⟩]) (.cond (.tmp 14) .skip (.exit 0))) (.seq (.block 1 (.seq (.dreg 8 [⟨some 17, .mov (.tmp 0), none⟩, ⟨some 18, .mov (.tmp 5), none⟩, ⟨some 19, .iaddr (.tmp 17) (.tmp 18) 1 none, none⟩, ⟨some 20, .load none (.tmp 19), none⟩, ⟨some 21, .mov (.tmp 1), none⟩, ⟨some 22, .mov (.tmp 5), none⟩, ⟨some 23, .iaddr (.tmp 21) (.tmp 22) 1 none, none⟩, ⟨some 24, .load none (.tmp 23), none⟩, ⟨some 25, .bin .neq (.tmp 20) (.tmp 24), none⟩]) (.cond (.tmp 25) (.seq (.reg [⟨some 4, .mov (.con (.bool false)), none⟩]) .ret) .skip))) (.reg [⟨some 15, .mov (.tmp 5), none⟩, ⟨some 16, .bin .add (.tmp 15) (.con (.int .i64 1)), none⟩, ⟨some 5, .mov (.tmp 16), none⟩])))))) (.seq (.reg [⟨some 4, .mov (.con (.bool true)), none⟩]) .ret))))⟩
theorem comp29 : compFn Try.prog 29 = some F29 := by kernel_rfl
def F32 : AFn := ⟨2, 23, [.tmp 4, .tmp 5, .tmp 6], (.seq (.reg [⟨some 4, .mov (.con (.int .i64 0)), none⟩, ⟨some 5, .mov (.con (.int .i64 0)), none⟩, ⟨some 6, .mov (.con (.int .i64 0)), none⟩]) (.seq (.seq (.reg [⟨some 8, .mov (.tmp 0), none⟩, ⟨some 9, .mov (.tmp 1), none⟩, ⟨some 10, .call (.con (.fn 69 [] [])) [(.tmp 8), (.tmp 9)], none⟩, ⟨some 7, .mov (.tmp 10), none⟩]) (.seq (.reg [⟨some 11, .mov (.tmp 7), none⟩, ⟨some 12, .bin .neq (.tmp 11) (.con (.int .i64 0)), none⟩]) (.cond (.tmp 12) (.seq (.reg [⟨some 13, .mov (.tmp 7), none⟩, ⟨some 4, .mov (.con (.int .i64 0)), none⟩, ⟨some 5, .mov (.con (.int .i64 0)), none⟩, ⟨some 6, .mov (.tmp 13), none⟩]) .ret) .skip))) (.seq (.reg [⟨some 14, .mov (.tmp 1), none⟩, ⟨some 15, .call (.con (.fn 70 [] [])) [(.tmp 14)], none⟩, ⟨some 16, .mov (.tmp 0), none⟩, ⟨some 17, .call (.con (.fn 70 [] [])) [(.tmp 16)], none⟩, ⟨some 18, .bin .rem (.tmp 15) (.tmp 17), none⟩, ⟨some 4, .mov (.tmp 18), none⟩]) (.seq (.reg [⟨some 19, .mov (.tmp 4), none⟩, ⟨some 20, .mov (.tmp 0), none⟩, ⟨some 21, .mov (.tmp 4), none⟩, ⟨some 22, .call (.con (.fn 71 [] [])) [(.tmp 20), (.tmp 21)], none⟩, ⟨some 4, .mov (.tmp 19), none⟩, ⟨some 5, .mov (.tmp 22), none⟩, ⟨some 6, .mov (.con (.int .i64 0)), none⟩]) .ret))))⟩
theorem comp32 : compFn Try.prog 32 = some F32 := by kernel_rfl
def F36 : AFn := ⟨2, 27, [.tmp 4], (.seq (.reg [⟨some 2, .box (.tmp 0), none⟩, ⟨some 4, .mov (.con (.bool false)), none⟩]) (.seq (.seq (.reg [⟨some 5, .mov (.con (.int .i64 0)), none⟩]) (.block 0 (.loop (.seq (.seq (.reg [⟨some 6, .mov (.tmp 5), none⟩, ⟨some 7, .mov (.tmp 1), none⟩, ⟨some 8, .len false (.tmp 7), none⟩, ⟨some 9, .bin .lss (.tmp 6) (.tmp 8), none⟩]) (.cond (.tmp 9) .skip (.exit 0))) (.seq (.block 1 (.seq (.dreg 8 [⟨some 12, .mov (.tmp 1), none⟩, ⟨some 13, .mov (.tmp 5), none⟩, ⟨some 14, .iaddr (.tmp 12) (.tmp 13) 1 none, none⟩, ⟨some 15, .load none (.tmp 14), none⟩, ⟨some 16, .len false (.tmp 15), none⟩, ⟨some 17, .faddr (.tmp 2) 0, none⟩, ⟨some 18, .load none (.tmp 17), none⟩, ⟨some 19, .len false (.tmp 18), none⟩, ⟨some 20, .bin .neq (.tmp 16) (.tmp 19), none⟩]) (.cond (.tmp 20) (.seq (.reg [⟨some 4, .mov (.con (.bool false)), none⟩]) .ret) .skip))) (.reg [⟨some 10, .mov (.tmp 5), none⟩, ⟨some 11, .bin .add (.tmp 10) (.con (.int .i64 1)), none⟩, ⟨some 5, .mov (.tmp 11), none⟩])))))) (.seq (.reg [⟨some 21, .mov (.tmp 1), none⟩, ⟨some 22, .len false (.tmp 21), none⟩, ⟨some 23, .faddr (.tmp 2) 1, none⟩, ⟨some 24, .load none (.tmp 23), none⟩, ⟨some 25, .len false (.tmp 24), none⟩, ⟨some 26, .bin .eql (.tmp 22) (.tmp 25), none⟩, ⟨some 4, .mov (.tmp 26), none⟩]) .ret)))⟩
theorem comp36 : compFn Try.prog 36 = some F36 := by kernel_rfl
def F37 : AFn := ⟨1, 18, [.tmp 2], (.seq (.reg [⟨some 2, .mov (.con (.int .i64 0)), none⟩]) (.seq (.reg [⟨some 3, .mov (.con (.int .i64 0)), none⟩]) (.seq (.seq (.reg [⟨some 4, .mov (.con (.int .i64 0)), none⟩]) (.block 0 (.loop (.seq (.seq (.reg [⟨some 5, .mov (.tmp 4), none⟩, ⟨some 6, .mov (.tmp 0), none⟩, ⟨some 7, .len false (.tmp 6), none⟩, ⟨some 8, .bin .lss (.tmp 5) (.tmp 7), none⟩]) (.cond (.tmp 8) .skip (.exit 0))) (.seq (.block 1 (.reg [⟨some 11, .mov (.tmp 3), none⟩, ⟨some 12, .mov (.tmp 0), none⟩, ⟨some 13, .mov (.tmp 4), none⟩, ⟨some 14, .iaddr (.tmp 12) (.tmp 13) 1 none, none⟩, ⟨some 15, .load none (.tmp 14), none⟩, ⟨some 16, .bin .add (.tmp 11) (.tmp 15), none⟩, ⟨some 3, .mov (.tmp 16), none⟩])) (.reg [⟨some 9, .mov (.tmp 4), none⟩, ⟨some 10, .bin .add (.tmp 9) (.con (.int .i64 1)), none⟩, ⟨some 4, .mov (.tmp 10), none⟩])))))) (.seq (.reg [⟨some 17, .mov (.tmp 3), none⟩, ⟨some 2, .mov (.tmp 17), none⟩]) .ret))))⟩
theorem comp37 : compFn Try.prog 37 = some F37 := by kernel_rfl
def F38 : AFn := ⟨2, 35, [.tmp 4], (.seq (.reg [⟨some 2, .box (.tmp 0), none⟩, ⟨some 3, .box (.tmp 1), none⟩, ⟨some 4, .mov (.con (.bool false)), none⟩]) (.seq (.reg [⟨some 5, .mov (.con (.bool false)), none⟩]) (.seq (.seq (.reg [⟨some 6, .mov (.con (.int .i64 0)), none⟩]) (.block 0 (.loop (.seq (.seq (.reg [⟨some 7, .mov (.tmp 6), none⟩, ⟨some 8, .faddr (.tmp 2) 3, none⟩, ⟨some 9, .load none (.tmp 8), none⟩, ⟨some 10, .len false (.tmp 9), none⟩, ⟨some 11, .bin .lss (.tmp 7) (.tmp 10), none⟩]) (.cond (.tmp 11) .skip (.exit 0))) (.seq (.block 1 (.dreg 9 [⟨some 14, .mov (.tmp 5), none⟩, ⟨some 15, .mov (.tmp 14), none⟩, ⟨some 16, .faddr (.tmp 2) 3, some (15, false)⟩, ⟨some 17, .load none (.tmp 16), some (15, false)⟩, ⟨some 18, .mov (.tmp 6), some (15, false)⟩, ⟨some 19, .iaddr (.tmp 17) (.tmp 18) 1 none, some (15, false)⟩, ⟨some 20, .load none (.tmp 19), some (15, false)⟩, ⟨some 21, .faddr (.tmp 3) 1, some (15, false)⟩, ⟨some 22, .load none (.tmp 21), some (15, false)⟩, ⟨some 23, .bin .eql (.tmp 20) (.tmp 22), some (15, false)⟩, ⟨some 24, .pick (.tmp 15) (.con (.bool true)) (.tmp 23), none⟩, ⟨some 5, .mov (.tmp 24), none⟩])) (.reg [⟨some 12, .mov (.tmp 6), none⟩, ⟨some 13, .bin .add (.tmp 12) (.con (.int .i64 1)), none⟩, ⟨some 6, .mov (.tmp 13), none⟩])))))) (.seq (.reg [⟨some 25, .mov (.tmp 5), none⟩, ⟨some 26, .mov (.tmp 25), none⟩, ⟨some 27, .faddr (.tmp 3) 0, some (26, true)⟩, ⟨some 28, .load none (.tmp 27), some (26, true)⟩, ⟨some 29, .faddr (.tmp 2) 0, some (26, true)⟩, ⟨some 30, .load none (.tmp 29), some (26, true)⟩, ⟨some 31, .faddr (.tmp 2) 1, some (26, true)⟩, ⟨some 32, .load none (.tmp 31), some (26, true)⟩, ⟨some 33, .call (.con (.fn 63 [] [])) [(.tmp 28), (.tmp 30), (.tmp 32)], some (26, true)⟩, ⟨some 34, .pick (.tmp 26) (.tmp 33) (.con (.bool false)), none⟩, ⟨some 4, .mov (.tmp 34), none⟩]) .ret))))⟩
theorem comp38 : compFn Try.prog 38 = some F38 := by kernel_rfl
def F42 : AFn := ⟨2, 9, [.tmp 4], (.seq (.reg [⟨some 4, .mov (.con (.bool false)), none⟩]) (.seq (.reg [⟨some 5, .mov (.tmp 0), none⟩, ⟨some 6, .mov (.tmp 1), none⟩, ⟨some 7, .call (.con (.fn 19 [] [])) [(.tmp 5), (.tmp 6)], none⟩, ⟨some 8, .bin .eql (.tmp 7) (.con (.int .i64 0)), none⟩, ⟨some 4, .mov (.tmp 8), none⟩]) .ret))⟩
theorem comp42 : compFn Try.prog 42 = some F42 := by kernel_rfl
def F44 : AFn := ⟨2, 8, [.cell 4 (some 2)], (.seq (.reg [⟨some 4, .box (.con (.agg [.int .i64 0, .int .i64 0])), none⟩]) (.seq (.reg [⟨some 5, .mov (.tmp 0), none⟩, ⟨some 6, .mov (.tmp 1), none⟩, ⟨some 7, .build [.int .i64 0, .int .i64 0] [(0, 1, (.tmp 5)), (1, 1, (.tmp 6))], none⟩, ⟨none, .store 2 (.tmp 4) (.tmp 7), none⟩]) .ret))⟩
theorem comp44 : compFn Try.prog 44 = some F44 := by kernel_rfl
def F45 : AFn := ⟨3, 15, [.tmp 6], (.seq (.reg [⟨some 6, .mov (.con (.int .i64 0)), none⟩]) (.seq (.reg [⟨some 7, .mov (.tmp 1), none⟩, ⟨some 8, .mov (.tmp 0), none⟩, ⟨some 9, .mov (.tmp 2), none⟩, ⟨some 10, .mov (.tmp 1), none⟩, ⟨some 11, .bin .sub (.tmp 9) (.tmp 10), none⟩, ⟨some 12, .bin .add (.tmp 11) (.con (.int .i64 1)), none⟩, ⟨some 13, .call (.con (.fn 19 [] [])) [(.tmp 8), (.tmp 12)], none⟩, ⟨some 14, .bin .add (.tmp 7) (.tmp 13), none⟩, ⟨some 6, .mov (.tmp 14), none⟩]) .ret))⟩
theorem comp45 : compFn Try.prog 45 = some F45 := by kernel_rfl
def F47 : AFn := ⟨0, 13, [.cell 0 (some 2)], (.seq (.reg [⟨some 0, .box (.con (.agg [.nils, .nils])), none⟩]) (.seq (.reg [⟨some 1, .bsl 1 false [.int .i64 0] 2 [(0, (.con (.int .i64 0))), (1, (.con (.int .i64 1)))], none⟩, ⟨some 2, .build [.int .i64 0, .int .i64 0, .int .i64 0, .nils] [(1, 1, (.con (.int .i64 30))), (2, 1, (.con (.int .i64 1000))), (3, 1, (.tmp 1))], none⟩, ⟨some 3, .bsl 1 false [.int .i64 0] 1 [(0, (.con (.int .i64 1)))], none⟩, ⟨some 4, .build [.int .i64 0, .int .i64 0, .int .i64 0, .nils] [(0, 1, (.con (.int .i64 5))), (1, 1, (.con (.int .i64 20))), (2, 1, (.con (.int .i64 500))), (3, 1, (.tmp 3))], none⟩, ⟨some 5, .bsl 1 false [.int .i64 0] 3 [(0, (.con (.int .i64 0))), (1, (.con (.int .i64 1))), (2, (.con (.int .i64 2)))], none⟩, ⟨some 6, .build [.int .i64 0, .int .i64 0, .int .i64 0, .nils] [(1, 1, (.con (.int .i64 40))), (2, 1, (.con (.int .i64 300))), (3, 1, (.tmp 5))], none⟩, ⟨some 7, .bsl 4 true [.int .i64 0, .int .i64 0, .int .i64 0, .nils] 3 [(0, (.tmp 2)), (1, (.tmp 4)), (2, (.tmp 6))], none⟩, ⟨some 8, .build [.int .i64 0, .int .i64 0, .int .i64 0] [(0, 1, (.con (.int .i64 10))), (1, 1, (.con (.int .i64 1))), (2, 1, (.con (.int .i64 600)))], none⟩, ⟨some 9, .build [.int .i64 0, .int .i64 0, .int .i64 0] [(0, 1, (.con (.int .i64 15))), (2, 1, (.con (.int .i64 900)))], none⟩, ⟨some 10, .build [.int .i64 0, .int .i64 0, .int .i64 0] [(0, 1, (.con (.int .i64 35))), (1, 1, (.con (.int .i64 2))), (2, 1, (.con (.int .i64 200)))], none⟩, ⟨some 11, .bsl 3 true [.int .i64 0, .int .i64 0, .int .i64 0] 3 [(0, (.tmp 8)), (1, (.tmp 9)), (2, (.tmp 10))], none⟩, ⟨some 12, .build [.nils, .nils] [(0, 1, (.tmp 7)), (1, 1, (.tmp 11))], none⟩, ⟨none, .store 2 (.tmp 0) (.tmp 12), none⟩]) .ret))⟩
theorem comp47 : compFn Try.prog 47 = some F47 := by kernel_rfl
def F48 : AFn := ⟨1, 11, [.cell 2 (some 2)], (.seq (.reg [⟨some 2, .box (.con (.agg [.nils, .nils])), none⟩]) (.seq (.reg [⟨some 4, .call (.con (.fn 47 [] [])) [], none⟩, ⟨some 3, .box (.con (.agg [.nils, .nils])), none⟩, ⟨none, .store 2 (.tmp 3) (.tmp 4), none⟩]) (.seq (.reg [⟨some 5, .faddr (.tmp 3) 1, none⟩, ⟨some 6, .load none (.tmp 5), none⟩, ⟨some 7, .mov (.tmp 0), none⟩, ⟨some 8, .iaddr (.tmp 6) (.con (.int .i64 1)) 3 none, none⟩, ⟨some 9, .faddr (.tmp 8) 2, none⟩, ⟨none, .store 1 (.tmp 9) (.tmp 7), none⟩]) (.seq (.reg [⟨some 10, .load (some 2) (.tmp 3), none⟩, ⟨none, .store 2 (.tmp 2) (.tmp 10), none⟩]) .ret))))⟩
theorem comp48 : compFn Try.prog 48 = some F48 := by kernel_rfl
def F49 : AFn := ⟨0, 5, [.tmp 0], (.seq (.reg [⟨some 0, .mov (.con (.nils)), none⟩]) (.seq (.reg [⟨some 1, .bsl 1 false [.int .i64 0] 3 [(0, (.con (.int .i64 200))), (1, (.con (.int .i64 400))), (2, (.con (.int .i64 0)))], none⟩, ⟨some 2, .bsl 1 false [.int .i64 0] 3 [(0, (.con (.int .i64 800))), (1, (.con (.int .i64 0))), (2, (.con (.int .i64 100)))], none⟩, ⟨some 3, .bsl 1 false [.int .i64 0] 3 [(0, (.con (.int .i64 0))), (1, (.con (.int .i64 0))), (2, (.con (.int .i64 200)))], none⟩, ⟨some 4, .bsl 1 false [.nils] 3 [(0, (.tmp 1)), (1, (.tmp 2)), (2, (.tmp 3))], none⟩, ⟨some 0, .mov (.tmp 4), none⟩]) .ret))⟩
theorem comp49 : compFn Try.prog 49 = some F49 := by kernel_rfl
def F50 : AFn := ⟨1, 31, [.tmp 2], (.seq (.reg [⟨some 2, .mov (.con (.int .u64 0)), none⟩]) (.seq (.reg [⟨some 4, .mov (.tmp 0), none⟩, ⟨some 5, .mov (.tmp 0), none⟩, ⟨some 6, .nilck (.tmp 5), none⟩, ⟨some 7, .faddr (.tmp 6) 0, none⟩, ⟨some 8, .load none (.tmp 7), none⟩, ⟨some 9, .bin .mul (.tmp 8) (.con (.int .u64 15074714826142052245)), none⟩, ⟨some 10, .bin .add (.tmp 9) (.con (.int .u64 11400714819323198485)), none⟩, ⟨some 11, .nilck (.tmp 4), none⟩, ⟨some 12, .faddr (.tmp 11) 0, none⟩, ⟨none, .store 1 (.tmp 12) (.tmp 10), none⟩]) (.seq (.reg [⟨some 13, .mov (.tmp 0), none⟩, ⟨some 14, .nilck (.tmp 13), none⟩, ⟨some 15, .faddr (.tmp 14) 0, none⟩, ⟨some 16, .load none (.tmp 15), none⟩, ⟨some 3, .mov (.tmp 16), none⟩]) (.seq (.reg [⟨some 17, .mov (.tmp 3), none⟩, ⟨some 18, .mov (.tmp 3), none⟩, ⟨some 19, .bin .shr (.tmp 18) (.con (.int .u64 32)), none⟩, ⟨some 20, .bin .xor (.tmp 17) (.tmp 19), none⟩, ⟨some 21, .bin .mul (.tmp 20) (.con (.int .u64 15760922415973212899)), none⟩, ⟨some 3, .mov (.tmp 21), none⟩]) (.seq (.reg [⟨some 22, .mov (.tmp 3), none⟩, ⟨some 23, .mov (.tmp 3), none⟩, ⟨some 24, .bin .shr (.tmp 23) (.con (.int .u64 32)), none⟩, ⟨some 25, .bin .xor (.tmp 22) (.tmp 24), none⟩, ⟨some 26, .bin .mul (.tmp 25) (.con (.int .u64 15760922415973212899)), none⟩, ⟨some 3, .mov (.tmp 26), none⟩]) (.seq (.reg [⟨some 27, .mov (.tmp 3), none⟩, ⟨some 28, .mov (.tmp 3), none⟩, ⟨some 29, .bin .shr (.tmp 28) (.con (.int .u64 32)), none⟩, ⟨some 30, .bin .xor (.tmp 27) (.tmp 29), none⟩, ⟨some 2, .mov (.tmp 30), none⟩]) .ret))))))⟩
theorem comp50 : compFn Try.prog 50 = some F50 := by kernel_rfl
def F51 : AFn := ⟨1, 39, [.tmp 2], (.seq (.reg [⟨some 1, .box (.tmp 0), none⟩, ⟨some 2, .mov (.con (.nils)), none⟩]) (.seq (.reg [⟨some 3, .mov (.con (.nils)), none⟩]) (.seq (.seq (.reg [⟨some 9, .faddr (.tmp 1) 1, none⟩, ⟨some 10, .load none (.tmp 9), none⟩, ⟨some 11, .len false (.tmp 10), none⟩, ⟨some 12, .mov (.con (.int .i64 0)), none⟩]) (.block 0 (.loop (.seq (.reg [⟨some 13, .bin .lss (.tmp 12) (.tmp 11), none⟩]) (.seq (.cond (.tmp 13) .skip (.exit 0)) (.seq (.block 1 (.seq (.reg [⟨some 14, .iaddr (.tmp 10) (.tmp 12) 3 none, none⟩, ⟨some 15, .load (some 3) (.tmp 14), none⟩, ⟨some 5, .box (.con (.agg [.int .i64 0, .int .i64 0, .int .i64 0])), none⟩, ⟨none, .store 3 (.tmp 5) (.tmp 15), none⟩]) (.seq (.reg [⟨some 6, .box (.con (.int .u8 0)), none⟩, ⟨none, .store 1 (.tmp 6) (.con (.int .u8 0)), none⟩]) (.seq (.seq (.reg [⟨some 16, .faddr (.tmp 1) 0, none⟩, ⟨some 17, .load none (.tmp 16), none⟩, ⟨some 18, .len false (.tmp 17), none⟩, ⟨some 19, .mov (.con (.int .i64 0)), none⟩]) (.block 2 (.loop (.seq (.reg [⟨some 20, .bin .lss (.tmp 19) (.tmp 18), none⟩]) (.seq (.cond (.tmp 20) .skip (.exit 2)) (.seq (.block 3 (.seq (.reg [⟨some 21, .mov (.tmp 19), none⟩, ⟨some 22, .iaddr (.tmp 17) (.tmp 19) 4 none, none⟩, ⟨some 23, .load (some 4) (.tmp 22), none⟩, ⟨some 8, .box (.con (.agg [.int .i64 0, .int .i64 0, .int .i64 0, .nils])), none⟩, ⟨some 7, .mov (.tmp 21), none⟩, ⟨none, .store 4 (.tmp 8) (.tmp 23), none⟩]) (.seq (.reg [⟨some 24, .load (some 4) (.tmp 8), none⟩, ⟨some 25, .load (some 3) (.tmp 5), none⟩, ⟨some 26, .call (.con (.fn 86 [] [])) [(.tmp 24), (.tmp 25)], none⟩]) (.cond (.tmp 26) (.reg [⟨some 27, .mov (.tmp 7), none⟩, ⟨some 28, .call (.con (.fn 87 [] [])) [(.tmp 6), (.tmp 27)], none⟩]) .skip)))) (.reg [⟨some 29, .bin .add (.tmp 19) (.con (.int .i64 1)), none⟩, ⟨some 19, .mov (.tmp 29), none⟩]))))))) (.reg [⟨some 30, .mov (.tmp 3), none⟩, ⟨some 31, .faddr (.tmp 5) 2, none⟩, ⟨some 32, .load none (.tmp 31), none⟩, ⟨some 33, .load none (.tmp 6), none⟩, ⟨some 34, .build [.int .i64 0, .int .u8 0] [(0, 1, (.tmp 32)), (1, 1, (.tmp 33))], none⟩, ⟨some 35, .bsl 2 true [.int .i64 0, .int .u8 0] 1 [(0, (.tmp 34))], none⟩, ⟨some 36, .app (.tmp 30) (.tmp 35) 2 16 [.int .i64 0, .int .u8 0], none⟩, ⟨some 3, .mov (.tmp 36), none⟩]))))) (.reg [⟨some 37, .bin .add (.tmp 12) (.con (.int .i64 1)), none⟩, ⟨some 12, .mov (.tmp 37), none⟩]))))))) (.seq (.reg [⟨some 38, .mov (.tmp 3), none⟩, ⟨some 2, .mov (.tmp 38), none⟩]) .ret))))⟩
theorem comp51 : compFn Try.prog 51 = some F51 := by kernel_rfl
def F52 : AFn := ⟨1, 21, [.cell 2 (some 8)], (.seq (.reg [⟨some 1, .box (.tmp 0), none⟩, ⟨some 2, .box (.con (.agg [.int .i64 0, .int .i64 0, .int .i64 0, .int .i64 0, .int .i64 0, .int .i64 0, .int .i64 0, .int .i64 0])), none⟩]) (.seq (.reg [⟨some 6, .build [.int .i64 0, .int .i64 0, .int .i64 0, .int .i64 0, .int .i64 0, .int .i64 0, .int .i64 0, .int .i64 0] [], none⟩, ⟨some 3, .box (.con (.agg [.int .i64 0, .int .i64 0, .int .i64 0, .int .i64 0, .int .i64 0, .int .i64 0, .int .i64 0, .int .i64 0])), none⟩, ⟨none, .store 8 (.tmp 3) (.tmp 6), none⟩]) (.seq (.seq (.reg [⟨some 7, .faddr (.tmp 1) 0, none⟩, ⟨some 8, .load none (.tmp 7), none⟩, ⟨some 9, .len false (.tmp 8), none⟩, ⟨some 10, .mov (.con (.int .i64 0)), none⟩]) (.block 0 (.loop (.seq (.reg [⟨some 11, .bin .lss (.tmp 10) (.tmp 9), none⟩]) (.seq (.cond (.tmp 11) .skip (.exit 0)) (.seq (.block 1 (.seq (.reg [⟨some 12, .mov (.tmp 10), none⟩, ⟨some 13, .iaddr (.tmp 8) (.tmp 10) 4 none, none⟩, ⟨some 14, .load (some 4) (.tmp 13), none⟩, ⟨some 5, .box (.con (.agg [.int .i64 0, .int .i64 0, .int .i64 0, .nils])), none⟩, ⟨some 4, .mov (.tmp 12), none⟩, ⟨none, .store 4 (.tmp 5) (.tmp 14), none⟩]) (.reg [⟨some 15, .mov (.tmp 4), none⟩, ⟨some 16, .faddr (.tmp 5) 2, none⟩, ⟨some 17, .load none (.tmp 16), none⟩, ⟨some 18, .iaddr (.tmp 3) (.tmp 15) 1 (some 8), none⟩, ⟨none, .store 1 (.tmp 18) (.tmp 17), none⟩]))) (.reg [⟨some 19, .bin .add (.tmp 10) (.con (.int .i64 1)), none⟩, ⟨some 10, .mov (.tmp 19), none⟩]))))))) (.seq (.reg [⟨some 20, .load (some 8) (.tmp 3), none⟩, ⟨none, .store 8 (.tmp 2) (.tmp 20), none⟩]) .ret))))⟩
theorem comp52 : compFn Try.prog 52 = some F52 := by kernel_rfl
def F53 : AFn := ⟨2, 27, [.tmp 4], (.seq (.reg [⟨some 2, .box (.tmp 0), none⟩, ⟨some 3, .box (.tmp 1), none⟩, ⟨some 4, .mov (.con (.int .i64 0)), none⟩]) (.seq (.reg [⟨some 5, .box (.con (.int .i64 0)), none⟩, ⟨none, .store 1 (.tmp 5) (.con (.int .i64 0)), none⟩]) (.seq (.seq (.reg [⟨some 8, .load none (.tmp 2), none⟩, ⟨some 9, .len false (.tmp 8), none⟩, ⟨some 10, .bin .add (.tmp 9) (.con (.int .i64 1)), none⟩, ⟨some 11, .mov (.con (.int .i64 0)), none⟩]) (.block 0 (.loop (.seq (.reg [⟨some 12, .bin .lss (.tmp 11) (.tmp 10), none⟩]) (.seq (.cond (.tmp 12) .skip (.exit 0)) (.seq (.block 1 (.seq (.reg [⟨some 13, .mov (.tmp 11), none⟩, ⟨some 6, .mov (.tmp 13), none⟩]) (.seq (.reg [⟨some 14, .mov (.tmp 6), none⟩, ⟨some 15, .load none (.tmp 2), none⟩, ⟨some 16, .len false (.tmp 15), none⟩, ⟨some 17, .call (.con (.fn 88 [] [])) [(.tmp 14), (.tmp 16)], none⟩]) (.block 2 (.rangeF (.tmp 17) [18] (.reg [⟨some 7, .mov (.tmp 18), none⟩]) (.block 3 (.dreg 5 [⟨some 19, .load none (.tmp 5), none⟩, ⟨some 20, .load none (.tmp 2), none⟩, ⟨some 21, .mov (.tmp 7), none⟩, ⟨some 22, .load (some 8) (.tmp 3), none⟩, ⟨some 23, .call (.con (.fn 89 [] [])) [(.tmp 20), (.tmp 21), (.tmp 22)], none⟩, ⟨some 24, .mx (.tmp 19) (.tmp 23), none⟩, ⟨none, .store 1 (.tmp 5) (.tmp 24), none⟩]))))))) (.reg [⟨some 25, .bin .add (.tmp 11) (.con (.int .i64 1)), none⟩, ⟨some 11, .mov (.tmp 25), none⟩]))))))) (.seq (.reg [⟨some 26, .load none (.tmp 5), none⟩, ⟨some 4, .mov (.tmp 26), none⟩]) .ret))))⟩
theorem comp53 : compFn Try.prog 53 = some F53 := by kernel_rfl
def F54 : AFn := ⟨2, 52, [.cell 4 (some 8), .cell 5 (some 8)], (.seq (.reg [⟨some 3, .box (.tmp 1), none⟩, ⟨some 4, .box (.con (.agg [.int .i64 0, .int .i64 0, .int .i64 0, .int .i64 0, .int .i64 0, .int .i64 0, .int .i64 0, .int .i64 0])), none⟩, ⟨some 5, .box (.con (.agg [.int .i64 0, .int .i64 0, .int .i64 0, .int .i64 0, .int .i64 0, .int .i64 0, .int .i64 0, .int .i64 0])), none⟩]) (.seq (.dreg 9 [⟨some 11, .mov (.tmp 0), none⟩, ⟨some 12, .iaddr (.tmp 11) (.con (.int .i64 0)) 2 none, none⟩, ⟨some 13, .faddr (.tmp 12) 0, none⟩, ⟨some 14, .load none (.tmp 13), none⟩, ⟨some 15, .mov (.tmp 0), none⟩, ⟨some 16, .slc false 2 (.tmp 15) (some (.con (.int .i64 1))) none, none⟩, ⟨some 6, .box (.con (.int .i64 0)), none⟩, ⟨some 7, .box (.con (.nils)), none⟩, ⟨none, .store 1 (.tmp 6) (.tmp 14), none⟩, ⟨none, .store 1 (.tmp 7) (.tmp 16), none⟩]) (.seq (.seq (.reg [⟨some 17, .mov (.tmp 0), none⟩, ⟨some 18, .iaddr (.tmp 17) (.con (.int .i64 0)) 2 none, none⟩, ⟨some 19, .faddr (.tmp 18) 1, none⟩, ⟨some 20, .load none (.tmp 19), none⟩, ⟨some 21, .call (.con (.fn 59 [] [])) [(.tmp 20)], none⟩]) (.block 0 (.rangeF (.tmp 21) [22] (.reg [⟨some 8, .mov (.tmp 22), none⟩]) (.block 1 (.seq (.dreg 4 [⟨some 23, .load none (.tmp 7), none⟩, ⟨some 24, .load (some 8) (.tmp 3), none⟩, ⟨some 25, .mov (.tmp 8), none⟩, ⟨some 26, .call (.con (.fn 61 [] [])) [(.tmp 24), (.tmp 25), (.con (.int .i64 0))], none⟩, ⟨some 27, .call (.con (.fn 53 [] [])) [(.tmp 23), (.tmp 26)], none⟩, ⟨some 9, .mov (.tmp 27), none⟩]) (.seq (.dreg 6 [⟨some 28, .load none (.tmp 6), none⟩, ⟨some 29, .mov (.tmp 8), none⟩, ⟨some 30, .iaddr (.tmp 3) (.tmp 29) 1 (some 8), none⟩, ⟨some 31, .load none (.tmp 30), none⟩, ⟨some 32, .mov (.tmp 9), none⟩, ⟨some 33, .bin .sub (.tmp 31) (.tmp 32), none⟩, ⟨some 34, .mn (.tmp 28) (.tmp 33), none⟩, ⟨some 10, .mov (.tmp 34), none⟩]) (.seq (.reg [⟨some 35, .load none (.tmp 6), none⟩, ⟨some 36, .mov (.tmp 10), none⟩, ⟨some 37, .bin .sub (.tmp 35) (.tmp 36), none⟩, ⟨none, .store 1 (.tmp 6) (.tmp 37), none⟩]) (.seq (.reg [⟨some 38, .load (some 8) (.tmp 4), none⟩, ⟨some 39, .mov (.tmp 8), none⟩, ⟨some 40, .mov (.tmp 10), none⟩, ⟨some 41, .call (.con (.fn 61 [] [])) [(.tmp 38), (.tmp 39), (.tmp 40)], none⟩, ⟨none, .store 8 (.tmp 4) (.tmp 41), none⟩]) (.dreg 7 [⟨some 42, .load (some 8) (.tmp 3), none⟩, ⟨some 43, .mov (.tmp 8), none⟩, ⟨some 44, .mov (.tmp 8), none⟩, ⟨some 45, .iaddr (.tmp 3) (.tmp 44) 1 (some 8), none⟩, ⟨some 46, .load none (.tmp 45), none⟩, ⟨some 47, .mov (.tmp 10), none⟩, ⟨some 48, .bin .sub (.tmp 46) (.tmp 47), none⟩, ⟨some 49, .call (.con (.fn 61 [] [])) [(.tmp 42), (.tmp 43), (.tmp 48)], none⟩, ⟨none, .store 8 (.tmp 3) (.tmp 49), none⟩]))))))))) (.seq (.dreg 3 [⟨some 50, .load (some 8) (.tmp 4), none⟩, ⟨some 51, .load (some 8) (.tmp 3), none⟩, ⟨none, .store 8 (.tmp 4) (.tmp 50), none⟩, ⟨none, .store 8 (.tmp 5) (.tmp 51), none⟩]) .ret))))⟩
theorem comp54 : compFn Try.prog 54 = some F54 := by kernel_rfl
def F57 : AFn := ⟨2, 27, [.tmp 4], (.seq (.reg [⟨some 2, .box (.tmp 0), none⟩, ⟨some 3, .box (.tmp 1), none⟩, ⟨some 4, .mov (.con (.int .u8 0)), none⟩]) (.scope (.seq (.reg [⟨some 5, .box (.con (.int .u8 0)), none⟩, ⟨none, .store 1 (.tmp 5) (.con (.int .u8 0)), none⟩]) (.seq .skip (.seq (.seq (.reg [⟨some 8, .load none (.tmp 2), none⟩, ⟨some 9, .len false (.tmp 8), none⟩, ⟨some 10, .bin .add (.tmp 9) (.con (.int .i64 1)), none⟩, ⟨some 11, .mov (.con (.int .i64 0)), none⟩]) (.block 0 (.loop (.seq (.reg [⟨some 12, .bin .lss (.tmp 11) (.tmp 10), none⟩]) (.seq (.cond (.tmp 12) .skip (.exit 0)) (.seq (.block 1 (.seq (.reg [⟨some 13, .mov (.tmp 11), none⟩, ⟨some 6, .mov (.tmp 13), none⟩]) (.seq (.reg [⟨some 14, .mov (.tmp 6), none⟩, ⟨some 15, .load none (.tmp 2), none⟩, ⟨some 16, .len false (.tmp 15), none⟩, ⟨some 17, .call (.con (.fn 88 [] [])) [(.tmp 14), (.tmp 16)], none⟩]) (.block 2 (.rangeF (.tmp 17) [18] (.reg [⟨some 7, .mov (.tmp 18), none⟩]) (.block 3 (.seq (.reg [⟨some 19, .load none (.tmp 2), none⟩, ⟨some 20, .mov (.tmp 7), none⟩, ⟨some 21, .load (some 8) (.tmp 3), none⟩, ⟨some 22, .call (.con (.fn 89 [] [])) [(.tmp 19), (.tmp 20), (.tmp 21)], none⟩, ⟨some 23, .bin .gtr (.tmp 22) (.con (.int .i64 0)), none⟩]) (.cond (.tmp 23) (.seq (.reg [⟨some 24, .mov (.tmp 7), none⟩, ⟨none, .store 1 (.tmp 5) (.tmp 24), none⟩]) (.exit 0)) .skip)))))))) (.reg [⟨some 25, .bin .add (.tmp 11) (.con (.int .i64 1)), none⟩, ⟨some 11, .mov (.tmp 25), none⟩]))))))) (.seq (.reg [⟨some 26, .load none (.tmp 5), none⟩, ⟨some 4, .mov (.tmp 26), none⟩]) .ret))))))⟩
theorem comp57 : compFn Try.prog 57 = some F57 := by kernel_rfl
def F58 : AFn := ⟨1, 5, [.tmp 2], (.seq (.reg [⟨some 2, .mov (.con (.nils)), none⟩]) (.seq (.reg [⟨some 3, .mov (.tmp 0), none⟩, ⟨some 4, .call (.con (.fn 90 [] [])) [(.con (.nils)), (.tmp 3)], none⟩, ⟨some 2, .mov (.tmp 4), none⟩]) .ret))⟩
theorem comp58 : compFn Try.prog 58 = some F58 := by kernel_rfl
def F59 : AFn := ⟨1, 4, [.tmp 2], (.seq (.reg [⟨some 1, .box (.tmp 0), none⟩, ⟨some 2, .mov (.con (.nilf)), none⟩]) (.seq (.reg [⟨some 3, .mkfn 91 [] [(.tmp 1)], none⟩, ⟨some 2, .mov (.tmp 3), none⟩]) .ret))⟩
theorem comp59 : compFn Try.prog 59 = some F59 := by kernel_rfl
def F60 : AFn := ⟨3, 15, [.tmp 6], (.seq (.reg [⟨some 6, .mov (.con (.bool false)), none⟩]) (.seq (.reg [⟨some 7, .mov (.tmp 0), none⟩, ⟨some 8, .mov (.tmp 1), none⟩, ⟨some 9, .bin .geq (.tmp 7) (.tmp 8), none⟩, ⟨some 10, .mov (.tmp 9), none⟩, ⟨some 11, .mov (.tmp 0), some (10, true)⟩, ⟨some 12, .mov (.tmp 2), some (10, true)⟩, ⟨some 13, .bin .leq (.tmp 11) (.tmp 12), some (10, true)⟩, ⟨some 14, .pick (.tmp 10) (.tmp 13) (.con (.bool false)), none⟩, ⟨some 6, .mov (.tmp 14), none⟩]) .ret))⟩
theorem comp60 : compFn Try.prog 60 = some F60 := by kernel_rfl
def F61 : AFn := ⟨3, 11, [.cell 6 (some 8)], (.seq (.reg [⟨some 3, .box (.tmp 0), none⟩, ⟨some 6, .box (.con (.agg [.int .i64 0, .int .i64 0, .int .i64 0, .int .i64 0, .int .i64 0, .int .i64 0, .int .i64 0, .int .i64 0])), none⟩]) (.seq (.reg [⟨some 7, .mov (.tmp 1), none⟩, ⟨some 8, .mov (.tmp 2), none⟩, ⟨some 9, .iaddr (.tmp 3) (.tmp 7) 1 (some 8), none⟩, ⟨none, .store 1 (.tmp 9) (.tmp 8), none⟩]) (.seq (.reg [⟨some 10, .load (some 8) (.tmp 3), none⟩, ⟨none, .store 8 (.tmp 6) (.tmp 10), none⟩]) .ret)))⟩
theorem comp61 : compFn Try.prog 61 = some F61 := by kernel_rfl
def F62 : AFn := ⟨2, 9, [.tmp 4], (.seq (.reg [⟨some 3, .box (.tmp 1), none⟩, ⟨some 4, .mov (.con (.int .i64 0)), none⟩]) (.seq (.reg [⟨some 5, .mov (.tmp 0), none⟩, ⟨some 6, .call (.con (.fn 94 [] [])) [(.tmp 5)], none⟩, ⟨some 7, .mkfn 95 [] [(.tmp 3)], none⟩, ⟨some 8, .call (.con (.fn 93 [] [])) [(.tmp 6), (.tmp 7)], none⟩, ⟨some 4, .mov (.tmp 8), none⟩]) .ret))⟩
theorem comp62 : compFn Try.prog 62 = some F62 := by kernel_rfl
def F63 : AFn := ⟨3, 15, [.tmp 6], (.seq (.reg [⟨some 6, .mov (.con (.bool false)), none⟩]) (.seq (.reg [⟨some 7, .mov (.tmp 0), none⟩, ⟨some 8, .mov (.tmp 1), none⟩, ⟨some 9, .bin .geq (.tmp 7) (.tmp 8), none⟩, ⟨some 10, .mov (.tmp 9), none⟩, ⟨some 11, .mov (.tmp 0), some (10, true)⟩, ⟨some 12, .mov (.tmp 2), some (10, true)⟩, ⟨some 13, .bin .leq (.tmp 11) (.tmp 12), some (10, true)⟩, ⟨some 14, .pick (.tmp 10) (.tmp 13) (.con (.bool false)), none⟩, ⟨some 6, .mov (.tmp 14), none⟩]) .ret))⟩
theorem comp63 : compFn Try.prog 63 = some F63 := by kernel_rfl
def F64 : AFn := ⟨1, 33, [.tmp 2], (.seq (.reg [⟨some 1, .box (.tmp 0), none⟩, ⟨some 2, .mov (.con (.int .i64 0)), none⟩]) (.seq (.block 0 (.seq (.reg [⟨some 4, .faddr (.tmp 1) 0, none⟩, ⟨some 5, .load none (.tmp 4), none⟩, ⟨some 6, .call (.con (.fn 65 [] [])) [(.tmp 5)], none⟩, ⟨some 7, .un .not (.tmp 6), none⟩, ⟨some 8, .mov (.tmp 7), none⟩, ⟨some 9, .faddr (.tmp 1) 1, some (8, false)⟩, ⟨some 10, .load none (.tmp 9), some (8, false)⟩, ⟨some 11, .call (.con (.fn 65 [] [])) [(.tmp 10)], some (8, false)⟩, ⟨some 12, .un .not (.tmp 11), some (8, false)⟩, ⟨some 13, .pick (.tmp 8) (.con (.bool true)) (.tmp 12), none⟩, ⟨some 3, .mov (.tmp 13), none⟩]) (.cond (.tmp 3) (.seq (.reg [⟨some 2, .mov (.con (.int .i64 2)), none⟩]) .ret) (.seq (.reg [⟨some 15, .faddr (.tmp 1) 0, none⟩, ⟨some 16, .load none (.tmp 15), none⟩, ⟨some 17, .faddr (.tmp 1) 1, none⟩, ⟨some 18, .load none (.tmp 17), none⟩, ⟨some 19, .bin .gtr (.tmp 16) (.tmp 18), none⟩, ⟨some 14, .mov (.tmp 19), none⟩]) (.cond (.tmp 14) (.seq (.reg [⟨some 2, .mov (.con (.int .i64 9)), none⟩]) .ret) (.seq (.reg [⟨some 21, .faddr (.tmp 1) 2, none⟩, ⟨some 22, .load none (.tmp 21), none⟩, ⟨some 23, .call (.con (.fn 67 [] [])) [(.tmp 22)], none⟩, ⟨some 24, .un .not (.tmp 23), none⟩, ⟨some 20, .mov (.tmp 24), none⟩]) (.cond (.tmp 20) (.seq (.reg [⟨some 2, .mov (.con (.int .i64 2)), none⟩]) .ret) (.seq (.reg [⟨some 26, .faddr (.tmp 1) 3, none⟩, ⟨some 27, .load none (.tmp 26), none⟩, ⟨some 28, .len false (.tmp 27), none⟩, ⟨some 29, .bin .gtr (.tmp 28) (.con (.int .i64 8)), none⟩, ⟨some 25, .mov (.tmp 29), none⟩]) (.cond (.tmp 25) (.seq (.reg [⟨some 2, .mov (.con (.int .i64 5)), none⟩]) .ret) .skip))))))))) (.seq (.reg [⟨some 30, .faddr (.tmp 1) 3, none⟩, ⟨some 31, .load none (.tmp 30), none⟩, ⟨some 32, .call (.con (.fn 97 [] [])) [(.tmp 31)], none⟩, ⟨some 2, .mov (.tmp 32), none⟩]) .ret)))⟩
theorem comp64 : compFn Try.prog 64 = some F64 := by kernel_rfl
def F65 : AFn := ⟨1, 5, [.tmp 2], (.seq (.reg [⟨some 2, .mov (.con (.bool false)), none⟩]) (.seq (.reg [⟨some 3, .mov (.tmp 0), none⟩, ⟨some 4, .call (.con (.fn 60 [] [])) [(.tmp 3), (.con (.int .i64 0)), (.con (.int .i64 3650))], none⟩, ⟨some 2, .mov (.tmp 4), none⟩]) .ret))⟩
theorem comp65 : compFn Try.prog 65 = some F65 := by kernel_rfl
def F66 : AFn := ⟨1, 5, [.tmp 2], (.seq (.reg [⟨some 2, .mov (.con (.bool false)), none⟩]) (.seq (.reg [⟨some 3, .mov (.tmp 0), none⟩, ⟨some 4, .call (.con (.fn 60 [] [])) [(.tmp 3), (.con (.int .i64 0)), (.con (.int .i64 7))], none⟩, ⟨some 2, .mov (.tmp 4), none⟩]) .ret))⟩
theorem comp66 : compFn Try.prog 66 = some F66 := by kernel_rfl
def F67 : AFn := ⟨1, 5, [.tmp 2], (.seq (.reg [⟨some 2, .mov (.con (.bool false)), none⟩]) (.seq (.reg [⟨some 3, .mov (.tmp 0), none⟩, ⟨some 4, .call (.con (.fn 60 [] [])) [(.tmp 3), (.con (.int .i64 0)), (.con (.int .i64 1000000000))], none⟩, ⟨some 2, .mov (.tmp 4), none⟩]) .ret))⟩
theorem comp67 : compFn Try.prog 67 = some F67 := by kernel_rfl
def F69 : AFn := ⟨2, 40, [.tmp 4], (.seq (.reg [⟨some 4, .mov (.con (.int .i64 0)), none⟩]) (.seq (.seq (.reg [⟨some 9, .mov (.tmp 0), none⟩, ⟨some 10, .len false (.tmp 9), none⟩, ⟨some 11, .bin .gtr (.tmp 10) (.con (.int .i64 12)), none⟩]) (.cond (.tmp 11) (.seq (.reg [⟨some 4, .mov (.con (.int .i64 5)), none⟩]) .ret) .skip)) (.seq (.seq (.reg [⟨some 12, .mov (.tmp 0), none⟩, ⟨some 13, .len false (.tmp 12), none⟩, ⟨some 14, .mov (.con (.int .i64 0)), none⟩]) (.block 0 (.loop (.seq (.reg [⟨some 15, .bin .lss (.tmp 14) (.tmp 13), none⟩]) (.seq (.cond (.tmp 15) .skip (.exit 0)) (.seq (.block 1 (.seq (.reg [⟨some 16, .iaddr (.tmp 12) (.tmp 14) 1 none, none⟩, ⟨some 17, .load none (.tmp 16), none⟩, ⟨some 6, .mov (.tmp 17), none⟩]) (.seq (.reg [⟨some 18, .mov (.tmp 6), none⟩, ⟨some 19, .call (.con (.fn 60 [] [])) [(.tmp 18), (.con (.int .i64 0)), (.con (.int .i64 1000))], none⟩, ⟨some 20, .un .not (.tmp 19), none⟩]) (.cond (.tmp 20) (.seq (.reg [⟨some 4, .mov (.con (.int .i64 2)), none⟩]) .ret) .skip)))) (.reg [⟨some 21, .bin .add (.tmp 14) (.con (.int .i64 1)), none⟩, ⟨some 14, .mov (.tmp 21), none⟩]))))))) (.seq (.seq (.reg [⟨some 22, .mov (.tmp 1), none⟩, ⟨some 23, .len false (.tmp 22), none⟩, ⟨some 24, .mov (.tmp 0), none⟩, ⟨some 25, .len false (.tmp 24), none⟩, ⟨some 26, .bin .neq (.tmp 23) (.tmp 25), none⟩]) (.cond (.tmp 26) (.seq (.reg [⟨some 4, .mov (.con (.int .i64 1)), none⟩]) .ret) .skip)) (.seq (.seq (.reg [⟨some 27, .mov (.tmp 1), none⟩, ⟨some 28, .len false (.tmp 27), none⟩, ⟨some 29, .mov (.con (.int .i64 0)), none⟩]) (.block 2 (.loop (.seq (.reg [⟨some 30, .bin .lss (.tmp 29) (.tmp 28), none⟩]) (.seq (.cond (.tmp 30) .skip (.exit 2)) (.seq (.block 3 (.seq (.reg [⟨some 31, .iaddr (.tmp 27) (.tmp 29) 1 none, none⟩, ⟨some 32, .load none (.tmp 31), none⟩, ⟨some 8, .mov (.tmp 32), none⟩]) (.seq (.reg [⟨some 33, .mov (.tmp 8), none⟩, ⟨some 34, .call (.con (.fn 60 [] [])) [(.tmp 33), (.con (.int .i64 0)), (.con (.int .i64 1000000000))], none⟩, ⟨some 35, .un .not (.tmp 34), none⟩]) (.cond (.tmp 35) (.seq (.reg [⟨some 4, .mov (.con (.int .i64 2)), none⟩]) .ret) .skip)))) (.reg [⟨some 36, .bin .add (.tmp 29) (.con (.int .i64 1)), none⟩, ⟨some 29, .mov (.tmp 36), none⟩]))))))) (.seq (.seq (.reg [⟨some 37, .mov (.tmp 0), none⟩, ⟨some 38, .call (.con (.fn 70 [] [])) [(.tmp 37)], none⟩, ⟨some 39, .bin .eql (.tmp 38) (.con (.int .i64 0)), none⟩]) (.cond (.tmp 39) (.seq (.reg [⟨some 4, .mov (.con (.int .i64 4)), none⟩]) .ret) .skip)) (.seq (.reg [⟨some 4, .mov (.con (.int .i64 0)), none⟩]) .ret)))))))⟩
theorem comp69 : compFn Try.prog 69 = some F69 := by kernel_rfl
def F70 : AFn := ⟨1, 6, [.tmp 2], (.seq (.reg [⟨some 2, .mov (.con (.int .i64 0)), none⟩]) (.seq (.reg [⟨some 3, .mov (.tmp 0), none⟩, ⟨some 4, .call (.con (.fn 99 [] [])) [(.tmp 3)], none⟩, ⟨some 5, .call (.con (.fn 98 [] [])) [(.tmp 4), (.con (.fn 100 [] []))], none⟩, ⟨some 2, .mov (.tmp 5), none⟩]) .ret))⟩
theorem comp70 : compFn Try.prog 70 = some F70 := by kernel_rfl
def F71 : AFn := ⟨2, 21, [.tmp 4], (.seq (.reg [⟨some 4, .mov (.con (.int .i64 0)), none⟩]) (.seq (.reg [⟨some 5, .mov (.con (.int .i64 0)), none⟩]) (.seq (.block 0 (.loop (.seq (.seq (.reg [⟨some 6, .mov (.tmp 1), none⟩, ⟨some 7, .mov (.tmp 0), none⟩, ⟨some 8, .mov (.tmp 5), none⟩, ⟨some 9, .iaddr (.tmp 7) (.tmp 8) 1 none, none⟩, ⟨some 10, .load none (.tmp 9), none⟩, ⟨some 11, .bin .geq (.tmp 6) (.tmp 10), none⟩]) (.cond (.tmp 11) .skip (.exit 0))) (.block 1 (.seq (.reg [⟨some 12, .mov (.tmp 1), none⟩, ⟨some 13, .mov (.tmp 0), none⟩, ⟨some 14, .mov (.tmp 5), none⟩, ⟨some 15, .iaddr (.tmp 13) (.tmp 14) 1 none, none⟩, ⟨some 16, .load none (.tmp 15), none⟩, ⟨some 17, .bin .sub (.tmp 12) (.tmp 16), none⟩, ⟨some 1, .mov (.tmp 17), none⟩]) (.reg [⟨some 18, .mov (.tmp 5), none⟩, ⟨some 19, .bin .add (.tmp 18) (.con (.int .i64 1)), none⟩, ⟨some 5, .mov (.tmp 19), none⟩])))))) (.seq (.reg [⟨some 20, .mov (.tmp 5), none⟩, ⟨some 4, .mov (.tmp 20), none⟩]) .ret))))⟩
theorem comp71 : compFn Try.prog 71 = some F71 := by kernel_rfl
def F86 : AFn := ⟨2, 19, [.tmp 4], (.seq (.reg [⟨some 2, .box (.tmp 0), none⟩, ⟨some 3, .box (.tmp 1), none⟩, ⟨some 4, .mov (.con (.bool false)), none⟩]) (.seq (.dreg 12 [⟨some 5, .faddr (.tmp 3) 0, none⟩, ⟨some 6, .load none (.tmp 5), none⟩, ⟨some 7, .faddr (.tmp 2) 0, none⟩, ⟨some 8, .load none (.tmp 7), none⟩, ⟨some 9, .faddr (.tmp 2) 1, none⟩, ⟨some 10, .load none (.tmp 9), none⟩, ⟨some 11, .call (.con (.fn 60 [] [])) [(.tmp 6), (.tmp 8), (.tmp 10)], none⟩, ⟨some 12, .mov (.tmp 11), none⟩, ⟨some 13, .load (some 4) (.tmp 2), some (12, true)⟩, ⟨some 14, .call (.con (.fn 109 [] [])) [(.tmp 13)], some (12, true)⟩, ⟨some 15, .faddr (.tmp 3) 1, some (12, true)⟩, ⟨some 16, .load none (.tmp 15), some (12, true)⟩, ⟨some 17, .call (.con (.fn 96 [] [])) [(.tmp 14), (.tmp 16)], some (12, true)⟩, ⟨some 18, .pick (.tmp 12) (.tmp 17) (.con (.bool false)), none⟩, ⟨some 4, .mov (.tmp 18), none⟩]) .ret))⟩
theorem comp86 : compFn Try.prog 86 = some F86 := by kernel_rfl
def F87 : AFn := ⟨2, 11, [], (.dreg 5 [⟨some 4, .mov (.tmp 0), none⟩, ⟨some 5, .nilck (.tmp 4), none⟩, ⟨some 6, .load none (.tmp 5), none⟩, ⟨some 7, .mov (.tmp 1), none⟩, ⟨some 8, .bin .shl (.con (.int .u8 1)) (.tmp 7), none⟩, ⟨some 9, .bin .or (.tmp 6) (.tmp 8), none⟩, ⟨some 10, .nilck (.tmp 4), none⟩, ⟨none, .store 1 (.tmp 10) (.tmp 9), none⟩])⟩
theorem comp87 : compFn Try.prog 87 = some F87 := by kernel_rfl
def F88 : AFn := ⟨2, 6, [.tmp 4], (.seq (.reg [⟨some 2, .box (.tmp 0), none⟩, ⟨some 3, .box (.tmp 1), none⟩, ⟨some 4, .mov (.con (.nilf)), none⟩]) (.seq (.reg [⟨some 5, .mkfn 110 [] [(.tmp 3), (.tmp 2)], none⟩, ⟨some 4, .mov (.tmp 5), none⟩]) .ret))⟩
theorem comp88 : compFn Try.prog 88 = some F88 := by kernel_rfl
def F89 : AFn := ⟨3, 30, [.tmp 6], (.seq (.reg [⟨some 3, .box (.tmp 0), none⟩, ⟨some 5, .box (.tmp 2), none⟩, ⟨some 6, .mov (.con (.int .i64 0)), none⟩]) (.seq (.reg [⟨some 7, .box (.con (.int .u8 0)), none⟩, ⟨none, .store 1 (.tmp 7) (.con (.int .u8 0)), none⟩]) (.seq (.seq (.reg [⟨some 9, .mov (.tmp 1), none⟩, ⟨some 10, .call (.con (.fn 59 [] [])) [(.tmp 9)], none⟩]) (.block 0 (.rangeF (.tmp 10) [11] (.reg [⟨some 8, .mov (.tmp 11), none⟩]) (.block 1 (.dreg 6 [⟨some 12, .load none (.tmp 7), none⟩, ⟨some 13, .load none (.tmp 3), none⟩, ⟨some 14, .mov (.tmp 8), none⟩, ⟨some 15, .iaddr (.tmp 13) (.tmp 14) 2 none, none⟩, ⟨some 16, .faddr (.tmp 15) 1, none⟩, ⟨some 17, .load none (.tmp 16), none⟩, ⟨some 18, .bin .or (.tmp 12) (.tmp 17), none⟩, ⟨none, .store 1 (.tmp 7) (.tmp 18), none⟩]))))) (.seq (.dreg 9 [⟨some 19, .mov (.tmp 1), none⟩, ⟨some 20, .call (.con (.fn 59 [] [])) [(.tmp 19)], none⟩, ⟨some 21, .load none (.tmp 3), none⟩, ⟨some 22, .mkfn 112 [(.tmp 21)] [], none⟩, ⟨some 23, .call (.con (.fn 98 [] [])) [(.tmp 20), (.tmp 22)], none⟩, ⟨some 24, .load none (.tmp 7), none⟩, ⟨some 25, .call (.con (.fn 59 [] [])) [(.tmp 24)], none⟩, ⟨some 26, .load (some 8) (.tmp 5), none⟩, ⟨some 27, .mkfn 113 [(.tmp 26)] [], none⟩, ⟨some 28, .call (.con (.fn 98 [] [])) [(.tmp 25), (.tmp 27)], none⟩, ⟨some 29, .bin .sub (.tmp 23) (.tmp 28), none⟩, ⟨some 6, .mov (.tmp 29), none⟩]) .ret))))⟩
theorem comp89 : compFn Try.prog 89 = some F89 := by kernel_rfl
def F90 : AFn := ⟨2, 13, [.tmp 4], (.seq (.reg [⟨some 2, .box (.tmp 0), none⟩, ⟨some 4, .mov (.con (.nils)), none⟩]) (.seq (.seq (.reg [⟨some 6, .mov (.tmp 1), none⟩]) (.block 0 (.rangeF (.tmp 6) [7] (.reg [⟨some 5, .mov (.tmp 7), none⟩]) (.block 1 (.reg [⟨some 8, .load none (.tmp 2), none⟩, ⟨some 9, .mov (.tmp 5), none⟩, ⟨some 10, .bsl 1 false [.int .i64 0] 1 [(0, (.tmp 9))], none⟩, ⟨some 11, .app (.tmp 8) (.tmp 10) 1 8 [.int .i64 0], none⟩, ⟨none, .store 1 (.tmp 2) (.tmp 11), none⟩]))))) (.seq (.reg [⟨some 12, .load none (.tmp 2), none⟩, ⟨some 4, .mov (.tmp 12), none⟩]) .ret)))⟩
theorem comp90 : compFn Try.prog 90 = some F90 := by kernel_rfl
def F91 : AFn := ⟨1, 16, [], (.seq (.reg [⟨some 4, .load none (.tmp 1), none⟩, ⟨some 3, .mov (.tmp 4), none⟩]) (.block 0 (.loop (.seq (.seq (.reg [⟨some 5, .mov (.tmp 3), none⟩, ⟨some 6, .bin .neq (.tmp 5) (.con (.int .u8 0)), none⟩]) (.cond (.tmp 6) .skip (.exit 0))) (.seq (.block 1 (.seq (.reg [⟨some 11, .mov (.tmp 0), none⟩, ⟨some 12, .mov (.tmp 3), none⟩, ⟨some 13, .call (.con (.fn 92 [] [])) [(.tmp 12)], none⟩, ⟨some 14, .call (.tmp 11) [(.tmp 13)], none⟩, ⟨some 15, .un .not (.tmp 14), none⟩]) (.cond (.tmp 15) .ret .skip))) (.reg [⟨some 7, .mov (.tmp 3), none⟩, ⟨some 8, .mov (.tmp 3), none⟩, ⟨some 9, .bin .sub (.tmp 8) (.con (.int .u8 1)), none⟩, ⟨some 10, .bin .and (.tmp 7) (.tmp 9), none⟩, ⟨some 3, .mov (.tmp 10), none⟩]))))))⟩
theorem comp91 : compFn Try.prog 91 = some F91 := by kernel_rfl
def F92 : AFn := ⟨1, 6, [.tmp 2], (.seq (.reg [⟨some 2, .mov (.con (.int .i64 0)), none⟩]) (.seq (.reg [⟨some 3, .mov (.tmp 0), none⟩, ⟨some 4, .idx (.con (.str (ByteArray.mk #[8, 0, 1, 0, 2, 0, 1, 0, 3, 0, 1, 0, 2, 0, 1, 0, 4, 0, 1, 0, 2, 0, 1, 0, 3, 0, 1, 0, 2, 0, 1, 0, 5, 0, 1, 0, 2, 0, 1, 0, 3, 0, 1, 0, 2, 0, 1, 0, 4, 0, 1, 0, 2, 0, 1, 0, 3, 0, 1, 0, 2, 0, 1, 0, 6, 0, 1, 0, 2, 0, 1, 0, 3, 0, 1, 0, 2, 0, 1, 0, 4, 0, 1, 0, 2, 0, 1, 0, 3, 0, 1, 0, 2, 0, 1, 0, 5, 0, 1, 0, 2, 0, 1, 0, 3, 0, 1, 0, 2, 0, 1, 0, 4, 0, 1, 0, 2, 0, 1, 0, 3, 0, 1, 0, 2, 0, 1, 0, 7, 0, 1, 0, 2, 0, 1, 0, 3, 0, 1, 0, 2, 0, 1, 0, 4, 0, 1, 0, 2, 0, 1, 0, 3, 0, 1, 0, 2, 0, 1, 0, 5, 0, 1, 0, 2, 0, 1, 0, 3, 0, 1, 0, 2, 0, 1, 0, 4, 0, 1, 0, 2, 0, 1, 0, 3, 0, 1, 0, 2, 0, 1, 0, 6, 0, 1, 0, 2, 0, 1, 0, 3, 0, 1, 0, 2, 0, 1, 0, 4, 0, 1, 0, 2, 0, 1, 0, 3, 0, 1, 0, 2, 0, 1, 0, 5, 0, 1, 0, 2, 0, 1, 0, 3, 0, 1, 0, 2, 0, 1, 0, 4, 0, 1, 0, 2, 0, 1, 0, 3, 0, 1, 0, 2, 0, 1, 0]))) (.tmp 3), none⟩, ⟨some 5, .conv .i64 (.tmp 4), none⟩, ⟨some 2, .mov (.tmp 5), none⟩]) .ret))⟩
theorem comp92 : compFn Try.prog 92 = some F92 := by kernel_rfl
def F93 : AFn := ⟨2, 15, [.tmp 4], (.seq (.reg [⟨some 3, .box (.tmp 1), none⟩, ⟨some 4, .mov (.con (.int .i64 0)), none⟩]) (.seq (.reg [⟨some 5, .box (.con (.int .i64 0)), none⟩, ⟨none, .store 1 (.tmp 5) (.con (.int .i64 0)), none⟩]) (.seq (.seq (.reg [⟨some 7, .mov (.tmp 0), none⟩]) (.block 0 (.rangeF (.tmp 7) [8] (.reg [⟨some 6, .box (.con (.agg [.int .i64 0, .int .u8 0])), none⟩, ⟨none, .store 2 (.tmp 6) (.tmp 8), none⟩]) (.block 1 (.dreg 4 [⟨some 9, .load none (.tmp 5), none⟩, ⟨some 10, .load none (.tmp 3), none⟩, ⟨some 11, .load (some 2) (.tmp 6), none⟩, ⟨some 12, .call (.tmp 10) [(.tmp 11)], none⟩, ⟨some 13, .bin .add (.tmp 9) (.tmp 12), none⟩, ⟨none, .store 1 (.tmp 5) (.tmp 13), none⟩]))))) (.seq (.reg [⟨some 14, .load none (.tmp 5), none⟩, ⟨some 4, .mov (.tmp 14), none⟩]) .ret))))⟩
theorem comp93 : compFn Try.prog 93 = some F93 := by kernel_rfl
def F94 : AFn := ⟨1, 4, [.tmp 2], (.seq (.reg [⟨some 1, .box (.tmp 0), none⟩, ⟨some 2, .mov (.con (.nilf)), none⟩]) (.seq (.reg [⟨some 3, .mkfn 114 [] [(.tmp 1)], none⟩, ⟨some 2, .mov (.tmp 3), none⟩]) .ret))⟩
theorem comp94 : compFn Try.prog 94 = some F94 := by kernel_rfl
def F95 : AFn := ⟨1, 10, [.tmp 3], (.seq (.reg [⟨some 2, .box (.tmp 0), none⟩, ⟨some 3, .mov (.con (.int .i64 0)), none⟩]) (.seq (.seq (.reg [⟨some 4, .faddr (.tmp 2) 1, none⟩, ⟨some 5, .load none (.tmp 4), none⟩, ⟨some 6, .load none (.tmp 1), none⟩, ⟨some 7, .call (.con (.fn 96 [] [])) [(.tmp 5), (.tmp 6)], none⟩]) (.cond (.tmp 7) (.seq (.reg [⟨some 8, .faddr (.tmp 2) 0, none⟩, ⟨some 9, .load none (.tmp 8), none⟩, ⟨some 3, .mov (.tmp 9), none⟩]) .ret) .skip)) (.seq (.reg [⟨some 3, .mov (.con (.int .i64 0)), none⟩]) .ret)))⟩
theorem comp95 : compFn Try.prog 95 = some F95 := by kernel_rfl
def F96 : AFn := ⟨2, 10, [.tmp 4], (.seq (.reg [⟨some 4, .mov (.con (.bool false)), none⟩]) (.seq (.reg [⟨some 5, .mov (.tmp 0), none⟩, ⟨some 6, .mov (.tmp 1), none⟩, ⟨some 7, .bin .shr (.tmp 5) (.tmp 6), none⟩, ⟨some 8, .bin .and (.tmp 7) (.con (.int .u8 1)), none⟩, ⟨some 9, .bin .eql (.tmp 8) (.con (.int .u8 1)), none⟩, ⟨some 4, .mov (.tmp 9), none⟩]) .ret))⟩
theorem comp96 : compFn Try.prog 96 = some F96 := by kernel_rfl
def F97 : AFn := ⟨1, 29, [.tmp 2], (.seq (.reg [⟨some 2, .mov (.con (.int .i64 0)), none⟩]) (.seq (.seq (.reg [⟨some 5, .mov (.tmp 0), none⟩, ⟨some 6, .len false (.tmp 5), none⟩, ⟨some 7, .mov (.con (.int .i64 0)), none⟩]) (.block 0 (.loop (.seq (.reg [⟨some 8, .bin .lss (.tmp 7) (.tmp 6), none⟩]) (.seq (.cond (.tmp 8) .skip (.exit 0)) (.seq (.block 1 (.seq (.reg [⟨some 9, .mov (.tmp 7), none⟩, ⟨some 10, .iaddr (.tmp 5) (.tmp 7) 1 none, none⟩, ⟨some 11, .load none (.tmp 10), none⟩, ⟨some 3, .mov (.tmp 9), none⟩, ⟨some 4, .mov (.tmp 11), none⟩]) (.block 2 (.seq (.reg [⟨some 13, .mov (.tmp 4), none⟩, ⟨some 14, .call (.con (.fn 66 [] [])) [(.tmp 13)], none⟩, ⟨some 15, .un .not (.tmp 14), none⟩, ⟨some 12, .mov (.tmp 15), none⟩]) (.cond (.tmp 12) (.seq (.reg [⟨some 2, .mov (.con (.int .i64 2)), none⟩]) .ret) (.seq (.reg [⟨some 17, .mov (.tmp 3), none⟩, ⟨some 18, .bin .gtr (.tmp 17) (.con (.int .i64 0)), none⟩, ⟨some 19, .mov (.tmp 18), none⟩, ⟨some 20, .mov (.tmp 4), some (19, true)⟩, ⟨some 21, .mov (.tmp 0), some (19, true)⟩, ⟨some 22, .mov (.tmp 3), some (19, true)⟩, ⟨some 23, .bin .sub (.tmp 22) (.con (.int .i64 1)), some (19, true)⟩, ⟨some 24, .iaddr (.tmp 21) (.tmp 23) 1 none, some (19, true)⟩, ⟨some 25, .load none (.tmp 24), some (19, true)⟩, ⟨some 26, .bin .leq (.tmp 20) (.tmp 25), some (19, true)⟩, ⟨some 27, .pick (.tmp 19) (.tmp 26) (.con (.bool false)), none⟩, ⟨some 16, .mov (.tmp 27), none⟩]) (.cond (.tmp 16) (.seq (.reg [⟨some 2, .mov (.con (.int .i64 9)), none⟩]) .ret) .skip))))))) (.reg [⟨some 28, .bin .add (.tmp 7) (.con (.int .i64 1)), none⟩, ⟨some 7, .mov (.tmp 28), none⟩]))))))) (.seq (.reg [⟨some 2, .mov (.con (.int .i64 0)), none⟩]) .ret)))⟩
theorem comp97 : compFn Try.prog 97 = some F97 := by kernel_rfl
def F98 : AFn := ⟨2, 15, [.tmp 4], (.seq (.reg [⟨some 3, .box (.tmp 1), none⟩, ⟨some 4, .mov (.con (.int .i64 0)), none⟩]) (.seq (.reg [⟨some 5, .box (.con (.int .i64 0)), none⟩, ⟨none, .store 1 (.tmp 5) (.con (.int .i64 0)), none⟩]) (.seq (.seq (.reg [⟨some 7, .mov (.tmp 0), none⟩]) (.block 0 (.rangeF (.tmp 7) [8] (.reg [⟨some 6, .mov (.tmp 8), none⟩]) (.block 1 (.dreg 4 [⟨some 9, .load none (.tmp 5), none⟩, ⟨some 10, .load none (.tmp 3), none⟩, ⟨some 11, .mov (.tmp 6), none⟩, ⟨some 12, .call (.tmp 10) [(.tmp 11)], none⟩, ⟨some 13, .bin .add (.tmp 9) (.tmp 12), none⟩, ⟨none, .store 1 (.tmp 5) (.tmp 13), none⟩]))))) (.seq (.reg [⟨some 14, .load none (.tmp 5), none⟩, ⟨some 4, .mov (.tmp 14), none⟩]) .ret))))⟩
theorem comp98 : compFn Try.prog 98 = some F98 := by kernel_rfl
def F99 : AFn := ⟨1, 4, [.tmp 2], (.seq (.reg [⟨some 1, .box (.tmp 0), none⟩, ⟨some 2, .mov (.con (.nilf)), none⟩]) (.seq (.reg [⟨some 3, .mkfn 115 [] [(.tmp 1)], none⟩, ⟨some 2, .mov (.tmp 3), none⟩]) .ret))⟩
theorem comp99 : compFn Try.prog 99 = some F99 := by kernel_rfl
def F100 : AFn := ⟨1, 4, [.tmp 2], (.seq (.reg [⟨some 2, .mov (.con (.int .i64 0)), none⟩]) (.seq (.reg [⟨some 3, .mov (.tmp 0), none⟩, ⟨some 2, .mov (.tmp 3), none⟩]) .ret))⟩
theorem comp100 : compFn Try.prog 100 = some F100 := by kernel_rfl
def F109 : AFn := ⟨1, 9, [.tmp 2], (.seq (.reg [⟨some 1, .box (.tmp 0), none⟩, ⟨some 2, .mov (.con (.int .u8 0)), none⟩]) (.seq (.reg [⟨some 3, .box (.con (.int .u8 0)), none⟩, ⟨none, .store 1 (.tmp 3) (.con (.int .u8 0)), none⟩]) (.seq (.reg [⟨some 4, .faddr (.tmp 1) 3, none⟩, ⟨some 5, .load none (.tmp 4), none⟩, ⟨some 6, .mkfn 87 [(.tmp 3)] [], none⟩, ⟨some 7, .call (.con (.fn 118 [] [])) [(.tmp 5), (.tmp 6)], none⟩]) (.seq (.reg [⟨some 8, .load none (.tmp 3), none⟩, ⟨some 2, .mov (.tmp 8), none⟩]) .ret))))⟩
theorem comp109 : compFn Try.prog 109 = some F109 := by kernel_rfl
def F110 : AFn := ⟨1, 9, [], (.seq (.reg [⟨some 3, .box (.tmp 0), none⟩]) (.seq (.reg [⟨some 4, .box (.con (.nilf)), none⟩]) (.seq (.reg [⟨some 5, .mkfn 111 [] [(.tmp 3), (.tmp 1), (.tmp 4)], none⟩, ⟨none, .store 1 (.tmp 4) (.tmp 5), none⟩]) (.reg [⟨some 6, .load none (.tmp 4), none⟩, ⟨some 7, .load none (.tmp 2), none⟩, ⟨some 8, .call (.tmp 6) [(.con (.int .u8 0)), (.con (.int .i64 0)), (.tmp 7)], none⟩]))))⟩
theorem comp110 : compFn Try.prog 110 = some F110 := by kernel_rfl
def F111 : AFn := ⟨3, 36, [.tmp 9], (.seq (.reg [⟨some 9, .mov (.con (.bool false)), none⟩]) (.seq (.seq (.reg [⟨some 12, .mov (.tmp 2), none⟩, ⟨some 13, .bin .eql (.tmp 12) (.con (.int .i64 0)), none⟩]) (.cond (.tmp 13) (.seq (.reg [⟨some 14, .load none (.tmp 3), none⟩, ⟨some 15, .mov (.tmp 0), none⟩, ⟨some 16, .call (.tmp 14) [(.tmp 15)], none⟩, ⟨some 9, .mov (.tmp 16), none⟩]) .ret) .skip)) (.seq (.seq (.reg [⟨some 17, .mov (.tmp 1), none⟩, ⟨some 10, .mov (.tmp 17), none⟩]) (.block 0 (.loop (.seq (.seq (.reg [⟨some 18, .mov (.tmp 10), none⟩, ⟨some 19, .mov (.tmp 2), none⟩, ⟨some 20, .bin .add (.tmp 18) (.tmp 19), none⟩, ⟨some 21, .load none (.tmp 4), none⟩, ⟨some 22, .bin .leq (.tmp 20) (.tmp 21), none⟩]) (.cond (.tmp 22) .skip (.exit 0))) (.seq (.block 1 (.seq (.reg [⟨some 25, .mov (.tmp 0), none⟩, ⟨some 11, .box (.con (.int .u8 0)), none⟩, ⟨none, .store 1 (.tmp 11) (.tmp 25), none⟩]) (.seq (.reg [⟨some 26, .mov (.tmp 10), none⟩, ⟨some 27, .call (.con (.fn 87 [] [])) [(.tmp 11), (.tmp 26)], none⟩]) (.seq (.reg [⟨some 28, .load none (.tmp 5), none⟩, ⟨some 29, .load none (.tmp 11), none⟩, ⟨some 30, .mov (.tmp 10), none⟩, ⟨some 31, .bin .add (.tmp 30) (.con (.int .i64 1)), none⟩, ⟨some 32, .mov (.tmp 2), none⟩, ⟨some 33, .bin .sub (.tmp 32) (.con (.int .i64 1)), none⟩, ⟨some 34, .call (.tmp 28) [(.tmp 29), (.tmp 31), (.tmp 33)], none⟩, ⟨some 35, .un .not (.tmp 34), none⟩]) (.cond (.tmp 35) (.seq (.reg [⟨some 9, .mov (.con (.bool false)), none⟩]) .ret) .skip))))) (.reg [⟨some 23, .mov (.tmp 10), none⟩, ⟨some 24, .bin .add (.tmp 23) (.con (.int .i64 1)), none⟩, ⟨some 10, .mov (.tmp 24), none⟩])))))) (.seq (.reg [⟨some 9, .mov (.con (.bool true)), none⟩]) .ret))))⟩
theorem comp111 : compFn Try.prog 111 = some F111 := by kernel_rfl
def F112 : AFn := ⟨2, 10, [.tmp 4], (.seq (.reg [⟨some 4, .mov (.con (.int .i64 0)), none⟩]) (.seq (.reg [⟨some 5, .mov (.tmp 0), none⟩, ⟨some 6, .mov (.tmp 1), none⟩, ⟨some 7, .iaddr (.tmp 5) (.tmp 6) 2 none, none⟩, ⟨some 8, .faddr (.tmp 7) 0, none⟩, ⟨some 9, .load none (.tmp 8), none⟩, ⟨some 4, .mov (.tmp 9), none⟩]) .ret))⟩
theorem comp112 : compFn Try.prog 112 = some F112 := by kernel_rfl
def F113 : AFn := ⟨2, 8, [.tmp 4], (.seq (.reg [⟨some 2, .box (.tmp 0), none⟩, ⟨some 4, .mov (.con (.int .i64 0)), none⟩]) (.seq (.reg [⟨some 5, .mov (.tmp 1), none⟩, ⟨some 6, .iaddr (.tmp 2) (.tmp 5) 1 (some 8), none⟩, ⟨some 7, .load none (.tmp 6), none⟩, ⟨some 4, .mov (.tmp 7), none⟩]) .ret))⟩
theorem comp113 : compFn Try.prog 113 = some F113 := by kernel_rfl
def F114 : AFn := ⟨1, 16, [], (.seq (.reg [⟨some 5, .load none (.tmp 1), none⟩, ⟨some 6, .len false (.tmp 5), none⟩, ⟨some 7, .mov (.con (.int .i64 0)), none⟩]) (.block 0 (.loop (.seq (.reg [⟨some 8, .bin .lss (.tmp 7) (.tmp 6), none⟩]) (.seq (.cond (.tmp 8) .skip (.exit 0)) (.seq (.block 1 (.seq (.reg [⟨some 9, .iaddr (.tmp 5) (.tmp 7) 2 none, none⟩, ⟨some 10, .load (some 2) (.tmp 9), none⟩, ⟨some 4, .box (.con (.agg [.int .i64 0, .int .u8 0])), none⟩, ⟨none, .store 2 (.tmp 4) (.tmp 10), none⟩]) (.seq (.reg [⟨some 11, .mov (.tmp 0), none⟩, ⟨some 12, .load (some 2) (.tmp 4), none⟩, ⟨some 13, .call (.tmp 11) [(.tmp 12)], none⟩, ⟨some 14, .un .not (.tmp 13), none⟩]) (.cond (.tmp 14) .ret .skip)))) (.reg [⟨some 15, .bin .add (.tmp 7) (.con (.int .i64 1)), none⟩, ⟨some 7, .mov (.tmp 15), none⟩])))))))⟩
theorem comp114 : compFn Try.prog 114 = some F114 := by kernel_rfl
def F115 : AFn := ⟨1, 16, [], (.seq (.reg [⟨some 5, .load none (.tmp 1), none⟩, ⟨some 6, .len false (.tmp 5), none⟩, ⟨some 7, .mov (.con (.int .i64 0)), none⟩]) (.block 0 (.loop (.seq (.reg [⟨some 8, .bin .lss (.tmp 7) (.tmp 6), none⟩]) (.seq (.cond (.tmp 8) .skip (.exit 0)) (.seq (.block 1 (.seq (.reg [⟨some 9, .iaddr (.tmp 5) (.tmp 7) 1 none, none⟩, ⟨some 10, .load none (.tmp 9), none⟩, ⟨some 4, .mov (.tmp 10), none⟩]) (.seq (.reg [⟨some 11, .mov (.tmp 0), none⟩, ⟨some 12, .mov (.tmp 4), none⟩, ⟨some 13, .call (.tmp 11) [(.tmp 12)], none⟩, ⟨some 14, .un .not (.tmp 13), none⟩]) (.cond (.tmp 14) .ret .skip)))) (.reg [⟨some 15, .bin .add (.tmp 7) (.con (.int .i64 1)), none⟩, ⟨some 7, .mov (.tmp 15), none⟩])))))))⟩
theorem comp115 : compFn Try.prog 115 = some F115 := by kernel_rfl
def F118 : AFn := ⟨2, 16, [], (.seq (.reg [⟨some 6, .mov (.tmp 0), none⟩, ⟨some 7, .len false (.tmp 6), none⟩, ⟨some 8, .mov (.con (.int .i64 0)), none⟩]) (.block 0 (.loop (.seq (.reg [⟨some 9, .bin .lss (.tmp 8) (.tmp 7), none⟩]) (.seq (.cond (.tmp 9) .skip (.exit 0)) (.seq (.block 1 (.seq (.reg [⟨some 10, .iaddr (.tmp 6) (.tmp 8) 1 none, none⟩, ⟨some 11, .load none (.tmp 10), none⟩, ⟨some 5, .mov (.tmp 11), none⟩]) (.reg [⟨some 12, .mov (.tmp 1), none⟩, ⟨some 13, .mov (.tmp 5), none⟩, ⟨some 14, .call (.tmp 12) [(.tmp 13)], none⟩]))) (.reg [⟨some 15, .bin .add (.tmp 8) (.con (.int .i64 1)), none⟩, ⟨some 8, .mov (.tmp 15), none⟩])))))))⟩
theorem comp118 : compFn Try.prog 118 = some F118 := by kernel_rfl
end Go.Proofs.Ytkpihepaaiofgaa
end
section
namespace Go.Proofs.Ytkpihepaaiofgaa
open Go.RowKit
set_option linter.unusedVariables false
set_option linter.unusedSimpArgs false
set_option maxRecDepth 10000
set_option maxHeartbeats 4000000
attribute [local simp] cleanL AV.clean cleanI cleanBo cleanSt cleanII re re1 back back1 AV.plain AV.plain1 ren ren1 fadeS fadeV List.idxOf? List.findIdx? List.findIdx?.go
structure T_bk_Drum where
  beat_ : Int
  deriving Inhabited
def C_bk_Drum (x : T_bk_Drum) : List AV := [.int .u64 x.beat_]
attribute [local simp] C_bk_Drum
def A_bk_Drum (x : T_bk_Drum) : AV := .agg (C_bk_Drum x)
attribute [local simp] A_bk_Drum
theorem KC_bk_Drum (x : T_bk_Drum) : cleanL (C_bk_Drum x) = true := by simp
theorem KA_bk_Drum (x : T_bk_Drum) : (A_bk_Drum x).clean = true := KC_bk_Drum x
theorem KL_bk_Drum (l : List T_bk_Drum) : cleanL (l.map A_bk_Drum) = true := cleanM KA_bk_Drum l
attribute [local simp] KL_bk_Drum
theorem KB_bk_Drum (x : T_bk_Drum) (n : Nat) (σ : List Nat) : (C_bk_Drum x).mapM (re n σ) = some (C_bk_Drum x) := by simp
def p_bk_Drum_hit (N : Nat) (d_1 : T_bk_Drum) : Option (Int × T_bk_Drum) := ((some (Int.fdiv (IntKind.u64.wrap ((IntKind.u64.wrap (d_1.beat_ * 15074714826142052245)) + 11400714819323198485)) ((2 : Int) ^ (min (Int.toNat 32) (IntKind.bits .u64))))).bind fun n_2 => ((some (IntKind.u64.wrap (((BitVec.ofInt (IntKind.bits .u64) (IntKind.u64.wrap ((IntKind.u64.wrap (d_1.beat_ * 15074714826142052245)) + 11400714819323198485)) ^^^ BitVec.ofInt (IntKind.bits .u64) n_2).toNat : Nat) : Int))).bind fun n_3 => ((some (Int.fdiv (IntKind.u64.wrap (n_3 * 15760922415973212899)) ((2 : Int) ^ (min (Int.toNat 32) (IntKind.bits .u64))))).bind fun n_4 => ((some (IntKind.u64.wrap (((BitVec.ofInt (IntKind.bits .u64) (IntKind.u64.wrap (n_3 * 15760922415973212899)) ^^^ BitVec.ofInt (IntKind.bits .u64) n_4).toNat : Nat) : Int))).bind fun n_5 => ((some (Int.fdiv (IntKind.u64.wrap (n_5 * 15760922415973212899)) ((2 : Int) ^ (min (Int.toNat 32) (IntKind.bits .u64))))).bind fun n_6 => ((some (IntKind.u64.wrap (((BitVec.ofInt (IntKind.bits .u64) (IntKind.u64.wrap (n_5 * 15760922415973212899)) ^^^ BitVec.ofInt (IntKind.bits .u64) n_6).toNat : Nat) : Int))).bind fun n_7 => some (n_7, (⟨(IntKind.u64.wrap ((IntKind.u64.wrap (d_1.beat_ * 15074714826142052245)) + 11400714819323198485))⟩ : T_bk_Drum))))))))
def v_bk_Drum_hit (r : Int × T_bk_Drum) : AV := .int .u64 r.1
attribute [local simp] v_bk_Drum_hit
theorem b_bk_Drum_hit (r : Int × T_bk_Drum) (n n2 m : Nat) : back n n2 m (v_bk_Drum_hit r) = some (v_bk_Drum_hit r) := by simp
theorem d_bk_Drum_hit (N : Nat) (d_1 : T_bk_Drum) (r : Int × T_bk_Drum) (h : p_bk_Drum_hit N d_1 = some r) : Does Try.prog 50 [.ptr 0 0] [(C_bk_Drum d_1)] fun v c => v = v_bk_Drum_hit r ∧ c = [(C_bk_Drum r.2)] := by
  unfold p_bk_Drum_hit at h
  refine Does.ofL comp50 _ _ rfl rfl ?_
  refine Ex.seq ?_
  refine regH 1 [] [0] [] (mkS 31 [(0, .ptr 0 0)]) (⟨[(C_bk_Drum d_1)], []⟩) (by kernel_rfl) trivial rfl ?_
  refine Ex.seq ?_
  refine regH 10 [] [0] [] (mkS 31 [(0, .ptr 0 0)]) (⟨[[.int .u64 (IntKind.u64.wrap ((IntKind.u64.wrap (d_1.beat_ * 15074714826142052245)) + 11400714819323198485))]], []⟩) (by kernel_rfl) trivial rfl ?_
  refine Ex.seq ?_
  refine regH 5 [] [3] [] (mkS 31 [(3, .int .u64 (IntKind.u64.wrap ((IntKind.u64.wrap (d_1.beat_ * 15074714826142052245)) + 11400714819323198485)))]) (⟨[[.int .u64 (IntKind.u64.wrap ((IntKind.u64.wrap (d_1.beat_ * 15074714826142052245)) + 11400714819323198485))]], []⟩) (by kernel_rfl) trivial rfl ?_
  refine Ex.seq ?_
  obtain ⟨n_2, hn_2, h⟩ := Option.bind_eq_some_iff.1 h
  obtain ⟨n_3, hn_3, h⟩ := Option.bind_eq_some_iff.1 h
  refine regH 6 [(2, .eq (.int .u64 n_2)), (3, .eq (.int .u64 n_3))] [3] [AV.int .u64 (Int.fdiv (IntKind.u64.wrap ((IntKind.u64.wrap (d_1.beat_ * 15074714826142052245)) + 11400714819323198485)) ((2 : Int) ^ (min (Int.toNat 32) (IntKind.bits .u64)))) = AV.int .u64 n_2, AV.int .u64 (IntKind.u64.wrap (((BitVec.ofInt (IntKind.bits .u64) (IntKind.u64.wrap ((IntKind.u64.wrap (d_1.beat_ * 15074714826142052245)) + 11400714819323198485)) ^^^ BitVec.ofInt (IntKind.bits .u64) n_2).toNat : Nat) : Int)) = AV.int .u64 n_3] (mkS 31 [(3, .int .u64 (IntKind.u64.wrap (n_3 * 15760922415973212899)))]) (⟨[[.int .u64 (IntKind.u64.wrap ((IntKind.u64.wrap (d_1.beat_ * 15074714826142052245)) + 11400714819323198485))]], []⟩) (by kernel_rfl) ⟨congrArg (AV.int .u64) (Option.some.inj hn_2), congrArg (AV.int .u64) (Option.some.inj hn_3), trivial⟩ rfl ?_
  refine Ex.seq ?_
  obtain ⟨n_4, hn_4, h⟩ := Option.bind_eq_some_iff.1 h
  obtain ⟨n_5, hn_5, h⟩ := Option.bind_eq_some_iff.1 h
  refine regH 6 [(2, .eq (.int .u64 n_4)), (3, .eq (.int .u64 n_5))] [3] [AV.int .u64 (Int.fdiv (IntKind.u64.wrap (n_3 * 15760922415973212899)) ((2 : Int) ^ (min (Int.toNat 32) (IntKind.bits .u64)))) = AV.int .u64 n_4, AV.int .u64 (IntKind.u64.wrap (((BitVec.ofInt (IntKind.bits .u64) (IntKind.u64.wrap (n_3 * 15760922415973212899)) ^^^ BitVec.ofInt (IntKind.bits .u64) n_4).toNat : Nat) : Int)) = AV.int .u64 n_5] (mkS 31 [(3, .int .u64 (IntKind.u64.wrap (n_5 * 15760922415973212899)))]) (⟨[[.int .u64 (IntKind.u64.wrap ((IntKind.u64.wrap (d_1.beat_ * 15074714826142052245)) + 11400714819323198485))]], []⟩) (by kernel_rfl) ⟨congrArg (AV.int .u64) (Option.some.inj hn_4), congrArg (AV.int .u64) (Option.some.inj hn_5), trivial⟩ rfl ?_
  refine Ex.seq ?_
  obtain ⟨n_6, hn_6, h⟩ := Option.bind_eq_some_iff.1 h
  obtain ⟨n_7, hn_7, h⟩ := Option.bind_eq_some_iff.1 h
  refine regH 5 [(2, .eq (.int .u64 n_6)), (3, .eq (.int .u64 n_7))] [2] [AV.int .u64 (Int.fdiv (IntKind.u64.wrap (n_5 * 15760922415973212899)) ((2 : Int) ^ (min (Int.toNat 32) (IntKind.bits .u64)))) = AV.int .u64 n_6, AV.int .u64 (IntKind.u64.wrap (((BitVec.ofInt (IntKind.bits .u64) (IntKind.u64.wrap (n_5 * 15760922415973212899)) ^^^ BitVec.ofInt (IntKind.bits .u64) n_6).toNat : Nat) : Int)) = AV.int .u64 n_7] (mkS 31 [(2, .int .u64 n_7)]) (⟨[[.int .u64 (IntKind.u64.wrap ((IntKind.u64.wrap (d_1.beat_ * 15074714826142052245)) + 11400714819323198485))]], []⟩) (by kernel_rfl) ⟨congrArg (AV.int .u64) (Option.some.inj hn_6), congrArg (AV.int .u64) (Option.some.inj hn_7), trivial⟩ rfl ?_
  refine Ex.ret ?_
  obtain rfl := Option.some.inj h
  exact ⟨.inr rfl, .int .u64 n_7, by kernel_rfl, by kernel_rfl, by kernel_rfl, by kernel_rfl⟩
def p_bk_DrumOf (N : Nat) (nums_1 : (List Int)) : Option (T_bk_Drum) := (letJ (fun (b_2 : Int) => some (⟨b_2⟩ : T_bk_Drum)) (fun k_3 => (loop2 (fun rec_8 (i_6 : Int) (b_7 : Int) => (bif (decide (i_6 < ((nums_1.length : Nat) : Int))) then ((getI nums_1 i_6).bind fun x_12 => ((some (IntKind.u64.wrap (((BitVec.ofInt (IntKind.bits .u64) b_7 ^^^ BitVec.ofInt (IntKind.bits .u64) (IntKind.u64.wrap x_12)).toNat : Nat) : Int))).bind fun n_13 => ((p_bk_Drum_hit N (⟨n_13⟩ : T_bk_Drum)).bind fun r_14 => (rec_8 (IntKind.i64.wrap (i_6 + 1)) r_14.2.beat_)))) else (k_3 b_7))) N 0 2685821657736338717)))
def v_bk_DrumOf (r : T_bk_Drum) : AV := .ptr 0 0
theorem a_bk_DrumOf (nums_1 : (List Int)) : [.sl (nums_1.map (AV.int .i64)) none].mapM (ren []) = some [.sl (nums_1.map (AV.int .i64)) none] := by simp
theorem d_bk_DrumOf (N : Nat) (nums_1 : (List Int)) (r : T_bk_Drum) (h : p_bk_DrumOf N nums_1 = some r) : Does Try.prog 15 [.sl (nums_1.map (AV.int .i64)) none] [] fun v c => v = v_bk_DrumOf r ∧ c = [(C_bk_Drum r)] := by
  unfold p_bk_DrumOf at h
  refine Does.ofP comp15 _ _ rfl rfl ?_
  refine Ex.seq ?_
  refine regH 1 [] [0] [] (mkS 29 [(0, .sl (nums_1.map (AV.int .i64)) none)]) (⟨[], []⟩) (by kernel_rfl) trivial rfl ?_
  refine Ex.seq ?_
  refine regH 3 [] [0, 3] [] (mkS 29 [(0, .sl (nums_1.map (AV.int .i64)) none), (3, .ptr 0 0)]) (⟨[[.int .u64 2685821657736338717]], []⟩) (by kernel_rfl) trivial rfl ?_
  refine Ex.seq ?_
  refine Ex.seq ?_
  refine regH 1 [] [0, 3, 4] [] (mkS 29 [(0, .sl (nums_1.map (AV.int .i64)) none), (3, .ptr 0 0), (4, .int .i64 0)]) (⟨[[.int .u64 2685821657736338717]], []⟩) (by kernel_rfl) trivial rfl ?_
  obtain ⟨K_4, hK_5, h⟩ := letE h
  refine Ex.blockJ (fun a S => ∃ (b_2 : Int), K_4 b_2 = some r ∧ a = mkS 29 [(3, .ptr 0 0)] ∧ S = ⟨[[.int .u64 b_2]], []⟩) ?_ ?_
  · obtain ⟨B_9, hB_10, h⟩ := loop2I h
    refine Ex.loopF (fun k a S => ∃ (i_6 : Int), ∃ (b_7 : Int), loop2 B_9 k i_6 b_7 = some r ∧ a = mkS 29 [(0, .sl (nums_1.map (AV.int .i64)) none), (3, .ptr 0 0), (4, .int .i64 i_6)] ∧ S = ⟨[[.int .u64 b_7]], []⟩) N ⟨_, _, Forgets.refl _ _ _, 0, 2685821657736338717, h, rfl, rfl⟩ ?_
    rintro k a S ⟨i_6, b_7, h, rfl, rfl⟩
    cases k with
    | zero => exact (loop2Z h).elim
    | succ k =>
      replace h := loop2S h hB_10
      refine Ex.seq ?_
      refine Ex.seq ?_
      refine regH 4 [(2, .eq (.int .i64 ((nums_1.length : Nat) : Int)))] [0, 3, 4, 10] [AV.int .i64 (((nums_1.map (AV.int .i64)).length : Nat) : Int) = AV.int .i64 ((nums_1.length : Nat) : Int)] (mkS 29 [(0, .sl (nums_1.map (AV.int .i64)) none), (3, .ptr 0 0), (4, .int .i64 i_6), (10, .bool (decide (i_6 < ((nums_1.length : Nat) : Int))))]) (⟨[[.int .u64 b_7]], []⟩) (by kernel_rfl) ⟨lenM _ _, trivial⟩ rfl ?_
      rcases condI h with ⟨hc_11, h⟩ | ⟨hc_11, h⟩
      · refine Ex.condT _ rfl hc_11 ?_
        refine Ex.skip ?_
        refine Ex.seq ?_
        refine Ex.blockK ?_
        refine Ex.seq ?_
        obtain ⟨x_12, hx_12, h⟩ := Option.bind_eq_some_iff.1 h
        obtain ⟨n_13, hn_13, h⟩ := Option.bind_eq_some_iff.1 h
        refine Ex.drawE (a1 := mkS 29 [(0, .sl (nums_1.map (AV.int .i64)) none), (3, .ptr 0 0), (4, .int .i64 i_6), (10, .bool (decide (i_6 < ((nums_1.length : Nat) : Int)))), (13, .ptr 0 0), (14, .ptr 0 0), (15, .ptr 0 0), (16, .ptr 0 0), (17, .int .u64 b_7), (18, .sl (nums_1.map (AV.int .i64)) none), (19, .int .i64 i_6), (20, .rop [.int .i64 x_12]), (21, .int .i64 x_12), (22, .int .u64 (IntKind.u64.wrap x_12)), (23, .int .u64 n_13)]) (noClr_ok _) [] [] [] ?_ ?_
        · refine drS [0] 11 [(7, .rop [.int .i64 x_12]), (10, .eq (.int .u64 n_13))] [LGet (nums_1.map (AV.int .i64)) i_6 1 [.int .i64 x_12], AV.int .u64 (IntKind.u64.wrap (((BitVec.ofInt (IntKind.bits .u64) b_7 ^^^ BitVec.ofInt (IntKind.bits .u64) (IntKind.u64.wrap x_12)).toNat : Nat) : Int)) = AV.int .u64 n_13] (mkS 29 [(0, .sl (nums_1.map (AV.int .i64)) none), (3, .ptr 0 0), (4, .int .i64 i_6), (10, .bool (decide (i_6 < ((nums_1.length : Nat) : Int)))), (13, .ptr 0 0), (14, .ptr 0 0), (15, .ptr 0 0), (16, .ptr 0 0), (17, .int .u64 b_7), (18, .sl (nums_1.map (AV.int .i64)) none), (19, .int .i64 i_6), (20, .rop [.int .i64 x_12]), (21, .int .i64 x_12), (22, .int .u64 (IntKind.u64.wrap x_12)), (23, .int .u64 n_13)]) (by simp) (by kernel_rfl) ⟨LGet.of hx_12 rfl, congrArg (AV.int .u64) (Option.some.inj hn_13), trivial⟩ (by kernel_rfl) ?_
          exact DrO.nil rfl
        · dsimp only [List.getLastD_cons, List.getLastD_nil]
          refine runH 3 [] [0, 3, 4] [] (mkS 29 [(0, .sl (nums_1.map (AV.int .i64)) none), (3, .ptr 0 0), (4, .int .i64 i_6)]) (⟨[[.int .u64 n_13]], []⟩) (by kernel_rfl) trivial ?_
          refine ExO.nil ?_
          obtain ⟨r_14, hr_14, h⟩ := Option.bind_eq_some_iff.1 h
          refine Ex.reg ?_
          refine runH 1 [] [0, 3, 4, 26] [] (mkS 29 [(0, .sl (nums_1.map (AV.int .i64)) none), (3, .ptr 0 0), (4, .int .i64 i_6), (26, .ptr 0 0)]) (⟨[[.int .u64 n_13]], []⟩) (by kernel_rfl) trivial ?_
          refine ExO.callL [0] [.ptr 0 0] rfl rfl (by simp; try rfl) rfl (by simp) (d_bk_Drum_hit N (⟨n_13⟩ : T_bk_Drum) r_14 hr_14) (b_bk_Drum_hit _ _ _ _) (by simp) ?_
          refine runH 0 [] [0, 3, 4] [] (mkS 29 [(0, .sl (nums_1.map (AV.int .i64)) none), (3, .ptr 0 0), (4, .int .i64 i_6)]) (⟨[(C_bk_Drum r_14.2)], []⟩) (by kernel_rfl) trivial ?_
          refine ExO.nil ?_
          refine regH 3 [] [0, 3, 4] [] (mkS 29 [(0, .sl (nums_1.map (AV.int .i64)) none), (3, .ptr 0 0), (4, .int .i64 (IntKind.i64.wrap (i_6 + 1)))]) (⟨[(C_bk_Drum r_14.2)], []⟩) (by kernel_rfl) trivial rfl ?_
          dsimp only
          exact ⟨_, _, Forgets.refl _ _ _, k, Nat.lt_succ_self k, (IntKind.i64.wrap (i_6 + 1)), r_14.2.beat_, h, rfl, rfl⟩
      · refine Ex.condF _ rfl hc_11 ?_
        refine Ex.exit ?_
        (try simp only [reduceCtorEq, AEx.ex.injEq, Nat.reduceEqDiff, if_true, if_false])
        exact ⟨_, _, forgetK [3], b_7, h, rfl, rfl⟩
  · rintro a S ⟨b_2, h, rfl, rfl⟩
    subst hK_5
    refine Ex.seq ?_
    refine regH 2 [] [2] [] (mkS 29 [(2, .ptr 0 0)]) (⟨[[.int .u64 b_2]], []⟩) (by kernel_rfl) trivial rfl ?_
    refine Ex.ret ?_
    obtain rfl := Option.some.inj h
    exact ⟨.inr rfl, .ptr 0 0, by kernel_rfl, by kernel_rfl, by kernel_rfl, [], by kernel_rfl⟩
def p_bk_Drum_Roll (N : Nat) (d_1 : T_bk_Drum) (n_2 : Int) : Option (Int × T_bk_Drum) := (bif (decide (n_2 < 2)) then some (0, d_1) else ((p_bk_Drum_hit N d_1).bind fun r_4 => ((nzI (IntKind.u64.wrap n_2)).bind fun u_5 => some ((IntKind.i64.wrap (Int.tmod (Int.fdiv r_4.1 ((2 : Int) ^ (min (Int.toNat 1) (IntKind.bits .u64)))) (IntKind.u64.wrap n_2))), r_4.2))))
def v_bk_Drum_Roll (r : Int × T_bk_Drum) : AV := .int .i64 r.1
attribute [local simp] v_bk_Drum_Roll
theorem b_bk_Drum_Roll (r : Int × T_bk_Drum) (n n2 m : Nat) : back n n2 m (v_bk_Drum_Roll r) = some (v_bk_Drum_Roll r) := by simp
theorem d_bk_Drum_Roll (N : Nat) (d_1 : T_bk_Drum) (n_2 : Int) (r : Int × T_bk_Drum) (h : p_bk_Drum_Roll N d_1 n_2 = some r) : Does Try.prog 19 [.ptr 0 0, .int .i64 n_2] [(C_bk_Drum d_1)] fun v c => v = v_bk_Drum_Roll r ∧ c = [(C_bk_Drum r.2)] := by
  unfold p_bk_Drum_Roll at h
  refine Does.ofL comp19 _ _ rfl rfl ?_
  refine Ex.seq ?_
  refine regH 1 [] [0, 1] [] (mkS 14 [(0, .ptr 0 0), (1, .int .i64 n_2)]) (⟨[(C_bk_Drum d_1)], []⟩) (by kernel_rfl) trivial rfl ?_
  refine Ex.seq ?_
  refine Ex.seq ?_
  refine regH 2 [] [0, 1, 6] [] (mkS 14 [(0, .ptr 0 0), (1, .int .i64 n_2), (6, .bool (decide (n_2 < 2)))]) (⟨[(C_bk_Drum d_1)], []⟩) (by kernel_rfl) trivial rfl ?_
  rcases condI h with ⟨hc_3, h⟩ | ⟨hc_3, h⟩
  · refine Ex.condT _ rfl hc_3 ?_
    refine Ex.seq ?_
    refine regH 1 [] [4] [] (mkS 14 [(4, .int .i64 0)]) (⟨[(C_bk_Drum d_1)], []⟩) (by kernel_rfl) trivial rfl ?_
    refine Ex.ret ?_
    obtain rfl := Option.some.inj h
    exact ⟨.inr rfl, .int .i64 0, by kernel_rfl, by kernel_rfl, by kernel_rfl, by kernel_rfl⟩
  · refine Ex.condF _ rfl hc_3 ?_
    refine Ex.skip ?_
    refine Ex.seq ?_
    obtain ⟨r_4, hr_4, h⟩ := Option.bind_eq_some_iff.1 h
    refine Ex.reg ?_
    refine runH 1 [] [1, 7] [] (mkS 14 [(1, .int .i64 n_2), (7, .ptr 0 0)]) (⟨[(C_bk_Drum d_1)], []⟩) (by kernel_rfl) trivial ?_
    refine ExO.callL [0] [.ptr 0 0] rfl rfl (by simp; try rfl) rfl (by simp) (d_bk_Drum_hit N d_1 r_4 hr_4) (b_bk_Drum_hit _ _ _ _) (by simp) ?_
    obtain ⟨u_5, hu_5, h⟩ := Option.bind_eq_some_iff.1 h
    refine runH 6 [(3, .bin (.int .u64 (Int.tmod (Int.fdiv r_4.1 ((2 : Int) ^ (min (Int.toNat 1) (IntKind.bits .u64)))) (IntKind.u64.wrap n_2))))] [4] [binA .rem (.int .u64 (Int.fdiv r_4.1 ((2 : Int) ^ (min (Int.toNat 1) (IntKind.bits .u64))))) (.int .u64 (IntKind.u64.wrap n_2)) = some (.int .u64 (Int.tmod (Int.fdiv r_4.1 ((2 : Int) ^ (min (Int.toNat 1) (IntKind.bits .u64)))) (IntKind.u64.wrap n_2)))] (mkS 14 [(4, .int .i64 (IntKind.i64.wrap (Int.tmod (Int.fdiv r_4.1 ((2 : Int) ^ (min (Int.toNat 1) (IntKind.bits .u64)))) (IntKind.u64.wrap n_2))))]) (⟨[(C_bk_Drum r_4.2)], []⟩) (by kernel_rfl) ⟨binR hu_5, trivial⟩ ?_
    refine ExO.nil ?_
    refine Ex.ret ?_
    obtain rfl := Option.some.inj h
    exact ⟨.inr rfl, .int .i64 (IntKind.i64.wrap (Int.tmod (Int.fdiv r_4.1 ((2 : Int) ^ (min (Int.toNat 1) (IntKind.bits .u64)))) (IntKind.u64.wrap n_2))), by kernel_rfl, by kernel_rfl, by kernel_rfl, by kernel_rfl⟩
def p_bk_Drum_Mid (N : Nat) (d_1 : T_bk_Drum) (low_2 : Int) (high_3 : Int) : Option (Int × T_bk_Drum) := ((p_bk_Drum_Roll N d_1 (IntKind.i64.wrap ((IntKind.i64.wrap (high_3 - low_2)) + 1))).bind fun r_4 => some ((IntKind.i64.wrap (low_2 + r_4.1)), r_4.2))
def v_bk_Drum_Mid (r : Int × T_bk_Drum) : AV := .int .i64 r.1
attribute [local simp] v_bk_Drum_Mid
theorem b_bk_Drum_Mid (r : Int × T_bk_Drum) (n n2 m : Nat) : back n n2 m (v_bk_Drum_Mid r) = some (v_bk_Drum_Mid r) := by simp
theorem d_bk_Drum_Mid (N : Nat) (d_1 : T_bk_Drum) (low_2 : Int) (high_3 : Int) (r : Int × T_bk_Drum) (h : p_bk_Drum_Mid N d_1 low_2 high_3 = some r) : Does Try.prog 45 [.ptr 0 0, .int .i64 low_2, .int .i64 high_3] [(C_bk_Drum d_1)] fun v c => v = v_bk_Drum_Mid r ∧ c = [(C_bk_Drum r.2)] := by
  unfold p_bk_Drum_Mid at h
  refine Does.ofL comp45 _ _ rfl rfl ?_
  refine Ex.seq ?_
  refine regH 1 [] [0, 1, 2] [] (mkS 15 [(0, .ptr 0 0), (1, .int .i64 low_2), (2, .int .i64 high_3)]) (⟨[(C_bk_Drum d_1)], []⟩) (by kernel_rfl) trivial rfl ?_
  refine Ex.seq ?_
  obtain ⟨r_4, hr_4, h⟩ := Option.bind_eq_some_iff.1 h
  refine Ex.reg ?_
  refine runH 6 [] [7, 8, 12] [] (mkS 15 [(7, .int .i64 low_2), (8, .ptr 0 0), (12, .int .i64 (IntKind.i64.wrap ((IntKind.i64.wrap (high_3 - low_2)) + 1)))]) (⟨[(C_bk_Drum d_1)], []⟩) (by kernel_rfl) trivial ?_
  refine ExO.callL [0] [.ptr 0 0, .int .i64 (IntKind.i64.wrap ((IntKind.i64.wrap (high_3 - low_2)) + 1))] rfl rfl (by simp; try rfl) rfl (by simp) (d_bk_Drum_Roll N d_1 (IntKind.i64.wrap ((IntKind.i64.wrap (high_3 - low_2)) + 1)) r_4 hr_4) (b_bk_Drum_Roll _ _ _ _) (by simp) ?_
  refine runH 2 [] [6] [] (mkS 15 [(6, .int .i64 (IntKind.i64.wrap (low_2 + r_4.1)))]) (⟨[(C_bk_Drum r_4.2)], []⟩) (by kernel_rfl) trivial ?_
  refine ExO.nil ?_
  refine Ex.ret ?_
  obtain rfl := Option.some.inj h
  exact ⟨.inr rfl, .int .i64 (IntKind.i64.wrap (low_2 + r_4.1)), by kernel_rfl, by kernel_rfl, by kernel_rfl, by kernel_rfl⟩
def p_bk_Drum_Any (N : Nat) (d_1 : T_bk_Drum) (l_2 : (List Int)) : Option (Int × T_bk_Drum) := (bif (((l_2.length : Nat) : Int) == 0) then some (0, d_1) else ((p_bk_Drum_Roll N d_1 ((l_2.length : Nat) : Int)).bind fun r_4 => ((getI l_2 r_4.1).bind fun x_5 => some (x_5, r_4.2))))
def v_bk_Drum_Any (r : Int × T_bk_Drum) : AV := .int .i64 r.1
attribute [local simp] v_bk_Drum_Any
theorem b_bk_Drum_Any (r : Int × T_bk_Drum) (n n2 m : Nat) : back n n2 m (v_bk_Drum_Any r) = some (v_bk_Drum_Any r) := by simp
theorem d_bk_Drum_Any (N : Nat) (d_1 : T_bk_Drum) (l_2 : (List Int)) (r : Int × T_bk_Drum) (h : p_bk_Drum_Any N d_1 l_2 = some r) : Does Try.prog 17 [.ptr 0 0, .sl (l_2.map (AV.int .i64)) none] [(C_bk_Drum d_1)] fun v c => v = v_bk_Drum_Any r ∧ c = [(C_bk_Drum r.2)] := by
  unfold p_bk_Drum_Any at h
  refine Does.ofL comp17 _ _ rfl rfl ?_
  refine Ex.seq ?_
  refine regH 1 [] [0, 1] [] (mkS 15 [(0, .ptr 0 0), (1, .sl (l_2.map (AV.int .i64)) none)]) (⟨[(C_bk_Drum d_1)], []⟩) (by kernel_rfl) trivial rfl ?_
  refine Ex.seq ?_
  refine Ex.seq ?_
  refine regH 3 [(1, .eq (.int .i64 ((l_2.length : Nat) : Int)))] [0, 1, 7] [AV.int .i64 (((l_2.map (AV.int .i64)).length : Nat) : Int) = AV.int .i64 ((l_2.length : Nat) : Int)] (mkS 15 [(0, .ptr 0 0), (1, .sl (l_2.map (AV.int .i64)) none), (7, .bool (((l_2.length : Nat) : Int) == 0))]) (⟨[(C_bk_Drum d_1)], []⟩) (by kernel_rfl) ⟨lenM _ _, trivial⟩ rfl ?_
  rcases condI h with ⟨hc_3, h⟩ | ⟨hc_3, h⟩
  · refine Ex.condT _ rfl hc_3 ?_
    refine Ex.seq ?_
    refine regH 1 [] [4] [] (mkS 15 [(4, .int .i64 0)]) (⟨[(C_bk_Drum d_1)], []⟩) (by kernel_rfl) trivial rfl ?_
    refine Ex.ret ?_
    obtain rfl := Option.some.inj h
    exact ⟨.inr rfl, .int .i64 0, by kernel_rfl, by kernel_rfl, by kernel_rfl, by kernel_rfl⟩
  · refine Ex.condF _ rfl hc_3 ?_
    refine Ex.skip ?_
    refine Ex.seq ?_
    obtain ⟨r_4, hr_4, h⟩ := Option.bind_eq_some_iff.1 h
    refine Ex.reg ?_
    refine runH 4 [(3, .eq (.int .i64 ((l_2.length : Nat) : Int)))] [8, 9, 11] [AV.int .i64 (((l_2.map (AV.int .i64)).length : Nat) : Int) = AV.int .i64 ((l_2.length : Nat) : Int)] (mkS 15 [(8, .sl (l_2.map (AV.int .i64)) none), (9, .ptr 0 0), (11, .int .i64 ((l_2.length : Nat) : Int))]) (⟨[(C_bk_Drum d_1)], []⟩) (by kernel_rfl) ⟨lenM _ _, trivial⟩ ?_
    refine ExO.callL [0] [.ptr 0 0, .int .i64 ((l_2.length : Nat) : Int)] rfl rfl (by simp; try rfl) rfl (by simp) (d_bk_Drum_Roll N d_1 ((l_2.length : Nat) : Int) r_4 hr_4) (b_bk_Drum_Roll _ _ _ _) (by simp) ?_
    obtain ⟨x_5, hx_5, h⟩ := Option.bind_eq_some_iff.1 h
    refine runH 3 [(0, .rop [.int .i64 x_5])] [4] [LGet (l_2.map (AV.int .i64)) r_4.1 1 [.int .i64 x_5]] (mkS 15 [(4, .int .i64 x_5)]) (⟨[(C_bk_Drum r_4.2)], []⟩) (by kernel_rfl) ⟨LGet.of hx_5 rfl, trivial⟩ ?_
    refine ExO.nil ?_
    refine Ex.ret ?_
    obtain rfl := Option.some.inj h
    exact ⟨.inr rfl, .int .i64 x_5, by kernel_rfl, by kernel_rfl, by kernel_rfl, by kernel_rfl⟩
def p_bk_Drum_Rare (N : Nat) (d_1 : T_bk_Drum) (n_2 : Int) : Option (Bool × T_bk_Drum) := ((p_bk_Drum_Roll N d_1 n_2).bind fun r_3 => some ((r_3.1 == 0), r_3.2))
def v_bk_Drum_Rare (r : Bool × T_bk_Drum) : AV := .bool r.1
attribute [local simp] v_bk_Drum_Rare
theorem b_bk_Drum_Rare (r : Bool × T_bk_Drum) (n n2 m : Nat) : back n n2 m (v_bk_Drum_Rare r) = some (v_bk_Drum_Rare r) := by simp
theorem d_bk_Drum_Rare (N : Nat) (d_1 : T_bk_Drum) (n_2 : Int) (r : Bool × T_bk_Drum) (h : p_bk_Drum_Rare N d_1 n_2 = some r) : Does Try.prog 42 [.ptr 0 0, .int .i64 n_2] [(C_bk_Drum d_1)] fun v c => v = v_bk_Drum_Rare r ∧ c = [(C_bk_Drum r.2)] := by
  unfold p_bk_Drum_Rare at h
  refine Does.ofL comp42 _ _ rfl rfl ?_
  refine Ex.seq ?_
  refine regH 1 [] [0, 1] [] (mkS 9 [(0, .ptr 0 0), (1, .int .i64 n_2)]) (⟨[(C_bk_Drum d_1)], []⟩) (by kernel_rfl) trivial rfl ?_
  refine Ex.seq ?_
  obtain ⟨r_3, hr_3, h⟩ := Option.bind_eq_some_iff.1 h
  refine Ex.reg ?_
  refine runH 2 [] [5, 6] [] (mkS 9 [(5, .ptr 0 0), (6, .int .i64 n_2)]) (⟨[(C_bk_Drum d_1)], []⟩) (by kernel_rfl) trivial ?_
  refine ExO.callL [0] [.ptr 0 0, .int .i64 n_2] rfl rfl (by simp; try rfl) rfl (by simp) (d_bk_Drum_Roll N d_1 n_2 r_3 hr_3) (b_bk_Drum_Roll _ _ _ _) (by simp) ?_
  refine runH 2 [] [4] [] (mkS 9 [(4, .bool (r_3.1 == 0))]) (⟨[(C_bk_Drum r_3.2)], []⟩) (by kernel_rfl) trivial ?_
  refine ExO.nil ?_
  refine Ex.ret ?_
  obtain rfl := Option.some.inj h
  exact ⟨.inr rfl, .bool (r_3.1 == 0), by kernel_rfl, by kernel_rfl, by kernel_rfl, by kernel_rfl⟩
end Go.Proofs.Ytkpihepaaiofgaa
end
section
namespace Go.Proofs.Ytkpihepaaiofgaa
open Go.RowKit
set_option linter.unusedVariables false
set_option linter.unusedSimpArgs false
set_option maxRecDepth 10000
set_option maxHeartbeats 4000000
attribute [local simp] cleanL AV.clean KL_bk_Drum cleanI cleanBo cleanSt cleanII re re1 back back1 AV.plain AV.plain1 A_bk_Drum C_bk_Drum ren ren1 fadeS fadeV List.idxOf? List.findIdx? List.findIdx?.go KB_bk_Drum
structure T_api_Fund where
  Day : Int
  Until : Int
  Amount : Int
  Uses : (List Int)
  deriving Inhabited
def C_api_Fund (x : T_api_Fund) : List AV := [.int .i64 x.Day, .int .i64 x.Until, .int .i64 x.Amount, .sl (x.Uses.map (AV.int .i64)) none]
attribute [local simp] C_api_Fund
def A_api_Fund (x : T_api_Fund) : AV := .agg (C_api_Fund x)
attribute [local simp] A_api_Fund
theorem KC_api_Fund (x : T_api_Fund) : cleanL (C_api_Fund x) = true := by simp
theorem KA_api_Fund (x : T_api_Fund) : (A_api_Fund x).clean = true := KC_api_Fund x
theorem KL_api_Fund (l : List T_api_Fund) : cleanL (l.map A_api_Fund) = true := cleanM KA_api_Fund l
attribute [local simp] KL_api_Fund
theorem KB_api_Fund (x : T_api_Fund) (n : Nat) (σ : List Nat) : (C_api_Fund x).mapM (re n σ) = some (C_api_Fund x) := by simp
attribute [local simp] KB_api_Fund
structure T_api_Bill where
  Day : Int
  Use : Int
  Amount : Int
  deriving Inhabited
def C_api_Bill (x : T_api_Bill) : List AV := [.int .i64 x.Day, .int .i64 x.Use, .int .i64 x.Amount]
attribute [local simp] C_api_Bill
def A_api_Bill (x : T_api_Bill) : AV := .agg (C_api_Bill x)
attribute [local simp] A_api_Bill
theorem KC_api_Bill (x : T_api_Bill) : cleanL (C_api_Bill x) = true := by simp
theorem KA_api_Bill (x : T_api_Bill) : (A_api_Bill x).clean = true := KC_api_Bill x
theorem KL_api_Bill (l : List T_api_Bill) : cleanL (l.map A_api_Bill) = true := cleanM KA_api_Bill l
attribute [local simp] KL_api_Bill
theorem KB_api_Bill (x : T_api_Bill) (n : Nat) (σ : List Nat) : (C_api_Bill x).mapM (re n σ) = some (C_api_Bill x) := by simp
attribute [local simp] KB_api_Bill
structure T_api_Ledger where
  Funds : (List T_api_Fund)
  Bills : (List T_api_Bill)
  deriving Inhabited
def C_api_Ledger (x : T_api_Ledger) : List AV := [.sl (x.Funds.map A_api_Fund) none, .sl (x.Bills.map A_api_Bill) none]
attribute [local simp] C_api_Ledger
def A_api_Ledger (x : T_api_Ledger) : AV := .agg (C_api_Ledger x)
attribute [local simp] A_api_Ledger
theorem KC_api_Ledger (x : T_api_Ledger) : cleanL (C_api_Ledger x) = true := by simp
theorem KA_api_Ledger (x : T_api_Ledger) : (A_api_Ledger x).clean = true := KC_api_Ledger x
theorem KL_api_Ledger (l : List T_api_Ledger) : cleanL (l.map A_api_Ledger) = true := cleanM KA_api_Ledger l
attribute [local simp] KL_api_Ledger
theorem KB_api_Ledger (x : T_api_Ledger) (n : Nat) (σ : List Nat) : (C_api_Ledger x).mapM (re n σ) = some (C_api_Ledger x) := by simp
attribute [local simp] KB_api_Ledger
theorem IJ_bk_Drum (x y : T_bk_Drum) (h : A_bk_Drum x = A_bk_Drum y) : x = y := by
  have h := AV.agg.inj h
  simp only [C_bk_Drum, List.cons.injEq, AV.int.injEq, AV.bool.injEq, AV.str.injEq, AV.sl.injEq, true_and, and_true] at h
  have h0 := h
  obtain ⟨x0⟩ := x; obtain ⟨y0⟩ := y; simp_all
theorem k_bk_Drum_Roll (N : Nat) (d_1 : T_bk_Drum) (n_2 : Int) (d_1z : T_bk_Drum) (n_2z : Int) (r s : Int × T_bk_Drum) (hr : p_bk_Drum_Roll N d_1 n_2 = some r) (hs : p_bk_Drum_Roll N d_1z n_2z = some s) : ConsR ⟨19, [.ptr 0 0, .int .i64 n_2], [(C_bk_Drum d_1)], v_bk_Drum_Roll r, [(C_bk_Drum r.2)]⟩ ⟨19, [.ptr 0 0, .int .i64 n_2z], [(C_bk_Drum d_1z)], v_bk_Drum_Roll s, [(C_bk_Drum s.2)]⟩ := by
  intro _ h1 h2
  have h1 : ([.ptr 0 0, .int .i64 n_2] : List AV) = [.ptr 0 0, .int .i64 n_2z] := h1
  have h2 : ([(C_bk_Drum d_1)] : List (List AV)) = [(C_bk_Drum d_1z)] := h2
  obtain rfl : d_1 = d_1z := IJ_bk_Drum _ _ (congrArg AV.agg (List.cons.inj h2).1)
  obtain rfl : n_2 = n_2z := (intInj _) _ _ (List.cons.inj (List.cons.inj h1).2).1
  rw [hr] at hs; cases hs; exact ⟨rfl, rfl⟩
def p_bk_LedgerOf (N : Nat) (d_1 : T_bk_Drum) (funds_2 : Int) (bills_3 : Int) (coins_4 : Int) : Option (T_api_Ledger × T_bk_Drum) := ((p_bk_Drum_Roll N d_1 (IntKind.i64.wrap (funds_2 + 1))).bind fun r_5 => (letJ (fun (b_6 : Int) (b_7 : List T_api_Fund) => ((p_bk_Drum_Roll N (⟨b_6⟩ : T_bk_Drum) (IntKind.i64.wrap (bills_3 + 1))).bind fun r_43 => (letJ (fun (b_44 : Int) (b_45 : List T_api_Bill) => some ((⟨b_7, b_45⟩ : T_api_Ledger), (⟨b_44⟩ : T_bk_Drum))) (fun k_46 => (loop3 (fun rec_52 (i_49 : Int) (b_50 : Int) (b_51 : List T_api_Bill) => (bif (decide (i_49 > 0)) then ((p_bk_Drum_Mid N (⟨b_50⟩ : T_bk_Drum) 3 12).bind fun r_56 => ((p_bk_Drum_Roll N r_56.2 3).bind fun r_57 => ((p_bk_Drum_Roll N r_57.2 (IntKind.i64.wrap (coins_4 + 1))).bind fun r_58 => ((pushI b_51 ([(⟨r_56.1, r_57.1, r_58.1⟩ : T_api_Bill)] : List T_api_Bill)).bind fun l_60 => (rec_52 (IntKind.i64.wrap (i_49 - 1)) r_58.2.beat_ l_60))))) else (k_46 b_50 b_51))) N r_43.1 r_43.2.beat_ []))))) (fun k_8 => (loop3 (fun rec_14 (i_11 : Int) (b_12 : Int) (b_13 : List T_api_Fund) => (bif (decide (i_11 > 0)) then ((p_bk_Drum_Roll N (⟨b_12⟩ : T_bk_Drum) 10).bind fun r_18 => ((p_bk_Drum_Any N r_18.2 [(IntKind.i64.wrap (r_18.1 + 4)), 20]).bind fun r_19 => ((p_bk_Drum_Mid N r_19.2 r_18.1 r_19.1).bind fun r_20 => ((p_bk_Drum_Roll N r_20.2 (IntKind.i64.wrap ((IntKind.i64.wrap (2 * coins_4)) + 1))).bind fun r_21 => (letJ (fun (b_22 : Int) (b_23 : List Int) => ((pushI b_13 ([(⟨r_18.1, r_20.1, r_21.1, b_23⟩ : T_api_Fund)] : List T_api_Fund)).bind fun l_42 => (rec_14 (IntKind.i64.wrap (i_11 - 1)) b_22 l_42))) (fun k_24 => (loop3 (fun rec_30 (use_27 : Int) (b_28 : Int) (b_29 : List Int) => (bif (decide (use_27 < 3)) then (letJ (fun (b_34 : Int) (b_35 : List Int) => (rec_30 (IntKind.i64.wrap (use_27 + 1)) b_34 b_35)) (fun k_36 => ((p_bk_Drum_Rare N (⟨b_28⟩ : T_bk_Drum) 3).bind fun r_39 => (bif (!r_39.1) then ((pushI b_29 ([use_27] : List Int)).bind fun l_41 => (k_36 r_39.2.beat_ l_41)) else (k_36 r_39.2.beat_ b_29))))) else (k_24 b_28 b_29))) N 0 r_21.2.beat_ []))))))) else (k_8 b_12 b_13))) N r_5.1 r_5.2.beat_ []))))
def v_bk_LedgerOf (r : T_api_Ledger × T_bk_Drum) : AV := (A_api_Ledger r.1)
attribute [local simp] v_bk_LedgerOf
theorem b_bk_LedgerOf (r : T_api_Ledger × T_bk_Drum) (n n2 m : Nat) : back n n2 m (v_bk_LedgerOf r) = some (v_bk_LedgerOf r) := by simp
theorem d_bk_LedgerOf (N : Nat) (d_1 : T_bk_Drum) (funds_2 : Int) (bills_3 : Int) (coins_4 : Int) (r : T_api_Ledger × T_bk_Drum) (h : p_bk_LedgerOf N d_1 funds_2 bills_3 coins_4 = some r) : Does Try.prog 16 [.ptr 0 0, .int .i64 funds_2, .int .i64 bills_3, .int .i64 coins_4] [(C_bk_Drum d_1)] fun v c => v = v_bk_LedgerOf r ∧ c = [(C_bk_Drum r.2)] := by
  unfold p_bk_LedgerOf at h
  refine Does.ofL comp16 _ _ rfl rfl ?_
  refine Ex.seq ?_
  refine regH 1 [] [0, 1, 2, 3, 8] [] (mkS 82 [(0, .ptr 0 0), (1, .int .i64 funds_2), (2, .int .i64 bills_3), (3, .int .i64 coins_4), (8, .ptr 1 0)]) (⟨[(C_bk_Drum d_1), [.nils, .nils]], []⟩) (by kernel_rfl) trivial rfl ?_
  refine Ex.seq ?_
  refine regH 1 [] [0, 1, 2, 3, 8, 9] [] (mkS 82 [(0, .ptr 0 0), (1, .int .i64 funds_2), (2, .int .i64 bills_3), (3, .int .i64 coins_4), (8, .ptr 1 0), (9, .ptr 2 0)]) (⟨[(C_bk_Drum d_1), [.nils, .nils], [.nils, .nils]], []⟩) (by kernel_rfl) trivial rfl ?_
  refine Ex.seq ?_
  refine Ex.seq ?_
  obtain ⟨r_5, hr_5, h⟩ := Option.bind_eq_some_iff.1 h
  refine Ex.reg ?_
  refine runH 3 [] [0, 2, 3, 8, 9, 15, 17] [] (mkS 82 [(0, .ptr 0 0), (2, .int .i64 bills_3), (3, .int .i64 coins_4), (8, .ptr 1 0), (9, .ptr 2 0), (15, .ptr 0 0), (17, .int .i64 (IntKind.i64.wrap (funds_2 + 1)))]) (⟨[(C_bk_Drum d_1), [.nils, .nils], [.nils, .nils]], []⟩) (by kernel_rfl) trivial ?_
  refine ExO.callL [0] [.ptr 0 0, .int .i64 (IntKind.i64.wrap (funds_2 + 1))] rfl rfl (by simp; try rfl) rfl (by simp) (d_bk_Drum_Roll N d_1 (IntKind.i64.wrap (funds_2 + 1)) r_5 hr_5) (b_bk_Drum_Roll _ _ _ _) (by simp) ?_
  refine runH 1 [] [0, 2, 3, 8, 9, 10] [] (mkS 82 [(0, .ptr 0 0), (2, .int .i64 bills_3), (3, .int .i64 coins_4), (8, .ptr 1 0), (9, .ptr 2 0), (10, .int .i64 r_5.1)]) (⟨[(C_bk_Drum r_5.2), [.nils, .nils], [.nils, .nils]], []⟩) (by kernel_rfl) trivial ?_
  refine ExO.nil ?_
  obtain ⟨K_9, hK_10, h⟩ := letE h
  refine Ex.blockJ (fun a S => ∃ (b_6 : Int), ∃ (b_7 : List T_api_Fund), K_9 b_6 b_7 = some r ∧ a = mkS 82 [(0, .ptr 0 0), (2, .int .i64 bills_3), (3, .int .i64 coins_4), (8, .ptr 1 0), (9, .ptr 2 0)] ∧ S = ⟨[[.int .u64 b_6], [.nils, .nils], [.sl (b_7.map A_api_Fund) (some 0), .nils]], [(b_7.length, 4)]⟩) ?_ ?_
  · refine Ex.forget (nilB 2 0 4 [.nils, .nils] rfl rfl) ?_
    refine Ex.castA (a2 := mkS 82 [(0, .ptr 0 0), (2, .int .i64 bills_3), (3, .int .i64 coins_4), (8, .ptr 1 0), (9, .ptr 2 0), (10, .int .i64 r_5.1)]) (S2 := ⟨[(C_bk_Drum r_5.2), [.nils, .nils], [.sl (([] : List T_api_Fund).map A_api_Fund) (some 0), .nils]], [(0, 4)]⟩) (by kernel_rfl) (by kernel_rfl) ?_
    obtain ⟨B_15, hB_16, h⟩ := loop3I h
    refine Ex.loopF (fun k a S => ∃ (i_11 : Int), ∃ (b_12 : Int), ∃ (b_13 : List T_api_Fund), loop3 B_15 k i_11 b_12 b_13 = some r ∧ a = mkS 82 [(0, .ptr 0 0), (2, .int .i64 bills_3), (3, .int .i64 coins_4), (8, .ptr 1 0), (9, .ptr 2 0), (10, .int .i64 i_11)] ∧ S = ⟨[[.int .u64 b_12], [.nils, .nils], [.sl (b_13.map A_api_Fund) (some 0), .nils]], [(b_13.length, 4)]⟩) N ⟨_, _, Forgets.refl _ _ _, r_5.1, r_5.2.beat_, [], h, rfl, rfl⟩ ?_
    rintro k a S ⟨i_11, b_12, b_13, h, rfl, rfl⟩
    cases k with
    | zero => exact (loop3Z h).elim
    | succ k =>
      replace h := loop3S h hB_16
      refine Ex.seq ?_
      refine Ex.seq ?_
      refine regH 2 [] [0, 2, 3, 8, 9, 10, 20] [] (mkS 82 [(0, .ptr 0 0), (2, .int .i64 bills_3), (3, .int .i64 coins_4), (8, .ptr 1 0), (9, .ptr 2 0), (10, .int .i64 i_11), (20, .bool (decide (i_11 > 0)))]) (⟨[[.int .u64 b_12], [.nils, .nils], [.sl (b_13.map A_api_Fund) (some 0), .nils]], [(b_13.length, 4)]⟩) (by kernel_rfl) trivial rfl ?_
      rcases condI h with ⟨hc_17, h⟩ | ⟨hc_17, h⟩
      · refine Ex.condT _ rfl hc_17 ?_
        refine Ex.skip ?_
        refine Ex.seq ?_
        refine Ex.blockK ?_
        refine Ex.seq ?_
        obtain ⟨r_18, hr_18, h⟩ := Option.bind_eq_some_iff.1 h
        refine Ex.reg ?_
        refine runH 1 [] [0, 2, 3, 8, 9, 10, 23] [] (mkS 82 [(0, .ptr 0 0), (2, .int .i64 bills_3), (3, .int .i64 coins_4), (8, .ptr 1 0), (9, .ptr 2 0), (10, .int .i64 i_11), (23, .ptr 0 0)]) (⟨[[.int .u64 b_12], [.nils, .nils], [.sl (b_13.map A_api_Fund) (some 0), .nils]], [(b_13.length, 4)]⟩) (by kernel_rfl) trivial ?_
        refine ExO.callL [0] [.ptr 0 0, .int .i64 10] rfl rfl (by simp; try rfl) rfl (by simp) (d_bk_Drum_Roll N (⟨b_12⟩ : T_bk_Drum) 10 r_18 hr_18) (b_bk_Drum_Roll _ _ _ _) (by simp) ?_
        refine runH 1 [] [0, 2, 3, 8, 9, 10, 11] [] (mkS 82 [(0, .ptr 0 0), (2, .int .i64 bills_3), (3, .int .i64 coins_4), (8, .ptr 1 0), (9, .ptr 2 0), (10, .int .i64 i_11), (11, .int .i64 r_18.1)]) (⟨[(C_bk_Drum r_18.2), [.nils, .nils], [.sl (b_13.map A_api_Fund) (some 0), .nils]], [(b_13.length, 4)]⟩) (by kernel_rfl) trivial ?_
        refine ExO.nil ?_
        refine Ex.seq ?_
        obtain ⟨r_19, hr_19, h⟩ := Option.bind_eq_some_iff.1 h
        refine Ex.reg ?_
        refine runH 7 [] [0, 2, 3, 8, 9, 10, 25, 26, 27, 28, 31] [] (mkS 82 [(0, .ptr 0 0), (2, .int .i64 bills_3), (3, .int .i64 coins_4), (8, .ptr 1 0), (9, .ptr 2 0), (10, .int .i64 i_11), (25, .int .i64 r_18.1), (26, .ptr 0 0), (27, .int .i64 r_18.1), (28, .ptr 0 0), (31, .sl (([(IntKind.i64.wrap (r_18.1 + 4)), 20] : List Int).map (AV.int .i64)) (some 1))]) (⟨[(C_bk_Drum r_18.2), [.nils, .nils], [.sl (b_13.map A_api_Fund) (some 0), .nils]], [(b_13.length, 4), (2, 1)]⟩) (by kernel_rfl) trivial ?_
        refine ExO.callL [0] [.ptr 0 0, .sl (([(IntKind.i64.wrap (r_18.1 + 4)), 20] : List Int).map (AV.int .i64)) (some 1)] rfl rfl (by simp; try rfl) rfl (by simp) (d_bk_Drum_Any N r_18.2 [(IntKind.i64.wrap (r_18.1 + 4)), 20] r_19 hr_19) (b_bk_Drum_Any _ _ _ _) (by simp) ?_
        obtain ⟨r_20, hr_20, h⟩ := Option.bind_eq_some_iff.1 h
        refine ExO.callL [0] [.ptr 0 0, .int .i64 r_18.1, .int .i64 r_19.1] rfl rfl (by simp; try rfl) rfl (by simp) (d_bk_Drum_Mid N r_19.2 r_18.1 r_19.1 r_20 hr_20) (b_bk_Drum_Mid _ _ _ _) (by simp) ?_
        obtain ⟨r_21, hr_21, h⟩ := Option.bind_eq_some_iff.1 h
        refine runH 4 [] [0, 2, 3, 8, 9, 10, 25, 33, 34, 37] [] (mkS 82 [(0, .ptr 0 0), (2, .int .i64 bills_3), (3, .int .i64 coins_4), (8, .ptr 1 0), (9, .ptr 2 0), (10, .int .i64 i_11), (25, .int .i64 r_18.1), (33, .int .i64 r_20.1), (34, .ptr 0 0), (37, .int .i64 (IntKind.i64.wrap ((IntKind.i64.wrap (2 * coins_4)) + 1)))]) (⟨[(C_bk_Drum r_20.2), [.nils, .nils], [.sl (b_13.map A_api_Fund) (some 0), .nils]], [(b_13.length, 4), (2, 1)]⟩) (by kernel_rfl) trivial ?_
        refine ExO.callL [0] [.ptr 0 0, .int .i64 (IntKind.i64.wrap ((IntKind.i64.wrap (2 * coins_4)) + 1))] rfl rfl (by simp; try rfl) rfl (by simp) (d_bk_Drum_Roll N r_20.2 (IntKind.i64.wrap ((IntKind.i64.wrap (2 * coins_4)) + 1)) r_21 hr_21) (b_bk_Drum_Roll _ _ _ _) (by simp) ?_
        refine runH 3 [] [0, 2, 3, 8, 9, 10, 12] [] (mkS 82 [(0, .ptr 0 0), (2, .int .i64 bills_3), (3, .int .i64 coins_4), (8, .ptr 1 0), (9, .ptr 2 0), (10, .int .i64 i_11), (12, .ptr 3 0)]) (⟨[(C_bk_Drum r_21.2), [.nils, .nils], [.sl (b_13.map A_api_Fund) (some 0), .nils], [.int .i64 r_18.1, .int .i64 r_20.1, .int .i64 r_21.1, .nils]], [(b_13.length, 4), (2, 1)]⟩) (by kernel_rfl) trivial ?_
        refine ExO.nil ?_
        refine Ex.seq ?_
        refine Ex.seq ?_
        refine regH 1 [] [0, 2, 3, 8, 9, 10, 12, 13] [] (mkS 82 [(0, .ptr 0 0), (2, .int .i64 bills_3), (3, .int .i64 coins_4), (8, .ptr 1 0), (9, .ptr 2 0), (10, .int .i64 i_11), (12, .ptr 3 0), (13, .int .i64 0)]) (⟨[(C_bk_Drum r_21.2), [.nils, .nils], [.sl (b_13.map A_api_Fund) (some 0), .nils], [.int .i64 r_18.1, .int .i64 r_20.1, .int .i64 r_21.1, .nils]], [(b_13.length, 4), (2, 1)]⟩) (by kernel_rfl) trivial rfl ?_
        obtain ⟨K_25, hK_26, h⟩ := letE h
        refine Ex.blockJ (fun a S => ∃ (b_22 : Int), ∃ (b_23 : List Int), K_25 b_22 b_23 = some r ∧ a = mkS 82 [(0, .ptr 0 0), (2, .int .i64 bills_3), (3, .int .i64 coins_4), (8, .ptr 1 0), (9, .ptr 2 0), (10, .int .i64 i_11), (12, .ptr 3 0)] ∧ S = ⟨[[.int .u64 b_22], [.nils, .nils], [.sl (b_13.map A_api_Fund) (some 0), .nils], [.int .i64 r_18.1, .int .i64 r_20.1, .int .i64 r_21.1, .sl (b_23.map (AV.int .i64)) (some 1)]], [(b_13.length, 4), (b_23.length, 1)]⟩) ?_ ?_
        · refine Ex.forget (nilB 3 3 1 [.int .i64 r_18.1, .int .i64 r_20.1, .int .i64 r_21.1, .nils] rfl rfl) ?_
          refine Ex.castA (a2 := mkS 82 [(0, .ptr 0 0), (2, .int .i64 bills_3), (3, .int .i64 coins_4), (8, .ptr 1 0), (9, .ptr 2 0), (10, .int .i64 i_11), (12, .ptr 3 0), (13, .int .i64 0)]) (S2 := ⟨[(C_bk_Drum r_21.2), [.nils, .nils], [.sl (b_13.map A_api_Fund) (some 0), .nils], [.int .i64 r_18.1, .int .i64 r_20.1, .int .i64 r_21.1, .sl (([] : List Int).map (AV.int .i64)) (some 2)]], [(b_13.length, 4), (2, 1), (0, 1)]⟩) (by kernel_rfl) (by kernel_rfl) ?_
          obtain ⟨B_31, hB_32, h⟩ := loop3I h
          refine Ex.loopF (fun k a S => ∃ (use_27 : Int), ∃ (b_28 : Int), ∃ (b_29 : List Int), loop3 B_31 k use_27 b_28 b_29 = some r ∧ a = mkS 82 [(0, .ptr 0 0), (2, .int .i64 bills_3), (3, .int .i64 coins_4), (8, .ptr 1 0), (9, .ptr 2 0), (10, .int .i64 i_11), (12, .ptr 3 0), (13, .int .i64 use_27)] ∧ S = ⟨[[.int .u64 b_28], [.nils, .nils], [.sl (b_13.map A_api_Fund) (some 0), .nils], [.int .i64 r_18.1, .int .i64 r_20.1, .int .i64 r_21.1, .sl (b_29.map (AV.int .i64)) (some 1)]], [(b_13.length, 4), (b_29.length, 1)]⟩) N ⟨_, _, forgetA (m := 82) 4 [0, 2] [(0, .ptr 0 0), (2, .int .i64 bills_3), (3, .int .i64 coins_4), (8, .ptr 1 0), (9, .ptr 2 0), (10, .int .i64 i_11), (12, .ptr 3 0), (13, .int .i64 0)] [(C_bk_Drum r_21.2), [.nils, .nils], [.sl (b_13.map A_api_Fund) (some 0), .nils], [.int .i64 r_18.1, .int .i64 r_20.1, .int .i64 r_21.1, .sl (([] : List Int).map (AV.int .i64)) (some 1)]] [(b_13.length, 4), (0, 1)] (by simp [setAll]) (by simp) ⟨rfl, rfl, rfl, rfl, rfl, rfl, rfl, rfl, trivial⟩ (by simp) rfl (by decide), 0, r_21.2.beat_, [], h, rfl, rfl⟩ ?_
          rintro k a S ⟨use_27, b_28, b_29, h, rfl, rfl⟩
          cases k with
          | zero => exact (loop3Z h).elim
          | succ k =>
            replace h := loop3S h hB_32
            refine Ex.seq ?_
            refine Ex.seq ?_
            refine regH 2 [] [0, 2, 3, 8, 9, 10, 12, 13, 41] [] (mkS 82 [(0, .ptr 0 0), (2, .int .i64 bills_3), (3, .int .i64 coins_4), (8, .ptr 1 0), (9, .ptr 2 0), (10, .int .i64 i_11), (12, .ptr 3 0), (13, .int .i64 use_27), (41, .bool (decide (use_27 < 3)))]) (⟨[[.int .u64 b_28], [.nils, .nils], [.sl (b_13.map A_api_Fund) (some 0), .nils], [.int .i64 r_18.1, .int .i64 r_20.1, .int .i64 r_21.1, .sl (b_29.map (AV.int .i64)) (some 1)]], [(b_13.length, 4), (b_29.length, 1)]⟩) (by kernel_rfl) trivial rfl ?_
            rcases condI h with ⟨hc_33, h⟩ | ⟨hc_33, h⟩
            · refine Ex.condT _ rfl hc_33 ?_
              refine Ex.skip ?_
              refine Ex.seq ?_
              obtain ⟨K_37, hK_38, h⟩ := letE h
              refine Ex.blockJ (fun a S => ∃ (b_34 : Int), ∃ (b_35 : List Int), K_37 b_34 b_35 = some r ∧ a = mkS 82 [(0, .ptr 0 0), (2, .int .i64 bills_3), (3, .int .i64 coins_4), (8, .ptr 1 0), (9, .ptr 2 0), (10, .int .i64 i_11), (12, .ptr 3 0), (13, .int .i64 use_27)] ∧ S = ⟨[[.int .u64 b_34], [.nils, .nils], [.sl (b_13.map A_api_Fund) (some 0), .nils], [.int .i64 r_18.1, .int .i64 r_20.1, .int .i64 r_21.1, .sl (b_35.map (AV.int .i64)) (some 1)]], [(b_13.length, 4), (b_35.length, 1)]⟩) ?_ ?_
              · refine Ex.seq ?_
                obtain ⟨r_39, hr_39, h⟩ := Option.bind_eq_some_iff.1 h
                refine Ex.reg ?_
                refine runH 1 [] [0, 2, 3, 8, 9, 10, 12, 13, 44] [] (mkS 82 [(0, .ptr 0 0), (2, .int .i64 bills_3), (3, .int .i64 coins_4), (8, .ptr 1 0), (9, .ptr 2 0), (10, .int .i64 i_11), (12, .ptr 3 0), (13, .int .i64 use_27), (44, .ptr 0 0)]) (⟨[[.int .u64 b_28], [.nils, .nils], [.sl (b_13.map A_api_Fund) (some 0), .nils], [.int .i64 r_18.1, .int .i64 r_20.1, .int .i64 r_21.1, .sl (b_29.map (AV.int .i64)) (some 1)]], [(b_13.length, 4), (b_29.length, 1)]⟩) (by kernel_rfl) trivial ?_
                refine ExO.callL [0] [.ptr 0 0, .int .i64 3] rfl rfl (by simp; try rfl) rfl (by simp) (d_bk_Drum_Rare N (⟨b_28⟩ : T_bk_Drum) 3 r_39 hr_39) (b_bk_Drum_Rare _ _ _ _) (by simp) ?_
                refine runH 1 [] [0, 2, 3, 8, 9, 10, 12, 13, 46] [] (mkS 82 [(0, .ptr 0 0), (2, .int .i64 bills_3), (3, .int .i64 coins_4), (8, .ptr 1 0), (9, .ptr 2 0), (10, .int .i64 i_11), (12, .ptr 3 0), (13, .int .i64 use_27), (46, .bool (!r_39.1))]) (⟨[(C_bk_Drum r_39.2), [.nils, .nils], [.sl (b_13.map A_api_Fund) (some 0), .nils], [.int .i64 r_18.1, .int .i64 r_20.1, .int .i64 r_21.1, .sl (b_29.map (AV.int .i64)) (some 1)]], [(b_13.length, 4), (b_29.length, 1)]⟩) (by kernel_rfl) trivial ?_
                refine ExO.nil ?_
                rcases condI h with ⟨hc_40, h⟩ | ⟨hc_40, h⟩
                · refine Ex.condT _ rfl hc_40 ?_
                  obtain ⟨l_41, hl_41, h⟩ := Option.bind_eq_some_iff.1 h
                  refine regH 7 [(4, .app (l_41.map (AV.int .i64)) l_41.length)] [0, 2, 3, 8, 9, 10, 12, 13] [LApp b_29.length (b_29.map (AV.int .i64)) (([use_27] : List Int).map (AV.int .i64)) 1 (l_41.map (AV.int .i64)) l_41.length] (mkS 82 [(0, .ptr 0 0), (2, .int .i64 bills_3), (3, .int .i64 coins_4), (8, .ptr 1 0), (9, .ptr 2 0), (10, .int .i64 i_11), (12, .ptr 3 0), (13, .int .i64 use_27)]) (⟨[(C_bk_Drum r_39.2), [.nils, .nils], [.sl (b_13.map A_api_Fund) (some 0), .nils], [.int .i64 r_18.1, .int .i64 r_20.1, .int .i64 r_21.1, .sl (l_41.map (AV.int .i64)) (some 1)]], [(b_13.length, 4), (l_41.length, 1), (1, 1)]⟩) (by kernel_rfl) ⟨LApp.of hl_41 (fun _ => rfl), trivial⟩ rfl ?_
                  (try simp only [reduceCtorEq, AEx.ex.injEq, Nat.reduceEqDiff, if_true, if_false])
                  exact ⟨_, _, forgetA (m := 82) 4 [0, 1] [(0, .ptr 0 0), (2, .int .i64 bills_3), (3, .int .i64 coins_4), (8, .ptr 1 0), (9, .ptr 2 0), (10, .int .i64 i_11), (12, .ptr 3 0), (13, .int .i64 use_27)] [(C_bk_Drum r_39.2), [.nils, .nils], [.sl (b_13.map A_api_Fund) (some 0), .nils], [.int .i64 r_18.1, .int .i64 r_20.1, .int .i64 r_21.1, .sl (l_41.map (AV.int .i64)) (some 1)]] [(b_13.length, 4), (l_41.length, 1)] (by simp [setAll]) (by simp) ⟨rfl, rfl, rfl, rfl, rfl, rfl, rfl, rfl, trivial⟩ (by simp) rfl (by decide), r_39.2.beat_, l_41, h, rfl, rfl⟩
                · refine Ex.condF _ rfl hc_40 ?_
                  refine Ex.skip ?_
                  (try simp only [reduceCtorEq, AEx.ex.injEq, Nat.reduceEqDiff, if_true, if_false])
                  exact ⟨_, _, forgetK [0, 2, 3, 8, 9, 10, 12, 13], r_39.2.beat_, b_29, h, rfl, rfl⟩
              · rintro a S ⟨b_34, b_35, h, rfl, rfl⟩
                subst hK_38
                refine regH 3 [] [0, 2, 3, 8, 9, 10, 12, 13] [] (mkS 82 [(0, .ptr 0 0), (2, .int .i64 bills_3), (3, .int .i64 coins_4), (8, .ptr 1 0), (9, .ptr 2 0), (10, .int .i64 i_11), (12, .ptr 3 0), (13, .int .i64 (IntKind.i64.wrap (use_27 + 1)))]) (⟨[[.int .u64 b_34], [.nils, .nils], [.sl (b_13.map A_api_Fund) (some 0), .nils], [.int .i64 r_18.1, .int .i64 r_20.1, .int .i64 r_21.1, .sl (b_35.map (AV.int .i64)) (some 1)]], [(b_13.length, 4), (b_35.length, 1)]⟩) (by kernel_rfl) trivial rfl ?_
                dsimp only
                exact ⟨_, _, Forgets.refl _ _ _, k, Nat.lt_succ_self k, (IntKind.i64.wrap (use_27 + 1)), b_34, b_35, h, rfl, rfl⟩
            · refine Ex.condF _ rfl hc_33 ?_
              refine Ex.exit ?_
              (try simp only [reduceCtorEq, AEx.ex.injEq, Nat.reduceEqDiff, if_true, if_false])
              exact ⟨_, _, forgetK [0, 2, 3, 8, 9, 10, 12], b_28, b_29, h, rfl, rfl⟩
        · rintro a S ⟨b_22, b_23, h, rfl, rfl⟩
          subst hK_26
          refine Ex.postF ?_
          obtain ⟨l_42, hl_42, h⟩ := Option.bind_eq_some_iff.1 h
          refine regH 7 [(4, .app (l_42.map A_api_Fund) l_42.length)] [0, 2, 3, 8, 9, 10] [LApp b_13.length (b_13.map A_api_Fund) (([(⟨r_18.1, r_20.1, r_21.1, b_23⟩ : T_api_Fund)] : List T_api_Fund).map A_api_Fund) 4 (l_42.map A_api_Fund) l_42.length] (mkS 82 [(0, .ptr 0 0), (2, .int .i64 bills_3), (3, .int .i64 coins_4), (8, .ptr 1 0), (9, .ptr 2 0), (10, .int .i64 i_11)]) (⟨[[.int .u64 b_22], [.nils, .nils], [.sl (l_42.map A_api_Fund) (some 0), .nils], [.int .i64 r_18.1, .int .i64 r_20.1, .int .i64 r_21.1, .sl (b_23.map (AV.int .i64)) (some 1)]], [(l_42.length, 4), (b_23.length, 1), (1, 4)]⟩) (by kernel_rfl) ⟨LApp.of hl_42 (fun _ => rfl), trivial⟩ rfl ?_
          refine ⟨mkS 82 [(0, .ptr 0 0), (2, .int .i64 bills_3), (3, .int .i64 coins_4), (8, .ptr 1 0), (9, .ptr 2 0), (10, .int .i64 i_11)], ⟨[[.int .u64 b_22], [.nils, .nils], [.sl (l_42.map A_api_Fund) (some 0), .nils], [.int .i64 r_18.1, .int .i64 r_20.1, .int .i64 r_21.1, .sl (b_23.map (AV.int .i64)) (some 1)]], [(l_42.length, 4), (b_23.length, 1), (1, 4)]⟩, Forgets.refl _ _ _, ?_⟩
          refine regH 3 [] [0, 2, 3, 8, 9, 10] [] (mkS 82 [(0, .ptr 0 0), (2, .int .i64 bills_3), (3, .int .i64 coins_4), (8, .ptr 1 0), (9, .ptr 2 0), (10, .int .i64 (IntKind.i64.wrap (i_11 - 1)))]) (⟨[[.int .u64 b_22], [.nils, .nils], [.sl (l_42.map A_api_Fund) (some 0), .nils], [.int .i64 r_18.1, .int .i64 r_20.1, .int .i64 r_21.1, .sl (b_23.map (AV.int .i64)) (some 1)]], [(l_42.length, 4), (b_23.length, 1), (1, 4)]⟩) (by kernel_rfl) trivial rfl ?_
          dsimp only
          exact ⟨_, _, forgetA (m := 82) 3 [0] [(0, .ptr 0 0), (2, .int .i64 bills_3), (3, .int .i64 coins_4), (8, .ptr 1 0), (9, .ptr 2 0), (10, .int .i64 (IntKind.i64.wrap (i_11 - 1)))] [[.int .u64 b_22], [.nils, .nils], [.sl (l_42.map A_api_Fund) (some 0), .nils]] [(l_42.length, 4)] (by simp [setAll]) (by simp) ⟨rfl, rfl, rfl, rfl, rfl, rfl, trivial⟩ (by simp) rfl (by decide), k, Nat.lt_succ_self k, (IntKind.i64.wrap (i_11 - 1)), b_22, l_42, h, rfl, rfl⟩
      · refine Ex.condF _ rfl hc_17 ?_
        refine Ex.exit ?_
        (try simp only [reduceCtorEq, AEx.ex.injEq, Nat.reduceEqDiff, if_true, if_false])
        exact ⟨_, _, forgetK [0, 2, 3, 8, 9], b_12, b_13, h, rfl, rfl⟩
  · rintro a S ⟨b_6, b_7, h, rfl, rfl⟩
    subst hK_10
    refine Ex.seq ?_
    refine Ex.seq ?_
    obtain ⟨r_43, hr_43, h⟩ := Option.bind_eq_some_iff.1 h
    refine Ex.reg ?_
    refine runH 3 [] [0, 3, 8, 9, 59, 61] [] (mkS 82 [(0, .ptr 0 0), (3, .int .i64 coins_4), (8, .ptr 1 0), (9, .ptr 2 0), (59, .ptr 0 0), (61, .int .i64 (IntKind.i64.wrap (bills_3 + 1)))]) (⟨[[.int .u64 b_6], [.nils, .nils], [.sl (b_7.map A_api_Fund) (some 0), .nils]], [(b_7.length, 4)]⟩) (by kernel_rfl) trivial ?_
    refine ExO.callL [0] [.ptr 0 0, .int .i64 (IntKind.i64.wrap (bills_3 + 1))] rfl rfl (by simp; try rfl) rfl (by simp) (d_bk_Drum_Roll N (⟨b_6⟩ : T_bk_Drum) (IntKind.i64.wrap (bills_3 + 1)) r_43 hr_43) (b_bk_Drum_Roll _ _ _ _) (by simp) ?_
    refine runH 1 [] [0, 3, 8, 9, 14] [] (mkS 82 [(0, .ptr 0 0), (3, .int .i64 coins_4), (8, .ptr 1 0), (9, .ptr 2 0), (14, .int .i64 r_43.1)]) (⟨[(C_bk_Drum r_43.2), [.nils, .nils], [.sl (b_7.map A_api_Fund) (some 0), .nils]], [(b_7.length, 4)]⟩) (by kernel_rfl) trivial ?_
    refine ExO.nil ?_
    obtain ⟨K_47, hK_48, h⟩ := letE h
    refine Ex.blockJ (fun a S => ∃ (b_44 : Int), ∃ (b_45 : List T_api_Bill), K_47 b_44 b_45 = some r ∧ a = mkS 82 [(8, .ptr 1 0), (9, .ptr 2 0)] ∧ S = ⟨[[.int .u64 b_44], [.nils, .nils], [.sl (b_7.map A_api_Fund) (some 0), .sl (b_45.map A_api_Bill) (some 1)]], [(b_7.length, 4), (b_45.length, 3)]⟩) ?_ ?_
    · refine Ex.forget (nilB 2 1 3 [.sl (b_7.map A_api_Fund) (some 0), .nils] rfl rfl) ?_
      refine Ex.castA (a2 := mkS 82 [(0, .ptr 0 0), (3, .int .i64 coins_4), (8, .ptr 1 0), (9, .ptr 2 0), (14, .int .i64 r_43.1)]) (S2 := ⟨[(C_bk_Drum r_43.2), [.nils, .nils], [.sl (b_7.map A_api_Fund) (some 0), .sl (([] : List T_api_Bill).map A_api_Bill) (some 1)]], [(b_7.length, 4), (0, 3)]⟩) (by kernel_rfl) (by kernel_rfl) ?_
      obtain ⟨B_53, hB_54, h⟩ := loop3I h
      refine Ex.loopF (fun k a S => ∃ (i_49 : Int), ∃ (b_50 : Int), ∃ (b_51 : List T_api_Bill), loop3 B_53 k i_49 b_50 b_51 = some r ∧ a = mkS 82 [(0, .ptr 0 0), (3, .int .i64 coins_4), (8, .ptr 1 0), (9, .ptr 2 0), (14, .int .i64 i_49)] ∧ S = ⟨[[.int .u64 b_50], [.nils, .nils], [.sl (b_7.map A_api_Fund) (some 0), .sl (b_51.map A_api_Bill) (some 1)]], [(b_7.length, 4), (b_51.length, 3)]⟩) N ⟨_, _, Forgets.refl _ _ _, r_43.1, r_43.2.beat_, [], h, rfl, rfl⟩ ?_
      rintro k a S ⟨i_49, b_50, b_51, h, rfl, rfl⟩
      cases k with
      | zero => exact (loop3Z h).elim
      | succ k =>
        replace h := loop3S h hB_54
        refine Ex.seq ?_
        refine Ex.seq ?_
        refine regH 2 [] [0, 3, 8, 9, 14, 64] [] (mkS 82 [(0, .ptr 0 0), (3, .int .i64 coins_4), (8, .ptr 1 0), (9, .ptr 2 0), (14, .int .i64 i_49), (64, .bool (decide (i_49 > 0)))]) (⟨[[.int .u64 b_50], [.nils, .nils], [.sl (b_7.map A_api_Fund) (some 0), .sl (b_51.map A_api_Bill) (some 1)]], [(b_7.length, 4), (b_51.length, 3)]⟩) (by kernel_rfl) trivial rfl ?_
        rcases condI h with ⟨hc_55, h⟩ | ⟨hc_55, h⟩
        · refine Ex.condT _ rfl hc_55 ?_
          refine Ex.skip ?_
          refine Ex.seq ?_
          refine Ex.blockK ?_
          obtain ⟨r_56, hr_56, h⟩ := Option.bind_eq_some_iff.1 h
          obtain ⟨r_57, hr_57, h⟩ := Option.bind_eq_some_iff.1 h
          obtain ⟨r_58, hr_58, h⟩ := Option.bind_eq_some_iff.1 h
          have hT_59 : DoesA Try.prog [⟨45, [.ptr 0 0, .int .i64 3, .int .i64 12], [[.int .u64 b_50]], (v_bk_Drum_Mid r_56), [(C_bk_Drum r_56.2)]⟩, ⟨19, [.ptr 0 0, .int .i64 3], [(C_bk_Drum r_56.2)], (v_bk_Drum_Roll r_57), [(C_bk_Drum r_57.2)]⟩, ⟨19, [.ptr 0 0, .int .i64 (IntKind.i64.wrap (coins_4 + 1))], [(C_bk_Drum r_57.2)], (v_bk_Drum_Roll r_58), [(C_bk_Drum r_58.2)]⟩] ∧ ConsA [⟨45, [.ptr 0 0, .int .i64 3, .int .i64 12], [[.int .u64 b_50]], (v_bk_Drum_Mid r_56), [(C_bk_Drum r_56.2)]⟩, ⟨19, [.ptr 0 0, .int .i64 3], [(C_bk_Drum r_56.2)], (v_bk_Drum_Roll r_57), [(C_bk_Drum r_57.2)]⟩, ⟨19, [.ptr 0 0, .int .i64 (IntKind.i64.wrap (coins_4 + 1))], [(C_bk_Drum r_57.2)], (v_bk_Drum_Roll r_58), [(C_bk_Drum r_58.2)]⟩] := ⟨⟨(d_bk_Drum_Mid N (⟨b_50⟩ : T_bk_Drum) 3 12 r_56 hr_56), rfl, (d_bk_Drum_Roll N r_56.2 3 r_57 hr_57), rfl, (d_bk_Drum_Roll N r_57.2 (IntKind.i64.wrap (coins_4 + 1)) r_58 hr_58), rfl, trivial⟩, ⟨⟨ConsR.ne rfl, ConsR.ne rfl, trivial⟩, ⟨k_bk_Drum_Roll N r_56.2 3 r_57.2 (IntKind.i64.wrap (coins_4 + 1)) r_57 r_58 hr_57 hr_58, trivial⟩, trivial, trivial⟩⟩
          refine Ex.drawE (a1 := mkS 82 [(0, .ptr 0 0), (3, .int .i64 coins_4), (8, .ptr 1 0), (9, .ptr 2 0), (14, .int .i64 i_49), (64, .bool (decide (i_49 > 0))), (67, .ptr 2 1), (68, .sl (b_51.map A_api_Bill) (some 1)), (69, .ptr 0 0), (70, .int .i64 r_56.1), (71, .ptr 0 0), (72, .int .i64 r_57.1), (73, .ptr 0 0), (74, .int .i64 coins_4), (75, .int .i64 (IntKind.i64.wrap (coins_4 + 1))), (76, .int .i64 r_58.1), (77, .agg [.int .i64 r_56.1, .int .i64 r_57.1, .int .i64 r_58.1]), (78, .sl (([(⟨r_56.1, r_57.1, r_58.1⟩ : T_api_Bill)] : List T_api_Bill).map A_api_Bill) (some 2))]) (tabO_ok hT_59.1) [] [(1, 3)] [⟨[(C_bk_Drum r_56.2), [.nils, .nils], [.sl (b_7.map A_api_Fund) (some 0), .sl (b_51.map A_api_Bill) (some 1)]], [(b_7.length, 4), (b_51.length, 3), (1, 3)]⟩, ⟨[(C_bk_Drum r_57.2), [.nils, .nils], [.sl (b_7.map A_api_Fund) (some 0), .sl (b_51.map A_api_Bill) (some 1)]], [(b_7.length, 4), (b_51.length, 3), (1, 3)]⟩, ⟨[(C_bk_Drum r_58.2), [.nils, .nils], [.sl (b_7.map A_api_Fund) (some 0), .sl (b_51.map A_api_Bill) (some 1)]], [(b_7.length, 4), (b_51.length, 3), (1, 3)]⟩] ?_ ?_
          · refine drS [1, 2] 3 [] [] (mkS 82 [(0, .ptr 0 0), (3, .int .i64 coins_4), (8, .ptr 1 0), (9, .ptr 2 0), (14, .int .i64 i_49), (64, .bool (decide (i_49 > 0))), (67, .ptr 2 1), (68, .sl (b_51.map A_api_Bill) (some 1)), (69, .ptr 0 0)]) (by simp) (by kernel_rfl) trivial (by kernel_rfl) ?_
            refine drB hT_59.2 0 _ [0] [.ptr 0 0, .int .i64 3, .int .i64 12] (v_bk_Drum_Mid r_56) _ _ rfl rfl rfl rfl rfl rfl rfl rfl (by simp; try rfl) rfl (by simp) (b_bk_Drum_Mid _ _ _ _) (by simp) rfl ?_
            refine drS [1, 2] 1 [] [] (mkS 82 [(0, .ptr 0 0), (3, .int .i64 coins_4), (8, .ptr 1 0), (9, .ptr 2 0), (14, .int .i64 i_49), (64, .bool (decide (i_49 > 0))), (67, .ptr 2 1), (68, .sl (b_51.map A_api_Bill) (some 1)), (69, .ptr 0 0), (70, .int .i64 r_56.1), (71, .ptr 0 0)]) (by simp) (by kernel_rfl) trivial (by kernel_rfl) ?_
            refine drB hT_59.2 1 _ [0] [.ptr 0 0, .int .i64 3] (v_bk_Drum_Roll r_57) _ _ rfl rfl rfl rfl rfl rfl rfl rfl (by simp; try rfl) rfl (by simp) (b_bk_Drum_Roll _ _ _ _) (by simp) rfl ?_
            refine drS [1, 2] 3 [] [] (mkS 82 [(0, .ptr 0 0), (3, .int .i64 coins_4), (8, .ptr 1 0), (9, .ptr 2 0), (14, .int .i64 i_49), (64, .bool (decide (i_49 > 0))), (67, .ptr 2 1), (68, .sl (b_51.map A_api_Bill) (some 1)), (69, .ptr 0 0), (70, .int .i64 r_56.1), (71, .ptr 0 0), (72, .int .i64 r_57.1), (73, .ptr 0 0), (74, .int .i64 coins_4), (75, .int .i64 (IntKind.i64.wrap (coins_4 + 1)))]) (by simp) (by kernel_rfl) trivial (by kernel_rfl) ?_
            refine drB hT_59.2 2 _ [0] [.ptr 0 0, .int .i64 (IntKind.i64.wrap (coins_4 + 1))] (v_bk_Drum_Roll r_58) _ _ rfl rfl rfl rfl rfl rfl rfl rfl (by simp; try rfl) rfl (by simp) (b_bk_Drum_Roll _ _ _ _) (by simp) rfl ?_
            refine drS [1, 2] 1 [] [] (mkS 82 [(0, .ptr 0 0), (3, .int .i64 coins_4), (8, .ptr 1 0), (9, .ptr 2 0), (14, .int .i64 i_49), (64, .bool (decide (i_49 > 0))), (67, .ptr 2 1), (68, .sl (b_51.map A_api_Bill) (some 1)), (69, .ptr 0 0), (70, .int .i64 r_56.1), (71, .ptr 0 0), (72, .int .i64 r_57.1), (73, .ptr 0 0), (74, .int .i64 coins_4), (75, .int .i64 (IntKind.i64.wrap (coins_4 + 1))), (76, .int .i64 r_58.1), (77, .agg [.int .i64 r_56.1, .int .i64 r_57.1, .int .i64 r_58.1])]) (by simp) (by kernel_rfl) trivial (by kernel_rfl) ?_
            refine drR 2 3 (([(⟨r_56.1, r_57.1, r_58.1⟩ : T_api_Bill)] : List T_api_Bill).map A_api_Bill) rfl rfl (fun _ => by kernel_rfl) (by simp) rfl rfl ?_
            exact DrO.nil rfl
          · dsimp only [List.getLastD_cons, List.getLastD_nil]
            obtain ⟨l_60, hl_60, h⟩ := Option.bind_eq_some_iff.1 h
            refine runH 3 [(0, .app (l_60.map A_api_Bill) l_60.length)] [0, 3, 8, 9, 14] [LApp b_51.length (b_51.map A_api_Bill) (([(⟨r_56.1, r_57.1, r_58.1⟩ : T_api_Bill)] : List T_api_Bill).map A_api_Bill) 3 (l_60.map A_api_Bill) l_60.length] (mkS 82 [(0, .ptr 0 0), (3, .int .i64 coins_4), (8, .ptr 1 0), (9, .ptr 2 0), (14, .int .i64 i_49)]) (⟨[(C_bk_Drum r_58.2), [.nils, .nils], [.sl (b_7.map A_api_Fund) (some 0), .sl (l_60.map A_api_Bill) (some 1)]], [(b_7.length, 4), (l_60.length, 3), (1, 3)]⟩) (by kernel_rfl) ⟨LApp.of hl_60 (fun _ => rfl), trivial⟩ ?_
            refine ExO.nil ?_
            refine regH 3 [] [0, 3, 8, 9, 14] [] (mkS 82 [(0, .ptr 0 0), (3, .int .i64 coins_4), (8, .ptr 1 0), (9, .ptr 2 0), (14, .int .i64 (IntKind.i64.wrap (i_49 - 1)))]) (⟨[(C_bk_Drum r_58.2), [.nils, .nils], [.sl (b_7.map A_api_Fund) (some 0), .sl (l_60.map A_api_Bill) (some 1)]], [(b_7.length, 4), (l_60.length, 3), (1, 3)]⟩) (by kernel_rfl) trivial rfl ?_
            dsimp only
            exact ⟨_, _, forgetA (m := 82) 3 [0, 1] [(0, .ptr 0 0), (3, .int .i64 coins_4), (8, .ptr 1 0), (9, .ptr 2 0), (14, .int .i64 (IntKind.i64.wrap (i_49 - 1)))] [(C_bk_Drum r_58.2), [.nils, .nils], [.sl (b_7.map A_api_Fund) (some 0), .sl (l_60.map A_api_Bill) (some 1)]] [(b_7.length, 4), (l_60.length, 3)] (by simp [setAll]) (by simp) ⟨rfl, rfl, rfl, rfl, rfl, trivial⟩ (by simp) rfl (by decide), k, Nat.lt_succ_self k, (IntKind.i64.wrap (i_49 - 1)), r_58.2.beat_, l_60, h, rfl, rfl⟩
        · refine Ex.condF _ rfl hc_55 ?_
          refine Ex.exit ?_
          (try simp only [reduceCtorEq, AEx.ex.injEq, Nat.reduceEqDiff, if_true, if_false])
          exact ⟨_, _, forgetK [8, 9], b_50, b_51, h, rfl, rfl⟩
    · rintro a S ⟨b_44, b_45, h, rfl, rfl⟩
      subst hK_48
      refine Ex.seq ?_
      refine regH 2 [] [8] [] (mkS 82 [(8, .ptr 1 0)]) (⟨[[.int .u64 b_44], [.sl (b_7.map A_api_Fund) (some 0), .sl (b_45.map A_api_Bill) (some 1)], [.sl (b_7.map A_api_Fund) (some 0), .sl (b_45.map A_api_Bill) (some 1)]], [(b_7.length, 4), (b_45.length, 3)]⟩) (by kernel_rfl) trivial rfl ?_
      refine Ex.ret ?_
      obtain rfl := Option.some.inj h
      exact ⟨.inr rfl, .agg [.sl (b_7.map A_api_Fund) (some 0), .sl (b_45.map A_api_Bill) (some 1)], by kernel_rfl, by kernel_rfl, by kernel_rfl, by kernel_rfl⟩
def v_bk_Ints (r : (List Int)) : AV := .sl (r.map (AV.int .i64)) none
attribute [local simp] v_bk_Ints
def v_bk_OwnLedger (r : T_api_Ledger) : AV := (A_api_Ledger r)
attribute [local simp] v_bk_OwnLedger
def p_bk_EqInts (N : Nat) (a_1 : (List Int)) (b_2 : (List Int)) : Option (Bool) := (bif (((a_1.length : Nat) : Int) != ((b_2.length : Nat) : Int)) then some false else (letJ (fun (_ : Unit) => some true) (fun k_4 => (loop1 (fun rec_8 (i_7 : Int) => (bif (decide (i_7 < ((a_1.length : Nat) : Int))) then ((getI a_1 i_7).bind fun x_12 => ((getI b_2 i_7).bind fun x_13 => (bif (x_12 != x_13) then some false else (rec_8 (IntKind.i64.wrap (i_7 + 1)))))) else (k_4 ()))) N 0))))
def v_bk_EqInts (r : Bool) : AV := .bool r
attribute [local simp] v_bk_EqInts
theorem a_bk_EqInts (a_1 : (List Int)) (b_2 : (List Int)) : [.sl (a_1.map (AV.int .i64)) none, .sl (b_2.map (AV.int .i64)) none].mapM (ren []) = some [.sl (a_1.map (AV.int .i64)) none, .sl (b_2.map (AV.int .i64)) none] := by simp
theorem b_bk_EqInts (r : Bool) (n n2 m : Nat) : back n n2 m (v_bk_EqInts r) = some (v_bk_EqInts r) := by simp
theorem d_bk_EqInts (N : Nat) (a_1 : (List Int)) (b_2 : (List Int)) (r : Bool) (h : p_bk_EqInts N a_1 b_2 = some r) : Does Try.prog 29 [.sl (a_1.map (AV.int .i64)) none, .sl (b_2.map (AV.int .i64)) none] [] fun v c => v = v_bk_EqInts r ∧ c = [] := by
  unfold p_bk_EqInts at h
  refine Does.ofL comp29 _ _ rfl rfl ?_
  refine Ex.seq ?_
  refine regH 1 [] [0, 1] [] (mkS 26 [(0, .sl (a_1.map (AV.int .i64)) none), (1, .sl (b_2.map (AV.int .i64)) none)]) (⟨[], []⟩) (by kernel_rfl) trivial rfl ?_
  refine Ex.seq ?_
  refine Ex.seq ?_
  refine regH 5 [(1, .eq (.int .i64 ((a_1.length : Nat) : Int))), (3, .eq (.int .i64 ((b_2.length : Nat) : Int)))] [0, 1, 10] [AV.int .i64 (((a_1.map (AV.int .i64)).length : Nat) : Int) = AV.int .i64 ((a_1.length : Nat) : Int), AV.int .i64 (((b_2.map (AV.int .i64)).length : Nat) : Int) = AV.int .i64 ((b_2.length : Nat) : Int)] (mkS 26 [(0, .sl (a_1.map (AV.int .i64)) none), (1, .sl (b_2.map (AV.int .i64)) none), (10, .bool (((a_1.length : Nat) : Int) != ((b_2.length : Nat) : Int)))]) (⟨[], []⟩) (by kernel_rfl) ⟨lenM _ _, lenM _ _, trivial⟩ rfl ?_
  rcases condI h with ⟨hc_3, h⟩ | ⟨hc_3, h⟩
  · refine Ex.condT _ rfl hc_3 ?_
    refine Ex.seq ?_
    refine regH 1 [] [4] [] (mkS 26 [(4, .bool false)]) (⟨[], []⟩) (by kernel_rfl) trivial rfl ?_
    refine Ex.ret ?_
    obtain rfl := Option.some.inj h
    exact ⟨.inr rfl, .bool false, by kernel_rfl, by kernel_rfl, by kernel_rfl, by kernel_rfl⟩
  · refine Ex.condF _ rfl hc_3 ?_
    refine Ex.skip ?_
    refine Ex.seq ?_
    refine Ex.seq ?_
    refine regH 1 [] [0, 1, 5] [] (mkS 26 [(0, .sl (a_1.map (AV.int .i64)) none), (1, .sl (b_2.map (AV.int .i64)) none), (5, .int .i64 0)]) (⟨[], []⟩) (by kernel_rfl) trivial rfl ?_
    obtain ⟨K_5, hK_6, h⟩ := letE h
    refine Ex.blockJ (fun a S => K_5 () = some r ∧ a = mkS 26 [] ∧ S = ⟨[], []⟩) ?_ ?_
    · obtain ⟨B_9, hB_10, h⟩ := loop1I h
      refine Ex.loopF (fun k a S => ∃ (i_7 : Int), loop1 B_9 k i_7 = some r ∧ a = mkS 26 [(0, .sl (a_1.map (AV.int .i64)) none), (1, .sl (b_2.map (AV.int .i64)) none), (5, .int .i64 i_7)] ∧ S = ⟨[], []⟩) N ⟨_, _, Forgets.refl _ _ _, 0, h, rfl, rfl⟩ ?_
      rintro k a S ⟨i_7, h, rfl, rfl⟩
      cases k with
      | zero => exact (loop1Z h).elim
      | succ k =>
        replace h := loop1S h hB_10
        refine Ex.seq ?_
        refine Ex.seq ?_
        refine regH 4 [(2, .eq (.int .i64 ((a_1.length : Nat) : Int)))] [0, 1, 5, 14] [AV.int .i64 (((a_1.map (AV.int .i64)).length : Nat) : Int) = AV.int .i64 ((a_1.length : Nat) : Int)] (mkS 26 [(0, .sl (a_1.map (AV.int .i64)) none), (1, .sl (b_2.map (AV.int .i64)) none), (5, .int .i64 i_7), (14, .bool (decide (i_7 < ((a_1.length : Nat) : Int))))]) (⟨[], []⟩) (by kernel_rfl) ⟨lenM _ _, trivial⟩ rfl ?_
        rcases condI h with ⟨hc_11, h⟩ | ⟨hc_11, h⟩
        · refine Ex.condT _ rfl hc_11 ?_
          refine Ex.skip ?_
          refine Ex.seq ?_
          refine Ex.blockK ?_
          refine Ex.seq ?_
          obtain ⟨x_12, hx_12, h⟩ := Option.bind_eq_some_iff.1 h
          obtain ⟨x_13, hx_13, h⟩ := Option.bind_eq_some_iff.1 h
          refine Ex.drawE (a1 := mkS 26 [(0, .sl (a_1.map (AV.int .i64)) none), (1, .sl (b_2.map (AV.int .i64)) none), (5, .int .i64 i_7), (14, .bool (decide (i_7 < ((a_1.length : Nat) : Int)))), (17, .sl (a_1.map (AV.int .i64)) none), (18, .int .i64 i_7), (19, .rop [.int .i64 x_12]), (20, .int .i64 x_12), (21, .sl (b_2.map (AV.int .i64)) none), (22, .int .i64 i_7), (23, .rop [.int .i64 x_13]), (24, .int .i64 x_13)]) (noClr_ok _) [] [] [] ?_ ?_
          · refine drS [] 8 [(2, .rop [.int .i64 x_12]), (6, .rop [.int .i64 x_13])] [LGet (a_1.map (AV.int .i64)) i_7 1 [.int .i64 x_12], LGet (b_2.map (AV.int .i64)) i_7 1 [.int .i64 x_13]] (mkS 26 [(0, .sl (a_1.map (AV.int .i64)) none), (1, .sl (b_2.map (AV.int .i64)) none), (5, .int .i64 i_7), (14, .bool (decide (i_7 < ((a_1.length : Nat) : Int)))), (17, .sl (a_1.map (AV.int .i64)) none), (18, .int .i64 i_7), (19, .rop [.int .i64 x_12]), (20, .int .i64 x_12), (21, .sl (b_2.map (AV.int .i64)) none), (22, .int .i64 i_7), (23, .rop [.int .i64 x_13]), (24, .int .i64 x_13)]) (by simp) (by kernel_rfl) ⟨LGet.of hx_12 rfl, LGet.of hx_13 rfl, trivial⟩ (by kernel_rfl) ?_
            exact DrO.nil rfl
          · dsimp only [List.getLastD_cons, List.getLastD_nil]
            refine runH 1 [] [0, 1, 5, 25] [] (mkS 26 [(0, .sl (a_1.map (AV.int .i64)) none), (1, .sl (b_2.map (AV.int .i64)) none), (5, .int .i64 i_7), (25, .bool (x_12 != x_13))]) (⟨[], []⟩) (by kernel_rfl) trivial ?_
            refine ExO.nil ?_
            rcases condI h with ⟨hc_14, h⟩ | ⟨hc_14, h⟩
            · refine Ex.condT _ rfl hc_14 ?_
              refine Ex.seq ?_
              refine regH 1 [] [4] [] (mkS 26 [(4, .bool false)]) (⟨[], []⟩) (by kernel_rfl) trivial rfl ?_
              refine Ex.ret ?_
              obtain rfl := Option.some.inj h
              exact ⟨.inr rfl, .bool false, by kernel_rfl, by kernel_rfl, by kernel_rfl, by kernel_rfl⟩
            · refine Ex.condF _ rfl hc_14 ?_
              refine Ex.skip ?_
              refine regH 3 [] [0, 1, 5] [] (mkS 26 [(0, .sl (a_1.map (AV.int .i64)) none), (1, .sl (b_2.map (AV.int .i64)) none), (5, .int .i64 (IntKind.i64.wrap (i_7 + 1)))]) (⟨[], []⟩) (by kernel_rfl) trivial rfl ?_
              dsimp only
              exact ⟨_, _, Forgets.refl _ _ _, k, Nat.lt_succ_self k, (IntKind.i64.wrap (i_7 + 1)), h, rfl, rfl⟩
        · refine Ex.condF _ rfl hc_11 ?_
          refine Ex.exit ?_
          (try simp only [reduceCtorEq, AEx.ex.injEq, Nat.reduceEqDiff, if_true, if_false])
          exact ⟨_, _, forgetK [], h, rfl, rfl⟩
    · rintro a S ⟨h, rfl, rfl⟩
      subst hK_6
      refine Ex.seq ?_
      refine regH 1 [] [4] [] (mkS 26 [(4, .bool true)]) (⟨[], []⟩) (by kernel_rfl) trivial rfl ?_
      refine Ex.ret ?_
      obtain rfl := Option.some.inj h
      exact ⟨.inr rfl, .bool true, by kernel_rfl, by kernel_rfl, by kernel_rfl, by kernel_rfl⟩
def p_bk_EqLists (N : Nat) (a_1 : (List (List Int))) (b_2 : (List (List Int))) : Option (Bool) := (bif (((a_1.length : Nat) : Int) != ((b_2.length : Nat) : Int)) then some false else (letJ (fun (_ : Unit) => some true) (fun k_4 => (loop1 (fun rec_8 (i_7 : Int) => (bif (decide (i_7 < ((a_1.length : Nat) : Int))) then ((getI a_1 i_7).bind fun x_12 => ((getI b_2 i_7).bind fun x_13 => ((p_bk_EqInts N x_12 x_13).bind fun r_14 => (bif (!r_14) then some false else (rec_8 (IntKind.i64.wrap (i_7 + 1))))))) else (k_4 ()))) N 0))))
def v_bk_EqLists (r : Bool) : AV := .bool r
attribute [local simp] v_bk_EqLists
theorem a_bk_EqLists (a_1 : (List (List Int))) (b_2 : (List (List Int))) : [.sl (a_1.map (SV (AV.int .i64))) none, .sl (b_2.map (SV (AV.int .i64))) none].mapM (ren []) = some [.sl (a_1.map (SV (AV.int .i64))) none, .sl (b_2.map (SV (AV.int .i64))) none] := by simp
theorem b_bk_EqLists (r : Bool) (n n2 m : Nat) : back n n2 m (v_bk_EqLists r) = some (v_bk_EqLists r) := by simp
theorem d_bk_EqLists (N : Nat) (a_1 : (List (List Int))) (b_2 : (List (List Int))) (r : Bool) (h : p_bk_EqLists N a_1 b_2 = some r) : Does Try.prog 28 [.sl (a_1.map (SV (AV.int .i64))) none, .sl (b_2.map (SV (AV.int .i64))) none] [] fun v c => v = v_bk_EqLists r ∧ c = [] := by
  unfold p_bk_EqLists at h
  refine Does.ofL comp28 _ _ rfl rfl ?_
  refine Ex.seq ?_
  refine regH 1 [] [0, 1] [] (mkS 27 [(0, .sl (a_1.map (SV (AV.int .i64))) none), (1, .sl (b_2.map (SV (AV.int .i64))) none)]) (⟨[], []⟩) (by kernel_rfl) trivial rfl ?_
  refine Ex.seq ?_
  refine Ex.seq ?_
  refine regH 5 [(1, .eq (.int .i64 ((a_1.length : Nat) : Int))), (3, .eq (.int .i64 ((b_2.length : Nat) : Int)))] [0, 1, 10] [AV.int .i64 (((a_1.map (SV (AV.int .i64))).length : Nat) : Int) = AV.int .i64 ((a_1.length : Nat) : Int), AV.int .i64 (((b_2.map (SV (AV.int .i64))).length : Nat) : Int) = AV.int .i64 ((b_2.length : Nat) : Int)] (mkS 27 [(0, .sl (a_1.map (SV (AV.int .i64))) none), (1, .sl (b_2.map (SV (AV.int .i64))) none), (10, .bool (((a_1.length : Nat) : Int) != ((b_2.length : Nat) : Int)))]) (⟨[], []⟩) (by kernel_rfl) ⟨lenM _ _, lenM _ _, trivial⟩ rfl ?_
  rcases condI h with ⟨hc_3, h⟩ | ⟨hc_3, h⟩
  · refine Ex.condT _ rfl hc_3 ?_
    refine Ex.seq ?_
    refine regH 1 [] [4] [] (mkS 27 [(4, .bool false)]) (⟨[], []⟩) (by kernel_rfl) trivial rfl ?_
    refine Ex.ret ?_
    obtain rfl := Option.some.inj h
    exact ⟨.inr rfl, .bool false, by kernel_rfl, by kernel_rfl, by kernel_rfl, by kernel_rfl⟩
  · refine Ex.condF _ rfl hc_3 ?_
    refine Ex.skip ?_
    refine Ex.seq ?_
    refine Ex.seq ?_
    refine regH 1 [] [0, 1, 5] [] (mkS 27 [(0, .sl (a_1.map (SV (AV.int .i64))) none), (1, .sl (b_2.map (SV (AV.int .i64))) none), (5, .int .i64 0)]) (⟨[], []⟩) (by kernel_rfl) trivial rfl ?_
    obtain ⟨K_5, hK_6, h⟩ := letE h
    refine Ex.blockJ (fun a S => K_5 () = some r ∧ a = mkS 27 [] ∧ S = ⟨[], []⟩) ?_ ?_
    · obtain ⟨B_9, hB_10, h⟩ := loop1I h
      refine Ex.loopF (fun k a S => ∃ (i_7 : Int), loop1 B_9 k i_7 = some r ∧ a = mkS 27 [(0, .sl (a_1.map (SV (AV.int .i64))) none), (1, .sl (b_2.map (SV (AV.int .i64))) none), (5, .int .i64 i_7)] ∧ S = ⟨[], []⟩) N ⟨_, _, Forgets.refl _ _ _, 0, h, rfl, rfl⟩ ?_
      rintro k a S ⟨i_7, h, rfl, rfl⟩
      cases k with
      | zero => exact (loop1Z h).elim
      | succ k =>
        replace h := loop1S h hB_10
        refine Ex.seq ?_
        refine Ex.seq ?_
        refine regH 4 [(2, .eq (.int .i64 ((a_1.length : Nat) : Int)))] [0, 1, 5, 14] [AV.int .i64 (((a_1.map (SV (AV.int .i64))).length : Nat) : Int) = AV.int .i64 ((a_1.length : Nat) : Int)] (mkS 27 [(0, .sl (a_1.map (SV (AV.int .i64))) none), (1, .sl (b_2.map (SV (AV.int .i64))) none), (5, .int .i64 i_7), (14, .bool (decide (i_7 < ((a_1.length : Nat) : Int))))]) (⟨[], []⟩) (by kernel_rfl) ⟨lenM _ _, trivial⟩ rfl ?_
        rcases condI h with ⟨hc_11, h⟩ | ⟨hc_11, h⟩
        · refine Ex.condT _ rfl hc_11 ?_
          refine Ex.skip ?_
          refine Ex.seq ?_
          refine Ex.blockK ?_
          refine Ex.seq ?_
          obtain ⟨x_12, hx_12, h⟩ := Option.bind_eq_some_iff.1 h
          obtain ⟨x_13, hx_13, h⟩ := Option.bind_eq_some_iff.1 h
          refine Ex.drawE (a1 := mkS 27 [(0, .sl (a_1.map (SV (AV.int .i64))) none), (1, .sl (b_2.map (SV (AV.int .i64))) none), (5, .int .i64 i_7), (14, .bool (decide (i_7 < ((a_1.length : Nat) : Int)))), (17, .sl (a_1.map (SV (AV.int .i64))) none), (18, .int .i64 i_7), (19, .rop [.sl (x_12.map (AV.int .i64)) none]), (20, .sl (x_12.map (AV.int .i64)) none), (21, .sl (b_2.map (SV (AV.int .i64))) none), (22, .int .i64 i_7), (23, .rop [.sl (x_13.map (AV.int .i64)) none]), (24, .sl (x_13.map (AV.int .i64)) none)]) (noClr_ok _) [] [] [] ?_ ?_
          · refine drS [] 8 [(2, .rop [.sl (x_12.map (AV.int .i64)) none]), (6, .rop [.sl (x_13.map (AV.int .i64)) none])] [LGet (a_1.map (SV (AV.int .i64))) i_7 1 [.sl (x_12.map (AV.int .i64)) none], LGet (b_2.map (SV (AV.int .i64))) i_7 1 [.sl (x_13.map (AV.int .i64)) none]] (mkS 27 [(0, .sl (a_1.map (SV (AV.int .i64))) none), (1, .sl (b_2.map (SV (AV.int .i64))) none), (5, .int .i64 i_7), (14, .bool (decide (i_7 < ((a_1.length : Nat) : Int)))), (17, .sl (a_1.map (SV (AV.int .i64))) none), (18, .int .i64 i_7), (19, .rop [.sl (x_12.map (AV.int .i64)) none]), (20, .sl (x_12.map (AV.int .i64)) none), (21, .sl (b_2.map (SV (AV.int .i64))) none), (22, .int .i64 i_7), (23, .rop [.sl (x_13.map (AV.int .i64)) none]), (24, .sl (x_13.map (AV.int .i64)) none)]) (by simp) (by kernel_rfl) ⟨LGet.of hx_12 rfl, LGet.of hx_13 rfl, trivial⟩ (by kernel_rfl) ?_
            exact DrO.nil rfl
          · dsimp only [List.getLastD_cons, List.getLastD_nil]
            obtain ⟨r_14, hr_14, h⟩ := Option.bind_eq_some_iff.1 h
            refine ExO.callL [] [.sl (x_12.map (AV.int .i64)) none, .sl (x_13.map (AV.int .i64)) none] rfl rfl (a_bk_EqInts x_12 x_13) rfl rfl (d_bk_EqInts N x_12 x_13 r_14 hr_14) (b_bk_EqInts _ _ _ _) rfl ?_
            refine runH 1 [] [0, 1, 5, 26] [] (mkS 27 [(0, .sl (a_1.map (SV (AV.int .i64))) none), (1, .sl (b_2.map (SV (AV.int .i64))) none), (5, .int .i64 i_7), (26, .bool (!r_14))]) (⟨[], []⟩) (by kernel_rfl) trivial ?_
            refine ExO.nil ?_
            rcases condI h with ⟨hc_15, h⟩ | ⟨hc_15, h⟩
            · refine Ex.condT _ rfl hc_15 ?_
              refine Ex.seq ?_
              refine regH 1 [] [4] [] (mkS 27 [(4, .bool false)]) (⟨[], []⟩) (by kernel_rfl) trivial rfl ?_
              refine Ex.ret ?_
              obtain rfl := Option.some.inj h
              exact ⟨.inr rfl, .bool false, by kernel_rfl, by kernel_rfl, by kernel_rfl, by kernel_rfl⟩
            · refine Ex.condF _ rfl hc_15 ?_
              refine Ex.skip ?_
              refine regH 3 [] [0, 1, 5] [] (mkS 27 [(0, .sl (a_1.map (SV (AV.int .i64))) none), (1, .sl (b_2.map (SV (AV.int .i64))) none), (5, .int .i64 (IntKind.i64.wrap (i_7 + 1)))]) (⟨[], []⟩) (by kernel_rfl) trivial rfl ?_
              dsimp only
              exact ⟨_, _, Forgets.refl _ _ _, k, Nat.lt_succ_self k, (IntKind.i64.wrap (i_7 + 1)), h, rfl, rfl⟩
        · refine Ex.condF _ rfl hc_11 ?_
          refine Ex.exit ?_
          (try simp only [reduceCtorEq, AEx.ex.injEq, Nat.reduceEqDiff, if_true, if_false])
          exact ⟨_, _, forgetK [], h, rfl, rfl⟩
    · rintro a S ⟨h, rfl, rfl⟩
      subst hK_6
      refine Ex.seq ?_
      refine regH 1 [] [4] [] (mkS 27 [(4, .bool true)]) (⟨[], []⟩) (by kernel_rfl) trivial rfl ?_
      refine Ex.ret ?_
      obtain rfl := Option.some.inj h
      exact ⟨.inr rfl, .bool true, by kernel_rfl, by kernel_rfl, by kernel_rfl, by kernel_rfl⟩
def v_bk_EqLedgers (r : Bool) : AV := .bool r
attribute [local simp] v_bk_EqLedgers
def v_bk_Lists (r : (List (List Int))) : AV := .sl (r.map (SV (AV.int .i64))) none
attribute [local simp] v_bk_Lists
def p_bk_Sum (N : Nat) (l_1 : (List Int)) : Option (Int) := (letJ (fun (n_2 : Int) => some n_2) (fun k_3 => (loop2 (fun rec_8 (n_6 : Int) (i_7 : Int) => (bif (decide (i_7 < ((l_1.length : Nat) : Int))) then ((getI l_1 i_7).bind fun x_12 => (rec_8 (IntKind.i64.wrap (n_6 + x_12)) (IntKind.i64.wrap (i_7 + 1)))) else (k_3 n_6))) N 0 0)))
def v_bk_Sum (r : Int) : AV := .int .i64 r
attribute [local simp] v_bk_Sum
theorem b_bk_Sum (r : Int) (n n2 m : Nat) : back n n2 m (v_bk_Sum r) = some (v_bk_Sum r) := by simp
theorem d_bk_Sum (N : Nat) (l_1 : (List Int)) (r : Int) (h : p_bk_Sum N l_1 = some r) : Does Try.prog 37 [.sl (l_1.map (AV.int .i64)) none] [] fun v c => v = v_bk_Sum r ∧ c = [] := by
  unfold p_bk_Sum at h
  refine Does.ofL comp37 _ _ rfl rfl ?_
  refine Ex.seq ?_
  refine regH 1 [] [0] [] (mkS 18 [(0, .sl (l_1.map (AV.int .i64)) none)]) (⟨[], []⟩) (by kernel_rfl) trivial rfl ?_
  refine Ex.seq ?_
  refine regH 1 [] [0, 3] [] (mkS 18 [(0, .sl (l_1.map (AV.int .i64)) none), (3, .int .i64 0)]) (⟨[], []⟩) (by kernel_rfl) trivial rfl ?_
  refine Ex.seq ?_
  refine Ex.seq ?_
  refine regH 1 [] [0, 3, 4] [] (mkS 18 [(0, .sl (l_1.map (AV.int .i64)) none), (3, .int .i64 0), (4, .int .i64 0)]) (⟨[], []⟩) (by kernel_rfl) trivial rfl ?_
  obtain ⟨K_4, hK_5, h⟩ := letE h
  refine Ex.blockJ (fun a S => ∃ (n_2 : Int), K_4 n_2 = some r ∧ a = mkS 18 [(3, .int .i64 n_2)] ∧ S = ⟨[], []⟩) ?_ ?_
  · obtain ⟨B_9, hB_10, h⟩ := loop2I h
    refine Ex.loopF (fun k a S => ∃ (n_6 : Int), ∃ (i_7 : Int), loop2 B_9 k n_6 i_7 = some r ∧ a = mkS 18 [(0, .sl (l_1.map (AV.int .i64)) none), (3, .int .i64 n_6), (4, .int .i64 i_7)] ∧ S = ⟨[], []⟩) N ⟨_, _, Forgets.refl _ _ _, 0, 0, h, rfl, rfl⟩ ?_
    rintro k a S ⟨n_6, i_7, h, rfl, rfl⟩
    cases k with
    | zero => exact (loop2Z h).elim
    | succ k =>
      replace h := loop2S h hB_10
      refine Ex.seq ?_
      refine Ex.seq ?_
      refine regH 4 [(2, .eq (.int .i64 ((l_1.length : Nat) : Int)))] [0, 3, 4, 8] [AV.int .i64 (((l_1.map (AV.int .i64)).length : Nat) : Int) = AV.int .i64 ((l_1.length : Nat) : Int)] (mkS 18 [(0, .sl (l_1.map (AV.int .i64)) none), (3, .int .i64 n_6), (4, .int .i64 i_7), (8, .bool (decide (i_7 < ((l_1.length : Nat) : Int))))]) (⟨[], []⟩) (by kernel_rfl) ⟨lenM _ _, trivial⟩ rfl ?_
      rcases condI h with ⟨hc_11, h⟩ | ⟨hc_11, h⟩
      · refine Ex.condT _ rfl hc_11 ?_
        refine Ex.skip ?_
        refine Ex.seq ?_
        refine Ex.blockK ?_
        obtain ⟨x_12, hx_12, h⟩ := Option.bind_eq_some_iff.1 h
        refine regH 7 [(3, .rop [.int .i64 x_12])] [0, 3, 4] [LGet (l_1.map (AV.int .i64)) i_7 1 [.int .i64 x_12]] (mkS 18 [(0, .sl (l_1.map (AV.int .i64)) none), (3, .int .i64 (IntKind.i64.wrap (n_6 + x_12))), (4, .int .i64 i_7)]) (⟨[], []⟩) (by kernel_rfl) ⟨LGet.of hx_12 rfl, trivial⟩ rfl ?_
        refine regH 3 [] [0, 3, 4] [] (mkS 18 [(0, .sl (l_1.map (AV.int .i64)) none), (3, .int .i64 (IntKind.i64.wrap (n_6 + x_12))), (4, .int .i64 (IntKind.i64.wrap (i_7 + 1)))]) (⟨[], []⟩) (by kernel_rfl) trivial rfl ?_
        dsimp only
        exact ⟨_, _, Forgets.refl _ _ _, k, Nat.lt_succ_self k, (IntKind.i64.wrap (n_6 + x_12)), (IntKind.i64.wrap (i_7 + 1)), h, rfl, rfl⟩
      · refine Ex.condF _ rfl hc_11 ?_
        refine Ex.exit ?_
        (try simp only [reduceCtorEq, AEx.ex.injEq, Nat.reduceEqDiff, if_true, if_false])
        exact ⟨_, _, forgetK [3], n_6, h, rfl, rfl⟩
  · rintro a S ⟨n_2, h, rfl, rfl⟩
    subst hK_5
    refine Ex.seq ?_
    refine regH 2 [] [2] [] (mkS 18 [(2, .int .i64 n_2)]) (⟨[], []⟩) (by kernel_rfl) trivial rfl ?_
    refine Ex.ret ?_
    obtain rfl := Option.some.inj h
    exact ⟨.inr rfl, .int .i64 n_2, by kernel_rfl, by kernel_rfl, by kernel_rfl, by kernel_rfl⟩
end Go.Proofs.Ytkpihepaaiofgaa
end
