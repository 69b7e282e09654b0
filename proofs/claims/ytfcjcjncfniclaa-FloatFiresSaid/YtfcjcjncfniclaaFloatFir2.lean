/- Part 3 of what the law needs: own work, put together. -/
import Derived.Test.YtfcjcjncfniclaaProg
import Derived.KernelRfl
import Derived.Test.YtfcjcjncfniclaaFloatFir1
section
namespace Go.Proofs.Ytfcjcjncfniclaa
open Go.RowKit
set_option linter.unusedVariables false
set_option linter.unusedSimpArgs false

theorem compFn_inv {P : Program} {f : FuncId} {F : AFn} (hF : compFn P f = some F) : ∃ fn c, P.funcs[f]? = some fn ∧ fn.body = some c ∧ fn.results.toList.mapM (compRes P) = some F.res ∧ compCode P c = some F.code ∧ F.ntmps = fn.ntmps ∧ ∀ us w, (callFunc f us).run P w = .ok (.enter f us) w := by
  unfold compFn at hF
  split at hF
  · rename_i fn hf
    split at hF
    · rename_i c rs hb hrs
      split at hF
      · rename_i ac hac
        split at hF
        · cases hF
        · rename_i hname
          cases hF
          refine ⟨fn, c, hf, hb, hrs, hac, rfl, fun us w => ?_⟩
          simp only [callFunc, program, Sem.run, hf, Sem.run_bind, Result.andThen_ok, hname, hb]
          rfl
      · cases hF
    · cases hF
  · cases hF
theorem start_rel {G : Gh} {F : AFn} {xs : List AV} {us : Array Value} {n : Nat} (hn : F.ntmps = n) (hvs : VRs G xs us) : Rel G (start F xs) { tmps := us ++ Array.replicate (n - us.size) undef, defers := [] } := by
  subst hn
  refine ⟨by simp [start, hvs.1], fun i y u hy hu => ?_⟩
  simp only [start] at hy
  simp only at hu
  rw [List.getElem?_append] at hy
  rw [Array.getElem?_append, hvs.1] at hu
  split at hy
  · rename_i hlt
    rw [if_pos hlt] at hu
    exact hvs.2 i y u hy hu
  · rename_i hlt
    rw [if_neg hlt] at hu
    have e1 := List.eq_of_mem_replicate (List.mem_of_getElem? hy)
    have e2 : u ∈ (Array.replicate (F.ntmps - xs.length) undef) := Array.mem_of_getElem? hu
    have e3 := (Array.mem_replicate.1 e2).2
    rw [e1, e3]
    exact .undef G

def exitOf : Nat → AEx
  | 0 => .norm
  | 1 => .ret
  | i + 2 => .ex i
theorem jump_wpIn {F : Fence} {n : Nat} {P : Program} {Q : Exit → Act → World → Prop} {a : Act} {w : World} (k : Nat) (h : Q (exitOf (k + 1)).out a w) : (jumpOf k).wpIn F n P Q a w := by
  cases k with
  | zero => exact wpIn_ret h
  | succ i => exact wpIn_exit h

section rules
variable {c : Cx} {md : Md} {P : Program} {a : List AV} {S : St} {Q : AEx → List AV → St → Prop} {R : List AV → St → Prop}

theorem Ex.rangeF {g : AOpd} {ps : List Nat} {x y : ACode} (f : FuncId) (caps : List AV) (F : AFn) (hg0 : evd a g = .fn f [] caps) (hF : compFn P f = some F) (hres : F.res = []) (hn : c.n ≤ S.bx.length) (hmd : match md with | .plain => True | .round l _ => ∃ L, Fact.bz L ∈ c.fs ∧ L.l = l)
    (h : ∀ (c1 : Cx) (L : Lp), c1.n = S.bx.length → c1.m = S.lv.length + 1 → L.t = S.lv.length → LpOk P c1 L a ps x y → (∀ L' a' ps' x' y', LpOk P c L' a' ps' x' y' → L'.l ≠ L.l ∧ LpOk P c1 L' a' ps' x' y') →
      Ex c1 .plain P F.code (start F (.yld L.l S.lv.length :: caps)) ⟨S.bx, S.lv ++ [(0, 0)]⟩ fun z a' S' => (z = .norm ∨ z = .ret) ∧ ∃ k, S'.lv[S.lv.length]? = some (k, 0) ∧ Q (exitOf k) a S') : Ex c md P (.rangeF g ps x y) a S Q := by
  intro E hE code hco act w hA
  subst hE
  obtain ⟨g', ps', x', y', rfl, hg', hps, hx, hy⟩ := compCode_rangeF hco
  obtain ⟨G, hI, hR, hgr, hk, hd⟩ := hA
  have hv := hR.opd g' g hg'
  rw [hg0] at hv
  obtain ⟨vs, us, hval, hvp, hvc⟩ := hv.inv_fn
  have hvs0 : vs = #[] := Array.eq_empty_of_size_eq_zero hvp.1
  subst hvs0
  obtain ⟨fn, c1, hf, hb, hrs, hac, hnt, hen⟩ := compFn_inv hF
  refine cwp_of_in (wpIn_rangeFunc ?_)
  intro fn0 hfn0
  obtain ⟨l, mk, dD, W1, hent, hrec, hwl, hI1, hg1, hmk⟩ : ∃ (l : Nat) (mk : List Nat) (dD : Nat) (W1 : World), (Instr.enterLoop fn0 act.tmps ps' x' y' md.F.round).run P w = .ok (l, mk.map markOf) W1 ∧ W1.heap[l]? = some (.loop { state := .ready, pending := none, fn := fn0, tmps := act.tmps, params := ps', assign := x', body := y', defers := dD }) ∧ w.heap.size ≤ l ∧ Inv G S W1 ∧ Gro G S w G S W1 ∧ (mk.Nodup ∧ ∀ D ∈ mk, w.heap.size ≤ D ∧ W1.heap[D]? = some (.deferred (some []))) := by
    cases md with
    | plain =>
      refine ⟨w.heap.size + 1, [w.heap.size], w.heap.size, _, run_enterLoop_outer fn0 act.tmps ps' x' y', ?_, by omega, (hI.allocO _).allocO _, (Gro.allocO G S w _).trans (Gro.allocO G S _ _), by simp, fun D hD => ?_⟩
      · have := World.alloc_heap_new (w.alloc (.deferred (some []))) (.loop { state := .ready, pending := none, fn := fn0, tmps := act.tmps, params := ps', assign := x', body := y', defers := w.heap.size })
        rwa [World.size_alloc] at this
      · have hD : D = w.heap.size := by simpa using hD
        subst hD
        exact ⟨Nat.le_refl _, (Below.heap_alloc _ _ _ (by simp)).trans (World.alloc_heap_new w _)⟩
    | round l0 n0 =>
      obtain ⟨L0, hL0, rfl⟩ := hmd
      obtain ⟨_, _, hbz⟩ := hd.x _ hL0
      exact ⟨w.heap.size, [], _, _, run_enterLoop_inner hbz fn0 act.tmps ps' x' y', World.alloc_heap_new w _, Nat.le_refl _, hI.allocO _, Gro.allocO G S w _, .nil, fun D hD => by cases hD⟩
  obtain ⟨r, hr⟩ : ∃ r : Loop, r = { state := .ready, pending := none, fn := fn0, tmps := act.tmps, params := ps', assign := x', body := y', defers := dD } := ⟨_, rfl⟩
  rw [← hr] at hrec
  have hlW : l < W1.heap.size := (Array.getElem?_eq_some_iff.1 hrec).1
  have hrt : r.tmps = act.tmps := by rw [hr]
  let L : Lp := ⟨l, S.lv.length, r⟩
  have hobj0 : L.obj 0 = .loop r := by rw [hr]; show Obj.loop _ = _; simp only [L, hr]
  have hdW : DefOk E.b W1.heap.size E.d (mk.map markOf ++ act.defers) W1 := by
    obtain ⟨Ds, h1, h2, h3⟩ := (hd.d.oth hg1.oth)
    refine ⟨mk ++ Ds, by rw [h1, List.map_append, List.append_assoc], List.nodup_append.2 ⟨hmk.1, h2, fun D hD D' hD' e => ?_⟩, fun D hD => ?_⟩
    · subst e
      have := (hmk.2 D hD).1
      have := (h3 D hD').1.2
      omega
    · rcases List.mem_append.1 hD with hD | hD
      · exact ⟨⟨Nat.le_trans hd.b (hmk.2 D hD).1, (Array.getElem?_eq_some_iff.1 (hmk.2 D hD).2).1⟩, (hmk.2 D hD).2⟩
      · exact ⟨⟨(h3 D hD).1.1, Nat.lt_of_lt_of_le (h3 D hD).1.2 hg1.size⟩, (h3 D hD).2⟩
  have hbel : ∀ f' ∈ E.c.fs, f'.below l := fun f' hf' => (E.c.hk f' hf').mono (Nat.le_trans hd.k hwl)
  let cc : Cx := ⟨S.bx.length, S.lv.length + 1, W1.heap.size, .le G S.bx.length S.lv.length :: .df E.b W1.heap.size E.d (mk.map markOf ++ act.defers) :: .lp L :: E.c.fs, fun f' hf' => (by
    rcases List.mem_cons.1 hf' with rfl | hf'
    · exact ⟨Nat.le_refl _, Nat.le_succ _⟩
    rcases List.mem_cons.1 hf' with rfl | hf'
    · trivial
    rcases List.mem_cons.1 hf' with rfl | hf'
    · exact Nat.lt_succ_self _
    · exact (E.c.hw f' hf').mono hn (Nat.le_succ_of_le hd.m)), fun f' hf' => (by
    rcases List.mem_cons.1 hf' with rfl | hf'
    · trivial
    rcases List.mem_cons.1 hf' with rfl | hf'
    · exact Nat.le_refl _
    rcases List.mem_cons.1 hf' with rfl | hf'
    · exact hlW
    · exact (hbel f' hf').mono (Nat.le_of_lt hlW))⟩
  have hfree : ∀ f' ∈ E.c.fs, f'.free l S.lv.length := fun f' hf' => by
    have h1 := hbel f' hf'
    have h2 := E.c.hw f' hf'
    have h3 := hd.m
    cases f' with
    | lp L' => exact ⟨Nat.ne_of_lt h1, Nat.ne_of_lt (Nat.lt_of_lt_of_le h2 h3)⟩
    | bz L' => exact ⟨Nat.ne_of_lt h1, Nat.ne_of_lt (Nat.lt_of_lt_of_le h2 h3)⟩
    | _ => trivial
  have hLok : LpOk P cc L a ps x y := by
    refine ⟨⟨[.le G S.bx.length S.lv.length, .df E.b W1.heap.size E.d (mk.map markOf ++ act.defers)], E.c.fs, rfl, fun f' hf' => ?_⟩, ⟨G, S.bx.length, S.lv.length, List.mem_cons_self .., by show r.tmps.size = _; rw [hrt]; exact hR.size, fun i z u hz hu => ?_⟩, by show r.params.toList = ps; rw [hr]; exact hps, by show compCode P r.assign = _; rw [hr]; exact hx, by show compCode P r.body = _; rw [hr]; exact hy⟩
    · rcases List.mem_append.1 hf' with hf' | hf'
      · simp only [List.mem_cons, List.not_mem_nil, or_false] at hf'
        rcases hf' with rfl | rfl <;> trivial
      · exact hfree f' hf'
    · have hu : r.tmps[i]? = some u := hu
      rw [hrt] at hu
      exact hR.slot i z u hz hu
  have hup : ∀ L' a' ps' x' y', LpOk P E.c L' a' ps' x' y' → L'.l ≠ L.l ∧ LpOk P cc L' a' ps' x' y' := by
    intro L' a' ps' x' y' hL'
    obtain ⟨g1, g2, hgs, hgf⟩ := hL'.fs
    obtain ⟨G', n', m', hle', h3, h4⟩ := hL'.rel
    have hin : Fact.lp L' ∈ E.c.fs := by rw [hgs]; simp
    have hfr := hfree _ hin
    refine ⟨hfr.1, ⟨.le G S.bx.length S.lv.length :: .df E.b W1.heap.size E.d (mk.map markOf ++ act.defers) :: .lp L :: g1, g2, by show _ :: _ :: _ :: E.c.fs = _; rw [hgs]; rfl, fun f' hf' => ?_⟩, ⟨G', n', m', List.mem_cons_of_mem _ (List.mem_cons_of_mem _ (List.mem_cons_of_mem _ hle')), h3, h4⟩, hL'.ps, hL'.x, hL'.y⟩
    rcases List.mem_cons.1 hf' with rfl | hf'
    · trivial
    rcases List.mem_cons.1 hf' with rfl | hf'
    · trivial
    rcases List.mem_cons.1 hf' with rfl | hf'
    · exact ⟨fun e => hfr.1 e.symm, fun e => hfr.2 e.symm⟩
    · exact hgf f' hf'
  have hEx := h cc L rfl rfl rfl hLok hup
  let E1 : Ent := ⟨E.G, E.S, E.w, [], E.inv, E.lv, cc, hk.bl, fun f' hf' => (by
    rcases List.mem_cons.1 hf' with rfl | hf'
    · trivial
    rcases List.mem_cons.1 hf' with rfl | hf'
    · trivial
    rcases List.mem_cons.1 hf' with rfl | hf'
    · exact Nat.le_trans hgr.size hwl
    · exact E.hW f' hf'), W1.heap.size, Nat.le_trans hgr.size hg1.size⟩
  obtain ⟨k1, k2, k3, k4⟩ := add_ahead hI1 [] [(0, 0)]
  rw [List.append_nil] at k1 k2
  have hvrs : VRs G (.yld l S.lv.length :: caps) (#[.func (.yield l) #[] #[]] ++ us) := by
    refine ⟨by simp [hvc.1]; omega, fun i z u hz hu => ?_⟩
    cases i with
    | zero =>
      rw [Array.getElem?_append_left (by simp)] at hu
      simp at hz hu
      subst hz; subst hu
      exact .yld _ _
    | succ i =>
      rw [Array.getElem?_append_right (by simp)] at hu
      exact hvc.2 i z u (by simpa using hz) (by simpa using hu)
  have hA1 : At E1 (start F (.yld l S.lv.length :: caps)) ⟨S.bx, S.lv ++ [(0, 0)]⟩ { tmps := (#[Value.func (.yield l) #[] #[]] ++ us) ++ Array.replicate (fn.ntmps - (#[Value.func (.yield l) #[] #[]] ++ us).size) undef, defers := [] } W1 := by
    refine ⟨G, k1, start_rel hnt hvrs, (hgr.trans hg1).trans k2, ⟨hk.bl, by rw [show E1.S = E.S from rfl, E.lv]; exact Nat.zero_le _, hk.al, hk.tb, fun t ht => absurd ht (E.tb0 t)⟩, ⟨⟨[], rfl, .nil, fun _ h => (by cases h)⟩, fun f' hf' => ?_, by show S.lv.length + 1 ≤ _; simp, Nat.le_refl _, Nat.le_refl _⟩⟩
    rcases List.mem_cons.1 hf' with rfl | hf'
    · exact ⟨.refl G, fun b B h => (hI.dal b B h).1, fun t k v h => by
        obtain ⟨m, s, h1, _⟩ := hI.dtb t k v h
        exact (List.getElem?_eq_some_iff.1 h1).1⟩
    rcases List.mem_cons.1 hf' with rfl | hf'
    · exact hdW
    rcases List.mem_cons.1 hf' with rfl | hf'
    · exact ⟨fun n => k4 _ n (Nat.le_refl _), 0, (by show (S.lv ++ [(0, 0)])[S.lv.length]? = some (0, 0); simp), by rw [hobj0]; exact hrec⟩
    · exact Fact.step (Fact.step (hd.x f' hf') hg1 (.refl G S)) k2 ⟨Nat.le_refl _, by simp, fun _ _ h => h, fun _ _ h => h, fun t ht _ => List.getElem?_append_left ht⟩
  refine ⟨l, mk.map markOf, W1, { target := .fn (.func f) us, args := #[.func (.yield l) #[] #[]] }, W1, f, #[.func (.yield l) #[] #[]] ++ us, W1, hent, ?_, fun f' _ => md.fn f', ?_, fun hdp => md.depth hdp, ?_⟩
  · simp only [resolve, hval]
    simp [go_sem]
  · simp [invoke, go_sem, hen]
  refine callsIn_md md (calls_of_marks hf hb (wp_mono (hEx E1 rfl c1 hac _ W1 hA1) ?_))
  rintro e act' w' ⟨z, a', S', rfl, ⟨hz, k, hk1, hq⟩, G', hI', hR', hg', hk', hd'⟩
  have hfs : ∀ f' ∈ cc.fs, f'.ok G' S' w' := hd'.x
  obtain ⟨Ds, e1, e2, e3⟩ := hd'.d
  have e1 : act'.defers = Ds.map markOf := by rw [e1]; exact List.append_nil _
  have hI2 := hI'.shut e2 fun D hD => (e3 D hD).2
  have hg2 := hg'.shut fun D hD => Nat.le_trans E1.hb (e3 D hD).1.1
  have hrs0 : evRes a' S' F.res = some (.tup []) := by rw [hres]; rfl
  obtain ⟨u, hu, _⟩ := res_ok hI2 hR' hrs hrs0
  refine ⟨by rcases hz with rfl | rfl <;> simp [AEx.out], Ds, e1, e2, fun D hD => (e3 D hD).2, u, hu, ?_⟩
  -- the loop's end
  obtain ⟨hn3, k', hk2, hk3⟩ := hfs (.lp L) (by show _ ∈ _ :: _ :: _ :: E.c.fs; simp)
  have hk2 : S'.lv[S.lv.length]? = some (k', 0) := hk2
  rw [hk1] at hk2
  cases hk2
  have hlD : l ∉ Ds := fun hm => by
    have h1 := (e3 l hm).2
    have h2 : w'.heap[l]? = some (L.obj k) := hk3
    rw [h1] at h2
    cases k <;> cases h2
  have hk3' : (shutW w' Ds).heap[l]? = some (L.obj k) := (shut_heap.2.2.2.2 l hlD).trans hk3
  have hle : G.le G' := (hfs _ (List.mem_cons_self ..)).1
  have hdf : DefOk E.b W1.heap.size E.d (mk.map markOf ++ act.defers) w' := hfs _ (List.mem_cons_of_mem _ (List.mem_cons_self ..))
  have hsz2 : (shutW w' Ds).heap.size = w'.heap.size := shut_heap.1
  have hW1w : W1.heap.size ≤ w'.heap.size := hd'.b
  have fin : ∀ (o' o : Obj) (r' : Loop), o = .loop r' → (shutW w' Ds).heap[l]? = some o → At E a S' { act with defers := mk.map markOf ++ act.defers } ((shutW w' Ds).putObj l o') := by
    rintro o' o r' rfl ho
    refine ⟨G', hI2.putObj _ ho rfl, ⟨hR.size, fun i y u h1 h2 => (hR.slot i y u h1 h2).mono hle⟩, hg2.putObj _ (Nat.le_trans hgr.size hwl), ⟨hk'.bl, by rw [E.lv]; exact Nat.zero_le _, hk'.al, hk'.tb, fun t ht => absurd ht (E.tb0 t)⟩, ⟨?_, fun f' hf' => ?_, ?_, ?_, ?_⟩⟩
    · obtain ⟨Dc, d1, d2, d3⟩ := hdf
      refine ⟨Dc, d1, d2, fun D hD => ⟨⟨(d3 D hD).1.1, ?_⟩, ?_⟩⟩
      · have := (d3 D hD).1.2
        simp only [World.putObj, Array.size_setIfInBounds, hsz2]
        omega
      · have h4 := (d3 D hD).2
        have hnD : D ∉ Ds := fun hm => by
          have := (d3 D hD).1.2
          have : W1.heap.size ≤ D := (e3 D hm).1.1
          omega
        have h5 : (shutW w' Ds).heap[D]? = some (.deferred (some [])) := (shut_heap.2.2.2.2 D hnD).trans h4
        rw [World.putObj_heap_other]
        · exact h5
        · rintro rfl; rw [ho] at h5; cases h5
    · -- what the activation keeps
      have hin : f'.ok G' S' w' := hfs f' (by show _ ∈ _ :: _ :: _ :: E.c.fs; simp [hf'])
      have hfr := hfree f' hf'
      have hbl := hbel f' hf'
      refine Fact.other o' (l := l) (r := r') ?_ ho (by cases f' <;> first | trivial | exact hfr.1)
      -- its own marks are shut
      cases f' with
      | le G0 n m => exact hin
      | lp L' =>
        refine ⟨hin.1, hin.2.imp fun kk hkk => ⟨hkk.1, (shut_heap.2.2.2.2 _ fun hm => ?_).trans hkk.2⟩⟩
        have h1 := (e3 _ hm).2
        rw [hkk.2] at h1
        cases kk <;> cases h1
      | bz L' =>
        refine ⟨hin.1, hin.2.1, (shut_heap.2.2.2.2 _ fun hm => ?_).trans hin.2.2⟩
        have h1 := (e3 _ hm).2
        rw [hin.2.2] at h1
        cases h1
      | df n u' d l' =>
        obtain ⟨Dc, d1, d2, d3⟩ := hin
        refine ⟨Dc, d1, d2, fun D hD => ⟨(d3 D hD).1, ?_⟩⟩
        refine (shut_heap.2.2.2.2 D fun hm => ?_).trans (d3 D hD).2
        have h1 : W1.heap.size ≤ D := (e3 D hm).1.1
        have h2 := (d3 D hD).1.2
        have h3 : u' ≤ E.c.k := E.c.hk _ hf'
        have h4 := hd.k
        have h5 := hg1.size
        omega
    · exact Nat.le_trans hd.m (Nat.le_trans (Nat.le_succ _) hd'.m)
    · have := hd.k
      simp only [World.putObj, Array.size_setIfInBounds, hsz2]
      have := hg1.size
      omega
    · have := hd.b
      simp only [World.putObj, Array.size_setIfInBounds, hsz2]
      have := hg1.size
      omega
  cases k with
  | zero =>
    refine ⟨none, _, run_endLoop (r := { L.r with state := .ready, pending := none }) hk3' (by simp), ?_⟩
    exact ⟨.norm, a, S', rfl, hq, fin _ _ _ rfl hk3'⟩
  | succ k =>
    refine ⟨some (jumpOf k), _, run_endLoop (r := { L.r with state := .done, pending := some (jumpOf k) }) hk3' (by simp), ?_⟩
    exact jump_wpIn k ⟨exitOf (k + 1), a, S', rfl, hq, fin _ _ _ rfl hk3'⟩
end rules
end Go.Proofs.Ytfcjcjncfniclaa
end
section
namespace Go.Proofs.Ytfcjcjncfniclaa
open Go.RowKit
set_option linter.unusedVariables false
set_option linter.unusedSimpArgs false

theorem leC {c : Cx} {k n : Nat} (h : c.n = k) (hk : k ≤ n) : c.n ≤ n := h ▸ hk
theorem sig0 {c : Cx} {σ : List Nat} (k : Nat) (hk : c.m = k) (h : σ.take k = List.range k) : ∀ t, t < c.m → σ[t]? = some t := fun t ht => by
  rw [hk] at ht
  have h1 : (σ.take k)[t]? = σ[t]? := List.getElem?_take_of_lt ht
  rw [← h1, h, List.getElem?_range ht]

section rules
variable {c : Cx} {md : Md} {P : Program} {a : List AV} {S : St} {Q : AEx → List AV → St → Prop} {R : List AV → St → Prop}

theorem ExI.op {X : Clr} (hX : ClrOk P X) {x : AOper} {xs : List AOper} {v : AV} {S1 : St} (hw : wantedA x.guard a = some true) (hv : evOp X x.op a S = some (v, S1)) (h : ExI c md P xs (putA a x.dst v) S1 R) : ExI c md P (x :: xs) a S R :=
  ExI.pre (xs := [x]) (ys := xs) (ExO.op hX hw hv (ExO.nil h))
theorem ExI.skip {x : AOper} {xs : List AOper} (hw : wantedA x.guard a = some false) (h : ExI c md P xs (putA a x.dst (.tup [])) S R) : ExI c md P (x :: xs) a S R :=
  ExI.pre (xs := [x]) (ys := xs) (ExO.skip hw (ExO.nil h))
theorem ExI.forget {a2 : List AV} {S2 : St} {xs : List AOper} (hf : Forgets c a S a2 S2) (h : ExI c md P xs a2 S2 R) : ExI c md P xs a S R := fun E hE ops l Q hl hd hq act w hA => h E hE ops l Q hl hd hq act w (hf E hE act w hA)
theorem evHI_ok {hs : List (Nat × Hint)} : ∀ (k i : Nat) {l : List AOper} {a a2 : List AV} {S S2 : St} {Fs : List Prop}, evH hs i k l a S = some (Fs, a2, S2) → AllP Fs → ExI c md P (l.drop k) a2 S2 R → ExI c md P l a S R
  | 0, i, l, a, a2, S, S2, Fs, h, _, hx => by
    cases l <;> (simp only [evH] at h; cases h; exact hx)
  | k + 1, i, [], a, a2, S, S2, Fs, h, _, hx => by simp [evH] at h
  | k + 1, i, x :: l, a, a2, S, S2, Fs, h, hF, hx => by
    simp only [evH] at h
    split at h
    · rename_i hw
      split at h
      · rename_i F v S1 hd
        split at h
        · rename_i Fs1 a3 S3 hr
          cases h
          refine ExI.op (noClr_ok P) hw (doH_ok hd ?_) (evHI_ok k (i + 1) hr ?_ hx)
          · cases F with
            | none => trivial
            | some F => exact hF.1
          · cases F with
            | none => exact hF
            | some F => exact hF.2
        · cases h
      · cases h
    · rename_i hw
      exact ExI.skip hw (evHI_ok k (i + 1) h hF hx)
    · cases h
theorem runI {l : List AOper} (k : Nat) (hs : List (Nat × Hint)) (live : List Nat) (Fs : List Prop) (a2 : List AV) (S2 : St) (h : (evH hs 0 k l a S).map (fun p => (p.1, keepB 0 live p.2.1, p.2.2)) = some (Fs, a2, S2)) (hF : AllP Fs) (hx : ExI c md P (l.drop k) a2 S2 R) : ExI c md P l a S R := by
  cases he : evH hs 0 k l a S with
  | none => rw [he] at h; cases h
  | some p =>
    obtain ⟨Fs1, a1, S1⟩ := p
    rw [he] at h
    simp only [Option.map_some, Option.some.injEq, Prod.mk.injEq] at h
    obtain ⟨rfl, rfl, rfl⟩ := h
    exact evHI_ok k 0 he hF (ExI.forget (forgetK live) hx)
theorem ExI.one {x : AOper} {xs : List AOper} (h : ExO c P [x] a S fun a1 S1 => ExI c md P xs a1 S1 R) : ExI c md P (x :: xs) a S R := ExI.pre (xs := [x]) (ys := xs) h

theorem ExO.inlC {x : AOper} {l : List AOper} (f : FuncId) (xs : List AV) (F : AFn) (hF : compFn P f = some F) (hn : c.n ≤ S.bx.length) (hw : wantedA x.guard a = some true) (hv : aop x.op (evd a) S = some (.call f xs))
    (h : ∀ c1 : Cx, c1.n = S.bx.length → c1.m = S.lv.length → (∀ L' a' ps' x' y', LpOk P c L' a' ps' x' y' → LpOk P c1 L' a' ps' x' y') →
      Ex c1 .plain P F.code (start F xs) S fun z a' S' => (z = .norm ∨ z = .ret) ∧ ∃ v, evRes a' S' F.res = some v ∧ ExO c P l (putA a x.dst v) S' R) : ExO c P (x :: l) a S R := by
  intro E hE ops l0 Q hco hq act w hA
  subst hE
  obtain ⟨o, l', rfl, hx, hl'⟩ := mapM_cons_inv hco
  obtain ⟨h1, h2, _⟩ := compOper_ok hx
  obtain ⟨G, hI, hR, hgr, hk, hd⟩ := hA
  obtain ⟨fn, cc1, hf, hb, hrs, hac, hnt, hen⟩ := compFn_inv hF
  simp only [wpList]
  rw [if_pos (wantedA_ok hx hR hw)]
  refine .inl ?_
  unfold Oper.wp
  have hs := step_ok h1 (fun _ => rfl) hR.opd hI hv
  obtain ⟨us, hrun, hvs⟩ := hs
  rw [hrun, hen]
  simp only [Oper.upon_enter]
  let cc : Cx := ⟨S.bx.length, S.lv.length, w.heap.size, .le G S.bx.length S.lv.length :: .df E.b w.heap.size E.d act.defers :: E.c.fs, fun f' hf' => (by
    rcases List.mem_cons.1 hf' with rfl | hf'
    · exact ⟨Nat.le_refl _, Nat.le_refl _⟩
    rcases List.mem_cons.1 hf' with rfl | hf'
    · trivial
    · exact (E.c.hw f' hf').mono hn hd.m), fun f' hf' => (by
    rcases List.mem_cons.1 hf' with rfl | hf'
    · trivial
    rcases List.mem_cons.1 hf' with rfl | hf'
    · exact Nat.le_refl _
    · exact (E.c.hk f' hf').mono hd.k)⟩
  have hup : ∀ L' a' ps' x' y', LpOk P E.c L' a' ps' x' y' → LpOk P cc L' a' ps' x' y' := by
    intro L' a' ps' x' y' hL'
    obtain ⟨g1, g2, hgs, hgf⟩ := hL'.fs
    obtain ⟨G', n', m', hle', h3, h4⟩ := hL'.rel
    refine ⟨⟨.le G S.bx.length S.lv.length :: .df E.b w.heap.size E.d act.defers :: g1, g2, by show _ :: _ :: E.c.fs = _; rw [hgs]; rfl, fun f' hf' => ?_⟩, ⟨G', n', m', List.mem_cons_of_mem _ (List.mem_cons_of_mem _ hle'), h3, h4⟩, hL'.ps, hL'.x, hL'.y⟩
    rcases List.mem_cons.1 hf' with rfl | hf'
    · trivial
    rcases List.mem_cons.1 hf' with rfl | hf'
    · trivial
    · exact hgf f' hf'
  have hEx := h cc rfl rfl hup
  let E1 : Ent := ⟨E.G, E.S, E.w, [], E.inv, E.lv, cc, hk.bl, fun f' hf' => (by
    rcases List.mem_cons.1 hf' with rfl | hf'
    · trivial
    rcases List.mem_cons.1 hf' with rfl | hf'
    · trivial
    · exact E.hW f' hf'), w.heap.size, hgr.size⟩
  have hA1 : At E1 (start F xs) S { tmps := us ++ Array.replicate (fn.ntmps - us.size) undef, defers := [] } w := by
    refine ⟨G, hI, start_rel hnt hvs, hgr, hk, ⟨⟨[], rfl, .nil, fun _ h => (by cases h)⟩, fun f' hf' => ?_, Nat.le_refl _, Nat.le_refl _, Nat.le_refl _⟩⟩
    rcases List.mem_cons.1 hf' with rfl | hf'
    · exact ⟨.refl G, fun b B h => (hI.dal b B h).1, fun t k v h => by
        obtain ⟨m, s, h1, _⟩ := hI.dtb t k v h
        exact (List.getElem?_eq_some_iff.1 h1).1⟩
    rcases List.mem_cons.1 hf' with rfl | hf'
    · exact hd.d
    · exact hd.x f' hf'
  refine calls_of_marks hf hb (wp_mono (hEx E1 rfl cc1 hac _ w hA1) ?_)
  rintro e act' w' ⟨z, a', S', rfl, ⟨hz, v, hres, hrest⟩, G', hI', hR', hg', hk', hd'⟩
  have hfs : ∀ f' ∈ cc.fs, f'.ok G' S' w' := hd'.x
  obtain ⟨Ds, e1, e2, e3⟩ := hd'.d
  have e1 : act'.defers = Ds.map markOf := by rw [e1]; exact List.append_nil _
  have hI2 := hI'.shut e2 fun D hD => (e3 D hD).2
  have hg2 := hg'.shut fun D hD => Nat.le_trans E1.hb (e3 D hD).1.1
  obtain ⟨u, hu, hvr⟩ := res_ok hI2 hR' hrs hres
  refine ⟨by rcases hz with rfl | rfl <;> simp [AEx.out], Ds, e1, e2, fun D hD => (e3 D hD).2, u, hu, ?_⟩
  have hle : G.le G' := (hfs _ (List.mem_cons_self ..)).1
  have hdf : DefOk E.b w.heap.size E.d act.defers w' := hfs _ (List.mem_cons_of_mem _ (List.mem_cons_self ..))
  have hsz2 : (shutW w' Ds).heap.size = w'.heap.size := shut_heap.1
  have hww : w.heap.size ≤ w'.heap.size := hd'.b
  refine hrest E rfl ops l' Q hl' hq _ _ ⟨G', hI2, h2 ▸ (hR.mono hle).put x.dst hvr, hg2, ⟨hk'.bl, by rw [E.lv]; exact Nat.zero_le _, hk'.al, hk'.tb, fun t ht => absurd ht (E.tb0 t)⟩, ⟨?_, fun f' hf' => ?_, Nat.le_trans hd.m hd'.m, ?_, ?_⟩⟩
  · have hd2 : DefOk E.b (shutW w' Ds).heap.size E.d act.defers (shutW w' Ds) := by
      obtain ⟨Dc, d1, d2, d3⟩ := hdf
      refine ⟨Dc, d1, d2, fun D hD => ⟨⟨(d3 D hD).1.1, ?_⟩, ?_⟩⟩
      · have := (d3 D hD).1.2
        omega
      · refine (shut_heap.2.2.2.2 D fun hm => ?_).trans (d3 D hD).2
        have := (d3 D hD).1.2
        have : w.heap.size ≤ D := (e3 D hm).1.1
        omega
    cases o.dst <;> exact hd2
  · have hin : f'.ok G' S' w' := hfs f' (by show _ ∈ _ :: _ :: E.c.fs; simp [hf'])
    cases f' with
    | le G0 n m => exact hin
    | lp L' =>
      refine ⟨hin.1, hin.2.imp fun kk hkk => ⟨hkk.1, (shut_heap.2.2.2.2 _ fun hm => ?_).trans hkk.2⟩⟩
      have h1 := (e3 _ hm).2
      rw [hkk.2] at h1
      cases kk <;> cases h1
    | bz L' =>
      refine ⟨hin.1, hin.2.1, (shut_heap.2.2.2.2 _ fun hm => ?_).trans hin.2.2⟩
      have h1 := (e3 _ hm).2
      rw [hin.2.2] at h1
      cases h1
    | df n u' d l' =>
      obtain ⟨Dc, d1, d2, d3⟩ := hin
      refine ⟨Dc, d1, d2, fun D hD => ⟨(d3 D hD).1, ?_⟩⟩
      refine (shut_heap.2.2.2.2 D fun hm => ?_).trans (d3 D hD).2
      have h1 : w.heap.size ≤ D := (e3 D hm).1.1
      have h2 := (d3 D hD).1.2
      have h3 : u' ≤ E.c.k := E.c.hk _ hf'
      have h4 := hd.k
      omega
  · rw [hsz2]; exact Nat.le_trans hd.k hww
  · rw [hsz2]; exact Nat.le_trans hd.b hww
theorem ExI.yieldT {L : Lp} {a0 : List AV} {ps : List Nat} {x0 y0 : ACode} (t0 : Nat) (ht : L.t = t0) (hL : LpOk P c L a0 ps x0 y0) {x : AOper} {l : List AOper} {f : AOpd} {args : List AOpd} {t : Nat} (xs : List AV) (hw : wantedA x.guard a = some true) (ho : x.op = .call f args) (hf : evd a f = .yld L.l t) (hxs : args.map (evd a) = xs) (hps : ps.length = xs.length) (hr : S.lv[t0]? = some (0, 0)) (hn : c.n ≤ S.bx.length)
    (h : ∀ (ca cb : Cx), ca.n = S.bx.length → cb.n = S.bx.length → ca.m = S.lv.length → cb.m = S.lv.length → (∀ L' a' ps' x' y', LpOk P c L' a' ps' x' y' → L'.l ≠ L.l → LpOk P ca L' a' ps' x' y' ∧ LpOk P cb L' a' ps' x' y') → Fact.bz L ∈ cb.fs →
      Ex ca (.round L.l (md.n - 1)) P x0 (setPs a0 ps xs) S fun z a1 S1 => z = .norm ∧ S1.lv[t0]? = some (0, 0) ∧
        Ex cb (.round L.l (md.n - 1)) P y0 a1 S1 fun z a2 S2 => match z with
          | .norm => ExI c md P l (putA a x.dst (.bool true)) S2 R
          | .ret => ExI c md P l (putA a x.dst (.bool false)) ⟨S2.bx, S2.lv.set t0 (1, 0)⟩ R
          | .ex i => ExI c md P l (putA a x.dst (.bool false)) ⟨S2.bx, S2.lv.set t0 (i + 2, 0)⟩ R) : ExI c md P (x :: l) a S R := by
  subst ht
  exact ExI.yield hL f args t xs hw ho hf hxs hps hr hn h
theorem Ex.rangeJ {g : AOpd} {ps : List Nat} {x y : ACode} (J : Nat → St → Prop) (f : FuncId) (caps : List AV) (F : AFn) (hg0 : evd a g = .fn f [] caps) (hF : compFn P f = some F) (hres : F.res = []) (hn : c.n ≤ S.bx.length) (hmd : match md with | .plain => True | .round l _ => ∃ L, Fact.bz L ∈ c.fs ∧ L.l = l) (a1 : List AV) (S1 : St) (he : ∀ l, start F (.yld l S.lv.length :: caps) = a1.set 0 (.yld l S.lv.length)) (hS : (⟨S.bx, S.lv ++ [(0, 0)]⟩ : St) = S1)
    (h : ∀ (c1 : Cx) (L : Lp), c1.n = S.bx.length → c1.m = S.lv.length + 1 → L.t = S.lv.length → LpOk P c1 L a ps x y → (∀ L' a' ps' x' y', LpOk P c L' a' ps' x' y' → L'.l ≠ L.l ∧ LpOk P c1 L' a' ps' x' y') →
      Ex c1 .plain P F.code (a1.set 0 (.yld L.l S.lv.length)) S1 fun z a' S' => ∃ a2 S2, Forgets c1 a' S' a2 S2 ∧ (z = .norm ∨ z = .ret) ∧ ∃ k, S2.lv[S.lv.length]? = some (k, 0) ∧ J k S2)
    (k : ∀ k S', J k S' → Q (exitOf k) a S') : Ex c md P (.rangeF g ps x y) a S Q := by
  refine Ex.rangeF f caps F hg0 hF hres hn hmd fun c1 L h1 h2 h3 h4 h5 => ?_
  rw [he, hS]
  refine Ex.postF ((h c1 L h1 h2 h3 h4 h5).mono ?_)
  rintro z a' S' ⟨a2, S2, hf, hz, j, hj, hJ⟩
  exact ⟨a2, S2, hf, hz, j, hj, k j S2 hJ⟩
theorem Ex.two {ca cb : Cx} {x y : ACode} {t0 : Nat} (J : AEx → St → Prop) (h : Ex ca md P x a S fun z a1 S1 => z = .norm ∧ S1.lv[t0]? = some (0, 0) ∧ Ex cb md P y a1 S1 fun z a2 S2 => ∃ a3 S3, Forgets cb a2 S2 a3 S3 ∧ J z S3) (k : ∀ z a2 S2, J z S2 → Q z a2 S2) : Ex ca md P x a S fun z a1 S1 => z = .norm ∧ S1.lv[t0]? = some (0, 0) ∧ Ex cb md P y a1 S1 Q := by
  refine h.mono ?_
  rintro z a1 S1 ⟨h1, h2, h3⟩
  refine ⟨h1, h2, Ex.postF (h3.mono ?_)⟩
  rintro z a2 S2 ⟨a3, S3, hf, hJ⟩
  exact ⟨a3, S3, hf, k z a3 S3 hJ⟩
end rules
end Go.Proofs.Ytfcjcjncfniclaa
end
section
namespace Go.Proofs.Ytfcjcjncfniclaa
set_option linter.unusedVariables false
set_option maxRecDepth 100000

def F5 : AFn := ⟨3, 95, [.tmp 6], (.seq (.reg [⟨some 3, .box (.tmp 0), none⟩, ⟨some 6, .mov (.con (.bool false)), none⟩]) (.seq (.seq (.reg [⟨some 19, .faddr (.tmp 3) 8, none⟩, ⟨some 20, .load none (.tmp 19), none⟩, ⟨some 21, .len false (.tmp 20), none⟩, ⟨some 22, .bin .gtr (.tmp 21) (.con (.int .i64 30)), none⟩]) (.cond (.tmp 22) (.seq (.reg [⟨some 23, .call (.con (.fn 9 [] [])) [], none⟩, ⟨some 6, .mov (.tmp 23), none⟩]) .ret) .skip)) (.seq (.reg [⟨some 24, .mov (.tmp 2), none⟩, ⟨some 25, .call (.con (.fn 11 [] [])) [(.tmp 24)], none⟩, ⟨some 7, .mov (.tmp 25), none⟩]) (.seq (.reg [⟨some 26, .mov (.tmp 7), none⟩, ⟨some 27, .call (.con (.fn 10 [] [])) [(.tmp 26), (.con (.int .i64 8))], none⟩, ⟨some 8, .box (.con (.agg [.int .i64 0, .int .i64 0, .int .i64 0, .int .i64 0, .int .i64 0, .int .i64 0, .int .i64 0, .int .i64 0, .nils])), none⟩, ⟨none, .store 9 (.tmp 8) (.tmp 27), none⟩]) (.seq (.dreg 10 [⟨some 28, .load (some 9) (.tmp 3), none⟩, ⟨some 29, .load (some 9) (.tmp 8), none⟩, ⟨some 30, .load (some 9) (.tmp 8), none⟩, ⟨some 31, .bsl 9 true [.int .i64 0, .int .i64 0, .int .i64 0, .int .i64 0, .int .i64 0, .int .i64 0, .int .i64 0, .int .i64 0, .nils] 3 [(0, (.tmp 28)), (1, (.tmp 29)), (2, (.tmp 30))], none⟩, ⟨some 32, .mov (.tmp 1), none⟩, ⟨some 33, .mov (.tmp 7), none⟩, ⟨some 34, .call (.con (.fn 38 [] [])) [(.tmp 33), (.con (.int .i64 400))], none⟩, ⟨some 35, .mov (.tmp 1), none⟩, ⟨some 36, .bsl 1 false [.int .i64 0] 3 [(0, (.tmp 32)), (1, (.tmp 34)), (2, (.tmp 35))], none⟩, ⟨some 9, .mov (.tmp 31), none⟩, ⟨some 10, .mov (.tmp 36), none⟩]) (.seq (.seq (.reg [⟨some 11, .mov (.con (.int .i64 0)), none⟩]) (.block 0 (.loop (.seq (.seq (.reg [⟨some 37, .mov (.tmp 11), none⟩, ⟨some 38, .mov (.tmp 9), none⟩, ⟨some 39, .len false (.tmp 38), none⟩, ⟨some 40, .bin .lss (.tmp 37) (.tmp 39), none⟩]) (.cond (.tmp 40) .skip (.exit 0))) (.seq (.block 1 (.seq (.reg [⟨some 43, .mov (.tmp 9), none⟩, ⟨some 44, .mov (.tmp 11), none⟩, ⟨some 45, .iaddr (.tmp 43) (.tmp 44) 9 none, none⟩, ⟨some 46, .load (some 9) (.tmp 45), none⟩, ⟨some 47, .call (.con (.fn 12 [] [])) [(.tmp 46)], none⟩, ⟨some 12, .box (.con (.agg [.int .i64 0, .int .i64 0, .int .i64 0, .int .i64 0, .int .i64 0, .int .i64 0, .int .i64 0, .int .i64 0, .nils])), none⟩, ⟨none, .store 9 (.tmp 12) (.tmp 47), none⟩]) (.seq (.dreg 12 [⟨some 49, .load (some 9) (.tmp 12), none⟩, ⟨some 50, .mov (.tmp 10), none⟩, ⟨some 51, .mov (.tmp 11), none⟩, ⟨some 52, .iaddr (.tmp 50) (.tmp 51) 1 none, none⟩, ⟨some 53, .load none (.tmp 52), none⟩, ⟨some 54, .call (.con (.fn 39 [] [])) [(.tmp 49), (.tmp 53)], none⟩, ⟨some 48, .mov (.tmp 54), none⟩, ⟨some 55, .ext (.tmp 48) 0, none⟩, ⟨some 56, .ext (.tmp 48) 1, none⟩, ⟨some 57, .ext (.tmp 48) 2, none⟩, ⟨some 13, .mov (.tmp 55), none⟩, ⟨some 14, .mov (.tmp 56), none⟩, ⟨some 15, .mov (.tmp 57), none⟩]) (.seq (.dreg 15 [⟨some 59, .mov (.tmp 9), none⟩, ⟨some 60, .mov (.tmp 11), none⟩, ⟨some 61, .iaddr (.tmp 59) (.tmp 60) 9 none, none⟩, ⟨some 62, .load (some 9) (.tmp 61), none⟩, ⟨some 63, .mov (.tmp 10), none⟩, ⟨some 64, .mov (.tmp 11), none⟩, ⟨some 65, .iaddr (.tmp 63) (.tmp 64) 1 none, none⟩, ⟨some 66, .load none (.tmp 65), none⟩, ⟨some 67, .call (.con (.fn 40 [] [])) [(.tmp 62), (.tmp 66)], none⟩, ⟨some 58, .mov (.tmp 67), none⟩, ⟨some 68, .ext (.tmp 58) 0, none⟩, ⟨some 69, .ext (.tmp 58) 1, none⟩, ⟨some 70, .ext (.tmp 58) 2, none⟩, ⟨some 16, .mov (.tmp 68), none⟩, ⟨some 17, .mov (.tmp 69), none⟩, ⟨some 18, .mov (.tmp 70), none⟩]) (.seq (.dreg 20 [⟨some 71, .mov (.tmp 14), none⟩, ⟨some 72, .mov (.tmp 17), none⟩, ⟨some 73, .bin .neq (.tmp 71) (.tmp 72), none⟩, ⟨some 74, .mov (.tmp 73), none⟩, ⟨some 75, .mov (.tmp 15), some (74, false)⟩, ⟨some 76, .mov (.tmp 18), some (74, false)⟩, ⟨some 77, .bin .neq (.tmp 75) (.tmp 76), some (74, false)⟩, ⟨some 78, .pick (.tmp 74) (.con (.bool true)) (.tmp 77), none⟩, ⟨some 79, .mov (.tmp 78), none⟩, ⟨some 80, .mov (.tmp 13), some (79, false)⟩, ⟨some 81, .mov (.tmp 16), some (79, false)⟩, ⟨some 82, .call (.con (.fn 41 [] [])) [(.tmp 80), (.tmp 81)], some (79, false)⟩, ⟨some 83, .un .not (.tmp 82), some (79, false)⟩, ⟨some 84, .pick (.tmp 79) (.con (.bool true)) (.tmp 83), none⟩, ⟨some 85, .mov (.tmp 84), none⟩, ⟨some 86, .load (some 9) (.tmp 12), some (85, false)⟩, ⟨some 87, .mov (.tmp 9), some (85, false)⟩, ⟨some 88, .mov (.tmp 11), some (85, false)⟩, ⟨some 89, .iaddr (.tmp 87) (.tmp 88) 9 none, some (85, false)⟩, ⟨some 90, .load (some 9) (.tmp 89), some (85, false)⟩, ⟨some 91, .call (.con (.fn 24 [] [])) [(.tmp 86), (.tmp 90)], some (85, false)⟩, ⟨some 92, .un .not (.tmp 91), some (85, false)⟩, ⟨some 93, .pick (.tmp 85) (.con (.bool true)) (.tmp 92), none⟩]) (.cond (.tmp 93) (.seq (.reg [⟨some 6, .mov (.con (.bool false)), none⟩]) .ret) .skip)))))) (.reg [⟨some 41, .mov (.tmp 11), none⟩, ⟨some 42, .bin .add (.tmp 41) (.con (.int .i64 1)), none⟩, ⟨some 11, .mov (.tmp 42), none⟩])))))) (.seq (.reg [⟨some 94, .call (.con (.fn 9 [] [])) [], none⟩, ⟨some 6, .mov (.tmp 94), none⟩]) .ret)))))))⟩
theorem comp5 : compFn Try.prog 5 = some F5 := by kernel_rfl
def F9 : AFn := ⟨0, 58, [.tmp 0], (.seq (.reg [⟨some 0, .mov (.con (.bool false)), none⟩]) (.seq (.reg [⟨some 9, .call (.con (.fn 54 [] [])) [], none⟩, ⟨some 10, .call (.con (.fn 16 [] [])) [(.tmp 9)], none⟩, ⟨some 8, .mov (.tmp 10), none⟩, ⟨some 11, .ext (.tmp 8) 0, none⟩, ⟨some 12, .ext (.tmp 8) 1, none⟩, ⟨some 13, .ext (.tmp 8) 2, none⟩, ⟨some 1, .box (.con (.agg [.int .i64 0, .int .i64 0])), none⟩, ⟨some 2, .box (.con (.agg [.int .i64 0, .int .i64 0])), none⟩, ⟨none, .store 2 (.tmp 1) (.tmp 11), none⟩, ⟨none, .store 2 (.tmp 2) (.tmp 12), none⟩, ⟨some 3, .mov (.tmp 13), none⟩]) (.seq (.reg [⟨some 15, .call (.con (.fn 54 [] [])) [], none⟩, ⟨some 16, .call (.con (.fn 55 [] [])) [(.con (.int .i64 1)), (.con (.int .i64 700)), (.con (.int .i64 1400))], none⟩, ⟨some 17, .call (.con (.fn 55 [] [])) [(.con (.int .i64 2)), (.con (.int .i64 519)), (.con (.int .i64 0))], none⟩, ⟨some 18, .call (.con (.fn 55 [] [])) [(.con (.int .i64 3)), (.con (.int .i64 5649)), (.con (.int .i64 3067))], none⟩, ⟨some 19, .bsl 3 true [.int .i64 0, .int .i64 0, .int .i64 0] 3 [(0, (.tmp 16)), (1, (.tmp 17)), (2, (.tmp 18))], none⟩, ⟨some 20, .call (.con (.fn 28 [] [])) [(.tmp 15), (.tmp 19)], none⟩, ⟨some 14, .mov (.tmp 20), none⟩, ⟨some 21, .ext (.tmp 14) 0, none⟩, ⟨some 22, .ext (.tmp 14) 1, none⟩, ⟨some 4, .mov (.tmp 21), none⟩, ⟨some 5, .mov (.tmp 22), none⟩]) (.seq (.reg [⟨some 24, .call (.con (.fn 56 [] [])) [(.con (.int .i64 900))], none⟩, ⟨some 25, .call (.con (.fn 32 [] [])) [(.tmp 24), (.con (.nils)), (.con (.int .i64 200))], none⟩, ⟨some 23, .mov (.tmp 25), none⟩, ⟨some 26, .ext (.tmp 23) 0, none⟩, ⟨some 27, .ext (.tmp 23) 1, none⟩, ⟨some 6, .box (.con (.agg [.int .i64 0, .int .i64 0])), none⟩, ⟨none, .store 2 (.tmp 6) (.tmp 26), none⟩, ⟨some 7, .mov (.tmp 27), none⟩]) (.seq (.dreg 28 [⟨some 28, .mov (.tmp 3), none⟩, ⟨some 29, .bin .eql (.tmp 28) (.con (.int .i64 0)), none⟩, ⟨some 30, .mov (.tmp 29), none⟩, ⟨some 31, .mov (.tmp 5), some (30, true)⟩, ⟨some 32, .bin .eql (.tmp 31) (.con (.int .i64 0)), some (30, true)⟩, ⟨some 33, .pick (.tmp 30) (.tmp 32) (.con (.bool false)), none⟩, ⟨some 34, .mov (.tmp 33), none⟩, ⟨some 35, .mov (.tmp 7), some (34, true)⟩, ⟨some 36, .bin .eql (.tmp 35) (.con (.int .i64 0)), some (34, true)⟩, ⟨some 37, .pick (.tmp 34) (.tmp 36) (.con (.bool false)), none⟩, ⟨some 38, .mov (.tmp 37), none⟩, ⟨some 39, .load (some 2) (.tmp 1), some (38, true)⟩, ⟨some 40, .call (.con (.fn 50 [] [])) [(.con (.int .i64 2650)), (.con (.int .i64 2784))], some (38, true)⟩, ⟨some 41, .eqs false (.cons 0 none (.sc 1) (.cons 1 none (.sc 1) .nil)) (.tmp 39) (.tmp 40), some (38, true)⟩, ⟨some 42, .pick (.tmp 38) (.tmp 41) (.con (.bool false)), none⟩, ⟨some 43, .mov (.tmp 42), none⟩, ⟨some 44, .load (some 2) (.tmp 2), some (43, true)⟩, ⟨some 45, .call (.con (.fn 50 [] [])) [(.con (.int .i64 3000)), (.con (.int .i64 3067))], some (43, true)⟩, ⟨some 46, .eqs false (.cons 0 none (.sc 1) (.cons 1 none (.sc 1) .nil)) (.tmp 44) (.tmp 45), some (43, true)⟩, ⟨some 47, .pick (.tmp 43) (.tmp 46) (.con (.bool false)), none⟩, ⟨some 48, .mov (.tmp 47), none⟩, ⟨some 49, .mov (.tmp 4), some (48, true)⟩, ⟨some 50, .bsl 1 false [.int .i64 0] 3 [(0, (.con (.int .i64 1))), (1, (.con (.int .i64 3))), (2, (.con (.int .i64 2)))], some (48, true)⟩, ⟨some 51, .call (.con (.fn 36 [] [])) [(.tmp 49), (.tmp 50)], some (48, true)⟩, ⟨some 52, .pick (.tmp 48) (.tmp 51) (.con (.bool false)), none⟩, ⟨some 53, .mov (.tmp 52), none⟩, ⟨some 54, .load (some 2) (.tmp 6), some (53, true)⟩, ⟨some 55, .call (.con (.fn 50 [] [])) [(.con (.int .i64 17)), (.con (.int .i64 100000))], some (53, true)⟩, ⟨some 56, .eqs false (.cons 0 none (.sc 1) (.cons 1 none (.sc 1) .nil)) (.tmp 54) (.tmp 55), some (53, true)⟩, ⟨some 57, .pick (.tmp 53) (.tmp 56) (.con (.bool false)), none⟩, ⟨some 0, .mov (.tmp 57), none⟩]) .ret)))))⟩
theorem comp9 : compFn Try.prog 9 = some F9 := by kernel_rfl
def F10 : AFn := ⟨2, 91, [.cell 4 (some 9)], (.seq (.reg [⟨some 4, .box (.con (.agg [.int .i64 0, .int .i64 0, .int .i64 0, .int .i64 0, .int .i64 0, .int .i64 0, .int .i64 0, .int .i64 0, .nils])), none⟩]) (.seq (.reg [⟨some 8, .mov (.tmp 0), none⟩, ⟨some 9, .mov (.tmp 0), none⟩, ⟨some 10, .bsl 1 false [.int .i64 0] 2 [(0, (.con (.int .i64 20))), (1, (.con (.int .i64 1200)))], none⟩, ⟨some 11, .call (.con (.fn 57 [] [])) [(.tmp 9), (.tmp 10)], none⟩, ⟨some 12, .call (.con (.fn 27 [] [])) [(.tmp 8), (.con (.int .i64 2)), (.tmp 11)], none⟩, ⟨some 13, .mov (.tmp 0), none⟩, ⟨some 14, .call (.con (.fn 27 [] [])) [(.tmp 13), (.con (.int .i64 1)), (.con (.int .i64 400))], none⟩, ⟨some 15, .mov (.tmp 0), none⟩, ⟨some 16, .mov (.tmp 0), none⟩, ⟨some 17, .call (.con (.fn 38 [] [])) [(.tmp 16), (.con (.int .i64 1500))], none⟩, ⟨some 18, .bsl 1 false [.int .i64 0] 2 [(0, (.con (.int .i64 0))), (1, (.tmp 17))], none⟩, ⟨some 19, .call (.con (.fn 57 [] [])) [(.tmp 15), (.tmp 18)], none⟩, ⟨some 20, .mov (.tmp 0), none⟩, ⟨some 21, .mov (.tmp 0), none⟩, ⟨some 22, .call (.con (.fn 38 [] [])) [(.tmp 21), (.con (.int .i64 5000))], none⟩, ⟨some 23, .bsl 1 false [.int .i64 0] 2 [(0, (.con (.int .i64 0))), (1, (.tmp 22))], none⟩, ⟨some 24, .call (.con (.fn 57 [] [])) [(.tmp 20), (.tmp 23)], none⟩, ⟨some 25, .mov (.tmp 0), none⟩, ⟨some 26, .call (.con (.fn 38 [] [])) [(.tmp 25), (.con (.int .i64 500))], none⟩, ⟨some 27, .build [.int .i64 0, .int .i64 0, .int .i64 0, .int .i64 0, .int .i64 0, .int .i64 0, .int .i64 0, .int .i64 0, .nils] [(0, 1, (.tmp 12)), (1, 1, (.tmp 14)), (4, 1, (.tmp 19)), (5, 1, (.tmp 24)), (7, 1, (.tmp 26))], none⟩, ⟨some 5, .box (.con (.agg [.int .i64 0, .int .i64 0, .int .i64 0, .int .i64 0, .int .i64 0, .int .i64 0, .int .i64 0, .int .i64 0, .nils])), none⟩, ⟨none, .store 9 (.tmp 5) (.tmp 27), none⟩]) (.seq (.reg [⟨some 28, .mov (.tmp 0), none⟩, ⟨some 29, .faddr (.tmp 5) 0, none⟩, ⟨some 30, .load none (.tmp 29), none⟩, ⟨some 31, .call (.con (.fn 38 [] [])) [(.tmp 28), (.tmp 30)], none⟩, ⟨some 32, .faddr (.tmp 5) 2, none⟩, ⟨none, .store 1 (.tmp 32) (.tmp 31), none⟩]) (.seq (.reg [⟨some 33, .mov (.tmp 0), none⟩, ⟨some 34, .faddr (.tmp 5) 2, none⟩, ⟨some 35, .load none (.tmp 34), none⟩, ⟨some 36, .bin .add (.tmp 35) (.con (.int .i64 1)), none⟩, ⟨some 37, .faddr (.tmp 5) 0, none⟩, ⟨some 38, .load none (.tmp 37), none⟩, ⟨some 39, .call (.con (.fn 27 [] [])) [(.tmp 33), (.tmp 36), (.tmp 38)], none⟩, ⟨some 40, .faddr (.tmp 5) 3, none⟩, ⟨none, .store 1 (.tmp 40) (.tmp 39), none⟩]) (.seq (.reg [⟨some 41, .mov (.tmp 0), none⟩, ⟨some 42, .faddr (.tmp 5) 0, none⟩, ⟨some 43, .load none (.tmp 42), none⟩, ⟨some 44, .call (.con (.fn 27 [] [])) [(.tmp 41), (.con (.int .i64 0)), (.tmp 43)], none⟩, ⟨some 45, .faddr (.tmp 5) 6, none⟩, ⟨none, .store 1 (.tmp 45) (.tmp 44), none⟩]) (.seq (.seq (.reg [⟨some 46, .mov (.tmp 0), none⟩, ⟨some 47, .mov (.tmp 1), none⟩, ⟨some 48, .bin .add (.tmp 47) (.con (.int .i64 1)), none⟩, ⟨some 49, .call (.con (.fn 38 [] [])) [(.tmp 46), (.tmp 48)], none⟩, ⟨some 6, .mov (.tmp 49), none⟩]) (.block 0 (.loop (.seq (.seq (.reg [⟨some 50, .mov (.tmp 6), none⟩, ⟨some 51, .bin .gtr (.tmp 50) (.con (.int .i64 0)), none⟩]) (.cond (.tmp 51) .skip (.exit 0))) (.seq (.block 1 (.seq (.reg [⟨some 54, .mov (.tmp 0), none⟩, ⟨some 55, .faddr (.tmp 5) 2, none⟩, ⟨some 56, .load none (.tmp 55), none⟩, ⟨some 57, .faddr (.tmp 5) 3, none⟩, ⟨some 58, .load none (.tmp 57), none⟩, ⟨some 59, .call (.con (.fn 27 [] [])) [(.tmp 54), (.tmp 56), (.tmp 58)], none⟩, ⟨some 60, .mov (.tmp 0), none⟩, ⟨some 61, .mov (.tmp 0), none⟩, ⟨some 62, .bsl 1 false [.int .i64 0] 2 [(0, (.con (.int .i64 5))), (1, (.con (.int .i64 900)))], none⟩, ⟨some 63, .call (.con (.fn 57 [] [])) [(.tmp 61), (.tmp 62)], none⟩, ⟨some 64, .call (.con (.fn 58 [] [])) [(.tmp 60), (.con (.int .i64 0)), (.tmp 63)], none⟩, ⟨some 65, .mov (.tmp 0), none⟩, ⟨some 66, .mov (.tmp 0), none⟩, ⟨some 67, .bsl 1 false [.int .i64 0] 2 [(0, (.con (.int .i64 20))), (1, (.con (.int .i64 700)))], none⟩, ⟨some 68, .call (.con (.fn 57 [] [])) [(.tmp 66), (.tmp 67)], none⟩, ⟨some 69, .call (.con (.fn 58 [] [])) [(.tmp 65), (.con (.int .i64 0)), (.tmp 68)], none⟩, ⟨some 70, .mov (.tmp 0), none⟩, ⟨some 71, .call (.con (.fn 27 [] [])) [(.tmp 70), (.con (.int .i64 1)), (.con (.int .i64 4))], none⟩, ⟨some 72, .build [.int .i64 0, .int .i64 0, .int .i64 0, .int .i64 0, .int .i64 0, .int .i64 0, .int .i64 0] [(0, 1, (.tmp 59)), (1, 2, (.tmp 64)), (3, 2, (.tmp 69)), (5, 1, (.tmp 71))], none⟩, ⟨some 7, .box (.con (.agg [.int .i64 0, .int .i64 0, .int .i64 0, .int .i64 0, .int .i64 0, .int .i64 0, .int .i64 0])), none⟩, ⟨none, .store 7 (.tmp 7) (.tmp 72), none⟩]) (.seq (.seq (.reg [⟨some 73, .faddr (.tmp 7) 5, none⟩, ⟨some 74, .load none (.tmp 73), none⟩, ⟨some 75, .bin .eql (.tmp 74) (.con (.int .i64 2)), none⟩, ⟨some 76, .mov (.tmp 75), none⟩, ⟨some 77, .faddr (.tmp 7) 5, some (76, false)⟩, ⟨some 78, .load none (.tmp 77), some (76, false)⟩, ⟨some 79, .bin .eql (.tmp 78) (.con (.int .i64 3)), some (76, false)⟩, ⟨some 80, .pick (.tmp 76) (.con (.bool true)) (.tmp 79), none⟩]) (.cond (.tmp 80) (.reg [⟨some 81, .mov (.tmp 0), none⟩, ⟨some 82, .call (.con (.fn 38 [] [])) [(.tmp 81), (.con (.int .i64 3000))], none⟩, ⟨some 83, .faddr (.tmp 7) 6, none⟩, ⟨none, .store 1 (.tmp 83) (.tmp 82), none⟩]) .skip)) (.reg [⟨some 84, .faddr (.tmp 5) 8, none⟩, ⟨some 85, .load none (.tmp 84), none⟩, ⟨some 86, .load (some 7) (.tmp 7), none⟩, ⟨some 87, .bsl 7 true [.int .i64 0, .int .i64 0, .int .i64 0, .int .i64 0, .int .i64 0, .int .i64 0, .int .i64 0] 1 [(0, (.tmp 86))], none⟩, ⟨some 88, .app (.tmp 85) (.tmp 87) 7 56 [.int .i64 0, .int .i64 0, .int .i64 0, .int .i64 0, .int .i64 0, .int .i64 0, .int .i64 0], none⟩, ⟨some 89, .faddr (.tmp 5) 8, none⟩, ⟨none, .store 1 (.tmp 89) (.tmp 88), none⟩])))) (.reg [⟨some 52, .mov (.tmp 6), none⟩, ⟨some 53, .bin .sub (.tmp 52) (.con (.int .i64 1)), none⟩, ⟨some 6, .mov (.tmp 53), none⟩])))))) (.seq (.reg [⟨some 90, .load (some 9) (.tmp 5), none⟩, ⟨none, .store 9 (.tmp 4) (.tmp 90), none⟩]) .ret)))))))⟩
theorem comp10 : compFn Try.prog 10 = some F10 := by kernel_rfl
def F11 : AFn := ⟨1, 29, [.tmp 2], (.seq (.reg [⟨some 2, .mov (.con (.nilp)), none⟩]) (.seq (.reg [⟨some 5, .build [.int .u64 0] [(0, 1, (.con (.int .u64 2685821657736338717)))], none⟩, ⟨some 6, .box (.tmp 5), none⟩, ⟨some 3, .mov (.tmp 6), none⟩]) (.seq (.seq (.reg [⟨some 4, .mov (.con (.int .i64 0)), none⟩]) (.block 0 (.loop (.seq (.seq (.reg [⟨some 7, .mov (.tmp 4), none⟩, ⟨some 8, .mov (.tmp 0), none⟩, ⟨some 9, .len false (.tmp 8), none⟩, ⟨some 10, .bin .lss (.tmp 7) (.tmp 9), none⟩]) (.cond (.tmp 10) .skip (.exit 0))) (.seq (.block 1 (.seq (.dreg 11 [⟨some 13, .mov (.tmp 3), none⟩, ⟨some 14, .mov (.tmp 3), none⟩, ⟨some 15, .nilck (.tmp 14), none⟩, ⟨some 16, .faddr (.tmp 15) 0, none⟩, ⟨some 17, .load none (.tmp 16), none⟩, ⟨some 18, .mov (.tmp 0), none⟩, ⟨some 19, .mov (.tmp 4), none⟩, ⟨some 20, .iaddr (.tmp 18) (.tmp 19) 1 none, none⟩, ⟨some 21, .load none (.tmp 20), none⟩, ⟨some 22, .conv .u64 (.tmp 21), none⟩, ⟨some 23, .bin .xor (.tmp 17) (.tmp 22), none⟩, ⟨some 24, .nilck (.tmp 13), none⟩, ⟨some 25, .faddr (.tmp 24) 0, none⟩, ⟨none, .store 1 (.tmp 25) (.tmp 23), none⟩]) (.reg [⟨some 26, .mov (.tmp 3), none⟩, ⟨some 27, .call (.con (.fn 59 [] [])) [(.tmp 26)], none⟩]))) (.reg [⟨some 11, .mov (.tmp 4), none⟩, ⟨some 12, .bin .add (.tmp 11) (.con (.int .i64 1)), none⟩, ⟨some 4, .mov (.tmp 12), none⟩])))))) (.seq (.reg [⟨some 28, .mov (.tmp 3), none⟩, ⟨some 2, .mov (.tmp 28), none⟩]) .ret))))⟩
theorem comp11 : compFn Try.prog 11 = some F11 := by kernel_rfl
def F12 : AFn := ⟨1, 9, [.cell 2 (some 9)], (.seq (.reg [⟨some 1, .box (.tmp 0), none⟩, ⟨some 2, .box (.con (.agg [.int .i64 0, .int .i64 0, .int .i64 0, .int .i64 0, .int .i64 0, .int .i64 0, .int .i64 0, .int .i64 0, .nils])), none⟩]) (.seq (.reg [⟨some 3, .bsl 7 true [.int .i64 0, .int .i64 0, .int .i64 0, .int .i64 0, .int .i64 0, .int .i64 0, .int .i64 0] 0 [], none⟩, ⟨some 4, .faddr (.tmp 1) 8, none⟩, ⟨some 5, .load none (.tmp 4), none⟩, ⟨some 6, .app (.tmp 3) (.tmp 5) 7 56 [.int .i64 0, .int .i64 0, .int .i64 0, .int .i64 0, .int .i64 0, .int .i64 0, .int .i64 0], none⟩, ⟨some 7, .faddr (.tmp 1) 8, none⟩, ⟨none, .store 1 (.tmp 7) (.tmp 6), none⟩]) (.seq (.reg [⟨some 8, .load (some 9) (.tmp 1), none⟩, ⟨none, .store 9 (.tmp 2) (.tmp 8), none⟩]) .ret)))⟩
theorem comp12 : compFn Try.prog 12 = some F12 := by kernel_rfl
def F16 : AFn := ⟨1, 42, [.cell 2 (some 2), .cell 3 (some 2), .tmp 4], (.seq (.reg [⟨some 1, .box (.tmp 0), none⟩, ⟨some 2, .box (.con (.agg [.int .i64 0, .int .i64 0])), none⟩, ⟨some 3, .box (.con (.agg [.int .i64 0, .int .i64 0])), none⟩, ⟨some 4, .mov (.con (.int .i64 0)), none⟩]) (.seq (.seq (.reg [⟨some 7, .load (some 9) (.tmp 1), none⟩, ⟨some 8, .call (.con (.fn 22 [] [])) [(.tmp 7)], none⟩, ⟨some 5, .mov (.tmp 8), none⟩]) (.seq (.reg [⟨some 9, .mov (.tmp 5), none⟩, ⟨some 10, .bin .neq (.tmp 9) (.con (.int .i64 0)), none⟩]) (.cond (.tmp 10) (.seq (.reg [⟨some 11, .build [.int .i64 0, .int .i64 0] [], none⟩, ⟨some 12, .build [.int .i64 0, .int .i64 0] [], none⟩, ⟨some 13, .mov (.tmp 5), none⟩, ⟨none, .store 2 (.tmp 2) (.tmp 11), none⟩, ⟨none, .store 2 (.tmp 3) (.tmp 12), none⟩, ⟨some 4, .mov (.tmp 13), none⟩]) .ret) .skip))) (.seq (.reg [⟨some 14, .load (some 9) (.tmp 1), none⟩, ⟨some 15, .call (.con (.fn 60 [] [])) [(.tmp 14)], none⟩, ⟨some 6, .box (.con (.agg [.int .i64 0, .int .i64 0, .int .i64 0, .int .i64 0, .int .i64 0, .int .i64 0, .int .i64 0, .int .i64 0, .nils, .int .i64 0, .int .i64 0, .int .i64 0, .int .i64 0, .int .i64 0, .int .i64 0, .int .i64 0, .int .i64 0, .int .i64 0, .int .i64 0, .int .i64 0, .int .i64 0, .int .i64 0, .int .i64 0, .int .i64 0, .int .i64 0, .int .i64 0, .int .i64 0, .int .i64 0, .int .i64 0, .int .i64 0, .int .i64 0, .int .i64 0, .int .i64 0, .int .i64 0, .int .i64 0, .int .i64 0, .int .i64 0, .int .i64 0, .int .i64 0, .int .i64 0, .int .i64 0, .int .i64 0, .int .i64 0, .int .i64 0, .int .i64 0, .int .i64 0, .int .i64 0, .int .i64 0, .int .i64 0, .int .i64 0, .int .i64 0, .int .i64 0, .int .i64 0, .int .i64 0, .int .i64 0, .int .i64 0, .int .i64 0, .int .i64 0, .int .i64 0, .nils, .int .i64 0, .int .i64 0, .int .i64 0, .int .i64 0, .int .i64 0, .int .i64 0, .int .i64 0, .int .i64 0, .int .i64 0, .int .i64 0, .int .i64 0, .int .i64 0, .int .i64 0, .int .i64 0, .int .i64 0, .int .i64 0, .int .i64 0, .int .i64 0, .int .i64 0, .int .i64 0, .int .i64 0, .int .i64 0, .int .i64 0, .int .i64 0, .int .i64 0, .int .i64 0, .int .i64 0, .int .i64 0, .int .i64 0, .int .i64 0, .int .i64 0, .int .i64 0, .int .i64 0, .int .i64 0, .int .i64 0, .int .i64 0, .int .i64 0, .int .i64 0, .int .i64 0, .int .i64 0, .int .i64 0, .int .i64 0])), none⟩, ⟨none, .store 102 (.tmp 6) (.tmp 15), none⟩]) (.seq (.dreg 11 [⟨some 16, .iaddr (.tmp 6) (.con (.int .i64 0)) 51 (some 2), none⟩, ⟨some 17, .load (some 51) (.tmp 16), none⟩, ⟨some 18, .call (.con (.fn 65 [] [])) [(.tmp 17)], none⟩, ⟨some 19, .iaddr (.tmp 6) (.con (.int .i64 1)) 51 (some 2), none⟩, ⟨some 20, .load (some 51) (.tmp 19), none⟩, ⟨some 21, .call (.con (.fn 65 [] [])) [(.tmp 20)], none⟩, ⟨some 22, .faddr (.tmp 1) 3, none⟩, ⟨some 23, .load none (.tmp 22), none⟩, ⟨some 24, .faddr (.tmp 1) 2, none⟩, ⟨some 25, .load none (.tmp 24), none⟩, ⟨some 26, .bin .sub (.tmp 23) (.tmp 25), none⟩, ⟨some 27, .call (.con (.fn 64 [] [])) [(.tmp 18), (.tmp 21), (.tmp 26)], none⟩, ⟨none, .store 2 (.tmp 2) (.tmp 27), none⟩]) (.seq (.dreg 11 [⟨some 28, .iaddr (.tmp 6) (.con (.int .i64 0)) 51 (some 2), none⟩, ⟨some 29, .load (some 51) (.tmp 28), none⟩, ⟨some 30, .call (.con (.fn 66 [] [])) [(.tmp 29)], none⟩, ⟨some 31, .iaddr (.tmp 6) (.con (.int .i64 1)) 51 (some 2), none⟩, ⟨some 32, .load (some 51) (.tmp 31), none⟩, ⟨some 33, .call (.con (.fn 66 [] [])) [(.tmp 32)], none⟩, ⟨some 34, .faddr (.tmp 1) 3, none⟩, ⟨some 35, .load none (.tmp 34), none⟩, ⟨some 36, .faddr (.tmp 1) 2, none⟩, ⟨some 37, .load none (.tmp 36), none⟩, ⟨some 38, .bin .sub (.tmp 35) (.tmp 37), none⟩, ⟨some 39, .call (.con (.fn 64 [] [])) [(.tmp 30), (.tmp 33), (.tmp 38)], none⟩, ⟨none, .store 2 (.tmp 3) (.tmp 39), none⟩]) (.seq (.dreg 3 [⟨some 40, .load (some 2) (.tmp 2), none⟩, ⟨some 41, .load (some 2) (.tmp 3), none⟩, ⟨none, .store 2 (.tmp 2) (.tmp 40), none⟩, ⟨none, .store 2 (.tmp 3) (.tmp 41), none⟩, ⟨some 4, .mov (.con (.int .i64 0)), none⟩]) .ret))))))⟩
theorem comp16 : compFn Try.prog 16 = some F16 := by kernel_rfl
def F22 : AFn := ⟨1, 30, [.tmp 2], (.seq (.reg [⟨some 1, .box (.tmp 0), none⟩, ⟨some 2, .mov (.con (.int .i64 0)), none⟩]) (.seq (.seq (.reg [⟨some 7, .load (some 9) (.tmp 1), none⟩, ⟨some 8, .call (.con (.fn 72 [] [])) [(.tmp 7)], none⟩, ⟨some 3, .mov (.tmp 8), none⟩]) (.seq (.reg [⟨some 9, .mov (.tmp 3), none⟩, ⟨some 10, .bin .neq (.tmp 9) (.con (.int .i64 0)), none⟩]) (.cond (.tmp 10) (.seq (.reg [⟨some 11, .mov (.tmp 3), none⟩, ⟨some 2, .mov (.tmp 11), none⟩]) .ret) .skip))) (.seq (.seq (.reg [⟨some 12, .faddr (.tmp 1) 8, none⟩, ⟨some 13, .load none (.tmp 12), none⟩, ⟨some 14, .len false (.tmp 13), none⟩, ⟨some 15, .bin .gtr (.tmp 14) (.con (.int .i64 20)), none⟩]) (.cond (.tmp 15) (.seq (.reg [⟨some 2, .mov (.con (.int .i64 5)), none⟩]) .ret) .skip)) (.seq (.seq (.reg [⟨some 16, .faddr (.tmp 1) 8, none⟩, ⟨some 17, .load none (.tmp 16), none⟩, ⟨some 18, .len false (.tmp 17), none⟩, ⟨some 19, .mov (.con (.int .i64 0)), none⟩]) (.block 0 (.loop (.seq (.reg [⟨some 20, .bin .lss (.tmp 19) (.tmp 18), none⟩]) (.seq (.cond (.tmp 20) .skip (.exit 0)) (.seq (.block 1 (.seq (.reg [⟨some 21, .iaddr (.tmp 17) (.tmp 19) 7 none, none⟩, ⟨some 22, .load (some 7) (.tmp 21), none⟩, ⟨some 5, .box (.con (.agg [.int .i64 0, .int .i64 0, .int .i64 0, .int .i64 0, .int .i64 0, .int .i64 0, .int .i64 0])), none⟩, ⟨none, .store 7 (.tmp 5) (.tmp 22), none⟩]) (.seq (.reg [⟨some 23, .load (some 9) (.tmp 1), none⟩, ⟨some 24, .load (some 7) (.tmp 5), none⟩, ⟨some 25, .call (.con (.fn 73 [] [])) [(.tmp 23), (.tmp 24)], none⟩, ⟨some 6, .mov (.tmp 25), none⟩]) (.seq (.reg [⟨some 26, .mov (.tmp 6), none⟩, ⟨some 27, .bin .neq (.tmp 26) (.con (.int .i64 0)), none⟩]) (.cond (.tmp 27) (.seq (.reg [⟨some 28, .mov (.tmp 6), none⟩, ⟨some 2, .mov (.tmp 28), none⟩]) .ret) .skip))))) (.reg [⟨some 29, .bin .add (.tmp 19) (.con (.int .i64 1)), none⟩, ⟨some 19, .mov (.tmp 29), none⟩]))))))) (.seq (.reg [⟨some 2, .mov (.con (.int .i64 0)), none⟩]) .ret)))))⟩
theorem comp22 : compFn Try.prog 22 = some F22 := by kernel_rfl
def F23 : AFn := ⟨1, 81, [.tmp 2], (.seq (.reg [⟨some 1, .box (.tmp 0), none⟩, ⟨some 2, .mov (.con (.int .i64 0)), none⟩]) (.seq (.seq (.reg [⟨some 5, .faddr (.tmp 1) 0, none⟩, ⟨some 6, .load none (.tmp 5), none⟩, ⟨some 7, .call (.con (.fn 74 [] [])) [(.tmp 6), (.con (.int .i64 1)), (.con (.int .i64 3000))], none⟩, ⟨some 8, .un .not (.tmp 7), none⟩, ⟨some 9, .mov (.tmp 8), none⟩, ⟨some 10, .faddr (.tmp 1) 1, some (9, false)⟩, ⟨some 11, .load none (.tmp 10), some (9, false)⟩, ⟨some 12, .call (.con (.fn 74 [] [])) [(.tmp 11), (.con (.int .i64 1)), (.con (.int .i64 1000))], some (9, false)⟩, ⟨some 13, .un .not (.tmp 12), some (9, false)⟩, ⟨some 14, .pick (.tmp 9) (.con (.bool true)) (.tmp 13), none⟩, ⟨some 15, .mov (.tmp 14), none⟩, ⟨some 16, .faddr (.tmp 1) 2, some (15, false)⟩, ⟨some 17, .load none (.tmp 16), some (15, false)⟩, ⟨some 18, .faddr (.tmp 1) 0, some (15, false)⟩, ⟨some 19, .load none (.tmp 18), some (15, false)⟩, ⟨some 20, .call (.con (.fn 74 [] [])) [(.tmp 17), (.con (.int .i64 0)), (.tmp 19)], some (15, false)⟩, ⟨some 21, .un .not (.tmp 20), some (15, false)⟩, ⟨some 22, .pick (.tmp 15) (.con (.bool true)) (.tmp 21), none⟩, ⟨some 23, .mov (.tmp 22), none⟩, ⟨some 24, .faddr (.tmp 1) 3, some (23, false)⟩, ⟨some 25, .load none (.tmp 24), some (23, false)⟩, ⟨some 26, .faddr (.tmp 1) 0, some (23, false)⟩, ⟨some 27, .load none (.tmp 26), some (23, false)⟩, ⟨some 28, .call (.con (.fn 74 [] [])) [(.tmp 25), (.con (.int .i64 0)), (.tmp 27)], some (23, false)⟩, ⟨some 29, .un .not (.tmp 28), some (23, false)⟩, ⟨some 30, .pick (.tmp 23) (.con (.bool true)) (.tmp 29), none⟩]) (.cond (.tmp 30) (.seq (.reg [⟨some 2, .mov (.con (.int .i64 2)), none⟩]) .ret) .skip)) (.seq (.seq (.reg [⟨some 31, .faddr (.tmp 1) 2, none⟩, ⟨some 32, .load none (.tmp 31), none⟩, ⟨some 33, .faddr (.tmp 1) 3, none⟩, ⟨some 34, .load none (.tmp 33), none⟩, ⟨some 35, .bin .geq (.tmp 32) (.tmp 34), none⟩]) (.cond (.tmp 35) (.seq (.reg [⟨some 2, .mov (.con (.int .i64 9)), none⟩]) .ret) .skip)) (.seq (.seq (.reg [⟨some 36, .faddr (.tmp 1) 4, none⟩, ⟨some 37, .load none (.tmp 36), none⟩, ⟨some 38, .call (.con (.fn 74 [] [])) [(.tmp 37), (.con (.int .i64 0)), (.con (.int .i64 20000))], none⟩, ⟨some 39, .un .not (.tmp 38), none⟩, ⟨some 40, .mov (.tmp 39), none⟩, ⟨some 41, .faddr (.tmp 1) 5, some (40, false)⟩, ⟨some 42, .load none (.tmp 41), some (40, false)⟩, ⟨some 43, .call (.con (.fn 74 [] [])) [(.tmp 42), (.con (.int .i64 0)), (.con (.int .i64 100000))], some (40, false)⟩, ⟨some 44, .un .not (.tmp 43), some (40, false)⟩, ⟨some 45, .pick (.tmp 40) (.con (.bool true)) (.tmp 44), none⟩, ⟨some 46, .mov (.tmp 45), none⟩, ⟨some 47, .faddr (.tmp 1) 6, some (46, false)⟩, ⟨some 48, .load none (.tmp 47), some (46, false)⟩, ⟨some 49, .faddr (.tmp 1) 0, some (46, false)⟩, ⟨some 50, .load none (.tmp 49), some (46, false)⟩, ⟨some 51, .call (.con (.fn 74 [] [])) [(.tmp 48), (.con (.int .i64 0)), (.tmp 50)], some (46, false)⟩, ⟨some 52, .un .not (.tmp 51), some (46, false)⟩, ⟨some 53, .pick (.tmp 46) (.con (.bool true)) (.tmp 52), none⟩, ⟨some 54, .mov (.tmp 53), none⟩, ⟨some 55, .faddr (.tmp 1) 7, some (54, false)⟩, ⟨some 56, .load none (.tmp 55), some (54, false)⟩, ⟨some 57, .call (.con (.fn 74 [] [])) [(.tmp 56), (.con (.int .i64 0)), (.con (.int .i64 2000))], some (54, false)⟩, ⟨some 58, .un .not (.tmp 57), some (54, false)⟩, ⟨some 59, .pick (.tmp 54) (.con (.bool true)) (.tmp 58), none⟩]) (.cond (.tmp 59) (.seq (.reg [⟨some 2, .mov (.con (.int .i64 2)), none⟩]) .ret) .skip)) (.seq (.seq (.reg [⟨some 60, .faddr (.tmp 1) 8, none⟩, ⟨some 61, .load none (.tmp 60), none⟩, ⟨some 62, .len false (.tmp 61), none⟩, ⟨some 63, .bin .gtr (.tmp 62) (.con (.int .i64 20)), none⟩]) (.cond (.tmp 63) (.seq (.reg [⟨some 2, .mov (.con (.int .i64 5)), none⟩]) .ret) .skip)) (.seq (.seq (.reg [⟨some 3, .mov (.con (.int .i64 0)), none⟩]) (.block 0 (.loop (.seq (.seq (.reg [⟨some 64, .mov (.tmp 3), none⟩, ⟨some 65, .faddr (.tmp 1) 8, none⟩, ⟨some 66, .load none (.tmp 65), none⟩, ⟨some 67, .len false (.tmp 66), none⟩, ⟨some 68, .bin .lss (.tmp 64) (.tmp 67), none⟩]) (.cond (.tmp 68) .skip (.exit 0))) (.seq (.block 1 (.seq (.dreg 6 [⟨some 71, .load (some 9) (.tmp 1), none⟩, ⟨some 72, .faddr (.tmp 1) 8, none⟩, ⟨some 73, .load none (.tmp 72), none⟩, ⟨some 74, .mov (.tmp 3), none⟩, ⟨some 75, .iaddr (.tmp 73) (.tmp 74) 7 none, none⟩, ⟨some 76, .load (some 7) (.tmp 75), none⟩, ⟨some 77, .call (.con (.fn 75 [] [])) [(.tmp 71), (.tmp 76)], none⟩, ⟨some 4, .mov (.tmp 77), none⟩]) (.seq (.reg [⟨some 78, .mov (.tmp 4), none⟩, ⟨some 79, .bin .neq (.tmp 78) (.con (.int .i64 0)), none⟩]) (.cond (.tmp 79) (.seq (.reg [⟨some 80, .mov (.tmp 4), none⟩, ⟨some 2, .mov (.tmp 80), none⟩]) .ret) .skip)))) (.reg [⟨some 69, .mov (.tmp 3), none⟩, ⟨some 70, .bin .add (.tmp 69) (.con (.int .i64 1)), none⟩, ⟨some 3, .mov (.tmp 70), none⟩])))))) (.seq (.reg [⟨some 2, .mov (.con (.int .i64 0)), none⟩]) .ret)))))))⟩
theorem comp23 : compFn Try.prog 23 = some F23 := by kernel_rfl
def F24 : AFn := ⟨2, 92, [.tmp 4], (.seq (.reg [⟨some 2, .box (.tmp 0), none⟩, ⟨some 3, .box (.tmp 1), none⟩, ⟨some 4, .mov (.con (.bool false)), none⟩]) (.seq (.reg [⟨some 7, .faddr (.tmp 2) 0, none⟩, ⟨some 8, .load none (.tmp 7), none⟩, ⟨some 9, .faddr (.tmp 3) 0, none⟩, ⟨some 10, .load none (.tmp 9), none⟩, ⟨some 11, .bin .eql (.tmp 8) (.tmp 10), none⟩, ⟨some 12, .mov (.tmp 11), none⟩, ⟨some 13, .faddr (.tmp 2) 1, some (12, true)⟩, ⟨some 14, .load none (.tmp 13), some (12, true)⟩, ⟨some 15, .faddr (.tmp 3) 1, some (12, true)⟩, ⟨some 16, .load none (.tmp 15), some (12, true)⟩, ⟨some 17, .bin .eql (.tmp 14) (.tmp 16), some (12, true)⟩, ⟨some 18, .pick (.tmp 12) (.tmp 17) (.con (.bool false)), none⟩, ⟨some 19, .mov (.tmp 18), none⟩, ⟨some 20, .faddr (.tmp 2) 2, some (19, true)⟩, ⟨some 21, .load none (.tmp 20), some (19, true)⟩, ⟨some 22, .faddr (.tmp 3) 2, some (19, true)⟩, ⟨some 23, .load none (.tmp 22), some (19, true)⟩, ⟨some 24, .bin .eql (.tmp 21) (.tmp 23), some (19, true)⟩, ⟨some 25, .pick (.tmp 19) (.tmp 24) (.con (.bool false)), none⟩, ⟨some 26, .mov (.tmp 25), none⟩, ⟨some 27, .faddr (.tmp 2) 3, some (26, true)⟩, ⟨some 28, .load none (.tmp 27), some (26, true)⟩, ⟨some 29, .faddr (.tmp 3) 3, some (26, true)⟩, ⟨some 30, .load none (.tmp 29), some (26, true)⟩, ⟨some 31, .bin .eql (.tmp 28) (.tmp 30), some (26, true)⟩, ⟨some 32, .pick (.tmp 26) (.tmp 31) (.con (.bool false)), none⟩, ⟨some 33, .mov (.tmp 32), none⟩, ⟨some 34, .faddr (.tmp 2) 4, some (33, true)⟩, ⟨some 35, .load none (.tmp 34), some (33, true)⟩, ⟨some 36, .faddr (.tmp 3) 4, some (33, true)⟩, ⟨some 37, .load none (.tmp 36), some (33, true)⟩, ⟨some 38, .bin .eql (.tmp 35) (.tmp 37), some (33, true)⟩, ⟨some 39, .pick (.tmp 33) (.tmp 38) (.con (.bool false)), none⟩, ⟨some 40, .mov (.tmp 39), none⟩, ⟨some 41, .faddr (.tmp 2) 5, some (40, true)⟩, ⟨some 42, .load none (.tmp 41), some (40, true)⟩, ⟨some 43, .faddr (.tmp 3) 5, some (40, true)⟩, ⟨some 44, .load none (.tmp 43), some (40, true)⟩, ⟨some 45, .bin .eql (.tmp 42) (.tmp 44), some (40, true)⟩, ⟨some 46, .pick (.tmp 40) (.tmp 45) (.con (.bool false)), none⟩, ⟨some 47, .mov (.tmp 46), none⟩, ⟨some 48, .faddr (.tmp 2) 6, some (47, true)⟩, ⟨some 49, .load none (.tmp 48), some (47, true)⟩, ⟨some 50, .faddr (.tmp 3) 6, some (47, true)⟩, ⟨some 51, .load none (.tmp 50), some (47, true)⟩, ⟨some 52, .bin .eql (.tmp 49) (.tmp 51), some (47, true)⟩, ⟨some 53, .pick (.tmp 47) (.tmp 52) (.con (.bool false)), none⟩, ⟨some 54, .mov (.tmp 53), none⟩, ⟨some 55, .faddr (.tmp 2) 7, some (54, true)⟩, ⟨some 56, .load none (.tmp 55), some (54, true)⟩, ⟨some 57, .faddr (.tmp 3) 7, some (54, true)⟩, ⟨some 58, .load none (.tmp 57), some (54, true)⟩, ⟨some 59, .bin .eql (.tmp 56) (.tmp 58), some (54, true)⟩, ⟨some 60, .pick (.tmp 54) (.tmp 59) (.con (.bool false)), none⟩, ⟨some 61, .mov (.tmp 60), none⟩, ⟨some 62, .faddr (.tmp 2) 8, some (61, true)⟩, ⟨some 63, .load none (.tmp 62), some (61, true)⟩, ⟨some 64, .len false (.tmp 63), some (61, true)⟩, ⟨some 65, .faddr (.tmp 3) 8, some (61, true)⟩, ⟨some 66, .load none (.tmp 65), some (61, true)⟩, ⟨some 67, .len false (.tmp 66), some (61, true)⟩, ⟨some 68, .bin .eql (.tmp 64) (.tmp 67), some (61, true)⟩, ⟨some 69, .pick (.tmp 61) (.tmp 68) (.con (.bool false)), none⟩, ⟨some 5, .mov (.tmp 69), none⟩]) (.seq (.seq (.reg [⟨some 6, .mov (.con (.int .i64 0)), none⟩]) (.block 0 (.loop (.seq (.seq (.reg [⟨some 70, .mov (.tmp 5), none⟩, ⟨some 71, .mov (.tmp 70), none⟩, ⟨some 72, .mov (.tmp 6), some (71, true)⟩, ⟨some 73, .faddr (.tmp 2) 8, some (71, true)⟩, ⟨some 74, .load none (.tmp 73), some (71, true)⟩, ⟨some 75, .len false (.tmp 74), some (71, true)⟩, ⟨some 76, .bin .lss (.tmp 72) (.tmp 75), some (71, true)⟩, ⟨some 77, .pick (.tmp 71) (.tmp 76) (.con (.bool false)), none⟩]) (.cond (.tmp 77) .skip (.exit 0))) (.seq (.block 1 (.dreg 10 [⟨some 80, .faddr (.tmp 2) 8, none⟩, ⟨some 81, .load none (.tmp 80), none⟩, ⟨some 82, .mov (.tmp 6), none⟩, ⟨some 83, .iaddr (.tmp 81) (.tmp 82) 7 none, none⟩, ⟨some 84, .load (some 7) (.tmp 83), none⟩, ⟨some 85, .faddr (.tmp 3) 8, none⟩, ⟨some 86, .load none (.tmp 85), none⟩, ⟨some 87, .mov (.tmp 6), none⟩, ⟨some 88, .iaddr (.tmp 86) (.tmp 87) 7 none, none⟩, ⟨some 89, .load (some 7) (.tmp 88), none⟩, ⟨some 90, .eqs false (.cons 0 none (.sc 1) (.cons 1 (some 2) (.cons 0 none (.sc 1) (.cons 1 none (.sc 1) .nil)) (.cons 3 (some 2) (.cons 0 none (.sc 1) (.cons 1 none (.sc 1) .nil)) (.cons 5 none (.sc 1) (.cons 6 none (.sc 1) .nil))))) (.tmp 84) (.tmp 89), none⟩, ⟨some 5, .mov (.tmp 90), none⟩])) (.reg [⟨some 78, .mov (.tmp 6), none⟩, ⟨some 79, .bin .add (.tmp 78) (.con (.int .i64 1)), none⟩, ⟨some 6, .mov (.tmp 79), none⟩])))))) (.seq (.reg [⟨some 91, .mov (.tmp 5), none⟩, ⟨some 4, .mov (.tmp 91), none⟩]) .ret))))⟩
theorem comp24 : compFn Try.prog 24 = some F24 := by kernel_rfl
def F27 : AFn := ⟨3, 15, [.tmp 6], (.seq (.reg [⟨some 6, .mov (.con (.int .i64 0)), none⟩]) (.seq (.reg [⟨some 7, .mov (.tmp 1), none⟩, ⟨some 8, .mov (.tmp 0), none⟩, ⟨some 9, .mov (.tmp 2), none⟩, ⟨some 10, .mov (.tmp 1), none⟩, ⟨some 11, .bin .sub (.tmp 9) (.tmp 10), none⟩, ⟨some 12, .bin .add (.tmp 11) (.con (.int .i64 1)), none⟩, ⟨some 13, .call (.con (.fn 38 [] [])) [(.tmp 8), (.tmp 12)], none⟩, ⟨some 14, .bin .add (.tmp 7) (.tmp 13), none⟩, ⟨some 6, .mov (.tmp 14), none⟩]) .ret))⟩
theorem comp27 : compFn Try.prog 27 = some F27 := by kernel_rfl
def F28 : AFn := ⟨2, 16, [.tmp 4, .tmp 5], (.seq (.reg [⟨some 2, .box (.tmp 0), none⟩, ⟨some 4, .mov (.con (.nils)), none⟩, ⟨some 5, .mov (.con (.int .i64 0)), none⟩]) (.seq (.seq (.reg [⟨some 7, .load (some 9) (.tmp 2), none⟩, ⟨some 8, .mov (.tmp 1), none⟩, ⟨some 9, .call (.con (.fn 77 [] [])) [(.tmp 7), (.tmp 8)], none⟩, ⟨some 6, .mov (.tmp 9), none⟩]) (.seq (.reg [⟨some 10, .mov (.tmp 6), none⟩, ⟨some 11, .bin .neq (.tmp 10) (.con (.int .i64 0)), none⟩]) (.cond (.tmp 11) (.seq (.reg [⟨some 12, .mov (.tmp 6), none⟩, ⟨some 4, .mov (.con (.nils)), none⟩, ⟨some 5, .mov (.tmp 12), none⟩]) .ret) .skip))) (.seq (.reg [⟨some 13, .load (some 9) (.tmp 2), none⟩, ⟨some 14, .mov (.tmp 1), none⟩, ⟨some 15, .call (.con (.fn 78 [] [])) [(.tmp 13), (.tmp 14)], none⟩, ⟨some 4, .mov (.tmp 15), none⟩, ⟨some 5, .mov (.con (.int .i64 0)), none⟩]) .ret)))⟩
theorem comp28 : compFn Try.prog 28 = some F28 := by kernel_rfl
def F32 : AFn := ⟨3, 38, [.cell 6 (some 2), .tmp 7], (.seq (.reg [⟨some 3, .box (.tmp 0), none⟩, ⟨some 4, .box (.tmp 1), none⟩, ⟨some 5, .box (.tmp 2), none⟩, ⟨some 6, .box (.con (.agg [.int .i64 0, .int .i64 0])), none⟩, ⟨some 7, .mov (.con (.int .i64 0)), none⟩]) (.seq (.seq (.reg [⟨some 11, .load (some 9) (.tmp 3), none⟩, ⟨some 12, .load none (.tmp 4), none⟩, ⟨some 13, .call (.con (.fn 77 [] [])) [(.tmp 11), (.tmp 12)], none⟩, ⟨some 8, .mov (.tmp 13), none⟩]) (.seq (.reg [⟨some 14, .mov (.tmp 8), none⟩, ⟨some 15, .bin .neq (.tmp 14) (.con (.int .i64 0)), none⟩]) (.cond (.tmp 15) (.seq (.reg [⟨some 16, .build [.int .i64 0, .int .i64 0] [], none⟩, ⟨some 17, .mov (.tmp 8), none⟩, ⟨none, .store 2 (.tmp 6) (.tmp 16), none⟩, ⟨some 7, .mov (.tmp 17), none⟩]) .ret) .skip))) (.seq (.seq (.reg [⟨some 18, .load none (.tmp 5), none⟩, ⟨some 19, .faddr (.tmp 3) 2, none⟩, ⟨some 20, .load none (.tmp 19), none⟩, ⟨some 21, .faddr (.tmp 3) 3, none⟩, ⟨some 22, .load none (.tmp 21), none⟩, ⟨some 23, .call (.con (.fn 83 [] [])) [(.tmp 18), (.tmp 20), (.tmp 22)], none⟩, ⟨some 24, .un .not (.tmp 23), none⟩]) (.cond (.tmp 24) (.seq (.reg [⟨some 25, .build [.int .i64 0, .int .i64 0] [], none⟩, ⟨none, .store 2 (.tmp 6) (.tmp 25), none⟩, ⟨some 7, .mov (.con (.int .i64 2)), none⟩]) .ret) .skip)) (.seq (.reg [⟨some 26, .mkfn 85 [] [(.tmp 3), (.tmp 5)], none⟩, ⟨some 27, .call (.con (.fn 84 [] [])) [(.con (.int .i64 100001)), (.tmp 26)], none⟩, ⟨some 9, .mov (.tmp 27), none⟩]) (.seq (.reg [⟨some 28, .mkfn 87 [] [(.tmp 3), (.tmp 5), (.tmp 4)], none⟩, ⟨some 29, .call (.con (.fn 84 [] [])) [(.con (.int .i64 100001)), (.tmp 28)], none⟩, ⟨some 10, .mov (.tmp 29), none⟩]) (.seq (.seq (.reg [⟨some 30, .mov (.tmp 9), none⟩, ⟨some 31, .mov (.tmp 10), none⟩, ⟨some 32, .bin .geq (.tmp 30) (.tmp 31), none⟩]) (.cond (.tmp 32) (.seq (.reg [⟨some 33, .build [.int .i64 0, .int .i64 0] [], none⟩, ⟨none, .store 2 (.tmp 6) (.tmp 33), none⟩, ⟨some 7, .mov (.con (.int .i64 7)), none⟩]) .ret) .skip)) (.seq (.reg [⟨some 34, .mov (.tmp 9), none⟩, ⟨some 35, .mov (.tmp 10), none⟩, ⟨some 36, .bin .sub (.tmp 35) (.con (.int .i64 1)), none⟩, ⟨some 37, .build [.int .i64 0, .int .i64 0] [(0, 1, (.tmp 34)), (1, 1, (.tmp 36))], none⟩, ⟨none, .store 2 (.tmp 6) (.tmp 37), none⟩, ⟨some 7, .mov (.con (.int .i64 0)), none⟩]) .ret)))))))⟩
theorem comp32 : compFn Try.prog 32 = some F32 := by kernel_rfl
def F34 : AFn := ⟨1, 21, [.tmp 2], (.seq (.reg [⟨some 2, .mov (.con (.int .i64 0)), none⟩]) (.seq (.seq (.reg [⟨some 6, .mov (.tmp 0), none⟩, ⟨some 7, .len false (.tmp 6), none⟩, ⟨some 8, .bin .gtr (.tmp 7) (.con (.int .i64 40)), none⟩]) (.cond (.tmp 8) (.seq (.reg [⟨some 2, .mov (.con (.int .i64 5)), none⟩]) .ret) .skip)) (.seq (.seq (.reg [⟨some 9, .mov (.tmp 0), none⟩, ⟨some 10, .len false (.tmp 9), none⟩, ⟨some 11, .mov (.con (.int .i64 0)), none⟩]) (.block 0 (.loop (.seq (.reg [⟨some 12, .bin .lss (.tmp 11) (.tmp 10), none⟩]) (.seq (.cond (.tmp 12) .skip (.exit 0)) (.seq (.block 1 (.seq (.reg [⟨some 13, .iaddr (.tmp 9) (.tmp 11) 3 none, none⟩, ⟨some 14, .load (some 3) (.tmp 13), none⟩, ⟨some 4, .box (.con (.agg [.int .i64 0, .int .i64 0, .int .i64 0])), none⟩, ⟨none, .store 3 (.tmp 4) (.tmp 14), none⟩]) (.seq (.reg [⟨some 15, .load (some 3) (.tmp 4), none⟩, ⟨some 16, .call (.con (.fn 89 [] [])) [(.tmp 15)], none⟩, ⟨some 5, .mov (.tmp 16), none⟩]) (.seq (.reg [⟨some 17, .mov (.tmp 5), none⟩, ⟨some 18, .bin .neq (.tmp 17) (.con (.int .i64 0)), none⟩]) (.cond (.tmp 18) (.seq (.reg [⟨some 19, .mov (.tmp 5), none⟩, ⟨some 2, .mov (.tmp 19), none⟩]) .ret) .skip))))) (.reg [⟨some 20, .bin .add (.tmp 11) (.con (.int .i64 1)), none⟩, ⟨some 11, .mov (.tmp 20), none⟩]))))))) (.seq (.reg [⟨some 2, .mov (.con (.int .i64 0)), none⟩]) .ret))))⟩
theorem comp34 : compFn Try.prog 34 = some F34 := by kernel_rfl
def F36 : AFn := ⟨2, 26, [.tmp 4], (.seq (.reg [⟨some 4, .mov (.con (.bool false)), none⟩]) (.seq (.seq (.reg [⟨some 6, .mov (.tmp 0), none⟩, ⟨some 7, .len false (.tmp 6), none⟩, ⟨some 8, .mov (.tmp 1), none⟩, ⟨some 9, .len false (.tmp 8), none⟩, ⟨some 10, .bin .neq (.tmp 7) (.tmp 9), none⟩]) (.cond (.tmp 10) (.seq (.reg [⟨some 4, .mov (.con (.bool false)), none⟩]) .ret) .skip)) (.seq (.seq (.reg [⟨some 5, .mov (.con (.int .i64 0)), none⟩]) (.block 0 (.loop (.seq (.seq (.reg [⟨some 11, .mov (.tmp 5), none⟩, ⟨some 12, .mov (.tmp 0), none⟩, ⟨some 13, .len false (.tmp 12), none⟩, ⟨some 14, .bin .lss (.tmp 11) (.tmp 13), none⟩]) (.cond (.tmp 14) .skip (.exit 0))) (.seq (.block 1 (.seq (.dreg 8 [⟨some 17, .mov (.tmp 0), none⟩, ⟨some 18, .mov (.tmp 5), none⟩, ⟨some 19, .iaddr (.tmp 17) (.tmp 18) 1 none, none⟩, ⟨some 20, .load none (.tmp 19), none⟩, ⟨some 21, .mov (.tmp 1), none⟩, ⟨some 22, .mov (.tmp 5), none⟩, ⟨some 23, .iaddr (.tmp 21) (.tmp 22) 1 none, none⟩, ⟨some 24, .load none (.tmp 23), none⟩, ⟨some 25, .bin .neq (.tmp 20) (.tmp 24), none⟩]) (.cond (.tmp 25) (.seq (.reg [⟨some 4, .mov (.con (.bool false)), none⟩]) .ret) .skip))) (.reg [⟨some 15, .mov (.tmp 5), none⟩, ⟨some 16, .bin .add (.tmp 15) (.con (.int .i64 1)), none⟩, ⟨some 5, .mov (.tmp 16), none⟩])))))) (.seq (.reg [⟨some 4, .mov (.con (.bool true)), none⟩]) .ret))))⟩
theorem comp36 : compFn Try.prog 36 = some F36 := by kernel_rfl
def F38 : AFn := ⟨2, 14, [.tmp 4], (.seq (.reg [⟨some 4, .mov (.con (.int .i64 0)), none⟩]) (.seq (.seq (.reg [⟨some 5, .mov (.tmp 1), none⟩, ⟨some 6, .bin .lss (.tmp 5) (.con (.int .i64 2)), none⟩]) (.cond (.tmp 6) (.seq (.reg [⟨some 4, .mov (.con (.int .i64 0)), none⟩]) .ret) .skip)) (.seq (.reg [⟨some 7, .mov (.tmp 0), none⟩, ⟨some 8, .call (.con (.fn 59 [] [])) [(.tmp 7)], none⟩, ⟨some 9, .bin .shr (.tmp 8) (.con (.int .u64 1)), none⟩, ⟨some 10, .mov (.tmp 1), none⟩, ⟨some 11, .conv .u64 (.tmp 10), none⟩, ⟨some 12, .bin .rem (.tmp 9) (.tmp 11), none⟩, ⟨some 13, .conv .i64 (.tmp 12), none⟩, ⟨some 4, .mov (.tmp 13), none⟩]) .ret)))⟩
theorem comp38 : compFn Try.prog 38 = some F38 := by kernel_rfl
def F39 : AFn := ⟨2, 58, [.cell 4 none, .cell 5 none, .tmp 6], (.seq (.reg [⟨some 2, .box (.tmp 0), none⟩, ⟨some 3, .box (.tmp 1), none⟩, ⟨some 4, .box (.con (.nils)), none⟩, ⟨some 5, .box (.con (.int .i64 0)), none⟩, ⟨some 6, .mov (.con (.int .i64 0)), none⟩]) (.seq (.seq (.reg [⟨some 14, .load (some 9) (.tmp 2), none⟩, ⟨some 15, .call (.con (.fn 22 [] [])) [(.tmp 14)], none⟩, ⟨some 7, .mov (.tmp 15), none⟩]) (.seq (.reg [⟨some 16, .mov (.tmp 7), none⟩, ⟨some 17, .bin .neq (.tmp 16) (.con (.int .i64 0)), none⟩]) (.cond (.tmp 17) (.seq (.reg [⟨some 18, .mov (.tmp 7), none⟩, ⟨none, .store 1 (.tmp 4) (.con (.nils)), none⟩, ⟨none, .store 1 (.tmp 5) (.con (.int .i64 0)), none⟩, ⟨some 6, .mov (.tmp 18), none⟩]) .ret) .skip))) (.seq (.seq (.reg [⟨some 19, .load none (.tmp 3), none⟩, ⟨some 20, .call (.con (.fn 83 [] [])) [(.tmp 19), (.con (.int .i64 0)), (.con (.int .i64 3000))], none⟩, ⟨some 21, .un .not (.tmp 20), none⟩]) (.cond (.tmp 21) (.seq (.reg [⟨none, .store 1 (.tmp 4) (.con (.nils)), none⟩, ⟨none, .store 1 (.tmp 5) (.con (.int .i64 0)), none⟩, ⟨some 6, .mov (.con (.int .i64 2)), none⟩]) .ret) .skip)) (.seq (.seq (.reg [⟨some 22, .faddr (.tmp 2) 8, none⟩, ⟨some 23, .load none (.tmp 22), none⟩, ⟨some 24, .call (.con (.fn 91 [] [])) [(.tmp 23), (.con (.int .i64 2))], none⟩]) (.block 0 (.rangeF (.tmp 24) [25, 26] (.seq (.reg [⟨some 8, .box (.con (.int .i64 0)), none⟩, ⟨none, .store 1 (.tmp 8) (.tmp 25), none⟩]) (.reg [⟨some 9, .box (.con (.agg [.int .i64 0, .int .i64 0, .int .i64 0, .int .i64 0, .int .i64 0, .int .i64 0, .int .i64 0])), none⟩, ⟨none, .store 7 (.tmp 9) (.tmp 26), none⟩])) (.block 1 (.seq (.reg [⟨some 27, .load none (.tmp 5), none⟩, ⟨some 28, .faddr (.tmp 9) 6, none⟩, ⟨some 29, .load none (.tmp 28), none⟩, ⟨some 30, .bin .add (.tmp 27) (.tmp 29), none⟩, ⟨none, .store 1 (.tmp 5) (.tmp 30), none⟩]) (.seq (.reg [⟨some 31, .faddr (.tmp 2) 8, none⟩, ⟨some 32, .load none (.tmp 31), none⟩, ⟨some 33, .call (.con (.fn 91 [] [])) [(.tmp 32), (.con (.int .i64 4))], none⟩]) (.block 2 (.rangeF (.tmp 33) [34, 35] (.seq (.reg [⟨some 10, .mov (.tmp 34), none⟩]) (.reg [⟨some 11, .box (.con (.agg [.int .i64 0, .int .i64 0, .int .i64 0, .int .i64 0, .int .i64 0, .int .i64 0, .int .i64 0])), none⟩, ⟨none, .store 7 (.tmp 11) (.tmp 35), none⟩])) (.block 3 (.seq (.dreg 4 [⟨some 36, .load (some 7) (.tmp 9), none⟩, ⟨some 37, .load (some 7) (.tmp 11), none⟩, ⟨some 38, .call (.con (.fn 92 [] [])) [(.tmp 36), (.tmp 37)], none⟩, ⟨some 39, .load none (.tmp 3), none⟩, ⟨some 40, .bin .lss (.tmp 38) (.tmp 39), none⟩]) (.cond (.tmp 40) (.reg [⟨some 41, .load none (.tmp 4), none⟩, ⟨some 42, .load none (.tmp 8), none⟩, ⟨some 43, .mov (.tmp 10), none⟩, ⟨some 44, .build [.int .i64 0, .int .i64 0] [(0, 1, (.tmp 42)), (1, 1, (.tmp 43))], none⟩, ⟨some 45, .bsl 2 true [.int .i64 0, .int .i64 0] 1 [(0, (.tmp 44))], none⟩, ⟨some 46, .app (.tmp 41) (.tmp 45) 2 16 [.int .i64 0, .int .i64 0], none⟩, ⟨none, .store 1 (.tmp 4) (.tmp 46), none⟩]) .skip))))))))))) (.seq (.seq (.reg [⟨some 47, .faddr (.tmp 2) 8, none⟩, ⟨some 48, .load none (.tmp 47), none⟩, ⟨some 49, .call (.con (.fn 91 [] [])) [(.tmp 48), (.con (.int .i64 3))], none⟩]) (.block 4 (.rangeF (.tmp 49) [50, 51] (.reg [⟨some 13, .box (.con (.agg [.int .i64 0, .int .i64 0, .int .i64 0, .int .i64 0, .int .i64 0, .int .i64 0, .int .i64 0])), none⟩, ⟨none, .store 7 (.tmp 13) (.tmp 51), none⟩]) (.block 5 (.reg [⟨some 52, .load none (.tmp 5), none⟩, ⟨some 53, .faddr (.tmp 13) 6, none⟩, ⟨some 54, .load none (.tmp 53), none⟩, ⟨some 55, .bin .sub (.tmp 52) (.tmp 54), none⟩, ⟨none, .store 1 (.tmp 5) (.tmp 55), none⟩]))))) (.seq (.dreg 3 [⟨some 56, .load none (.tmp 4), none⟩, ⟨some 57, .load none (.tmp 5), none⟩, ⟨none, .store 1 (.tmp 4) (.tmp 56), none⟩, ⟨none, .store 1 (.tmp 5) (.tmp 57), none⟩, ⟨some 6, .mov (.con (.int .i64 0)), none⟩]) .ret))))))⟩
theorem comp39 : compFn Try.prog 39 = some F39 := by kernel_rfl
def F40 : AFn := ⟨2, 97, [.tmp 4, .tmp 5, .tmp 6], (.seq (.reg [⟨some 2, .box (.tmp 0), none⟩, ⟨some 4, .mov (.con (.nils)), none⟩, ⟨some 5, .mov (.con (.int .i64 0)), none⟩, ⟨some 6, .mov (.con (.int .i64 0)), none⟩]) (.seq (.seq (.reg [⟨some 13, .load (some 9) (.tmp 2), none⟩, ⟨some 14, .call (.con (.fn 23 [] [])) [(.tmp 13)], none⟩, ⟨some 7, .mov (.tmp 14), none⟩]) (.seq (.reg [⟨some 15, .mov (.tmp 7), none⟩, ⟨some 16, .bin .neq (.tmp 15) (.con (.int .i64 0)), none⟩]) (.cond (.tmp 16) (.seq (.reg [⟨some 17, .mov (.tmp 7), none⟩, ⟨some 4, .mov (.con (.nils)), none⟩, ⟨some 5, .mov (.con (.int .i64 0)), none⟩, ⟨some 6, .mov (.tmp 17), none⟩]) .ret) .skip))) (.seq (.seq (.reg [⟨some 18, .mov (.tmp 1), none⟩, ⟨some 19, .call (.con (.fn 74 [] [])) [(.tmp 18), (.con (.int .i64 0)), (.con (.int .i64 3000))], none⟩, ⟨some 20, .un .not (.tmp 19), none⟩]) (.cond (.tmp 20) (.seq (.reg [⟨some 4, .mov (.con (.nils)), none⟩, ⟨some 5, .mov (.con (.int .i64 0)), none⟩, ⟨some 6, .mov (.con (.int .i64 2)), none⟩]) .ret) .skip)) (.seq (.reg [⟨some 8, .mov (.con (.nils)), none⟩]) (.seq (.reg [⟨some 9, .mov (.con (.int .i64 0)), none⟩]) (.seq (.seq (.reg [⟨some 10, .mov (.con (.int .i64 0)), none⟩]) (.block 0 (.loop (.seq (.seq (.reg [⟨some 21, .mov (.tmp 10), none⟩, ⟨some 22, .faddr (.tmp 2) 8, none⟩, ⟨some 23, .load none (.tmp 22), none⟩, ⟨some 24, .len false (.tmp 23), none⟩, ⟨some 25, .bin .lss (.tmp 21) (.tmp 24), none⟩]) (.cond (.tmp 25) .skip (.exit 0))) (.seq (.block 1 (.seq (.reg [⟨some 28, .faddr (.tmp 2) 8, none⟩, ⟨some 29, .load none (.tmp 28), none⟩, ⟨some 30, .mov (.tmp 10), none⟩, ⟨some 31, .iaddr (.tmp 29) (.tmp 30) 7 none, none⟩, ⟨some 32, .faddr (.tmp 31) 5, none⟩, ⟨some 33, .load none (.tmp 32), none⟩]) (.block 2 (.seq (.reg [⟨some 35, .bin .eql (.tmp 33) (.con (.int .i64 3)), none⟩, ⟨some 34, .mov (.tmp 35), none⟩]) (.cond (.tmp 34) (.reg [⟨some 36, .mov (.tmp 9), none⟩, ⟨some 37, .faddr (.tmp 2) 8, none⟩, ⟨some 38, .load none (.tmp 37), none⟩, ⟨some 39, .mov (.tmp 10), none⟩, ⟨some 40, .iaddr (.tmp 38) (.tmp 39) 7 none, none⟩, ⟨some 41, .faddr (.tmp 40) 6, none⟩, ⟨some 42, .load none (.tmp 41), none⟩, ⟨some 43, .bin .sub (.tmp 36) (.tmp 42), none⟩, ⟨some 9, .mov (.tmp 43), none⟩]) (.seq (.reg [⟨some 45, .bin .eql (.tmp 33) (.con (.int .i64 2)), none⟩, ⟨some 44, .mov (.tmp 45), none⟩]) (.cond (.tmp 44) (.seq (.reg [⟨some 46, .mov (.tmp 9), none⟩, ⟨some 47, .faddr (.tmp 2) 8, none⟩, ⟨some 48, .load none (.tmp 47), none⟩, ⟨some 49, .mov (.tmp 10), none⟩, ⟨some 50, .iaddr (.tmp 48) (.tmp 49) 7 none, none⟩, ⟨some 51, .faddr (.tmp 50) 6, none⟩, ⟨some 52, .load none (.tmp 51), none⟩, ⟨some 53, .bin .add (.tmp 46) (.tmp 52), none⟩, ⟨some 9, .mov (.tmp 53), none⟩]) (.seq (.reg [⟨some 11, .mov (.con (.int .i64 0)), none⟩]) (.block 3 (.loop (.seq (.seq (.reg [⟨some 54, .mov (.tmp 11), none⟩, ⟨some 55, .faddr (.tmp 2) 8, none⟩, ⟨some 56, .load none (.tmp 55), none⟩, ⟨some 57, .len false (.tmp 56), none⟩, ⟨some 58, .bin .lss (.tmp 54) (.tmp 57), none⟩]) (.cond (.tmp 58) .skip (.exit 3))) (.seq (.block 4 (.seq (.dreg 12 [⟨some 61, .faddr (.tmp 2) 8, none⟩, ⟨some 62, .load none (.tmp 61), none⟩, ⟨some 63, .mov (.tmp 10), none⟩, ⟨some 64, .iaddr (.tmp 62) (.tmp 63) 7 none, none⟩, ⟨some 65, .faddr (.tmp 64) 0, none⟩, ⟨some 66, .load none (.tmp 65), none⟩, ⟨some 67, .faddr (.tmp 2) 8, none⟩, ⟨some 68, .load none (.tmp 67), none⟩, ⟨some 69, .mov (.tmp 11), none⟩, ⟨some 70, .iaddr (.tmp 68) (.tmp 69) 7 none, none⟩, ⟨some 71, .faddr (.tmp 70) 0, none⟩, ⟨some 72, .load none (.tmp 71), none⟩, ⟨some 73, .bin .sub (.tmp 66) (.tmp 72), none⟩, ⟨some 12, .mov (.tmp 73), none⟩]) (.seq (.reg [⟨some 74, .faddr (.tmp 2) 8, none⟩, ⟨some 75, .load none (.tmp 74), none⟩, ⟨some 76, .mov (.tmp 11), none⟩, ⟨some 77, .iaddr (.tmp 75) (.tmp 76) 7 none, none⟩, ⟨some 78, .faddr (.tmp 77) 5, none⟩, ⟨some 79, .load none (.tmp 78), none⟩, ⟨some 80, .bin .eql (.tmp 79) (.con (.int .i64 4)), none⟩, ⟨some 81, .mov (.tmp 80), none⟩, ⟨some 82, .mov (.tmp 12), some (81, true)⟩, ⟨some 83, .mov (.tmp 12), some (81, true)⟩, ⟨some 84, .un .neg (.tmp 83), some (81, true)⟩, ⟨some 85, .mx (.tmp 82) (.tmp 84), some (81, true)⟩, ⟨some 86, .mov (.tmp 1), some (81, true)⟩, ⟨some 87, .bin .lss (.tmp 85) (.tmp 86), some (81, true)⟩, ⟨some 88, .pick (.tmp 81) (.tmp 87) (.con (.bool false)), none⟩]) (.cond (.tmp 88) (.reg [⟨some 89, .mov (.tmp 8), none⟩, ⟨some 90, .mov (.tmp 10), none⟩, ⟨some 91, .mov (.tmp 11), none⟩, ⟨some 92, .build [.int .i64 0, .int .i64 0] [(0, 1, (.tmp 90)), (1, 1, (.tmp 91))], none⟩, ⟨some 93, .bsl 2 true [.int .i64 0, .int .i64 0] 1 [(0, (.tmp 92))], none⟩, ⟨some 94, .app (.tmp 89) (.tmp 93) 2 16 [.int .i64 0, .int .i64 0], none⟩, ⟨some 8, .mov (.tmp 94), none⟩]) .skip)))) (.reg [⟨some 59, .mov (.tmp 11), none⟩, ⟨some 60, .bin .add (.tmp 59) (.con (.int .i64 1)), none⟩, ⟨some 11, .mov (.tmp 60), none⟩]))))))) .skip))))))) (.reg [⟨some 26, .mov (.tmp 10), none⟩, ⟨some 27, .bin .add (.tmp 26) (.con (.int .i64 1)), none⟩, ⟨some 10, .mov (.tmp 27), none⟩])))))) (.seq (.reg [⟨some 95, .mov (.tmp 8), none⟩, ⟨some 96, .mov (.tmp 9), none⟩, ⟨some 4, .mov (.tmp 95), none⟩, ⟨some 5, .mov (.tmp 96), none⟩, ⟨some 6, .mov (.con (.int .i64 0)), none⟩]) .ret)))))))⟩
theorem comp40 : compFn Try.prog 40 = some F40 := by kernel_rfl
def F41 : AFn := ⟨2, 31, [.tmp 4], (.seq (.reg [⟨some 4, .mov (.con (.bool false)), none⟩]) (.seq (.reg [⟨some 7, .mov (.tmp 0), none⟩, ⟨some 8, .len false (.tmp 7), none⟩, ⟨some 9, .mov (.tmp 1), none⟩, ⟨some 10, .len false (.tmp 9), none⟩, ⟨some 11, .bin .eql (.tmp 8) (.tmp 10), none⟩, ⟨some 5, .mov (.tmp 11), none⟩]) (.seq (.seq (.reg [⟨some 6, .mov (.con (.int .i64 0)), none⟩]) (.block 0 (.loop (.seq (.seq (.reg [⟨some 12, .mov (.tmp 5), none⟩, ⟨some 13, .mov (.tmp 12), none⟩, ⟨some 14, .mov (.tmp 6), some (13, true)⟩, ⟨some 15, .mov (.tmp 0), some (13, true)⟩, ⟨some 16, .len false (.tmp 15), some (13, true)⟩, ⟨some 17, .bin .lss (.tmp 14) (.tmp 16), some (13, true)⟩, ⟨some 18, .pick (.tmp 13) (.tmp 17) (.con (.bool false)), none⟩]) (.cond (.tmp 18) .skip (.exit 0))) (.seq (.block 1 (.dreg 8 [⟨some 21, .mov (.tmp 0), none⟩, ⟨some 22, .mov (.tmp 6), none⟩, ⟨some 23, .iaddr (.tmp 21) (.tmp 22) 2 none, none⟩, ⟨some 24, .load (some 2) (.tmp 23), none⟩, ⟨some 25, .mov (.tmp 1), none⟩, ⟨some 26, .mov (.tmp 6), none⟩, ⟨some 27, .iaddr (.tmp 25) (.tmp 26) 2 none, none⟩, ⟨some 28, .load (some 2) (.tmp 27), none⟩, ⟨some 29, .eqs false (.cons 0 none (.sc 1) (.cons 1 none (.sc 1) .nil)) (.tmp 24) (.tmp 28), none⟩, ⟨some 5, .mov (.tmp 29), none⟩])) (.reg [⟨some 19, .mov (.tmp 6), none⟩, ⟨some 20, .bin .add (.tmp 19) (.con (.int .i64 1)), none⟩, ⟨some 6, .mov (.tmp 20), none⟩])))))) (.seq (.reg [⟨some 30, .mov (.tmp 5), none⟩, ⟨some 4, .mov (.tmp 30), none⟩]) .ret))))⟩
theorem comp41 : compFn Try.prog 41 = some F41 := by kernel_rfl
def F50 : AFn := ⟨2, 8, [.cell 4 (some 2)], (.seq (.reg [⟨some 4, .box (.con (.agg [.int .i64 0, .int .i64 0])), none⟩]) (.seq (.reg [⟨some 5, .mov (.tmp 0), none⟩, ⟨some 6, .mov (.tmp 1), none⟩, ⟨some 7, .build [.int .i64 0, .int .i64 0] [(0, 1, (.tmp 5)), (1, 1, (.tmp 6))], none⟩, ⟨none, .store 2 (.tmp 4) (.tmp 7), none⟩]) .ret))⟩
theorem comp50 : compFn Try.prog 50 = some F50 := by kernel_rfl
def F54 : AFn := ⟨0, 15, [.cell 0 (some 9)], (.seq (.reg [⟨some 0, .box (.con (.agg [.int .i64 0, .int .i64 0, .int .i64 0, .int .i64 0, .int .i64 0, .int .i64 0, .int .i64 0, .int .i64 0, .nils])), none⟩]) (.seq (.reg [⟨some 1, .call (.con (.fn 50 [] [])) [(.con (.int .i64 500)), (.con (.int .i64 600))], none⟩, ⟨some 2, .call (.con (.fn 50 [] [])) [(.con (.int .i64 450)), (.con (.int .i64 500))], none⟩, ⟨some 3, .build [.int .i64 0, .int .i64 0, .int .i64 0, .int .i64 0, .int .i64 0, .int .i64 0, .int .i64 0] [(0, 1, (.con (.int .i64 300))), (1, 2, (.tmp 1)), (3, 2, (.tmp 2)), (5, 1, (.con (.int .i64 1)))], none⟩, ⟨some 4, .call (.con (.fn 94 [] [])) [(.con (.int .i64 1000))], none⟩, ⟨some 5, .call (.con (.fn 94 [] [])) [(.con (.int .i64 380))], none⟩, ⟨some 6, .build [.int .i64 0, .int .i64 0, .int .i64 0, .int .i64 0, .int .i64 0, .int .i64 0, .int .i64 0] [(0, 1, (.con (.int .i64 700))), (1, 2, (.tmp 4)), (3, 2, (.tmp 5)), (5, 1, (.con (.int .i64 2))), (6, 1, (.con (.int .i64 5000)))], none⟩, ⟨some 7, .call (.con (.fn 50 [] [])) [(.con (.int .i64 100)), (.con (.int .i64 200))], none⟩, ⟨some 8, .call (.con (.fn 50 [] [])) [(.con (.int .i64 300)), (.con (.int .i64 350))], none⟩, ⟨some 9, .build [.int .i64 0, .int .i64 0, .int .i64 0, .int .i64 0, .int .i64 0, .int .i64 0, .int .i64 0] [(0, 1, (.con (.int .i64 500))), (1, 2, (.tmp 7)), (3, 2, (.tmp 8)), (5, 1, (.con (.int .i64 3))), (6, 1, (.con (.int .i64 3000)))], none⟩, ⟨some 10, .call (.con (.fn 94 [] [])) [(.con (.int .i64 50))], none⟩, ⟨some 11, .call (.con (.fn 50 [] [])) [(.con (.int .i64 400)), (.con (.int .i64 520))], none⟩, ⟨some 12, .build [.int .i64 0, .int .i64 0, .int .i64 0, .int .i64 0, .int .i64 0, .int .i64 0, .int .i64 0] [(0, 1, (.con (.int .i64 600))), (1, 2, (.tmp 10)), (3, 2, (.tmp 11)), (5, 1, (.con (.int .i64 4)))], none⟩, ⟨some 13, .bsl 7 true [.int .i64 0, .int .i64 0, .int .i64 0, .int .i64 0, .int .i64 0, .int .i64 0, .int .i64 0] 4 [(0, (.tmp 3)), (1, (.tmp 6)), (2, (.tmp 9)), (3, (.tmp 12))], none⟩, ⟨some 14, .build [.int .i64 0, .int .i64 0, .int .i64 0, .int .i64 0, .int .i64 0, .int .i64 0, .int .i64 0, .int .i64 0, .nils] [(0, 1, (.con (.int .i64 1000))), (1, 1, (.con (.int .i64 300))), (2, 1, (.con (.int .i64 200))), (3, 1, (.con (.int .i64 800))), (4, 1, (.con (.int .i64 900))), (5, 1, (.con (.int .i64 4000))), (6, 1, (.con (.int .i64 500))), (7, 1, (.con (.int .i64 400))), (8, 1, (.tmp 13))], none⟩, ⟨none, .store 9 (.tmp 0) (.tmp 14), none⟩]) .ret))⟩
theorem comp54 : compFn Try.prog 54 = some F54 := by kernel_rfl
def F55 : AFn := ⟨3, 11, [.cell 6 (some 3)], (.seq (.reg [⟨some 6, .box (.con (.agg [.int .i64 0, .int .i64 0, .int .i64 0])), none⟩]) (.seq (.reg [⟨some 7, .mov (.tmp 0), none⟩, ⟨some 8, .mov (.tmp 1), none⟩, ⟨some 9, .mov (.tmp 2), none⟩, ⟨some 10, .build [.int .i64 0, .int .i64 0, .int .i64 0] [(0, 1, (.tmp 7)), (1, 1, (.tmp 8)), (2, 1, (.tmp 9))], none⟩, ⟨none, .store 3 (.tmp 6) (.tmp 10), none⟩]) .ret))⟩
theorem comp55 : compFn Try.prog 55 = some F55 := by kernel_rfl
def F56 : AFn := ⟨1, 8, [.cell 2 (some 9)], (.seq (.reg [⟨some 2, .box (.con (.agg [.int .i64 0, .int .i64 0, .int .i64 0, .int .i64 0, .int .i64 0, .int .i64 0, .int .i64 0, .int .i64 0, .nils])), none⟩]) (.seq (.reg [⟨some 4, .call (.con (.fn 54 [] [])) [], none⟩, ⟨some 3, .box (.con (.agg [.int .i64 0, .int .i64 0, .int .i64 0, .int .i64 0, .int .i64 0, .int .i64 0, .int .i64 0, .int .i64 0, .nils])), none⟩, ⟨none, .store 9 (.tmp 3) (.tmp 4), none⟩]) (.seq (.reg [⟨some 5, .mov (.tmp 0), none⟩, ⟨some 6, .faddr (.tmp 3) 6, none⟩, ⟨none, .store 1 (.tmp 6) (.tmp 5), none⟩]) (.seq (.reg [⟨some 7, .load (some 9) (.tmp 3), none⟩, ⟨none, .store 9 (.tmp 2) (.tmp 7), none⟩]) .ret))))⟩
theorem comp56 : compFn Try.prog 56 = some F56 := by kernel_rfl
def F57 : AFn := ⟨2, 15, [.tmp 4], (.seq (.reg [⟨some 4, .mov (.con (.int .i64 0)), none⟩]) (.seq (.seq (.reg [⟨some 5, .mov (.tmp 1), none⟩, ⟨some 6, .len false (.tmp 5), none⟩, ⟨some 7, .bin .eql (.tmp 6) (.con (.int .i64 0)), none⟩]) (.cond (.tmp 7) (.seq (.reg [⟨some 4, .mov (.con (.int .i64 0)), none⟩]) .ret) .skip)) (.seq (.reg [⟨some 8, .mov (.tmp 1), none⟩, ⟨some 9, .mov (.tmp 0), none⟩, ⟨some 10, .mov (.tmp 1), none⟩, ⟨some 11, .len false (.tmp 10), none⟩, ⟨some 12, .call (.con (.fn 38 [] [])) [(.tmp 9), (.tmp 11)], none⟩, ⟨some 13, .iaddr (.tmp 8) (.tmp 12) 1 none, none⟩, ⟨some 14, .load none (.tmp 13), none⟩, ⟨some 4, .mov (.tmp 14), none⟩]) .ret)))⟩
theorem comp57 : compFn Try.prog 57 = some F57 := by kernel_rfl
def F58 : AFn := ⟨3, 36, [.cell 6 (some 2)], (.seq (.reg [⟨some 6, .box (.con (.agg [.int .i64 0, .int .i64 0])), none⟩]) (.seq (.reg [⟨some 8, .mov (.tmp 0), none⟩, ⟨some 9, .mov (.tmp 1), none⟩, ⟨some 10, .mov (.tmp 2), none⟩, ⟨some 11, .call (.con (.fn 27 [] [])) [(.tmp 8), (.tmp 9), (.tmp 10)], none⟩, ⟨some 7, .mov (.tmp 11), none⟩]) (.seq (.seq (.reg [⟨some 12, .mov (.tmp 0), none⟩, ⟨some 13, .call (.con (.fn 38 [] [])) [(.tmp 12), (.con (.int .i64 3))], none⟩]) (.block 0 (.seq (.reg [⟨some 15, .bin .eql (.tmp 13) (.con (.int .i64 0)), none⟩, ⟨some 14, .mov (.tmp 15), none⟩]) (.cond (.tmp 14) (.seq (.reg [⟨some 16, .mov (.tmp 7), none⟩, ⟨some 17, .mov (.tmp 7), none⟩, ⟨some 18, .build [.int .i64 0, .int .i64 0] [(0, 1, (.tmp 16)), (1, 1, (.tmp 17))], none⟩, ⟨none, .store 2 (.tmp 6) (.tmp 18), none⟩]) .ret) (.seq (.reg [⟨some 20, .bin .eql (.tmp 13) (.con (.int .i64 1)), none⟩, ⟨some 19, .mov (.tmp 20), none⟩]) (.cond (.tmp 19) (.seq (.reg [⟨some 21, .mov (.tmp 7), none⟩, ⟨some 22, .mov (.tmp 0), none⟩, ⟨some 23, .mov (.tmp 7), none⟩, ⟨some 24, .mov (.tmp 2), none⟩, ⟨some 25, .mov (.tmp 7), none⟩, ⟨some 26, .bin .add (.tmp 25) (.con (.int .i64 3)), none⟩, ⟨some 27, .mn (.tmp 24) (.tmp 26), none⟩, ⟨some 28, .call (.con (.fn 27 [] [])) [(.tmp 22), (.tmp 23), (.tmp 27)], none⟩, ⟨some 29, .build [.int .i64 0, .int .i64 0] [(0, 1, (.tmp 21)), (1, 1, (.tmp 28))], none⟩, ⟨none, .store 2 (.tmp 6) (.tmp 29), none⟩]) .ret) .skip)))))) (.seq (.reg [⟨some 30, .mov (.tmp 7), none⟩, ⟨some 31, .mov (.tmp 0), none⟩, ⟨some 32, .mov (.tmp 7), none⟩, ⟨some 33, .mov (.tmp 2), none⟩, ⟨some 34, .call (.con (.fn 27 [] [])) [(.tmp 31), (.tmp 32), (.tmp 33)], none⟩, ⟨some 35, .build [.int .i64 0, .int .i64 0] [(0, 1, (.tmp 30)), (1, 1, (.tmp 34))], none⟩, ⟨none, .store 2 (.tmp 6) (.tmp 35), none⟩]) .ret))))⟩
theorem comp58 : compFn Try.prog 58 = some F58 := by kernel_rfl
def F59 : AFn := ⟨1, 31, [.tmp 2], (.seq (.reg [⟨some 2, .mov (.con (.int .u64 0)), none⟩]) (.seq (.reg [⟨some 4, .mov (.tmp 0), none⟩, ⟨some 5, .mov (.tmp 0), none⟩, ⟨some 6, .nilck (.tmp 5), none⟩, ⟨some 7, .faddr (.tmp 6) 0, none⟩, ⟨some 8, .load none (.tmp 7), none⟩, ⟨some 9, .bin .mul (.tmp 8) (.con (.int .u64 15074714826142052245)), none⟩, ⟨some 10, .bin .add (.tmp 9) (.con (.int .u64 11400714819323198485)), none⟩, ⟨some 11, .nilck (.tmp 4), none⟩, ⟨some 12, .faddr (.tmp 11) 0, none⟩, ⟨none, .store 1 (.tmp 12) (.tmp 10), none⟩]) (.seq (.reg [⟨some 13, .mov (.tmp 0), none⟩, ⟨some 14, .nilck (.tmp 13), none⟩, ⟨some 15, .faddr (.tmp 14) 0, none⟩, ⟨some 16, .load none (.tmp 15), none⟩, ⟨some 3, .mov (.tmp 16), none⟩]) (.seq (.reg [⟨some 17, .mov (.tmp 3), none⟩, ⟨some 18, .mov (.tmp 3), none⟩, ⟨some 19, .bin .shr (.tmp 18) (.con (.int .u64 32)), none⟩, ⟨some 20, .bin .xor (.tmp 17) (.tmp 19), none⟩, ⟨some 21, .bin .mul (.tmp 20) (.con (.int .u64 15760922415973212899)), none⟩, ⟨some 3, .mov (.tmp 21), none⟩]) (.seq (.reg [⟨some 22, .mov (.tmp 3), none⟩, ⟨some 23, .mov (.tmp 3), none⟩, ⟨some 24, .bin .shr (.tmp 23) (.con (.int .u64 32)), none⟩, ⟨some 25, .bin .xor (.tmp 22) (.tmp 24), none⟩, ⟨some 26, .bin .mul (.tmp 25) (.con (.int .u64 15760922415973212899)), none⟩, ⟨some 3, .mov (.tmp 26), none⟩]) (.seq (.reg [⟨some 27, .mov (.tmp 3), none⟩, ⟨some 28, .mov (.tmp 3), none⟩, ⟨some 29, .bin .shr (.tmp 28) (.con (.int .u64 32)), none⟩, ⟨some 30, .bin .xor (.tmp 27) (.tmp 29), none⟩, ⟨some 2, .mov (.tmp 30), none⟩]) .ret))))))⟩
theorem comp59 : compFn Try.prog 59 = some F59 := by kernel_rfl
def F60 : AFn := ⟨1, 49, [.cell 2 (some 102)], (.seq (.reg [⟨some 1, .box (.tmp 0), none⟩, ⟨some 2, .box (.con (.agg [.int .i64 0, .int .i64 0, .int .i64 0, .int .i64 0, .int .i64 0, .int .i64 0, .int .i64 0, .int .i64 0, .nils, .int .i64 0, .int .i64 0, .int .i64 0, .int .i64 0, .int .i64 0, .int .i64 0, .int .i64 0, .int .i64 0, .int .i64 0, .int .i64 0, .int .i64 0, .int .i64 0, .int .i64 0, .int .i64 0, .int .i64 0, .int .i64 0, .int .i64 0, .int .i64 0, .int .i64 0, .int .i64 0, .int .i64 0, .int .i64 0, .int .i64 0, .int .i64 0, .int .i64 0, .int .i64 0, .int .i64 0, .int .i64 0, .int .i64 0, .int .i64 0, .int .i64 0, .int .i64 0, .int .i64 0, .int .i64 0, .int .i64 0, .int .i64 0, .int .i64 0, .int .i64 0, .int .i64 0, .int .i64 0, .int .i64 0, .int .i64 0, .int .i64 0, .int .i64 0, .int .i64 0, .int .i64 0, .int .i64 0, .int .i64 0, .int .i64 0, .int .i64 0, .nils, .int .i64 0, .int .i64 0, .int .i64 0, .int .i64 0, .int .i64 0, .int .i64 0, .int .i64 0, .int .i64 0, .int .i64 0, .int .i64 0, .int .i64 0, .int .i64 0, .int .i64 0, .int .i64 0, .int .i64 0, .int .i64 0, .int .i64 0, .int .i64 0, .int .i64 0, .int .i64 0, .int .i64 0, .int .i64 0, .int .i64 0, .int .i64 0, .int .i64 0, .int .i64 0, .int .i64 0, .int .i64 0, .int .i64 0, .int .i64 0, .int .i64 0, .int .i64 0, .int .i64 0, .int .i64 0, .int .i64 0, .int .i64 0, .int .i64 0, .int .i64 0, .int .i64 0, .int .i64 0, .int .i64 0, .int .i64 0])), none⟩]) (.seq (.reg [⟨some 6, .load (some 9) (.tmp 1), none⟩, ⟨some 7, .build [.int .i64 0, .int .i64 0, .int .i64 0, .int .i64 0, .int .i64 0, .int .i64 0, .int .i64 0, .int .i64 0, .nils, .int .i64 0, .int .i64 0, .int .i64 0, .int .i64 0, .int .i64 0, .int .i64 0, .int .i64 0, .int .i64 0, .int .i64 0, .int .i64 0, .int .i64 0, .int .i64 0, .int .i64 0, .int .i64 0, .int .i64 0, .int .i64 0, .int .i64 0, .int .i64 0, .int .i64 0, .int .i64 0, .int .i64 0, .int .i64 0, .int .i64 0, .int .i64 0, .int .i64 0, .int .i64 0, .int .i64 0, .int .i64 0, .int .i64 0, .int .i64 0, .int .i64 0, .int .i64 0, .int .i64 0, .int .i64 0, .int .i64 0, .int .i64 0, .int .i64 0, .int .i64 0, .int .i64 0, .int .i64 0, .int .i64 0, .int .i64 0] [(0, 9, (.tmp 6))], none⟩, ⟨some 8, .load (some 9) (.tmp 1), none⟩, ⟨some 9, .build [.int .i64 0, .int .i64 0, .int .i64 0, .int .i64 0, .int .i64 0, .int .i64 0, .int .i64 0, .int .i64 0, .nils, .int .i64 0, .int .i64 0, .int .i64 0, .int .i64 0, .int .i64 0, .int .i64 0, .int .i64 0, .int .i64 0, .int .i64 0, .int .i64 0, .int .i64 0, .int .i64 0, .int .i64 0, .int .i64 0, .int .i64 0, .int .i64 0, .int .i64 0, .int .i64 0, .int .i64 0, .int .i64 0, .int .i64 0, .int .i64 0, .int .i64 0, .int .i64 0, .int .i64 0, .int .i64 0, .int .i64 0, .int .i64 0, .int .i64 0, .int .i64 0, .int .i64 0, .int .i64 0, .int .i64 0, .int .i64 0, .int .i64 0, .int .i64 0, .int .i64 0, .int .i64 0, .int .i64 0, .int .i64 0, .int .i64 0, .int .i64 0] [(0, 9, (.tmp 8))], none⟩, ⟨some 10, .build [.int .i64 0, .int .i64 0, .int .i64 0, .int .i64 0, .int .i64 0, .int .i64 0, .int .i64 0, .int .i64 0, .nils, .int .i64 0, .int .i64 0, .int .i64 0, .int .i64 0, .int .i64 0, .int .i64 0, .int .i64 0, .int .i64 0, .int .i64 0, .int .i64 0, .int .i64 0, .int .i64 0, .int .i64 0, .int .i64 0, .int .i64 0, .int .i64 0, .int .i64 0, .int .i64 0, .int .i64 0, .int .i64 0, .int .i64 0, .int .i64 0, .int .i64 0, .int .i64 0, .int .i64 0, .int .i64 0, .int .i64 0, .int .i64 0, .int .i64 0, .int .i64 0, .int .i64 0, .int .i64 0, .int .i64 0, .int .i64 0, .int .i64 0, .int .i64 0, .int .i64 0, .int .i64 0, .int .i64 0, .int .i64 0, .int .i64 0, .int .i64 0, .int .i64 0, .int .i64 0, .int .i64 0, .int .i64 0, .int .i64 0, .int .i64 0, .int .i64 0, .int .i64 0, .nils, .int .i64 0, .int .i64 0, .int .i64 0, .int .i64 0, .int .i64 0, .int .i64 0, .int .i64 0, .int .i64 0, .int .i64 0, .int .i64 0, .int .i64 0, .int .i64 0, .int .i64 0, .int .i64 0, .int .i64 0, .int .i64 0, .int .i64 0, .int .i64 0, .int .i64 0, .int .i64 0, .int .i64 0, .int .i64 0, .int .i64 0, .int .i64 0, .int .i64 0, .int .i64 0, .int .i64 0, .int .i64 0, .int .i64 0, .int .i64 0, .int .i64 0, .int .i64 0, .int .i64 0, .int .i64 0, .int .i64 0, .int .i64 0, .int .i64 0, .int .i64 0, .int .i64 0, .int .i64 0, .int .i64 0, .int .i64 0] [(0, 51, (.tmp 7)), (51, 51, (.tmp 9))], none⟩, ⟨some 3, .box (.con (.agg [.int .i64 0, .int .i64 0, .int .i64 0, .int .i64 0, .int .i64 0, .int .i64 0, .int .i64 0, .int .i64 0, .nils, .int .i64 0, .int .i64 0, .int .i64 0, .int .i64 0, .int .i64 0, .int .i64 0, .int .i64 0, .int .i64 0, .int .i64 0, .int .i64 0, .int .i64 0, .int .i64 0, .int .i64 0, .int .i64 0, .int .i64 0, .int .i64 0, .int .i64 0, .int .i64 0, .int .i64 0, .int .i64 0, .int .i64 0, .int .i64 0, .int .i64 0, .int .i64 0, .int .i64 0, .int .i64 0, .int .i64 0, .int .i64 0, .int .i64 0, .int .i64 0, .int .i64 0, .int .i64 0, .int .i64 0, .int .i64 0, .int .i64 0, .int .i64 0, .int .i64 0, .int .i64 0, .int .i64 0, .int .i64 0, .int .i64 0, .int .i64 0, .int .i64 0, .int .i64 0, .int .i64 0, .int .i64 0, .int .i64 0, .int .i64 0, .int .i64 0, .int .i64 0, .nils, .int .i64 0, .int .i64 0, .int .i64 0, .int .i64 0, .int .i64 0, .int .i64 0, .int .i64 0, .int .i64 0, .int .i64 0, .int .i64 0, .int .i64 0, .int .i64 0, .int .i64 0, .int .i64 0, .int .i64 0, .int .i64 0, .int .i64 0, .int .i64 0, .int .i64 0, .int .i64 0, .int .i64 0, .int .i64 0, .int .i64 0, .int .i64 0, .int .i64 0, .int .i64 0, .int .i64 0, .int .i64 0, .int .i64 0, .int .i64 0, .int .i64 0, .int .i64 0, .int .i64 0, .int .i64 0, .int .i64 0, .int .i64 0, .int .i64 0, .int .i64 0, .int .i64 0, .int .i64 0, .int .i64 0, .int .i64 0])), none⟩, ⟨none, .store 102 (.tmp 3) (.tmp 10), none⟩]) (.seq (.seq (.reg [⟨some 11, .faddr (.tmp 1) 8, none⟩, ⟨some 12, .load none (.tmp 11), none⟩, ⟨some 13, .len false (.tmp 12), none⟩, ⟨some 14, .mov (.con (.int .i64 0)), none⟩]) (.block 0 (.loop (.seq (.reg [⟨some 15, .bin .lss (.tmp 14) (.tmp 13), none⟩]) (.seq (.cond (.tmp 15) .skip (.exit 0)) (.seq (.block 1 (.seq (.reg [⟨some 16, .mov (.tmp 14), none⟩, ⟨some 17, .iaddr (.tmp 12) (.tmp 14) 7 none, none⟩, ⟨some 18, .load (some 7) (.tmp 17), none⟩, ⟨some 5, .box (.con (.agg [.int .i64 0, .int .i64 0, .int .i64 0, .int .i64 0, .int .i64 0, .int .i64 0, .int .i64 0])), none⟩, ⟨some 4, .mov (.tmp 16), none⟩, ⟨none, .store 7 (.tmp 5) (.tmp 18), none⟩]) (.seq (.dreg 14 [⟨some 19, .mov (.tmp 4), none⟩, ⟨some 20, .mov (.tmp 4), none⟩, ⟨some 21, .faddr (.tmp 5) 1, none⟩, ⟨some 22, .faddr (.tmp 21) 0, none⟩, ⟨some 23, .load none (.tmp 22), none⟩, ⟨some 24, .faddr (.tmp 5) 1, none⟩, ⟨some 25, .faddr (.tmp 24) 1, none⟩, ⟨some 26, .load none (.tmp 25), none⟩, ⟨some 27, .iaddr (.tmp 3) (.con (.int .i64 0)) 51 (some 2), none⟩, ⟨some 28, .faddr (.tmp 27) 9, none⟩, ⟨some 29, .iaddr (.tmp 28) (.tmp 19) 1 (some 21), none⟩, ⟨none, .store 1 (.tmp 29) (.tmp 23), none⟩, ⟨some 30, .iaddr (.tmp 3) (.con (.int .i64 1)) 51 (some 2), none⟩, ⟨some 31, .faddr (.tmp 30) 9, none⟩, ⟨some 32, .iaddr (.tmp 31) (.tmp 20) 1 (some 21), none⟩, ⟨none, .store 1 (.tmp 32) (.tmp 26), none⟩]) (.dreg 14 [⟨some 33, .mov (.tmp 4), none⟩, ⟨some 34, .mov (.tmp 4), none⟩, ⟨some 35, .faddr (.tmp 5) 3, none⟩, ⟨some 36, .faddr (.tmp 35) 0, none⟩, ⟨some 37, .load none (.tmp 36), none⟩, ⟨some 38, .faddr (.tmp 5) 3, none⟩, ⟨some 39, .faddr (.tmp 38) 1, none⟩, ⟨some 40, .load none (.tmp 39), none⟩, ⟨some 41, .iaddr (.tmp 3) (.con (.int .i64 0)) 51 (some 2), none⟩, ⟨some 42, .faddr (.tmp 41) 30, none⟩, ⟨some 43, .iaddr (.tmp 42) (.tmp 33) 1 (some 21), none⟩, ⟨none, .store 1 (.tmp 43) (.tmp 37), none⟩, ⟨some 44, .iaddr (.tmp 3) (.con (.int .i64 1)) 51 (some 2), none⟩, ⟨some 45, .faddr (.tmp 44) 30, none⟩, ⟨some 46, .iaddr (.tmp 45) (.tmp 34) 1 (some 21), none⟩, ⟨none, .store 1 (.tmp 46) (.tmp 40), none⟩])))) (.reg [⟨some 47, .bin .add (.tmp 14) (.con (.int .i64 1)), none⟩, ⟨some 14, .mov (.tmp 47), none⟩]))))))) (.seq (.reg [⟨some 48, .load (some 102) (.tmp 3), none⟩, ⟨none, .store 102 (.tmp 2) (.tmp 48), none⟩]) .ret))))⟩
theorem comp60 : compFn Try.prog 60 = some F60 := by kernel_rfl
def F61 : AFn := ⟨1, 19, [.tmp 2], (.seq (.reg [⟨some 1, .box (.tmp 0), none⟩, ⟨some 2, .mov (.con (.int .i64 0)), none⟩]) (.seq (.reg [⟨some 3, .mov (.con (.int .i64 0)), none⟩]) (.seq (.seq (.reg [⟨some 6, .load (some 51) (.tmp 1), none⟩, ⟨some 7, .call (.con (.fn 96 [] [])) [(.tmp 6)], none⟩, ⟨some 8, .len false (.tmp 7), none⟩, ⟨some 9, .mov (.con (.int .i64 0)), none⟩]) (.block 0 (.loop (.seq (.reg [⟨some 10, .bin .lss (.tmp 9) (.tmp 8), none⟩]) (.seq (.cond (.tmp 10) .skip (.exit 0)) (.seq (.block 1 (.seq (.reg [⟨some 11, .iaddr (.tmp 7) (.tmp 9) 2 none, none⟩, ⟨some 12, .load (some 2) (.tmp 11), none⟩, ⟨some 5, .box (.con (.agg [.int .i64 0, .int .i64 0])), none⟩, ⟨none, .store 2 (.tmp 5) (.tmp 12), none⟩]) (.reg [⟨some 13, .mov (.tmp 3), none⟩, ⟨some 14, .faddr (.tmp 5) 0, none⟩, ⟨some 15, .load none (.tmp 14), none⟩, ⟨some 16, .bin .add (.tmp 13) (.tmp 15), none⟩, ⟨some 3, .mov (.tmp 16), none⟩]))) (.reg [⟨some 17, .bin .add (.tmp 9) (.con (.int .i64 1)), none⟩, ⟨some 9, .mov (.tmp 17), none⟩]))))))) (.seq (.reg [⟨some 18, .mov (.tmp 3), none⟩, ⟨some 2, .mov (.tmp 18), none⟩]) .ret))))⟩
theorem comp61 : compFn Try.prog 61 = some F61 := by kernel_rfl
def F64 : AFn := ⟨3, 16, [.cell 6 (some 2)], (.seq (.reg [⟨some 6, .box (.con (.agg [.int .i64 0, .int .i64 0])), none⟩]) (.seq (.reg [⟨some 7, .mov (.tmp 0), none⟩, ⟨some 8, .mov (.tmp 2), none⟩, ⟨some 9, .call (.con (.fn 97 [] [])) [(.tmp 7), (.tmp 8)], none⟩, ⟨some 10, .mov (.tmp 1), none⟩, ⟨some 11, .un .neg (.tmp 10), none⟩, ⟨some 12, .mov (.tmp 2), none⟩, ⟨some 13, .call (.con (.fn 97 [] [])) [(.tmp 11), (.tmp 12)], none⟩, ⟨some 14, .un .neg (.tmp 13), none⟩, ⟨some 15, .build [.int .i64 0, .int .i64 0] [(0, 1, (.tmp 9)), (1, 1, (.tmp 14))], none⟩, ⟨none, .store 2 (.tmp 6) (.tmp 15), none⟩]) .ret))⟩
theorem comp64 : compFn Try.prog 64 = some F64 := by kernel_rfl
def F65 : AFn := ⟨1, 10, [.tmp 2], (.seq (.reg [⟨some 1, .box (.tmp 0), none⟩, ⟨some 2, .mov (.con (.int .i64 0)), none⟩]) (.seq (.dreg 5 [⟨some 3, .faddr (.tmp 1) 0, none⟩, ⟨some 4, .faddr (.tmp 3) 3, none⟩, ⟨some 5, .load none (.tmp 4), none⟩, ⟨some 6, .load (some 51) (.tmp 1), none⟩, ⟨some 7, .call (.con (.fn 96 [] [])) [(.tmp 6)], none⟩, ⟨some 8, .call (.con (.fn 98 [] [])) [(.tmp 5), (.tmp 7)], none⟩, ⟨some 9, .un .neg (.tmp 8), none⟩, ⟨some 2, .mov (.tmp 9), none⟩]) .ret))⟩
theorem comp65 : compFn Try.prog 65 = some F65 := by kernel_rfl
def F66 : AFn := ⟨1, 9, [.tmp 2], (.seq (.reg [⟨some 1, .box (.tmp 0), none⟩, ⟨some 2, .mov (.con (.int .i64 0)), none⟩]) (.seq (.dreg 5 [⟨some 3, .faddr (.tmp 1) 0, none⟩, ⟨some 4, .faddr (.tmp 3) 2, none⟩, ⟨some 5, .load none (.tmp 4), none⟩, ⟨some 6, .load (some 51) (.tmp 1), none⟩, ⟨some 7, .call (.con (.fn 96 [] [])) [(.tmp 6)], none⟩, ⟨some 8, .call (.con (.fn 98 [] [])) [(.tmp 5), (.tmp 7)], none⟩, ⟨some 2, .mov (.tmp 8), none⟩]) .ret))⟩
theorem comp66 : compFn Try.prog 66 = some F66 := by kernel_rfl
def F67 : AFn := ⟨1, 23, [.tmp 2], (.seq (.reg [⟨some 1, .box (.tmp 0), none⟩, ⟨some 2, .mov (.con (.int .i64 0)), none⟩]) (.seq (.reg [⟨some 5, .faddr (.tmp 1) 0, none⟩, ⟨some 6, .faddr (.tmp 5) 7, none⟩, ⟨some 7, .load none (.tmp 6), none⟩, ⟨some 3, .mov (.tmp 7), none⟩]) (.seq (.seq (.reg [⟨some 8, .faddr (.tmp 1) 0, none⟩, ⟨some 9, .faddr (.tmp 8) 8, none⟩, ⟨some 10, .load none (.tmp 9), none⟩, ⟨some 11, .len false (.tmp 10), none⟩, ⟨some 12, .mov (.con (.int .i64 0)), none⟩]) (.block 0 (.loop (.seq (.reg [⟨some 13, .bin .lss (.tmp 12) (.tmp 11), none⟩]) (.seq (.cond (.tmp 13) .skip (.exit 0)) (.seq (.block 1 (.seq (.reg [⟨some 14, .mov (.tmp 12), none⟩, ⟨some 4, .mov (.tmp 14), none⟩]) (.reg [⟨some 15, .mov (.tmp 3), none⟩, ⟨some 16, .mov (.tmp 4), none⟩, ⟨some 17, .faddr (.tmp 1) 30, none⟩, ⟨some 18, .iaddr (.tmp 17) (.tmp 16) 1 (some 21), none⟩, ⟨some 19, .load none (.tmp 18), none⟩, ⟨some 20, .mx (.tmp 15) (.tmp 19), none⟩, ⟨some 3, .mov (.tmp 20), none⟩]))) (.reg [⟨some 21, .bin .add (.tmp 12) (.con (.int .i64 1)), none⟩, ⟨some 12, .mov (.tmp 21), none⟩]))))))) (.seq (.reg [⟨some 22, .mov (.tmp 3), none⟩, ⟨some 2, .mov (.tmp 22), none⟩]) .ret))))⟩
theorem comp67 : compFn Try.prog 67 = some F67 := by kernel_rfl
def F68 : AFn := ⟨2, 9, [.tmp 4], (.seq (.reg [⟨some 4, .mov (.con (.int .i64 0)), none⟩]) (.seq (.block 0 (.seq (.reg [⟨some 6, .mov (.tmp 0), none⟩, ⟨some 5, .mov (.tmp 6), none⟩]) (.cond (.tmp 5) (.seq (.reg [⟨some 4, .mov (.con (.int .i64 1)), none⟩]) .ret) (.seq (.reg [⟨some 8, .mov (.tmp 1), none⟩, ⟨some 7, .mov (.tmp 8), none⟩]) (.cond (.tmp 7) (.seq (.reg [⟨some 4, .mov (.con (.int .i64 3)), none⟩]) .ret) .skip))))) (.seq (.reg [⟨some 4, .mov (.con (.int .i64 2)), none⟩]) .ret)))⟩
theorem comp68 : compFn Try.prog 68 = some F68 := by kernel_rfl
def F69 : AFn := ⟨1, 11, [.tmp 2], (.seq (.reg [⟨some 1, .box (.tmp 0), none⟩, ⟨some 2, .mov (.con (.bool false)), none⟩]) (.seq (.reg [⟨some 3, .load (some 51) (.tmp 1), none⟩, ⟨some 4, .call (.con (.fn 65 [] [])) [(.tmp 3)], none⟩, ⟨some 5, .bin .geq (.tmp 4) (.con (.int .i64 0)), none⟩, ⟨some 6, .mov (.tmp 5), none⟩, ⟨some 7, .load (some 51) (.tmp 1), some (6, true)⟩, ⟨some 8, .call (.con (.fn 66 [] [])) [(.tmp 7)], some (6, true)⟩, ⟨some 9, .bin .geq (.tmp 8) (.con (.int .i64 0)), some (6, true)⟩, ⟨some 10, .pick (.tmp 6) (.tmp 9) (.con (.bool false)), none⟩, ⟨some 2, .mov (.tmp 10), none⟩]) .ret))⟩
theorem comp69 : compFn Try.prog 69 = some F69 := by kernel_rfl
def F72 : AFn := ⟨1, 59, [.tmp 2], (.seq (.reg [⟨some 1, .box (.tmp 0), none⟩, ⟨some 2, .mov (.con (.int .i64 0)), none⟩]) (.seq (.block 0 (.seq (.reg [⟨some 4, .faddr (.tmp 1) 0, none⟩, ⟨some 5, .load none (.tmp 4), none⟩, ⟨some 6, .call (.con (.fn 83 [] [])) [(.tmp 5), (.con (.int .i64 1)), (.con (.int .i64 3000))], none⟩, ⟨some 7, .un .not (.tmp 6), none⟩, ⟨some 8, .mov (.tmp 7), none⟩, ⟨some 9, .faddr (.tmp 1) 1, some (8, false)⟩, ⟨some 10, .load none (.tmp 9), some (8, false)⟩, ⟨some 11, .call (.con (.fn 83 [] [])) [(.tmp 10), (.con (.int .i64 1)), (.con (.int .i64 1000))], some (8, false)⟩, ⟨some 12, .un .not (.tmp 11), some (8, false)⟩, ⟨some 13, .pick (.tmp 8) (.con (.bool true)) (.tmp 12), none⟩, ⟨some 3, .mov (.tmp 13), none⟩]) (.cond (.tmp 3) (.seq (.reg [⟨some 2, .mov (.con (.int .i64 2)), none⟩]) .ret) (.seq (.reg [⟨some 15, .faddr (.tmp 1) 2, none⟩, ⟨some 16, .load none (.tmp 15), none⟩, ⟨some 17, .faddr (.tmp 1) 0, none⟩, ⟨some 18, .load none (.tmp 17), none⟩, ⟨some 19, .call (.con (.fn 83 [] [])) [(.tmp 16), (.con (.int .i64 0)), (.tmp 18)], none⟩, ⟨some 20, .un .not (.tmp 19), none⟩, ⟨some 21, .mov (.tmp 20), none⟩, ⟨some 22, .faddr (.tmp 1) 3, some (21, false)⟩, ⟨some 23, .load none (.tmp 22), some (21, false)⟩, ⟨some 24, .faddr (.tmp 1) 0, some (21, false)⟩, ⟨some 25, .load none (.tmp 24), some (21, false)⟩, ⟨some 26, .call (.con (.fn 83 [] [])) [(.tmp 23), (.con (.int .i64 0)), (.tmp 25)], some (21, false)⟩, ⟨some 27, .un .not (.tmp 26), some (21, false)⟩, ⟨some 28, .pick (.tmp 21) (.con (.bool true)) (.tmp 27), none⟩, ⟨some 14, .mov (.tmp 28), none⟩]) (.cond (.tmp 14) (.seq (.reg [⟨some 2, .mov (.con (.int .i64 2)), none⟩]) .ret) (.seq (.reg [⟨some 30, .faddr (.tmp 1) 2, none⟩, ⟨some 31, .load none (.tmp 30), none⟩, ⟨some 32, .faddr (.tmp 1) 3, none⟩, ⟨some 33, .load none (.tmp 32), none⟩, ⟨some 34, .bin .geq (.tmp 31) (.tmp 33), none⟩, ⟨some 29, .mov (.tmp 34), none⟩]) (.cond (.tmp 29) (.seq (.reg [⟨some 2, .mov (.con (.int .i64 9)), none⟩]) .ret) (.seq (.reg [⟨some 36, .faddr (.tmp 1) 4, none⟩, ⟨some 37, .load none (.tmp 36), none⟩, ⟨some 38, .call (.con (.fn 83 [] [])) [(.tmp 37), (.con (.int .i64 0)), (.con (.int .i64 20000))], none⟩, ⟨some 39, .un .not (.tmp 38), none⟩, ⟨some 40, .mov (.tmp 39), none⟩, ⟨some 41, .faddr (.tmp 1) 5, some (40, false)⟩, ⟨some 42, .load none (.tmp 41), some (40, false)⟩, ⟨some 43, .call (.con (.fn 83 [] [])) [(.tmp 42), (.con (.int .i64 0)), (.con (.int .i64 100000))], some (40, false)⟩, ⟨some 44, .un .not (.tmp 43), some (40, false)⟩, ⟨some 45, .pick (.tmp 40) (.con (.bool true)) (.tmp 44), none⟩, ⟨some 35, .mov (.tmp 45), none⟩]) (.cond (.tmp 35) (.seq (.reg [⟨some 2, .mov (.con (.int .i64 2)), none⟩]) .ret) (.seq (.reg [⟨some 47, .faddr (.tmp 1) 6, none⟩, ⟨some 48, .load none (.tmp 47), none⟩, ⟨some 49, .faddr (.tmp 1) 0, none⟩, ⟨some 50, .load none (.tmp 49), none⟩, ⟨some 51, .call (.con (.fn 83 [] [])) [(.tmp 48), (.con (.int .i64 0)), (.tmp 50)], none⟩, ⟨some 52, .un .not (.tmp 51), none⟩, ⟨some 53, .mov (.tmp 52), none⟩, ⟨some 54, .faddr (.tmp 1) 7, some (53, false)⟩, ⟨some 55, .load none (.tmp 54), some (53, false)⟩, ⟨some 56, .call (.con (.fn 83 [] [])) [(.tmp 55), (.con (.int .i64 0)), (.con (.int .i64 2000))], some (53, false)⟩, ⟨some 57, .un .not (.tmp 56), some (53, false)⟩, ⟨some 58, .pick (.tmp 53) (.con (.bool true)) (.tmp 57), none⟩, ⟨some 46, .mov (.tmp 58), none⟩]) (.cond (.tmp 46) (.seq (.reg [⟨some 2, .mov (.con (.int .i64 2)), none⟩]) .ret) .skip))))))))))) (.seq (.reg [⟨some 2, .mov (.con (.int .i64 0)), none⟩]) .ret)))⟩
theorem comp72 : compFn Try.prog 72 = some F72 := by kernel_rfl
def F73 : AFn := ⟨2, 51, [.tmp 4], (.seq (.reg [⟨some 2, .box (.tmp 0), none⟩, ⟨some 3, .box (.tmp 1), none⟩, ⟨some 4, .mov (.con (.int .i64 0)), none⟩]) (.seq (.seq (.reg [⟨some 7, .faddr (.tmp 3) 0, none⟩, ⟨some 8, .load none (.tmp 7), none⟩, ⟨some 9, .faddr (.tmp 2) 2, none⟩, ⟨some 10, .load none (.tmp 9), none⟩, ⟨some 11, .faddr (.tmp 2) 3, none⟩, ⟨some 12, .load none (.tmp 11), none⟩, ⟨some 13, .call (.con (.fn 83 [] [])) [(.tmp 8), (.tmp 10), (.tmp 12)], none⟩, ⟨some 14, .un .not (.tmp 13), none⟩]) (.cond (.tmp 14) (.seq (.reg [⟨some 4, .mov (.con (.int .i64 2)), none⟩]) .ret) .skip)) (.seq (.seq (.reg [⟨some 15, .faddr (.tmp 3) 1, none⟩, ⟨some 16, .load (some 2) (.tmp 15), none⟩, ⟨some 17, .call (.con (.fn 99 [] [])) [(.tmp 16), (.con (.int .i64 100000))], none⟩, ⟨some 5, .mov (.tmp 17), none⟩]) (.seq (.reg [⟨some 18, .mov (.tmp 5), none⟩, ⟨some 19, .bin .neq (.tmp 18) (.con (.int .i64 0)), none⟩]) (.cond (.tmp 19) (.seq (.reg [⟨some 20, .mov (.tmp 5), none⟩, ⟨some 4, .mov (.tmp 20), none⟩]) .ret) .skip))) (.seq (.seq (.reg [⟨some 21, .faddr (.tmp 3) 3, none⟩, ⟨some 22, .load (some 2) (.tmp 21), none⟩, ⟨some 23, .call (.con (.fn 99 [] [])) [(.tmp 22), (.con (.int .i64 2000))], none⟩, ⟨some 6, .mov (.tmp 23), none⟩]) (.seq (.reg [⟨some 24, .mov (.tmp 6), none⟩, ⟨some 25, .bin .neq (.tmp 24) (.con (.int .i64 0)), none⟩]) (.cond (.tmp 25) (.seq (.reg [⟨some 26, .mov (.tmp 6), none⟩, ⟨some 4, .mov (.tmp 26), none⟩]) .ret) .skip))) (.seq (.block 0 (.seq (.reg [⟨some 28, .faddr (.tmp 3) 5, none⟩, ⟨some 29, .load none (.tmp 28), none⟩, ⟨some 30, .call (.con (.fn 83 [] [])) [(.tmp 29), (.con (.int .i64 1)), (.con (.int .i64 4))], none⟩, ⟨some 31, .un .not (.tmp 30), none⟩, ⟨some 27, .mov (.tmp 31), none⟩]) (.cond (.tmp 27) (.seq (.reg [⟨some 4, .mov (.con (.int .i64 3)), none⟩]) .ret) (.seq (.reg [⟨some 33, .faddr (.tmp 3) 6, none⟩, ⟨some 34, .load none (.tmp 33), none⟩, ⟨some 35, .call (.con (.fn 83 [] [])) [(.tmp 34), (.con (.int .i64 0)), (.con (.int .i64 1000000))], none⟩, ⟨some 36, .un .not (.tmp 35), none⟩, ⟨some 32, .mov (.tmp 36), none⟩]) (.cond (.tmp 32) (.seq (.reg [⟨some 4, .mov (.con (.int .i64 2)), none⟩]) .ret) (.seq (.reg [⟨some 38, .faddr (.tmp 3) 6, none⟩, ⟨some 39, .load none (.tmp 38), none⟩, ⟨some 40, .bin .gtr (.tmp 39) (.con (.int .i64 0)), none⟩, ⟨some 41, .mov (.tmp 40), none⟩, ⟨some 42, .faddr (.tmp 3) 5, some (41, true)⟩, ⟨some 43, .load none (.tmp 42), some (41, true)⟩, ⟨some 44, .bin .neq (.tmp 43) (.con (.int .i64 2)), some (41, true)⟩, ⟨some 45, .pick (.tmp 41) (.tmp 44) (.con (.bool false)), none⟩, ⟨some 46, .mov (.tmp 45), none⟩, ⟨some 47, .faddr (.tmp 3) 5, some (46, true)⟩, ⟨some 48, .load none (.tmp 47), some (46, true)⟩, ⟨some 49, .bin .neq (.tmp 48) (.con (.int .i64 3)), some (46, true)⟩, ⟨some 50, .pick (.tmp 46) (.tmp 49) (.con (.bool false)), none⟩, ⟨some 37, .mov (.tmp 50), none⟩]) (.cond (.tmp 37) (.seq (.reg [⟨some 4, .mov (.con (.int .i64 1)), none⟩]) .ret) .skip))))))) (.seq (.reg [⟨some 4, .mov (.con (.int .i64 0)), none⟩]) .ret))))))⟩
theorem comp73 : compFn Try.prog 73 = some F73 := by kernel_rfl
def F74 : AFn := ⟨3, 15, [.tmp 6], (.seq (.reg [⟨some 6, .mov (.con (.bool false)), none⟩]) (.seq (.reg [⟨some 7, .mov (.tmp 0), none⟩, ⟨some 8, .mov (.tmp 1), none⟩, ⟨some 9, .bin .geq (.tmp 7) (.tmp 8), none⟩, ⟨some 10, .mov (.tmp 9), none⟩, ⟨some 11, .mov (.tmp 0), some (10, true)⟩, ⟨some 12, .mov (.tmp 2), some (10, true)⟩, ⟨some 13, .bin .leq (.tmp 11) (.tmp 12), some (10, true)⟩, ⟨some 14, .pick (.tmp 10) (.tmp 13) (.con (.bool false)), none⟩, ⟨some 6, .mov (.tmp 14), none⟩]) .ret))⟩
theorem comp74 : compFn Try.prog 74 = some F74 := by kernel_rfl
def F75 : AFn := ⟨2, 48, [.tmp 4], (.seq (.reg [⟨some 2, .box (.tmp 0), none⟩, ⟨some 3, .box (.tmp 1), none⟩, ⟨some 4, .mov (.con (.int .i64 0)), none⟩]) (.seq (.seq (.reg [⟨some 7, .faddr (.tmp 3) 0, none⟩, ⟨some 8, .load none (.tmp 7), none⟩, ⟨some 9, .faddr (.tmp 2) 2, none⟩, ⟨some 10, .load none (.tmp 9), none⟩, ⟨some 11, .faddr (.tmp 2) 3, none⟩, ⟨some 12, .load none (.tmp 11), none⟩, ⟨some 13, .call (.con (.fn 74 [] [])) [(.tmp 8), (.tmp 10), (.tmp 12)], none⟩, ⟨some 14, .un .not (.tmp 13), none⟩]) (.cond (.tmp 14) (.seq (.reg [⟨some 4, .mov (.con (.int .i64 2)), none⟩]) .ret) .skip)) (.seq (.seq (.reg [⟨some 15, .faddr (.tmp 3) 1, none⟩, ⟨some 16, .load (some 2) (.tmp 15), none⟩, ⟨some 17, .call (.con (.fn 100 [] [])) [(.tmp 16), (.con (.int .i64 100000))], none⟩, ⟨some 5, .mov (.tmp 17), none⟩]) (.seq (.reg [⟨some 18, .mov (.tmp 5), none⟩, ⟨some 19, .bin .neq (.tmp 18) (.con (.int .i64 0)), none⟩]) (.cond (.tmp 19) (.seq (.reg [⟨some 20, .mov (.tmp 5), none⟩, ⟨some 4, .mov (.tmp 20), none⟩]) .ret) .skip))) (.seq (.seq (.reg [⟨some 21, .faddr (.tmp 3) 3, none⟩, ⟨some 22, .load (some 2) (.tmp 21), none⟩, ⟨some 23, .call (.con (.fn 100 [] [])) [(.tmp 22), (.con (.int .i64 2000))], none⟩, ⟨some 6, .mov (.tmp 23), none⟩]) (.seq (.reg [⟨some 24, .mov (.tmp 6), none⟩, ⟨some 25, .bin .neq (.tmp 24) (.con (.int .i64 0)), none⟩]) (.cond (.tmp 25) (.seq (.reg [⟨some 26, .mov (.tmp 6), none⟩, ⟨some 4, .mov (.tmp 26), none⟩]) .ret) .skip))) (.seq (.seq (.reg [⟨some 27, .faddr (.tmp 3) 5, none⟩, ⟨some 28, .load none (.tmp 27), none⟩, ⟨some 29, .call (.con (.fn 74 [] [])) [(.tmp 28), (.con (.int .i64 1)), (.con (.int .i64 4))], none⟩, ⟨some 30, .un .not (.tmp 29), none⟩]) (.cond (.tmp 30) (.seq (.reg [⟨some 4, .mov (.con (.int .i64 3)), none⟩]) .ret) .skip)) (.seq (.seq (.reg [⟨some 31, .faddr (.tmp 3) 6, none⟩, ⟨some 32, .load none (.tmp 31), none⟩, ⟨some 33, .call (.con (.fn 74 [] [])) [(.tmp 32), (.con (.int .i64 0)), (.con (.int .i64 1000000))], none⟩, ⟨some 34, .un .not (.tmp 33), none⟩]) (.cond (.tmp 34) (.seq (.reg [⟨some 4, .mov (.con (.int .i64 2)), none⟩]) .ret) .skip)) (.seq (.seq (.reg [⟨some 35, .faddr (.tmp 3) 6, none⟩, ⟨some 36, .load none (.tmp 35), none⟩, ⟨some 37, .bin .gtr (.tmp 36) (.con (.int .i64 0)), none⟩, ⟨some 38, .mov (.tmp 37), none⟩, ⟨some 39, .faddr (.tmp 3) 5, some (38, true)⟩, ⟨some 40, .load none (.tmp 39), some (38, true)⟩, ⟨some 41, .bin .neq (.tmp 40) (.con (.int .i64 2)), some (38, true)⟩, ⟨some 42, .pick (.tmp 38) (.tmp 41) (.con (.bool false)), none⟩, ⟨some 43, .mov (.tmp 42), none⟩, ⟨some 44, .faddr (.tmp 3) 5, some (43, true)⟩, ⟨some 45, .load none (.tmp 44), some (43, true)⟩, ⟨some 46, .bin .neq (.tmp 45) (.con (.int .i64 3)), some (43, true)⟩, ⟨some 47, .pick (.tmp 43) (.tmp 46) (.con (.bool false)), none⟩]) (.cond (.tmp 47) (.seq (.reg [⟨some 4, .mov (.con (.int .i64 1)), none⟩]) .ret) .skip)) (.seq (.reg [⟨some 4, .mov (.con (.int .i64 0)), none⟩]) .ret))))))))⟩
theorem comp75 : compFn Try.prog 75 = some F75 := by kernel_rfl
def F77 : AFn := ⟨2, 13, [.tmp 4], (.seq (.reg [⟨some 2, .box (.tmp 0), none⟩, ⟨some 4, .mov (.con (.int .i64 0)), none⟩]) (.seq (.seq (.reg [⟨some 6, .load (some 9) (.tmp 2), none⟩, ⟨some 7, .call (.con (.fn 22 [] [])) [(.tmp 6)], none⟩, ⟨some 5, .mov (.tmp 7), none⟩]) (.seq (.reg [⟨some 8, .mov (.tmp 5), none⟩, ⟨some 9, .bin .neq (.tmp 8) (.con (.int .i64 0)), none⟩]) (.cond (.tmp 9) (.seq (.reg [⟨some 10, .mov (.tmp 5), none⟩, ⟨some 4, .mov (.tmp 10), none⟩]) .ret) .skip))) (.seq (.reg [⟨some 11, .mov (.tmp 1), none⟩, ⟨some 12, .call (.con (.fn 34 [] [])) [(.tmp 11)], none⟩, ⟨some 4, .mov (.tmp 12), none⟩]) .ret)))⟩
theorem comp77 : compFn Try.prog 77 = some F77 := by kernel_rfl
def F78 : AFn := ⟨2, 37, [.tmp 4], (.seq (.reg [⟨some 2, .box (.tmp 0), none⟩, ⟨some 4, .mov (.con (.nils)), none⟩]) (.seq (.reg [⟨some 11, .load (some 9) (.tmp 2), none⟩, ⟨some 12, .call (.con (.fn 60 [] [])) [(.tmp 11)], none⟩, ⟨some 5, .box (.con (.agg [.int .i64 0, .int .i64 0, .int .i64 0, .int .i64 0, .int .i64 0, .int .i64 0, .int .i64 0, .int .i64 0, .nils, .int .i64 0, .int .i64 0, .int .i64 0, .int .i64 0, .int .i64 0, .int .i64 0, .int .i64 0, .int .i64 0, .int .i64 0, .int .i64 0, .int .i64 0, .int .i64 0, .int .i64 0, .int .i64 0, .int .i64 0, .int .i64 0, .int .i64 0, .int .i64 0, .int .i64 0, .int .i64 0, .int .i64 0, .int .i64 0, .int .i64 0, .int .i64 0, .int .i64 0, .int .i64 0, .int .i64 0, .int .i64 0, .int .i64 0, .int .i64 0, .int .i64 0, .int .i64 0, .int .i64 0, .int .i64 0, .int .i64 0, .int .i64 0, .int .i64 0, .int .i64 0, .int .i64 0, .int .i64 0, .int .i64 0, .int .i64 0, .int .i64 0, .int .i64 0, .int .i64 0, .int .i64 0, .int .i64 0, .int .i64 0, .int .i64 0, .int .i64 0, .nils, .int .i64 0, .int .i64 0, .int .i64 0, .int .i64 0, .int .i64 0, .int .i64 0, .int .i64 0, .int .i64 0, .int .i64 0, .int .i64 0, .int .i64 0, .int .i64 0, .int .i64 0, .int .i64 0, .int .i64 0, .int .i64 0, .int .i64 0, .int .i64 0, .int .i64 0, .int .i64 0, .int .i64 0, .int .i64 0, .int .i64 0, .int .i64 0, .int .i64 0, .int .i64 0, .int .i64 0, .int .i64 0, .int .i64 0, .int .i64 0, .int .i64 0, .int .i64 0, .int .i64 0, .int .i64 0, .int .i64 0, .int .i64 0, .int .i64 0, .int .i64 0, .int .i64 0, .int .i64 0, .int .i64 0, .int .i64 0])), none⟩, ⟨none, .store 102 (.tmp 5) (.tmp 12), none⟩]) (.seq (.dreg 7 [⟨some 13, .iaddr (.tmp 5) (.con (.int .i64 1)) 51 (some 2), none⟩, ⟨some 14, .load (some 51) (.tmp 13), none⟩, ⟨some 15, .mkfn 101 [(.tmp 14)] [], none⟩, ⟨some 16, .iaddr (.tmp 5) (.con (.int .i64 0)) 51 (some 2), none⟩, ⟨some 17, .load (some 51) (.tmp 16), none⟩, ⟨some 18, .mkfn 101 [(.tmp 17)] [], none⟩, ⟨some 6, .mov (.tmp 15), none⟩, ⟨some 7, .mov (.tmp 18), none⟩]) (.seq (.reg [⟨some 8, .mov (.con (.nils)), none⟩]) (.seq (.seq (.reg [⟨some 19, .mov (.tmp 1), none⟩, ⟨some 20, .len false (.tmp 19), none⟩, ⟨some 21, .mov (.con (.int .i64 0)), none⟩]) (.block 0 (.loop (.seq (.reg [⟨some 22, .bin .lss (.tmp 21) (.tmp 20), none⟩]) (.seq (.cond (.tmp 22) .skip (.exit 0)) (.seq (.block 1 (.seq (.reg [⟨some 23, .iaddr (.tmp 19) (.tmp 21) 3 none, none⟩, ⟨some 24, .load (some 3) (.tmp 23), none⟩, ⟨some 10, .box (.con (.agg [.int .i64 0, .int .i64 0, .int .i64 0])), none⟩, ⟨none, .store 3 (.tmp 10) (.tmp 24), none⟩]) (.dreg 9 [⟨some 25, .mov (.tmp 8), none⟩, ⟨some 26, .mov (.tmp 6), none⟩, ⟨some 27, .load (some 3) (.tmp 10), none⟩, ⟨some 28, .call (.tmp 26) [(.tmp 27)], none⟩, ⟨some 29, .mov (.tmp 7), none⟩, ⟨some 30, .load (some 3) (.tmp 10), none⟩, ⟨some 31, .call (.tmp 29) [(.tmp 30)], none⟩, ⟨some 32, .call (.con (.fn 68 [] [])) [(.tmp 28), (.tmp 31)], none⟩, ⟨some 33, .bsl 1 false [.int .i64 0] 1 [(0, (.tmp 32))], none⟩, ⟨some 34, .app (.tmp 25) (.tmp 33) 1 8 [.int .i64 0], none⟩, ⟨some 8, .mov (.tmp 34), none⟩]))) (.reg [⟨some 35, .bin .add (.tmp 21) (.con (.int .i64 1)), none⟩, ⟨some 21, .mov (.tmp 35), none⟩]))))))) (.seq (.reg [⟨some 36, .mov (.tmp 8), none⟩, ⟨some 4, .mov (.tmp 36), none⟩]) .ret))))))⟩
theorem comp78 : compFn Try.prog 78 = some F78 := by kernel_rfl
def F81 : AFn := ⟨2, 9, [.tmp 4], (.seq (.reg [⟨some 2, .box (.tmp 0), none⟩, ⟨some 4, .mov (.con (.int .i64 0)), none⟩]) (.seq (.reg [⟨some 5, .load (some 9) (.tmp 2), none⟩, ⟨some 6, .mov (.tmp 1), none⟩, ⟨some 7, .call (.con (.fn 78 [] [])) [(.tmp 5), (.tmp 6)], none⟩, ⟨some 8, .call (.con (.fn 102 [] [])) [(.tmp 7), (.con (.fn 103 [] []))], none⟩, ⟨some 4, .mov (.tmp 8), none⟩]) .ret))⟩
theorem comp81 : compFn Try.prog 81 = some F81 := by kernel_rfl
def F83 : AFn := ⟨3, 15, [.tmp 6], (.seq (.reg [⟨some 6, .mov (.con (.bool false)), none⟩]) (.seq (.reg [⟨some 7, .mov (.tmp 0), none⟩, ⟨some 8, .mov (.tmp 1), none⟩, ⟨some 9, .bin .geq (.tmp 7) (.tmp 8), none⟩, ⟨some 10, .mov (.tmp 9), none⟩, ⟨some 11, .mov (.tmp 0), some (10, true)⟩, ⟨some 12, .mov (.tmp 2), some (10, true)⟩, ⟨some 13, .bin .leq (.tmp 11) (.tmp 12), some (10, true)⟩, ⟨some 14, .pick (.tmp 10) (.tmp 13) (.con (.bool false)), none⟩, ⟨some 6, .mov (.tmp 14), none⟩]) .ret))⟩
theorem comp83 : compFn Try.prog 83 = some F83 := by kernel_rfl
def F84 : AFn := ⟨2, 26, [.tmp 4], (.seq (.reg [⟨some 4, .mov (.con (.int .i64 0)), none⟩]) (.seq (.reg [⟨some 8, .mov (.tmp 0), none⟩, ⟨some 5, .mov (.con (.int .i64 0)), none⟩, ⟨some 6, .mov (.tmp 8), none⟩]) (.seq (.block 0 (.loop (.seq (.seq (.reg [⟨some 9, .mov (.tmp 5), none⟩, ⟨some 10, .mov (.tmp 6), none⟩, ⟨some 11, .bin .lss (.tmp 9) (.tmp 10), none⟩]) (.cond (.tmp 11) .skip (.exit 0))) (.block 1 (.seq (.reg [⟨some 12, .mov (.tmp 5), none⟩, ⟨some 13, .mov (.tmp 6), none⟩, ⟨some 14, .bin .add (.tmp 12) (.tmp 13), none⟩, ⟨some 15, .conv .u64 (.tmp 14), none⟩, ⟨some 16, .bin .shr (.tmp 15) (.con (.int .u64 1)), none⟩, ⟨some 17, .conv .i64 (.tmp 16), none⟩, ⟨some 7, .mov (.tmp 17), none⟩]) (.seq (.reg [⟨some 18, .mov (.tmp 1), none⟩, ⟨some 19, .mov (.tmp 7), none⟩, ⟨some 20, .call (.tmp 18) [(.tmp 19)], none⟩, ⟨some 21, .un .not (.tmp 20), none⟩]) (.cond (.tmp 21) (.reg [⟨some 22, .mov (.tmp 7), none⟩, ⟨some 23, .bin .add (.tmp 22) (.con (.int .i64 1)), none⟩, ⟨some 5, .mov (.tmp 23), none⟩]) (.reg [⟨some 24, .mov (.tmp 7), none⟩, ⟨some 6, .mov (.tmp 24), none⟩])))))))) (.seq (.reg [⟨some 25, .mov (.tmp 5), none⟩, ⟨some 4, .mov (.tmp 25), none⟩]) .ret))))⟩
theorem comp84 : compFn Try.prog 84 = some F84 := by kernel_rfl
def F85 : AFn := ⟨1, 12, [.tmp 4], (.seq (.reg [⟨some 4, .mov (.con (.bool false)), none⟩]) (.seq (.reg [⟨some 5, .load (some 9) (.tmp 1), none⟩, ⟨some 6, .load none (.tmp 2), none⟩, ⟨some 7, .mov (.tmp 0), none⟩, ⟨some 8, .call (.con (.fn 86 [] [])) [(.tmp 5), (.tmp 6), (.tmp 7)], none⟩, ⟨some 9, .call (.con (.fn 60 [] [])) [(.tmp 8)], none⟩, ⟨some 10, .aidx (.tmp 9) (.con (.int .i64 0)) 2 51 (some 51), none⟩, ⟨some 11, .call (.con (.fn 69 [] [])) [(.tmp 10)], none⟩, ⟨some 4, .mov (.tmp 11), none⟩]) .ret))⟩
theorem comp85 : compFn Try.prog 85 = some F85 := by kernel_rfl
def F86 : AFn := ⟨3, 21, [.cell 6 (some 9)], (.seq (.reg [⟨some 3, .box (.tmp 0), none⟩, ⟨some 6, .box (.con (.agg [.int .i64 0, .int .i64 0, .int .i64 0, .int .i64 0, .int .i64 0, .int .i64 0, .int .i64 0, .int .i64 0, .nils])), none⟩]) (.seq (.reg [⟨some 8, .mov (.tmp 1), none⟩, ⟨some 9, .mov (.tmp 2), none⟩, ⟨some 10, .mov (.tmp 2), none⟩, ⟨some 11, .build [.int .i64 0, .int .i64 0] [(0, 1, (.tmp 9)), (1, 1, (.tmp 10))], none⟩, ⟨some 12, .build [.int .i64 0, .int .i64 0, .int .i64 0, .int .i64 0, .int .i64 0, .int .i64 0, .int .i64 0] [(0, 1, (.tmp 8)), (1, 2, (.tmp 11)), (5, 1, (.con (.int .i64 1)))], none⟩, ⟨some 7, .box (.con (.agg [.int .i64 0, .int .i64 0, .int .i64 0, .int .i64 0, .int .i64 0, .int .i64 0, .int .i64 0])), none⟩, ⟨none, .store 7 (.tmp 7) (.tmp 12), none⟩]) (.seq (.dreg 5 [⟨some 13, .faddr (.tmp 3) 8, none⟩, ⟨some 14, .load none (.tmp 13), none⟩, ⟨some 15, .call (.con (.fn 104 [] [])) [(.tmp 14)], none⟩, ⟨some 16, .load (some 7) (.tmp 7), none⟩, ⟨some 17, .bsl 7 true [.int .i64 0, .int .i64 0, .int .i64 0, .int .i64 0, .int .i64 0, .int .i64 0, .int .i64 0] 1 [(0, (.tmp 16))], none⟩, ⟨some 18, .app (.tmp 15) (.tmp 17) 7 56 [.int .i64 0, .int .i64 0, .int .i64 0, .int .i64 0, .int .i64 0, .int .i64 0, .int .i64 0], none⟩, ⟨some 19, .faddr (.tmp 3) 8, none⟩, ⟨none, .store 1 (.tmp 19) (.tmp 18), none⟩]) (.seq (.reg [⟨some 20, .load (some 9) (.tmp 3), none⟩, ⟨none, .store 9 (.tmp 6) (.tmp 20), none⟩]) .ret))))⟩
theorem comp86 : compFn Try.prog 86 = some F86 := by kernel_rfl
def F87 : AFn := ⟨1, 13, [.tmp 5], (.seq (.reg [⟨some 5, .mov (.con (.bool false)), none⟩]) (.seq (.dreg 5 [⟨some 6, .load (some 9) (.tmp 1), none⟩, ⟨some 7, .load none (.tmp 2), none⟩, ⟨some 8, .mov (.tmp 0), none⟩, ⟨some 9, .call (.con (.fn 86 [] [])) [(.tmp 6), (.tmp 7), (.tmp 8)], none⟩, ⟨some 10, .load none (.tmp 3), none⟩, ⟨some 11, .call (.con (.fn 81 [] [])) [(.tmp 9), (.tmp 10)], none⟩, ⟨some 12, .bin .geq (.tmp 11) (.con (.int .i64 0)), none⟩, ⟨some 5, .mov (.tmp 12), none⟩]) .ret))⟩
theorem comp87 : compFn Try.prog 87 = some F87 := by kernel_rfl
def F89 : AFn := ⟨1, 17, [.tmp 2], (.seq (.reg [⟨some 1, .box (.tmp 0), none⟩, ⟨some 2, .mov (.con (.int .i64 0)), none⟩]) (.seq (.seq (.reg [⟨some 3, .faddr (.tmp 1) 0, none⟩, ⟨some 4, .load none (.tmp 3), none⟩]) (.block 0 (.seq (.reg [⟨some 6, .bin .eql (.tmp 4) (.con (.int .i64 1)), none⟩, ⟨some 5, .mov (.tmp 6), none⟩]) (.cond (.tmp 5) (.seq (.reg [⟨some 7, .load (some 3) (.tmp 1), none⟩, ⟨some 8, .call (.con (.fn 105 [] [])) [(.tmp 7)], none⟩, ⟨some 2, .mov (.tmp 8), none⟩]) .ret) (.seq (.reg [⟨some 10, .bin .eql (.tmp 4) (.con (.int .i64 2)), none⟩, ⟨some 9, .mov (.tmp 10), none⟩]) (.cond (.tmp 9) (.seq (.reg [⟨some 11, .load (some 3) (.tmp 1), none⟩, ⟨some 12, .call (.con (.fn 106 [] [])) [(.tmp 11)], none⟩, ⟨some 2, .mov (.tmp 12), none⟩]) .ret) (.seq (.reg [⟨some 14, .bin .eql (.tmp 4) (.con (.int .i64 3)), none⟩, ⟨some 13, .mov (.tmp 14), none⟩]) (.cond (.tmp 13) (.seq (.reg [⟨some 15, .load (some 3) (.tmp 1), none⟩, ⟨some 16, .call (.con (.fn 107 [] [])) [(.tmp 15)], none⟩, ⟨some 2, .mov (.tmp 16), none⟩]) .ret) .skip)))))))) (.seq (.reg [⟨some 2, .mov (.con (.int .i64 3)), none⟩]) .ret)))⟩
theorem comp89 : compFn Try.prog 89 = some F89 := by kernel_rfl
def F91 : AFn := ⟨2, 6, [.tmp 4], (.seq (.reg [⟨some 2, .box (.tmp 0), none⟩, ⟨some 3, .box (.tmp 1), none⟩, ⟨some 4, .mov (.con (.nilf)), none⟩]) (.seq (.reg [⟨some 5, .mkfn 108 [] [(.tmp 2), (.tmp 3)], none⟩, ⟨some 4, .mov (.tmp 5), none⟩]) .ret))⟩
theorem comp91 : compFn Try.prog 91 = some F91 := by kernel_rfl
def F92 : AFn := ⟨2, 16, [.tmp 4], (.seq (.reg [⟨some 2, .box (.tmp 0), none⟩, ⟨some 3, .box (.tmp 1), none⟩, ⟨some 4, .mov (.con (.int .i64 0)), none⟩]) (.seq (.reg [⟨some 5, .faddr (.tmp 2) 0, none⟩, ⟨some 6, .load none (.tmp 5), none⟩, ⟨some 7, .faddr (.tmp 3) 0, none⟩, ⟨some 8, .load none (.tmp 7), none⟩, ⟨some 9, .bin .sub (.tmp 6) (.tmp 8), none⟩, ⟨some 10, .faddr (.tmp 3) 0, none⟩, ⟨some 11, .load none (.tmp 10), none⟩, ⟨some 12, .faddr (.tmp 2) 0, none⟩, ⟨some 13, .load none (.tmp 12), none⟩, ⟨some 14, .bin .sub (.tmp 11) (.tmp 13), none⟩, ⟨some 15, .mx (.tmp 9) (.tmp 14), none⟩, ⟨some 4, .mov (.tmp 15), none⟩]) .ret))⟩
theorem comp92 : compFn Try.prog 92 = some F92 := by kernel_rfl
def F94 : AFn := ⟨1, 6, [.cell 2 (some 2)], (.seq (.reg [⟨some 2, .box (.con (.agg [.int .i64 0, .int .i64 0])), none⟩]) (.seq (.reg [⟨some 3, .mov (.tmp 0), none⟩, ⟨some 4, .mov (.tmp 0), none⟩, ⟨some 5, .call (.con (.fn 50 [] [])) [(.tmp 3), (.tmp 4)], none⟩, ⟨none, .store 2 (.tmp 2) (.tmp 5), none⟩]) .ret))⟩
theorem comp94 : compFn Try.prog 94 = some F94 := by kernel_rfl
def F96 : AFn := ⟨1, 35, [.tmp 2], (.seq (.reg [⟨some 1, .box (.tmp 0), none⟩, ⟨some 2, .mov (.con (.nils)), none⟩]) (.seq (.reg [⟨some 6, .faddr (.tmp 1) 0, none⟩, ⟨some 7, .faddr (.tmp 6) 5, none⟩, ⟨some 8, .load none (.tmp 7), none⟩, ⟨some 9, .faddr (.tmp 1) 0, none⟩, ⟨some 10, .faddr (.tmp 9) 6, none⟩, ⟨some 11, .load none (.tmp 10), none⟩, ⟨some 12, .build [.int .i64 0, .int .i64 0] [(0, 1, (.tmp 8)), (1, 1, (.tmp 11))], none⟩, ⟨some 13, .bsl 2 true [.int .i64 0, .int .i64 0] 1 [(0, (.tmp 12))], none⟩, ⟨some 3, .mov (.tmp 13), none⟩]) (.seq (.seq (.reg [⟨some 14, .faddr (.tmp 1) 0, none⟩, ⟨some 15, .faddr (.tmp 14) 8, none⟩, ⟨some 16, .load none (.tmp 15), none⟩, ⟨some 17, .len false (.tmp 16), none⟩, ⟨some 18, .mov (.con (.int .i64 0)), none⟩]) (.block 0 (.loop (.seq (.reg [⟨some 19, .bin .lss (.tmp 18) (.tmp 17), none⟩]) (.seq (.cond (.tmp 19) .skip (.exit 0)) (.seq (.block 1 (.seq (.reg [⟨some 20, .mov (.tmp 18), none⟩, ⟨some 21, .iaddr (.tmp 16) (.tmp 18) 7 none, none⟩, ⟨some 22, .load (some 7) (.tmp 21), none⟩, ⟨some 5, .box (.con (.agg [.int .i64 0, .int .i64 0, .int .i64 0, .int .i64 0, .int .i64 0, .int .i64 0, .int .i64 0])), none⟩, ⟨some 4, .mov (.tmp 20), none⟩, ⟨none, .store 7 (.tmp 5) (.tmp 22), none⟩]) (.dreg 9 [⟨some 23, .mov (.tmp 3), none⟩, ⟨some 24, .mov (.tmp 4), none⟩, ⟨some 25, .faddr (.tmp 1) 9, none⟩, ⟨some 26, .iaddr (.tmp 25) (.tmp 24) 1 (some 21), none⟩, ⟨some 27, .load none (.tmp 26), none⟩, ⟨some 28, .faddr (.tmp 5) 0, none⟩, ⟨some 29, .load none (.tmp 28), none⟩, ⟨some 30, .build [.int .i64 0, .int .i64 0] [(0, 1, (.tmp 27)), (1, 1, (.tmp 29))], none⟩, ⟨some 31, .bsl 2 true [.int .i64 0, .int .i64 0] 1 [(0, (.tmp 30))], none⟩, ⟨some 32, .app (.tmp 23) (.tmp 31) 2 16 [.int .i64 0, .int .i64 0], none⟩, ⟨some 3, .mov (.tmp 32), none⟩]))) (.reg [⟨some 33, .bin .add (.tmp 18) (.con (.int .i64 1)), none⟩, ⟨some 18, .mov (.tmp 33), none⟩]))))))) (.seq (.reg [⟨some 34, .mov (.tmp 3), none⟩, ⟨some 2, .mov (.tmp 34), none⟩]) .ret))))⟩
theorem comp96 : compFn Try.prog 96 = some F96 := by kernel_rfl
def F97 : AFn := ⟨2, 16, [.tmp 4], (.seq (.reg [⟨some 4, .mov (.con (.int .i64 0)), none⟩]) (.seq (.reg [⟨some 6, .mov (.tmp 0), none⟩, ⟨some 7, .mov (.tmp 1), none⟩, ⟨some 8, .bin .quo (.tmp 6) (.tmp 7), none⟩, ⟨some 5, .mov (.tmp 8), none⟩]) (.seq (.seq (.reg [⟨some 9, .mov (.tmp 0), none⟩, ⟨some 10, .mov (.tmp 1), none⟩, ⟨some 11, .bin .rem (.tmp 9) (.tmp 10), none⟩, ⟨some 12, .bin .lss (.tmp 11) (.con (.int .i64 0)), none⟩]) (.cond (.tmp 12) (.reg [⟨some 13, .mov (.tmp 5), none⟩, ⟨some 14, .bin .sub (.tmp 13) (.con (.int .i64 1)), none⟩, ⟨some 5, .mov (.tmp 14), none⟩]) .skip)) (.seq (.reg [⟨some 15, .mov (.tmp 5), none⟩, ⟨some 4, .mov (.tmp 15), none⟩]) .ret))))⟩
theorem comp97 : compFn Try.prog 97 = some F97 := by kernel_rfl
def F98 : AFn := ⟨2, 25, [.tmp 4], (.seq (.reg [⟨some 4, .mov (.con (.int .i64 0)), none⟩]) (.seq (.reg [⟨some 5, .mov (.con (.int .i64 0)), none⟩]) (.seq (.seq (.reg [⟨some 8, .mov (.tmp 1), none⟩, ⟨some 9, .len false (.tmp 8), none⟩, ⟨some 10, .mov (.con (.int .i64 0)), none⟩]) (.block 0 (.loop (.seq (.reg [⟨some 11, .bin .lss (.tmp 10) (.tmp 9), none⟩]) (.seq (.cond (.tmp 11) .skip (.exit 0)) (.seq (.block 1 (.seq (.reg [⟨some 12, .iaddr (.tmp 8) (.tmp 10) 2 none, none⟩, ⟨some 13, .load (some 2) (.tmp 12), none⟩, ⟨some 7, .box (.con (.agg [.int .i64 0, .int .i64 0])), none⟩, ⟨none, .store 2 (.tmp 7) (.tmp 13), none⟩]) (.reg [⟨some 14, .mov (.tmp 5), none⟩, ⟨some 15, .faddr (.tmp 7) 0, none⟩, ⟨some 16, .load none (.tmp 15), none⟩, ⟨some 17, .faddr (.tmp 7) 1, none⟩, ⟨some 18, .load none (.tmp 17), none⟩, ⟨some 19, .mov (.tmp 0), none⟩, ⟨some 20, .bin .sub (.tmp 18) (.tmp 19), none⟩, ⟨some 21, .bin .mul (.tmp 16) (.tmp 20), none⟩, ⟨some 22, .bin .add (.tmp 14) (.tmp 21), none⟩, ⟨some 5, .mov (.tmp 22), none⟩]))) (.reg [⟨some 23, .bin .add (.tmp 10) (.con (.int .i64 1)), none⟩, ⟨some 10, .mov (.tmp 23), none⟩]))))))) (.seq (.reg [⟨some 24, .mov (.tmp 5), none⟩, ⟨some 4, .mov (.tmp 24), none⟩]) .ret))))⟩
theorem comp98 : compFn Try.prog 98 = some F98 := by kernel_rfl
def F99 : AFn := ⟨2, 24, [.tmp 4], (.seq (.reg [⟨some 2, .box (.tmp 0), none⟩, ⟨some 4, .mov (.con (.int .i64 0)), none⟩]) (.seq (.block 0 (.seq (.reg [⟨some 6, .faddr (.tmp 2) 0, none⟩, ⟨some 7, .load none (.tmp 6), none⟩, ⟨some 8, .mov (.tmp 1), none⟩, ⟨some 9, .call (.con (.fn 83 [] [])) [(.tmp 7), (.con (.int .i64 0)), (.tmp 8)], none⟩, ⟨some 10, .un .not (.tmp 9), none⟩, ⟨some 11, .mov (.tmp 10), none⟩, ⟨some 12, .faddr (.tmp 2) 1, some (11, false)⟩, ⟨some 13, .load none (.tmp 12), some (11, false)⟩, ⟨some 14, .mov (.tmp 1), some (11, false)⟩, ⟨some 15, .call (.con (.fn 83 [] [])) [(.tmp 13), (.con (.int .i64 0)), (.tmp 14)], some (11, false)⟩, ⟨some 16, .un .not (.tmp 15), some (11, false)⟩, ⟨some 17, .pick (.tmp 11) (.con (.bool true)) (.tmp 16), none⟩, ⟨some 5, .mov (.tmp 17), none⟩]) (.cond (.tmp 5) (.seq (.reg [⟨some 4, .mov (.con (.int .i64 2)), none⟩]) .ret) (.seq (.reg [⟨some 19, .faddr (.tmp 2) 0, none⟩, ⟨some 20, .load none (.tmp 19), none⟩, ⟨some 21, .faddr (.tmp 2) 1, none⟩, ⟨some 22, .load none (.tmp 21), none⟩, ⟨some 23, .bin .gtr (.tmp 20) (.tmp 22), none⟩, ⟨some 18, .mov (.tmp 23), none⟩]) (.cond (.tmp 18) (.seq (.reg [⟨some 4, .mov (.con (.int .i64 9)), none⟩]) .ret) .skip))))) (.seq (.reg [⟨some 4, .mov (.con (.int .i64 0)), none⟩]) .ret)))⟩
theorem comp99 : compFn Try.prog 99 = some F99 := by kernel_rfl
def F100 : AFn := ⟨2, 22, [.tmp 4], (.seq (.reg [⟨some 2, .box (.tmp 0), none⟩, ⟨some 4, .mov (.con (.int .i64 0)), none⟩]) (.seq (.seq (.reg [⟨some 5, .faddr (.tmp 2) 0, none⟩, ⟨some 6, .load none (.tmp 5), none⟩, ⟨some 7, .mov (.tmp 1), none⟩, ⟨some 8, .call (.con (.fn 74 [] [])) [(.tmp 6), (.con (.int .i64 0)), (.tmp 7)], none⟩, ⟨some 9, .un .not (.tmp 8), none⟩, ⟨some 10, .mov (.tmp 9), none⟩, ⟨some 11, .faddr (.tmp 2) 1, some (10, false)⟩, ⟨some 12, .load none (.tmp 11), some (10, false)⟩, ⟨some 13, .mov (.tmp 1), some (10, false)⟩, ⟨some 14, .call (.con (.fn 74 [] [])) [(.tmp 12), (.con (.int .i64 0)), (.tmp 13)], some (10, false)⟩, ⟨some 15, .un .not (.tmp 14), some (10, false)⟩, ⟨some 16, .pick (.tmp 10) (.con (.bool true)) (.tmp 15), none⟩]) (.cond (.tmp 16) (.seq (.reg [⟨some 4, .mov (.con (.int .i64 2)), none⟩]) .ret) .skip)) (.seq (.seq (.reg [⟨some 17, .faddr (.tmp 2) 0, none⟩, ⟨some 18, .load none (.tmp 17), none⟩, ⟨some 19, .faddr (.tmp 2) 1, none⟩, ⟨some 20, .load none (.tmp 19), none⟩, ⟨some 21, .bin .gtr (.tmp 18) (.tmp 20), none⟩]) (.cond (.tmp 21) (.seq (.reg [⟨some 4, .mov (.con (.int .i64 9)), none⟩]) .ret) .skip)) (.seq (.reg [⟨some 4, .mov (.con (.int .i64 0)), none⟩]) .ret))))⟩
theorem comp100 : compFn Try.prog 100 = some F100 := by kernel_rfl
def F101 : AFn := ⟨2, 28, [.tmp 4], (.seq (.reg [⟨some 2, .box (.tmp 0), none⟩, ⟨some 3, .box (.tmp 1), none⟩, ⟨some 4, .mov (.con (.bool false)), none⟩]) (.seq (.seq (.reg [⟨some 5, .faddr (.tmp 3) 0, none⟩, ⟨some 6, .load none (.tmp 5), none⟩]) (.block 0 (.seq (.reg [⟨some 8, .bin .eql (.tmp 6) (.con (.int .i64 1)), none⟩, ⟨some 7, .mov (.tmp 8), none⟩]) (.cond (.tmp 7) (.seq (.reg [⟨some 9, .load (some 51) (.tmp 2), none⟩, ⟨some 10, .faddr (.tmp 3) 1, none⟩, ⟨some 11, .load none (.tmp 10), none⟩, ⟨some 12, .faddr (.tmp 3) 2, none⟩, ⟨some 13, .load none (.tmp 12), none⟩, ⟨some 14, .call (.con (.fn 109 [] [])) [(.tmp 9), (.tmp 11), (.tmp 13)], none⟩, ⟨some 4, .mov (.tmp 14), none⟩]) .ret) (.seq (.reg [⟨some 16, .bin .eql (.tmp 6) (.con (.int .i64 2)), none⟩, ⟨some 15, .mov (.tmp 16), none⟩]) (.cond (.tmp 15) (.seq (.dreg 4 [⟨some 17, .load (some 51) (.tmp 2), none⟩, ⟨some 18, .call (.con (.fn 67 [] [])) [(.tmp 17)], none⟩, ⟨some 19, .faddr (.tmp 3) 1, none⟩, ⟨some 20, .load none (.tmp 19), none⟩, ⟨some 21, .bin .leq (.tmp 18) (.tmp 20), none⟩, ⟨some 4, .mov (.tmp 21), none⟩]) .ret) .skip)))))) (.seq (.reg [⟨some 22, .load (some 51) (.tmp 2), none⟩, ⟨some 23, .faddr (.tmp 3) 1, none⟩, ⟨some 24, .load none (.tmp 23), none⟩, ⟨some 25, .faddr (.tmp 3) 2, none⟩, ⟨some 26, .load none (.tmp 25), none⟩, ⟨some 27, .call (.con (.fn 110 [] [])) [(.tmp 22), (.tmp 24), (.tmp 26)], none⟩, ⟨some 4, .mov (.tmp 27), none⟩]) .ret)))⟩
theorem comp101 : compFn Try.prog 101 = some F101 := by kernel_rfl
def F102 : AFn := ⟨2, 19, [.tmp 4], (.seq (.reg [⟨some 4, .mov (.con (.int .i64 0)), none⟩]) (.seq (.seq (.reg [⟨some 6, .mov (.tmp 0), none⟩, ⟨some 7, .len false (.tmp 6), none⟩, ⟨some 8, .mov (.con (.int .i64 0)), none⟩]) (.block 0 (.loop (.seq (.reg [⟨some 9, .bin .lss (.tmp 8) (.tmp 7), none⟩]) (.seq (.cond (.tmp 9) .skip (.exit 0)) (.seq (.block 1 (.seq (.reg [⟨some 10, .mov (.tmp 8), none⟩, ⟨some 5, .mov (.tmp 10), none⟩]) (.seq (.reg [⟨some 11, .mov (.tmp 1), none⟩, ⟨some 12, .mov (.tmp 0), none⟩, ⟨some 13, .mov (.tmp 5), none⟩, ⟨some 14, .iaddr (.tmp 12) (.tmp 13) 1 none, none⟩, ⟨some 15, .load none (.tmp 14), none⟩, ⟨some 16, .call (.tmp 11) [(.tmp 15)], none⟩]) (.cond (.tmp 16) (.seq (.reg [⟨some 17, .mov (.tmp 5), none⟩, ⟨some 4, .mov (.tmp 17), none⟩]) .ret) .skip)))) (.reg [⟨some 18, .bin .add (.tmp 8) (.con (.int .i64 1)), none⟩, ⟨some 8, .mov (.tmp 18), none⟩]))))))) (.seq (.reg [⟨some 4, .mov (.con (.int .i64 (-1))), none⟩]) .ret)))⟩
theorem comp102 : compFn Try.prog 102 = some F102 := by kernel_rfl
def F103 : AFn := ⟨1, 5, [.tmp 2], (.seq (.reg [⟨some 2, .mov (.con (.bool false)), none⟩]) (.seq (.reg [⟨some 3, .mov (.tmp 0), none⟩, ⟨some 4, .bin .neq (.tmp 3) (.con (.int .i64 1)), none⟩, ⟨some 2, .mov (.tmp 4), none⟩]) .ret))⟩
theorem comp103 : compFn Try.prog 103 = some F103 := by kernel_rfl
def F104 : AFn := ⟨1, 8, [.tmp 2], (.seq (.reg [⟨some 2, .mov (.con (.nils)), none⟩]) (.seq (.seq (.reg [⟨some 3, .mov (.tmp 0), none⟩, ⟨some 4, .eqn false 0 (.tmp 3) (.con (.nils)), none⟩]) (.cond (.tmp 4) (.seq (.reg [⟨some 2, .mov (.con (.nils)), none⟩]) .ret) .skip)) (.seq (.reg [⟨some 5, .bsl 7 true [.int .i64 0, .int .i64 0, .int .i64 0, .int .i64 0, .int .i64 0, .int .i64 0, .int .i64 0] 0 [], none⟩, ⟨some 6, .mov (.tmp 0), none⟩, ⟨some 7, .app (.tmp 5) (.tmp 6) 7 56 [.int .i64 0, .int .i64 0, .int .i64 0, .int .i64 0, .int .i64 0, .int .i64 0, .int .i64 0], none⟩, ⟨some 2, .mov (.tmp 7), none⟩]) .ret)))⟩
theorem comp104 : compFn Try.prog 104 = some F104 := by kernel_rfl
def F105 : AFn := ⟨1, 20, [.tmp 2], (.seq (.reg [⟨some 1, .box (.tmp 0), none⟩, ⟨some 2, .mov (.con (.int .i64 0)), none⟩]) (.seq (.block 0 (.seq (.reg [⟨some 4, .faddr (.tmp 1) 1, none⟩, ⟨some 5, .load none (.tmp 4), none⟩, ⟨some 6, .call (.con (.fn 83 [] [])) [(.tmp 5), (.con (.int .i64 0)), (.con (.int .i64 20000))], none⟩, ⟨some 7, .un .not (.tmp 6), none⟩, ⟨some 8, .mov (.tmp 7), none⟩, ⟨some 9, .faddr (.tmp 1) 2, some (8, false)⟩, ⟨some 10, .load none (.tmp 9), some (8, false)⟩, ⟨some 11, .call (.con (.fn 83 [] [])) [(.tmp 10), (.con (.int .i64 0)), (.con (.int .i64 20000))], some (8, false)⟩, ⟨some 12, .un .not (.tmp 11), some (8, false)⟩, ⟨some 13, .pick (.tmp 8) (.con (.bool true)) (.tmp 12), none⟩, ⟨some 3, .mov (.tmp 13), none⟩]) (.cond (.tmp 3) (.seq (.reg [⟨some 2, .mov (.con (.int .i64 2)), none⟩]) .ret) (.seq (.reg [⟨some 15, .faddr (.tmp 1) 1, none⟩, ⟨some 16, .load none (.tmp 15), none⟩, ⟨some 17, .faddr (.tmp 1) 2, none⟩, ⟨some 18, .load none (.tmp 17), none⟩, ⟨some 19, .bin .geq (.tmp 16) (.tmp 18), none⟩, ⟨some 14, .mov (.tmp 19), none⟩]) (.cond (.tmp 14) (.seq (.reg [⟨some 2, .mov (.con (.int .i64 9)), none⟩]) .ret) .skip))))) (.seq (.reg [⟨some 2, .mov (.con (.int .i64 0)), none⟩]) .ret)))⟩
theorem comp105 : compFn Try.prog 105 = some F105 := by kernel_rfl
def F106 : AFn := ⟨1, 12, [.tmp 2], (.seq (.reg [⟨some 1, .box (.tmp 0), none⟩, ⟨some 2, .mov (.con (.int .i64 0)), none⟩]) (.seq (.block 0 (.seq (.reg [⟨some 4, .faddr (.tmp 1) 1, none⟩, ⟨some 5, .load none (.tmp 4), none⟩, ⟨some 6, .call (.con (.fn 83 [] [])) [(.tmp 5), (.con (.int .i64 0)), (.con (.int .i64 2000))], none⟩, ⟨some 7, .un .not (.tmp 6), none⟩, ⟨some 3, .mov (.tmp 7), none⟩]) (.cond (.tmp 3) (.seq (.reg [⟨some 2, .mov (.con (.int .i64 2)), none⟩]) .ret) (.seq (.reg [⟨some 9, .faddr (.tmp 1) 2, none⟩, ⟨some 10, .load none (.tmp 9), none⟩, ⟨some 11, .bin .neq (.tmp 10) (.con (.int .i64 0)), none⟩, ⟨some 8, .mov (.tmp 11), none⟩]) (.cond (.tmp 8) (.seq (.reg [⟨some 2, .mov (.con (.int .i64 1)), none⟩]) .ret) .skip))))) (.seq (.reg [⟨some 2, .mov (.con (.int .i64 0)), none⟩]) .ret)))⟩
theorem comp106 : compFn Try.prog 106 = some F106 := by kernel_rfl
def F107 : AFn := ⟨1, 13, [.tmp 2], (.seq (.reg [⟨some 1, .box (.tmp 0), none⟩, ⟨some 2, .mov (.con (.int .i64 0)), none⟩]) (.seq (.seq (.reg [⟨some 3, .faddr (.tmp 1) 1, none⟩, ⟨some 4, .load none (.tmp 3), none⟩, ⟨some 5, .call (.con (.fn 83 [] [])) [(.tmp 4), (.con (.int .i64 0)), (.con (.int .i64 10000000))], none⟩, ⟨some 6, .un .not (.tmp 5), none⟩, ⟨some 7, .mov (.tmp 6), none⟩, ⟨some 8, .faddr (.tmp 1) 2, some (7, false)⟩, ⟨some 9, .load none (.tmp 8), some (7, false)⟩, ⟨some 10, .call (.con (.fn 83 [] [])) [(.tmp 9), (.con (.int .i64 0)), (.con (.int .i64 10000000))], some (7, false)⟩, ⟨some 11, .un .not (.tmp 10), some (7, false)⟩, ⟨some 12, .pick (.tmp 7) (.con (.bool true)) (.tmp 11), none⟩]) (.cond (.tmp 12) (.seq (.reg [⟨some 2, .mov (.con (.int .i64 2)), none⟩]) .ret) .skip)) (.seq (.reg [⟨some 2, .mov (.con (.int .i64 0)), none⟩]) .ret)))⟩
theorem comp107 : compFn Try.prog 107 = some F107 := by kernel_rfl
def F108 : AFn := ⟨1, 25, [], (.seq (.reg [⟨some 6, .load none (.tmp 1), none⟩, ⟨some 7, .len false (.tmp 6), none⟩, ⟨some 8, .mov (.con (.int .i64 0)), none⟩]) (.block 0 (.loop (.seq (.reg [⟨some 9, .bin .lss (.tmp 8) (.tmp 7), none⟩]) (.seq (.cond (.tmp 9) .skip (.exit 0)) (.seq (.block 1 (.seq (.reg [⟨some 10, .mov (.tmp 8), none⟩, ⟨some 11, .iaddr (.tmp 6) (.tmp 8) 7 none, none⟩, ⟨some 12, .load (some 7) (.tmp 11), none⟩, ⟨some 5, .box (.con (.agg [.int .i64 0, .int .i64 0, .int .i64 0, .int .i64 0, .int .i64 0, .int .i64 0, .int .i64 0])), none⟩, ⟨some 4, .mov (.tmp 10), none⟩, ⟨none, .store 7 (.tmp 5) (.tmp 12), none⟩]) (.seq (.reg [⟨some 13, .faddr (.tmp 5) 5, none⟩, ⟨some 14, .load none (.tmp 13), none⟩, ⟨some 15, .load none (.tmp 2), none⟩, ⟨some 16, .bin .eql (.tmp 14) (.tmp 15), none⟩, ⟨some 17, .mov (.tmp 16), none⟩, ⟨some 18, .mov (.tmp 0), some (17, true)⟩, ⟨some 19, .mov (.tmp 4), some (17, true)⟩, ⟨some 20, .load (some 7) (.tmp 5), some (17, true)⟩, ⟨some 21, .call (.tmp 18) [(.tmp 19), (.tmp 20)], some (17, true)⟩, ⟨some 22, .un .not (.tmp 21), some (17, true)⟩, ⟨some 23, .pick (.tmp 17) (.tmp 22) (.con (.bool false)), none⟩]) (.cond (.tmp 23) .ret .skip)))) (.reg [⟨some 24, .bin .add (.tmp 8) (.con (.int .i64 1)), none⟩, ⟨some 8, .mov (.tmp 24), none⟩])))))))⟩
theorem comp108 : compFn Try.prog 108 = some F108 := by kernel_rfl
def F109 : AFn := ⟨3, 46, [.tmp 6], (.seq (.reg [⟨some 3, .box (.tmp 0), none⟩, ⟨some 4, .box (.tmp 1), none⟩, ⟨some 6, .mov (.con (.bool false)), none⟩]) (.seq (.reg [⟨some 10, .mkfn 111 [] [(.tmp 3), (.tmp 4)], none⟩, ⟨some 11, .call (.con (.fn 84 [] [])) [(.con (.int .i64 21000)), (.tmp 10)], none⟩, ⟨some 7, .mov (.tmp 11), none⟩]) (.seq (.reg [⟨some 12, .faddr (.tmp 3) 0, none⟩, ⟨some 13, .faddr (.tmp 12) 4, none⟩, ⟨some 14, .load none (.tmp 13), none⟩, ⟨some 15, .mov (.tmp 7), none⟩, ⟨some 16, .bin .add (.tmp 14) (.tmp 15), none⟩, ⟨some 17, .bin .mul (.con (.int .i64 2)) (.tmp 16), none⟩, ⟨some 18, .faddr (.tmp 3) 0, none⟩, ⟨some 19, .faddr (.tmp 18) 1, none⟩, ⟨some 20, .load none (.tmp 19), none⟩, ⟨some 21, .bin .add (.tmp 17) (.tmp 20), none⟩, ⟨some 8, .mov (.tmp 21), none⟩]) (.seq (.reg [⟨some 22, .faddr (.tmp 3) 0, none⟩, ⟨some 23, .faddr (.tmp 22) 3, none⟩, ⟨some 24, .load none (.tmp 23), none⟩, ⟨some 25, .faddr (.tmp 3) 0, none⟩, ⟨some 26, .faddr (.tmp 25) 0, none⟩, ⟨some 27, .load none (.tmp 26), none⟩, ⟨some 28, .faddr (.tmp 3) 0, none⟩, ⟨some 29, .faddr (.tmp 28) 3, none⟩, ⟨some 30, .load none (.tmp 29), none⟩, ⟨some 31, .bin .sub (.tmp 27) (.tmp 30), none⟩, ⟨some 32, .mx (.tmp 24) (.tmp 31), none⟩, ⟨some 33, .bin .mul (.con (.int .i64 2)) (.tmp 32), none⟩, ⟨some 9, .mov (.tmp 33), none⟩]) (.seq (.reg [⟨some 34, .mov (.tmp 8), none⟩, ⟨some 35, .mov (.tmp 8), none⟩, ⟨some 36, .bin .mul (.tmp 34) (.tmp 35), none⟩, ⟨some 37, .mov (.tmp 9), none⟩, ⟨some 38, .mov (.tmp 9), none⟩, ⟨some 39, .bin .mul (.tmp 37) (.tmp 38), none⟩, ⟨some 40, .bin .add (.tmp 36) (.tmp 39), none⟩, ⟨some 41, .mov (.tmp 2), none⟩, ⟨some 42, .bin .mul (.con (.int .i64 4)) (.tmp 41), none⟩, ⟨some 43, .mov (.tmp 2), none⟩, ⟨some 44, .bin .mul (.tmp 42) (.tmp 43), none⟩, ⟨some 45, .bin .leq (.tmp 40) (.tmp 44), none⟩, ⟨some 6, .mov (.tmp 45), none⟩]) .ret)))))⟩
theorem comp109 : compFn Try.prog 109 = some F109 := by kernel_rfl
def F110 : AFn := ⟨3, 33, [.tmp 6], (.seq (.reg [⟨some 3, .box (.tmp 0), none⟩, ⟨some 6, .mov (.con (.bool false)), none⟩]) (.seq (.reg [⟨some 8, .mov (.tmp 2), none⟩, ⟨some 9, .faddr (.tmp 3) 0, none⟩, ⟨some 10, .faddr (.tmp 9) 3, none⟩, ⟨some 11, .load none (.tmp 10), none⟩, ⟨some 12, .faddr (.tmp 3) 0, none⟩, ⟨some 13, .faddr (.tmp 12) 2, none⟩, ⟨some 14, .load none (.tmp 13), none⟩, ⟨some 15, .bin .sub (.tmp 11) (.tmp 14), none⟩, ⟨some 16, .bin .mul (.tmp 8) (.tmp 15), none⟩, ⟨some 7, .mov (.tmp 16), none⟩]) (.seq (.reg [⟨some 17, .load (some 51) (.tmp 3), none⟩, ⟨some 18, .call (.con (.fn 61 [] [])) [(.tmp 17)], none⟩, ⟨some 19, .mov (.tmp 1), none⟩, ⟨some 20, .bin .leq (.tmp 18) (.tmp 19), none⟩, ⟨some 21, .mov (.tmp 20), none⟩, ⟨some 22, .load (some 51) (.tmp 3), some (21, true)⟩, ⟨some 23, .call (.con (.fn 65 [] [])) [(.tmp 22)], some (21, true)⟩, ⟨some 24, .mov (.tmp 7), some (21, true)⟩, ⟨some 25, .bin .leq (.tmp 23) (.tmp 24), some (21, true)⟩, ⟨some 26, .pick (.tmp 21) (.tmp 25) (.con (.bool false)), none⟩, ⟨some 27, .mov (.tmp 26), none⟩, ⟨some 28, .load (some 51) (.tmp 3), some (27, true)⟩, ⟨some 29, .call (.con (.fn 66 [] [])) [(.tmp 28)], some (27, true)⟩, ⟨some 30, .mov (.tmp 7), some (27, true)⟩, ⟨some 31, .bin .leq (.tmp 29) (.tmp 30), some (27, true)⟩, ⟨some 32, .pick (.tmp 27) (.tmp 31) (.con (.bool false)), none⟩, ⟨some 6, .mov (.tmp 32), none⟩]) .ret)))⟩
theorem comp110 : compFn Try.prog 110 = some F110 := by kernel_rfl
def F111 : AFn := ⟨1, 18, [.tmp 4], (.seq (.reg [⟨some 4, .mov (.con (.bool false)), none⟩]) (.seq (.reg [⟨some 5, .faddr (.tmp 1) 0, none⟩, ⟨some 6, .faddr (.tmp 5) 4, none⟩, ⟨some 7, .load none (.tmp 6), none⟩, ⟨some 8, .mov (.tmp 0), none⟩, ⟨some 9, .bin .add (.tmp 7) (.tmp 8), none⟩, ⟨some 10, .bin .mul (.con (.int .i64 2)) (.tmp 9), none⟩, ⟨some 11, .faddr (.tmp 1) 0, none⟩, ⟨some 12, .faddr (.tmp 11) 1, none⟩, ⟨some 13, .load none (.tmp 12), none⟩, ⟨some 14, .bin .sub (.tmp 10) (.tmp 13), none⟩, ⟨some 15, .load none (.tmp 2), none⟩, ⟨some 16, .bin .mul (.con (.int .i64 2)) (.tmp 15), none⟩, ⟨some 17, .bin .geq (.tmp 14) (.tmp 16), none⟩, ⟨some 4, .mov (.tmp 17), none⟩]) .ret))⟩
theorem comp111 : compFn Try.prog 111 = some F111 := by kernel_rfl
def entries : List (Entry Try.prog) := [⟨5, F5, comp5⟩, ⟨9, F9, comp9⟩, ⟨10, F10, comp10⟩, ⟨11, F11, comp11⟩, ⟨12, F12, comp12⟩, ⟨16, F16, comp16⟩, ⟨22, F22, comp22⟩, ⟨23, F23, comp23⟩, ⟨24, F24, comp24⟩, ⟨27, F27, comp27⟩, ⟨28, F28, comp28⟩, ⟨32, F32, comp32⟩, ⟨34, F34, comp34⟩, ⟨36, F36, comp36⟩, ⟨38, F38, comp38⟩, ⟨39, F39, comp39⟩, ⟨40, F40, comp40⟩, ⟨41, F41, comp41⟩, ⟨50, F50, comp50⟩, ⟨54, F54, comp54⟩, ⟨55, F55, comp55⟩, ⟨56, F56, comp56⟩, ⟨57, F57, comp57⟩, ⟨58, F58, comp58⟩, ⟨59, F59, comp59⟩, ⟨60, F60, comp60⟩, ⟨61, F61, comp61⟩, ⟨64, F64, comp64⟩, ⟨65, F65, comp65⟩, ⟨66, F66, comp66⟩, ⟨67, F67, comp67⟩, ⟨68, F68, comp68⟩, ⟨69, F69, comp69⟩, ⟨72, F72, comp72⟩, ⟨73, F73, comp73⟩, ⟨74, F74, comp74⟩, ⟨75, F75, comp75⟩, ⟨77, F77, comp77⟩, ⟨78, F78, comp78⟩, ⟨81, F81, comp81⟩, ⟨83, F83, comp83⟩, ⟨84, F84, comp84⟩, ⟨85, F85, comp85⟩, ⟨86, F86, comp86⟩, ⟨87, F87, comp87⟩, ⟨89, F89, comp89⟩, ⟨91, F91, comp91⟩, ⟨92, F92, comp92⟩, ⟨94, F94, comp94⟩, ⟨96, F96, comp96⟩, ⟨97, F97, comp97⟩, ⟨98, F98, comp98⟩, ⟨99, F99, comp99⟩, ⟨100, F100, comp100⟩, ⟨101, F101, comp101⟩, ⟨102, F102, comp102⟩, ⟨103, F103, comp103⟩, ⟨104, F104, comp104⟩, ⟨105, F105, comp105⟩, ⟨106, F106, comp106⟩, ⟨107, F107, comp107⟩, ⟨108, F108, comp108⟩, ⟨109, F109, comp109⟩, ⟨110, F110, comp110⟩, ⟨111, F111, comp111⟩]
def tab : FuncId → Option AFn := tabOf entries
theorem tab_ok : ∀ f F, tab f = some F → compFn Try.prog f = some F := tabOf_ok entries
end Go.Proofs.Ytfcjcjncfniclaa
end
section
namespace Go.Proofs.Ytfcjcjncfniclaa
open Go.RowKit
set_option linter.unusedVariables false
set_option linter.unusedSimpArgs false
set_option maxRecDepth 10000
set_option maxHeartbeats 4000000
structure T_bateriakit_Drum where
  beat_ : Int
  deriving Inhabited
def C_bateriakit_Drum (x : T_bateriakit_Drum) : List AV := [.int .u64 x.beat_]
def A_bateriakit_Drum (x : T_bateriakit_Drum) : AV := .agg (C_bateriakit_Drum x)
theorem KC_bateriakit_Drum (x : T_bateriakit_Drum) : cleanL (C_bateriakit_Drum x) = true := by simp [C_bateriakit_Drum, cleanL, AV.clean, cleanI, cleanBo, cleanSt, cleanII]
theorem KA_bateriakit_Drum (x : T_bateriakit_Drum) : (A_bateriakit_Drum x).clean = true := KC_bateriakit_Drum x
theorem KL_bateriakit_Drum (l : List T_bateriakit_Drum) : cleanL (l.map A_bateriakit_Drum) = true := cleanM KA_bateriakit_Drum l
theorem KB_bateriakit_Drum (x : T_bateriakit_Drum) (n : Nat) (σ : List Nat) : (C_bateriakit_Drum x).mapM (re n σ) = some (C_bateriakit_Drum x) := by simp [C_bateriakit_Drum, re, re1, AV.clean, cleanI, cleanBo, cleanSt, cleanII]
def p_bateriakit_Drum_hit (N : Nat) (d_1 : T_bateriakit_Drum) : Option (Int × T_bateriakit_Drum) := ((some (Int.fdiv (IntKind.u64.wrap ((IntKind.u64.wrap (d_1.beat_ * 15074714826142052245)) + 11400714819323198485)) ((2 : Int) ^ (min (Int.toNat 32) (IntKind.bits .u64))))).bind fun n_2 => ((some (IntKind.u64.wrap (((BitVec.ofInt (IntKind.bits .u64) (IntKind.u64.wrap ((IntKind.u64.wrap (d_1.beat_ * 15074714826142052245)) + 11400714819323198485)) ^^^ BitVec.ofInt (IntKind.bits .u64) n_2).toNat : Nat) : Int))).bind fun n_3 => ((some (Int.fdiv (IntKind.u64.wrap (n_3 * 15760922415973212899)) ((2 : Int) ^ (min (Int.toNat 32) (IntKind.bits .u64))))).bind fun n_4 => ((some (IntKind.u64.wrap (((BitVec.ofInt (IntKind.bits .u64) (IntKind.u64.wrap (n_3 * 15760922415973212899)) ^^^ BitVec.ofInt (IntKind.bits .u64) n_4).toNat : Nat) : Int))).bind fun n_5 => ((some (Int.fdiv (IntKind.u64.wrap (n_5 * 15760922415973212899)) ((2 : Int) ^ (min (Int.toNat 32) (IntKind.bits .u64))))).bind fun n_6 => ((some (IntKind.u64.wrap (((BitVec.ofInt (IntKind.bits .u64) (IntKind.u64.wrap (n_5 * 15760922415973212899)) ^^^ BitVec.ofInt (IntKind.bits .u64) n_6).toNat : Nat) : Int))).bind fun n_7 => some (n_7, (⟨(IntKind.u64.wrap ((IntKind.u64.wrap (d_1.beat_ * 15074714826142052245)) + 11400714819323198485))⟩ : T_bateriakit_Drum))))))))
def v_bateriakit_Drum_hit (r : Int × T_bateriakit_Drum) : AV := .int .u64 r.1
theorem b_bateriakit_Drum_hit (r : Int × T_bateriakit_Drum) (n n2 m : Nat) : back n n2 m (v_bateriakit_Drum_hit r) = some (v_bateriakit_Drum_hit r) := by simp [v_bateriakit_Drum_hit, back, back1, AV.plain, AV.plain1, AV.clean, cleanL, cleanI, cleanBo, cleanSt, cleanII, KL_bateriakit_Drum, A_bateriakit_Drum, C_bateriakit_Drum]
theorem d_bateriakit_Drum_hit (N : Nat) (d_1 : T_bateriakit_Drum) (r : Int × T_bateriakit_Drum) (h : p_bateriakit_Drum_hit N d_1 = some r) : Does Try.prog 59 [.ptr 0 0] [(C_bateriakit_Drum d_1)] fun v c => v = v_bateriakit_Drum_hit r ∧ c = [(C_bateriakit_Drum r.2)] := by
  unfold p_bateriakit_Drum_hit at h
  refine Does.ofL comp59 _ _ rfl rfl ?_
  refine Ex.seq ?_
  refine regH 1 [] [0] [] (mkS 31 [(0, .ptr 0 0)]) (⟨[(C_bateriakit_Drum d_1)], []⟩) (by kernel_rfl) trivial rfl ?_
  refine Ex.seq ?_
  refine regH 10 [] [0] [] (mkS 31 [(0, .ptr 0 0)]) (⟨[[.int .u64 (IntKind.u64.wrap ((IntKind.u64.wrap (d_1.beat_ * 15074714826142052245)) + 11400714819323198485))]], []⟩) (by kernel_rfl) trivial rfl ?_
  refine Ex.seq ?_
  refine regH 5 [] [3] [] (mkS 31 [(3, .int .u64 (IntKind.u64.wrap ((IntKind.u64.wrap (d_1.beat_ * 15074714826142052245)) + 11400714819323198485)))]) (⟨[[.int .u64 (IntKind.u64.wrap ((IntKind.u64.wrap (d_1.beat_ * 15074714826142052245)) + 11400714819323198485))]], []⟩) (by kernel_rfl) trivial rfl ?_
  refine Ex.seq ?_
  obtain ⟨n_2, hn_2, h⟩ := Option.bind_eq_some_iff.1 h
  obtain ⟨n_3, hn_3, h⟩ := Option.bind_eq_some_iff.1 h
  refine regH 6 [(2, .eq (.int .u64 n_2)), (3, .eq (.int .u64 n_3))] [3] [AV.int .u64 (Int.fdiv (IntKind.u64.wrap ((IntKind.u64.wrap (d_1.beat_ * 15074714826142052245)) + 11400714819323198485)) ((2 : Int) ^ (min (Int.toNat 32) (IntKind.bits .u64)))) = AV.int .u64 n_2, AV.int .u64 (IntKind.u64.wrap (((BitVec.ofInt (IntKind.bits .u64) (IntKind.u64.wrap ((IntKind.u64.wrap (d_1.beat_ * 15074714826142052245)) + 11400714819323198485)) ^^^ BitVec.ofInt (IntKind.bits .u64) n_2).toNat : Nat) : Int)) = AV.int .u64 n_3] (mkS 31 [(3, .int .u64 (IntKind.u64.wrap (n_3 * 15760922415973212899)))]) (⟨[[.int .u64 (IntKind.u64.wrap ((IntKind.u64.wrap (d_1.beat_ * 15074714826142052245)) + 11400714819323198485))]], []⟩) (by kernel_rfl) ⟨congrArg (AV.int .u64) (Option.some.inj hn_2), congrArg (AV.int .u64) (Option.some.inj hn_3), trivial⟩ rfl ?_
  refine Ex.seq ?_
  obtain ⟨n_4, hn_4, h⟩ := Option.bind_eq_some_iff.1 h
  obtain ⟨n_5, hn_5, h⟩ := Option.bind_eq_some_iff.1 h
  refine regH 6 [(2, .eq (.int .u64 n_4)), (3, .eq (.int .u64 n_5))] [3] [AV.int .u64 (Int.fdiv (IntKind.u64.wrap (n_3 * 15760922415973212899)) ((2 : Int) ^ (min (Int.toNat 32) (IntKind.bits .u64)))) = AV.int .u64 n_4, AV.int .u64 (IntKind.u64.wrap (((BitVec.ofInt (IntKind.bits .u64) (IntKind.u64.wrap (n_3 * 15760922415973212899)) ^^^ BitVec.ofInt (IntKind.bits .u64) n_4).toNat : Nat) : Int)) = AV.int .u64 n_5] (mkS 31 [(3, .int .u64 (IntKind.u64.wrap (n_5 * 15760922415973212899)))]) (⟨[[.int .u64 (IntKind.u64.wrap ((IntKind.u64.wrap (d_1.beat_ * 15074714826142052245)) + 11400714819323198485))]], []⟩) (by kernel_rfl) ⟨congrArg (AV.int .u64) (Option.some.inj hn_4), congrArg (AV.int .u64) (Option.some.inj hn_5), trivial⟩ rfl ?_
  refine Ex.seq ?_
  obtain ⟨n_6, hn_6, h⟩ := Option.bind_eq_some_iff.1 h
  obtain ⟨n_7, hn_7, h⟩ := Option.bind_eq_some_iff.1 h
  refine regH 5 [(2, .eq (.int .u64 n_6)), (3, .eq (.int .u64 n_7))] [2] [AV.int .u64 (Int.fdiv (IntKind.u64.wrap (n_5 * 15760922415973212899)) ((2 : Int) ^ (min (Int.toNat 32) (IntKind.bits .u64)))) = AV.int .u64 n_6, AV.int .u64 (IntKind.u64.wrap (((BitVec.ofInt (IntKind.bits .u64) (IntKind.u64.wrap (n_5 * 15760922415973212899)) ^^^ BitVec.ofInt (IntKind.bits .u64) n_6).toNat : Nat) : Int)) = AV.int .u64 n_7] (mkS 31 [(2, .int .u64 n_7)]) (⟨[[.int .u64 (IntKind.u64.wrap ((IntKind.u64.wrap (d_1.beat_ * 15074714826142052245)) + 11400714819323198485))]], []⟩) (by kernel_rfl) ⟨congrArg (AV.int .u64) (Option.some.inj hn_6), congrArg (AV.int .u64) (Option.some.inj hn_7), trivial⟩ rfl ?_
  refine Ex.ret ?_
  obtain rfl := Option.some.inj h
  exact ⟨.inr rfl, .int .u64 n_7, by kernel_rfl, by kernel_rfl, by kernel_rfl, by kernel_rfl⟩
def p_bateriakit_DrumOf (N : Nat) (nums_1 : (List Int)) : Option (T_bateriakit_Drum) := (letJ (fun (b_2 : Int) => some (⟨b_2⟩ : T_bateriakit_Drum)) (fun k_3 => (loop2 (fun rec_8 (i_6 : Int) (b_7 : Int) => (bif (decide (i_6 < ((nums_1.length : Nat) : Int))) then ((getI nums_1 i_6).bind fun x_12 => ((some (IntKind.u64.wrap (((BitVec.ofInt (IntKind.bits .u64) b_7 ^^^ BitVec.ofInt (IntKind.bits .u64) (IntKind.u64.wrap x_12)).toNat : Nat) : Int))).bind fun n_13 => ((p_bateriakit_Drum_hit N (⟨n_13⟩ : T_bateriakit_Drum)).bind fun r_14 => (rec_8 (IntKind.i64.wrap (i_6 + 1)) r_14.2.beat_)))) else (k_3 b_7))) N 0 2685821657736338717)))
def v_bateriakit_DrumOf (r : T_bateriakit_Drum) : AV := .ptr 0 0
theorem a_bateriakit_DrumOf (nums_1 : (List Int)) : [.sl (nums_1.map (AV.int .i64)) none].mapM (ren []) = some [.sl (nums_1.map (AV.int .i64)) none] := by simp [ren, ren1, AV.plain, AV.plain1, AV.clean, cleanL, cleanI, cleanBo, cleanSt, cleanII, KL_bateriakit_Drum, A_bateriakit_Drum, C_bateriakit_Drum]
theorem d_bateriakit_DrumOf (N : Nat) (nums_1 : (List Int)) (r : T_bateriakit_Drum) (h : p_bateriakit_DrumOf N nums_1 = some r) : Does Try.prog 11 [.sl (nums_1.map (AV.int .i64)) none] [] fun v c => v = v_bateriakit_DrumOf r ∧ c = [(C_bateriakit_Drum r)] := by
  unfold p_bateriakit_DrumOf at h
  refine Does.ofP comp11 _ _ rfl rfl ?_
  refine Ex.seq ?_
  refine regH 1 [] [0] [] (mkS 29 [(0, .sl (nums_1.map (AV.int .i64)) none)]) (⟨[], []⟩) (by kernel_rfl) trivial rfl ?_
  refine Ex.seq ?_
  refine regH 3 [] [0, 3] [] (mkS 29 [(0, .sl (nums_1.map (AV.int .i64)) none), (3, .ptr 0 0)]) (⟨[[.int .u64 2685821657736338717]], []⟩) (by kernel_rfl) trivial rfl ?_
  refine Ex.seq ?_
  refine Ex.seq ?_
  refine regH 1 [] [0, 3, 4] [] (mkS 29 [(0, .sl (nums_1.map (AV.int .i64)) none), (3, .ptr 0 0), (4, .int .i64 0)]) (⟨[[.int .u64 2685821657736338717]], []⟩) (by kernel_rfl) trivial rfl ?_
  obtain ⟨K_4, hK_5, h⟩ := letE h
  refine Ex.blockJ (fun a S => ∃ (b_2 : Int), K_4 b_2 = some r ∧ a = mkS 29 [(3, .ptr 0 0)] ∧ S = ⟨[[.int .u64 b_2]], []⟩) ?_ ?_
  · obtain ⟨B_9, hB_10, h⟩ := loop2I h
    refine Ex.loopF (fun k a S => ∃ (i_6 : Int), ∃ (b_7 : Int), loop2 B_9 k i_6 b_7 = some r ∧ a = mkS 29 [(0, .sl (nums_1.map (AV.int .i64)) none), (3, .ptr 0 0), (4, .int .i64 i_6)] ∧ S = ⟨[[.int .u64 b_7]], []⟩) N ⟨_, _, Forgets.refl _ _ _, 0, 2685821657736338717, h, rfl, rfl⟩ ?_
    rintro k a S ⟨i_6, b_7, h, rfl, rfl⟩
    cases k with
    | zero => exact (loop2Z h).elim
    | succ k =>
      replace h := loop2S h hB_10
      refine Ex.seq ?_
      refine Ex.seq ?_
      refine regH 4 [(2, .eq (.int .i64 ((nums_1.length : Nat) : Int)))] [0, 3, 4, 10] [AV.int .i64 (((nums_1.map (AV.int .i64)).length : Nat) : Int) = AV.int .i64 ((nums_1.length : Nat) : Int)] (mkS 29 [(0, .sl (nums_1.map (AV.int .i64)) none), (3, .ptr 0 0), (4, .int .i64 i_6), (10, .bool (decide (i_6 < ((nums_1.length : Nat) : Int))))]) (⟨[[.int .u64 b_7]], []⟩) (by kernel_rfl) ⟨lenM _ _, trivial⟩ rfl ?_
      rcases condI h with ⟨hc_11, h⟩ | ⟨hc_11, h⟩
      · refine Ex.condT _ rfl hc_11 ?_
        refine Ex.skip ?_
        refine Ex.seq ?_
        refine Ex.blockK ?_
        refine Ex.seq ?_
        obtain ⟨x_12, hx_12, h⟩ := Option.bind_eq_some_iff.1 h
        obtain ⟨n_13, hn_13, h⟩ := Option.bind_eq_some_iff.1 h
        refine Ex.drawE (a1 := mkS 29 [(0, .sl (nums_1.map (AV.int .i64)) none), (3, .ptr 0 0), (4, .int .i64 i_6), (10, .bool (decide (i_6 < ((nums_1.length : Nat) : Int)))), (13, .ptr 0 0), (14, .ptr 0 0), (15, .ptr 0 0), (16, .ptr 0 0), (17, .int .u64 b_7), (18, .sl (nums_1.map (AV.int .i64)) none), (19, .int .i64 i_6), (20, .rop [.int .i64 x_12]), (21, .int .i64 x_12), (22, .int .u64 (IntKind.u64.wrap x_12)), (23, .int .u64 n_13)]) (noClr_ok _) [] [] [] ?_ ?_
        · refine drS [0] 11 [(7, .rop [.int .i64 x_12]), (10, .eq (.int .u64 n_13))] [LGet (nums_1.map (AV.int .i64)) i_6 1 [.int .i64 x_12], AV.int .u64 (IntKind.u64.wrap (((BitVec.ofInt (IntKind.bits .u64) b_7 ^^^ BitVec.ofInt (IntKind.bits .u64) (IntKind.u64.wrap x_12)).toNat : Nat) : Int)) = AV.int .u64 n_13] (mkS 29 [(0, .sl (nums_1.map (AV.int .i64)) none), (3, .ptr 0 0), (4, .int .i64 i_6), (10, .bool (decide (i_6 < ((nums_1.length : Nat) : Int)))), (13, .ptr 0 0), (14, .ptr 0 0), (15, .ptr 0 0), (16, .ptr 0 0), (17, .int .u64 b_7), (18, .sl (nums_1.map (AV.int .i64)) none), (19, .int .i64 i_6), (20, .rop [.int .i64 x_12]), (21, .int .i64 x_12), (22, .int .u64 (IntKind.u64.wrap x_12)), (23, .int .u64 n_13)]) (by simp) (by kernel_rfl) ⟨LGet.of hx_12 rfl, congrArg (AV.int .u64) (Option.some.inj hn_13), trivial⟩ (by kernel_rfl) ?_
          exact DrO.nil rfl
        · dsimp only [List.getLastD_cons, List.getLastD_nil]
          refine runH 3 [] [0, 3, 4] [] (mkS 29 [(0, .sl (nums_1.map (AV.int .i64)) none), (3, .ptr 0 0), (4, .int .i64 i_6)]) (⟨[[.int .u64 n_13]], []⟩) (by kernel_rfl) trivial ?_
          refine ExO.nil ?_
          obtain ⟨r_14, hr_14, h⟩ := Option.bind_eq_some_iff.1 h
          refine Ex.reg ?_
          refine runH 1 [] [0, 3, 4, 26] [] (mkS 29 [(0, .sl (nums_1.map (AV.int .i64)) none), (3, .ptr 0 0), (4, .int .i64 i_6), (26, .ptr 0 0)]) (⟨[[.int .u64 n_13]], []⟩) (by kernel_rfl) trivial ?_
          refine ExO.callL [0] [.ptr 0 0] rfl rfl (by simp [ren, ren1, fadeS, fadeV, AV.plain, AV.plain1, AV.clean, List.idxOf?, List.findIdx?, List.findIdx?.go, cleanL, cleanI, cleanBo, cleanSt, cleanII, KL_bateriakit_Drum, A_bateriakit_Drum, C_bateriakit_Drum]; try rfl) rfl (by simp [cleanL, AV.clean, cleanL, cleanI, cleanBo, cleanSt, cleanII, KL_bateriakit_Drum, A_bateriakit_Drum, C_bateriakit_Drum]) (d_bateriakit_Drum_hit N (⟨n_13⟩ : T_bateriakit_Drum) r_14 hr_14) (b_bateriakit_Drum_hit _ _ _ _) (by simp [cleanL, AV.clean, cleanL, cleanI, cleanBo, cleanSt, cleanII, KL_bateriakit_Drum, A_bateriakit_Drum, C_bateriakit_Drum]) ?_
          refine runH 0 [] [0, 3, 4] [] (mkS 29 [(0, .sl (nums_1.map (AV.int .i64)) none), (3, .ptr 0 0), (4, .int .i64 i_6)]) (⟨[(C_bateriakit_Drum r_14.2)], []⟩) (by kernel_rfl) trivial ?_
          refine ExO.nil ?_
          refine regH 3 [] [0, 3, 4] [] (mkS 29 [(0, .sl (nums_1.map (AV.int .i64)) none), (3, .ptr 0 0), (4, .int .i64 (IntKind.i64.wrap (i_6 + 1)))]) (⟨[(C_bateriakit_Drum r_14.2)], []⟩) (by kernel_rfl) trivial rfl ?_
          dsimp only
          exact ⟨_, _, Forgets.refl _ _ _, k, Nat.lt_succ_self k, (IntKind.i64.wrap (i_6 + 1)), r_14.2.beat_, h, rfl, rfl⟩
      · refine Ex.condF _ rfl hc_11 ?_
        refine Ex.exit ?_
        (try simp only [reduceCtorEq, AEx.ex.injEq, Nat.reduceEqDiff, if_true, if_false])
        exact ⟨_, _, forgetK [3], b_7, h, rfl, rfl⟩
  · rintro a S ⟨b_2, h, rfl, rfl⟩
    subst hK_5
    refine Ex.seq ?_
    refine regH 2 [] [2] [] (mkS 29 [(2, .ptr 0 0)]) (⟨[[.int .u64 b_2]], []⟩) (by kernel_rfl) trivial rfl ?_
    refine Ex.ret ?_
    obtain rfl := Option.some.inj h
    exact ⟨.inr rfl, .ptr 0 0, by kernel_rfl, by kernel_rfl, by kernel_rfl, [], by kernel_rfl⟩
def p_bateriakit_Drum_Roll (N : Nat) (d_1 : T_bateriakit_Drum) (n_2 : Int) : Option (Int × T_bateriakit_Drum) := (bif (decide (n_2 < 2)) then some (0, d_1) else ((p_bateriakit_Drum_hit N d_1).bind fun r_4 => ((nzI (IntKind.u64.wrap n_2)).bind fun u_5 => some ((IntKind.i64.wrap (Int.tmod (Int.fdiv r_4.1 ((2 : Int) ^ (min (Int.toNat 1) (IntKind.bits .u64)))) (IntKind.u64.wrap n_2))), r_4.2))))
def v_bateriakit_Drum_Roll (r : Int × T_bateriakit_Drum) : AV := .int .i64 r.1
theorem b_bateriakit_Drum_Roll (r : Int × T_bateriakit_Drum) (n n2 m : Nat) : back n n2 m (v_bateriakit_Drum_Roll r) = some (v_bateriakit_Drum_Roll r) := by simp [v_bateriakit_Drum_Roll, back, back1, AV.plain, AV.plain1, AV.clean, cleanL, cleanI, cleanBo, cleanSt, cleanII, KL_bateriakit_Drum, A_bateriakit_Drum, C_bateriakit_Drum]
theorem d_bateriakit_Drum_Roll (N : Nat) (d_1 : T_bateriakit_Drum) (n_2 : Int) (r : Int × T_bateriakit_Drum) (h : p_bateriakit_Drum_Roll N d_1 n_2 = some r) : Does Try.prog 38 [.ptr 0 0, .int .i64 n_2] [(C_bateriakit_Drum d_1)] fun v c => v = v_bateriakit_Drum_Roll r ∧ c = [(C_bateriakit_Drum r.2)] := by
  unfold p_bateriakit_Drum_Roll at h
  refine Does.ofL comp38 _ _ rfl rfl ?_
  refine Ex.seq ?_
  refine regH 1 [] [0, 1] [] (mkS 14 [(0, .ptr 0 0), (1, .int .i64 n_2)]) (⟨[(C_bateriakit_Drum d_1)], []⟩) (by kernel_rfl) trivial rfl ?_
  refine Ex.seq ?_
  refine Ex.seq ?_
  refine regH 2 [] [0, 1, 6] [] (mkS 14 [(0, .ptr 0 0), (1, .int .i64 n_2), (6, .bool (decide (n_2 < 2)))]) (⟨[(C_bateriakit_Drum d_1)], []⟩) (by kernel_rfl) trivial rfl ?_
  rcases condI h with ⟨hc_3, h⟩ | ⟨hc_3, h⟩
  · refine Ex.condT _ rfl hc_3 ?_
    refine Ex.seq ?_
    refine regH 1 [] [4] [] (mkS 14 [(4, .int .i64 0)]) (⟨[(C_bateriakit_Drum d_1)], []⟩) (by kernel_rfl) trivial rfl ?_
    refine Ex.ret ?_
    obtain rfl := Option.some.inj h
    exact ⟨.inr rfl, .int .i64 0, by kernel_rfl, by kernel_rfl, by kernel_rfl, by kernel_rfl⟩
  · refine Ex.condF _ rfl hc_3 ?_
    refine Ex.skip ?_
    refine Ex.seq ?_
    obtain ⟨r_4, hr_4, h⟩ := Option.bind_eq_some_iff.1 h
    refine Ex.reg ?_
    refine runH 1 [] [1, 7] [] (mkS 14 [(1, .int .i64 n_2), (7, .ptr 0 0)]) (⟨[(C_bateriakit_Drum d_1)], []⟩) (by kernel_rfl) trivial ?_
    refine ExO.callL [0] [.ptr 0 0] rfl rfl (by simp [ren, ren1, fadeS, fadeV, AV.plain, AV.plain1, AV.clean, List.idxOf?, List.findIdx?, List.findIdx?.go, cleanL, cleanI, cleanBo, cleanSt, cleanII, KL_bateriakit_Drum, A_bateriakit_Drum, C_bateriakit_Drum]; try rfl) rfl (by simp [cleanL, AV.clean, cleanL, cleanI, cleanBo, cleanSt, cleanII, KL_bateriakit_Drum, A_bateriakit_Drum, C_bateriakit_Drum]) (d_bateriakit_Drum_hit N d_1 r_4 hr_4) (b_bateriakit_Drum_hit _ _ _ _) (by simp [cleanL, AV.clean, cleanL, cleanI, cleanBo, cleanSt, cleanII, KL_bateriakit_Drum, A_bateriakit_Drum, C_bateriakit_Drum]) ?_
    obtain ⟨u_5, hu_5, h⟩ := Option.bind_eq_some_iff.1 h
    refine runH 6 [(3, .bin (.int .u64 (Int.tmod (Int.fdiv r_4.1 ((2 : Int) ^ (min (Int.toNat 1) (IntKind.bits .u64)))) (IntKind.u64.wrap n_2))))] [4] [binA .rem (.int .u64 (Int.fdiv r_4.1 ((2 : Int) ^ (min (Int.toNat 1) (IntKind.bits .u64))))) (.int .u64 (IntKind.u64.wrap n_2)) = some (.int .u64 (Int.tmod (Int.fdiv r_4.1 ((2 : Int) ^ (min (Int.toNat 1) (IntKind.bits .u64)))) (IntKind.u64.wrap n_2)))] (mkS 14 [(4, .int .i64 (IntKind.i64.wrap (Int.tmod (Int.fdiv r_4.1 ((2 : Int) ^ (min (Int.toNat 1) (IntKind.bits .u64)))) (IntKind.u64.wrap n_2))))]) (⟨[(C_bateriakit_Drum r_4.2)], []⟩) (by kernel_rfl) ⟨binR hu_5, trivial⟩ ?_
    refine ExO.nil ?_
    refine Ex.ret ?_
    obtain rfl := Option.some.inj h
    exact ⟨.inr rfl, .int .i64 (IntKind.i64.wrap (Int.tmod (Int.fdiv r_4.1 ((2 : Int) ^ (min (Int.toNat 1) (IntKind.bits .u64)))) (IntKind.u64.wrap n_2))), by kernel_rfl, by kernel_rfl, by kernel_rfl, by kernel_rfl⟩
def p_bateriakit_Drum_Mid (N : Nat) (d_1 : T_bateriakit_Drum) (low_2 : Int) (high_3 : Int) : Option (Int × T_bateriakit_Drum) := ((p_bateriakit_Drum_Roll N d_1 (IntKind.i64.wrap ((IntKind.i64.wrap (high_3 - low_2)) + 1))).bind fun r_4 => some ((IntKind.i64.wrap (low_2 + r_4.1)), r_4.2))
def v_bateriakit_Drum_Mid (r : Int × T_bateriakit_Drum) : AV := .int .i64 r.1
theorem b_bateriakit_Drum_Mid (r : Int × T_bateriakit_Drum) (n n2 m : Nat) : back n n2 m (v_bateriakit_Drum_Mid r) = some (v_bateriakit_Drum_Mid r) := by simp [v_bateriakit_Drum_Mid, back, back1, AV.plain, AV.plain1, AV.clean, cleanL, cleanI, cleanBo, cleanSt, cleanII, KL_bateriakit_Drum, A_bateriakit_Drum, C_bateriakit_Drum]
theorem d_bateriakit_Drum_Mid (N : Nat) (d_1 : T_bateriakit_Drum) (low_2 : Int) (high_3 : Int) (r : Int × T_bateriakit_Drum) (h : p_bateriakit_Drum_Mid N d_1 low_2 high_3 = some r) : Does Try.prog 27 [.ptr 0 0, .int .i64 low_2, .int .i64 high_3] [(C_bateriakit_Drum d_1)] fun v c => v = v_bateriakit_Drum_Mid r ∧ c = [(C_bateriakit_Drum r.2)] := by
  unfold p_bateriakit_Drum_Mid at h
  refine Does.ofL comp27 _ _ rfl rfl ?_
  refine Ex.seq ?_
  refine regH 1 [] [0, 1, 2] [] (mkS 15 [(0, .ptr 0 0), (1, .int .i64 low_2), (2, .int .i64 high_3)]) (⟨[(C_bateriakit_Drum d_1)], []⟩) (by kernel_rfl) trivial rfl ?_
  refine Ex.seq ?_
  obtain ⟨r_4, hr_4, h⟩ := Option.bind_eq_some_iff.1 h
  refine Ex.reg ?_
  refine runH 6 [] [7, 8, 12] [] (mkS 15 [(7, .int .i64 low_2), (8, .ptr 0 0), (12, .int .i64 (IntKind.i64.wrap ((IntKind.i64.wrap (high_3 - low_2)) + 1)))]) (⟨[(C_bateriakit_Drum d_1)], []⟩) (by kernel_rfl) trivial ?_
  refine ExO.callL [0] [.ptr 0 0, .int .i64 (IntKind.i64.wrap ((IntKind.i64.wrap (high_3 - low_2)) + 1))] rfl rfl (by simp [ren, ren1, fadeS, fadeV, AV.plain, AV.plain1, AV.clean, List.idxOf?, List.findIdx?, List.findIdx?.go, cleanL, cleanI, cleanBo, cleanSt, cleanII, KL_bateriakit_Drum, A_bateriakit_Drum, C_bateriakit_Drum]; try rfl) rfl (by simp [cleanL, AV.clean, cleanL, cleanI, cleanBo, cleanSt, cleanII, KL_bateriakit_Drum, A_bateriakit_Drum, C_bateriakit_Drum]) (d_bateriakit_Drum_Roll N d_1 (IntKind.i64.wrap ((IntKind.i64.wrap (high_3 - low_2)) + 1)) r_4 hr_4) (b_bateriakit_Drum_Roll _ _ _ _) (by simp [cleanL, AV.clean, cleanL, cleanI, cleanBo, cleanSt, cleanII, KL_bateriakit_Drum, A_bateriakit_Drum, C_bateriakit_Drum]) ?_
  refine runH 2 [] [6] [] (mkS 15 [(6, .int .i64 (IntKind.i64.wrap (low_2 + r_4.1)))]) (⟨[(C_bateriakit_Drum r_4.2)], []⟩) (by kernel_rfl) trivial ?_
  refine ExO.nil ?_
  refine Ex.ret ?_
  obtain rfl := Option.some.inj h
  exact ⟨.inr rfl, .int .i64 (IntKind.i64.wrap (low_2 + r_4.1)), by kernel_rfl, by kernel_rfl, by kernel_rfl, by kernel_rfl⟩
def p_bateriakit_Drum_Any (N : Nat) (d_1 : T_bateriakit_Drum) (l_2 : (List Int)) : Option (Int × T_bateriakit_Drum) := (bif (((l_2.length : Nat) : Int) == 0) then some (0, d_1) else ((p_bateriakit_Drum_Roll N d_1 ((l_2.length : Nat) : Int)).bind fun r_4 => ((getI l_2 r_4.1).bind fun x_5 => some (x_5, r_4.2))))
def v_bateriakit_Drum_Any (r : Int × T_bateriakit_Drum) : AV := .int .i64 r.1
theorem b_bateriakit_Drum_Any (r : Int × T_bateriakit_Drum) (n n2 m : Nat) : back n n2 m (v_bateriakit_Drum_Any r) = some (v_bateriakit_Drum_Any r) := by simp [v_bateriakit_Drum_Any, back, back1, AV.plain, AV.plain1, AV.clean, cleanL, cleanI, cleanBo, cleanSt, cleanII, KL_bateriakit_Drum, A_bateriakit_Drum, C_bateriakit_Drum]
theorem d_bateriakit_Drum_Any (N : Nat) (d_1 : T_bateriakit_Drum) (l_2 : (List Int)) (r : Int × T_bateriakit_Drum) (h : p_bateriakit_Drum_Any N d_1 l_2 = some r) : Does Try.prog 57 [.ptr 0 0, .sl (l_2.map (AV.int .i64)) none] [(C_bateriakit_Drum d_1)] fun v c => v = v_bateriakit_Drum_Any r ∧ c = [(C_bateriakit_Drum r.2)] := by
  unfold p_bateriakit_Drum_Any at h
  refine Does.ofL comp57 _ _ rfl rfl ?_
  refine Ex.seq ?_
  refine regH 1 [] [0, 1] [] (mkS 15 [(0, .ptr 0 0), (1, .sl (l_2.map (AV.int .i64)) none)]) (⟨[(C_bateriakit_Drum d_1)], []⟩) (by kernel_rfl) trivial rfl ?_
  refine Ex.seq ?_
  refine Ex.seq ?_
  refine regH 3 [(1, .eq (.int .i64 ((l_2.length : Nat) : Int)))] [0, 1, 7] [AV.int .i64 (((l_2.map (AV.int .i64)).length : Nat) : Int) = AV.int .i64 ((l_2.length : Nat) : Int)] (mkS 15 [(0, .ptr 0 0), (1, .sl (l_2.map (AV.int .i64)) none), (7, .bool (((l_2.length : Nat) : Int) == 0))]) (⟨[(C_bateriakit_Drum d_1)], []⟩) (by kernel_rfl) ⟨lenM _ _, trivial⟩ rfl ?_
  rcases condI h with ⟨hc_3, h⟩ | ⟨hc_3, h⟩
  · refine Ex.condT _ rfl hc_3 ?_
    refine Ex.seq ?_
    refine regH 1 [] [4] [] (mkS 15 [(4, .int .i64 0)]) (⟨[(C_bateriakit_Drum d_1)], []⟩) (by kernel_rfl) trivial rfl ?_
    refine Ex.ret ?_
    obtain rfl := Option.some.inj h
    exact ⟨.inr rfl, .int .i64 0, by kernel_rfl, by kernel_rfl, by kernel_rfl, by kernel_rfl⟩
  · refine Ex.condF _ rfl hc_3 ?_
    refine Ex.skip ?_
    refine Ex.seq ?_
    obtain ⟨r_4, hr_4, h⟩ := Option.bind_eq_some_iff.1 h
    refine Ex.reg ?_
    refine runH 4 [(3, .eq (.int .i64 ((l_2.length : Nat) : Int)))] [8, 9, 11] [AV.int .i64 (((l_2.map (AV.int .i64)).length : Nat) : Int) = AV.int .i64 ((l_2.length : Nat) : Int)] (mkS 15 [(8, .sl (l_2.map (AV.int .i64)) none), (9, .ptr 0 0), (11, .int .i64 ((l_2.length : Nat) : Int))]) (⟨[(C_bateriakit_Drum d_1)], []⟩) (by kernel_rfl) ⟨lenM _ _, trivial⟩ ?_
    refine ExO.callL [0] [.ptr 0 0, .int .i64 ((l_2.length : Nat) : Int)] rfl rfl (by simp [ren, ren1, fadeS, fadeV, AV.plain, AV.plain1, AV.clean, List.idxOf?, List.findIdx?, List.findIdx?.go, cleanL, cleanI, cleanBo, cleanSt, cleanII, KL_bateriakit_Drum, A_bateriakit_Drum, C_bateriakit_Drum]; try rfl) rfl (by simp [cleanL, AV.clean, cleanL, cleanI, cleanBo, cleanSt, cleanII, KL_bateriakit_Drum, A_bateriakit_Drum, C_bateriakit_Drum]) (d_bateriakit_Drum_Roll N d_1 ((l_2.length : Nat) : Int) r_4 hr_4) (b_bateriakit_Drum_Roll _ _ _ _) (by simp [cleanL, AV.clean, cleanL, cleanI, cleanBo, cleanSt, cleanII, KL_bateriakit_Drum, A_bateriakit_Drum, C_bateriakit_Drum]) ?_
    obtain ⟨x_5, hx_5, h⟩ := Option.bind_eq_some_iff.1 h
    refine runH 3 [(0, .rop [.int .i64 x_5])] [4] [LGet (l_2.map (AV.int .i64)) r_4.1 1 [.int .i64 x_5]] (mkS 15 [(4, .int .i64 x_5)]) (⟨[(C_bateriakit_Drum r_4.2)], []⟩) (by kernel_rfl) ⟨LGet.of hx_5 rfl, trivial⟩ ?_
    refine ExO.nil ?_
    refine Ex.ret ?_
    obtain rfl := Option.some.inj h
    exact ⟨.inr rfl, .int .i64 x_5, by kernel_rfl, by kernel_rfl, by kernel_rfl, by kernel_rfl⟩
structure T_api_Span where
  Lo : Int
  Hi : Int
  deriving Inhabited
def C_api_Span (x : T_api_Span) : List AV := [.int .i64 x.Lo, .int .i64 x.Hi]
def A_api_Span (x : T_api_Span) : AV := .agg (C_api_Span x)
theorem KC_api_Span (x : T_api_Span) : cleanL (C_api_Span x) = true := by simp [C_api_Span, cleanL, AV.clean, KL_bateriakit_Drum, cleanI, cleanBo, cleanSt, cleanII]
theorem KA_api_Span (x : T_api_Span) : (A_api_Span x).clean = true := KC_api_Span x
theorem KL_api_Span (l : List T_api_Span) : cleanL (l.map A_api_Span) = true := cleanM KA_api_Span l
theorem KB_api_Span (x : T_api_Span) (n : Nat) (σ : List Nat) : (C_api_Span x).mapM (re n σ) = some (C_api_Span x) := by simp [C_api_Span, re, re1, AV.clean, KL_bateriakit_Drum, cleanI, cleanBo, cleanSt, cleanII]
def p_bateriakit_Drum_Span (N : Nat) (d_1 : T_bateriakit_Drum) (low_2 : Int) (high_3 : Int) : Option (T_api_Span × T_bateriakit_Drum) := ((p_bateriakit_Drum_Mid N d_1 low_2 high_3).bind fun r_4 => ((p_bateriakit_Drum_Roll N r_4.2 3).bind fun r_5 => (bif (r_5.1 == 0) then some ((⟨r_4.1, r_4.1⟩ : T_api_Span), r_5.2) else (bif (r_5.1 == 1) then ((p_bateriakit_Drum_Mid N r_5.2 r_4.1 (if (IntKind.i64.wrap (r_4.1 + 3)) < high_3 then (IntKind.i64.wrap (r_4.1 + 3)) else high_3)).bind fun r_8 => some ((⟨r_4.1, r_8.1⟩ : T_api_Span), r_8.2)) else ((p_bateriakit_Drum_Mid N r_5.2 r_4.1 high_3).bind fun r_9 => some ((⟨r_4.1, r_9.1⟩ : T_api_Span), r_9.2))))))
def v_bateriakit_Drum_Span (r : T_api_Span × T_bateriakit_Drum) : AV := (A_api_Span r.1)
theorem b_bateriakit_Drum_Span (r : T_api_Span × T_bateriakit_Drum) (n n2 m : Nat) : back n n2 m (v_bateriakit_Drum_Span r) = some (v_bateriakit_Drum_Span r) := by simp [v_bateriakit_Drum_Span, back, back1, AV.plain, AV.plain1, AV.clean, cleanL, cleanI, cleanBo, cleanSt, cleanII, KL_bateriakit_Drum, KL_api_Span, A_bateriakit_Drum, C_bateriakit_Drum, A_api_Span, C_api_Span]
theorem d_bateriakit_Drum_Span (N : Nat) (d_1 : T_bateriakit_Drum) (low_2 : Int) (high_3 : Int) (r : T_api_Span × T_bateriakit_Drum) (h : p_bateriakit_Drum_Span N d_1 low_2 high_3 = some r) : Does Try.prog 58 [.ptr 0 0, .int .i64 low_2, .int .i64 high_3] [(C_bateriakit_Drum d_1)] fun v c => v = v_bateriakit_Drum_Span r ∧ c = [(C_bateriakit_Drum r.2)] := by
  unfold p_bateriakit_Drum_Span at h
  refine Does.ofL comp58 _ _ rfl rfl ?_
  refine Ex.seq ?_
  refine regH 1 [] [0, 1, 2, 6] [] (mkS 36 [(0, .ptr 0 0), (1, .int .i64 low_2), (2, .int .i64 high_3), (6, .ptr 1 0)]) (⟨[(C_bateriakit_Drum d_1), [.int .i64 0, .int .i64 0]], []⟩) (by kernel_rfl) trivial rfl ?_
  refine Ex.seq ?_
  obtain ⟨r_4, hr_4, h⟩ := Option.bind_eq_some_iff.1 h
  refine Ex.reg ?_
  refine runH 3 [] [0, 2, 6, 8, 9, 10] [] (mkS 36 [(0, .ptr 0 0), (2, .int .i64 high_3), (6, .ptr 1 0), (8, .ptr 0 0), (9, .int .i64 low_2), (10, .int .i64 high_3)]) (⟨[(C_bateriakit_Drum d_1), [.int .i64 0, .int .i64 0]], []⟩) (by kernel_rfl) trivial ?_
  refine ExO.callL [0] [.ptr 0 0, .int .i64 low_2, .int .i64 high_3] rfl rfl (by simp [ren, ren1, fadeS, fadeV, AV.plain, AV.plain1, AV.clean, List.idxOf?, List.findIdx?, List.findIdx?.go, cleanL, cleanI, cleanBo, cleanSt, cleanII, KL_bateriakit_Drum, KL_api_Span, A_bateriakit_Drum, C_bateriakit_Drum, A_api_Span, C_api_Span]; try rfl) rfl (by simp [cleanL, AV.clean, cleanL, cleanI, cleanBo, cleanSt, cleanII, KL_bateriakit_Drum, KL_api_Span, A_bateriakit_Drum, C_bateriakit_Drum, A_api_Span, C_api_Span]) (d_bateriakit_Drum_Mid N d_1 low_2 high_3 r_4 hr_4) (b_bateriakit_Drum_Mid _ _ _ _) (by simp [cleanL, AV.clean, cleanL, cleanI, cleanBo, cleanSt, cleanII, KL_bateriakit_Drum, KL_api_Span, A_bateriakit_Drum, C_bateriakit_Drum, A_api_Span, C_api_Span]) ?_
  refine runH 1 [] [0, 2, 6, 7] [] (mkS 36 [(0, .ptr 0 0), (2, .int .i64 high_3), (6, .ptr 1 0), (7, .int .i64 r_4.1)]) (⟨[(C_bateriakit_Drum r_4.2), [.int .i64 0, .int .i64 0]], []⟩) (by kernel_rfl) trivial ?_
  refine ExO.nil ?_
  refine Ex.seq ?_
  refine Ex.seq ?_
  obtain ⟨r_5, hr_5, h⟩ := Option.bind_eq_some_iff.1 h
  refine Ex.reg ?_
  refine runH 1 [] [0, 2, 6, 7, 12] [] (mkS 36 [(0, .ptr 0 0), (2, .int .i64 high_3), (6, .ptr 1 0), (7, .int .i64 r_4.1), (12, .ptr 0 0)]) (⟨[(C_bateriakit_Drum r_4.2), [.int .i64 0, .int .i64 0]], []⟩) (by kernel_rfl) trivial ?_
  refine ExO.callL [0] [.ptr 0 0, .int .i64 3] rfl rfl (by simp [ren, ren1, fadeS, fadeV, AV.plain, AV.plain1, AV.clean, List.idxOf?, List.findIdx?, List.findIdx?.go, cleanL, cleanI, cleanBo, cleanSt, cleanII, KL_bateriakit_Drum, KL_api_Span, A_bateriakit_Drum, C_bateriakit_Drum, A_api_Span, C_api_Span]; try rfl) rfl (by simp [cleanL, AV.clean, cleanL, cleanI, cleanBo, cleanSt, cleanII, KL_bateriakit_Drum, KL_api_Span, A_bateriakit_Drum, C_bateriakit_Drum, A_api_Span, C_api_Span]) (d_bateriakit_Drum_Roll N r_4.2 3 r_5 hr_5) (b_bateriakit_Drum_Roll _ _ _ _) (by simp [cleanL, AV.clean, cleanL, cleanI, cleanBo, cleanSt, cleanII, KL_bateriakit_Drum, KL_api_Span, A_bateriakit_Drum, C_bateriakit_Drum, A_api_Span, C_api_Span]) ?_
  refine runH 0 [] [0, 2, 6, 7, 13] [] (mkS 36 [(0, .ptr 0 0), (2, .int .i64 high_3), (6, .ptr 1 0), (7, .int .i64 r_4.1), (13, .int .i64 r_5.1)]) (⟨[(C_bateriakit_Drum r_5.2), [.int .i64 0, .int .i64 0]], []⟩) (by kernel_rfl) trivial ?_
  refine ExO.nil ?_
  refine Ex.blockK ?_
  refine Ex.seq ?_
  refine regH 2 [] [0, 2, 6, 7, 13, 14] [] (mkS 36 [(0, .ptr 0 0), (2, .int .i64 high_3), (6, .ptr 1 0), (7, .int .i64 r_4.1), (13, .int .i64 r_5.1), (14, .bool (r_5.1 == 0))]) (⟨[(C_bateriakit_Drum r_5.2), [.int .i64 0, .int .i64 0]], []⟩) (by kernel_rfl) trivial rfl ?_
  rcases condI h with ⟨hc_6, h⟩ | ⟨hc_6, h⟩
  · refine Ex.condT _ rfl hc_6 ?_
    refine Ex.seq ?_
    refine regH 4 [] [6] [] (mkS 36 [(6, .ptr 1 0)]) (⟨[(C_bateriakit_Drum r_5.2), [.int .i64 r_4.1, .int .i64 r_4.1]], []⟩) (by kernel_rfl) trivial rfl ?_
    refine Ex.ret ?_
    obtain rfl := Option.some.inj h
    exact ⟨.inr rfl, .agg [.int .i64 r_4.1, .int .i64 r_4.1], by kernel_rfl, by kernel_rfl, by kernel_rfl, by kernel_rfl⟩
  · refine Ex.condF _ rfl hc_6 ?_
    refine Ex.seq ?_
    refine regH 2 [] [0, 2, 6, 7, 19] [] (mkS 36 [(0, .ptr 0 0), (2, .int .i64 high_3), (6, .ptr 1 0), (7, .int .i64 r_4.1), (19, .bool (r_5.1 == 1))]) (⟨[(C_bateriakit_Drum r_5.2), [.int .i64 0, .int .i64 0]], []⟩) (by kernel_rfl) trivial rfl ?_
    rcases condI h with ⟨hc_7, h⟩ | ⟨hc_7, h⟩
    · refine Ex.condT _ rfl hc_7 ?_
      refine Ex.seq ?_
      obtain ⟨r_8, hr_8, h⟩ := Option.bind_eq_some_iff.1 h
      refine Ex.reg ?_
      refine runH 7 [] [6, 21, 22, 23, 27] [] (mkS 36 [(6, .ptr 1 0), (21, .int .i64 r_4.1), (22, .ptr 0 0), (23, .int .i64 r_4.1), (27, .int .i64 (if (IntKind.i64.wrap (r_4.1 + 3)) < high_3 then (IntKind.i64.wrap (r_4.1 + 3)) else high_3))]) (⟨[(C_bateriakit_Drum r_5.2), [.int .i64 0, .int .i64 0]], []⟩) (by kernel_rfl) trivial ?_
      refine ExO.callL [0] [.ptr 0 0, .int .i64 r_4.1, .int .i64 (if (IntKind.i64.wrap (r_4.1 + 3)) < high_3 then (IntKind.i64.wrap (r_4.1 + 3)) else high_3)] rfl rfl (by simp [ren, ren1, fadeS, fadeV, AV.plain, AV.plain1, AV.clean, List.idxOf?, List.findIdx?, List.findIdx?.go, cleanL, cleanI, cleanBo, cleanSt, cleanII, KL_bateriakit_Drum, KL_api_Span, A_bateriakit_Drum, C_bateriakit_Drum, A_api_Span, C_api_Span]; try rfl) rfl (by simp [cleanL, AV.clean, cleanL, cleanI, cleanBo, cleanSt, cleanII, KL_bateriakit_Drum, KL_api_Span, A_bateriakit_Drum, C_bateriakit_Drum, A_api_Span, C_api_Span]) (d_bateriakit_Drum_Mid N r_5.2 r_4.1 (if (IntKind.i64.wrap (r_4.1 + 3)) < high_3 then (IntKind.i64.wrap (r_4.1 + 3)) else high_3) r_8 hr_8) (b_bateriakit_Drum_Mid _ _ _ _) (by simp [cleanL, AV.clean, cleanL, cleanI, cleanBo, cleanSt, cleanII, KL_bateriakit_Drum, KL_api_Span, A_bateriakit_Drum, C_bateriakit_Drum, A_api_Span, C_api_Span]) ?_
      refine runH 2 [] [6] [] (mkS 36 [(6, .ptr 1 0)]) (⟨[(C_bateriakit_Drum r_8.2), [.int .i64 r_4.1, .int .i64 r_8.1]], []⟩) (by kernel_rfl) trivial ?_
      refine ExO.nil ?_
      refine Ex.ret ?_
      obtain rfl := Option.some.inj h
      exact ⟨.inr rfl, .agg [.int .i64 r_4.1, .int .i64 r_8.1], by kernel_rfl, by kernel_rfl, by kernel_rfl, by kernel_rfl⟩
    · refine Ex.condF _ rfl hc_7 ?_
      refine Ex.skip ?_
      refine Ex.seq ?_
      obtain ⟨r_9, hr_9, h⟩ := Option.bind_eq_some_iff.1 h
      refine Ex.reg ?_
      refine runH 4 [] [6, 30, 31, 32, 33] [] (mkS 36 [(6, .ptr 1 0), (30, .int .i64 r_4.1), (31, .ptr 0 0), (32, .int .i64 r_4.1), (33, .int .i64 high_3)]) (⟨[(C_bateriakit_Drum r_5.2), [.int .i64 0, .int .i64 0]], []⟩) (by kernel_rfl) trivial ?_
      refine ExO.callL [0] [.ptr 0 0, .int .i64 r_4.1, .int .i64 high_3] rfl rfl (by simp [ren, ren1, fadeS, fadeV, AV.plain, AV.plain1, AV.clean, List.idxOf?, List.findIdx?, List.findIdx?.go, cleanL, cleanI, cleanBo, cleanSt, cleanII, KL_bateriakit_Drum, KL_api_Span, A_bateriakit_Drum, C_bateriakit_Drum, A_api_Span, C_api_Span]; try rfl) rfl (by simp [cleanL, AV.clean, cleanL, cleanI, cleanBo, cleanSt, cleanII, KL_bateriakit_Drum, KL_api_Span, A_bateriakit_Drum, C_bateriakit_Drum, A_api_Span, C_api_Span]) (d_bateriakit_Drum_Mid N r_5.2 r_4.1 high_3 r_9 hr_9) (b_bateriakit_Drum_Mid _ _ _ _) (by simp [cleanL, AV.clean, cleanL, cleanI, cleanBo, cleanSt, cleanII, KL_bateriakit_Drum, KL_api_Span, A_bateriakit_Drum, C_bateriakit_Drum, A_api_Span, C_api_Span]) ?_
      refine runH 2 [] [6] [] (mkS 36 [(6, .ptr 1 0)]) (⟨[(C_bateriakit_Drum r_9.2), [.int .i64 r_4.1, .int .i64 r_9.1]], []⟩) (by kernel_rfl) trivial ?_
      refine ExO.nil ?_
      refine Ex.ret ?_
      obtain rfl := Option.some.inj h
      exact ⟨.inr rfl, .agg [.int .i64 r_4.1, .int .i64 r_9.1], by kernel_rfl, by kernel_rfl, by kernel_rfl, by kernel_rfl⟩
end Go.Proofs.Ytfcjcjncfniclaa
end
section
namespace Go.Proofs.Ytfcjcjncfniclaa
open Go.RowKit
set_option linter.unusedVariables false
set_option linter.unusedSimpArgs false
set_option maxRecDepth 10000
set_option maxHeartbeats 4000000

theorem w64 {x : Int} (h0 : -9223372036854775808 ≤ x) (h1 : x < 9223372036854775808) : IntKind.i64.wrap x = x := by
  simp [IntKind.wrap, IntKind.bits, IntKind.signed]
  omega
theorem wu64 (x : Int) : 0 ≤ IntKind.u64.wrap x ∧ IntKind.u64.wrap x < 2 ^ 64 := by
  have e : IntKind.u64.wrap x = x % 2 ^ 64 := rfl
  omega
theorem wu64_id {x : Int} (h0 : 0 ≤ x) (h1 : x < 2 ^ 64) : IntKind.u64.wrap x = x := by
  have e : IntKind.u64.wrap x = x % 2 ^ 64 := rfl
  omega

section
variable {ρ : Type} {A B C : Type}
theorem loop2_T {body : (A → B → Option ρ) → A → B → Option ρ} (T : Option ρ → Prop) (P : A → B → Prop) (μ : A → B → Nat) (h : ∀ rec a b, P a b → (∀ a' b', P a' b' → μ a' b' < μ a b → T (rec a' b')) → T (body rec a b)) : ∀ (N : Nat) (a : A) (b : B), P a b → μ a b < N → T (loop2 body N a b)
  | 0, a, b, _, hm => absurd hm (Nat.not_lt_zero _)
  | n + 1, a, b, hp, hm => h (loop2 body n) a b hp fun a' b' hp' hm' => loop2_T T P μ h n a' b' hp' (by omega)
theorem loop3_T {body : (A → B → C → Option ρ) → A → B → C → Option ρ} (T : Option ρ → Prop) (P : A → B → C → Prop) (μ : A → B → C → Nat) (h : ∀ rec a b c, P a b c → (∀ a' b' c', P a' b' c' → μ a' b' c' < μ a b c → T (rec a' b' c')) → T (body rec a b c)) : ∀ (N : Nat) (a : A) (b : B) (c : C), P a b c → μ a b c < N → T (loop3 body N a b c)
  | 0, a, b, c, _, hm => absurd hm (Nat.not_lt_zero _)
  | n + 1, a, b, c, hp, hm => h (loop3 body n) a b c hp fun a' b' c' hp' hm' => loop3_T T P μ h n a' b' c' hp' (by omega)
end
theorem getI_nat {α : Type} (l : List α) (i : Nat) : getI l (i : Int) = l[i]? := by simp [getI]
theorem getI_lt {α : Type} {l : List α} {i : Int} (h0 : 0 ≤ i) (h1 : i < (l.length : Int)) : ∃ x, getI l i = some x ∧ l[i.toNat]? = some x ∧ x ∈ l := by
  have hlt : i.toNat < l.length := by omega
  refine ⟨l[i.toNat], ?_, List.getElem?_eq_getElem hlt, List.getElem_mem hlt⟩
  simp only [getI, h0, if_true]
  exact List.getElem?_eq_getElem hlt
theorem pushI_ok {α : Type} {l m : List α} (h : l.length + m.length ≤ 65536) : pushI l m = some (l ++ m) := if_pos h
theorem letJ_eq {κ ρ : Type} (K : κ) (f : κ → Option ρ) : letJ K f = f K := rfl

theorem hit_p (N : Nat) (d : T_bateriakit_Drum) : ∃ y d', p_bateriakit_Drum_hit N d = some (y, d') ∧ 0 ≤ y ∧ y < 2 ^ 64 := by
  refine ⟨_, _, rfl, ?_⟩
  exact wu64 _
theorem roll_p (N : Nat) (d : T_bateriakit_Drum) (n : Int) (hn : n < 9223372036854775808) : ∃ r d', p_bateriakit_Drum_Roll N d n = some (r, d') ∧ 0 ≤ r ∧ (n < 2 → r = 0) ∧ (2 ≤ n → r < n) := by
  unfold p_bateriakit_Drum_Roll
  by_cases h2 : n < 2
  · simp only [h2, decide_true, cond_true]
    exact ⟨0, d, rfl, by omega, fun _ => rfl, fun h => by omega⟩
  · simp only [h2, decide_false, cond_false]
    obtain ⟨y, d', hy, h0, h1⟩ := hit_p N d
    have hu : IntKind.u64.wrap n = n := wu64_id (by omega) (by omega)
    have hnz : n ≠ 0 := by omega
    rw [hy, hu]
    simp only [Option.bind_some, nzI, hnz, if_false]
    have hsh : Int.fdiv y ((2 : Int) ^ (min (Int.toNat 1) (IntKind.bits .u64))) = y / 2 := by
      have : (2 : Int) ^ (min (Int.toNat 1) (IntKind.bits .u64)) = 2 := rfl
      rw [this, Int.fdiv_eq_ediv_of_nonneg _ (by omega)]
    rw [hsh]
    have hd0 : 0 ≤ y / 2 := by omega
    have hm : Int.tmod (y / 2) n = (y / 2) % n := Int.tmod_eq_emod_of_nonneg hd0
    have hm0 : 0 ≤ (y / 2) % n := Int.emod_nonneg _ hnz
    have hm1 : (y / 2) % n < n := Int.emod_lt_of_pos _ (by omega)
    rw [hm, w64 (x := y / 2 % n) (by omega) (by omega)]
    exact ⟨_, d', rfl, hm0, fun h => False.elim h, fun _ => hm1⟩
theorem any_p (N : Nat) (d : T_bateriakit_Drum) (l : List Int) (hl : l ≠ []) (hlen : l.length < 1000) : ∃ r d', p_bateriakit_Drum_Any N d l = some (r, d') ∧ r ∈ l := by
  unfold p_bateriakit_Drum_Any
  have hpos : 0 < l.length := List.length_pos_iff.2 hl
  have hb : (((l.length : Nat) : Int) == 0) = false := by simp; omega
  rw [hb, cond_false]
  obtain ⟨r, d', h1, h2, h3, h4⟩ := roll_p N d ((l.length : Nat) : Int) (by omega)
  rw [h1]
  simp only [Option.bind_some]
  have hr : r < (l.length : Int) := by
    by_cases h : (l.length : Int) < 2
    · rw [h3 h]; omega
    · exact h4 (by omega)
  obtain ⟨x, e1, _, e3⟩ := getI_lt h2 hr
  rw [e1]
  exact ⟨x, d', rfl, e3⟩
theorem mid_p (N : Nat) (d : T_bateriakit_Drum) (lo hi : Int) (h0 : -4611686018427387904 ≤ lo) (h1 : lo ≤ 4611686018427387903) (h2 : -4611686018427387904 ≤ hi) (h3 : hi ≤ 4611686018427387902) : ∃ r d', p_bateriakit_Drum_Mid N d lo hi = some (r, d') ∧ lo ≤ r ∧ (lo ≤ hi → r ≤ hi) ∧ (hi < lo → r = lo) := by
  unfold p_bateriakit_Drum_Mid
  rw [w64 (x := hi - lo) (by omega) (by omega)]
  by_cases hc : hi - lo + 1 < 9223372036854775808
  · rw [w64 (x := hi - lo + 1) (by omega) hc]
    obtain ⟨r, d', e1, e2, e3, e4⟩ := roll_p N d (hi - lo + 1) hc
    rw [e1]
    simp only [Option.bind_some]
    have hr : r ≤ hi - lo ∨ r = 0 := by
      by_cases h : hi - lo + 1 < 2
      · exact .inr (e3 h)
      · have := e4 (by omega); exact .inl (by omega)
    rw [w64 (by omega) (by omega)]
    exact ⟨_, d', rfl, by omega, fun h => by omega, fun h => by
      have := e3 (by omega)
      omega⟩
  · omega
theorem span_a (N : Nat) (d : T_bateriakit_Drum) (n hi : Int) (h0 : 0 ≤ n) (h : n ≤ hi) (h1 : hi ≤ 4611686018427387902) : ∃ x d', ((p_bateriakit_Drum_Mid N d n hi).bind fun r_9 => some ((⟨n, r_9.1⟩ : T_api_Span), r_9.2)) = some (x, d') ∧ x.Lo = n ∧ n ≤ x.Hi ∧ x.Hi ≤ hi := by
  obtain ⟨m, d3, j1, j2, j3, _⟩ := mid_p N d n hi (by omega) (by omega) (by omega) h1
  rw [j1]
  exact ⟨⟨n, m⟩, d3, rfl, rfl, j2, j3 h⟩
theorem span_p (N : Nat) (d : T_bateriakit_Drum) (lo hi : Int) (h0 : 0 ≤ lo) (h : lo ≤ hi) (h1 : hi ≤ 4611686018427387902) : ∃ x d', p_bateriakit_Drum_Span N d lo hi = some (x, d') ∧ lo ≤ x.Lo ∧ x.Lo ≤ x.Hi ∧ x.Hi ≤ hi := by
  obtain ⟨n, d1, e1, e2, e3, _⟩ := mid_p N d lo hi (by omega) (by omega) (by omega) h1
  have e3 := e3 h
  obtain ⟨r, d2, g1, _, _, _⟩ := roll_p N d1 3 (by omega)
  unfold p_bateriakit_Drum_Span
  rw [e1, Option.bind_some, g1, Option.bind_some]
  show ∃ x d', (bif (r == 0) then _ else (bif (r == 1) then _ else _)) = some (x, d') ∧ _
  cases (r == 0)
  · cases (r == 1)
    · obtain ⟨x, d', k1, k2, k3, k4⟩ := span_a N d2 n hi (by omega) e3 h1
      exact ⟨x, d', k1, by omega, by omega, k4⟩
    · show ∃ x d', ((p_bateriakit_Drum_Mid N d2 n (if IntKind.i64.wrap (n + 3) < hi then IntKind.i64.wrap (n + 3) else hi)).bind _) = some (x, d') ∧ _
      rw [w64 (x := n + 3) (by omega) (by omega)]
      have hm : n ≤ (if n + 3 < hi then n + 3 else hi) ∧ (if n + 3 < hi then n + 3 else hi) ≤ hi := by split <;> omega
      obtain ⟨x, d', k1, k2, k3, k4⟩ := span_a N d2 n _ (by omega) hm.1 (Int.le_trans hm.2 h1)
      exact ⟨x, d', k1, by omega, by omega, Int.le_trans k4 hm.2⟩
  · exact ⟨⟨n, n⟩, d2, rfl, e2, Int.le_refl _, e3⟩
theorem drumOf_step (N : Nat) (l : List Int) (rec : Int → Int → Option T_bateriakit_Drum) (i q : Int) (h : i < 9223372036854775807) (h0 : 0 ≤ i) (ih : ∀ b', ∃ d, rec (i + 1) b' = some d) : ∃ d, ((p_bateriakit_Drum_hit N (⟨q⟩ : T_bateriakit_Drum)).bind fun r_14 => (rec (IntKind.i64.wrap (i + 1)) r_14.2.beat_)) = some d := by
  obtain ⟨y, d', g1, _, _⟩ := hit_p N ⟨q⟩
  rw [g1, w64 (x := i + 1) (by omega) (by omega)]
  exact ih _
theorem drumOf_p (N : Nat) (l : List Int) (hN : l.length < N) (hl : l.length < 9223372036854775808) : ∃ d, p_bateriakit_DrumOf N l = some d := by
  unfold p_bateriakit_DrumOf
  rw [letJ_eq]
  refine loop2_T (fun x => ∃ d, x = some d) (fun i b => 0 ≤ i ∧ i ≤ (l.length : Int)) (fun i b => l.length - i.toNat) ?_ N 0 _ ⟨by omega, by omega⟩ (by simpa using hN)
  rintro rec i b ⟨h0, h1⟩ ih
  by_cases hc : i < (l.length : Int)
  · rw [show decide (i < ((l.length : Nat) : Int)) = true from decide_eq_true hc, cond_true]
    obtain ⟨x, e1, _, _⟩ := getI_lt h0 hc
    rw [e1, Option.bind_some, Option.bind_some]
    exact drumOf_step N l rec i _ (by omega) h0 fun b' => ih _ _ ⟨by omega, by omega⟩ (by omega)
  · rw [show decide (i < ((l.length : Nat) : Int)) = false from decide_eq_false hc, cond_false]
    exact ⟨_, rfl⟩
end Go.Proofs.Ytfcjcjncfniclaa
end
