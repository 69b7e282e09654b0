/- The engine, part 21: the walk: what holds behind code, wherever it runs; calls by what holds of them; what is dead may be forgotten. Own work; imports no translation. -/
import Derived.Test.YtncaneioenanjaaEt
namespace Go.Proofs.Ytncaneioenanjaa
open Go.RowKit
set_option linter.unusedVariables false
set_option linter.unusedSimpArgs false

/-- Where a function began. -/
structure Ent where
  G : Gh
  S : St
  w : World
  d : List Deferred
  inv : Inv G S w
  lv : S.lv = []
/-- It stands so. -/
def At (E : Ent) (a : List AV) (S : St) (act : Act) (w : World) : Prop := ∃ G, Inv G S w ∧ Rel G a act ∧ Gro E.G E.S E.w G S w ∧ Keep E.G E.S G S ∧ act.defers = E.d

/-- Operations, one after the other, and behind them R. -/
def ExO (n0 : Nat) (P : Program) (xs : List AOper) (a : List AV) (S : St) (R : List AV → St → Prop) : Prop :=
  ∀ (E : Ent), E.S.bx.length = n0 → ∀ (ops : Array Oper) (l : List Oper) (Q : Exit → Act → World → Prop), l.mapM (compOper P ops) = some xs → (∀ a' S' act' w', R a' S' → At E a' S' act' w' → Q .normal act' w') → ∀ act w, At E a S act w → wpList P ops Q l act w
/-- Code, and behind it Q. -/
def Ex (n0 : Nat) (md : Md) (P : Program) (c : ACode) (a : List AV) (S : St) (Q : AEx → List AV → St → Prop) : Prop :=
  ∀ (E : Ent), E.S.bx.length = n0 → ∀ (code : Code), compCode P code = some c → ∀ act w, At E a S act w → cwp md P code (fun e act' w' => ∃ x a' S', e = x.out ∧ Q x a' S' ∧ At E a' S' act' w') act w

/-- A call returns, and Q holds of what it returns. -/
structure Does (P : Program) (f : FuncId) (xs : List AV) (cells : List (List AV)) (Q : AV → List (List AV) → Prop) : Prop where
  enter : ∀ (us : Array Value) (w : World), (callFunc f us).run P w = .ok (.enter f us) w
  calls : ∀ (G : Gh) (w : World) (us : Array Value), Inv G ⟨cells, []⟩ w → VRs G xs us → Calls P f us w fun e w' => ∃ u v c' G' bx lv, Q v c' ∧ e = .returned u ∧ VR G' v u ∧ cells.length ≤ c'.length ∧ Inv G' ⟨c' ++ bx, lv⟩ w' ∧ Gro G ⟨cells, []⟩ w G' ⟨c' ++ bx, lv⟩ w'
theorem Does.mono {P : Program} {f : FuncId} {xs : List AV} {cells : List (List AV)} {Q Q' : AV → List (List AV) → Prop} (h : Does P f xs cells Q) (k : ∀ v c', Q v c' → Q' v c') : Does P f xs cells Q' :=
  ⟨h.enter, fun G w us hI hv => (h.calls G w us hI hv).mono fun e w' ⟨u, v, c', G', bx, lv, h1, h2⟩ => ⟨u, v, c', G', bx, lv, k _ _ h1, h2⟩⟩
theorem Meets.does {P : Program} {f : FuncId} {xs : List AV} {cells : List (List AV)} {Q : AV → List (List AV) → Prop} (h : Meets P f xs cells Q) : Does P f xs cells Q := by
  obtain ⟨v, c', hc, hq⟩ := h
  exact ⟨hc.enter, fun G w us hI hv => (hc.calls G w us hI hv).mono fun e w' ⟨u, G', bx, lv, h1, h2, h3, h4⟩ => ⟨u, v, c', G', bx, lv, hq, h1, h2, hc.len, h3, h4⟩⟩

section rules
variable {n0 : Nat} {md : Md} {P : Program} {a : List AV} {S : St} {Q : AEx → List AV → St → Prop} {R : List AV → St → Prop}

/-! ### Operations -/
theorem ExO.nil (h : R a S) : ExO n0 P [] a S R := by
  intro E _ ops l Q hc hq act w hA
  cases l with
  | nil => exact hq _ _ _ _ h hA
  | cons o l =>
    rw [List.mapM_cons] at hc
    simp only [Option.bind_eq_bind, Option.bind_eq_some_iff, Option.pure_def, Option.some.injEq] at hc
    obtain ⟨_, _, _, _, h⟩ := hc
    cases h
theorem mapM_cons_inv {P : Program} {ops : Array Oper} {l : List Oper} {x : AOper} {xs : List AOper} (h : l.mapM (compOper P ops) = some (x :: xs)) : ∃ o l', l = o :: l' ∧ compOper P ops o = some x ∧ l'.mapM (compOper P ops) = some xs := by
  cases l with
  | nil => simp at h
  | cons o l =>
    rw [List.mapM_cons] at h
    simp only [Option.bind_eq_bind, Option.bind_eq_some_iff, Option.pure_def, Option.some.injEq] at h
    obtain ⟨y, hy, ys, hys, h⟩ := h
    cases h
    exact ⟨o, l, rfl, hy, hys⟩
theorem ExO.op {X : Clr} (hX : ClrOk P X) {x : AOper} {xs : List AOper} {v : AV} {S1 : St} (hw : wantedA x.guard a = some true) (hv : evOp X x.op a S = some (v, S1)) (h : ExO n0 P xs (putA a x.dst v) S1 R) : ExO n0 P (x :: xs) a S R := by
  intro E hn ops l Q hc hq act w hA
  obtain ⟨o, l', rfl, hx, hl'⟩ := mapM_cons_inv hc
  obtain ⟨h1, h2, _⟩ := compOper_ok hx
  obtain ⟨G, hI, hR, hg, hk, hd⟩ := hA
  simp only [wpList]
  rw [if_pos (wantedA_ok hx hR hw)]
  refine .inl (evOp_wp hX h1 hv hI hR fun G' u w' hv' hI' hg' hk' => ?_)
  exact h E hn ops l' Q hl' hq _ _ ⟨G', hI', h2 ▸ (hR.mono hg'.le).put x.dst hv', hg.trans hg', hk.trans hk', by cases o.dst <;> exact hd⟩
theorem ExO.skip {x : AOper} {xs : List AOper} (hw : wantedA x.guard a = some false) (h : ExO n0 P xs (putA a x.dst (.tup [])) S R) : ExO n0 P (x :: xs) a S R := by
  intro E hn ops l Q hc hq act w hA
  obtain ⟨o, l', rfl, hx, hl'⟩ := mapM_cons_inv hc
  obtain ⟨h1, h2, _⟩ := compOper_ok hx
  obtain ⟨G, hI, hR, hg, hk, hd⟩ := hA
  simp only [wpList]
  rw [if_neg (by rw [wantedA_ok hx hR hw]; simp)]
  exact h E hn ops l' Q hl' hq _ _ ⟨G, hI, h2 ▸ hR.put x.dst (VR.undef G), hg, hk, by cases o.dst <;> exact hd⟩
/-- A call. -/
theorem ExO.call {x : AOper} {l : List AOper} {f : FuncId} {xs ys : List AV} {bs : List Nat} {cells : List (List AV)} {K : AV → List (List AV) → Prop} (hw : wantedA x.guard a = some true) (hv : aop x.op (evd a) S = some (.call f xs)) (hbs : fpOf xs = bs) (hr : xs.mapM (ren bs) = some ys) (hc : bs.mapM (fun b => S.bx[b]?) = some cells) (hcl : (cells.all cleanL && decide bs.Nodup) = true)
    (ho : Does P f ys cells K)
    (h : ∀ v c', K v c' → ∃ v', back bs.length c'.length S.bx.length v = some v' ∧ c'.all cleanL = true ∧ ExO n0 P l (putA a x.dst v') ⟨setAll S.bx bs c' ++ c'.drop bs.length, S.lv⟩ R) : ExO n0 P (x :: l) a S R := by
  intro E hn ops l0 Q hco hq act w hA
  obtain ⟨o, l', rfl, hx, hl'⟩ := mapM_cons_inv hco
  obtain ⟨h1, h2, _⟩ := compOper_ok hx
  obtain ⟨G, hI, hR, hg, hk, hd⟩ := hA
  simp only [wpList]
  rw [if_pos (wantedA_ok hx hR hw)]
  refine .inl ?_
  unfold Oper.wp
  have hs := step_ok h1 (fun _ => rfl) hR.opd hI hv
  obtain ⟨us, hrun, hvs⟩ := hs
  simp only [Bool.and_eq_true, decide_eq_true_eq, List.all_eq_true] at hcl
  obtain ⟨hIc, hvc⟩ := call_in hr hc hcl.1 hcl.2 hI hvs
  rw [hrun, ho.enter]
  simp only [Oper.upon_enter]
  refine (ho.calls (G.sub bs) w us hIc hvc).mono ?_
  rintro e w' ⟨u, v, c', Gc, bx, lv, hK, rfl, hvr, hlen, hI', hg'⟩
  obtain ⟨v', hback, hclean', hrest⟩ := h v c' hK
  obtain ⟨G', k1, k2, k3, k4, k5⟩ := call_back hc hcl.2 hI hlen hback (List.all_eq_true.1 hclean') hvr hI' hg'
  exact hrest E hn ops l' Q hl' hq _ _ ⟨G', k2, h2 ▸ (hR.mono k3.le).put x.dst k1, hg.trans k3, hk.trans ⟨by simp [setAll_length], Nat.le_refl _, fun b hb h => by rw [k4 b hb]; exact h, fun t _ h n => by rw [k5]; exact h n⟩, by cases o.dst <;> exact hd⟩

/-! ### Code -/
theorem Ex.mono {c : ACode} {Q' : AEx → List AV → St → Prop} (h : Ex n0 md P c a S Q) (k : ∀ x a' S', Q x a' S' → Q' x a' S') : Ex n0 md P c a S Q' :=
  fun E hn code hc act w hA => cwp_mono (h E hn code hc act w hA) fun e act' w' ⟨x, a', S', h1, h2, h3⟩ => ⟨x, a', S', h1, k _ _ _ h2, h3⟩
theorem compCode_seq {P : Program} {code : Code} {c d : ACode} (h : compCode P code = some (.seq c d)) : ∃ x y, code = .seq x y ∧ compCode P x = some c ∧ compCode P y = some d := by
  cases code <;> simp only [compCode, reduceCtorEq] at h
  case seq x y =>
    split at h
    · rename_i h1 h2
      simp only [Option.some.injEq, ACode.seq.injEq] at h
      exact ⟨x, y, rfl, h.1 ▸ h1, h.2 ▸ h2⟩
    · cases h
  case cond => split at h <;> simp at h
  case region id ops draw =>
    split at h
    · split at h
      · split at h
        · split at h <;> simp at h
        · cases h
      · cases h
    · split at h
      · cases h
      · simp at h
  case block => simp at h
  case loop => simp at h
  all_goals simp at h
theorem compCode_cond {P : Program} {code : Code} {y : AOpd} {c d : ACode} (h : compCode P code = some (.cond y c d)) : ∃ z x1 x2, code = .cond z x1 x2 ∧ compOpd z = some y ∧ compCode P x1 = some c ∧ compCode P x2 = some d := by
  cases code <;> simp only [compCode, reduceCtorEq] at h
  case cond z x1 x2 =>
    split at h
    · rename_i h1 h2 h3
      simp only [Option.some.injEq, ACode.cond.injEq] at h
      exact ⟨z, x1, x2, rfl, h.1 ▸ h1, h.2.1 ▸ h2, h.2.2 ▸ h3⟩
    · cases h
  case seq => split at h <;> simp at h
  case region id ops draw =>
    split at h
    · split at h
      · split at h
        · split at h <;> simp at h
        · cases h
      · cases h
    · split at h
      · cases h
      · simp at h
  all_goals simp at h
theorem compCode_block {P : Program} {code : Code} {id : Nat} {c : ACode} (h : compCode P code = some (.block id c)) : ∃ x, code = .block id x ∧ compCode P x = some c := by
  cases code <;> simp only [compCode, reduceCtorEq] at h
  case block id' x =>
    simp only [Option.map_eq_some_iff, ACode.block.injEq] at h
    obtain ⟨c', h1, rfl, rfl⟩ := h
    exact ⟨x, rfl, h1⟩
  case seq => split at h <;> simp at h
  case cond => split at h <;> simp at h
  case region id ops draw =>
    split at h
    · split at h
      · split at h
        · split at h <;> simp at h
        · cases h
      · cases h
    · split at h
      · cases h
      · simp at h
  all_goals simp at h
theorem compCode_loop {P : Program} {code : Code} {c : ACode} (h : compCode P code = some (.loop c)) : ∃ x, code = .loop x ∧ compCode P x = some c := by
  cases code <;> simp only [compCode, reduceCtorEq] at h
  case loop x =>
    simp only [Option.map_eq_some_iff, ACode.loop.injEq] at h
    obtain ⟨c', h1, rfl⟩ := h
    exact ⟨x, rfl, h1⟩
  case seq => split at h <;> simp at h
  case cond => split at h <;> simp at h
  case region id ops draw =>
    split at h
    · split at h
      · split at h
        · split at h <;> simp at h
        · cases h
      · cases h
    · split at h
      · cases h
      · simp at h
  all_goals simp at h
theorem compCode_reg {P : Program} {code : Code} {xs : List AOper} (h : compCode P code = some (.reg xs)) : ∃ id ops, code = .region id ops false ∧ noDefer ops = true ∧ ops.toList.mapM (compOper P ops) = some xs := by
  cases code <;> simp only [compCode, reduceCtorEq] at h
  case region id ops draw =>
    split at h
    · split at h
      · split at h
        · split at h <;> simp at h
        · cases h
      · cases h
    · rename_i hd
      split at h
      · cases h
      · rename_i hnd
        have hd : draw = false := by simpa using hd
        subst hd
        simp only [Option.map_eq_some_iff, ACode.reg.injEq] at h
        obtain ⟨ys, h1, rfl⟩ := h
        exact ⟨id, ops, rfl, by simpa using hnd, h1⟩
  case seq => split at h <;> simp at h
  case cond => split at h <;> simp at h
  all_goals simp at h

theorem Ex.skip (h : Q .norm a S) : Ex n0 md P .skip a S Q := by
  intro E hn code hc act w hA
  cases code <;> simp only [compCode, reduceCtorEq] at hc
  case skip => exact cwp_skip ⟨.norm, a, S, rfl, h, hA⟩
  case label => exact cwp_label ⟨.norm, a, S, rfl, h, hA⟩
  case seq => split at hc <;> simp at hc
  case cond => split at hc <;> simp at hc
  case region id ops draw =>
    split at hc
    · split at hc
      · split at hc
        · split at hc <;> simp at hc
        · cases hc
      · cases hc
    · split at hc
      · cases hc
      · simp at hc
  all_goals simp at hc
theorem Ex.ret (h : Q .ret a S) : Ex n0 md P .ret a S Q := by
  intro E hn code hc act w hA
  cases code <;> simp only [compCode, reduceCtorEq] at hc
  case ret => exact cwp_ret ⟨.ret, a, S, rfl, h, hA⟩
  case seq => split at hc <;> simp at hc
  case cond => split at hc <;> simp at hc
  case region id ops draw =>
    split at hc
    · split at hc
      · split at hc
        · split at hc <;> simp at hc
        · cases hc
      · cases hc
    · split at hc
      · cases hc
      · simp at hc
  all_goals simp at hc
theorem Ex.exit {id : Nat} (h : Q (.ex id) a S) : Ex n0 md P (.exit id) a S Q := by
  intro E hn code hc act w hA
  cases code <;> simp only [compCode, reduceCtorEq] at hc
  case exit id' => cases hc; exact cwp_exit ⟨.ex id, a, S, rfl, h, hA⟩
  case seq => split at hc <;> simp at hc
  case cond => split at hc <;> simp at hc
  case region id ops draw =>
    split at hc
    · split at hc
      · split at hc
        · split at hc <;> simp at hc
        · cases hc
      · cases hc
    · split at hc
      · cases hc
      · simp at hc
  all_goals simp at hc
theorem Ex.reg {xs : List AOper} (h : ExO n0 P xs a S (Q .norm)) : Ex n0 md P (.reg xs) a S Q := by
  intro E hn code hc act w hA
  obtain ⟨id, ops, rfl, hnd, hxs⟩ := compCode_reg hc
  refine cwp_region hnd (fun a w h => by
    obtain ⟨x, _, _, h, _⟩ := h
    cases x <;> cases h) ?_
  have hl := wpOps_eq_wpList (P := P) (ops := ops) (Q := fun e act' w' => ∃ x a' S', e = x.out ∧ Q x a' S' ∧ At E a' S' act' w') ops.toList 0 (fun j => by simp)
  rw [Array.length_toList, ← List.range_eq_range'] at hl
  rw [hl]
  exact h E hn ops _ _ hxs (fun a' S' act' w' h1 h2 => ⟨.norm, a', S', rfl, h1, h2⟩) act w hA
/-- A drawn region, reckoned. -/
theorem Ex.dreg {X : Clr} (hX : ClrOk P X) {m : Nat} {xs : List AOper} {a' : List AV} {S' : St} (h : evDraw X m xs a S = some (a', S')) (hq : Q .norm a' S') : Ex n0 md P (.dreg m xs) a S Q := by
  intro E hn code hc act w hA
  have hr := (evCode_run (md := md) hX 1 code _ a a' S S' .norm hc (by simp only [evCode, h])).1
  obtain ⟨G, hI, hR, hg, hk, hd⟩ := hA
  refine cwp_mono (hr G act w hI hR) ?_
  rintro e act' w' ⟨he, G', h1, h2, h3, h4, h5⟩
  exact ⟨.norm, a', S', he, hq, G', h1, h2, hg.trans h3, hk.trans h4, h5.trans hd⟩
theorem Ex.seq {c d : ACode} (h : Ex n0 md P c a S fun x a' S' => match x with | .norm => Ex n0 md P d a' S' Q | x => Q x a' S') : Ex n0 md P (.seq c d) a S Q := by
  intro E hn code hc act w hA
  obtain ⟨x, y, rfl, h1, h2⟩ := compCode_seq hc
  refine cwp_seq (cwp_mono (h E hn x h1 act w hA) ?_)
  rintro e act' w' ⟨z, a', S', rfl, hq, hA'⟩
  cases z with
  | norm => exact hq E hn y h2 act' w' hA'
  | ex i => exact ⟨.ex i, a', S', rfl, hq, hA'⟩
  | ret => exact ⟨.ret, a', S', rfl, hq, hA'⟩
theorem Ex.cond {y : AOpd} {c d : ACode} {b : Bool} (hb : evd a y = .bool b) (h : Ex n0 md P (if b then c else d) a S Q) : Ex n0 md P (.cond y c d) a S Q := by
  intro E hn code hc act w hA
  obtain ⟨z, x1, x2, rfl, h1, h2, h3⟩ := compCode_cond hc
  obtain ⟨G, hI, hR, hg, hk, hd⟩ := hA
  have hz := hR.opd z y h1
  rw [hb] at hz
  refine cwp_cond hz.inv_bool ?_
  cases b
  · exact h E hn x2 h3 act w ⟨G, hI, hR, hg, hk, hd⟩
  · exact h E hn x1 h2 act w ⟨G, hI, hR, hg, hk, hd⟩
theorem Ex.block {id : Nat} {c : ACode} (h : Ex n0 md P c a S fun x a' S' => Q (if x = .ex id then .norm else x) a' S') : Ex n0 md P (.block id c) a S Q := by
  intro E hn code hc act w hA
  obtain ⟨x, rfl, h1⟩ := compCode_block hc
  refine cwp_block (cwp_mono (h E hn x h1 act w hA) ?_)
  rintro e act' w' ⟨z, a', S', rfl, hq, hA'⟩
  cases z with
  | norm => exact ⟨.norm, a', S', rfl, hq, hA'⟩
  | ret => exact ⟨.ret, a', S', rfl, hq, hA'⟩
  | ex i =>
    simp only [AEx.out, Exit.inBlock]
    simp only [AEx.ex.injEq] at hq
    by_cases hi : i = id
    · rw [if_pos hi] at hq; rw [if_pos hi]; exact ⟨.norm, a', S', rfl, hq, hA'⟩
    · rw [if_neg hi] at hq; rw [if_neg hi]; exact ⟨.ex i, a', S', rfl, hq, hA'⟩
/-- A loop: what holds before each round, and a number that each round makes less. -/
theorem Ex.loop {c : ACode} (I : Nat → List AV → St → Prop) (k : Nat) (h : I k a S)
    (round : ∀ k a S, I k a S → Ex n0 md P c a S fun x a' S' => match x with | .norm => ∃ j, j < k ∧ I j a' S' | x => Q x a' S') : Ex n0 md P (.loop c) a S Q := by
  intro E hn code hc act w hA
  obtain ⟨x, rfl, h1⟩ := compCode_loop hc
  let I0 : Nat → Act → World → Prop := fun k act w => ∃ a S, I k a S ∧ At E a S act w
  refine cwp_loop (fun act w => ∃ k, I0 k act w) (fun act w => leastOf' fun k => I0 k act w) ⟨k, a, S, h, hA⟩ ?_
  intro act1 w1 hex
  obtain ⟨⟨a1, S1, hi1, hA1⟩, hmin⟩ := leastOf_spec hex
  generalize hm : (leastOf' fun k => I0 k act1 w1) = m at hi1 hmin
  refine cwp_mono (round m a1 S1 hi1 E hn x h1 act1 w1 hA1) ?_
  rintro e act2 w2 ⟨z, a2, S2, rfl, hq, hA2⟩
  cases z with
  | norm =>
    obtain ⟨j, hj, hij⟩ := hq
    have hi : I0 j act2 w2 := ⟨a2, S2, hij, hA2⟩
    refine ⟨⟨j, hi⟩, ?_⟩
    have := (leastOf_spec (p := fun k => I0 k act2 w2) ⟨j, hi⟩).2 j hi
    exact Nat.lt_of_le_of_lt this hj
  | ret => exact ⟨.ret, a2, S2, rfl, hq, hA2⟩
  | ex i => exact ⟨.ex i, a2, S2, rfl, hq, hA2⟩
end rules

theorem Does.of {P : Program} {f : FuncId} {F : AFn} (hF : compFn P f = some F) {xs : List AV} {cells : List (List AV)} {Q : AV → List (List AV) → Prop}
    (h : Ex cells.length .plain P F.code (start F xs) ⟨cells, []⟩ fun x a' S' => (x = .norm ∨ x = .ret) ∧ ∃ v, evRes a' S' F.res = some v ∧ cells.length ≤ (if v.names then S'.bx else S'.bx.take cells.length).length ∧ Q v (if v.names then S'.bx else S'.bx.take cells.length)) : Does P f xs cells Q := by
  unfold compFn at hF
  split at hF
  · rename_i fn hf
    split at hF
    · rename_i c rs hb hrs
      split at hF
      · rename_i ac hac
        split at hF
        · cases hF
        · rename_i hname
          cases hF
          refine ⟨fun us w => ?_, fun G w us hI hvs => ?_⟩
          · simp only [callFunc, program, Sem.run, hf, Sem.run_bind, Result.andThen_ok, hname, hb]
            rfl
          · refine calls_of_wp hf hb ?_
            have hR : Rel G (start ⟨fn.params.size, fn.ntmps, rs, ac⟩ xs) { tmps := us ++ Array.replicate (fn.ntmps - us.size) undef, defers := [] } := by
              refine ⟨by simp [start, hvs.1], fun i y u hy hu => ?_⟩
              simp only [start] at hy
              simp only at hu
              rw [List.getElem?_append] at hy
              rw [Array.getElem?_append, hvs.1] at hu
              split at hy
              · rename_i hlt
                rw [if_pos hlt] at hu
                exact hvs.2 i y u hy hu
              · rename_i hlt
                rw [if_neg hlt] at hu
                have e1 := List.eq_of_mem_replicate (List.mem_of_getElem? hy)
                have e2 : u ∈ (Array.replicate (fn.ntmps - xs.length) undef) := Array.mem_of_getElem? hu
                have e3 := (Array.mem_replicate.1 e2).2
                rw [e1, e3]
                exact .undef G
            refine wp_mono (h ⟨G, ⟨cells, []⟩, w, [], hI, rfl⟩ rfl c hac _ w ⟨G, hI, hR, .refl _ _ _, .refl _ _, rfl⟩) ?_
            rintro e act' w' ⟨x, a', S', he, ⟨hx, v, hv, hlen, hq⟩, G', hI', hR', hg, hk, hd⟩
            obtain ⟨u, h1, h2⟩ := res_ok hI' hR' hrs hv
            have hbx : ∃ bx, S'.bx = (if v.names then S'.bx else S'.bx.take cells.length) ++ bx := by
              split
              · exact ⟨[], by simp⟩
              · exact ⟨S'.bx.drop cells.length, by simp⟩
            obtain ⟨bx, hbx⟩ := hbx
            generalize (if v.names then S'.bx else S'.bx.take cells.length) = c' at hlen hq hbx
            obtain ⟨S'bx, S'lv⟩ := S'
            simp only at hbx
            subst hbx
            rcases hx with rfl | rfl
            · subst he; exact ⟨hd, u, h1, u, v, c', G', bx, S'lv, hq, rfl, h2, hlen, hI', hg⟩
            · subst he; exact ⟨hd, u, h1, u, v, c', G', bx, S'lv, hq, rfl, h2, hlen, hI', hg⟩
      · cases hF
    · cases hF
  · cases hF
/-- A function that does 'true' is a law. -/
theorem Does.law {P : Program} {f : FuncId} {xs : List AV} {us : Array Value} {W : World} (h : Does P f xs [] fun v _ => v = .bool true) (hv : VRs (Gh.all W) xs us) :
    Calls P f us W fun e W' => e = .returned (.bool true) ∧ Below W.heap.size W W' := by
  refine (h.calls (Gh.all W) W us (Inv.all W) hv).mono ?_
  rintro e W' ⟨u, v, c', G', bx, lv, rfl, rfl, hu, _, _, hg⟩
  refine ⟨by rw [hu.inv_bool], hg.below fun B => ?_⟩
  rintro (⟨b, hb⟩ | ⟨t, n, s0, s, c, h1, _⟩)
  · simp [Gh.all] at hb
  · simp at h1
end Go.Proofs.Ytncaneioenanjaa
