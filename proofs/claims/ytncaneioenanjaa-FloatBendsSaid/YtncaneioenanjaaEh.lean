/- The engine, part 8: an operation does what aop says. Own work; imports no translation. -/
import Derived.Test.YtncaneioenanjaaEg
namespace Go.Proofs.Ytncaneioenanjaa
open Go.RowKit
set_option linter.unusedVariables false
set_option linter.unusedSimpArgs false

section
variable {P : Program} {G : Gh} {w : World} {o : Oper} {ρ : Operand → Value} {a : AOpd → AV} {S : St}

def ResOk (P : Program) (G : Gh) (S : St) (w : World) (o : Oper) (ρ : Operand → Value) : Res → Prop
  | .val v => ValOk P G w o ρ v
  | .box cs => BoxOk P G w o ρ cs
  | .mbox cs n s => MboxOk P G w o ρ cs n
  | .lit s els => LitOk P G w o ρ s els
  | .put b cs => PutOk P G w o ρ b cs ∧ ∃ old, S.bx[b]? = some old ∧ old.length = cs.length
  | .app s tk els news => AppOk P G w o ρ s tk els news ∧ (∀ t', tk = some t' → S.lv[t']? = some (els.length, s) ∧ ∃ k v, G.tb t' k = some v) ∧ (tk = none → els = []) ∧ news ≠ []
  | .call f args => CallOk P G w o ρ f args

/-- Nothing is appended. -/
theorem app_none {t e : TypeId} {j : TypeInfo} {z : List AV} {sx x : Operand} {sx' x' : AOpd} {v : AV} (ho : o.op = .call { callee := .builtin .append, args := #[sx, x], argTypes := #[t, t] }) (ht : P.underlying t = some (.slice e)) (hj : P.info? e = some j) (hz : zeroOf P e = some z)
    (hx : compOpd x = some x') (hsx : compOpd sx = some sx') (h : OpdOk G a ρ) (hI : Inv G S w) (hv : aop (.app sx' x' j.size j.bytes z) a S = some (.val v)) : ValOk P G w o ρ v := by
  have r1 := h x x' hx
  have r2 := h sx sx' hsx
  simp only [aop] at hv
  cases hnw : newsOf (a x') with
  | none => rw [hnw] at hv; cases hv
  | some nw =>
    rw [hnw] at hv
    simp only [] at hv
    split at hv
    · have hx0 : nw = [] → ∃ A c, ρ x = .slice A 0 c := by
        rintro rfl
        cases hax : a x' <;> rw [hax] at hnw <;> simp only [newsOf, Option.some.injEq, reduceCtorEq] at hnw
        · rw [hax] at r1; exact ⟨none, 0, r1.inv_nils⟩
        · subst hnw
          rw [hax] at r1
          obtain ⟨A, c, hu, _⟩ := r1.inv_sl
          exact ⟨A, c, hu⟩
      have hrun : ∀ (A B : Option Addr) (n c c2 : Nat), n ≤ c → ρ sx = .slice A n c → ρ x = .slice B 0 c2 → (execOp ρ o).run P w = .ok (.value (.slice A n c)) w := by
        intro A B n c c2 hnc h1 h2
        have hz0 : n + 0 ≤ c := by omega
        cases A <;> cases B <;> simp [execOp, ho, resolve, invoke, builtin, h1, h2, Builtin.append_, run_underlying ht, sizeOf, typeInfo, hj, Builtin.lenOf, hnc, Builtin.firstCells, loadCells, loadCellsFrom, storeCells]
      split at hv
      · rename_i e1
        rw [e1] at r2
        split at hv
        · split at hv
          · rename_i hne
            cases hv
            obtain ⟨B, c2, hb⟩ := hx0 (List.eq_nil_of_length_eq_zero hne)
            exact ⟨_, hrun none B 0 0 c2 (Nat.le_refl _) r2.inv_nils hb, .nils⟩
          · cases hv
        · cases hv
      · rename_i els0 t0 e1
        rw [e1] at r2
        split at hv
        · split at hv
          · rename_i hne
            cases hv
            obtain ⟨B, c2, hb⟩ := hx0 (List.eq_nil_of_length_eq_zero hne)
            generalize hu2 : ρ sx = u2 at r2
            have r3 := r2
            cases r2 with
            | slt0 _ hb' => exact ⟨_, hrun none B 0 0 c2 (Nat.le_refl _) hu2 hb, r3⟩
            | slt _ _ s B' c us0 hb' hn hs hf hvr0 => exact ⟨_, hrun _ B _ c c2 hn hu2 hb, r3⟩
          · cases hv
        · cases hv
      · cases hv
    · cases hv

/-! Operations that only come to a value. -/
theorem load_val {n : Option Nat} {y : AOpd} {r : Res} (h : aop (.load n y) a S = some r) : ∃ v, r = .val v := by
  simp only [aop] at h
  split at h
  · simp only [Option.map_eq_some_iff] at h; obtain ⟨v, _, rfl⟩ := h; exact ⟨v, rfl⟩
  · simp only [Option.bind_eq_some_iff, Option.map_eq_some_iff] at h; obtain ⟨_, _, v, _, rfl⟩ := h; exact ⟨v, rfl⟩
  · cases h
theorem eqn_val {n : Bool} {k : Nat} {x y : AOpd} {r : Res} (h : aop (.eqn n k x y) a S = some r) : ∃ v, r = .val v := by
  simp only [aop] at h
  split at h
  · split at h
    · cases h; exact ⟨_, rfl⟩
    · cases h
  · cases h
theorem eqs_val {n : Bool} {T : EqT} {x y : AOpd} {r : Res} (h : aop (.eqs n T x y) a S = some r) : ∃ v, r = .val v := by
  simp only [aop, Option.map_eq_some_iff] at h
  obtain ⟨b, _, rfl⟩ := h
  exact ⟨_, rfl⟩
theorem nilck_val {y : AOpd} {r : Res} (h : aop (.nilck y) a S = some r) : ∃ v, r = .val v := by
  simp only [aop] at h
  split at h <;> first | (cases h; exact ⟨_, rfl⟩) | cases h
theorem un_val {op : UnOp} {y : AOpd} {r : Res} (h : aop (.un op y) a S = some r) : ∃ v, r = .val v := by
  simp only [aop] at h
  split at h <;> first | (cases h; exact ⟨_, rfl⟩) | cases h
theorem slc_val {b : Bool} {s : Nat} {y : AOpd} {lo hi : Option AOpd} {r : Res} (h : aop (.slc b s y lo hi) a S = some r) : ∃ v, r = .val v := by
  cases b <;> simp only [aop] at h <;> (split at h <;> try (cases h; done)) <;> (split at h <;> try (cases h; done)) <;> (split at h <;> try (cases h; done)) <;> (cases h; exact ⟨_, rfl⟩)
theorem faddr_val {y : AOpd} {off : Nat} {r : Res} (h : aop (.faddr y off) a S = some r) : ∃ v, r = .val v := by
  simp only [aop] at h
  split at h
  · cases h; exact ⟨_, rfl⟩
  · split at h
    · cases h; exact ⟨_, rfl⟩
    · cases h
  · cases h
theorem fld_val {y : AOpd} {off : Nat} {n : Option Nat} {r : Res} (h : aop (.fld y off n) a S = some r) : ∃ v, r = .val v := by
  simp only [aop] at h
  split at h
  · simp only [Option.map_eq_some_iff] at h; obtain ⟨v, _, rfl⟩ := h; exact ⟨v, rfl⟩
  · cases h
theorem iaddr_val {x i : AOpd} {s : Nat} {n : Option Nat} {r : Res} (h : aop (.iaddr x i s n) a S = some r) : ∃ v, r = .val v := by
  cases n <;> simp only [aop] at h
  · split at h
    · split at h
      · simp only [Option.bind_eq_some_iff] at h
        obtain ⟨e, _, h⟩ := h
        split at h
        · cases h; exact ⟨_, rfl⟩
        · cases h
      · cases h
    · split at h
      · cases h; exact ⟨_, rfl⟩
      · cases h
    · cases h
  · split at h
    · split at h
      · cases h; exact ⟨_, rfl⟩
      · cases h
    · split at h
      · cases h; exact ⟨_, rfl⟩
      · cases h
    · cases h
theorem idx_val {x i : AOpd} {r : Res} (h : aop (.idx x i) a S = some r) : ∃ v, r = .val v := by
  simp only [aop] at h
  split at h
  · split at h
    · simp only [Option.map_eq_some_iff] at h; obtain ⟨v, _, rfl⟩ := h; exact ⟨_, rfl⟩
    · cases h
  · cases h
theorem aidx_val {x i : AOpd} {m s : Nat} {n : Option Nat} {r : Res} (h : aop (.aidx x i m s n) a S = some r) : ∃ v, r = .val v := by
  simp only [aop] at h
  split at h
  · split at h
    · simp only [Option.map_eq_some_iff] at h; obtain ⟨v, _, rfl⟩ := h; exact ⟨_, rfl⟩
    · cases h
  · cases h
theorem len_val {b : Bool} {x : AOpd} {r : Res} (h : aop (.len b x) a S = some r) : ∃ v, r = .val v := by
  cases b <;> simp only [aop] at h <;> split at h <;> first | (cases h; exact ⟨_, rfl⟩) | cases h
theorem mn_val {x y : AOpd} {r : Res} (h : aop (.mn x y) a S = some r) : ∃ v, r = .val v := by
  simp only [aop] at h; split at h <;> first | (cases h; exact ⟨_, rfl⟩) | cases h
theorem mx_val {x y : AOpd} {r : Res} (h : aop (.mx x y) a S = some r) : ∃ v, r = .val v := by
  simp only [aop] at h; split at h <;> first | (cases h; exact ⟨_, rfl⟩) | cases h
theorem store_put {n : Nat} {x y : AOpd} {r : Res} (h : aop (.store n x y) a S = some r) : ∃ b cs, r = .put b cs := by
  simp only [aop] at h
  split at h
  · simp only [Option.bind_eq_some_iff] at h
    obtain ⟨cs, _, h⟩ := h
    split at h
    · cases h; exact ⟨_, _, rfl⟩
    · cases h
  · cases h
theorem call_call {f : AOpd} {args : List AOpd} {r : Res} (h : aop (.call f args) a S = some r) : ∃ g as, r = .call g as := by
  simp only [aop] at h; split at h <;> first | (cases h; exact ⟨_, _, rfl⟩) | cases h
theorem app_kind {sx x : AOpd} {es by_ : Nat} {z : List AV} {r : Res} (h : aop (.app sx x es by_ z) a S = some r) : (∃ v, r = .val v) ∨ ∃ s tk els news, r = .app s tk els news := by
  simp only [aop] at h
  split at h
  · cases h
  · split at h
    · split at h
      · split at h
        · split at h
          · cases h; exact .inl ⟨_, rfl⟩
          · cases h; exact .inr ⟨_, _, _, _, rfl⟩
        · cases h
      · split at h
        · split at h
          · cases h; exact .inl ⟨_, rfl⟩
          · cases h; exact .inr ⟨_, _, _, _, rfl⟩
        · cases h
      · cases h
    · cases h

theorem elemOf_ok {t e : TypeId} (h : elemOf' P t = some e) : P.underlying t = some (.slice e) := by
  unfold elemOf' at h
  split at h
  · rename_i e' hu; cases h; exact hu
  · cases h

theorem step_ok {ty : TypeId} {ao : AOp} {r : Res} (hc : compOp P ty o.op = some ao) (hcon : ∀ x, a (.con x) = x) (h : OpdOk G a ρ) (hI : Inv G S w) (hr : aop ao a S = some r) : ResOk P G S w o ρ r := by
  generalize hop : o.op = op at hc
  unfold compOp at hc
  split at hc
  · -- move
    rename_i x
    simp only [Option.map_eq_some_iff] at hc
    obtain ⟨y, hy, rfl⟩ := hc
    cases hr
    exact mov_ok (.inl hop) hy h
  · rename_i x
    simp only [Option.map_eq_some_iff] at hc
    obtain ⟨y, hy, rfl⟩ := hc
    cases hr
    exact mov_ok (.inr hop) hy h
  · -- pick
    rename_i c x y
    simp only [Option.bind_eq_bind, Option.bind_eq_some_iff, Option.pure_def, Option.some.injEq] at hc
    obtain ⟨c', hc', x', hx', y', hy', rfl⟩ := hc
    simp only [aop] at hr
    split at hr
    · rename_i b e
      cases hr
      exact pick_ok hop hc' hx' hy' h e
    · cases hr
  · -- alloc
    rename_i t
    simp only [Option.bind_eq_bind, Option.bind_eq_some_iff, Option.pure_def] at hc
    obtain ⟨z, hz, g, hg, hc⟩ := hc
    have hb := alloc_ok (P := P) (G := G) (w := w) (ρ := ρ) hop hz
    split at hc
    · cases hc
      simp only [aop, hcon] at hr
      cases hr
      exact hb
    · split at hc
      · rename_i x
        cases hc
        obtain ⟨i, v, _, _, _, _, h5⟩ := zeroOf_ok hz
        have hxs : ∃ y, AV.ofS y = some x := by
          unfold zeroOf at hz
          split at hz
          · split at hz
            · split at hz
              · obtain ⟨_, hm⟩ := mapM_get hz
                obtain ⟨y, _, hy⟩ := hm 0 x rfl
                exact ⟨y, hy⟩
              · cases hz
            · cases hz
          · cases hz
        obtain ⟨y, hy⟩ := hxs
        have hcl := (ofS_cells hy).1
        simp only [aop, hcon] at hr
        split at hr
        · cases hr
        · cases hr
          rw [hcl]
          exact hb
      · cases hc
  · -- box
    rename_i t x
    simp only [Option.map_eq_some_iff] at hc
    obtain ⟨y, hy, rfl⟩ := hc
    simp only [aop] at hr
    split at hr
    · cases hr
    · rename_i hj
      cases hr
      exact box_ok hop hy h (fun e => hj e)
  · -- build
    rename_i t parts
    simp only [Option.bind_eq_bind, Option.bind_eq_some_iff, Option.pure_def] at hc
    obtain ⟨d, hd, hc⟩ := hc
    split at hc
    · rename_i fs
      simp only [Option.bind_eq_some_iff] at hc
      obtain ⟨z, hz, ps, hps, hc⟩ := hc
      split at hc
      · rename_i hall
        cases hc
        simp only [aop, Option.map_eq_some_iff] at hr
        obtain ⟨cs, hf, rfl⟩ := hr
        exact build_ok hop hd hz hps hall h hf
      · cases hc
    · simp only [Option.bind_eq_some_iff, Option.some.injEq] at hc
      obtain ⟨z, hz, j, hj, ps, hps, rfl⟩ := hc
      simp only [aop, Option.map_eq_some_iff] at hr
      obtain ⟨cs, hf, rfl⟩ := hr
      exact builda_ok hop hd hz hj hps h hf
    · cases hc
  · -- buildSlice
    rename_i t len parts
    simp only [Option.bind_eq_bind, Option.bind_eq_some_iff, Option.pure_def] at hc
    obtain ⟨e, he, i, hi, z, hz, g, hg, ps, hps, hc⟩ := hc
    split at hc
    · rename_i hcond
      cases hc
      simp only [Bool.and_eq_true, decide_eq_true_eq] at hcond
      simp only [aop, Option.bind_eq_some_iff] at hr
      obtain ⟨cs, hf, hr'⟩ := hr
      split at hr'
      · rename_i hag
        cases hr'
        exact bsl_ok (S := S) hop (elemOf_ok he) hi hz hg hps hcond.1 hcond.2 h (by simp only [aop, Option.bind_eq_some_iff]; exact ⟨cs, hf, by rw [if_pos hag]⟩)
      · cases hr'
    · cases hc
  · -- load
    rename_i t x
    simp only [Option.bind_eq_bind, Option.bind_eq_some_iff, Option.pure_def, Option.some.injEq] at hc
    obtain ⟨n, hn, y, hy, rfl⟩ := hc
    obtain ⟨v, rfl⟩ := load_val hr
    exact load_ok hop hn hy h hI hr
  · -- store
    rename_i t x v
    simp only [Option.bind_eq_bind, Option.bind_eq_some_iff, Option.pure_def, Option.some.injEq] at hc
    obtain ⟨j, hj, x', hx', v', hv', rfl⟩ := hc
    obtain ⟨b, cs, rfl⟩ := store_put hr
    exact store_ok hop hj hx' hv' h hI hr
  · -- nilCheck
    rename_i x
    simp only [Option.map_eq_some_iff] at hc
    obtain ⟨y, hy, rfl⟩ := hc
    obtain ⟨v, rfl⟩ := nilck_val hr
    exact nilck_ok hop hy h hr
  · -- binOp
    rename_i op t x y t2
    simp only [Option.bind_eq_bind, Option.bind_eq_some_iff] at hc
    obtain ⟨x', hx', y', hy', hc⟩ := hc
    split at hc
    · rename_i n e hn ht
      cases hc
      obtain ⟨v, rfl⟩ := eqn_val hr
      exact eqn_ok hop hn (.inl ⟨rfl, _, ht⟩) hx' hy' h hr
    · rename_i n e hn ht
      cases hc
      obtain ⟨v, rfl⟩ := eqn_val hr
      exact eqn_ok hop hn (.inr (.inl ⟨rfl, _, ht⟩)) hx' hy' h hr
    · rename_i hn ht
      cases hc
      obtain ⟨v, rfl⟩ := eqn_val hr
      exact eqn_ok hop hn (.inr (.inr ⟨rfl, _, _, _, ht⟩)) hx' hy' h hr
    · rename_i n fs hn ht
      split at hc
      · cases hc
      · rename_i hg
        simp only [Option.map_eq_some_iff] at hc
        obtain ⟨T, hT, rfl⟩ := hc
        obtain ⟨v, rfl⟩ := eqs_val hr
        exact eqs_ok hop hn hT (by omega) (.inl ⟨⟨_, ht⟩, by simpa using hg⟩) hx' hy' h hr
    · rename_i n hn ht
      cases hc
      obtain ⟨v, rfl⟩ := eqs_val hr
      exact eqs_ok (k := 1) hop hn (by simp [compEq, ht]) (by omega) (.inr rfl) hx' hy' h hr
    · cases hc
      simp only [aop, Option.map_eq_some_iff] at hr
      obtain ⟨v, hv, rfl⟩ := hr
      exact bin_ok hop hx' hy' h hv
  · -- unOp
    rename_i op t x
    simp only [Option.bind_eq_bind, Option.bind_eq_some_iff, Option.pure_def, Option.some.injEq] at hc
    obtain ⟨x', hx', rfl⟩ := hc
    obtain ⟨v, rfl⟩ := un_val hr
    exact un_ok hop hx' h hr
  · -- convert
    rename_i src dst x
    simp only [Option.bind_eq_bind, Option.bind_eq_some_iff, Option.pure_def] at hc
    obtain ⟨d, hd, k0, hk, hc⟩ := hc
    split at hc
    · rename_i k
      simp only [Option.bind_eq_some_iff, Option.some.injEq] at hc
      obtain ⟨x', hx', rfl⟩ := hc
      simp only [aop] at hr
      split at hr
      · rename_i k' n e
        cases hr
        exact conv_ok hop hd hk hx' h e
      · cases hr
    · cases hc
  · -- makeFunc
    rename_i f first caps
    simp only [Option.bind_eq_bind, Option.bind_eq_some_iff, Option.pure_def, Option.some.injEq] at hc
    obtain ⟨ps, hps, cs, hcs, rfl⟩ := hc
    cases hr
    exact mkfn_ok hop hps hcs h
  · -- makeSlice
    rename_i t l c
    simp only [Option.bind_eq_bind, Option.bind_eq_some_iff, Option.pure_def] at hc
    obtain ⟨e, he, i, hi, z, hz, g, hg, hc⟩ := hc
    split at hc
    · rename_i hs
      simp only [Option.bind_eq_some_iff, Option.some.injEq] at hc
      obtain ⟨l', hl', c', hc', rfl⟩ := hc
      have r1 := h l l' hl'
      have r2 := h c c' hc'
      simp only [aop] at hr
      split at hr
      · rename_i k1 n k2 m e1 e2
        rw [e1] at r1; rw [e2] at r2
        split at hr
        · rename_i hb
          obtain ⟨h1, us, T, h2, h3⟩ := mksl_run (P := P) (G := G) (w := w) hop (elemOf_ok he) hi hz hs r1.inv_int r2.inv_int hb.1 hb.2.1 hb.2.2.1 hb.2.2.2
          split at hr
          · rename_i hn
            cases hr
            subst hn
            exact ⟨us, T, m.toNat, h2, Nat.zero_le _, h3, fun i e he => by simp at he, fun i e j x he => by simp at he⟩
          · cases hr
            exact h1
        · cases hr
      · cases hr
    · cases hc
  · -- slice
    rename_i t x lo hi
    simp only [Option.bind_eq_bind, Option.pure_def] at hc
    split at hc
    · rename_i ht
      simp only [Option.bind_eq_some_iff, Option.some.injEq] at hc
      obtain ⟨x', hx', lo', hlo, hi', hhi, rfl⟩ := hc
      obtain ⟨v, rfl⟩ := slc_val hr
      exact slcs_ok hop ht hx' hlo hhi h hr
    · rename_i e ht
      simp only [Option.bind_eq_some_iff, Option.some.injEq] at hc
      obtain ⟨i, hi0, x', hx', lo', hlo, hi', hhi, rfl⟩ := hc
      obtain ⟨v, rfl⟩ := slc_val hr
      exact slc_ok hop ht hi0 hx' hlo hhi h hr
    · cases hc
  · -- fieldAddr
    rename_i t x f
    simp only [Option.bind_eq_bind, Option.bind_eq_some_iff, Option.pure_def] at hc
    obtain ⟨d, hd, i, hi, hc⟩ := hc
    split at hc
    · cases hc
    · rename_i hs
      simp only [Option.bind_eq_some_iff, Option.some.injEq] at hc
      obtain ⟨x', hx', rfl⟩ := hc
      obtain ⟨v, rfl⟩ := faddr_val hr
      exact faddr_ok hop hd hi hs hx' h hr
  · -- field
    rename_i t x f
    simp only [Option.bind_eq_bind, Option.bind_eq_some_iff, Option.pure_def, Option.some.injEq] at hc
    obtain ⟨d, hd, x', hx', n, hn, rfl⟩ := hc
    obtain ⟨v, rfl⟩ := fld_val hr
    exact fld_ok hop hd hn hx' h hr
  · -- indexAddr
    rename_i t x i
    simp only [Option.bind_eq_bind, Option.pure_def] at hc
    split at hc
    · rename_i e ht
      simp only [Option.bind_eq_some_iff, Option.some.injEq] at hc
      obtain ⟨x', hx', i', hi', j, hj, rfl⟩ := hc
      obtain ⟨v, rfl⟩ := iaddr_val hr
      exact iaddr_ok hop ht hj hx' hi' h hr
    · rename_i n e ht
      simp only [Option.bind_eq_some_iff, Option.some.injEq] at hc
      obtain ⟨x', hx', i', hi', j, hj, rfl⟩ := hc
      obtain ⟨v, rfl⟩ := iaddr_val hr
      exact iaddr2_ok hop ht hj hx' hi' h hr
    · cases hc
  · -- index
    rename_i t x i
    simp only [Option.bind_eq_bind, Option.pure_def] at hc
    split at hc
    · rename_i ht
      simp only [Option.bind_eq_some_iff, Option.some.injEq] at hc
      obtain ⟨x', hx', i', hi', rfl⟩ := hc
      obtain ⟨v, rfl⟩ := idx_val hr
      exact idx_ok hop ht hx' hi' h hr
    · rename_i n e ht
      simp only [Option.bind_eq_some_iff, Option.some.injEq] at hc
      obtain ⟨x', hx', i', hi', j, hj, g, hg, rfl⟩ := hc
      obtain ⟨v, rfl⟩ := aidx_val hr
      exact aidx_ok hop ht hj hg hx' hi' h hr
    · cases hc
  · -- extract
    rename_i t i
    simp only [Option.bind_eq_bind, Option.bind_eq_some_iff, Option.pure_def, Option.some.injEq] at hc
    obtain ⟨x', hx', rfl⟩ := hc
    simp only [aop] at hr
    split at hr
    · rename_i vs e
      simp only [Option.map_eq_some_iff] at hr
      obtain ⟨v, hv, rfl⟩ := hr
      exact ext_ok hop hx' h e hv
    · cases hr
  · -- call
    rename_i f args ts
    simp only [Option.bind_eq_bind, Option.bind_eq_some_iff, Option.pure_def, Option.some.injEq] at hc
    obtain ⟨f', hf', as', has', rfl⟩ := hc
    obtain ⟨g, as, rfl⟩ := call_call hr
    exact call_ok hop hf' has' h hr
  · -- append
    rename_i args ts
    split at hc
    · rename_i sx x t u ha ht
      simp only [Option.bind_eq_bind, Option.bind_eq_some_iff, Option.pure_def] at hc
      obtain ⟨e, he, i, hi, z, hz, hc⟩ := hc
      split at hc
      · rename_i hcond
        simp only [Bool.and_eq_true, decide_eq_true_eq] at hcond
        obtain ⟨htu, hs⟩ := hcond
        subst htu
        simp only [Option.bind_eq_some_iff, Option.some.injEq] at hc
        obtain ⟨s', hs', x', hx', rfl⟩ := hc
        have ea : args = #[sx, x] := by rw [← Array.toList_inj, ha]
        have et : ts = #[t, t] := by rw [← Array.toList_inj, ht]
        subst ea et
        rcases app_kind hr with ⟨v, rfl⟩ | ⟨s0, tk, els, news, rfl⟩
        · exact app_none hop (elemOf_ok he) hi hz hx' hs' h hI hr
        · obtain ⟨rfl, h1, h2, h3, h4⟩ := app_ok hop (elemOf_ok he) hi hz hs hx' hs' h hI hr
          exact ⟨h1, h2, h3, h4⟩
      · cases hc
    · cases hc
  · -- len
    rename_i args ts
    split at hc
    · rename_i x t ha ht0
      have ea : args = #[x] := by rw [← Array.toList_inj, ha]
      have et : ts = #[t] := by rw [← Array.toList_inj, ht0]
      subst ea et
      simp only [Option.bind_eq_bind, Option.pure_def] at hc
      split at hc
      · rename_i ht
        simp only [Option.bind_eq_some_iff, Option.some.injEq] at hc
        obtain ⟨x', hx', rfl⟩ := hc
        obtain ⟨v, rfl⟩ := len_val hr
        exact lens_ok hop ht hx' h hr
      · rename_i e ht
        simp only [Option.bind_eq_some_iff, Option.some.injEq] at hc
        obtain ⟨x', hx', rfl⟩ := hc
        obtain ⟨v, rfl⟩ := len_val hr
        exact len_ok hop ht hx' h hr
      · cases hc
    · cases hc
  · -- min
    rename_i args ts
    split at hc
    · rename_i x y ha
      have ea : args = #[x, y] := by rw [← Array.toList_inj, ha]
      subst ea
      simp only [Option.bind_eq_bind, Option.bind_eq_some_iff, Option.pure_def, Option.some.injEq] at hc
      obtain ⟨x', hx', y', hy', rfl⟩ := hc
      obtain ⟨v, rfl⟩ := mn_val hr
      exact mn_ok hop hx' hy' h hr
    · cases hc
  · -- max
    rename_i args ts
    split at hc
    · rename_i x y ha
      have ea : args = #[x, y] := by rw [← Array.toList_inj, ha]
      subst ea
      simp only [Option.bind_eq_bind, Option.bind_eq_some_iff, Option.pure_def, Option.some.injEq] at hc
      obtain ⟨x', hx', y', hy', rfl⟩ := hc
      obtain ⟨v, rfl⟩ := mx_val hr
      exact mx_ok hop hx' hy' h hr
    · cases hc
  · cases hc
end
end Go.Proofs.Ytncaneioenanjaa
