/- The engine, part 5: parts of slices and strings, things that are built, stores, calls. Own work; imports no translation. -/
import Derived.Test.YtncaneioenanjaaEd
namespace Go.Proofs.Ytncaneioenanjaa
open Go.RowKit
set_option linter.unusedVariables false
set_option linter.unusedSimpArgs false

section ops
variable {P : Program} {G : Gh} {w : World} {o : Oper} {ρ : Operand → Value} {a : AOpd → AV} {S : St}

/-- What a bound comes to. -/
def bndA (a : AOpd → AV) (d : Nat) : Option AOpd → Option Nat
  | none => some d
  | some l => match a l with | .int _ n => if 0 ≤ n then some n.toNat else none | _ => none

theorem compOpt_ok {x : Option Operand} {y : Option AOpd} (h : compOpt x = some y) : (x = none ∧ y = none) ∨ ∃ z z', x = some z ∧ y = some z' ∧ compOpd z = some z' := by
  cases x with
  | none => cases h; exact .inl ⟨rfl, rfl⟩
  | some z =>
    simp only [compOpt, Option.map_eq_some_iff] at h
    obtain ⟨z', h1, rfl⟩ := h
    exact .inr ⟨z, z', rfl, rfl, h1⟩

theorem bounds_ok (isS : Bool) {len cap : Nat} {lo hi : Option Operand} {lo' hi' : Option AOpd} {l h : Nat} (h1 : compOpt lo = some lo') (h2 : compOpt hi = some hi') (hop : OpdOk G a ρ)
    (hl : bndA a 0 lo' = some l) (hh : bndA a len hi' = some h) (hlh : l ≤ h) (hhl : h ≤ len) (hlc : len ≤ cap) :
    (Instr.sliceBounds isS len cap (lo.map ρ) (hi.map ρ) none).run P w = .ok (l, h, cap) w := by
  have hbl : ∀ (z : Operand) (z' : AOpd) (y n : Nat) (code : BoundsCode), compOpd z = some z' → bndA a 0 (some z') = some n → n ≤ y → (Instr.sliceBound (ρ z) y code).run P w = .ok n w := by
    intro z z' y n code hz hb hn
    have hr := hop z z' hz
    simp only [bndA] at hb
    split at hb
    · rename_i k m e
      rw [e] at hr
      split at hb
      · rename_i hm
        cases hb
        have : m ≤ (y : Int) := by omega
        simp [Instr.sliceBound, hr.inv_int, asIntOf, hm, this]
      · cases hb
    · cases hb
  rcases compOpt_ok h1 with ⟨rfl, rfl⟩ | ⟨z1, z1', rfl, rfl, hz1⟩ <;> rcases compOpt_ok h2 with ⟨rfl, rfl⟩ | ⟨z2, z2', rfl, rfl, hz2⟩
  · simp only [bndA, Option.some.injEq] at hl hh
    subst hl hh
    simp [Instr.sliceBounds]
  · simp only [bndA, Option.some.injEq] at hl
    subst hl
    simp [Instr.sliceBounds, hbl z2 z2' cap h _ hz2 hh (by omega)]
  · simp only [bndA, Option.some.injEq] at hh
    subst hh
    simp [Instr.sliceBounds, hbl z1 z1' len l _ hz1 hl hlh]
  · simp [Instr.sliceBounds, hbl z2 z2' cap h _ hz2 hh (by omega), hbl z1 z1' h l _ hz1 hl hlh]

theorem slcs_ok {t : TypeId} {x : Operand} {lo hi : Option Operand} {x' : AOpd} {lo' hi' : Option AOpd} {n : Nat} {v : AV} (ho : o.op = .slice t x lo hi none) (ht : P.underlying t = some .string) (hx : compOpd x = some x') (h1 : compOpt lo = some lo') (h2 : compOpt hi = some hi')
    (h : OpdOk G a ρ) (hv : aop (.slc true n x' lo' hi') a S = some (.val v)) : ValOk P G w o ρ v := by
  have hr := h x x' hx
  simp only [aop] at hv
  split at hv
  · rename_i b e
    rw [e] at hr
    split at hv
    · rename_i l hh e1 e2
      split at hv
      · rename_i hle
        cases hv
        have hb := bounds_ok (P := P) (w := w) false (len := b.size) (cap := b.size) h1 h2 h (l := l) (h := hh) (by unfold bndA; exact e1) (by unfold bndA; exact e2) hle.1 hle.2 (Nat.le_refl _)
        exact ⟨_, by simp [execOp, ho, Instr.sliceAt, Instr.slice, run_underlying ht, hr.inv_str, hb], .str _⟩
      · cases hv
    · cases hv
  · cases hv

theorem slc_ok {t el : TypeId} {j : TypeInfo} {x : Operand} {lo hi : Option Operand} {x' : AOpd} {lo' hi' : Option AOpd} {v : AV} (ho : o.op = .slice t x lo hi none) (ht : P.underlying t = some (.slice el)) (hj : P.info? el = some j) (hx : compOpd x = some x') (h1 : compOpt lo = some lo') (h2 : compOpt hi = some hi')
    (h : OpdOk G a ρ) (hv : aop (.slc false j.size x' lo' hi') a S = some (.val v)) : ValOk P G w o ρ v := by
  have hr := h x x' hx
  simp only [aop] at hv
  split at hv
  · rename_i els tk e
    rw [e] at hr
    split at hv
    · rename_i l hh e1 e2
      split at hv
      · rename_i hle
        cases hv
        obtain ⟨hle1, hle2, hsz⟩ := hle
        obtain ⟨A, c, hu, hrest⟩ := hr.inv_sl
        by_cases hne : els = []
        · subst hne
          have hh0 : hh = 0 := by simpa using hle2
          have hl0 : l = 0 := by omega
          subst hh0 hl0
          have hb := bounds_ok (P := P) (w := w) true (len := 0) (cap := c) h1 h2 h (l := 0) (h := 0) (by unfold bndA; exact e1) (by unfold bndA; exact e2) (Nat.le_refl _) (Nat.le_refl _) (Nat.zero_le _)
          refine ⟨.slice (if c = 0 then A else A.map (·.add (0 * j.size))) (0 - 0) (c - 0), ?_, ?_⟩
          · simp only [List.length_nil] at hu
            simp [execOp, ho, Instr.sliceAt, Instr.slice, run_underlying ht, hu, hb, sizeOf, typeInfo, hj]
          · simp only [List.take_nil, List.drop_nil]
            exact .sl0 _ _
        · obtain ⟨s, B, O, us, rfl, hc, hs, hf, hvr⟩ := hrest hne
          have hss : s = j.size := by
            obtain ⟨e0, l0, rfl⟩ : ∃ e0 l0, els = e0 :: l0 := List.exists_cons_of_ne_nil hne
            have h3 := hs 0 e0 rfl
            have h4 := List.all_eq_true.1 hsz e0 (by simp)
            rw [← h3]; simpa using h4
          subst hss
          have hb := bounds_ok (P := P) (w := w) true (len := els.length) (cap := c) h1 h2 h (l := l) (h := hh) (by unfold bndA; exact e1) (by unfold bndA; exact e2) hle1 hle2 hc
          have hlen : ((els.take hh).drop l).length = hh - l := by simp; omega
          by_cases hcl : c = l
          · subst hcl
            have : hh = c := by omega
            subst this
            refine ⟨.slice (some ⟨B, O, none⟩) (hh - hh) (hh - hh), by simp [execOp, ho, Instr.sliceAt, Instr.slice, run_underlying ht, hu, hb, sizeOf, typeInfo, hj], ?_⟩
            have e0 : (els.take hh).drop hh = [] := List.eq_nil_of_length_eq_zero (by rw [hlen]; omega)
            rw [e0, Nat.sub_self]
            exact .sl0 _ _
          · refine ⟨.slice (some ⟨B, O + l * j.size, none⟩) (hh - l) (c - l), by simp [execOp, ho, Instr.sliceAt, Instr.slice, run_underlying ht, hu, hb, sizeOf, typeInfo, hj, hcl, Addr.add_lit], ?_⟩
            have key : ∀ (i : Nat) e, ((els.take hh).drop l)[i]? = some e → els[l + i]? = some e := by
              intro i e he
              rw [List.getElem?_drop, List.getElem?_take] at he
              split at he
              · exact he
              · cases he
            have := VR.sl (G := G) ((els.take hh).drop l) j.size B (O + l * j.size) (c - l) (fun q => us (l * j.size + q)) (by rw [hlen]; omega) (fun i e he => hs _ _ (key i e he))
              (fun i e q y he hy => by
                have := hf _ _ _ _ (key i e he) hy
                rw [Nat.add_mul, Nat.add_assoc] at this
                rw [Nat.add_assoc]; exact this)
              (fun i e q y he hy => by
                have := hvr _ _ _ _ (key i e he) hy
                rw [Nat.add_mul, Nat.add_assoc] at this
                exact this)
            rw [hlen] at this
            exact this
      · cases hv
    · cases hv
  · cases hv

/-! ### Stores -/
theorem layAt_length (cs : List AV) (off : Nat) (vs : List AV) : (layAt cs off vs).length = cs.length := by
  induction vs generalizing cs off with
  | nil => rfl
  | cons v l ih => rw [layAt, ih, List.length_set]
theorem layAt_get (cs : List AV) (off : Nat) (vs : List AV) (hf : off + vs.length ≤ cs.length) (i : Nat) : (layAt cs off vs)[i]? = if off ≤ i ∧ i < off + vs.length then vs[i - off]? else cs[i]? := by
  induction vs generalizing cs off with
  | nil => simp only [layAt, List.length_nil, Nat.add_zero]; rw [if_neg (by omega)]
  | cons v l ih =>
    simp only [List.length_cons] at hf
    rw [layAt, ih _ _ (by rw [List.length_set]; omega)]
    by_cases h1 : off + 1 ≤ i ∧ i < off + 1 + l.length
    · rw [if_pos h1, if_pos (by simp only [List.length_cons]; omega)]
      rw [show i - off = (i - (off + 1)) + 1 by omega, List.getElem?_cons_succ]
    · rw [if_neg h1]
      by_cases h2 : i = off
      · subst h2
        rw [if_pos (by simp only [List.length_cons]; omega), List.getElem?_set]
        simp; omega
      · rw [if_neg (by simp only [List.length_cons]; omega), List.getElem?_set_ne (Ne.symm h2)]

theorem seg_get {α : Type} (l : List α) (off : Nat) (vs : List α) (hf : off + vs.length ≤ l.length) (i : Nat) : (l.take off ++ vs ++ l.drop (off + vs.length))[i]? = if off ≤ i ∧ i < off + vs.length then vs[i - off]? else l[i]? := by
  have h1 : (l.take off).length = off := by simp; omega
  by_cases h : off ≤ i ∧ i < off + vs.length
  · rw [if_pos h, List.append_assoc, List.getElem?_append_right (by omega), h1, List.getElem?_append_left (by omega)]
  · rw [if_neg h]
    by_cases h2 : i < off
    · rw [List.append_assoc, List.getElem?_append_left (by omega), List.getElem?_take_of_lt h2]
    · rw [List.getElem?_append_right (by simp; omega), List.getElem?_drop]
      congr 1
      simp; omega

theorem seg_len {α : Type} (l : List α) (off : Nat) (vs : List α) (hf : off + vs.length ≤ l.length) : (l.take off ++ vs ++ l.drop (off + vs.length)).length = l.length := by
  simp; omega

/-- A box's cells are others. -/
def PutOk (P : Program) (G : Gh) (w : World) (o : Oper) (ρ : Operand → Value) (b : Nat) (cs : List AV) : Prop :=
  ∃ (B : Nat) (us old : Array Value) (T : TypeId), G.al b = some B ∧ w.heap[B]? = some (.cells old T (0, 0)) ∧ old.size = us.size ∧ (execOp ρ o).run P w = .ok .skip (w.setRow B us) ∧ us.size = cs.length ∧ (∀ (i : Nat) x u, cs[i]? = some x → us[i]? = some u → VR G x u) ∧ ∀ o, G.fz B o = none

theorem store_ok {t : TypeId} {j : TypeInfo} {x y : Operand} {x' y' : AOpd} {b : Nat} {cs : List AV} (ho : o.op = .store t x y) (hj : P.info? t = some j) (hx : compOpd x = some x') (hy : compOpd y = some y') (h : OpdOk G a ρ) (hI : Inv G S w) (hv : aop (.store j.size x' y') a S = some (.put b cs)) :
    PutOk P G w o ρ b cs ∧ ∃ old, S.bx[b]? = some old ∧ old.length = cs.length := by
  have h1 := h x x' hx
  have h2 := h y y' hy
  simp only [aop] at hv
  split at hv
  · rename_i b' off e
    rw [e] at h1
    obtain ⟨B, hB, hu⟩ := h1.inv_ptr
    simp only [Option.bind_eq_some_iff] at hv
    obtain ⟨old, hold, hv⟩ := hv
    split at hv
    · rename_i hc
      simp only [Option.some.injEq, Res.put.injEq] at hv
      obtain ⟨rfl, rfl⟩ := hv
      simp only [Bool.and_eq_true, decide_eq_true_eq] at hc
      obtain ⟨hok, hsz, hpos, hfit⟩ := hc
      refine ⟨?_, old, hold, (layAt_length _ _ _).symm⟩
      obtain ⟨g1, g2, g3⟩ := h2.okCells hok
      rcases hI.box b' B old hB hold with rfl | ⟨us, T, k1, k2, k3, k4⟩
      · simp at hfit; omega
      · have hcl : (ρ y).cells.toList.length = (a y').cells.length := by simpa using g1
        have hst := run_storeCells_at P B off T (ρ y).cells.toList 0 us w k1 (by rw [hcl, k2, hsz]; simpa using hfit) g3
        rw [Nat.add_zero] at hst
        have hsz' : ((ρ y).cells.size ≠ j.size) = False := by simp [g1, hsz]
        refine ⟨B, (us.toList.take off ++ (ρ y).cells.toList ++ us.toList.drop (off + (ρ y).cells.toList.length)).toArray, us, T, hB, k1, ?_, by simp only [execOp, ho, Instr.storeAt, Instr.sureAddr, hu, storeVar, sizeOf, typeInfo, Sem.run_bind, Sem.run_pure, Result.andThen_ok, hst, hj, program, Sem.run, hsz', if_false], ?_, ?_, k4⟩
        · simp [g1, k2, hsz]; omega
        · simp [layAt_length, g1, k2, hsz]; omega
        · intro i z u hz hu'
          rw [layAt_get _ _ _ (by omega)] at hz
          rw [List.getElem?_toArray, seg_get _ _ _ (by rw [hcl, hsz, Array.length_toList, k2]; exact hfit), hcl] at hu'
          split at hz
          · rename_i hin
            rw [if_pos hin] at hu'
            exact g2 _ z u hz (by simpa using hu')
          · rename_i hin
            rw [if_neg hin] at hu'
            exact k3 i z u hz (by simpa using hu')
    · cases hv
  · cases hv

/-- A call of a function of the program. -/
def CallOk (P : Program) (G : Gh) (w : World) (o : Oper) (ρ : Operand → Value) (f : FuncId) (args : List AV) : Prop :=
  ∃ us : Array Value, (execOp ρ o).run P w = (callFunc f us).run P w ∧ us.size = args.length ∧ ∀ (i : Nat) x u, args[i]? = some x → us[i]? = some u → VR G x u

theorem call_ok {f : Operand} {args : Array Operand} {ts : Array TypeId} {f' : AOpd} {args' : List AOpd} {g : FuncId} {as : List AV} (ho : o.op = .call { callee := .value f, args, argTypes := ts }) (hf : compOpd f = some f') (ha : compOpds args = some args') (h : OpdOk G a ρ) (hv : aop (.call f' args') a S = some (.call g as)) : CallOk P G w o ρ g as := by
  have h1 := h f f' hf
  simp only [aop] at hv
  split at hv
  · rename_i g' ps caps e
    simp only [Option.some.injEq, Res.call.injEq] at hv
    obtain ⟨rfl, rfl⟩ := hv
    rw [e] at h1
    obtain ⟨vs, us, hu, hp, hc⟩ := h1.inv_fn
    have hall := (hp.append (VL.opds ha h)).append hc
    exact ⟨vs ++ args.map ρ ++ us, by simp [execOp, ho, resolve, hu, Deferred.ofValue, invoke], hall.1, hall.2⟩
  · cases hv
end ops
end Go.Proofs.Ytncaneioenanjaa
