/- The engine, part 17: functions that call each other, reckoned. Own work; imports no translation. -/
import Derived.Test.YtncaneioenanjaaEp
namespace Go.Proofs.Ytncaneioenanjaa
open Go.RowKit
set_option linter.unusedVariables false
set_option linter.unusedSimpArgs false

/-- It names a box: what it returns is told. -/
def AV.names : AV → Bool
  | .ptr _ _ | .ms _ _ _ => true
  | .tup vs => vs.any fun v => match v with | .ptr _ _ | .ms _ _ _ => true | _ => false
  | _ => false

noncomputable def evFn (X : Clr) (n : Nat) (F : AFn) (as : List AV) (cells : List (List AV)) : Option (AV × List (List AV)) :=
  match evCode X n F.code (start F as) ⟨cells, []⟩ with
  | some (.ex _, _, _) => none
  | some (_, a', S') => match evRes a' S' F.res with
    | some v => let cs := if v.names then S'.bx else S'.bx.take cells.length
      if cells.length ≤ cs.length then some (v, cs) else none
    | none => none
  | none => none

/-- A call reckoned in its caller's own state. -/
noncomputable def evIn (X : Clr) (n : Nat) (F : AFn) (as : List AV) (S : St) : Option (AV × St) :=
  match evCode X n F.code (start F as) S with
  | some (.ex _, _, _) => none
  | some (_, a', S') => match evRes a' S' F.res with
    | some v => some (v, S')
    | none => none
  | none => none

theorem compFn_get {P : Program} {f : FuncId} {F : AFn} (hF : compFn P f = some F) : ∃ fn c ac, P.funcs[f]? = some fn ∧ fn.body = some c ∧ compCode P c = some ac ∧ F.code = ac := by
  unfold compFn at hF
  split at hF
  · rename_i fn hf
    split at hF
    · rename_i c rs hb hrs
      split at hF
      · rename_i ac hac
        split at hF
        · cases hF
        · cases hF
          exact ⟨fn, c, ac, hf, hb, hac, rfl⟩
      · cases hF
    · cases hF
  · cases hF

theorem evFn_ok {P : Program} {X : Clr} (ho : ClrOk P X) {n : Nat} {f : FuncId} {F : AFn} (hF : compFn P f = some F) {as : List AV} {cells cells' : List (List AV)} {v : AV} (he : evFn X n F as cells = some (v, cells')) : Contract P f as cells v cells' := by
  obtain ⟨fn, c, ac, hf, hb, hac, hcode⟩ := compFn_get hF
  unfold evFn at he
  rw [hcode] at he
  split at he
  · cases he
  · rename_i x a' S' hne hev
    split at he
    · rename_i v' hres
      simp only [] at he
      generalize hcs : (if v'.names then S'.bx else S'.bx.take cells.length) = cs at he
      split at he
      · rename_i hle
        cases he
        have hr := (evCode_run (md := .plain) ho n c ac _ _ _ _ _ hac hev).1
        refine contract_of hf hb hF hr ?_ hres hle ?_
        · cases x with
          | norm => exact .inl rfl
          | ret => exact .inr rfl
          | ex i => exact absurd rfl (hne i)
        · rw [← hcs]
          split
          · exact ⟨[], by simp⟩
          · exact ⟨S'.bx.drop cells.length, by simp⟩
      · cases he
    · cases he
  · cases he

theorem evIn_ok {P : Program} {X : Clr} (ho : ClrOk P X) {n : Nat} {f : FuncId} {F : AFn} (hF : compFn P f = some F) {as : List AV} {S S' : St} {v : AV} (he : evIn X n F as S = some (v, S')) {G : Gh} {w : World} {us : Array Value} (hI : Inv G S w) (hv : VRs G as us) :
    (callFunc f us).run P w = .ok (.enter f us) w ∧ Calls P f us w fun e w' => ∃ u G', e = .returned u ∧ VR G' v u ∧ Inv G' S' w' ∧ Gro G S w G' S' w' ∧ Keep G S G' S' := by
  obtain ⟨fn, c, ac, hf, hb, hac, hcode⟩ := compFn_get hF
  unfold evIn at he
  rw [hcode] at he
  split at he
  · cases he
  · rename_i x a' T hne hev
    split at he
    · rename_i v' hres
      cases he
      have hr := (evCode_run (md := .plain) ho n c ac _ _ _ _ _ hac hev).1
      obtain ⟨h1, h2⟩ := calls_of hf hb hF hr (by
        cases x with
        | norm => exact .inl rfl
        | ret => exact .inr rfl
        | ex i => exact absurd rfl (hne i)) hres
      exact ⟨h1 us w, h2 G w us hI hv⟩
    · cases he
  · cases he

/-- Functions out of a table, those that inl names in their callers' states; what the table lacks, out of what is known. -/
noncomputable def clrN (tab : FuncId → Option AFn) (inl : FuncId → Bool) (base : Clr) (fuel : Nat) : Nat → Clr
  | 0 => base
  | n + 1 => fun f as S => match tab f with
    | some F => bif inl f then (evIn (clrN tab inl base fuel n) fuel F as S).map (fun p => (p.1, some p.2)) else clrOf (fun g as cells => bif Nat.beq g f then evFn (clrN tab inl base fuel n) fuel F as cells else none) f as S
    | none => base f as S

theorem clrN_ok {P : Program} {tab : FuncId → Option AFn} {inl : FuncId → Bool} {base : Clr} (hb : ClrOk P base) (ht : ∀ f F, tab f = some F → compFn P f = some F) (fuel : Nat) : ∀ n, ClrOk P (clrN tab inl base fuel n)
  | 0 => hb
  | n + 1 => ⟨by
    intro f as S v S' h G w us hI hv
    have ih := clrN_ok (inl := inl) hb ht fuel n
    cases hF : tab f with
    | none =>
      refine hb.ok f as S v S' ?_ G w us hI hv
      simp only [callS, clrN, hF] at h
      exact h
    | some F =>
      cases hi : inl f with
      | true =>
        have h' : evIn (clrN tab inl base fuel n) fuel F as S = some (v, S') := by
          simp only [callS, clrN, hF, hi, cond_true] at h
          cases he : evIn (clrN tab inl base fuel n) fuel F as S with
          | none => rw [he] at h; cases h
          | some p => rw [he] at h; obtain ⟨p1, p2⟩ := p; simpa using h
        exact evIn_ok ih (ht f F hF) h' hI hv
      | false =>
        have h : callS (clrOf fun g as cells => bif Nat.beq g f then evFn (clrN tab inl base fuel n) fuel F as cells else none) f as S = some (v, S') := by
          simpa only [callS, clrN, hF, hi, cond_false] using h
        refine (clr_ok (P := P) (orc := fun g as cells => bif Nat.beq g f then evFn (clrN tab inl base fuel n) fuel F as cells else none) ?_).ok f as S v S' h G w us hI hv
        intro g as cells v cells' hh
        simp only [] at hh
        cases hg : Nat.beq g f with
        | true =>
          rw [hg, cond_true] at hh
          rw [Nat.eq_of_beq_eq_true hg]
          exact evFn_ok ih (ht f F hF) hh
        | false => rw [hg, cond_false] at hh; cases hh⟩
def noClr : Clr := fun _ _ _ => none
theorem noClr_ok (P : Program) : ClrOk P noClr := ⟨fun _ _ _ _ _ h => by cases h⟩
end Go.Proofs.Ytncaneioenanjaa
