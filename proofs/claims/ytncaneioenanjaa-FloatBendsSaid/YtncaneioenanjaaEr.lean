/- The engine, part 18: what holds behind code, whatever the fuel; functions that are known by what holds of them. Own work; imports no translation. -/
import Derived.Test.YtncaneioenanjaaEq
namespace Go.Proofs.Ytncaneioenanjaa
open Go.RowKit
set_option linter.unusedVariables false
set_option linter.unusedSimpArgs false

theorem evCode_mono {orc : Clr} : ∀ (n : Nat) (c : ACode) (a : List AV) (S : St) (r : AEx × List AV × St), evCode orc n c a S = some r → ∀ m, n ≤ m → evCode orc m c a S = some r
  | 0, c, a, S, r, h, m, hm => by cases h
  | n + 1, c, a, S, r, h, m, hm => by
    obtain ⟨m, rfl⟩ : ∃ k, m = k + 1 := ⟨m - 1, by omega⟩
    have hm' : n ≤ m := by omega
    cases c with
    | skip => exact h
    | reg ops => exact h
    | dreg k ops => exact h
    | exit id => exact h
    | ret => exact h
    | seq c d =>
      simp only [evCode] at h ⊢
      cases hc : evCode orc n c a S with
      | none => rw [hc] at h; cases h
      | some q =>
        rw [hc] at h
        rw [evCode_mono n c a S q hc m hm']
        obtain ⟨x, a1, S1⟩ := q
        cases x with
        | norm => exact evCode_mono n d a1 S1 r h m hm'
        | ret => exact h
        | ex i => exact h
    | cond y c d =>
      simp only [evCode] at h ⊢
      split at h
      · exact evCode_mono n _ a S r h m hm'
      · cases h
    | block id c =>
      simp only [evCode] at h ⊢
      cases hc : evCode orc n c a S with
      | none => rw [hc] at h; cases h
      | some q => rw [hc] at h; rw [evCode_mono n c a S q hc m hm']; exact h
    | loop c =>
      simp only [evCode] at h ⊢
      cases hc : evCode orc n c a S with
      | none => rw [hc] at h; cases h
      | some q =>
        rw [hc] at h
        rw [evCode_mono n c a S q hc m hm']
        obtain ⟨x, a1, S1⟩ := q
        cases x with
        | norm => exact evCode_mono n (.loop c) a1 S1 r h m hm'
        | ret => exact h
        | ex i => exact h

/-- The code comes to an end, and there Q holds. -/
def Ev (orc : Clr) (c : ACode) (a : List AV) (S : St) (Q : AEx → List AV → St → Prop) : Prop := ∃ n x a' S', evCode orc n c a S = some (x, a', S') ∧ Q x a' S'
/-- Likewise for operations. -/
def EvO (orc : Clr) (ops : List AOper) (a : List AV) (S : St) (Q : List AV → St → Prop) : Prop := ∃ a' S', evOps orc ops a S = some (a', S') ∧ Q a' S'

section rules
variable {orc : Clr} {a : List AV} {S : St} {Q : AEx → List AV → St → Prop}

theorem Ev.mono {c : ACode} {Q' : AEx → List AV → St → Prop} (h : Ev orc c a S Q) (k : ∀ x a' S', Q x a' S' → Q' x a' S') : Ev orc c a S Q' := by
  obtain ⟨n, x, a', S', h1, h2⟩ := h
  exact ⟨n, x, a', S', h1, k _ _ _ h2⟩
theorem Ev.skip (h : Q .norm a S) : Ev orc .skip a S Q := ⟨1, .norm, a, S, rfl, h⟩
theorem Ev.ret (h : Q .ret a S) : Ev orc .ret a S Q := ⟨1, .ret, a, S, rfl, h⟩
theorem Ev.exit {id : Nat} (h : Q (.ex id) a S) : Ev orc (.exit id) a S Q := ⟨1, .ex id, a, S, rfl, h⟩
theorem Ev.reg {ops : List AOper} (h : EvO orc ops a S (Q .norm)) : Ev orc (.reg ops) a S Q := by
  obtain ⟨a', S', h1, h2⟩ := h
  exact ⟨1, .norm, a', S', by simp only [evCode, h1], h2⟩
theorem Ev.dreg {m : Nat} {ops : List AOper} {a' : List AV} {S' : St} (h : evDraw orc m ops a S = some (a', S')) (hq : Q .norm a' S') : Ev orc (.dreg m ops) a S Q :=
  ⟨1, .norm, a', S', by simp only [evCode, h], hq⟩
theorem Ev.seq {c d : ACode} (h : Ev orc c a S fun x a' S' => match x with | .norm => Ev orc d a' S' Q | x => Q x a' S') : Ev orc (.seq c d) a S Q := by
  obtain ⟨n, x, a', S', h1, h2⟩ := h
  cases x with
  | norm =>
    obtain ⟨m, y, b, T, h3, h4⟩ := h2
    refine ⟨max n m + 1, y, b, T, ?_, h4⟩
    simp only [evCode, evCode_mono _ _ _ _ _ h1 (max n m) (by omega)]
    exact evCode_mono _ _ _ _ _ h3 _ (by omega)
  | ret => exact ⟨n + 1, .ret, a', S', by simp only [evCode, h1], h2⟩
  | ex i => exact ⟨n + 1, .ex i, a', S', by simp only [evCode, h1], h2⟩
theorem Ev.cond {y : AOpd} {c d : ACode} {b : Bool} (hb : evd a y = .bool b) (h : Ev orc (if b then c else d) a S Q) : Ev orc (.cond y c d) a S Q := by
  obtain ⟨n, x, a', S', h1, h2⟩ := h
  exact ⟨n + 1, x, a', S', by simp only [evCode, hb, h1], h2⟩
theorem Ev.block {id : Nat} {c : ACode} (h : Ev orc c a S fun x a' S' => Q (if x = .ex id then .norm else x) a' S') : Ev orc (.block id c) a S Q := by
  obtain ⟨n, x, a', S', h1, h2⟩ := h
  exact ⟨n + 1, _, a', S', by simp only [evCode, h1], h2⟩
/-- A loop: what holds before each round, and a number that each round makes less. -/
theorem Ev.loop {c : ACode} (I : Nat → List AV → St → Prop) : ∀ (k : Nat) {a : List AV} {S : St}, I k a S →
    (∀ k a S, I k a S → Ev orc c a S fun x a' S' => match x with | .norm => ∃ j, j < k ∧ I j a' S' | x => Q x a' S') → Ev orc (.loop c) a S Q := by
  intro k
  induction k using Nat.strongRecOn with
  | ind k ih =>
    intro a S h round
    obtain ⟨n, x, a', S', h1, h2⟩ := round k a S h
    cases x with
    | norm =>
      obtain ⟨j, hj, h3⟩ := h2
      obtain ⟨m, y, b, T, h4, h5⟩ := ih j hj h3 round
      refine ⟨max n m + 1, y, b, T, ?_, h5⟩
      simp only [evCode, evCode_mono _ _ _ _ _ h1 (max n m) (by omega)]
      exact evCode_mono _ _ _ _ _ h4 _ (by omega)
    | ret => exact ⟨n + 1, .ret, a', S', by simp only [evCode, h1], h2⟩
    | ex i => exact ⟨n + 1, .ex i, a', S', by simp only [evCode, h1], h2⟩

variable {R : List AV → St → Prop}
theorem EvO.nil (h : R a S) : EvO orc [] a S R := ⟨a, S, rfl, h⟩
theorem EvO.eval {ops : List AOper} {a' : List AV} {S' : St} (h : evOps orc ops a S = some (a', S')) (hr : R a' S') : EvO orc ops a S R := ⟨a', S', h, hr⟩
theorem EvO.skip {x : AOper} {l : List AOper} (hw : wantedA x.guard a = some false) (h : EvO orc l (putA a x.dst (.tup [])) S R) : EvO orc (x :: l) a S R := by
  obtain ⟨a', S', h1, h2⟩ := h
  exact ⟨a', S', by simp only [evOps, hw, h1], h2⟩
theorem EvO.op {x : AOper} {l : List AOper} {v : AV} {S1 : St} (hw : wantedA x.guard a = some true) (hv : evOp orc x.op a S = some (v, S1)) (h : EvO orc l (putA a x.dst v) S1 R) : EvO orc (x :: l) a S R := by
  obtain ⟨a', S', h1, h2⟩ := h
  exact ⟨a', S', by simp only [evOps, hw, hv, sp_eq, putK_eq, h1], h2⟩
end rules

/-! ### Functions that are known by what holds of them -/
/-- A call returns, and Q holds of what it returns. -/
def Meets (P : Program) (f : FuncId) (as : List AV) (cells : List (List AV)) (Q : AV → List (List AV) → Prop) : Prop := ∃ v c', Contract P f as cells v c' ∧ Q v c'

abbrev FnPost := FuncId → List AV → List (List AV) → AV → List (List AV) → Prop
open Classical in
noncomputable def orcOf (P : Program) (R : FnPost) : Orc := fun f as cells =>
  if h : ∃ p : AV × List (List AV), Contract P f as cells p.1 p.2 ∧ R f as cells p.1 p.2 then some h.choose else none
theorem orcOf_ok (P : Program) (R : FnPost) : OrcOk P (orcOf P R) := by
  intro f as cells v c' h
  unfold orcOf at h
  split at h
  · rename_i hp
    simp only [Option.some.injEq] at h
    have := hp.choose_spec.1
    rw [h] at this
    exact this
  · cases h
theorem orcOf_meets {P : Program} {R : FnPost} {f : FuncId} {as : List AV} {cells : List (List AV)} (h : Meets P f as cells (R f as cells)) : ∃ v c', orcOf P R f as cells = some (v, c') ∧ R f as cells v c' := by
  obtain ⟨v, c', h1, h2⟩ := h
  have hp : ∃ p : AV × List (List AV), Contract P f as cells p.1 p.2 ∧ R f as cells p.1 p.2 := ⟨(v, c'), h1, h2⟩
  refine ⟨hp.choose.1, hp.choose.2, ?_, hp.choose_spec.2⟩
  unfold orcOf
  rw [dif_pos hp]

theorem Meets.of {P : Program} {orc : Clr} (ho : ClrOk P orc) {f : FuncId} {F : AFn} (hF : compFn P f = some F) {as : List AV} {cells : List (List AV)} {Q : AV → List (List AV) → Prop}
    (h : Ev orc F.code (start F as) ⟨cells, []⟩ fun x a' S' => (x = .norm ∨ x = .ret) ∧ ∃ v, evRes a' S' F.res = some v ∧ cells.length ≤ (if v.names then S'.bx else S'.bx.take cells.length).length ∧ Q v (if v.names then S'.bx else S'.bx.take cells.length)) : Meets P f as cells Q := by
  obtain ⟨n, x, a', S', h1, hx, v, h2, h3, h4⟩ := h
  refine ⟨v, _, evFn_ok ho (n := n) hF ?_, h4⟩
  unfold evFn
  rw [h1]
  rcases hx with rfl | rfl
  · simp only [h2]; rw [if_pos h3]
  · simp only [h2]; rw [if_pos h3]
theorem Meets.mono {P : Program} {f : FuncId} {as : List AV} {cells : List (List AV)} {Q Q' : AV → List (List AV) → Prop} (h : Meets P f as cells Q) (k : ∀ v c', Q v c' → Q' v c') : Meets P f as cells Q' := by
  obtain ⟨v, c', h1, h2⟩ := h
  exact ⟨v, c', h1, k _ _ h2⟩

attribute [irreducible] Ev EvO

/-- A function of the program without types, with the proof that it is one. -/
structure Entry (P : Program) where
  f : FuncId
  F : AFn
  h : compFn P f = some F
def tabOf {P : Program} : List (Entry P) → FuncId → Option AFn
  | [], _ => none
  | e :: l, f => bif Nat.beq e.f f then some e.F else tabOf l f
theorem tabOf_ok {P : Program} : ∀ (l : List (Entry P)) (f : FuncId) (F : AFn), tabOf l f = some F → compFn P f = some F
  | [], f, F, h => by cases h
  | e :: l, f, F, h => by
    simp only [tabOf] at h
    cases he : Nat.beq e.f f with
    | true =>
      rw [he] at h
      simp only [cond_true, Option.some.injEq] at h
      have := Nat.eq_of_beq_eq_true he
      rw [← this, ← h]
      exact e.h
    | false =>
      rw [he] at h
      exact tabOf_ok l f F h

theorem AV.beq_self : ∀ (x : AV), x.beq x = true := by
  have key : ∀ n (x : AV), SizeOf.sizeOf x < n → x.beq x = true := by
    intro n
    induction n with
    | zero => intro x h; omega
    | succ n ih =>
      have hl : ∀ (l : List AV), SizeOf.sizeOf l < n + 1 → beqL l l = true := by
        intro l
        induction l with
        | nil => intro _; rfl
        | cons y l ihl =>
          intro h
          simp only [List.cons.sizeOf_spec] at h
          simp only [beqL, Bool.and_eq_true]
          exact ⟨ih y (by omega), ihl (by omega)⟩
      intro x h
      cases x <;> simp only [AV.beq, AV.agg.sizeOf_spec, AV.tup.sizeOf_spec, AV.rop.sizeOf_spec, AV.sl.sizeOf_spec, AV.fn.sizeOf_spec] at h ⊢ <;> first
        | rfl
        | (simp; done)
        | exact hl _ (by omega)
        | (simp only [Bool.and_eq_true]; exact ⟨hl _ (by omega), by simp⟩)
        | (simp only [Bool.and_eq_true]; exact ⟨by simp, hl _ (by omega), hl _ (by omega)⟩)
  exact fun x => key _ x (Nat.lt_succ_self _)
theorem beqL_self (l : List AV) : beqL l l = true := by
  have := AV.beq_self (.agg l)
  simpa [AV.beq] using this
theorem lvBeq_self : ∀ (l : List (Nat × Nat)), lvBeq l l = true
  | [] => rfl
  | (a, b) :: l => by simp only [lvBeq, Nat.beq_refl, lvBeq_self l, Bool.and_self]
theorem same_self (s : St) : same s s = true := by simp only [same, lvBeq_self, bxBeq_self _ beqL_self, Bool.and_self]
end Go.Proofs.Ytncaneioenanjaa
