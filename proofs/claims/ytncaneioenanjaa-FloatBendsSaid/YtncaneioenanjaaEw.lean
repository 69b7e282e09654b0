/- The engine, part 23: a drawn region, step by step. Own work; imports no translation. -/
import Derived.Test.YtncaneioenanjaaEv
namespace Go.Proofs.Ytncaneioenanjaa
open Go.RowKit
set_option linter.unusedVariables false
set_option linter.unusedSimpArgs false

theorem ExO.stWI {n0 : Nat} {P : Program} {a : List AV} {S : St} {R : List AV → St → Prop} {x : AOper} {l : List AOper} (k : IntKind) (n : Int) (S1 : St) (hk : opK ⟨x.dst, x.op, none⟩ = 1) (hw : wantedA x.guard a = some true) (hv : evOp noClr x.op a S = some (.int k n, S1)) (h : ∀ m, m = n → ExO n0 P l (putA a x.dst (.int k m)) S1 R) : ExO n0 P (x :: l) a S R := ExO.op (noClr_ok P) hw hv (h n rfl)
def dstOk (x : AOper) (n : Nat) : Bool := match x.dst with
  | some d => decide (d < n)
  | none => true
/-- The main part of a drawn region, where it passes through these states: what each operation comes to in all of them, or turns one into the next; ts: the tokens of rows that were laid ahead. -/
inductive DrO (X : Clr) (b0 k0 : Nat) (sts : List St) : List AOper → List AV → Nat → List Nat → List Nat → List AV → Prop
  | nil {a : List AV} {lv : Nat} {bs ts : List Nat} (h : lv + 1 = sts.length) : DrO X b0 k0 sts [] a lv bs ts a
  | pure {x : AOper} {l : List AOper} {a : List AV} {lv : Nat} {bs ts : List Nat} {a1 : List AV} (v : AV) (hw : wantedA x.guard a = some true) (hd : dstOk x a.length = true) (hv : ∀ st ∈ sts, aop x.op (evd a) st = some (.val v)) (h : DrO X b0 k0 sts l (putA a x.dst v) lv bs ts a1) : DrO X b0 k0 sts (x :: l) a lv bs ts a1
  | call {x : AOper} {l : List AOper} {a : List AV} {lv : Nat} {bs ts : List Nat} {a1 : List AV} (f : FuncId) (ys : List AV) (v : AV) (hw : wantedA x.guard a = some true) (hd : dstOk x a.length = true) (hv : ∀ st ∈ sts, aop x.op (evd a) st = some (.call f ys)) (hc : ∀ st ∈ sts, callS X f ys st = some (v, st)) (h : DrO X b0 k0 sts l (putA a x.dst v) lv bs ts a1) : DrO X b0 k0 sts (x :: l) a lv bs ts a1
  | row {x : AOper} {l : List AOper} {a : List AV} {lv : Nat} {bs ts : List Nat} {a1 : List AV} (t s : Nat) (els : List AV) (hw : wantedA x.guard a = some true) (hd : dstOk x a.length = true) (hv : ∀ st ∈ sts, aop x.op (evd a) st = some (.lit s els)) (hr : ∀ st ∈ sts, st.lv[t]? = some (els.length, s)) (ht : k0 ≤ t) (hn : t ∉ ts) (h : DrO X b0 k0 sts l (putA a x.dst (.sl els (some t))) lv bs (t :: ts) a1) : DrO X b0 k0 sts (x :: l) a lv bs ts a1
  | box {x : AOper} {l : List AOper} {a : List AV} {lv : Nat} {bs ts : List Nat} {a1 : List AV} (id : Nat) (cs : List AV) (hw : wantedA x.guard a = some true) (hd : dstOk x a.length = true) (hv : ∀ st ∈ sts, aop x.op (evd a) st = some (.box cs)) (hr : ∀ st ∈ sts, st.bx[id]? = some cs) (ht : b0 ≤ id) (hn : id ∉ bs) (h : DrO X b0 k0 sts l (putA a x.dst (.ptr id 0)) lv (id :: bs) ts a1) : DrO X b0 k0 sts (x :: l) a lv bs ts a1
  | eff {x : AOper} {l : List AOper} {a : List AV} {lv : Nat} {bs ts : List Nat} {a1 : List AV} (v : AV) (st st' : St) (hw : wantedA x.guard a = some true) (hd : dstOk x a.length = true) (hl : loudA x.op = true) (hs : sts[lv]? = some st) (hs' : sts[lv + 1]? = some st') (hv : evOp X x.op a st = some (v, st')) (h : DrO X b0 k0 sts l (putA a x.dst v) (lv + 1) bs ts a1) : DrO X b0 k0 sts (x :: l) a lv bs ts a1

/-- What an operation of such a region is. -/
def DrFact (X : Clr) (sts : List St) (a : List AV) (x : AOper) (lv : Nat) (v : AV) (eff : Bool) (bid tid : Option Nat) : Prop :=
  wantedA x.guard a = some true ∧ dstOk x a.length = true ∧
    ((eff = false ∧ bid = none ∧ tid = none ∧ ∀ st ∈ sts, aop x.op (evd a) st = some (.val v) ∨ ∃ f ys, aop x.op (evd a) st = some (.call f ys) ∧ callS X f ys st = some (v, st)) ∨
     (eff = false ∧ bid = none ∧ ∃ s els id, tid = some id ∧ v = .sl els (some id) ∧ ∀ st ∈ sts, aop x.op (evd a) st = some (.lit s els) ∧ st.lv[id]? = some (els.length, s)) ∨
     (eff = false ∧ tid = none ∧ ∃ cs id, bid = some id ∧ v = .ptr id 0 ∧ ∀ st ∈ sts, aop x.op (evd a) st = some (.box cs) ∧ st.bx[id]? = some cs) ∨
     (eff = true ∧ bid = none ∧ tid = none ∧ loudA x.op = true ∧ ∃ st st', sts[lv]? = some st ∧ sts[lv + 1]? = some st' ∧ evOp X x.op a st = some (v, st')))

theorem lvl_cons (f : Bool) (e : Nat → Bool) (i : Nat) : lvl (fun j => match j with | 0 => f | j + 1 => e j) (i + 1) = (if f then 1 else 0) + lvl e i := by
  unfold lvl
  rw [List.range_succ_eq_map, List.filter_cons]
  have e1 : ((List.range i).map Nat.succ).filter (fun j => match j with | 0 => f | j + 1 => e j) = ((List.range i).filter e).map Nat.succ := by
    rw [List.filter_map]
    congr 1
  rw [e1]
  cases f <;> simp; omega

theorem DrO.spec {X : Clr} {b0 k0 : Nat} {sts : List St} {l : List AOper} {a : List AV} {lv : Nat} {bs ts : List Nat} {a1 : List AV} (h : DrO X b0 k0 sts l a lv bs ts a1) :
    ∃ (am : Nat → List AV) (v : Nat → AV) (eff : Nat → Bool) (bid tid : Nat → Option Nat), am 0 = a ∧ am l.length = a1 ∧ lv + lvl eff l.length + 1 = sts.length ∧
      (∀ i x, l[i]? = some x → am (i + 1) = putA (am i) x.dst (v i) ∧ DrFact X sts (am i) x (lv + lvl eff i) (v i) (eff i) (bid i) (tid i)) ∧
      ((∀ i t, i < l.length → bid i = some t → b0 ≤ t ∧ t ∉ bs) ∧ (∀ i j t, i < l.length → j < l.length → bid i = some t → bid j = some t → i = j)) ∧
      ((∀ i t, i < l.length → tid i = some t → k0 ≤ t ∧ t ∉ ts) ∧ (∀ i j t, i < l.length → j < l.length → tid i = some t → tid j = some t → i = j)) := by
  induction h with
  | @nil a lv bs ts h =>
    exact ⟨fun _ => a, fun _ => .junk, fun _ => false, fun _ => none, fun _ => none, rfl, rfl, by simp [lvl]; omega, fun i x h => by simp at h, ⟨fun i t h => by simp at h, fun i j t h => by simp at h⟩, ⟨fun i t h => by simp at h, fun i j t h => by simp at h⟩⟩
  | @pure x l a lv bs ts a1 v hw hd hv h ih =>
    obtain ⟨am, vs, eff, bid, tid, i1, i2, i3, i4, i5, i6⟩ := ih
    refine ⟨fun i => match i with | 0 => a | i + 1 => am i, fun i => match i with | 0 => v | i + 1 => vs i, fun i => match i with | 0 => false | i + 1 => eff i, fun i => match i with | 0 => none | i + 1 => bid i, fun i => match i with | 0 => none | i + 1 => tid i, rfl, i2, ?_, ?_, ⟨fun i t hi ht => by
      cases i with
      | zero => cases ht
      | succ i => exact i5.1 i t (by simpa using hi) ht, fun i j t hi hj h1 h2 => by
      cases i with
      | zero => cases h1
      | succ i => cases j with
        | zero => cases h2
        | succ j => rw [i5.2 i j t (by simpa using hi) (by simpa using hj) h1 h2]⟩, ⟨fun i t hi ht => by
      cases i with
      | zero => cases ht
      | succ i => exact i6.1 i t (by simpa using hi) ht, fun i j t hi hj h1 h2 => by
      cases i with
      | zero => cases h1
      | succ i => cases j with
        | zero => cases h2
        | succ j => rw [i6.2 i j t (by simpa using hi) (by simpa using hj) h1 h2]⟩⟩
    · rw [List.length_cons, lvl_cons]; simpa using i3
    · intro i y hy
      cases i with
      | zero =>
        simp only [List.getElem?_cons_zero, Option.some.injEq] at hy
        subst hy
        exact ⟨i1, hw, hd, .inl ⟨rfl, rfl, rfl, fun st hs => .inl (hv st hs)⟩⟩
      | succ i =>
        rw [lvl_cons]
        simpa using i4 i y (by simpa using hy)
  | @call x l a lv bs ts a1 f ys v hw hd hv hc h ih =>
    obtain ⟨am, vs, eff, bid, tid, i1, i2, i3, i4, i5, i6⟩ := ih
    refine ⟨fun i => match i with | 0 => a | i + 1 => am i, fun i => match i with | 0 => v | i + 1 => vs i, fun i => match i with | 0 => false | i + 1 => eff i, fun i => match i with | 0 => none | i + 1 => bid i, fun i => match i with | 0 => none | i + 1 => tid i, rfl, i2, ?_, ?_, ⟨fun i t hi ht => by
      cases i with
      | zero => cases ht
      | succ i => exact i5.1 i t (by simpa using hi) ht, fun i j t hi hj h1 h2 => by
      cases i with
      | zero => cases h1
      | succ i => cases j with
        | zero => cases h2
        | succ j => rw [i5.2 i j t (by simpa using hi) (by simpa using hj) h1 h2]⟩, ⟨fun i t hi ht => by
      cases i with
      | zero => cases ht
      | succ i => exact i6.1 i t (by simpa using hi) ht, fun i j t hi hj h1 h2 => by
      cases i with
      | zero => cases h1
      | succ i => cases j with
        | zero => cases h2
        | succ j => rw [i6.2 i j t (by simpa using hi) (by simpa using hj) h1 h2]⟩⟩
    · rw [List.length_cons, lvl_cons]; simpa using i3
    · intro i y hy
      cases i with
      | zero =>
        simp only [List.getElem?_cons_zero, Option.some.injEq] at hy
        subst hy
        exact ⟨i1, hw, hd, .inl ⟨rfl, rfl, rfl, fun st hs => .inr ⟨f, ys, hv st hs, hc st hs⟩⟩⟩
      | succ i =>
        rw [lvl_cons]
        simpa using i4 i y (by simpa using hy)
  | @row x l a lv bs ts a1 id s els hw hd hv hr ht hn h ih =>
    obtain ⟨am, vs, eff, bid, tid, i1, i2, i3, i4, i5, i6⟩ := ih
    refine ⟨fun i => match i with | 0 => a | i + 1 => am i, fun i => match i with | 0 => .sl els (some id) | i + 1 => vs i, fun i => match i with | 0 => false | i + 1 => eff i, fun i => match i with | 0 => none | i + 1 => bid i, fun i => match i with | 0 => some id | i + 1 => tid i, rfl, i2, ?_, ?_, ⟨fun i t hi ht => by
      cases i with
      | zero => cases ht
      | succ i => exact i5.1 i t (by simpa using hi) ht, fun i j t hi hj h1 h2 => by
      cases i with
      | zero => cases h1
      | succ i => cases j with
        | zero => cases h2
        | succ j => rw [i5.2 i j t (by simpa using hi) (by simpa using hj) h1 h2]⟩, ⟨fun i t hi ht' => by
      cases i with
      | zero => cases ht'; exact ⟨ht, hn⟩
      | succ i =>
        obtain ⟨h1, h2⟩ := i6.1 i t (by simpa using hi) ht'
        exact ⟨h1, fun h => h2 (List.mem_cons_of_mem _ h)⟩, fun i j t hi hj h1 h2 => by
      cases i with
      | zero => cases j with
        | zero => rfl
        | succ j =>
          cases h1
          exact absurd (List.mem_cons_self ..) (i6.1 j id (by simpa using hj) h2).2
      | succ i => cases j with
        | zero =>
          cases h2
          exact absurd (List.mem_cons_self ..) (i6.1 i id (by simpa using hi) h1).2
        | succ j => rw [i6.2 i j t (by simpa using hi) (by simpa using hj) h1 h2]⟩⟩
    · rw [List.length_cons, lvl_cons]; simpa using i3
    · intro i y hy
      cases i with
      | zero =>
        simp only [List.getElem?_cons_zero, Option.some.injEq] at hy
        subst hy
        exact ⟨i1, hw, hd, .inr (.inl ⟨rfl, rfl, s, els, id, rfl, rfl, fun st hs => ⟨hv st hs, hr st hs⟩⟩)⟩
      | succ i =>
        rw [lvl_cons]
        simpa using i4 i y (by simpa using hy)
  | @box x l a lv bs ts a1 id cs hw hd hv hr ht hn h ih =>
    obtain ⟨am, vs, eff, bid, tid, i1, i2, i3, i4, i5, i6⟩ := ih
    refine ⟨fun i => match i with | 0 => a | i + 1 => am i, fun i => match i with | 0 => .ptr id 0 | i + 1 => vs i, fun i => match i with | 0 => false | i + 1 => eff i, fun i => match i with | 0 => some id | i + 1 => bid i, fun i => match i with | 0 => none | i + 1 => tid i, rfl, i2, ?_, ?_, ⟨fun i t hi ht' => by
      cases i with
      | zero => cases ht'; exact ⟨ht, hn⟩
      | succ i =>
        obtain ⟨h1, h2⟩ := i5.1 i t (by simpa using hi) ht'
        exact ⟨h1, fun h => h2 (List.mem_cons_of_mem _ h)⟩, fun i j t hi hj h1 h2 => by
      cases i with
      | zero => cases j with
        | zero => rfl
        | succ j =>
          cases h1
          exact absurd (List.mem_cons_self ..) (i5.1 j id (by simpa using hj) h2).2
      | succ i => cases j with
        | zero =>
          cases h2
          exact absurd (List.mem_cons_self ..) (i5.1 i id (by simpa using hi) h1).2
        | succ j => rw [i5.2 i j t (by simpa using hi) (by simpa using hj) h1 h2]⟩, ⟨fun i t hi ht => by
      cases i with
      | zero => cases ht
      | succ i => exact i6.1 i t (by simpa using hi) ht, fun i j t hi hj h1 h2 => by
      cases i with
      | zero => cases h1
      | succ i => cases j with
        | zero => cases h2
        | succ j => rw [i6.2 i j t (by simpa using hi) (by simpa using hj) h1 h2]⟩⟩
    · rw [List.length_cons, lvl_cons]; simpa using i3
    · intro i y hy
      cases i with
      | zero =>
        simp only [List.getElem?_cons_zero, Option.some.injEq] at hy
        subst hy
        exact ⟨i1, hw, hd, .inr (.inr (.inl ⟨rfl, rfl, cs, id, rfl, rfl, fun st hs => ⟨hv st hs, hr st hs⟩⟩))⟩
      | succ i =>
        rw [lvl_cons]
        simpa using i4 i y (by simpa using hy)
  | @eff x l a lv bs ts a1 v st st' hw hd hl hs hs' hv h ih =>
    obtain ⟨am, vs, eff, bid, tid, i1, i2, i3, i4, i5, i6⟩ := ih
    refine ⟨fun i => match i with | 0 => a | i + 1 => am i, fun i => match i with | 0 => v | i + 1 => vs i, fun i => match i with | 0 => true | i + 1 => eff i, fun i => match i with | 0 => none | i + 1 => bid i, fun i => match i with | 0 => none | i + 1 => tid i, rfl, i2, ?_, ?_, ⟨fun i t hi ht => by
      cases i with
      | zero => cases ht
      | succ i => exact i5.1 i t (by simpa using hi) ht, fun i j t hi hj h1 h2 => by
      cases i with
      | zero => cases h1
      | succ i => cases j with
        | zero => cases h2
        | succ j => rw [i5.2 i j t (by simpa using hi) (by simpa using hj) h1 h2]⟩, ⟨fun i t hi ht => by
      cases i with
      | zero => cases ht
      | succ i => exact i6.1 i t (by simpa using hi) ht, fun i j t hi hj h1 h2 => by
      cases i with
      | zero => cases h1
      | succ i => cases j with
        | zero => cases h2
        | succ j => rw [i6.2 i j t (by simpa using hi) (by simpa using hj) h1 h2]⟩⟩
    · rw [List.length_cons, lvl_cons]
      simp only [if_true]
      omega
    · intro i y hy
      cases i with
      | zero =>
        simp only [List.getElem?_cons_zero, Option.some.injEq] at hy
        subst hy
        exact ⟨i1, hw, hd, .inr (.inr (.inr ⟨rfl, rfl, rfl, hl, st, st', by simpa [lvl] using hs, by simpa [lvl] using hs', hv⟩))⟩
      | succ i =>
        rw [lvl_cons]
        simp only [if_true]
        have := i4 i y (by simpa using hy)
        rw [show lv + (1 + lvl eff i) = lv + 1 + lvl eff i by omega]
        exact this

theorem compCode_dreg {P : Program} {code : Code} {m : Nat} {xs : List AOper} (h : compCode P code = some (.dreg m xs)) : ∃ id ops, code = .region id ops true ∧ P.follows .mixedOrders = true ∧ okD ops xs m = true ∧ ops.toList.mapM (compOper P ops) = some xs := by
  cases code <;> simp only [compCode, reduceCtorEq] at h
  case region id ops draw =>
    split at h
    · rename_i hd
      subst hd
      split at h
      · rename_i ys hys
        split at h
        · rename_i k hk
          split at h
          · rename_i hmix
            simp only [Option.some.injEq, ACode.dreg.injEq] at h
            obtain ⟨rfl, rfl⟩ := h
            exact ⟨id, ops, rfl, hmix, List.find?_some hk, hys⟩
          · cases h
        · cases h
      · cases h
    · split at h
      · cases h
      · simp at h
  case seq => split at h <;> simp at h
  case cond => split at h <;> simp at h
  all_goals simp at h

theorem Ex.drawE {n0 : Nat} {md : Md} {P : Program} {X : Clr} (hX : ClrOk P X) {m : Nat} {xs : List AOper} {a a1 : List AV} {S : St} {Q : AEx → List AV → St → Prop} (lb : List (List AV)) (lt : List (Nat × Nat)) (ss : List St)
    (hD : DrO X S.bx.length S.lv.length (⟨S.bx ++ lb, S.lv ++ lt⟩ :: ss) (xs.take m) a 0 [] [] a1) (hT : ExO n0 P (xs.drop m) a1 (ss.getLastD ⟨S.bx ++ lb, S.lv ++ lt⟩) (Q .norm)) : Ex n0 md P (.dreg m xs) a S Q := by
  intro E hn code hco act w hA
  obtain ⟨id, ops, rfl, hmix, hok, hc⟩ := compCode_dreg hco
  obtain ⟨hnd, hmle, hxl, hsp⟩ := okD_spec hok
  have hml : (xs.take m).length = m := by simp; omega
  have htk : ∀ i, i < m → (xs.take m)[i]? = xs[i]? := fun i hi => List.getElem?_take_of_lt hi
  generalize hst0 : St.mk (S.bx ++ lb) (S.lv ++ lt) = st0 at hD hT
  obtain ⟨am, v, eff, bid, tid, ha0, ham1, hlv, hstep, ⟨hbn, hbd⟩, htn, htd⟩ := hD.spec
  rw [hml] at ham1 hlv htn htd hbn hbd
  simp only [Nat.zero_add, List.length_cons] at hlv hstep
  let st : Nat → St := fun k => (st0 :: ss).getD k default
  have hstm : ∀ k, k ≤ lvl eff m → st k ∈ st0 :: ss := by
    intro k hk
    have hk' : k < (st0 :: ss).length := by rw [List.length_cons]; omega
    show (st0 :: ss).getD k default ∈ _
    rw [List.getD, List.getElem?_eq_getElem hk']
    exact List.getElem_mem hk'
  have hst : ∀ i, i < m → ∃ o x, ops[i]? = some o ∧ xs[i]? = some x ∧ am (i + 1) = putA (am i) x.dst (v i) ∧ DrFact X (st0 :: ss) (am i) x (lvl eff i) (v i) (eff i) (bid i) (tid i) := by
    intro i hi
    obtain ⟨o, x, hoi, hx, _⟩ := hsp i (by omega)
    obtain ⟨h1, h2⟩ := hstep i x (by rw [htk i hi]; exact hx)
    exact ⟨o, x, hoi, hx, h1, h2⟩
  have hdx : ∀ i t, dO xs i = some t → ∃ x, xs[i]? = some x ∧ x.dst = some t := fun i t h => by
    simp only [dO, Option.bind_eq_some_iff] at h
    exact h
  have hslot : ∀ t i r, i + r ≤ m → (∀ k, i ≤ k → k < i + r → dO xs k ≠ some t) → (am (i + r)).getD t .junk = (am i).getD t .junk := by
    intro t i r
    induction r with
    | zero => intro _ _; rfl
    | succ r ih =>
      intro hr hno
      obtain ⟨_, x, _, hx, h2, _⟩ := hst (i + r) (by omega)
      rw [show i + (r + 1) = i + r + 1 by omega, h2, putA_getD_ne _ _ _ _ (by have := hno (i + r) (by omega) (by omega); simpa [dO, hx] using this)]
      exact ih (by omega) fun k h1 h2 => hno k h1 (by omega)
  have hlenA : ∀ i, i ≤ m → (am i).length = a.length := by
    intro i
    induction i with
    | zero => intro _; rw [ha0]
    | succ i ih =>
      intro hi
      obtain ⟨_, x, _, _, h2, _⟩ := hst i (by omega)
      rw [h2, putA_length, ih (by omega)]
  have hdl : ∀ i t, i < m → dO xs i = some t → t < a.length := by
    intro i t hi hd
    obtain ⟨_, x, _, hx, _, _, hdo, _⟩ := hst i hi
    have hxd : x.dst = some t := by simpa [dO, hx] using hd
    simp only [dstOk, hxd, decide_eq_true_eq] at hdo
    rw [← hlenA i (by omega)]; exact hdo
  have huniq : ∀ i k t, i < m → k < m → dO xs i = some t → dO xs k = some t → k = i := by
    intro i k t hi hk h1 h2
    obtain ⟨_, x, _, hx, _, hmain, _⟩ := hsp i (by omega)
    by_cases he : k = i
    · exact he
    · exact absurd h2 ((hmain hi).1 k hk he t (by simpa [dO, hx] using h1))
  have h1 : ∀ i, i < m → ∀ t, dO xs i = some t → t < a.length ∧ a1.getD t .junk = v i := by
    intro i hi t hd
    have hlt := hdl i t hi hd
    obtain ⟨_, x, _, hx, h2, _⟩ := hst i hi
    refine ⟨hlt, ?_⟩
    have e1 := hslot t (i + 1) (m - (i + 1)) (by omega) (fun k h1 h2 hk => by have := huniq i k t hi (by omega) hd hk; omega)
    rw [show i + 1 + (m - (i + 1)) = m by omega, ham1] at e1
    have hxd : x.dst = some t := by simpa [dO, hx] using hd
    rw [e1, h2, hxd, putA_getD_same _ _ _ (by rw [hlenA i (by omega)]; exact hlt)]
  have h0 : ∀ t, (∀ i, i < m → dO xs i ≠ some t) → a1.getD t .junk = a.getD t .junk := by
    intro t hno
    have e1 := hslot t 0 m (by omega) (fun k _ h2 => hno k (by omega))
    rw [Nat.zero_add, ham1, ha0] at e1
    exact e1
  have ham : ∀ i, i < m → ∀ t, ((∀ k, k < i → dO xs k ≠ some t) → (am i).getD t .junk = a.getD t .junk) ∧ ((∃ k, k < i ∧ dO xs k = some t) → (am i).getD t .junk = a1.getD t .junk) := by
    intro i hi t
    refine ⟨fun hno => ?_, fun ⟨k, hk, hd⟩ => ?_⟩
    · have e1 := hslot t 0 i (by omega) (fun k _ h2 => hno k (by omega))
      rw [Nat.zero_add, ha0] at e1
      exact e1
    · have e1 := hslot t i (m - i) (by omega) (fun k' h1 h2 hk' => by have := huniq k k' t (by omega) (by omega) hd hk'; omega)
      rw [show i + (m - i) = m by omega, ham1] at e1
      exact e1.symm
  have hguard : ∀ i x, i < m → xs[i]? = some x → wantedA x.guard a1 = wantedA x.guard (am i) := by
    intro i x hi hx
    obtain ⟨o, x', hoi, hx', hlt, hmain, _⟩ := hsp i (by omega)
    rw [hx] at hx'; cases hx'
    cases hg : x.guard with
    | none => rfl
    | some g =>
      obtain ⟨d, wnt⟩ := g
      simp only [wantedA]
      have : a1.getD d .junk = (am i).getD d .junk := by
        by_cases hex : ∃ k, k < m ∧ dO xs k = some d
        · obtain ⟨k, hk, hd⟩ := hex
          exact ((ham i hi d).2 ⟨k, hlt k ((hmain hi).2.1 d wnt hg k hk hd), hd⟩).symm
        · have hno : ∀ k, k < m → dO xs k ≠ some d := fun k hk h => hex ⟨k, hk, h⟩
          rw [h0 d hno, (ham i hi d).1 fun k hk => hno k (by omega)]
      rw [this]
  obtain ⟨G, hI, hR, hg0, hk0, hd0⟩ := hA
  have hahead := add_ahead hI.drew lb lt
  rw [hst0] at hahead
  obtain ⟨a1h, a2h, a3h, a4h⟩ := hahead
  refine cwp_region_draw hmix hnd (fun a w h => by
    obtain ⟨x, _, _, h, _⟩ := h
    cases x <;> cases h) ?_
  refine draw_any (a := a) (a1 := a1) (v := v) (st := st) (eff := eff) (bid := bid) (tid := tid) (G0 := G) (S0 := S) (w0 := w) (act0 := act) hX hok hc (by rw [← ham1, hlenA m (Nat.le_refl _)]) h1 h0 am ham ?_ ?_ hbd htd (fun i t hi h => (hbn i t hi h).1) (fun i t hi h => (htn i t hi h).1) ?_ ops.size (Array.replicate ops.size false) act w.drew ?_ (by simp) ?_ ?_ ?_
  · intro i hi x hx
    obtain ⟨_, x', _, hx', _, hw, _, hf⟩ := hst i hi
    rw [hx] at hx'; cases hx'
    refine .inr ⟨(hguard i x hi hx).trans hw, ?_⟩
    rcases hf with ⟨e1, e0, e2, e3⟩ | ⟨e1, e0, s, els, id, e2, e3, e4⟩ | ⟨e1, e0, cs, id, e2, e3, e4⟩ | ⟨e1, e0, e2, e3, s1, s2, e4, e5, e6⟩
    · exact .inl ⟨e1, e0, e2, fun k hk => e3 (st k) (hstm k hk)⟩
    · exact .inr (.inr (.inl ⟨e1, e0, s, els, id, e2, e3, fun k hk => e4 (st k) (hstm k hk)⟩))
    · exact .inr (.inl ⟨e1, e0, cs, id, e2, e3, fun k hk => e4 (st k) (hstm k hk)⟩)
    · have g1 : st (lvl eff i) = s1 := by show (st0 :: ss).getD _ default = _; rw [List.getD, e4]; rfl
      have g2 : st (lvl eff i + 1) = s2 := by show (st0 :: ss).getD _ default = _; rw [List.getD, e5]; rfl
      have g3 : lvl eff i + 1 ≤ lvl eff m := by
        have := (List.getElem?_eq_some_iff.1 e5).1
        rw [List.length_cons] at this
        omega
      exact .inr (.inr (.inr ⟨e1, e0, e2, g3, by rw [g1, g2]; exact e6⟩))
  · intro i hi he
    obtain ⟨_, x', hoi, hx', _, _, _, hf⟩ := hst i hi
    obtain ⟨o, x, hoi2, hx, _, hmain, _⟩ := hsp i (by omega)
    rw [hx'] at hx; cases hx
    have hla : loudA x'.op = true := by
      rcases hf with ⟨e1, _⟩ | ⟨e1, _⟩ | ⟨e1, _⟩ | ⟨_, _, _, e3, _⟩
      · rw [he] at e1; cases e1
      · rw [he] at e1; cases e1
      · rw [he] at e1; cases e1
      · exact e3
    simpa [isLoud, hoi2] using (hmain hi).2.2.2.2 hla
  · intro G' act' w' hI' hR' hg' hk' hd'
    have hlast : st (lvl eff m) = ss.getLastD st0 := by
      show (st0 :: ss).getD (lvl eff m) default = _
      rw [show lvl eff m = ss.length by omega]
      exact getD_last ss st0
    rw [hlast] at hI' hg' hk'
    have hl := wpOps_eq_wpList (P := P) (ops := ops) (Q := fun e act' w' => ∃ x a' S', e = x.out ∧ Q x a' S' ∧ At E a' S' act' w') (ops.toList.drop m) m (fun j => by simp)
    rw [show (ops.toList.drop m).length = ops.size - m by simp] at hl
    rw [hl]
    have hcd : (ops.toList.drop m).mapM (compOper P ops) = some (xs.drop m) := mapM_drop hc m
    exact hT E hn ops _ _ hcd (fun a' S' act' w' h1 h2 => ⟨.norm, a', S', rfl, h1, h2⟩) act' w' ⟨G', hI', hR', hg0.trans hg', hk0.trans hk', hd'.trans hd0⟩
  · unfold toCome
    have : (List.range ops.size).filter (fun i => !(Array.replicate ops.size false).getD i true) = List.range ops.size := by
      apply List.filter_eq_self.2
      intro i hi
      have := List.mem_range.1 hi
      simp [this]
    rw [this, List.length_range]
  · have hcnt : cnt eff m (Array.replicate ops.size false) = 0 := by
      unfold cnt
      rw [List.length_eq_zero_iff, List.filter_eq_nil_iff]
      intro i hi
      have := List.mem_range.1 hi
      have : i < ops.size := by omega
      simp [this]
    have hs0 : st 0 = st0 := rfl
    refine ⟨G, a, ⟨by rw [hcnt, hs0]; exact a1h, hR, rfl, fun i hi hl => ?_, fun _ _ => rfl, fun i hi _ idb hid => a3h idb (hbn i idb hi hid).1, fun i hi _ idb hid n => a4h idb n (htn i idb hi hid).1, by rw [hcnt, hs0]; exact (Gro.drew G S w).trans a2h, by rw [hcnt, hs0, ← hst0]; exact ⟨by simp, by simp, fun _ _ h => h, fun _ _ h => h⟩, rfl⟩⟩
    have : i < ops.size := by omega
    simp [this] at hl
  · intro k hk hkn
    simp [hkn]
  · intro i hi
    by_cases h : i < ops.size <;> simp [h] at hi
end Go.Proofs.Ytncaneioenanjaa
