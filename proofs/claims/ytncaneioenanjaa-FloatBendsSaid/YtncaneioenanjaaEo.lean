/- The engine, part 15: a drawn region, reckoned. Own work; imports no translation. -/
import Derived.Test.YtncaneioenanjaaEn
namespace Go.Proofs.Ytncaneioenanjaa
open Go.RowKit
set_option linter.unusedVariables false
set_option linter.unusedSimpArgs false

/-- What an operation leaves in its slot. -/
def valOf (a1 : List AV) (x : AOper) : AV := match x.dst with
  | some d => a1.getD d .junk
  | none => .tup []

def lvBeq : List (Nat × Nat) → List (Nat × Nat) → Bool
  | [], [] => true
  | (a, b) :: l, (c, d) :: m => Nat.beq a c && (Nat.beq b d && lvBeq l m)
  | _, _ => false
theorem lvBeq_eq : ∀ (l m : List (Nat × Nat)), lvBeq l m = true → l = m
  | [], [], _ => rfl
  | (a, b) :: l, (c, d) :: m, h => by
    simp only [lvBeq, Bool.and_eq_true] at h
    rw [Nat.eq_of_beq_eq_true h.1, Nat.eq_of_beq_eq_true h.2.1, lvBeq_eq l m h.2.2]
  | [], _ :: _, h => by cases h
  | _ :: _, [], h => by cases h
def bxBeq : List (List AV) → List (List AV) → Bool
  | [], [] => true
  | x :: l, y :: m => beqL x y && bxBeq l m
  | _, _ => false
theorem bxBeq_eq : ∀ (l m : List (List AV)), bxBeq l m = true → l = m
  | [], [], _ => rfl
  | x :: l, y :: m, h => by
    simp only [bxBeq, Bool.and_eq_true] at h
    rw [beqL_eq _ _ h.1, bxBeq_eq l m h.2]
  | [], _ :: _, h => by cases h
  | _ :: _, [], h => by cases h
theorem bxBeq_self : ∀ (l : List (List AV)), (∀ (x : List AV), beqL x x = true) → bxBeq l l = true
  | [], _ => rfl
  | x :: l, h => by simp only [bxBeq, h x, bxBeq_self l h, Bool.and_self]
/-- Nothing was turned. -/
def same (s t : St) : Bool := lvBeq s.lv t.lv && bxBeq s.bx t.bx
theorem same_eq {s t : St} (h : same s t = true) : s = t := by
  simp only [same, Bool.and_eq_true] at h
  cases s; cases t
  simp only [St.mk.injEq]
  exact ⟨bxBeq_eq _ _ h.2, lvBeq_eq _ _ h.1⟩

noncomputable def kindA (orc : Clr) (a1 am : List AV) (x : AOper) (st : St) : Option (Option St) :=
  match wantedA x.guard a1 with
  | some false => some none
  | some true => match aop x.op (evd am) st with
    | some (.val _) => some none
    | some (.box _) => some none
    | some (.lit _ _) => some none
    | some (.call f xs) => match orc f xs st with
      | some (v, none) => if v.beq (valOf a1 x) then some none else none
      | some (v, some st') => if v.beq (valOf a1 x) then some (some st') else none
      | none => none
    | some (.put _ _) => match evOp orc x.op am st with
      | some (v, st') => if v.beq (valOf a1 x) then some (some st') else none
      | none => none
    | some (.app _ _ _ _) => match evOp orc x.op am st with
      | some (v, st') => if v.beq (valOf a1 x) then some (some st') else none
      | none => none
    | _ => none
  | none => none

/-- The slots before an operation. -/
def nextS (a1 am : List AV) (x : AOper) : List AV := putA am x.dst (valOf a1 x)
def amsOf (a1 : List AV) : List AOper → List AV → Nat → List AV
  | [], am, _ => am
  | _ :: _, am, 0 => am
  | x :: l, am, i + 1 => amsOf a1 l (nextS a1 am x) i

noncomputable def walkD (orc : Clr) (a1 : List AV) : List AOper → List AV → St → Option (List Bool × List St)
  | [], _, _ => some ([], [])
  | x :: l, am, st => match kindA orc a1 am x st with
    | none => none
    | some none => match walkD orc a1 l (nextS a1 am x) st with
      | some (fs, ss) => some (false :: fs, ss)
      | none => none
    | some (some st') => match walkD orc a1 l (nextS a1 am x) st' with
      | some (fs, ss) => some (true :: fs, st' :: ss)
      | none => none

def bidOf (a1 : List AV) (x : AOper) : Option Nat :=
  match wantedA x.guard a1, x.op, valOf a1 x with
  | some true, .box _, .ptr id 0 => some id
  | _, _, _ => none
def tidOf (a1 : List AV) (x : AOper) : Option Nat :=
  match wantedA x.guard a1, x.op, valOf a1 x with
  | some true, .bsl _ _ _ _ _, .sl _ (some id) => some id
  | _, _, _ => none

noncomputable def chk1 (orc : Clr) (n : Nat) (a1 am : List AV) (n0 t0 : Nat) (sts : List St) (eff : Bool) (x : AOper) : Bool :=
  (match x.dst with | some d => decide (d < n) | none => true) &&
  match wantedA x.guard a1 with
  | some false => !eff && (valOf a1 x).beq (.tup [])
  | some true =>
    if eff then (match x.op with | .store _ _ _ | .call _ _ | .app _ _ _ _ _ => true | _ => false) else
    match x.op with
    | .box _ => (match valOf a1 x with
      | .ptr id 0 => decide (n0 ≤ id) && sts.all fun st => match aop x.op (evd am) st, st.bx[id]? with
        | some (.box cs), some cs' => beqL cs' cs
        | _, _ => false
      | _ => false)
    | .bsl _ _ _ _ _ => (match valOf a1 x with
      | .sl els (some id) => decide (t0 ≤ id) && sts.all fun st => match aop x.op (evd am) st, st.lv[id]? with
        | some (.lit s els'), some (n', s') => beqL els' els && n' == els.length && s' == s
        | _, _ => false
      | _ => false)
    | _ => sts.all fun st => match aop x.op (evd am) st with
      | some (.val u) => u.beq (valOf a1 x)
      | some (.call f xs) => match orc f xs st with
        | some (u, none) => u.beq (valOf a1 x)
        | _ => false
      | _ => false
  | none => false

/-- Numbers that boxes and rows of the region get ahead of all that calls make. -/
def isBox (x : AOper) : Bool := match x.op with | .box _ => true | _ => false
def isRow (x : AOper) : Bool := match x.op with | .bsl _ _ _ _ _ => true | _ => false
/-- What calls came to, so that none is reckoned twice. -/
structure Memo where
  f : FuncId
  xs : List AV
  S : St
  v : AV
  T : Option St
def lkM : List Memo → FuncId → List AV → St → Option (AV × Option St)
  | [], _, _, _ => none
  | e :: l, f, xs, S => bif Nat.beq e.f f && (beqL e.xs xs && same e.S S) then some (e.v, e.T) else lkM l f xs S
def orcM (lg : List Memo) (orc : Clr) : Clr := fun f xs S => match lkM lg f xs S with
  | some r => some r
  | none => orc f xs S
theorem orcM_eq {orc : Clr} {lg : List Memo} (h : ∀ e ∈ lg, orc e.f e.xs e.S = some (e.v, e.T)) : orcM lg orc = orc := by
  funext f xs S
  unfold orcM
  have key : ∀ (l : List Memo), (∀ e ∈ l, orc e.f e.xs e.S = some (e.v, e.T)) → ∀ r, lkM l f xs S = some r → orc f xs S = some r := by
    intro l
    induction l with
    | nil => intro _ r h; cases h
    | cons e l ih =>
      intro hl r hr
      simp only [lkM] at hr
      cases hc : (Nat.beq e.f f && (beqL e.xs xs && same e.S S)) with
      | true =>
        rw [hc, cond_true] at hr
        cases hr
        simp only [Bool.and_eq_true] at hc
        have h0 := hl e (by simp)
        rw [Nat.eq_of_beq_eq_true hc.1, beqL_eq _ _ hc.2.1, same_eq hc.2.2] at h0
        exact h0
      | false =>
        rw [hc, cond_false] at hr
        exact ih (fun e he => hl e (List.mem_cons_of_mem _ he)) r hr
  split
  · rename_i r hr
    exact (key lg h r hr).symm
  · rfl

noncomputable def evMain (orc : Clr) : List AOper → List AV → St → Nat → Nat → List Memo → Option (List AV × St × List Memo)
  | [], a, S, _, _, lg => some (a, S, lg)
  | o :: l, a, S, b, t, lg =>
    match wantedA o.guard a with
    | some true => match aop o.op (evf a) S with
      | some (.box cs) => evMain orc l (putA a o.dst (.ptr b 0)) ⟨S.bx.set b cs, S.lv⟩ (b + 1) t lg
      | some (.lit s els) => evMain orc l (putA a o.dst (.sl els (some t))) ⟨S.bx, S.lv.set t (els.length, s)⟩ b (t + 1) lg
      | some (.call f xs) => match orc f xs S with
        | some (v, T) => fv v fun v' => putK a o.dst v' fun a' => evMain orc l a' (T.getD S) b t (⟨f, xs, S, v, T⟩ :: lg)
        | none => none
      | _ => match evOp orc o.op a S with
        | some (v, S') => putK a o.dst v fun a' => evMain orc l a' S' b t lg
        | none => none
    | some false => evMain orc l (putA a o.dst (.tup [])) S b t lg
    | none => none

noncomputable def evDrawG (orc0 : Clr) (m : Nat) (xs : List AOper) (a : List AV) (S : St) : Option (List AV × St) :=
  let nb := ((xs.take m).filter isBox).length
  let nt := ((xs.take m).filter isRow).length
  match evMain orc0 (xs.take m) a ⟨S.bx ++ List.replicate nb [], S.lv ++ List.replicate nt (0, 1)⟩ S.bx.length S.lv.length [] with
  | some (a1, S1, lg) =>
    let orc := orcM lg orc0
    let st0 : St := ⟨S.bx ++ (S1.bx.drop S.bx.length).take nb, S.lv ++ (S1.lv.drop S.lv.length).take nt⟩
    match walkD orc a1 (xs.take m) a st0 with
    | some (fs, ss) =>
      if ((List.range (xs.take m).length).all fun i => match (xs.take m)[i]? with
          | some x => chk1 orc a.length a1 (amsOf a1 (xs.take m) a i) S.bx.length S.lv.length (st0 :: ss) (fs.getD i false) x
          | none => false) &&
        decide ((xs.take m).filterMap (bidOf a1)).Nodup && decide ((xs.take m).filterMap (tidOf a1)).Nodup then
        evOps orc (xs.drop m) a1 (ss.getLastD st0)
      else none
    | none => none
  | none => none

theorem evMain_slots {orc : Clr} : ∀ (l : List AOper) (a a' : List AV) (S S' : St) (b t : Nat) (lg lg' : List Memo), evMain orc l a S b t lg = some (a', S', lg') → (∀ e ∈ lg, orc e.f e.xs e.S = some (e.v, e.T)) → a'.length = a.length ∧ (∀ t, (∀ x ∈ l, x.dst ≠ some t) → a'.getD t .junk = a.getD t .junk) ∧ ∀ e ∈ lg', orc e.f e.xs e.S = some (e.v, e.T)
  | [], a, a', S, S', b, t, lg, lg', h, hl => by cases h; exact ⟨rfl, fun _ _ => rfl, hl⟩
  | x :: l, a, a', S, S', b, t, lg, lg', h, hl => by
    have key : ∀ v S2 b2 t2 lg2, evMain orc l (putA a x.dst v) S2 b2 t2 lg2 = some (a', S', lg') → (∀ e ∈ lg2, orc e.f e.xs e.S = some (e.v, e.T)) → a'.length = a.length ∧ (∀ t, (∀ y ∈ x :: l, y.dst ≠ some t) → a'.getD t .junk = a.getD t .junk) ∧ ∀ e ∈ lg', orc e.f e.xs e.S = some (e.v, e.T) := by
      intro v S2 b2 t2 lg2 h hl2
      obtain ⟨h1, h2, h3⟩ := evMain_slots l _ _ _ _ _ _ _ _ h hl2
      refine ⟨by rw [h1, putA_length], fun t ht => ?_, h3⟩
      rw [h2 t fun y hy => ht y (List.mem_cons_of_mem _ hy), putA_getD_ne _ _ _ _ (ht x (by simp))]
    simp only [evMain] at h
    split at h
    · split at h
      · exact key _ _ _ _ _ h hl
      · exact key _ _ _ _ _ h hl
      · split at h
        · rename_i hc
          rw [fv_eq, putK_eq] at h
          refine key _ _ _ _ _ h fun e he => ?_
          rcases List.mem_cons.1 he with rfl | he
          · exact hc
          · exact hl e he
        · cases h
      · split at h
        · rw [putK_eq] at h
          exact key _ _ _ _ _ h hl
        · cases h
    · exact key _ _ _ _ _ h hl
    · cases h

theorem lvl_succ (f : Bool) (fs : List Bool) (i : Nat) : lvl (fun j => (f :: fs).getD j false) (i + 1) = (if f then 1 else 0) + lvl (fun j => fs.getD j false) i := by
  unfold lvl
  rw [List.range_succ_eq_map, List.filter_cons]
  have e : ((List.range i).map Nat.succ).filter (fun j => (f :: fs).getD j false) = ((List.range i).filter fun j => fs.getD j false).map Nat.succ := by
    rw [List.filter_map]
    congr 1
  rw [e]
  cases f <;> simp; omega

theorem amsOf_get {a1 : List AV} : ∀ (l : List AOper) (am : List AV) (i : Nat) (t : Nat), i ≤ l.length → ((∀ k x, k < i → l[k]? = some x → x.dst ≠ some t) → (amsOf a1 l am i).getD t .junk = am.getD t .junk) ∧ ((∃ k x, k < i ∧ l[k]? = some x ∧ x.dst = some t) → t < am.length → (amsOf a1 l am i).getD t .junk = a1.getD t .junk)
  | [], am, i, t, hi => ⟨fun _ => rfl, fun ⟨k, x, _, hx, _⟩ => by simp at hx⟩
  | y :: l, am, 0, t, hi => ⟨fun _ => rfl, fun ⟨k, x, hk, _⟩ => by omega⟩
  | y :: l, am, i + 1, t, hi => by
    obtain ⟨h1, h2⟩ := amsOf_get (a1 := a1) l (nextS a1 am y) i t (by simpa using hi)
    refine ⟨fun hno => ?_, fun ⟨k, x, hk, hx, hd⟩ ht => ?_⟩
    · show (amsOf a1 l (nextS a1 am y) i).getD t .junk = _
      rw [h1 fun k x hk hx => hno (k + 1) x (by omega) (by simpa using hx)]
      exact putA_getD_ne _ _ _ _ (hno 0 y (by omega) rfl)
    · show (amsOf a1 l (nextS a1 am y) i).getD t .junk = _
      by_cases hex : ∃ k x, k < i ∧ l[k]? = some x ∧ x.dst = some t
      · exact h2 hex (by simp only [nextS, putA_length]; exact ht)
      · rw [h1 fun k x hk hx hd => hex ⟨k, x, hk, hx, hd⟩]
        cases k with
        | zero =>
          simp only [List.getElem?_cons_zero, Option.some.injEq] at hx
          subst hx
          simp only [nextS, hd]
          rw [putA_getD_same _ _ _ ht]
          simp only [valOf, hd]
        | succ k => exact absurd ⟨k, x, by omega, by simpa using hx, hd⟩ hex

theorem walkD_ok {orc : Clr} {a1 : List AV} : ∀ (l : List AOper) (am : List AV) (st : St) (fs : List Bool) (ss : List St), walkD orc a1 l am st = some (fs, ss) → fs.length = l.length ∧ lvl (fun j => fs.getD j false) l.length = ss.length ∧
    ∀ i x, l[i]? = some x → fs.getD i false = true → wantedA x.guard a1 = some true ∧ lvl (fun j => fs.getD j false) i + 1 ≤ ss.length ∧ evOp orc x.op (amsOf a1 l am i) ((st :: ss).getD (lvl (fun j => fs.getD j false) i) default) = some (valOf a1 x, (st :: ss).getD (lvl (fun j => fs.getD j false) i + 1) default)
  | [], am, st, fs, ss, h => by cases h; exact ⟨rfl, rfl, fun i x hx => by simp at hx⟩
  | y :: l, am, st, fs, ss, h => by
    simp only [walkD] at h
    split at h
    · cases h
    · rename_i hk
      split at h
      · rename_i fs' ss' hw
        cases h
        obtain ⟨h1, h2, h3⟩ := walkD_ok l _ _ _ _ hw
        refine ⟨by simp [h1], by rw [List.length_cons, lvl_succ, h2]; simp, fun i x hx hf => ?_⟩
        cases i with
        | zero => simp at hf
        | succ i =>
          rw [lvl_succ]
          simp only [Bool.false_eq_true, if_false, Nat.zero_add]
          exact h3 i x (by simpa using hx) (by simpa using hf)
      · cases h
    · rename_i st' hk
      split at h
      · rename_i fs' ss' hw
        cases h
        obtain ⟨h1, h2, h3⟩ := walkD_ok l _ _ _ _ hw
        refine ⟨by simp [h1], by rw [List.length_cons, lvl_succ, h2]; simp; omega, fun i x hx hf => ?_⟩
        cases i with
        | zero =>
          simp only [List.getElem?_cons_zero, Option.some.injEq] at hx
          subst hx
          have hl0 : lvl (fun j => (true :: fs').getD j false) 0 = 0 := rfl
          rw [hl0]
          unfold kindA at hk
          have fin : ∀ {z : Option (Option St)}, (match evOp orc y.op am st with | some (v, st') => if v.beq (valOf a1 y) then some (some st') else none | none => none) = some (some st') → evOp orc y.op am st = some (valOf a1 y, st') := by
            intro _ hh
            split at hh
            · rename_i v st2 he
              split at hh
              · rename_i hb
                cases hh
                rw [he, AV.beq_eq _ _ hb]
              · cases hh
            · cases hh
          refine ⟨?_, by simp, ?_⟩
          · split at hk
            · cases hk
            · rename_i hw'; exact hw'
            · cases hk
          · show evOp orc y.op am st = some (valOf a1 y, st')
            split at hk
            · cases hk
            · split at hk
              · cases hk
              · cases hk
              · cases hk
              · rename_i f xs hcl
                split at hk
                · split at hk <;> cases hk
                · rename_i v st2 he
                  split at hk
                  · rename_i hb
                    cases hk
                    rw [evOp_call hcl, callS, he, AV.beq_eq _ _ hb]
                  · cases hk
                · cases hk
              · exact fin (z := none) hk
              · exact fin (z := none) hk
              · cases hk
            · cases hk
        | succ i =>
          obtain ⟨k1, k2, k3⟩ := h3 i x (by simpa using hx) (by simpa using hf)
          rw [lvl_succ]
          simp only [if_true]
          refine ⟨k1, by rw [List.length_cons]; omega, ?_⟩
          rw [Nat.add_comm 1]
          show evOp orc x.op (amsOf a1 l (nextS a1 am y) i) _ = _
          simpa [List.getD] using k3
      · cases h

theorem filterMap_inj {g : AOper → Option Nat} : ∀ {l : List AOper}, (l.filterMap g).Nodup → ∀ (i j : Nat) x y id, l[i]? = some x → l[j]? = some y → g x = some id → g y = some id → i = j := by
  intro l
  induction l with
  | nil => intro _ i j x y id hx; simp at hx
  | cons z l ih =>
    intro hn i j x y id hx hy h1 h2
    have hmem : ∀ (k : Nat) u, l[k]? = some u → g u = some id → id ∈ l.filterMap g := fun k u hu hg => List.mem_filterMap.2 ⟨u, List.mem_of_getElem? hu, hg⟩
    have hn' : (l.filterMap g).Nodup := by
      rw [List.filterMap_cons] at hn
      split at hn
      · exact hn
      · exact (List.nodup_cons.1 hn).2
    cases i with
    | zero =>
      cases j with
      | zero => rfl
      | succ j =>
        simp only [List.getElem?_cons_zero, Option.some.injEq] at hx
        subst hx
        rw [List.filterMap_cons, h1] at hn
        exact absurd (hmem j y (by simpa using hy) h2) (List.nodup_cons.1 hn).1
    | succ i =>
      cases j with
      | zero =>
        simp only [List.getElem?_cons_zero, Option.some.injEq] at hy
        subst hy
        rw [List.filterMap_cons, h2] at hn
        exact absurd (hmem i x (by simpa using hx) h1) (List.nodup_cons.1 hn).1
      | succ j => rw [ih hn' i j x y id (by simpa using hx) (by simpa using hy) h1 h2]
theorem getD_last : ∀ (ss : List St) (st0 : St), (st0 :: ss).getD ss.length default = ss.getLastD st0
  | [], st0 => rfl
  | s :: ss, st0 => by
    have := getD_last ss s
    simp only [List.getD, List.length_cons, List.getElem?_cons_succ] at this ⊢
    rw [this]
    cases ss <;> rfl
theorem mapM_drop {α β : Type} {f : α → Option β} : ∀ {l : List α} {m : List β}, l.mapM f = some m → ∀ k, (l.drop k).mapM f = some (m.drop k)
  | l, m, h, 0 => h
  | [], m, h, k + 1 => by simp at h; subst h; simp
  | x :: l, m, h, k + 1 => by
    rw [List.mapM_cons] at h
    simp only [Option.bind_eq_bind, Option.bind_eq_some_iff, Option.pure_def, Option.some.injEq] at h
    obtain ⟨y, _, ys, hys, rfl⟩ := h
    exact mapM_drop hys k

/-- A drawn region. -/
theorem Run.drawG {P : Program} {orc : Clr} (ho : ClrOk P orc) (hm : P.follows .mixedOrders = true) {md : Md} {id m : Nat} {ops : Array Oper} {xs : List AOper} (hok : okD ops xs m = true) (hc : ops.toList.mapM (compOper P ops) = some xs) {a a' : List AV} {S S' : St} (he : evDrawG orc m xs a S = some (a', S')) :
    Run md P (.region id ops true) a S .norm a' S' := by
  intro G act w hI hR
  obtain ⟨hnd, hmle, hxl, hsp⟩ := okD_spec hok
  unfold evDrawG at he
  simp only [] at he
  split at he
  · rename_i a1 S1 lg h1
    obtain ⟨hlen, hslots, hlg⟩ := evMain_slots _ _ _ _ _ _ _ _ _ h1 (fun e he => by cases he)
    rw [orcM_eq hlg] at he
    obtain ⟨lb, hlb⟩ : ∃ lb, lb = (S1.bx.drop S.bx.length).take ((xs.take m).filter isBox).length := ⟨_, rfl⟩
    obtain ⟨lt, hlt⟩ : ∃ lt, lt = (S1.lv.drop S.lv.length).take ((xs.take m).filter isRow).length := ⟨_, rfl⟩
    rw [← hlb, ← hlt] at he
    generalize hst0 : St.mk (S.bx ++ lb) (S.lv ++ lt) = st0 at he
    split at he
    · rename_i fs ss hw
      split at he
      · rename_i hchk
        simp only [Bool.and_eq_true, decide_eq_true_eq, List.all_eq_true, List.mem_range] at hchk
        obtain ⟨⟨hchk, hnb⟩, hnt⟩ := hchk
        obtain ⟨hfl, hlv, hef⟩ := walkD_ok _ _ _ _ _ hw
        have hml : (xs.take m).length = m := by simp; omega
        rw [hml] at hchk hlv hfl
        -- the facts
        let eff : Nat → Bool := fun j => fs.getD j false
        let st : Nat → St := fun k => (st0 :: ss).getD k default
        let v : Nat → AV := fun i => match xs[i]? with | some x => valOf a1 x | none => .junk
        let bid : Nat → Option Nat := fun i => match xs[i]? with | some x => bidOf a1 x | none => none
        let tid : Nat → Option Nat := fun i => match xs[i]? with | some x => tidOf a1 x | none => none
        have htk : ∀ i, i < m → (xs.take m)[i]? = xs[i]? := fun i hi => List.getElem?_take_of_lt hi
        have hst : ∀ k, k ≤ lvl eff m → st k ∈ st0 :: ss := by
          intro k hk
          have hk' : k < (st0 :: ss).length := by rw [List.length_cons, ← hlv]; exact Nat.lt_succ_of_le hk
          show (st0 :: ss).getD k default ∈ _
          rw [List.getD, List.getElem?_eq_getElem hk']
          exact List.getElem_mem hk'
        let am : Nat → List AV := fun i => amsOf a1 (xs.take m) a i
        have hF : ∀ i, i < m → ∀ x, xs[i]? = some x → OpFact orc a1 (am i) st (lvl eff m) (lvl eff i) x (v i) (eff i) (bid i) (tid i) := by
          intro i hi x hx
          have hc1 := hchk i hi
          rw [htk i hi, hx] at hc1
          have hvi : v i = valOf a1 x := by show (match xs[i]? with | some x => valOf a1 x | none => .junk) = _; rw [hx]
          have hbi : bid i = bidOf a1 x := by show (match xs[i]? with | some x => bidOf a1 x | none => none) = _; rw [hx]
          have hti : tid i = tidOf a1 x := by show (match xs[i]? with | some x => tidOf a1 x | none => none) = _; rw [hx]
          rw [hvi, hbi, hti]
          simp only [chk1, Bool.and_eq_true] at hc1
          obtain ⟨_, hc2⟩ := hc1
          split at hc2
          · rename_i hwt
            simp only [Bool.and_eq_true, Bool.not_eq_true'] at hc2
            exact .inl ⟨hwt, AV.beq_eq _ _ hc2.2, hc2.1, by simp [bidOf, hwt], by simp [tidOf, hwt]⟩
          · rename_i hwt
            refine .inr ⟨hwt, ?_⟩
            split at hc2
            · rename_i hfi
              obtain ⟨_, k2, k3⟩ := hef i x (by rw [htk i hi]; exact hx) hfi
              refine .inr (.inr (.inr ⟨hfi, ?_, ?_, by rw [show lvl eff m = ss.length from hlv]; exact k2, k3⟩))
              · cases hxo : x.op <;> rw [hxo] at hc2 <;> first | (cases hc2; done) | simp [bidOf, hwt, hxo]
              · cases hxo : x.op <;> rw [hxo] at hc2 <;> first | (cases hc2; done) | simp [tidOf, hwt, hxo]
            · rename_i hfi
              have hfi : eff i = false := Bool.eq_false_iff.2 hfi
              split at hc2
              · -- a box
                rename_i y hxo
                split at hc2
                · rename_i idb hval
                  simp only [Bool.and_eq_true, decide_eq_true_eq, List.all_eq_true] at hc2
                  obtain ⟨_, hall⟩ := hc2
                  have hcs : ∃ cs, ∀ k, k ≤ lvl eff m → aop x.op (evd (am i)) (st k) = some (.box cs) ∧ (st k).bx[idb]? = some cs := by
                    have hsame : ∀ s1 s2, aop x.op (evd (am i)) s1 = aop x.op (evd (am i)) s2 := fun s1 s2 => by rw [hxo]; rfl
                    have hbox : ∀ stk ∈ st0 :: ss, ∃ cs, aop x.op (evd (am i)) stk = some (.box cs) ∧ stk.bx[idb]? = some cs := by
                      intro stk hmem
                      have := hall stk hmem
                      split at this
                      · rename_i cs cs' e1 e2
                        exact ⟨cs, e1, by rw [e2, beqL_eq _ _ this]⟩
                      · cases this
                    obtain ⟨cs, hcs, _⟩ := hbox st0 (by simp)
                    refine ⟨cs, fun k hk => ?_⟩
                    obtain ⟨cs2, h5, h6⟩ := hbox (st k) (hst k hk)
                    have e3 := (hsame st0 (st k)).symm.trans hcs
                    rw [h5] at e3
                    simp only [Option.some.injEq, Res.box.injEq] at e3
                    rw [← e3]
                    exact ⟨h5, h6⟩
                  obtain ⟨cs, hcs⟩ := hcs
                  exact .inr (.inl ⟨hfi, by simp [tidOf, hwt, hxo], cs, idb, by simp [bidOf, hwt, hxo, hval], hval, hcs⟩)
                · cases hc2
              · -- a row
                rename_i s ag z len ps hxo
                split at hc2
                · rename_i els idb hval
                  simp only [Bool.and_eq_true, decide_eq_true_eq, List.all_eq_true] at hc2
                  obtain ⟨_, hall⟩ := hc2
                  have hrow : ∀ stk ∈ st0 :: ss, aop x.op (evd (am i)) stk = some (.lit s els) ∧ stk.lv[idb]? = some (els.length, s) := by
                    intro stk hmem
                    have := hall stk hmem
                    split at this
                    · rename_i s' els' n' s'' e1 e2
                      simp only [Bool.and_eq_true, beq_iff_eq] at this
                      obtain ⟨⟨g1, g2⟩, g3⟩ := this
                      have g0 := beqL_eq _ _ g1
                      have hs' : s' = s := by
                        rw [hxo] at e1
                        simp only [aop, Option.bind_eq_some_iff] at e1
                        obtain ⟨_, _, e1⟩ := e1
                        split at e1
                        · simp only [Option.some.injEq, Res.lit.injEq] at e1; exact e1.1.symm
                        · cases e1
                      exact ⟨by rw [e1, g0, hs'], by rw [e2, g2, g3, hs']⟩
                    · cases this
                  exact .inr (.inr (.inl ⟨hfi, by simp [bidOf, hwt, hxo], s, els, idb, by simp [tidOf, hwt, hxo, hval], hval, fun k hk => hrow (st k) (hst k hk)⟩))
                · cases hc2
              · -- what stays
                rename_i hnb' hnl'
                rw [List.all_eq_true] at hc2
                have hb0 : bidOf a1 x = none := by
                  unfold bidOf
                  split
                  · rename_i y idb e1 e2 e3; exact absurd e2 (hnb' y)
                  · rfl
                have ht0 : tidOf a1 x = none := by
                  unfold tidOf
                  split
                  · rename_i e1 e2 e3; exact absurd e2 (hnl' _ _ _ _ _)
                  · rfl
                have hone : ∀ k, k ≤ lvl eff m → aop x.op (evd (am i)) (st k) = some (.val (valOf a1 x)) ∨ ∃ f as, aop x.op (evd (am i)) (st k) = some (.call f as) ∧ callS orc f as (st k) = some (valOf a1 x, st k) := by
                  intro k hk
                  have := hc2 (st k) (hst k hk)
                  split at this
                  · rename_i u e1
                    exact .inl (by rw [e1, AV.beq_eq _ _ this])
                  · rename_i f as e1
                    split at this
                    · rename_i u e2
                      exact .inr ⟨f, as, e1, by rw [callS, e2, AV.beq_eq _ _ this]⟩
                    · cases this
                  · cases this
                exact .inl ⟨hfi, hb0, ht0, hone⟩
          · cases hc2
        -- boxes and rows laid ahead
        have hI0 : Inv G st0 w.drew ∧ Gro G S w G st0 w.drew ∧ Keep G S G st0 ∧ (∀ b, S.bx.length ≤ b → G.al b = none) ∧ ∀ t n, S.lv.length ≤ t → G.tb t n = none := by
          obtain ⟨k1, k2, k3, k4⟩ := add_ahead hI.drew lb lt
          rw [hst0] at k1 k2
          exact ⟨k1, (Gro.drew G S w).trans k2, by rw [← hst0]; exact ⟨by simp, by simp, fun _ _ h => h, fun _ _ h => h⟩, k3, k4⟩
        obtain ⟨hI1, hg1, hkp1, hal0, htb0⟩ := hI0
        have hdx : ∀ i t, dO xs i = some t → ∃ x, xs[i]? = some x ∧ x.dst = some t := fun i t h => by
          simp only [dO, Option.bind_eq_some_iff] at h
          exact h
        have hdst : ∀ i, i < m → ∀ t, dO xs i = some t → t < a.length ∧ a1.getD t .junk = v i := by
          intro i hi t hd
          obtain ⟨x, hx, hxd⟩ := hdx i t hd
          have hc1 := hchk i hi
          rw [htk i hi, hx] at hc1
          simp only [chk1, Bool.and_eq_true, hxd, decide_eq_true_eq] at hc1
          refine ⟨hc1.1, ?_⟩
          show _ = (match xs[i]? with | some x => valOf a1 x | none => .junk)
          rw [hx]
          simp only [valOf, hxd]
        have hslots0 : ∀ t, (∀ i, i < m → dO xs i ≠ some t) → a1.getD t .junk = a.getD t .junk := by
          intro t hno
          refine hslots t fun x hx hxd => ?_
          obtain ⟨i, hi, hxi⟩ := List.mem_iff_getElem.1 hx
          have him : i < m := by rw [← hml]; exact hi
          have : xs[i]? = some x := by rw [← htk i him, List.getElem?_eq_getElem hi, hxi]
          exact hno i him (by simp [dO, this, hxd])
        have hloud : ∀ i, i < m → eff i = true → isLoud ops i = true := by
          intro i hi hfi
          obtain ⟨o, x, hoi, hx, _, hmain, _⟩ := hsp i (by omega)
          have hld := (hmain hi).2.2.2.2
          have hc1 := hchk i hi
          rw [htk i hi, hx] at hc1
          simp only [chk1, Bool.and_eq_true] at hc1
          obtain ⟨_, hc2⟩ := hc1
          have hfi' : fs.getD i false = true := hfi
          rw [hfi'] at hc2
          split at hc2
          · simp at hc2
          · simp only [if_true] at hc2
            have hla : loudA x.op = true := by
              cases hxo : x.op <;> rw [hxo] at hc2 <;> first | rfl | cases hc2
            simpa [isLoud, hoi] using hld hla
          · cases hc2
        have hnod : ∀ (g : AOper → Option Nat), ((xs.take m).filterMap g).Nodup → ∀ i j id, i < m → j < m → (match xs[i]? with | some x => g x | none => none) = some id → (match xs[j]? with | some x => g x | none => none) = some id → i = j := by
          intro g hn i j id hi hj h1 h2
          obtain ⟨_, x, _, hx, _⟩ := hsp i (by omega)
          obtain ⟨_, y, _, hy, _⟩ := hsp j (by omega)
          rw [hx] at h1
          rw [hy] at h2
          exact filterMap_inj hn i j x y id (by rw [htk i hi]; exact hx) (by rw [htk j hj]; exact hy) h1 h2
        refine cwp_region_draw hm hnd post_out ?_
        have ham : ∀ i, i < m → ∀ t, ((∀ k, k < i → dO xs k ≠ some t) → (am i).getD t .junk = a.getD t .junk) ∧ ((∃ k, k < i ∧ dO xs k = some t) → (am i).getD t .junk = a1.getD t .junk) := by
          intro i hi t
          obtain ⟨g1, g2⟩ := amsOf_get (a1 := a1) (xs.take m) a i t (by omega)
          refine ⟨fun hno => g1 fun k x hk hx hd => hno k hk ?_, fun ⟨k, hk, hd⟩ => ?_⟩
          · rw [htk k (by omega)] at hx
            simp [dO, hx, hd]
          · obtain ⟨x, hx, hxd⟩ := hdx k t hd
            exact g2 ⟨k, x, hk, by rw [htk k (by omega)]; exact hx, hxd⟩ (hdst k (by omega) t hd).1
        have hbn : ∀ i idb, i < m → bid i = some idb → S.bx.length ≤ idb := by
          intro i idb hi hid
          obtain ⟨o, x, _, hx, _⟩ := hsp i (by omega)
          have hid' : bidOf a1 x = some idb := by
            have : (match xs[i]? with | some x => bidOf a1 x | none => none) = some idb := hid
            rw [hx] at this; exact this
          have hc1 := hchk i hi
          rw [htk i hi, hx] at hc1
          simp only [chk1, Bool.and_eq_true] at hc1
          unfold bidOf at hid'
          split at hid'
          · rename_i y idb' e1 e2 e3
            cases hid'
            have hfb : fs.getD i false = false := by
              cases hfe : fs.getD i false with
              | false => rfl
              | true => rw [e1, e2, hfe] at hc1; simp at hc1
            rw [e1, e2, e3, hfb] at hc1
            simp only [Bool.false_eq_true, if_false, Bool.and_eq_true, decide_eq_true_eq] at hc1
            exact hc1.2.1
          · cases hid'
        have htn : ∀ i idb, i < m → tid i = some idb → S.lv.length ≤ idb := by
          intro i idb hi hid
          obtain ⟨o, x, _, hx, _⟩ := hsp i (by omega)
          have hid' : tidOf a1 x = some idb := by
            have : (match xs[i]? with | some x => tidOf a1 x | none => none) = some idb := hid
            rw [hx] at this; exact this
          have hc1 := hchk i hi
          rw [htk i hi, hx] at hc1
          simp only [chk1, Bool.and_eq_true] at hc1
          unfold tidOf at hid'
          split at hid'
          · rename_i e1 e2 e3
            cases hid'
            have hfb : fs.getD i false = false := by
              cases hfe : fs.getD i false with
              | false => rfl
              | true => rw [e1, e2, hfe] at hc1; simp at hc1
            rw [e1, e2, e3, hfb] at hc1
            simp only [Bool.false_eq_true, if_false, Bool.and_eq_true, decide_eq_true_eq] at hc1
            exact hc1.2.1
          · cases hid'
        refine draw_any (a := a) (a1 := a1) (v := v) (st := st) (eff := eff) (bid := bid) (tid := tid) (G0 := G) (S0 := S) (w0 := w) (act0 := act) ho hok hc hlen hdst hslots0 am ham hF hloud (hnod _ hnb) (hnod _ hnt) hbn htn ?_ ops.size (Array.replicate ops.size false) act w.drew ?_ (by simp) ?_ ?_ ?_
        · intro G' act' w' hI' hR' hg' hk' hd'
          have hlast : st (lvl eff m) = ss.getLastD st0 := by
            show (st0 :: ss).getD (lvl eff m) default = _
            rw [show lvl eff m = ss.length from hlv]
            exact getD_last ss st0
          rw [hlast] at hI' hg' hk'
          have hl := wpOps_eq_wpList (P := P) (ops := ops) (Q := Post .norm a' S' G S act w) (ops.toList.drop m) m (fun j => by simp)
          rw [show (ops.toList.drop m).length = ops.size - m by simp] at hl
          rw [hl]
          have hcd : (ops.toList.drop m).mapM (compOper P ops) = some (xs.drop m) := mapM_drop hc m
          exact evOps_wp ho _ _ a1 a' _ S' hcd he G' act' w' hI' hR' fun G2 act2 w2 k1 k2 k3 k5 k4 => ⟨rfl, G2, k1, k2, hg'.trans k3, hk'.trans k5, k4.trans hd'⟩
        · unfold toCome
          have : (List.range ops.size).filter (fun i => !(Array.replicate ops.size false).getD i true) = List.range ops.size := by
            apply List.filter_eq_self.2
            intro i hi
            have := List.mem_range.1 hi
            simp [this]
          rw [this, List.length_range]
        · have hcnt : cnt eff m (Array.replicate ops.size false) = 0 := by
            unfold cnt
            rw [List.length_eq_zero_iff, List.filter_eq_nil_iff]
            intro i hi
            have := List.mem_range.1 hi
            have : i < ops.size := by omega
            simp [this]
          have hs0 : st 0 = st0 := rfl
          refine ⟨G, a, ⟨by rw [hcnt, hs0]; exact hI1, hR, rfl, fun i hi hl => ?_, fun _ _ => rfl, ?_, ?_, by rw [hcnt, hs0]; exact hg1, by rw [hcnt, hs0]; exact hkp1, rfl⟩⟩
          · have : i < ops.size := by omega
            simp [this] at hl
          · intro i hi _ idb hid
            exact hal0 _ (hbn i idb hi hid)
          · intro i hi _ idb hid n
            exact htb0 _ n (htn i idb hi hid)
        · intro k hk hkn
          simp [hkn]
        · intro i hi
          by_cases h : i < ops.size <;> simp [h] at hi
      · cases he
    · cases he
  · cases he

/-! ### A region that turns nothing but slots -/
def quietA : AOp → Bool
  | .store _ _ _ | .app _ _ _ _ _ | .box _ | .bsl _ _ _ _ _ | .mksl _ _ _ _ _ _ => false
  | _ => true
noncomputable def stepQ (orc : Clr) (x : AOper) (a : List AV) (S : St) : Option AV :=
  match wantedA x.guard a with
  | some false => some (.tup [])
  | some true => match aop x.op (evf a) S with
    | some (.val v) => some v
    | some (.call f xs) => flw xs fun xs => match orc f xs S with
      | some (v, none) => some v
      | _ => none
    | _ => none
  | none => none
noncomputable def evQ (orc : Clr) : List AOper → List AV → St → Option (List AV)
  | [], a, _ => some a
  | x :: l, a, S => match stepQ orc x a S with
    | some v => fv v fun v => putK a x.dst v fun a' => evQ orc l a' S
    | none => none
theorem evQ_cons {orc : Clr} {x : AOper} {l : List AOper} {a : List AV} {S : St} : evQ orc (x :: l) a S = (stepQ orc x a S).bind fun v => evQ orc l (putA a x.dst v) S := by
  simp only [evQ]
  cases stepQ orc x a S with
  | none => rfl
  | some v => simp only [fv_eq, putK_eq, Option.bind_some]
/-- The slots before an operation. -/
theorem evQ_at {orc : Clr} {S : St} : ∀ (l : List AOper) (a a1 : List AV), evQ orc l a S = some a1 → ∃ am : Nat → List AV, am 0 = a ∧ am l.length = a1 ∧ ∀ i x, l[i]? = some x → ∃ v, stepQ orc x (am i) S = some v ∧ am (i + 1) = putA (am i) x.dst v
  | [], a, a1, h => by cases h; exact ⟨fun _ => a, rfl, rfl, fun i x h => by simp at h⟩
  | y :: l, a, a1, h => by
    rw [evQ_cons, Option.bind_eq_some_iff] at h
    obtain ⟨v, hv, h⟩ := h
    obtain ⟨am, h0, h1, h2⟩ := evQ_at l _ _ h
    refine ⟨fun i => match i with | 0 => a | i + 1 => am i, rfl, h1, fun i x hx => ?_⟩
    cases i with
    | zero =>
      simp only [List.getElem?_cons_zero, Option.some.injEq] at hx
      subst hx
      exact ⟨v, hv, h0⟩
    | succ i => exact h2 i x (by simpa using hx)

noncomputable def evDraw (orc : Clr) (m : Nat) (xs : List AOper) (a : List AV) (S : St) : Option (List AV × St) :=
  match (bif (xs.take m).all fun x => quietA x.op && (match x.dst with | some d => decide (d < a.length) | none => true) then evQ orc (xs.take m) a S else none) with
  | some a1 => evOps orc (xs.drop m) a1 S
  | none => evDrawG orc m xs a S

theorem Run.draw {P : Program} {orc : Clr} (ho : ClrOk P orc) (hm : P.follows .mixedOrders = true) {md : Md} {id m : Nat} {ops : Array Oper} {xs : List AOper} (hok : okD ops xs m = true) (hc : ops.toList.mapM (compOper P ops) = some xs) {a a' : List AV} {S S' : St} (he : evDraw orc m xs a S = some (a', S')) :
    Run md P (.region id ops true) a S .norm a' S' := by
  unfold evDraw at he
  split at he
  · rename_i a1 hq
    cases hcnd : ((xs.take m).all fun x => quietA x.op && (match x.dst with | some d => decide (d < a.length) | none => true)) with
    | false => rw [hcnd] at hq; cases hq
    | true =>
      rw [hcnd, cond_true] at hq
      obtain ⟨hnd, hmle, hxl, hsp⟩ := okD_spec hok
      have hml : (xs.take m).length = m := by simp; omega
      have htk : ∀ i, i < m → (xs.take m)[i]? = xs[i]? := fun i hi => List.getElem?_take_of_lt hi
      obtain ⟨am, ha0, ham1, hstep⟩ := evQ_at _ _ _ hq
      rw [hml] at ham1
      have hst : ∀ i, i < m → ∃ o x v, ops[i]? = some o ∧ xs[i]? = some x ∧ stepQ orc x (am i) S = some v ∧ am (i + 1) = putA (am i) x.dst v := by
        intro i hi
        obtain ⟨o, x, hoi, hx, _⟩ := hsp i (by omega)
        obtain ⟨v, h1, h2⟩ := hstep i x (by rw [htk i hi]; exact hx)
        exact ⟨o, x, v, hoi, hx, h1, h2⟩
      have hdx : ∀ i t, dO xs i = some t → ∃ x, xs[i]? = some x ∧ x.dst = some t := fun i t h => by
        simp only [dO, Option.bind_eq_some_iff] at h
        exact h
      -- slots stay where nothing writes
      have hslot : ∀ t i r, i + r ≤ m → (∀ k, i ≤ k → k < i + r → dO xs k ≠ some t) → (am (i + r)).getD t .junk = (am i).getD t .junk := by
        intro t i r
        induction r with
        | zero => intro _ _; rfl
        | succ r ih =>
          intro hr hno
          obtain ⟨_, x, v, _, hx, _, h2⟩ := hst (i + r) (by omega)
          rw [show i + (r + 1) = i + r + 1 by omega, h2, putA_getD_ne _ _ _ _ (by have := hno (i + r) (by omega) (by omega); simpa [dO, hx] using this)]
          exact ih (by omega) fun k h1 h2 => hno k h1 (by omega)
      have hlenA : ∀ i, i ≤ m → (am i).length = a.length := by
        intro i
        induction i with
        | zero => intro _; rw [ha0]
        | succ i ih =>
          intro hi
          obtain ⟨_, x, v, _, _, _, h2⟩ := hst i (by omega)
          rw [h2, putA_length, ih (by omega)]
      have hdl : ∀ i t, i < m → dO xs i = some t → t < a.length := by
        intro i t hi hd
        obtain ⟨x, hx, hxd⟩ := hdx i t hd
        have hmem : x ∈ xs.take m := List.mem_of_getElem? (by rw [htk i hi]; exact hx)
        have := List.all_eq_true.1 hcnd x hmem
        simp only [hxd, Bool.and_eq_true, decide_eq_true_eq] at this
        exact this.2
      have huniq : ∀ i k t, i < m → k < m → dO xs i = some t → dO xs k = some t → k = i := by
        intro i k t hi hk h1 h2
        obtain ⟨_, x, _, hx, _, hmain, _⟩ := hsp i (by omega)
        by_cases he : k = i
        · exact he
        · exact absurd h2 ((hmain hi).1 k hk he t (by simpa [dO, hx] using h1))
      let v : Nat → AV := fun i => match xs[i]? with | some x => (stepQ orc x (am i) S).getD .junk | none => .junk
      have hv : ∀ i x w, xs[i]? = some x → stepQ orc x (am i) S = some w → v i = w := by
        intro i x w hx hw
        show (match xs[i]? with | some x => (stepQ orc x (am i) S).getD .junk | none => .junk) = w
        rw [hx]
        simp only [hw, Option.getD_some]
      have h1 : ∀ i, i < m → ∀ t, dO xs i = some t → t < a.length ∧ a1.getD t .junk = v i := by
        intro i hi t hd
        have hlt := hdl i t hi hd
        obtain ⟨_, x, w, _, hx, hw, h2⟩ := hst i hi
        refine ⟨hlt, ?_⟩
        have e1 := hslot t (i + 1) (m - (i + 1)) (by omega) (fun k h1 h2 hk => by have := huniq i k t hi (by omega) hd hk; omega)
        rw [show i + 1 + (m - (i + 1)) = m by omega, ham1] at e1
        rw [e1, h2, hv i x w hx hw]
        have hxd : x.dst = some t := by simpa [dO, hx] using hd
        rw [hxd, putA_getD_same _ _ _ (by rw [hlenA i (by omega)]; exact hlt)]
      have h0 : ∀ t, (∀ i, i < m → dO xs i ≠ some t) → a1.getD t .junk = a.getD t .junk := by
        intro t hno
        have e1 := hslot t 0 m (by omega) (fun k _ h2 => hno k (by omega))
        rw [Nat.zero_add, ham1, ha0] at e1
        exact e1
      have ham : ∀ i, i < m → ∀ t, ((∀ k, k < i → dO xs k ≠ some t) → (am i).getD t .junk = a.getD t .junk) ∧ ((∃ k, k < i ∧ dO xs k = some t) → (am i).getD t .junk = a1.getD t .junk) := by
        intro i hi t
        refine ⟨fun hno => ?_, fun ⟨k, hk, hd⟩ => ?_⟩
        · have e1 := hslot t 0 i (by omega) (fun k _ h2 => hno k (by omega))
          rw [Nat.zero_add, ha0] at e1
          exact e1
        · have e1 := hslot t i (m - i) (by omega) (fun k' h1 h2 hk' => by have := huniq k k' t (by omega) (by omega) hd hk'; omega)
          rw [show i + (m - i) = m by omega, ham1] at e1
          exact e1.symm
      have hguard : ∀ i x, i < m → xs[i]? = some x → wantedA x.guard a1 = wantedA x.guard (am i) := by
        intro i x hi hx
        obtain ⟨o, x', hoi, hx', hlt, hmain, _⟩ := hsp i (by omega)
        rw [hx] at hx'; cases hx'
        cases hg : x.guard with
        | none => rfl
        | some g =>
          obtain ⟨d, wnt⟩ := g
          simp only [wantedA]
          have : a1.getD d .junk = (am i).getD d .junk := by
            by_cases hex : ∃ k, k < m ∧ dO xs k = some d
            · obtain ⟨k, hk, hd⟩ := hex
              exact ((ham i hi d).2 ⟨k, hlt k ((hmain hi).2.1 d wnt hg k hk hd), hd⟩).symm
            · have hno : ∀ k, k < m → dO xs k ≠ some d := fun k hk h => hex ⟨k, hk, h⟩
              rw [h0 d hno, (ham i hi d).1 fun k hk => hno k (by omega)]
          rw [this]
      intro G act w hI hR
      refine cwp_region_draw hm hnd post_out ?_
      have hlv : lvl (fun _ => false) m = 0 := by simp [lvl]
      refine draw_any (a := a) (a1 := a1) (v := v) (st := fun _ => S) (eff := fun _ => false) (bid := fun _ => none) (tid := fun _ => none) (G0 := G) (S0 := S) (w0 := w) (act0 := act) ho hok hc (by rw [← ham1, hlenA m (Nat.le_refl _)]) h1 h0 am ham ?_ (fun _ _ h => by cases h) (fun _ _ _ _ _ h => by cases h) (fun _ _ _ _ _ h => by cases h) (fun _ _ _ h => by cases h) (fun _ _ _ h => by cases h) ?_ ops.size (Array.replicate ops.size false) act w.drew ?_ (by simp) ?_ ?_ ?_
      · intro i hi x hx
        obtain ⟨_, x', w', _, hx', hw, _⟩ := hst i hi
        rw [hx] at hx'; cases hx'
        rw [hv i x w' hx hw]
        have hg := hguard i x hi hx
        unfold stepQ at hw
        rw [evf_eq] at hw
        split at hw
        · rename_i hwt
          cases hw
          exact .inl ⟨hg.trans hwt, rfl, rfl, rfl, rfl⟩
        · rename_i hwt
          refine .inr ⟨hg.trans hwt, .inl ⟨rfl, rfl, rfl, fun k _ => ?_⟩⟩
          split at hw
          · rename_i e1
            cases hw
            exact .inl e1
          · rename_i f xs1 e1
            rw [flw_eq] at hw
            split at hw
            · rename_i e2
              cases hw
              exact .inr ⟨f, xs1, e1, by rw [callS, e2]⟩
            · cases hw
          · cases hw
        · cases hw
      · intro G' act' w' hI' hR' hg' hk' hd'
        have hl := wpOps_eq_wpList (P := P) (ops := ops) (Q := Post .norm a' S' G S act w) (ops.toList.drop m) m (fun j => by simp)
        rw [show (ops.toList.drop m).length = ops.size - m by simp] at hl
        rw [hl]
        have hcd : (ops.toList.drop m).mapM (compOper P ops) = some (xs.drop m) := mapM_drop hc m
        exact evOps_wp ho _ _ a1 a' _ S' hcd he G' act' w' hI' hR' fun G2 act2 w2 k1 k2 k3 k5 k4 => ⟨rfl, G2, k1, k2, hg'.trans k3, hk'.trans k5, k4.trans hd'⟩
      · unfold toCome
        have : (List.range ops.size).filter (fun i => !(Array.replicate ops.size false).getD i true) = List.range ops.size := by
          apply List.filter_eq_self.2
          intro i hi
          have := List.mem_range.1 hi
          simp [this]
        rw [this, List.length_range]
      · refine ⟨G, a, ⟨hI.drew, hR, rfl, fun i hi hl => ?_, fun _ _ => rfl, fun _ _ _ _ h => (by cases h), fun _ _ _ _ h => (by cases h), Gro.drew G S w, .refl _ _, rfl⟩⟩
        have : i < ops.size := by omega
        simp [this] at hl
      · intro k hk hkn
        simp [hkn]
      · intro i hi
        by_cases h : i < ops.size <;> simp [h] at hi
  · exact Run.drawG ho hm hok hc he
end Go.Proofs.Ytncaneioenanjaa
