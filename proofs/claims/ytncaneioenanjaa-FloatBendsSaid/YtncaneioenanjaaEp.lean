/- The engine, part 16: code, and functions. Own work; imports no translation. -/
import Derived.Test.YtncaneioenanjaaEo
namespace Go.Proofs.Ytncaneioenanjaa
open Go.RowKit
set_option linter.unusedVariables false
set_option linter.unusedSimpArgs false

/-! ### Code without types -/
inductive ACode where
  | skip
  | reg (ops : List AOper)
  | dreg (m : Nat) (ops : List AOper)
  | seq (c d : ACode)
  | cond (c : AOpd) (d e : ACode)
  | block (id : Nat) (c : ACode)
  | loop (c : ACode)
  | exit (id : Nat)
  | ret
  deriving Inhabited

def compCode (P : Program) : Code → Option ACode
  | .skip => some .skip
  | .label _ => some .skip
  | .region _ ops draw =>
    if draw then
      match ops.toList.mapM (compOper P ops) with
      | some xs => match (List.range (ops.size + 1)).find? (okD ops xs) with
        | some m => if P.follows .mixedOrders then some (.dreg m xs) else none
        | none => none
      | none => none
    else if !noDefer ops then none else (ops.toList.mapM (compOper P ops)).map .reg
  | .seq c d => match compCode P c, compCode P d with
    | some c', some d' => some (.seq c' d')
    | _, _ => none
  | .cond x c d => match compOpd x, compCode P c, compCode P d with
    | some x', some c', some d' => some (.cond x' c' d')
    | _, _, _ => none
  | .block id c => (compCode P c).map (.block id)
  | .loop c => (compCode P c).map .loop
  | .exit id => some (.exit id)
  | .ret => some .ret
  | _ => none

noncomputable def evCode (orc : Clr) : Nat → ACode → List AV → St → Option (AEx × List AV × St)
  | 0, _, _, _ => none
  | n + 1, c, a, S =>
    match c with
    | .skip => some (.norm, a, S)
    | .reg ops => match evOps orc ops a S with
      | some (a', S') => some (.norm, a', S')
      | none => none
    | .dreg m ops => match evDraw orc m ops a S with
      | some (a', S') => some (.norm, a', S')
      | none => none
    | .seq c d => match evCode orc n c a S with
      | some (.norm, a1, S1) => evCode orc n d a1 S1
      | r => r
    | .cond x c d => match evd a x with
      | .bool b => evCode orc n (if b then c else d) a S
      | _ => none
    | .block id c => match evCode orc n c a S with
      | some (x, a', S') => some (if x = .ex id then .norm else x, a', S')
      | none => none
    | .loop c => match evCode orc n c a S with
      | some (.norm, a1, S1) => evCode orc n (.loop c) a1 S1
      | r => r
    | .exit id => some (.ex id, a, S)
    | .ret => some (.ret, a, S)

theorem evCode_run {P : Program} {orc : Clr} (ho : ClrOk P orc) {md : Md} : ∀ (n : Nat) (c : Code) (ac : ACode) (a a' : List AV) (S S' : St) (x : AEx), compCode P c = some ac → evCode orc n ac a S = some (x, a', S') →
    Run md P c a S x a' S' ∧ ∀ b, c = .loop b → ∃ k, Chain md P b k a S x a' S'
  | 0, c, ac, a, a', S, S', x, hc, he => by cases he
  | n + 1, c, ac, a, a', S, S', x, hc, he => by
    have ih := evCode_run (P := P) ho (md := md) n
    cases c <;> simp only [compCode, reduceCtorEq] at hc
    case skip => cases hc; simp only [evCode, Option.some.injEq, Prod.mk.injEq] at he; obtain ⟨rfl, rfl, rfl⟩ := he; exact ⟨.skip, fun b h => by cases h⟩
    case label l => cases hc; simp only [evCode, Option.some.injEq, Prod.mk.injEq] at he; obtain ⟨rfl, rfl, rfl⟩ := he; exact ⟨.label, fun b h => by cases h⟩
    case exit id => cases hc; simp only [evCode, Option.some.injEq, Prod.mk.injEq] at he; obtain ⟨rfl, rfl, rfl⟩ := he; exact ⟨.exit, fun b h => by cases h⟩
    case ret => cases hc; simp only [evCode, Option.some.injEq, Prod.mk.injEq] at he; obtain ⟨rfl, rfl, rfl⟩ := he; exact ⟨.ret, fun b h => by cases h⟩
    case region id ops draw =>
      split at hc
      · rename_i hd
        subst hd
        split at hc
        · rename_i xs hxs
          split at hc
          · rename_i m hm
            split at hc
            · rename_i hmix
              cases hc
              simp only [evCode] at he
              split at he
              · rename_i a1 S1 h1
                cases he
                exact ⟨.draw ho hmix (List.find?_some hm) hxs h1, fun b h => by cases h⟩
              · cases he
            · cases hc
          · cases hc
        · cases hc
      · rename_i hd
        split at hc
        · cases hc
        · rename_i hnd
          have hd : draw = false := by simpa using hd
          subst hd
          simp only [Option.map_eq_some_iff] at hc
          obtain ⟨xs, hxs, rfl⟩ := hc
          simp only [evCode] at he
          split at he
          · rename_i a1 S1 h1
            cases he
            exact ⟨.region ho (by simpa using hnd) hxs h1, fun b h => by cases h⟩
          · cases he
    case seq c d =>
      split at hc
      · rename_i c' d' hc1 hd1
        cases hc
        simp only [evCode] at he
        split at he
        · rename_i a1 S1 h1
          exact ⟨.seq (ih _ _ _ _ _ _ _ hc1 h1).1 (ih _ _ _ _ _ _ _ hd1 he).1, fun b h => by cases h⟩
        · rename_i hne
          exact ⟨.seq_left (ih _ _ _ _ _ _ _ hc1 he).1 (fun hx => by subst hx; exact hne _ _ he), fun b h => by cases h⟩
      · cases hc
    case cond y c d =>
      split at hc
      · rename_i y' c' d' hy hc1 hd1
        cases hc
        simp only [evCode] at he
        split at he
        · rename_i t ht
          refine ⟨.cond hy ht ?_, fun b h => by cases h⟩
          cases t
          · exact (ih _ _ _ _ _ _ _ hd1 he).1
          · exact (ih _ _ _ _ _ _ _ hc1 he).1
        · cases he
      · cases hc
    case block id c =>
      simp only [Option.map_eq_some_iff] at hc
      obtain ⟨c', hc1, rfl⟩ := hc
      simp only [evCode] at he
      split at he
      · rename_i x1 a1 S1 h1
        cases he
        exact ⟨.block (ih _ _ _ _ _ _ _ hc1 h1).1, fun b h => by cases h⟩
      · cases he
    case loop c =>
      simp only [Option.map_eq_some_iff] at hc
      obtain ⟨c', hc1, rfl⟩ := hc
      simp only [evCode] at he
      have hch : ∃ k, Chain md P c k a S x a' S' := by
        split at he
        · rename_i a1 S1 h1
          obtain ⟨k, hk⟩ := (ih (.loop c) (.loop c') _ _ _ _ _ (by simp [compCode, hc1]) he).2 c rfl
          exact ⟨k + 1, .step (ih _ _ _ _ _ _ _ hc1 h1).1 hk⟩
        · rename_i hne
          exact ⟨0, .last (ih _ _ _ _ _ _ _ hc1 he).1 (fun hx => by subst hx; exact hne _ _ he)⟩
      obtain ⟨k, hk⟩ := hch
      exact ⟨.loop hk, fun b h => by cases h; exact ⟨k, hk⟩⟩

/-! ### Functions -/
inductive ARes where
  | tmp (t : Nat)
  | cell (t : Nat) (n : Option Nat)
  deriving Inhabited
structure AFn where
  np : Nat
  ntmps : Nat
  res : List ARes
  code : ACode
  deriving Inhabited

def compRes (P : Program) : ResultVar → Option ARes
  | .tmp t => some (.tmp t)
  | .cell a t => (aggOf P t).map (.cell a)
def compFn (P : Program) (f : FuncId) : Option AFn :=
  match P.funcs[f]? with
  | some fn => match fn.body, fn.results.toList.mapM (compRes P) with
    | some c, some rs => match compCode P c with
      | some ac => if fn.name == "runtime.NumGoroutine" then none else some ⟨fn.params.size, fn.ntmps, rs, ac⟩
      | none => none
    | _, _ => none
  | none => none

def evRes1 (a : List AV) (S : St) : ARes → Option AV
  | .tmp t => a[t]?
  | .cell t n => match a[t]? with
    | some (.ptr b o) => (S.bx[b]?).bind fun cs => takeCells cs o n
    | _ => none
def one : List AV → AV
  | [v] => v
  | vs => .tup vs
def evRes (a : List AV) (S : St) (rs : List ARes) : Option AV := (rs.mapM (evRes1 a S)).map one

theorem res1_ok {P : Program} {G : Gh} {S : St} {w : World} {a : List AV} {act : Act} (hI : Inv G S w) (hR : Rel G a act) {r : ResultVar} {r' : ARes} {v : AV} (hc : compRes P r = some r') (hv : evRes1 a S r' = some v) :
    ∃ u, ((match r with | .tmp t => pure (act.tmps.getD t undef) | .cell a t => do loadVar t (← asAddr (act.tmps.getD a undef)) : Sem Value)).run P w = .ok u w ∧ VR G v u := by
  have hslot : ∀ t x, a[t]? = some x → VR G x (act.tmps.getD t undef) := fun t x h => by
    have hlt : t < act.tmps.size := by rw [hR.size]; exact (List.getElem?_eq_some_iff.1 h).1
    simpa [Array.getD, hlt] using hR.slot t x _ h (Array.getElem?_eq_getElem hlt)
  cases r with
  | tmp t =>
    cases hc
    exact ⟨_, by simp, hslot t v hv⟩
  | cell t ty =>
    simp only [compRes, Option.map_eq_some_iff] at hc
    obtain ⟨n, hn, rfl⟩ := hc
    simp only [evRes1] at hv
    split at hv
    · rename_i b o h
      simp only [Option.bind_eq_some_iff] at hv
      obtain ⟨cs, hcs, hv⟩ := hv
      obtain ⟨B, hB, hu⟩ := (hslot t _ h).inv_ptr
      obtain ⟨u, h1, h2⟩ := loadVar_ok hn (hI.reads hB hcs) hv
      rw [Nat.zero_add] at h1
      exact ⟨u, by simp only [hu, asAddr, Sem.run_bind, Sem.run_pure, Result.andThen_ok, h1], h2⟩
    · cases hv

theorem res_ok {P : Program} {G : Gh} {S : St} {w : World} {a : List AV} {act : Act} (hI : Inv G S w) (hR : Rel G a act) {fn : Func} {rs : List ARes} {v : AV} (hc : fn.results.toList.mapM (compRes P) = some rs) (hv : evRes a S rs = some v) : ∃ u, (results fn act.tmps).run P w = .ok u w ∧ VR G v u := by
  simp only [evRes, Option.map_eq_some_iff] at hv
  obtain ⟨vs, hvs, rfl⟩ := hv
  obtain ⟨f, hf⟩ : ∃ f : ResultVar → Sem Value, f = (fun r => (match r with | .tmp t => pure (act.tmps.getD t undef) | .cell a t => do loadVar t (← asAddr (act.tmps.getD a undef)) : Sem Value)) := ⟨_, rfl⟩
  have key : ∀ (l : List ResultVar) (rs : List ARes) (vs : List AV), l.mapM (compRes P) = some rs → rs.mapM (evRes1 a S) = some vs →
      ∃ us : List Value, (l.mapM f).run P w = .ok us w ∧ us.length = vs.length ∧ ∀ (i : Nat) x u, vs[i]? = some x → us[i]? = some u → VR G x u := by
    intro l
    induction l with
    | nil => intro rs vs h1 h2; simp at h1; subst h1; simp at h2; subst h2; exact ⟨[], by simp, rfl, fun i x u h => by simp at h⟩
    | cons r l ih =>
      intro rs vs h1 h2
      rw [List.mapM_cons] at h1
      simp only [Option.bind_eq_bind, Option.bind_eq_some_iff, Option.pure_def, Option.some.injEq] at h1
      obtain ⟨r', hr', rs', hrs', rfl⟩ := h1
      rw [List.mapM_cons] at h2
      simp only [Option.bind_eq_bind, Option.bind_eq_some_iff, Option.pure_def, Option.some.injEq] at h2
      obtain ⟨v, hv, vs', hvs', rfl⟩ := h2
      obtain ⟨u, k1, k2⟩ := res1_ok hI hR hr' hv
      have k1 : (f r).run P w = .ok u w := by rw [hf]; exact k1
      obtain ⟨us, k3, k4, k5⟩ := ih rs' vs' hrs' hvs'
      refine ⟨u :: us, ?_, by simp [k4], fun i x y hx hy => ?_⟩
      · rw [List.mapM_cons]
        simp only [Sem.run_bind, k1, Result.andThen_ok, k3, Sem.run_pure]
      · cases i with
        | zero => simp at hx hy; subst hx hy; exact k2
        | succ i => exact k5 i x y (by simpa using hx) (by simpa using hy)
  obtain ⟨us, h1, h2, h3⟩ := key _ rs vs hc hvs
  have hrun : (results fn act.tmps).run P w = .ok (if h : us.toArray.size = 1 then us.toArray[0] else .tuple us.toArray) w := by
    have e : results fn act.tmps = (do let vs ← fn.results.mapM f; pure (if h : vs.size = 1 then vs[0] else .tuple vs) : Sem Value) := by rw [hf]; rfl
    rw [e, Array.mapM_eq_mapM_toList]
    simp [h1]
  refine ⟨_, hrun, ?_⟩
  clear h1 hrun hvs key
  match vs, us, h2, h3 with
  | [], [], _, _ => exact .tup [] #[] rfl (fun i x u h => by simp at h)
  | [v], [u], _, h3 => simpa [one] using h3 0 v u rfl rfl
  | v :: v2 :: vs, u :: u2 :: us, h2, h3 =>
    rw [dif_neg (by simp)]
    exact .tup _ _ (by simpa using h2) fun i x y hx hy => h3 i x y hx (by simpa using hy)

/-- The slots at the beginning. -/
def start (F : AFn) (as : List AV) : List AV := as ++ List.replicate (F.ntmps - as.length) (.tup [])

theorem calls_of {P : Program} {f : FuncId} {F : AFn} {fn : Func} {c : Code} (hf : P.funcs[f]? = some fn) (hb : fn.body = some c) (hF : compFn P f = some F) {as : List AV} {S : St} {x : AEx} {a' : List AV} {S' : St} {v : AV}
    (hr : Run .plain P c (start F as) S x a' S') (hx : x = .norm ∨ x = .ret) (hv : evRes a' S' F.res = some v) :
    (∀ (us : Array Value) (w : World), (callFunc f us).run P w = .ok (.enter f us) w) ∧ ∀ (G : Gh) (w : World) (us : Array Value), Inv G S w → VRs G as us → Calls P f us w fun e w' => ∃ u G', e = .returned u ∧ VR G' v u ∧ Inv G' S' w' ∧ Gro G S w G' S' w' ∧ Keep G S G' S' := by
  unfold compFn at hF
  rw [hf] at hF
  simp only [hb] at hF
  split at hF
  · rename_i c0 rs hc0 hrs
    cases hc0
    split at hF
    · rename_i ac hac
      split at hF
      · cases hF
      · rename_i hname
        cases hF
        refine ⟨fun us w => ?_, fun G w us hI hvs => ?_⟩
        · simp only [callFunc, program, Sem.run, hf, Sem.run_bind, Result.andThen_ok, hname, hb]
          rfl
        · refine calls_of_wp hf hb ?_
          have hR : Rel G (start ⟨fn.params.size, fn.ntmps, rs, ac⟩ as) { tmps := us ++ Array.replicate (fn.ntmps - us.size) undef, defers := [] } := by
            refine ⟨by simp [start, hvs.1], fun i y u hy hu => ?_⟩
            simp only [start] at hy
            simp only at hu
            rw [List.getElem?_append] at hy
            rw [Array.getElem?_append, hvs.1] at hu
            split at hy
            · rename_i hlt
              rw [if_pos hlt] at hu
              exact hvs.2 i y u hy hu
            · rename_i hlt
              rw [if_neg hlt] at hu
              have e1 := List.eq_of_mem_replicate (List.mem_of_getElem? hy)
              have e2 : u ∈ (Array.replicate (fn.ntmps - as.length) undef) := Array.mem_of_getElem? hu
              have e3 := (Array.mem_replicate.1 e2).2
              rw [e1, e3]
              exact .undef G
          refine wp_mono (hr G _ w hI hR) ?_
          rintro e act' w' ⟨he, G', hI', hR', hg, hk, hd⟩
          obtain ⟨u, h1, h2⟩ := res_ok hI' hR' hrs hv
          rcases hx with rfl | rfl
          · subst he; exact ⟨hd, u, h1, u, G', rfl, h2, hI', hg, hk⟩
          · subst he; exact ⟨hd, u, h1, u, G', rfl, h2, hI', hg, hk⟩
    · cases hF
  · cases hF

theorem contract_of {P : Program} {f : FuncId} {F : AFn} {fn : Func} {c : Code} (hf : P.funcs[f]? = some fn) (hb : fn.body = some c) (hF : compFn P f = some F) {as : List AV} {cells cells' : List (List AV)} {x : AEx} {a' : List AV} {S' : St} {v : AV}
    (hr : Run .plain P c (start F as) ⟨cells, []⟩ x a' S') (hx : x = .norm ∨ x = .ret) (hv : evRes a' S' F.res = some v) (hl : cells.length ≤ cells'.length) (hcells : ∃ bx, S'.bx = cells' ++ bx) : Contract P f as cells v cells' := by
  obtain ⟨h1, h2⟩ := calls_of hf hb hF hr hx hv
  refine ⟨h1, hl, fun G w us hI hvs => (h2 G w us hI hvs).mono ?_⟩
  rintro e w' ⟨u, G', rfl, k1, k2, k3, _⟩
  obtain ⟨bx, hbx⟩ := hcells
  obtain ⟨S'bx, S'lv⟩ := S'
  simp only at hbx
  subst hbx
  exact ⟨u, G', bx, S'lv, rfl, k1, k2, k3⟩
end Go.Proofs.Ytncaneioenanjaa
