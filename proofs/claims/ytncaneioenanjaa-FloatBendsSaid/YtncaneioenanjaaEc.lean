/- The engine, part 3: what an operation does in a world is what aop says: the ones that touch no memory. Own work; imports no translation. -/
import Derived.Test.YtncaneioenanjaaEb
namespace Go.Proofs.Ytncaneioenanjaa
open Go.RowKit
set_option linter.unusedVariables false
set_option linter.unusedSimpArgs false

/-- The operands stand for Go's. -/
def OpdOk (G : Gh) (a : AOpd → AV) (ρ : Operand → Value) : Prop := ∀ x y, compOpd x = some y → VR G (a y) (ρ x)

section inv
variable {G : Gh}
theorem VR.inv_int {k : IntKind} {n : Int} {u : Value} (h : VR G (.int k n) u) : u = .int k n := by cases h; rfl
theorem VR.inv_bool {b : Bool} {u : Value} (h : VR G (.bool b) u) : u = .bool b := by cases h; rfl
theorem VR.inv_str {b : ByteArray} {u : Value} (h : VR G (.str b) u) : u = .string b := by cases h; rfl
theorem VR.inv_agg {cs : List AV} {u : Value} (h : VR G (.agg cs) u) : ∃ us : Array Value, u = .agg us ∧ us.size = cs.length ∧ ∀ (i : Nat) x v, cs[i]? = some x → us[i]? = some v → VR G x v := by
  cases h with | agg _ us hl h => exact ⟨us, rfl, hl, h⟩
theorem VR.inv_tup {cs : List AV} {u : Value} (h : VR G (.tup cs) u) : ∃ us : Array Value, u = .tuple us ∧ us.size = cs.length ∧ ∀ (i : Nat) x v, cs[i]? = some x → us[i]? = some v → VR G x v := by
  cases h with | tup _ us hl h => exact ⟨us, rfl, hl, h⟩
theorem VR.inv_ptr {b o : Nat} {u : Value} (h : VR G (.ptr b o) u) : ∃ B, G.al b = some B ∧ u = .pointer (some ⟨B, o, none⟩) := by
  cases h with | ptr _ _ B h => exact ⟨B, h, rfl⟩
theorem VR.inv_ms {b n s : Nat} {u : Value} (h : VR G (.ms b n s) u) : ∃ B c, G.al b = some B ∧ u = .slice (some ⟨B, 0, none⟩) n c ∧ n ≤ c := by
  cases h with | ms _ _ _ B c h hn => exact ⟨B, c, h, rfl, hn⟩
theorem VR.inv_rop {cs : List AV} {u : Value} (h : VR G (.rop cs) u) : ∃ B O, ∃ us : Nat → Value, u = .pointer (some ⟨B, O, none⟩) ∧ (∀ (i : Nat) x, cs[i]? = some x → G.fz B (O + i) = some (us i)) ∧ ∀ (i : Nat) x, cs[i]? = some x → VR G x (us i) := by
  cases h with | rop _ B O us hf h => exact ⟨B, O, us, rfl, hf, h⟩
/-- Values stand for values, one by one. -/
def VL (G : Gh) (xs : List AV) (us : Array Value) : Prop := us.size = xs.length ∧ ∀ (i : Nat) x u, xs[i]? = some x → us[i]? = some u → VR G x u
theorem VL.append {G : Gh} {xs ys : List AV} {us vs : Array Value} (h : VL G xs us) (k : VL G ys vs) : VL G (xs ++ ys) (us ++ vs) := by
  refine ⟨by simp [h.1, k.1], fun i x u hx hu => ?_⟩
  rw [List.getElem?_append] at hx
  rw [Array.getElem?_append, h.1] at hu
  split at hx
  · rename_i hlt
    rw [if_pos hlt] at hu
    exact h.2 i x u hx hu
  · rename_i hlt
    rw [if_neg hlt] at hu
    exact k.2 _ x u hx hu
theorem VR.inv_fn {f : FuncId} {ps cs : List AV} {u : Value} (h : VR G (.fn f ps cs) u) : ∃ vs us : Array Value, u = .func (.func f) vs us ∧ VL G ps vs ∧ VL G cs us := by
  cases h with | fn _ _ _ vs us hlp hp hl h => exact ⟨vs, us, rfl, ⟨hlp, hp⟩, ⟨hl, h⟩⟩
theorem VR.inv_nils {u : Value} (h : VR G .nils u) : u = .slice none 0 0 := by cases h; rfl
/-- A slice that is read: its elements' cells lie one after the other, where nobody turns them. -/
theorem VR.inv_sl {els : List AV} {t : Option Nat} {u : Value} (h : VR G (.sl els t) u) : ∃ A c, u = .slice A els.length c ∧ (els ≠ [] → ∃ s B O, ∃ us : Nat → Value, A = some ⟨B, O, none⟩ ∧ els.length ≤ c ∧ (∀ (i : Nat) e, els[i]? = some e → e.cells.length = s) ∧
      (∀ (i : Nat) e (j : Nat) x, els[i]? = some e → e.cells[j]? = some x → G.fz B (O + (i * s + j)) = some (us (i * s + j))) ∧
      (∀ (i : Nat) e (j : Nat) x, els[i]? = some e → e.cells[j]? = some x → VR G x (us (i * s + j)))) := by
  cases h with
  | sl0 A c => exact ⟨A, c, rfl, fun h => absurd rfl h⟩
  | sl _ s B O c us hn hs hf h => exact ⟨_, c, rfl, fun _ => ⟨s, B, O, us, rfl, hn, hs, hf, h⟩⟩
  | slt _ t s B c us hb hn hs hf h => exact ⟨_, c, rfl, fun _ => ⟨s, B, 0, us, rfl, hn, hs, fun i e j x h1 h2 => by rw [Nat.zero_add]; exact hf i e j x h1 h2, h⟩⟩
  | slt0 t hb => exact ⟨none, 0, rfl, fun h => absurd rfl h⟩
end inv

theorem ofS_ok {G : Gh} {v : Value} {x : AV} (h : AV.ofS v = some x) : VR G x v := by
  unfold AV.ofS at h
  split at h <;> first | (cases h; constructor) | cases h
theorem mapM_get {α β : Type} {f : α → Option β} : ∀ {l : List α} {m : List β}, l.mapM f = some m → m.length = l.length ∧ ∀ (i : Nat) y, m[i]? = some y → ∃ x, l[i]? = some x ∧ f x = some y
  | [], m, h => by simp at h; subst h; exact ⟨rfl, fun i y h => by simp at h⟩
  | a :: l, m, h => by
    rw [List.mapM_cons] at h
    cases ha : f a with
    | none => rw [ha] at h; cases h
    | some b =>
      rw [ha] at h
      cases hl : l.mapM f with
      | none => rw [hl] at h; cases h
      | some k =>
        rw [hl] at h
        cases h
        obtain ⟨h1, h2⟩ := mapM_get hl
        refine ⟨by simp [h1], fun i y hi => ?_⟩
        cases i with
        | zero => simp at hi; subst hi; exact ⟨a, rfl, ha⟩
        | succ i => exact h2 i y hi
theorem ofS_cells {v : Value} {x : AV} (h : AV.ofS v = some x) : x.cells = [x] ∧ v.cells = #[v] := by
  unfold AV.ofS at h
  split at h <;> first | (cases h; exact ⟨rfl, rfl⟩) | cases h
theorem ofV_ok {G : Gh} {v : Value} {x : AV} (h : AV.ofV v = some x) : VR G x v := by
  unfold AV.ofV at h
  split at h
  · rename_i cs
    cases hm : cs.toList.mapM AV.ofS with
    | none => rw [hm] at h; cases h
    | some m =>
      rw [hm] at h; cases h
      obtain ⟨h1, h2⟩ := mapM_get hm
      refine .agg _ _ (by simp [h1]) fun i x u hx hu => ?_
      obtain ⟨y, hy, hf⟩ := h2 i x hx
      rw [Array.getElem?_toList, hu] at hy
      cases hy
      exact ofS_ok hf
  · rename_i cs
    cases hm : cs.toList.mapM AV.ofS with
    | none => rw [hm] at h; cases h
    | some m =>
      rw [hm] at h; cases h
      obtain ⟨h1, h2⟩ := mapM_get hm
      refine .tup _ _ (by simp [h1]) fun i x u hx hu => ?_
      obtain ⟨y, hy, hf⟩ := h2 i x hx
      rw [Array.getElem?_toList, hu] at hy
      cases hy
      exact ofS_ok hf
  · exact ofS_ok h

/-- A frame's slots stand for Go's. -/
structure Rel (G : Gh) (a : List AV) (act : Act) : Prop where
  size : act.tmps.size = a.length
  slot : ∀ (i : Nat) x u, a[i]? = some x → act.tmps[i]? = some u → VR G x u

theorem Rel.opd {G : Gh} {a : List AV} {act : Act} (h : Rel G a act) : OpdOk G (evd a) act.eval := by
  intro x y hxy
  cases x with
  | tmp t =>
    cases hxy
    show VR G (a.getD t .junk) (act.tmps.getD t undef)
    by_cases ht : t < a.length
    · have ht' : t < act.tmps.size := by rw [h.size]; exact ht
      have e1 : a[t]? = some a[t] := List.getElem?_eq_getElem ht
      have e2 : act.tmps[t]? = some act.tmps[t] := Array.getElem?_eq_getElem ht'
      have := h.slot t _ _ e1 e2
      simpa [List.getD, Array.getD, ht', e1] using this
    · have e1 : a[t]? = none := List.getElem?_eq_none (Nat.le_of_not_lt ht)
      simp only [List.getD, e1]
      exact .junk _
  | const v =>
    simp only [compOpd] at hxy
    cases hv : AV.ofV v with
    | none => rw [hv] at hxy; cases hxy
    | some z => rw [hv] at hxy; cases hxy; exact ofV_ok hv
  | func f => cases hxy; exact .fn f [] [] #[] #[] rfl (fun i x u h => by simp at h) rfl (fun i x u h => by simp at h)
  | global g => cases hxy

theorem Rel.mono {G G' : Gh} {a : List AV} {act : Act} (h : Rel G a act) (hg : G.le G') : Rel G' a act :=
  ⟨h.size, fun i x u h1 h2 => (h.slot i x u h1 h2).mono hg⟩

/-- A slot laid. -/
def putA (a : List AV) : Option Nat → AV → List AV
  | none, _ => a
  | some d, v => a.set d v

theorem Rel.put {G : Gh} {a : List AV} {act : Act} (h : Rel G a act) (d : Option Nat) {v : AV} {u : Value} (hv : VR G v u) : Rel G (putA a d v) (act.put d u) := by
  cases d with
  | none => exact h
  | some d =>
    refine ⟨by simp [putA, Act.put, h.size], fun i x y h1 h2 => ?_⟩
    simp only [putA] at h1
    simp only [Act.put] at h2
    by_cases hd : d = i
    · subst hd
      rw [List.getElem?_set] at h1
      rw [Array.getElem?_setIfInBounds] at h2
      simp only [if_true] at h1 h2
      split at h1
      · split at h2
        · cases h1; cases h2; exact hv
        · cases h2
      · cases h1
    · rw [List.getElem?_set_ne hd] at h1
      rw [Array.getElem?_setIfInBounds_ne hd] at h2
      exact h.slot i x y h1 h2

/-- It comes to a value, and the world stays. -/
def ValOk (P : Program) (G : Gh) (w : World) (o : Oper) (ρ : Operand → Value) (v : AV) : Prop := ∃ u, (execOp ρ o).run P w = .ok (.value u) w ∧ VR G v u

section ops
variable {P : Program} {G : Gh} {w : World} {o : Oper} {ρ : Operand → Value} {a : AOpd → AV} {S : St}

theorem mov_ok {x : Operand} {y : AOpd} (ho : o.op = .move x ∨ o.op = .assign x) (hy : compOpd x = some y) (h : OpdOk G a ρ) : ValOk P G w o ρ (a y) := by
  refine ⟨ρ x, ?_, h x y hy⟩
  rcases ho with ho | ho <;> simp [execOp, ho]

theorem pick_ok {c x y : Operand} {c' x' y' : AOpd} {b : Bool} (ho : o.op = .pick c x y) (hc : compOpd c = some c') (hx : compOpd x = some x') (hy : compOpd y = some y') (h : OpdOk G a ρ) (hb : a c' = .bool b) : ValOk P G w o ρ (if b then a x' else a y') := by
  have e := (hb ▸ h c c' hc).inv_bool
  refine ⟨if b then ρ x else ρ y, ?_, ?_⟩
  · simp [execOp, ho, e, asBool]
  · cases b
    · exact h y y' hy
    · exact h x x' hx

theorem VL.opds {cs : List AOpd} {caps : Array Operand} (hc : compOpds caps = some cs) (h : OpdOk G a ρ) : VL G (cs.map a) (caps.map ρ) := by
  obtain ⟨h1, h2⟩ := mapM_get hc
  refine ⟨by simp [h1], fun i x u hx hu => ?_⟩
  simp only [List.getElem?_map, Array.getElem?_map, Option.map_eq_some_iff] at hx hu
  obtain ⟨y, hy, rfl⟩ := hx
  obtain ⟨z, hz, rfl⟩ := hu
  obtain ⟨z', hz', hf⟩ := h2 i y hy
  rw [Array.getElem?_toList, hz] at hz'
  cases hz'
  exact h _ _ hf

theorem mkfn_ok {f : FuncId} {first caps : Array Operand} {ps cs : List AOpd} (ho : o.op = .makeFunc (.func f) first caps) (hp : compOpds first = some ps) (hc : compOpds caps = some cs) (h : OpdOk G a ρ) : ValOk P G w o ρ (.fn f (ps.map a) (cs.map a)) := by
  have h1 := VL.opds hp h
  have h2 := VL.opds hc h
  exact ⟨.func (.func f) (first.map ρ) (caps.map ρ), by simp [execOp, ho, Instr.makeFunc], .fn _ _ _ _ _ h1.1 h1.2 h2.1 h2.2⟩

theorem ext_ok {t : Operand} {t' : AOpd} {i : Nat} {vs : List AV} {v : AV} (ho : o.op = .extract t i) (ht : compOpd t = some t') (h : OpdOk G a ρ) (hv : a t' = .tup vs) (hi : vs[i]? = some v) : ValOk P G w o ρ v := by
  obtain ⟨us, hu, hl, hr⟩ := (hv ▸ h t t' ht).inv_tup
  have hlt : i < us.size := by rw [hl]; exact (List.getElem?_eq_some_iff.1 hi).1
  have hui : us[i]? = some us[i] := Array.getElem?_eq_getElem hlt
  exact ⟨us[i], by simp [execOp, ho, Instr.extract, hu, hlt], hr i v _ hi hui⟩

theorem conv_ok {src dst : TypeId} {d : TypeDesc} {k k' : IntKind} {n : Int} {x : Operand} {x' : AOpd} (ho : o.op = .convert src dst x) (hs : P.underlying src = some d) (hd : P.underlying dst = some (.int k)) (hx : compOpd x = some x') (h : OpdOk G a ρ) (hv : a x' = .int k' n) : ValOk P G w o ρ (.int k (k.wrap n)) := by
  have e := (hv ▸ h x x' hx).inv_int
  exact ⟨.int k (k.wrap n), by simp [execOp, ho, convert, run_underlying hs, run_underlying hd, e, Conv.intToInt], .int _ _⟩

theorem un_ok {op : UnOp} {t : TypeId} {x : Operand} {x' : AOpd} {v : AV} (ho : o.op = .unOp op t x) (hx : compOpd x = some x') (h : OpdOk G a ρ) (hv : aop (.un op x') a S = some (.val v)) : ValOk P G w o ρ v := by
  have hr := h x x' hx
  simp only [aop] at hv
  split at hv
  · rename_i k n e
    cases hv
    rw [e] at hr
    exact ⟨_, by simp [execOp, ho, Op.unary, hr.inv_int, Op.intArith], .int _ _⟩
  · rename_i b e
    cases hv
    rw [e] at hr
    exact ⟨_, by simp [execOp, ho, Op.unary, hr.inv_bool], .bool _⟩
  · cases hv

theorem cmpI_ok {op : BinOp} {x y : Int} {b : Bool} (h : cmpI op x y = some b) : Op.intCmp op x y = pure (.bool b) := by
  cases op <;> simp only [cmpI, Option.some.injEq, reduceCtorEq] at h <;> first | (subst h; rfl) | cases h
theorem binA_ok {op : BinOp} {x y : AV} {v : AV} {t : TypeId} {u1 u2 : Value} (h : binA op x y = some v) (h1 : VR G x u1) (h2 : VR G y u2) : ∃ u, (binOp op t u1 u2).run P w = .ok u w ∧ VR G v u ∧ (∀ X Y : Operand, (eqGuard op t X Y u1 u2).run P w = .ok () w) := by
  unfold binA at h
  split at h
  · rename_i k x k' y
    cases h1.inv_int; cases h2.inv_int
    have hg : ∀ X Y : Operand, (eqGuard op t X Y (.int k x) (.int k' y)).run P w = .ok () w := by
      intro X Y
      unfold eqGuard
      split <;> simp
    split at h
    · split at h
      · cases h
      · rename_i hy; cases h
        exact ⟨_, by simp [binOp, Op.shift, hy], .int _ _, hg⟩
    · split at h
      · cases h
      · rename_i hy; cases h
        exact ⟨_, by simp [binOp, Op.shift, hy], .int _ _, hg⟩
    · rename_i ns1 ns2
      split at h
      · cases h
      · rename_i hk
        have hk : k = k' := Classical.not_not.1 hk
        subst hk
        cases op <;> simp only [Option.map_eq_some_iff] at h <;>
          first
          | exact absurd rfl ns1
          | exact absurd rfl ns2
          | (cases h; exact ⟨_, by simp only [binOp, ne_eq, not_true, if_false, Op.intArith]; rfl, .int _ _, hg⟩)
          | (cases h; exact ⟨_, by simp only [binOp, ne_eq, not_true, if_false, Op.intBits]; rfl, .int _ _, hg⟩)
          | (split at h
             · cases h
             · rename_i hy; cases h; exact ⟨_, by simp [binOp, Op.intDiv, hy], .int _ _, hg⟩)
          | (obtain ⟨b, hb, rfl⟩ := h; simp [cmpI] at hb; done)
          | (obtain ⟨b, hb, rfl⟩ := h
             have hc := cmpI_ok hb
             exact ⟨_, by simp [binOp, hc], .bool _, hg⟩)
  · rename_i x y
    cases h1.inv_str; cases h2.inv_str
    have hg : ∀ X Y : Operand, (eqGuard op t X Y (.string x) (.string y)).run P w = .ok () w := by
      intro X Y
      unfold eqGuard
      split <;> simp
    split at h
    · split at h
      · cases h
      · rename_i hy; cases h; exact ⟨_, by simp only [binOp, Op.stringOp, hy]; simp, .str _, hg⟩
    · cases h; exact ⟨_, by simp [binOp, Op.stringOp], .bool _, hg⟩
    · cases h; exact ⟨_, by simp [binOp, Op.stringOp], .bool _, hg⟩
    · cases h; exact ⟨_, by simp [binOp, Op.stringOp], .bool _, hg⟩
    · cases h
  · cases h

theorem bin_ok {op : BinOp} {t t2 : TypeId} {x y : Operand} {x' y' : AOpd} {v : AV} (ho : o.op = .binOp op t x y t2) (hx : compOpd x = some x') (hy : compOpd y = some y') (h : OpdOk G a ρ) (hv : binA op (a x') (a y') = some v) : ValOk P G w o ρ v := by
  obtain ⟨u, h1, h2, h3⟩ := binA_ok (P := P) (w := w) (t := t) hv (h x x' hx) (h y y' hy)
  exact ⟨u, by simp [execOp, ho, h3, h1], h2⟩
end ops
end Go.Proofs.Ytncaneioenanjaa
