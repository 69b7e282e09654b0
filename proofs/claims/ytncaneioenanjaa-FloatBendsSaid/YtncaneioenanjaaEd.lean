/- The engine, part 4: operations that read memory, or make places. Own work; imports no translation. -/
import Derived.Test.YtncaneioenanjaaEc
import Derived.KernelRfl
import Derived.Laws.StructEq
namespace Go.Proofs.Ytncaneioenanjaa
open Go.RowKit
set_option linter.unusedVariables false
set_option linter.unusedSimpArgs false

theorem VR.cells {G : Gh} {x : AV} {u : Value} (h : VR G x u) (hj : x ≠ .junk) : u.cells.size = x.cells.length ∧ ∀ (i : Nat) y v, x.cells[i]? = some y → u.cells[i]? = some v → VR G y v := by
  have one : ∀ (x : AV) (u : Value), VR G x u → x.cells = [x] → u.cells = #[u] → u.cells.size = x.cells.length ∧ ∀ (i : Nat) y v, x.cells[i]? = some y → u.cells[i]? = some v → VR G y v := by
    intro x u h h1 h2
    rw [h1, h2]
    refine ⟨rfl, fun i y v hy hv => ?_⟩
    cases i with
    | zero => simp at hy hv; subst hy hv; exact h
    | succ i => simp at hy
  cases h with
  | agg cs us hl h => exact ⟨hl, h⟩
  | junk u => exact absurd rfl hj
  | int k n => exact one _ _ (.int k n) rfl rfl
  | bool b => exact one _ _ (.bool b) rfl rfl
  | str s => exact one _ _ (.str s) rfl rfl
  | tup cs us hl h => exact one _ _ (.tup cs us hl h) rfl rfl
  | nilp => exact one _ _ .nilp rfl rfl
  | ptr b o B h => exact one _ _ (.ptr b o B h) rfl rfl
  | rop cs B O us hf h => exact one _ _ (.rop cs B O us hf h) rfl rfl
  | nils => exact one _ _ .nils rfl rfl
  | sl0 A c => exact one _ _ (.sl0 A c) rfl rfl
  | sl els s B O c us hn hs hf h => exact one _ _ (.sl els s B O c us hn hs hf h) rfl rfl
  | slt els t s B c us hb hn hs hf h => exact one _ _ (.slt els t s B c us hb hn hs hf h) rfl rfl
  | slt0 t hb => exact one _ _ (.slt0 t hb) rfl rfl
  | ms b n s B c h hn => exact one _ _ (.ms b n s B c h hn) rfl rfl
  | fn f ps cs vs us hlp hp hl h => exact one _ _ (.fn f ps cs vs us hlp hp hl h) rfl rfl
  | nilf => exact one _ _ .nilf rfl rfl

theorem VR.scalar {G : Gh} {x : AV} {u : Value} (h : VR G x u) (hs : x.scalar = true) : u.oneCell' = true := by
  cases h <;> first | rfl | simp [AV.scalar] at hs

theorem okCells_iff {x : AV} (h : x.okCells = true) : x ≠ .junk ∧ ∀ y ∈ x.cells, y.scalar = true := by
  unfold AV.okCells at h
  simp only [Bool.and_eq_true, List.all_eq_true] at h
  refine ⟨?_, h.1⟩
  rintro rfl
  simp at h

theorem VR.okCells {G : Gh} {x : AV} {u : Value} (h : VR G x u) (hk : x.okCells = true) : u.cells.size = x.cells.length ∧ (∀ (i : Nat) y v, x.cells[i]? = some y → u.cells[i]? = some v → VR G y v) ∧ ∀ v ∈ u.cells.toList, v.oneCell' = true := by
  obtain ⟨h1, h2⟩ := okCells_iff hk
  obtain ⟨h3, h4⟩ := h.cells h1
  refine ⟨h3, h4, fun v hv => ?_⟩
  obtain ⟨i, hi, rfl⟩ := List.mem_iff_getElem.1 hv
  have hlt : i < u.cells.size := by simpa using hi
  have hx : i < x.cells.length := by omega
  exact (h4 i x.cells[i] u.cells[i] (List.getElem?_eq_getElem hx) (Array.getElem?_eq_getElem hlt)).scalar (h2 _ (List.getElem_mem hx))

section ops
variable {P : Program} {G : Gh} {w : World} {o : Oper} {ρ : Operand → Value} {a : AOpd → AV} {S : St}

/-- A new box. -/
def BoxOk (P : Program) (G : Gh) (w : World) (o : Oper) (ρ : Operand → Value) (cs : List AV) : Prop :=
  ∃ (us : Array Value) (T : TypeId), (execOp ρ o).run P w = .ok (.value (.pointer (some ⟨w.heap.size, 0, none⟩))) (w.alloc (.cells us T)) ∧ us.size = cs.length ∧ ∀ (i : Nat) x u, cs[i]? = some x → us[i]? = some u → VR G x u

theorem box_ok {t : TypeId} {x : Operand} {y : AOpd} (ho : o.op = .box t x) (hy : compOpd x = some y) (h : OpdOk G a ρ) (hj : a y ≠ .junk) : BoxOk P G w o ρ (a y).cells := by
  obtain ⟨h1, h2⟩ := (h x y hy).cells hj
  exact ⟨(ρ x).cells, t, by simp [execOp, ho, Instr.box, newVar, newRow], h1, h2⟩

theorem zeroOf_ok {t : TypeId} {z : List AV} (h : zeroOf P t = some z) : ∃ i v, P.info? t = some i ∧ i.zero = some v ∧ v.cells.size = i.size ∧ z.length = i.size ∧ ∀ (G : Gh) (j : Nat) x u, z[j]? = some x → v.cells[j]? = some u → VR G x u := by
  unfold zeroOf at h
  cases hi : P.info? t with
  | none => rw [hi] at h; cases h
  | some i =>
    rw [hi] at h
    simp only at h
    cases hz : i.zero with
    | none => rw [hz] at h; cases h
    | some v =>
      rw [hz] at h
      simp only at h
      split at h
      · rename_i hs
        obtain ⟨h1, h2⟩ := mapM_get h
        refine ⟨i, v, rfl, hz, hs, by simpa [hs] using h1, fun G j x u hx hu => ?_⟩
        obtain ⟨y, hy, hf⟩ := h2 j x hx
        rw [Array.getElem?_toList, hu] at hy
        cases hy
        exact ofS_ok hf
      · cases h

theorem alloc_ok {t : TypeId} {z : List AV} (ho : o.op = .alloc t) (hz : zeroOf P t = some z) : BoxOk P G w o ρ z := by
  obtain ⟨i, v, h1, h2, h3, h4, h5⟩ := zeroOf_ok hz
  refine ⟨v.cells, t, ?_, by rw [h3, h4], fun j x u => h5 G j x u⟩
  simp [execOp, ho, Instr.alloc, newVar, newRow, zeroValue, typeInfo, h1, h2]

theorem aggOf_ok {t : TypeId} {n : Option Nat} (h : aggOf P t = some n) (w : World) : ∃ sz, (isAgg t).run P w = .ok n.isSome w ∧ (sizeOf t).run P w = .ok sz w ∧ ∀ k, n = some k → k = sz := by
  unfold aggOf at h
  split at h
  · rename_i fs i hu hi
    cases h
    exact ⟨i.size, by simp [isAgg, run_underlying hu], by simp [sizeOf, typeInfo, hi], fun k e => by cases e; rfl⟩
  · rename_i k e i hu hi
    cases h
    exact ⟨i.size, by simp [isAgg, run_underlying hu], by simp [sizeOf, typeInfo, hi], fun k e => by cases e; rfl⟩
  · rename_i d i n1 n2 hu hi
    cases h
    refine ⟨i.size, ?_, by simp [sizeOf, typeInfo, hi], fun k e => by cases e⟩
    simp only [isAgg, Sem.run_bind, run_underlying hu, Result.andThen_ok]
    rfl
  · cases h

/-- Cells that can be read from an address on. -/
def Reads (G : Gh) (w : World) (B O : Nat) (cs : List AV) : Prop := ∀ (i : Nat) x, cs[i]? = some x → ∃ u, w.cell? ⟨B, O + i, none⟩ = some u ∧ VR G x u

theorem Reads.drop {B O : Nat} {cs : List AV} (h : Reads G w B O cs) (k : Nat) : Reads G w B (O + k) (cs.drop k) := by
  intro i x hx
  rw [List.getElem?_drop] at hx
  have := h (k + i) x hx
  rwa [← Nat.add_assoc] at this

theorem loadVar_ok {t : TypeId} {n : Option Nat} {B O o' : Nat} {cs : List AV} {v : AV} (hn : aggOf P t = some n) (hr : Reads G w B O cs) (hv : takeCells cs o' n = some v) : ∃ u, (loadVar t ⟨B, O + o', none⟩).run P w = .ok u w ∧ VR G v u := by
  obtain ⟨sz, h1, h2, h3⟩ := aggOf_ok hn w
  cases n with
  | none =>
    obtain ⟨u, hu, hvr⟩ := hr o' v hv
    exact ⟨u, by simp [loadVar, h1, load, Sem.run, hu], hvr⟩
  | some k =>
    have := h3 k rfl
    subst this
    simp only [takeCells] at hv
    split at hv
    · rename_i hle
      cases hv
      have hex : ∀ j, j < k → ∃ u, w.cell? ⟨B, O + o' + j, none⟩ = some u ∧ VR G (cs.getD (o' + j) .junk) u := fun j hj => by
        have hlt : o' + j < cs.length := by omega
        obtain ⟨u, h4, h5⟩ := hr (o' + j) cs[o' + j] (List.getElem?_eq_getElem hlt)
        exact ⟨u, by rw [Nat.add_assoc]; exact h4, by simpa [List.getD, List.getElem?_eq_getElem hlt] using h5⟩
      let f : Nat → Value := fun j => (w.cell? ⟨B, O + o' + j, none⟩).getD undef
      have hf : ∀ j, j < k → w.cell? (Addr.add ⟨B, O + o', none⟩ j) = some (f j) := fun j hj => by
        obtain ⟨u, h4, _⟩ := hex j hj
        rw [Addr.add_lit]
        simp [f, h4]
      have hl := run_loadCells (P := P) w ⟨B, O + o', none⟩ k f hf
      refine ⟨.agg ((List.range k).map f).toArray, by simp [loadVar, h1, h2, hl], .agg _ _ (by simp; omega) fun j x u hx hu => ?_⟩
      have hj : j < k := by
        have := (Array.getElem?_eq_some_iff.1 hu).1
        simpa using this
      obtain ⟨u', h4, h5⟩ := hex j hj
      rw [List.getElem?_take_of_lt hj, List.getElem?_drop] at hx
      have hu' : u = f j := by simpa [hj] using hu.symm
      have : f j = u' := by simp [f, h4]
      rw [hu', this]
      simpa [List.getD, hx] using h5
    · cases hv

theorem Inv.reads {b B : Nat} {cs : List AV} (hI : Inv G S w) (ha : G.al b = some B) (hb : S.bx[b]? = some cs) : Reads G w B 0 cs := by
  intro i x hx
  obtain ⟨u, h1, h2, _⟩ := hI.cell ha hb hx
  exact ⟨u, by rw [Nat.zero_add]; exact h1, h2⟩

theorem load_ok {t : TypeId} {n : Option Nat} {x : Operand} {y : AOpd} {v : AV} (ho : o.op = .load t x) (hn : aggOf P t = some n) (hy : compOpd x = some y) (h : OpdOk G a ρ) (hI : Inv G S w) (hv : aop (.load n y) a S = some (.val v)) : ValOk P G w o ρ v := by
  have hr := h x y hy
  simp only [aop] at hv
  split at hv
  · rename_i cs e
    rw [e] at hr
    obtain ⟨B, O, us, hu, hf, hc⟩ := hr.inv_rop
    simp only [Option.map_eq_some_iff, Res.val.injEq, exists_eq_right] at hv
    have hR : Reads G w B O cs := fun i x hx => ⟨us i, hI.fz _ _ _ (hf i x hx), hc i x hx⟩
    obtain ⟨u, h1, h2⟩ := loadVar_ok hn hR hv
    rw [Nat.add_zero] at h1
    exact ⟨u, by simp [execOp, ho, Instr.loadAt, Instr.sureAddr, hu, h1], h2⟩
  · rename_i b o' e
    rw [e] at hr
    obtain ⟨B, hB, hu⟩ := hr.inv_ptr
    simp only [Option.bind_eq_some_iff, Option.map_eq_some_iff, Res.val.injEq, exists_eq_right] at hv
    obtain ⟨cs, hcs, hv⟩ := hv
    obtain ⟨u, h1, h2⟩ := loadVar_ok hn (hI.reads hB hcs) hv
    rw [Nat.zero_add] at h1
    exact ⟨u, by simp [execOp, ho, Instr.loadAt, Instr.sureAddr, hu, h1], h2⟩
  · cases hv

theorem nilck_ok {x : Operand} {y : AOpd} {v : AV} (ho : o.op = .nilCheck x) (hy : compOpd x = some y) (h : OpdOk G a ρ) (hv : aop (.nilck y) a S = some (.val v)) : ValOk P G w o ρ v := by
  have hr := h x y hy
  simp only [aop] at hv
  split at hv
  · rename_i b o' e
    cases hv; rw [e] at hr
    obtain ⟨B, hB, hu⟩ := hr.inv_ptr
    exact ⟨_, by simp [execOp, ho, hu], .ptr b o' B hB⟩
  · rename_i cs e
    cases hv; rw [e] at hr
    obtain ⟨B, O, us, hu, hf, hc⟩ := hr.inv_rop
    exact ⟨_, by simp [execOp, ho, hu], .rop cs B O us hf hc⟩
  · rename_i f ps caps e
    cases hv; rw [e] at hr
    obtain ⟨vs, us, hu, hp, hc⟩ := hr.inv_fn
    exact ⟨_, by simp [execOp, ho, hu], .fn f ps caps vs us hp.1 hp.2 hc.1 hc.2⟩
  · cases hv

theorem fieldOf_ok {t : TypeId} {f : Nat} {d : Field} (h : fieldOf P t f = some d) : ∃ fs : Array Field, P.underlying t = some (.struct fs) ∧ fs[f]? = some d := by
  unfold fieldOf at h
  split at h
  · rename_i fs hu; exact ⟨fs, hu, h⟩
  · cases h

theorem faddr_ok {t : TypeId} {f : Nat} {d : Field} {i : TypeInfo} {x : Operand} {y : AOpd} {v : AV} (ho : o.op = .fieldAddr t x f) (hd : fieldOf P t f = some d) (hi : P.info? d.type = some i) (hs : i.size ≠ 0) (hy : compOpd x = some y) (h : OpdOk G a ρ) (hv : aop (.faddr y d.offset) a S = some (.val v)) : ValOk P G w o ρ v := by
  have hr := h x y hy
  obtain ⟨fs, h1, h2⟩ := fieldOf_ok hd
  simp only [aop] at hv
  split at hv
  · rename_i b o' e
    cases hv; rw [e] at hr
    obtain ⟨B, hB, hu⟩ := hr.inv_ptr
    exact ⟨_, by simp [execOp, ho, Instr.fieldAt, run_underlying h1, h2, Instr.sureAddr, hu, fieldPlace, sizeOf, typeInfo, hi, hs, Addr.add_lit], .ptr b _ B hB⟩
  · rename_i cs e
    split at hv
    · cases hv; rw [e] at hr
      obtain ⟨B, O, us, hu, hf, hc⟩ := hr.inv_rop
      refine ⟨_, by simp [execOp, ho, Instr.fieldAt, run_underlying h1, h2, Instr.sureAddr, hu, fieldPlace, sizeOf, typeInfo, hi, hs, Addr.add_lit], .rop _ B (O + d.offset) (fun j => us (d.offset + j)) (fun j x hx => ?_) (fun j x hx => ?_)⟩
      · rw [List.getElem?_drop] at hx
        rw [Nat.add_assoc]; exact hf _ x hx
      · rw [List.getElem?_drop] at hx
        exact hc _ x hx
    · cases hv
  · cases hv

theorem part_ok {t : TypeId} {n : Option Nat} {off : Nat} {cs : List AV} {us : Array Value} {v : AV} (hn : aggOf P t = some n) (hl : us.size = cs.length) (hc : ∀ (i : Nat) x u, cs[i]? = some x → us[i]? = some u → VR G x u) (hv : takeCells cs off n = some v) : ∃ u, (part t us off).run P w = .ok u w ∧ VR G v u := by
  obtain ⟨sz, h1, h2, h3⟩ := aggOf_ok hn w
  cases n with
  | none =>
    simp only [takeCells] at hv
    have hlt : off < us.size := by rw [hl]; exact (List.getElem?_eq_some_iff.1 hv).1
    exact ⟨us[off], by simp [part, h1, hlt], hc off v _ hv (Array.getElem?_eq_getElem hlt)⟩
  | some k =>
    have := h3 k rfl
    subst this
    simp only [takeCells] at hv
    split at hv
    · rename_i hle
      cases hv
      refine ⟨.agg (us.extract off (off + k)), by simp [part, h1, h2], .agg _ _ (by simp; omega) fun j x u hx hu => ?_⟩
      have hj : j < k := by
        have := (List.getElem?_eq_some_iff.1 hx).1
        simp at this; omega
      rw [List.getElem?_take_of_lt hj, List.getElem?_drop] at hx
      refine hc (off + j) x u hx ?_
      rw [Array.getElem?_extract] at hu
      split at hu
      · exact hu
      · cases hu
    · cases hv

/-! ### Values that are compared -/
theorem eqSc_ok {c d : Nat} {t : TypeId} {x y : AV} {u v : Value} {b : Bool} (ht : (c = 0 ∧ P.underlying t = some .bool) ∨ (c = 1 ∧ ∃ k, P.underlying t = some (.int k)) ∨ (c = 2 ∧ P.underlying t = some .string)) (hu : VR G x u) (hv : VR G y v) (h : eqSc c x y = some b) : (Op.equalIn (d + 1) t u v).run P w = .ok b w := by
  rcases ht with ⟨rfl, ht⟩ | ⟨rfl, k0, ht⟩ | ⟨rfl, ht⟩
  · unfold eqSc at h
    split at h <;> first
      | (cases h; rw [hu.inv_bool, hv.inv_bool]; exact run_equalIn_bool' w d t _ _ ht)
      | (exfalso; simp_all; done)
      | cases h
  · unfold eqSc at h
    split at h <;> first
      | (split at h <;> first | (rename_i hk; subst hk; cases h; rw [hu.inv_int, hv.inv_int]; exact run_equalIn_int w d t _ _ _ _ ht) | cases h)
      | (exfalso; simp_all; done)
      | cases h
  · unfold eqSc at h
    split at h <;> first
      | (cases h; rw [hu.inv_str, hv.inv_str]; exact run_equalIn_string w d t _ _ ht)
      | (exfalso; simp_all; done)
      | cases h

theorem compFs_agg {g : TypeId → Option EqT} {l : List Field} {T : EqT} {x y : AV} {b : Bool} (h : compFs P g l = some T) (he : eqT T x y = some b) : ∃ xs ys, x = .agg xs ∧ y = .agg ys := by
  cases l with
  | nil =>
    cases h
    cases x <;> cases y <;> simp only [eqT, reduceCtorEq] at he <;> exact ⟨_, _, rfl, rfl⟩
  | cons f l =>
    simp only [compFs] at h
    split at h
    · cases h
    · simp only [Option.bind_eq_bind, Option.bind_eq_some_iff, Option.pure_def, Option.some.injEq] at h
      obtain ⟨_, _, _, _, _, _, rfl⟩ := h
      cases x <;> cases y <;> simp only [eqT, reduceCtorEq] at he <;> exact ⟨_, _, rfl, rfl⟩
theorem eqSc_bool {x y : AV} {b : Bool} (h : eqT (.sc 0) x y = some b) : ∃ p q, x = .bool p ∧ y = .bool q := by
  cases x <;> cases y <;> simp only [eqT, eqSc, reduceCtorEq] at h <;> exact ⟨_, _, rfl, rfl⟩

theorem eqT_ok : ∀ (k : Nat) (t : TypeId) (T : EqT), compEq P k t = some T → ∀ (d : Nat), k ≤ d → ∀ (x y : AV) (u v : Value) (b : Bool), VR G x u → VR G y v → eqT T x y = some b → (Op.equalIn d t u v).run P w = .ok b w := by
  intro k
  induction k with
  | zero => intro t T h; cases h
  | succ k ih =>
    intro t T h d hd x y u v b hu hv he
    obtain ⟨d, rfl⟩ : ∃ e, d = e + 1 := ⟨d - 1, by omega⟩
    unfold compEq at h
    split at h
    · rename_i ht; cases h; exact eqSc_ok (.inl ⟨rfl, ht⟩) hu hv he
    · rename_i k' ht; cases h; exact eqSc_ok (.inr (.inl ⟨rfl, k', ht⟩)) hu hv he
    · rename_i ht; cases h; exact eqSc_ok (.inr (.inr ⟨rfl, ht⟩)) hu hv he
    · rename_i fs ht
      split at h
      · cases h
      · rename_i hst
        have hagg : ∃ xs ys, x = .agg xs ∧ y = .agg ys := compFs_agg h he
        obtain ⟨xs, ys, rfl, rfl⟩ := hagg
        obtain ⟨us, rfl, hl1, hc1⟩ := hu.inv_agg
        obtain ⟨vs, rfl, hl2, hc2⟩ := hv.inv_agg
        have hfo : P.fieldsOf t = fs := by simp [Program.fieldsOf, ht]
        rw [run_equalIn_struct w d t us vs (by rw [hfo]; exact ht) (by simpa using hst), hfo]
        clear hfo ht hst
        generalize fs.toList = l at h
        clear fs
        induction l generalizing T b with
        | nil =>
          cases h
          simp only [eqT, Option.some.injEq] at he
          subst he
          simp [Op.eqFields]
        | cons f l ihl =>
          simp only [compFs] at h
          split at h
          · cases h
          · rename_i hname
            simp only [Option.bind_eq_bind, Option.bind_eq_some_iff, Option.pure_def, Option.some.injEq] at h
            obtain ⟨n, hn, A, hA, B, hB, rfl⟩ := h
            simp only [eqT] at he
            split at he
            · rename_i x y hx hy
              split at he
              · rename_i p q hp hq
                simp only [Option.some.injEq] at he
                subst he
                obtain ⟨u1, g1, g2⟩ := part_ok (w := w) hn hl1 hc1 hx
                obtain ⟨v1, k1, k2⟩ := part_ok (w := w) hn hl2 hc2 hy
                have hr := ih _ _ hA d (by omega) _ _ _ _ _ g2 k2 hp
                have hrest := ihl _ _ hq hB
                simp only [Op.eqFields, ne_eq, hname, not_false_eq_true, if_true, Sem.run_bind, g1, Result.andThen_ok, k1, hr]
                cases p
                · simp
                · simpa using hrest
              · cases he
            · cases he
    · cases h

theorem eqs_ok {op : BinOp} {n : Bool} {t t2 : TypeId} {T : EqT} {k : Nat} {x y : Operand} {x' y' : AOpd} {v : AV} (ho : o.op = .binOp op t x y t2) (hn : isEq op = some n) (hT : compEq P k t = some T) (hk : k ≤ 10000) (hg : (∃ fs, P.underlying t = some (.struct fs)) ∧ P.eqGuardType P.depth t = false ∨ T = .sc 0) (hx : compOpd x = some x') (hy : compOpd y = some y') (h : OpdOk G a ρ) (hv : aop (.eqs n T x' y') a S = some (.val v)) : ValOk P G w o ρ v := by
  have h1 := h x x' hx
  have h2 := h y y' hy
  simp only [aop, Option.map_eq_some_iff, Res.val.injEq] at hv
  obtain ⟨b, hb, rfl⟩ := hv
  have he := eqT_ok (P := P) (w := w) k t T hT 10000 hk _ _ _ _ _ h1 h2 hb
  have hop : op = if n then .neq else .eql := by cases op <;> simp [isEq] at hn <;> subst hn <;> rfl
  have hsh : (∃ us vs, ρ x = .agg us ∧ ρ y = .agg vs) ∧ P.eqGuardType P.depth t = false ∨ ∃ p q, ρ x = .bool p ∧ ρ y = .bool q := by
    rcases hg with ⟨⟨fs, hfs⟩, hg⟩ | rfl
    · refine .inl ⟨?_, hg⟩
      obtain ⟨k, rfl⟩ : ∃ e, k = e + 1 := ⟨k - 1, by cases k <;> simp_all [compEq]⟩
      unfold compEq at hT
      rw [hfs] at hT
      simp only at hT
      split at hT
      · cases hT
      · have : ∃ xs ys, a x' = .agg xs ∧ a y' = .agg ys := compFs_agg hT hb
        obtain ⟨xs, ys, e1, e2⟩ := this
        rw [e1] at h1; rw [e2] at h2
        obtain ⟨us, hu, _⟩ := h1.inv_agg
        obtain ⟨vs, hv, _⟩ := h2.inv_agg
        exact ⟨us, vs, hu, hv⟩
    · right
      obtain ⟨p, q, e1, e2⟩ := eqSc_bool hb
      rw [e1] at h1; rw [e2] at h2
      exact ⟨p, q, h1.inv_bool, h2.inv_bool⟩
  refine ⟨.bool (if n then !b else b), ?_, .bool _⟩
  rcases hsh with ⟨⟨us, vs, e1, e2⟩, hg⟩ | ⟨p, q, e1, e2⟩
  · rw [e1, e2] at he
    cases n
    · simp [execOp, ho, hop, e1, e2, run_eqGuard_agg w _ t x y us vs hg, run_eql_struct, he]
    · simp [execOp, ho, hop, e1, e2, run_eqGuard_agg w _ t x y us vs hg, run_neq_struct, he]
  · rw [e1, e2] at he
    cases n
    · simp [execOp, ho, hop, e1, e2, eqGuard, binOp, Op.equal, Op.maxDepth, he]
    · simp [execOp, ho, hop, e1, e2, eqGuard, binOp, Op.equal, Op.maxDepth, he]

/-- What is nil, and what is not. -/
theorem isNil_ok {k : Nat} {x : AV} {u : Value} {p : Bool} (hx : VR G x u) (h : isNilA k x = some p) :
    (k = 0 ∧ ((p = true ∧ u = .slice none 0 0) ∨ (p = false ∧ ∃ A n c, u = .slice (some A) n c))) ∨ (k = 1 ∧ ((p = true ∧ u = .pointer none) ∨ (p = false ∧ ∃ A, u = .pointer (some A)))) ∨ (k = 2 ∧ ((p = true ∧ u = .nilFunc) ∨ (p = false ∧ ∃ f vs us, u = .func f vs us))) := by
  unfold isNilA at h
  split at h
  · cases h; cases hx; exact .inl ⟨rfl, .inl ⟨rfl, rfl⟩⟩
  · cases h
    refine .inl ⟨rfl, .inr ⟨rfl, ?_⟩⟩
    cases hx with
    | sl els s B O c us hn hs hf h => exact ⟨_, _, _, rfl⟩
    | slt els t s B c us hb hn hs hf h => exact ⟨_, _, _, rfl⟩
  · cases h
    obtain ⟨B, c, _, rfl, _⟩ := hx.inv_ms
    exact .inl ⟨rfl, .inr ⟨rfl, _, _, _, rfl⟩⟩
  · cases h; cases hx; exact .inr (.inl ⟨rfl, .inl ⟨rfl, rfl⟩⟩)
  · cases h
    obtain ⟨B, _, rfl⟩ := hx.inv_ptr
    exact .inr (.inl ⟨rfl, .inr ⟨rfl, _, rfl⟩⟩)
  · cases h
    obtain ⟨B, O, us, rfl, _⟩ := hx.inv_rop
    exact .inr (.inl ⟨rfl, .inr ⟨rfl, _, rfl⟩⟩)
  · cases h; cases hx; exact .inr (.inr ⟨rfl, .inl ⟨rfl, rfl⟩⟩)
  · cases h
    obtain ⟨vs, us, rfl, _⟩ := hx.inv_fn
    exact .inr (.inr ⟨rfl, .inr ⟨rfl, _, _, _, rfl⟩⟩)
  · cases h

theorem eqn_ok {op : BinOp} {n : Bool} {k : Nat} {t t2 : TypeId} {x y : Operand} {x' y' : AOpd} {v : AV} (ho : o.op = .binOp op t x y t2) (hn : isEq op = some n) (ht : (k = 0 ∧ ∃ e, P.underlying t = some (.slice e)) ∨ (k = 1 ∧ ∃ e, P.underlying t = some (.pointer e)) ∨ (k = 2 ∧ ∃ a b c, P.underlying t = some (.func a b c))) (hx : compOpd x = some x') (hy : compOpd y = some y') (h : OpdOk G a ρ) (hv : aop (.eqn n k x' y') a S = some (.val v)) : ValOk P G w o ρ v := by
  have h1 := h x x' hx
  have h2 := h y y' hy
  have hop : op = if n then .neq else .eql := by cases op <;> simp [isEq] at hn <;> subst hn <;> rfl
  simp only [aop] at hv
  split at hv
  · rename_i p q e1 e2
    split at hv
    · rename_i hpq
      cases hv
      have g1 := isNil_ok h1 e1
      have g2 := isNil_ok h2 e2
      have he : (eqGuard op t x y (ρ x) (ρ y)).run P w = .ok () w ∧ (∀ d, (Op.equalIn (d + 1) t (ρ x) (ρ y)).run P w = .ok (p && q) w) ∧ (binOp .eql t (ρ x) (ρ y)).run P w = ((Op.equalIn Op.maxDepth t (ρ x) (ρ y)).run P w).andThen (fun b w' => .ok (.bool b) w') ∧ (binOp .neq t (ρ x) (ρ y)).run P w = ((Op.equalIn Op.maxDepth t (ρ x) (ρ y)).run P w).andThen (fun b w' => .ok (.bool (!b)) w') := by
        rcases ht with ⟨rfl, e, ht⟩ | ⟨rfl, e, ht⟩ | ⟨rfl, a1, b1, c1, ht⟩
        · rcases g1 with ⟨_, g1⟩ | ⟨hk, _⟩ | ⟨hk, _⟩ <;> first | (exact absurd hk (by decide)) | skip
          rcases g2 with ⟨_, g2⟩ | ⟨hk, _⟩ | ⟨hk, _⟩ <;> first | (exact absurd hk (by decide)) | skip
          rcases g1 with ⟨rfl, r1⟩ | ⟨rfl, A1, n1, c1, r1⟩ <;> rcases g2 with ⟨rfl, r2⟩ | ⟨rfl, A2, n2, c2, r2⟩ <;> first
            | (simp at hpq; done)
            | (rw [r1, r2]; exact ⟨by cases op <;> simp [eqGuard], fun d => by simp [Op.equalIn, run_underlying ht], by simp only [binOp]; simp [Op.equal], by simp only [binOp]; simp [Op.equal]⟩)
        · rcases g1 with ⟨hk, _⟩ | ⟨_, g1⟩ | ⟨hk, _⟩ <;> first | (exact absurd hk (by decide)) | skip
          rcases g2 with ⟨hk, _⟩ | ⟨_, g2⟩ | ⟨hk, _⟩ <;> first | (exact absurd hk (by decide)) | skip
          rcases g1 with ⟨rfl, r1⟩ | ⟨rfl, A1, r1⟩ <;> rcases g2 with ⟨rfl, r2⟩ | ⟨rfl, A2, r2⟩ <;> first
            | (simp at hpq; done)
            | (rw [r1, r2]; exact ⟨by cases op <;> simp [eqGuard], fun d => by simp [Op.equalIn, run_underlying ht], by simp only [binOp]; simp [Op.equal], by simp only [binOp]; simp [Op.equal]⟩)
        · rcases g1 with ⟨hk, _⟩ | ⟨hk, _⟩ | ⟨_, g1⟩ <;> first | (exact absurd hk (by decide)) | skip
          rcases g2 with ⟨hk, _⟩ | ⟨hk, _⟩ | ⟨_, g2⟩ <;> first | (exact absurd hk (by decide)) | skip
          rcases g1 with ⟨rfl, r1⟩ | ⟨rfl, A1, B1, C1, r1⟩ <;> rcases g2 with ⟨rfl, r2⟩ | ⟨rfl, A2, B2, C2, r2⟩ <;> first
            | (simp at hpq; done)
            | (rw [r1, r2]; exact ⟨by cases op <;> simp [eqGuard], fun d => by simp [Op.equalIn, run_underlying ht], by simp only [binOp]; simp [Op.equal], by simp only [binOp]; simp [Op.equal]⟩)
      obtain ⟨f1, f2, f3, f4⟩ := he
      refine ⟨.bool (if n then !(p && q) else p && q), ?_, .bool _⟩
      have f5 := f2 9999
      cases n
      · have : op = .eql := hop
        subst this
        simp only [execOp, ho, Sem.run_bind, f1, Result.andThen_ok, f3, Op.maxDepth, f5, Sem.run_pure]
        rfl
      · have : op = .neq := hop
        subst this
        simp only [execOp, ho, Sem.run_bind, f1, Result.andThen_ok, f4, Op.maxDepth, f5, Sem.run_pure]
        rfl
    · cases hv
  · cases hv

theorem fld_ok {t : TypeId} {f : Nat} {d : Field} {n : Option Nat} {x : Operand} {y : AOpd} {v : AV} (ho : o.op = .field t x f) (hd : fieldOf P t f = some d) (hn : aggOf P d.type = some n) (hy : compOpd x = some y) (h : OpdOk G a ρ) (hv : aop (.fld y d.offset n) a S = some (.val v)) : ValOk P G w o ρ v := by
  have hr := h x y hy
  obtain ⟨fs, h1, h2⟩ := fieldOf_ok hd
  simp only [aop] at hv
  split at hv
  · rename_i cs e
    rw [e] at hr
    obtain ⟨us, hu, hl, hc⟩ := hr.inv_agg
    simp only [Option.map_eq_some_iff, Res.val.injEq, exists_eq_right] at hv
    obtain ⟨u, h3, h4⟩ := part_ok (w := w) hn hl hc hv
    exact ⟨u, by simp [execOp, ho, Instr.field, run_underlying h1, h2, hu, asAgg, h3], h4⟩
  · cases hv

theorem idx_ok {t : TypeId} {x i : Operand} {x' i' : AOpd} {v : AV} (ho : o.op = .index t x i) (ht : P.underlying t = some .string) (hx : compOpd x = some x') (hi : compOpd i = some i') (h : OpdOk G a ρ) (hv : aop (.idx x' i') a S = some (.val v)) : ValOk P G w o ρ v := by
  have h1 := h x x' hx
  have h2 := h i i' hi
  simp only [aop] at hv
  split at hv
  · rename_i b k n e1 e2
    rw [e1] at h1; rw [e2] at h2
    split at hv
    · rename_i hn
      simp only [Option.map_eq_some_iff, Res.val.injEq] at hv
      obtain ⟨c, hc, rfl⟩ := hv
      exact ⟨_, by simp [execOp, ho, Instr.index, run_underlying ht, h1.inv_str, h2.inv_int, asIntOf, hn, hc], .int _ _⟩
    · cases hv
  · cases hv

theorem aidx_ok {t e : TypeId} {len : Nat} {j : TypeInfo} {n : Option Nat} {x i : Operand} {x' i' : AOpd} {v : AV} (ho : o.op = .index t x i) (ht : P.underlying t = some (.array len e)) (hj : P.info? e = some j) (hn : aggOf P e = some n) (hx : compOpd x = some x') (hi : compOpd i = some i') (h : OpdOk G a ρ) (hv : aop (.aidx x' i' len j.size n) a S = some (.val v)) : ValOk P G w o ρ v := by
  have h1 := h x x' hx
  have h2 := h i i' hi
  simp only [aop] at hv
  split at hv
  · rename_i cs k m e1 e2
    rw [e1] at h1; rw [e2] at h2
    obtain ⟨us, hu, hl, hc⟩ := h1.inv_agg
    split at hv
    · rename_i hm
      simp only [Option.map_eq_some_iff, Res.val.injEq, exists_eq_right] at hv
      obtain ⟨u, h3, h4⟩ := part_ok (w := w) hn hl hc hv
      exact ⟨u, by simp [execOp, ho, Instr.index, run_underlying ht, hu, h2.inv_int, asIntOf, hm, sizeOf, typeInfo, hj, h3], h4⟩
    · cases hv
  · cases hv

theorem iaddr_ok {t e : TypeId} {j : TypeInfo} {x i : Operand} {x' i' : AOpd} {v : AV} (ho : o.op = .indexAddr t x i) (ht : P.underlying t = some (.slice e)) (hj : P.info? e = some j) (hx : compOpd x = some x') (hi : compOpd i = some i') (h : OpdOk G a ρ) (hv : aop (.iaddr x' i' j.size none) a S = some (.val v)) : ValOk P G w o ρ v := by
  have h1 := h x x' hx
  have h2 := h i i' hi
  simp only [aop] at hv
  split at hv
  · rename_i els tk k n e1 e2
    rw [e1] at h1; rw [e2] at h2
    split at hv
    · rename_i hn
      simp only [Option.bind_eq_some_iff] at hv
      obtain ⟨el, hel, hv⟩ := hv
      split at hv
      · rename_i hsz
        cases hv
        obtain ⟨A, c, hu, hrest⟩ := h1.inv_sl
        obtain ⟨s, B, O, us, rfl, hc, hs, hf, hvr⟩ := hrest (by rintro rfl; simp at hel)
        have hss : s = j.size := by rw [← hs _ _ hel]; exact hsz
        subst hss
        refine ⟨.pointer (some ⟨B, O + n.toNat * j.size, none⟩), by simp [execOp, ho, Instr.indexAt, run_underlying ht, hu, h2.inv_int, asIntOf, hn, sizeOf, typeInfo, hj, Addr.add_lit],
          .rop _ B _ (fun q => us (n.toNat * j.size + q)) (fun q y hq => ?_) (fun q y hq => hvr _ _ _ _ hel hq)⟩
        rw [Nat.add_assoc]; exact hf _ _ _ _ hel hq
      · cases hv
    · cases hv
  · rename_i b m s' k n e1 e2
    rw [e1] at h1; rw [e2] at h2
    split at hv
    · rename_i hn
      cases hv
      obtain ⟨B, c, hB, hu, hc⟩ := h1.inv_ms
      obtain ⟨hn0, hn1, rfl⟩ := hn
      exact ⟨.pointer (some ⟨B, n.toNat * j.size, none⟩), by simp [execOp, ho, Instr.indexAt, run_underlying ht, hu, h2.inv_int, asIntOf, hn0, hn1, sizeOf, typeInfo, hj, Addr.add_lit], .ptr b _ B hB⟩
    · cases hv
  · cases hv

theorem iaddr2_ok {t e : TypeId} {len : Nat} {j : TypeInfo} {x i : Operand} {x' i' : AOpd} {v : AV} (ho : o.op = .indexAddr t x i) (ht : P.underlying t = some (.array len e)) (hj : P.info? e = some j) (hx : compOpd x = some x') (hi : compOpd i = some i') (h : OpdOk G a ρ) (hv : aop (.iaddr x' i' j.size (some len)) a S = some (.val v)) : ValOk P G w o ρ v := by
  have h1 := h x x' hx
  have h2 := h i i' hi
  simp only [aop] at hv
  split at hv
  · rename_i b o' k n e1 e2
    rw [e1] at h1; rw [e2] at h2
    split at hv
    · rename_i hn
      cases hv
      obtain ⟨B, hB, hu⟩ := h1.inv_ptr
      exact ⟨.pointer (some ⟨B, o' + n.toNat * j.size, none⟩), by simp [execOp, ho, Instr.indexAt, run_underlying ht, hu, h2.inv_int, asIntOf, Instr.sureAddr, hn, sizeOf, typeInfo, hj, Addr.add_lit], .ptr b _ B hB⟩
    · cases hv
  · rename_i cs k n e1 e2
    rw [e1] at h1; rw [e2] at h2
    split at hv
    · rename_i hn
      cases hv
      obtain ⟨B, O, us, hu, hf, hc⟩ := h1.inv_rop
      obtain ⟨hn0, hn1, hn2⟩ := hn
      refine ⟨.pointer (some ⟨B, O + n.toNat * j.size, none⟩), by simp [execOp, ho, Instr.indexAt, run_underlying ht, hu, h2.inv_int, asIntOf, Instr.sureAddr, hn0, hn1, sizeOf, typeInfo, hj, Addr.add_lit],
        .rop _ B _ (fun q => us (n.toNat * j.size + q)) (fun q y hq => ?_) (fun q y hq => ?_)⟩
      · rw [List.getElem?_drop] at hq
        rw [Nat.add_assoc]; exact hf _ _ hq
      · rw [List.getElem?_drop] at hq
        exact hc _ _ hq
    · cases hv
  · cases hv

theorem lens_ok {t : TypeId} {x : Operand} {x' : AOpd} {v : AV} (ho : o.op = .call { callee := .builtin .len, args := #[x], argTypes := #[t] }) (ht : P.underlying t = some .string) (hx : compOpd x = some x') (h : OpdOk G a ρ) (hv : aop (.len true x') a S = some (.val v)) : ValOk P G w o ρ v := by
  have h1 := h x x' hx
  simp only [aop] at hv
  split at hv
  · rename_i b e
    cases hv; rw [e] at h1
    exact ⟨_, by simp [execOp, ho, resolve, invoke, builtin, Builtin.len_, run_underlying ht, h1.inv_str, goInt], .int _ _⟩
  · cases hv
theorem len_ok {t el : TypeId} {x : Operand} {x' : AOpd} {v : AV} (ho : o.op = .call { callee := .builtin .len, args := #[x], argTypes := #[t] }) (ht : P.underlying t = some (.slice el)) (hx : compOpd x = some x') (h : OpdOk G a ρ) (hv : aop (.len false x') a S = some (.val v)) : ValOk P G w o ρ v := by
  have h1 := h x x' hx
  simp only [aop] at hv
  split at hv
  · rename_i els tk e
    cases hv; rw [e] at h1
    obtain ⟨A, c, hu, _⟩ := h1.inv_sl
    exact ⟨_, by simp [execOp, ho, resolve, invoke, builtin, Builtin.len_, run_underlying ht, hu, goInt], .int _ _⟩
  · rename_i e
    cases hv; rw [e] at h1
    exact ⟨_, by simp [execOp, ho, resolve, invoke, builtin, Builtin.len_, run_underlying ht, h1.inv_nils, goInt], .int _ _⟩
  · rename_i b n s e
    cases hv; rw [e] at h1
    obtain ⟨B, c, _, hu, _⟩ := h1.inv_ms
    exact ⟨_, by simp [execOp, ho, resolve, invoke, builtin, Builtin.len_, run_underlying ht, hu, goInt], .int _ _⟩
  · cases hv

theorem mn_ok {ts : Array TypeId} {x y : Operand} {x' y' : AOpd} {v : AV} (ho : o.op = .call { callee := .builtin .min, args := #[x, y], argTypes := ts }) (hx : compOpd x = some x') (hy : compOpd y = some y') (h : OpdOk G a ρ) (hv : aop (.mn x' y') a S = some (.val v)) : ValOk P G w o ρ v := by
  have h1 := h x x' hx
  have h2 := h y y' hy
  simp only [aop] at hv
  split at hv
  · rename_i k m k' n e1 e2
    cases hv; rw [e1] at h1; rw [e2] at h2
    exact ⟨_, by simp [execOp, ho, resolve, invoke, builtin, Builtin.min_, Builtin.min2, h1.inv_int, h2.inv_int], .int _ _⟩
  · cases hv
theorem mx_ok {ts : Array TypeId} {x y : Operand} {x' y' : AOpd} {v : AV} (ho : o.op = .call { callee := .builtin .max, args := #[x, y], argTypes := ts }) (hx : compOpd x = some x') (hy : compOpd y = some y') (h : OpdOk G a ρ) (hv : aop (.mx x' y') a S = some (.val v)) : ValOk P G w o ρ v := by
  have h1 := h x x' hx
  have h2 := h y y' hy
  simp only [aop] at hv
  split at hv
  · rename_i k m k' n e1 e2
    cases hv; rw [e1] at h1; rw [e2] at h2
    exact ⟨_, by simp [execOp, ho, resolve, invoke, builtin, Builtin.max_, Builtin.max2, h1.inv_int, h2.inv_int], .int _ _⟩
  · cases hv
end ops
end Go.Proofs.Ytncaneioenanjaa
