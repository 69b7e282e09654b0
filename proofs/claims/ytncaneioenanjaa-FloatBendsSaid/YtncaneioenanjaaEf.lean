/- The engine, part 6: things that are built, and slices that grow. Own work; imports no translation. -/
import Derived.Test.YtncaneioenanjaaEe
import Derived.Laws.MakeOwn
import Derived.IntWalk
namespace Go.Proofs.Ytncaneioenanjaa
open Go.RowKit
set_option linter.unusedVariables false
set_option linter.unusedSimpArgs false

/-- Cells stand for cells. -/
def RelL (G : Gh) (cs : List AV) (us : Array Value) : Prop := us.size = cs.length ∧ ∀ (i : Nat) x u, cs[i]? = some x → us[i]? = some u → VR G x u

theorem RelL.set {G : Gh} {cs : List AV} {us : Array Value} (h : RelL G cs us) {x : AV} {u : Value} (hx : VR G x u) (k : Nat) : RelL G (cs.set k x) (us.setIfInBounds k u) := by
  refine ⟨by simp [h.1], fun i y v hy hv => ?_⟩
  by_cases hk : k = i
  · subst hk
    rw [List.getElem?_set] at hy
    rw [Array.getElem?_setIfInBounds] at hv
    simp only [if_true] at hy hv
    split at hy
    · split at hv
      · cases hy; cases hv; exact hx
      · cases hv
    · cases hy
  · rw [List.getElem?_set_ne hk] at hy
    rw [Array.getElem?_setIfInBounds_ne hk] at hv
    exact h.2 i y v hy hv

theorem lay_rel {G : Gh} (off : Nat) : ∀ (vs : List Value) (xs : List AV) (k : Nat) (cells : Array Value) (cs : List AV), RelL G cs cells → vs.length = xs.length → (∀ (i : Nat) x u, xs[i]? = some x → vs[i]? = some u → VR G x u) →
    RelL G (layAt cs (off + k) xs) ((vs.zipIdx k).foldl (fun cs p => cs.setIfInBounds (off + p.2) p.1) cells)
  | [], [], k, cells, cs, h, _, _ => h
  | v :: vs, x :: xs, k, cells, cs, h, hl, hp => by
    simp only [List.zipIdx_cons, List.foldl_cons, layAt]
    have := lay_rel off vs xs (k + 1) _ _ (h.set (hp 0 x v rfl rfl) (off + k)) (by simpa using hl) (fun i y u h1 h2 => hp (i + 1) y u (by simpa using h1) (by simpa using h2))
    rwa [← Nat.add_assoc] at this
  | [], x :: xs, k, cells, cs, h, hl, _ => by simp at hl
  | v :: vs, [], k, cells, cs, h, hl, _ => by simp at hl

theorem fill_rel {G : Gh} {a : AOpd → AV} (place : Nat → Option (Nat × Nat)) : ∀ (ps : List (Nat × Value)) (qs : List (Nat × Nat × AOpd)) (cs cs' : List AV) (cells : Array Value), RelL G cs cells → ps.length = qs.length →
    (∀ (i : Nat) p q, ps[i]? = some p → qs[i]? = some q → place p.1 = some (q.1, q.2.1) ∧ VR G (a q.2.2) p.2) → fillA a cs qs = some cs' → ∃ cells', Instr.fill place cells ps = some cells' ∧ RelL G cs' cells'
  | [], [], cs, cs', cells, h, _, _, hf => by cases hf; exact ⟨cells, rfl, h⟩
  | (i, v) :: ps, (off, s, x) :: qs, cs, cs', cells, h, hl, hp, hf => by
    obtain ⟨h1, h2⟩ := hp 0 _ _ rfl rfl
    simp only at h1 h2
    simp only [fillA] at hf
    split at hf
    · rename_i hc
      simp only [Bool.and_eq_true, decide_eq_true_eq] at hc
      obtain ⟨hok, hsz, hfit⟩ := hc
      obtain ⟨g1, g2, _⟩ := h2.okCells hok
      have hlay := lay_rel off v.cells.toList (a x).cells 0 cells cs h (by simpa using g1) (fun i y u hy hu => g2 i y u hy (by simpa using hu))
      have e : (v.cells.zipIdx.foldl (fun cs x => cs.setIfInBounds (off + x.2) x.1) cells) = ((v.cells.toList.zipIdx 0).foldl (fun cs p => cs.setIfInBounds (off + p.2) p.1) cells) := by
        rw [← Array.foldl_toList, Array.toList_zipIdx]
      obtain ⟨cells', h3, h4⟩ := fill_rel place ps qs _ cs' _ hlay (by simpa using hl) (fun i p q h1 h2 => hp (i + 1) p q (by simpa using h1) (by simpa using h2)) hf
      refine ⟨cells', ?_, h4⟩
      have c1 : ¬ (v.cells.size ≠ s ∨ off + v.cells.size > cells.size) := by
        rw [g1, hsz, h.1]; omega
      simp only [Instr.fill, h1]
      rw [if_neg (by simpa using c1), e]
      exact h3
    · cases hf
  | [], q :: qs, cs, cs', cells, h, hl, _, _ => by simp at hl
  | p :: ps, [], cs, cs', cells, h, hl, _, _ => by simp at hl

section ops
variable {P : Program} {G : Gh} {w : World} {o : Oper} {ρ : Operand → Value} {a : AOpd → AV} {S : St}

theorem mapM_run {α β : Type} (f : α → Sem β) (g : α → β) (w : World) : ∀ (l : List α), (∀ x ∈ l, (f x).run P w = .ok (g x) w) → (l.mapM f).run P w = .ok (l.map g) w
  | [], _ => by simp
  | x :: l, h => by
    simp [List.mapM_cons, h x (by simp), mapM_run f g w l (fun y hy => h y (by simp [hy]))]

theorem build_ok {t : TypeId} {fs : Array Field} {z : List AV} {parts : Array (Nat × Operand)} {ps : List (Nat × Nat × AOpd)} {cs : List AV} (ho : o.op = .build t parts) (ht : P.underlying t = some (.struct fs)) (hz : zeroOf P t = some z)
    (hp : (parts.toList.mapM fun (i, x) => do let f ← fs[i]?; let j ← P.info? f.type; pure (f.offset, j.size, ← compOpd x)) = some ps) (hall : (fs.all fun f => (P.info? f.type).isSome) = true) (h : OpdOk G a ρ) (hv : fillA a z ps = some cs) : ValOk P G w o ρ (.agg cs) := by
  obtain ⟨i, v, h1, h2, h3, h4, h5⟩ := zeroOf_ok hz
  obtain ⟨hl, hm⟩ := mapM_get hp
  let pl : Field → Nat × Nat := fun f => (f.offset, ((P.info? f.type).map (·.size)).getD 0)
  have hplaces := mapM_run (P := P) (fun f : Field => (Prod.mk f.offset <$> sizeOf f.type : Sem (Nat × Nat))) pl w fs.toList (fun f hf => by
    have hs := Array.all_eq_true_iff_forall_mem.1 hall f (by simpa using hf)
    obtain ⟨j, hj⟩ := Option.isSome_iff_exists.1 hs
    simp [sizeOf, typeInfo, hj, pl])
  obtain ⟨cells', h6, h7⟩ := fill_rel (G := G) (a := a) (fun i => (fs.map pl)[i]?) ((parts.map fun x => (x.1, ρ x.2)).toList) ps z cs v.cells ⟨by rw [h3, h4], fun j x u => h5 G j x u⟩ (by simp [hl]) (fun k p q hp' hq => by
    obtain ⟨y, hy, hf⟩ := hm k q hq
    simp only [Array.toList_map, List.getElem?_map, hy, Option.map_some, Option.some.injEq] at hp'
    subst hp'
    obtain ⟨i', x'⟩ := y
    simp only [Option.bind_eq_bind, Option.bind_eq_some_iff, Option.pure_def, Option.some.injEq] at hf
    obtain ⟨f, hf1, j, hj, y', hy', rfl⟩ := hf
    exact ⟨by simp [hf1, pl, hj], h _ _ hy'⟩) hv
  refine ⟨.agg cells', ?_, .agg _ _ h7.1 h7.2⟩
  simp [execOp, ho, Instr.build, zeroValue, typeInfo, h1, h2, run_underlying ht, Array.mapM_eq_mapM_toList, hplaces]
  simp at h6
  simp [h6]

theorem builda_ok {t e : TypeId} {n : Nat} {j : TypeInfo} {z : List AV} {parts : Array (Nat × Operand)} {ps : List (Nat × Nat × AOpd)} {cs : List AV} (ho : o.op = .build t parts) (ht : P.underlying t = some (.array n e)) (hz : zeroOf P t = some z) (hj : P.info? e = some j)
    (hp : (parts.toList.mapM fun (i, x) => do pure (i * j.size, j.size, ← compOpd x)) = some ps) (h : OpdOk G a ρ) (hv : fillA a z ps = some cs) : ValOk P G w o ρ (.agg cs) := by
  obtain ⟨i, v, h1, h2, h3, h4, h5⟩ := zeroOf_ok hz
  obtain ⟨hl, hm⟩ := mapM_get hp
  obtain ⟨cells', h6, h7⟩ := fill_rel (G := G) (a := a) (fun i => some (i * j.size, j.size)) ((parts.map fun x => (x.1, ρ x.2)).toList) ps z cs v.cells ⟨by rw [h3, h4], fun j x u => h5 G j x u⟩ (by simp [hl]) (fun k p q hp' hq => by
    obtain ⟨y, hy, hf⟩ := hm k q hq
    simp only [Array.toList_map, List.getElem?_map, hy, Option.map_some, Option.some.injEq] at hp'
    subst hp'
    obtain ⟨i', x'⟩ := y
    simp only [Option.bind_eq_bind, Option.bind_eq_some_iff, Option.pure_def, Option.some.injEq] at hf
    obtain ⟨y', hy', rfl⟩ := hf
    exact ⟨rfl, h _ _ hy'⟩) hv
  refine ⟨.agg cells', ?_, .agg _ _ h7.1 h7.2⟩
  simp [execOp, ho, Instr.build, zeroValue, typeInfo, h1, h2, run_underlying ht, sizeOf, hj]
  simp at h6
  simp [h6]

theorem rep_get (z : List AV) (hz : 0 < z.length) : ∀ (n j : Nat), j < n * z.length → (rep z n)[j]? = z[j % z.length]?
  | 0, j, h => by omega
  | n + 1, j, h => by
    rw [rep]
    by_cases hj : j < z.length
    · rw [List.getElem?_append_left hj, Nat.mod_eq_of_lt hj]
    · rw [List.getElem?_append_right (by omega), rep_get z hz n (j - z.length) (by rw [Nat.add_mul, Nat.one_mul] at h; omega)]
      congr 1
      rw [Nat.mod_eq_sub_mod (by omega : j ≥ z.length)]
theorem rep_length (z : List AV) : ∀ n, (rep z n).length = n * z.length
  | 0 => by simp [rep]
  | n + 1 => by rw [rep, List.length_append, rep_length z n, Nat.add_mul, Nat.one_mul, Nat.add_comm]

theorem zeros_rel {z : List AV} {v : Value} (n : Nat) (hl : z.length = v.cells.size) (hz : 0 < z.length) (hr : ∀ (j : Nat) x u, z[j]? = some x → v.cells[j]? = some u → VR G x u) : RelL G (rep z n) ((Array.range (n * v.cells.size)).map (v.cells[· % v.cells.size]!)) := by
  refine ⟨by simp [rep_length, hl], fun i x u hx hu => ?_⟩
  have hi : i < n * v.cells.size := by simpa using (Array.getElem?_eq_some_iff.1 hu).1
  rw [rep_get z hz n i (by rw [hl]; exact hi)] at hx
  have hm : i % v.cells.size < v.cells.size := Nat.mod_lt _ (by omega)
  have e : u = v.cells[i % v.cells.size] := by
    simp [hi] at hu
    rw [← hu]; simp [hm]
  rw [hl] at hx
  exact hr _ x u hx (by rw [e]; exact Array.getElem?_eq_getElem hm)

/-- A new row of elements. -/
def LitOk (P : Program) (G : Gh) (w : World) (o : Oper) (ρ : Operand → Value) (s : Nat) (els : List AV) : Prop :=
  ∃ (us : Array Value) (T : TypeId) (c : Nat), (execOp ρ o).run P w = .ok (.value (.slice (some ⟨w.heap.size, 0, none⟩) els.length c)) (w.alloc (.cells us T)) ∧ els.length ≤ c ∧ us.size = c * s ∧ (∀ (i : Nat) e, els[i]? = some e → e.cells.length = s) ∧
    ∀ (i : Nat) e (j : Nat) x, els[i]? = some e → e.cells[j]? = some x → ∃ u, us[i * s + j]? = some u ∧ VR G x u

theorem chunk_length (ag : Bool) (s : Nat) : ∀ (n : Nat) (cs : List AV), (chunk ag s n cs).length = n
  | 0, _ => rfl
  | n + 1, cs => by rw [chunk, List.length_cons, chunk_length]
theorem chunk_get (ag : Bool) (s : Nat) : ∀ (n : Nat) (cs : List AV) (i : Nat), i < n → (chunk ag s n cs)[i]? = some (if ag then .agg ((cs.drop (i * s)).take s) else (cs.drop (i * s)).headD .junk)
  | 0, cs, i, h => by omega
  | n + 1, cs, 0, h => by simp [chunk]
  | n + 1, cs, i + 1, h => by
    rw [chunk, List.getElem?_cons_succ, chunk_get ag s n _ i (by omega), List.drop_drop]
    rw [show s + i * s = (i + 1) * s by rw [Nat.add_mul, Nat.one_mul, Nat.add_comm]]

theorem bsl_ok {t e : TypeId} {j : TypeInfo} {z : List AV} {g : Option Nat} {len : Nat} {parts : Array (Nat × Operand)} {ps : List (Nat × AOpd)} {els : List AV} (ho : o.op = .buildSlice t len parts) (ht : P.underlying t = some (.slice e)) (hj : P.info? e = some j) (hz : zeroOf P e = some z) (hg : aggOf P e = some g)
    (hp : (parts.toList.mapM fun (i, x) => do pure (i, ← compOpd x)) = some ps) (hs0 : 0 < j.size) (hs : len * j.size ≤ 2 ^ 24) (h : OpdOk G a ρ) (hv : aop (.bsl j.size g.isSome z len ps) a S = some (.lit j.size els)) : LitOk P G w o ρ j.size els := by
  obtain ⟨i, v, h1, h2, h3, h4, h5⟩ := zeroOf_ok hz
  rw [hj] at h1
  cases h1
  obtain ⟨hl, hm⟩ := mapM_get hp
  simp only [aop, Option.bind_eq_some_iff] at hv
  obtain ⟨cs, hf, hv⟩ := hv
  split at hv
  · rename_i hag
    simp only [Option.some.injEq, Res.lit.injEq, true_and] at hv
    subst hv
    have hzr := zeros_rel (G := G) (z := z) (v := v) len (by rw [h4, h3]) (by rw [h4]; exact hs0) (fun q x u => h5 G q x u)
    obtain ⟨cells', h6, h7⟩ := fill_rel (G := G) (a := a) (fun i => some (i * j.size, j.size)) ((parts.map fun x => (x.1, ρ x.2)).toList) (ps.map fun (i, x) => (i * j.size, j.size, x)) (rep z len) cs _ hzr (by simp [hl]) (fun k p q hp' hq => by
      rw [List.getElem?_map, Option.map_eq_some_iff] at hq
      obtain ⟨q', hq', rfl⟩ := hq
      obtain ⟨y, hy, hf⟩ := hm k q' hq'
      simp only [Array.toList_map, List.getElem?_map, hy, Option.map_some, Option.some.injEq] at hp'
      subst hp'
      obtain ⟨i', x'⟩ := y
      simp only [Option.bind_eq_bind, Option.bind_eq_some_iff, Option.pure_def, Option.some.injEq] at hf
      obtain ⟨y', hy', rfl⟩ := hf
      exact ⟨rfl, h _ _ hy'⟩) hf
    have hcl : cs.length = len * j.size := by
      have e1 : ∀ (qs : List (Nat × Nat × AOpd)) (c c' : List AV), fillA a c qs = some c' → c'.length = c.length := by
        intro qs
        induction qs with
        | nil => intro c c' hh; cases hh; rfl
        | cons q qs ih =>
          intro c c' hh
          obtain ⟨o1, s1, x1⟩ := q
          simp only [fillA] at hh
          split at hh
          · rw [ih _ _ hh, layAt_length]
          · cases hh
      rw [e1 _ _ _ hf, rep_length, h4]
    refine ⟨cells', e, len, ?_, by rw [chunk_length]; exact Nat.le_refl _, by rw [h7.1, hcl], ?_, ?_⟩
    · have hne : ¬ (len * j.size > 2 ^ 24) := by omega
      have hsz : (sizeOf e).run P w = .ok j.size w := by simp [sizeOf, typeInfo, hj]
      have hzv : (zeroValue e).run P w = .ok v w := by simp [zeroValue, typeInfo, hj, h2]
      simp only [execOp, ho, Instr.buildSlice, Sem.run_bind, run_underlying ht, Result.andThen_ok, hsz, hne, if_false, Sem.run_pure, chunk_length]
      rcases Nat.eq_zero_or_pos len with rfl | hlen
      · simp only [Nat.zero_mul, if_true, Sem.run_bind, Sem.run_pure, Result.andThen_ok]
        have e1 : (Array.range 0).map (fun x => (#[] : Array Value)[x % (#[] : Array Value).size]!) = (Array.range (0 * v.cells.size)).map (v.cells[· % v.cells.size]!) := by simp
        rw [e1, h6]
        simp [newRow]
      have h0 : ¬ len * j.size = 0 := Nat.ne_of_gt (Nat.mul_pos hlen hs0)
      simp only [h0, if_false, Sem.run_bind, hzv, Result.andThen_ok, Sem.run_pure]
      have e1 : (Array.range (len * j.size)).map (v.cells[· % v.cells.size]!) = (Array.range (len * v.cells.size)).map (v.cells[· % v.cells.size]!) := by rw [h3]
      rw [e1, h6]
      simp [newRow]
    · intro i' e' he
      have hi : i' < len := by rw [← chunk_length g.isSome j.size len cs]; exact (List.getElem?_eq_some_iff.1 he).1
      have hb : i' * j.size + j.size ≤ len * j.size := by
        have := Nat.mul_le_mul_right j.size hi
        rw [Nat.succ_mul] at this; exact this
      rw [chunk_get _ _ _ _ _ hi] at he
      cases hg' : g.isSome with
      | true =>
        rw [hg', if_pos rfl] at he
        cases he
        show ((cs.drop (i' * j.size)).take j.size).length = _
        simp; omega
      | false =>
        rcases hag with h | ⟨hs1, hsc⟩
        · rw [hg'] at h; cases h
        rw [hg', if_neg (by simp)] at he
        cases he
        have hlt : i' * j.size < cs.length := by rw [hcl, hs1]; omega
        rw [List.drop_eq_getElem_cons hlt]
        simp only [List.headD_cons]
        have hsc' := List.all_eq_true.1 hsc _ (List.getElem_mem hlt)
        have hcell : (cs[i' * j.size]).cells = [cs[i' * j.size]] := by
          cases hx' : cs[i' * j.size] <;> first | rfl | (rw [hx'] at hsc'; cases hsc')
        rw [hcell]
        exact hs1.symm
    · intro i' e' q x he hx
      have hi : i' < len := by rw [← chunk_length g.isSome j.size len cs]; exact (List.getElem?_eq_some_iff.1 he).1
      have hb : i' * j.size + j.size ≤ len * j.size := by
        have := Nat.mul_le_mul_right j.size hi
        rw [Nat.succ_mul] at this; exact this
      rw [chunk_get _ _ _ _ _ hi] at he
      have hcx : cs[i' * j.size + q]? = some x := by
        cases hg' : g.isSome with
        | true =>
          rw [hg', if_pos rfl] at he
          cases he
          simp only [AV.cells] at hx
          rw [List.getElem?_take] at hx
          split at hx
          · rw [List.getElem?_drop] at hx; exact hx
          · cases hx
        | false =>
          rcases hag with h | ⟨hs1, hsc⟩
          · rw [hg'] at h; cases h
          rw [hg', if_neg (by simp)] at he
          cases he
          have hlt : i' * j.size < cs.length := by rw [hcl, hs1]; omega
          rw [List.drop_eq_getElem_cons hlt] at hx
          simp only [List.headD_cons] at hx
          have hsc' := List.all_eq_true.1 hsc _ (List.getElem_mem hlt)
          have hcell : (cs[i' * j.size]).cells = [cs[i' * j.size]] := by
            cases hx' : cs[i' * j.size] <;> first | rfl | (rw [hx'] at hsc'; cases hsc')
          rw [hcell] at hx
          cases q with
          | zero => simp at hx; subst hx; exact List.getElem?_eq_getElem hlt
          | succ q => simp at hx
      have hlt : i' * j.size + q < cells'.size := by rw [h7.1]; exact (List.getElem?_eq_some_iff.1 hcx).1
      exact ⟨cells'[i' * j.size + q], Array.getElem?_eq_getElem hlt, h7.2 _ _ _ hcx (Array.getElem?_eq_getElem hlt)⟩
  · cases hv

/-- A new box that is a slice. -/
def MboxOk (P : Program) (G : Gh) (w : World) (o : Oper) (ρ : Operand → Value) (cs : List AV) (n : Nat) : Prop :=
  ∃ (us : Array Value) (T : TypeId) (c : Nat), (execOp ρ o).run P w = .ok (.value (.slice (some ⟨w.heap.size, 0, none⟩) n c)) (w.alloc (.cells us T)) ∧ n ≤ c ∧ RelL G cs us

theorem mksl_run {t e : TypeId} {j : TypeInfo} {z : List AV} {l c : Operand} {k1 k2 : IntKind} {n m : Int} (ho : o.op = .makeSlice t l c) (ht : P.underlying t = some (.slice e)) (hj : P.info? e = some j) (hz : zeroOf P e = some z) (hs0 : 0 < j.size)
    (hl : ρ l = .int k1 n) (hc : ρ c = .int k2 m) (h0 : 0 ≤ n) (h1 : n ≤ m) (h2 : m ≤ 65536) (h3 : j.bytes ≤ 65536) : MboxOk P G w o ρ (rep z m.toNat) n.toNat ∧ ∃ (us : Array Value) (T : TypeId), (execOp ρ o).run P w = .ok (.value (.slice (some ⟨w.heap.size, 0, none⟩) n.toNat m.toNat)) (w.alloc (.cells us T)) ∧ us.size = m.toNat * j.size := by
  obtain ⟨i, v, g1, g2, g3, g4, g5⟩ := zeroOf_ok hz
  rw [hj] at g1
  cases g1
  have hzr := zeros_rel (G := G) (z := z) (v := v) m.toNat (by rw [g4, g3]) (by rw [g4]; exact hs0) (fun q x u => g5 G q x u)
  have hb : (j.bytes : Int) * m ≤ 281474976710656 := by
    have : (j.bytes : Int) * m ≤ 65536 * 65536 := Int.mul_le_mul (by omega) h2 (by omega) (by omega)
    omega
  have hrun : (execOp ρ o).run P w = .ok (.value (.slice (some ⟨w.heap.size, 0, none⟩) n.toNat m.toNat)) (w.alloc (.cells ((Array.range (m.toNat * v.cells.size)).map (v.cells[· % v.cells.size]!)) e)) := by
    have := run_make (P := P) w t e j v ht hj g2 k1 k2 n m h0 h1 hb (by omega)
    rw [← g3] at this
    simp only [execOp, ho, hl, hc, Sem.run_bind, this, Result.andThen_ok, Sem.run_pure]
    rfl
  exact ⟨⟨_, e, m.toNat, hrun, by omega, hzr⟩, _, e, hrun, by simp [g3]⟩

/-- A slice has grown. -/
def AppOk (P : Program) (G : Gh) (w : World) (o : Oper) (ρ : Operand → Value) (s : Nat) (t : Option Nat) (els news : List AV) : Prop :=
  ∃ (B c : Nat) (us : Array Value) (T : TypeId) (w' : World), (execOp ρ o).run P w = .ok (.value (.slice (some ⟨B, 0, none⟩) (els ++ news).length c)) w' ∧ (els ++ news).length ≤ c ∧ us.size = c * s ∧
    (∀ (i : Nat) e, (els ++ news)[i]? = some e → e.cells.length = s) ∧ (∀ (i : Nat) e (j : Nat) x, (els ++ news)[i]? = some e → e.cells[j]? = some x → ∃ u, us[i * s + j]? = some u ∧ VR G x u) ∧
    ((B = w.heap.size ∧ w' = w.drew.alloc (.cells us T)) ∨ ∃ t' old, t = some t' ∧ G.tb t' els.length = some (.blk B s c) ∧ w.heap[B]? = some (.cells old T (0, 0)) ∧ w' = w.setRow B us ∧ old.size = us.size ∧ ∀ k, k < els.length * s → us[k]? = old[k]?)

/-- The elements' cells, one after the other. -/
def flatV (us : Nat → Value) (n : Nat) : List Value := (List.range n).map us
theorem flatV_get (us : Nat → Value) (n j : Nat) : (flatV us n)[j]? = if j < n then some (us j) else none := by
  unfold flatV
  rw [List.getElem?_map]
  by_cases h : j < n
  · rw [if_pos h, List.getElem?_range h]; rfl
  · rw [if_neg h, List.getElem?_eq_none (by simpa using h)]; rfl
theorem flatV_len (us : Nat → Value) (n : Nat) : (flatV us n).length = n := by simp [flatV]

/-- The place of a cell. -/
theorem cell_place {els : List AV} {s : Nat} (hs : ∀ (i : Nat) e, els[i]? = some e → e.cells.length = s) (hs0 : 0 < s) {k : Nat} (hk : k < els.length * s) : ∃ e x, els[k / s]? = some e ∧ e.cells[k % s]? = some x ∧ k = k / s * s + k % s := by
  have h1 : k / s < els.length := (Nat.div_lt_iff_lt_mul hs0).2 hk
  have h2 := hs _ _ (List.getElem?_eq_getElem h1)
  have h3 : k % s < (els[k / s]).cells.length := by rw [h2]; exact Nat.mod_lt _ hs0
  exact ⟨els[k / s], (els[k / s]).cells[k % s], List.getElem?_eq_getElem h1, List.getElem?_eq_getElem h3, by rw [Nat.mul_comm]; exact (Nat.div_add_mod k s).symm⟩
theorem place_lt {els : List AV} {s : Nat} (hs : ∀ (i : Nat) e, els[i]? = some e → e.cells.length = s) {i j : Nat} {e x : AV} (h1 : els[i]? = some e) (h2 : e.cells[j]? = some x) : i * s + j < els.length * s := by
  have a1 : i < els.length := (List.getElem?_eq_some_iff.1 h1).1
  have a2 : j < s := by rw [← hs i e h1]; exact (List.getElem?_eq_some_iff.1 h2).1
  have := Nat.mul_le_mul_right s a1
  rw [Nat.succ_mul] at this
  omega

theorem run_append_roomT (t ty e T : TypeId) (i : TypeInfo) (ht : P.underlying t = some (.slice e)) (hi : P.info? e = some i)
    (g sLen sCap : Nat) (cur : Array Value) (hg : w.heap[g]? = some (.cells cur T (0, 0)))
    (a : Addr) (m c : Nat) (news : List Value) (hl : news.length = m * i.size) (hnews : ∀ j u, news[j]? = some u → w.cell? (a.add j) = some u) (h1 : ∀ u ∈ news, u.oneCell' = true)
    (hroom : sLen + m ≤ sCap) (hfit : sLen * i.size + news.length ≤ cur.size) :
    (Builtin.append_ #[t, t] ty #[.slice (some ⟨g, 0, none⟩) sLen sCap, .slice (some a) m c]).run P w =
      .ok (.slice (some ⟨g, 0, none⟩) (sLen + m) sCap) (w.setRow g (cur.toList.take (sLen * i.size) ++ news ++ cur.toList.drop (sLen * i.size + news.length)).toArray) := by
  have hf := run_firstCells_some (P := P) w i.size m a m c news hl hnews
  have hst := run_storeCells_at P g (sLen * i.size) T news 0 cur w hg (by simpa using hfit) h1
  simp only [Nat.add_zero] at hst
  simp [Builtin.append_, run_underlying ht, sizeOf, typeInfo, hi, Builtin.lenOf, hroom, hf, Addr.add_lit, hst]

theorem VR.tok {G : Gh} {els : List AV} {t : Nat} {u : Value} (h : VR G (.sl els (some t)) u) : ∃ k v, G.tb t k = some v := by
  cases h with
  | slt _ _ s B c us hb => exact ⟨_, _, hb⟩
  | slt0 _ hb => exact ⟨_, _, hb⟩

theorem app_ok {t e : TypeId} {j : TypeInfo} {z : List AV} {sx x : Operand} {sx' x' : AOpd} {tk : Option Nat} {es : Nat} {els news : List AV} (ho : o.op = .call { callee := .builtin .append, args := #[sx, x], argTypes := #[t, t] }) (ht : P.underlying t = some (.slice e)) (hj : P.info? e = some j) (hz : zeroOf P e = some z) (hs0 : 0 < j.size)
    (hx : compOpd x = some x') (hsx : compOpd sx = some sx') (h : OpdOk G a ρ) (hI : Inv G S w) (hv : aop (.app sx' x' j.size j.bytes z) a S = some (.app es tk els news)) : es = j.size ∧ AppOk P G w o ρ es tk els news ∧ (∀ t', tk = some t' → S.lv[t']? = some (els.length, es) ∧ ∃ k v, G.tb t' k = some v) ∧ (tk = none → els = []) ∧ news ≠ [] := by
  obtain ⟨zi, zv, g1, g2, g3, g4, g5⟩ := zeroOf_ok hz
  rw [hj] at g1
  cases g1
  have r1 := h x x' hx
  have r2 := h sx sx' hsx
  simp only [aop] at hv
  cases hnw : newsOf (a x') with
  | none => rw [hnw] at hv; cases hv
  | some nw =>
    rw [hnw] at hv
    simp only [] at hv
    split at hv
    · rename_i hall
      simp only [Bool.and_eq_true, List.all_eq_true, decide_eq_true_eq] at hall
      obtain ⟨hcells, hby⟩ := hall
      -- the new ones' cells
      have hnews : nw ≠ [] → ∃ (ad : Addr) (c : Nat) (us : Nat → Value), ρ x = .slice (some ad) nw.length c ∧ (∀ q, q < nw.length * j.size → w.cell? (ad.add q) = some (us q)) ∧ (∀ (i : Nat) el (q : Nat) y, nw[i]? = some el → el.cells[q]? = some y → VR G y (us (i * j.size + q))) := by
        intro hne
        cases hax : a x' <;> rw [hax] at hnw <;> simp only [newsOf, Option.some.injEq, reduceCtorEq] at hnw
        · exact absurd hnw.symm hne
        · subst hnw
          rw [hax] at r1
          obtain ⟨A, c, hu, hrest⟩ := r1.inv_sl
          obtain ⟨s, B, O, us, rfl, hc, hs, hf, hvr⟩ := hrest hne
          have hss : s = j.size := by
            obtain ⟨e0, l0, he0⟩ := List.exists_cons_of_ne_nil hne
            have h3 := hs 0 e0 (by rw [he0]; rfl)
            rw [← h3]; exact (hcells e0 (by rw [he0]; simp)).1
          subst hss
          refine ⟨⟨B, O, none⟩, c, us, hu, fun q hq => ?_, fun i el q y h1 h2 => hvr i el q y h1 h2⟩
          obtain ⟨el, y, h1, h2, h3⟩ := cell_place (fun i el hel => hs i el hel) hs0 hq
          have := hI.fz _ _ _ (hf _ _ _ _ h1 h2)
          rw [← h3] at this
          rw [Addr.add_lit]; exact this
      have hone : ∀ (us : Nat → Value), (∀ (i : Nat) el (q : Nat) y, nw[i]? = some el → el.cells[q]? = some y → VR G y (us (i * j.size + q))) → ∀ u ∈ flatV us (nw.length * j.size), u.oneCell' = true := by
        intro us hus u hu
        obtain ⟨q, hq, rfl⟩ := List.mem_map.1 hu
        have hq := List.mem_range.1 hq
        obtain ⟨el, y, h1, h2, h3⟩ := cell_place (fun i el hel => (hcells el (List.mem_of_getElem? hel)).1) hs0 hq
        rw [h3]
        exact (hus _ _ _ _ h1 h2).scalar ((okCells_iff (hcells el (List.mem_of_getElem? h1)).2).2 y (List.mem_of_getElem? h2))
      have hpl : ∀ (i : Nat) el, (nw.map AV.plain)[i]? = some el → el.cells.length = j.size := by
        intro i el hel
        rw [List.getElem?_map, Option.map_eq_some_iff] at hel
        obtain ⟨el0, h1, rfl⟩ := hel
        rw [AV.plain_cells]
        exact (hcells el0 (List.mem_of_getElem? h1)).1
      have hplv : ∀ (us : Nat → Value), (∀ (i : Nat) el (q : Nat) y, nw[i]? = some el → el.cells[q]? = some y → VR G y (us (i * j.size + q))) → ∀ (i : Nat) el (q : Nat) y, (nw.map AV.plain)[i]? = some el → el.cells[q]? = some y → VR G y (us (i * j.size + q)) := by
        intro us hus i el q y hel hy
        rw [List.getElem?_map, Option.map_eq_some_iff] at hel
        obtain ⟨el0, h1, rfl⟩ := hel
        have hsome : ∃ y0, el0.cells[q]? = some y0 ∧ y = y0.plain1 := by
          cases el0 with
          | agg cs =>
            simp only [AV.plain, AV.cells, List.getElem?_map, Option.map_eq_some_iff] at hy
            obtain ⟨y0, h2, rfl⟩ := hy
            exact ⟨y0, h2, rfl⟩
          | sl els tk =>
            cases q with
            | zero => simp [AV.plain, AV.plain1, AV.cells] at hy ⊢; exact hy.symm
            | succ q => simp [AV.plain, AV.plain1, AV.cells] at hy
          | _ => exact ⟨y, hy, by
              cases q with
              | zero => simp [AV.plain, AV.plain1, AV.cells] at hy; subst hy; rfl
              | succ q => simp [AV.plain, AV.plain1, AV.cells] at hy⟩
        obtain ⟨y0, h2, rfl⟩ := hsome
        exact (hus i el0 q y0 h1 h2).plain1
      -- from nothing
      have hnil : ρ sx = .slice none 0 0 → nw ≠ [] → nw.length ≤ 65536 → ∀ tk, AppOk P G w o ρ j.size tk [] (nw.map AV.plain) := by
        intro hs hne hlen tk
        obtain ⟨ad, c, us, hu, hcell, hvr⟩ := hnews hne
        have hfl := flatV_len us (nw.length * j.size)
        have hpos : 0 < nw.length := List.length_pos_iff.2 hne
        have hbb : nw.length * j.bytes ≤ 281474976710656 := by
          have : nw.length * j.bytes ≤ 65536 * 65536 := Nat.mul_le_mul hlen hby
          omega
        have hr := run_append_nil (P := P) w t o.type e j zv ht hj g2 ad nw.length c (flatV us (nw.length * j.size)) hfl (fun q u hq => by
          rw [flatV_get] at hq
          split at hq
          · cases hq; exact hcell q ‹_›
          · cases hq) hpos (by omega) hbb
        have hge := grownCap_ge w nw.length 0 e
        refine ⟨w.heap.size, grownCap w nw.length 0 e, (flatV us (nw.length * j.size)).toArray ++ Builtin.zeroCells zv.cells (grownCap w nw.length 0 e - nw.length), e, _, ?_, ?_, ?_, ?_, ?_, .inl ⟨rfl, rfl⟩⟩
        · simp only [execOp, ho, resolve, invoke, builtin, Sem.run_bind, Sem.run_pure, Result.andThen_ok, List.map_toArray, List.map_cons, List.map_nil, hs, hu, hr, List.nil_append, List.length_map]
        · simpa using hge
        · simp only [Array.size_append, List.size_toArray, hfl, size_zeroCells, g3, ← Nat.add_mul]
          congr 1; omega
        · intro i el hel; exact hpl i el (by simpa using hel)
        · intro i el q y hel hy
          rw [List.nil_append] at hel
          have hlt := place_lt hpl hel hy
          rw [List.length_map] at hlt
          refine ⟨us (i * j.size + q), ?_, hplv us hvr i el q y hel hy⟩
          rw [Array.getElem?_append_left (by simpa [hfl] using hlt), List.getElem?_toArray, flatV_get, if_pos hlt]
      split at hv
      · rename_i e1
        rw [e1] at r2
        split at hv
        · rename_i hlen
          split at hv
          · cases hv
          · rename_i hne
            simp only [Option.some.injEq, Res.app.injEq] at hv
            obtain ⟨rfl, rfl, rfl, rfl⟩ := hv
            have hne' : nw ≠ [] := by rintro rfl; simp at hne
            exact ⟨rfl, hnil r2.inv_nils hne' hlen _, by simp, by simp, by simpa using hne'⟩
        · cases hv
      · rename_i els0 t0 e1
        rw [e1] at r2
        split at hv
        · rename_i hc
          obtain ⟨hlv, hlen, hsz⟩ := hc
          split at hv
          · cases hv
          · rename_i hne
            simp only [Option.some.injEq, Res.app.injEq] at hv
            obtain ⟨rfl, rfl, rfl, rfl⟩ := hv
            have hne' : nw ≠ [] := by rintro rfl; simp at hne
            have htk := r2.tok
            refine ⟨rfl, ?_, fun t' ht' => (by cases ht'; exact ⟨hlv, htk⟩), fun h => (by cases h), by simpa using hne'⟩
            generalize hu2 : ρ sx = u2 at r2
            cases r2 with
            | slt0 _ hb => exact hnil hu2 hne' (by omega) _
            | slt _ _ s B c us0 hb hn hs hf hvr0 =>
              obtain ⟨rfl, ⟨cur, T, k1, k2⟩, k3, k4⟩ := hI.tok _ _ _ _ _ _ hlv hb
              obtain ⟨ad, c2, us, hu, hcell, hvr⟩ := hnews hne'
              have hfl := flatV_len us (nw.length * j.size)
              have hget : ∀ q u, (flatV us (nw.length * j.size))[q]? = some u → w.cell? (ad.add q) = some u := fun q u hq => by
                rw [flatV_get] at hq
                split at hq
                · cases hq; exact hcell q ‹_›
                · cases hq
              have hold : ∀ q, q < els0.length * j.size → ∃ e0 x0, els0[q / j.size]? = some e0 ∧ e0.cells[q % j.size]? = some x0 ∧ cur[q]? = some (us0 q) := by
                intro q hq
                obtain ⟨e0, x0, h1, h2, h3⟩ := cell_place hs hs0 hq
                have := hI.fz _ _ _ (hf _ _ _ _ h1 h2)
                rw [← h3] at this
                exact ⟨e0, x0, h1, h2, by simpa [World.cell?, k1] using this⟩
              have hall : ∀ (i : Nat) el, (els0 ++ nw.map AV.plain)[i]? = some el → el.cells.length = j.size := by
                intro i el hel
                rw [List.getElem?_append] at hel
                split at hel
                · exact hs i el hel
                · exact hpl _ el hel
              have hlt : (els0 ++ nw.map AV.plain).length * j.size = els0.length * j.size + nw.length * j.size := by rw [List.length_append, List.length_map, Nat.add_mul]
              -- cells of old and new elements in one list
              have hread : ∀ (M : Nat → Option Value), (∀ q, q < els0.length * j.size → M q = some (us0 q)) → (∀ q, q < nw.length * j.size → M (els0.length * j.size + q) = some (us q)) →
                  ∀ (i : Nat) el (q : Nat) y, (els0 ++ nw.map AV.plain)[i]? = some el → el.cells[q]? = some y → ∃ u, M (i * j.size + q) = some u ∧ VR G y u := by
                intro M hM1 hM2 i el q y hel hy
                rw [List.getElem?_append] at hel
                split at hel
                · have := place_lt hs hel hy
                  exact ⟨_, hM1 _ this, hvr0 i el q y hel hy⟩
                · rename_i hge
                  have := place_lt hpl hel hy
                  rw [List.length_map] at this
                  refine ⟨us ((i - els0.length) * j.size + q), ?_, hplv us hvr _ el q y hel hy⟩
                  rw [← hM2 _ this]
                  congr 1
                  have : i * j.size = els0.length * j.size + (i - els0.length) * j.size := by rw [← Nat.add_mul]; congr 1; omega
                  omega
              by_cases hroom : els0.length + nw.length ≤ c
              · have hfit : els0.length * j.size + (flatV us (nw.length * j.size)).length ≤ cur.size := by rw [hfl, k2, ← Nat.add_mul]; exact Nat.mul_le_mul_right _ hroom
                have hr := run_append_roomT (P := P) (w := w) t o.type e T j ht hj B els0.length c cur k1 ad nw.length c2 (flatV us (nw.length * j.size)) hfl hget (hone us hvr) hroom hfit
                have hcl : els0.length * j.size + (flatV us (nw.length * j.size)).length ≤ cur.toList.length := by rw [Array.length_toList]; exact hfit
                refine ⟨B, c, (cur.toList.take (els0.length * j.size) ++ flatV us (nw.length * j.size) ++ cur.toList.drop (els0.length * j.size + (flatV us (nw.length * j.size)).length)).toArray, T, _, ?_, by simpa using hroom, ?_, hall, ?_, .inr ⟨t0, cur, rfl, hb, k1, rfl, ?_, ?_⟩⟩
                · simp only [execOp, ho, resolve, invoke, builtin, Sem.run_bind, Sem.run_pure, Result.andThen_ok, List.map_toArray, List.map_cons, List.map_nil, hu2, hu, hr, List.length_append, List.length_map]
                · rw [List.size_toArray, seg_len _ _ _ hcl, Array.length_toList, k2]
                · refine hread (fun q => _) (fun q hq => ?_) (fun q hq => ?_)
                  · rw [List.getElem?_toArray, seg_get _ _ _ hcl, if_neg (by omega)]
                    obtain ⟨_, _, _, _, h5⟩ := hold q hq
                    simpa using h5
                  · rw [List.getElem?_toArray, seg_get _ _ _ hcl, if_pos (by rw [hfl]; omega), Nat.add_sub_cancel_left, flatV_get, if_pos hq]
                · exact (Array.length_toList (xs := cur)).symm.trans ((seg_len _ _ _ hcl).symm.trans List.size_toArray.symm)
                · intro k hk
                  rw [List.getElem?_toArray, seg_get _ _ _ hcl, if_neg (by omega)]
                  simp
              · have holds : ∀ q u, (flatV us0 (els0.length * j.size))[q]? = some u → w.cell? (Addr.add ⟨B, 0, none⟩ q) = some u := fun q u hq => by
                  rw [flatV_get] at hq
                  split at hq
                  · cases hq
                    obtain ⟨_, _, _, _, h5⟩ := hold q ‹_›
                    rw [Addr.add_lit, Nat.zero_add]
                    simpa [World.cell?, k1] using h5
                  · cases hq
                have hfo := flatV_len us0 (els0.length * j.size)
                have hbb : (els0.length + nw.length) * j.bytes ≤ 140737488355328 := by
                  have : (els0.length + nw.length) * j.bytes ≤ 65536 * 65536 := Nat.mul_le_mul hlen hby
                  omega
                have hr := run_append_grow (P := P) w t o.type e j zv ht hj g2 ⟨B, 0, none⟩ els0.length c (flatV us0 (els0.length * j.size)) hfo holds ad nw.length c2 (flatV us (nw.length * j.size)) hfl hget (by omega) (by omega) (growslice_fits (by omega) hbb)
                have hge := grownCap_ge w (els0.length + nw.length) c e
                refine ⟨w.heap.size, grownCap w (els0.length + nw.length) c e, (flatV us0 (els0.length * j.size)).toArray ++ (flatV us (nw.length * j.size)).toArray ++ Builtin.zeroCells zv.cells (grownCap w (els0.length + nw.length) c e - (els0.length + nw.length)), e, _, ?_, ?_, ?_, hall, ?_, .inl ⟨rfl, rfl⟩⟩
                · simp only [execOp, ho, resolve, invoke, builtin, Sem.run_bind, Sem.run_pure, Result.andThen_ok, List.map_toArray, List.map_cons, List.map_nil, hu2, hu, hr, List.length_append, List.length_map]
                · simpa using hge
                · simp only [Array.size_append, List.size_toArray, hfl, hfo, size_zeroCells, g3, ← Nat.add_mul]
                  congr 1; omega
                · refine hread (fun q => _) (fun q hq => ?_) (fun q hq => ?_)
                  · rw [Array.append_assoc, Array.getElem?_append_left (by simpa [hfo] using hq), List.getElem?_toArray, flatV_get, if_pos hq]
                  · rw [Array.append_assoc, Array.getElem?_append_right (by simp [hfo]), List.size_toArray, hfo, Nat.add_sub_cancel_left, Array.getElem?_append_left (by simpa [hfl] using hq), List.getElem?_toArray, flatV_get, if_pos hq]
        · cases hv
      · cases hv
    · cases hv
end ops
end Go.Proofs.Ytncaneioenanjaa
