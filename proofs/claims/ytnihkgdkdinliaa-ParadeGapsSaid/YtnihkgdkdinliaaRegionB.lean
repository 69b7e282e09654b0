/- The rule for a drawn region, with blocks that differ. Own work; imports no translation. -/
import Derived.Test.YtnihkgdkdinliaaRegion
import Derived.Test.YtnihkgdkdinliaaMem
namespace Go.Proofs.Ytnihkgdkdinliaa
open Go.RowKit
set_option linter.unusedVariables false
set_option linter.unusedSimpArgs false

section
variable {P : Program} {ops : Array Oper} {Q : Exit → Act → World → Prop} {m N : Nat} {a0 : Act} {R : World → Prop} {F : World → World → Prop} {φ : Nat → Value → World → Prop} {fr : List Nat}

theorem main_anyX (hok : okA ops m N = true) (hN : a0.tmps.size = N)
    (hlast : ∀ i v w w', R w → R w' → F w w' → φ i v w → φ i v w')
    (hO : ∀ i, i < m → ∀ o, ops[i]? = some o → ∀ (ev : Operand → Value) (w : World), R w → (∀ v, ev (.const v) = v) → (∀ f, ev (.func f) = .func (.func f) #[] #[]) → (∀ g, ev (.global g) = .pointer (some ⟨g, 0, none⟩)) →
      (∀ t, freeSlot ops m t = true → ev (.tmp t) = a0.tmps.getD t undef) → (∀ k t, waitsFor ops o k t = true → φ k (ev (.tmp t)) w) →
      UpA P (fun v w' => φ i v w' ∧ (i ∈ fr → ∀ j ∈ fr, ∀ u, φ j u w → v ≠ u)) R F w ((execOp ev o).run P w))
    (hend : ∀ (ρ : Nat → Value) (w : World), R w → (∀ i, i < m → φ i (ρ i) w) → (∀ i j, i < m → j < m → i ≠ j → i ∈ fr → j ∈ fr → ρ i ≠ ρ j) → wpOps P ops Q (List.range' m (ops.size - m)) (putAll ops a0 ρ m) w) :
    ∀ (fuel : Nat) (listed : Array Bool) (a : Act) (w : World), fuel = toCome ops.size listed → listed.size = ops.size → R w → a.tmps.size = N → a.defers = a0.defers →
      (∀ i, i < m → listed.getD i true = true → ∀ t, dOf ops i = some t → φ i (a.tmps.getD t undef) w) →
      (∀ t, (∀ i, i < m → listed.getD i true = true → dOf ops i ≠ some t) → a.tmps.getD t undef = a0.tmps.getD t undef) →
      (∀ k, m ≤ k → k < ops.size → listed.getD k true = false) →
      (∀ i, listed.getD i false = true → ∀ o, ops[i]? = some o → ∀ k ∈ aftOf o, listed.getD k false = true) →
      (∀ i j, i < m → j < m → i ≠ j → i ∈ fr → j ∈ fr → listed.getD i true = true → listed.getD j true = true → ∀ t s, dOf ops i = some t → dOf ops j = some s → a.tmps.getD t undef ≠ a.tmps.getD s undef) →
      wpAny P .any ops Q fuel listed a w := by
  obtain ⟨hsel, hm, hsp⟩ := okA_spec hok
  intro fuel
  induction fuel with
  | zero =>
    intro listed a w hf hs hR hz hdf h1 h2 h3 h4 h6x
    -- all have come: m = ops.size
    have hall : ∀ i, i < ops.size → listed.getD i true = true := by
      intro i hi
      cases hl : listed.getD i true with
      | true => rfl
      | false => have := toCome_pos hi hl; omega
    have hmn : m = ops.size := by
      rcases Nat.lt_or_ge m ops.size with h | h
      · have := hall m h
        rw [h3 m (Nat.le_refl _) h] at this
        cases this
      · omega
    have hfin := hend (fun i => (dOf ops i).elim undef fun t => a.tmps.getD t undef) w hR (fun i hi => by
      obtain ⟨o, ho, _, h5, _⟩ := hsp i (by omega)
      obtain ⟨⟨d, hd, _⟩, _⟩ := h5 hi
      have hdo : dOf ops i = some d := by simp [dOf, ho, hd]
      simpa [hdo] using h1 i hi (hall i (by omega)) d hdo) (fun i j hi hj hne hfi hfj => by
      obtain ⟨o, ho, _, h5, _⟩ := hsp i (by omega)
      obtain ⟨⟨d, hd, _⟩, _⟩ := h5 hi
      obtain ⟨o', ho', _, h5', _⟩ := hsp j (by omega)
      obtain ⟨⟨d', hd', _⟩, _⟩ := h5' hj
      have hdo : dOf ops i = some d := by simp [dOf, ho, hd]
      have hdo' : dOf ops j = some d' := by simp [dOf, ho', hd']
      simpa only [hdo, hdo', Option.elim_some] using h6x i j hi hj hne hfi hfj (hall i (by omega)) (hall j (by omega)) d d' hdo hdo')
    have ha := putAll_eq hok a hN hz hdf h2
    rw [ha] at hfin
    have hr : ops.size - m = 0 := by omega
    rw [hr] at hfin
    refine ⟨?_, by simpa [wpOps] using hfin⟩
    apply List.eq_nil_iff_forall_not_mem.2
    intro j hj
    obtain ⟨hj1, o, ho, _⟩ := ready_iff.1 hj
    have hjn : j < ops.size := (Array.getElem?_eq_some_iff.1 ho).1
    rw [hall j hjn] at hj1
    cases hj1
  | succ fuel ih =>
    intro listed a w hf hs hR hz hdf h1 h2 h3 h4 h6x
    by_cases hall : ∀ i, i < m → listed.getD i true = true
    · -- the last ones
      have hfin := hend (fun i => (dOf ops i).elim undef fun t => a.tmps.getD t undef) w hR (fun i hi => by
        obtain ⟨o, ho, _, h5, _⟩ := hsp i (by omega)
        obtain ⟨⟨d, hd, _⟩, _⟩ := h5 hi
        have hdo : dOf ops i = some d := by simp [dOf, ho, hd]
        simpa [hdo] using h1 i hi (hall i hi) d hdo) (fun i j hi hj hne hfi hfj => by
        obtain ⟨o, ho, _, h5, _⟩ := hsp i (by omega)
        obtain ⟨⟨d, hd, _⟩, _⟩ := h5 hi
        obtain ⟨o', ho', _, h5', _⟩ := hsp j (by omega)
        obtain ⟨⟨d', hd', _⟩, _⟩ := h5' hj
        have hdo : dOf ops i = some d := by simp [dOf, ho, hd]
        have hdo' : dOf ops j = some d' := by simp [dOf, ho', hd']
        simpa only [hdo, hdo', Option.elim_some] using h6x i j hi hj hne hfi hfj (hall i hi) (hall j hj) d d' hdo hdo')
      have ha := putAll_eq hok a hN hz hdf h2
      rw [ha] at hfin
      have hcount : toCome ops.size listed = ops.size - m := by
        unfold toCome
        have : (List.range ops.size).filter (fun i => !listed.getD i true) = List.range' m (ops.size - m) := by
          have e0 : List.range ops.size = List.range m ++ List.range' m (ops.size - m) := by
            have e := List.range'_append (s := 0) (m := m) (n := ops.size - m) (step := 1)
            rw [Nat.zero_add, Nat.one_mul] at e
            rw [List.range_eq_range', List.range_eq_range', e]
            congr 1
            omega
          rw [e0, List.filter_append]
          have e1 : (List.range m).filter (fun i => !listed.getD i true) = [] := by
            apply List.filter_eq_nil_iff.2
            intro i hi
            rw [hall i (List.mem_range.1 hi)]
            decide
          have e2 : (List.range' m (ops.size - m)).filter (fun i => !listed.getD i true) = List.range' m (ops.size - m) := by
            apply List.filter_eq_self.2
            intro i hi
            have := List.mem_range'_1.1 hi
            rw [h3 i (by omega) (by omega)]
            decide
          rw [e1, e2, List.nil_append]
        rw [this, List.length_range']
      rw [hf, hcount]
      exact tail_any hok (ops.size - m) m listed a w (by omega) (Nat.le_refl _) hs hall h3 hfin
    · have hne : ∃ i, i < m ∧ listed.getD i true = false := by
        simp only [Classical.not_forall] at hall
        obtain ⟨i, hi, h⟩ := hall
        exact ⟨i, hi, by simpa using h⟩
      obtain ⟨i0, hi0, hl0⟩ := hne
      obtain ⟨j0, hj0⟩ := some_ready hs (fun i hi => by obtain ⟨o, ho, h, _⟩ := hsp i hi; exact ⟨o, ho, h⟩) i0 (by omega) hl0
      refine ⟨fun he => (by rw [he] at hj0; cases hj0), fun i hi => ?_⟩
      obtain ⟨hli, o, ho, hall'⟩ := ready_iff.1 hi
      have hin : i < ops.size := (Array.getElem?_eq_some_iff.1 ho).1
      obtain ⟨o', ho', hlt, hmain, haft, haft'⟩ := hsp i hin
      rw [ho] at ho'
      cases ho'
      have him : i < m := by
        rcases Nat.lt_or_ge i m with h | h
        · exact h
        · exfalso
          rcases Nat.lt_or_ge m i with hlt' | hge'
          · have h5 := hall' (i - 1) (haft' hlt')
            have h6 := h3 (i - 1) (by omega) (by omega)
            have : i - 1 < listed.size := by omega
            simp [this] at h5 h6
            rw [h5] at h6
            cases h6
          · have him' : m = i := by omega
            have hdown : ∀ r k, k + r = m → k < m → listed.getD k false = true := by
              intro r
              induction r using Nat.strongRecOn with
              | ind r ihr =>
                intro k hk hkm
                obtain ⟨s, os, hs1, hs2, hos, hks⟩ := haft him' k hkm
                rcases Nat.lt_or_ge s m with hsm | hsm
                · exact h4 s (ihr (m - s) (by omega) s (by omega) hsm) os hos k hks
                · have : s = i := by omega
                  subst this
                  rw [ho] at hos
                  cases hos
                  exact hall' k hks
            have h5 := hdown (m - i0) i0 (by omega) hi0
            have : i0 < listed.size := by omega
            simp [this] at h5 hl0
            rw [h5] at hl0
            cases hl0
      obtain ⟨⟨d, hd, hdN⟩, hg, hlook, hdist⟩ := hmain him
      have hdo : dOf ops i = some d := by simp [dOf, ho, hd]
      have hup := hO i him o ho a.eval w hR (fun v => rfl) (fun f => rfl) (fun g => rfl)
        (fun t hno => h2 t fun k hk _ => by
          simp only [freeSlot, List.all_eq_true, List.mem_range, bne_iff_ne] at hno
          exact hno k hk)
        (fun k t hkt => by
          simp only [waitsFor, Bool.and_eq_true, List.contains_iff_mem, beq_iff_eq] at hkt
          obtain ⟨hk, hkt⟩ := hkt
          have hkl := hall' k hk
          have hks : k < listed.size := by have := hlt k hk; omega
          have : listed.getD k true = true := by simp [hks] at hkl ⊢; exact hkl
          exact h1 k (by have := hlt k hk; omega) this t hkt)
      have step : ∀ v w', (φ i v w' ∧ (i ∈ fr → ∀ j ∈ fr, ∀ u, φ j u w → v ≠ u)) ∧ R w' ∧ F w w' → wpAny P .any ops Q fuel (listed.setIfInBounds i true) (a.put o.dst v) w' := by
        rintro v w' ⟨⟨hv, hvx⟩, hR', hF⟩
        have hat : (a.put o.dst v).tmps.getD d undef = v := by rw [hd]; exact Act.getD_put_same _ _ _ (by rw [hz]; exact hdN)
        refine ih _ _ _ ?_ (by simp [hs]) hR' (by rw [Act.size_put]; exact hz) (by rw [Act.defers_put]; exact hdf) ?_ ?_ ?_ ?_ ?_
        · have := toCome_set hin hs hli
          omega
        · intro k hk hkl t hkt
          by_cases hki : k = i
          · subst hki
            rw [hdo] at hkt
            cases hkt
            rw [hat]
            exact hv
          · have hne' : i ≠ k := fun e => hki e.symm
            have hkl' : listed.getD k true = true := by simpa [Array.getElem?_setIfInBounds_ne hne'] using hkl
            have hdk := hdist k hk hki
            rw [Act.getD_put_ne _ _ _ _ (by rw [← hkt]; exact fun e => hdk e.symm)]
            exact hlast k _ w w' hR hR' hF (h1 k hk hkl' t hkt)
        · intro t hno
          have hdt : o.dst ≠ some t := by
            have := hno i him (by have : i < listed.size := by omega
                                  simp [Array.getElem?_setIfInBounds, this])
            rw [hdo] at this
            rw [hd]
            exact this
          rw [Act.getD_put_ne _ _ _ _ hdt]
          refine h2 t fun k hk hkl => ?_
          by_cases hki : k = i
          · subst hki
            rw [hdo, ← hd]
            exact hdt
          · have hne' : i ≠ k := fun e => hki e.symm
            exact hno k hk (by simpa [Array.getElem?_setIfInBounds_ne hne'] using hkl)
        · intro k hk hkn
          have hne' : i ≠ k := by omega
          have := h3 k hk hkn
          simpa [Array.getElem?_setIfInBounds_ne hne'] using this
        · intro k hkl ok hok' j hj
          have hjl : listed.getD j false = true := by
            by_cases hki : k = i
            · subst hki
              rw [ho] at hok'
              cases hok'
              exact hall' j hj
            · have hne' : i ≠ k := fun e => hki e.symm
              exact h4 k (by simpa [Array.getElem?_setIfInBounds_ne hne'] using hkl) ok hok' j hj
          by_cases hji : j = i
          · subst hji
            have : j < listed.size := by omega
            simp [Array.getElem?_setIfInBounds, this]
          · have hne' : i ≠ j := fun e => hji e.symm
            simpa [Array.getElem?_setIfInBounds_ne hne'] using hjl
        · intro k l hk hl hkl hfk hfl hkc hlc t s hkt hls
          by_cases hki : k = i
          · subst hki
            have hne' : k ≠ l := hkl
            have hlc' : listed.getD l true = true := by simpa [Array.getElem?_setIfInBounds_ne hne'] using hlc
            rw [hdo] at hkt
            cases hkt
            rw [hat]
            have hdk := hdist l hl (fun e => hkl e.symm)
            rw [Act.getD_put_ne _ _ _ _ (by rw [← hls]; exact fun e => hdk e.symm)]
            exact hvx hfk l hfl _ (h1 l hl hlc' s hls)
          · have hne' : i ≠ k := fun e => hki e.symm
            have hkc' : listed.getD k true = true := by simpa [Array.getElem?_setIfInBounds_ne hne'] using hkc
            have hdk := hdist k hk hki
            rw [Act.getD_put_ne _ _ _ t (by rw [← hkt]; exact fun e => hdk e.symm)]
            by_cases hli' : l = i
            · subst hli'
              rw [hdo] at hls
              cases hls
              rw [hat]
              exact fun e => hvx hfl k hfk _ (h1 k hk hkc' t hkt) e.symm
            · have hne2 : i ≠ l := fun e => hli' e.symm
              have hlc' : listed.getD l true = true := by simpa [Array.getElem?_setIfInBounds_ne hne2] using hlc
              have hdl := hdist l hl hli'
              rw [Act.getD_put_ne _ _ _ s (by rw [← hls]; exact fun e => hdl e.symm)]
              exact h6x k l hk hl hkl hfk hfl hkc' hlc' t s hkt hls
      unfold wpOp
      simp only [ho]
      have hw : Region.wanted o (yielded ops a.tmps) = true := by simp [Region.wanted, hg]
      rw [if_pos hw]
      refine .inl ?_
      unfold Oper.wp
      generalize (execOp a.eval o).run P w = r at hup
      cases r with
      | ok n w' =>
        cases n <;> simp only [UpA] at hup
        case value v => exact step v w' hup
        case enter f args =>
          refine Calls.mono hup fun e w'' he => ?_
          cases e with
          | returned v => exact step v w'' he
          | panicked c => exact he.elim
          | outgrown => exact he.elim
      | halt x w' => simp only [UpA] at hup

end

/-- The rule; the operations of fr hand out values that differ. -/
theorem wp_region_list_fr {P : Program} {ops : Array Oper} {Q : Exit → Act → World → Prop} {id : Nat} (hm : P.follows .mixedOrders = true) {R : World → Prop} {F : World → World → Prop} (fr : List Nat) (L : List (As R F)) (N : Nat) {a0 : Act} {w0 : World} (hok : okA ops L.length N = true) (hN : a0.tmps.size = N) (hR0 : R w0.drew)
    (hO : ∀ i, i < L.length → ∀ o, ops[i]? = some o → ∀ (ev : Operand → Value) (w : World), R w → (∀ v, ev (.const v) = v) → (∀ f, ev (.func f) = .func (.func f) #[] #[]) → (∀ g, ev (.global g) = .pointer (some ⟨g, 0, none⟩)) →
      (∀ t, freeSlot ops L.length t = true → ev (.tmp t) = a0.tmps.getD t undef) → (∀ k t, waitsFor ops o k t = true → (L.getD k (As.pure R F fun _ => True)).p (ev (.tmp t)) w) →
      UpA P (fun v w' => (L.getD i (As.pure R F fun _ => True)).p v w' ∧ (i ∈ fr → ∀ j ∈ fr, ∀ u, (L.getD j (As.pure R F fun _ => True)).p u w → v ≠ u)) R F w ((execOp ev o).run P w))
    (hend : ∀ (ρ : Nat → Value) (w : World), R w → (∀ i, i < L.length → (L.getD i (As.pure R F fun _ => True)).p (ρ i) w) → (∀ i j, i < L.length → j < L.length → i ≠ j → i ∈ fr → j ∈ fr → ρ i ≠ ρ j) → ∀ K : Act → World → Prop, (∀ a w, wpList P ops Q (ops.toList.drop L.length) a w → K a w) → K (putAll ops a0 ρ L.length) w) :
    (Code.region id ops true).wp P Q a0 w0 := by
  refine wp_region_any hm ?_
  have hall := okA_spec hok
  refine main_anyX (φ := fun i => (L.getD i (As.pure R F fun _ => True)).p) (R := R) (F := F) (fr := fr) hok hN (fun i v w w' h1 h2 h3 h => (L.getD i (As.pure R F fun _ => True)).last v w w' h1 h2 h3 h) hO
    (fun ρ w h1 h2 h3 => wpOps_of_list _ _ _ (hend ρ w h1 h2 h3 _ fun _ _ h => h)) ops.size (Array.replicate ops.size false) a0 w0.drew ?_ (by simp) hR0 hN rfl ?_ (fun _ _ => rfl) ?_ ?_ ?_
  · unfold toCome
    have : (List.range ops.size).filter (fun i => !(Array.replicate ops.size false).getD i true) = List.range ops.size := by
      apply List.filter_eq_self.2
      intro i hi
      have := List.mem_range.1 hi
      simp [this]
    rw [this, List.length_range]
  · intro i hi hl
    have : i < ops.size := by have := hall.2.1; omega
    simp [this] at hl
  · intro k hk hkn
    simp [hkn]
  · intro i hi
    by_cases h : i < ops.size <;> simp [h] at hi
  · intro i j hi _ _ _ _ hl
    have : i < ops.size := by have := hall.2.1; omega
    simp [this] at hl

/-! ### The assertions of a region that only makes blocks -/
abbrev RB (n0 : Nat) (W : World) : World → Prop := fun w' => Below n0 W w'
abbrev FB : World → World → Prop := fun a b => Below a.heap.size a b
/-- A new block, and what is in it. -/
def NewB (n0 : Nat) (T : TypeId) (zs : Array Value) (v : Value) (w : World) : Prop := ∃ k, v = .pointer (some ⟨k, 0, none⟩) ∧ n0 ≤ k ∧ Bx w k T zs
def As.new (n0 : Nat) (W : World) (T : TypeId) (zs : Array Value) : As (RB n0 W) FB := ⟨NewB n0 T zs, fun v w w' _ _ h ⟨k, e, hk, hb⟩ => ⟨k, e, hk, hb.below h hb.lt⟩⟩
theorem NewB.ne {n0 : Nat} {T : TypeId} {zs : Array Value} {u : Value} {w : World} (h : NewB n0 T zs u w) : Value.pointer (some ⟨w.heap.size, 0, none⟩) ≠ u := by
  obtain ⟨k, rfl, _, hb⟩ := h
  intro e
  injection e with e
  injection e with e
  injection e with e
  exact absurd hb.lt (by omega)
/-- A slice of numbers. -/
def SliB (T : TypeId) (xs : List Int) (v : Value) (w : World) : Prop := ∃ A c, v = .slice A xs.length c ∧ SlI w T A xs
def As.sli (n0 : Nat) (W : World) (T : TypeId) (xs : List Int) : As (RB n0 W) FB := ⟨SliB T xs, fun v w w' _ _ h ⟨A, c, e, hb⟩ => ⟨A, c, e, hb.below h (Nat.le_refl _)⟩⟩
end Go.Proofs.Ytnihkgdkdinliaa
