/- The rule for a drawn region among whose operations are stores: a store (st: its number, and that of the operation whose slot it reports on) comes at any time. Guards as in RegionC. Own work; imports no translation. -/
import Derived.Test.YtnihkgdkdinliaaRegionC
namespace Go.Proofs.Ytnihkgdkdinliaa
open Go.RowKit
set_option linter.unusedVariables false
set_option linter.unusedSimpArgs false

/-- The operation whose slot operation i reports on: a store, on its pointer's. -/
def rpi (st : List (Nat × Nat)) (i : Nat) : Nat := (st.find? fun x => x.1 == i).elim i (·.2)
def isSt (st : List (Nat × Nat)) (i : Nat) : Bool := (st.find? fun x => x.1 == i).isSome
theorem rpi_no {st : List (Nat × Nat)} {i : Nat} (h : isSt st i = false) : rpi st i = i := by
  unfold isSt at h; unfold rpi
  cases hf : st.find? fun x => x.1 == i with
  | none => rfl
  | some x => rw [hf] at h; cases h

def okS (ops : Array Oper) (m N : Nat) (sk : List Nat) (st : List (Nat × Nat)) : Bool :=
  Region.noSelect ops && decide (m ≤ ops.size) &&
  (List.range ops.size).all fun i => match ops[i]? with
    | none => false
    | some o => (aftOf o).all (· < i) &&
      if i < m then
        (match o.dst with
          | none => isSt st i && (aftOf o).contains (rpi st i) && (dOf ops (rpi st i)).isSome && !sk.contains i && !isSt st (rpi st i)
          | some d => decide (d < N) && !isSt st i && ((List.range m).all fun k => k == i || dOf ops k != o.dst)) &&
        ((!sk.contains i || o.guard.isSome) && (match o.guard with | none => true | some (k, _) => (aftOf o).contains k && decide (k < m) && !isSt st k)) &&
        (o.looksAt ops).all (fun t => (List.range m).all fun k => dOf ops k != some t || (aftOf o).contains k)
      else if i = m then (List.range m).all fun k => (List.range (m + 1)).any fun s => decide (k < s) && ((ops[s]?).map fun os => (aftOf os).contains k).getD false
      else (aftOf o).contains (i - 1)

theorem okS_spec {ops : Array Oper} {m N : Nat} {sk : List Nat} {st : List (Nat × Nat)} (h : okS ops m N sk st = true) : Region.noSelect ops = true ∧ m ≤ ops.size ∧
    ∀ i, i < ops.size → ∃ o, ops[i]? = some o ∧ (∀ j ∈ aftOf o, j < i) ∧
      (i < m → ((o.dst = none ∧ isSt st i = true ∧ rpi st i ∈ aftOf o ∧ (∃ s, dOf ops (rpi st i) = some s) ∧ i ∉ sk ∧ isSt st (rpi st i) = false) ∨ (∃ d, o.dst = some d ∧ d < N ∧ isSt st i = false ∧ ∀ k, k < m → k ≠ i → dOf ops k ≠ o.dst)) ∧
        ((i ∈ sk → ∃ g, o.guard = some g) ∧ ∀ k b, o.guard = some (k, b) → k ∈ aftOf o ∧ k < m ∧ isSt st k = false) ∧ (∀ t ∈ o.looksAt ops, ∀ k, k < m → dOf ops k = some t → k ∈ aftOf o)) ∧
      (m = i → ∀ k, k < m → ∃ s os, k < s ∧ s ≤ m ∧ ops[s]? = some os ∧ k ∈ aftOf os) ∧ (m < i → i - 1 ∈ aftOf o) := by
  simp only [okS, Bool.and_eq_true, decide_eq_true_eq, List.all_eq_true, List.mem_range] at h
  obtain ⟨⟨h1, h2⟩, h3⟩ := h
  refine ⟨h1, h2, fun i hi => ?_⟩
  have h4 := h3 i hi
  cases ho : ops[i]? with
  | none => rw [ho] at h4; cases h4
  | some o =>
    rw [ho] at h4
    simp only [Bool.and_eq_true, List.all_eq_true, decide_eq_true_eq] at h4
    refine ⟨o, rfl, h4.1, fun him => ?_, fun him k hk => ?_, fun him => ?_⟩
    · have h5 := h4.2
      rw [if_pos him] at h5
      simp only [Bool.and_eq_true, List.all_eq_true, List.mem_range, Bool.or_eq_true, bne_iff_ne, ne_eq, List.contains_iff_mem, beq_iff_eq] at h5
      obtain ⟨⟨h6, h7⟩, h8⟩ := h5
      refine ⟨?_, ⟨fun hi => ?_, fun k b hg => ?_⟩, fun t ht k hk he => ?_⟩
      · cases hd : o.dst with
        | none =>
          rw [hd] at h6
          simp only [Bool.and_eq_true, List.contains_iff_mem, Bool.not_eq_true', List.contains_eq_mem, decide_eq_false_iff_not] at h6
          obtain ⟨⟨⟨⟨a1, a2⟩, a3⟩, a4⟩, a5⟩ := h6
          exact .inl ⟨rfl, a1, by simpa using a2, Option.isSome_iff_exists.1 a3, a4, a5⟩
        | some d =>
          rw [hd] at h6
          simp only [Bool.and_eq_true, decide_eq_true_eq, Bool.not_eq_true', List.all_eq_true, List.mem_range, Bool.or_eq_true, beq_iff_eq, bne_iff_ne, ne_eq] at h6
          exact .inr ⟨d, rfl, h6.1.1, h6.1.2, fun k hk hne => by
            rcases h6.2 k hk with h | h
            · exact absurd h hne
            · exact h⟩
      · rcases h7.1 with h | h
        · simp only [Bool.not_eq_true', List.contains_eq_mem, decide_eq_false_iff_not] at h; exact absurd hi h
        · exact Option.isSome_iff_exists.1 h
      · have h7' := h7.2
        rw [hg] at h7'
        simp only [Bool.and_eq_true, List.contains_iff_mem, decide_eq_true_eq, Bool.not_eq_true'] at h7'
        exact ⟨h7'.1.1, h7'.1.2, h7'.2⟩
      · rcases h8 t ht k hk with h | h
        · exact absurd he h
        · exact h
    · have h5 := h4.2
      rw [if_neg (by omega), if_pos him.symm] at h5
      simp only [List.all_eq_true, List.any_eq_true, List.mem_range, Bool.and_eq_true, decide_eq_true_eq] at h5
      obtain ⟨s, hs1, hs2, hs3⟩ := h5 k hk
      cases hos : ops[s]? with
      | none => rw [hos] at hs3; cases hs3
      | some os =>
        rw [hos] at hs3
        exact ⟨s, os, hs2, by omega, hos, by simpa using hs3⟩
    · have h5 := h4.2
      rw [if_neg (by omega), if_neg (by omega)] at h5
      simpa using h5

/-- What becomes of an operation's run; ψ: what a store brings about. -/
def UpS (P : Program) (φ : Value → World → Prop) (ψ : World → Prop) (R : World → Prop) (F : World → World → Prop) (w : World) : Result Next → Prop
  | .ok (.value v) w' => φ v w' ∧ R w' ∧ F w w'
  | .ok (.enter f args) w' => Calls P f args w' fun
      | .returned v, w'' => φ v w'' ∧ R w'' ∧ F w w''
      | _, _ => False
  | .ok .skip w' => ψ w' ∧ R w' ∧ F w w'
  | _ => False

theorem putAll_eqS {ops : Array Oper} {m N : Nat} {sk : List Nat} {st : List (Nat × Nat)} {a0 : Act} {listed : Array Bool} (hok : okS ops m N sk st = true) (a : Act) (hN : a0.tmps.size = N) (hz : a.tmps.size = N) (hdf : a.defers = a0.defers)
    (h2 : ∀ t, (∀ i, i < m → listed.getD i true = true → dOf ops i ≠ some t) → a.tmps.getD t undef = a0.tmps.getD t undef) :
    putAll ops a0 (fun i => (dOf ops i).elim undef fun t => a.tmps.getD t undef) m = a := by
  obtain ⟨hsel, hm, hsp⟩ := okS_spec hok
  have e1 : (putAll ops a0 (fun i => (dOf ops i).elim undef fun t => a.tmps.getD t undef) m).tmps = a.tmps := by
    apply Array.ext
    · rw [putAll_size, hN, hz]
    · intro t ht1 ht2
      have e2 : (putAll ops a0 (fun i => (dOf ops i).elim undef fun t => a.tmps.getD t undef) m).tmps.getD t undef = a.tmps.getD t undef := by
        by_cases hex : ∃ i, i < m ∧ dOf ops i = some t
        · obtain ⟨i, hi, hd⟩ := hex
          rw [putAll_at ops a0 _ t (by rw [hN, ← hz]; exact ht2) i m hi hd, hd]
          · rfl
          · intro k hk hne
            obtain ⟨o, ho, _, h5, _⟩ := hsp i (by omega)
            have : dOf ops i = o.dst := by simp [dOf, ho]
            rcases (h5 hi).1 with ⟨hn, _⟩ | ⟨d, hd', _, _, hx⟩
            · rw [this, hn] at hd; cases hd
            · rw [← hd, this]; exact hx k hk hne
        · have hno : ∀ i, i < m → dOf ops i ≠ some t := fun i hi he => hex ⟨i, hi, he⟩
          rw [putAll_other ops a0 _ t m hno, h2 t fun i hi _ => hno i hi]
      rw [Array.getD, Array.getD, dif_pos ht1, dif_pos ht2] at e2
      exact e2
  have e3 := (putAll_defers ops a0 (fun i => (dOf ops i).elim undef fun t => a.tmps.getD t undef) m).trans hdf.symm
  cases a
  generalize putAll ops a0 _ m = b at e1 e3
  cases b
  simp at e1 e3
  rw [e1, e3]

theorem tail_anyS {P : Program} {ops : Array Oper} {Q : Exit → Act → World → Prop} {m N : Nat} {sk : List Nat} {st : List (Nat × Nat)} (hok : okS ops m N sk st = true) :
    ∀ (r k : Nat) (listed : Array Bool) (a : Act) (w : World), k + r = ops.size → m ≤ k → listed.size = ops.size →
      (∀ i, i < k → listed.getD i true = true) → (∀ i, k ≤ i → i < ops.size → listed.getD i true = false) →
      wpOps P ops Q (List.range' k r) a w → wpAny P .any ops Q r listed a w := by
  obtain ⟨_, _, hsp⟩ := okS_spec hok
  intro r
  induction r with
  | zero =>
    intro k listed a w hk hm hs h1 h2 h
    refine ⟨?_, by simpa [wpOps] using h⟩
    apply List.eq_nil_iff_forall_not_mem.2
    intro j hj
    obtain ⟨hj1, o, ho, _⟩ := ready_iff.1 hj
    have hjn : j < ops.size := (Array.getElem?_eq_some_iff.1 ho).1
    rw [h1 j (by omega)] at hj1
    cases hj1
  | succ r ih =>
    intro k listed a w hk hm hs h1 h2 h
    obtain ⟨o, ho, hlt, _, _, _⟩ := hsp k (by omega)
    have hready : ∀ j, j ∈ Region.ready .any ops listed ↔ j = k := by
      intro j
      rw [ready_iff]
      constructor
      · rintro ⟨hj1, oj, hoj, hall⟩
        have hjn : j < ops.size := (Array.getElem?_eq_some_iff.1 hoj).1
        by_cases hjk : j < k
        · rw [h1 j hjk] at hj1; cases hj1
        · by_cases he : j = k
          · exact he
          · obtain ⟨oj', hoj', _, _, _, haf⟩ := hsp j hjn
            rw [hoj] at hoj'
            cases hoj'
            have h3 := hall (j - 1) (haf (by omega))
            have h4 := h2 (j - 1) (by omega) (by omega)
            have hkn : j - 1 < listed.size := by omega
            simp [hkn] at h3 h4
            rw [h3] at h4
            cases h4
      · rintro rfl
        refine ⟨h2 j (Nat.le_refl _) (by omega), o, ho, fun i hi => ?_⟩
        have h3 := h1 i (hlt i hi)
        have hin : i < listed.size := by have := hlt i hi; omega
        simp [hin] at h3 ⊢
        exact h3
    have hsub : ∀ i, i ∈ Region.ready .any ops listed → wpOp P ops Q i (wpAny P .any ops Q r (listed.setIfInBounds i true)) a w := by
      intro i hi
      have hik := (hready i).1 hi
      subst hik
      rw [List.range'_succ, wpOps_cons] at h
      refine wpOp_mono (fun a' w' h' => ih (i + 1) _ a' w' (by omega) (by omega) (by simp [hs]) (fun j hj => ?_) (fun j hj hjn => ?_) h') h
      · by_cases hji : j = i
        · subst hji
          have : j < listed.size := by omega
          simp [Array.getElem?_setIfInBounds, this]
        · have hne : i ≠ j := fun e => hji e.symm
          have := h1 j (by omega)
          simpa [Array.getElem?_setIfInBounds_ne hne] using this
      · have hne : i ≠ j := by omega
        have := h2 j (by omega) hjn
        simpa [Array.getElem?_setIfInBounds_ne hne] using this
    exact ⟨fun he => (by have := (hready k).2 rfl; rw [he] at this; cases this), hsub⟩

section
variable {P : Program} {ops : Array Oper} {Q : Exit → Act → World → Prop} {m N : Nat} {a0 : Act} {R : World → Prop} {F : World → World → Prop} {φ : Nat → Value → World → Prop} {fr sk : List Nat} {st : List (Nat × Nat)}

theorem main_anyS (hok : okS ops m N sk st = true) (hN : a0.tmps.size = N)
    (hlast : ∀ i v w w', R w → R w' → F w w' → φ i v w → φ i v w')
    (hfs : ∀ i ∈ fr, i ∉ sk) (hft : ∀ i ∈ fr, isSt st i = false) (hT : ∀ i, i < m → ∀ o, ops[i]? = some o → ∀ k b, o.guard = some (k, b) → ∀ u w, R w → φ k u w → u = .bool (if i ∈ sk then !b else b))
    (hFr : ∀ w, F w w) (hS : ∀ i, i < m → i ∈ sk → ∀ w, R w → φ i undef w)
    (hO : ∀ i, i < m → i ∉ sk → ∀ o, ops[i]? = some o → ∀ (ev : Operand → Value) (w : World), R w → (∀ v, ev (.const v) = v) → (∀ f, ev (.func f) = .func (.func f) #[] #[]) → (∀ g, ev (.global g) = .pointer (some ⟨g, 0, none⟩)) →
      (∀ t, freeSlot ops m t = true → ev (.tmp t) = a0.tmps.getD t undef) → (∀ k t, waitsFor ops o k t = true → φ k (ev (.tmp t)) w) →
      UpS P (fun v w' => isSt st i = false ∧ φ i v w' ∧ (i ∈ fr → ∀ j ∈ fr, ∀ u, φ j u w → v ≠ u)) (fun w' => isSt st i = true ∧ ∀ t, dOf ops (rpi st i) = some t → φ i (ev (.tmp t)) w') R F w ((execOp ev o).run P w))
    (hend : ∀ (ρ : Nat → Value) (w : World), R w → (∀ i, i < m → φ i (ρ (rpi st i)) w) → (∀ i j, i < m → j < m → i ≠ j → i ∈ fr → j ∈ fr → ρ i ≠ ρ j) → wpOps P ops Q (List.range' m (ops.size - m)) (putAll ops a0 ρ m) w) :
    ∀ (fuel : Nat) (listed : Array Bool) (a : Act) (w : World), fuel = toCome ops.size listed → listed.size = ops.size → R w → a.tmps.size = N → a.defers = a0.defers →
      (∀ i, i < m → listed.getD i true = true → ∀ t, dOf ops (rpi st i) = some t → φ i (a.tmps.getD t undef) w) →
      (∀ t, (∀ i, i < m → listed.getD i true = true → dOf ops i ≠ some t) → a.tmps.getD t undef = a0.tmps.getD t undef) →
      (∀ k, m ≤ k → k < ops.size → listed.getD k true = false) →
      (∀ i, listed.getD i false = true → ∀ o, ops[i]? = some o → ∀ k ∈ aftOf o, listed.getD k false = true) →
      (∀ i j, i < m → j < m → i ≠ j → i ∈ fr → j ∈ fr → listed.getD i true = true → listed.getD j true = true → ∀ t s, dOf ops i = some t → dOf ops j = some s → a.tmps.getD t undef ≠ a.tmps.getD s undef) →
      wpAny P .any ops Q fuel listed a w := by
  obtain ⟨hsel, hm, hsp⟩ := okS_spec hok
  intro fuel
  induction fuel with
  | zero =>
    intro listed a w hf hs hR hz hdf h1 h2 h3 h4 h6x
    -- all have come: m = ops.size
    have hall : ∀ i, i < ops.size → listed.getD i true = true := by
      intro i hi
      cases hl : listed.getD i true with
      | true => rfl
      | false => have := toCome_pos hi hl; omega
    have hmn : m = ops.size := by
      rcases Nat.lt_or_ge m ops.size with h | h
      · have := hall m h
        rw [h3 m (Nat.le_refl _) h] at this
        cases this
      · omega
    have hfin := hend (fun i => (dOf ops i).elim undef fun t => a.tmps.getD t undef) w hR (fun i hi => by
      obtain ⟨o, ho, _, h5, _⟩ := hsp i (by omega)
      have hex : ∃ d, dOf ops (rpi st i) = some d := by
        rcases (h5 hi).1 with ⟨_, _, _, hs', _⟩ | ⟨d, hd, _, hns, _⟩
        · exact hs'
        · rw [rpi_no hns]; exact ⟨d, by simp [dOf, ho, hd]⟩
      obtain ⟨d, hdo⟩ := hex
      simpa [hdo] using h1 i hi (hall i (by omega)) d hdo) (fun i j hi hj hne hfi hfj => by
      obtain ⟨o, ho, _, h5, _⟩ := hsp i (by omega)
      obtain ⟨d, hd, _⟩ : ∃ d, o.dst = some d ∧ True := by
        rcases (h5 hi).1 with ⟨_, hs', _⟩ | ⟨d, hd, _⟩
        · rw [hft i hfi] at hs'; cases hs'
        · exact ⟨d, hd, trivial⟩
      obtain ⟨o', ho', _, h5', _⟩ := hsp j (by omega)
      obtain ⟨d', hd', _⟩ : ∃ d, o'.dst = some d ∧ True := by
        rcases (h5' hj).1 with ⟨_, hs', _⟩ | ⟨d, hd, _⟩
        · rw [hft j hfj] at hs'; cases hs'
        · exact ⟨d, hd, trivial⟩
      have hdo : dOf ops i = some d := by simp [dOf, ho, hd]
      have hdo' : dOf ops j = some d' := by simp [dOf, ho', hd']
      simpa only [hdo, hdo', Option.elim_some] using h6x i j hi hj hne hfi hfj (hall i (by omega)) (hall j (by omega)) d d' hdo hdo')
    have ha := putAll_eqS hok a hN hz hdf h2
    rw [ha] at hfin
    have hr : ops.size - m = 0 := by omega
    rw [hr] at hfin
    refine ⟨?_, by simpa [wpOps] using hfin⟩
    apply List.eq_nil_iff_forall_not_mem.2
    intro j hj
    obtain ⟨hj1, o, ho, _⟩ := ready_iff.1 hj
    have hjn : j < ops.size := (Array.getElem?_eq_some_iff.1 ho).1
    rw [hall j hjn] at hj1
    cases hj1
  | succ fuel ih =>
    intro listed a w hf hs hR hz hdf h1 h2 h3 h4 h6x
    by_cases hall : ∀ i, i < m → listed.getD i true = true
    · -- the last ones
      have hfin := hend (fun i => (dOf ops i).elim undef fun t => a.tmps.getD t undef) w hR (fun i hi => by
        obtain ⟨o, ho, _, h5, _⟩ := hsp i (by omega)
        have hex : ∃ d, dOf ops (rpi st i) = some d := by
          rcases (h5 hi).1 with ⟨_, _, _, hs', _⟩ | ⟨d, hd, _, hns, _⟩
          · exact hs'
          · rw [rpi_no hns]; exact ⟨d, by simp [dOf, ho, hd]⟩
        obtain ⟨d, hdo⟩ := hex
        simpa [hdo] using h1 i hi (hall i hi) d hdo) (fun i j hi hj hne hfi hfj => by
        obtain ⟨o, ho, _, h5, _⟩ := hsp i (by omega)
        obtain ⟨d, hd, _⟩ : ∃ d, o.dst = some d ∧ True := by
          rcases (h5 hi).1 with ⟨_, hs', _⟩ | ⟨d, hd, _⟩
          · rw [hft i hfi] at hs'; cases hs'
          · exact ⟨d, hd, trivial⟩
        obtain ⟨o', ho', _, h5', _⟩ := hsp j (by omega)
        obtain ⟨d', hd', _⟩ : ∃ d, o'.dst = some d ∧ True := by
          rcases (h5' hj).1 with ⟨_, hs', _⟩ | ⟨d, hd, _⟩
          · rw [hft j hfj] at hs'; cases hs'
          · exact ⟨d, hd, trivial⟩
        have hdo : dOf ops i = some d := by simp [dOf, ho, hd]
        have hdo' : dOf ops j = some d' := by simp [dOf, ho', hd']
        simpa only [hdo, hdo', Option.elim_some] using h6x i j hi hj hne hfi hfj (hall i hi) (hall j hj) d d' hdo hdo')
      have ha := putAll_eqS hok a hN hz hdf h2
      rw [ha] at hfin
      have hcount : toCome ops.size listed = ops.size - m := by
        unfold toCome
        have : (List.range ops.size).filter (fun i => !listed.getD i true) = List.range' m (ops.size - m) := by
          have e0 : List.range ops.size = List.range m ++ List.range' m (ops.size - m) := by
            have e := List.range'_append (s := 0) (m := m) (n := ops.size - m) (step := 1)
            rw [Nat.zero_add, Nat.one_mul] at e
            rw [List.range_eq_range', List.range_eq_range', e]
            congr 1
            omega
          rw [e0, List.filter_append]
          have e1 : (List.range m).filter (fun i => !listed.getD i true) = [] := by
            apply List.filter_eq_nil_iff.2
            intro i hi
            rw [hall i (List.mem_range.1 hi)]
            decide
          have e2 : (List.range' m (ops.size - m)).filter (fun i => !listed.getD i true) = List.range' m (ops.size - m) := by
            apply List.filter_eq_self.2
            intro i hi
            have := List.mem_range'_1.1 hi
            rw [h3 i (by omega) (by omega)]
            decide
          rw [e1, e2, List.nil_append]
        rw [this, List.length_range']
      rw [hf, hcount]
      exact tail_anyS hok (ops.size - m) m listed a w (by omega) (Nat.le_refl _) hs hall h3 hfin
    · have hne : ∃ i, i < m ∧ listed.getD i true = false := by
        simp only [Classical.not_forall] at hall
        obtain ⟨i, hi, h⟩ := hall
        exact ⟨i, hi, by simpa using h⟩
      obtain ⟨i0, hi0, hl0⟩ := hne
      obtain ⟨j0, hj0⟩ := some_ready hs (fun i hi => by obtain ⟨o, ho, h, _⟩ := hsp i hi; exact ⟨o, ho, h⟩) i0 (by omega) hl0
      refine ⟨fun he => (by rw [he] at hj0; cases hj0), fun i hi => ?_⟩
      obtain ⟨hli, o, ho, hall'⟩ := ready_iff.1 hi
      have hin : i < ops.size := (Array.getElem?_eq_some_iff.1 ho).1
      obtain ⟨o', ho', hlt, hmain, haft, haft'⟩ := hsp i hin
      rw [ho] at ho'
      cases ho'
      have him : i < m := by
        rcases Nat.lt_or_ge i m with h | h
        · exact h
        · exfalso
          rcases Nat.lt_or_ge m i with hlt' | hge'
          · have h5 := hall' (i - 1) (haft' hlt')
            have h6 := h3 (i - 1) (by omega) (by omega)
            have : i - 1 < listed.size := by omega
            simp [this] at h5 h6
            rw [h5] at h6
            cases h6
          · have him' : m = i := by omega
            have hdown : ∀ r k, k + r = m → k < m → listed.getD k false = true := by
              intro r
              induction r using Nat.strongRecOn with
              | ind r ihr =>
                intro k hk hkm
                obtain ⟨s, os, hs1, hs2, hos, hks⟩ := haft him' k hkm
                rcases Nat.lt_or_ge s m with hsm | hsm
                · exact h4 s (ihr (m - s) (by omega) s (by omega) hsm) os hos k hks
                · have : s = i := by omega
                  subst this
                  rw [ho] at hos
                  cases hos
                  exact hall' k hks
            have h5 := hdown (m - i0) i0 (by omega) hi0
            have : i0 < listed.size := by omega
            simp [this] at h5 hl0
            rw [h5] at hl0
            cases hl0
      obtain ⟨hcase, hg, hlook⟩ := hmain him
      have hli0 : i < listed.size := by omega
      -- what slots listed operations report on is not written again
      have hkeep : ∀ d, o.dst = some d → ∀ k, k < m → listed.getD k true = true → k ≠ i → ∀ t, dOf ops (rpi st k) = some t → d ≠ t := by
        intro d hd k hk hkl hki t hkt hdt
        subst hdt
        rcases hcase with ⟨hn, _⟩ | ⟨d', hd', _, _, hx⟩
        · rw [hn] at hd; cases hd
        · obtain ⟨ok, hok', _, hmk, _⟩ := hsp k (by omega)
          rcases (hmk hk).1 with ⟨_, hsk', hin', _, _, hns'⟩ | ⟨_, _, _, hns, _⟩
          · have hr := (hsp k (by omega)).choose_spec
            have hrl := h4 k (by have : k < listed.size := by omega
                                 simp [this] at hkl ⊢; exact hkl) ok hok' _ hin'
            have hrk : rpi st k < m := by
              obtain ⟨ok2, hok2, hlt2, _⟩ := hsp k (by omega)
              rw [hok'] at hok2; cases hok2
              have := hlt2 _ hin'; omega
            by_cases hri : rpi st k = i
            · rw [hri] at hrl
              simp [hli0] at hrl hli
              rw [hrl] at hli; cases hli
            · exact hx _ hrk hri (by rw [hkt, hd])
          · rw [rpi_no hns] at hkt
            exact hx k hk hki (by rw [hkt, hd])
      have stepV : ∀ v w', (isSt st i = false ∧ φ i v w' ∧ (i ∈ fr → ∀ j ∈ fr, ∀ u, φ j u w → v ≠ u)) ∧ R w' ∧ F w w' → wpAny P .any ops Q fuel (listed.setIfInBounds i true) (a.put o.dst v) w' := by
        rintro v w' ⟨⟨hnst, hv, hvx⟩, hR', hF⟩
        rcases hcase with ⟨_, hst', _⟩ | ⟨d, hd, hdN, _, hdist⟩
        · rw [hnst] at hst'; cases hst'
        have hdo : dOf ops i = some d := by simp [dOf, ho, hd]
        have hat : (a.put o.dst v).tmps.getD d undef = v := by rw [hd]; exact Act.getD_put_same _ _ _ (by rw [hz]; exact hdN)
        refine ih _ _ _ ?_ (by simp [hs]) hR' (by rw [Act.size_put]; exact hz) (by rw [Act.defers_put]; exact hdf) ?_ ?_ ?_ ?_ ?_
        · have := toCome_set hin hs hli
          omega
        · intro k hk hkl t hkt
          by_cases hki : k = i
          · subst hki
            rw [rpi_no hnst, hdo] at hkt
            cases hkt
            rw [hat]
            exact hv
          · have hne' : i ≠ k := fun e => hki e.symm
            have hkl' : listed.getD k true = true := by simpa [Array.getElem?_setIfInBounds_ne hne'] using hkl
            rw [Act.getD_put_ne _ _ _ _ (by rw [hd]; intro e; injection e with e; exact hkeep d hd k hk hkl' hki t hkt e)]
            exact hlast k _ w w' hR hR' hF (h1 k hk hkl' t hkt)
        · intro t hno
          have hdt : o.dst ≠ some t := by
            have := hno i him (by simp [Array.getElem?_setIfInBounds, hli0])
            rw [hdo] at this
            rw [hd]
            exact this
          rw [Act.getD_put_ne _ _ _ _ hdt]
          refine h2 t fun k hk hkl => ?_
          by_cases hki : k = i
          · subst hki
            rw [hdo, ← hd]
            exact hdt
          · have hne' : i ≠ k := fun e => hki e.symm
            exact hno k hk (by simpa [Array.getElem?_setIfInBounds_ne hne'] using hkl)
        · intro k hk hkn
          have hne' : i ≠ k := by omega
          have := h3 k hk hkn
          simpa [Array.getElem?_setIfInBounds_ne hne'] using this
        · intro k hkl ok hok' j hj
          have hjl : listed.getD j false = true := by
            by_cases hki : k = i
            · subst hki
              rw [ho] at hok'
              cases hok'
              exact hall' j hj
            · have hne' : i ≠ k := fun e => hki e.symm
              exact h4 k (by simpa [Array.getElem?_setIfInBounds_ne hne'] using hkl) ok hok' j hj
          by_cases hji : j = i
          · subst hji
            simp [Array.getElem?_setIfInBounds, hli0]
          · have hne' : i ≠ j := fun e => hji e.symm
            simpa [Array.getElem?_setIfInBounds_ne hne'] using hjl
        · intro k l hk hl hkl hfk hfl hkc hlc t s hkt hls
          have hkt' : dOf ops (rpi st k) = some t := by rw [rpi_no (hft k hfk)]; exact hkt
          have hls' : dOf ops (rpi st l) = some s := by rw [rpi_no (hft l hfl)]; exact hls
          by_cases hki : k = i
          · subst hki
            have hne' : k ≠ l := hkl
            have hlc' : listed.getD l true = true := by simpa [Array.getElem?_setIfInBounds_ne hne'] using hlc
            rw [hdo] at hkt
            cases hkt
            rw [hat]
            rw [Act.getD_put_ne _ _ _ _ (by rw [hd]; intro e; injection e with e; exact hkeep d hd l hl hlc' (fun e => hkl e.symm) s hls' e)]
            exact hvx hfk l hfl _ (h1 l hl hlc' s hls')
          · have hne' : i ≠ k := fun e => hki e.symm
            have hkc' : listed.getD k true = true := by simpa [Array.getElem?_setIfInBounds_ne hne'] using hkc
            rw [Act.getD_put_ne _ _ _ t (by rw [hd]; intro e; injection e with e; exact hkeep d hd k hk hkc' hki t hkt' e)]
            by_cases hli' : l = i
            · subst hli'
              rw [hdo] at hls
              cases hls
              rw [hat]
              exact fun e => hvx hfl k hfk _ (h1 k hk hkc' t hkt') e.symm
            · have hne2 : i ≠ l := fun e => hli' e.symm
              have hlc' : listed.getD l true = true := by simpa [Array.getElem?_setIfInBounds_ne hne2] using hlc
              rw [Act.getD_put_ne _ _ _ s (by rw [hd]; intro e; injection e with e; exact hkeep d hd l hl hlc' hli' s hls' e)]
              exact h6x k l hk hl hkl hfk hfl hkc' hlc' t s hkt hls
      have stepS : o.dst = none → ∀ w', (isSt st i = true ∧ ∀ t, dOf ops (rpi st i) = some t → φ i (a.tmps.getD t undef) w') ∧ R w' ∧ F w w' → wpAny P .any ops Q fuel (listed.setIfInBounds i true) a w' := by
        rintro hdn w' ⟨⟨hst', hv⟩, hR', hF⟩
        have hdo : dOf ops i = none := by simp [dOf, ho, hdn]
        refine ih _ _ _ ?_ (by simp [hs]) hR' hz hdf ?_ ?_ ?_ ?_ ?_
        · have := toCome_set hin hs hli
          omega
        · intro k hk hkl t hkt
          by_cases hki : k = i
          · subst hki
            exact hv t hkt
          · have hne' : i ≠ k := fun e => hki e.symm
            have hkl' : listed.getD k true = true := by simpa [Array.getElem?_setIfInBounds_ne hne'] using hkl
            exact hlast k _ w w' hR hR' hF (h1 k hk hkl' t hkt)
        · intro t hno
          refine h2 t fun k hk hkl => ?_
          by_cases hki : k = i
          · subst hki
            rw [hdo]
            exact fun e => by cases e
          · have hne' : i ≠ k := fun e => hki e.symm
            exact hno k hk (by simpa [Array.getElem?_setIfInBounds_ne hne'] using hkl)
        · intro k hk hkn
          have hne' : i ≠ k := by omega
          have := h3 k hk hkn
          simpa [Array.getElem?_setIfInBounds_ne hne'] using this
        · intro k hkl ok hok' j hj
          have hjl : listed.getD j false = true := by
            by_cases hki : k = i
            · subst hki
              rw [ho] at hok'
              cases hok'
              exact hall' j hj
            · have hne' : i ≠ k := fun e => hki e.symm
              exact h4 k (by simpa [Array.getElem?_setIfInBounds_ne hne'] using hkl) ok hok' j hj
          by_cases hji : j = i
          · subst hji
            simp [Array.getElem?_setIfInBounds, hli0]
          · have hne' : i ≠ j := fun e => hji e.symm
            simpa [Array.getElem?_setIfInBounds_ne hne'] using hjl
        · intro k l hk hl hkl hfk hfl hkc hlc t s hkt hls
          have hki : k ≠ i := fun e => by rw [← e, hft k hfk] at hst'; cases hst'
          have hli' : l ≠ i := fun e => by rw [← e, hft l hfl] at hst'; cases hst'
          have hne' : i ≠ k := fun e => hki e.symm
          have hne2 : i ≠ l := fun e => hli' e.symm
          have hkc' : listed.getD k true = true := by simpa [Array.getElem?_setIfInBounds_ne hne'] using hkc
          have hlc' : listed.getD l true = true := by simpa [Array.getElem?_setIfInBounds_ne hne2] using hlc
          exact h6x k l hk hl hkl hfk hfl hkc' hlc' t s hkt hls
      have hyield : ∀ k b, o.guard = some (k, b) → yielded ops a.tmps k = some (if i ∈ sk then !b else b) := by
        intro k b hgk
        obtain ⟨hka, hkm, hkns⟩ := hg.2 k b hgk
        obtain ⟨ok, hok', _, hmk, _⟩ := hsp k (by omega)
        obtain ⟨dk, hdk, hdkN⟩ : ∃ d, ok.dst = some d ∧ d < N := by
          rcases (hmk hkm).1 with ⟨_, hs', _⟩ | ⟨d, hd, hdN, _⟩
          · rw [hkns] at hs'; cases hs'
          · exact ⟨d, hd, hdN⟩
        have hdko : dOf ops k = some dk := by simp [dOf, hok', hdk]
        have hkl := hall' k hka
        have hks : k < listed.size := by omega
        have hkl' : listed.getD k true = true := by simp [hks] at hkl ⊢; exact hkl
        have hu := hT i him o ho k b hgk _ w hR (h1 k hkm hkl' dk (by rw [rpi_no hkns]; exact hdko))
        unfold yielded
        rw [hok']
        simp only [Option.bind_some, hdk]
        have hlt' : dk < a.tmps.size := by rw [hz]; exact hdkN
        rw [Array.getElem?_eq_getElem hlt']
        have e : a.tmps.getD dk undef = a.tmps[dk] := by simp [Array.getD, hlt']
        rw [← e, hu]
      by_cases hsk : i ∈ sk
      · obtain ⟨⟨gk, gb⟩, hgk⟩ := hg.1 hsk
        have hwn : Region.wanted o (yielded ops a.tmps) = false := by
          simp only [Region.wanted, hgk]
          rw [hyield gk gb hgk, if_pos hsk]
          cases gb <;> rfl
        unfold wpOp
        simp only [ho]
        rw [if_neg (by rw [hwn]; decide)]
        have hnst : isSt st i = false := by
          rcases hcase with ⟨_, _, _, _, hnk, _⟩ | ⟨_, _, _, hns, _⟩
          · exact absurd hsk hnk
          · exact hns
        exact stepV undef w ⟨⟨hnst, hS i him hsk w hR, fun hfi => absurd hsk (hfs i hfi)⟩, hR, hFr w⟩
      have hwant : Region.wanted o (yielded ops a.tmps) = true := by
        unfold Region.wanted
        cases hgo : o.guard with
        | none => rfl
        | some g =>
          obtain ⟨k, b⟩ := g
          simp only []
          rw [hyield k b hgo, if_neg hsk]
          simp
      have hup := hO i him hsk o ho a.eval w hR (fun v => rfl) (fun f => rfl) (fun g => rfl)
        (fun t hno => h2 t fun k hk _ => by
          simp only [freeSlot, List.all_eq_true, List.mem_range, bne_iff_ne] at hno
          exact hno k hk)
        (fun k t hkt => by
          simp only [waitsFor, Bool.and_eq_true, List.contains_iff_mem, beq_iff_eq] at hkt
          obtain ⟨hk, hkt⟩ := hkt
          have hkl := hall' k hk
          have hks : k < listed.size := by have := hlt k hk; omega
          have : listed.getD k true = true := by simp [hks] at hkl ⊢; exact hkl
          have hkm : k < m := by have := hlt k hk; omega
          have hkns : isSt st k = false := by
            obtain ⟨ok, hok', _, hmk, _⟩ := hsp k (by omega)
            rcases (hmk hkm).1 with ⟨hn, _⟩ | ⟨_, _, _, hns, _⟩
            · simp [dOf, hok', hn] at hkt
            · exact hns
          exact h1 k hkm this t (by rw [rpi_no hkns]; exact hkt))
      unfold wpOp
      simp only [ho]
      have hw : Region.wanted o (yielded ops a.tmps) = true := hwant
      rw [if_pos hw]
      refine .inl ?_
      unfold Oper.wp
      generalize (execOp a.eval o).run P w = r at hup
      cases r with
      | ok n w' =>
        cases n <;> simp only [UpS] at hup
        case value v => exact stepV v w' hup
        case skip =>
          rcases hcase with ⟨hdn, _⟩ | ⟨_, _, _, hns, _⟩
          · simp only [Oper.upon]; rw [hdn]; exact stepS hdn w' hup
          · rw [hns] at hup; cases hup.1.1
        case enter f args =>
          refine Calls.mono hup fun e w'' he => ?_
          cases e with
          | returned v => exact stepV v w'' he
          | panicked c => exact he.elim
          | outgrown => exact he.elim
      | halt x w' => simp only [UpS] at hup

end

/-- The rule; the operations of fr hand out values that differ. -/
theorem wp_region_list_s {P : Program} {ops : Array Oper} {Q : Exit → Act → World → Prop} {id : Nat} (hm : P.follows .mixedOrders = true) {R : World → Prop} {F : World → World → Prop} (fr : List Nat) (sk : List Nat) (st : List (Nat × Nat)) (L : List (As R F)) (N : Nat) {a0 : Act} {w0 : World} (hok : okS ops L.length N sk st = true) (hN : a0.tmps.size = N) (hR0 : R w0.drew)
    (hfs : ∀ i ∈ fr, i ∉ sk) (hft : ∀ i ∈ fr, isSt st i = false) (hT : ∀ i, i < L.length → ∀ o, ops[i]? = some o → ∀ k b, o.guard = some (k, b) → ∀ u w, R w → (L.getD k (As.pure R F fun _ => True)).p u w → u = .bool (if i ∈ sk then !b else b))
    (hFr : ∀ w, F w w) (hS : ∀ i, i < L.length → i ∈ sk → ∀ w, R w → (L.getD i (As.pure R F fun _ => True)).p undef w)
    (hO : ∀ i, i < L.length → i ∉ sk → ∀ o, ops[i]? = some o → ∀ (ev : Operand → Value) (w : World), R w → (∀ v, ev (.const v) = v) → (∀ f, ev (.func f) = .func (.func f) #[] #[]) → (∀ g, ev (.global g) = .pointer (some ⟨g, 0, none⟩)) →
      (∀ t, freeSlot ops L.length t = true → ev (.tmp t) = a0.tmps.getD t undef) → (∀ k t, waitsFor ops o k t = true → (L.getD k (As.pure R F fun _ => True)).p (ev (.tmp t)) w) →
      UpS P (fun v w' => isSt st i = false ∧ (L.getD i (As.pure R F fun _ => True)).p v w' ∧ (i ∈ fr → ∀ j ∈ fr, ∀ u, (L.getD j (As.pure R F fun _ => True)).p u w → v ≠ u)) (fun w' => isSt st i = true ∧ ∀ t, dOf ops (rpi st i) = some t → (L.getD i (As.pure R F fun _ => True)).p (ev (.tmp t)) w') R F w ((execOp ev o).run P w))
    (hend : ∀ (ρ : Nat → Value) (w : World), R w → (∀ i, i < L.length → (L.getD i (As.pure R F fun _ => True)).p (ρ (rpi st i)) w) → (∀ i j, i < L.length → j < L.length → i ≠ j → i ∈ fr → j ∈ fr → ρ i ≠ ρ j) → ∀ K : Act → World → Prop, (∀ a w, wpList P ops Q (ops.toList.drop L.length) a w → K a w) → K (putAll ops a0 ρ L.length) w) :
    (Code.region id ops true).wp P Q a0 w0 := by
  refine wp_region_any hm ?_
  have hall := okS_spec hok
  refine main_anyS (φ := fun i => (L.getD i (As.pure R F fun _ => True)).p) (R := R) (F := F) (fr := fr) (sk := sk) (st := st) hok hN (fun i v w w' h1 h2 h3 h => (L.getD i (As.pure R F fun _ => True)).last v w w' h1 h2 h3 h) hfs hft hT hFr hS hO
    (fun ρ w h1 h2 h3 => wpOps_of_list _ _ _ (hend ρ w h1 h2 h3 _ fun _ _ h => h)) ops.size (Array.replicate ops.size false) a0 w0.drew ?_ (by simp) hR0 hN rfl ?_ (fun _ _ => rfl) ?_ ?_ ?_
  · unfold toCome
    have : (List.range ops.size).filter (fun i => !(Array.replicate ops.size false).getD i true) = List.range ops.size := by
      apply List.filter_eq_self.2
      intro i hi
      have := List.mem_range.1 hi
      simp [this]
    rw [this, List.length_range]
  · intro i hi hl
    have : i < ops.size := by have := hall.2.1; omega
    simp [this] at hl
  · intro k hk hkn
    simp [hkn]
  · intro i hi
    by_cases h : i < ops.size <;> simp [h] at hi
  · intro i j hi _ _ _ _ hl
    have : i < ops.size := by have := hall.2.1; omega
    simp [this] at hl

end Go.Proofs.Ytnihkgdkdinliaa
