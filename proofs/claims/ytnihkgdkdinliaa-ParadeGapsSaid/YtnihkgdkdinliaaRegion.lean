/- A region that draws its order, by assertions: each operation has an assertion on its value that lasts; whatever the order, all of them hold at the end. Own work; imports no translation. -/
import Derived.WalkKit
import Derived.Orders
import Derived.OrdersIn
import Derived.RangeFuncCalls
namespace Go.Proofs.Ytnihkgdkdinliaa
open Go.RowKit
set_option linter.unusedVariables false
set_option linter.unusedSimpArgs false

/-- What an operation waits for. -/
def aftOf (o : Oper) : List Nat := (o.after.toList.filter (Region.binds .any)).map (·.on)
def dOf (ops : Array Oper) (i : Nat) : Option Tmp := (ops[i]?).bind (·.dst)

/-- The region's first m operations each write a slot of their own, read only what they wait for, or what is written behind all; the others come last, in their order. -/
def okA (ops : Array Oper) (m N : Nat) : Bool :=
  Region.noSelect ops && decide (m ≤ ops.size) &&
  (List.range ops.size).all fun i => match ops[i]? with
    | none => false
    | some o => (aftOf o).all (· < i) &&
      if i < m then
        (match o.dst with | none => false | some d => decide (d < N)) && o.guard.isNone &&
        (o.looksAt ops).all (fun t => (List.range m).all fun k => dOf ops k != some t || (aftOf o).contains k) &&
        (List.range m).all (fun k => k == i || dOf ops k != o.dst)
      else if i = m then (List.range m).all fun k => (List.range (m + 1)).any fun s => decide (k < s) && ((ops[s]?).map fun os => (aftOf os).contains k).getD false
      else (aftOf o).contains (i - 1)

/-- What becomes of an operation's run. -/
def UpA (P : Program) (φ : Value → World → Prop) (R : World → Prop) (F : World → World → Prop) (w : World) : Result Next → Prop
  | .ok (.value v) w' => φ v w' ∧ R w' ∧ F w w'
  | .ok (.enter f args) w' => Calls P f args w' fun
      | .returned v, w'' => φ v w'' ∧ R w'' ∧ F w w''
      | _, _ => False
  | _ => False

theorem okA_spec {ops : Array Oper} {m N : Nat} (h : okA ops m N = true) : Region.noSelect ops = true ∧ m ≤ ops.size ∧
    ∀ i, i < ops.size → ∃ o, ops[i]? = some o ∧ (∀ j ∈ aftOf o, j < i) ∧
      (i < m → (∃ d, o.dst = some d ∧ d < N) ∧ o.guard = none ∧ (∀ t ∈ o.looksAt ops, ∀ k, k < m → dOf ops k = some t → k ∈ aftOf o) ∧ ∀ k, k < m → k ≠ i → dOf ops k ≠ o.dst) ∧
      (m = i → ∀ k, k < m → ∃ s os, k < s ∧ s ≤ m ∧ ops[s]? = some os ∧ k ∈ aftOf os) ∧ (m < i → i - 1 ∈ aftOf o) := by
  simp only [okA, Bool.and_eq_true, decide_eq_true_eq, List.all_eq_true, List.mem_range] at h
  obtain ⟨⟨h1, h2⟩, h3⟩ := h
  refine ⟨h1, h2, fun i hi => ?_⟩
  have h4 := h3 i hi
  cases ho : ops[i]? with
  | none => rw [ho] at h4; cases h4
  | some o =>
    rw [ho] at h4
    simp only [Bool.and_eq_true, List.all_eq_true, decide_eq_true_eq] at h4
    refine ⟨o, rfl, h4.1, fun him => ?_, fun him k hk => ?_, fun him => ?_⟩
    · have h5 := h4.2
      rw [if_pos him] at h5
      simp only [Bool.and_eq_true, List.all_eq_true, List.mem_range, Bool.or_eq_true, bne_iff_ne, ne_eq, List.contains_iff_mem, beq_iff_eq] at h5
      obtain ⟨⟨⟨h6, h7⟩, h8⟩, h9⟩ := h5
      refine ⟨?_, by simpa using h7, fun t ht k hk he => ?_, fun k hk hne => ?_⟩
      · cases hd : o.dst with
        | none => rw [hd] at h6; cases h6
        | some d => rw [hd] at h6; exact ⟨d, rfl, by simpa using h6⟩
      · rcases h8 t ht k hk with h | h
        · exact absurd he h
        · exact h
      · rcases h9 k hk with h | h
        · exact absurd h hne
        · exact h
    · have h5 := h4.2
      rw [if_neg (by omega), if_pos him.symm] at h5
      simp only [List.all_eq_true, List.any_eq_true, List.mem_range, Bool.and_eq_true, decide_eq_true_eq] at h5
      obtain ⟨s, hs1, hs2, hs3⟩ := h5 k hk
      cases hos : ops[s]? with
      | none => rw [hos] at hs3; cases hs3
      | some os =>
        rw [hos] at hs3
        exact ⟨s, os, hs2, by omega, hos, by simpa using hs3⟩
    · have h5 := h4.2
      rw [if_neg (by omega), if_neg (by omega)] at h5
      simpa using h5

/-- No main operation writes the slot. -/
def freeSlot (ops : Array Oper) (m : Nat) (t : Tmp) : Bool := (List.range m).all fun k => dOf ops k != some t
/-- It waits for operation k, which writes slot t. -/
def waitsFor (ops : Array Oper) (o : Oper) (k : Nat) (t : Tmp) : Bool := (aftOf o).contains k && dOf ops k == some t

theorem ready_iff {ops : Array Oper} {listed : Array Bool} {j : Nat} : j ∈ Region.ready .any ops listed ↔
    listed.getD j true = false ∧ ∃ o, ops[j]? = some o ∧ ∀ k ∈ aftOf o, listed.getD k false = true := by
  rw [mem_ready]
  constructor
  · rintro ⟨h1, o, ho, h2⟩
    refine ⟨h1, o, ho, fun k hk => ?_⟩
    simp only [aftOf, List.mem_map, List.mem_filter] at hk
    obtain ⟨e, ⟨he, hb⟩, rfl⟩ := hk
    exact h2 e (by simpa using he) hb
  · rintro ⟨h1, o, ho, h2⟩
    refine ⟨h1, o, ho, fun e he hb => h2 e.on ?_⟩
    simp only [aftOf, List.mem_map, List.mem_filter]
    exact ⟨e, ⟨by simpa using he, hb⟩, rfl⟩

/-- How many are still to come. -/
def toCome (n : Nat) (listed : Array Bool) : Nat := ((List.range n).filter fun i => !listed.getD i true).length

theorem toCome_set {n i : Nat} {listed : Array Bool} (hi : i < n) (hs : listed.size = n) (hl : listed.getD i true = false) : toCome n (listed.setIfInBounds i true) + 1 = toCome n listed := by
  unfold toCome
  have key : ∀ (l : List Nat), l.Nodup → i ∈ l → ((l.filter fun j => !(listed.setIfInBounds i true).getD j true).length + 1 = (l.filter fun j => !listed.getD j true).length) := by
    intro l
    induction l with
    | nil => intro _ h; cases h
    | cons x l ih =>
      intro hnd hm
      have hx := List.nodup_cons.1 hnd
      by_cases hxi : x = i
      · subst hxi
        have e1 : (listed.setIfInBounds x true).getD x true = true := by simp [Array.getElem?_setIfInBounds, hs, hi]
        have e2 : l.filter (fun j => !(listed.setIfInBounds x true).getD j true) = l.filter (fun j => !listed.getD j true) := by
          apply List.filter_congr
          intro j hj
          have : x ≠ j := by rintro rfl; exact hx.1 hj
          simp [Array.getElem?_setIfInBounds_ne this]
        rw [List.filter_cons, List.filter_cons, e1, hl, e2]
        simp
      · have hm' : i ∈ l := by
          rcases List.mem_cons.1 hm with h | h
          · exact absurd h.symm hxi
          · exact h
        have e1 : (listed.setIfInBounds i true).getD x true = listed.getD x true := by
          have : i ≠ x := Ne.symm hxi
          simp [Array.getElem?_setIfInBounds_ne this]
        have := ih hx.2 hm'
        rw [List.filter_cons, List.filter_cons, e1]
        split
        · simp only [List.length_cons]; omega
        · exact this
  exact key _ List.nodup_range (List.mem_range.2 hi)

theorem toCome_pos {n i : Nat} {listed : Array Bool} (hi : i < n) (hl : listed.getD i true = false) : 0 < toCome n listed :=
  List.length_pos_of_mem (List.mem_filter.2 ⟨List.mem_range.2 hi, by rw [hl]; rfl⟩)

/-- Where something is still to come, something can come. -/
theorem some_ready {ops : Array Oper} {listed : Array Bool} (hs : listed.size = ops.size) (hsp : ∀ i, i < ops.size → ∃ o, ops[i]? = some o ∧ ∀ j ∈ aftOf o, j < i) :
    ∀ i, i < ops.size → listed.getD i true = false → ∃ j, j ∈ Region.ready .any ops listed := by
  intro i
  induction i using Nat.strongRecOn with
  | ind i ih =>
    intro hi hl
    obtain ⟨o, ho, hj⟩ := hsp i hi
    by_cases hall : ∀ k ∈ aftOf o, listed.getD k false = true
    · exact ⟨i, ready_iff.2 ⟨hl, o, ho, hall⟩⟩
    · simp only [Classical.not_forall] at hall
      obtain ⟨k, hk, hkl⟩ := hall
      have hki := hj k hk
      refine ih k hki (by omega) ?_
      have hkn : k < listed.size := by omega
      simp [hkn] at hkl ⊢
      exact hkl

/-- All slots laid, one after the other. -/
def putAll (ops : Array Oper) (a0 : Act) (ρ : Nat → Value) : Nat → Act
  | 0 => a0
  | m + 1 => (putAll ops a0 ρ m).put (dOf ops m) (ρ m)

theorem Act.size_put (a : Act) (d : Option Tmp) (v : Value) : (a.put d v).tmps.size = a.tmps.size := by
  cases d <;> simp [Act.put]
theorem Act.defers_put (a : Act) (d : Option Tmp) (v : Value) : (a.put d v).defers = a.defers := by
  cases d <;> simp [Act.put]
theorem Act.getD_put_same (a : Act) (d : Tmp) (v : Value) (h : d < a.tmps.size) : (a.put (some d) v).tmps.getD d undef = v := by
  simp [Act.put, Array.getElem?_setIfInBounds, h]
theorem Act.getD_put_ne (a : Act) (d : Option Tmp) (v : Value) (t : Tmp) (h : d ≠ some t) : (a.put d v).tmps.getD t undef = a.tmps.getD t undef := by
  cases d with
  | none => rfl
  | some d =>
    have : d ≠ t := fun e => h (by rw [e])
    simp [Act.put, Array.getElem?_setIfInBounds_ne this]

theorem putAll_size (ops : Array Oper) (a0 : Act) (ρ : Nat → Value) (m : Nat) : (putAll ops a0 ρ m).tmps.size = a0.tmps.size := by
  induction m with
  | zero => rfl
  | succ m ih => rw [putAll, Act.size_put, ih]
theorem putAll_defers (ops : Array Oper) (a0 : Act) (ρ : Nat → Value) (m : Nat) : (putAll ops a0 ρ m).defers = a0.defers := by
  induction m with
  | zero => rfl
  | succ m ih => rw [putAll, Act.defers_put, ih]
theorem putAll_other (ops : Array Oper) (a0 : Act) (ρ : Nat → Value) (t : Tmp) (m : Nat) (h : ∀ i, i < m → dOf ops i ≠ some t) : (putAll ops a0 ρ m).tmps.getD t undef = a0.tmps.getD t undef := by
  induction m with
  | zero => rfl
  | succ m ih => rw [putAll, Act.getD_put_ne _ _ _ _ (h m (by omega)), ih fun i hi => h i (by omega)]
theorem putAll_at (ops : Array Oper) (a0 : Act) (ρ : Nat → Value) (t : Tmp) (ht : t < a0.tmps.size) (i : Nat) (m : Nat) (hi : i < m) (hd : dOf ops i = some t) (hne : ∀ k, k < m → k ≠ i → dOf ops k ≠ some t) :
    (putAll ops a0 ρ m).tmps.getD t undef = ρ i := by
  induction m with
  | zero => omega
  | succ m ih =>
    by_cases him : i = m
    · subst him
      rw [putAll, hd, Act.getD_put_same _ _ _ (by rw [putAll_size]; exact ht)]
    · rw [putAll, Act.getD_put_ne _ _ _ _ (hne m (by omega) (fun e => him e.symm)), ih (by omega) fun k hk => hne k (by omega)]

theorem putAll_eq {ops : Array Oper} {m N : Nat} {a0 : Act} {listed : Array Bool} (hok : okA ops m N = true) (a : Act) (hN : a0.tmps.size = N) (hz : a.tmps.size = N) (hdf : a.defers = a0.defers)
    (h2 : ∀ t, (∀ i, i < m → listed.getD i true = true → dOf ops i ≠ some t) → a.tmps.getD t undef = a0.tmps.getD t undef) :
    putAll ops a0 (fun i => (dOf ops i).elim undef fun t => a.tmps.getD t undef) m = a := by
  obtain ⟨hsel, hm, hsp⟩ := okA_spec hok
  have e1 : (putAll ops a0 (fun i => (dOf ops i).elim undef fun t => a.tmps.getD t undef) m).tmps = a.tmps := by
    apply Array.ext
    · rw [putAll_size, hN, hz]
    · intro t ht1 ht2
      have e2 : (putAll ops a0 (fun i => (dOf ops i).elim undef fun t => a.tmps.getD t undef) m).tmps.getD t undef = a.tmps.getD t undef := by
        by_cases hex : ∃ i, i < m ∧ dOf ops i = some t
        · obtain ⟨i, hi, hd⟩ := hex
          rw [putAll_at ops a0 _ t (by rw [hN, ← hz]; exact ht2) i m hi hd, hd]
          · rfl
          · intro k hk hne
            obtain ⟨o, ho, _, h5, _⟩ := hsp i (by omega)
            have h6 := (h5 hi).2.2.2 k hk hne
            have : dOf ops i = o.dst := by simp [dOf, ho]
            rw [← hd, this]
            exact h6
        · have hno : ∀ i, i < m → dOf ops i ≠ some t := fun i hi he => hex ⟨i, hi, he⟩
          rw [putAll_other ops a0 _ t m hno, h2 t fun i hi _ => hno i hi]
      rw [Array.getD, Array.getD, dif_pos ht1, dif_pos ht2] at e2
      exact e2
  have e3 := (putAll_defers ops a0 (fun i => (dOf ops i).elim undef fun t => a.tmps.getD t undef) m).trans hdf.symm
  cases a
  generalize putAll ops a0 _ m = b at e1 e3
  cases b
  simp at e1 e3
  rw [e1, e3]

/-- The last ones come in their order. -/
theorem tail_any {P : Program} {ops : Array Oper} {Q : Exit → Act → World → Prop} {m N : Nat} (hok : okA ops m N = true) :
    ∀ (r k : Nat) (listed : Array Bool) (a : Act) (w : World), k + r = ops.size → m ≤ k → listed.size = ops.size →
      (∀ i, i < k → listed.getD i true = true) → (∀ i, k ≤ i → i < ops.size → listed.getD i true = false) →
      wpOps P ops Q (List.range' k r) a w → wpAny P .any ops Q r listed a w := by
  obtain ⟨_, _, hsp⟩ := okA_spec hok
  intro r
  induction r with
  | zero =>
    intro k listed a w hk hm hs h1 h2 h
    refine ⟨?_, by simpa [wpOps] using h⟩
    apply List.eq_nil_iff_forall_not_mem.2
    intro j hj
    obtain ⟨hj1, o, ho, _⟩ := ready_iff.1 hj
    have hjn : j < ops.size := (Array.getElem?_eq_some_iff.1 ho).1
    rw [h1 j (by omega)] at hj1
    cases hj1
  | succ r ih =>
    intro k listed a w hk hm hs h1 h2 h
    obtain ⟨o, ho, hlt, _, _, _⟩ := hsp k (by omega)
    have hready : ∀ j, j ∈ Region.ready .any ops listed ↔ j = k := by
      intro j
      rw [ready_iff]
      constructor
      · rintro ⟨hj1, oj, hoj, hall⟩
        have hjn : j < ops.size := (Array.getElem?_eq_some_iff.1 hoj).1
        by_cases hjk : j < k
        · rw [h1 j hjk] at hj1; cases hj1
        · by_cases he : j = k
          · exact he
          · obtain ⟨oj', hoj', _, _, _, haf⟩ := hsp j hjn
            rw [hoj] at hoj'
            cases hoj'
            have h3 := hall (j - 1) (haf (by omega))
            have h4 := h2 (j - 1) (by omega) (by omega)
            have hkn : j - 1 < listed.size := by omega
            simp [hkn] at h3 h4
            rw [h3] at h4
            cases h4
      · rintro rfl
        refine ⟨h2 j (Nat.le_refl _) (by omega), o, ho, fun i hi => ?_⟩
        have h3 := h1 i (hlt i hi)
        have hin : i < listed.size := by have := hlt i hi; omega
        simp [hin] at h3 ⊢
        exact h3
    have hsub : ∀ i, i ∈ Region.ready .any ops listed → wpOp P ops Q i (wpAny P .any ops Q r (listed.setIfInBounds i true)) a w := by
      intro i hi
      have hik := (hready i).1 hi
      subst hik
      rw [List.range'_succ, wpOps_cons] at h
      refine wpOp_mono (fun a' w' h' => ih (i + 1) _ a' w' (by omega) (by omega) (by simp [hs]) (fun j hj => ?_) (fun j hj hjn => ?_) h') h
      · by_cases hji : j = i
        · subst hji
          have : j < listed.size := by omega
          simp [Array.getElem?_setIfInBounds, this]
        · have hne : i ≠ j := fun e => hji e.symm
          have := h1 j (by omega)
          simpa [Array.getElem?_setIfInBounds_ne hne] using this
      · have hne : i ≠ j := by omega
        have := h2 j (by omega) hjn
        simpa [Array.getElem?_setIfInBounds_ne hne] using this
    exact ⟨fun he => (by have := (hready k).2 rfl; rw [he] at this; cases this), hsub⟩

section
variable {P : Program} {ops : Array Oper} {Q : Exit → Act → World → Prop} {m N : Nat} {a0 : Act} {R : World → Prop} {F : World → World → Prop} {φ : Nat → Value → World → Prop}

theorem main_any (hok : okA ops m N = true) (hN : a0.tmps.size = N)
    (hlast : ∀ i v w w', R w → R w' → F w w' → φ i v w → φ i v w')
    (hO : ∀ i, i < m → ∀ o, ops[i]? = some o → ∀ (ev : Operand → Value) (w : World), R w → (∀ v, ev (.const v) = v) → (∀ f, ev (.func f) = .func (.func f) #[] #[]) → (∀ g, ev (.global g) = .pointer (some ⟨g, 0, none⟩)) →
      (∀ t, freeSlot ops m t = true → ev (.tmp t) = a0.tmps.getD t undef) → (∀ k t, waitsFor ops o k t = true → φ k (ev (.tmp t)) w) →
      UpA P (φ i) R F w ((execOp ev o).run P w))
    (hend : ∀ (ρ : Nat → Value) (w : World), R w → (∀ i, i < m → φ i (ρ i) w) → wpOps P ops Q (List.range' m (ops.size - m)) (putAll ops a0 ρ m) w) :
    ∀ (fuel : Nat) (listed : Array Bool) (a : Act) (w : World), fuel = toCome ops.size listed → listed.size = ops.size → R w → a.tmps.size = N → a.defers = a0.defers →
      (∀ i, i < m → listed.getD i true = true → ∀ t, dOf ops i = some t → φ i (a.tmps.getD t undef) w) →
      (∀ t, (∀ i, i < m → listed.getD i true = true → dOf ops i ≠ some t) → a.tmps.getD t undef = a0.tmps.getD t undef) →
      (∀ k, m ≤ k → k < ops.size → listed.getD k true = false) →
      (∀ i, listed.getD i false = true → ∀ o, ops[i]? = some o → ∀ k ∈ aftOf o, listed.getD k false = true) →
      wpAny P .any ops Q fuel listed a w := by
  obtain ⟨hsel, hm, hsp⟩ := okA_spec hok
  intro fuel
  induction fuel with
  | zero =>
    intro listed a w hf hs hR hz hdf h1 h2 h3 h4
    -- all have come: m = ops.size
    have hall : ∀ i, i < ops.size → listed.getD i true = true := by
      intro i hi
      cases hl : listed.getD i true with
      | true => rfl
      | false => have := toCome_pos hi hl; omega
    have hmn : m = ops.size := by
      rcases Nat.lt_or_ge m ops.size with h | h
      · have := hall m h
        rw [h3 m (Nat.le_refl _) h] at this
        cases this
      · omega
    have hfin := hend (fun i => (dOf ops i).elim undef fun t => a.tmps.getD t undef) w hR (fun i hi => by
      obtain ⟨o, ho, _, h5, _⟩ := hsp i (by omega)
      obtain ⟨⟨d, hd, _⟩, _⟩ := h5 hi
      have hdo : dOf ops i = some d := by simp [dOf, ho, hd]
      simpa [hdo] using h1 i hi (hall i (by omega)) d hdo)
    have ha := putAll_eq hok a hN hz hdf h2
    rw [ha] at hfin
    have hr : ops.size - m = 0 := by omega
    rw [hr] at hfin
    refine ⟨?_, by simpa [wpOps] using hfin⟩
    apply List.eq_nil_iff_forall_not_mem.2
    intro j hj
    obtain ⟨hj1, o, ho, _⟩ := ready_iff.1 hj
    have hjn : j < ops.size := (Array.getElem?_eq_some_iff.1 ho).1
    rw [hall j hjn] at hj1
    cases hj1
  | succ fuel ih =>
    intro listed a w hf hs hR hz hdf h1 h2 h3 h4
    by_cases hall : ∀ i, i < m → listed.getD i true = true
    · -- the last ones
      have hfin := hend (fun i => (dOf ops i).elim undef fun t => a.tmps.getD t undef) w hR (fun i hi => by
        obtain ⟨o, ho, _, h5, _⟩ := hsp i (by omega)
        obtain ⟨⟨d, hd, _⟩, _⟩ := h5 hi
        have hdo : dOf ops i = some d := by simp [dOf, ho, hd]
        simpa [hdo] using h1 i hi (hall i hi) d hdo)
      have ha := putAll_eq hok a hN hz hdf h2
      rw [ha] at hfin
      have hcount : toCome ops.size listed = ops.size - m := by
        unfold toCome
        have : (List.range ops.size).filter (fun i => !listed.getD i true) = List.range' m (ops.size - m) := by
          have e0 : List.range ops.size = List.range m ++ List.range' m (ops.size - m) := by
            have e := List.range'_append (s := 0) (m := m) (n := ops.size - m) (step := 1)
            rw [Nat.zero_add, Nat.one_mul] at e
            rw [List.range_eq_range', List.range_eq_range', e]
            congr 1
            omega
          rw [e0, List.filter_append]
          have e1 : (List.range m).filter (fun i => !listed.getD i true) = [] := by
            apply List.filter_eq_nil_iff.2
            intro i hi
            rw [hall i (List.mem_range.1 hi)]
            decide
          have e2 : (List.range' m (ops.size - m)).filter (fun i => !listed.getD i true) = List.range' m (ops.size - m) := by
            apply List.filter_eq_self.2
            intro i hi
            have := List.mem_range'_1.1 hi
            rw [h3 i (by omega) (by omega)]
            decide
          rw [e1, e2, List.nil_append]
        rw [this, List.length_range']
      rw [hf, hcount]
      exact tail_any hok (ops.size - m) m listed a w (by omega) (Nat.le_refl _) hs hall h3 hfin
    · have hne : ∃ i, i < m ∧ listed.getD i true = false := by
        simp only [Classical.not_forall] at hall
        obtain ⟨i, hi, h⟩ := hall
        exact ⟨i, hi, by simpa using h⟩
      obtain ⟨i0, hi0, hl0⟩ := hne
      obtain ⟨j0, hj0⟩ := some_ready hs (fun i hi => by obtain ⟨o, ho, h, _⟩ := hsp i hi; exact ⟨o, ho, h⟩) i0 (by omega) hl0
      refine ⟨fun he => (by rw [he] at hj0; cases hj0), fun i hi => ?_⟩
      obtain ⟨hli, o, ho, hall'⟩ := ready_iff.1 hi
      have hin : i < ops.size := (Array.getElem?_eq_some_iff.1 ho).1
      obtain ⟨o', ho', hlt, hmain, haft, haft'⟩ := hsp i hin
      rw [ho] at ho'
      cases ho'
      have him : i < m := by
        rcases Nat.lt_or_ge i m with h | h
        · exact h
        · exfalso
          rcases Nat.lt_or_ge m i with hlt' | hge'
          · have h5 := hall' (i - 1) (haft' hlt')
            have h6 := h3 (i - 1) (by omega) (by omega)
            have : i - 1 < listed.size := by omega
            simp [this] at h5 h6
            rw [h5] at h6
            cases h6
          · have him' : m = i := by omega
            have hdown : ∀ r k, k + r = m → k < m → listed.getD k false = true := by
              intro r
              induction r using Nat.strongRecOn with
              | ind r ihr =>
                intro k hk hkm
                obtain ⟨s, os, hs1, hs2, hos, hks⟩ := haft him' k hkm
                rcases Nat.lt_or_ge s m with hsm | hsm
                · exact h4 s (ihr (m - s) (by omega) s (by omega) hsm) os hos k hks
                · have : s = i := by omega
                  subst this
                  rw [ho] at hos
                  cases hos
                  exact hall' k hks
            have h5 := hdown (m - i0) i0 (by omega) hi0
            have : i0 < listed.size := by omega
            simp [this] at h5 hl0
            rw [h5] at hl0
            cases hl0
      obtain ⟨⟨d, hd, hdN⟩, hg, hlook, hdist⟩ := hmain him
      have hdo : dOf ops i = some d := by simp [dOf, ho, hd]
      have hup := hO i him o ho a.eval w hR (fun v => rfl) (fun f => rfl) (fun g => rfl)
        (fun t hno => h2 t fun k hk _ => by
          simp only [freeSlot, List.all_eq_true, List.mem_range, bne_iff_ne] at hno
          exact hno k hk)
        (fun k t hkt => by
          simp only [waitsFor, Bool.and_eq_true, List.contains_iff_mem, beq_iff_eq] at hkt
          obtain ⟨hk, hkt⟩ := hkt
          have hkl := hall' k hk
          have hks : k < listed.size := by have := hlt k hk; omega
          have : listed.getD k true = true := by simp [hks] at hkl ⊢; exact hkl
          exact h1 k (by have := hlt k hk; omega) this t hkt)
      have step : ∀ v w', φ i v w' ∧ R w' ∧ F w w' → wpAny P .any ops Q fuel (listed.setIfInBounds i true) (a.put o.dst v) w' := by
        rintro v w' ⟨hv, hR', hF⟩
        have hat : (a.put o.dst v).tmps.getD d undef = v := by rw [hd]; exact Act.getD_put_same _ _ _ (by rw [hz]; exact hdN)
        refine ih _ _ _ ?_ (by simp [hs]) hR' (by rw [Act.size_put]; exact hz) (by rw [Act.defers_put]; exact hdf) ?_ ?_ ?_ ?_
        · have := toCome_set hin hs hli
          omega
        · intro k hk hkl t hkt
          by_cases hki : k = i
          · subst hki
            rw [hdo] at hkt
            cases hkt
            rw [hat]
            exact hv
          · have hne' : i ≠ k := fun e => hki e.symm
            have hkl' : listed.getD k true = true := by simpa [Array.getElem?_setIfInBounds_ne hne'] using hkl
            have hdk := hdist k hk hki
            rw [Act.getD_put_ne _ _ _ _ (by rw [← hkt]; exact fun e => hdk e.symm)]
            exact hlast k _ w w' hR hR' hF (h1 k hk hkl' t hkt)
        · intro t hno
          have hdt : o.dst ≠ some t := by
            have := hno i him (by have : i < listed.size := by omega
                                  simp [Array.getElem?_setIfInBounds, this])
            rw [hdo] at this
            rw [hd]
            exact this
          rw [Act.getD_put_ne _ _ _ _ hdt]
          refine h2 t fun k hk hkl => ?_
          by_cases hki : k = i
          · subst hki
            rw [hdo, ← hd]
            exact hdt
          · have hne' : i ≠ k := fun e => hki e.symm
            exact hno k hk (by simpa [Array.getElem?_setIfInBounds_ne hne'] using hkl)
        · intro k hk hkn
          have hne' : i ≠ k := by omega
          have := h3 k hk hkn
          simpa [Array.getElem?_setIfInBounds_ne hne'] using this
        · intro k hkl ok hok' j hj
          have hjl : listed.getD j false = true := by
            by_cases hki : k = i
            · subst hki
              rw [ho] at hok'
              cases hok'
              exact hall' j hj
            · have hne' : i ≠ k := fun e => hki e.symm
              exact h4 k (by simpa [Array.getElem?_setIfInBounds_ne hne'] using hkl) ok hok' j hj
          by_cases hji : j = i
          · subst hji
            have : j < listed.size := by omega
            simp [Array.getElem?_setIfInBounds, this]
          · have hne' : i ≠ j := fun e => hji e.symm
            simpa [Array.getElem?_setIfInBounds_ne hne'] using hjl
      unfold wpOp
      simp only [ho]
      have hw : Region.wanted o (yielded ops a.tmps) = true := by simp [Region.wanted, hg]
      rw [if_pos hw]
      refine .inl ?_
      unfold Oper.wp
      generalize (execOp a.eval o).run P w = r at hup
      cases r with
      | ok n w' =>
        cases n <;> simp only [UpA] at hup
        case value v => exact step v w' hup
        case enter f args =>
          refine Calls.mono hup fun e w'' he => ?_
          cases e with
          | returned v => exact step v w'' he
          | panicked c => exact he.elim
          | outgrown => exact he.elim
      | halt x w' => simp only [UpA] at hup

/-- The rule. -/
theorem wp_region_asserts {id : Nat} (hm : P.follows .mixedOrders = true) (φ : Nat → Value → World → Prop) (R : World → Prop) (F : World → World → Prop) (m N : Nat) {a0 : Act} {w0 : World} (hok : okA ops m N = true) (hN : a0.tmps.size = N) (hR0 : R w0.drew)
    (hlast : ∀ i v w w', R w → R w' → F w w' → φ i v w → φ i v w')
    (hO : ∀ i, i < m → ∀ o, ops[i]? = some o → ∀ (ev : Operand → Value) (w : World), R w → (∀ v, ev (.const v) = v) → (∀ f, ev (.func f) = .func (.func f) #[] #[]) → (∀ g, ev (.global g) = .pointer (some ⟨g, 0, none⟩)) →
      (∀ t, freeSlot ops m t = true → ev (.tmp t) = a0.tmps.getD t undef) → (∀ k t, waitsFor ops o k t = true → φ k (ev (.tmp t)) w) →
      UpA P (φ i) R F w ((execOp ev o).run P w))
    (hend : ∀ (ρ : Nat → Value) (w : World), R w → (∀ i, i < m → φ i (ρ i) w) → wpOps P ops Q (List.range' m (ops.size - m)) (putAll ops a0 ρ m) w) :
    (Code.region id ops true).wp P Q a0 w0 := by
  refine wp_region_any hm ?_
  refine main_any hok hN hlast hO hend ops.size (Array.replicate ops.size false) a0 w0.drew ?_ (by simp) hR0 hN rfl ?_ (fun _ _ => rfl) ?_ ?_
  · unfold toCome
    have : (List.range ops.size).filter (fun i => !(Array.replicate ops.size false).getD i true) = List.range ops.size := by
      apply List.filter_eq_self.2
      intro i hi
      have := List.mem_range.1 hi
      simp [this]
    rw [this, List.length_range]
  · intro i hi hl
    obtain ⟨_, hm', _⟩ := okA_spec hok
    have : i < ops.size := by omega
    simp [this] at hl
  · intro k hk hkn
    simp [hkn]
  · intro i hi
    by_cases h : i < ops.size <;> simp [h] at hi
end

theorem wpOps_of_list {P : Program} {ops : Array Oper} {Q : Exit → Act → World → Prop} (m : Nat) (a : Act) (w : World) (h : wpList P ops Q (ops.toList.drop m) a w) : wpOps P ops Q (List.range' m (ops.size - m)) a w := by
  have e := congrFun (congrFun (wpOps_eq_wpList (P := P) (ops := ops) (Q := Q) (ops.toList.drop m) m (fun j => by simp)) a) w
  rw [show (ops.toList.drop m).length = ops.size - m by simp] at e
  rw [e]
  exact h

/-- An assertion that lasts. -/
structure As (R : World → Prop) (F : World → World → Prop) where
  p : Value → World → Prop
  last : ∀ v w w', R w → R w' → F w w' → p v w → p v w'
/-- It speaks of the value alone. -/
def As.pure (R : World → Prop) (F : World → World → Prop) (q : Value → Prop) : As R F := ⟨fun v _ => q v, fun _ _ _ _ _ _ h => h⟩
/-- The value is this one. -/
def As.is (R : World → Prop) (F : World → World → Prop) (c : Value) : As R F := As.pure R F fun v => v = c

theorem wp_region_list_of {P : Program} {ops : Array Oper} {Q : Exit → Act → World → Prop} {id : Nat} (hm : P.follows .mixedOrders = true) {R : World → Prop} {F : World → World → Prop} (L : List (As R F)) (N : Nat) {a0 : Act} {w0 : World} (hok : okA ops L.length N = true) (hN : a0.tmps.size = N) (hR0 : R w0.drew)
    (hO : ∀ i, i < L.length → ∀ o, ops[i]? = some o → ∀ (ev : Operand → Value) (w : World), R w → (∀ v, ev (.const v) = v) → (∀ f, ev (.func f) = .func (.func f) #[] #[]) → (∀ g, ev (.global g) = .pointer (some ⟨g, 0, none⟩)) →
      (∀ t, freeSlot ops L.length t = true → ev (.tmp t) = a0.tmps.getD t undef) → (∀ k t, waitsFor ops o k t = true → (L.getD k (As.pure R F fun _ => True)).p (ev (.tmp t)) w) →
      UpA P (L.getD i (As.pure R F fun _ => True)).p R F w ((execOp ev o).run P w))
    (hend : ∀ (ρ : Nat → Value) (w : World), R w → (∀ i, i < L.length → (L.getD i (As.pure R F fun _ => True)).p (ρ i) w) → ∀ K : Act → World → Prop, (∀ a w, wpList P ops Q (ops.toList.drop L.length) a w → K a w) → K (putAll ops a0 ρ L.length) w) :
    (Code.region id ops true).wp P Q a0 w0 :=
  wp_region_asserts hm (fun i => (L.getD i (As.pure R F fun _ => True)).p) R F L.length N hok hN hR0
    (fun i v w w' h1 h2 h3 h => (L.getD i (As.pure R F fun _ => True)).last v w w' h1 h2 h3 h) hO (fun ρ w h1 h2 => wpOps_of_list _ _ _ (hend ρ w h1 h2 _ fun _ _ h => h))

/-! ### The same in a round of a range over a function -/
def noDefer (ops : Array Oper) : Bool := ops.all fun o => match o.op with | .defer _ => false | _ => true
theorem noDefer_spec {ops : Array Oper} (h : noDefer ops = true) {i : Nat} {o : Oper} (ho : ops[i]? = some o) : ∀ c, o.op ≠ .defer c := by
  intro c hc
  have := Array.all_eq_true_iff_forall_mem.1 h o (Array.mem_of_getElem? ho)
  rw [hc] at this
  cases this

theorem rows_round {l0 n : Nat} {P : Program} {row : String} {args : Array Value} {w : World} {R : Value → World → Prop} (h : Rows P row args w R) : RowsIn (Fence.wide.inRound l0) n P row args w R :=
  fun c cs _ => let ⟨v, w', r, s⟩ := h c cs; ⟨v, w', r, stepsIn_wide.2 s⟩

theorem wpOp_round {P : Program} {ops : Array Oper} {Q : Exit → Act → World → Prop} {l0 n : Nat} (hnd : noDefer ops = true) (hQ : ∀ a w, ¬ Q .outgrown a w) {i : Nat} {K K' : Act → World → Prop} {a : Act} {w : World}
    (hK : ∀ a w, K a w → K' a w) (h : wpOp P ops Q i K a w) : wpOpIn (Fence.wide.inRound l0) n P ops Q i K' a w := by
  have hL : ¬ LetsOut Q := fun ⟨a, w, hq⟩ => hQ a w hq
  unfold wpOp at h
  unfold wpOpIn
  cases ho : ops[i]? with
  | none => rw [ho] at h; exact hK _ _ h
  | some o =>
    rw [ho] at h
    simp only [] at h ⊢
    by_cases hw : Region.wanted o (yielded ops a.tmps) = true
    · rw [if_pos hw] at h ⊢
      rcases h with h | ⟨_, h⟩
      · refine ⟨fun f _ => trivial, ?_⟩
        have hs : o.semAt (Fence.wide.inRound l0).round a.eval = execOp a.eval o := Oper.semAt_eq _ _ _ (noDefer_spec hnd ho)
        rw [hs]
        unfold Oper.wp at h
        generalize (execOp a.eval o).run P w = r at h
        cases r with
        | ok nx w' =>
          cases nx <;> simp only [Oper.upon, Oper.uponIn] at h ⊢
          case value v => exact hK _ _ h
          case skip => exact hK _ _ h
          case defer d => exact hK _ _ h
          case enter f args =>
            refine ⟨fun hd => by simp [Fence.wide, Fence.inRound] at hd, CallsIn.inRound l0 (callsIn_wide.2 (Calls.mono h fun e w'' he => ?_))⟩
            cases e with
            | returned v => exact hK _ _ he
            | panicked c => exact he
            | outgrown => exact he
          case row row args => exact ⟨fun hd => by simp [Fence.wide, Fence.inRound] at hd, rows_round (Rows.mono h fun v w'' he => hK _ _ he)⟩
        | halt x w' => cases x <;> simp only [Oper.upon, Oper.uponIn] at h ⊢ <;> exact h
      · exact absurd h hL
    · rw [if_neg hw] at h ⊢
      exact ⟨fun f _ => trivial, hK _ _ h⟩

theorem wpAny_round {P : Program} {ops : Array Oper} {Q : Exit → Act → World → Prop} {l0 n : Nat} (hnd : noDefer ops = true) (hQ : ∀ a w, ¬ Q .outgrown a w) :
    ∀ (fuel : Nat) (listed : Array Bool) (a : Act) (w : World), wpAny P .any ops Q fuel listed a w → wpAnyIn (Fence.wide.inRound l0) n P .any ops Q fuel listed a w
  | 0, _, _, _, h => h
  | fuel + 1, _, _, _, h => ⟨h.1, fun i hi => wpOp_round hnd hQ (fun a w h' => wpAny_round hnd hQ fuel _ a w h') (h.2 i hi)⟩

theorem wp_region_round_of {P : Program} {ops : Array Oper} {Q : Exit → Act → World → Prop} {id l0 n : Nat} (hm : P.follows .mixedOrders = true) {R : World → Prop} {F : World → World → Prop} (L : List (As R F)) (N : Nat) {a0 : Act} {w0 : World} (hnd : noDefer ops = true) (hok : okA ops L.length N = true) (hN : a0.tmps.size = N)
    (hQ : ∀ a w, ¬ Q .outgrown a w) (hR0 : R w0.drew)
    (hO : ∀ i, i < L.length → ∀ o, ops[i]? = some o → ∀ (ev : Operand → Value) (w : World), R w → (∀ v, ev (.const v) = v) → (∀ f, ev (.func f) = .func (.func f) #[] #[]) → (∀ g, ev (.global g) = .pointer (some ⟨g, 0, none⟩)) →
      (∀ t, freeSlot ops L.length t = true → ev (.tmp t) = a0.tmps.getD t undef) → (∀ k t, waitsFor ops o k t = true → (L.getD k (As.pure R F fun _ => True)).p (ev (.tmp t)) w) →
      UpA P (L.getD i (As.pure R F fun _ => True)).p R F w ((execOp ev o).run P w))
    (hend : ∀ (ρ : Nat → Value) (w : World), R w → (∀ i, i < L.length → (L.getD i (As.pure R F fun _ => True)).p (ρ i) w) → ∀ K : Act → World → Prop, (∀ a w, wpList P ops Q (ops.toList.drop L.length) a w → K a w) → K (putAll ops a0 ρ L.length) w) :
    (Code.region id ops true).wpIn (Fence.wide.inRound l0) n P Q a0 w0 := by
  refine wpIn_region_any hm (wpAny_round hnd hQ _ _ _ _ ?_)
  have hall := okA_spec hok
  refine main_any (φ := fun i => (L.getD i (As.pure R F fun _ => True)).p) (R := R) (F := F) hok hN (fun i v w w' h1 h2 h3 h => (L.getD i (As.pure R F fun _ => True)).last v w w' h1 h2 h3 h) hO
    (fun ρ w h1 h2 => wpOps_of_list _ _ _ (hend ρ w h1 h2 _ fun _ _ h => h)) ops.size (Array.replicate ops.size false) a0 w0.drew ?_ (by simp) hR0 hN rfl ?_ (fun _ _ => rfl) ?_ ?_
  · unfold toCome
    have : (List.range ops.size).filter (fun i => !(Array.replicate ops.size false).getD i true) = List.range ops.size := by
      apply List.filter_eq_self.2
      intro i hi
      have := List.mem_range.1 hi
      simp [this]
    rw [this, List.length_range]
  · intro i hi hl
    have : i < ops.size := by have := hall.2.1; omega
    simp [this] at hl
  · intro k hk hkn
    simp [hkn]
  · intro i hi
    by_cases h : i < ops.size <;> simp [h] at hi
end Go.Proofs.Ytnihkgdkdinliaa
