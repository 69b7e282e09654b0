/- The engine, part 13: whatever order a region draws, it comes to the same. Own work; imports no translation. -/
import Derived.Test.YtncaneioenanjaaEl
namespace Go.Proofs.Ytncaneioenanjaa
open Go.RowKit
set_option linter.unusedVariables false
set_option linter.unusedSimpArgs false

/-- What an operation waits for. -/
def aftOf (o : Oper) : List Nat := (o.after.toList.filter (Region.binds .any)).map (·.on)
def dO (xs : List AOper) (i : Nat) : Option Nat := (xs[i]?).bind (·.dst)
/-- It may turn a box, or calls. -/
def loudO (o : Oper) : Bool := match o.op with
  | .store .. => true
  | .call { callee := .value _, .. } => true
  | .call { callee := .builtin .append, .. } => true
  | _ => false
def loudA : AOp → Bool
  | .store _ _ _ | .call _ _ | .app _ _ _ _ _ => true
  | _ => false
def isLoud (ops : Array Oper) (i : Nat) : Bool := ((ops[i]?).map loudO).getD false
def prevLoud (ops : Array Oper) (i : Nat) : Option Nat := ((List.range i).filter (isLoud ops)).getLast?

/-- What comes before an operation, by others as well: a bit each. -/
def maskStep (acc : List Nat) (s : Nat) : List Nat → Nat
  | [] => s
  | k :: l => maskStep acc (s ||| 2 ^ k ||| acc.getD k 0) l
def masks (ops : List Oper) : List Nat := ops.foldl (fun acc o => acc ++ [maskStep acc 0 (aftOf o)]) []

theorem maskStep_bit {acc : List Nat} {j : Nat} : ∀ (l : List Nat) (s : Nat), (maskStep acc s l).testBit j = true → s.testBit j = true ∨ ∃ k ∈ l, j = k ∨ (acc.getD k 0).testBit j = true
  | [], s, h => .inl h
  | k :: l, s, h => by
    rcases maskStep_bit l _ h with h | ⟨k', hk', h⟩
    · simp only [Nat.testBit_or, Nat.testBit_two_pow, Bool.or_eq_true, decide_eq_true_eq] at h
      rcases h with (h | h) | h
      · exact .inl h
      · exact .inr ⟨k, by simp, .inl h.symm⟩
      · exact .inr ⟨k, by simp, .inr h⟩
    · exact .inr ⟨k', by simp [hk'], h⟩
theorem masks_append (l : List Oper) (o : Oper) : masks (l ++ [o]) = masks l ++ [maskStep (masks l) 0 (aftOf o)] := by
  simp [masks, List.foldl_append]
theorem masks_length (l : List Oper) : (masks l).length = l.length := by
  have key : ∀ (n : Nat) (l : List Oper), l.length = n → (masks l).length = l.length := by
    intro n
    induction n with
    | zero => intro l h; have := List.eq_nil_of_length_eq_zero h; subst this; rfl
    | succ n ih =>
      intro l h
      have hne : l ≠ [] := by rintro rfl; simp at h
      rw [← List.dropLast_concat_getLast hne, masks_append]
      simp only [List.length_append, List.length_cons, List.length_nil]
      rw [ih _ (by simp [h])]
  exact key _ l rfl
theorem masks_ok {L : Nat → Prop} : ∀ (n : Nat) (l : List Oper), l.length = n → (∀ i o, l[i]? = some o → L i → ∀ k ∈ aftOf o, L k) → ∀ i o, l[i]? = some o → (∀ k ∈ aftOf o, L k) → ∀ j, ((masks l).getD i 0).testBit j = true → L j := by
  intro n
  induction n with
  | zero => intro l h _ i o hi; have := List.eq_nil_of_length_eq_zero h; subst this; simp at hi
  | succ n ih =>
    intro l h hcl i o hi hall j hj
    have hne : l ≠ [] := by rintro rfl; simp at h
    obtain ⟨l', z, rfl⟩ : ∃ l' z, l = l' ++ [z] := ⟨l.dropLast, l.getLast hne, (List.dropLast_concat_getLast hne).symm⟩
    have hl' : l'.length = n := by simpa using h
    have hcl' : ∀ i o, l'[i]? = some o → L i → ∀ k ∈ aftOf o, L k := fun i o hi => hcl i o (by rw [List.getElem?_append_left (List.getElem?_eq_some_iff.1 hi).1]; exact hi)
    rw [masks_append] at hj
    by_cases hin : i < l'.length
    · rw [List.getD, List.getElem?_append_left (by rw [masks_length]; exact hin)] at hj
      rw [List.getElem?_append_left hin] at hi
      exact ih l' hl' hcl' i o hi hall j hj
    · have hie : i = l'.length := by
        have := (List.getElem?_eq_some_iff.1 hi).1
        simp at this
        omega
      subst hie
      rw [List.getElem?_append_right (Nat.le_refl _)] at hi
      simp only [Nat.sub_self, List.getElem?_cons_zero, Option.some.injEq] at hi
      subst hi
      rw [List.getD, List.getElem?_append_right (by rw [masks_length]; exact Nat.le_refl _), masks_length] at hj
      simp only [Nat.sub_self, List.getElem?_cons_zero, Option.getD_some] at hj
      rcases maskStep_bit _ _ hj with h0 | ⟨k, hk, rfl | hb⟩
      · simp at h0
      · exact hall _ hk
      · by_cases hkl : k < l'.length
        · have hok : l'[k]? = some l'[k] := List.getElem?_eq_getElem hkl
          exact ih l' hl' hcl' k _ hok (hcl' k _ hok (hall k hk)) j hb
        · rw [List.getD, List.getElem?_eq_none (by rw [masks_length]; omega)] at hb
          simp at hb

/-- The first m operations wait for what they read, the loud ones for each other; the others come behind all, in their order. -/
def okD (ops : Array Oper) (xs : List AOper) (m : Nat) : Bool :=
  noDefer ops && decide (m ≤ ops.size) && decide (xs.length = ops.size) &&
  (List.range ops.size).all fun i => match ops[i]?, xs[i]? with
    | some o, some x =>
      (aftOf o).all (· < i) &&
      (if i < m then
        ((List.range m).all fun k => k == i || dO xs k != x.dst || x.dst.isNone) &&
        (match x.guard with | none => true | some (d, _) => (List.range m).all fun k => dO xs k != some d || (aftOf o).contains k) &&
        (x.op.opds.all fun y => match y with | .con _ => true | .tmp t => (List.range m).all fun k => dO xs k != some t || (aftOf o).contains k || ((ops[k]?).map fun ok => (aftOf ok).contains i).getD false) &&
        (!loudO o || (match prevLoud ops i with | none => true | some j => (aftOf o).contains j || ((masks ops.toList).getD i 0).testBit j)) &&
        (!loudA x.op || loudO o)
      else if i = m then (List.range m).all fun k => (List.range (m + 1)).any fun s => decide (k < s) && ((ops[s]?).map fun os => (aftOf os).contains k).getD false
      else (aftOf o).contains (i - 1))
    | _, _ => false

theorem okD_spec {ops : Array Oper} {xs : List AOper} {m : Nat} (h : okD ops xs m = true) : noDefer ops = true ∧ m ≤ ops.size ∧ xs.length = ops.size ∧ ∀ i, i < ops.size → ∃ o x, ops[i]? = some o ∧ xs[i]? = some x ∧ (∀ j ∈ aftOf o, j < i) ∧
    (i < m → (∀ k, k < m → k ≠ i → ∀ t, x.dst = some t → dO xs k ≠ some t) ∧ (∀ d w, x.guard = some (d, w) → ∀ k, k < m → dO xs k = some d → k ∈ aftOf o) ∧ (∀ t, .tmp t ∈ x.op.opds → ∀ k, k < m → dO xs k = some t → k ∈ aftOf o ∨ ∃ ok, ops[k]? = some ok ∧ i ∈ aftOf ok) ∧ (loudO o = true → ∀ j, prevLoud ops i = some j → j ∈ aftOf o ∨ ((masks ops.toList).getD i 0).testBit j = true) ∧ (loudA x.op = true → loudO o = true)) ∧
    (m = i → ∀ k, k < m → ∃ s os, k < s ∧ s ≤ m ∧ ops[s]? = some os ∧ k ∈ aftOf os) ∧ (m < i → i - 1 ∈ aftOf o) := by
  simp only [okD, Bool.and_eq_true, decide_eq_true_eq, List.all_eq_true, List.mem_range] at h
  obtain ⟨⟨⟨h0, h1⟩, h2⟩, h3⟩ := h
  refine ⟨h0, h1, h2, fun i hi => ?_⟩
  have h4 := h3 i hi
  cases ho : ops[i]? with
  | none => rw [ho] at h4; cases h4
  | some o =>
    cases hx : xs[i]? with
    | none => rw [ho, hx] at h4; cases h4
    | some x =>
      rw [ho, hx] at h4
      simp only [Bool.and_eq_true, List.all_eq_true, decide_eq_true_eq] at h4
      refine ⟨o, x, rfl, rfl, h4.1, fun him => ?_, fun him k hk => ?_, fun him => ?_⟩
      · have h5 := h4.2
        rw [if_pos him] at h5
        simp only [Bool.and_eq_true, List.all_eq_true, List.mem_range, Bool.or_eq_true, bne_iff_ne, ne_eq, List.contains_iff_mem, beq_iff_eq, Bool.not_eq_true'] at h5
        obtain ⟨⟨⟨⟨h6, h7⟩, h8⟩, h9⟩, h10⟩ := h5
        refine ⟨fun k hk hne t ht => ?_, fun d w hg k hk he => ?_, fun t ht k hk he => ?_, fun hl j hj => ?_, fun hl => ?_⟩
        · rcases h6 k hk with (h | h) | h
          · exact absurd h hne
          · rw [← ht]; exact h
          · rw [ht] at h; cases h
        · rw [hg] at h7
          simp only [List.all_eq_true, List.mem_range, Bool.or_eq_true, bne_iff_ne, ne_eq, List.contains_iff_mem] at h7
          rcases h7 k hk with h | h
          · exact absurd he h
          · exact h
        · have := h8 _ ht
          simp only [List.all_eq_true, List.mem_range, Bool.or_eq_true, bne_iff_ne, ne_eq, List.contains_iff_mem] at this
          rcases this k hk with (h | h) | h
          · exact absurd he h
          · exact .inl h
          · cases hok : ops[k]? with
            | none => rw [hok] at h; cases h
            | some ok => rw [hok] at h; exact .inr ⟨ok, rfl, by simpa using h⟩
        · rcases h9 with h | h
          · rw [hl] at h; cases h
          · rw [hj] at h
            simpa only [Bool.or_eq_true, List.contains_iff_mem] using h
        · rcases h10 with h | h
          · rw [hl] at h; cases h
          · exact h
      · have h5 := h4.2
        rw [if_neg (by omega), if_pos him.symm] at h5
        simp only [List.all_eq_true, List.any_eq_true, List.mem_range, Bool.and_eq_true, decide_eq_true_eq] at h5
        obtain ⟨s, hs1, hs2, hs3⟩ := h5 k hk
        cases hos : ops[s]? with
        | none => rw [hos] at hs3; cases hs3
        | some os =>
          rw [hos] at hs3
          exact ⟨s, os, hs2, by omega, hos, by simpa using hs3⟩
      · have h5 := h4.2
        rw [if_neg (by omega), if_neg (by omega)] at h5
        simpa using h5

theorem ready_iff {ops : Array Oper} {listed : Array Bool} {j : Nat} : j ∈ Region.ready .any ops listed ↔
    listed.getD j true = false ∧ ∃ o, ops[j]? = some o ∧ ∀ k ∈ aftOf o, listed.getD k false = true := by
  rw [mem_ready]
  constructor
  · rintro ⟨h1, o, ho, h2⟩
    refine ⟨h1, o, ho, fun k hk => ?_⟩
    simp only [aftOf, List.mem_map, List.mem_filter] at hk
    obtain ⟨e, ⟨he, hb⟩, rfl⟩ := hk
    exact h2 e (by simpa using he) hb
  · rintro ⟨h1, o, ho, h2⟩
    refine ⟨h1, o, ho, fun e he hb => h2 e.on ?_⟩
    simp only [aftOf, List.mem_map, List.mem_filter]
    exact ⟨e, ⟨by simpa using he, hb⟩, rfl⟩

/-- How many are still to come. -/
def toCome (n : Nat) (listed : Array Bool) : Nat := ((List.range n).filter fun i => !listed.getD i true).length

theorem toCome_set {n i : Nat} {listed : Array Bool} (hi : i < n) (hs : listed.size = n) (hl : listed.getD i true = false) : toCome n (listed.setIfInBounds i true) + 1 = toCome n listed := by
  unfold toCome
  have key : ∀ (l : List Nat), l.Nodup → i ∈ l → ((l.filter fun j => !(listed.setIfInBounds i true).getD j true).length + 1 = (l.filter fun j => !listed.getD j true).length) := by
    intro l
    induction l with
    | nil => intro _ h; cases h
    | cons x l ih =>
      intro hnd hm
      have hx := List.nodup_cons.1 hnd
      by_cases hxi : x = i
      · subst hxi
        have e1 : (listed.setIfInBounds x true).getD x true = true := by simp [Array.getElem?_setIfInBounds, hs, hi]
        have e2 : l.filter (fun j => !(listed.setIfInBounds x true).getD j true) = l.filter (fun j => !listed.getD j true) := by
          apply List.filter_congr
          intro j hj
          have : x ≠ j := by rintro rfl; exact hx.1 hj
          simp [Array.getElem?_setIfInBounds_ne this]
        rw [List.filter_cons, List.filter_cons, e1, hl, e2]
        simp
      · have hm' : i ∈ l := by
          rcases List.mem_cons.1 hm with h | h
          · exact absurd h.symm hxi
          · exact h
        have e1 : (listed.setIfInBounds i true).getD x true = listed.getD x true := by
          have : i ≠ x := Ne.symm hxi
          simp [Array.getElem?_setIfInBounds_ne this]
        have := ih hx.2 hm'
        rw [List.filter_cons, List.filter_cons, e1]
        split
        · simp only [List.length_cons]; omega
        · exact this
  exact key _ List.nodup_range (List.mem_range.2 hi)

theorem toCome_pos {n i : Nat} {listed : Array Bool} (hi : i < n) (hl : listed.getD i true = false) : 0 < toCome n listed :=
  List.length_pos_of_mem (List.mem_filter.2 ⟨List.mem_range.2 hi, by rw [hl]; rfl⟩)

/-- Where something is still to come, something can come. -/
theorem some_ready {ops : Array Oper} {listed : Array Bool} (hs : listed.size = ops.size) (hsp : ∀ i, i < ops.size → ∃ o, ops[i]? = some o ∧ ∀ j ∈ aftOf o, j < i) :
    ∀ i, i < ops.size → listed.getD i true = false → ∃ j, j ∈ Region.ready .any ops listed := by
  intro i
  induction i using Nat.strongRecOn with
  | ind i ih =>
    intro hi hl
    obtain ⟨o, ho, hj⟩ := hsp i hi
    by_cases hall : ∀ k ∈ aftOf o, listed.getD k false = true
    · exact ⟨i, ready_iff.2 ⟨hl, o, ho, hall⟩⟩
    · simp only [Classical.not_forall] at hall
      obtain ⟨k, hk, hkl⟩ := hall
      have hki := hj k hk
      refine ih k hki (by omega) ?_
      have hkn : k < listed.size := by omega
      simp [hkn] at hkl ⊢
      exact hkl


/-! ### Loud operations come in their order -/
theorem prevLoud_spec {ops : Array Oper} {i j : Nat} (hj : isLoud ops j = true) (hji : j < i) : ∃ p, prevLoud ops i = some p ∧ j ≤ p ∧ p < i ∧ isLoud ops p = true := by
  unfold prevLoud
  have hmem : j ∈ (List.range i).filter (isLoud ops) := List.mem_filter.2 ⟨List.mem_range.2 hji, hj⟩
  cases hl : ((List.range i).filter (isLoud ops)).getLast? with
  | none => rw [List.getLast?_eq_none_iff] at hl; rw [hl] at hmem; cases hmem
  | some p =>
    have hp := List.mem_filter.1 (List.mem_of_getLast? hl)
    refine ⟨p, rfl, ?_, List.mem_range.1 hp.1, hp.2⟩
    have hpw : ((List.range i).filter (isLoud ops)).Pairwise (· < ·) := List.Pairwise.filter _ List.pairwise_lt_range
    obtain ⟨l, hl'⟩ := List.getLast?_eq_some_iff.1 hl
    rw [hl'] at hmem hpw
    rcases List.mem_append.1 hmem with h | h
    · have := (List.pairwise_append.1 hpw).2.2 j h p (by simp)
      omega
    · simp at h; omega

theorem loud_down {ops : Array Oper} {xs : List AOper} {m : Nat} (hok : okD ops xs m = true) {listed : Array Bool} (hcl : ∀ i, listed.getD i false = true → ∀ o, ops[i]? = some o → ∀ k ∈ aftOf o, listed.getD k false = true) :
    ∀ (i : Nat), i < m → isLoud ops i = true → (∀ o, ops[i]? = some o → ∀ k ∈ aftOf o, listed.getD k false = true) → ∀ j, j < i → isLoud ops j = true → listed.getD j false = true := by
  obtain ⟨_, hm, _, hsp⟩ := okD_spec hok
  intro i
  induction i using Nat.strongRecOn with
  | ind i ih =>
    intro him hl hw j hji hj
    obtain ⟨p, hp, h1, h2, h3⟩ := prevLoud_spec hj hji
    obtain ⟨o, x, ho, hx, _, hmain, _⟩ := hsp i (by omega)
    have hlo : loudO o = true := by simpa [isLoud, ho] using hl
    have hpl : listed.getD p false = true := by
      rcases (hmain him).2.2.2.1 hlo p hp with h | h
      · exact hw o ho p h
      · exact masks_ok (L := fun k => listed.getD k false = true) _ ops.toList rfl (fun k ok hok' hk => hcl k hk ok (by simpa using hok')) i o (by simpa using ho) (hw o ho) p h
    rcases Nat.lt_or_ge j p with h | h
    · exact ih p h2 (by omega) h3 (hcl p hpl) j h hj
    · have : j = p := by omega
      rw [this]; exact hpl

/-! ### The facts of a region -/
/-- What an operation comes to, in all states of the region: it reads what stays, makes a box that was laid ahead, or is the next that turns something. -/
def OpFact (orc : Clr) (a1 am : List AV) (st : Nat → St) (K : Nat) (lv : Nat) (x : AOper) (v : AV) (eff : Bool) (bid tid : Option Nat) : Prop :=
  (wantedA x.guard a1 = some false ∧ v = .tup [] ∧ eff = false ∧ bid = none ∧ tid = none) ∨
  (wantedA x.guard a1 = some true ∧
    ((eff = false ∧ bid = none ∧ tid = none ∧ ∀ k, k ≤ K → aop x.op (evd am) (st k) = some (.val v) ∨ ∃ f as, aop x.op (evd am) (st k) = some (.call f as) ∧ callS orc f as (st k) = some (v, st k)) ∨
     (eff = false ∧ tid = none ∧ ∃ cs id, bid = some id ∧ v = .ptr id 0 ∧ ∀ k, k ≤ K → aop x.op (evd am) (st k) = some (.box cs) ∧ (st k).bx[id]? = some cs) ∨
     (eff = false ∧ bid = none ∧ ∃ s els id, tid = some id ∧ v = .sl els (some id) ∧ ∀ k, k ≤ K → aop x.op (evd am) (st k) = some (.lit s els) ∧ (st k).lv[id]? = some (els.length, s)) ∨
     (eff = true ∧ bid = none ∧ tid = none ∧ lv + 1 ≤ K ∧ evOp orc x.op am (st lv) = some (v, st (lv + 1)))))

def lvl (eff : Nat → Bool) (i : Nat) : Nat := ((List.range i).filter eff).length
def cnt (eff : Nat → Bool) (m : Nat) (listed : Array Bool) : Nat := ((List.range m).filter fun i => listed.getD i true && eff i).length

theorem lvl_of {eff : Nat → Bool} {m i : Nat} (hi : i ≤ m) : ((List.range m).filter fun j => decide (j < i) && eff j).length = lvl eff i := by
  unfold lvl
  have e0 : List.range m = List.range i ++ List.range' i (m - i) := by
    have e := List.range'_append (s := 0) (m := i) (n := m - i) (step := 1)
    rw [Nat.zero_add, Nat.one_mul] at e
    rw [List.range_eq_range', List.range_eq_range', e]
    congr 1
    omega
  rw [e0, List.filter_append]
  have e1 : (List.range i).filter (fun j => decide (j < i) && eff j) = (List.range i).filter eff := by
    apply List.filter_congr
    intro j hj
    simp [List.mem_range.1 hj]
  have e2 : (List.range' i (m - i)).filter (fun j => decide (j < i) && eff j) = [] := by
    apply List.filter_eq_nil_iff.2
    intro j hj
    have := List.mem_range'_1.1 hj
    simp; omega
  rw [e1, e2, List.append_nil]

theorem cnt_set {eff : Nat → Bool} {m i : Nat} {listed : Array Bool} (hi : i < m) (hs : i < listed.size) (hl : listed.getD i true = false) : cnt eff m (listed.setIfInBounds i true) = cnt eff m listed + if eff i then 1 else 0 := by
  unfold cnt
  have key : ∀ (l : List Nat), l.Nodup → i ∈ l → (l.filter fun j => (listed.setIfInBounds i true).getD j true && eff j).length = (l.filter fun j => listed.getD j true && eff j).length + if eff i then 1 else 0 := by
    intro l
    induction l with
    | nil => intro _ h; cases h
    | cons x l ih =>
      intro hnd hm
      have hx := List.nodup_cons.1 hnd
      by_cases hxi : x = i
      · subst hxi
        have e1 : (listed.setIfInBounds x true).getD x true = true := by simp [Array.getElem?_setIfInBounds, hs]
        have e2 : l.filter (fun j => (listed.setIfInBounds x true).getD j true && eff j) = l.filter (fun j => listed.getD j true && eff j) := by
          apply List.filter_congr
          intro j hj
          have : x ≠ j := by rintro rfl; exact hx.1 hj
          simp [Array.getElem?_setIfInBounds_ne this]
        rw [List.filter_cons, List.filter_cons, e1, hl, e2]
        cases eff x <;> simp
      · have hm' : i ∈ l := by
          rcases List.mem_cons.1 hm with h | h
          · exact absurd h.symm hxi
          · exact h
        have e1 : (listed.setIfInBounds i true).getD x true = listed.getD x true := by
          have : i ≠ x := Ne.symm hxi
          simp [Array.getElem?_setIfInBounds_ne this]
        have := ih hx.2 hm'
        rw [List.filter_cons, List.filter_cons, e1]
        split
        · simp only [List.length_cons]; omega
        · exact this
  exact key _ List.nodup_range (List.mem_range.2 hi)

theorem getD_ext {a b : List AV} (hl : a.length = b.length) (h : ∀ t, a.getD t .junk = b.getD t .junk) : a = b := by
  apply List.ext_getElem? 
  intro t
  by_cases ht : t < a.length
  · have h1 := h t
    rw [List.getD, List.getD, List.getElem?_eq_getElem ht, List.getElem?_eq_getElem (by omega)] at h1
    simp only [Option.getD_some] at h1
    rw [List.getElem?_eq_getElem ht, List.getElem?_eq_getElem (by omega), h1]
  · rw [List.getElem?_eq_none (by omega), List.getElem?_eq_none (by omega)]

/-- How it stands while the region goes on. -/
structure Mid (ops : Array Oper) (xs : List AOper) (m : Nat) (a : List AV) (v : Nat → AV) (st : Nat → St) (eff : Nat → Bool) (bid tid : Nat → Option Nat) (G0 : Gh) (S0 : St) (w0 : World) (act0 : Act) (listed : Array Bool) (act : Act) (w : World) (G : Gh) (aD : List AV) : Prop where
  inv : Inv G (st (cnt eff m listed)) w
  rel : Rel G aD act
  len : aD.length = a.length
  done : ∀ i, i < m → listed.getD i true = true → ∀ t, dO xs i = some t → aD.getD t .junk = v i
  rest : ∀ t, (∀ i, i < m → listed.getD i true = true → dO xs i ≠ some t) → aD.getD t .junk = a.getD t .junk
  bx : ∀ i, i < m → listed.getD i true = false → ∀ id, bid i = some id → G.al id = none
  tk : ∀ i, i < m → listed.getD i true = false → ∀ id, tid i = some id → ∀ n, G.tb id n = none
  gro : Gro G0 S0 w0 G (st (cnt eff m listed)) w
  keep : Keep G0 S0 G (st (cnt eff m listed))
  def_ : act.defers = act0.defers
end Go.Proofs.Ytncaneioenanjaa
