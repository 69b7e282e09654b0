/- Part 2 of what the law needs: own work, put together. -/
import Derived.Test.YtoefpcpijolofaaFloatTru0
section
namespace Go.Proofs.Ytoefpcpijolofaa
open Go.RowKit
set_option linter.unusedVariables false
set_option linter.unusedSimpArgs false

def aftOf (o : Oper) : List Nat := (o.after.toList.filter (Region.binds .any)).map (·.on)
def dO (xs : List AOper) (i : Nat) : Option Nat := (xs[i]?).bind (·.dst)
def loudO (o : Oper) : Bool := match o.op with
  | .store .. => true
  | .call { callee := .value _, .. } => true
  | .call { callee := .builtin .append, .. } => true
  | _ => false
def loudA : AOp → Bool
  | .store _ _ _ | .call _ _ | .app _ _ _ _ _ => true
  | _ => false
def isLoud (ops : Array Oper) (i : Nat) : Bool := ((ops[i]?).map loudO).getD false
def prevLoud (ops : Array Oper) (i : Nat) : Option Nat := ((List.range i).filter (isLoud ops)).getLast?

def maskStep (acc : List Nat) (s : Nat) : List Nat → Nat
  | [] => s
  | k :: l => maskStep acc (s ||| 2 ^ k ||| acc.getD k 0) l
def masks (ops : List Oper) : List Nat := ops.foldl (fun acc o => acc ++ [maskStep acc 0 (aftOf o)]) []

theorem maskStep_bit {acc : List Nat} {j : Nat} : ∀ (l : List Nat) (s : Nat), (maskStep acc s l).testBit j = true → s.testBit j = true ∨ ∃ k ∈ l, j = k ∨ (acc.getD k 0).testBit j = true
  | [], s, h => .inl h
  | k :: l, s, h => by
    rcases maskStep_bit l _ h with h | ⟨k', hk', h⟩
    · simp only [Nat.testBit_or, Nat.testBit_two_pow, Bool.or_eq_true, decide_eq_true_eq] at h
      rcases h with (h | h) | h
      · exact .inl h
      · exact .inr ⟨k, by simp, .inl h.symm⟩
      · exact .inr ⟨k, by simp, .inr h⟩
    · exact .inr ⟨k', by simp [hk'], h⟩
theorem masks_append (l : List Oper) (o : Oper) : masks (l ++ [o]) = masks l ++ [maskStep (masks l) 0 (aftOf o)] := by
  simp [masks, List.foldl_append]
theorem masks_length (l : List Oper) : (masks l).length = l.length := by
  have key : ∀ (n : Nat) (l : List Oper), l.length = n → (masks l).length = l.length := by
    intro n
    induction n with
    | zero => intro l h; have := List.eq_nil_of_length_eq_zero h; subst this; rfl
    | succ n ih =>
      intro l h
      have hne : l ≠ [] := by rintro rfl; simp at h
      rw [← List.dropLast_concat_getLast hne, masks_append]
      simp only [List.length_append, List.length_cons, List.length_nil]
      rw [ih _ (by simp [h])]
  exact key _ l rfl
theorem masks_ok {L : Nat → Prop} : ∀ (n : Nat) (l : List Oper), l.length = n → (∀ i o, l[i]? = some o → L i → ∀ k ∈ aftOf o, L k) → ∀ i o, l[i]? = some o → (∀ k ∈ aftOf o, L k) → ∀ j, ((masks l).getD i 0).testBit j = true → L j := by
  intro n
  induction n with
  | zero => intro l h _ i o hi; have := List.eq_nil_of_length_eq_zero h; subst this; simp at hi
  | succ n ih =>
    intro l h hcl i o hi hall j hj
    have hne : l ≠ [] := by rintro rfl; simp at h
    obtain ⟨l', z, rfl⟩ : ∃ l' z, l = l' ++ [z] := ⟨l.dropLast, l.getLast hne, (List.dropLast_concat_getLast hne).symm⟩
    have hl' : l'.length = n := by simpa using h
    have hcl' : ∀ i o, l'[i]? = some o → L i → ∀ k ∈ aftOf o, L k := fun i o hi => hcl i o (by rw [List.getElem?_append_left (List.getElem?_eq_some_iff.1 hi).1]; exact hi)
    rw [masks_append] at hj
    by_cases hin : i < l'.length
    · rw [List.getD, List.getElem?_append_left (by rw [masks_length]; exact hin)] at hj
      rw [List.getElem?_append_left hin] at hi
      exact ih l' hl' hcl' i o hi hall j hj
    · have hie : i = l'.length := by
        have := (List.getElem?_eq_some_iff.1 hi).1
        simp at this
        omega
      subst hie
      rw [List.getElem?_append_right (Nat.le_refl _)] at hi
      simp only [Nat.sub_self, List.getElem?_cons_zero, Option.some.injEq] at hi
      subst hi
      rw [List.getD, List.getElem?_append_right (by rw [masks_length]; exact Nat.le_refl _), masks_length] at hj
      simp only [Nat.sub_self, List.getElem?_cons_zero, Option.getD_some] at hj
      rcases maskStep_bit _ _ hj with h0 | ⟨k, hk, rfl | hb⟩
      · simp at h0
      · exact hall _ hk
      · by_cases hkl : k < l'.length
        · have hok : l'[k]? = some l'[k] := List.getElem?_eq_getElem hkl
          exact ih l' hl' hcl' k _ hok (hcl' k _ hok (hall k hk)) j hb
        · rw [List.getD, List.getElem?_eq_none (by rw [masks_length]; omega)] at hb
          simp at hb

def okD (ops : Array Oper) (xs : List AOper) (m : Nat) : Bool :=
  noDefer ops && decide (m ≤ ops.size) && decide (xs.length = ops.size) &&
  (List.range ops.size).all fun i => match ops[i]?, xs[i]? with
    | some o, some x =>
      (aftOf o).all (· < i) &&
      (if i < m then
        ((List.range m).all fun k => k == i || dO xs k != x.dst || x.dst.isNone) &&
        (match x.guard with | none => true | some (d, _) => (List.range m).all fun k => dO xs k != some d || (aftOf o).contains k) &&
        (x.op.opds.all fun y => match y with | .con _ => true | .tmp t => (List.range m).all fun k => dO xs k != some t || (aftOf o).contains k || ((ops[k]?).map fun ok => (aftOf ok).contains i).getD false) &&
        (!loudO o || (match prevLoud ops i with | none => true | some j => (aftOf o).contains j || ((masks ops.toList).getD i 0).testBit j)) &&
        (!loudA x.op || loudO o)
      else if i = m then (List.range m).all fun k => (List.range (m + 1)).any fun s => decide (k < s) && ((ops[s]?).map fun os => (aftOf os).contains k).getD false
      else (aftOf o).contains (i - 1))
    | _, _ => false

theorem okD_spec {ops : Array Oper} {xs : List AOper} {m : Nat} (h : okD ops xs m = true) : noDefer ops = true ∧ m ≤ ops.size ∧ xs.length = ops.size ∧ ∀ i, i < ops.size → ∃ o x, ops[i]? = some o ∧ xs[i]? = some x ∧ (∀ j ∈ aftOf o, j < i) ∧
    (i < m → (∀ k, k < m → k ≠ i → ∀ t, x.dst = some t → dO xs k ≠ some t) ∧ (∀ d w, x.guard = some (d, w) → ∀ k, k < m → dO xs k = some d → k ∈ aftOf o) ∧ (∀ t, .tmp t ∈ x.op.opds → ∀ k, k < m → dO xs k = some t → k ∈ aftOf o ∨ ∃ ok, ops[k]? = some ok ∧ i ∈ aftOf ok) ∧ (loudO o = true → ∀ j, prevLoud ops i = some j → j ∈ aftOf o ∨ ((masks ops.toList).getD i 0).testBit j = true) ∧ (loudA x.op = true → loudO o = true)) ∧
    (m = i → ∀ k, k < m → ∃ s os, k < s ∧ s ≤ m ∧ ops[s]? = some os ∧ k ∈ aftOf os) ∧ (m < i → i - 1 ∈ aftOf o) := by
  simp only [okD, Bool.and_eq_true, decide_eq_true_eq, List.all_eq_true, List.mem_range] at h
  obtain ⟨⟨⟨h0, h1⟩, h2⟩, h3⟩ := h
  refine ⟨h0, h1, h2, fun i hi => ?_⟩
  have h4 := h3 i hi
  cases ho : ops[i]? with
  | none => rw [ho] at h4; cases h4
  | some o =>
    cases hx : xs[i]? with
    | none => rw [ho, hx] at h4; cases h4
    | some x =>
      rw [ho, hx] at h4
      simp only [Bool.and_eq_true, List.all_eq_true, decide_eq_true_eq] at h4
      refine ⟨o, x, rfl, rfl, h4.1, fun him => ?_, fun him k hk => ?_, fun him => ?_⟩
      · have h5 := h4.2
        rw [if_pos him] at h5
        simp only [Bool.and_eq_true, List.all_eq_true, List.mem_range, Bool.or_eq_true, bne_iff_ne, ne_eq, List.contains_iff_mem, beq_iff_eq, Bool.not_eq_true'] at h5
        obtain ⟨⟨⟨⟨h6, h7⟩, h8⟩, h9⟩, h10⟩ := h5
        refine ⟨fun k hk hne t ht => ?_, fun d w hg k hk he => ?_, fun t ht k hk he => ?_, fun hl j hj => ?_, fun hl => ?_⟩
        · rcases h6 k hk with (h | h) | h
          · exact absurd h hne
          · rw [← ht]; exact h
          · rw [ht] at h; cases h
        · rw [hg] at h7
          simp only [List.all_eq_true, List.mem_range, Bool.or_eq_true, bne_iff_ne, ne_eq, List.contains_iff_mem] at h7
          rcases h7 k hk with h | h
          · exact absurd he h
          · exact h
        · have := h8 _ ht
          simp only [List.all_eq_true, List.mem_range, Bool.or_eq_true, bne_iff_ne, ne_eq, List.contains_iff_mem] at this
          rcases this k hk with (h | h) | h
          · exact absurd he h
          · exact .inl h
          · cases hok : ops[k]? with
            | none => rw [hok] at h; cases h
            | some ok => rw [hok] at h; exact .inr ⟨ok, rfl, by simpa using h⟩
        · rcases h9 with h | h
          · rw [hl] at h; cases h
          · rw [hj] at h
            simpa only [Bool.or_eq_true, List.contains_iff_mem] using h
        · rcases h10 with h | h
          · rw [hl] at h; cases h
          · exact h
      · have h5 := h4.2
        rw [if_neg (by omega), if_pos him.symm] at h5
        simp only [List.all_eq_true, List.any_eq_true, List.mem_range, Bool.and_eq_true, decide_eq_true_eq] at h5
        obtain ⟨s, hs1, hs2, hs3⟩ := h5 k hk
        cases hos : ops[s]? with
        | none => rw [hos] at hs3; cases hs3
        | some os =>
          rw [hos] at hs3
          exact ⟨s, os, hs2, by omega, hos, by simpa using hs3⟩
      · have h5 := h4.2
        rw [if_neg (by omega), if_neg (by omega)] at h5
        simpa using h5

theorem ready_iff {ops : Array Oper} {listed : Array Bool} {j : Nat} : j ∈ Region.ready .any ops listed ↔
    listed.getD j true = false ∧ ∃ o, ops[j]? = some o ∧ ∀ k ∈ aftOf o, listed.getD k false = true := by
  rw [mem_ready]
  constructor
  · rintro ⟨h1, o, ho, h2⟩
    refine ⟨h1, o, ho, fun k hk => ?_⟩
    simp only [aftOf, List.mem_map, List.mem_filter] at hk
    obtain ⟨e, ⟨he, hb⟩, rfl⟩ := hk
    exact h2 e (by simpa using he) hb
  · rintro ⟨h1, o, ho, h2⟩
    refine ⟨h1, o, ho, fun e he hb => h2 e.on ?_⟩
    simp only [aftOf, List.mem_map, List.mem_filter]
    exact ⟨e, ⟨by simpa using he, hb⟩, rfl⟩

def toCome (n : Nat) (listed : Array Bool) : Nat := ((List.range n).filter fun i => !listed.getD i true).length

theorem toCome_set {n i : Nat} {listed : Array Bool} (hi : i < n) (hs : listed.size = n) (hl : listed.getD i true = false) : toCome n (listed.setIfInBounds i true) + 1 = toCome n listed := by
  unfold toCome
  have key : ∀ (l : List Nat), l.Nodup → i ∈ l → ((l.filter fun j => !(listed.setIfInBounds i true).getD j true).length + 1 = (l.filter fun j => !listed.getD j true).length) := by
    intro l
    induction l with
    | nil => intro _ h; cases h
    | cons x l ih =>
      intro hnd hm
      have hx := List.nodup_cons.1 hnd
      by_cases hxi : x = i
      · subst hxi
        have e1 : (listed.setIfInBounds x true).getD x true = true := by simp [Array.getElem?_setIfInBounds, hs, hi]
        have e2 : l.filter (fun j => !(listed.setIfInBounds x true).getD j true) = l.filter (fun j => !listed.getD j true) := by
          apply List.filter_congr
          intro j hj
          have : x ≠ j := by rintro rfl; exact hx.1 hj
          simp [Array.getElem?_setIfInBounds_ne this]
        rw [List.filter_cons, List.filter_cons, e1, hl, e2]
        simp
      · have hm' : i ∈ l := by
          rcases List.mem_cons.1 hm with h | h
          · exact absurd h.symm hxi
          · exact h
        have e1 : (listed.setIfInBounds i true).getD x true = listed.getD x true := by
          have : i ≠ x := Ne.symm hxi
          simp [Array.getElem?_setIfInBounds_ne this]
        have := ih hx.2 hm'
        rw [List.filter_cons, List.filter_cons, e1]
        split
        · simp only [List.length_cons]; omega
        · exact this
  exact key _ List.nodup_range (List.mem_range.2 hi)

theorem toCome_pos {n i : Nat} {listed : Array Bool} (hi : i < n) (hl : listed.getD i true = false) : 0 < toCome n listed :=
  List.length_pos_of_mem (List.mem_filter.2 ⟨List.mem_range.2 hi, by rw [hl]; rfl⟩)

theorem some_ready {ops : Array Oper} {listed : Array Bool} (hs : listed.size = ops.size) (hsp : ∀ i, i < ops.size → ∃ o, ops[i]? = some o ∧ ∀ j ∈ aftOf o, j < i) :
    ∀ i, i < ops.size → listed.getD i true = false → ∃ j, j ∈ Region.ready .any ops listed := by
  intro i
  induction i using Nat.strongRecOn with
  | ind i ih =>
    intro hi hl
    obtain ⟨o, ho, hj⟩ := hsp i hi
    by_cases hall : ∀ k ∈ aftOf o, listed.getD k false = true
    · exact ⟨i, ready_iff.2 ⟨hl, o, ho, hall⟩⟩
    · simp only [Classical.not_forall] at hall
      obtain ⟨k, hk, hkl⟩ := hall
      have hki := hj k hk
      refine ih k hki (by omega) ?_
      have hkn : k < listed.size := by omega
      simp [hkn] at hkl ⊢
      exact hkl

theorem prevLoud_spec {ops : Array Oper} {i j : Nat} (hj : isLoud ops j = true) (hji : j < i) : ∃ p, prevLoud ops i = some p ∧ j ≤ p ∧ p < i ∧ isLoud ops p = true := by
  unfold prevLoud
  have hmem : j ∈ (List.range i).filter (isLoud ops) := List.mem_filter.2 ⟨List.mem_range.2 hji, hj⟩
  cases hl : ((List.range i).filter (isLoud ops)).getLast? with
  | none => rw [List.getLast?_eq_none_iff] at hl; rw [hl] at hmem; cases hmem
  | some p =>
    have hp := List.mem_filter.1 (List.mem_of_getLast? hl)
    refine ⟨p, rfl, ?_, List.mem_range.1 hp.1, hp.2⟩
    have hpw : ((List.range i).filter (isLoud ops)).Pairwise (· < ·) := List.Pairwise.filter _ List.pairwise_lt_range
    obtain ⟨l, hl'⟩ := List.getLast?_eq_some_iff.1 hl
    rw [hl'] at hmem hpw
    rcases List.mem_append.1 hmem with h | h
    · have := (List.pairwise_append.1 hpw).2.2 j h p (by simp)
      omega
    · simp at h; omega

theorem loud_down {ops : Array Oper} {xs : List AOper} {m : Nat} (hok : okD ops xs m = true) {listed : Array Bool} (hcl : ∀ i, listed.getD i false = true → ∀ o, ops[i]? = some o → ∀ k ∈ aftOf o, listed.getD k false = true) :
    ∀ (i : Nat), i < m → isLoud ops i = true → (∀ o, ops[i]? = some o → ∀ k ∈ aftOf o, listed.getD k false = true) → ∀ j, j < i → isLoud ops j = true → listed.getD j false = true := by
  obtain ⟨_, hm, _, hsp⟩ := okD_spec hok
  intro i
  induction i using Nat.strongRecOn with
  | ind i ih =>
    intro him hl hw j hji hj
    obtain ⟨p, hp, h1, h2, h3⟩ := prevLoud_spec hj hji
    obtain ⟨o, x, ho, hx, _, hmain, _⟩ := hsp i (by omega)
    have hlo : loudO o = true := by simpa [isLoud, ho] using hl
    have hpl : listed.getD p false = true := by
      rcases (hmain him).2.2.2.1 hlo p hp with h | h
      · exact hw o ho p h
      · exact masks_ok (L := fun k => listed.getD k false = true) _ ops.toList rfl (fun k ok hok' hk => hcl k hk ok (by simpa using hok')) i o (by simpa using ho) (hw o ho) p h
    rcases Nat.lt_or_ge j p with h | h
    · exact ih p h2 (by omega) h3 (hcl p hpl) j h hj
    · have : j = p := by omega
      rw [this]; exact hpl

def OpFact (orc : Clr) (a1 am : List AV) (st : Nat → St) (K : Nat) (lv : Nat) (x : AOper) (v : AV) (eff : Bool) (bid tid : Option Nat) : Prop :=
  (wantedA x.guard a1 = some false ∧ v = .tup [] ∧ eff = false ∧ bid = none ∧ tid = none) ∨
  (wantedA x.guard a1 = some true ∧
    ((eff = false ∧ bid = none ∧ tid = none ∧ ∀ k, k ≤ K → aop x.op (evd am) (st k) = some (.val v) ∨ ∃ f as, aop x.op (evd am) (st k) = some (.call f as) ∧ callS orc f as (st k) = some (v, st k)) ∨
     (eff = false ∧ tid = none ∧ ∃ cs id, bid = some id ∧ v = .ptr id 0 ∧ ∀ k, k ≤ K → aop x.op (evd am) (st k) = some (.box cs) ∧ (st k).bx[id]? = some cs) ∨
     (eff = false ∧ bid = none ∧ ∃ s els id, tid = some id ∧ v = .sl els (some id) ∧ ∀ k, k ≤ K → aop x.op (evd am) (st k) = some (.lit s els) ∧ (st k).lv[id]? = some (els.length, s)) ∨
     (eff = true ∧ bid = none ∧ tid = none ∧ lv + 1 ≤ K ∧ evOp orc x.op am (st lv) = some (v, st (lv + 1)))))

def lvl (eff : Nat → Bool) (i : Nat) : Nat := ((List.range i).filter eff).length
def cnt (eff : Nat → Bool) (m : Nat) (listed : Array Bool) : Nat := ((List.range m).filter fun i => listed.getD i true && eff i).length

theorem lvl_of {eff : Nat → Bool} {m i : Nat} (hi : i ≤ m) : ((List.range m).filter fun j => decide (j < i) && eff j).length = lvl eff i := by
  unfold lvl
  have e0 : List.range m = List.range i ++ List.range' i (m - i) := by
    have e := List.range'_append (s := 0) (m := i) (n := m - i) (step := 1)
    rw [Nat.zero_add, Nat.one_mul] at e
    rw [List.range_eq_range', List.range_eq_range', e]
    congr 1
    omega
  rw [e0, List.filter_append]
  have e1 : (List.range i).filter (fun j => decide (j < i) && eff j) = (List.range i).filter eff := by
    apply List.filter_congr
    intro j hj
    simp [List.mem_range.1 hj]
  have e2 : (List.range' i (m - i)).filter (fun j => decide (j < i) && eff j) = [] := by
    apply List.filter_eq_nil_iff.2
    intro j hj
    have := List.mem_range'_1.1 hj
    simp; omega
  rw [e1, e2, List.append_nil]

theorem cnt_set {eff : Nat → Bool} {m i : Nat} {listed : Array Bool} (hi : i < m) (hs : i < listed.size) (hl : listed.getD i true = false) : cnt eff m (listed.setIfInBounds i true) = cnt eff m listed + if eff i then 1 else 0 := by
  unfold cnt
  have key : ∀ (l : List Nat), l.Nodup → i ∈ l → (l.filter fun j => (listed.setIfInBounds i true).getD j true && eff j).length = (l.filter fun j => listed.getD j true && eff j).length + if eff i then 1 else 0 := by
    intro l
    induction l with
    | nil => intro _ h; cases h
    | cons x l ih =>
      intro hnd hm
      have hx := List.nodup_cons.1 hnd
      by_cases hxi : x = i
      · subst hxi
        have e1 : (listed.setIfInBounds x true).getD x true = true := by simp [Array.getElem?_setIfInBounds, hs]
        have e2 : l.filter (fun j => (listed.setIfInBounds x true).getD j true && eff j) = l.filter (fun j => listed.getD j true && eff j) := by
          apply List.filter_congr
          intro j hj
          have : x ≠ j := by rintro rfl; exact hx.1 hj
          simp [Array.getElem?_setIfInBounds_ne this]
        rw [List.filter_cons, List.filter_cons, e1, hl, e2]
        cases eff x <;> simp
      · have hm' : i ∈ l := by
          rcases List.mem_cons.1 hm with h | h
          · exact absurd h.symm hxi
          · exact h
        have e1 : (listed.setIfInBounds i true).getD x true = listed.getD x true := by
          have : i ≠ x := Ne.symm hxi
          simp [Array.getElem?_setIfInBounds_ne this]
        have := ih hx.2 hm'
        rw [List.filter_cons, List.filter_cons, e1]
        split
        · simp only [List.length_cons]; omega
        · exact this
  exact key _ List.nodup_range (List.mem_range.2 hi)

theorem getD_ext {a b : List AV} (hl : a.length = b.length) (h : ∀ t, a.getD t .junk = b.getD t .junk) : a = b := by
  apply List.ext_getElem? 
  intro t
  by_cases ht : t < a.length
  · have h1 := h t
    rw [List.getD, List.getD, List.getElem?_eq_getElem ht, List.getElem?_eq_getElem (by omega)] at h1
    simp only [Option.getD_some] at h1
    rw [List.getElem?_eq_getElem ht, List.getElem?_eq_getElem (by omega), h1]
  · rw [List.getElem?_eq_none (by omega), List.getElem?_eq_none (by omega)]

structure Mid (ops : Array Oper) (xs : List AOper) (m : Nat) (a : List AV) (v : Nat → AV) (st : Nat → St) (eff : Nat → Bool) (bid tid : Nat → Option Nat) (G0 : Gh) (S0 : St) (w0 : World) (act0 : Act) (listed : Array Bool) (act : Act) (w : World) (G : Gh) (aD : List AV) : Prop where
  inv : Inv G (st (cnt eff m listed)) w
  rel : Rel G aD act
  len : aD.length = a.length
  done : ∀ i, i < m → listed.getD i true = true → ∀ t, dO xs i = some t → aD.getD t .junk = v i
  rest : ∀ t, (∀ i, i < m → listed.getD i true = true → dO xs i ≠ some t) → aD.getD t .junk = a.getD t .junk
  bx : ∀ i, i < m → listed.getD i true = false → ∀ id, bid i = some id → G.al id = none
  tk : ∀ i, i < m → listed.getD i true = false → ∀ id, tid i = some id → ∀ n, G.tb id n = none
  gro : Gro G0 S0 w0 G (st (cnt eff m listed)) w
  keep : Keep G0 S0 G (st (cnt eff m listed))
  def_ : act.defers = act0.defers
end Go.Proofs.Ytoefpcpijolofaa
end
section
namespace Go.Proofs.Ytoefpcpijolofaa
open Go.RowKit
set_option linter.unusedVariables false
set_option linter.unusedSimpArgs false

theorem tail_anyD {P : Program} {ops : Array Oper} {xs : List AOper} {Q : Exit → Act → World → Prop} {m : Nat} (hok : okD ops xs m = true) :
    ∀ (r k : Nat) (listed : Array Bool) (a : Act) (w : World), k + r = ops.size → m ≤ k → listed.size = ops.size →
      (∀ i, i < k → listed.getD i true = true) → (∀ i, k ≤ i → i < ops.size → listed.getD i true = false) →
      wpOps P ops Q (List.range' k r) a w → wpAny P .any ops Q r listed a w := by
  obtain ⟨_, _, _, hsp⟩ := okD_spec hok
  intro r
  induction r with
  | zero =>
    intro k listed a w hk hm hs h1 h2 h
    refine ⟨?_, by simpa [wpOps] using h⟩
    apply List.eq_nil_iff_forall_not_mem.2
    intro j hj
    obtain ⟨hj1, o, ho, _⟩ := ready_iff.1 hj
    have hjn : j < ops.size := (Array.getElem?_eq_some_iff.1 ho).1
    rw [h1 j (by omega)] at hj1
    cases hj1
  | succ r ih =>
    intro k listed a w hk hm hs h1 h2 h
    obtain ⟨o, x, ho, hx, hlt, _, _, _⟩ := hsp k (by omega)
    have hready : ∀ j, j ∈ Region.ready .any ops listed ↔ j = k := by
      intro j
      rw [ready_iff]
      constructor
      · rintro ⟨hj1, oj, hoj, hall⟩
        have hjn : j < ops.size := (Array.getElem?_eq_some_iff.1 hoj).1
        by_cases hjk : j < k
        · rw [h1 j hjk] at hj1; cases hj1
        · by_cases he : j = k
          · exact he
          · obtain ⟨oj', xj, hoj', _, _, _, _, haf⟩ := hsp j hjn
            rw [hoj] at hoj'
            cases hoj'
            have h3 := hall (j - 1) (haf (by omega))
            have h4 := h2 (j - 1) (by omega) (by omega)
            have hkn : j - 1 < listed.size := by omega
            simp [hkn] at h3 h4
            rw [h3] at h4
            cases h4
      · rintro rfl
        refine ⟨h2 j (Nat.le_refl _) (by omega), o, ho, fun i hi => ?_⟩
        have h3 := h1 i (hlt i hi)
        have hin : i < listed.size := by have := hlt i hi; omega
        simp [hin] at h3 ⊢
        exact h3
    have hsub : ∀ i, i ∈ Region.ready .any ops listed → wpOp P ops Q i (wpAny P .any ops Q r (listed.setIfInBounds i true)) a w := by
      intro i hi
      have hik := (hready i).1 hi
      subst hik
      rw [List.range'_succ, wpOps_cons] at h
      refine wpOp_mono (fun a' w' h' => ih (i + 1) _ a' w' (by omega) (by omega) (by simp [hs]) (fun j hj => ?_) (fun j hj hjn => ?_) h') h
      · by_cases hji : j = i
        · subst hji
          have : j < listed.size := by omega
          simp [Array.getElem?_setIfInBounds, this]
        · have hne : i ≠ j := fun e => hji e.symm
          have := h1 j (by omega)
          simpa [Array.getElem?_setIfInBounds_ne hne] using this
      · have hne : i ≠ j := by omega
        have := h2 j (by omega) hjn
        simpa [Array.getElem?_setIfInBounds_ne hne] using this
    exact ⟨fun he => (by have := (hready k).2 rfl; rw [he] at this; cases this), hsub⟩

theorem mapM_at {α β : Type} {f : α → Option β} : ∀ {l : List α} {m : List β}, l.mapM f = some m → ∀ (i : Nat) x y, l[i]? = some x → m[i]? = some y → f x = some y := by
  intro l m h i x y hx hy
  obtain ⟨x', hx', hf⟩ := (mapM_get h).2 i y hy
  rw [hx] at hx'; cases hx'; exact hf

theorem putA_getD_ne (a : List AV) (d : Option Nat) (v : AV) (t : Nat) (h : d ≠ some t) : (putA a d v).getD t .junk = a.getD t .junk := by
  cases d with
  | none => rfl
  | some d =>
    have : d ≠ t := fun e => h (by rw [e])
    simp only [putA, List.getD]
    rw [List.getElem?_set_ne this]
theorem putA_getD_same (a : List AV) (d : Nat) (v : AV) (h : d < a.length) : (putA a (some d) v).getD d .junk = v := by
  simp only [putA, List.getD]
  rw [List.getElem?_set_self h]
  rfl
theorem putA_length (a : List AV) (d : Option Nat) (v : AV) : (putA a d v).length = a.length := by cases d <;> simp [putA]

section
variable {P : Program} {orc : Clr} {ops : Array Oper} {xs : List AOper} {Q : Exit → Act → World → Prop} {m : Nat} {a a1 : List AV} {v : Nat → AV} {st : Nat → St} {eff : Nat → Bool} {bid tid : Nat → Option Nat} {G0 : Gh} {S0 : St} {w0 : World} {act0 : Act}

theorem draw_any (ho : ClrOk P orc) (hok : okD ops xs m = true) (hc : ops.toList.mapM (compOper P ops) = some xs) (hlen : a1.length = a.length)
    (h1 : ∀ i, i < m → ∀ t, dO xs i = some t → t < a.length ∧ a1.getD t .junk = v i)
    (h0 : ∀ t, (∀ i, i < m → dO xs i ≠ some t) → a1.getD t .junk = a.getD t .junk)
    (am : Nat → List AV) (ham : ∀ i, i < m → ∀ t, ((∀ k, k < i → dO xs k ≠ some t) → (am i).getD t .junk = a.getD t .junk) ∧ ((∃ k, k < i ∧ dO xs k = some t) → (am i).getD t .junk = a1.getD t .junk))
    (hF : ∀ i, i < m → ∀ x, xs[i]? = some x → OpFact orc a1 (am i) st (lvl eff m) (lvl eff i) x (v i) (eff i) (bid i) (tid i))
    (hE : ∀ i, i < m → eff i = true → isLoud ops i = true)
    (hb : ∀ i j id, i < m → j < m → bid i = some id → bid j = some id → i = j)
    (ht : ∀ i j id, i < m → j < m → tid i = some id → tid j = some id → i = j)
    (hbn : ∀ i id, i < m → bid i = some id → S0.bx.length ≤ id) (htnn : ∀ i id, i < m → tid i = some id → S0.lv.length ≤ id)
    (hend : ∀ G act w, Inv G (st (lvl eff m)) w → Rel G a1 act → Gro G0 S0 w0 G (st (lvl eff m)) w → Keep G0 S0 G (st (lvl eff m)) → act.defers = act0.defers → wpOps P ops Q (List.range' m (ops.size - m)) act w) :
    ∀ (fuel : Nat) (listed : Array Bool) (act : Act) (w : World), fuel = toCome ops.size listed → listed.size = ops.size → (∃ G aD, Mid ops xs m a v st eff bid tid G0 S0 w0 act0 listed act w G aD) →
      (∀ k, m ≤ k → k < ops.size → listed.getD k true = false) →
      (∀ i, listed.getD i false = true → ∀ o, ops[i]? = some o → ∀ k ∈ aftOf o, listed.getD k false = true) →
      wpAny P .any ops Q fuel listed act w := by
  obtain ⟨_, hm, hxl, hsp⟩ := okD_spec hok
  have hfinal : ∀ (listed : Array Bool) (act : Act) (w : World), (∀ i, i < m → listed.getD i true = true) → (∃ G aD, Mid ops xs m a v st eff bid tid G0 S0 w0 act0 listed act w G aD) → wpOps P ops Q (List.range' m (ops.size - m)) act w := by
    rintro listed act w hall ⟨G, aD, M⟩
    have hcnt : cnt eff m listed = lvl eff m := by
      unfold cnt lvl
      congr 1
      apply List.filter_congr
      intro i hi
      rw [hall i (List.mem_range.1 hi)]
      simp
    have haD : aD = a1 := getD_ext (by rw [M.len, hlen]) fun t => by
      by_cases hex : ∃ i, i < m ∧ dO xs i = some t
      · obtain ⟨i, hi, hd⟩ := hex
        rw [M.done i hi (hall i hi) t hd, (h1 i hi t hd).2]
      · have hno : ∀ i, i < m → dO xs i ≠ some t := fun i hi he => hex ⟨i, hi, he⟩
        rw [M.rest t fun i hi _ => hno i hi, h0 t hno]
    have hi := M.inv
    have hg := M.gro
    have hk := M.keep
    rw [hcnt] at hi hg hk
    exact hend G act w hi (haD ▸ M.rel) hg hk M.def_
  intro fuel
  induction fuel with
  | zero =>
    intro listed act w hf hs hM h3 h4
    have hall : ∀ i, i < ops.size → listed.getD i true = true := by
      intro i hi
      cases hl : listed.getD i true with
      | true => rfl
      | false => have := toCome_pos hi hl; omega
    have hmn : m = ops.size := by
      rcases Nat.lt_or_ge m ops.size with h | h
      · have := hall m h
        rw [h3 m (Nat.le_refl _) h] at this
        cases this
      · omega
    have hfin := hfinal listed act w (fun i hi => hall i (by omega)) hM
    have hr : ops.size - m = 0 := by omega
    rw [hr] at hfin
    refine ⟨?_, by simpa [wpOps] using hfin⟩
    apply List.eq_nil_iff_forall_not_mem.2
    intro j hj
    obtain ⟨hj1, o, ho, _⟩ := ready_iff.1 hj
    have hjn : j < ops.size := (Array.getElem?_eq_some_iff.1 ho).1
    rw [hall j hjn] at hj1
    cases hj1
  | succ fuel ih =>
    intro listed act w hf hs hM h3 h4
    by_cases hall : ∀ i, i < m → listed.getD i true = true
    · have hfin := hfinal listed act w hall hM
      have hcount : toCome ops.size listed = ops.size - m := by
        unfold toCome
        have : (List.range ops.size).filter (fun i => !listed.getD i true) = List.range' m (ops.size - m) := by
          have e0 : List.range ops.size = List.range m ++ List.range' m (ops.size - m) := by
            have e := List.range'_append (s := 0) (m := m) (n := ops.size - m) (step := 1)
            rw [Nat.zero_add, Nat.one_mul] at e
            rw [List.range_eq_range', List.range_eq_range', e]
            congr 1
            omega
          rw [e0, List.filter_append]
          have e1 : (List.range m).filter (fun i => !listed.getD i true) = [] := by
            apply List.filter_eq_nil_iff.2
            intro i hi
            rw [hall i (List.mem_range.1 hi)]
            decide
          have e2 : (List.range' m (ops.size - m)).filter (fun i => !listed.getD i true) = List.range' m (ops.size - m) := by
            apply List.filter_eq_self.2
            intro i hi
            have := List.mem_range'_1.1 hi
            rw [h3 i (by omega) (by omega)]
            decide
          rw [e1, e2, List.nil_append]
        rw [this, List.length_range']
      rw [hf, hcount]
      exact tail_anyD hok (ops.size - m) m listed act w (by omega) (Nat.le_refl _) hs hall h3 hfin
    · have hne : ∃ i, i < m ∧ listed.getD i true = false := by
        simp only [Classical.not_forall] at hall
        obtain ⟨i, hi, h⟩ := hall
        exact ⟨i, hi, by simpa using h⟩
      obtain ⟨i0, hi0, hl0⟩ := hne
      obtain ⟨j0, hj0⟩ := some_ready hs (fun i hi => by obtain ⟨o, x, ho, _, h, _⟩ := hsp i hi; exact ⟨o, ho, h⟩) i0 (by omega) hl0
      refine ⟨fun he => (by rw [he] at hj0; cases hj0), fun i hi => ?_⟩
      obtain ⟨hli, o, hoi, hall'⟩ := ready_iff.1 hi
      have hin : i < ops.size := (Array.getElem?_eq_some_iff.1 hoi).1
      obtain ⟨o', x, ho', hx, hlt, hmain, haft, haft'⟩ := hsp i hin
      rw [hoi] at ho'
      cases ho'
      have him : i < m := by
        rcases Nat.lt_or_ge i m with h | h
        · exact h
        · exfalso
          rcases Nat.lt_or_ge m i with hlt' | hge'
          · have h5 := hall' (i - 1) (haft' hlt')
            have h6 := h3 (i - 1) (by omega) (by omega)
            have : i - 1 < listed.size := by omega
            simp [this] at h5 h6
            rw [h5] at h6
            cases h6
          · have him' : m = i := by omega
            have hdown : ∀ r k, k + r = m → k < m → listed.getD k false = true := by
              intro r
              induction r using Nat.strongRecOn with
              | ind r ihr =>
                intro k hk hkm
                obtain ⟨s, os, hs1, hs2, hos, hks⟩ := haft him' k hkm
                rcases Nat.lt_or_ge s m with hsm | hsm
                · exact h4 s (ihr (m - s) (by omega) s (by omega) hsm) os hos k hks
                · have : s = i := by omega
                  subst this
                  rw [hoi] at hos
                  cases hos
                  exact hall' k hks
            have h5 := hdown (m - i0) i0 (by omega) hi0
            have : i0 < listed.size := by omega
            simp [this] at h5 hl0
            rw [h5] at hl0
            cases hl0
      obtain ⟨hdist, hgd, hlook, hlch, _⟩ := hmain him
      obtain ⟨G, aD, M⟩ := hM
      have hcomp : compOper P ops o = some x := mapM_at hc i o x (by simpa using hoi) hx
      obtain ⟨hcop, hdst, _⟩ := compOper_ok hcomp
      have hdO : dO xs i = x.dst := by simp [dO, hx]
      have hgt : ∀ k, k < ops.size → listed.getD k false = true → listed.getD k true = true := fun k hk h => by
        have hks : k < listed.size := by omega
        simp [hks] at h ⊢; exact h
      -- what it reads is what it will be
      have hagree : ∀ t, (∀ k, k < m → dO xs k = some t → k ∈ aftOf o) → aD.getD t .junk = a1.getD t .junk := by
        intro t hw
        by_cases hex : ∃ k, k < m ∧ dO xs k = some t
        · obtain ⟨k, hk, hd⟩ := hex
          have hkl := hgt k (by omega) (hall' k (hw k hk hd))
          rw [M.done k hk hkl t hd, (h1 k hk t hd).2]
        · have hno : ∀ k, k < m → dO xs k ≠ some t := fun k hk he => hex ⟨k, hk, he⟩
          rw [M.rest t fun k hk _ => hno k hk, h0 t hno]
      have hopd : ∀ y ∈ x.op.opds, evd aD y = evd (am i) y := by
        intro y hy
        cases y with
        | con z => rfl
        | tmp t =>
          show aD.getD t .junk = (am i).getD t .junk
          by_cases hex : ∃ k, k < m ∧ dO xs k = some t
          · obtain ⟨k, hk, hd⟩ := hex
            rcases hlook t hy k hk hd with hka | ⟨ok, hok', hka⟩
            · have hkl := hgt k (by omega) (hall' k hka)
              rw [(ham i him t).2 ⟨k, hlt k hka, hd⟩, M.done k hk hkl t hd, (h1 k hk t hd).2]
            · -- it is turned later
              have hki : i < k := by
                obtain ⟨ok2, _, hok2, _, hlt2, _⟩ := hsp k (by omega)
                rw [hok'] at hok2
                cases hok2
                exact hlt2 i hka
              have huniq : ∀ k', k' < m → dO xs k' = some t → k' = k := by
                intro k' hk' hd'
                obtain ⟨_, x2, _, hx2, _, hmain2, _⟩ := hsp k (by omega)
                by_cases he : k' = k
                · exact he
                · exact absurd hd' ((hmain2 hk).1 k' hk' he t (by have := hd; simp only [dO, hx2, Option.bind_some] at this; exact this))
              have hkl : listed.getD k true = false := by
                cases hl : listed.getD k true with
                | false => rfl
                | true =>
                  exfalso
                  have hks : k < listed.size := by omega
                  have hl' : listed.getD k false = true := by simp [hks] at hl ⊢; exact hl
                  have := h4 k hl' ok hok' i hka
                  rw [hgt i (by omega) this] at hli
                  cases hli
              rw [(ham i him t).1 fun k' hk' hd' => by have := huniq k' (by omega) hd'; omega]
              exact M.rest t fun k' hk' hl' hd' => by
                have := huniq k' hk' hd'
                rw [this, hkl] at hl'
                cases hl'
          · have hno : ∀ k, k < m → dO xs k ≠ some t := fun k hk he => hex ⟨k, hk, he⟩
            rw [M.rest t fun k hk _ => hno k hk, (ham i him t).1 fun k hk => hno k (by omega)]
      have hguard : wantedA x.guard aD = wantedA x.guard a1 := by
        cases hgx : x.guard with
        | none => rfl
        | some g =>
          obtain ⟨d, wnt⟩ := g
          simp only [wantedA]
          rw [hagree d fun k hk hd => hgd d wnt hgx k hk hd]
      -- how many have turned something
      have hcle : cnt eff m listed ≤ lvl eff m := by
        unfold cnt lvl
        rw [← List.filter_filter]
        exact (List.filter_sublist).length_le
      have hlv : eff i = true → cnt eff m listed = lvl eff i := by
        intro he
        rw [← lvl_of (eff := eff) (Nat.le_of_lt him)]
        unfold cnt
        congr 1
        apply List.filter_congr
        intro j hj
        have hjm := List.mem_range.1 hj
        cases hej : eff j with
        | false => simp
        | true =>
          simp only [Bool.and_true]
          have hlj := hE j hjm hej
          have hlI := hE i him he
          by_cases hji : j < i
          · have := loud_down hok h4 i him hlI (fun o2 ho2 => by rw [hoi] at ho2; cases ho2; exact hall') j hji hlj
            rw [hgt j (by omega) this]; simp [hji]
          · have : listed.getD j true = false := by
              by_cases hje : j = i
              · rw [hje]; exact hli
              · cases hl : listed.getD j true with
                | false => rfl
                | true =>
                  exfalso
                  have hjs : j < listed.size := by omega
                  have hl' : listed.getD j false = true := by simp [hjs] at hl ⊢; exact hl
                  have := loud_down hok h4 j hjm hlj (fun o2 ho2 => h4 j hl' o2 ho2) i (by omega) hlI
                  rw [hgt i (by omega) this] at hli
                  cases hli
            rw [this]; simp [hji]
      -- one more
      have hnext : ∀ (G' : Gh) (u : Value) (w' : World), VR G' (v i) u → Inv G' (st (cnt eff m listed + if eff i then 1 else 0)) w' → Gro G (st (cnt eff m listed)) w G' (st (cnt eff m listed + if eff i then 1 else 0)) w' → Keep G0 S0 G' (st (cnt eff m listed + if eff i then 1 else 0)) →
          (∀ k, k < m → k ≠ i → listed.getD k true = false → ∀ id, bid k = some id → G'.al id = none) → (∀ k, k < m → k ≠ i → listed.getD k true = false → ∀ id, tid k = some id → ∀ n, G'.tb id n = none) → wpAny P .any ops Q fuel (listed.setIfInBounds i true) (act.put o.dst u) w' := by
        intro G' u w' hv hI' hg' hkp hbx htk
        have hset : ∀ k, k ≠ i → (listed.setIfInBounds i true).getD k true = listed.getD k true := fun k hk => by
          have hne' : i ≠ k := fun e => hk e.symm
          simp [Array.getElem?_setIfInBounds_ne hne']
        have hcs := cnt_set (eff := eff) him (by omega : i < listed.size) hli
        refine ih _ _ _ ?_ (by simp [hs]) ⟨G', putA aD x.dst (v i), ⟨by rw [hcs]; exact hI', hdst ▸ (M.rel.mono hg'.le).put x.dst hv, by rw [putA_length, M.len], ?_, ?_, ?_, ?_, by rw [hcs]; exact M.gro.trans hg', by rw [hcs]; exact hkp, ?_⟩⟩ ?_ ?_
        · have := toCome_set hin hs hli
          omega
        · intro k hk hkl t hkt
          by_cases hki : k = i
          · subst hki
            rw [hdO] at hkt
            rw [hkt, putA_getD_same _ _ _ (by rw [M.len]; exact (h1 k hk t (by rw [hdO, hkt])).1)]
          · rw [hset k hki] at hkl
            rw [putA_getD_ne _ _ _ _ fun e => hdist k hk hki t e hkt]
            exact M.done k hk hkl t hkt
        · intro t hno
          have hdt : x.dst ≠ some t := by
            have := hno i him (by have : i < listed.size := by omega
                                  simp [Array.getElem?_setIfInBounds, this])
            rw [hdO] at this
            exact this
          rw [putA_getD_ne _ _ _ _ hdt]
          refine M.rest t fun k hk hkl => ?_
          by_cases hki : k = i
          · subst hki; rw [hdO]; exact hdt
          · exact hno k hk (by rw [hset k hki]; exact hkl)
        · intro k hk hkl id hid
          by_cases hki : k = i
          · subst hki
            have : k < listed.size := by omega
            simp [Array.getElem?_setIfInBounds, this] at hkl
          · rw [hset k hki] at hkl
            exact hbx k hk hki hkl id hid
        · intro k hk hkl id hid
          by_cases hki : k = i
          · subst hki
            have : k < listed.size := by omega
            simp [Array.getElem?_setIfInBounds, this] at hkl
          · rw [hset k hki] at hkl
            exact htk k hk hki hkl id hid
        · rw [← M.def_]; cases o.dst <;> rfl
        · intro k hk hkn
          rw [hset k (by omega)]
          exact h3 k hk hkn
        · intro k hkl ok hok' j hj
          have hjl : listed.getD j false = true := by
            by_cases hki : k = i
            · subst hki
              rw [hoi] at hok'
              cases hok'
              exact hall' j hj
            · have hne' : i ≠ k := fun e => hki e.symm
              exact h4 k (by simpa [Array.getElem?_setIfInBounds_ne hne'] using hkl) ok hok' j hj
          by_cases hji : j = i
          · subst hji
            have : j < listed.size := by omega
            simp [Array.getElem?_setIfInBounds, this]
          · have hne' : i ≠ j := fun e => hji e.symm
            simpa [Array.getElem?_setIfInBounds_ne hne'] using hjl
      have hidx : ∀ k id, k < m → bid k = some id → ∀ cs, (st (cnt eff m listed)).bx[id]? = some cs → id < (st (cnt eff m listed)).bx.length := fun k id _ _ cs h => (List.getElem?_eq_some_iff.1 h).1
      unfold wpOp
      simp only [hoi]
      rcases hF i him x hx with ⟨hw, hvi, hef, hbi, hti⟩ | ⟨hw, hFi⟩
      · rw [if_neg (by rw [wantedA_ok hcomp M.rel (hguard.trans hw)]; simp)]
        refine hnext G undef w (by rw [hvi]; exact VR.undef G) ?_ ?_ (by rw [hef]; exact M.keep) (fun k hk hki hkl => M.bx k hk hkl) (fun k hk hki hkl => M.tk k hk hkl)
        · rw [hef]; exact M.inv
        · rw [hef]; exact .refl _ _ _
      · rw [if_pos (wantedA_ok hcomp M.rel (hguard.trans hw))]
        refine .inl ?_
        have hz : eff i = false → (cnt eff m listed + if eff i then 1 else 0) = cnt eff m listed := fun h => by rw [h]; rfl
        -- a step by evOp
        have hop : ∀ k', evOp orc x.op (am i) (st (cnt eff m listed)) = some (v i, st k') → k' = (cnt eff m listed + if eff i then 1 else 0) → (∀ k id, k < m → bid k = some id → id < (st (cnt eff m listed)).bx.length) → (∀ k id, k < m → tid k = some id → id < (st (cnt eff m listed)).lv.length) → o.wp P act w (wpAny P .any ops Q fuel (listed.setIfInBounds i true)) Q := by
          rintro k' hev rfl hbl htl
          rw [← evOp_congr x.op _ hopd] at hev
          exact evOp_wp ho hcop hev M.inv M.rel fun G' u w' hv hI' hg' hkp => hnext G' u w' hv hI' hg' (M.keep.trans hkp)
            (fun k hk hki hkl id hid => hkp.al id (hbl k id hk hid) (M.bx k hk hkl id hid)) (fun k hk hki hkl id hid => hkp.tb id (htl k id hk hid) (M.tk k hk hkl id hid))
        -- where the boxes that were laid ahead lie
        have hbl : ∀ k id, k < m → bid k = some id → id < (st (cnt eff m listed)).bx.length := by
          intro k id hk hid
          have hkx : k < xs.length := by omega
          rcases hF k hk _ (List.getElem?_eq_getElem hkx) with ⟨_, _, _, h, _⟩ | ⟨_, ⟨_, h, _⟩ | ⟨_, _, cs, id', h, _, hall2⟩ | ⟨_, h, _⟩ | ⟨_, h, _⟩⟩ <;> rw [hid] at h <;> cases h
          exact (List.getElem?_eq_some_iff.1 (hall2 _ hcle).2).1
        have htl : ∀ k id, k < m → tid k = some id → id < (st (cnt eff m listed)).lv.length := by
          intro k id hk hid
          have hkx : k < xs.length := by omega
          rcases hF k hk _ (List.getElem?_eq_getElem hkx) with ⟨_, _, _, _, h⟩ | ⟨_, ⟨_, _, h, _⟩ | ⟨_, h, _⟩ | ⟨_, _, s, els, id', h, _, hall2⟩ | ⟨_, _, h, _⟩⟩ <;> rw [hid] at h <;> cases h
          exact (List.getElem?_eq_some_iff.1 (hall2 _ hcle).2).1
        rcases hFi with ⟨hef, hbi, hti, hv⟩ | ⟨hef, hti, cs, id, hbi, hvi, hv⟩ | ⟨hef, hbi, s, els, id, hti, hvi, hv⟩ | ⟨hef, hbi, hti, hle, hv⟩
        · refine hop (cnt eff m listed) ?_ (by rw [hef]; rfl) hbl htl
          rcases hv _ hcle with h5 | ⟨f, as, h5, h6⟩
          · rw [evOp_fin h5 (fun _ _ h => by cases h)]; rfl
          · rw [evOp_call h5]; exact h6
        · obtain ⟨h5, h6⟩ := hv _ hcle
          rw [← aop_congr x.op _ hopd] at h5
          obtain ⟨us, T, hrun, hrel⟩ := step_ok hcop (fun _ => rfl) M.rel.opd M.inv h5
          obtain ⟨k1, k2, k3⟩ := fill_box M.inv h6 (M.bx i him hli id hbi) hrel
          unfold Oper.wp
          rw [hrun]
          refine hnext (G.box id w.heap.size) _ _ (by rw [hvi]; exact .ptr _ _ _ k1) (by rw [hz hef]; exact k2) (by rw [hz hef]; exact k3) (by rw [hz hef]; exact ⟨M.keep.bl, M.keep.ll, fun b hb' h0 => by
            simp only [Gh.box]
            rw [if_neg (by have := hbn i id him hbi; omega)]
            exact M.keep.al b hb' h0, M.keep.tb⟩) (fun k hk hki hkl id' hid => ?_) (fun k hk hki hkl => M.tk k hk hkl)
          simp only [Gh.box]
          rw [if_neg (by rintro rfl; exact hki (hb _ _ _ hk him hid hbi))]
          exact M.bx k hk hkl id' hid
        · obtain ⟨h5, h6⟩ := hv _ hcle
          rw [← aop_congr x.op _ hopd] at h5
          obtain ⟨us, T, c, hrun, hn, hsz, hss, hvv⟩ := step_ok hcop (fun _ => rfl) M.rel.opd M.inv h5
          have htn := M.tk i him hli id hti
          obtain ⟨k1, k2, k3⟩ := new_lit M.inv _ id els s c us T h6 (fun _ _ _ => Iff.rfl) (fun n v h => by rw [htn n] at h; cases h) hn hsz hss hvv
          unfold Oper.wp
          rw [hrun]
          refine hnext (G.lit id els.length w.heap.size s c us) _ _ (by rw [hvi]; exact k1) (by rw [hz hef]; exact k2) (by rw [hz hef]; exact k3) (by rw [hz hef]; exact ⟨M.keep.bl, M.keep.ll, M.keep.al, fun t ht' h0 n => by
            simp only [Gh.lit]
            rw [if_neg (by rintro ⟨rfl, _⟩; have := htnn i _ him hti; omega)]
            exact M.keep.tb t ht' h0 n⟩) (fun k hk hki hkl => M.bx k hk hkl) (fun k hk hki hkl id' hid n => ?_)
          simp only [Gh.lit]
          rw [if_neg (by rintro ⟨rfl, _⟩; exact hki (ht _ _ _ hk him hid hti))]
          exact M.tk k hk hkl id' hid n
        · rw [← hlv hef] at hv
          exact hop _ hv (by rw [hef]; rfl) hbl htl
end
end Go.Proofs.Ytoefpcpijolofaa
end
section
namespace Go.Proofs.Ytoefpcpijolofaa
open Go.RowKit
set_option linter.unusedVariables false
set_option linter.unusedSimpArgs false

def valOf (a1 : List AV) (x : AOper) : AV := match x.dst with
  | some d => a1.getD d .junk
  | none => .tup []

def lvBeq : List (Nat × Nat) → List (Nat × Nat) → Bool
  | [], [] => true
  | (a, b) :: l, (c, d) :: m => Nat.beq a c && (Nat.beq b d && lvBeq l m)
  | _, _ => false
theorem lvBeq_eq : ∀ (l m : List (Nat × Nat)), lvBeq l m = true → l = m
  | [], [], _ => rfl
  | (a, b) :: l, (c, d) :: m, h => by
    simp only [lvBeq, Bool.and_eq_true] at h
    rw [Nat.eq_of_beq_eq_true h.1, Nat.eq_of_beq_eq_true h.2.1, lvBeq_eq l m h.2.2]
  | [], _ :: _, h => by cases h
  | _ :: _, [], h => by cases h
def bxBeq : List (List AV) → List (List AV) → Bool
  | [], [] => true
  | x :: l, y :: m => beqL x y && bxBeq l m
  | _, _ => false
theorem bxBeq_eq : ∀ (l m : List (List AV)), bxBeq l m = true → l = m
  | [], [], _ => rfl
  | x :: l, y :: m, h => by
    simp only [bxBeq, Bool.and_eq_true] at h
    rw [beqL_eq _ _ h.1, bxBeq_eq l m h.2]
  | [], _ :: _, h => by cases h
  | _ :: _, [], h => by cases h
def same (s t : St) : Bool := lvBeq s.lv t.lv && bxBeq s.bx t.bx
theorem same_eq {s t : St} (h : same s t = true) : s = t := by
  simp only [same, Bool.and_eq_true] at h
  cases s; cases t
  simp only [St.mk.injEq]
  exact ⟨bxBeq_eq _ _ h.2, lvBeq_eq _ _ h.1⟩

noncomputable def kindA (orc : Clr) (a1 am : List AV) (x : AOper) (st : St) : Option (Option St) :=
  match wantedA x.guard a1 with
  | some false => some none
  | some true => match aop x.op (evd am) st with
    | some (.val _) => some none
    | some (.box _) => some none
    | some (.lit _ _) => some none
    | some (.call f xs) => match orc f xs st with
      | some (v, none) => if v.beq (valOf a1 x) then some none else none
      | some (v, some st') => if v.beq (valOf a1 x) then some (some st') else none
      | none => none
    | some (.put _ _) => match evOp orc x.op am st with
      | some (v, st') => if v.beq (valOf a1 x) then some (some st') else none
      | none => none
    | some (.app _ _ _ _) => match evOp orc x.op am st with
      | some (v, st') => if v.beq (valOf a1 x) then some (some st') else none
      | none => none
    | _ => none
  | none => none

def nextS (a1 am : List AV) (x : AOper) : List AV := putA am x.dst (valOf a1 x)
def amsOf (a1 : List AV) : List AOper → List AV → Nat → List AV
  | [], am, _ => am
  | _ :: _, am, 0 => am
  | x :: l, am, i + 1 => amsOf a1 l (nextS a1 am x) i

noncomputable def walkD (orc : Clr) (a1 : List AV) : List AOper → List AV → St → Option (List Bool × List St)
  | [], _, _ => some ([], [])
  | x :: l, am, st => match kindA orc a1 am x st with
    | none => none
    | some none => match walkD orc a1 l (nextS a1 am x) st with
      | some (fs, ss) => some (false :: fs, ss)
      | none => none
    | some (some st') => match walkD orc a1 l (nextS a1 am x) st' with
      | some (fs, ss) => some (true :: fs, st' :: ss)
      | none => none

def bidOf (a1 : List AV) (x : AOper) : Option Nat :=
  match wantedA x.guard a1, x.op, valOf a1 x with
  | some true, .box _, .ptr id 0 => some id
  | _, _, _ => none
def tidOf (a1 : List AV) (x : AOper) : Option Nat :=
  match wantedA x.guard a1, x.op, valOf a1 x with
  | some true, .bsl _ _ _ _ _, .sl _ (some id) => some id
  | _, _, _ => none

noncomputable def chk1 (orc : Clr) (n : Nat) (a1 am : List AV) (n0 t0 : Nat) (sts : List St) (eff : Bool) (x : AOper) : Bool :=
  (match x.dst with | some d => decide (d < n) | none => true) &&
  match wantedA x.guard a1 with
  | some false => !eff && (valOf a1 x).beq (.tup [])
  | some true =>
    if eff then (match x.op with | .store _ _ _ | .call _ _ | .app _ _ _ _ _ => true | _ => false) else
    match x.op with
    | .box _ => (match valOf a1 x with
      | .ptr id 0 => decide (n0 ≤ id) && sts.all fun st => match aop x.op (evd am) st, st.bx[id]? with
        | some (.box cs), some cs' => beqL cs' cs
        | _, _ => false
      | _ => false)
    | .bsl _ _ _ _ _ => (match valOf a1 x with
      | .sl els (some id) => decide (t0 ≤ id) && sts.all fun st => match aop x.op (evd am) st, st.lv[id]? with
        | some (.lit s els'), some (n', s') => beqL els' els && n' == els.length && s' == s
        | _, _ => false
      | _ => false)
    | _ => sts.all fun st => match aop x.op (evd am) st with
      | some (.val u) => u.beq (valOf a1 x)
      | some (.call f xs) => match orc f xs st with
        | some (u, none) => u.beq (valOf a1 x)
        | _ => false
      | _ => false
  | none => false

def isBox (x : AOper) : Bool := match x.op with | .box _ => true | _ => false
def isRow (x : AOper) : Bool := match x.op with | .bsl _ _ _ _ _ => true | _ => false
structure Memo where
  f : FuncId
  xs : List AV
  S : St
  v : AV
  T : Option St
def lkM : List Memo → FuncId → List AV → St → Option (AV × Option St)
  | [], _, _, _ => none
  | e :: l, f, xs, S => bif Nat.beq e.f f && (beqL e.xs xs && same e.S S) then some (e.v, e.T) else lkM l f xs S
def orcM (lg : List Memo) (orc : Clr) : Clr := fun f xs S => match lkM lg f xs S with
  | some r => some r
  | none => orc f xs S
theorem orcM_eq {orc : Clr} {lg : List Memo} (h : ∀ e ∈ lg, orc e.f e.xs e.S = some (e.v, e.T)) : orcM lg orc = orc := by
  funext f xs S
  unfold orcM
  have key : ∀ (l : List Memo), (∀ e ∈ l, orc e.f e.xs e.S = some (e.v, e.T)) → ∀ r, lkM l f xs S = some r → orc f xs S = some r := by
    intro l
    induction l with
    | nil => intro _ r h; cases h
    | cons e l ih =>
      intro hl r hr
      simp only [lkM] at hr
      cases hc : (Nat.beq e.f f && (beqL e.xs xs && same e.S S)) with
      | true =>
        rw [hc, cond_true] at hr
        cases hr
        simp only [Bool.and_eq_true] at hc
        have h0 := hl e (by simp)
        rw [Nat.eq_of_beq_eq_true hc.1, beqL_eq _ _ hc.2.1, same_eq hc.2.2] at h0
        exact h0
      | false =>
        rw [hc, cond_false] at hr
        exact ih (fun e he => hl e (List.mem_cons_of_mem _ he)) r hr
  split
  · rename_i r hr
    exact (key lg h r hr).symm
  · rfl

noncomputable def evMain (orc : Clr) : List AOper → List AV → St → Nat → Nat → List Memo → Option (List AV × St × List Memo)
  | [], a, S, _, _, lg => some (a, S, lg)
  | o :: l, a, S, b, t, lg =>
    match wantedA o.guard a with
    | some true => match aop o.op (evf a) S with
      | some (.box cs) => evMain orc l (putA a o.dst (.ptr b 0)) ⟨S.bx.set b cs, S.lv⟩ (b + 1) t lg
      | some (.lit s els) => evMain orc l (putA a o.dst (.sl els (some t))) ⟨S.bx, S.lv.set t (els.length, s)⟩ b (t + 1) lg
      | some (.call f xs) => match orc f xs S with
        | some (v, T) => fv v fun v' => putK a o.dst v' fun a' => evMain orc l a' (T.getD S) b t (⟨f, xs, S, v, T⟩ :: lg)
        | none => none
      | _ => match evOp orc o.op a S with
        | some (v, S') => putK a o.dst v fun a' => evMain orc l a' S' b t lg
        | none => none
    | some false => evMain orc l (putA a o.dst (.tup [])) S b t lg
    | none => none

noncomputable def evDrawG (orc0 : Clr) (m : Nat) (xs : List AOper) (a : List AV) (S : St) : Option (List AV × St) :=
  let nb := ((xs.take m).filter isBox).length
  let nt := ((xs.take m).filter isRow).length
  match evMain orc0 (xs.take m) a ⟨S.bx ++ List.replicate nb [], S.lv ++ List.replicate nt (0, 1)⟩ S.bx.length S.lv.length [] with
  | some (a1, S1, lg) =>
    let orc := orcM lg orc0
    let st0 : St := ⟨S.bx ++ (S1.bx.drop S.bx.length).take nb, S.lv ++ (S1.lv.drop S.lv.length).take nt⟩
    match walkD orc a1 (xs.take m) a st0 with
    | some (fs, ss) =>
      if ((List.range (xs.take m).length).all fun i => match (xs.take m)[i]? with
          | some x => chk1 orc a.length a1 (amsOf a1 (xs.take m) a i) S.bx.length S.lv.length (st0 :: ss) (fs.getD i false) x
          | none => false) &&
        decide ((xs.take m).filterMap (bidOf a1)).Nodup && decide ((xs.take m).filterMap (tidOf a1)).Nodup then
        evOps orc (xs.drop m) a1 (ss.getLastD st0)
      else none
    | none => none
  | none => none

theorem evMain_slots {orc : Clr} : ∀ (l : List AOper) (a a' : List AV) (S S' : St) (b t : Nat) (lg lg' : List Memo), evMain orc l a S b t lg = some (a', S', lg') → (∀ e ∈ lg, orc e.f e.xs e.S = some (e.v, e.T)) → a'.length = a.length ∧ (∀ t, (∀ x ∈ l, x.dst ≠ some t) → a'.getD t .junk = a.getD t .junk) ∧ ∀ e ∈ lg', orc e.f e.xs e.S = some (e.v, e.T)
  | [], a, a', S, S', b, t, lg, lg', h, hl => by cases h; exact ⟨rfl, fun _ _ => rfl, hl⟩
  | x :: l, a, a', S, S', b, t, lg, lg', h, hl => by
    have key : ∀ v S2 b2 t2 lg2, evMain orc l (putA a x.dst v) S2 b2 t2 lg2 = some (a', S', lg') → (∀ e ∈ lg2, orc e.f e.xs e.S = some (e.v, e.T)) → a'.length = a.length ∧ (∀ t, (∀ y ∈ x :: l, y.dst ≠ some t) → a'.getD t .junk = a.getD t .junk) ∧ ∀ e ∈ lg', orc e.f e.xs e.S = some (e.v, e.T) := by
      intro v S2 b2 t2 lg2 h hl2
      obtain ⟨h1, h2, h3⟩ := evMain_slots l _ _ _ _ _ _ _ _ h hl2
      refine ⟨by rw [h1, putA_length], fun t ht => ?_, h3⟩
      rw [h2 t fun y hy => ht y (List.mem_cons_of_mem _ hy), putA_getD_ne _ _ _ _ (ht x (by simp))]
    simp only [evMain] at h
    split at h
    · split at h
      · exact key _ _ _ _ _ h hl
      · exact key _ _ _ _ _ h hl
      · split at h
        · rename_i hc
          rw [fv_eq, putK_eq] at h
          refine key _ _ _ _ _ h fun e he => ?_
          rcases List.mem_cons.1 he with rfl | he
          · exact hc
          · exact hl e he
        · cases h
      · split at h
        · rw [putK_eq] at h
          exact key _ _ _ _ _ h hl
        · cases h
    · exact key _ _ _ _ _ h hl
    · cases h

theorem lvl_succ (f : Bool) (fs : List Bool) (i : Nat) : lvl (fun j => (f :: fs).getD j false) (i + 1) = (if f then 1 else 0) + lvl (fun j => fs.getD j false) i := by
  unfold lvl
  rw [List.range_succ_eq_map, List.filter_cons]
  have e : ((List.range i).map Nat.succ).filter (fun j => (f :: fs).getD j false) = ((List.range i).filter fun j => fs.getD j false).map Nat.succ := by
    rw [List.filter_map]
    congr 1
  rw [e]
  cases f <;> simp; omega

theorem amsOf_get {a1 : List AV} : ∀ (l : List AOper) (am : List AV) (i : Nat) (t : Nat), i ≤ l.length → ((∀ k x, k < i → l[k]? = some x → x.dst ≠ some t) → (amsOf a1 l am i).getD t .junk = am.getD t .junk) ∧ ((∃ k x, k < i ∧ l[k]? = some x ∧ x.dst = some t) → t < am.length → (amsOf a1 l am i).getD t .junk = a1.getD t .junk)
  | [], am, i, t, hi => ⟨fun _ => rfl, fun ⟨k, x, _, hx, _⟩ => by simp at hx⟩
  | y :: l, am, 0, t, hi => ⟨fun _ => rfl, fun ⟨k, x, hk, _⟩ => by omega⟩
  | y :: l, am, i + 1, t, hi => by
    obtain ⟨h1, h2⟩ := amsOf_get (a1 := a1) l (nextS a1 am y) i t (by simpa using hi)
    refine ⟨fun hno => ?_, fun ⟨k, x, hk, hx, hd⟩ ht => ?_⟩
    · show (amsOf a1 l (nextS a1 am y) i).getD t .junk = _
      rw [h1 fun k x hk hx => hno (k + 1) x (by omega) (by simpa using hx)]
      exact putA_getD_ne _ _ _ _ (hno 0 y (by omega) rfl)
    · show (amsOf a1 l (nextS a1 am y) i).getD t .junk = _
      by_cases hex : ∃ k x, k < i ∧ l[k]? = some x ∧ x.dst = some t
      · exact h2 hex (by simp only [nextS, putA_length]; exact ht)
      · rw [h1 fun k x hk hx hd => hex ⟨k, x, hk, hx, hd⟩]
        cases k with
        | zero =>
          simp only [List.getElem?_cons_zero, Option.some.injEq] at hx
          subst hx
          simp only [nextS, hd]
          rw [putA_getD_same _ _ _ ht]
          simp only [valOf, hd]
        | succ k => exact absurd ⟨k, x, by omega, by simpa using hx, hd⟩ hex

theorem walkD_ok {orc : Clr} {a1 : List AV} : ∀ (l : List AOper) (am : List AV) (st : St) (fs : List Bool) (ss : List St), walkD orc a1 l am st = some (fs, ss) → fs.length = l.length ∧ lvl (fun j => fs.getD j false) l.length = ss.length ∧
    ∀ i x, l[i]? = some x → fs.getD i false = true → wantedA x.guard a1 = some true ∧ lvl (fun j => fs.getD j false) i + 1 ≤ ss.length ∧ evOp orc x.op (amsOf a1 l am i) ((st :: ss).getD (lvl (fun j => fs.getD j false) i) default) = some (valOf a1 x, (st :: ss).getD (lvl (fun j => fs.getD j false) i + 1) default)
  | [], am, st, fs, ss, h => by cases h; exact ⟨rfl, rfl, fun i x hx => by simp at hx⟩
  | y :: l, am, st, fs, ss, h => by
    simp only [walkD] at h
    split at h
    · cases h
    · rename_i hk
      split at h
      · rename_i fs' ss' hw
        cases h
        obtain ⟨h1, h2, h3⟩ := walkD_ok l _ _ _ _ hw
        refine ⟨by simp [h1], by rw [List.length_cons, lvl_succ, h2]; simp, fun i x hx hf => ?_⟩
        cases i with
        | zero => simp at hf
        | succ i =>
          rw [lvl_succ]
          simp only [Bool.false_eq_true, if_false, Nat.zero_add]
          exact h3 i x (by simpa using hx) (by simpa using hf)
      · cases h
    · rename_i st' hk
      split at h
      · rename_i fs' ss' hw
        cases h
        obtain ⟨h1, h2, h3⟩ := walkD_ok l _ _ _ _ hw
        refine ⟨by simp [h1], by rw [List.length_cons, lvl_succ, h2]; simp; omega, fun i x hx hf => ?_⟩
        cases i with
        | zero =>
          simp only [List.getElem?_cons_zero, Option.some.injEq] at hx
          subst hx
          have hl0 : lvl (fun j => (true :: fs').getD j false) 0 = 0 := rfl
          rw [hl0]
          unfold kindA at hk
          have fin : ∀ {z : Option (Option St)}, (match evOp orc y.op am st with | some (v, st') => if v.beq (valOf a1 y) then some (some st') else none | none => none) = some (some st') → evOp orc y.op am st = some (valOf a1 y, st') := by
            intro _ hh
            split at hh
            · rename_i v st2 he
              split at hh
              · rename_i hb
                cases hh
                rw [he, AV.beq_eq _ _ hb]
              · cases hh
            · cases hh
          refine ⟨?_, by simp, ?_⟩
          · split at hk
            · cases hk
            · rename_i hw'; exact hw'
            · cases hk
          · show evOp orc y.op am st = some (valOf a1 y, st')
            split at hk
            · cases hk
            · split at hk
              · cases hk
              · cases hk
              · cases hk
              · rename_i f xs hcl
                split at hk
                · split at hk <;> cases hk
                · rename_i v st2 he
                  split at hk
                  · rename_i hb
                    cases hk
                    rw [evOp_call hcl, callS, he, AV.beq_eq _ _ hb]
                  · cases hk
                · cases hk
              · exact fin (z := none) hk
              · exact fin (z := none) hk
              · cases hk
            · cases hk
        | succ i =>
          obtain ⟨k1, k2, k3⟩ := h3 i x (by simpa using hx) (by simpa using hf)
          rw [lvl_succ]
          simp only [if_true]
          refine ⟨k1, by rw [List.length_cons]; omega, ?_⟩
          rw [Nat.add_comm 1]
          show evOp orc x.op (amsOf a1 l (nextS a1 am y) i) _ = _
          simpa [List.getD] using k3
      · cases h

theorem filterMap_inj {g : AOper → Option Nat} : ∀ {l : List AOper}, (l.filterMap g).Nodup → ∀ (i j : Nat) x y id, l[i]? = some x → l[j]? = some y → g x = some id → g y = some id → i = j := by
  intro l
  induction l with
  | nil => intro _ i j x y id hx; simp at hx
  | cons z l ih =>
    intro hn i j x y id hx hy h1 h2
    have hmem : ∀ (k : Nat) u, l[k]? = some u → g u = some id → id ∈ l.filterMap g := fun k u hu hg => List.mem_filterMap.2 ⟨u, List.mem_of_getElem? hu, hg⟩
    have hn' : (l.filterMap g).Nodup := by
      rw [List.filterMap_cons] at hn
      split at hn
      · exact hn
      · exact (List.nodup_cons.1 hn).2
    cases i with
    | zero =>
      cases j with
      | zero => rfl
      | succ j =>
        simp only [List.getElem?_cons_zero, Option.some.injEq] at hx
        subst hx
        rw [List.filterMap_cons, h1] at hn
        exact absurd (hmem j y (by simpa using hy) h2) (List.nodup_cons.1 hn).1
    | succ i =>
      cases j with
      | zero =>
        simp only [List.getElem?_cons_zero, Option.some.injEq] at hy
        subst hy
        rw [List.filterMap_cons, h2] at hn
        exact absurd (hmem i x (by simpa using hx) h1) (List.nodup_cons.1 hn).1
      | succ j => rw [ih hn' i j x y id (by simpa using hx) (by simpa using hy) h1 h2]
theorem getD_last : ∀ (ss : List St) (st0 : St), (st0 :: ss).getD ss.length default = ss.getLastD st0
  | [], st0 => rfl
  | s :: ss, st0 => by
    have := getD_last ss s
    simp only [List.getD, List.length_cons, List.getElem?_cons_succ] at this ⊢
    rw [this]
    cases ss <;> rfl
theorem mapM_drop {α β : Type} {f : α → Option β} : ∀ {l : List α} {m : List β}, l.mapM f = some m → ∀ k, (l.drop k).mapM f = some (m.drop k)
  | l, m, h, 0 => h
  | [], m, h, k + 1 => by simp at h; subst h; simp
  | x :: l, m, h, k + 1 => by
    rw [List.mapM_cons] at h
    simp only [Option.bind_eq_bind, Option.bind_eq_some_iff, Option.pure_def, Option.some.injEq] at h
    obtain ⟨y, _, ys, hys, rfl⟩ := h
    exact mapM_drop hys k

theorem Run.drawG {P : Program} {orc : Clr} (ho : ClrOk P orc) (hm : P.follows .mixedOrders = true) {md : Md} {id m : Nat} {ops : Array Oper} {xs : List AOper} (hok : okD ops xs m = true) (hc : ops.toList.mapM (compOper P ops) = some xs) {a a' : List AV} {S S' : St} (he : evDrawG orc m xs a S = some (a', S')) :
    Run md P (.region id ops true) a S .norm a' S' := by
  intro G act w hI hR
  obtain ⟨hnd, hmle, hxl, hsp⟩ := okD_spec hok
  unfold evDrawG at he
  simp only [] at he
  split at he
  · rename_i a1 S1 lg h1
    obtain ⟨hlen, hslots, hlg⟩ := evMain_slots _ _ _ _ _ _ _ _ _ h1 (fun e he => by cases he)
    rw [orcM_eq hlg] at he
    obtain ⟨lb, hlb⟩ : ∃ lb, lb = (S1.bx.drop S.bx.length).take ((xs.take m).filter isBox).length := ⟨_, rfl⟩
    obtain ⟨lt, hlt⟩ : ∃ lt, lt = (S1.lv.drop S.lv.length).take ((xs.take m).filter isRow).length := ⟨_, rfl⟩
    rw [← hlb, ← hlt] at he
    generalize hst0 : St.mk (S.bx ++ lb) (S.lv ++ lt) = st0 at he
    split at he
    · rename_i fs ss hw
      split at he
      · rename_i hchk
        simp only [Bool.and_eq_true, decide_eq_true_eq, List.all_eq_true, List.mem_range] at hchk
        obtain ⟨⟨hchk, hnb⟩, hnt⟩ := hchk
        obtain ⟨hfl, hlv, hef⟩ := walkD_ok _ _ _ _ _ hw
        have hml : (xs.take m).length = m := by simp; omega
        rw [hml] at hchk hlv hfl
        -- the facts
        let eff : Nat → Bool := fun j => fs.getD j false
        let st : Nat → St := fun k => (st0 :: ss).getD k default
        let v : Nat → AV := fun i => match xs[i]? with | some x => valOf a1 x | none => .junk
        let bid : Nat → Option Nat := fun i => match xs[i]? with | some x => bidOf a1 x | none => none
        let tid : Nat → Option Nat := fun i => match xs[i]? with | some x => tidOf a1 x | none => none
        have htk : ∀ i, i < m → (xs.take m)[i]? = xs[i]? := fun i hi => List.getElem?_take_of_lt hi
        have hst : ∀ k, k ≤ lvl eff m → st k ∈ st0 :: ss := by
          intro k hk
          have hk' : k < (st0 :: ss).length := by rw [List.length_cons, ← hlv]; exact Nat.lt_succ_of_le hk
          show (st0 :: ss).getD k default ∈ _
          rw [List.getD, List.getElem?_eq_getElem hk']
          exact List.getElem_mem hk'
        let am : Nat → List AV := fun i => amsOf a1 (xs.take m) a i
        have hF : ∀ i, i < m → ∀ x, xs[i]? = some x → OpFact orc a1 (am i) st (lvl eff m) (lvl eff i) x (v i) (eff i) (bid i) (tid i) := by
          intro i hi x hx
          have hc1 := hchk i hi
          rw [htk i hi, hx] at hc1
          have hvi : v i = valOf a1 x := by show (match xs[i]? with | some x => valOf a1 x | none => .junk) = _; rw [hx]
          have hbi : bid i = bidOf a1 x := by show (match xs[i]? with | some x => bidOf a1 x | none => none) = _; rw [hx]
          have hti : tid i = tidOf a1 x := by show (match xs[i]? with | some x => tidOf a1 x | none => none) = _; rw [hx]
          rw [hvi, hbi, hti]
          simp only [chk1, Bool.and_eq_true] at hc1
          obtain ⟨_, hc2⟩ := hc1
          split at hc2
          · rename_i hwt
            simp only [Bool.and_eq_true, Bool.not_eq_true'] at hc2
            exact .inl ⟨hwt, AV.beq_eq _ _ hc2.2, hc2.1, by simp [bidOf, hwt], by simp [tidOf, hwt]⟩
          · rename_i hwt
            refine .inr ⟨hwt, ?_⟩
            split at hc2
            · rename_i hfi
              obtain ⟨_, k2, k3⟩ := hef i x (by rw [htk i hi]; exact hx) hfi
              refine .inr (.inr (.inr ⟨hfi, ?_, ?_, by rw [show lvl eff m = ss.length from hlv]; exact k2, k3⟩))
              · cases hxo : x.op <;> rw [hxo] at hc2 <;> first | (cases hc2; done) | simp [bidOf, hwt, hxo]
              · cases hxo : x.op <;> rw [hxo] at hc2 <;> first | (cases hc2; done) | simp [tidOf, hwt, hxo]
            · rename_i hfi
              have hfi : eff i = false := Bool.eq_false_iff.2 hfi
              split at hc2
              · -- a box
                rename_i y hxo
                split at hc2
                · rename_i idb hval
                  simp only [Bool.and_eq_true, decide_eq_true_eq, List.all_eq_true] at hc2
                  obtain ⟨_, hall⟩ := hc2
                  have hcs : ∃ cs, ∀ k, k ≤ lvl eff m → aop x.op (evd (am i)) (st k) = some (.box cs) ∧ (st k).bx[idb]? = some cs := by
                    have hsame : ∀ s1 s2, aop x.op (evd (am i)) s1 = aop x.op (evd (am i)) s2 := fun s1 s2 => by rw [hxo]; rfl
                    have hbox : ∀ stk ∈ st0 :: ss, ∃ cs, aop x.op (evd (am i)) stk = some (.box cs) ∧ stk.bx[idb]? = some cs := by
                      intro stk hmem
                      have := hall stk hmem
                      split at this
                      · rename_i cs cs' e1 e2
                        exact ⟨cs, e1, by rw [e2, beqL_eq _ _ this]⟩
                      · cases this
                    obtain ⟨cs, hcs, _⟩ := hbox st0 (by simp)
                    refine ⟨cs, fun k hk => ?_⟩
                    obtain ⟨cs2, h5, h6⟩ := hbox (st k) (hst k hk)
                    have e3 := (hsame st0 (st k)).symm.trans hcs
                    rw [h5] at e3
                    simp only [Option.some.injEq, Res.box.injEq] at e3
                    rw [← e3]
                    exact ⟨h5, h6⟩
                  obtain ⟨cs, hcs⟩ := hcs
                  exact .inr (.inl ⟨hfi, by simp [tidOf, hwt, hxo], cs, idb, by simp [bidOf, hwt, hxo, hval], hval, hcs⟩)
                · cases hc2
              · -- a row
                rename_i s ag z len ps hxo
                split at hc2
                · rename_i els idb hval
                  simp only [Bool.and_eq_true, decide_eq_true_eq, List.all_eq_true] at hc2
                  obtain ⟨_, hall⟩ := hc2
                  have hrow : ∀ stk ∈ st0 :: ss, aop x.op (evd (am i)) stk = some (.lit s els) ∧ stk.lv[idb]? = some (els.length, s) := by
                    intro stk hmem
                    have := hall stk hmem
                    split at this
                    · rename_i s' els' n' s'' e1 e2
                      simp only [Bool.and_eq_true, beq_iff_eq] at this
                      obtain ⟨⟨g1, g2⟩, g3⟩ := this
                      have g0 := beqL_eq _ _ g1
                      have hs' : s' = s := by
                        rw [hxo] at e1
                        simp only [aop, Option.bind_eq_some_iff] at e1
                        obtain ⟨_, _, e1⟩ := e1
                        split at e1
                        · simp only [Option.some.injEq, Res.lit.injEq] at e1; exact e1.1.symm
                        · cases e1
                      exact ⟨by rw [e1, g0, hs'], by rw [e2, g2, g3, hs']⟩
                    · cases this
                  exact .inr (.inr (.inl ⟨hfi, by simp [bidOf, hwt, hxo], s, els, idb, by simp [tidOf, hwt, hxo, hval], hval, fun k hk => hrow (st k) (hst k hk)⟩))
                · cases hc2
              · -- what stays
                rename_i hnb' hnl'
                rw [List.all_eq_true] at hc2
                have hb0 : bidOf a1 x = none := by
                  unfold bidOf
                  split
                  · rename_i y idb e1 e2 e3; exact absurd e2 (hnb' y)
                  · rfl
                have ht0 : tidOf a1 x = none := by
                  unfold tidOf
                  split
                  · rename_i e1 e2 e3; exact absurd e2 (hnl' _ _ _ _ _)
                  · rfl
                have hone : ∀ k, k ≤ lvl eff m → aop x.op (evd (am i)) (st k) = some (.val (valOf a1 x)) ∨ ∃ f as, aop x.op (evd (am i)) (st k) = some (.call f as) ∧ callS orc f as (st k) = some (valOf a1 x, st k) := by
                  intro k hk
                  have := hc2 (st k) (hst k hk)
                  split at this
                  · rename_i u e1
                    exact .inl (by rw [e1, AV.beq_eq _ _ this])
                  · rename_i f as e1
                    split at this
                    · rename_i u e2
                      exact .inr ⟨f, as, e1, by rw [callS, e2, AV.beq_eq _ _ this]⟩
                    · cases this
                  · cases this
                exact .inl ⟨hfi, hb0, ht0, hone⟩
          · cases hc2
        -- boxes and rows laid ahead
        have hI0 : Inv G st0 w.drew ∧ Gro G S w G st0 w.drew ∧ Keep G S G st0 ∧ (∀ b, S.bx.length ≤ b → G.al b = none) ∧ ∀ t n, S.lv.length ≤ t → G.tb t n = none := by
          obtain ⟨k1, k2, k3, k4⟩ := add_ahead hI.drew lb lt
          rw [hst0] at k1 k2
          exact ⟨k1, (Gro.drew G S w).trans k2, by rw [← hst0]; exact ⟨by simp, by simp, fun _ _ h => h, fun _ _ h => h⟩, k3, k4⟩
        obtain ⟨hI1, hg1, hkp1, hal0, htb0⟩ := hI0
        have hdx : ∀ i t, dO xs i = some t → ∃ x, xs[i]? = some x ∧ x.dst = some t := fun i t h => by
          simp only [dO, Option.bind_eq_some_iff] at h
          exact h
        have hdst : ∀ i, i < m → ∀ t, dO xs i = some t → t < a.length ∧ a1.getD t .junk = v i := by
          intro i hi t hd
          obtain ⟨x, hx, hxd⟩ := hdx i t hd
          have hc1 := hchk i hi
          rw [htk i hi, hx] at hc1
          simp only [chk1, Bool.and_eq_true, hxd, decide_eq_true_eq] at hc1
          refine ⟨hc1.1, ?_⟩
          show _ = (match xs[i]? with | some x => valOf a1 x | none => .junk)
          rw [hx]
          simp only [valOf, hxd]
        have hslots0 : ∀ t, (∀ i, i < m → dO xs i ≠ some t) → a1.getD t .junk = a.getD t .junk := by
          intro t hno
          refine hslots t fun x hx hxd => ?_
          obtain ⟨i, hi, hxi⟩ := List.mem_iff_getElem.1 hx
          have him : i < m := by rw [← hml]; exact hi
          have : xs[i]? = some x := by rw [← htk i him, List.getElem?_eq_getElem hi, hxi]
          exact hno i him (by simp [dO, this, hxd])
        have hloud : ∀ i, i < m → eff i = true → isLoud ops i = true := by
          intro i hi hfi
          obtain ⟨o, x, hoi, hx, _, hmain, _⟩ := hsp i (by omega)
          have hld := (hmain hi).2.2.2.2
          have hc1 := hchk i hi
          rw [htk i hi, hx] at hc1
          simp only [chk1, Bool.and_eq_true] at hc1
          obtain ⟨_, hc2⟩ := hc1
          have hfi' : fs.getD i false = true := hfi
          rw [hfi'] at hc2
          split at hc2
          · simp at hc2
          · simp only [if_true] at hc2
            have hla : loudA x.op = true := by
              cases hxo : x.op <;> rw [hxo] at hc2 <;> first | rfl | cases hc2
            simpa [isLoud, hoi] using hld hla
          · cases hc2
        have hnod : ∀ (g : AOper → Option Nat), ((xs.take m).filterMap g).Nodup → ∀ i j id, i < m → j < m → (match xs[i]? with | some x => g x | none => none) = some id → (match xs[j]? with | some x => g x | none => none) = some id → i = j := by
          intro g hn i j id hi hj h1 h2
          obtain ⟨_, x, _, hx, _⟩ := hsp i (by omega)
          obtain ⟨_, y, _, hy, _⟩ := hsp j (by omega)
          rw [hx] at h1
          rw [hy] at h2
          exact filterMap_inj hn i j x y id (by rw [htk i hi]; exact hx) (by rw [htk j hj]; exact hy) h1 h2
        refine cwp_region_draw hm hnd post_out ?_
        have ham : ∀ i, i < m → ∀ t, ((∀ k, k < i → dO xs k ≠ some t) → (am i).getD t .junk = a.getD t .junk) ∧ ((∃ k, k < i ∧ dO xs k = some t) → (am i).getD t .junk = a1.getD t .junk) := by
          intro i hi t
          obtain ⟨g1, g2⟩ := amsOf_get (a1 := a1) (xs.take m) a i t (by omega)
          refine ⟨fun hno => g1 fun k x hk hx hd => hno k hk ?_, fun ⟨k, hk, hd⟩ => ?_⟩
          · rw [htk k (by omega)] at hx
            simp [dO, hx, hd]
          · obtain ⟨x, hx, hxd⟩ := hdx k t hd
            exact g2 ⟨k, x, hk, by rw [htk k (by omega)]; exact hx, hxd⟩ (hdst k (by omega) t hd).1
        have hbn : ∀ i idb, i < m → bid i = some idb → S.bx.length ≤ idb := by
          intro i idb hi hid
          obtain ⟨o, x, _, hx, _⟩ := hsp i (by omega)
          have hid' : bidOf a1 x = some idb := by
            have : (match xs[i]? with | some x => bidOf a1 x | none => none) = some idb := hid
            rw [hx] at this; exact this
          have hc1 := hchk i hi
          rw [htk i hi, hx] at hc1
          simp only [chk1, Bool.and_eq_true] at hc1
          unfold bidOf at hid'
          split at hid'
          · rename_i y idb' e1 e2 e3
            cases hid'
            have hfb : fs.getD i false = false := by
              cases hfe : fs.getD i false with
              | false => rfl
              | true => rw [e1, e2, hfe] at hc1; simp at hc1
            rw [e1, e2, e3, hfb] at hc1
            simp only [Bool.false_eq_true, if_false, Bool.and_eq_true, decide_eq_true_eq] at hc1
            exact hc1.2.1
          · cases hid'
        have htn : ∀ i idb, i < m → tid i = some idb → S.lv.length ≤ idb := by
          intro i idb hi hid
          obtain ⟨o, x, _, hx, _⟩ := hsp i (by omega)
          have hid' : tidOf a1 x = some idb := by
            have : (match xs[i]? with | some x => tidOf a1 x | none => none) = some idb := hid
            rw [hx] at this; exact this
          have hc1 := hchk i hi
          rw [htk i hi, hx] at hc1
          simp only [chk1, Bool.and_eq_true] at hc1
          unfold tidOf at hid'
          split at hid'
          · rename_i e1 e2 e3
            cases hid'
            have hfb : fs.getD i false = false := by
              cases hfe : fs.getD i false with
              | false => rfl
              | true => rw [e1, e2, hfe] at hc1; simp at hc1
            rw [e1, e2, e3, hfb] at hc1
            simp only [Bool.false_eq_true, if_false, Bool.and_eq_true, decide_eq_true_eq] at hc1
            exact hc1.2.1
          · cases hid'
        refine draw_any (a := a) (a1 := a1) (v := v) (st := st) (eff := eff) (bid := bid) (tid := tid) (G0 := G) (S0 := S) (w0 := w) (act0 := act) ho hok hc hlen hdst hslots0 am ham hF hloud (hnod _ hnb) (hnod _ hnt) hbn htn ?_ ops.size (Array.replicate ops.size false) act w.drew ?_ (by simp) ?_ ?_ ?_
        · intro G' act' w' hI' hR' hg' hk' hd'
          have hlast : st (lvl eff m) = ss.getLastD st0 := by
            show (st0 :: ss).getD (lvl eff m) default = _
            rw [show lvl eff m = ss.length from hlv]
            exact getD_last ss st0
          rw [hlast] at hI' hg' hk'
          have hl := wpOps_eq_wpList (P := P) (ops := ops) (Q := Post .norm a' S' G S act w) (ops.toList.drop m) m (fun j => by simp)
          rw [show (ops.toList.drop m).length = ops.size - m by simp] at hl
          rw [hl]
          have hcd : (ops.toList.drop m).mapM (compOper P ops) = some (xs.drop m) := mapM_drop hc m
          exact evOps_wp ho _ _ a1 a' _ S' hcd he G' act' w' hI' hR' fun G2 act2 w2 k1 k2 k3 k5 k4 => ⟨rfl, G2, k1, k2, hg'.trans k3, hk'.trans k5, k4.trans hd'⟩
        · unfold toCome
          have : (List.range ops.size).filter (fun i => !(Array.replicate ops.size false).getD i true) = List.range ops.size := by
            apply List.filter_eq_self.2
            intro i hi
            have := List.mem_range.1 hi
            simp [this]
          rw [this, List.length_range]
        · have hcnt : cnt eff m (Array.replicate ops.size false) = 0 := by
            unfold cnt
            rw [List.length_eq_zero_iff, List.filter_eq_nil_iff]
            intro i hi
            have := List.mem_range.1 hi
            have : i < ops.size := by omega
            simp [this]
          have hs0 : st 0 = st0 := rfl
          refine ⟨G, a, ⟨by rw [hcnt, hs0]; exact hI1, hR, rfl, fun i hi hl => ?_, fun _ _ => rfl, ?_, ?_, by rw [hcnt, hs0]; exact hg1, by rw [hcnt, hs0]; exact hkp1, rfl⟩⟩
          · have : i < ops.size := by omega
            simp [this] at hl
          · intro i hi _ idb hid
            exact hal0 _ (hbn i idb hi hid)
          · intro i hi _ idb hid n
            exact htb0 _ n (htn i idb hi hid)
        · intro k hk hkn
          simp [hkn]
        · intro i hi
          by_cases h : i < ops.size <;> simp [h] at hi
      · cases he
    · cases he
  · cases he

def quietA : AOp → Bool
  | .store _ _ _ | .app _ _ _ _ _ | .box _ | .bsl _ _ _ _ _ | .mksl _ _ _ _ _ _ => false
  | _ => true
noncomputable def stepQ (orc : Clr) (x : AOper) (a : List AV) (S : St) : Option AV :=
  match wantedA x.guard a with
  | some false => some (.tup [])
  | some true => match aop x.op (evf a) S with
    | some (.val v) => some v
    | some (.call f xs) => flw xs fun xs => match orc f xs S with
      | some (v, none) => some v
      | _ => none
    | _ => none
  | none => none
noncomputable def evQ (orc : Clr) : List AOper → List AV → St → Option (List AV)
  | [], a, _ => some a
  | x :: l, a, S => match stepQ orc x a S with
    | some v => fv v fun v => putK a x.dst v fun a' => evQ orc l a' S
    | none => none
theorem evQ_cons {orc : Clr} {x : AOper} {l : List AOper} {a : List AV} {S : St} : evQ orc (x :: l) a S = (stepQ orc x a S).bind fun v => evQ orc l (putA a x.dst v) S := by
  simp only [evQ]
  cases stepQ orc x a S with
  | none => rfl
  | some v => simp only [fv_eq, putK_eq, Option.bind_some]
theorem evQ_at {orc : Clr} {S : St} : ∀ (l : List AOper) (a a1 : List AV), evQ orc l a S = some a1 → ∃ am : Nat → List AV, am 0 = a ∧ am l.length = a1 ∧ ∀ i x, l[i]? = some x → ∃ v, stepQ orc x (am i) S = some v ∧ am (i + 1) = putA (am i) x.dst v
  | [], a, a1, h => by cases h; exact ⟨fun _ => a, rfl, rfl, fun i x h => by simp at h⟩
  | y :: l, a, a1, h => by
    rw [evQ_cons, Option.bind_eq_some_iff] at h
    obtain ⟨v, hv, h⟩ := h
    obtain ⟨am, h0, h1, h2⟩ := evQ_at l _ _ h
    refine ⟨fun i => match i with | 0 => a | i + 1 => am i, rfl, h1, fun i x hx => ?_⟩
    cases i with
    | zero =>
      simp only [List.getElem?_cons_zero, Option.some.injEq] at hx
      subst hx
      exact ⟨v, hv, h0⟩
    | succ i => exact h2 i x (by simpa using hx)

noncomputable def evDraw (orc : Clr) (m : Nat) (xs : List AOper) (a : List AV) (S : St) : Option (List AV × St) :=
  match (bif (xs.take m).all fun x => quietA x.op && (match x.dst with | some d => decide (d < a.length) | none => true) then evQ orc (xs.take m) a S else none) with
  | some a1 => evOps orc (xs.drop m) a1 S
  | none => evDrawG orc m xs a S

theorem Run.draw {P : Program} {orc : Clr} (ho : ClrOk P orc) (hm : P.follows .mixedOrders = true) {md : Md} {id m : Nat} {ops : Array Oper} {xs : List AOper} (hok : okD ops xs m = true) (hc : ops.toList.mapM (compOper P ops) = some xs) {a a' : List AV} {S S' : St} (he : evDraw orc m xs a S = some (a', S')) :
    Run md P (.region id ops true) a S .norm a' S' := by
  unfold evDraw at he
  split at he
  · rename_i a1 hq
    cases hcnd : ((xs.take m).all fun x => quietA x.op && (match x.dst with | some d => decide (d < a.length) | none => true)) with
    | false => rw [hcnd] at hq; cases hq
    | true =>
      rw [hcnd, cond_true] at hq
      obtain ⟨hnd, hmle, hxl, hsp⟩ := okD_spec hok
      have hml : (xs.take m).length = m := by simp; omega
      have htk : ∀ i, i < m → (xs.take m)[i]? = xs[i]? := fun i hi => List.getElem?_take_of_lt hi
      obtain ⟨am, ha0, ham1, hstep⟩ := evQ_at _ _ _ hq
      rw [hml] at ham1
      have hst : ∀ i, i < m → ∃ o x v, ops[i]? = some o ∧ xs[i]? = some x ∧ stepQ orc x (am i) S = some v ∧ am (i + 1) = putA (am i) x.dst v := by
        intro i hi
        obtain ⟨o, x, hoi, hx, _⟩ := hsp i (by omega)
        obtain ⟨v, h1, h2⟩ := hstep i x (by rw [htk i hi]; exact hx)
        exact ⟨o, x, v, hoi, hx, h1, h2⟩
      have hdx : ∀ i t, dO xs i = some t → ∃ x, xs[i]? = some x ∧ x.dst = some t := fun i t h => by
        simp only [dO, Option.bind_eq_some_iff] at h
        exact h
      -- slots stay where nothing writes
      have hslot : ∀ t i r, i + r ≤ m → (∀ k, i ≤ k → k < i + r → dO xs k ≠ some t) → (am (i + r)).getD t .junk = (am i).getD t .junk := by
        intro t i r
        induction r with
        | zero => intro _ _; rfl
        | succ r ih =>
          intro hr hno
          obtain ⟨_, x, v, _, hx, _, h2⟩ := hst (i + r) (by omega)
          rw [show i + (r + 1) = i + r + 1 by omega, h2, putA_getD_ne _ _ _ _ (by have := hno (i + r) (by omega) (by omega); simpa [dO, hx] using this)]
          exact ih (by omega) fun k h1 h2 => hno k h1 (by omega)
      have hlenA : ∀ i, i ≤ m → (am i).length = a.length := by
        intro i
        induction i with
        | zero => intro _; rw [ha0]
        | succ i ih =>
          intro hi
          obtain ⟨_, x, v, _, _, _, h2⟩ := hst i (by omega)
          rw [h2, putA_length, ih (by omega)]
      have hdl : ∀ i t, i < m → dO xs i = some t → t < a.length := by
        intro i t hi hd
        obtain ⟨x, hx, hxd⟩ := hdx i t hd
        have hmem : x ∈ xs.take m := List.mem_of_getElem? (by rw [htk i hi]; exact hx)
        have := List.all_eq_true.1 hcnd x hmem
        simp only [hxd, Bool.and_eq_true, decide_eq_true_eq] at this
        exact this.2
      have huniq : ∀ i k t, i < m → k < m → dO xs i = some t → dO xs k = some t → k = i := by
        intro i k t hi hk h1 h2
        obtain ⟨_, x, _, hx, _, hmain, _⟩ := hsp i (by omega)
        by_cases he : k = i
        · exact he
        · exact absurd h2 ((hmain hi).1 k hk he t (by simpa [dO, hx] using h1))
      let v : Nat → AV := fun i => match xs[i]? with | some x => (stepQ orc x (am i) S).getD .junk | none => .junk
      have hv : ∀ i x w, xs[i]? = some x → stepQ orc x (am i) S = some w → v i = w := by
        intro i x w hx hw
        show (match xs[i]? with | some x => (stepQ orc x (am i) S).getD .junk | none => .junk) = w
        rw [hx]
        simp only [hw, Option.getD_some]
      have h1 : ∀ i, i < m → ∀ t, dO xs i = some t → t < a.length ∧ a1.getD t .junk = v i := by
        intro i hi t hd
        have hlt := hdl i t hi hd
        obtain ⟨_, x, w, _, hx, hw, h2⟩ := hst i hi
        refine ⟨hlt, ?_⟩
        have e1 := hslot t (i + 1) (m - (i + 1)) (by omega) (fun k h1 h2 hk => by have := huniq i k t hi (by omega) hd hk; omega)
        rw [show i + 1 + (m - (i + 1)) = m by omega, ham1] at e1
        rw [e1, h2, hv i x w hx hw]
        have hxd : x.dst = some t := by simpa [dO, hx] using hd
        rw [hxd, putA_getD_same _ _ _ (by rw [hlenA i (by omega)]; exact hlt)]
      have h0 : ∀ t, (∀ i, i < m → dO xs i ≠ some t) → a1.getD t .junk = a.getD t .junk := by
        intro t hno
        have e1 := hslot t 0 m (by omega) (fun k _ h2 => hno k (by omega))
        rw [Nat.zero_add, ham1, ha0] at e1
        exact e1
      have ham : ∀ i, i < m → ∀ t, ((∀ k, k < i → dO xs k ≠ some t) → (am i).getD t .junk = a.getD t .junk) ∧ ((∃ k, k < i ∧ dO xs k = some t) → (am i).getD t .junk = a1.getD t .junk) := by
        intro i hi t
        refine ⟨fun hno => ?_, fun ⟨k, hk, hd⟩ => ?_⟩
        · have e1 := hslot t 0 i (by omega) (fun k _ h2 => hno k (by omega))
          rw [Nat.zero_add, ha0] at e1
          exact e1
        · have e1 := hslot t i (m - i) (by omega) (fun k' h1 h2 hk' => by have := huniq k k' t (by omega) (by omega) hd hk'; omega)
          rw [show i + (m - i) = m by omega, ham1] at e1
          exact e1.symm
      have hguard : ∀ i x, i < m → xs[i]? = some x → wantedA x.guard a1 = wantedA x.guard (am i) := by
        intro i x hi hx
        obtain ⟨o, x', hoi, hx', hlt, hmain, _⟩ := hsp i (by omega)
        rw [hx] at hx'; cases hx'
        cases hg : x.guard with
        | none => rfl
        | some g =>
          obtain ⟨d, wnt⟩ := g
          simp only [wantedA]
          have : a1.getD d .junk = (am i).getD d .junk := by
            by_cases hex : ∃ k, k < m ∧ dO xs k = some d
            · obtain ⟨k, hk, hd⟩ := hex
              exact ((ham i hi d).2 ⟨k, hlt k ((hmain hi).2.1 d wnt hg k hk hd), hd⟩).symm
            · have hno : ∀ k, k < m → dO xs k ≠ some d := fun k hk h => hex ⟨k, hk, h⟩
              rw [h0 d hno, (ham i hi d).1 fun k hk => hno k (by omega)]
          rw [this]
      intro G act w hI hR
      refine cwp_region_draw hm hnd post_out ?_
      have hlv : lvl (fun _ => false) m = 0 := by simp [lvl]
      refine draw_any (a := a) (a1 := a1) (v := v) (st := fun _ => S) (eff := fun _ => false) (bid := fun _ => none) (tid := fun _ => none) (G0 := G) (S0 := S) (w0 := w) (act0 := act) ho hok hc (by rw [← ham1, hlenA m (Nat.le_refl _)]) h1 h0 am ham ?_ (fun _ _ h => by cases h) (fun _ _ _ _ _ h => by cases h) (fun _ _ _ _ _ h => by cases h) (fun _ _ _ h => by cases h) (fun _ _ _ h => by cases h) ?_ ops.size (Array.replicate ops.size false) act w.drew ?_ (by simp) ?_ ?_ ?_
      · intro i hi x hx
        obtain ⟨_, x', w', _, hx', hw, _⟩ := hst i hi
        rw [hx] at hx'; cases hx'
        rw [hv i x w' hx hw]
        have hg := hguard i x hi hx
        unfold stepQ at hw
        rw [evf_eq] at hw
        split at hw
        · rename_i hwt
          cases hw
          exact .inl ⟨hg.trans hwt, rfl, rfl, rfl, rfl⟩
        · rename_i hwt
          refine .inr ⟨hg.trans hwt, .inl ⟨rfl, rfl, rfl, fun k _ => ?_⟩⟩
          split at hw
          · rename_i e1
            cases hw
            exact .inl e1
          · rename_i f xs1 e1
            rw [flw_eq] at hw
            split at hw
            · rename_i e2
              cases hw
              exact .inr ⟨f, xs1, e1, by rw [callS, e2]⟩
            · cases hw
          · cases hw
        · cases hw
      · intro G' act' w' hI' hR' hg' hk' hd'
        have hl := wpOps_eq_wpList (P := P) (ops := ops) (Q := Post .norm a' S' G S act w) (ops.toList.drop m) m (fun j => by simp)
        rw [show (ops.toList.drop m).length = ops.size - m by simp] at hl
        rw [hl]
        have hcd : (ops.toList.drop m).mapM (compOper P ops) = some (xs.drop m) := mapM_drop hc m
        exact evOps_wp ho _ _ a1 a' _ S' hcd he G' act' w' hI' hR' fun G2 act2 w2 k1 k2 k3 k5 k4 => ⟨rfl, G2, k1, k2, hg'.trans k3, hk'.trans k5, k4.trans hd'⟩
      · unfold toCome
        have : (List.range ops.size).filter (fun i => !(Array.replicate ops.size false).getD i true) = List.range ops.size := by
          apply List.filter_eq_self.2
          intro i hi
          have := List.mem_range.1 hi
          simp [this]
        rw [this, List.length_range]
      · refine ⟨G, a, ⟨hI.drew, hR, rfl, fun i hi hl => ?_, fun _ _ => rfl, fun _ _ _ _ h => (by cases h), fun _ _ _ _ h => (by cases h), Gro.drew G S w, .refl _ _, rfl⟩⟩
        have : i < ops.size := by omega
        simp [this] at hl
      · intro k hk hkn
        simp [hkn]
      · intro i hi
        by_cases h : i < ops.size <;> simp [h] at hi
  · exact Run.drawG ho hm hok hc he
end Go.Proofs.Ytoefpcpijolofaa
end
section
namespace Go.Proofs.Ytoefpcpijolofaa
open Go.RowKit
set_option linter.unusedVariables false
set_option linter.unusedSimpArgs false

inductive ACode where
  | skip
  | reg (ops : List AOper)
  | dreg (m : Nat) (ops : List AOper)
  | seq (c d : ACode)
  | cond (c : AOpd) (d e : ACode)
  | block (id : Nat) (c : ACode)
  | loop (c : ACode)
  | exit (id : Nat)
  | ret
  deriving Inhabited

def compCode (P : Program) : Code → Option ACode
  | .skip => some .skip
  | .label _ => some .skip
  | .region _ ops draw =>
    if draw then
      match ops.toList.mapM (compOper P ops) with
      | some xs => match (List.range (ops.size + 1)).find? (okD ops xs) with
        | some m => if P.follows .mixedOrders then some (.dreg m xs) else none
        | none => none
      | none => none
    else if !noDefer ops then none else (ops.toList.mapM (compOper P ops)).map .reg
  | .seq c d => match compCode P c, compCode P d with
    | some c', some d' => some (.seq c' d')
    | _, _ => none
  | .cond x c d => match compOpd x, compCode P c, compCode P d with
    | some x', some c', some d' => some (.cond x' c' d')
    | _, _, _ => none
  | .block id c => (compCode P c).map (.block id)
  | .loop c => (compCode P c).map .loop
  | .exit id => some (.exit id)
  | .ret => some .ret
  | _ => none

noncomputable def evCode (orc : Clr) : Nat → ACode → List AV → St → Option (AEx × List AV × St)
  | 0, _, _, _ => none
  | n + 1, c, a, S =>
    match c with
    | .skip => some (.norm, a, S)
    | .reg ops => match evOps orc ops a S with
      | some (a', S') => some (.norm, a', S')
      | none => none
    | .dreg m ops => match evDraw orc m ops a S with
      | some (a', S') => some (.norm, a', S')
      | none => none
    | .seq c d => match evCode orc n c a S with
      | some (.norm, a1, S1) => evCode orc n d a1 S1
      | r => r
    | .cond x c d => match evd a x with
      | .bool b => evCode orc n (if b then c else d) a S
      | _ => none
    | .block id c => match evCode orc n c a S with
      | some (x, a', S') => some (if x = .ex id then .norm else x, a', S')
      | none => none
    | .loop c => match evCode orc n c a S with
      | some (.norm, a1, S1) => evCode orc n (.loop c) a1 S1
      | r => r
    | .exit id => some (.ex id, a, S)
    | .ret => some (.ret, a, S)

theorem evCode_run {P : Program} {orc : Clr} (ho : ClrOk P orc) {md : Md} : ∀ (n : Nat) (c : Code) (ac : ACode) (a a' : List AV) (S S' : St) (x : AEx), compCode P c = some ac → evCode orc n ac a S = some (x, a', S') →
    Run md P c a S x a' S' ∧ ∀ b, c = .loop b → ∃ k, Chain md P b k a S x a' S'
  | 0, c, ac, a, a', S, S', x, hc, he => by cases he
  | n + 1, c, ac, a, a', S, S', x, hc, he => by
    have ih := evCode_run (P := P) ho (md := md) n
    cases c <;> simp only [compCode, reduceCtorEq] at hc
    case skip => cases hc; simp only [evCode, Option.some.injEq, Prod.mk.injEq] at he; obtain ⟨rfl, rfl, rfl⟩ := he; exact ⟨.skip, fun b h => by cases h⟩
    case label l => cases hc; simp only [evCode, Option.some.injEq, Prod.mk.injEq] at he; obtain ⟨rfl, rfl, rfl⟩ := he; exact ⟨.label, fun b h => by cases h⟩
    case exit id => cases hc; simp only [evCode, Option.some.injEq, Prod.mk.injEq] at he; obtain ⟨rfl, rfl, rfl⟩ := he; exact ⟨.exit, fun b h => by cases h⟩
    case ret => cases hc; simp only [evCode, Option.some.injEq, Prod.mk.injEq] at he; obtain ⟨rfl, rfl, rfl⟩ := he; exact ⟨.ret, fun b h => by cases h⟩
    case region id ops draw =>
      split at hc
      · rename_i hd
        subst hd
        split at hc
        · rename_i xs hxs
          split at hc
          · rename_i m hm
            split at hc
            · rename_i hmix
              cases hc
              simp only [evCode] at he
              split at he
              · rename_i a1 S1 h1
                cases he
                exact ⟨.draw ho hmix (List.find?_some hm) hxs h1, fun b h => by cases h⟩
              · cases he
            · cases hc
          · cases hc
        · cases hc
      · rename_i hd
        split at hc
        · cases hc
        · rename_i hnd
          have hd : draw = false := by simpa using hd
          subst hd
          simp only [Option.map_eq_some_iff] at hc
          obtain ⟨xs, hxs, rfl⟩ := hc
          simp only [evCode] at he
          split at he
          · rename_i a1 S1 h1
            cases he
            exact ⟨.region ho (by simpa using hnd) hxs h1, fun b h => by cases h⟩
          · cases he
    case seq c d =>
      split at hc
      · rename_i c' d' hc1 hd1
        cases hc
        simp only [evCode] at he
        split at he
        · rename_i a1 S1 h1
          exact ⟨.seq (ih _ _ _ _ _ _ _ hc1 h1).1 (ih _ _ _ _ _ _ _ hd1 he).1, fun b h => by cases h⟩
        · rename_i hne
          exact ⟨.seq_left (ih _ _ _ _ _ _ _ hc1 he).1 (fun hx => by subst hx; exact hne _ _ he), fun b h => by cases h⟩
      · cases hc
    case cond y c d =>
      split at hc
      · rename_i y' c' d' hy hc1 hd1
        cases hc
        simp only [evCode] at he
        split at he
        · rename_i t ht
          refine ⟨.cond hy ht ?_, fun b h => by cases h⟩
          cases t
          · exact (ih _ _ _ _ _ _ _ hd1 he).1
          · exact (ih _ _ _ _ _ _ _ hc1 he).1
        · cases he
      · cases hc
    case block id c =>
      simp only [Option.map_eq_some_iff] at hc
      obtain ⟨c', hc1, rfl⟩ := hc
      simp only [evCode] at he
      split at he
      · rename_i x1 a1 S1 h1
        cases he
        exact ⟨.block (ih _ _ _ _ _ _ _ hc1 h1).1, fun b h => by cases h⟩
      · cases he
    case loop c =>
      simp only [Option.map_eq_some_iff] at hc
      obtain ⟨c', hc1, rfl⟩ := hc
      simp only [evCode] at he
      have hch : ∃ k, Chain md P c k a S x a' S' := by
        split at he
        · rename_i a1 S1 h1
          obtain ⟨k, hk⟩ := (ih (.loop c) (.loop c') _ _ _ _ _ (by simp [compCode, hc1]) he).2 c rfl
          exact ⟨k + 1, .step (ih _ _ _ _ _ _ _ hc1 h1).1 hk⟩
        · rename_i hne
          exact ⟨0, .last (ih _ _ _ _ _ _ _ hc1 he).1 (fun hx => by subst hx; exact hne _ _ he)⟩
      obtain ⟨k, hk⟩ := hch
      exact ⟨.loop hk, fun b h => by cases h; exact ⟨k, hk⟩⟩

inductive ARes where
  | tmp (t : Nat)
  | cell (t : Nat) (n : Option Nat)
  deriving Inhabited
structure AFn where
  np : Nat
  ntmps : Nat
  res : List ARes
  code : ACode
  deriving Inhabited

def compRes (P : Program) : ResultVar → Option ARes
  | .tmp t => some (.tmp t)
  | .cell a t => (aggOf P t).map (.cell a)
def compFn (P : Program) (f : FuncId) : Option AFn :=
  match P.funcs[f]? with
  | some fn => match fn.body, fn.results.toList.mapM (compRes P) with
    | some c, some rs => match compCode P c with
      | some ac => if fn.name == "runtime.NumGoroutine" then none else some ⟨fn.params.size, fn.ntmps, rs, ac⟩
      | none => none
    | _, _ => none
  | none => none

def evRes1 (a : List AV) (S : St) : ARes → Option AV
  | .tmp t => a[t]?
  | .cell t n => match a[t]? with
    | some (.ptr b o) => (S.bx[b]?).bind fun cs => takeCells cs o n
    | _ => none
def one : List AV → AV
  | [v] => v
  | vs => .tup vs
def evRes (a : List AV) (S : St) (rs : List ARes) : Option AV := (rs.mapM (evRes1 a S)).map one

theorem res1_ok {P : Program} {G : Gh} {S : St} {w : World} {a : List AV} {act : Act} (hI : Inv G S w) (hR : Rel G a act) {r : ResultVar} {r' : ARes} {v : AV} (hc : compRes P r = some r') (hv : evRes1 a S r' = some v) :
    ∃ u, ((match r with | .tmp t => pure (act.tmps.getD t undef) | .cell a t => do loadVar t (← asAddr (act.tmps.getD a undef)) : Sem Value)).run P w = .ok u w ∧ VR G v u := by
  have hslot : ∀ t x, a[t]? = some x → VR G x (act.tmps.getD t undef) := fun t x h => by
    have hlt : t < act.tmps.size := by rw [hR.size]; exact (List.getElem?_eq_some_iff.1 h).1
    simpa [Array.getD, hlt] using hR.slot t x _ h (Array.getElem?_eq_getElem hlt)
  cases r with
  | tmp t =>
    cases hc
    exact ⟨_, by simp, hslot t v hv⟩
  | cell t ty =>
    simp only [compRes, Option.map_eq_some_iff] at hc
    obtain ⟨n, hn, rfl⟩ := hc
    simp only [evRes1] at hv
    split at hv
    · rename_i b o h
      simp only [Option.bind_eq_some_iff] at hv
      obtain ⟨cs, hcs, hv⟩ := hv
      obtain ⟨B, hB, hu⟩ := (hslot t _ h).inv_ptr
      obtain ⟨u, h1, h2⟩ := loadVar_ok hn (hI.reads hB hcs) hv
      rw [Nat.zero_add] at h1
      exact ⟨u, by simp only [hu, asAddr, Sem.run_bind, Sem.run_pure, Result.andThen_ok, h1], h2⟩
    · cases hv

theorem res_ok {P : Program} {G : Gh} {S : St} {w : World} {a : List AV} {act : Act} (hI : Inv G S w) (hR : Rel G a act) {fn : Func} {rs : List ARes} {v : AV} (hc : fn.results.toList.mapM (compRes P) = some rs) (hv : evRes a S rs = some v) : ∃ u, (results fn act.tmps).run P w = .ok u w ∧ VR G v u := by
  simp only [evRes, Option.map_eq_some_iff] at hv
  obtain ⟨vs, hvs, rfl⟩ := hv
  obtain ⟨f, hf⟩ : ∃ f : ResultVar → Sem Value, f = (fun r => (match r with | .tmp t => pure (act.tmps.getD t undef) | .cell a t => do loadVar t (← asAddr (act.tmps.getD a undef)) : Sem Value)) := ⟨_, rfl⟩
  have key : ∀ (l : List ResultVar) (rs : List ARes) (vs : List AV), l.mapM (compRes P) = some rs → rs.mapM (evRes1 a S) = some vs →
      ∃ us : List Value, (l.mapM f).run P w = .ok us w ∧ us.length = vs.length ∧ ∀ (i : Nat) x u, vs[i]? = some x → us[i]? = some u → VR G x u := by
    intro l
    induction l with
    | nil => intro rs vs h1 h2; simp at h1; subst h1; simp at h2; subst h2; exact ⟨[], by simp, rfl, fun i x u h => by simp at h⟩
    | cons r l ih =>
      intro rs vs h1 h2
      rw [List.mapM_cons] at h1
      simp only [Option.bind_eq_bind, Option.bind_eq_some_iff, Option.pure_def, Option.some.injEq] at h1
      obtain ⟨r', hr', rs', hrs', rfl⟩ := h1
      rw [List.mapM_cons] at h2
      simp only [Option.bind_eq_bind, Option.bind_eq_some_iff, Option.pure_def, Option.some.injEq] at h2
      obtain ⟨v, hv, vs', hvs', rfl⟩ := h2
      obtain ⟨u, k1, k2⟩ := res1_ok hI hR hr' hv
      have k1 : (f r).run P w = .ok u w := by rw [hf]; exact k1
      obtain ⟨us, k3, k4, k5⟩ := ih rs' vs' hrs' hvs'
      refine ⟨u :: us, ?_, by simp [k4], fun i x y hx hy => ?_⟩
      · rw [List.mapM_cons]
        simp only [Sem.run_bind, k1, Result.andThen_ok, k3, Sem.run_pure]
      · cases i with
        | zero => simp at hx hy; subst hx hy; exact k2
        | succ i => exact k5 i x y (by simpa using hx) (by simpa using hy)
  obtain ⟨us, h1, h2, h3⟩ := key _ rs vs hc hvs
  have hrun : (results fn act.tmps).run P w = .ok (if h : us.toArray.size = 1 then us.toArray[0] else .tuple us.toArray) w := by
    have e : results fn act.tmps = (do let vs ← fn.results.mapM f; pure (if h : vs.size = 1 then vs[0] else .tuple vs) : Sem Value) := by rw [hf]; rfl
    rw [e, Array.mapM_eq_mapM_toList]
    simp [h1]
  refine ⟨_, hrun, ?_⟩
  clear h1 hrun hvs key
  match vs, us, h2, h3 with
  | [], [], _, _ => exact .tup [] #[] rfl (fun i x u h => by simp at h)
  | [v], [u], _, h3 => simpa [one] using h3 0 v u rfl rfl
  | v :: v2 :: vs, u :: u2 :: us, h2, h3 =>
    rw [dif_neg (by simp)]
    exact .tup _ _ (by simpa using h2) fun i x y hx hy => h3 i x y hx (by simpa using hy)

def start (F : AFn) (as : List AV) : List AV := as ++ List.replicate (F.ntmps - as.length) (.tup [])

theorem calls_of {P : Program} {f : FuncId} {F : AFn} {fn : Func} {c : Code} (hf : P.funcs[f]? = some fn) (hb : fn.body = some c) (hF : compFn P f = some F) {as : List AV} {S : St} {x : AEx} {a' : List AV} {S' : St} {v : AV}
    (hr : Run .plain P c (start F as) S x a' S') (hx : x = .norm ∨ x = .ret) (hv : evRes a' S' F.res = some v) :
    (∀ (us : Array Value) (w : World), (callFunc f us).run P w = .ok (.enter f us) w) ∧ ∀ (G : Gh) (w : World) (us : Array Value), Inv G S w → VRs G as us → Calls P f us w fun e w' => ∃ u G', e = .returned u ∧ VR G' v u ∧ Inv G' S' w' ∧ Gro G S w G' S' w' ∧ Keep G S G' S' := by
  unfold compFn at hF
  rw [hf] at hF
  simp only [hb] at hF
  split at hF
  · rename_i c0 rs hc0 hrs
    cases hc0
    split at hF
    · rename_i ac hac
      split at hF
      · cases hF
      · rename_i hname
        cases hF
        refine ⟨fun us w => ?_, fun G w us hI hvs => ?_⟩
        · simp only [callFunc, program, Sem.run, hf, Sem.run_bind, Result.andThen_ok, hname, hb]
          rfl
        · refine calls_of_wp hf hb ?_
          have hR : Rel G (start ⟨fn.params.size, fn.ntmps, rs, ac⟩ as) { tmps := us ++ Array.replicate (fn.ntmps - us.size) undef, defers := [] } := by
            refine ⟨by simp [start, hvs.1], fun i y u hy hu => ?_⟩
            simp only [start] at hy
            simp only at hu
            rw [List.getElem?_append] at hy
            rw [Array.getElem?_append, hvs.1] at hu
            split at hy
            · rename_i hlt
              rw [if_pos hlt] at hu
              exact hvs.2 i y u hy hu
            · rename_i hlt
              rw [if_neg hlt] at hu
              have e1 := List.eq_of_mem_replicate (List.mem_of_getElem? hy)
              have e2 : u ∈ (Array.replicate (fn.ntmps - as.length) undef) := Array.mem_of_getElem? hu
              have e3 := (Array.mem_replicate.1 e2).2
              rw [e1, e3]
              exact .undef G
          refine wp_mono (hr G _ w hI hR) ?_
          rintro e act' w' ⟨he, G', hI', hR', hg, hk, hd⟩
          obtain ⟨u, h1, h2⟩ := res_ok hI' hR' hrs hv
          rcases hx with rfl | rfl
          · subst he; exact ⟨hd, u, h1, u, G', rfl, h2, hI', hg, hk⟩
          · subst he; exact ⟨hd, u, h1, u, G', rfl, h2, hI', hg, hk⟩
    · cases hF
  · cases hF

theorem contract_of {P : Program} {f : FuncId} {F : AFn} {fn : Func} {c : Code} (hf : P.funcs[f]? = some fn) (hb : fn.body = some c) (hF : compFn P f = some F) {as : List AV} {cells cells' : List (List AV)} {x : AEx} {a' : List AV} {S' : St} {v : AV}
    (hr : Run .plain P c (start F as) ⟨cells, []⟩ x a' S') (hx : x = .norm ∨ x = .ret) (hv : evRes a' S' F.res = some v) (hl : cells.length ≤ cells'.length) (hcells : ∃ bx, S'.bx = cells' ++ bx) : Contract P f as cells v cells' := by
  obtain ⟨h1, h2⟩ := calls_of hf hb hF hr hx hv
  refine ⟨h1, hl, fun G w us hI hvs => (h2 G w us hI hvs).mono ?_⟩
  rintro e w' ⟨u, G', rfl, k1, k2, k3, _⟩
  obtain ⟨bx, hbx⟩ := hcells
  obtain ⟨S'bx, S'lv⟩ := S'
  simp only at hbx
  subst hbx
  exact ⟨u, G', bx, S'lv, rfl, k1, k2, k3⟩
end Go.Proofs.Ytoefpcpijolofaa
end
section
namespace Go.Proofs.Ytoefpcpijolofaa
open Go.RowKit
set_option linter.unusedVariables false
set_option linter.unusedSimpArgs false

def AV.names : AV → Bool
  | .ptr _ _ | .ms _ _ _ => true
  | .tup vs => vs.any fun v => match v with | .ptr _ _ | .ms _ _ _ => true | _ => false
  | _ => false

noncomputable def evFn (X : Clr) (n : Nat) (F : AFn) (as : List AV) (cells : List (List AV)) : Option (AV × List (List AV)) :=
  match evCode X n F.code (start F as) ⟨cells, []⟩ with
  | some (.ex _, _, _) => none
  | some (_, a', S') => match evRes a' S' F.res with
    | some v => let cs := if v.names then S'.bx else S'.bx.take cells.length
      if cells.length ≤ cs.length then some (v, cs) else none
    | none => none
  | none => none

noncomputable def evIn (X : Clr) (n : Nat) (F : AFn) (as : List AV) (S : St) : Option (AV × St) :=
  match evCode X n F.code (start F as) S with
  | some (.ex _, _, _) => none
  | some (_, a', S') => match evRes a' S' F.res with
    | some v => some (v, S')
    | none => none
  | none => none

theorem compFn_get {P : Program} {f : FuncId} {F : AFn} (hF : compFn P f = some F) : ∃ fn c ac, P.funcs[f]? = some fn ∧ fn.body = some c ∧ compCode P c = some ac ∧ F.code = ac := by
  unfold compFn at hF
  split at hF
  · rename_i fn hf
    split at hF
    · rename_i c rs hb hrs
      split at hF
      · rename_i ac hac
        split at hF
        · cases hF
        · cases hF
          exact ⟨fn, c, ac, hf, hb, hac, rfl⟩
      · cases hF
    · cases hF
  · cases hF

theorem evFn_ok {P : Program} {X : Clr} (ho : ClrOk P X) {n : Nat} {f : FuncId} {F : AFn} (hF : compFn P f = some F) {as : List AV} {cells cells' : List (List AV)} {v : AV} (he : evFn X n F as cells = some (v, cells')) : Contract P f as cells v cells' := by
  obtain ⟨fn, c, ac, hf, hb, hac, hcode⟩ := compFn_get hF
  unfold evFn at he
  rw [hcode] at he
  split at he
  · cases he
  · rename_i x a' S' hne hev
    split at he
    · rename_i v' hres
      simp only [] at he
      generalize hcs : (if v'.names then S'.bx else S'.bx.take cells.length) = cs at he
      split at he
      · rename_i hle
        cases he
        have hr := (evCode_run (md := .plain) ho n c ac _ _ _ _ _ hac hev).1
        refine contract_of hf hb hF hr ?_ hres hle ?_
        · cases x with
          | norm => exact .inl rfl
          | ret => exact .inr rfl
          | ex i => exact absurd rfl (hne i)
        · rw [← hcs]
          split
          · exact ⟨[], by simp⟩
          · exact ⟨S'.bx.drop cells.length, by simp⟩
      · cases he
    · cases he
  · cases he

theorem evIn_ok {P : Program} {X : Clr} (ho : ClrOk P X) {n : Nat} {f : FuncId} {F : AFn} (hF : compFn P f = some F) {as : List AV} {S S' : St} {v : AV} (he : evIn X n F as S = some (v, S')) {G : Gh} {w : World} {us : Array Value} (hI : Inv G S w) (hv : VRs G as us) :
    (callFunc f us).run P w = .ok (.enter f us) w ∧ Calls P f us w fun e w' => ∃ u G', e = .returned u ∧ VR G' v u ∧ Inv G' S' w' ∧ Gro G S w G' S' w' ∧ Keep G S G' S' := by
  obtain ⟨fn, c, ac, hf, hb, hac, hcode⟩ := compFn_get hF
  unfold evIn at he
  rw [hcode] at he
  split at he
  · cases he
  · rename_i x a' T hne hev
    split at he
    · rename_i v' hres
      cases he
      have hr := (evCode_run (md := .plain) ho n c ac _ _ _ _ _ hac hev).1
      obtain ⟨h1, h2⟩ := calls_of hf hb hF hr (by
        cases x with
        | norm => exact .inl rfl
        | ret => exact .inr rfl
        | ex i => exact absurd rfl (hne i)) hres
      exact ⟨h1 us w, h2 G w us hI hv⟩
    · cases he
  · cases he

noncomputable def clrN (tab : FuncId → Option AFn) (inl : FuncId → Bool) (base : Clr) (fuel : Nat) : Nat → Clr
  | 0 => base
  | n + 1 => fun f as S => match tab f with
    | some F => bif inl f then (evIn (clrN tab inl base fuel n) fuel F as S).map (fun p => (p.1, some p.2)) else clrOf (fun g as cells => bif Nat.beq g f then evFn (clrN tab inl base fuel n) fuel F as cells else none) f as S
    | none => base f as S

theorem clrN_ok {P : Program} {tab : FuncId → Option AFn} {inl : FuncId → Bool} {base : Clr} (hb : ClrOk P base) (ht : ∀ f F, tab f = some F → compFn P f = some F) (fuel : Nat) : ∀ n, ClrOk P (clrN tab inl base fuel n)
  | 0 => hb
  | n + 1 => ⟨by
    intro f as S v S' h G w us hI hv
    have ih := clrN_ok (inl := inl) hb ht fuel n
    cases hF : tab f with
    | none =>
      refine hb.ok f as S v S' ?_ G w us hI hv
      simp only [callS, clrN, hF] at h
      exact h
    | some F =>
      cases hi : inl f with
      | true =>
        have h' : evIn (clrN tab inl base fuel n) fuel F as S = some (v, S') := by
          simp only [callS, clrN, hF, hi, cond_true] at h
          cases he : evIn (clrN tab inl base fuel n) fuel F as S with
          | none => rw [he] at h; cases h
          | some p => rw [he] at h; obtain ⟨p1, p2⟩ := p; simpa using h
        exact evIn_ok ih (ht f F hF) h' hI hv
      | false =>
        have h : callS (clrOf fun g as cells => bif Nat.beq g f then evFn (clrN tab inl base fuel n) fuel F as cells else none) f as S = some (v, S') := by
          simpa only [callS, clrN, hF, hi, cond_false] using h
        refine (clr_ok (P := P) (orc := fun g as cells => bif Nat.beq g f then evFn (clrN tab inl base fuel n) fuel F as cells else none) ?_).ok f as S v S' h G w us hI hv
        intro g as cells v cells' hh
        simp only [] at hh
        cases hg : Nat.beq g f with
        | true =>
          rw [hg, cond_true] at hh
          rw [Nat.eq_of_beq_eq_true hg]
          exact evFn_ok ih (ht f F hF) hh
        | false => rw [hg, cond_false] at hh; cases hh⟩
def noClr : Clr := fun _ _ _ => none
theorem noClr_ok (P : Program) : ClrOk P noClr := ⟨fun _ _ _ _ _ h => by cases h⟩
end Go.Proofs.Ytoefpcpijolofaa
end
section
namespace Go.Proofs.Ytoefpcpijolofaa
open Go.RowKit
set_option linter.unusedVariables false
set_option linter.unusedSimpArgs false

theorem evCode_mono {orc : Clr} : ∀ (n : Nat) (c : ACode) (a : List AV) (S : St) (r : AEx × List AV × St), evCode orc n c a S = some r → ∀ m, n ≤ m → evCode orc m c a S = some r
  | 0, c, a, S, r, h, m, hm => by cases h
  | n + 1, c, a, S, r, h, m, hm => by
    obtain ⟨m, rfl⟩ : ∃ k, m = k + 1 := ⟨m - 1, by omega⟩
    have hm' : n ≤ m := by omega
    cases c with
    | skip => exact h
    | reg ops => exact h
    | dreg k ops => exact h
    | exit id => exact h
    | ret => exact h
    | seq c d =>
      simp only [evCode] at h ⊢
      cases hc : evCode orc n c a S with
      | none => rw [hc] at h; cases h
      | some q =>
        rw [hc] at h
        rw [evCode_mono n c a S q hc m hm']
        obtain ⟨x, a1, S1⟩ := q
        cases x with
        | norm => exact evCode_mono n d a1 S1 r h m hm'
        | ret => exact h
        | ex i => exact h
    | cond y c d =>
      simp only [evCode] at h ⊢
      split at h
      · exact evCode_mono n _ a S r h m hm'
      · cases h
    | block id c =>
      simp only [evCode] at h ⊢
      cases hc : evCode orc n c a S with
      | none => rw [hc] at h; cases h
      | some q => rw [hc] at h; rw [evCode_mono n c a S q hc m hm']; exact h
    | loop c =>
      simp only [evCode] at h ⊢
      cases hc : evCode orc n c a S with
      | none => rw [hc] at h; cases h
      | some q =>
        rw [hc] at h
        rw [evCode_mono n c a S q hc m hm']
        obtain ⟨x, a1, S1⟩ := q
        cases x with
        | norm => exact evCode_mono n (.loop c) a1 S1 r h m hm'
        | ret => exact h
        | ex i => exact h

def Ev (orc : Clr) (c : ACode) (a : List AV) (S : St) (Q : AEx → List AV → St → Prop) : Prop := ∃ n x a' S', evCode orc n c a S = some (x, a', S') ∧ Q x a' S'
def EvO (orc : Clr) (ops : List AOper) (a : List AV) (S : St) (Q : List AV → St → Prop) : Prop := ∃ a' S', evOps orc ops a S = some (a', S') ∧ Q a' S'

section rules
variable {orc : Clr} {a : List AV} {S : St} {Q : AEx → List AV → St → Prop}

theorem Ev.mono {c : ACode} {Q' : AEx → List AV → St → Prop} (h : Ev orc c a S Q) (k : ∀ x a' S', Q x a' S' → Q' x a' S') : Ev orc c a S Q' := by
  obtain ⟨n, x, a', S', h1, h2⟩ := h
  exact ⟨n, x, a', S', h1, k _ _ _ h2⟩
theorem Ev.skip (h : Q .norm a S) : Ev orc .skip a S Q := ⟨1, .norm, a, S, rfl, h⟩
theorem Ev.ret (h : Q .ret a S) : Ev orc .ret a S Q := ⟨1, .ret, a, S, rfl, h⟩
theorem Ev.exit {id : Nat} (h : Q (.ex id) a S) : Ev orc (.exit id) a S Q := ⟨1, .ex id, a, S, rfl, h⟩
theorem Ev.reg {ops : List AOper} (h : EvO orc ops a S (Q .norm)) : Ev orc (.reg ops) a S Q := by
  obtain ⟨a', S', h1, h2⟩ := h
  exact ⟨1, .norm, a', S', by simp only [evCode, h1], h2⟩
theorem Ev.dreg {m : Nat} {ops : List AOper} {a' : List AV} {S' : St} (h : evDraw orc m ops a S = some (a', S')) (hq : Q .norm a' S') : Ev orc (.dreg m ops) a S Q :=
  ⟨1, .norm, a', S', by simp only [evCode, h], hq⟩
theorem Ev.seq {c d : ACode} (h : Ev orc c a S fun x a' S' => match x with | .norm => Ev orc d a' S' Q | x => Q x a' S') : Ev orc (.seq c d) a S Q := by
  obtain ⟨n, x, a', S', h1, h2⟩ := h
  cases x with
  | norm =>
    obtain ⟨m, y, b, T, h3, h4⟩ := h2
    refine ⟨max n m + 1, y, b, T, ?_, h4⟩
    simp only [evCode, evCode_mono _ _ _ _ _ h1 (max n m) (by omega)]
    exact evCode_mono _ _ _ _ _ h3 _ (by omega)
  | ret => exact ⟨n + 1, .ret, a', S', by simp only [evCode, h1], h2⟩
  | ex i => exact ⟨n + 1, .ex i, a', S', by simp only [evCode, h1], h2⟩
theorem Ev.cond {y : AOpd} {c d : ACode} {b : Bool} (hb : evd a y = .bool b) (h : Ev orc (if b then c else d) a S Q) : Ev orc (.cond y c d) a S Q := by
  obtain ⟨n, x, a', S', h1, h2⟩ := h
  exact ⟨n + 1, x, a', S', by simp only [evCode, hb, h1], h2⟩
theorem Ev.block {id : Nat} {c : ACode} (h : Ev orc c a S fun x a' S' => Q (if x = .ex id then .norm else x) a' S') : Ev orc (.block id c) a S Q := by
  obtain ⟨n, x, a', S', h1, h2⟩ := h
  exact ⟨n + 1, _, a', S', by simp only [evCode, h1], h2⟩
theorem Ev.loop {c : ACode} (I : Nat → List AV → St → Prop) : ∀ (k : Nat) {a : List AV} {S : St}, I k a S →
    (∀ k a S, I k a S → Ev orc c a S fun x a' S' => match x with | .norm => ∃ j, j < k ∧ I j a' S' | x => Q x a' S') → Ev orc (.loop c) a S Q := by
  intro k
  induction k using Nat.strongRecOn with
  | ind k ih =>
    intro a S h round
    obtain ⟨n, x, a', S', h1, h2⟩ := round k a S h
    cases x with
    | norm =>
      obtain ⟨j, hj, h3⟩ := h2
      obtain ⟨m, y, b, T, h4, h5⟩ := ih j hj h3 round
      refine ⟨max n m + 1, y, b, T, ?_, h5⟩
      simp only [evCode, evCode_mono _ _ _ _ _ h1 (max n m) (by omega)]
      exact evCode_mono _ _ _ _ _ h4 _ (by omega)
    | ret => exact ⟨n + 1, .ret, a', S', by simp only [evCode, h1], h2⟩
    | ex i => exact ⟨n + 1, .ex i, a', S', by simp only [evCode, h1], h2⟩

variable {R : List AV → St → Prop}
theorem EvO.nil (h : R a S) : EvO orc [] a S R := ⟨a, S, rfl, h⟩
theorem EvO.eval {ops : List AOper} {a' : List AV} {S' : St} (h : evOps orc ops a S = some (a', S')) (hr : R a' S') : EvO orc ops a S R := ⟨a', S', h, hr⟩
theorem EvO.skip {x : AOper} {l : List AOper} (hw : wantedA x.guard a = some false) (h : EvO orc l (putA a x.dst (.tup [])) S R) : EvO orc (x :: l) a S R := by
  obtain ⟨a', S', h1, h2⟩ := h
  exact ⟨a', S', by simp only [evOps, hw, h1], h2⟩
theorem EvO.op {x : AOper} {l : List AOper} {v : AV} {S1 : St} (hw : wantedA x.guard a = some true) (hv : evOp orc x.op a S = some (v, S1)) (h : EvO orc l (putA a x.dst v) S1 R) : EvO orc (x :: l) a S R := by
  obtain ⟨a', S', h1, h2⟩ := h
  exact ⟨a', S', by simp only [evOps, hw, hv, sp_eq, putK_eq, h1], h2⟩
end rules

def Meets (P : Program) (f : FuncId) (as : List AV) (cells : List (List AV)) (Q : AV → List (List AV) → Prop) : Prop := ∃ v c', Contract P f as cells v c' ∧ Q v c'

abbrev FnPost := FuncId → List AV → List (List AV) → AV → List (List AV) → Prop
open Classical in
noncomputable def orcOf (P : Program) (R : FnPost) : Orc := fun f as cells =>
  if h : ∃ p : AV × List (List AV), Contract P f as cells p.1 p.2 ∧ R f as cells p.1 p.2 then some h.choose else none
theorem orcOf_ok (P : Program) (R : FnPost) : OrcOk P (orcOf P R) := by
  intro f as cells v c' h
  unfold orcOf at h
  split at h
  · rename_i hp
    simp only [Option.some.injEq] at h
    have := hp.choose_spec.1
    rw [h] at this
    exact this
  · cases h
theorem orcOf_meets {P : Program} {R : FnPost} {f : FuncId} {as : List AV} {cells : List (List AV)} (h : Meets P f as cells (R f as cells)) : ∃ v c', orcOf P R f as cells = some (v, c') ∧ R f as cells v c' := by
  obtain ⟨v, c', h1, h2⟩ := h
  have hp : ∃ p : AV × List (List AV), Contract P f as cells p.1 p.2 ∧ R f as cells p.1 p.2 := ⟨(v, c'), h1, h2⟩
  refine ⟨hp.choose.1, hp.choose.2, ?_, hp.choose_spec.2⟩
  unfold orcOf
  rw [dif_pos hp]

theorem Meets.of {P : Program} {orc : Clr} (ho : ClrOk P orc) {f : FuncId} {F : AFn} (hF : compFn P f = some F) {as : List AV} {cells : List (List AV)} {Q : AV → List (List AV) → Prop}
    (h : Ev orc F.code (start F as) ⟨cells, []⟩ fun x a' S' => (x = .norm ∨ x = .ret) ∧ ∃ v, evRes a' S' F.res = some v ∧ cells.length ≤ (if v.names then S'.bx else S'.bx.take cells.length).length ∧ Q v (if v.names then S'.bx else S'.bx.take cells.length)) : Meets P f as cells Q := by
  obtain ⟨n, x, a', S', h1, hx, v, h2, h3, h4⟩ := h
  refine ⟨v, _, evFn_ok ho (n := n) hF ?_, h4⟩
  unfold evFn
  rw [h1]
  rcases hx with rfl | rfl
  · simp only [h2]; rw [if_pos h3]
  · simp only [h2]; rw [if_pos h3]
theorem Meets.mono {P : Program} {f : FuncId} {as : List AV} {cells : List (List AV)} {Q Q' : AV → List (List AV) → Prop} (h : Meets P f as cells Q) (k : ∀ v c', Q v c' → Q' v c') : Meets P f as cells Q' := by
  obtain ⟨v, c', h1, h2⟩ := h
  exact ⟨v, c', h1, k _ _ h2⟩

attribute [irreducible] Ev EvO

structure Entry (P : Program) where
  f : FuncId
  F : AFn
  h : compFn P f = some F
def tabOf {P : Program} : List (Entry P) → FuncId → Option AFn
  | [], _ => none
  | e :: l, f => bif Nat.beq e.f f then some e.F else tabOf l f
theorem tabOf_ok {P : Program} : ∀ (l : List (Entry P)) (f : FuncId) (F : AFn), tabOf l f = some F → compFn P f = some F
  | [], f, F, h => by cases h
  | e :: l, f, F, h => by
    simp only [tabOf] at h
    cases he : Nat.beq e.f f with
    | true =>
      rw [he] at h
      simp only [cond_true, Option.some.injEq] at h
      have := Nat.eq_of_beq_eq_true he
      rw [← this, ← h]
      exact e.h
    | false =>
      rw [he] at h
      exact tabOf_ok l f F h

end Go.Proofs.Ytoefpcpijolofaa
end
