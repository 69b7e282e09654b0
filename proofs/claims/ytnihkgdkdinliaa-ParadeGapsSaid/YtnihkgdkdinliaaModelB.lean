/- Valid schools and starts, on plain lists. Own work; imports no translation. -/
import Derived.Test.YtnihkgdkdinliaaModel
namespace Go.Proofs.Ytnihkgdkdinliaa
open Go.RowKit
set_option linter.unusedVariables false
set_option linter.unusedSimpArgs false

/-- A wing's numbers are in their bounds. -/
def ValW (g : Wg) : Prop := nmB g.name = true ∧ 1 ≤ g.len ∧ g.len ≤ 5000 ∧ 1 ≤ g.lo ∧ g.lo ≤ 200 ∧ 1 ≤ g.hi ∧ g.hi ≤ 200 ∧ g.lo ≤ g.hi
structure Val (r : Int) (ws : List Wg) : Prop where
  r1 : 1 ≤ r
  r2 : r ≤ 100000
  n1 : 1 ≤ ws.length
  n2 : ws.length ≤ 8
  all : ∀ k, k < ws.length → ValW (gW ws k)

theorem chk1_val {g : Wg} {bs : List Wg} (h : chk1 g bs = 0) : ValW g ∧ bs.any (fun o => o.name.toList == g.name.toList) = false := by
  unfold chk1 at h
  split at h
  · omega
  · rename_i h1
    split at h
    · omega
    · rename_i h2
      split at h
      · omega
      · rename_i h3
        split at h
        · omega
        · rename_i h4
          split at h
          · omega
          · rename_i h5
            exact ⟨⟨by simpa using h1, by omega, by omega, by omega, by omega, by omega, by omega, by omega⟩, by simpa using h2⟩

theorem chkW_val : ∀ (rest before : List Wg), chkW before rest = 0 → ∀ g ∈ rest, ValW g
  | [], _, _, _, hg => by cases hg
  | a :: l, before, h, g, hg => by
    unfold chkW at h
    split at h
    · rename_i h0; exact absurd h h0
    · rename_i h0
      rcases List.mem_cons.1 hg with rfl | hg
      · exact (chk1_val (by simpa using h0)).1
      · exact chkW_val l _ h g hg

theorem chk_val {r : Int} {ws : List Wg} (h : chk r ws = 0) : Val r ws := by
  unfold chk at h
  split at h
  · omega
  · rename_i h1
    split at h
    · omega
    · rename_i h2
      split at h
      · omega
      · rename_i h3
        exact ⟨by omega, by omega, by omega, by omega, fun k hk => chkW_val ws [] h _ (by rw [gW_lt hk]; exact List.getElem_mem hk)⟩

theorem chkW_of {ws : List Wg} (hv : ∀ k, k < ws.length → ValW (gW ws k)) (hd : ∀ j k, j < k → k < ws.length → ((gW ws j).name.toList == (gW ws k).name.toList) = false) :
    ∀ r k, k + r = ws.length → chkW (ws.take k) (ws.drop k) = 0 := by
  intro r
  induction r with
  | zero => intro k hk; rw [List.drop_of_length_le (by omega)]; rfl
  | succ r ih =>
    intro k hk
    have hlt : k < ws.length := by omega
    have hany : (ws.take k).any (fun o => o.name.toList == (gW ws k).name.toList) = false := by
      apply Bool.eq_false_iff.2
      intro ha
      obtain ⟨o, ho, he⟩ := List.any_eq_true.1 ha
      obtain ⟨j, hj, hje⟩ := List.getElem_of_mem ho
      have hj' : j < k := by simp at hj; omega
      have := hd j k hj' hlt
      rw [gW_lt (by omega : j < ws.length)] at this
      rw [List.getElem_take] at hje
      rw [hje] at this
      rw [this] at he
      cases he
    obtain ⟨v1, v2, v3, v4, v5, v6, v7, v8⟩ := hv k hlt
    have h0 : chk1 (gW ws k) (ws.take k) = 0 := by
      rw [chk1_rest v1 hany, if_neg (by omega), if_neg (by omega), if_neg (by omega)]
    have hstep : chkW (ws.take k) (ws.drop k) = chkW (ws.take (k + 1)) (ws.drop (k + 1)) := by
      rw [List.drop_eq_getElem_cons hlt, chkW, ← gW_lt hlt, if_neg (by simpa using h0), List.take_succ_eq_append_getElem hlt, gW_lt hlt]
    rw [hstep]
    exact ih (k + 1) (by omega)

theorem chk_of {r : Int} {ws : List Wg} (h : Val r ws) (hd : ∀ j k, j < k → k < ws.length → ((gW ws j).name.toList == (gW ws k).name.toList) = false) : chk r ws = 0 := by
  have := h.r1; have := h.r2; have := h.n1; have := h.n2
  unfold chk
  rw [if_neg (by omega), if_neg (by omega), if_neg (by omega)]
  exact chkW_of h.all hd ws.length 0 (by omega)

/-- The starts so far are in their bounds. -/
def StB (sts : List Int) (n : Nat) : Prop := ∀ k, k < n → 0 ≤ gI sts k ∧ gI sts k ≤ 20000

theorem Val.smLo {r : Int} {ws : List Wg} (h : Val r ws) {sts : List Int} {i : Nat} (hi : i < ws.length) (hl : i < sts.length) (hb : StB sts (i + 1)) : Sm ws sts (los ws) i := by
  have := h.n2
  refine ⟨hi, hl, by rw [los_length]; exact hi, by omega, fun k hk => ?_⟩
  obtain ⟨_, a1, a2, a3, a4, _⟩ := h.all k (by omega)
  have := hb k (by omega)
  rw [gI_los _ _ (by omega)]
  omega
theorem Val.smHi {r : Int} {ws : List Wg} (h : Val r ws) {sts : List Int} {i : Nat} (hi : i < ws.length) (hl : i < sts.length) (hb : StB sts (i + 1)) : Sm ws sts (his ws) i := by
  have := h.n2
  refine ⟨hi, hl, by rw [his_length]; exact hi, by omega, fun k hk => ?_⟩
  obtain ⟨_, a1, a2, a3, a4, a5, a6, a7⟩ := h.all k (by omega)
  have := hb k (by omega)
  rw [gI_his _ _ (by omega)]
  omega

theorem pasF_sts (ws : List Wg) (sts sts' ps : List Int) : ∀ i place acc, (∀ k, k ≤ i → gI sts k = gI sts' k) → pasF ws sts ps i place acc = pasF ws sts' ps i place acc := by
  intro i
  induction i with
  | zero => intro place acc h; simp only [pasF, h 0 (Nat.le_refl _)]
  | succ i ih =>
    intro place acc h
    simp only [pasF, h (i + 1) (Nat.le_refl _)]
    exact ih _ _ fun k hk => h k (by omega)
theorem passed_sts {ws : List Wg} {sts sts' : List Int} (ps : List Int) {i : Nat} (place : Int) (h : ∀ k, k ≤ i → gI sts k = gI sts' k) : passed ws sts ps i place = passed ws sts' ps i place := by
  unfold passed; rw [h i (Nat.le_refl _)]; exact pasF_sts _ _ _ _ _ _ _ h
theorem gI_take {sts : List Int} {n k : Nat} (h : k < n) : gI (sts.take n) k = gI sts k := by simp [gI, List.getElem?_take, h]
theorem leastOf_take (ws : List Wg) (sts : List Int) (n : Nat) : leastOf ws (sts.take n) n = leastOf ws sts n := by
  cases n with
  | zero => rfl
  | succ i => exact passed_sts _ _ fun k hk => gI_take (by omega)

theorem cd_small {n p : Int} (h1 : 1 ≤ p) (h0 : 0 ≤ n) : 0 ≤ cd n p ∧ cd n p ≤ n := by
  unfold cd
  rw [show max 0 n = n by omega]
  refine ⟨Int.ediv_nonneg (by omega) (by omega), ?_⟩
  rcases (show n = 0 ∨ 1 ≤ n by omega) with rfl | hn
  · have : (0 + p - 1) / p = 0 := Int.ediv_eq_zero_of_lt (by omega) (by omega)
    omega
  · apply Int.ediv_le_of_le_mul (by omega)
    have e : n * p - n - p + 1 = (n - 1) * (p - 1) := by rw [Int.sub_mul, Int.mul_sub]; omega
    have : 0 ≤ (n - 1) * (p - 1) := Int.mul_nonneg (by omega) (by omega)
    omega

/-- How late a place may be passed, and not earlier than the start. -/
theorem pasF_bd (ws : List Wg) (sts ps : List Int) (S D : Int) : ∀ i place acc, (∀ k, k ≤ i → 1 ≤ gI ps k ∧ gI sts k ≤ S ∧ 0 ≤ (gW ws k).len ∧ (gW ws k).len ≤ D) → 0 ≤ place → 0 ≤ D →
    acc ≤ pasF ws sts ps i place acc ∧ pasF ws sts ps i place acc ≤ max acc (S + place + D * (i : Int)) := by
  intro i
  induction i with
  | zero =>
    intro place acc h hp hD
    obtain ⟨a1, a2, _⟩ := h 0 (Nat.le_refl _)
    have := cd_small a1 hp
    unfold pasF
    omega
  | succ i ih =>
    intro place acc h hp hD
    obtain ⟨a1, a2, _⟩ := h (i + 1) (Nat.le_refl _)
    obtain ⟨b1, b2, b3, b4⟩ := h i (by omega)
    have := cd_small a1 hp
    have := ih (place + (gW ws i).len) (max acc (gI sts (i + 1) + cd place (gI ps (i + 1)))) (fun k hk => h k (by omega)) (by omega) hD
    unfold pasF
    have e : D * ((i + 1 : Nat) : Int) = D * (i : Int) + D := by rw [Int.natCast_add, Int.mul_add]; simp
    have : 0 ≤ D * (i : Int) := Int.mul_nonneg hD (by omega)
    omega

theorem passed_bd {ws : List Wg} {sts ps : List Int} {S D place : Int} {i : Nat} (h : ∀ k, k ≤ i → 1 ≤ gI ps k ∧ gI sts k ≤ S ∧ 0 ≤ (gW ws k).len ∧ (gW ws k).len ≤ D) (hp : 0 ≤ place) (hD : 0 ≤ D) :
    gI sts i ≤ passed ws sts ps i place ∧ passed ws sts ps i place ≤ S + place + D * (i : Int) := by
  have := pasF_bd ws sts ps S D i place (gI sts i) h hp hD
  have h2 := (h i (Nat.le_refl _)).2.1
  have : 0 ≤ D * (i : Int) := Int.mul_nonneg hD (by omega)
  unfold passed
  omega

/-- The error of starts. -/
def cstF (ws : List Wg) (sts : List Int) : Nat → Nat → Int
  | 0, _ => 0
  | n + 1, k => if ¬ (0 ≤ gI sts k ∧ gI sts k ≤ 20000) then 2 else if gI sts k < leastOf ws sts k then 12 else cstF ws sts n (k + 1)
def cst (r : Int) (ws : List Wg) (sts : List Int) : Int :=
  if chk r ws ≠ 0 then chk r ws else if sts.length ≠ ws.length then 1 else cstF ws sts sts.length 0

/-- Valid starts of a valid school. -/
structure VSt (r : Int) (ws : List Wg) (sts : List Int) : Prop extends Val r ws where
  len : sts.length = ws.length
  bd : StB sts sts.length
  least : ∀ k, k < sts.length → leastOf ws sts k ≤ gI sts k

theorem cstF_ok {ws : List Wg} {sts : List Int} : ∀ n k, cstF ws sts n k = 0 → ∀ j, k ≤ j → j < k + n → 0 ≤ gI sts j ∧ gI sts j ≤ 20000 ∧ leastOf ws sts j ≤ gI sts j := by
  intro n
  induction n with
  | zero => intro k _ j h1 h2; omega
  | succ n ih =>
    intro k h j h1 h2
    unfold cstF at h
    split at h
    · omega
    · split at h
      · omega
      · by_cases hjk : j = k
        · subst hjk; omega
        · exact ih (k + 1) h j (by omega) (by omega)
theorem cst_val {r : Int} {ws : List Wg} {sts : List Int} (h : cst r ws sts = 0) : VSt r ws sts := by
  unfold cst at h
  split at h
  · rename_i h0; exact absurd h h0
  · rename_i h0
    split at h
    · omega
    · rename_i h1
      have := cstF_ok _ _ h
      exact ⟨chk_val (by simpa using h0), by omega, fun k hk => ⟨(this k (by omega) (by omega)).1, (this k (by omega) (by omega)).2.1⟩, fun k hk => (this k (by omega) (by omega)).2.2⟩

theorem cstF_of {ws : List Wg} {sts : List Int} : ∀ n k, (∀ j, k ≤ j → j < k + n → 0 ≤ gI sts j ∧ gI sts j ≤ 20000 ∧ leastOf ws sts j ≤ gI sts j) → cstF ws sts n k = 0 := by
  intro n
  induction n with
  | zero => intro k _; rfl
  | succ n ih =>
    intro k h
    have := h k (by omega) (by omega)
    unfold cstF
    rw [if_neg (by omega), if_neg (by omega)]
    exact ih (k + 1) fun j h1 h2 => h j (by omega) (by omega)
theorem cst_of {r : Int} {ws : List Wg} {sts : List Int} (hc : chk r ws = 0) (hl : sts.length = ws.length) (h : ∀ j, j < sts.length → 0 ≤ gI sts j ∧ gI sts j ≤ 20000 ∧ leastOf ws sts j ≤ gI sts j) : cst r ws sts = 0 := by
  unfold cst
  rw [if_neg (by simpa using hc), if_neg (by omega)]
  exact cstF_of _ _ fun j _ h2 => h j (by omega)
end Go.Proofs.Ytnihkgdkdinliaa
