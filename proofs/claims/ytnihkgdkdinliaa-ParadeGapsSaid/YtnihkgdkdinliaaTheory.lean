/- Plain mathematics of fronts and seconds. Own work; imports no translation. -/
import Derived.Test.YtnihkgdkdinliaaModelB
namespace Go.Proofs.Ytnihkgdkdinliaa
open Go.RowKit
set_option linter.unusedVariables false

theorem cd_le {n p m : Int} (h1 : 1 ≤ p) : cd n p ≤ m ↔ 0 ≤ m ∧ n ≤ p * m := by
  unfold cd
  have e0 : ((max 0 n + p - 1) / p ≤ m) ↔ ((max 0 n + p - 1) / p < m + 1) := by omega
  rw [e0, Int.ediv_lt_iff_lt_mul (by omega), Int.add_mul, Int.mul_comm m p]
  constructor
  · intro h
    have hm : 0 ≤ m := by
      by_cases hm : 0 ≤ m
      · exact hm
      · exfalso
        have : p * m ≤ p * (-1) := Int.mul_le_mul_of_nonneg_left (by omega) (by omega)
        omega
    exact ⟨hm, by omega⟩
  · rintro ⟨h0, h⟩
    have : 0 ≤ p * m := Int.mul_nonneg (by omega) h0
    omega

/-- A place is passed by then just if all wings before have started, and the front is there. -/
theorem pasF_le {ws : List Wg} {sts ps : List Int} {t : Int} : ∀ i place acc, (∀ k, k ≤ i → 1 ≤ gI ps k) →
    (pasF ws sts ps i place acc ≤ t ↔ acc ≤ t ∧ (∀ k, k ≤ i → gI sts k ≤ t) ∧ place ≤ front ws sts ps t i) := by
  intro i
  induction i with
  | zero =>
    intro place acc h
    have := cd_le (n := place) (m := t - gI sts 0) (h 0 (Nat.le_refl _))
    unfold pasF front
    constructor
    · intro h'
      have := this.1 (by omega)
      exact ⟨by omega, fun k hk => by obtain rfl : k = 0 := by omega
                                      omega, this.2⟩
    · rintro ⟨a, b, c⟩
      have := this.2 ⟨by have := b 0 (Nat.le_refl _); omega, c⟩
      omega
  | succ i ih =>
    intro place acc h
    have e := cd_le (n := place) (m := t - gI sts (i + 1)) (h (i + 1) (Nat.le_refl _))
    unfold pasF front
    rw [ih _ _ fun k hk => h k (by omega)]
    constructor
    · rintro ⟨a, b, c⟩
      have := e.1 (by omega)
      refine ⟨by omega, fun k hk => ?_, by omega⟩
      by_cases hk' : k = i + 1
      · subst hk'; omega
      · exact b k (by omega)
    · rintro ⟨a, b, c⟩
      have := e.2 ⟨by have := b (i + 1) (Nat.le_refl _); omega, by omega⟩
      exact ⟨by omega, fun k hk => b k (by omega), by omega⟩

theorem passed_le {ws : List Wg} {sts ps : List Int} {t : Int} {i : Nat} {place : Int} (h : ∀ k, k ≤ i → 1 ≤ gI ps k) :
    passed ws sts ps i place ≤ t ↔ (∀ k, k ≤ i → gI sts k ≤ t) ∧ place ≤ front ws sts ps t i := by
  unfold passed
  rw [pasF_le i place _ h]
  constructor
  · rintro ⟨_, b, c⟩; exact ⟨b, c⟩
  · rintro ⟨b, c⟩; exact ⟨b i (Nat.le_refl _), b, c⟩

theorem passed_self {ws : List Wg} {sts ps : List Int} {i : Nat} {place : Int} (h : ∀ k, k ≤ i → 1 ≤ gI ps k) :
    (∀ k, k ≤ i → gI sts k ≤ passed ws sts ps i place) ∧ place ≤ front ws sts ps (passed ws sts ps i place) i :=
  (passed_le h).1 (Int.le_refl _)

theorem front_on {ws : List Wg} {sts ps : List Int} {t t' : Int} (ht : t ≤ t') : ∀ i, (∀ k, k ≤ i → 0 ≤ gI ps k) → front ws sts ps t i ≤ front ws sts ps t' i := by
  intro i
  induction i with
  | zero => intro h; unfold front; exact Int.mul_le_mul_of_nonneg_left (by omega) (h 0 (Nat.le_refl _))
  | succ i ih =>
    intro h
    have := ih fun k hk => h k (by omega)
    have : gI ps (i + 1) * (t - gI sts (i + 1)) ≤ gI ps (i + 1) * (t' - gI sts (i + 1)) := Int.mul_le_mul_of_nonneg_left (by omega) (h (i + 1) (Nat.le_refl _))
    unfold front
    omega

theorem front_more {ws : List Wg} {sts ps ps' : List Int} {t : Int} : ∀ i, (∀ k, k ≤ i → gI ps k ≤ gI ps' k ∧ gI sts k ≤ t) → front ws sts ps t i ≤ front ws sts ps' t i := by
  intro i
  induction i with
  | zero =>
    intro h
    have := h 0 (Nat.le_refl _)
    unfold front
    exact Int.mul_le_mul_of_nonneg_right this.1 (by omega)
  | succ i ih =>
    intro h
    have := ih fun k hk => h k (by omega)
    have h1 := h (i + 1) (Nat.le_refl _)
    have : gI ps (i + 1) * (t - gI sts (i + 1)) ≤ gI ps' (i + 1) * (t - gI sts (i + 1)) := Int.mul_le_mul_of_nonneg_right h1.1 (by omega)
    unfold front
    omega

/-- With greater paces a place is passed no later. -/
theorem passed_more {ws : List Wg} {sts ps ps' : List Int} {i : Nat} {place : Int} (h : ∀ k, k ≤ i → 1 ≤ gI ps k ∧ gI ps k ≤ gI ps' k) :
    passed ws sts ps' i place ≤ passed ws sts ps i place := by
  have hs := passed_self (ws := ws) (sts := sts) (place := place) fun k hk => (h k hk).1
  refine (passed_le fun k hk => by have := h k hk; omega).2 ⟨hs.1, ?_⟩
  exact Int.le_trans hs.2 (front_more i fun k hk => ⟨(h k hk).2, hs.1 k hk⟩)

/-- A farther place is not passed earlier. -/
theorem passed_far {ws : List Wg} {sts ps : List Int} {i : Nat} {a b : Int} (h : ∀ k, k ≤ i → 1 ≤ gI ps k) (hab : a ≤ b) :
    passed ws sts ps i a ≤ passed ws sts ps i b := by
  have hs := passed_self (ws := ws) (sts := sts) (place := b) h
  exact (passed_le h).2 ⟨hs.1, by omega⟩

theorem VSt.los1 {r : Int} {ws : List Wg} {sts : List Int} (h : VSt r ws sts) {k : Nat} (hk : k < ws.length) : 1 ≤ gI (los ws) k ∧ gI (los ws) k ≤ gI (his ws) k ∧ gI (his ws) k ≤ 200 := by
  rw [gI_los _ _ hk, gI_his _ _ hk]
  obtain ⟨_, a1, a2, a3, a4, a5, a6, a7⟩ := h.all k hk
  omega

theorem VSt.next {r : Int} {ws : List Wg} {sts : List Int} (h : VSt r ws sts) {k : Nat} (hk : k + 1 < ws.length) : (∀ j, j ≤ k → gI sts j ≤ gI sts (k + 1)) ∧ (gW ws k).len ≤ front ws sts (los ws) (gI sts (k + 1)) k := by
  have hl := h.least (k + 1) (by have := h.len; omega)
  unfold leastOf at hl
  exact (passed_le fun j hj => (h.los1 (by omega)).1).1 hl

theorem VSt.sorted {r : Int} {ws : List Wg} {sts : List Int} (h : VSt r ws sts) {j k : Nat} (hjk : j ≤ k) (hk : k < ws.length) : gI sts j ≤ gI sts k := by
  cases k with
  | zero => obtain rfl : j = 0 := by omega
            exact Int.le_refl _
  | succ k =>
    by_cases hj : j = k + 1
    · subst hj; exact Int.le_refl _
    · exact (h.next hk).1 j (by omega)

/-- From its start on a wing is behind the gate, and the tail before it too. -/
theorem VSt.tail0 {r : Int} {ws : List Wg} {sts : List Int} (h : VSt r ws sts) {ps : List Int} {t : Int} {k : Nat} (hk : k + 1 < ws.length) (ht : gI sts (k + 1) ≤ t) (hp : ∀ j, j ≤ k → gI (los ws) j ≤ gI ps j) : 0 ≤ front ws sts ps t k - (gW ws k).len := by
  have h1 := (h.next hk).2
  have h2 := front_on (ws := ws) (sts := sts) (ps := los ws) ht k fun j hj => by have := (h.los1 (k := j) (by omega)).1; omega
  have h3 := front_more (ws := ws) (sts := sts) (ps := los ws) (ps' := ps) (t := t) k fun j hj => ⟨hp j hj, Int.le_trans (h.sorted (by omega : j ≤ k + 1) hk) ht⟩
  omega

theorem VSt.front0 {r : Int} {ws : List Wg} {sts : List Int} (h : VSt r ws sts) {ps : List Int} {t : Int} {k : Nat} (hk : k < ws.length) (ht : gI sts k ≤ t) (hp : ∀ j, j ≤ k → gI (los ws) j ≤ gI ps j) : 0 ≤ front ws sts ps t k := by
  have hk1 := hp k (Nat.le_refl _)
  have hk2 := (h.los1 hk).1
  have : 0 ≤ gI ps k * (t - gI sts k) := Int.mul_nonneg (by omega) (by omega)
  cases k with
  | zero => unfold front; exact this
  | succ k =>
    have := h.tail0 hk ht (ps := ps) fun j hj => hp j (by omega)
    unfold front
    omega

/-- Before the second in which a place is passed, the front is not there. -/
theorem VSt.before {r : Int} {ws : List Wg} {sts : List Int} (h : VSt r ws sts) {ps : List Int} {place t : Int} {k : Nat} (hk : k < ws.length) (hp : ∀ j, j ≤ k → 1 ≤ gI ps j) (ht : gI sts k ≤ t) (hlt : t < passed ws sts ps k place) : front ws sts ps t k < place := by
  by_cases hc : place ≤ front ws sts ps t k
  · have := (passed_le (ws := ws) (sts := sts) (place := place) hp).2 ⟨fun j hj => Int.le_trans (h.sorted hj hk) ht, hc⟩
    omega
  · omega
end Go.Proofs.Ytnihkgdkdinliaa
