/- Widest gaps while a wing is watched: the mathematics. Own work. -/
import Derived.Test.YtnihkgdkdinliaaLawKitB
namespace Go.Proofs.Ytnihkgdkdinliaa
open Go.RowKit
set_option linter.unusedVariables false
set_option linter.unusedSimpArgs false

theorem lin_conc (p s t : Int) : p * (t - s) + p * (t + 2 - s) = 2 * (p * (t + 1 - s)) := by
  have e1 : p * (t + 2 - s) = p * (t - s) + p * 2 := by rw [← Int.mul_add]; congr 1; omega
  have e2 : p * (t + 1 - s) = p * (t - s) + p := by
    have : p * (t + 1 - s) = p * ((t - s) + 1) := by congr 1; omega
    rw [this, Int.mul_add, Int.mul_one]
  omega
/-- A front slows down, if at all. -/
theorem front_conc (ws : List Wg) (sts ps : List Int) (t : Int) : ∀ k, front ws sts ps t k + front ws sts ps (t + 2) k ≤ 2 * front ws sts ps (t + 1) k := by
  intro k
  induction k with
  | zero =>
    have := lin_conc (gI ps 0) (gI sts 0) t
    simp only [front]
    omega
  | succ i ih =>
    have := lin_conc (gI ps (i + 1)) (gI sts (i + 1)) t
    rw [front_succ, front_succ, front_succ]
    omega
/-- The tail before a wing, less where its pace would bring it. -/
def ahF (ws : List Wg) (sts ps : List Int) (p t : Int) (k : Nat) : Int := front ws sts ps t (k - 1) - (gW ws (k - 1)).len - p * (t - gI sts k)
theorem gapF_ah (ws : List Wg) (sts ps : List Int) (p t : Int) (k : Nat) : gapF ws sts ps p t k = max 0 (ahF ws sts ps p t k) := rfl
theorem ah_conc (ws : List Wg) (sts ps : List Int) (p t : Int) (k : Nat) : ahF ws sts ps p t k + ahF ws sts ps p (t + 2) k ≤ 2 * ahF ws sts ps p (t + 1) k := by
  have h1 := front_conc ws sts ps t (k - 1)
  have h2 := lin_conc p (gI sts k) t
  unfold ahF
  omega
/-- What has ceased to grow does not grow again. -/
theorem ah_after {ws : List Wg} {sts ps : List Int} {p t : Int} {k : Nat} (h : ahF ws sts ps p (t + 1) k ≤ ahF ws sts ps p t k) : ∀ j : Nat, ahF ws sts ps p (t + j + 1) k ≤ ahF ws sts ps p (t + j) k := by
  intro j
  induction j with
  | zero => simpa using h
  | succ j ih =>
    have hc := ah_conc ws sts ps p (t + j) k
    have e1 : t + ((j + 1 : Nat) : Int) = t + j + 1 := by omega
    have e2 : t + (j : Int) + 1 + 1 = t + j + 2 := by omega
    rw [e1, e2]
    omega
/-- From a second s on, n steps: how many of them the gap grows. -/
def pkN (f : Int → Int) (s : Int) : Nat → Nat
  | 0 => 0
  | n + 1 => if f (s + 1) ≤ f s then 0 else 1 + pkN f (s + 1) n
/-- k is that number. -/
def IsPk (f : Int → Int) (s : Int) (n k : Nat) : Prop := k ≤ n ∧ (∀ t : Nat, t < k → f (s + t) < f (s + t + 1)) ∧ (∀ t : Nat, k ≤ t → t < n → f (s + t + 1) ≤ f (s + t))
theorem IsPk.eq {f : Int → Int} : ∀ {n : Nat} {s : Int} {k : Nat}, IsPk f s n k → k = pkN f s n := by
  intro n
  induction n with
  | zero => intro s k h; have := h.1; unfold pkN; omega
  | succ n ih =>
    intro s k h
    obtain ⟨h1, h2, h3⟩ := h
    unfold pkN
    cases k with
    | zero =>
      have := h3 0 (Nat.le_refl _) (by omega)
      simp at this
      rw [if_pos this]
    | succ k =>
      have := h2 0 (by omega)
      simp at this
      rw [if_neg (by omega)]
      have := ih (s := s + 1) (k := k) ⟨by omega, fun t ht => by
        have := h2 (t + 1) (by omega)
        rw [show s + ((t + 1 : Nat) : Int) = s + 1 + t by omega] at this
        exact this, fun t h4 h5 => by
        have := h3 (t + 1) (by omega) (by omega)
        rw [show s + ((t + 1 : Nat) : Int) = s + 1 + t by omega] at this
        exact this⟩
      omega
theorem IsPk.congr {f g : Int → Int} {s : Int} {n k : Nat} (h : IsPk f s n k) (he : ∀ t : Nat, t < n → (f (s + t + 1) ≤ f (s + t) ↔ g (s + t + 1) ≤ g (s + t))) : IsPk g s n k :=
  ⟨h.1, fun t ht => by have h1 := h.2.1 t ht; have h2 := he t (by have := h.1; omega); omega, fun t h1 h2 => (he t h2).1 (h.2.2 t h1 h2)⟩
/-- Where it begins at 0 or above, the gap grows as the distance does. -/
theorem pk_clamp {ws : List Wg} {sts ps : List Int} {p s : Int} {k : Nat} (h0 : 0 ≤ ahF ws sts ps p s k) (t : Nat) :
    (gapF ws sts ps p (s + t + 1) k ≤ gapF ws sts ps p (s + t) k ↔ ahF ws sts ps p (s + t + 1) k ≤ ahF ws sts ps p (s + t) k) ∨ (ahF ws sts ps p (s + t + 1) k ≤ ahF ws sts ps p (s + t) k) := by
  by_cases h : ahF ws sts ps p (s + t + 1) k ≤ ahF ws sts ps p (s + t) k
  · exact .inr h
  · left
    -- it has grown in all steps before: so it is at least what it was at the beginning
    have hg : ∀ j : Nat, j ≤ t → ahF ws sts ps p s k ≤ ahF ws sts ps p (s + j) k := by
      intro j
      induction j with
      | zero => intro _; simp
      | succ j ih =>
        intro hj
        have h1 := ih (by omega)
        have h2 : ¬ ahF ws sts ps p (s + j + 1) k ≤ ahF ws sts ps p (s + j) k := fun h' => by
          have := ah_after h' (t - j)
          rw [show s + (j : Int) + ((t - j : Nat) : Int) = s + t by omega] at this
          exact h this
        rw [show s + ((j + 1 : Nat) : Int) = s + j + 1 by omega]
        omega
    have := hg t (Nat.le_refl _)
    rw [gapF_ah, gapF_ah]
    omega
theorem pk_iff {ws : List Wg} {sts ps : List Int} {p s : Int} {k : Nat} (h0 : 0 ≤ ahF ws sts ps p s k) (t : Nat) :
    gapF ws sts ps p (s + t + 1) k ≤ gapF ws sts ps p (s + t) k ↔ ahF ws sts ps p (s + t + 1) k ≤ ahF ws sts ps p (s + t) k := by
  rcases pk_clamp h0 t with h | h
  · exact h
  · refine ⟨fun _ => h, fun _ => ?_⟩
    rw [gapF_ah, gapF_ah]
    omega
end Go.Proofs.Ytnihkgdkdinliaa
