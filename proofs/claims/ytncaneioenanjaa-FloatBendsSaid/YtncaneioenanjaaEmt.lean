/- Bends: what is passed is what some radius turns in. Own work. -/
import Derived.Test.YtncaneioenanjaaEbn
namespace Go.Proofs.Ytncaneioenanjaa
set_option linter.unusedVariables false

theorem sq_le {x y : Int} (h0 : 0 ≤ x) (h : x ≤ y) : x * x ≤ y * y := Int.mul_le_mul h h h0 (by omega)
theorem sq_lt {x y : Int} (h0 : 0 ≤ x) (h : x < y) : x * x < y * y := by
  have h1 := Int.mul_le_mul_of_nonneg_left (Int.le_of_lt h) h0
  have h2 := Int.mul_lt_mul_of_pos_right h (show 0 < y by omega)
  omega
theorem wider_spec (wid turn a : Int) : 0 ≤ wider wid turn a ∧ 2 * a ≤ 2 * (turn + wider wid turn a) - wid ∧ ∀ r, turn ≤ r → 2 * a ≤ 2 * r - wid → turn + wider wid turn a ≤ r := by
  unfold wider
  split
  · exact ⟨by omega, by omega, fun r h1 h2 => by omega⟩
  · exact ⟨by omega, by omega, fun r h1 h2 => by omega⟩
theorem bend_of (len wid rear turn a b r : Int) (hw : 1 ≤ wid) (ht : 0 ≤ turn) (h : turnsB len wid rear turn a b r = true) : bendB len wid rear turn a b = true := by
  simp only [turnsB, Bool.and_eq_true, decide_eq_true_eq] at h
  obtain ⟨h1, h2, h3⟩ := h
  obtain ⟨w1, w2, w3⟩ := wider_spec wid turn a
  have h4 := w3 r h1 h2
  simp only [bendB, decide_eq_true_eq]
  have := sq_le (x := 2 * (turn + wider wid turn a) + wid) (y := 2 * r + wid) (by omega) (by omega)
  omega
theorem bend_some (len wid rear turn a b : Int) (hw : 1 ≤ wid) (ht : 0 ≤ turn) (hb : 0 ≤ b) (h : bendB len wid rear turn a b = true) : ∃ r, turn ≤ r ∧ r ≤ b ∧ turnsB len wid rear turn a b r = true := by
  simp only [bendB, decide_eq_true_eq] at h
  obtain ⟨w1, w2, w3⟩ := wider_spec wid turn a
  refine ⟨turn + wider wid turn a, by omega, ?_, ?_⟩
  · by_cases hle : turn + wider wid turn a ≤ b
    · exact hle
    · exfalso
      have h1 := sq_lt (x := 2 * b) (y := 2 * (turn + wider wid turn a) + wid) (by omega) (by omega)
      have h2 : 0 ≤ far2 len rear * far2 len rear := by
        by_cases hf : 0 ≤ far2 len rear
        · exact Int.mul_nonneg hf hf
        · exact Int.mul_nonneg_of_nonpos_of_nonpos (by omega) (by omega)
      have h3 : 2 * b * (2 * b) = 4 * b * b := by rw [show (4 : Int) * b * b = 2 * 2 * b * b by rfl]; simp only [Int.mul_left_comm, Int.mul_comm]
      omega
  · simp only [turnsB, Bool.and_eq_true, decide_eq_true_eq]
    exact ⟨by omega, w2, h⟩
theorem bend_wide (len wid rear turn a b a2 b2 : Int) (hw : 1 ≤ wid) (ht : 0 ≤ turn) (h1 : a2 ≤ a) (h0 : 0 ≤ b) (h2 : b ≤ b2) (h : bendB len wid rear turn a b = true) : bendB len wid rear turn a2 b2 = true := by
  simp only [bendB, decide_eq_true_eq] at h ⊢
  obtain ⟨w1, w2, w3⟩ := wider_spec wid turn a
  obtain ⟨v1, v2, v3⟩ := wider_spec wid turn a2
  have h4 := v3 (turn + wider wid turn a) (by omega) (by omega)
  have h5 := sq_le (x := 2 * (turn + wider wid turn a2) + wid) (y := 2 * (turn + wider wid turn a) + wid) (by omega) (by omega)
  have h6 : 4 * b * b ≤ 4 * b2 * b2 := Int.mul_le_mul (by omega) h2 h0 (by omega)
  omega
end Go.Proofs.Ytncaneioenanjaa
