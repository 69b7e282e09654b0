/- True paces: the mathematics. Own work. -/
import Derived.Test.YtnihkgdkdinliaaLawKitD
namespace Go.Proofs.Ytnihkgdkdinliaa
open Go.RowKit
set_option linter.unusedVariables false
set_option linter.unusedSimpArgs false

/-- Paces that may be. -/
def InP (ws : List Wg) (ps : List Int) : Prop := ps.length = ws.length ∧ PcB ws ps ps.length

theorem gI_set {ps : List Int} {i : Nat} {x : Int} (hi : i < ps.length) (k : Nat) : gI (ps.set i x) k = if k = i then x else gI ps k := by
  unfold gI
  rw [List.getElem?_set]
  by_cases h : i = k
  · subst h; simp [hi]
  · have : ¬ k = i := fun e => h e.symm
    simp [h, this]

section
variable {r : Int} {c : Nat} {ws : List Wg} {sts ps : List Int} {cb k : Nat} {t p x : Int}
theorem InP.at_ (h : InP ws ps) (hk : k < ws.length) : gI (los ws) k ≤ gI ps k ∧ gI ps k ≤ gI (his ws) k := by
  have := h.2 k (by rw [h.1]; exact hk)
  rw [gI_los _ _ hk, gI_his _ _ hk]
  exact this
theorem InP.los (V : LV r c ws sts cb) : InP ws (los ws) := ⟨los_length ws, fun k hk => by
  rw [los_length] at hk
  have := V.val.los1 hk
  rw [gI_los _ _ hk, gI_his _ _ hk] at this
  rw [gI_los _ _ hk]
  omega⟩
theorem InP.his (V : LV r c ws sts cb) : InP ws (his ws) := ⟨his_length ws, fun k hk => by
  rw [his_length] at hk
  have := V.val.los1 hk
  rw [gI_los _ _ hk, gI_his _ _ hk] at this
  rw [gI_his _ _ hk]
  omega⟩
theorem InP.set (h : InP ws ps) (hk : k < ws.length) (h1 : (gW ws k).lo ≤ x) (h2 : x ≤ (gW ws k).hi) : InP ws (ps.set k x) :=
  ⟨by simp [h.1], fun j hj => by
    rw [gI_set (by rw [h.1]; exact hk)]
    split
    · rename_i e; subst e; exact ⟨h1, h2⟩
    · exact h.2 j (by simpa using hj)⟩

theorem InP.front (h : InP ws ps) (V : LV r c ws sts cb) (hk : k < ws.length) (ht : gI sts k ≤ t) :
    front ws sts (Go.Proofs.Ytnihkgdkdinliaa.los ws) t k ≤ front ws sts ps t k ∧ front ws sts ps t k ≤ front ws sts (Go.Proofs.Ytnihkgdkdinliaa.his ws) t k :=
  ⟨front_more k fun j hj => ⟨(h.at_ (by omega)).1, Int.le_trans (V.val.sorted hj hk) ht⟩, front_more k fun j hj => ⟨(h.at_ (by omega)).2, Int.le_trans (V.val.sorted hj hk) ht⟩⟩
theorem InP.passed (h : InP ws ps) (V : LV r c ws sts cb) (hk : k < ws.length) :
    passed ws sts (Go.Proofs.Ytnihkgdkdinliaa.his ws) k p ≤ passed ws sts ps k p ∧ passed ws sts ps k p ≤ passed ws sts (Go.Proofs.Ytnihkgdkdinliaa.los ws) k p :=
  ⟨passed_more fun j hj => by have := h.at_ (show j < ws.length by omega); have := V.val.los1 (show j < ws.length by omega); omega, passed_more fun j hj => by have := h.at_ (show j < ws.length by omega); have := V.val.los1 (show j < ws.length by omega); omega⟩
theorem gap_of (h0 : k ≠ 0) : Go.Proofs.Ytnihkgdkdinliaa.front ws sts ps t (k - 1) - (gW ws (k - 1)).len - Go.Proofs.Ytnihkgdkdinliaa.front ws sts ps t k = gapF ws sts ps (gI ps k) t k := by
  obtain ⟨i, rfl⟩ : ∃ i, k = i + 1 := ⟨k - 1, by omega⟩
  exact gap_eq fun _ _ => rfl
theorem InP.gap (h : InP ws ps) (V : LV r c ws sts cb) (hk : k < ws.length) (h0 : k ≠ 0) (ht : gI sts k ≤ t) :
    gapF ws sts (Go.Proofs.Ytnihkgdkdinliaa.los ws) (gW ws k).hi t k ≤ gapF ws sts ps (gI ps k) t k ∧ gapF ws sts ps (gI ps k) t k ≤ gapF ws sts (Go.Proofs.Ytnihkgdkdinliaa.his ws) (gW ws k).lo t k := by
  have hf := h.front V (k := k - 1) (by omega) (t := t) (Int.le_trans (V.val.sorted (by omega) hk) ht)
  have hp := h.at_ hk
  rw [gI_los _ _ hk, gI_his _ _ hk] at hp
  have e1 : gI ps k * (t - gI sts k) ≤ (gW ws k).hi * (t - gI sts k) := Int.mul_le_mul_of_nonneg_right hp.2 (by omega)
  have e2 : (gW ws k).lo * (t - gI sts k) ≤ gI ps k * (t - gI sts k) := Int.mul_le_mul_of_nonneg_right hp.1 (by omega)
  unfold gapF
  omega
theorem gap_set (hk : k < ps.length) (h0 : k ≠ 0) : gapF ws sts (ps.set k x) p t k = gapF ws sts ps p t k := by
  unfold gapF
  rw [front_congr (ps' := ps) t (k - 1) fun j hj => by rw [gI_set hk, if_neg (by omega)]]
theorem InP.sm (h : InP ws ps) (V : LV r c ws sts cb) : Sm ws sts ps (ws.length - 1) := V.val.smPs h.1 h.2
end
end Go.Proofs.Ytnihkgdkdinliaa
