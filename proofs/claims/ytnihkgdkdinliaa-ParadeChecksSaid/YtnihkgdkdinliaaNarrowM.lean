/- Paces that are known better: the mathematics; copies of schools. Own work. -/
import Derived.Test.YtnihkgdkdinliaaLawKitC
import Derived.Test.YtnihkgdkdinliaaRulesOf
namespace Go.Proofs.Ytnihkgdkdinliaa
open Go.RowKit
set_option linter.unusedVariables false
set_option linter.unusedSimpArgs false

/-- The same wings, with narrower paces. -/
structure Nrw (ws us : List Wg) : Prop where
  len : us.length = ws.length
  name : ∀ k, k < ws.length → (gW us k).name = (gW ws k).name
  long : ∀ k, k < ws.length → (gW us k).len = (gW ws k).len
  pace : ∀ k, k < ws.length → (gW ws k).lo ≤ (gW us k).lo ∧ (gW us k).lo ≤ (gW us k).hi ∧ (gW us k).hi ≤ (gW ws k).hi

theorem Nrw.self {ws : List Wg} (h : MadeWs ws) : Nrw ws ws := ⟨rfl, fun _ _ => rfl, fun _ _ => rfl, fun k hk => by have := h.at_ hk; obtain ⟨_, _, _, _, _, h5, _⟩ := this; omega⟩

theorem gW_set {us : List Wg} {i : Nat} {g : Wg} (hi : i < us.length) (k : Nat) : gW (us.set i g) k = if k = i then g else gW us k := by
  unfold gW
  rw [List.getElem?_set]
  by_cases h : i = k
  · subst h; simp [hi]
  · have : ¬ k = i := fun e => h e.symm
    simp [h, this]

theorem Nrw.set {ws us : List Wg} (h : Nrw ws us) {i : Nat} (hi : i < ws.length) {x y : Int} (h1 : (gW us i).lo ≤ x) (h2 : x ≤ y) (h3 : y ≤ (gW us i).hi) : Nrw ws (us.set i ⟨(gW us i).name, (gW us i).len, x, y⟩) := by
  have hi' : i < us.length := by have := h.len; omega
  refine ⟨by simp [h.len], fun k hk => ?_, fun k hk => ?_, fun k hk => ?_⟩
  · rw [gW_set hi']; split
    · rename_i e; subst e; exact h.name k hk
    · exact h.name k hk
  · rw [gW_set hi']; split
    · rename_i e; subst e; exact h.long k hk
    · exact h.long k hk
  · rw [gW_set hi']; split
    · rename_i e; subst e; have := h.pace k hk; simp only []; omega
    · exact h.pace k hk

theorem front_ws {ws us : List Wg} {sts ps : List Int} {t : Int} : ∀ i, (∀ k, k < i → (gW us k).len = (gW ws k).len) → front us sts ps t i = front ws sts ps t i := by
  intro i
  induction i with
  | zero => intro _; rfl
  | succ i ih => intro h; rw [front_succ, front_succ, ih fun k hk => h k (by omega), h i (by omega)]
theorem pasF_ws {ws us : List Wg} {sts ps : List Int} : ∀ i place acc, (∀ k, k < i → (gW us k).len = (gW ws k).len) → pasF us sts ps i place acc = pasF ws sts ps i place acc := by
  intro i
  induction i with
  | zero => intro place acc _; rfl
  | succ i ih => intro place acc h; show pasF us sts ps i _ _ = pasF ws sts ps i _ _; rw [ih _ _ fun k hk => h k (by omega), h i (by omega)]
theorem passed_ws {ws us : List Wg} {sts ps : List Int} {i : Nat} {place : Int} (h : ∀ k, k < i → (gW us k).len = (gW ws k).len) : passed us sts ps i place = passed ws sts ps i place := pasF_ws i place _ h

section
variable {r : Int} {c : Nat} {ws us : List Wg} {sts : List Int} {cb : Nat}
theorem Nrw.paces (h : Nrw ws us) {k : Nat} (hk : k < ws.length) : gI (los ws) k ≤ gI (los us) k ∧ gI (los us) k ≤ gI (his us) k ∧ gI (his us) k ≤ gI (his ws) k := by
  have := h.len
  rw [gI_los _ _ hk, gI_los _ _ (by omega), gI_his _ _ hk, gI_his _ _ (by omega)]
  exact h.pace k hk

/-- The starts stay valid. -/
theorem Nrw.lv (h : Nrw ws us) (V : LV r c ws sts cb) {c' : Nat} (hc : us.length ≤ c') : LV r c' us sts cb := by
  have hl := h.len
  have hm : MadeWs us := fun k hk => by
    have hk' : k < ws.length := by omega
    obtain ⟨a0, a1, a2, a3, a4, a5, a6⟩ := V.made.at_ hk'
    have e1 := h.name k hk'
    have e2 := h.long k hk'
    have e3 := h.pace k hk'
    rw [gW_lt hk] at e1 e2 e3
    refine ⟨by rw [e1, a0], ?_⟩
    omega
  have hst : StM us sts sts.length := fun j hj => by
    have hs := V.st j hj
    refine ⟨?_, hs.2⟩
    refine Int.le_trans ?_ hs.1
    cases j with
    | zero => exact Int.le_refl _
    | succ i =>
      have hi : i < ws.length := by have := V.len; omega
      show passed us sts (los us) i (gW us i).len ≤ passed ws sts (los ws) i (gW ws i).len
      rw [passed_ws fun k hk => h.long k (by omega), h.long i hi]
      exact passed_more fun k hk => ⟨(V.val.los1 (by omega)).1, (h.paces (by omega)).1⟩
  have hchk := made_chk hm V.r1 V.r2 (by have := V.n1; omega) (by have := V.n2; omega)
  exact ⟨hm, V.r1, V.r2, by have := V.n1; omega, by have := V.n2; omega, hc, by have := V.len; omega, V.capb, hst.cst hchk (by have := V.len; omega) (by have := V.n2; omega), hst⟩

theorem Nrw.front (h : Nrw ws us) (V : LV r c ws sts cb) {k : Nat} (hk : k < ws.length) {t : Int} (ht : gI sts k ≤ t) :
    front ws sts (los ws) t k ≤ front us sts (los us) t k ∧ front us sts (his us) t k ≤ front ws sts (his ws) t k := by
  rw [front_ws k fun j hj => h.long j (by omega), front_ws k fun j hj => h.long j (by omega)]
  exact ⟨front_more k fun j hj => ⟨(h.paces (by omega)).1, Int.le_trans (V.val.sorted hj hk) ht⟩, front_more k fun j hj => ⟨(h.paces (by omega)).2.2, Int.le_trans (V.val.sorted hj hk) ht⟩⟩
theorem Nrw.passed (h : Nrw ws us) (V : LV r c ws sts cb) {k : Nat} (hk : k < ws.length) {p : Int} :
    passed ws sts (his ws) k p ≤ passed us sts (his us) k p ∧ passed us sts (los us) k p ≤ passed ws sts (los ws) k p := by
  rw [passed_ws fun j hj => h.long j (by omega), passed_ws fun j hj => h.long j (by omega)]
  exact ⟨passed_more fun j hj => by have := h.paces (show j < ws.length by omega); have := V.val.los1 (show j < ws.length by omega); omega, passed_more fun j hj => by have := h.paces (show j < ws.length by omega); have := V.val.los1 (show j < ws.length by omega); omega⟩
theorem Nrw.lasts (h : Nrw ws us) (V : LV r c ws sts cb) : lasF r ws sts (his ws) ≤ lasF r us sts (his us) ∧ lasF r us sts (los us) ≤ lasF r ws sts (los ws) := by
  have hl := h.len
  have hn := V.n1
  have := h.passed V (k := ws.length - 1) (by omega) (p := r + (gW ws (ws.length - 1)).len)
  unfold lasF
  rw [hl, h.long _ (by omega)]
  omega
theorem Nrw.gap (h : Nrw ws us) (V : LV r c ws sts cb) {k : Nat} (hk : k < ws.length) (h0 : k ≠ 0) {t : Int} (ht : gI sts k ≤ t) :
    gapF ws sts (los ws) (gW ws k).hi t k ≤ gapF us sts (los us) (gW us k).hi t k ∧ gapF us sts (his us) (gW us k).lo t k ≤ gapF ws sts (his ws) (gW ws k).lo t k := by
  have hf := h.front V (k := k - 1) (by omega) (t := t) (Int.le_trans (V.val.sorted (by omega) hk) ht)
  have hp := h.pace k hk
  have e1 : (gW us k).hi * (t - gI sts k) ≤ (gW ws k).hi * (t - gI sts k) := Int.mul_le_mul_of_nonneg_right hp.2.2 (by omega)
  have e2 : (gW ws k).lo * (t - gI sts k) ≤ (gW us k).lo * (t - gI sts k) := Int.mul_le_mul_of_nonneg_right hp.1 (by omega)
  unfold gapF
  rw [h.long (k - 1) (by omega)]
  omega
end

/-- What is Sure or Never stays. -/
theorem verd_less {a b x y x' y' : Int} (h1 : x ≤ x') (h2 : x' ≤ y') (h3 : y' ≤ y) : verd a b x y = 3 ∨ verd a b x y = verd a b x' y' := by
  by_cases c1 : a ≤ x ∧ y ≤ b
  · rw [verd_sure c1.1 c1.2, verd_sure (by omega) (by omega)]; exact .inr rfl
  · by_cases c2 : b < x ∨ y < a
    · rw [verd_never c1 c2, verd_never (by omega) (by omega)]; exact .inr rfl
    · exact .inl (verd_open c1 c2)

/-- A wing's paces are stored. -/
theorem SlW.pace {w : World} {b : Nat} {us : List Wg} {cs : Array Value} {fz : Nat × Nat} (hb : w.heap[b]? = some (.cells cs 29 fz)) (hc : ∀ (j : Nat) (u : Value), (us.flatMap Wg.cells)[j]? = some u → cs[j]? = some u) {i : Nat} (hi : i < us.length) (x y : Int) :
    ∃ cs', ((w.setCell ⟨b, i * 4 + 2, none⟩ (I x)).setCell ⟨b, i * 4 + 3, none⟩ (I y)).heap[b]? = some (.cells cs' 29 fz) ∧ ∀ (j : Nat) (u : Value), ((us.set i ⟨(gW us i).name, (gW us i).len, x, y⟩).flatMap Wg.cells)[j]? = some u → cs'[j]? = some u := by
  refine ⟨(cs.setIfInBounds (i * 4 + 2) (I x)).setIfInBounds (i * 4 + 3) (I y), by simp [World.setCell, Array.getElem?_modify, hb], fun j u hu => ?_⟩
  have hlen : i * 4 + 3 < cs.size := by
    have := hc (4 * i + 3) _ (by rw [wing_at us i 3 (by omega), List.getElem?_eq_getElem hi]; rfl)
    have := (Array.getElem?_eq_some_iff.1 this).1
    omega
  have hj : j < 4 * us.length := by
    have := (List.getElem?_eq_some_iff.1 hu).1
    rw [length_wings] at this
    simpa using this
  obtain ⟨k, m, hm, rfl⟩ : ∃ k m, m < 4 ∧ j = 4 * k + m := ⟨j / 4, j % 4, by omega, by omega⟩
  have hk : k < us.length := by omega
  rw [wing_at _ _ _ hm] at hu
  have hold := hc (4 * k + m)
  rw [wing_at _ _ _ hm, List.getElem?_eq_getElem hk] at hold
  rw [List.getElem?_set] at hu
  by_cases e : i = k
  · subst e
    simp only [hi, if_true, Option.bind_some] at hu
    rw [gW_lt hi] at hu
    simp only [Option.bind_some] at hold
    match m, hm with
    | 0, _ => rw [Array.getElem?_setIfInBounds_ne (by omega), Array.getElem?_setIfInBounds_ne (by omega)]; exact hold u hu
    | 1, _ => rw [Array.getElem?_setIfInBounds_ne (by omega), Array.getElem?_setIfInBounds_ne (by omega)]; exact hold u hu
    | 2, _ =>
      rw [Array.getElem?_setIfInBounds_ne (by omega), show 4 * i + 2 = i * 4 + 2 by omega, Array.getElem?_setIfInBounds_self_of_lt (by omega)]
      exact hu
    | 3, _ =>
      rw [show 4 * i + 3 = i * 4 + 3 by omega, Array.getElem?_setIfInBounds_self_of_lt (by simp; omega)]
      exact hu
  · rw [Array.getElem?_setIfInBounds_ne (by omega), Array.getElem?_setIfInBounds_ne (by omega)]
    simp only [e, if_false] at hu
    rw [List.getElem?_eq_getElem hk] at hu
    exact hold u hu
end Go.Proofs.Ytnihkgdkdinliaa
