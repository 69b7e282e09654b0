/- Walks of small functions of the kit and of the reference. -/
import Derived.Test.YtnihkgdkdinliaaRows
import Derived.Test.YtnihkgdkdinliaaMem
namespace Go.Proofs.Ytnihkgdkdinliaa
open Go.RowKit
set_option linter.unusedVariables false

set_option maxHeartbeats 400000 in
theorem eqInts_c (A B : Option Addr) (c d : Nat) (xs ys : List Int) (T T' : TypeId) (w : World) (ha : SlI w T A xs) (hb : SlI w T' B ys) (hx : xs.length ≤ maxLen) (hy : ys.length ≤ maxLen) :
    Calls Try.prog 27 #[.slice A xs.length c, .slice B ys.length d] w fun e w' => e = .returned (.bool (decide (xs = ys))) ∧ Below w.heap.size w w' := by
  unfold maxLen at hx hy
  by_cases hl : xs.length = ys.length
  · go_enter Try.func27, Try.ntmps27
    have hn : (((xs.length : Int) != (ys.length : Int))) = false := by simp [hl]
    have H := Lib.hid hl; clear hl
    go_wp2
    go_loopw [5] (fun i wr => ∃ k : Nat, k ≤ xs.length ∧ i = .int .i64 k ∧ xs.take k = ys.take k ∧ Below w.heap.size w wr) (fun i _ => xs.length - (intOf i).toNat)
    case atStart => exact ⟨0, Nat.zero_le _, rfl, rfl, Below.refl _ _⟩
    case round =>
      obtain ⟨k, hk, rfl, ht, hbel⟩ := hrel
      by_cases hlt : k < xs.length
      · have hlt' : k < ys.length := by rw [← H.out]; exact hlt
        obtain ⟨b, o, rfl, _⟩ := ha.some_ hlt
        obtain ⟨b', o', rfl, _⟩ := hb.some_ hlt'
        have hc := SlI.cells (ha.below hbel (Nat.le_refl _)) hlt
        have hc' := SlI.cells (hb.below hbel (Nat.le_refl _)) hlt'
        have HT := Lib.hid ht; clear ht
        by_cases he : xs[k] = ys[k]
        · have hne : (xs[k] != ys[k]) = false := by simp [he]
          have HE := Lib.hid he; clear he
          go_wp2
          go_quiet (fail)
          go_wp2
          go_roundw
          case rel => exact ⟨k + 1, by omega, by go_num, by rw [List.take_succ_eq_append_getElem hlt, List.take_succ_eq_append_getElem hlt', HT.out, HE.out], below_drewN hbel _⟩
          case measure => simp [intOf]; omega
        · have hne : (xs[k] != ys[k]) = true := by simp [he]
          go_wp2
          go_quiet (fail)
          go_wp2
          go_ret
          exact ⟨ret_bool (by symm; rw [decide_eq_false_iff_not]; rintro rfl; exact he rfl), below_drewN hbel _⟩
      · go_wp2
        go_ret
        have hk' : k = xs.length := by omega
        subst hk'
        have hl := H.out
        exact ⟨ret_bool (by symm; rw [decide_eq_true_iff]; rw [List.take_of_length_le (Nat.le_refl _), List.take_of_length_le (by omega)] at ht; exact ht), hbel⟩
  · go_enter Try.func27, Try.ntmps27
    have hn : (((xs.length : Int) != (ys.length : Int))) = true := by simp; omega
    go_wp2
    go_ret
    exact ⟨ret_bool (by symm; rw [decide_eq_false_iff_not]; rintro rfl; exact hl rfl), Below.refl _ _⟩
end Go.Proofs.Ytnihkgdkdinliaa
