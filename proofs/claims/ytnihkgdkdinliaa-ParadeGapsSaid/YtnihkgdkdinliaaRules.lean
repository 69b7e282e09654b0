/- The rules: which are valid, and the verdict. Own work; imports no translation. -/
import Derived.Test.YtnihkgdkdinliaaMoment
namespace Go.Proofs.Ytnihkgdkdinliaa
open Go.RowKit
set_option linter.unusedVariables false
set_option linter.unusedSimpArgs false

def rulE (a b g : Int) : Int := if ¬ ((0 ≤ a ∧ a ≤ 100000) ∧ (0 ≤ b ∧ b ≤ 100000) ∧ (0 ≤ g ∧ g ≤ 20000)) then 2 else if b < a then 9 else 0
theorem rulE_no {a b g : Int} (h : ¬ ((0 ≤ a ∧ a ≤ 100000) ∧ (0 ≤ b ∧ b ≤ 100000) ∧ (0 ≤ g ∧ g ≤ 20000))) : rulE a b g = 2 := by unfold rulE; rw [if_pos h]
theorem rulE_order {a b g : Int} (h1 : 0 ≤ a ∧ a ≤ 100000) (h2 : 0 ≤ b ∧ b ≤ 100000) (h3 : 0 ≤ g ∧ g ≤ 20000) (h : b < a) : rulE a b g = 9 := by unfold rulE; rw [if_neg (fun h' => h' ⟨h1, h2, h3⟩), if_pos h]
theorem rulE_ok {a b g : Int} (h1 : 0 ≤ a ∧ a ≤ 100000) (h2 : 0 ≤ b ∧ b ≤ 100000) (h3 : 0 ≤ g ∧ g ≤ 20000) (h : ¬ b < a) : rulE a b g = 0 := by unfold rulE; rw [if_neg (fun h' => h' ⟨h1, h2, h3⟩), if_neg h]
theorem rulE_val {a b g : Int} (h : rulE a b g = 0) : (0 ≤ a ∧ a ≤ 100000) ∧ (0 ≤ b ∧ b ≤ 100000) ∧ (0 ≤ g ∧ g ≤ 20000) ∧ a ≤ b := by
  unfold rulE at h
  split at h
  · omega
  · split at h
    · omega
    · omega

/-- The verdict on a parade that lasts from x to y. -/
def verd (a b x y : Int) : Int := if a ≤ x ∧ y ≤ b then 1 else if b < x ∨ y < a then 2 else 3
theorem verd_sure {a b x y : Int} (h : a ≤ x) (h2 : y ≤ b) : verd a b x y = 1 := by unfold verd; rw [if_pos ⟨h, h2⟩]
theorem verd_never {a b x y : Int} (h : ¬ (a ≤ x ∧ y ≤ b)) (h2 : b < x ∨ y < a) : verd a b x y = 2 := by unfold verd; rw [if_neg h, if_pos h2]
theorem verd_open {a b x y : Int} (h : ¬ (a ≤ x ∧ y ≤ b)) (h2 : ¬ (b < x ∨ y < a)) : verd a b x y = 3 := by unfold verd; rw [if_neg h, if_neg h2]

set_option maxHeartbeats 1000000 in
theorem checkRules_c (a b g : Int) (w : World) :
    Calls Try.prog 81 #[.agg #[I a, I b, I g]] w fun e w' => e = .returned (I (rulE a b g)) ∧ Below w.heap.size w w' := by
  have hW0 : Below w.heap.size w (w.alloc (.cells #[I a, I b, I g] 54)) := (Below.refl _ _).alloc (Nat.le_refl _) _
  have hb0 := Bx.new w 54 #[I a, I b, I g]
  have hcb := hb0.cell
  go_enter Try.func81, Try.ntmps81
  by_cases a1 : 0 ≤ a ∧ a ≤ 100000
  · have b1 := inB_yes a1
    by_cases a2 : 0 ≤ b ∧ b ≤ 100000
    · have b2 := inB_yes a2
      by_cases a3 : 0 ≤ g ∧ g ≤ 20000
      · have b3 := inB_yes a3
        by_cases a4 : b < a
        · have b4 : decide (b < a) = true := decide_eq_true a4
          go_wp2_with (go_at_call 66; refine (within_c _ _ _ _).mono ?_; rintro e w2 ⟨rfl, rfl⟩)
          go_ret
          exact ⟨ret_int (rulE_order a1 a2 a3 a4).symm, hW0⟩
        · have b4 : decide (b < a) = false := decide_eq_false a4
          go_wp2_with (go_at_call 66; refine (within_c _ _ _ _).mono ?_; rintro e w2 ⟨rfl, rfl⟩)
          go_ret
          exact ⟨ret_int (rulE_ok a1 a2 a3 (by omega)).symm, hW0⟩
      · have b3 := inB_no a3
        have A3 := Lib.hid a3
        clear a3
        go_wp2_with (go_at_call 66; refine (within_c _ _ _ _).mono ?_; rintro e w2 ⟨rfl, rfl⟩)
        go_ret
        exact ⟨ret_int (rulE_no fun h => A3.out h.2.2).symm, hW0⟩
    · have b2 := inB_no a2
      have A2 := Lib.hid a2
      clear a2
      go_wp2_with (go_at_call 66; refine (within_c _ _ _ _).mono ?_; rintro e w2 ⟨rfl, rfl⟩)
      go_ret
      exact ⟨ret_int (rulE_no fun h => A2.out h.2.1).symm, hW0⟩
  · have b1 := inB_no a1
    have A1 := Lib.hid a1
    clear a1
    go_wp2_with (go_at_call 66; refine (within_c _ _ _ _).mono ?_; rintro e w2 ⟨rfl, rfl⟩)
    go_ret
    exact ⟨ret_int (rulE_no fun h => A1.out h.1).symm, hW0⟩

set_option maxHeartbeats 1000000 in
theorem checkRulesR_c (a b g : Int) (w : World) :
    Calls Try.prog 78 #[.agg #[I a, I b, I g]] w fun e w' => e = .returned (I (rulE a b g)) ∧ Below w.heap.size w w' := by
  have hW0 : Below w.heap.size w (w.alloc (.cells #[I a, I b, I g] 54)) := (Below.refl _ _).alloc (Nat.le_refl _) _
  have hb0 := Bx.new w 54 #[I a, I b, I g]
  have hcb := hb0.cell
  go_enter Try.func78, Try.ntmps78
  by_cases a1 : 0 ≤ a ∧ a ≤ 100000
  · have b1 := inB_yes a1
    by_cases a2 : 0 ≤ b ∧ b ≤ 100000
    · have b2 := inB_yes a2
      by_cases a3 : 0 ≤ g ∧ g ≤ 20000
      · have b3 := inB_yes a3
        by_cases a4 : b < a
        · have b4 : decide (b < a) = true := decide_eq_true a4
          go_wp2_with (go_at_call 68; refine (withinR_c _ _ _ _).mono ?_; rintro e w2 ⟨rfl, rfl⟩)
          go_ret
          exact ⟨ret_int (rulE_order a1 a2 a3 a4).symm, hW0⟩
        · have b4 : decide (b < a) = false := decide_eq_false a4
          go_wp2_with (go_at_call 68; refine (withinR_c _ _ _ _).mono ?_; rintro e w2 ⟨rfl, rfl⟩)
          go_ret
          exact ⟨ret_int (rulE_ok a1 a2 a3 (by omega)).symm, hW0⟩
      · have b3 := inB_no a3
        have A3 := Lib.hid a3
        clear a3
        go_wp2_with (go_at_call 68; refine (withinR_c _ _ _ _).mono ?_; rintro e w2 ⟨rfl, rfl⟩)
        go_ret
        exact ⟨ret_int (rulE_no fun h => A3.out h.2.2).symm, hW0⟩
    · have b2 := inB_no a2
      have A2 := Lib.hid a2
      clear a2
      go_wp2_with (go_at_call 68; refine (withinR_c _ _ _ _).mono ?_; rintro e w2 ⟨rfl, rfl⟩)
      go_ret
      exact ⟨ret_int (rulE_no fun h => A2.out h.2.1).symm, hW0⟩
  · have b1 := inB_no a1
    have A1 := Lib.hid a1
    clear a1
    go_wp2_with (go_at_call 68; refine (withinR_c _ _ _ _).mono ?_; rintro e w2 ⟨rfl, rfl⟩)
    go_ret
    exact ⟨ret_int (rulE_no fun h => A1.out h.1).symm, hW0⟩

set_option maxHeartbeats 1000000 in
theorem keepsTime_c (a b g x y : Int) (w : World) :
    Calls Try.prog 83 #[.agg #[I x, I y], .agg #[I a, I b, I g]] w fun e w' => e = .returned (I (verd a b x y)) ∧ Below w.heap.size w w' := by
  have hb0 : Bx ((w.alloc (.cells #[I x, I y] 27)).alloc (.cells #[I a, I b, I g] 54)) w.heap.size 27 #[I x, I y] := (Bx.new w 27 #[I x, I y]).alloc _
  have hb1 : Bx ((w.alloc (.cells #[I x, I y] 27)).alloc (.cells #[I a, I b, I g] 54)) (w.heap.size + 1) 54 #[I a, I b, I g] := Bx.new' _ _ _ _ (by simp)
  have hW0 : Below w.heap.size w ((w.alloc (.cells #[I x, I y] 27)).alloc (.cells #[I a, I b, I g] 54)) := ((Below.refl _ _).alloc (Nat.le_refl _) _).alloc (by simp) _
  have hc0 := hb0.cell
  have hc1 := hb1.cell
  go_enter Try.func83, Try.ntmps83
  by_cases q1 : a ≤ x
  · have b1 : decide (a ≤ x) = true := decide_eq_true (by omega)
    by_cases q2 : y ≤ b
    · have b2 : decide (y ≤ b) = true := decide_eq_true (by omega)
      go_wp2
      go_ret
      exact ⟨ret_int (verd_sure q1 q2).symm, hW0⟩
    · have b2 : decide (y ≤ b) = false := decide_eq_false (by omega)
      by_cases q3 : b < x
      · have b3 : decide (b < x) = true := decide_eq_true (by omega)
        go_wp2
        go_ret
        exact ⟨ret_int (verd_never (by omega) (by omega)).symm, hW0⟩
      · have b3 : decide (b < x) = false := decide_eq_false (by omega)
        by_cases q4 : y < a
        · omega
        · have b4 : decide (y < a) = false := decide_eq_false (by omega)
          go_wp2
          go_ret
          exact ⟨ret_int (verd_open (by omega) (by omega)).symm, hW0⟩
  · have b1 : decide (a ≤ x) = false := decide_eq_false (by omega)
    by_cases q3 : b < x
    · have b3 : decide (b < x) = true := decide_eq_true (by omega)
      go_wp2
      go_ret
      exact ⟨ret_int (verd_never (by omega) (by omega)).symm, hW0⟩
    · have b3 : decide (b < x) = false := decide_eq_false (by omega)
      by_cases q4 : y < a
      · have b4 : decide (y < a) = true := decide_eq_true (by omega)
        go_wp2
        go_ret
        exact ⟨ret_int (verd_never (by omega) (by omega)).symm, hW0⟩
      · have b4 : decide (y < a) = false := decide_eq_false (by omega)
        go_wp2
        go_ret
        exact ⟨ret_int (verd_open (by omega) (by omega)).symm, hW0⟩

set_option maxHeartbeats 1000000 in
theorem verdict_c (a b g x y : Int) (w : World) :
    Calls Try.prog 80 #[.agg #[I a, I b, I g], .agg #[I x, I y]] w fun e w' => e = .returned (I (verd a b x y)) ∧ Below w.heap.size w w' := by
  have hb0 : Bx ((w.alloc (.cells #[I a, I b, I g] 54)).alloc (.cells #[I x, I y] 27)) w.heap.size 54 #[I a, I b, I g] := (Bx.new w 54 #[I a, I b, I g]).alloc _
  have hb1 : Bx ((w.alloc (.cells #[I a, I b, I g] 54)).alloc (.cells #[I x, I y] 27)) (w.heap.size + 1) 27 #[I x, I y] := Bx.new' _ _ _ _ (by simp)
  have hW0 : Below w.heap.size w ((w.alloc (.cells #[I a, I b, I g] 54)).alloc (.cells #[I x, I y] 27)) := ((Below.refl _ _).alloc (Nat.le_refl _) _).alloc (by simp) _
  have hc0 := hb0.cell
  have hc1 := hb1.cell
  go_enter Try.func80, Try.ntmps80
  by_cases q1 : a ≤ x
  · have b1 : decide (a ≤ x) = true := decide_eq_true (by omega)
    by_cases q2 : y ≤ b
    · have b2 : decide (y ≤ b) = true := decide_eq_true (by omega)
      go_wp2
      go_ret
      exact ⟨ret_int (verd_sure q1 q2).symm, hW0⟩
    · have b2 : decide (y ≤ b) = false := decide_eq_false (by omega)
      by_cases q3 : y < a
      · have b3 : decide (y < a) = true := decide_eq_true (by omega)
        go_wp2
        go_ret
        exact ⟨ret_int (verd_never (by omega) (by omega)).symm, hW0⟩
      · have b3 : decide (y < a) = false := decide_eq_false (by omega)
        by_cases q4 : b < x
        · have b4 : decide (b < x) = true := decide_eq_true (by omega)
          go_wp2
          go_ret
          exact ⟨ret_int (verd_never (by omega) (by omega)).symm, hW0⟩
        · have b4 : decide (b < x) = false := decide_eq_false (by omega)
          go_wp2
          go_ret
          exact ⟨ret_int (verd_open (by omega) (by omega)).symm, hW0⟩
  · have b1 : decide (a ≤ x) = false := decide_eq_false (by omega)
    by_cases q3 : y < a
    · have b3 : decide (y < a) = true := decide_eq_true (by omega)
      go_wp2
      go_ret
      exact ⟨ret_int (verd_never (by omega) (by omega)).symm, hW0⟩
    · have b3 : decide (y < a) = false := decide_eq_false (by omega)
      by_cases q4 : b < x
      · have b4 : decide (b < x) = true := decide_eq_true (by omega)
        go_wp2
        go_ret
        exact ⟨ret_int (verd_never (by omega) (by omega)).symm, hW0⟩
      · have b4 : decide (b < x) = false := decide_eq_false (by omega)
        go_wp2
        go_ret
        exact ⟨ret_int (verd_open (by omega) (by omega)).symm, hW0⟩
end Go.Proofs.Ytnihkgdkdinliaa
