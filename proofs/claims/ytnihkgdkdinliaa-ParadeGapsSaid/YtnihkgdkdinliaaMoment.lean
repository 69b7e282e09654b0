/- The errors of a wing, and of a wing and a second. Own work; imports no translation. -/
import Derived.Test.YtnihkgdkdinliaaBetween
namespace Go.Proofs.Ytnihkgdkdinliaa
open Go.RowKit
set_option linter.unusedVariables false
set_option linter.unusedSimpArgs false

/-- The error of a school, starts and a wing; and of a second. -/
def wngE (r : Int) (ws : List Wg) (sts : List Int) (wing : Int) : Int := if cst r ws sts ≠ 0 then cst r ws sts else if 0 ≤ wing ∧ wing < ws.length then 0 else 7
def mom (r : Int) (ws : List Wg) (sts : List Int) (wing t : Int) : Int := if wngE r ws sts wing ≠ 0 then wngE r ws sts wing else if t < gI sts wing.toNat then 12 else if 100000 < t then 2 else 0

theorem wngE_st {r : Int} {ws : List Wg} {sts : List Int} {wing : Int} (h : cst r ws sts ≠ 0) : wngE r ws sts wing = cst r ws sts := by unfold wngE; rw [if_pos h]
theorem wngE_ok {r : Int} {ws : List Wg} {sts : List Int} {wing : Int} (h : cst r ws sts = 0) (h2 : 0 ≤ wing ∧ wing < ws.length) : wngE r ws sts wing = 0 := by unfold wngE; rw [if_neg (by simpa using h), if_pos h2]
theorem wngE_no {r : Int} {ws : List Wg} {sts : List Int} {wing : Int} (h : cst r ws sts = 0) (h2 : ¬ (0 ≤ wing ∧ wing < ws.length)) : wngE r ws sts wing = 7 := by unfold wngE; rw [if_neg (by simpa using h), if_neg h2]
theorem wngE_val {r : Int} {ws : List Wg} {sts : List Int} {wing : Int} (h : wngE r ws sts wing = 0) : cst r ws sts = 0 ∧ 0 ≤ wing ∧ wing < ws.length := by
  by_cases a : cst r ws sts = 0
  · by_cases b : 0 ≤ wing ∧ wing < ws.length
    · exact ⟨a, b⟩
    · rw [wngE_no a b] at h; exact absurd h (by decide)
  · rw [wngE_st a] at h; exact absurd h a
theorem mom_w {r : Int} {ws : List Wg} {sts : List Int} {wing t : Int} (h : wngE r ws sts wing ≠ 0) : mom r ws sts wing t = wngE r ws sts wing := by unfold mom; rw [if_pos h]
theorem mom_late {r : Int} {ws : List Wg} {sts : List Int} {k : Nat} {t : Int} (h : wngE r ws sts k = 0) (h2 : t < gI sts k) : mom r ws sts k t = 12 := by unfold mom; rw [if_neg (by simpa using h), Int.toNat_natCast, if_pos h2]
theorem mom_far {r : Int} {ws : List Wg} {sts : List Int} {k : Nat} {t : Int} (h : wngE r ws sts k = 0) (h2 : ¬ t < gI sts k) (h3 : 100000 < t) : mom r ws sts k t = 2 := by unfold mom; rw [if_neg (by simpa using h), Int.toNat_natCast, if_neg h2, if_pos h3]
theorem mom_ok {r : Int} {ws : List Wg} {sts : List Int} {k : Nat} {t : Int} (h : wngE r ws sts k = 0) (h2 : ¬ t < gI sts k) (h3 : ¬ 100000 < t) : mom r ws sts k t = 0 := by unfold mom; rw [if_neg (by simpa using h), Int.toNat_natCast, if_neg h2, if_neg h3]
theorem mom_val {r : Int} {ws : List Wg} {sts : List Int} {wing t : Int} (h : mom r ws sts wing t = 0) : wngE r ws sts wing = 0 ∧ gI sts wing.toNat ≤ t ∧ t ≤ 100000 := by
  unfold mom at h
  split at h
  · rename_i h0; exact absurd h h0
  · rename_i h0
    split at h
    · omega
    · split at h
      · omega
      · exact ⟨by simpa using h0, by omega, by omega⟩

set_option maxHeartbeats 400000 in
theorem isWing_c (r : Int) (A : Option Addr) (n c : Nat) (wing : Int) (w : World) (hn : n ≤ maxLen) :
    Calls Try.prog 75 #[.agg #[I r, .slice A n c], I wing] w fun e w' => e = .returned (.bool (decide (0 ≤ wing ∧ wing < n))) ∧ Below w.heap.size w w' := by
  have hb0 := Bx.new w 24 #[I r, .slice A n c]
  have hW0 : Below w.heap.size w (w.alloc (.cells #[I r, .slice A n c] 24)) := (Below.refl _ _).alloc (Nat.le_refl _) _
  have hcb := hb0.cell
  go_enter Try.func75, Try.ntmps75
  by_cases h : 0 ≤ wing
  · have h1 : decide (0 ≤ wing) = true := by simpa using h
    by_cases h2 : wing < n
    · have h3 : decide (wing < (n : Int)) = true := by simpa using h2
      go_wp2
      go_ret
      exact ⟨by simp [h, h2], hW0⟩
    · have h3 : decide (wing < (n : Int)) = false := by simpa using h2
      go_wp2
      go_ret
      exact ⟨by simp [h2], hW0⟩
  · have h1 : decide (0 ≤ wing) = false := by simpa using h
    go_wp2
    go_ret
    exact ⟨by simp [h], hW0⟩

theorem isW_yes {wing : Int} {n : Nat} (h : 0 ≤ wing ∧ wing < n) : decide (0 ≤ wing ∧ wing < (n : Int)) = true := decide_eq_true h
theorem isW_no {wing : Int} {n : Nat} (h : ¬ (0 ≤ wing ∧ wing < n)) : decide (0 ≤ wing ∧ wing < (n : Int)) = false := decide_eq_false h

section
variable (r : Int) (A B : Option Addr) (c d : Nat) (ws : List Wg) (sts : List Int) (T1 T2 : TypeId) (w : World) (h1 : SlW w T1 A ws) (h2 : SlI w T2 B sts) (hf : Fit ws) (hl1 : ws.length ≤ maxLen) (hc : ws.length ≤ c) (hl2 : sts.length ≤ maxLen) (hd : sts.length ≤ d)
include h1 h2 hf hl1 hc hl2 hd

set_option maxHeartbeats 1000000 in
theorem checkMoment_c (wing t : Int) :
    Calls Try.prog 70 #[.agg #[I r, .slice A ws.length c], .slice B sts.length d, I wing, I t] w fun e w' => e = .returned (I (mom r ws sts wing t)) ∧ Below w.heap.size w w' := by
  have hb0 := Bx.new w 24 #[I r, .slice A ws.length c]
  have hW0 : Below w.heap.size w (w.alloc (.cells #[I r, .slice A ws.length c] 24)) := (Below.refl _ _).alloc (Nat.le_refl _) _
  have hcb := hb0.cell
  have hl1' := hl1
  have hl2' := hl2
  unfold maxLen at hl1' hl2'
  by_cases a1 : cst r ws sts = 0
  · have hval := cst_val a1
    have hz : (cst r ws sts != 0) = false := by simp [a1]
    have A1 := Lib.hid a1
    clear a1
    go_enter Try.func70, Try.ntmps70
    go_wp2_with fail
    refine (checkStarts_c r _ B c d ws sts T1 T2 _ (h1.below hW0 (Nat.le_refl _)) (h2.below hW0 (Nat.le_refl _)) hf hl1 hc hl2 hd).mono ?_
    rintro e w1 ⟨rfl, hbw1⟩
    have hW1 := hW0.trans (hbw1.mono hW0.size)
    have hb1 := hb0.below hbw1 (by simp)
    clear hcb
    have hcb := hb1.cell
    by_cases a2 : 0 ≤ wing ∧ wing < ws.length
    · have b2 := isW_yes a2
      obtain ⟨k, rfl⟩ : ∃ k : Nat, wing = (k : Int) := ⟨wing.toNat, by omega⟩
      have A2 := Lib.hid a2
      have hlen := hval.len
      have Hlen := Lib.hid hlen
      have hks : k < sts.length := by omega
      have hks' : (k : Int) < sts.length := by omega
      clear hlen
      obtain ⟨b2', o2, rfl, hb2⟩ := SlI.some_ h2 hks
      go_wp2_with fail
      refine (isWing_c _ _ _ _ _ _ hl1).mono ?_
      rintro e w2 ⟨rfl, hbw2⟩
      have hW2 := hW1.trans (hbw2.mono hW1.size)
      have c1 := SlI.cellG (h2.below hW2 (Nat.le_refl _)) hks
      by_cases a3 : t < gI sts k
      · have b3 : decide (t < gI sts k) = true := decide_eq_true a3
        go_wp2
        go_ret
        exact ⟨ret_int ((mom_late (wngE_ok A1.out A2.out) a3).symm), hW2⟩
      · have b3 : decide (t < gI sts k) = false := decide_eq_false a3
        by_cases a4 : 100000 < t
        · have b4 : decide (100000 < t) = true := decide_eq_true a4
          go_wp2
          go_ret
          exact ⟨ret_int ((mom_far (wngE_ok A1.out A2.out) (by omega) (by omega)).symm), hW2⟩
        · have b4 : decide (100000 < t) = false := decide_eq_false a4
          go_wp2
          go_ret
          exact ⟨ret_int ((mom_ok (wngE_ok A1.out A2.out) (by omega) (by omega)).symm), hW2⟩
    · have b2 := isW_no a2
      have A2 := Lib.hid a2
      clear a2
      go_wp2_with fail
      refine (isWing_c _ _ _ _ _ _ hl1).mono ?_
      rintro e w2 ⟨rfl, hbw2⟩
      go_wp2
      go_ret
      exact ⟨ret_int (by rw [mom_w (by rw [wngE_no A1.out A2.out]; decide), wngE_no A1.out A2.out]), hW1.trans (hbw2.mono hW1.size)⟩
  · have hz : (cst r ws sts != 0) = true := by simp [a1]
    have A1 := Lib.hid a1
    clear a1
    go_enter Try.func70, Try.ntmps70
    go_wp2_with fail
    refine (checkStarts_c r _ B c d ws sts T1 T2 _ (h1.below hW0 (Nat.le_refl _)) (h2.below hW0 (Nat.le_refl _)) hf hl1 hc hl2 hd).mono ?_
    rintro e w1 ⟨rfl, hbw1⟩
    go_wp2
    go_ret
    exact ⟨ret_int (by rw [mom_w (by rw [wngE_st A1.out]; exact A1.out), wngE_st A1.out]), hW0.trans (hbw1.mono hW0.size)⟩

set_option maxHeartbeats 1000000 in
theorem checkWing2_c (wing : Int) :
    Calls Try.prog 77 #[.agg #[I r, .slice A ws.length c], .slice B sts.length d, I wing] w fun e w' => e = .returned (I (wngE r ws sts wing)) ∧ Below w.heap.size w w' := by
  have hb0 := Bx.new w 24 #[I r, .slice A ws.length c]
  have hW0 : Below w.heap.size w (w.alloc (.cells #[I r, .slice A ws.length c] 24)) := (Below.refl _ _).alloc (Nat.le_refl _) _
  have hcb := hb0.cell
  have hl1' := hl1
  have hl2' := hl2
  unfold maxLen at hl1' hl2'
  by_cases a1 : cst r ws sts = 0
  · have hval := cst_val a1
    have hz : (cst r ws sts != 0) = false := by simp [a1]
    have A1 := Lib.hid a1
    clear a1
    go_enter Try.func77, Try.ntmps77
    go_wp2_with fail
    refine (checkStartsR_c r _ B c d ws sts T1 T2 _ (h1.below hW0 (Nat.le_refl _)) (h2.below hW0 (Nat.le_refl _)) hf hl1 hc hl2 hd).mono ?_
    rintro e w1 ⟨rfl, hbw1⟩
    have hW1 := hW0.trans (hbw1.mono hW0.size)
    have hb1 := hb0.below hbw1 (by simp)
    clear hcb
    have hcb := hb1.cell
    by_cases a2 : 0 ≤ wing ∧ wing < ws.length
    · have b2 := inB_yes (l := 0) (n := wing) (m := (ws.length : Int) - 1) (by omega)
      have A2 := Lib.hid a2
      clear a2
      go_wp2_with fail
      refine (withinR_c _ _ _ _).mono ?_
      rintro e w2 ⟨rfl, rfl⟩
      go_wp2
      go_ret
      exact ⟨ret_int ((wngE_ok A1.out A2.out).symm), hW1⟩
    · have b2 := inB_no (l := 0) (n := wing) (m := (ws.length : Int) - 1) (by omega)
      have A2 := Lib.hid a2
      clear a2
      go_wp2_with fail
      refine (withinR_c _ _ _ _).mono ?_
      rintro e w2 ⟨rfl, rfl⟩
      go_wp2
      go_ret
      exact ⟨ret_int ((wngE_no A1.out A2.out).symm), hW1⟩
  · have hz : (cst r ws sts != 0) = true := by simp [a1]
    have A1 := Lib.hid a1
    clear a1
    go_enter Try.func77, Try.ntmps77
    go_wp2_with fail
    refine (checkStartsR_c r _ B c d ws sts T1 T2 _ (h1.below hW0 (Nat.le_refl _)) (h2.below hW0 (Nat.le_refl _)) hf hl1 hc hl2 hd).mono ?_
    rintro e w1 ⟨rfl, hbw1⟩
    go_wp2
    go_ret
    exact ⟨ret_int ((wngE_st A1.out).symm), hW0.trans (hbw1.mono hW0.size)⟩

set_option maxHeartbeats 1000000 in
theorem checkWhere_c (wing t : Int) :
    Calls Try.prog 74 #[.agg #[I r, .slice A ws.length c], .slice B sts.length d, I wing, I t] w fun e w' => e = .returned (I (mom r ws sts wing t)) ∧ Below w.heap.size w w' := by
  have hb0 := Bx.new w 24 #[I r, .slice A ws.length c]
  have hW0 : Below w.heap.size w (w.alloc (.cells #[I r, .slice A ws.length c] 24)) := (Below.refl _ _).alloc (Nat.le_refl _) _
  have hcb := hb0.cell
  have hl1' := hl1
  have hl2' := hl2
  unfold maxLen at hl1' hl2'
  by_cases a1 : wngE r ws sts wing = 0
  · have hz : (wngE r ws sts wing != 0) = false := by simp [a1]
    obtain ⟨a0, a2⟩ := wngE_val a1
    have hval := cst_val a0
    have A1 := Lib.hid a1
    clear a1 a0
    obtain ⟨k, rfl⟩ : ∃ k : Nat, wing = (k : Int) := ⟨wing.toNat, by omega⟩
    have hlen := hval.len
    have hks : k < sts.length := by omega
    have hks' : (k : Int) < sts.length := by omega
    clear hlen
    obtain ⟨b2', o2, rfl, hb2⟩ := SlI.some_ h2 hks
    go_enter Try.func74, Try.ntmps74
    go_wp2_with fail
    refine (checkWing2_c r _ _ c d ws sts T1 T2 _ (h1.below hW0 (Nat.le_refl _)) (h2.below hW0 (Nat.le_refl _)) hf hl1 hc hl2 hd _).mono ?_
    rintro e w1 ⟨rfl, hbw1⟩
    have hW1 := hW0.trans (hbw1.mono hW0.size)
    clear hcb
    have c1 := SlI.cellG (h2.below hW1 (Nat.le_refl _)) hks
    by_cases a3 : t < gI sts k
    · have b3 : decide (t < gI sts k) = true := decide_eq_true a3
      go_wp2
      go_ret
      exact ⟨ret_int ((mom_late A1.out a3).symm), hW1⟩
    · have b3 : decide (t < gI sts k) = false := decide_eq_false a3
      by_cases a4 : 100000 < t
      · have b4 : decide (100000 < t) = true := decide_eq_true a4
        go_wp2
        go_ret
        exact ⟨ret_int ((mom_far A1.out (by omega) (by omega)).symm), hW1⟩
      · have b4 : decide (100000 < t) = false := decide_eq_false a4
        go_wp2
        go_ret
        exact ⟨ret_int ((mom_ok A1.out (by omega) (by omega)).symm), hW1⟩
  · have hz : (wngE r ws sts wing != 0) = true := by simp [a1]
    have A1 := Lib.hid a1
    clear a1
    go_enter Try.func74, Try.ntmps74
    go_wp2_with fail
    refine (checkWing2_c r _ _ c d ws sts T1 T2 _ (h1.below hW0 (Nat.le_refl _)) (h2.below hW0 (Nat.le_refl _)) hf hl1 hc hl2 hd _).mono ?_
    rintro e w1 ⟨rfl, hbw1⟩
    go_wp2
    go_ret
    exact ⟨ret_int ((mom_w A1.out).symm), hW0.trans (hbw1.mono hW0.size)⟩
end
end Go.Proofs.Ytnihkgdkdinliaa
